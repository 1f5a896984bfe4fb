/- Operators' grammar: the specification's l04Of, l04Num, l13Call; lists written out whose elements' blocks lie anywhere. -/
import Derived.Test.YtbjkfecailnelaaO13E
namespace Go.Proofs.Ytbjkfecailnelaa
open Go.RowKit
set_option linter.unusedVariables false

set_option maxRecDepth 100000 in
theorem l04Of_any (a : Option Addr) (n c : Nat) (w : World) : Calls Try.prog 15 #[.slice a n c] w fun e w' => e = .returned (.agg #[.slice a n c]) ∧ Below w.heap.size w w' := by
  have HB : Hid (Below w.heap.size w (w.alloc (.cells #[.slice a n c] 47))) := (Below.refl _ _).alloc (Nat.le_refl _) _
  have c0 : (w.alloc (.cells #[.slice a n c] 47)).cell? ⟨w.heap.size, 0, none⟩ = some (.slice a n c) := run_cell (heap_alloc_new w _) rfl
  go_enter Try.func15, Try.ntmps15
  go_wp2
  refine bodyPost_ret (by simp [results, Try.results15, go_sem, c0]; try rfl) rfl ?_
  exact ⟨rfl, HB.out⟩

set_option maxHeartbeats 1600000 in
set_option maxRecDepth 100000 in
theorem l04Num_any (n : Int) (w : World) : Calls Try.prog 27 #[.int .i64 n] w fun e w' => ∃ (a : Option Addr) (c : Nat), e = .returned (.agg #[.slice a 1 c]) ∧ Below w.heap.size w w' ∧ RowF 4 51 NodeF (Nw w.heap.size w'.heap.size) (.slice a 1 c) [numD n] w' := by
  obtain ⟨A1, h1⟩ : ∃ W, W = w.alloc (.cells #[.slice none 0 0] 47) := ⟨_, rfl⟩
  obtain ⟨A2, h2⟩ : ∃ W, W = A1.alloc (.cells #[.int .i64 1, .int .i64 n, .string ⟨#[]⟩, .slice none 0 0] 51) := ⟨_, rfl⟩
  have z1 : A1.heap.size = w.heap.size + 1 := by rw [h1]; simp
  have z2 : A2.heap.size = w.heap.size + 2 := by rw [h2]; simp [z1]
  have r2 : RowF 4 51 NodeF (Nw (w.heap.size + 1) (w.heap.size + 2)) (.slice (some ⟨w.heap.size + 1, 0, none⟩) 1 1) [numD n] A2 := by
    have h := RowF.one (a := A1.heap.size) (w := A1) (T := 51) (x := numD n) (E := NodeF) (sz := 4) [.int .i64 1, .int .i64 n, .string ⟨#[]⟩, .slice none 0 0] #[.int .i64 1, .int .i64 n, .string ⟨#[]⟩, .slice none 0 0] (Nat.le_refl _) rfl stabNode rfl (NodeF.bare (numD n) rfl)
    rw [← h2, z1] at h
    exact h
  have hr : A2.heap[w.heap.size]? = some (.cells #[.slice none 0 0] 47 (0, 0)) := by rw [h2, Below.heap_alloc A1 _ _ (by omega), h1]; exact heap_alloc_new w _
  have HB : Hid (Below w.heap.size w A2) := by rw [h2]; exact Below.alloc (by rw [h1]; exact (Below.refl _ _).alloc (Nat.le_refl _) _) (by omega) _
  have HA : Hid (A2 = (w.alloc (.cells #[.slice none 0 0] 47)).alloc (.cells #[.int .i64 1, .int .i64 n, .string ⟨#[]⟩, .slice none 0 0] 51)) := by rw [Hid, h2, h1]
  have HR : Hid (_) := hr
  have HO : Hid (RowF 4 51 NodeF (Nw (w.heap.size + 1) (w.heap.size + 2)) (.slice (some ⟨w.heap.size + 1, 0, none⟩) 1 1) [numD n] A2) := r2
  have HZ : Hid (A2.heap.size = w.heap.size + 2) := z2
  clear h1 h2 z1 z2 r2 hr
  clear A1
  go_enter Try.func27, Try.ntmps27
  go_wp2_with fail
  rw [← HA.out]
  refine (l04Of_any (some ⟨w.heap.size + 1, 0, none⟩) 1 1 A2).mono ?_
  rintro e w3 ⟨rfl, hb3⟩
  have hz := HZ.out
  have hs3 := hb3.size
  have r3 : w3.heap[w.heap.size]? = some (.cells #[.slice none 0 0] 47 (0, 0)) := (hb3.block _ (by omega)).trans HR.out
  have t0 := run_cell (j := 0) r3 rfl
  have tf := run_frozen (j := 0) r3
  have z0 : (w3.setCell ⟨w.heap.size, 0, none⟩ (.slice (some ⟨w.heap.size + 1, 0, none⟩) 1 1)).cell? ⟨w.heap.size, 0, none⟩ = some (.slice (some ⟨w.heap.size + 1, 0, none⟩) 1 1) := run_cell (setCell_self (j := 0) _ r3) rfl
  have HBf : Hid (Below w.heap.size w (w3.setCell ⟨w.heap.size, 0, none⟩ (.slice (some ⟨w.heap.size + 1, 0, none⟩) 1 1))) := (HB.out.trans (hb3.mono HB.out.size)).setCell (Nat.le_refl _) _
  have HOf : Hid (RowF 4 51 NodeF (Nw w.heap.size (w3.setCell ⟨w.heap.size, 0, none⟩ (.slice (some ⟨w.heap.size + 1, 0, none⟩) 1 1)).heap.size) (.slice (some ⟨w.heap.size + 1, 0, none⟩) 1 1) [numD n] (w3.setCell ⟨w.heap.size, 0, none⟩ (.slice (some ⟨w.heap.size + 1, 0, none⟩) 1 1))) := by
    have hz9 : (w3.setCell ⟨w.heap.size, 0, none⟩ (.slice (some ⟨w.heap.size + 1, 0, none⟩) 1 1)).heap.size = w3.heap.size := by simp [World.setCell]
    exact ((HO.out.below stabNode hb3).ag stabNode ((Kp.store (F := fun q => q = w.heap.size) (w := w3) (o := 0) (u := .slice (some ⟨w.heap.size + 1, 0, none⟩) 1 1) rfl).ag (fun q hq e => by have := hq.1; omega))).up (fun q hq => ⟨by have := hq.1; omega, by have := hq.2; omega⟩)
  clear hb3 r3
  go_wp2
  refine bodyPost_ret (by simp [results, Try.results27, go_sem, z0]; try rfl) rfl ?_
  exact ⟨_, _, rfl, HBf.out, HOf.out⟩

set_option maxHeartbeats 1600000 in
set_option maxRecDepth 100000 in
theorem l13Call_any (n : Int) (w : World) : Calls Try.prog 16 #[.string ⟨#[69]⟩, .int .i64 n] w fun e w' => SyO (callD n) w e w' := by
  have HB : Hid (Below w.heap.size w (w.alloc (.cells #[.int .i64 0, .string ⟨#[]⟩, .slice none 0 0, .string ⟨#[]⟩] 54))) := (Below.refl _ _).alloc (Nat.le_refl _) _
  have HR : Hid ((w.alloc (.cells #[.int .i64 0, .string ⟨#[]⟩, .slice none 0 0, .string ⟨#[]⟩] 54)).heap[w.heap.size]? = some (.cells #[.int .i64 0, .string ⟨#[]⟩, .slice none 0 0, .string ⟨#[]⟩] 54 (0, 0))) := heap_alloc_new w _
  go_enter Try.func16, Try.ntmps16
  go_wp2_with fail
  generalize w.alloc (.cells #[.int .i64 0, .string ⟨#[]⟩, .slice none 0 0, .string ⟨#[]⟩] 54) = w1 at *
  refine (l04Num_any n w1).mono ?_
  rintro e w3 ⟨a3, c3, rfl, hb3, ho3⟩
  have hw1 : w.heap.size < w1.heap.size := (Array.getElem?_eq_some_iff.1 HR.out).1
  have hs3 := hb3.size
  obtain ⟨A4, h4⟩ : ∃ W, W = w3.alloc (.cells #[.slice a3 1 c3] 47) := ⟨_, rfl⟩
  have z4 : A4.heap.size = w3.heap.size + 1 := by rw [h4]; simp
  have b4 : Below w3.heap.size w3 A4 := by rw [h4]; exact (Below.refl _ _).alloc (Nat.le_refl _) _
  have r4 : RowF 1 47 ExprF (Nw w1.heap.size (w3.heap.size + 1)) (.slice (some ⟨w3.heap.size, 0, none⟩) 1 1) [[numD n]] A4 := by
    rw [h4]
    exact RowF.one [.slice a3 1 c3] _ hs3 rfl stabExpr rfl ⟨_, rfl, ho3⟩
  have hr : A4.heap[w.heap.size]? = some (.cells #[.int .i64 0, .string ⟨#[]⟩, .slice none 0 0, .string ⟨#[]⟩] 54 (0, 0)) := (b4.block _ (by omega)).trans ((hb3.block _ hw1).trans HR.out)
  have hb : Below w.heap.size w A4 := HB.out.trans ((hb3.trans (b4.mono hb3.size)).mono HB.out.size)
  obtain ⟨V, hV⟩ : ∃ V, V = ((((A4.setCell ⟨w.heap.size, 0, none⟩ (.int .i64 3)).setCell ⟨w.heap.size, 1, none⟩ (.string ⟨#[69]⟩)).setCell ⟨w.heap.size, 2, none⟩ (.slice (some ⟨w3.heap.size, 0, none⟩) 1 1)).setCell ⟨w.heap.size, 3, none⟩ (.string ⟨#[]⟩)) := ⟨_, rfl⟩
  have hz : V.heap[w.heap.size]? = some (.cells #[.int .i64 3, .string ⟨#[69]⟩, .slice (some ⟨w3.heap.size, 0, none⟩) 1 1, .string ⟨#[]⟩] 54 (0, 0)) := by
    rw [hV, setCell_self _ (setCell_self _ (setCell_self _ (setCell_self _ hr)))]
    rfl
  have k1 : Kp (fun q => q = w.heap.size) A4 V := by
    have st : ∀ (U : World) (j : Nat) (u : Value), Kp (fun q => q = w.heap.size) U (U.setCell ⟨w.heap.size, j, none⟩ u) := fun U j u => Kp.store rfl
    rw [hV]
    exact (((st _ _ _).trans (st _ _ _)).trans (st _ _ _)).trans (st _ _ _)
  have hks := k1.size
  have HBf : Hid (Below w.heap.size w V) := by
    rw [hV]
    exact (((hb.setCell (Nat.le_refl _) _).setCell (Nat.le_refl _) _).setCell (Nat.le_refl _) _).setCell (Nat.le_refl _) _
  have HOf : Hid (RowF 1 47 ExprF (Nw w.heap.size V.heap.size) (.slice (some ⟨w3.heap.size, 0, none⟩) 1 1) [[numD n]] V) := (r4.ag stabExpr (k1.ag (fun q hq e => by have := hq.1; omega))).up (fun q hq => ⟨by have := hq.1; omega, by have := hq.2; omega⟩)
  have x0 := run_cell (j := 0) hz rfl
  have x1 := run_cell (j := 1) hz rfl
  have x2 := run_cell (j := 2) hz rfl
  have x3 := run_cell (j := 3) hz rfl
  rw [h4] at hV hr
  have y0 := run_cell (j := 0) hr rfl
  have y1 := run_cell (j := 1) hr rfl
  have y2 := run_cell (j := 2) hr rfl
  have y3 := run_cell (j := 3) hr rfl
  have f0 := run_frozen (j := 0) hr
  have f1 := run_frozen (j := 1) hr
  have f2 := run_frozen (j := 2) hr
  have f3 := run_frozen (j := 3) hr
  have HV : Hid (V = _) := hV
  clear hV hz k1 hks hr hb b4 r4 z4 h4 hb3 ho3
  clear A4
  go_wp2
  rw [← HV.out]
  refine bodyPost_ret (by simp [results, Try.results16, go_sem, x0, x1, x2, x3]; try rfl) rfl ?_
  exact ⟨HBf.out, _, _, rfl, HOf.out⟩

/-- Four syms, the third with no list. -/
theorem alt_fourG {G F0 F1 F3 : Nat → Prop} {V : World} {x1 x2 x4 : SymD} {sg : ByteArray} {p1 p2 p4 : Option Addr} {c1 c2 c4 : Nat} (hg : G V.heap.size)
    (h0 : ∀ k, F0 k → G k ∧ k < V.heap.size) (h1 : ∀ k, F1 k → G k ∧ k < V.heap.size) (h3 : ∀ k, F3 k → G k ∧ k < V.heap.size) (d01 : ∀ k, F0 k → ¬ F1 k) (d03 : ∀ k, F0 k → ¬ F3 k) (d13 : ∀ k, F1 k → ¬ F3 k)
    (o1 : RowF 1 47 ExprF F0 (.slice p1 x1.args.length c1) x1.args V) (o2 : RowF 1 47 ExprF F1 (.slice p2 x2.args.length c2) x2.args V) (o4 : RowF 1 47 ExprF F3 (.slice p4 x4.args.length c4) x4.args V) (cs : Array Value)
    (hcs : cs.toList = [.int .i64 x1.kind, .string x1.text, .slice p1 x1.args.length c1, .string x1.bind, .int .i64 x2.kind, .string x2.text, .slice p2 x2.args.length c2, .string x2.bind, .int .i64 1, .string sg, .slice none 0 0, .string ⟨#[]⟩, .int .i64 x4.kind, .string x4.text, .slice p4 x4.args.length c4, .string x4.bind]) :
    RowF 4 54 SymF G (.slice (some ⟨V.heap.size, 0, none⟩) 4 4) [x1, x2, ⟨1, sg, [], ⟨#[]⟩⟩, x4] (V.alloc (.cells cs 54)) := by
  have bal := (Below.refl V.heap.size V).alloc (Nat.le_refl _) (.cells cs 54)
  have hcz : cs.size = 4 * 4 := by rw [← Array.length_toList, hcs]; rfl
  have hin : ∀ i k, (if i = 0 then F0 else if i = 1 then F1 else if i = 3 then F3 else fun _ => False) k → G k ∧ k < V.heap.size := fun i k hk => by
    split at hk
    · exact h0 k hk
    · split at hk
      · exact h1 k hk
      · split at hk
        · exact h3 k hk
        · exact hk.elim
  refine ⟨[[.int .i64 x1.kind, .string x1.text, .slice p1 x1.args.length c1, .string x1.bind], [.int .i64 x2.kind, .string x2.text, .slice p2 x2.args.length c2, .string x2.bind], [.int .i64 1, .string sg, .slice none 0 0, .string ⟨#[]⟩], [.int .i64 x4.kind, .string x4.text, .slice p4 x4.args.length c4, .string x4.bind]], fun i => if i = 0 then F0 else if i = 1 then F1 else if i = 3 then F3 else fun _ => False, rfl, ?_, ?_, ⟨fun k hk => ?_, fun k hk i hi => ?_, fun i k hk => (hin i k hk).1, fun i j k hne hi hj => ?_⟩, fun i h1' h2' => ?_⟩
  · intro vs hvs
    simp only [List.mem_cons, List.not_mem_nil, or_false] at hvs
    rcases hvs with rfl | rfl | rfl | rfl <;> rfl
  · have h := World.ownsRow_lit (base := 0) (e := 54) (size := 4) V cs 4 (Nat.zero_le _) (by decide) hcz
    rw [hcs] at h
    simpa using h
  · cases hk
    exact hg
  · cases hk
    have h3 : V.heap.size < V.heap.size := (hin i _ hi).2
    omega
  · split at hi
    · split at hj
      · omega
      · split at hj
        · exact d01 k hi hj
        · split at hj
          · exact d03 k hi hj
          · exact hj
    · split at hi
      · split at hj
        · exact d01 k hj hi
        · split at hj
          · omega
          · split at hj
            · exact d13 k hi hj
            · exact hj
      · split at hi
        · split at hj
          · exact d03 k hj hi
          · split at hj
            · exact d13 k hj hi
            · split at hj
              · omega
              · exact hj
        · exact hi
  · match i, h1' with
    | 0, _ => exact stabSym.ag _ _ _ _ _ ⟨_, rfl, o1⟩ (Ag.below bal)
    | 1, _ => exact stabSym.ag _ _ _ _ _ ⟨_, rfl, o2⟩ (Ag.below bal)
    | 2, _ => exact SymF.bare ⟨1, sg, [], ⟨#[]⟩⟩ rfl
    | 3, _ => exact stabSym.ag _ _ _ _ _ ⟨_, rfl, o4⟩ (Ag.below bal)
/-- The three rules, written out, their blocks anywhere. -/
theorem rules_threeG {G FS FE FA : Nat → Prop} {g : Nat} {V : World} {xs : List OpD} {us ue ua : Value} (hg : G V.heap.size) (hgg : G g ∧ g < V.heap.size) (hS : ∀ k, FS k → G k ∧ k < V.heap.size) (hE : ∀ k, FE k → G k ∧ k < V.heap.size) (hA : ∀ k, FA k → G k ∧ k < V.heap.size)
    (dSE : ∀ k, FS k → ¬ FE k) (dSA : ∀ k, FS k → ¬ FA k) (dEA : ∀ k, FE k → ¬ FA k) (gS : ¬ FS g) (gE : ¬ FE g) (gA : ¬ FA g)
    (oe : RowF 1 58 AltF FE ue (altsE xs) V) (os : RowF 1 58 AltF FS us [[callD 0]] V) (op : OwnB 0 (.slice (some ⟨g, 0, none⟩) 1 1) [pD] V) (oa : RowF 1 58 AltF FA ua altsA V) (cs : Array Value)
    (hcs : cs.toList = [.string sD, .slice none 0 0, us, .string eD, .slice (some ⟨g, 0, none⟩) 1 1, ue, .string aD, .slice none 0 0, ua]) :
    RowF 3 43 RuleF G (.slice (some ⟨V.heap.size, 0, none⟩) 3 3) (opsG xs) (V.alloc (.cells cs 43)) :=
  RowF.three (F0 := FS) (F1 := fun k => k = g ∨ FE k) (F2 := FA) [.string sD, .slice none 0 0, us] [.string eD, .slice (some ⟨g, 0, none⟩) 1 1, ue] [.string aD, .slice none 0 0, ua] cs ⟨rfl, rfl, rfl⟩ hcs stabRule hg hS (fun k hk => by rcases hk with rfl | hk; exact hgg; exact hE k hk) hA
    (fun k hk h => by rcases h with rfl | h; exact gS hk; exact dSE k hk h) dSA (fun k hk h => by rcases hk with rfl | hk; exact gA h; exact dEA k hk h)
    (RuleF.bare os) ⟨_, _, fun k => k = g, FE, rfl, op, fun k hk => by cases hk; rfl, oe, fun k hk => .inl hk, fun k hk => .inr hk, fun k hk h => by subst hk; exact gE h⟩ (RuleF.bare oa)
end Go.Proofs.Ytbjkfecailnelaa
