/- Operators' grammar: the specification's OpsGrammar (printed by mk/o13g.py). -/
import Derived.Test.YtbjkfecailnelaaO13F
import Derived.Test.YtbjkfecailnelaaOpS
import Derived.Deep.CutBlock
namespace Go.Proofs.Ytbjkfecailnelaa
open Go.RowKit
set_option linter.unusedVariables false

/-- A list of one, whose element's blocks lie anywhere. -/
theorem RowF.oneF {α : Type} {sz : Nat} {T : TypeId} {E : (Nat → Prop) → World → List Value → α → Prop} {w : World} {F0 : Nat → Prop} {x : α} (vs : List Value) (cs : Array Value) (hF : ∀ k, F0 k → k < w.heap.size) (hs : vs.length = sz) (hE : StabF E) (hcs : cs.toList = vs) (h : E F0 w vs x) :
    RowF sz T E (fun k => F0 k ∨ k = w.heap.size) (.slice (some ⟨w.heap.size, 0, none⟩) 1 1) [x] (w.alloc (.cells cs T)) := by
  have bal := (Below.refl w.heap.size w).alloc (Nat.le_refl _) (.cells cs T)
  have hcz : cs.size = 1 * sz := by rw [← Array.length_toList, hcs, hs]; omega
  have hin : ∀ i k, (if i = 0 then F0 else fun _ => False) k → F0 k := fun i k hk => by
    split at hk
    · exact hk
    · exact hk.elim
  refine ⟨[vs], fun i => if i = 0 then F0 else fun _ => False, rfl, fun u hu => by rw [List.mem_singleton.1 hu]; exact hs, ?_, ⟨fun k hk => by cases hk; exact .inr rfl, fun k hk i hi => ?_, fun i k hk => .inl (hin i k hk), fun i j k hne hi hj => ?_⟩, fun i h1 h2 => ?_⟩
  · have h1 := World.ownsRow_lit (base := 0) (e := T) (size := sz) w cs 1 (Nat.zero_le _) (by decide) hcz
    rw [hcs] at h1
    simpa using h1
  · cases hk
    have h3 : w.heap.size < w.heap.size := hF _ (hin i _ hi)
    omega
  · split at hi
    · split at hj
      · omega
      · exact hj
    · exact hi
  · obtain rfl : i = 0 := by simp at h1; omega
    exact hE.ag _ _ _ _ _ h (Ag.below bal)
def ifN (n : Int) : List NodeD := [numD n, ⟨2, 0, ⟨#[112]⟩, []⟩, ⟨8, 0, ⟨#[]⟩, [0, 1]⟩, ⟨11, 0, ⟨#[]⟩, [2]⟩]
/-- The nodes of what is asked. -/
theorem if_nodes (n : Int) (A1 : World) : RowF 4 51 NodeF (Nw A1.heap.size (A1.heap.size + 3)) (.slice (some ⟨A1.heap.size + 2, 0, none⟩) 4 4) [numD n, ⟨2, 0, ⟨#[112]⟩, []⟩, ⟨8, 0, ⟨#[]⟩, [0, 1]⟩, ⟨11, 0, ⟨#[]⟩, [2]⟩] (((A1.alloc (.cells #[.int .i64 0, .int .i64 1] 3)).alloc (.cells #[.int .i64 2] 3)).alloc (.cells #[.int .i64 1, .int .i64 n, .string ⟨#[]⟩, .slice none 0 0, .int .i64 2, .int .i64 0, .string ⟨#[112]⟩, .slice none 0 0, .int .i64 8, .int .i64 0, .string ⟨#[]⟩, .slice (some ⟨A1.heap.size, 0, none⟩) 2 2, .int .i64 11, .int .i64 0, .string ⟨#[]⟩, .slice (some ⟨A1.heap.size + 1, 0, none⟩) 1 1] 51)) := by
  obtain ⟨A2, h2⟩ : ∃ W, W = A1.alloc (.cells #[.int .i64 0, .int .i64 1] 3) := ⟨_, rfl⟩
  obtain ⟨A3, h3⟩ : ∃ W, W = A2.alloc (.cells #[.int .i64 2] 3) := ⟨_, rfl⟩
  have z2 : A2.heap.size = A1.heap.size + 1 := by rw [h2]; simp
  have z3 : A3.heap.size = A1.heap.size + 2 := by rw [h3]; simp [z2]
  have o2 : OwnZ A1.heap.size (.slice (some ⟨A1.heap.size, 0, none⟩) 2 2) [0, 1] A2 := by
    have h := ownZ_lit A1 [0, 1] #[.int .i64 0, .int .i64 1] rfl (by decide)
    rw [← h2] at h
    exact h
  have o3 : OwnZ A2.heap.size (.slice (some ⟨A1.heap.size + 1, 0, none⟩) 1 1) [2] A3 := by
    have h := ownZ_lit A2 [2] #[.int .i64 2] rfl (by decide)
    rw [← h3, z2] at h
    rw [z2]
    exact h
  have o23 : OwnZ A1.heap.size (.slice (some ⟨A1.heap.size, 0, none⟩) 2 2) [0, 1] A3 := by
    rw [h3]
    exact World.ownsRow.alloc o2 _
  rw [← h2, ← h3]
  have h := RowF.seq (w := A3) (T := 51) (xs := [numD n, ⟨2, 0, ⟨#[112]⟩, []⟩, ⟨8, 0, ⟨#[]⟩, [0, 1]⟩, ⟨11, 0, ⟨#[]⟩, [2]⟩]) (E := NodeF) (sz := 4) (a := A1.heap.size) (fun i => if i ≤ 2 then A1.heap.size else if i = 3 then A1.heap.size + 1 else A1.heap.size + 2)
    [[.int .i64 1, .int .i64 n, .string ⟨#[]⟩, .slice none 0 0], [.int .i64 2, .int .i64 0, .string ⟨#[112]⟩, .slice none 0 0], [.int .i64 8, .int .i64 0, .string ⟨#[]⟩, .slice (some ⟨A1.heap.size, 0, none⟩) 2 2], [.int .i64 11, .int .i64 0, .string ⟨#[]⟩, .slice (some ⟨A1.heap.size + 1, 0, none⟩) 1 1]]
    #[.int .i64 1, .int .i64 n, .string ⟨#[]⟩, .slice none 0 0, .int .i64 2, .int .i64 0, .string ⟨#[112]⟩, .slice none 0 0, .int .i64 8, .int .i64 0, .string ⟨#[]⟩, .slice (some ⟨A1.heap.size, 0, none⟩) 2 2, .int .i64 11, .int .i64 0, .string ⟨#[]⟩, .slice (some ⟨A1.heap.size + 1, 0, none⟩) 1 1]
    (fun i j hij => by repeat' split
                       all_goals omega) (by simp) (fun i => by rw [z3]; repeat' split
                                                               all_goals omega) rfl (by intro vs hvs; simp only [List.mem_cons, List.not_mem_nil, or_false] at hvs; rcases hvs with rfl | rfl | rfl | rfl <;> rfl) (by simp [maxLen]) stabNode rfl (fun i hi hi' => by
      match i, hi with
      | 0, _ => exact NodeF.bare (numD n) rfl
      | 1, _ => exact NodeF.bare ⟨2, 0, ⟨#[112]⟩, []⟩ rfl
      | 2, _ => exact ⟨_, rfl, own_baseO o23, fun k hk => by cases hk; exact ⟨Nat.le_refl _, Nat.lt_succ_self _⟩⟩
      | 3, _ => exact ⟨_, rfl, own_baseO o3, fun k hk => by cases hk; exact ⟨Nat.le_refl _, Nat.lt_succ_self _⟩⟩)
  rw [z3] at h
  exact h
/-- A sym's box written anew. -/
theorem sym_st {U : World} {Y : Nat} {o0 o1 o2 o3 u0 u1 u2 u3 : Value} (hr : U.heap[Y]? = some (.cells #[o0, o1, o2, o3] 54 (0, 0))) :
    ((((U.setCell ⟨Y, 0, none⟩ u0).setCell ⟨Y, 1, none⟩ u1).setCell ⟨Y, 2, none⟩ u2).setCell ⟨Y, 3, none⟩ u3).heap[Y]? = some (.cells #[u0, u1, u2, u3] 54 (0, 0)) ∧ Kp (fun q => q = Y) U ((((U.setCell ⟨Y, 0, none⟩ u0).setCell ⟨Y, 1, none⟩ u1).setCell ⟨Y, 2, none⟩ u2).setCell ⟨Y, 3, none⟩ u3) := by
  refine ⟨?_, ?_⟩
  · rw [setCell_self _ (setCell_self _ (setCell_self _ (setCell_self _ hr)))]
    rfl
  · have st : ∀ (U : World) (j : Nat) (u : Value), Kp (fun q => q = Y) U (U.setCell ⟨Y, j, none⟩ u) := fun U j u => Kp.store rfl
    exact (((st _ _ _).trans (st _ _ _)).trans (st _ _ _)).trans (st _ _ _)


set_option maxHeartbeats 12800000 in
set_option maxRecDepth 100000 in
theorem specOpsGrammar_any (v : Value) (xs : List OpD) (w : World) (hl : xs.length ≤ 1048576) (h : Ops w v xs) :
    Calls Try.prog 5 #[v] w fun e w' => GoO xs w e w' := by
  obtain ⟨k0, ki, kz0, kz1, kz2⟩ := info_parts Try.infoAltO
  have HR : Hid (Ops w v xs) := h
  have HOk : Hid (∀ W, Below w.heap.size w W → _) := fun W hb => specOpsOk_any v xs W hl (h.below hb)
  obtain ⟨a, cap, rfl⟩ := h.slice
  have HB0 : Hid (Below w.heap.size w (w.alloc (.cells #[.slice none 0 0] 26))) := (Below.refl _ _).alloc (Nat.le_refl _) _
  have HG0 : Hid ((w.alloc (.cells #[.slice none 0 0] 26)).heap[w.heap.size]? = some (.cells #[.slice none 0 0] 26 (0, 0))) := heap_alloc_new w _
  clear h
  cases hb : opsB xs with
  | false =>
    have HE : Hid (opsR xs = []) := by rw [Hid, opsR, hb]; rfl
    have HN : Hid (opsB xs = false) := hb
    rw [hb] at HOk
    clear hb
    go_enter Try.func5, Try.ntmps5
    go_wp2_with fail
    generalize w.alloc (.cells #[.slice none 0 0] 26) = w0 at *
    refine (HOk.out _ HB0.out).mono ?_
    rintro e w1 ⟨rfl, hb1⟩
    have r1 : w1.heap[w.heap.size]? = some (.cells #[.slice none 0 0] 26 (0, 0)) := (hb1.block _ (Array.getElem?_eq_some_iff.1 HG0.out).1).trans HG0.out
    have f1 := run_frozen (j := 0) r1
    have c1 := run_cell (j := 0) r1 rfl
    have z0 : (w1.setCell ⟨w.heap.size, 0, none⟩ (.slice none 0 0)).cell? ⟨w.heap.size, 0, none⟩ = some (.slice none 0 0) := run_cell (setCell_self (j := 0) _ r1) rfl
    have HB1 : Hid (Below w.heap.size w (w1.setCell ⟨w.heap.size, 0, none⟩ (.slice none 0 0))) := (HB0.out.trans (hb1.mono HB0.out.size)).setCell (Nat.le_refl _) _
    clear hb1 r1
    go_wp2
    refine bodyPost_ret (by simp [results, Try.results5, go_sem, z0]; try rfl) rfl ?_
    exact ⟨HB1.out, _, by rw [HN.out], by rw [HE.out]; exact RowF.nil⟩
  | true =>
    obtain ⟨⟨hl1, hl6⟩, hat⟩ := opsB_in hb
    have HAt : Hid (∀ i (hi : i < xs.length), (1 ≤ xs[i].level ∧ xs[i].level ≤ 9) ∧ xs[i].sign.size ≤ 1048576) := hat
    have HE : Hid (opsR xs = opsG xs) := by rw [Hid, opsR, if_pos hb]
    have HN : Hid (opsB xs = true) := hb
    rw [hb] at HOk
    clear hb hat
    go_enter Try.func5, Try.ntmps5
    go_wp2_with fail
    generalize w.alloc (.cells #[.slice none 0 0] 26) = w0 at *
    refine (HOk.out _ HB0.out).mono ?_
    rintro e w1 ⟨rfl, hb1⟩
    have hG1 : w1.heap[w.heap.size]? = some (.cells #[.slice none 0 0] 26 (0, 0)) := (hb1.block _ (Array.getElem?_eq_some_iff.1 HG0.out).1).trans HG0.out
    have hB1 : Below w.heap.size w w1 := HB0.out.trans (hb1.mono HB0.out.size)
    have hs1 : w.heap.size < w1.heap.size := (Array.getElem?_eq_some_iff.1 hG1).1
    obtain ⟨P1, e1⟩ : ∃ W, W = w1.alloc (.cells #[.string ⟨#[112]⟩] 9) := ⟨_, rfl⟩
    obtain ⟨W2, e2⟩ : ∃ W, W = P1.alloc (.cells #[.string ⟨#[69]⟩, .slice (some ⟨w1.heap.size, 0, none⟩) 1 1, .slice none 0 0] 43) := ⟨_, rfl⟩
    have z1 : P1.heap.size = w1.heap.size + 1 := by rw [e1]; simp
    have z2 : W2.heap.size = w1.heap.size + 2 := by rw [e2]; simp [z1]
    have q1 : Below w1.heap.size w1 P1 := by rw [e1]; exact (Below.refl _ _).alloc (Nat.le_refl _) _
    have q2 : Below P1.heap.size P1 W2 := by rw [e2]; exact (Below.refl _ _).alloc (Nat.le_refl _) _
    have q12 : Below w1.heap.size w1 W2 := q1.trans (q2.mono q1.size)
    have HP2 : Hid (OwnB 0 (.slice (some ⟨w1.heap.size, 0, none⟩) 1 1) [pD] W2) := by
      have h := World.ownsRow_lit (base := 0) (e := 9) (size := 1) w1 #[.string ⟨#[112]⟩] 1 (Nat.zero_le _) (by decide) rfl
      rw [← e1] at h
      rw [e2]
      exact World.ownsRow.alloc h _
    have HE2 : Hid (W2.heap[w1.heap.size + 1]? = some (.cells #[.string ⟨#[69]⟩, .slice (some ⟨w1.heap.size, 0, none⟩) 1 1, .slice none 0 0] 43 (0, 0))) := by rw [Hid, e2, ← z1]; exact heap_alloc_new P1 _
    have HG2 : Hid (W2.heap[w.heap.size]? = some (.cells #[.slice none 0 0] 26 (0, 0))) := (q12.block _ hs1).trans hG1
    have HB2 : Hid (Below w.heap.size w W2) := hB1.trans (q12.mono hB1.size)
    have HA2 : Hid (W2 = (w1.alloc (.cells #[.string ⟨#[112]⟩] 9)).alloc (.cells #[.string ⟨#[69]⟩, .slice (some ⟨w1.heap.size, 0, none⟩) 1 1, .slice none 0 0] 43)) := by rw [Hid, e2, e1]
    have HZ2 : Hid (W2.heap.size = w1.heap.size + 2) := z2
    have HH : Hid (w.heap.size < w1.heap.size) := hs1
    clear hb1 HOk HB0 HG0 hG1 hB1 hs1 e1 e2 z1 z2 q1 q2 q12
    clear P1
    go_upto_block 0 with fail
    rw [← HA2.out]
    clear HA2
    generalize w1.heap.size = B at *
    go_wp2
    go_loopw [5] (fun iv wr => ∃ (k : Nat) (av : Value), iv = .int .i64 (k : Int) ∧ k ≤ xs.length ∧ wr.heap[B + 1]? = some (.cells #[.string ⟨#[69]⟩, .slice (some ⟨B, 0, none⟩) 1 1, av] 43 (0, 0)) ∧ OwnB 0 (.slice (some ⟨B, 0, none⟩) 1 1) [pD] wr ∧ wr.heap[w.heap.size]? = some (.cells #[.slice none 0 0] 26 (0, 0)) ∧ RowF 1 58 AltF (Nw (B + 2) wr.heap.size) av ((xs.take k).map opAltD) wr ∧ Below w.heap.size w wr ∧ B + 2 ≤ wr.heap.size) (fun iv _ => xs.length - (intOf iv).toNat)
    case atStart => exact ⟨0, _, rfl, Nat.zero_le _, HE2.out, HP2.out, HG2.out, RowF.nil, HB2.out, Nat.le_of_eq HZ2.out.symm⟩
    case round =>
      clear HE2 HP2 HG2 HB2 HZ2
      obtain ⟨k, av, rfl, hk, hE0, hP0, hG0, ho0, hB0, hS0⟩ := hrel
      have hkl : ((xs.take k).map opAltD).length = k := by rw [List.length_map, List.length_take]; omega
      obtain ⟨ea, ec, rfl⟩ : ∃ ea ec, av = .slice ea k ec := by
        obtain ⟨ea, ec, e⟩ := ho0.slice
        exact ⟨ea, ec, by rw [e, hkl]⟩
      have HEr : Hid (wr.heap[B + 1]? = some (.cells #[.string ⟨#[69]⟩, .slice (some ⟨B, 0, none⟩) 1 1, .slice ea k ec] 43 (0, 0))) := hE0
      have HPr : Hid (OwnB 0 (.slice (some ⟨B, 0, none⟩) 1 1) [pD] wr) := hP0
      have HGr : Hid (wr.heap[w.heap.size]? = some (.cells #[.slice none 0 0] 26 (0, 0))) := hG0
      have HW : Hid (RowF 1 58 AltF (Nw (B + 2) wr.heap.size) (.slice ea k ec) ((xs.take k).map opAltD) wr) := ho0
      have HBr : Hid (Below w.heap.size w wr) := hB0
      have HSr : Hid (B + 2 ≤ wr.heap.size) := hS0
      have HKl : Hid (((xs.take k).map opAltD).length = k) := hkl
      have hne : ∀ q, (Value.slice ea k ec).ownBlock = some q → B + 2 ≤ q ∧ q < wr.heap.size := fun q hq => (HW.out.lt q hq).1
      clear hE0 hP0 hG0 ho0 hB0 hS0 hkl
      by_cases hlt : k < xs.length
      · have HRr : Hid (Ops wr (.slice a xs.length cap) xs) := HR.out.below HBr.out
        obtain ⟨b, off, rfl, n0, n1, n2⟩ := HRr.out.at hlt
        have i4 : (k : Int) < (xs.length : Int) := by omega
        obtain ⟨⟨hv1, hv2⟩, hsz⟩ := HAt.out k hlt
        have HNx : Hid ((xs.take (k + 1)).map opAltD = (xs.take k).map opAltD ++ [opAltD xs[k]]) := by rw [Hid, List.take_succ_eq_append_getElem hlt, List.map_append]; rfl
        obtain ⟨A1, h1⟩ : ∃ W, W = wr.alloc (.cells #[.string xs[k].sign, .int .i64 xs[k].level, .bool xs[k].right] 44) := ⟨_, rfl⟩
        obtain ⟨A4, h4⟩ : ∃ W, W = ((A1.alloc (.cells #[.int .i64 0, .int .i64 1] 3)).alloc (.cells #[.int .i64 2] 3)).alloc (.cells #[.int .i64 1, .int .i64 xs[k].level, .string ⟨#[]⟩, .slice none 0 0, .int .i64 2, .int .i64 0, .string ⟨#[112]⟩, .slice none 0 0, .int .i64 8, .int .i64 0, .string ⟨#[]⟩, .slice (some ⟨wr.heap.size + 1, 0, none⟩) 2 2, .int .i64 11, .int .i64 0, .string ⟨#[]⟩, .slice (some ⟨wr.heap.size + 2, 0, none⟩) 1 1] 51) := ⟨_, rfl⟩
        have z1 : A1.heap.size = wr.heap.size + 1 := by rw [h1]; simp
        have z4 : A4.heap.size = wr.heap.size + 4 := by rw [h4]; simp [z1]
        have qn : RowF 4 51 NodeF (Nw (wr.heap.size + 1) (wr.heap.size + 4)) (.slice (some ⟨wr.heap.size + 3, 0, none⟩) 4 4) [numD xs[k].level, ⟨2, 0, ⟨#[112]⟩, []⟩, ⟨8, 0, ⟨#[]⟩, [0, 1]⟩, ⟨11, 0, ⟨#[]⟩, [2]⟩] A4 := by
          have h := if_nodes xs[k].level A1
          rw [z1] at h
          rw [h4]
          exact h
        have q1 : Below wr.heap.size wr A1 := by rw [h1]; exact (Below.refl _ _).alloc (Nat.le_refl _) _
        have q4 : Below A1.heap.size A1 A4 := by rw [h4]; exact (((Below.refl _ _).alloc (Nat.le_refl _) _).alloc (by simp) _).alloc (by simp; omega) _
        have HX4 : Hid (A4.heap[wr.heap.size]? = some (.cells #[.string xs[k].sign, .int .i64 xs[k].level, .bool xs[k].right] 44 (0, 0))) := by rw [Hid, q4.block _ (by omega), h1]; exact heap_alloc_new wr _
        have HB4 : Hid (Below wr.heap.size wr A4) := q1.trans (q4.mono q1.size)
        have HN4 : Hid (RowF 4 51 NodeF (Nw (wr.heap.size + 1) (wr.heap.size + 4)) (.slice (some ⟨wr.heap.size + 3, 0, none⟩) 4 4) [numD xs[k].level, ⟨2, 0, ⟨#[112]⟩, []⟩, ⟨8, 0, ⟨#[]⟩, [0, 1]⟩, ⟨11, 0, ⟨#[]⟩, [2]⟩] A4 ∧ A4.heap.size = wr.heap.size + 4) := ⟨qn, z4⟩
        have HA4 : Hid (A4 = (((wr.alloc (.cells #[.string xs[k].sign, .int .i64 xs[k].level, .bool xs[k].right] 44)).alloc (.cells #[.int .i64 0, .int .i64 1] 3)).alloc (.cells #[.int .i64 2] 3)).alloc (.cells #[.int .i64 1, .int .i64 xs[k].level, .string ⟨#[]⟩, .slice none 0 0, .int .i64 2, .int .i64 0, .string ⟨#[112]⟩, .slice none 0 0, .int .i64 8, .int .i64 0, .string ⟨#[]⟩, .slice (some ⟨wr.heap.size + 1, 0, none⟩) 2 2, .int .i64 11, .int .i64 0, .string ⟨#[]⟩, .slice (some ⟨wr.heap.size + 2, 0, none⟩) 1 1] 51)) := by rw [Hid, h4, h1]
        clear h1 h4 z1 z4 qn q1 q4
        clear A1
        go_wp2_with fail
        simp only [Nat.add_assoc, Nat.reduceAdd]
        rw [← HA4.out]
        refine (l04Of_any (some ⟨wr.heap.size + 3, 0, none⟩) 4 4 A4).mono ?_
        rintro e w5 ⟨rfl, hb5⟩
        obtain ⟨hqn, hz4⟩ := HN4.out
        have hs5 := hb5.size
        have q6 : Below w5.heap.size w5 (w5.alloc (.cells #[.slice (some ⟨wr.heap.size + 3, 0, none⟩) 4 4] 47)) := (Below.refl _ _).alloc (Nat.le_refl _) _
        have q46 : Below A4.heap.size A4 (w5.alloc (.cells #[.slice (some ⟨wr.heap.size + 3, 0, none⟩) 4 4] 47)) := hb5.trans (q6.mono hb5.size)
        have HY7 : Hid ((w5.alloc (.cells #[.slice (some ⟨wr.heap.size + 3, 0, none⟩) 4 4] 47)).heap[w5.heap.size]? = some (.cells #[.slice (some ⟨wr.heap.size + 3, 0, none⟩) 4 4] 47 (0, 0))) := heap_alloc_new w5 _
        have HX6 : Hid ((w5.alloc (.cells #[.slice (some ⟨wr.heap.size + 3, 0, none⟩) 4 4] 47)).heap[wr.heap.size]? = some (.cells #[.string xs[k].sign, .int .i64 xs[k].level, .bool xs[k].right] 44 (0, 0))) := (q46.block _ (by omega)).trans HX4.out
        have HN6 : Hid (RowF 4 51 NodeF (Nw (wr.heap.size + 1) (wr.heap.size + 4)) (.slice (some ⟨wr.heap.size + 3, 0, none⟩) 4 4) (ifN xs[k].level) (w5.alloc (.cells #[.slice (some ⟨wr.heap.size + 3, 0, none⟩) 4 4] 47))) := hqn.below stabNode q46
        have HB6 : Hid (Below wr.heap.size wr (w5.alloc (.cells #[.slice (some ⟨wr.heap.size + 3, 0, none⟩) 4 4] 47))) := HB4.out.trans (q46.mono HB4.out.size)
        have HZ6 : Hid (wr.heap.size + 4 ≤ w5.heap.size) := by rw [Hid]; omega
        have x1 := run_cell (j := 1) HX6.out rfl
        clear hqn hz4 hs5 q6 q46 hb5 HX4 HN4 HB4 HA4
        clear A4
        go_wp2_with fail
        generalize w5.alloc (.cells #[.slice (some ⟨wr.heap.size + 3, 0, none⟩) 4 4] 47) = A6 at *
        generalize w5.heap.size = Y7 at *
        refine (l13Call_any xs[k].level A6).mono ?_
        rintro e w6 ⟨hb6, a6, c6, rfl, ho6⟩
        have hY7 : Y7 < A6.heap.size := (Array.getElem?_eq_some_iff.1 HY7.out).1
        have hz6 := HZ6.out
        have hs6 := hb6.size
        have q7 : Below w6.heap.size w6 (w6.alloc (.cells #[.int .i64 (callD xs[k].level).kind, .string (callD xs[k].level).text, .slice a6 (callD xs[k].level).args.length c6, .string (callD xs[k].level).bind] 54)) := (Below.refl _ _).alloc (Nat.le_refl _) _
        have q67 : Below A6.heap.size A6 (w6.alloc (.cells #[.int .i64 (callD xs[k].level).kind, .string (callD xs[k].level).text, .slice a6 (callD xs[k].level).args.length c6, .string (callD xs[k].level).bind] 54)) := hb6.trans (q7.mono hb6.size)
        have HY8 : Hid ((w6.alloc (.cells #[.int .i64 (callD xs[k].level).kind, .string (callD xs[k].level).text, .slice a6 (callD xs[k].level).args.length c6, .string (callD xs[k].level).bind] 54)).heap[w6.heap.size]? = some (.cells #[.int .i64 (callD xs[k].level).kind, .string (callD xs[k].level).text, .slice a6 (callD xs[k].level).args.length c6, .string (callD xs[k].level).bind] 54 (0, 0))) := heap_alloc_new w6 _
        have HY77 : Hid ((w6.alloc (.cells #[.int .i64 (callD xs[k].level).kind, .string (callD xs[k].level).text, .slice a6 (callD xs[k].level).args.length c6, .string (callD xs[k].level).bind] 54)).heap[Y7]? = some (.cells #[.slice (some ⟨wr.heap.size + 3, 0, none⟩) 4 4] 47 (0, 0))) := (q67.block _ hY7).trans HY7.out
        have HX7 : Hid ((w6.alloc (.cells #[.int .i64 (callD xs[k].level).kind, .string (callD xs[k].level).text, .slice a6 (callD xs[k].level).args.length c6, .string (callD xs[k].level).bind] 54)).heap[wr.heap.size]? = some (.cells #[.string xs[k].sign, .int .i64 xs[k].level, .bool xs[k].right] 44 (0, 0))) := (q67.block _ (by omega)).trans HX6.out
        have HN7 : Hid (RowF 4 51 NodeF (Nw (wr.heap.size + 1) (wr.heap.size + 4)) (.slice (some ⟨wr.heap.size + 3, 0, none⟩) 4 4) (ifN xs[k].level) (w6.alloc (.cells #[.int .i64 (callD xs[k].level).kind, .string (callD xs[k].level).text, .slice a6 (callD xs[k].level).args.length c6, .string (callD xs[k].level).bind] 54))) := HN6.out.below stabNode q67
        have HB7 : Hid (Below wr.heap.size wr (w6.alloc (.cells #[.int .i64 (callD xs[k].level).kind, .string (callD xs[k].level).text, .slice a6 (callD xs[k].level).args.length c6, .string (callD xs[k].level).bind] 54))) := HB6.out.trans (q67.mono HB6.out.size)
        have HO7 : Hid (RowF 1 47 ExprF (Nw A6.heap.size w6.heap.size) (.slice a6 (callD xs[k].level).args.length c6) (callD xs[k].level).args (w6.alloc (.cells #[.int .i64 (callD xs[k].level).kind, .string (callD xs[k].level).text, .slice a6 (callD xs[k].level).args.length c6, .string (callD xs[k].level).bind] 54))) := ho6.below stabExpr q7
        have HZ7 : Hid (wr.heap.size + 4 ≤ Y7 ∧ Y7 < A6.heap.size ∧ A6.heap.size ≤ w6.heap.size) := ⟨hz6, hY7, hs6⟩
        have x1 := run_cell (j := 1) HX7.out rfl
        clear hz6 hs6 hY7 q7 q67 hb6 ho6 HX6 HN6 HB6 HZ6 HY7
        go_wp2_with fail
        generalize w6.alloc (.cells #[.int .i64 (callD xs[k].level).kind, .string (callD xs[k].level).text, .slice a6 (callD xs[k].level).args.length c6, .string (callD xs[k].level).bind] 54) = A7 at *
        generalize w6.heap.size = Y8 at *
        generalize A6.heap.size = S6 at *
        refine (l13Call_any (xs[k].level + 1) A7).mono ?_
        rintro e w8 ⟨hb8, a8, c8, rfl, ho8⟩
        have hY8 : Y8 < A7.heap.size := (Array.getElem?_eq_some_iff.1 HY8.out).1
        obtain ⟨hz1, hz2, hz3⟩ := HZ7.out
        have hs8 := hb8.size
        obtain ⟨A9, hA9⟩ : ∃ W, W = w8.alloc (.cells #[.int .i64 (callD (xs[k].level + 1)).kind, .string (callD (xs[k].level + 1)).text, .slice a8 (callD (xs[k].level + 1)).args.length c8, .string (callD (xs[k].level + 1)).bind] 54) := ⟨_, rfl⟩
        have z9 : A9.heap.size = w8.heap.size + 1 := by rw [hA9]; simp
        have q9 : Below w8.heap.size w8 A9 := by rw [hA9]; exact (Below.refl _ _).alloc (Nat.le_refl _) _
        have q79 : Below A7.heap.size A7 A9 := hb8.trans (q9.mono hb8.size)
        have HY9 : Hid (A9.heap[w8.heap.size]? = some (.cells #[.int .i64 (callD (xs[k].level + 1)).kind, .string (callD (xs[k].level + 1)).text, .slice a8 (callD (xs[k].level + 1)).args.length c8, .string (callD (xs[k].level + 1)).bind] 54 (0, 0))) := by rw [Hid, hA9]; exact heap_alloc_new w8 _
        have HY88 : Hid (A9.heap[Y8]? = some (.cells #[.int .i64 (callD xs[k].level).kind, .string (callD xs[k].level).text, .slice a6 (callD xs[k].level).args.length c6, .string (callD xs[k].level).bind] 54 (0, 0))) := (q79.block _ hY8).trans HY8.out
        have HY79 : Hid (A9.heap[Y7]? = some (.cells #[.slice (some ⟨wr.heap.size + 3, 0, none⟩) 4 4] 47 (0, 0))) := (q79.block _ (by omega)).trans HY77.out
        have HX9 : Hid (A9.heap[wr.heap.size]? = some (.cells #[.string xs[k].sign, .int .i64 xs[k].level, .bool xs[k].right] 44 (0, 0))) := (q79.block _ (by omega)).trans HX7.out
        have HN9 : Hid (RowF 4 51 NodeF (Nw (wr.heap.size + 1) (wr.heap.size + 4)) (.slice (some ⟨wr.heap.size + 3, 0, none⟩) 4 4) (ifN xs[k].level) A9) := HN7.out.below stabNode q79
        have HB9 : Hid (Below wr.heap.size wr A9) := HB7.out.trans (q79.mono HB7.out.size)
        have HO9 : Hid (RowF 1 47 ExprF (Nw S6 Y8) (.slice a6 (callD xs[k].level).args.length c6) (callD xs[k].level).args A9) := HO7.out.below stabExpr q79
        have HO8 : Hid (RowF 1 47 ExprF (Nw A7.heap.size w8.heap.size) (.slice a8 (callD (xs[k].level + 1)).args.length c8) (callD (xs[k].level + 1)).args A9) := ho8.below stabExpr q9
        have HZ9 : Hid (wr.heap.size + 4 ≤ Y7 ∧ Y7 < S6 ∧ S6 ≤ Y8 ∧ Y8 < A7.heap.size ∧ A7.heap.size ≤ w8.heap.size ∧ A9.heap.size = w8.heap.size + 1) := ⟨hz1, hz2, hz3, hY8, hs8, z9⟩
        have HA9 : Hid (A9 = w8.alloc (.cells #[.int .i64 (callD (xs[k].level + 1)).kind, .string (callD (xs[k].level + 1)).text, .slice a8 (callD (xs[k].level + 1)).args.length c8, .string (callD (xs[k].level + 1)).bind] 54)) := hA9
        clear hz1 hz2 hz3 hs8 hY8 z9 q9 q79 hb8 ho8 HX7 HN7 HB7 HZ7 HY8 HY77 HO7 hA9 x1
        have x2 := run_cell (j := 2) HX9.out rfl
        rw [HA9.out] at x2
        go_upto_if 46 with fail
        rw [← HA9.out]
        rw [← HA9.out] at x2
        go_cut [5] from 18 to 68 (fun s5 wx => s5 = .int .i64 (k : Int) ∧ ∃ (a2 : Option Addr) (c2 : Nat) (a4 : Option Addr) (c4 : Nat) (F1 F3 : Nat → Prop), wx.heap[Y8]? = some (.cells #[.int .i64 (callD (if xs[k].right = true then xs[k].level + 1 else xs[k].level)).kind, .string (callD (if xs[k].right = true then xs[k].level + 1 else xs[k].level)).text, .slice a2 (callD (if xs[k].right = true then xs[k].level + 1 else xs[k].level)).args.length c2, .string (callD (if xs[k].right = true then xs[k].level + 1 else xs[k].level)).bind] 54 (0, 0)) ∧ wx.heap[w8.heap.size]? = some (.cells #[.int .i64 (callD (if xs[k].right = true then xs[k].level else xs[k].level + 1)).kind, .string (callD (if xs[k].right = true then xs[k].level else xs[k].level + 1)).text, .slice a4 (callD (if xs[k].right = true then xs[k].level else xs[k].level + 1)).args.length c4, .string (callD (if xs[k].right = true then xs[k].level else xs[k].level + 1)).bind] 54 (0, 0)) ∧ RowF 1 47 ExprF F1 (.slice a2 (callD (if xs[k].right = true then xs[k].level + 1 else xs[k].level)).args.length c2) (callD (if xs[k].right = true then xs[k].level + 1 else xs[k].level)).args wx ∧ RowF 1 47 ExprF F3 (.slice a4 (callD (if xs[k].right = true then xs[k].level else xs[k].level + 1)).args.length c4) (callD (if xs[k].right = true then xs[k].level else xs[k].level + 1)).args wx ∧ (∀ q, F1 q → wr.heap.size + 4 ≤ q ∧ q < wx.heap.size) ∧ (∀ q, F3 q → wr.heap.size + 4 ≤ q ∧ q < wx.heap.size) ∧ (∀ q, F1 q → ¬ F3 q) ∧ Kp (fun q => q = Y8 ∨ q = w8.heap.size) A9 wx)
        case first =>
          obtain ⟨hz1, hz2, hz3, hz4, hz5, hz6⟩ := HZ9.out
          have x1 := run_cell (j := 1) HX9.out rfl
          cases hrt : xs[k].right with
          | false =>
            clear x2
            have hXA : callD (if xs[k].right = true then xs[k].level + 1 else xs[k].level) = callD xs[k].level := by rw [hrt]; rfl
            have hXB : callD (if xs[k].right = true then xs[k].level else xs[k].level + 1) = callD (xs[k].level + 1) := by rw [hrt]; rfl
            go_wp2_with fail
            go_meet
            refine ⟨rfl, a6, c6, a8, c8, Nw S6 Y8, Nw A7.heap.size w8.heap.size, ?_, ?_, ?_, ?_, fun q hq => ⟨by have := hq.1; omega, by have := hq.2; omega⟩, fun q hq => ⟨by have := hq.1; omega, by have := hq.2; omega⟩, fun q hq h => by have := hq.2; have := h.1; omega, Kp.below (Below.refl _ _)⟩
            · rw [hXA]; exact HY88.out
            · rw [hXB]; exact HY9.out
            · rw [hXA]; exact HO9.out
            · rw [hXB]; exact HO8.out
          | true =>
            clear x2
            have hXA : callD (if xs[k].right = true then xs[k].level + 1 else xs[k].level) = callD (xs[k].level + 1) := by rw [hrt]; rfl
            have hXB : callD (if xs[k].right = true then xs[k].level else xs[k].level + 1) = callD xs[k].level := by rw [hrt]; rfl
            go_wp2_with fail
            refine (l13Call_any (xs[k].level + 1) A9).mono ?_
            rintro e w10 ⟨hb10, a10, c10, rfl, ho10⟩
            have hs10 := hb10.size
            have y8 : w10.heap[Y8]? = some (.cells #[.int .i64 (callD xs[k].level).kind, .string (callD xs[k].level).text, .slice a6 (callD xs[k].level).args.length c6, .string (callD xs[k].level).bind] 54 (0, 0)) := (hb10.block _ (by omega)).trans HY88.out
            have g0 := run_cell (j := 0) y8 rfl
            have g1 := run_cell (j := 1) y8 rfl
            have g2 := run_cell (j := 2) y8 rfl
            have g3 := run_cell (j := 3) y8 rfl
            have f0 := run_frozen (j := 0) y8
            have f1 := run_frozen (j := 1) y8
            have f2 := run_frozen (j := 2) y8
            have f3 := run_frozen (j := 3) y8
            obtain ⟨U, hU⟩ : ∃ U, U = ((((w10.setCell ⟨Y8, 0, none⟩ (.int .i64 (callD (xs[k].level + 1)).kind)).setCell ⟨Y8, 1, none⟩ (.string (callD (xs[k].level + 1)).text)).setCell ⟨Y8, 2, none⟩ (.slice a10 (callD (xs[k].level + 1)).args.length c10)).setCell ⟨Y8, 3, none⟩ (.string (callD (xs[k].level + 1)).bind)) := ⟨_, rfl⟩
            obtain ⟨s8, k8⟩ := sym_st (u0 := .int .i64 (callD (xs[k].level + 1)).kind) (u1 := .string (callD (xs[k].level + 1)).text) (u2 := .slice a10 (callD (xs[k].level + 1)).args.length c10) (u3 := .string (callD (xs[k].level + 1)).bind) y8
            rw [← hU] at s8 k8
            have HU : Hid (U = _) := hU
            have hs11 := k8.size
            have x1' := run_cell (j := 1) ((k8.block wr.heap.size (by omega) (by omega)).trans ((hb10.block _ (by omega)).trans HX9.out)) rfl
            rw [hU] at x1'
            clear hU x1
            go_wp2_with fail
            rw [← HU.out]
            refine (l13Call_any xs[k].level U).mono ?_
            rintro e w11 ⟨hb11, a11, c11, rfl, ho11⟩
            have hs12 := hb11.size
            have y9 : w11.heap[w8.heap.size]? = some (.cells #[.int .i64 (callD (xs[k].level + 1)).kind, .string (callD (xs[k].level + 1)).text, .slice a8 (callD (xs[k].level + 1)).args.length c8, .string (callD (xs[k].level + 1)).bind] 54 (0, 0)) := (hb11.block _ (by omega)).trans ((k8.block _ (by omega) (by omega)).trans ((hb10.block _ (by omega)).trans HY9.out))
            have g0' := run_cell (j := 0) y9 rfl
            have g1' := run_cell (j := 1) y9 rfl
            have g2' := run_cell (j := 2) y9 rfl
            have g3' := run_cell (j := 3) y9 rfl
            have f0' := run_frozen (j := 0) y9
            have f1' := run_frozen (j := 1) y9
            have f2' := run_frozen (j := 2) y9
            have f3' := run_frozen (j := 3) y9
            obtain ⟨V, hV⟩ : ∃ V, V = ((((w11.setCell ⟨w8.heap.size, 0, none⟩ (.int .i64 (callD xs[k].level).kind)).setCell ⟨w8.heap.size, 1, none⟩ (.string (callD xs[k].level).text)).setCell ⟨w8.heap.size, 2, none⟩ (.slice a11 (callD xs[k].level).args.length c11)).setCell ⟨w8.heap.size, 3, none⟩ (.string (callD xs[k].level).bind)) := ⟨_, rfl⟩
            obtain ⟨s9, k9⟩ := sym_st (u0 := .int .i64 (callD xs[k].level).kind) (u1 := .string (callD xs[k].level).text) (u2 := .slice a11 (callD xs[k].level).args.length c11) (u3 := .string (callD xs[k].level).bind) y9
            rw [← hV] at s9 k9
            have HV : Hid (V = _) := hV
            have hs13 := k9.size
            clear hV g0 g1 g2 g3 f0 f1 f2 f3 x1'
            go_wp2_with fail
            rw [← HV.out]
            go_meet
            refine ⟨rfl, a10, c10, a11, c11, Nw A9.heap.size w10.heap.size, Nw U.heap.size w11.heap.size, ?_, ?_, ?_, ?_, fun q hq => ⟨by have := hq.1; omega, by have := hq.2; omega⟩, fun q hq => ⟨by have := hq.1; omega, by have := hq.2; omega⟩, fun q hq h => by have := hq.2; have := h.1; omega, ((Kp.below hb10).trans ((k8.up (fun q hq => .inl hq)).trans (Kp.below hb11))).trans (k9.up (fun q hq => .inr hq))⟩
            · rw [hXA]; exact (k9.block _ (by omega) (by omega)).trans ((hb11.block _ (by omega)).trans s8)
            · rw [hXB]; exact s9
            · rw [hXA]; exact ((ho10.ag stabExpr (k8.ag (fun q hq e => by have := hq.1; omega))).below stabExpr hb11).ag stabExpr (k9.ag (fun q hq e => by have := hq.1; omega))
            · rw [hXB]; exact ho11.ag stabExpr (k9.ag (fun q hq e => by have := hq.1; omega))
        case rest =>
          obtain ⟨rfl, a2, c2, a4, c4, F1, F3, h8, h9, ho1, ho3, hF1, hF3, hd13, hK⟩ := hcut
          have hop : opAltD xs[k] = [ifD xs[k].level, callD (if xs[k].right = true then xs[k].level + 1 else xs[k].level), ⟨1, xs[k].sign, [], ⟨#[]⟩⟩, callD (if xs[k].right = true then xs[k].level else xs[k].level + 1)] := rfl
          generalize (if xs[k].right = true then xs[k].level + 1 else xs[k].level) = la at *
          generalize (if xs[k].right = true then xs[k].level else xs[k].level + 1) = lb at *
          have HOp : Hid (opAltD xs[k] = [ifD xs[k].level, callD la, ⟨1, xs[k].sign, [], ⟨#[]⟩⟩, callD lb]) := hop
          clear hop
          obtain ⟨hz1, hz2, hz3, hz4, hz5, hz6⟩ := HZ9.out
          have hks := hK.size
          have hSr := HSr.out
          have hHh := HH.out
          have qN : RowF 4 51 NodeF (Nw (wr.heap.size + 1) (wr.heap.size + 4)) (.slice (some ⟨wr.heap.size + 3, 0, none⟩) 4 4) (ifN xs[k].level) wc := HN9.out.ag stabNode (hK.ag (fun q hq e => by have := hq.1; have := hq.2; omega))
          have m7 := run_cell (j := 0) ((hK.block Y7 (by omega) (by omega)).trans HY79.out) rfl
          have mX := run_cell (j := 0) ((hK.block wr.heap.size (by omega) (by omega)).trans HX9.out) rfl
          have hEc : wc.heap[B + 1]? = some (.cells #[.string ⟨#[69]⟩, .slice (some ⟨B, 0, none⟩) 1 1, .slice ea k ec] 43 (0, 0)) := (hK.block (B + 1) (by omega) (by omega)).trans ((HB9.out.block _ (by omega)).trans HEr.out)
          have mE := run_cell (j := 2) hEc rfl
          have m80 := run_cell (j := 0) h8 rfl
          have m81 := run_cell (j := 1) h8 rfl
          have m82 := run_cell (j := 2) h8 rfl
          have m83 := run_cell (j := 3) h8 rfl
          have m90 := run_cell (j := 0) h9 rfl
          have m91 := run_cell (j := 1) h9 rfl
          have m92 := run_cell (j := 2) h9 rfl
          have m93 := run_cell (j := 3) h9 rfl
          have bal0 : Below wc.heap.size wc (wc.alloc (.cells #[.slice (some ⟨wr.heap.size + 3, 0, none⟩) 4 4] 47)) := (Below.refl _ _).alloc (Nat.le_refl _) _
          have pmX := cell_keep mX bal0
          have pm80 := cell_keep m80 bal0
          have pm81 := cell_keep m81 bal0
          have pm82 := cell_keep m82 bal0
          have pm83 := cell_keep m83 bal0
          have pm90 := cell_keep m90 bal0
          have pm91 := cell_keep m91 bal0
          have pm92 := cell_keep m92 bal0
          have pm93 := cell_keep m93 bal0
          clear bal0 mX m80 m81 m82 m83 m90 m91 m92 m93
          obtain ⟨D1, d1⟩ : ∃ W, W = wc.alloc (.cells #[.slice (some ⟨wr.heap.size + 3, 0, none⟩) 4 4] 47) := ⟨_, rfl⟩
          obtain ⟨D2, d2⟩ : ∃ W, W = D1.alloc (.cells #[.int .i64 4, .string ⟨#[]⟩, .slice (some ⟨wc.heap.size, 0, none⟩) 1 1, .string ⟨#[]⟩, .int .i64 (callD la).kind, .string (callD la).text, .slice a2 (callD la).args.length c2, .string (callD la).bind, .int .i64 1, .string xs[k].sign, .slice none 0 0, .string ⟨#[]⟩, .int .i64 (callD lb).kind, .string (callD lb).text, .slice a4 (callD lb).args.length c4, .string (callD lb).bind] 54) := ⟨_, rfl⟩
          have v1 : D1.heap.size = wc.heap.size + 1 := by rw [d1]; simp
          have v2 : D2.heap.size = wc.heap.size + 2 := by rw [d2]; simp [v1]
          have u1 : Below wc.heap.size wc D1 := by rw [d1]; exact (Below.refl _ _).alloc (Nat.le_refl _) _
          have u2 : Below D1.heap.size D1 D2 := by rw [d2]; exact (Below.refl _ _).alloc (Nat.le_refl _) _
          have u02 : Below wc.heap.size wc D2 := u1.trans (u2.mono u1.size)
          have r1 : RowF 1 47 ExprF (fun q => Nw (wr.heap.size + 1) (wr.heap.size + 4) q ∨ q = wc.heap.size) (.slice (some ⟨wc.heap.size, 0, none⟩) 1 1) [ifN xs[k].level] D1 := by
            rw [d1]
            exact RowF.oneF [.slice (some ⟨wr.heap.size + 3, 0, none⟩) 4 4] _ (fun q hq => by have := hq.2; omega) rfl stabExpr rfl ⟨_, rfl, qN⟩
          have r2 : RowF 4 54 SymF (Nw wr.heap.size (wc.heap.size + 2)) (.slice (some ⟨wc.heap.size + 1, 0, none⟩) 4 4) (opAltD xs[k]) D2 := by
            have h := alt_fourG (G := Nw wr.heap.size (wc.heap.size + 2)) (V := D1) (F0 := fun q => Nw (wr.heap.size + 1) (wr.heap.size + 4) q ∨ q = wc.heap.size) (F1 := F1) (F3 := F3) (x1 := ifD xs[k].level) (x2 := callD la) (x4 := callD lb) (sg := xs[k].sign) ⟨by omega, by omega⟩
              (fun q hq => by rcases hq with hq | rfl; have := hq.1; have := hq.2; exact ⟨⟨by omega, by omega⟩, by omega⟩; exact ⟨⟨by omega, by omega⟩, by omega⟩) (fun q hq => by have := hF1 q hq; exact ⟨⟨by omega, by omega⟩, by omega⟩) (fun q hq => by have := hF3 q hq; exact ⟨⟨by omega, by omega⟩, by omega⟩)
              (fun q hq h => by have := hF1 q h; rcases hq with hq | rfl; have := hq.1; have := hq.2; omega; omega) (fun q hq h => by have := hF3 q h; rcases hq with hq | rfl; have := hq.1; have := hq.2; omega; omega) hd13
              r1 (ho1.below stabExpr u1) (ho3.below stabExpr u1) #[.int .i64 4, .string ⟨#[]⟩, .slice (some ⟨wc.heap.size, 0, none⟩) 1 1, .string ⟨#[]⟩, .int .i64 (callD la).kind, .string (callD la).text, .slice a2 (callD la).args.length c2, .string (callD la).bind, .int .i64 1, .string xs[k].sign, .slice none 0 0, .string ⟨#[]⟩, .int .i64 (callD lb).kind, .string (callD lb).text, .slice a4 (callD lb).args.length c4, .string (callD lb).bind] rfl
            rw [← d2, v1] at h
            rw [HOp.out]
            exact h
          have bw2 : Below wr.heap.size wr D2 := ⟨u02.os.trans (hK.os.trans HB9.out.os), u02.tape.trans (hK.tape.trans HB9.out.tape), u02.output.trans (hK.output.trans HB9.out.output), by omega, fun j hj => (u02.block j (by omega)).trans ((hK.block j (by omega) (by omega)).trans (HB9.out.block j hj))⟩
          have hO5 : RowF 1 58 AltF (Nw (B + 2) wr.heap.size) (.slice ea k ec) ((xs.take k).map opAltD) D2 := HW.out.below stabAlt bw2
          obtain ⟨cs, hcs, hAdd⟩ := hO5.add stabAlt HSr.out bw2.size
          rw [HKl.out] at hcs hAdd
          rw [d2, d1] at hcs
          have HCs : Hid (((wc.alloc (.cells #[.slice (some ⟨wr.heap.size + 3, 0, none⟩) 4 4] 47)).alloc (.cells #[.int .i64 4, .string ⟨#[]⟩, .slice (some ⟨wc.heap.size, 0, none⟩) 1 1, .string ⟨#[]⟩, .int .i64 (callD la).kind, .string (callD la).text, .slice a2 (callD la).args.length c2, .string (callD la).bind, .int .i64 1, .string xs[k].sign, .slice none 0 0, .string ⟨#[]⟩, .int .i64 (callD lb).kind, .string (callD lb).text, .slice a4 (callD lb).args.length c4, .string (callD lb).bind] 54)).ownsRow 0 58 1 (.slice ea k ec) k cs) := hcs
          have HAdd : Hid (_) := hAdd
          have HEn : Hid (AltF (Nw wr.heap.size D2.heap.size) D2 [.slice (some ⟨wc.heap.size + 1, 0, none⟩) 4 4] (opAltD xs[k])) := ⟨_, rfl, by rw [v2]; exact r2⟩
          have HD2 : Hid (D2 = ((wc.alloc (.cells #[.slice (some ⟨wr.heap.size + 3, 0, none⟩) 4 4] 47)).alloc (.cells #[.int .i64 4, .string ⟨#[]⟩, .slice (some ⟨wc.heap.size, 0, none⟩) 1 1, .string ⟨#[]⟩, .int .i64 (callD la).kind, .string (callD la).text, .slice a2 (callD la).args.length c2, .string (callD la).bind, .int .i64 1, .string xs[k].sign, .slice none 0 0, .string ⟨#[]⟩, .int .i64 (callD lb).kind, .string (callD lb).text, .slice a4 (callD lb).args.length c4, .string (callD lb).bind] 54))) := by rw [Hid, d2, d1]
          have HBw2 : Hid (Below wr.heap.size wr D2) := bw2
          have HV2 : Hid (D2.heap.size = wc.heap.size + 2) := v2
          have hz7 : ((wc.alloc (.cells #[.slice (some ⟨wr.heap.size + 3, 0, none⟩) 4 4] 47)).alloc (.cells #[.int .i64 4, .string ⟨#[]⟩, .slice (some ⟨wc.heap.size, 0, none⟩) 1 1, .string ⟨#[]⟩, .int .i64 (callD la).kind, .string (callD la).text, .slice a2 (callD la).args.length c2, .string (callD la).bind, .int .i64 1, .string xs[k].sign, .slice none 0 0, .string ⟨#[]⟩, .int .i64 (callD lb).kind, .string (callD lb).text, .slice a4 (callD lb).args.length c4, .string (callD lb).bind] 54)).heap.size = wc.heap.size + 2 := by simp
          clear r1 r2 hO5 hcs hAdd u1 u2 u02 v1 v2 bw2 d1 d2 h8 h9 ho1 ho3 hF1 hF3 hd13 qN hEc hK
          clear D1
          go_wp2_with (at_builtin; refine wpList_append_own_at _ rfl _ _ 41 rfl 0 58 k0 _ 1 24 Try.underlying41 ki kz0 kz1 kz2 rfl (by decide) _ _ _ rfl (World.ownsRow.alloc HCs.out _) ⟨_, 0, none⟩ 1 1 [.slice (some ⟨wc.heap.size + 1, 0, none⟩) 4 4] rfl rfl (by intro j u h; have h7 := cellsO (((wc.alloc (.cells #[.slice (some ⟨wr.heap.size + 3, 0, none⟩) 4 4] 47)).alloc (.cells #[.int .i64 4, .string ⟨#[]⟩, .slice (some ⟨wc.heap.size, 0, none⟩) 1 1, .string ⟨#[]⟩, .int .i64 (callD la).kind, .string (callD la).text, .slice a2 (callD la).args.length c2, .string (callD la).bind, .int .i64 1, .string xs[k].sign, .slice none 0 0, .string ⟨#[]⟩, .int .i64 (callD lb).kind, .string (callD lb).text, .slice a4 (callD lb).args.length c4, .string (callD lb).bind] 54))) [.slice (some ⟨wc.heap.size + 1, 0, none⟩) 4 4] 58 j u h; rw [hz7] at h7; exact h7) (by intro u hu; simp only [List.mem_cons, List.not_mem_nil, or_false] at hu; rcases hu with rfl; rfl) (by unfold maxLen; omega) (by omega) (Nat.zero_le _) ?_)
          intro v9 w9 hown9 hgr9 _ hat9
          obtain ⟨a9, k9, rfl⟩ := shapeO hown9
          rw [← HD2.out] at hgr9
          have hv2 := HV2.out
          have O9 : RowF 1 58 AltF (Nw (B + 2) w9.heap.size) (.slice a9 (k + 1) k9) ((xs.take (k + 1)).map opAltD) w9 := by
            rw [HNx.out]
            exact HAdd.out D2 w9 _ _ _ (opAltD xs[k]) rfl (Below.refl _ _) HEn.out hown9 hgr9 (hat9.imp_right (fun e => by rw [e]; simp [hv2]))
          have hs9 : D2.heap.size + 1 ≤ w9.heap.size := by have := hgr9.size; rw [World.size_alloc] at this; exact this
          have hbs := HBw2.out.size
          have hgb : ∀ j, j < wr.heap.size → (∀ q, (Value.slice ea k ec).ownBlock = some q → j ≠ q) → w9.heap[j]? = wr.heap[j]? := fun j hj hn => (hgr9.block j (by rw [World.size_alloc]; omega) (fun e => hn _ e.symm rfl)).trans ((Below.heap_alloc _ _ j (by omega)).trans (HBw2.out.block j hj))
          have hE9 : w9.heap[B + 1]? = some (.cells #[.string ⟨#[69]⟩, .slice (some ⟨B, 0, none⟩) 1 1, .slice ea k ec] 43 (0, 0)) := (hgb _ (by omega) (fun q hq => by have := hne q hq; omega)).trans HEr.out
          have c9 := run_cell (j := 2) hE9 rfl
          have f9 := run_frozen (j := 2) hE9
          have kst : Kp (fun q => q = B + 1) w9 (w9.setCell ⟨B + 1, 2, none⟩ (.slice a9 (k + 1) k9)) := Kp.store rfl
          have hsz9 : (w9.setCell ⟨B + 1, 2, none⟩ (.slice a9 (k + 1) k9)).heap.size = w9.heap.size := by simp [World.setCell]
          have HE10 : Hid ((w9.setCell ⟨B + 1, 2, none⟩ (.slice a9 (k + 1) k9)).heap[B + 1]? = some (.cells #[.string ⟨#[69]⟩, .slice (some ⟨B, 0, none⟩) 1 1, .slice a9 (k + 1) k9] 43 (0, 0))) := setCell_self (j := 2) _ hE9
          have kwr : Kp (fun q => q = B + 1 ∨ B + 2 ≤ q) wr (w9.setCell ⟨B + 1, 2, none⟩ (.slice a9 (k + 1) k9)) := ⟨hgr9.os.trans HBw2.out.os, hgr9.tape.trans HBw2.out.tape, hgr9.output.trans HBw2.out.output, by rw [hsz9]; omega, fun j hj hF => (setCell_other _ (fun e => hF (.inl e))).trans (hgb j hj (fun q hq e => hF (.inr (by have := hne q hq; omega))))⟩
          have HP10 : Hid (OwnB 0 (.slice (some ⟨B, 0, none⟩) 1 1) [pD] (w9.setCell ⟨B + 1, 2, none⟩ (.slice a9 (k + 1) k9))) := own_ag HPr.out (F := fun q => q = B) (kwr.ag (fun q hq e => by omega)) (fun q hq => by cases hq; rfl)
          have HG10 : Hid ((w9.setCell ⟨B + 1, 2, none⟩ (.slice a9 (k + 1) k9)).heap[w.heap.size]? = some (.cells #[.slice none 0 0] 26 (0, 0))) := (kwr.block _ (by omega) (by omega)).trans HGr.out
          have HO10 : Hid (RowF 1 58 AltF (Nw (B + 2) (w9.setCell ⟨B + 1, 2, none⟩ (.slice a9 (k + 1) k9)).heap.size) (.slice a9 (k + 1) k9) ((xs.take (k + 1)).map opAltD) (w9.setCell ⟨B + 1, 2, none⟩ (.slice a9 (k + 1) k9))) := (O9.ag stabAlt (kst.ag (fun q hq e => by have := hq.1; omega))).up (fun q hq => ⟨hq.1, by rw [hsz9]; exact hq.2⟩)
          have HB10 : Hid (Below w.heap.size w (w9.setCell ⟨B + 1, 2, none⟩ (.slice a9 (k + 1) k9))) := ⟨kwr.os.trans HBr.out.os, kwr.tape.trans HBr.out.tape, kwr.output.trans HBr.out.output, by have := HBr.out.size; rw [hsz9]; omega, fun j hj => (kwr.block j (by omega) (by omega)).trans (HBr.out.block j hj)⟩
          have HS10 : Hid (B + 2 ≤ (w9.setCell ⟨B + 1, 2, none⟩ (.slice a9 (k + 1) k9)).heap.size) := by rw [Hid, hsz9]; omega
          clear hown9 hgr9 hat9 hgb O9 hE9 kst kwr hsz9 hz7
          go_wp2
          go_roundw
          case rel => exact ⟨k + 1, _, by go_num, by omega, HE10.out, HP10.out, HG10.out, HO10.out, HB10.out, HS10.out⟩
          case measure => simp [intOf]; omega
      · obtain rfl : k = xs.length := by omega
        have i4 : ¬ (xs.length : Int) < (xs.length : Int) := by omega
        have HTk : Hid ((xs.take xs.length).map opAltD = xs.map opAltD) := by rw [Hid, List.take_length]
        have hSr := HSr.out
        have hHh := HH.out
        have mE := run_cell (j := 2) HEr.out rfl
        have bal1 : Below wr.heap.size wr (wr.alloc (.cells #[.int .i64 3, .string ⟨#[65]⟩, .slice none 0 0, .string ⟨#[]⟩] 54)) := (Below.refl _ _).alloc (Nat.le_refl _) _
        have hz7 : (wr.alloc (.cells #[.int .i64 3, .string ⟨#[65]⟩, .slice none 0 0, .string ⟨#[]⟩] 54)).heap.size = wr.heap.size + 1 := by simp
        have HEn : Hid (AltF (Nw wr.heap.size (wr.alloc (.cells #[.int .i64 3, .string ⟨#[65]⟩, .slice none 0 0, .string ⟨#[]⟩] 54)).heap.size) (wr.alloc (.cells #[.int .i64 3, .string ⟨#[65]⟩, .slice none 0 0, .string ⟨#[]⟩] 54)) [.slice (some ⟨wr.heap.size, 0, none⟩) 1 1] [⟨3, aD, [], ⟨#[]⟩⟩]) := by
          refine ⟨_, rfl, ?_⟩
          rw [hz7]
          exact RowF.one [.int .i64 3, .string ⟨#[65]⟩, .slice none 0 0, .string ⟨#[]⟩] _ (Nat.le_refl _) rfl stabSym rfl (SymF.bare ⟨3, aD, [], ⟨#[]⟩⟩ rfl)
        have hO5 : RowF 1 58 AltF (Nw (B + 2) wr.heap.size) (.slice ea xs.length ec) ((xs.take xs.length).map opAltD) (wr.alloc (.cells #[.int .i64 3, .string ⟨#[65]⟩, .slice none 0 0, .string ⟨#[]⟩] 54)) := HW.out.below stabAlt bal1
        obtain ⟨cs, hcs, hAdd⟩ := hO5.add stabAlt HSr.out bal1.size
        rw [HKl.out] at hcs hAdd
        have HCs : Hid ((wr.alloc (.cells #[.int .i64 3, .string ⟨#[65]⟩, .slice none 0 0, .string ⟨#[]⟩] 54)).ownsRow 0 58 1 (.slice ea xs.length ec) xs.length cs) := hcs
        have HAdd : Hid (_) := hAdd
        clear hcs hAdd hO5 HW
        go_wp2_with (at_builtin; refine wpList_append_own_at _ rfl _ _ 41 rfl 0 58 k0 _ 1 24 Try.underlying41 ki kz0 kz1 kz2 rfl (by decide) _ _ _ rfl (World.ownsRow.alloc HCs.out _) ⟨_, 0, none⟩ 1 1 [.slice (some ⟨wr.heap.size, 0, none⟩) 1 1] rfl rfl (by intro j u h; have h7 := cellsO (wr.alloc (.cells #[.int .i64 3, .string ⟨#[65]⟩, .slice none 0 0, .string ⟨#[]⟩] 54)) [.slice (some ⟨wr.heap.size, 0, none⟩) 1 1] 58 j u h; rw [hz7] at h7; exact h7) (by intro u hu; simp only [List.mem_cons, List.not_mem_nil, or_false] at hu; rcases hu with rfl; rfl) (by unfold maxLen; omega) (by omega) (Nat.zero_le _) ?_)
        intro v6 w6 hown6 hgr6 _ hat6
        obtain ⟨a6, k6, rfl⟩ := shapeO hown6
        have O6 : RowF 1 58 AltF (Nw (B + 2) w6.heap.size) (.slice a6 (xs.length + 1) k6) (altsE xs) w6 := by
          have h := HAdd.out _ w6 _ _ _ [⟨3, aD, [], ⟨#[]⟩⟩] rfl (Below.refl _ _) HEn.out hown6 hgr6 (by simpa using hat6)
          rw [HTk.out] at h
          exact h
        have hs6 : wr.heap.size + 2 ≤ w6.heap.size := by have h1 := hgr6.size; rw [World.size_alloc, hz7] at h1; omega
        have hgb : ∀ j, j < wr.heap.size → (∀ q, (Value.slice ea xs.length ec).ownBlock = some q → j ≠ q) → w6.heap[j]? = wr.heap[j]? := fun j hj hn => (hgr6.block j (by rw [World.size_alloc, hz7]; omega) (fun e => hn _ e.symm rfl)).trans ((Below.heap_alloc _ _ j (by rw [hz7]; omega)).trans (bal1.block j hj))
        have hE6 : w6.heap[B + 1]? = some (.cells #[.string ⟨#[69]⟩, .slice (some ⟨B, 0, none⟩) 1 1, .slice ea xs.length ec] 43 (0, 0)) := (hgb _ (by omega) (fun q hq => by have := hne q hq; omega)).trans HEr.out
        have c6 := run_cell (j := 2) hE6 rfl
        have f6 := run_frozen (j := 2) hE6
        have kst : Kp (fun q => q = B + 1) w6 (w6.setCell ⟨B + 1, 2, none⟩ (.slice a6 (xs.length + 1) k6)) := Kp.store rfl
        have hsz6 : (w6.setCell ⟨B + 1, 2, none⟩ (.slice a6 (xs.length + 1) k6)).heap.size = w6.heap.size := by simp [World.setCell]
        have HE7 : Hid ((w6.setCell ⟨B + 1, 2, none⟩ (.slice a6 (xs.length + 1) k6)).heap[B + 1]? = some (.cells #[.string ⟨#[69]⟩, .slice (some ⟨B, 0, none⟩) 1 1, .slice a6 (xs.length + 1) k6] 43 (0, 0))) := setCell_self (j := 2) _ hE6
        have kwr : Kp (fun q => q = B + 1 ∨ B + 2 ≤ q) wr (w6.setCell ⟨B + 1, 2, none⟩ (.slice a6 (xs.length + 1) k6)) := ⟨hgr6.os.trans bal1.os, hgr6.tape.trans bal1.tape, hgr6.output.trans bal1.output, by rw [hsz6]; omega, fun j hj hF => (setCell_other _ (fun e => hF (.inl e))).trans (hgb j hj (fun q hq e => hF (.inr (by have := hne q hq; omega))))⟩
        have HP7 : Hid (OwnB 0 (.slice (some ⟨B, 0, none⟩) 1 1) [pD] (w6.setCell ⟨B + 1, 2, none⟩ (.slice a6 (xs.length + 1) k6))) := own_ag HPr.out (F := fun q => q = B) (kwr.ag (fun q hq e => by omega)) (fun q hq => by cases hq; rfl)
        have HG7 : Hid ((w6.setCell ⟨B + 1, 2, none⟩ (.slice a6 (xs.length + 1) k6)).heap[w.heap.size]? = some (.cells #[.slice none 0 0] 26 (0, 0))) := (kwr.block _ (by omega) (by omega)).trans HGr.out
        have HO7 : Hid (RowF 1 58 AltF (Nw (B + 2) (w6.setCell ⟨B + 1, 2, none⟩ (.slice a6 (xs.length + 1) k6)).heap.size) (.slice a6 (xs.length + 1) k6) (altsE xs) (w6.setCell ⟨B + 1, 2, none⟩ (.slice a6 (xs.length + 1) k6))) := (O6.ag stabAlt (kst.ag (fun q hq e => by have := hq.1; omega))).up (fun q hq => ⟨hq.1, by rw [hsz6]; exact hq.2⟩)
        have HB7 : Hid (Below w.heap.size w (w6.setCell ⟨B + 1, 2, none⟩ (.slice a6 (xs.length + 1) k6))) := ⟨kwr.os.trans HBr.out.os, kwr.tape.trans HBr.out.tape, kwr.output.trans HBr.out.output, by have := HBr.out.size; rw [hsz6]; omega, fun j hj => (kwr.block j (by omega) (by omega)).trans (HBr.out.block j hj)⟩
        have HS7 : Hid (B + 2 ≤ (w6.setCell ⟨B + 1, 2, none⟩ (.slice a6 (xs.length + 1) k6)).heap.size) := by rw [Hid, hsz6]; omega
        clear hown6 hgr6 hat6 hgb O6 hE6 kst kwr hsz6 hz7 bal1 HEn HCs HAdd HEr HPr HGr HBr HSr HKl HTk hne hs6 mE
        go_wp2_with fail
        generalize (w6.setCell ⟨B + 1, 2, none⟩ (.slice a6 (xs.length + 1) k6)) = W6 at *
        refine (l13Call_any 0 W6).mono ?_
        rintro e w7 ⟨hb7, a7, c7, rfl, ho7⟩
        have hs7 := hb7.size
        have hS7 := HS7.out
        obtain ⟨D1, e1⟩ : ∃ W, W = w7.alloc (.cells #[.int .i64 (callD 0).kind, .string (callD 0).text, .slice a7 (callD 0).args.length c7, .string (callD 0).bind] 54) := ⟨_, rfl⟩
        obtain ⟨D2, e2⟩ : ∃ W, W = D1.alloc (.cells #[.slice (some ⟨w7.heap.size, 0, none⟩) 1 1] 58) := ⟨_, rfl⟩
        obtain ⟨D3, e3⟩ : ∃ W, W = D2.alloc (.cells #[.string ⟨#[83]⟩, .slice none 0 0, .slice (some ⟨w7.heap.size + 1, 0, none⟩) 1 1] 43) := ⟨_, rfl⟩
        obtain ⟨D4, e4⟩ : ∃ W, W = D3.alloc (.cells #[.int .i64 2, .string ⟨#[48, 45, 57]⟩, .slice none 0 0, .string ⟨#[]⟩] 54) := ⟨_, rfl⟩
        have y1 : D1.heap.size = w7.heap.size + 1 := by rw [e1]; simp
        have y2 : D2.heap.size = w7.heap.size + 2 := by rw [e2]; simp [y1]
        have y3 : D3.heap.size = w7.heap.size + 3 := by rw [e3]; simp [y2]
        have y4 : D4.heap.size = w7.heap.size + 4 := by rw [e4]; simp [y3]
        have b1 : Below w7.heap.size w7 D1 := by rw [e1]; exact (Below.refl _ _).alloc (Nat.le_refl _) _
        have b2 : Below D1.heap.size D1 D2 := by rw [e2]; exact (Below.refl _ _).alloc (Nat.le_refl _) _
        have b3 : Below D2.heap.size D2 D3 := by rw [e3]; exact (Below.refl _ _).alloc (Nat.le_refl _) _
        have b4 : Below D3.heap.size D3 D4 := by rw [e4]; exact (Below.refl _ _).alloc (Nat.le_refl _) _
        have b24 : Below D2.heap.size D2 D4 := b3.trans (b4.mono b3.size)
        have b14 : Below D1.heap.size D1 D4 := b2.trans (b24.mono b2.size)
        have b74 : Below w7.heap.size w7 D4 := b1.trans (b14.mono b1.size)
        have b64 : Below W6.heap.size W6 D4 := hb7.trans (b74.mono hb7.size)
        have r1 : RowF 4 54 SymF (Nw W6.heap.size (w7.heap.size + 1)) (.slice (some ⟨w7.heap.size, 0, none⟩) 1 1) [callD 0] D1 := by
          rw [e1]
          exact RowF.one [.int .i64 (callD 0).kind, .string (callD 0).text, .slice a7 (callD 0).args.length c7, .string (callD 0).bind] _ hs7 rfl stabSym rfl ⟨_, rfl, ho7⟩
        have r2 : RowF 1 58 AltF (Nw W6.heap.size (w7.heap.size + 2)) (.slice (some ⟨w7.heap.size + 1, 0, none⟩) 1 1) [[callD 0]] D2 := by
          have h := RowF.one (a := W6.heap.size) (w := D1) (T := 58) (x := [callD 0]) (E := AltF) (sz := 1) [.slice (some ⟨w7.heap.size, 0, none⟩) 1 1] #[.slice (some ⟨w7.heap.size, 0, none⟩) 1 1] (by omega) rfl stabAlt rfl ⟨_, rfl, by rw [y1]; exact r1⟩
          rw [← e2, y1] at h
          exact h
        have r4 : RowF 4 54 SymF (Nw (w7.heap.size + 3) (w7.heap.size + 4)) (.slice (some ⟨w7.heap.size + 3, 0, none⟩) 1 1) [⟨2, ⟨#[48, 45, 57]⟩, [], ⟨#[]⟩⟩] D4 := by
          have h := RowF.one (a := D3.heap.size) (w := D3) (T := 54) (x := (⟨2, ⟨#[48, 45, 57]⟩, [], ⟨#[]⟩⟩ : SymD)) (E := SymF) (sz := 4) [.int .i64 2, .string ⟨#[48, 45, 57]⟩, .slice none 0 0, .string ⟨#[]⟩] #[.int .i64 2, .string ⟨#[48, 45, 57]⟩, .slice none 0 0, .string ⟨#[]⟩] (Nat.le_refl _) rfl stabSym rfl (SymF.bare ⟨2, ⟨#[48, 45, 57]⟩, [], ⟨#[]⟩⟩ rfl)
          rw [← e4, y3] at h
          exact h
        have HA4 : Hid (D4 = (((w7.alloc (.cells #[.int .i64 (callD 0).kind, .string (callD 0).text, .slice a7 (callD 0).args.length c7, .string (callD 0).bind] 54)).alloc (.cells #[.slice (some ⟨w7.heap.size, 0, none⟩) 1 1] 58)).alloc (.cells #[.string ⟨#[83]⟩, .slice none 0 0, .slice (some ⟨w7.heap.size + 1, 0, none⟩) 1 1] 43)).alloc (.cells #[.int .i64 2, .string ⟨#[48, 45, 57]⟩, .slice none 0 0, .string ⟨#[]⟩] 54)) := by rw [Hid, e4, e3, e2, e1]
        have HD4 : Hid (D4.heap.size = w7.heap.size + 4 ∧ W6.heap.size ≤ w7.heap.size) := ⟨y4, hs7⟩
        have HS4 : Hid (D4.heap[w7.heap.size + 2]? = some (.cells #[.string ⟨#[83]⟩, .slice none 0 0, .slice (some ⟨w7.heap.size + 1, 0, none⟩) 1 1] 43 (0, 0))) := by rw [Hid, b4.block _ (by omega), e3, ← y2]; exact heap_alloc_new D2 _
        have Q1 : Hid (RowF 1 58 AltF (Nw (B + 2) W6.heap.size) (.slice a6 (xs.length + 1) k6) (altsE xs) D4) := HO7.out.below stabAlt b64
        have Q2 : Hid (RowF 1 58 AltF (Nw W6.heap.size (w7.heap.size + 2)) (.slice (some ⟨w7.heap.size + 1, 0, none⟩) 1 1) [[callD 0]] D4) := r2.below stabAlt b24
        have Q3 : Hid (OwnB 0 (.slice (some ⟨B, 0, none⟩) 1 1) [pD] D4) := own_below HP7.out b64
        have Q4 : Hid (RowF 4 54 SymF (Nw (w7.heap.size + 3) (w7.heap.size + 4)) (.slice (some ⟨w7.heap.size + 3, 0, none⟩) 1 1) [⟨2, ⟨#[48, 45, 57]⟩, [], ⟨#[]⟩⟩] D4) := r4
        have HE4 : Hid (D4.heap[B + 1]? = some (.cells #[.string ⟨#[69]⟩, .slice (some ⟨B, 0, none⟩) 1 1, .slice a6 (xs.length + 1) k6] 43 (0, 0))) := (b64.block _ (by omega)).trans HE7.out
        have HG4 : Hid (D4.heap[w.heap.size]? = some (.cells #[.slice none 0 0] 26 (0, 0))) := (b64.block _ (by omega)).trans HG7.out
        have HB4 : Hid (Below w.heap.size w D4) := HB7.out.trans (b64.mono HB7.out.size)
        clear b1 b2 b3 b4 b24 b14 b74 b64 r1 r2 r4 y1 y2 y3 y4 e1 e2 e3 e4 HO7 HP7 HE7 HG7 HB7 hb7 ho7 hs7
        clear D1 D2 D3
        go_wp2_with fail
        rw [← HA4.out]
        refine (l13Call_any 0 D4).mono ?_
        rintro e w8 ⟨hb8, a8, c8, rfl, ho8⟩
        obtain ⟨hd4, hs67⟩ := HD4.out
        have hs8 := hb8.size
        obtain ⟨D5, e5⟩ : ∃ W, W = w8.alloc (.cells #[.int .i64 1, .string ⟨#[40]⟩, .slice none 0 0, .string ⟨#[]⟩, .int .i64 (callD 0).kind, .string (callD 0).text, .slice a8 (callD 0).args.length c8, .string (callD 0).bind, .int .i64 1, .string ⟨#[41]⟩, .slice none 0 0, .string ⟨#[]⟩] 54) := ⟨_, rfl⟩
        obtain ⟨D6, e6⟩ : ∃ W, W = D5.alloc (.cells #[.slice (some ⟨w7.heap.size + 3, 0, none⟩) 1 1, .slice (some ⟨w8.heap.size, 0, none⟩) 3 3] 58) := ⟨_, rfl⟩
        obtain ⟨D7, e7⟩ : ∃ W, W = D6.alloc (.cells #[.string ⟨#[65]⟩, .slice none 0 0, .slice (some ⟨w8.heap.size + 1, 0, none⟩) 2 2] 43) := ⟨_, rfl⟩
        obtain ⟨D8, e8⟩ : ∃ W, W = D7.alloc (.cells #[.string ⟨#[83]⟩, .slice none 0 0, .slice (some ⟨w7.heap.size + 1, 0, none⟩) 1 1, .string ⟨#[69]⟩, .slice (some ⟨B, 0, none⟩) 1 1, .slice a6 (xs.length + 1) k6, .string ⟨#[65]⟩, .slice none 0 0, .slice (some ⟨w8.heap.size + 1, 0, none⟩) 2 2] 43) := ⟨_, rfl⟩
        have y5 : D5.heap.size = w8.heap.size + 1 := by rw [e5]; simp
        have y6 : D6.heap.size = w8.heap.size + 2 := by rw [e6]; simp [y5]
        have y7 : D7.heap.size = w8.heap.size + 3 := by rw [e7]; simp [y6]
        have y8 : D8.heap.size = w8.heap.size + 4 := by rw [e8]; simp [y7]
        have b5 : Below w8.heap.size w8 D5 := by rw [e5]; exact (Below.refl _ _).alloc (Nat.le_refl _) _
        have b6 : Below D5.heap.size D5 D6 := by rw [e6]; exact (Below.refl _ _).alloc (Nat.le_refl _) _
        have b7 : Below D6.heap.size D6 D7 := by rw [e7]; exact (Below.refl _ _).alloc (Nat.le_refl _) _
        have b8 : Below D7.heap.size D7 D8 := by rw [e8]; exact (Below.refl _ _).alloc (Nat.le_refl _) _
        have b87 : Below w8.heap.size w8 D7 := (b5.trans (b6.mono b5.size)).trans (b7.mono (b5.trans (b6.mono b5.size)).size)
        have b47 : Below D4.heap.size D4 D7 := hb8.trans (b87.mono hb8.size)
        have b48 : Below D4.heap.size D4 D8 := b47.trans (b8.mono b47.size)
        have r5 : RowF 4 54 SymF (Nw (w7.heap.size + 4) (w8.heap.size + 1)) (.slice (some ⟨w8.heap.size, 0, none⟩) 3 3) [⟨1, ⟨#[40]⟩, [], ⟨#[]⟩⟩, callD 0, ⟨1, ⟨#[41]⟩, [], ⟨#[]⟩⟩] D5 := by
          rw [e5]
          exact RowF.seq (w := w8) (xs := [⟨1, ⟨#[40]⟩, [], ⟨#[]⟩⟩, callD 0, ⟨1, ⟨#[41]⟩, [], ⟨#[]⟩⟩]) (fun i => if i ≤ 1 then w7.heap.size + 4 else w8.heap.size)
            [[.int .i64 1, .string ⟨#[40]⟩, .slice none 0 0, .string ⟨#[]⟩], [.int .i64 (callD 0).kind, .string (callD 0).text, .slice a8 (callD 0).args.length c8, .string (callD 0).bind], [.int .i64 1, .string ⟨#[41]⟩, .slice none 0 0, .string ⟨#[]⟩]] _
            (fun i j hij => by repeat' split
                               all_goals omega) (by simp) (fun i => by split <;> omega) rfl (by intro vs hvs; simp only [List.mem_cons, List.not_mem_nil, or_false] at hvs; rcases hvs with rfl | rfl | rfl <;> rfl) (by simp [maxLen]) stabSym rfl (fun i hi hi' => by
              match i, hi with
              | 0, _ => exact SymF.bare ⟨1, ⟨#[40]⟩, [], ⟨#[]⟩⟩ rfl
              | 1, _ => exact ⟨_, rfl, by rw [← hd4]; exact ho8⟩
              | 2, _ => exact SymF.bare ⟨1, ⟨#[41]⟩, [], ⟨#[]⟩⟩ rfl)
        have r45 : RowF 4 54 SymF (Nw (w7.heap.size + 3) (w7.heap.size + 4)) (.slice (some ⟨w7.heap.size + 3, 0, none⟩) 1 1) [⟨2, ⟨#[48, 45, 57]⟩, [], ⟨#[]⟩⟩] D5 := (Q4.out.below stabSym hb8).below stabSym b5
        have r6 : RowF 1 58 AltF (Nw (w7.heap.size + 3) (w8.heap.size + 2)) (.slice (some ⟨w8.heap.size + 1, 0, none⟩) 2 2) altsA D6 := by
          have h := RowF.seq (w := D5) (T := 58) (xs := altsA) (E := AltF) (sz := 1) (a := w7.heap.size + 3) (fun i => if i = 0 then w7.heap.size + 3 else if i = 1 then w7.heap.size + 4 else w8.heap.size + 1)
            [[.slice (some ⟨w7.heap.size + 3, 0, none⟩) 1 1], [.slice (some ⟨w8.heap.size, 0, none⟩) 3 3]] #[.slice (some ⟨w7.heap.size + 3, 0, none⟩) 1 1, .slice (some ⟨w8.heap.size, 0, none⟩) 3 3]
            (fun i j hij => by repeat' split
                               all_goals omega) (by simp) (fun i => by rw [y5]; repeat' split
                                                                       all_goals omega) rfl (by intro vs hvs; simp only [List.mem_cons, List.not_mem_nil, or_false] at hvs; rcases hvs with rfl | rfl <;> rfl) (by simp [maxLen, altsA]) stabAlt rfl (fun i hi hi' => by
              match i, hi with
              | 0, _ => exact ⟨_, rfl, r45⟩
              | 1, _ => exact ⟨_, rfl, r5⟩)
          rw [← e6, y5] at h
          exact h
        have hS7 := HS7.out
        have hHh := HH.out
        have r8 : RowF 3 43 RuleF (Nw (w.heap.size + 1) (w8.heap.size + 4)) (.slice (some ⟨w8.heap.size + 3, 0, none⟩) 3 3) (opsG xs) D8 := by
          have h := rules_threeG (G := Nw (w.heap.size + 1) (w8.heap.size + 4)) (FS := Nw W6.heap.size (w7.heap.size + 2)) (FE := Nw (B + 2) W6.heap.size) (FA := Nw (w7.heap.size + 3) (w8.heap.size + 2)) (g := B) (V := D7) (xs := xs) (us := .slice (some ⟨w7.heap.size + 1, 0, none⟩) 1 1) (ue := .slice a6 (xs.length + 1) k6) (ua := .slice (some ⟨w8.heap.size + 1, 0, none⟩) 2 2)
            ⟨by omega, by omega⟩ ⟨⟨by omega, by omega⟩, by omega⟩ (fun q hq => by have := hq.1; have := hq.2; exact ⟨⟨by omega, by omega⟩, by omega⟩) (fun q hq => by have := hq.1; have := hq.2; exact ⟨⟨by omega, by omega⟩, by omega⟩) (fun q hq => by have := hq.1; have := hq.2; exact ⟨⟨by omega, by omega⟩, by omega⟩)
            (fun q hq h => by have := hq.1; have := h.2; omega) (fun q hq h => by have := hq.2; have := h.1; omega) (fun q hq h => by have := hq.2; have := h.1; omega) (fun h => by have := h.1; omega) (fun h => by have := h.1; omega) (fun h => by have := h.1; omega)
            (Q1.out.below stabAlt b47) (Q2.out.below stabAlt b47) (own_below Q3.out b47) (r6.below stabAlt b7) #[.string ⟨#[83]⟩, .slice none 0 0, .slice (some ⟨w7.heap.size + 1, 0, none⟩) 1 1, .string ⟨#[69]⟩, .slice (some ⟨B, 0, none⟩) 1 1, .slice a6 (xs.length + 1) k6, .string ⟨#[65]⟩, .slice none 0 0, .slice (some ⟨w8.heap.size + 1, 0, none⟩) 2 2] rfl
          rw [← e8, y7] at h
          exact h
        have g8 : D8.heap[w.heap.size]? = some (.cells #[.slice none 0 0] 26 (0, 0)) := (b48.block _ (by omega)).trans HG4.out
        have hs7x : D7.heap[w7.heap.size + 2]? = some (.cells #[.string ⟨#[83]⟩, .slice none 0 0, .slice (some ⟨w7.heap.size + 1, 0, none⟩) 1 1] 43 (0, 0)) := (b47.block _ (by omega)).trans HS4.out
        have he7x : D7.heap[B + 1]? = some (.cells #[.string ⟨#[69]⟩, .slice (some ⟨B, 0, none⟩) 1 1, .slice a6 (xs.length + 1) k6] 43 (0, 0)) := (b47.block _ (by omega)).trans HE4.out
        have ha7x : D7.heap[w8.heap.size + 2]? = some (.cells #[.string ⟨#[65]⟩, .slice none 0 0, .slice (some ⟨w8.heap.size + 1, 0, none⟩) 2 2] 43 (0, 0)) := by rw [e7, ← y6]; exact heap_alloc_new D6 _
        have HA7 : Hid (D7 = ((w8.alloc (.cells #[.int .i64 1, .string ⟨#[40]⟩, .slice none 0 0, .string ⟨#[]⟩, .int .i64 (callD 0).kind, .string (callD 0).text, .slice a8 (callD 0).args.length c8, .string (callD 0).bind, .int .i64 1, .string ⟨#[41]⟩, .slice none 0 0, .string ⟨#[]⟩] 54)).alloc (.cells #[.slice (some ⟨w7.heap.size + 3, 0, none⟩) 1 1, .slice (some ⟨w8.heap.size, 0, none⟩) 3 3] 58)).alloc (.cells #[.string ⟨#[65]⟩, .slice none 0 0, .slice (some ⟨w8.heap.size + 1, 0, none⟩) 2 2] 43)) := by rw [Hid, e7, e6, e5]
        have HA8 : Hid (D8 = (((w8.alloc (.cells #[.int .i64 1, .string ⟨#[40]⟩, .slice none 0 0, .string ⟨#[]⟩, .int .i64 (callD 0).kind, .string (callD 0).text, .slice a8 (callD 0).args.length c8, .string (callD 0).bind, .int .i64 1, .string ⟨#[41]⟩, .slice none 0 0, .string ⟨#[]⟩] 54)).alloc (.cells #[.slice (some ⟨w7.heap.size + 3, 0, none⟩) 1 1, .slice (some ⟨w8.heap.size, 0, none⟩) 3 3] 58)).alloc (.cells #[.string ⟨#[65]⟩, .slice none 0 0, .slice (some ⟨w8.heap.size + 1, 0, none⟩) 2 2] 43)).alloc (.cells #[.string ⟨#[83]⟩, .slice none 0 0, .slice (some ⟨w7.heap.size + 1, 0, none⟩) 1 1, .string ⟨#[69]⟩, .slice (some ⟨B, 0, none⟩) 1 1, .slice a6 (xs.length + 1) k6, .string ⟨#[65]⟩, .slice none 0 0, .slice (some ⟨w8.heap.size + 1, 0, none⟩) 2 2] 43)) := by rw [Hid, e8, e7, e6, e5]
        have s0 := run_cell (j := 0) hs7x rfl
        have s1 := run_cell (j := 1) hs7x rfl
        have s2 := run_cell (j := 2) hs7x rfl
        have p0 := run_cell (j := 0) he7x rfl
        have p1 := run_cell (j := 1) he7x rfl
        have p2 := run_cell (j := 2) he7x rfl
        have q0 := run_cell (j := 0) ha7x rfl
        have q1 := run_cell (j := 1) ha7x rfl
        have q2 := run_cell (j := 2) ha7x rfl
        have t0 := run_cell (j := 0) g8 rfl
        have tf := run_frozen (j := 0) g8
        have z0 : (D8.setCell ⟨w.heap.size, 0, none⟩ (.slice (some ⟨w8.heap.size + 3, 0, none⟩) 3 3)).cell? ⟨w.heap.size, 0, none⟩ = some (.slice (some ⟨w8.heap.size + 3, 0, none⟩) 3 3) := run_cell (setCell_self (j := 0) _ g8) rfl
        have HBf : Hid (Below w.heap.size w (D8.setCell ⟨w.heap.size, 0, none⟩ (.slice (some ⟨w8.heap.size + 3, 0, none⟩) 3 3))) := (HB4.out.trans (b48.mono HB4.out.size)).setCell (Nat.le_refl _) _
        have HRf : Hid (RowF 3 43 RuleF (Nw w.heap.size (D8.setCell ⟨w.heap.size, 0, none⟩ (.slice (some ⟨w8.heap.size + 3, 0, none⟩) 3 3)).heap.size) (.slice (some ⟨w8.heap.size + 3, 0, none⟩) 3 3) (opsR xs) (D8.setCell ⟨w.heap.size, 0, none⟩ (.slice (some ⟨w8.heap.size + 3, 0, none⟩) 3 3))) := by
          rw [HE.out]
          have hz9 : (D8.setCell ⟨w.heap.size, 0, none⟩ (.slice (some ⟨w8.heap.size + 3, 0, none⟩) 3 3)).heap.size = D8.heap.size := by simp [World.setCell]
          exact (r8.ag stabRule ((Kp.store (F := fun q => q = w.heap.size) (w := D8) (o := 0) (u := .slice (some ⟨w8.heap.size + 3, 0, none⟩) 3 3) rfl).ag (fun q hq e => by have := hq.1; omega))).up (fun q hq => ⟨by have := hq.1; omega, by have := hq.2; omega⟩)
        rw [HA7.out] at s0 s1 s2 p0 p1 p2 q0 q1 q2
        rw [HA8.out] at t0 tf
        clear hb8 ho8 r5 r45 r6 r8 g8 hs7x he7x ha7x b5 b6 b7 b8 b87 b47 b48 y5 y6 y7 y8 e5 e6 e7 e8 Q1 Q2 Q3 Q4 HG4 HB4 HE4 HS4 hd4 hs67 hs8
        clear D5 D6
        go_wp2
        simp only [Nat.add_assoc, Nat.reduceAdd]
        rw [← HA8.out]
        refine bodyPost_ret (by simp [results, Try.results5, go_sem, z0]; try rfl) rfl ?_
        exact ⟨HBf.out, _, by rw [HN.out], HRf.out⟩

end Go.Proofs.Ytbjkfecailnelaa
