/- Operators' grammar: levelCall, levelIf. -/
import Derived.Test.YtbjkfecailnelaaO13A
import Derived.Test.YtbjkfecailnelaaFrK
namespace Go.Proofs.Ytbjkfecailnelaa
open Go.RowKit
set_option linter.unusedVariables false

def numD (n : Int) : NodeD := ⟨1, n, ⟨#[]⟩, []⟩
def callD (n : Int) : SymD := ⟨3, ⟨#[69]⟩, [[numD n]], ⟨#[]⟩⟩
def ifD (n : Int) : SymD := ⟨4, ⟨#[]⟩, [[numD n, ⟨2, 0, ⟨#[112]⟩, []⟩, ⟨8, 0, ⟨#[]⟩, [0, 1]⟩, ⟨11, 0, ⟨#[]⟩, [2]⟩]], ⟨#[]⟩⟩
theorem own_baseO {B s n : Nat} {e : TypeId} {v : Value} {cs : List Value} {w : World} (h : w.ownsRow B e s v n cs) : w.ownsRow 0 e s v n cs := by
  refine ⟨h.1, ?_⟩
  rcases h.2 with h | ⟨g, cap, cur, e, hg, r⟩
  · exact .inl h
  · exact .inr ⟨g, cap, cur, e, Nat.zero_le _, r⟩
/-- A sym in memory of its own. -/
def SyO (x : SymD) (w : World) (e : Ending) (w' : World) : Prop := Below w.heap.size w w' ∧ ∃ (a : Option Addr) (c : Nat), e = .returned (.agg #[.int .i64 x.kind, .string x.text, .slice a x.args.length c, .string x.bind]) ∧ RowF 1 47 ExprF (Nw w.heap.size w'.heap.size) (.slice a x.args.length c) x.args w'
set_option maxHeartbeats 1600000 in
set_option maxRecDepth 100000 in
theorem levelCall_any (n : Int) (w : World) : Calls Try.prog 20 #[.int .i64 n] w fun e w' => SyO (callD n) w e w' := by
  obtain ⟨A1, h1⟩ : ∃ W, W = w.alloc (.cells #[.int .i64 3, .string ⟨#[69]⟩, .slice (some ⟨w.heap.size + 2, 0, none⟩) 1 1, .string ⟨#[]⟩] 54) := ⟨_, rfl⟩
  obtain ⟨A2, h2⟩ : ∃ W, W = A1.alloc (.cells #[.int .i64 1, .int .i64 n, .string ⟨#[]⟩, .slice none 0 0] 51) := ⟨_, rfl⟩
  obtain ⟨A3, h3⟩ : ∃ W, W = A2.alloc (.cells #[.slice (some ⟨w.heap.size + 1, 0, none⟩) 1 1] 47) := ⟨_, rfl⟩
  have z1 : A1.heap.size = w.heap.size + 1 := by rw [h1]; simp
  have z2 : A2.heap.size = w.heap.size + 2 := by rw [h2]; simp [z1]
  have z3 : A3.heap.size = w.heap.size + 3 := by rw [h3]; simp [z2]
  have r2 : RowF 4 51 NodeF (Nw (w.heap.size + 1) (w.heap.size + 2)) (.slice (some ⟨w.heap.size + 1, 0, none⟩) 1 1) [numD n] A2 := by
    have h := RowF.one (a := A1.heap.size) (w := A1) (T := 51) (x := numD n) (E := NodeF) (sz := 4) [.int .i64 1, .int .i64 n, .string ⟨#[]⟩, .slice none 0 0] #[.int .i64 1, .int .i64 n, .string ⟨#[]⟩, .slice none 0 0] (Nat.le_refl _) rfl stabNode rfl (NodeF.bare (numD n) rfl)
    rw [← h2, z1] at h
    exact h
  have r3 : RowF 1 47 ExprF (Nw (w.heap.size + 1) (w.heap.size + 3)) (.slice (some ⟨w.heap.size + 2, 0, none⟩) 1 1) [[numD n]] A3 := by
    have h := RowF.one (a := w.heap.size + 1) (w := A2) (T := 47) (x := [numD n]) (E := ExprF) (sz := 1) [.slice (some ⟨w.heap.size + 1, 0, none⟩) 1 1] #[.slice (some ⟨w.heap.size + 1, 0, none⟩) 1 1] (by omega) rfl stabExpr rfl ⟨_, rfl, by rw [z2]; exact r2⟩
    rw [← h3, z2] at h
    exact h
  have b3 : ∀ j, j < A2.heap.size → A3.heap[j]? = A2.heap[j]? := fun j hj => by rw [h3]; exact Below.heap_alloc A2 _ j hj
  have b2 : ∀ j, j < A1.heap.size → A2.heap[j]? = A1.heap[j]? := fun j hj => by rw [h2]; exact Below.heap_alloc A1 _ j hj
  have hr : A3.heap[w.heap.size]? = some (.cells #[.int .i64 3, .string ⟨#[69]⟩, .slice (some ⟨w.heap.size + 2, 0, none⟩) 1 1, .string ⟨#[]⟩] 54 (0, 0)) := by rw [b3 _ (by omega), b2 _ (by omega), h1]; exact heap_alloc_new w _
  have hb : Below w.heap.size w A3 := by rw [h3]; exact Below.alloc (by rw [h2]; exact Below.alloc (by rw [h1]; exact (Below.refl _ _).alloc (Nat.le_refl _) _) (by omega) _) (by omega) _
  have HA : Hid (A3 = ((w.alloc (.cells #[.int .i64 3, .string ⟨#[69]⟩, .slice (some ⟨w.heap.size + 2, 0, none⟩) 1 1, .string ⟨#[]⟩] 54)).alloc (.cells #[.int .i64 1, .int .i64 n, .string ⟨#[]⟩, .slice none 0 0] 51)).alloc (.cells #[.slice (some ⟨w.heap.size + 1, 0, none⟩) 1 1] 47)) := by rw [Hid, h3, h2, h1]
  have c0 := run_cell (j := 0) hr rfl
  have c1 := run_cell (j := 1) hr rfl
  have c2 := run_cell (j := 2) hr rfl
  have c3 := run_cell (j := 3) hr rfl
  have HB : Hid (Below w.heap.size w A3) := hb
  have HO : Hid (RowF 1 47 ExprF (Nw w.heap.size A3.heap.size) (.slice (some ⟨w.heap.size + 2, 0, none⟩) 1 1) [[numD n]] A3) := r3.up (fun q hq => ⟨by have := hq.1; omega, by have := hq.2; omega⟩)
  clear hb hr b2 b3 r2 r3 z1 z2 z3 h1 h2 h3
  clear A1 A2
  go_enter Try.func20, Try.ntmps20
  go_wp2
  simp only [Nat.add_assoc, Nat.reduceAdd]
  rw [← HA.out]
  refine bodyPost_ret (by simp [results, Try.results20, go_sem, c0, c1, c2, c3]; try rfl) rfl ?_
  exact ⟨HB.out, _, _, rfl, HO.out⟩

set_option maxHeartbeats 3200000 in
set_option maxRecDepth 100000 in
theorem levelIf_any (n : Int) (w : World) : Calls Try.prog 33 #[.int .i64 n] w fun e w' => SyO (ifD n) w e w' := by
  obtain ⟨A1, h1⟩ : ∃ W, W = w.alloc (.cells #[.int .i64 4, .string ⟨#[]⟩, .slice (some ⟨w.heap.size + 4, 0, none⟩) 1 1, .string ⟨#[]⟩] 54) := ⟨_, rfl⟩
  obtain ⟨A2, h2⟩ : ∃ W, W = A1.alloc (.cells #[.int .i64 0, .int .i64 1] 3) := ⟨_, rfl⟩
  obtain ⟨A3, h3⟩ : ∃ W, W = A2.alloc (.cells #[.int .i64 2] 3) := ⟨_, rfl⟩
  obtain ⟨A4, h4⟩ : ∃ W, W = A3.alloc (.cells #[.int .i64 1, .int .i64 n, .string ⟨#[]⟩, .slice none 0 0, .int .i64 2, .int .i64 0, .string ⟨#[112]⟩, .slice none 0 0, .int .i64 8, .int .i64 0, .string ⟨#[]⟩, .slice (some ⟨w.heap.size + 1, 0, none⟩) 2 2, .int .i64 11, .int .i64 0, .string ⟨#[]⟩, .slice (some ⟨w.heap.size + 2, 0, none⟩) 1 1] 51) := ⟨_, rfl⟩
  obtain ⟨A5, h5⟩ : ∃ W, W = A4.alloc (.cells #[.slice (some ⟨w.heap.size + 3, 0, none⟩) 4 4] 47) := ⟨_, rfl⟩
  have z1 : A1.heap.size = w.heap.size + 1 := by rw [h1]; simp
  have z2 : A2.heap.size = w.heap.size + 2 := by rw [h2]; simp [z1]
  have z3 : A3.heap.size = w.heap.size + 3 := by rw [h3]; simp [z2]
  have z4 : A4.heap.size = w.heap.size + 4 := by rw [h4]; simp [z3]
  have z5 : A5.heap.size = w.heap.size + 5 := by rw [h5]; simp [z4]
  have o2 : OwnZ A1.heap.size (.slice (some ⟨w.heap.size + 1, 0, none⟩) 2 2) [0, 1] A2 := by
    have h := ownZ_lit A1 [0, 1] #[.int .i64 0, .int .i64 1] rfl (by decide)
    rw [← h2, z1] at h
    rw [z1]
    exact h
  have o3 : OwnZ A2.heap.size (.slice (some ⟨w.heap.size + 2, 0, none⟩) 1 1) [2] A3 := by
    have h := ownZ_lit A2 [2] #[.int .i64 2] rfl (by decide)
    rw [← h3, z2] at h
    rw [z2]
    exact h
  have o23 : OwnZ A1.heap.size (.slice (some ⟨w.heap.size + 1, 0, none⟩) 2 2) [0, 1] A3 := by
    rw [h3]
    exact World.ownsRow.alloc o2 _
  have r4 : RowF 4 51 NodeF (Nw (w.heap.size + 1) (w.heap.size + 4)) (.slice (some ⟨w.heap.size + 3, 0, none⟩) 4 4) [numD n, ⟨2, 0, ⟨#[112]⟩, []⟩, ⟨8, 0, ⟨#[]⟩, [0, 1]⟩, ⟨11, 0, ⟨#[]⟩, [2]⟩] A4 := by
    have h := RowF.seq (w := A3) (T := 51) (xs := [numD n, ⟨2, 0, ⟨#[112]⟩, []⟩, ⟨8, 0, ⟨#[]⟩, [0, 1]⟩, ⟨11, 0, ⟨#[]⟩, [2]⟩]) (E := NodeF) (sz := 4) (a := w.heap.size + 1) (fun i => if i ≤ 2 then w.heap.size + 1 else if i = 3 then w.heap.size + 2 else w.heap.size + 3)
      [[.int .i64 1, .int .i64 n, .string ⟨#[]⟩, .slice none 0 0], [.int .i64 2, .int .i64 0, .string ⟨#[112]⟩, .slice none 0 0], [.int .i64 8, .int .i64 0, .string ⟨#[]⟩, .slice (some ⟨w.heap.size + 1, 0, none⟩) 2 2], [.int .i64 11, .int .i64 0, .string ⟨#[]⟩, .slice (some ⟨w.heap.size + 2, 0, none⟩) 1 1]]
      #[.int .i64 1, .int .i64 n, .string ⟨#[]⟩, .slice none 0 0, .int .i64 2, .int .i64 0, .string ⟨#[112]⟩, .slice none 0 0, .int .i64 8, .int .i64 0, .string ⟨#[]⟩, .slice (some ⟨w.heap.size + 1, 0, none⟩) 2 2, .int .i64 11, .int .i64 0, .string ⟨#[]⟩, .slice (some ⟨w.heap.size + 2, 0, none⟩) 1 1]
      (fun i j hij => by repeat' split
                         all_goals omega) (by simp) (fun i => by rw [z3]; repeat' split
                                                                 all_goals omega) rfl (by intro vs hvs; simp only [List.mem_cons, List.not_mem_nil, or_false] at hvs; rcases hvs with rfl | rfl | rfl | rfl <;> rfl) (by simp [maxLen]) stabNode rfl (fun i hi hi' => by
        match i, hi with
        | 0, _ => exact NodeF.bare (numD n) rfl
        | 1, _ => exact NodeF.bare ⟨2, 0, ⟨#[112]⟩, []⟩ rfl
        | 2, _ => exact ⟨_, rfl, own_baseO o23, fun k hk => by cases hk; exact ⟨Nat.le_refl _, Nat.lt_succ_self _⟩⟩
        | 3, _ => exact ⟨_, rfl, own_baseO o3, fun k hk => by cases hk; exact ⟨Nat.le_refl _, Nat.lt_succ_self _⟩⟩)
    rw [← h4, z3] at h
    exact h
  have r5 : RowF 1 47 ExprF (Nw (w.heap.size + 1) (w.heap.size + 5)) (.slice (some ⟨w.heap.size + 4, 0, none⟩) 1 1) (ifD n).args A5 := by
    have h := RowF.one (a := w.heap.size + 1) (w := A4) (T := 47) (x := [numD n, ⟨2, 0, ⟨#[112]⟩, []⟩, ⟨8, 0, ⟨#[]⟩, [0, 1]⟩, ⟨11, 0, ⟨#[]⟩, [2]⟩]) (E := ExprF) (sz := 1) [.slice (some ⟨w.heap.size + 3, 0, none⟩) 4 4] #[.slice (some ⟨w.heap.size + 3, 0, none⟩) 4 4] (by omega) rfl stabExpr rfl ⟨_, rfl, by rw [z4]; exact r4⟩
    rw [← h5, z4] at h
    exact h
  have b5 : ∀ j, j < A4.heap.size → A5.heap[j]? = A4.heap[j]? := fun j hj => by rw [h5]; exact Below.heap_alloc A4 _ j hj
  have b4 : ∀ j, j < A3.heap.size → A4.heap[j]? = A3.heap[j]? := fun j hj => by rw [h4]; exact Below.heap_alloc A3 _ j hj
  have b3 : ∀ j, j < A2.heap.size → A3.heap[j]? = A2.heap[j]? := fun j hj => by rw [h3]; exact Below.heap_alloc A2 _ j hj
  have b2 : ∀ j, j < A1.heap.size → A2.heap[j]? = A1.heap[j]? := fun j hj => by rw [h2]; exact Below.heap_alloc A1 _ j hj
  have hr : A5.heap[w.heap.size]? = some (.cells #[.int .i64 4, .string ⟨#[]⟩, .slice (some ⟨w.heap.size + 4, 0, none⟩) 1 1, .string ⟨#[]⟩] 54 (0, 0)) := by rw [b5 _ (by omega), b4 _ (by omega), b3 _ (by omega), b2 _ (by omega), h1]; exact heap_alloc_new w _
  have hb3 : Below w.heap.size w A3 := by rw [h3]; exact Below.alloc (by rw [h2]; exact Below.alloc (by rw [h1]; exact (Below.refl _ _).alloc (Nat.le_refl _) _) (by omega) _) (by omega) _
  have HB : Hid (Below w.heap.size w A5) := by rw [h5]; exact Below.alloc (by rw [h4]; exact hb3.alloc (by omega) _) (by omega) _
  have HO : Hid (RowF 1 47 ExprF (Nw w.heap.size A5.heap.size) (.slice (some ⟨w.heap.size + 4, 0, none⟩) 1 1) (ifD n).args A5) := r5.up (fun q hq => ⟨by have := hq.1; omega, by have := hq.2; omega⟩)
  have HA : Hid (A5 = ((((w.alloc (.cells #[.int .i64 4, .string ⟨#[]⟩, .slice (some ⟨w.heap.size + 4, 0, none⟩) 1 1, .string ⟨#[]⟩] 54)).alloc (.cells #[.int .i64 0, .int .i64 1] 3)).alloc (.cells #[.int .i64 2] 3)).alloc (.cells #[.int .i64 1, .int .i64 n, .string ⟨#[]⟩, .slice none 0 0, .int .i64 2, .int .i64 0, .string ⟨#[112]⟩, .slice none 0 0, .int .i64 8, .int .i64 0, .string ⟨#[]⟩, .slice (some ⟨w.heap.size + 1, 0, none⟩) 2 2, .int .i64 11, .int .i64 0, .string ⟨#[]⟩, .slice (some ⟨w.heap.size + 2, 0, none⟩) 1 1] 51)).alloc (.cells #[.slice (some ⟨w.heap.size + 3, 0, none⟩) 4 4] 47)) := by rw [Hid, h5, h4, h3, h2, h1]
  have c0 := run_cell (j := 0) hr rfl
  have c1 := run_cell (j := 1) hr rfl
  have c2 := run_cell (j := 2) hr rfl
  have c3 := run_cell (j := 3) hr rfl
  clear hb3 hr b2 b3 b4 b5 r4 r5 o2 o3 o23 z1 z2 z3 z4 z5 h1 h2 h3 h4 h5
  clear A1 A2 A3 A4
  go_enter Try.func33, Try.ntmps33
  go_wp2
  simp only [Nat.add_assoc, Nat.reduceAdd]
  rw [← HA.out]
  refine bodyPost_ret (by simp [results, Try.results33, go_sem, c0, c1, c2, c3]; try rfl) rfl ?_
  exact ⟨HB.out, _, _, rfl, HO.out⟩

end Go.Proofs.Ytbjkfecailnelaa
