/- What the verifier's draws of names with numbers answer. -/
import Derived.Test.YtbpfapjchmignaaDoorDraw3
import Derived.Test.YtbpfapjchmignaaDoorEnvOrd
import Derived.Deep.Onto
namespace Go.Proofs.YtbpfapjchmignaaDoor
open Go.RowKit

/-- One of a written list of values is picked. -/
theorem lit_row (w : World) (vs : List Value) (t : TypeId) (i : Nat) (h : i < vs.length) : (w.alloc (.cells vs.toArray t)).cell? ⟨w.heap.size, i, none⟩ = some vs[i] := by
  have hb : (w.alloc (.cells vs.toArray t)).heap[w.heap.size]? = some (.cells vs.toArray t) := heap_alloc_new w _
  rw [cell_of_row _ _ i _ _ _ hb]
  simp [h]

set_option maxHeartbeats 800000 in
set_option maxRecDepth 100000 in
theorem pickIntP_any (P : Int → Prop) (W : World) (v : Value) (n g m gl cap : Nat) (w : World) (hn : n ≤ 1000000000000) (hcode : CodeRow W v n) (hc : Cur W v n g w) (hm : 0 < m) (hm1 : m ≤ 4294967296) (hne : gl ≠ g)
    (hl : ∀ i, i < m → ∃ y : Int, w.cell? ⟨gl, i, none⟩ = some (.int .i64 y) ∧ P y) :
    Calls Tryd.prog 22 #[.pointer (some ⟨g, 0, none⟩), .slice (some ⟨gl, 0, none⟩) m cap] w fun e w' =>
      ∃ y : Int, e = .returned (.int .i64 y) ∧ P y ∧ Went W v n g w w' := by
  have HC : Hid (CodeRow W v n) := hcode
  have HW : Hid (Cur W v n g w) := hc
  have HL : Hid (∀ i, i < m → ∃ y : Int, w.cell? ⟨gl, i, none⟩ = some (.int .i64 y) ∧ P y) := hl
  clear hcode hc hl
  go_enter Tryd.func22, Tryd.ntmps22
  go_wp2_with fail
  refine (below_any W v n g m _ hn HC.out HW.out (by omega) (by omega)).mono ?_
  rintro e w1 ⟨x, rfl, ⟨x0, x1⟩, hw1⟩
  have H1 : Hid (Went W v n g w w1) := hw1
  clear hw1
  obtain ⟨k, rfl⟩ := Int.eq_ofNat_of_zero_le x0
  obtain ⟨y, hy, hp⟩ := HL.out k (by omega)
  have HP : Hid (P y) := hp
  have hy1 : w1.cell? ⟨gl, k, none⟩ = some (.int .i64 y) := H1.out.2.cell hy (fun e => hne (Option.some.inj e))
  clear hy hp
  go_wp2
  go_ret
  exact ⟨_, rfl, HP.out, H1.out⟩

set_option maxHeartbeats 800000 in
set_option maxRecDepth 100000 in
theorem pickP_any (P : ByteArray → Prop) (W : World) (v : Value) (n g m gl cap : Nat) (w : World) (hn : n ≤ 1000000000000) (hcode : CodeRow W v n) (hc : Cur W v n g w) (hm : 0 < m) (hm1 : m ≤ 4294967296) (hne : gl ≠ g)
    (hl : ∀ i, i < m → ∃ y : ByteArray, w.cell? ⟨gl, i, none⟩ = some (.string y) ∧ P y) :
    Calls Tryd.prog 23 #[.pointer (some ⟨g, 0, none⟩), .slice (some ⟨gl, 0, none⟩) m cap] w fun e w' =>
      ∃ y : ByteArray, e = .returned (.string y) ∧ P y ∧ Went W v n g w w' := by
  have HC : Hid (CodeRow W v n) := hcode
  have HW : Hid (Cur W v n g w) := hc
  have HL : Hid (∀ i, i < m → ∃ y : ByteArray, w.cell? ⟨gl, i, none⟩ = some (.string y) ∧ P y) := hl
  clear hcode hc hl
  go_enter Tryd.func23, Tryd.ntmps23
  go_wp2_with fail
  refine (below_any W v n g m _ hn HC.out HW.out (by omega) (by omega)).mono ?_
  rintro e w1 ⟨x, rfl, ⟨x0, x1⟩, hw1⟩
  have H1 : Hid (Went W v n g w w1) := hw1
  clear hw1
  obtain ⟨k, rfl⟩ := Int.eq_ofNat_of_zero_le x0
  obtain ⟨y, hy, hp⟩ := HL.out k (by omega)
  have HP : Hid (P y) := hp
  have hy1 : w1.cell? ⟨gl, k, none⟩ = some (.string y) := H1.out.2.cell hy (fun e => hne (Option.some.inj e))
  clear hy hp
  go_wp2
  go_ret
  exact ⟨_, rfl, HP.out, H1.out⟩

/-- The names that are drawn. -/
def names5 : List ByteArray := [⟨#[97]⟩, ⟨#[98]⟩, ⟨#[110]⟩, ⟨#[120]⟩, ⟨#[108, 111, 110, 103]⟩]
theorem names5_ok : ∀ s ∈ names5, nameB s = true := by
  intro s hs
  simp only [names5, List.mem_cons, List.not_mem_nil, or_false] at hs
  rcases hs with rfl | rfl | rfl | rfl | rfl <;> decide
theorem names5_size : ∀ s ∈ names5, s.size ≤ 4 := by
  intro s hs
  simp only [names5, List.mem_cons, List.not_mem_nil, or_false] at hs
  rcases hs with rfl | rfl | rfl | rfl | rfl <;> decide

/-- What went over a cursor's own block and behind an old heap, seen as 'Below'. -/
theorem went_size {W : World} {v : Value} {n g : Nat} {w w' : World} (h : Went W v n g w w') : w.heap.size ≤ w'.heap.size := h.2.size



/-- The numbers that are drawn. -/
def nums7 : List Int := [0, 1, 2, 7, -3, 50, 9999]
theorem nums7_in : ∀ z ∈ nums7, -9999 ≤ z ∧ z ≤ 9999 := by decide

/-- A drawn right list. -/
def EnvGood (xs : List VarD) (k : Nat) : Prop := chainB none xs = true ∧ xs.length ≤ k ∧ ∀ x ∈ xs, x.1 ∈ names5
theorem envGood_put {xs : List VarD} {k : Nat} {name : ByteArray} {num : Int} (h : EnvGood xs k) (hk : k ≤ 5) (hn : name ∈ names5) (hr : -9999 ≤ num ∧ num ≤ 9999) :
    envB (putB xs name num) = true ∧ EnvGood (putB xs name num) (k + 1) := by
  have h1 := chain_put xs none name num h.1 (names5_ok _ hn) hr trivial
  have h2 := put_len xs none name num h.1
  refine ⟨?_, h1, by have := h.2.1; omega, fun x hx => ?_⟩
  · rw [envB, h1, Bool.true_and, decide_eq_true_eq]
    have := h.2.1
    omega
  · rcases put_mem hx with hx | rfl
    · exact h.2.2 x hx
    · exact hn


end Go.Proofs.YtbpfapjchmignaaDoor
