/- What the verifier's draws of sets of bytes answer. -/
import Derived.Test.YtokgkjfgknjbbaaDoorDraw3
import Derived.Test.YtokgkjfgknjbbaaDoorSetBack
namespace Go.Proofs.YtokgkjfgknjbbaaDoor
open Go.RowKit

/-- One of a written list of values is picked. -/
theorem lit5_row (w : World) (vs : List Value) (t : TypeId) (i : Nat) (h : i < vs.length) : (w.alloc (.cells vs.toArray t)).cell? ⟨w.heap.size, i, none⟩ = some vs[i] := by
  have hb : (w.alloc (.cells vs.toArray t)).heap[w.heap.size]? = some (.cells vs.toArray t) := heap_alloc_new w _
  rw [cell_of_row _ _ i _ _ _ hb]
  simp [h]

set_option maxHeartbeats 800000 in
set_option maxRecDepth 100000 in
theorem pick5_any (P : ByteArray → Prop) (W : World) (v : Value) (n g m gl cap : Nat) (w : World) (hn : n ≤ 1000000000000) (hcode : CodeRow W v n) (hc : Cur W v n g w) (hm : 0 < m) (hm1 : m ≤ 4294967296) (hne : gl ≠ g)
    (hl : ∀ i, i < m → ∃ y : ByteArray, w.cell? ⟨gl, i, none⟩ = some (.string y) ∧ P y) :
    Calls Tryd.prog 58 #[.pointer (some ⟨g, 0, none⟩), .slice (some ⟨gl, 0, none⟩) m cap] w fun e w' =>
      ∃ y : ByteArray, e = .returned (.string y) ∧ P y ∧ Went W v n g w w' := by
  have HC : Hid (CodeRow W v n) := hcode
  have HW : Hid (Cur W v n g w) := hc
  have HL : Hid (∀ i, i < m → ∃ y : ByteArray, w.cell? ⟨gl, i, none⟩ = some (.string y) ∧ P y) := hl
  clear hcode hc hl
  go_enter Tryd.func58, Tryd.ntmps58
  go_wp2_with fail
  refine (below_any W v n g m _ hn HC.out HW.out (by omega) (by omega)).mono ?_
  rintro e w1 ⟨x, rfl, ⟨x0, x1⟩, hw1⟩
  have H1 : Hid (Went W v n g w w1) := hw1
  clear hw1
  obtain ⟨k, rfl⟩ := Int.eq_ofNat_of_zero_le x0
  obtain ⟨y, hy, hp⟩ := HL.out k (by omega)
  have HP : Hid (P y) := hp
  have hy1 : w1.cell? ⟨gl, k, none⟩ = some (.string y) := H1.out.2.cell hy (fun e => hne (Option.some.inj e))
  clear hy hp
  go_wp2
  go_ret
  exact ⟨_, rfl, HP.out, H1.out⟩

/-- The sets that are drawn, right ones, and others. -/
def sets10 : List ByteArray := [⟨#[97]⟩, ⟨#[97, 98]⟩, ⟨#[97, 45, 99]⟩, ⟨#[48, 45, 57]⟩, ⟨#[97, 45, 122]⟩, ⟨#[98, 45, 100, 120]⟩, ⟨#[48, 57]⟩, ⟨#[97, 45, 122, 48, 45, 57]⟩, ⟨#[97, 99, 101, 103, 105, 107, 109, 111, 113, 115, 117, 119]⟩, ⟨#[53, 45, 53]⟩]
def sets11 : List ByteArray := [⟨#[]⟩, ⟨#[45]⟩, ⟨#[97, 45]⟩, ⟨#[45, 97]⟩, ⟨#[99, 45, 97]⟩, ⟨#[65]⟩, ⟨#[48, 45, 122]⟩, ⟨#[97, 45, 98, 45, 99]⟩, ⟨#[97, 98, 99, 100, 101, 102, 103, 104, 105, 106, 107, 108]⟩, ⟨#[97, 98, 99, 100, 101, 102, 103, 104, 105, 106, 107, 108, 109]⟩, ⟨#[97, 45, 45, 98]⟩]
/-- A drawn set that is right; a drawn text, small. -/
def Right5 (s : ByteArray) : Prop := okL s.data.toList = true ∧ s.size ≤ 13
theorem sets10_ok : ∀ s ∈ sets10, Right5 s := by
  intro s hs
  simp only [sets10, List.mem_cons, List.not_mem_nil, or_false] at hs
  rcases hs with rfl | rfl | rfl | rfl | rfl | rfl | rfl | rfl | rfl | rfl <;> exact ⟨by decide +kernel, by decide⟩
theorem sets11_size : ∀ s ∈ sets11, s.size ≤ 13 := by
  intro s hs
  simp only [sets11, List.mem_cons, List.not_mem_nil, or_false] at hs
  rcases hs with rfl | rfl | rfl | rfl | rfl | rfl | rfl | rfl | rfl | rfl | rfl <;> decide

set_option maxHeartbeats 800000 in
set_option maxRecDepth 100000 in
theorem set5_any (W : World) (v : Value) (n g : Nat) (w : World) (hn : n ≤ 1000000000000) (hcode : CodeRow W v n) (hc : Cur W v n g w) :
    Calls Tryd.prog 50 #[.pointer (some ⟨g, 0, none⟩)] w fun e w' => ∃ y : ByteArray, e = .returned (.string y) ∧ Right5 y ∧ Went W v n g w w' := by
  have HC : Hid (CodeRow W v n) := hcode
  have HW : Hid (Cur W v n g w) := hc
  have hg : g < w.heap.size := hc.lt
  have HA : Hid (Went W v n g w (w.alloc (.cells (sets10.map Value.string).toArray 9))) := went_alloc hc _
  have HL : Hid (∀ i, i < 10 → ∃ y : ByteArray, (w.alloc (.cells (sets10.map Value.string).toArray 9)).cell? ⟨w.heap.size, i, none⟩ = some (.string y) ∧ Right5 y) := fun i hi => by
    refine ⟨sets10[i]'(by simpa [sets10] using hi), ?_, sets10_ok _ (List.getElem_mem _)⟩
    rw [lit5_row w (sets10.map Value.string) 9 i (by simpa [sets10] using hi)]
    simp
  clear hcode hc
  go_enter Tryd.func50, Tryd.ntmps50
  go_wp2_with fail
  refine (pick5_any Right5 W v n g 10 w.heap.size 10 _ hn HC.out HA.out.1 (by omega) (by omega) (by omega) HL.out).mono ?_
  rintro e w1 ⟨y, rfl, hy, hw1⟩
  have H1 : Hid (Went W v n g w w1) := went_trans HA.out hw1
  have HY : Hid (Right5 y) := hy
  clear hw1 hy
  go_wp2
  go_ret
  exact ⟨_, rfl, HY.out, H1.out⟩

set_option maxHeartbeats 800000 in
set_option maxRecDepth 100000 in
theorem any5_any (W : World) (v : Value) (n g : Nat) (w : World) (hn : n ≤ 1000000000000) (hcode : CodeRow W v n) (hc : Cur W v n g w) :
    Calls Tryd.prog 61 #[.pointer (some ⟨g, 0, none⟩)] w fun e w' => ∃ y : ByteArray, e = .returned (.string y) ∧ y.size ≤ 13 ∧ Went W v n g w w' := by
  have HC : Hid (CodeRow W v n) := hcode
  have HW : Hid (Cur W v n g w) := hc
  clear hcode hc
  go_enter Tryd.func61, Tryd.ntmps61
  go_wp2_with fail
  refine (once_any W v n g 3 _ hn HC.out HW.out (by omega) (by omega)).mono ?_
  rintro e w1 ⟨b, rfl, hw1⟩
  have H1 : Hid (Went W v n g w w1) := hw1
  have hg : g < w1.heap.size := hw1.1.lt
  clear hw1
  have HA : Hid (Went W v n g w1 (w1.alloc (.cells (sets11.map Value.string).toArray 9))) := went_alloc H1.out.1 _
  have HL : Hid (∀ i, i < 11 → ∃ y : ByteArray, (w1.alloc (.cells (sets11.map Value.string).toArray 9)).cell? ⟨w1.heap.size, i, none⟩ = some (.string y) ∧ y.size ≤ 13) := fun i hi => by
    refine ⟨sets11[i]'(by simpa [sets11] using hi), ?_, sets11_size _ (List.getElem_mem _)⟩
    rw [lit5_row w1 (sets11.map Value.string) 9 i (by simpa [sets11] using hi)]
    simp
  cases b with
  | true =>
    go_wp2_with fail
    refine (pick5_any (fun y => y.size ≤ 13) W v n g 11 w1.heap.size 11 _ hn HC.out HA.out.1 (by omega) (by omega) (by omega) HL.out).mono ?_
    rintro e w2 ⟨y, rfl, hy, hw2⟩
    have H2 : Hid (Went W v n g w w2) := went_trans H1.out (went_trans HA.out hw2)
    clear hw2
    go_wp2
    go_ret
    exact ⟨_, rfl, hy, H2.out⟩
  | false =>
    go_wp2_with fail
    refine (set5_any W v n g _ hn HC.out H1.out.1).mono ?_
    rintro e w2 ⟨y, rfl, hy, hw2⟩
    have hs : y.size ≤ 13 := hy.2
    have H2 : Hid (Went W v n g w w2) := went_trans H1.out hw2
    clear hw2 hy
    go_wp2
    go_ret
    exact ⟨_, rfl, hs, H2.out⟩

theorem drawSets_any (W : World) (v : Value) (n : Nat) (w : World) (hn : n ≤ 1000000000000) (hcode : CodeRow W v n) (hb : Below W.heap.size W w) :
    Calls Tryd.prog 19 #[v] w fun e w' => ∃ a b, e = .returned (.tuple #[.string a, .string b]) ∧ Right5 a ∧ Right5 b ∧ Below w.heap.size w w' := by
  have HC : Hid (CodeRow W v n) := hcode
  have HB : Hid (Below W.heap.size W w) := hb
  clear hcode hb
  go_enter Tryd.func19, Tryd.ntmps19
  go_wp2_with fail
  refine (new_any W v n _ hn HC.out HB.out).mono ?_
  rintro e w1 ⟨g, rfl, hc1, hb1, hg⟩
  have H1 : Hid (Cur W v n g w1) := hc1
  have B1 : Hid (Below w.heap.size w w1) := hb1
  clear hc1 hb1
  go_wp2_with fail
  refine (set5_any W v n g _ hn HC.out H1.out).mono ?_
  rintro e w2 ⟨a, rfl, ha, hw2⟩
  have HAa : Hid (Right5 a) := ha
  have H2 : Hid (Cur W v n g w2) := hw2.1
  have B2 : Hid (Below w.heap.size w w2) := B1.out.trans (went_bel hw2 B1.out.size hg)
  clear hw2 ha
  go_wp2_with fail
  refine (set5_any W v n g _ hn HC.out H2.out).mono ?_
  rintro e w3 ⟨b, rfl, hb, hw3⟩
  have HAb : Hid (Right5 b) := hb
  have B3 : Hid (Below w.heap.size w w3) := B2.out.trans (went_bel hw3 B2.out.size hg)
  clear hw3 hb
  go_wp2
  go_ret2
  exact ⟨_, _, rfl, HAa.out, HAb.out, B3.out⟩

theorem drawJoinSets_any (W : World) (v : Value) (n : Nat) (w : World) (hn : n ≤ 1000000000000) (hcode : CodeRow W v n) (hb : Below W.heap.size W w) :
    Calls Tryd.prog 36 #[v] w fun e w' => ∃ a b : ByteArray, e = .returned (.tuple #[.string a, .string b]) ∧ a.size ≤ 13 ∧ b.size ≤ 13 ∧ Below w.heap.size w w' := by
  have HC : Hid (CodeRow W v n) := hcode
  have HB : Hid (Below W.heap.size W w) := hb
  clear hcode hb
  go_enter Tryd.func36, Tryd.ntmps36
  go_wp2_with fail
  refine (new_any W v n _ hn HC.out HB.out).mono ?_
  rintro e w1 ⟨g, rfl, hc1, hb1, hg⟩
  have H1 : Hid (Cur W v n g w1) := hc1
  have B1 : Hid (Below w.heap.size w w1) := hb1
  clear hc1 hb1
  go_wp2_with fail
  refine (any5_any W v n g _ hn HC.out H1.out).mono ?_
  rintro e w2 ⟨a, rfl, ha, hw2⟩
  have H2 : Hid (Cur W v n g w2) := hw2.1
  have B2 : Hid (Below w.heap.size w w2) := B1.out.trans (went_bel hw2 B1.out.size hg)
  clear hw2
  go_wp2_with fail
  refine (any5_any W v n g _ hn HC.out H2.out).mono ?_
  rintro e w3 ⟨b, rfl, hb, hw3⟩
  have B3 : Hid (Below w.heap.size w w3) := B2.out.trans (went_bel hw3 B2.out.size hg)
  clear hw3
  go_wp2
  go_ret2
  exact ⟨_, _, rfl, ha, hb, B3.out⟩

theorem drawSetOk_any (W : World) (v : Value) (n : Nat) (w : World) (hn : n ≤ 1000000000000) (hcode : CodeRow W v n) (hb : Below W.heap.size W w) :
    Calls Tryd.prog 28 #[v] w fun e w' => ∃ a : ByteArray, e = .returned (.string a) ∧ a.size ≤ 13 ∧ Below w.heap.size w w' := by
  have HC : Hid (CodeRow W v n) := hcode
  have HB : Hid (Below W.heap.size W w) := hb
  clear hcode hb
  go_enter Tryd.func28, Tryd.ntmps28
  go_wp2_with fail
  refine (new_any W v n _ hn HC.out HB.out).mono ?_
  rintro e w1 ⟨g, rfl, hc1, hb1, hg⟩
  have H1 : Hid (Cur W v n g w1) := hc1
  have B1 : Hid (Below w.heap.size w w1) := hb1
  clear hc1 hb1
  go_wp2_with fail
  refine (any5_any W v n g _ hn HC.out H1.out).mono ?_
  rintro e w2 ⟨a, rfl, ha, hw2⟩
  have B2 : Hid (Below w.heap.size w w2) := B1.out.trans (went_bel hw2 B1.out.size hg)
  clear hw2
  go_wp2
  go_ret
  exact ⟨_, rfl, ha, B2.out⟩

set_option maxHeartbeats 800000 in
theorem drawInSet_any (W : World) (v : Value) (n : Nat) (w : World) (hn : n ≤ 1000000000000) (hcode : CodeRow W v n) (hb : Below W.heap.size W w) :
    Calls Tryd.prog 29 #[v] w fun e w' => ∃ (a : ByteArray) (b : Nat), e = .returned (.tuple #[.string a, .int .u8 b]) ∧ a.size ≤ 13 ∧ b < 256 ∧ Below w.heap.size w w' := by
  have HC : Hid (CodeRow W v n) := hcode
  have HB : Hid (Below W.heap.size W w) := hb
  clear hcode hb
  go_enter Tryd.func29, Tryd.ntmps29
  go_wp2_with fail
  refine (new_any W v n _ hn HC.out HB.out).mono ?_
  rintro e w1 ⟨g, rfl, hc1, hb1, hg⟩
  have H1 : Hid (Cur W v n g w1) := hc1
  have B1 : Hid (Below w.heap.size w w1) := hb1
  clear hc1 hb1
  go_wp2_with fail
  refine (below_any W v n g 10 _ hn HC.out H1.out (by omega) (by omega)).mono ?_
  rintro e w2 ⟨x, rfl, ⟨x0, x1⟩, hw2⟩
  have H2 : Hid (Cur W v n g w2) := hw2.1
  have B2 : Hid (Below w.heap.size w w2) := B1.out.trans (went_bel hw2 B1.out.size hg)
  clear hw2
  obtain ⟨k, rfl⟩ := Int.eq_ofNat_of_zero_le x0
  have hk : k < (⟨#[97, 98, 99, 120, 122, 48, 53, 57, 45, 65]⟩ : ByteArray).size := by show k < 10; omega
  have hu := ((⟨#[97, 98, 99, 120, 122, 48, 53, 57, 45, 65]⟩ : ByteArray)[k]).toNat_lt
  have hk2 : (k : Int) < (((⟨#[97, 98, 99, 120, 122, 48, 53, 57, 45, 65]⟩ : ByteArray).size : Nat) : Int) := by omega
  go_wp2_with fail
  refine (any5_any W v n g _ hn HC.out H2.out).mono ?_
  rintro e w3 ⟨a, rfl, ha, hw3⟩
  have B3 : Hid (Below w.heap.size w w3) := B2.out.trans (went_bel hw3 B2.out.size hg)
  clear hw3
  go_wp2
  go_ret2
  exact ⟨_, _, rfl, ha, hu, B3.out⟩

end Go.Proofs.YtokgkjfgknjbbaaDoor
