/- What the verifier's whole draws of names with numbers answer. -/
import Derived.Test.YtneobgikailhjaaEnvAny
import Derived.Test.YtneobgikailhjaaPlaces
namespace Go.Proofs.Ytneobgikailhjaa
open Go.RowKit

theorem drawEnv_any (W : World) (v : Value) (n : Nat) (w : World) (hn : n ≤ 1000000000000) (hcode : CodeRow W v n) (hb : Below W.heap.size W w) :
    Calls Try.prog 9 #[v] w fun e w' => ∃ o xs, e = .returned o ∧ EnvGood xs 4 ∧ OwnV w.heap.size o xs w' ∧ Below w.heap.size w w' := by
  have HC : Hid (CodeRow W v n) := hcode
  have HB : Hid (Below W.heap.size W w) := hb
  clear hcode hb
  go_enter Try.func9, Try.ntmps9
  go_wp2_with fail
  refine (new_any W v n _ hn HC.out HB.out).mono ?_
  rintro e w1 ⟨g, rfl, hc1, hb1, hg⟩
  have H1 : Hid (Cur W v n g w1) := hc1
  have B1 : Hid (Below w.heap.size w w1) := hb1
  clear hc1 hb1
  go_wp2_with fail
  refine (env_any W v n g _ hn HC.out H1.out).mono ?_
  rintro e w2 ⟨o, xs, rfl, hgood, ho, hw2⟩
  have B2 : Hid (Below w.heap.size w w2) := B1.out.trans (went_bel hw2 B1.out.size hg)
  have HO : Hid (OwnV w.heap.size o xs w2) := World.ownsRow.mono ho B1.out.size
  clear hw2 ho
  go_wp2
  go_ret
  exact ⟨_, _, rfl, hgood, HO.out, B2.out⟩


theorem drawEnvGet_any (W : World) (v : Value) (n : Nat) (w : World) (hn : n ≤ 1000000000000) (hcode : CodeRow W v n) (hb : Below W.heap.size W w) :
    Calls Try.prog 16 #[v] w fun e w' => ∃ o xs name, e = .returned (.tuple #[o, .string name]) ∧ AnyV xs 8 ∧ name.size ≤ 4 ∧ OwnV w.heap.size o xs w' ∧ Below w.heap.size w w' := by
  have HC : Hid (CodeRow W v n) := hcode
  have HB : Hid (Below W.heap.size W w) := hb
  clear hcode hb
  go_enter Try.func16, Try.ntmps16
  go_wp2_with fail
  refine (new_any W v n _ hn HC.out HB.out).mono ?_
  rintro e w1 ⟨g, rfl, hc1, hb1, hg⟩
  have H1 : Hid (Cur W v n g w1) := hc1
  have B1 : Hid (Below w.heap.size w w1) := hb1
  clear hc1 hb1
  go_wp2_with fail
  refine (name_any W v n g _ hn HC.out H1.out).mono ?_
  rintro e w2 ⟨name, rfl, hnm, hw2⟩
  have HN : Hid (name.size ≤ 4) := names5_size _ hnm
  have H2 : Hid (Cur W v n g w2) := hw2.1
  have B2 : Hid (Below w.heap.size w w2) := B1.out.trans (went_bel hw2 B1.out.size hg)
  clear hw2 hnm
  go_wp2_with fail
  refine (any_any W v n g _ hn HC.out H2.out).mono ?_
  rintro e w3 ⟨o, xs, rfl, hgood, ho, hw3⟩
  have B3 : Hid (Below w.heap.size w w3) := B2.out.trans (went_bel hw3 B2.out.size hg)
  have HO : Hid (OwnV w.heap.size o xs w3) := World.ownsRow.mono ho B2.out.size
  clear hw3 ho
  go_wp2
  go_ret2
  exact ⟨_, _, _, rfl, hgood, HN.out, HO.out, B3.out⟩

def names6 : List ByteArray := [⟨#[]⟩, ⟨#[97]⟩, ⟨#[97, 98, 99, 100]⟩, ⟨#[97, 98, 99, 100, 101]⟩, ⟨#[65]⟩, ⟨#[97, 49]⟩]
theorem names6_size : ∀ s ∈ names6, s.size ≤ 5 := by
  intro s hs
  simp only [names6, List.mem_cons, List.not_mem_nil, or_false] at hs
  rcases hs with rfl | rfl | rfl | rfl | rfl | rfl <;> decide
set_option maxHeartbeats 800000 in
set_option maxRecDepth 100000 in
theorem drawVarName_any (W : World) (v : Value) (n : Nat) (w : World) (hn : n ≤ 1000000000000) (hcode : CodeRow W v n) (hb : Below W.heap.size W w) :
    Calls Try.prog 18 #[v] w fun e w' => ∃ s : ByteArray, e = .returned (.string s) ∧ s.size ≤ 5 ∧ Below w.heap.size w w' := by
  have HC : Hid (CodeRow W v n) := hcode
  have HB : Hid (Below W.heap.size W w) := hb
  clear hcode hb
  go_enter Try.func18, Try.ntmps18
  go_wp2_with fail
  refine (new_any W v n _ hn HC.out HB.out).mono ?_
  rintro e w1 ⟨g, rfl, hc1, hb1, hg⟩
  have H1 : Hid (Cur W v n g w1) := hc1
  have B1 : Hid (Below w.heap.size w w1) := hb1
  have hgl : g < w1.heap.size := hc1.lt
  clear hc1 hb1
  have HA : Hid (Went W v n g w1 (w1.alloc (.cells (names6.map Value.string).toArray 9))) := went_alloc H1.out _
  have HL : Hid (∀ i, i < 6 → ∃ y : ByteArray, (w1.alloc (.cells (names6.map Value.string).toArray 9)).cell? ⟨w1.heap.size, i, none⟩ = some (.string y) ∧ y.size ≤ 5) := fun i hi => by
    refine ⟨names6[i]'(by simpa [names6] using hi), ?_, names6_size _ (List.getElem_mem _)⟩
    rw [lit_row w1 (names6.map Value.string) 9 i (by simpa [names6] using hi)]
    simp
  go_wp2_with fail
  refine (pickP_any (fun y => y.size ≤ 5) W v n g 6 w1.heap.size 6 _ hn HC.out HA.out.1 (by omega) (by omega) (by omega) HL.out).mono ?_
  rintro e w2 ⟨y, rfl, hy, hw2⟩
  have B2 : Hid (Below w.heap.size w w2) := B1.out.trans (went_bel (went_trans HA.out hw2) B1.out.size hg)
  clear hw2
  go_wp2
  go_ret
  exact ⟨_, rfl, hy, B2.out⟩

def names6b : List ByteArray := [⟨#[97]⟩, ⟨#[98]⟩, ⟨#[110]⟩, ⟨#[120]⟩, ⟨#[110, 101, 119]⟩, ⟨#[66, 97, 100]⟩]
theorem names6b_size : ∀ s ∈ names6b, s.size ≤ 5 := by
  intro s hs
  simp only [names6b, List.mem_cons, List.not_mem_nil, or_false] at hs
  rcases hs with rfl | rfl | rfl | rfl | rfl | rfl <;> decide
def nums5 : List Int := [0, 5, -5, 9999, 10000]
theorem nums5_in : ∀ z ∈ nums5, -10000 ≤ z ∧ z ≤ 10000 := by decide
set_option maxHeartbeats 800000 in
set_option maxRecDepth 100000 in
theorem drawEnvSet_any (W : World) (v : Value) (n : Nat) (w : World) (hn : n ≤ 1000000000000) (hcode : CodeRow W v n) (hb : Below W.heap.size W w) :
    Calls Try.prog 14 #[v] w fun e w' => ∃ o xs name num, e = .returned (.tuple #[o, .string name, .int .i64 num]) ∧ AnyV xs 8 ∧ name.size ≤ 5 ∧ (-10000 ≤ num ∧ num ≤ 10000) ∧ OwnV w.heap.size o xs w' ∧ Below w.heap.size w w' := by
  have HC : Hid (CodeRow W v n) := hcode
  have HB : Hid (Below W.heap.size W w) := hb
  clear hcode hb
  go_enter Try.func14, Try.ntmps14
  go_wp2_with fail
  refine (new_any W v n _ hn HC.out HB.out).mono ?_
  rintro e w1 ⟨g, rfl, hc1, hb1, hg⟩
  have H1 : Hid (Cur W v n g w1) := hc1
  have B1 : Hid (Below w.heap.size w w1) := hb1
  have hgl : g < w1.heap.size := hc1.lt
  clear hc1 hb1
  have HA : Hid (Went W v n g w1 (w1.alloc (.cells (names6b.map Value.string).toArray 9))) := went_alloc H1.out _
  have HL : Hid (∀ i, i < 6 → ∃ y : ByteArray, (w1.alloc (.cells (names6b.map Value.string).toArray 9)).cell? ⟨w1.heap.size, i, none⟩ = some (.string y) ∧ y.size ≤ 5) := fun i hi => by
    refine ⟨names6b[i]'(by simpa [names6b] using hi), ?_, names6b_size _ (List.getElem_mem _)⟩
    rw [lit_row w1 (names6b.map Value.string) 9 i (by simpa [names6b] using hi)]
    simp
  go_wp2_with fail
  refine (pickP_any (fun y => y.size ≤ 5) W v n g 6 w1.heap.size 6 _ hn HC.out HA.out.1 (by omega) (by omega) (by omega) HL.out).mono ?_
  rintro e w2 ⟨name, rfl, hnm, hw2⟩
  have HN : Hid (name.size ≤ 5) := hnm
  have H2 : Hid (Cur W v n g w2) := hw2.1
  have B2 : Hid (Below w.heap.size w w2) := B1.out.trans (went_bel (went_trans HA.out hw2) B1.out.size hg)
  have hgl2 : g < w2.heap.size := hw2.1.lt
  clear hw2 hnm HA HL
  have HA : Hid (Went W v n g w2 (w2.alloc (.cells (nums5.map (Value.int .i64)).toArray 3))) := went_alloc H2.out _
  have HL : Hid (∀ i, i < 5 → ∃ y : Int, (w2.alloc (.cells (nums5.map (Value.int .i64)).toArray 3)).cell? ⟨w2.heap.size, i, none⟩ = some (.int .i64 y) ∧ (-10000 ≤ y ∧ y ≤ 10000)) := fun i hi => by
    refine ⟨nums5[i]'(by simpa [nums5] using hi), ?_, nums5_in _ (List.getElem_mem _)⟩
    rw [lit_row w2 (nums5.map (Value.int .i64)) 3 i (by simpa [nums5] using hi)]
    simp
  go_wp2_with fail
  refine (pickIntP_any (fun y => -10000 ≤ y ∧ y ≤ 10000) W v n g 5 w2.heap.size 5 _ hn HC.out HA.out.1 (by omega) (by omega) (by omega) HL.out).mono ?_
  rintro e w3 ⟨num, rfl, hnum, hw3⟩
  have HM : Hid (-10000 ≤ num ∧ num ≤ 10000) := hnum
  have H3 : Hid (Cur W v n g w3) := hw3.1
  have B3 : Hid (Below w.heap.size w w3) := B2.out.trans (went_bel (went_trans HA.out hw3) B2.out.size hg)
  clear hw3 hnum HA HL
  go_wp2_with fail
  refine (any_any W v n g _ hn HC.out H3.out).mono ?_
  rintro e w4 ⟨o, xs, rfl, hgood, ho, hw4⟩
  have B4 : Hid (Below w.heap.size w w4) := B3.out.trans (went_bel hw4 B3.out.size hg)
  have HO : Hid (OwnV w.heap.size o xs w4) := World.ownsRow.mono ho B3.out.size
  clear hw4 ho
  go_wp2
  go_ret3
  exact ⟨_, _, _, _, rfl, hgood, HN.out, HM.out, HO.out, B4.out⟩

end Go.Proofs.Ytneobgikailhjaa
