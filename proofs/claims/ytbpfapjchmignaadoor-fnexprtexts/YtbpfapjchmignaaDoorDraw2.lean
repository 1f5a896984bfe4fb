/- The verifier's draws, second part: a cursor made anew, a number out of a list, texts. -/
import Derived.Test.YtbpfapjchmignaaDoorDraw
import Derived.OpenShut
namespace Go.Proofs.YtbpfapjchmignaaDoor
open Go.RowKit

theorem Tryd.info5d : (Tryd.prog.info? 5).map (fun i => (i.zero, i.size, i.bytes)) = some (some (.int .u8 0), 1, 1) := by kernel_rfl

theorem CodeRow.slice {W : World} {v : Value} {n : Nat} (h : CodeRow W v n) : ∃ a cap, v = .slice a n cap := by
  obtain ⟨a, cap, h, _⟩ := h
  exact ⟨a, cap, h⟩

theorem CodeRow.at {W w : World} {a : Option Addr} {n cap k : Nat} (h : CodeRow W (.slice a n cap) n) (hb : Below W.heap.size W w) (hk : k < n) :
    ∃ b off, ∃ z : Int, a = some ⟨b, off, none⟩ ∧ 0 ≤ z ∧ z < 256 ∧ w.cell? ⟨b, off + k, none⟩ = some (.int .u8 z) := by
  obtain ⟨a', cap', h1, h2⟩ := h
  simp only [Value.slice.injEq] at h1
  obtain ⟨rfl, _, rfl⟩ := h1
  obtain ⟨b, off, rfl, hbl, hc⟩ := h2 (by omega)
  obtain ⟨z, z0, z1, hz⟩ := hc k hk
  exact ⟨b, off, z, rfl, z0, z1, (hb.cell hbl).trans hz⟩

theorem codeRow_of {W : World} {x : Addr} {len cap : Nat} {zs : List Int} (hl : len ≤ cap) (hz : zs.length = cap) (hcell : ∀ i, i < zs.length → W.cell? (x.add i) = some (.int .u8 (zs.getD i 0))) (hw : ∀ n ∈ zs, (Lit.int .u8 n).wf = true) :
    CodeRow W (.slice (some x) len cap) len := by
  refine ⟨_, _, rfl, fun hpos => ?_⟩
  obtain ⟨b, off, spot⟩ := x
  have h0 := hcell 0 (by omega)
  have hspot : spot = none := by simpa [Addr.add] using World.cell?_spot h0
  subst hspot
  refine ⟨b, off, rfl, ?_, fun i hi => ?_⟩
  · have := World.block_lt_of_cell? W _ h0
    simpa [Addr.add] using this
  · have h1 := hcell i (by omega)
    rw [Addr.add_lit] at h1
    have hb := bounds_u8 (hw (zs.getD i 0) (by rw [List.getD_eq_getElem?_getD, List.getElem?_eq_getElem (by omega)]; exact List.getElem_mem _))
    exact ⟨_, by omega, by omega, h1⟩

set_option maxHeartbeats 800000 in
set_option maxRecDepth 100000 in
theorem new_any (W : World) (v : Value) (n : Nat) (w : World) (hn : n ≤ 1000000000000) (hcode : CodeRow W v n) (hb : Below W.heap.size W w) :
    Calls Tryd.prog 11 #[v] w fun e w' => ∃ g, e = .returned (.pointer (some ⟨g, 0, none⟩)) ∧ Cur W v n g w' ∧ Below w.heap.size w w' ∧ w.heap.size ≤ g := by
  have HC : Hid (CodeRow W v n) := hcode
  have HB : Hid (Below W.heap.size W w) := hb
  obtain ⟨a, cap, rfl⟩ := hcode.slice
  clear hcode hb
  have e30 := i64_and30
  go_enter Tryd.func11, Tryd.ntmps11
  go_wp2
  go_loop [3, 4] (fun hv iv => ∃ (h : Int) (i : Nat), hv = .int .i64 h ∧ iv = .int .i64 i ∧ 0 ≤ h ∧ h ≤ 1000000034601 ∧ i ≤ n) (fun _ iv => n - (intOf iv).toNat)
  case atStart => exact ⟨_, 0, rfl, rfl, by omega, by omega, Nat.zero_le _⟩
  case round =>
    obtain ⟨h, i, rfl, rfl, h0, h1, hi⟩ := hrel
    by_cases hlt : i < n
    · obtain ⟨b, off, z, rfl, z0, z1, hz⟩ := HC.out.at HB.out hlt
      by_cases h4 : i < 4000
      · go_wp2
        go_round
        case rel => exact ⟨_, i + 1, rfl, by go_num, by omega, by omega, by omega⟩
        case measure => simp [intOf]; omega
      · go_wp2
        go_ret
        exact ⟨_, rfl, ⟨HB.out.alloc HB.out.size _, HB.out.size, 0, h, by omega, by omega, by omega, by omega, heap_alloc_new w _⟩, (Below.refl _ _).alloc (Nat.le_refl _) _, Nat.le_refl _⟩
    · go_wp2
      go_ret
      exact ⟨_, rfl, ⟨HB.out.alloc HB.out.size _, HB.out.size, 0, h, by omega, by omega, by omega, by omega, heap_alloc_new w _⟩, (Below.refl _ _).alloc (Nat.le_refl _) _, Nat.le_refl _⟩

set_option maxHeartbeats 800000 in
theorem pickInt_any (W : World) (v : Value) (n g m gl cap : Nat) (w : World) (hn : n ≤ 1000000000000) (hcode : CodeRow W v n) (hc : Cur W v n g w) (hm : 0 < m) (hm1 : m ≤ 4294967296) (hne : gl ≠ g)
    (hl : ∀ i, i < m → ∃ y : Int, w.cell? ⟨gl, i, none⟩ = some (.int .i64 y) ∧ -9223372036854775808 ≤ y ∧ y ≤ 9223372036854775807) :
    Calls Tryd.prog 22 #[.pointer (some ⟨g, 0, none⟩), .slice (some ⟨gl, 0, none⟩) m cap] w fun e w' =>
      ∃ y : Int, e = .returned (.int .i64 y) ∧ (-9223372036854775808 ≤ y ∧ y ≤ 9223372036854775807) ∧ Went W v n g w w' := by
  have HC : Hid (CodeRow W v n) := hcode
  have HW : Hid (Cur W v n g w) := hc
  have HL : Hid (∀ i, i < m → ∃ y : Int, w.cell? ⟨gl, i, none⟩ = some (.int .i64 y) ∧ -9223372036854775808 ≤ y ∧ y ≤ 9223372036854775807) := hl
  clear hcode hc hl
  go_enter Tryd.func22, Tryd.ntmps22
  go_wp2_with fail
  refine (below_any W v n g m _ hn HC.out HW.out (by omega) (by omega)).mono ?_
  rintro e w1 ⟨x, rfl, ⟨x0, x1⟩, hw1⟩
  have H1 : Hid (Went W v n g w w1) := hw1
  clear hw1
  obtain ⟨k, rfl⟩ := Int.eq_ofNat_of_zero_le x0
  obtain ⟨y, hy, y0, y1⟩ := HL.out k (by omega)
  have hy1 : w1.cell? ⟨gl, k, none⟩ = some (.int .i64 y) := H1.out.2.cell hy (fun e => hne (Option.some.inj e))
  clear hy
  go_wp2
  go_ret
  exact ⟨_, rfl, ⟨y0, y1⟩, H1.out⟩


end Go.Proofs.YtbpfapjchmignaaDoor
