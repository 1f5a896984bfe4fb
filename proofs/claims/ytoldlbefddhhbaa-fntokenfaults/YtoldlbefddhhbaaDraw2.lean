/- The verifier's draws, second part: a cursor made anew, a number out of a list, texts. -/
import Derived.Test.YtoldlbefddhhbaaDraw
import Derived.OpenShut
namespace Go.Proofs.Ytoldlbefddhhbaa
open Go.RowKit

theorem Try.info5d : (Try.prog.info? 5).map (fun i => (i.zero, i.size, i.bytes)) = some (some (.int .u8 0), 1, 1) := by kernel_rfl

theorem CodeRow.slice {W : World} {v : Value} {n : Nat} (h : CodeRow W v n) : ∃ a cap, v = .slice a n cap := by
  obtain ⟨a, cap, h, _⟩ := h
  exact ⟨a, cap, h⟩

theorem CodeRow.at {W w : World} {a : Option Addr} {n cap k : Nat} (h : CodeRow W (.slice a n cap) n) (hb : Below W.heap.size W w) (hk : k < n) :
    ∃ b off, ∃ z : Int, a = some ⟨b, off, none⟩ ∧ 0 ≤ z ∧ z < 256 ∧ w.cell? ⟨b, off + k, none⟩ = some (.int .u8 z) := by
  obtain ⟨a', cap', h1, h2⟩ := h
  simp only [Value.slice.injEq] at h1
  obtain ⟨rfl, _, rfl⟩ := h1
  obtain ⟨b, off, rfl, hbl, hc⟩ := h2 (by omega)
  obtain ⟨z, z0, z1, hz⟩ := hc k hk
  exact ⟨b, off, z, rfl, z0, z1, (hb.cell hbl).trans hz⟩

theorem codeRow_of {W : World} {x : Addr} {len cap : Nat} {zs : List Int} (hl : len ≤ cap) (hz : zs.length = cap) (hcell : ∀ i, i < zs.length → W.cell? (x.add i) = some (.int .u8 (zs.getD i 0))) (hw : ∀ n ∈ zs, (Lit.int .u8 n).wf = true) :
    CodeRow W (.slice (some x) len cap) len := by
  refine ⟨_, _, rfl, fun hpos => ?_⟩
  obtain ⟨b, off, spot⟩ := x
  have h0 := hcell 0 (by omega)
  have hspot : spot = none := by simpa [Addr.add] using World.cell?_spot h0
  subst hspot
  refine ⟨b, off, rfl, ?_, fun i hi => ?_⟩
  · have := World.block_lt_of_cell? W _ h0
    simpa [Addr.add] using this
  · have h1 := hcell i (by omega)
    rw [Addr.add_lit] at h1
    have hb := bounds_u8 (hw (zs.getD i 0) (by rw [List.getD_eq_getElem?_getD, List.getElem?_eq_getElem (by omega)]; exact List.getElem_mem _))
    exact ⟨_, by omega, by omega, h1⟩

set_option maxHeartbeats 800000 in
set_option maxRecDepth 100000 in
theorem new_any (W : World) (v : Value) (n : Nat) (w : World) (hn : n ≤ 1000000000000) (hcode : CodeRow W v n) (hb : Below W.heap.size W w) :
    Calls Try.prog 17 #[v] w fun e w' => ∃ g, e = .returned (.pointer (some ⟨g, 0, none⟩)) ∧ Cur W v n g w' ∧ Below w.heap.size w w' ∧ w.heap.size ≤ g := by
  have HC : Hid (CodeRow W v n) := hcode
  have HB : Hid (Below W.heap.size W w) := hb
  obtain ⟨a, cap, rfl⟩ := hcode.slice
  clear hcode hb
  have e30 := i64_and30
  go_enter Try.func17, Try.ntmps17
  go_wp2
  go_loop [3, 4] (fun hv iv => ∃ (h : Int) (i : Nat), hv = .int .i64 h ∧ iv = .int .i64 i ∧ 0 ≤ h ∧ h ≤ 1000000034601 ∧ i ≤ n) (fun _ iv => n - (intOf iv).toNat)
  case atStart => exact ⟨_, 0, rfl, rfl, by omega, by omega, Nat.zero_le _⟩
  case round =>
    obtain ⟨h, i, rfl, rfl, h0, h1, hi⟩ := hrel
    by_cases hlt : i < n
    · obtain ⟨b, off, z, rfl, z0, z1, hz⟩ := HC.out.at HB.out hlt
      by_cases h4 : i < 4000
      · go_wp2
        go_round
        case rel => exact ⟨_, i + 1, rfl, by go_num, by omega, by omega, by omega⟩
        case measure => simp [intOf]; omega
      · go_wp2
        go_ret
        exact ⟨_, rfl, ⟨HB.out.alloc HB.out.size _, HB.out.size, 0, h, by omega, by omega, by omega, by omega, heap_alloc_new w _⟩, (Below.refl _ _).alloc (Nat.le_refl _) _, Nat.le_refl _⟩
    · go_wp2
      go_ret
      exact ⟨_, rfl, ⟨HB.out.alloc HB.out.size _, HB.out.size, 0, h, by omega, by omega, by omega, by omega, heap_alloc_new w _⟩, (Below.refl _ _).alloc (Nat.le_refl _) _, Nat.le_refl _⟩


/-- What holds at each round's head of a drawn text. -/
def TxtRel (W : World) (v : Value) (n g : Nat) (w : World) (m : Int) (out iv : Value) (wr : World) : Prop :=
  ∃ (k : Nat) (l : List UInt8), iv = .int .i64 k ∧ l.length = k ∧ ((k : Int) ≤ m ∨ k = 0) ∧ wr.ownsRow w.heap.size 5 1 out k (bv l) ∧ Went W v n g w wr

theorem txtRel_step {W : World} {v vv : Value} {n g k : Nat} {w wr w1 w2 : World} {m x : Int} {out : Value} {l : List UInt8} (hl : l.length = k) (hkm : (k : Int) < m) (hx0 : 0 ≤ x) (hx1 : x < 256) (hgw : g < w.heap.size)
    (hown : wr.ownsRow w.heap.size 5 1 out k (bv l)) (h0 : Went W v n g w wr) (h1 : Went W v n g wr w1) {o : Obj}
    (hown2 : w2.ownsRow w.heap.size 5 1 vv (k + 1) (bv l ++ [.int .u8 x])) (hgrow : (w1.alloc o).grownBy w2 out.ownBlock) :
    TxtRel W v n g w m vv (.int .i64 ((k : Int) + 1)) w2 := by
  have hw := went_trans h0 h1
  have hgs := hgrow.size
  have hgl : g < w1.heap.size := hw.1.lt
  have hrow : ∀ j, out.ownBlock = some j → w.heap.size ≤ j := fun j hj => (hown.lt j hj).1
  have hblk : ∀ j, j < w1.heap.size → some j ≠ out.ownBlock → w2.heap[j]? = w1.heap[j]? := fun j hj hr => (hgrow.block j (by simp; omega) hr).trans (Below.heap_alloc w1 o j hj)
  refine ⟨k + 1, l ++ [UInt8.ofNat x.toNat], by simp, by rw [List.length_append, List.length_singleton]; omega, .inl (by omega), ?_, ?_, ?_⟩
  · rw [bv_app, bv_one, toNat_ofNat _ (by omega), Int.toNat_of_nonneg hx0]
    exact hown2
  · refine hw.1.moved ?_ (hblk g hgl (fun e => by have := hrow g e.symm; omega))
    have hW := hw.1.1
    refine ⟨hgrow.os.trans hW.os, hgrow.tape.trans hW.tape, hgrow.output.trans hW.output, ?_, fun j hj => ?_⟩
    · have := hW.size; simp at hgs; omega
    · have hs := hW.size
      have hw1 := hw.2.size
      have hWg := hw.1.2.1
      exact (hblk j (by omega) (fun e => by have := hrow j e.symm; omega)).trans (hW.block j hj)
  · refine ⟨hgrow.os.trans hw.2.os, hgrow.tape.trans hw.2.tape, hgrow.output.trans hw.2.output, ?_, fun j hj hr => ?_⟩
    · have := hw.2.size; simp at hgs; omega
    · have hw1 := hw.2.size
      exact (hblk j (by omega) (fun e => by have := hrow j e.symm; omega)).trans (hw.2.block j hj hr)

set_option maxHeartbeats 800000 in
theorem text_any (W : World) (v : Value) (n g : Nat) (m : Int) (w : World) (hn : n ≤ 1000000000000) (hcode : CodeRow W v n) (hc : Cur W v n g w) (hm : m ≤ 5000) :
    Calls Try.prog 37 #[.pointer (some ⟨g, 0, none⟩), .int .i64 m] w fun e w' => ∃ l : List UInt8, e = .returned (.string (str l)) ∧ l.length = m.toNat ∧ Went W v n g w w' := by
  obtain ⟨i0, hi, hz0, hz1, hz2⟩ := info_parts Try.info5d
  have HC : Hid (CodeRow W v n) := hcode
  have HW : Hid (Cur W v n g w) := hc
  have hgw := hc.lt
  clear hcode hc
  go_enter Try.func37, Try.ntmps37
  go_wp2
  go_loopw [5, 6] (fun out iv wr => TxtRel W v n g w m out iv wr) (fun _ iv _ => m.toNat - (intOf iv).toNat)
  case atStart =>
    refine ⟨0, [], rfl, rfl, .inr rfl, World.ownsRow_made _ _ _ (Nat.le_refl _) (by decide) rfl, ?_, ?_⟩
    · exact HW.out.moved (HW.out.1.alloc HW.out.1.size _) (Below.heap_alloc w _ g hgw)
    · exact World.grownBy_alloc w _ _
  case round =>
    obtain ⟨k, l, rfl, hl, hkm, hown, hwent⟩ := hrel
    have H0 : Hid (Went W v n g w wr) := hwent
    have HLn : Hid (l.length = k) := hl
    clear hwent hl
    by_cases hlt : (k : Int) < m
    · clear hkm
      go_wp2_with fail
      refine (byte_went W v n g _ hn HC.out H0.out.1).mono ?_
      rintro e w1 ⟨x, rfl, ⟨x0, x1⟩, hw1⟩
      have H1 : Hid (Went W v n g wr w1) := hw1
      clear hw1
      have hown1 : w1.ownsRow w.heap.size 5 1 u5 k (bv l) := hown.kept H1.out.2 (by
        rcases hown.2 with ⟨rfl, _⟩ | ⟨gg, _, _, rfl, hgg, _⟩
        · exact .inl rfl
        · right
          intro e
          have h9 : gg = g := by simpa [Value.ownBlock] using e
          omega)
      go_wp2_with (at_builtin; refine wpList_append_own _ rfl _ _ 28 rfl w.heap.size 5 i0 (.int .u8 0) 1 1 Try.underlying28 hi hz0 hz1 hz2 rfl (by decide) _ _ _ rfl (hown1.alloc _) ⟨w1.heap.size, 0, none⟩ 1 1 [.int .u8 x] rfl rfl (one_at _ _ _) (one_cell _ _) (by unfold maxLen; omega) (by omega) (by have h8 := H0.out.2.size; have h9 := H1.out.2.size; simp; omega) ?_)
      intro v' w2 hown2 hgrow _
      have R := txtRel_step HLn.out hlt x0 x1 hgw hown H0.out H1.out hown2 hgrow
      clear hown2 hgrow hown hown1
      go_wp2
      go_roundw
      case rel => exact R
      case measure => simp [intOf]; omega
    · have hown3 := hown
      rw [← HLn.out] at hown3
      have hcv := own_string (P := Try.prog) (dst := 9) l Try.underlying28 Try.underlying5 Try.underlying9 hown3
      clear hown3 hown
      go_wp2
      go_ret
      exact ⟨l, rfl, by have := HLn.out; omega, H0.out⟩

end Go.Proofs.Ytoldlbefddhhbaa
