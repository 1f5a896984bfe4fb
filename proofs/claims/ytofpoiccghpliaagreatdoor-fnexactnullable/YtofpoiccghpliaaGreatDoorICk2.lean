/- The program's isSymText, checkArg and checkCall. -/
import Derived.Test.YtofpoiccghpliaaGreatDoorICk
import Derived.Test.YtofpoiccghpliaaGreatDoorXFreeJ
namespace Go.Proofs.YtofpoiccghpliaaGreatDoor
open Go.RowKit

def moreB : List UInt8 := [43, 45, 42, 94, 40, 41, 91, 93, 58, 44, 59, 46, 61, 60, 62]
theorem signs_idx : ∀ k : Fin 256, decide (Lib.indexByte moreB (UInt8.ofNat k.1) < 0) = !(moreL.any (· == k.1)) := by decide +kernel
theorem sign_idx (b : UInt8) (h0 : kindP b.toNat = 0) : decide (Lib.indexByte moreB b < 0) = !(sign6 b.toNat) := by
  have h := signs_idx ⟨b.toNat, b.toNat_lt⟩
  have e : UInt8.ofNat b.toNat = b := by simp
  simp only [e] at h
  have hk : okb b.toNat = false := by
    unfold kindP at h0
    split at h0
    · cases h0
    · split at h0
      · cases h0
      · unfold okb; simp; omega
  have e2 : sign6 b.toNat = moreL.any (· == b.toNat) := by
    rw [sign6, okM, hk, Bool.false_or]; rfl
  rw [h, e2]
theorem sign_kind (b : Nat) (h0 : ¬ kindP b = 0) : sign6 b = true := by
  have hk : okb b = true := by
    unfold kindP at h0
    split at h0
    · unfold okb; simp; omega
    · split at h0
      · unfold okb; simp; omega
      · exact absurd rfl h0
  rw [sign6, okM, hk, Bool.true_or]

set_option maxHeartbeats 1600000 in
set_option maxRecDepth 100000 in
theorem isSymText_any (s : ByteArray) (w : World) (hs : s.size ≤ 1048576) :
    Calls Tryz.prog 87 #[.string s] w fun e w' => e = .returned (.bool (text6 s)) ∧ w' = w := by
  have HB : Hid (text6 s = (text6To s s.size && decide ((1 : Int) ≤ s.size ∧ (s.size : Int) ≤ 8))) := rfl
  by_cases h1 : s.size < 1
  · have HV : Hid (text6 s = false) := by rw [Hid, HB.out]; simp; omega
    go_enter Tryz.func87, Tryz.ntmps87
    go_wp2
    go_ret
    rw [HV.out]
    exact ⟨rfl, rfl⟩
  by_cases h6 : 8 < s.size
  · have HV : Hid (text6 s = false) := by rw [Hid, HB.out]; simp; omega
    go_enter Tryz.func87, Tryz.ntmps87
    go_wp2
    go_ret
    rw [HV.out]
    exact ⟨rfl, rfl⟩
  have HL : Hid (text6 s = text6To s s.size) := by rw [Hid, HB.out]; simp; omega
  have d1 : decide ((s.size : Int) < 1) = false := by rw [decide_eq_false]; omega
  have d2 : decide ((8 : Int) < (s.size : Int)) = false := by rw [decide_eq_false]; omega
  go_enter Tryz.func87, Tryz.ntmps87
  go_wp2
  go_loopw [14] (fun iv wr => ∃ k : Nat, iv = .int .i64 k ∧ k ≤ s.size ∧ text6To s k = true ∧ wr = w) (fun iv _ => s.size - (intOf iv).toNat)
  case atStart => exact ⟨0, rfl, Nat.zero_le _, rfl, rfl⟩
  case round =>
    obtain ⟨k, rfl, hk, hto, hwr⟩ := hrel
    rw [hwr]
    clear hwr
    have HTo : Hid (text6To s k = true) := hto
    clear hto
    by_cases hlt : k < s.size
    · have hu := s[k].toNat_lt
      have HNx : Hid (_ = _) := text6To_next s k hlt
      have HNo : Hid (sign6 s[k].toNat = false → text6 s = false) := fun h => text6_no s k hlt h
      have i4 : (k : Int) < (s.size : Int) := by omega
      have HKk : Hid (∀ W, _) := fun W => kind_any s[k].toNat (by omega) W
      by_cases hz : kindP s[k].toNat = 0
      · rw [hz] at HKk
        have HS : Hid (_ = _) := sign_idx s[k] hz
        have HG : Hid (∀ W, Calls Tryz.prog 101 #[.string { data := #[43, 45, 42, 94, 40, 41, 91, 93, 58, 44, 59, 46, 61, 60, 62] }, .int .u8 s[k].toNat] W fun e w' => e = .returned (.int .i64 (Lib.indexByte moreB s[k])) ∧ w' = W) := fun W => by
          refine (Tryz.strings_IndexByte _ _ _).mono ?_
          rintro e w' ⟨rfl, rfl⟩
          refine ⟨?_, rfl⟩
          have e1 : ((s[k].toNat : Int).toNat).toUInt8 = s[k] := by simp
          rw [e1]
          rfl
        clear hz
        generalize Lib.indexByte moreB s[k] = r at *
        cases hg : sign6 s[k].toNat with
        | true =>
          have hr : decide (r < 0) = false := by rw [HS.out, hg]; rfl
          clear HS HNo
          go_wp2_with (first
            | (go_at_call 84; refine (HKk.out _).mono ?_; rintro e wq ⟨rfl, hw⟩; rw [hw]; clear hw)
            | (go_at_call 101; refine (HG.out _).mono ?_; rintro e wq ⟨rfl, hw⟩; rw [hw]; clear hw))
          go_roundw
          case rel => exact ⟨k + 1, by go_num, by omega, by rw [HNx.out, HTo.out, hg]; rfl, (by first | rfl | trivial)⟩
          case measure => simp [intOf]; omega
        | false =>
          have hr : decide (r < 0) = true := by rw [HS.out, hg]; rfl
          have HV : Hid (text6 s = false) := HNo.out hg
          clear HS HNo hg
          go_wp2_with (first
            | (go_at_call 84; refine (HKk.out _).mono ?_; rintro e wq ⟨rfl, hw⟩; rw [hw]; clear hw)
            | (go_at_call 101; refine (HG.out _).mono ?_; rintro e wq ⟨rfl, hw⟩; rw [hw]; clear hw))
          go_ret
          rw [HV.out]
          exact ⟨rfl, rfl⟩
      · have HY : Hid (sign6 s[k].toNat = true) := sign_kind _ hz
        obtain ⟨q, hq⟩ : ∃ q : Int, q = kindP s[k].toNat := ⟨_, rfl⟩
        rw [← hq] at HKk hz
        clear hq
        have hz2 : (q == 0) = false := by simpa using hz
        go_wp2_with (go_at_call 84; refine (HKk.out _).mono ?_; rintro e wq ⟨rfl, hw⟩; rw [hw]; clear hw)
        go_roundw
        case rel => exact ⟨k + 1, by go_num, by omega, by rw [HNx.out, HTo.out, HY.out]; rfl, (by first | rfl | trivial)⟩
        case measure => simp [intOf]; omega
    · obtain rfl : k = s.size := by omega
      have HV : Hid (text6 s = true) := by rw [Hid, HL.out, HTo.out]
      go_wp2
      go_ret
      rw [HV.out]
      exact ⟨rfl, rfl⟩

theorem all_no {α : Type} {p : α → Bool} {xs : List α} {k : Nat} (h : k < xs.length) (hp : p xs[k] = false) : xs.all p = false := by
  rw [List.all_eq_false]
  exact ⟨xs[k], List.getElem_mem h, by rw [hp]; decide⟩
theorem all_to {α : Type} {p : α → Bool} {xs : List α} {k : Nat} (h : k < xs.length) (h1 : (xs.take k).all p = true) (hp : p xs[k] = true) : (xs.take (k + 1)).all p = true := by
  rw [List.take_succ_eq_append_getElem h, List.all_append, h1]
  simp [hp]

set_option maxHeartbeats 1600000 in
set_option maxRecDepth 100000 in
theorem checkArg_any (v u : Value) (ns : List NodeD) (known : List ByteArray) (w : World) (hg : errTy w) (hk : known.length ≤ 1048576) (h : NRow w v ns) (h' : SRow w u known) :
    Calls Tryz.prog 90 #[.agg #[v], u] w fun e w' => e = okE (knownB ns known) ∧ Below w.heap.size w w' := by
  have HR : Hid (NRow w v ns) := h
  have HK : Hid (SRow w u known) := h'
  have HG : Hid (errTy w) := hg
  obtain ⟨a, cap, rfl⟩ := h.slice
  obtain ⟨a', cap', rfl⟩ := h'.slice
  clear h h' hg
  have hfl := free_len ns
  have B0 : Hid (Below w.heap.size w (w.alloc (.cells #[.slice a ns.length cap] 107))) := (Below.refl _ _).alloc (Nat.le_refl _) _
  have E0 : (w.alloc (.cells #[.slice a ns.length cap] 107)).cell? ⟨w.heap.size, 0, none⟩ = some (.slice a ns.length cap) := box_at _ _ _ 0 _ rfl
  have HX : Hid (∀ W, Below w.heap.size w W → _) := fun W hb => implExprOk_any (.slice a ns.length cap) ns W (HG.out.below hb) (HR.out.below hb)
  cases hx : exprB ns with
  | false =>
    rw [hx] at HX
    have HV : Hid (knownB ns known = false) := by rw [Hid, knownB, hx, Bool.and_false]
    clear hx
    go_enter Tryz.func90, Tryz.ntmps90
    go_wp2_with fail
    refine (HX.out _ B0.out).mono ?_
    rintro e w1 ⟨rfl, hb1⟩
    have B1 : Hid (Below w.heap.size w w1) := B0.out.trans (hb1.mono B0.out.size)
    clear hb1
    go_wp2_with (go_at_call 58; refine (want_no _).mono ?_; rintro e wq ⟨rfl, hw⟩; rw [hw]; clear hw)
    rw [HV.out]
    exact ⟨rfl, rfl, B1.out⟩
  | true =>
    rw [hx] at HX
    have HV : Hid (knownB ns known = (freeB ns).all (inB known)) := by rw [Hid, knownB, hx, Bool.and_true]
    clear hx
    go_enter Tryz.func90, Tryz.ntmps90
    go_wp2_with fail
    refine (HX.out _ B0.out).mono ?_
    rintro e w1 ⟨rfl, hb1⟩
    have B1 : Hid (Below w.heap.size w w1) := B0.out.trans (hb1.mono B0.out.size)
    have E1 := cell_keep E0 hb1
    have F1 : Hid (∀ _ : Unit, _) := fun _ => implFreeOf_any (.slice a ns.length cap) ns w1 (HG.out.below B1.out) (HR.out.below B1.out)
    clear hb1
    go_wp2_with (go_at_call 58; refine (want_yes _).mono ?_; rintro e wq ⟨rfl, hw⟩; rw [hw]; clear hw)
    refine (F1.out ()).mono ?_
    rintro e w2 ⟨o, rfl, ho, hb2⟩
    have B2 : Hid (Below w.heap.size w w2) := B1.out.trans (hb2.mono B1.out.size)
    have HF : Hid (SRow w2 o (freeB ns)) := ho.row
    obtain ⟨af, cf, rfl⟩ := ho.row.slice
    clear ho hb2 F1
    generalize freeB ns = fs at *
    go_wp2
    go_loopw [12] (fun iv wr => ∃ k : Nat, iv = .int .i64 k ∧ k ≤ fs.length ∧ (fs.take k).all (inB known) = true ∧ wr = w2) (fun iv _ => fs.length - (intOf iv).toNat)
    case atStart => exact ⟨0, rfl, Nat.zero_le _, rfl, rfl⟩
    case round =>
      obtain ⟨k, rfl, hkk, hto, hwr⟩ := hrel
      rw [hwr]
      clear hwr
      have HTo : Hid ((fs.take k).all (inB known) = true) := hto
      clear hto
      by_cases hlt : k < fs.length
      · obtain ⟨b, off, rfl, hc⟩ := HF.out.at hlt
        have i4 : (k : Int) < (fs.length : Int) := by omega
        cases hin : inB known fs[k] with
        | false =>
          have HC : Hid (∀ _ : Unit, _) := fun _ => contains_is (.slice a' known.length cap') known fs[k] false hin w2 hk (HK.out.below B2.out)
          have HV2 : Hid (knownB ns known = false) := by rw [Hid, HV.out]; exact all_no hlt hin
          clear hin
          go_wp2_with (first
            | (go_at_call 102; refine (HC.out ()).mono ?_; rintro e wq ⟨rfl, hw⟩; rw [hw]; clear hw)
            | (go_at_call 58; refine (want_no _).mono ?_; rintro e wq ⟨rfl, hw⟩; rw [hw]; clear hw))
          rw [HV2.out]
          exact ⟨rfl, rfl, B2.out⟩
        | true =>
          have HC : Hid (∀ _ : Unit, _) := fun _ => contains_is (.slice a' known.length cap') known fs[k] true hin w2 hk (HK.out.below B2.out)
          have HN : Hid ((fs.take (k + 1)).all (inB known) = true) := all_to hlt HTo.out hin
          clear hin
          go_wp2_with (first
            | (go_at_call 102; refine (HC.out ()).mono ?_; rintro e wq ⟨rfl, hw⟩; rw [hw]; clear hw)
            | (go_at_call 58; refine (want_yes _).mono ?_; rintro e wq ⟨rfl, hw⟩; rw [hw]; clear hw))
          go_roundw
          case rel => exact ⟨k + 1, by go_num, by omega, HN.out, (by first | rfl | trivial)⟩
          case measure => simp [intOf]; omega
      · obtain rfl : k = fs.length := by omega
        have HV2 : Hid (knownB ns known = true) := by
          have := HTo.out
          rw [List.take_of_length_le (Nat.le_refl _)] at this
          rw [Hid, HV.out, this]
        go_wp2
        go_end0
        rw [HV2.out]
        exact ⟨rfl, B2.out⟩

end Go.Proofs.YtofpoiccghpliaaGreatDoor
