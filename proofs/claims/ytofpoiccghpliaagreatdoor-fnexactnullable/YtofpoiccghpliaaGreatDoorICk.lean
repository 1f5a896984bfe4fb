/- The program's checks of grammars: want, checkParams, isSymText, checkArg, checkCall. A check that fails panics with the program's own value. -/
import Derived.Test.YtofpoiccghpliaaGreatDoorGGram
import Derived.Test.YtofpoiccghpliaaGreatDoorEnvAsc
import Derived.Test.YtofpoiccghpliaaGreatDoorE18V
import Derived.Test.YtofpoiccghpliaaGreatDoorEnvImpl
import Derived.Test.YtofpoiccghpliaaGreatDoorSetRead
import Derived.Test.YtofpoiccghpliaaGreatDoorXFreeJ
import Derived.WalkLawsBesides
namespace Go.Proofs.YtofpoiccghpliaaGreatDoor
open Go.RowKit

/-- What a check panics with. -/
def nrC : List PanicEntry := [{ v := .iface 111 (.agg #[]), recovered := false }]
def okE (b : Bool) : Ending := if b then .returned (.tuple #[]) else .panicked nrC
theorem okE_yes : okE true = .returned (.tuple #[]) := rfl
theorem okE_no : okE false = .panicked nrC := rfl

theorem want_yes (w : World) : Calls Tryz.prog 58 #[.bool true] w fun e w' => e = .returned (.tuple #[]) ∧ w' = w := by
  go_enter Tryz.func58, Tryz.ntmps58
  go_wp2
  go_end0
  exact ⟨rfl, rfl⟩
theorem want_no (w : World) : Calls Tryz.prog 58 #[.bool false] w fun e w' => e = .panicked nrC ∧ w' = w := by
  go_enter Tryz.func58, Tryz.ntmps58
  go_wp2
  exact ⟨rfl, rfl, rfl⟩

-- the library's search for a text
def idxS (x : ByteArray) : Nat → List ByteArray → Int
  | _, [] => -1
  | i, s :: ss => if s = x then (i : Int) else idxS x (i + 1) ss
theorem idxS_drop (ss : List ByteArray) (x : ByteArray) (k : Nat) (h : k < ss.length) : idxS x k (ss.drop k) = if ss[k] = x then (k : Int) else idxS x (k + 1) (ss.drop (k + 1)) := by
  rw [List.drop_eq_getElem_cons h, idxS]
theorem idxS_in (x : ByteArray) : ∀ (i : Nat) (ss : List ByteArray), decide (0 ≤ idxS x i ss) = inB ss x
  | i, [] => by simp [idxS, inB]
  | i, s :: ss => by
    rw [idxS]
    by_cases h : s = x
    · rw [if_pos h]
      simp [inB, h]
    · rw [if_neg h, idxS_in x (i + 1) ss]
      simp [inB, h]

set_option maxHeartbeats 1600000 in
theorem index_any (v : Value) (ss : List ByteArray) (x : ByteArray) (w : World) (hn : ss.length ≤ 1048576) (h : SRow w v ss) :
    Calls Tryz.prog 111 #[v, .string x] w fun e w' => e = .returned (.int .i64 (idxS x 0 ss)) ∧ w' = w := by
  obtain ⟨a, cap, rfl⟩ := h.slice
  have HR : Hid (SRow w (.slice a ss.length cap) ss) := h
  clear h
  go_enter Tryz.func111, Tryz.ntmps111
  go_wp2
  go_loopw [8] (fun iv wr => ∃ k : Nat, iv = .int .i64 k ∧ k ≤ ss.length ∧ idxS x k (ss.drop k) = idxS x 0 ss ∧ wr = w) (fun iv _ => ss.length - (intOf iv).toNat)
  case atStart => exact ⟨0, rfl, Nat.zero_le _, rfl, rfl⟩
  case round =>
    obtain ⟨k, rfl, hk, hat, hwr⟩ := hrel
    rw [hwr]
    clear hwr
    have HA : Hid (idxS x k (ss.drop k) = idxS x 0 ss) := hat
    clear hat
    by_cases hlt : k < ss.length
    · have HD : Hid (_ = _) := idxS_drop ss x k hlt
      obtain ⟨b, off, rfl, hc⟩ := HR.out.at hlt
      have i4 : (k : Int) < (ss.length : Int) := by omega
      by_cases he : ss[k] = x
      · have hq := beq_yes he.symm
        have HV : Hid (idxS x 0 ss = (k : Int)) := by rw [Hid, ← HA.out, HD.out, if_pos he]
        clear he
        go_wp2
        go_ret
        rw [HV.out]
        exact ⟨rfl, rfl⟩
      · have hq := beq_no (fun h => he h.symm)
        have HN : Hid (idxS x (k + 1) (ss.drop (k + 1)) = idxS x 0 ss) := by rw [Hid, ← HA.out, HD.out, if_neg he]
        clear he
        go_wp2
        go_roundw
        case rel => exact ⟨k + 1, by go_num, by omega, HN.out, (by first | rfl | trivial)⟩
        case measure => simp [intOf]; omega
    · obtain rfl : k = ss.length := by omega
      have HV : Hid (idxS x 0 ss = -1) := by rw [Hid, ← HA.out, List.drop_of_length_le (Nat.le_refl _)]; rfl
      go_wp2
      go_ret
      rw [HV.out]
      exact ⟨rfl, rfl⟩

theorem contains_any (v : Value) (ss : List ByteArray) (x : ByteArray) (w : World) (hn : ss.length ≤ 1048576) (h : SRow w v ss) :
    Calls Tryz.prog 102 #[v, .string x] w fun e w' => e = .returned (.bool (inB ss x)) ∧ w' = w := by
  have HI : Hid (∀ _ : Unit, _) := fun _ => index_any v ss x w hn h
  have HV : Hid (decide (0 ≤ idxS x 0 ss) = inB ss x) := idxS_in x 0 ss
  generalize idxS x 0 ss = r at *
  rw [← HV.out]
  clear HV
  go_enter Tryz.func102, Tryz.ntmps102
  go_wp2_with (go_at_call 111; refine (HI.out ()).mono ?_; rintro e wq ⟨rfl, hw⟩; rw [hw]; clear hw)
  go_ret
  exact ⟨rfl, rfl⟩
theorem contains_is (v : Value) (ss : List ByteArray) (x : ByteArray) (b : Bool) (hb : inB ss x = b) (w : World) (hn : ss.length ≤ 1048576) (h : SRow w v ss) :
    Calls Tryz.prog 102 #[v, .string x] w fun e w' => e = .returned (.bool b) ∧ w' = w := by
  subst hb
  exact contains_any v ss x w hn h

set_option maxHeartbeats 1600000 in
set_option maxRecDepth 100000 in
theorem checkParams_any (v : Value) (ps : List ByteArray) (w : World) (h : SRow w v ps) (hn : ps.length ≤ 1048576) :
    Calls Tryz.prog 71 #[v] w fun e w' => e = okE (paramsB ps) ∧ w' = w := by
  obtain ⟨a, cap, rfl⟩ := h.slice
  have HR : Hid (SRow w (.slice a ps.length cap) ps) := h
  clear h
  by_cases h6 : ps.length ≤ 6
  · have HB : Hid (paramsB ps = parTo ps ps.length) := by simp [Hid, paramsB, h6]
    have d6 : decide ((ps.length : Int) ≤ 6) = true := by rw [decide_eq_true]; omega
    go_enter Tryz.func71, Tryz.ntmps71
    go_wp2_with (go_at_call 58; refine (want_yes _).mono ?_; rintro e wq ⟨rfl, hw⟩; rw [hw]; clear hw)
    go_loopw [10] (fun iv wr => ∃ k : Nat, iv = .int .i64 k ∧ k ≤ ps.length ∧ parTo ps k = true ∧ wr = w) (fun iv _ => ps.length - (intOf iv).toNat)
    case atStart => exact ⟨0, rfl, Nat.zero_le _, rfl, rfl⟩
    case round =>
      obtain ⟨k, rfl, hk, hto, hwr⟩ := hrel
      rw [hwr]
      clear hwr
      have HTo : Hid (parTo ps k = true) := hto
      clear hto
      by_cases hlt : k < ps.length
      · have HNx : Hid (parTo ps (k + 1) = parAt ps k) := by rw [Hid, parTo_next, HTo.out, Bool.true_and]
        have HAt : Hid (_ = _) := parAt_of ps k hlt
        have HNo : Hid (parAt ps k = false → paramsB ps = false) := fun h => params_no ps k hlt h
        obtain ⟨b, off, rfl, hc⟩ := HR.out.at hlt
        have i4 : (k : Int) < (ps.length : Int) := by omega
        cases hnm : nameB ps[k] with
        | false =>
          have HN : Hid (∀ W, _) := fun W => implVarName_is ps[k] false hnm W
          have HV : Hid (paramsB ps = false) := HNo.out (by rw [HAt.out, hnm]; rfl)
          clear HAt HNo
          go_wp2_with (first
            | (go_at_call 86; refine (HN.out _).mono ?_; rintro e wq ⟨rfl, hw⟩; rw [hw]; clear hw)
            | (go_at_call 58; refine (want_no _).mono ?_; rintro e wq ⟨rfl, hw⟩; rw [hw]; clear hw))
          rw [HV.out]
          exact ⟨rfl, rfl, rfl⟩
        | true =>
          have HN : Hid (∀ W, _) := fun W => implVarName_is ps[k] true hnm W
          by_cases hk0 : k = 0
          · have k1 : ((k : Int) == 0) = true := by rw [hk0]; rfl
            have HY : Hid (parAt ps k = true) := by rw [Hid, HAt.out, hnm, decide_eq_true hk0]; rfl
            clear hk0 HAt HNo
            go_wp2_with (first
              | (go_at_call 86; refine (HN.out _).mono ?_; rintro e wq ⟨rfl, hw⟩; rw [hw]; clear hw)
              | (go_at_call 58; refine (want_yes _).mono ?_; rintro e wq ⟨rfl, hw⟩; rw [hw]; clear hw))
            go_roundw
            case rel => exact ⟨k + 1, by go_num, by omega, by rw [HNx.out, HY.out], (by first | rfl | trivial)⟩
            case measure => simp [intOf]; omega
          · have k1 : ((k : Int) == 0) = false := by simpa using hk0
            obtain ⟨j, rfl⟩ : ∃ j, k = j + 1 := ⟨k - 1, by omega⟩
            obtain ⟨b2, off2, e2, hc2⟩ := HR.out.at (k := j) (by omega)
            cases e2
            have hwk : IntKind.i64.wrap (j : Int) = (j : Int) := by rw [IntKind.wrap_i64]; omega
            have i6 : (j : Int) < (ps.length : Int) := by omega
            have i7 : (j : Int) + 1 < (ps.length : Int) := by omega
            have hgd : ps.getD (j + 1 - 1) noS = ps[j] := getD_is ps j (by omega)
            have k2 : ((j : Int) + 1 == 0) = false := by simpa using k1
            clear hk0 k1
            cases hls : Op.bytesLess ps[j].toList ps[j + 1].toList with
            | true =>
              have HY : Hid (parAt ps (j + 1) = true) := by rw [Hid, HAt.out, hnm, hgd, lessS, hls]; simp
              clear hgd HAt HNo
              generalize ps[j + 1] = p1 at *
              generalize ps[j] = p0 at *
              go_wp2_with (first
                | (go_at_call 86; refine (HN.out _).mono ?_; rintro e wq ⟨rfl, hw⟩; rw [hw]; clear hw)
                | (go_at_call 58; refine (want_yes _).mono ?_; rintro e wq ⟨rfl, hw⟩; rw [hw]; clear hw))
              go_roundw
              case rel => exact ⟨j + 1 + 1, by go_num, hlt, by rw [HNx.out, HY.out], (by first | rfl | trivial)⟩
              case measure => simp [intOf]; omega
            | false =>
              have HV : Hid (paramsB ps = false) := HNo.out (by rw [HAt.out, hnm, hgd, lessS, hls]; simp)
              clear hgd HAt HNo
              generalize ps[j + 1] = p1 at *
              generalize ps[j] = p0 at *
              go_wp2_with (first
                | (go_at_call 86; refine (HN.out _).mono ?_; rintro e wq ⟨rfl, hw⟩; rw [hw]; clear hw)
                | (go_at_call 58; refine (want_yes _).mono ?_; rintro e wq ⟨rfl, hw⟩; rw [hw]; clear hw)
                | (go_at_call 58; refine (want_no _).mono ?_; rintro e wq ⟨rfl, hw⟩; rw [hw]; clear hw))
              rw [HV.out]
              exact ⟨rfl, rfl, rfl⟩
      · obtain rfl : k = ps.length := by omega
        have HV : Hid (paramsB ps = true) := by rw [Hid, HB.out, HTo.out]
        go_wp2
        go_end0
        rw [HV.out]
        exact ⟨rfl, rfl⟩
  · have HV : Hid (paramsB ps = false) := by simp [Hid, paramsB, h6]
    have d6 : decide ((ps.length : Int) ≤ 6) = false := by rw [decide_eq_false]; omega
    go_enter Tryz.func71, Tryz.ntmps71
    go_wp2_with (go_at_call 58; refine (want_no _).mono ?_; rintro e wq ⟨rfl, hw⟩; rw [hw]; clear hw)
    rw [HV.out]
    exact ⟨rfl, rfl, rfl⟩

end Go.Proofs.YtofpoiccghpliaaGreatDoor
