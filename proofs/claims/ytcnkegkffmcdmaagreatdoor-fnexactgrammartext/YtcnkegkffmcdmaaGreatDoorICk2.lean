/- The program's checks of grammars: want, checkParams, isSymText, checkArg, checkCall. A check that fails panics with the program's own value. -/
/- The program's isSymText, checkArg and checkCall. -/
import Derived.Test.YtcnkegkffmcdmaaGreatDoorGRuleOk
import Derived.Test.YtcnkegkffmcdmaaGreatDoorINam
import Derived.Test.YtcnkegkffmcdmaaGreatDoorXAssert
import Derived.Test.YtcnkegkffmcdmaaGreatDoorXFault
import Derived.Test.YtcnkegkffmcdmaaGreatDoorSetRead
import Derived.Test.YtcnkegkffmcdmaaGreatDoorXFreeJ
import Derived.Test.YtcnkegkffmcdmaaGreatDoorSumImpl
import Derived.WalkLawsBesides
namespace Go.Proofs.YtcnkegkffmcdmaaGreatDoor
open Go.RowKit

/-- What a check panics with. -/
def nrC : List PanicEntry := [{ v := .iface 114 (.agg #[]), recovered := false }]
def okE (b : Bool) : Ending := if b then .returned (.tuple #[]) else .panicked nrC
theorem okE_yes : okE true = .returned (.tuple #[]) := rfl
theorem okE_no : okE false = .panicked nrC := rfl

theorem want_yes (w : World) : Calls Tryz.prog 52 #[.bool true] w fun e w' => e = .returned (.tuple #[]) ∧ w' = w := by
  go_enter Tryz.func52, Tryz.ntmps52
  go_wp2
  go_end0
  exact ⟨rfl, rfl⟩
theorem want_no (w : World) : Calls Tryz.prog 52 #[.bool false] w fun e w' => e = .panicked nrC ∧ w' = w := by
  go_enter Tryz.func52, Tryz.ntmps52
  go_wp2
  exact ⟨rfl, rfl, rfl⟩

-- the library's search for a text
def idxS (x : ByteArray) : Nat → List ByteArray → Int
  | _, [] => -1
  | i, s :: ss => if s = x then (i : Int) else idxS x (i + 1) ss
theorem idxS_drop (ss : List ByteArray) (x : ByteArray) (k : Nat) (h : k < ss.length) : idxS x k (ss.drop k) = if ss[k] = x then (k : Int) else idxS x (k + 1) (ss.drop (k + 1)) := by
  rw [List.drop_eq_getElem_cons h, idxS]
theorem idxS_in (x : ByteArray) : ∀ (i : Nat) (ss : List ByteArray), decide (0 ≤ idxS x i ss) = inB ss x
  | i, [] => by simp [idxS, inB]
  | i, s :: ss => by
    rw [idxS]
    by_cases h : s = x
    · rw [if_pos h]
      simp [inB, h]
    · rw [if_neg h, idxS_in x (i + 1) ss]
      simp [inB, h]

set_option maxHeartbeats 1600000 in
theorem index_any (v : Value) (ss : List ByteArray) (x : ByteArray) (w : World) (hn : ss.length ≤ 1048576) (h : SRow w v ss) :
    Calls Tryz.prog 111 #[v, .string x] w fun e w' => e = .returned (.int .i64 (idxS x 0 ss)) ∧ w' = w := by
  obtain ⟨a, cap, rfl⟩ := h.slice
  have HR : Hid (SRow w (.slice a ss.length cap) ss) := h
  clear h
  go_enter Tryz.func111, Tryz.ntmps111
  go_wp2
  go_loopw [8] (fun iv wr => ∃ k : Nat, iv = .int .i64 k ∧ k ≤ ss.length ∧ idxS x k (ss.drop k) = idxS x 0 ss ∧ wr = w) (fun iv _ => ss.length - (intOf iv).toNat)
  case atStart => exact ⟨0, rfl, Nat.zero_le _, rfl, rfl⟩
  case round =>
    obtain ⟨k, rfl, hk, hat, hwr⟩ := hrel
    rw [hwr]
    clear hwr
    have HA : Hid (idxS x k (ss.drop k) = idxS x 0 ss) := hat
    clear hat
    by_cases hlt : k < ss.length
    · have HD : Hid (_ = _) := idxS_drop ss x k hlt
      obtain ⟨b, off, rfl, hc⟩ := HR.out.at hlt
      have i4 : (k : Int) < (ss.length : Int) := by omega
      by_cases he : ss[k] = x
      · have hq := beq_yes he.symm
        have HV : Hid (idxS x 0 ss = (k : Int)) := by rw [Hid, ← HA.out, HD.out, if_pos he]
        clear he
        go_wp2
        go_ret
        rw [HV.out]
        exact ⟨rfl, rfl⟩
      · have hq := beq_no (fun h => he h.symm)
        have HN : Hid (idxS x (k + 1) (ss.drop (k + 1)) = idxS x 0 ss) := by rw [Hid, ← HA.out, HD.out, if_neg he]
        clear he
        go_wp2
        go_roundw
        case rel => exact ⟨k + 1, by go_num, by omega, HN.out, (by first | rfl | trivial)⟩
        case measure => simp [intOf]; omega
    · obtain rfl : k = ss.length := by omega
      have HV : Hid (idxS x 0 ss = -1) := by rw [Hid, ← HA.out, List.drop_of_length_le (Nat.le_refl _)]; rfl
      go_wp2
      go_ret
      rw [HV.out]
      exact ⟨rfl, rfl⟩

theorem contains_any (v : Value) (ss : List ByteArray) (x : ByteArray) (w : World) (hn : ss.length ≤ 1048576) (h : SRow w v ss) :
    Calls Tryz.prog 100 #[v, .string x] w fun e w' => e = .returned (.bool (inB ss x)) ∧ w' = w := by
  have HI : Hid (∀ _ : Unit, _) := fun _ => index_any v ss x w hn h
  have HV : Hid (decide (0 ≤ idxS x 0 ss) = inB ss x) := idxS_in x 0 ss
  generalize idxS x 0 ss = r at *
  rw [← HV.out]
  clear HV
  go_enter Tryz.func100, Tryz.ntmps100
  go_wp2_with (go_at_call 111; refine (HI.out ()).mono ?_; rintro e wq ⟨rfl, hw⟩; rw [hw]; clear hw)
  go_ret
  exact ⟨rfl, rfl⟩
theorem contains_is (v : Value) (ss : List ByteArray) (x : ByteArray) (b : Bool) (hb : inB ss x = b) (w : World) (hn : ss.length ≤ 1048576) (h : SRow w v ss) :
    Calls Tryz.prog 100 #[v, .string x] w fun e w' => e = .returned (.bool b) ∧ w' = w := by
  subst hb
  exact contains_any v ss x w hn h

set_option maxHeartbeats 1600000 in
set_option maxRecDepth 100000 in
theorem checkParams_any (v : Value) (ps : List ByteArray) (w : World) (h : SRow w v ps) (hn : ps.length ≤ 1048576) :
    Calls Tryz.prog 70 #[v] w fun e w' => e = okE (paramsB ps) ∧ w' = w := by
  obtain ⟨a, cap, rfl⟩ := h.slice
  have HR : Hid (SRow w (.slice a ps.length cap) ps) := h
  clear h
  by_cases h6 : ps.length ≤ 6
  · have HB : Hid (paramsB ps = parTo ps ps.length) := by simp [Hid, paramsB, h6]
    have d6 : decide ((ps.length : Int) ≤ 6) = true := by rw [decide_eq_true]; omega
    go_enter Tryz.func70, Tryz.ntmps70
    go_wp2_with (go_at_call 52; refine (want_yes _).mono ?_; rintro e wq ⟨rfl, hw⟩; rw [hw]; clear hw)
    go_loopw [10] (fun iv wr => ∃ k : Nat, iv = .int .i64 k ∧ k ≤ ps.length ∧ parTo ps k = true ∧ wr = w) (fun iv _ => ps.length - (intOf iv).toNat)
    case atStart => exact ⟨0, rfl, Nat.zero_le _, rfl, rfl⟩
    case round =>
      obtain ⟨k, rfl, hk, hto, hwr⟩ := hrel
      rw [hwr]
      clear hwr
      have HTo : Hid (parTo ps k = true) := hto
      clear hto
      by_cases hlt : k < ps.length
      · have HNx : Hid (parTo ps (k + 1) = parAt ps k) := by rw [Hid, parTo_next, HTo.out, Bool.true_and]
        have HAt : Hid (_ = _) := parAt_of ps k hlt
        have HNo : Hid (parAt ps k = false → paramsB ps = false) := fun h => params_no ps k hlt h
        obtain ⟨b, off, rfl, hc⟩ := HR.out.at hlt
        have i4 : (k : Int) < (ps.length : Int) := by omega
        cases hnm : nameB ps[k] with
        | false =>
          have HN : Hid (∀ W, _) := fun W => implVarName_is ps[k] false hnm W
          have HV : Hid (paramsB ps = false) := HNo.out (by rw [HAt.out, hnm]; rfl)
          clear HAt HNo
          go_wp2_with (first
            | (go_at_call 87; refine (HN.out _).mono ?_; rintro e wq ⟨rfl, hw⟩; rw [hw]; clear hw)
            | (go_at_call 52; refine (want_no _).mono ?_; rintro e wq ⟨rfl, hw⟩; rw [hw]; clear hw))
          rw [HV.out]
          exact ⟨rfl, rfl, rfl⟩
        | true =>
          have HN : Hid (∀ W, _) := fun W => implVarName_is ps[k] true hnm W
          by_cases hk0 : k = 0
          · have k1 : ((k : Int) == 0) = true := by rw [hk0]; rfl
            have HY : Hid (parAt ps k = true) := by rw [Hid, HAt.out, hnm, decide_eq_true hk0]; rfl
            clear hk0 HAt HNo
            go_wp2_with (first
              | (go_at_call 87; refine (HN.out _).mono ?_; rintro e wq ⟨rfl, hw⟩; rw [hw]; clear hw)
              | (go_at_call 52; refine (want_yes _).mono ?_; rintro e wq ⟨rfl, hw⟩; rw [hw]; clear hw))
            go_roundw
            case rel => exact ⟨k + 1, by go_num, by omega, by rw [HNx.out, HY.out], (by first | rfl | trivial)⟩
            case measure => simp [intOf]; omega
          · have k1 : ((k : Int) == 0) = false := by simpa using hk0
            obtain ⟨j, rfl⟩ : ∃ j, k = j + 1 := ⟨k - 1, by omega⟩
            obtain ⟨b2, off2, e2, hc2⟩ := HR.out.at (k := j) (by omega)
            cases e2
            have hwk : IntKind.i64.wrap (j : Int) = (j : Int) := by rw [IntKind.wrap_i64]; omega
            have i6 : (j : Int) < (ps.length : Int) := by omega
            have i7 : (j : Int) + 1 < (ps.length : Int) := by omega
            have hgd : ps.getD (j + 1 - 1) noS = ps[j] := getD_is ps j (by omega)
            have k2 : ((j : Int) + 1 == 0) = false := by simpa using k1
            clear hk0 k1
            cases hls : Op.bytesLess ps[j].toList ps[j + 1].toList with
            | true =>
              have HY : Hid (parAt ps (j + 1) = true) := by rw [Hid, HAt.out, hnm, hgd, lessS, hls]; simp
              clear hgd HAt HNo
              generalize ps[j + 1] = p1 at *
              generalize ps[j] = p0 at *
              go_wp2_with (first
                | (go_at_call 87; refine (HN.out _).mono ?_; rintro e wq ⟨rfl, hw⟩; rw [hw]; clear hw)
                | (go_at_call 52; refine (want_yes _).mono ?_; rintro e wq ⟨rfl, hw⟩; rw [hw]; clear hw))
              go_roundw
              case rel => exact ⟨j + 1 + 1, by go_num, hlt, by rw [HNx.out, HY.out], (by first | rfl | trivial)⟩
              case measure => simp [intOf]; omega
            | false =>
              have HV : Hid (paramsB ps = false) := HNo.out (by rw [HAt.out, hnm, hgd, lessS, hls]; simp)
              clear hgd HAt HNo
              generalize ps[j + 1] = p1 at *
              generalize ps[j] = p0 at *
              go_wp2_with (first
                | (go_at_call 87; refine (HN.out _).mono ?_; rintro e wq ⟨rfl, hw⟩; rw [hw]; clear hw)
                | (go_at_call 52; refine (want_yes _).mono ?_; rintro e wq ⟨rfl, hw⟩; rw [hw]; clear hw)
                | (go_at_call 52; refine (want_no _).mono ?_; rintro e wq ⟨rfl, hw⟩; rw [hw]; clear hw))
              rw [HV.out]
              exact ⟨rfl, rfl, rfl⟩
      · obtain rfl : k = ps.length := by omega
        have HV : Hid (paramsB ps = true) := by rw [Hid, HB.out, HTo.out]
        go_wp2
        go_end0
        rw [HV.out]
        exact ⟨rfl, rfl⟩
  · have HV : Hid (paramsB ps = false) := by simp [Hid, paramsB, h6]
    have d6 : decide ((ps.length : Int) ≤ 6) = false := by rw [decide_eq_false]; omega
    go_enter Tryz.func70, Tryz.ntmps70
    go_wp2_with (go_at_call 52; refine (want_no _).mono ?_; rintro e wq ⟨rfl, hw⟩; rw [hw]; clear hw)
    rw [HV.out]
    exact ⟨rfl, rfl, rfl⟩

end Go.Proofs.YtcnkegkffmcdmaaGreatDoor

namespace Go.Proofs.YtcnkegkffmcdmaaGreatDoor
open Go.RowKit

def moreB : List UInt8 := [43, 45, 42, 94, 40, 41, 91, 93, 58, 44, 59, 46, 61, 60, 62]
theorem signs_idx : ∀ k : Fin 256, decide (Lib.indexByte moreB (UInt8.ofNat k.1) < 0) = !(moreL.any (· == k.1)) := by decide +kernel
theorem sign_idx (b : UInt8) (h0 : kindP b.toNat = 0) : decide (Lib.indexByte moreB b < 0) = !(sign6 b.toNat) := by
  have h := signs_idx ⟨b.toNat, b.toNat_lt⟩
  have e : UInt8.ofNat b.toNat = b := by simp
  simp only [e] at h
  have hk : okb b.toNat = false := by
    unfold kindP at h0
    split at h0
    · cases h0
    · split at h0
      · cases h0
      · unfold okb; simp; omega
  have e2 : sign6 b.toNat = moreL.any (· == b.toNat) := by
    rw [sign6, okM, hk, Bool.false_or]; rfl
  rw [h, e2]
theorem sign_kind (b : Nat) (h0 : ¬ kindP b = 0) : sign6 b = true := by
  have hk : okb b = true := by
    unfold kindP at h0
    split at h0
    · unfold okb; simp; omega
    · split at h0
      · unfold okb; simp; omega
      · exact absurd rfl h0
  rw [sign6, okM, hk, Bool.true_or]

set_option maxHeartbeats 1600000 in
set_option maxRecDepth 100000 in
theorem isSymText_any (s : ByteArray) (w : World) (hs : s.size ≤ 1048576) :
    Calls Tryz.prog 88 #[.string s] w fun e w' => e = .returned (.bool (text6 s)) ∧ w' = w := by
  have HB : Hid (text6 s = (text6To s s.size && decide ((1 : Int) ≤ s.size ∧ (s.size : Int) ≤ 8))) := rfl
  by_cases h1 : s.size < 1
  · have HV : Hid (text6 s = false) := by rw [Hid, HB.out]; simp; omega
    go_enter Tryz.func88, Tryz.ntmps88
    go_wp2
    go_ret
    rw [HV.out]
    exact ⟨rfl, rfl⟩
  by_cases h6 : 8 < s.size
  · have HV : Hid (text6 s = false) := by rw [Hid, HB.out]; simp; omega
    go_enter Tryz.func88, Tryz.ntmps88
    go_wp2
    go_ret
    rw [HV.out]
    exact ⟨rfl, rfl⟩
  have HL : Hid (text6 s = text6To s s.size) := by rw [Hid, HB.out]; simp; omega
  have d1 : decide ((s.size : Int) < 1) = false := by rw [decide_eq_false]; omega
  have d2 : decide ((8 : Int) < (s.size : Int)) = false := by rw [decide_eq_false]; omega
  go_enter Tryz.func88, Tryz.ntmps88
  go_wp2
  go_loopw [14] (fun iv wr => ∃ k : Nat, iv = .int .i64 k ∧ k ≤ s.size ∧ text6To s k = true ∧ wr = w) (fun iv _ => s.size - (intOf iv).toNat)
  case atStart => exact ⟨0, rfl, Nat.zero_le _, rfl, rfl⟩
  case round =>
    obtain ⟨k, rfl, hk, hto, hwr⟩ := hrel
    rw [hwr]
    clear hwr
    have HTo : Hid (text6To s k = true) := hto
    clear hto
    by_cases hlt : k < s.size
    · have hu := s[k].toNat_lt
      have HNx : Hid (_ = _) := text6To_next s k hlt
      have HNo : Hid (sign6 s[k].toNat = false → text6 s = false) := fun h => text6_no s k hlt h
      have i4 : (k : Int) < (s.size : Int) := by omega
      have HKk : Hid (∀ W, _) := fun W => kind_any s[k].toNat (by omega) W
      by_cases hz : kindP s[k].toNat = 0
      · rw [hz] at HKk
        have HS : Hid (_ = _) := sign_idx s[k] hz
        have HG : Hid (∀ W, Calls Tryz.prog 98 #[.string { data := #[43, 45, 42, 94, 40, 41, 91, 93, 58, 44, 59, 46, 61, 60, 62] }, .int .u8 s[k].toNat] W fun e w' => e = .returned (.int .i64 (Lib.indexByte moreB s[k])) ∧ w' = W) := fun W => by
          refine (Tryz.strings_IndexByte _ _ _).mono ?_
          rintro e w' ⟨rfl, rfl⟩
          refine ⟨?_, rfl⟩
          have e1 : ((s[k].toNat : Int).toNat).toUInt8 = s[k] := by simp
          rw [e1]
          rfl
        clear hz
        generalize Lib.indexByte moreB s[k] = r at *
        cases hg : sign6 s[k].toNat with
        | true =>
          have hr : decide (r < 0) = false := by rw [HS.out, hg]; rfl
          clear HS HNo
          go_wp2_with (first
            | (go_at_call 83; refine (HKk.out _).mono ?_; rintro e wq ⟨rfl, hw⟩; rw [hw]; clear hw)
            | (go_at_call 98; refine (HG.out _).mono ?_; rintro e wq ⟨rfl, hw⟩; rw [hw]; clear hw))
          go_roundw
          case rel => exact ⟨k + 1, by go_num, by omega, by rw [HNx.out, HTo.out, hg]; rfl, (by first | rfl | trivial)⟩
          case measure => simp [intOf]; omega
        | false =>
          have hr : decide (r < 0) = true := by rw [HS.out, hg]; rfl
          have HV : Hid (text6 s = false) := HNo.out hg
          clear HS HNo hg
          go_wp2_with (first
            | (go_at_call 83; refine (HKk.out _).mono ?_; rintro e wq ⟨rfl, hw⟩; rw [hw]; clear hw)
            | (go_at_call 98; refine (HG.out _).mono ?_; rintro e wq ⟨rfl, hw⟩; rw [hw]; clear hw))
          go_ret
          rw [HV.out]
          exact ⟨rfl, rfl⟩
      · have HY : Hid (sign6 s[k].toNat = true) := sign_kind _ hz
        obtain ⟨q, hq⟩ : ∃ q : Int, q = kindP s[k].toNat := ⟨_, rfl⟩
        rw [← hq] at HKk hz
        clear hq
        have hz2 : (q == 0) = false := by simpa using hz
        go_wp2_with (go_at_call 83; refine (HKk.out _).mono ?_; rintro e wq ⟨rfl, hw⟩; rw [hw]; clear hw)
        go_roundw
        case rel => exact ⟨k + 1, by go_num, by omega, by rw [HNx.out, HTo.out, HY.out]; rfl, (by first | rfl | trivial)⟩
        case measure => simp [intOf]; omega
    · obtain rfl : k = s.size := by omega
      have HV : Hid (text6 s = true) := by rw [Hid, HL.out, HTo.out]
      go_wp2
      go_ret
      rw [HV.out]
      exact ⟨rfl, rfl⟩

theorem all_no {α : Type} {p : α → Bool} {xs : List α} {k : Nat} (h : k < xs.length) (hp : p xs[k] = false) : xs.all p = false := by
  rw [List.all_eq_false]
  exact ⟨xs[k], List.getElem_mem h, by rw [hp]; decide⟩
theorem all_to {α : Type} {p : α → Bool} {xs : List α} {k : Nat} (h : k < xs.length) (h1 : (xs.take k).all p = true) (hp : p xs[k] = true) : (xs.take (k + 1)).all p = true := by
  rw [List.take_succ_eq_append_getElem h, List.all_append, h1]
  simp [hp]

set_option maxHeartbeats 1600000 in
set_option maxRecDepth 100000 in
theorem checkArg_any (v u : Value) (ns : List NodeD) (known : List ByteArray) (w : World) (hg : errTy w) (hk : known.length ≤ 1048576) (h : NRow w v ns) (h' : SRow w u known) :
    Calls Tryz.prog 91 #[.agg #[v], u] w fun e w' => e = okE (knownB ns known) ∧ Below w.heap.size w w' := by
  have HR : Hid (NRow w v ns) := h
  have HK : Hid (SRow w u known) := h'
  have HG : Hid (errTy w) := hg
  obtain ⟨a, cap, rfl⟩ := h.slice
  obtain ⟨a', cap', rfl⟩ := h'.slice
  clear h h' hg
  have hfl := free_len ns
  have B0 : Hid (Below w.heap.size w (w.alloc (.cells #[.slice a ns.length cap] 52))) := (Below.refl _ _).alloc (Nat.le_refl _) _
  have E0 : (w.alloc (.cells #[.slice a ns.length cap] 52)).cell? ⟨w.heap.size, 0, none⟩ = some (.slice a ns.length cap) := box_at _ _ _ 0 _ rfl
  have HX : Hid (∀ W, Below w.heap.size w W → _) := fun W hb => implExprOk_any (.slice a ns.length cap) ns W (HG.out.below hb) (HR.out.below hb)
  cases hx : exprB ns with
  | false =>
    rw [hx] at HX
    have HV : Hid (knownB ns known = false) := by rw [Hid, knownB, hx, Bool.and_false]
    clear hx
    go_enter Tryz.func91, Tryz.ntmps91
    go_wp2_with fail
    refine (HX.out _ B0.out).mono ?_
    rintro e w1 ⟨rfl, hb1⟩
    have B1 : Hid (Below w.heap.size w w1) := B0.out.trans (hb1.mono B0.out.size)
    clear hb1
    go_wp2_with (go_at_call 52; refine (want_no _).mono ?_; rintro e wq ⟨rfl, hw⟩; rw [hw]; clear hw)
    rw [HV.out]
    exact ⟨rfl, rfl, B1.out⟩
  | true =>
    rw [hx] at HX
    have HV : Hid (knownB ns known = (freeB ns).all (inB known)) := by rw [Hid, knownB, hx, Bool.and_true]
    clear hx
    go_enter Tryz.func91, Tryz.ntmps91
    go_wp2_with fail
    refine (HX.out _ B0.out).mono ?_
    rintro e w1 ⟨rfl, hb1⟩
    have B1 : Hid (Below w.heap.size w w1) := B0.out.trans (hb1.mono B0.out.size)
    have E1 := cell_keep E0 hb1
    have F1 : Hid (∀ _ : Unit, _) := fun _ => implFreeOf_any (.slice a ns.length cap) ns w1 (HG.out.below B1.out) (HR.out.below B1.out)
    clear hb1
    go_wp2_with (go_at_call 52; refine (want_yes _).mono ?_; rintro e wq ⟨rfl, hw⟩; rw [hw]; clear hw)
    refine (F1.out ()).mono ?_
    rintro e w2 ⟨o, rfl, ho, hb2⟩
    have B2 : Hid (Below w.heap.size w w2) := B1.out.trans (hb2.mono B1.out.size)
    have HF : Hid (SRow w2 o (freeB ns)) := ho.row
    obtain ⟨af, cf, rfl⟩ := ho.row.slice
    clear ho hb2 F1
    generalize freeB ns = fs at *
    go_wp2
    go_loopw [12] (fun iv wr => ∃ k : Nat, iv = .int .i64 k ∧ k ≤ fs.length ∧ (fs.take k).all (inB known) = true ∧ wr = w2) (fun iv _ => fs.length - (intOf iv).toNat)
    case atStart => exact ⟨0, rfl, Nat.zero_le _, rfl, rfl⟩
    case round =>
      obtain ⟨k, rfl, hkk, hto, hwr⟩ := hrel
      rw [hwr]
      clear hwr
      have HTo : Hid ((fs.take k).all (inB known) = true) := hto
      clear hto
      by_cases hlt : k < fs.length
      · obtain ⟨b, off, rfl, hc⟩ := HF.out.at hlt
        have i4 : (k : Int) < (fs.length : Int) := by omega
        cases hin : inB known fs[k] with
        | false =>
          have HC : Hid (∀ _ : Unit, _) := fun _ => contains_is (.slice a' known.length cap') known fs[k] false hin w2 hk (HK.out.below B2.out)
          have HV2 : Hid (knownB ns known = false) := by rw [Hid, HV.out]; exact all_no hlt hin
          clear hin
          go_wp2_with (first
            | (go_at_call 100; refine (HC.out ()).mono ?_; rintro e wq ⟨rfl, hw⟩; rw [hw]; clear hw)
            | (go_at_call 52; refine (want_no _).mono ?_; rintro e wq ⟨rfl, hw⟩; rw [hw]; clear hw))
          rw [HV2.out]
          exact ⟨rfl, rfl, B2.out⟩
        | true =>
          have HC : Hid (∀ _ : Unit, _) := fun _ => contains_is (.slice a' known.length cap') known fs[k] true hin w2 hk (HK.out.below B2.out)
          have HN : Hid ((fs.take (k + 1)).all (inB known) = true) := all_to hlt HTo.out hin
          clear hin
          go_wp2_with (first
            | (go_at_call 100; refine (HC.out ()).mono ?_; rintro e wq ⟨rfl, hw⟩; rw [hw]; clear hw)
            | (go_at_call 52; refine (want_yes _).mono ?_; rintro e wq ⟨rfl, hw⟩; rw [hw]; clear hw))
          go_roundw
          case rel => exact ⟨k + 1, by go_num, by omega, HN.out, (by first | rfl | trivial)⟩
          case measure => simp [intOf]; omega
      · obtain rfl : k = fs.length := by omega
        have HV2 : Hid (knownB ns known = true) := by
          have := HTo.out
          rw [List.take_of_length_le (Nat.le_refl _)] at this
          rw [Hid, HV.out, this]
        go_wp2
        go_end0
        rw [HV2.out]
        exact ⟨rfl, B2.out⟩

end Go.Proofs.YtcnkegkffmcdmaaGreatDoor
