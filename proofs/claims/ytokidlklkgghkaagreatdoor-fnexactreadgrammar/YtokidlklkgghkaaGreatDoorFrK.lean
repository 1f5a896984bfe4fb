/- The program's FreeOf: names collected, sorted, each once. -/
/- The program's checks of grammars: want, checkParams, isSymText, checkArg, checkCall. A check that fails panics with the program's own value. -/
/- Lists of structs that a call owns, whose elements reach other rows: built by append, read, and written cell by cell. No program is named. -/
/- What is kept by the types of rows: what lies below B, and every row whose type is none of some. -/
import Derived.Test.YtokidlklkgghkaaGreatDoorXFreeI
import Derived.Test.YtokidlklkgghkaaGreatDoorGRuleOk
import Derived.Test.YtokidlklkgghkaaGreatDoorINam
import Derived.Test.YtokidlklkgghkaaGreatDoorEnvImpl
import Derived.Test.YtokidlklkgghkaaGreatDoorSetRead
import Derived.Test.YtokidlklkgghkaaGreatDoorMark
import Derived.Test.YtokidlklkgghkaaGreatDoorXAssert
import Derived.WalkLawsBesides
namespace Go.Proofs.YtokidlklkgghkaaGreatDoor
open Go.RowKit

open Go.Sort
set_option maxHeartbeats 1600000 in
set_option maxRecDepth 100000 in
theorem implFreeOf_any (v : Value) (ns : List NodeD) (w : World) (hg : errTy w) (h : NRow w v ns) :
    Calls Tryz.prog 135 #[.agg #[v]] w fun e w' => ∃ o, e = .returned o ∧ OwnB w.heap.size o (freeB ns) w' ∧ Below w.heap.size w w' := by
  have HG : Hid (errTy w) := hg
  have HR : Hid (NRow w v ns) := h
  obtain ⟨a, cap, rfl⟩ := h.slice
  have B0 : Hid (Below w.heap.size w (w.alloc (.cells #[.slice a ns.length cap] 66))) := (Below.refl _ _).alloc (Nat.le_refl _) _
  clear h hg
  cases hx : exprB ns with
  | false =>
    have HP : Hid (∀ W, NRow W (.slice a ns.length cap) ns → _) := fun W hw => partsOf_no (.slice a ns.length cap) ns W hw hx
    have HF : Hid (freeB ns = []) := by rw [Hid, freeB, hx]; rfl
    rw [HF.out]
    clear hx
    go_enter Tryz.func135, Tryz.ntmps135
    go_wp2_with fail
    refine (HP.out _ (HR.out.below B0.out)).mono ?_
    rintro e w1 ⟨rfl, hb1⟩
    have B1 : Hid (Below w.heap.size w w1) := B0.out.trans (hb1.mono B0.out.size)
    clear hb1
    go_wp2_with fail
    refine (faultCode_is 1 _ (HG.out.below B1.out)).mono ?_
    rintro e w2 ⟨rfl, hb2⟩
    have B2 : Hid (Below w.heap.size w w2) := B1.out.trans (hb2.mono B1.out.size)
    have O2 : Hid (OwnB w.heap.size (.slice (some ⟨w2.heap.size, 0, none⟩) 0 0) [] (w2.alloc (.cells #[] 9))) := World.ownsRow_made (base := w.heap.size) w2 #[] 0 (e := 9) (size := 1) B2.out.size (by decide) rfl
    clear hb2
    go_wp2
    go_ret
    exact ⟨_, rfl, O2.out, B2.out.alloc B2.out.size _⟩
  | true =>
    have HP : Hid (∀ W, NRow W (.slice a ns.length cap) ns → _) := fun W hw => partsOf_yes (.slice a ns.length cap) ns W hw hx
    have HNm : Hid (∀ v W, PRow W v ns → _) := fun v W hw => namesOf_any v ns W hx hw
    have HF : Hid (freeB ns = freeF ns) := by rw [Hid, freeB, hx]; rfl
    have HFC : Hid (Lib.compact (((namesF ns).map fun s => s.data.toList).mergeSort leL) = (freeF ns).map fun s => s.data.toList) := free_compact ns
    have hnl : (namesF ns).length ≤ 20 := by have h1 := namesF_len ns; have h2 := (exprB_at hx).1; omega
    rw [HF.out]
    clear hx
    go_enter Tryz.func135, Tryz.ntmps135
    go_wp2_with fail
    refine (HP.out _ (HR.out.below B0.out)).mono ?_
    rintro e w1 ⟨o, rfl, ho, hb1⟩
    have B1 : Hid (Below w.heap.size w w1) := B0.out.trans (hb1.mono B0.out.size)
    have P1 : Hid (PRow w1 o ns) := ho.row
    clear hb1 ho B0 HP
    go_wp2_with fail
    refine (faultCode_nil _).mono ?_
    rintro e w2 ⟨rfl, hb2⟩
    have B2 : Hid (Below w.heap.size w w2) := B1.out.trans (hb2.mono B1.out.size)
    have P2 : Hid (PRow w2 o ns) := P1.out.below hb2
    clear hb2 B1 P1
    go_wp2_with fail
    refine (HNm.out _ _ P2.out).mono ?_
    rintro e w3 ⟨o3, rfl, ho3, hb3⟩
    have B3 : Hid (Below w.heap.size w w3) := B2.out.trans (hb3.mono B2.out.size)
    have HO3 : Hid (OwnB w2.heap.size o3 (namesF ns) w3) := ho3
    have hs2 : w.heap.size ≤ w2.heap.size := B2.out.size
    clear ho3 hb3 HNm P2
    by_cases h0 : (namesF ns).length = 0
    · have HFe : Hid (freeF ns = []) := by
        have h1 := HFC.out
        rw [List.eq_nil_of_length_eq_zero h0] at h1
        have h2 : ((freeF ns).map fun s => s.data.toList) = [] := by
          rw [← h1]
          refine List.eq_nil_of_length_eq_zero ?_
          have h3 := compact_len ((List.map (fun s : ByteArray => s.data.toList) []).mergeSort leL)
          rw [List.length_mergeSort, List.map_nil, List.length_nil] at h3
          exact Nat.le_zero.1 h3
        exact List.map_eq_nil_iff.1 h2
      obtain ⟨a3, c3, ho⟩ := HO3.out.row.slice
      rw [h0] at ho
      subst ho
      have HOF : Hid (OwnB w.heap.size (.slice a3 0 c3) (freeF ns) w3) := by
        have h1 := HO3.out
        rw [List.eq_nil_of_length_eq_zero h0] at h1
        rw [Hid, HFe.out]
        refine ⟨h1.1, ?_⟩
        rcases h1.2 with h | ⟨g, cp, cur, e, hg, r⟩
        · exact .inl h
        · exact .inr ⟨g, cp, cur, e, Nat.le_trans hs2 hg, r⟩
      clear h0 hnl
      go_wp2_with fail
      refine (Tryz.slices_Sort_string_none a3 c3 _).mono ?_
      rintro e wq ⟨rfl, hw⟩
      rw [hw]
      clear hw wq
      go_wp2_with fail
      refine (Tryz.slices_Compact_string_empty a3 c3 _).mono ?_
      rintro e wq ⟨rfl, hw⟩
      rw [hw]
      clear hw wq
      go_wp2
      go_ret
      exact ⟨_, rfl, HOF.out, B3.out⟩
    · rcases HO3.out.2 with ⟨_, hn0⟩ | ⟨g, c3, cur, ho, hgb, hblk, h1, h2, h3, h4⟩
      · exact absurd hn0 h0
      subst ho
      obtain ⟨ss, hss⟩ : ∃ ss, ((namesF ns).map fun s => s.data.toList) = ss := ⟨_, rfl⟩
      have hsl : ss.length = (namesF ns).length := by rw [← hss, List.length_map]
      rw [hss] at HFC
      have h4' : cur.toList.take ss.length = ss.map encStr := by
        rw [sb_enc, hss, Nat.mul_one] at h4
        rw [hsl]; exact h4
      rw [← hsl] at h1 hnl
      have hgl : g < w3.heap.size := (Array.getElem?_eq_some_iff.1 hblk).1
      have HS : Hid (_) := Tryz.slices_Sort_string g 0 c3 ss w3 (holds_of_block hblk h4') hgl (by omega)
      have HML : Hid ((ss.mergeSort leL).length = ss.length) := List.length_mergeSort ss
      rw [← hsl]
      clear h0 h4 hsl hss
      go_wp2_with fail
      refine Calls.mono HS.out ?_
      rintro e w4 ⟨rfl, n4, os4, hw4⟩
      have hb4 : w4.heap[g]? = some (.cells (putCells encStr 0 (ss.mergeSort leL).toArray cur) 9 (0, 0)) := by rw [hw4]; exact heap_sorted _ hblk
      have hg4 : w3.grownBy w4 (some g) := by rw [hw4]; exact grownBy_sorted _
      have B4 : Hid (Below w.heap.size w w4) := B3.out.grown hg4 B3.out.size (fun k hk => by cases hk; omega)
      have hsz4 : (putCells encStr 0 (ss.mergeSort leL).toArray cur).size = c3 * 1 := by simp [putCells, h3]
      have ht4 := take_putCells cur (ss.mergeSort leL) (by rw [HML.out]; omega)
      have HC : Hid (_) := Tryz.slices_Compact_string g 0 c3 (ss.mergeSort leL) w4 (holds_of_block hb4 ht4) (by rw [HML.out]; omega) (by rw [HML.out]; omega)
      rw [HML.out] at HC
      have HOC : Hid (∀ q, _) := fun q => own_compact (w := w4) (base := w.heap.size) (q := q) (zs := ss.mergeSort leL) (by omega) hb4 (by rw [HML.out]; omega) h2 hsz4
      clear hw4 hg4 hsz4 ht4 hb4
      go_wp2_with fail
      refine Calls.mono HC.out ?_
      rintro e w5 ⟨rfl, q, hw5⟩
      have HOF : Hid (OwnB w.heap.size (.slice (some ⟨g, 0, none⟩) (Lib.compact (ss.mergeSort leL)).length c3) (freeF ns) w5) := by
        have h1 := HOC.out q
        rw [HML.out] at h1
        rw [hw5]
        exact own_names h1 rfl HFC.out
      have B5 : Hid (Below w.heap.size w w5) := by
        have hg5 : w4.grownBy w5 (some g) := by rw [hw5, ← grow_none (putRow encStr _ _ _ _)]; exact grownBy_sorted _
        exact B4.out.grown hg5 B4.out.size (fun k hk => by cases hk; omega)
      clear hw5
      go_wp2
      go_ret
      exact ⟨_, rfl, HOF.out, B5.out⟩
end Go.Proofs.YtokidlklkgghkaaGreatDoor

namespace Go.Proofs.YtokidlklkgghkaaGreatDoor
open Go.RowKit

/-- What a check panics with. -/
def nrC : List PanicEntry := [{ v := .iface 116 (.agg #[]), recovered := false }]
def okE (b : Bool) : Ending := if b then .returned (.tuple #[]) else .panicked nrC
theorem okE_yes : okE true = .returned (.tuple #[]) := rfl
theorem okE_no : okE false = .panicked nrC := rfl

theorem want_yes (w : World) : Calls Tryz.prog 62 #[.bool true] w fun e w' => e = .returned (.tuple #[]) ∧ w' = w := by
  go_enter Tryz.func62, Tryz.ntmps62
  go_wp2
  go_end0
  exact ⟨rfl, rfl⟩
theorem want_no (w : World) : Calls Tryz.prog 62 #[.bool false] w fun e w' => e = .panicked nrC ∧ w' = w := by
  go_enter Tryz.func62, Tryz.ntmps62
  go_wp2
  exact ⟨rfl, rfl, rfl⟩

-- the library's search for a text
def idxS (x : ByteArray) : Nat → List ByteArray → Int
  | _, [] => -1
  | i, s :: ss => if s = x then (i : Int) else idxS x (i + 1) ss
theorem idxS_drop (ss : List ByteArray) (x : ByteArray) (k : Nat) (h : k < ss.length) : idxS x k (ss.drop k) = if ss[k] = x then (k : Int) else idxS x (k + 1) (ss.drop (k + 1)) := by
  rw [List.drop_eq_getElem_cons h, idxS]
theorem idxS_in (x : ByteArray) : ∀ (i : Nat) (ss : List ByteArray), decide (0 ≤ idxS x i ss) = inB ss x
  | i, [] => by simp [idxS, inB]
  | i, s :: ss => by
    rw [idxS]
    by_cases h : s = x
    · rw [if_pos h]
      simp [inB, h]
    · rw [if_neg h, idxS_in x (i + 1) ss]
      simp [inB, h]

set_option maxHeartbeats 1600000 in
theorem index_any (v : Value) (ss : List ByteArray) (x : ByteArray) (w : World) (hn : ss.length ≤ 1048576) (h : SRow w v ss) :
    Calls Tryz.prog 142 #[v, .string x] w fun e w' => e = .returned (.int .i64 (idxS x 0 ss)) ∧ w' = w := by
  obtain ⟨a, cap, rfl⟩ := h.slice
  have HR : Hid (SRow w (.slice a ss.length cap) ss) := h
  clear h
  go_enter Tryz.func142, Tryz.ntmps142
  go_wp2
  go_loopw [8] (fun iv wr => ∃ k : Nat, iv = .int .i64 k ∧ k ≤ ss.length ∧ idxS x k (ss.drop k) = idxS x 0 ss ∧ wr = w) (fun iv _ => ss.length - (intOf iv).toNat)
  case atStart => exact ⟨0, rfl, Nat.zero_le _, rfl, rfl⟩
  case round =>
    obtain ⟨k, rfl, hk, hat, hwr⟩ := hrel
    rw [hwr]
    clear hwr
    have HA : Hid (idxS x k (ss.drop k) = idxS x 0 ss) := hat
    clear hat
    by_cases hlt : k < ss.length
    · have HD : Hid (_ = _) := idxS_drop ss x k hlt
      obtain ⟨b, off, rfl, hc⟩ := HR.out.at hlt
      have i4 : (k : Int) < (ss.length : Int) := by omega
      by_cases he : ss[k] = x
      · have hq := beq_yes he.symm
        have HV : Hid (idxS x 0 ss = (k : Int)) := by rw [Hid, ← HA.out, HD.out, if_pos he]
        clear he
        go_wp2
        go_ret
        rw [HV.out]
        exact ⟨rfl, rfl⟩
      · have hq := beq_no (fun h => he h.symm)
        have HN : Hid (idxS x (k + 1) (ss.drop (k + 1)) = idxS x 0 ss) := by rw [Hid, ← HA.out, HD.out, if_neg he]
        clear he
        go_wp2
        go_roundw
        case rel => exact ⟨k + 1, by go_num, by omega, HN.out, (by first | rfl | trivial)⟩
        case measure => simp [intOf]; omega
    · obtain rfl : k = ss.length := by omega
      have HV : Hid (idxS x 0 ss = -1) := by rw [Hid, ← HA.out, List.drop_of_length_le (Nat.le_refl _)]; rfl
      go_wp2
      go_ret
      rw [HV.out]
      exact ⟨rfl, rfl⟩

theorem contains_any (v : Value) (ss : List ByteArray) (x : ByteArray) (w : World) (hn : ss.length ≤ 1048576) (h : SRow w v ss) :
    Calls Tryz.prog 133 #[v, .string x] w fun e w' => e = .returned (.bool (inB ss x)) ∧ w' = w := by
  have HI : Hid (∀ _ : Unit, _) := fun _ => index_any v ss x w hn h
  have HV : Hid (decide (0 ≤ idxS x 0 ss) = inB ss x) := idxS_in x 0 ss
  generalize idxS x 0 ss = r at *
  rw [← HV.out]
  clear HV
  go_enter Tryz.func133, Tryz.ntmps133
  go_wp2_with (go_at_call 142; refine (HI.out ()).mono ?_; rintro e wq ⟨rfl, hw⟩; rw [hw]; clear hw)
  go_ret
  exact ⟨rfl, rfl⟩
theorem contains_is (v : Value) (ss : List ByteArray) (x : ByteArray) (b : Bool) (hb : inB ss x = b) (w : World) (hn : ss.length ≤ 1048576) (h : SRow w v ss) :
    Calls Tryz.prog 133 #[v, .string x] w fun e w' => e = .returned (.bool b) ∧ w' = w := by
  subst hb
  exact contains_any v ss x w hn h

set_option maxHeartbeats 1600000 in
set_option maxRecDepth 100000 in
theorem checkParams_any (v : Value) (ps : List ByteArray) (w : World) (h : SRow w v ps) (hn : ps.length ≤ 1048576) :
    Calls Tryz.prog 104 #[v] w fun e w' => e = okE (paramsB ps) ∧ w' = w := by
  obtain ⟨a, cap, rfl⟩ := h.slice
  have HR : Hid (SRow w (.slice a ps.length cap) ps) := h
  clear h
  by_cases h6 : ps.length ≤ 6
  · have HB : Hid (paramsB ps = parTo ps ps.length) := by simp [Hid, paramsB, h6]
    have d6 : decide ((ps.length : Int) ≤ 6) = true := by rw [decide_eq_true]; omega
    go_enter Tryz.func104, Tryz.ntmps104
    go_wp2_with (go_at_call 62; refine (want_yes _).mono ?_; rintro e wq ⟨rfl, hw⟩; rw [hw]; clear hw)
    go_loopw [10] (fun iv wr => ∃ k : Nat, iv = .int .i64 k ∧ k ≤ ps.length ∧ parTo ps k = true ∧ wr = w) (fun iv _ => ps.length - (intOf iv).toNat)
    case atStart => exact ⟨0, rfl, Nat.zero_le _, rfl, rfl⟩
    case round =>
      obtain ⟨k, rfl, hk, hto, hwr⟩ := hrel
      rw [hwr]
      clear hwr
      have HTo : Hid (parTo ps k = true) := hto
      clear hto
      by_cases hlt : k < ps.length
      · have HNx : Hid (parTo ps (k + 1) = parAt ps k) := by rw [Hid, parTo_next, HTo.out, Bool.true_and]
        have HAt : Hid (_ = _) := parAt_of ps k hlt
        have HNo : Hid (parAt ps k = false → paramsB ps = false) := fun h => params_no ps k hlt h
        obtain ⟨b, off, rfl, hc⟩ := HR.out.at hlt
        have i4 : (k : Int) < (ps.length : Int) := by omega
        cases hnm : nameB ps[k] with
        | false =>
          have HN : Hid (∀ W, _) := fun W => implVarName_is ps[k] false hnm W
          have HV : Hid (paramsB ps = false) := HNo.out (by rw [HAt.out, hnm]; rfl)
          clear HAt HNo
          go_wp2_with (first
            | (go_at_call 121; refine (HN.out _).mono ?_; rintro e wq ⟨rfl, hw⟩; rw [hw]; clear hw)
            | (go_at_call 62; refine (want_no _).mono ?_; rintro e wq ⟨rfl, hw⟩; rw [hw]; clear hw))
          rw [HV.out]
          exact ⟨rfl, rfl, rfl⟩
        | true =>
          have HN : Hid (∀ W, _) := fun W => implVarName_is ps[k] true hnm W
          by_cases hk0 : k = 0
          · have k1 : ((k : Int) == 0) = true := by rw [hk0]; rfl
            have HY : Hid (parAt ps k = true) := by rw [Hid, HAt.out, hnm, decide_eq_true hk0]; rfl
            clear hk0 HAt HNo
            go_wp2_with (first
              | (go_at_call 121; refine (HN.out _).mono ?_; rintro e wq ⟨rfl, hw⟩; rw [hw]; clear hw)
              | (go_at_call 62; refine (want_yes _).mono ?_; rintro e wq ⟨rfl, hw⟩; rw [hw]; clear hw))
            go_roundw
            case rel => exact ⟨k + 1, by go_num, by omega, by rw [HNx.out, HY.out], (by first | rfl | trivial)⟩
            case measure => simp [intOf]; omega
          · have k1 : ((k : Int) == 0) = false := by simpa using hk0
            obtain ⟨j, rfl⟩ : ∃ j, k = j + 1 := ⟨k - 1, by omega⟩
            obtain ⟨b2, off2, e2, hc2⟩ := HR.out.at (k := j) (by omega)
            cases e2
            have hwk : IntKind.i64.wrap (j : Int) = (j : Int) := by rw [IntKind.wrap_i64]; omega
            have i6 : (j : Int) < (ps.length : Int) := by omega
            have i7 : (j : Int) + 1 < (ps.length : Int) := by omega
            have hgd : ps.getD (j + 1 - 1) noS = ps[j] := getD_is ps j (by omega)
            have k2 : ((j : Int) + 1 == 0) = false := by simpa using k1
            clear hk0 k1
            cases hls : Op.bytesLess ps[j].toList ps[j + 1].toList with
            | true =>
              have HY : Hid (parAt ps (j + 1) = true) := by rw [Hid, HAt.out, hnm, hgd, lessS, hls]; simp
              clear hgd HAt HNo
              generalize ps[j + 1] = p1 at *
              generalize ps[j] = p0 at *
              go_wp2_with (first
                | (go_at_call 121; refine (HN.out _).mono ?_; rintro e wq ⟨rfl, hw⟩; rw [hw]; clear hw)
                | (go_at_call 62; refine (want_yes _).mono ?_; rintro e wq ⟨rfl, hw⟩; rw [hw]; clear hw))
              go_roundw
              case rel => exact ⟨j + 1 + 1, by go_num, hlt, by rw [HNx.out, HY.out], (by first | rfl | trivial)⟩
              case measure => simp [intOf]; omega
            | false =>
              have HV : Hid (paramsB ps = false) := HNo.out (by rw [HAt.out, hnm, hgd, lessS, hls]; simp)
              clear hgd HAt HNo
              generalize ps[j + 1] = p1 at *
              generalize ps[j] = p0 at *
              go_wp2_with (first
                | (go_at_call 121; refine (HN.out _).mono ?_; rintro e wq ⟨rfl, hw⟩; rw [hw]; clear hw)
                | (go_at_call 62; refine (want_yes _).mono ?_; rintro e wq ⟨rfl, hw⟩; rw [hw]; clear hw)
                | (go_at_call 62; refine (want_no _).mono ?_; rintro e wq ⟨rfl, hw⟩; rw [hw]; clear hw))
              rw [HV.out]
              exact ⟨rfl, rfl, rfl⟩
      · obtain rfl : k = ps.length := by omega
        have HV : Hid (paramsB ps = true) := by rw [Hid, HB.out, HTo.out]
        go_wp2
        go_end0
        rw [HV.out]
        exact ⟨rfl, rfl⟩
  · have HV : Hid (paramsB ps = false) := by simp [Hid, paramsB, h6]
    have d6 : decide ((ps.length : Int) ≤ 6) = false := by rw [decide_eq_false]; omega
    go_enter Tryz.func104, Tryz.ntmps104
    go_wp2_with (go_at_call 62; refine (want_no _).mono ?_; rintro e wq ⟨rfl, hw⟩; rw [hw]; clear hw)
    rw [HV.out]
    exact ⟨rfl, rfl, rfl⟩

end Go.Proofs.YtokidlklkgghkaaGreatDoor

namespace Go.Proofs.YtokidlklkgghkaaGreatDoor
open Go.RowKit
set_option linter.unusedVariables false
variable {α : Type}

def RowO (sz : Nat) (T : TypeId) (E : World → List Value → α → Prop) (B : Nat) (v : Value) (xs : List α) (w : World) : Prop :=
  ∃ vss : List (List Value), vss.length = xs.length ∧ (∀ vs ∈ vss, vs.length = sz) ∧ w.ownsRow B T sz v xs.length vss.flatten ∧ ∀ i (h : i < vss.length) (h' : i < xs.length), E w vss[i] xs[i]
section
variable {sz : Nat} {T : TypeId} {E : World → List Value → α → Prop} {B : Nat} {v : Value} {xs : List α} {w w' : World}
theorem RowO.nil : RowO sz T E B (.slice none 0 0) [] w := ⟨[], rfl, fun _ h => (by cases h), ⟨by simp, .inl ⟨rfl, rfl⟩⟩, fun i h => by cases h⟩
theorem RowO.lt (h : RowO sz T E B v xs w) : ∀ k, v.ownBlock = some k → B ≤ k ∧ k < w.heap.size := by
  obtain ⟨vss, h1, h2, h3, h4⟩ := h
  exact World.ownsRow.lt h3
theorem flat_set (sz : Nat) : ∀ (vss : List (List Value)), (∀ vs ∈ vss, vs.length = sz) → ∀ (i j : Nat) (u : Value) (h : i < vss.length), j < sz → vss.flatten.set (i * sz + j) u = (vss.set i (vss[i].set j u)).flatten
  | x :: vss, hl, 0, j, u, _, hj => by
    have hx := hl x (List.mem_cons_self ..)
    simp only [List.flatten_cons, Nat.zero_mul, Nat.zero_add, List.set_cons_zero, List.getElem_cons_zero]
    rw [List.set_append_left _ _ (by omega)]
  | x :: vss, hl, i + 1, j, u, h, hj => by
    have hx := hl x (List.mem_cons_self ..)
    have ih := flat_set sz vss (fun y hy => hl y (List.mem_cons_of_mem _ hy)) i j u (by simpa using h) hj
    simp only [List.flatten_cons, List.set_cons_succ, List.getElem_cons_succ]
    rw [List.set_append_right _ _ (by rw [hx, Nat.succ_mul]; omega), hx, show (i + 1) * sz + j - sz = i * sz + j by rw [Nat.succ_mul]; omega, ih]
/-- One cell of one element written. -/
theorem RowO.set {g cap : Nat} (h : RowO sz T E B (.slice (some ⟨g, 0, none⟩) xs.length cap) xs w) {i j : Nat} (hi : i < xs.length) (hj : j < sz) (u : Value) (x' : α) (hE : ∀ vs y, E w vs y → E (w.setCell ⟨g, i * sz + j, none⟩ u) vs y) (hx : ∀ vs, vs.length = sz → E w vs xs[i] → E (w.setCell ⟨g, i * sz + j, none⟩ u) (vs.set j u) x') :
    RowO sz T E B (.slice (some ⟨g, 0, none⟩) xs.length cap) (xs.set i x') (w.setCell ⟨g, i * sz + j, none⟩ u) := by
  obtain ⟨vss, h1, h2, h3, h4⟩ := h
  have hv : i < vss.length := by omega
  refine ⟨vss.set i (vss[i].set j u), by simp [h1], fun vs hvs => ?_, ?_, fun k hk hk' => ?_⟩
  · obtain ⟨m, hm, rfl⟩ := List.getElem_of_mem hvs
    rw [List.getElem_set]
    split
    · rw [List.length_set]; exact h2 _ (List.getElem_mem _)
    · exact h2 _ (List.getElem_mem _)
  · rw [List.length_set, ← flat_set sz vss h2 i j u hv hj]
    exact (World.ownsRow.stored h3 (i * sz + j) u).1
  · rw [List.getElem_set, List.getElem_set]
    split
    · rename_i e
      subst e
      exact hx _ (h2 _ (List.getElem_mem _)) (h4 i hv hi)
    · rw [List.length_set] at hk hk'
      exact hE _ _ (h4 k hk hk')
end

end Go.Proofs.YtokidlklkgghkaaGreatDoor

namespace Go.Proofs.YtokidlklkgghkaaGreatDoor
open Go.RowKit
set_option linter.unusedVariables false

/-- What is kept: what lies below B, and every row whose type is none of ts. -/
structure FrT (ts : List TypeId) (B : Nat) (w w' : World) : Prop where
  bel : Below B w w'
  typ : ∀ (k : Nat) (c : Array Value) (t : TypeId) (fr : Nat × Nat), w.heap[k]? = some (.cells c t fr) → t ∉ ts → w'.heap[k]? = some (.cells c t fr)
section
variable {ts : List TypeId} {B B' : Nat} {w w' w1 w2 : World}
theorem own_frT {e : TypeId} {s n : Nat} {v : Value} {cs : List Value} (h : w.ownsRow B' e s v n cs) (hf : FrT ts B w w') (h1 : e ∉ ts) : w'.ownsRow B' e s v n cs := by
  refine ⟨h.1, ?_⟩
  rcases h.2 with hn | ⟨g, cap, cur, rfl, hB, hc, r⟩
  · exact .inl hn
  · exact .inr ⟨g, cap, cur, rfl, hB, hf.typ g cur e (0, 0) hc h1, r⟩
end

theorem setCell_self {w : World} {p j : Nat} {c : Array Value} {t : TypeId} {fr : Nat × Nat} (u : Value) (h : w.heap[p]? = some (.cells c t fr)) : (w.setCell ⟨p, j, none⟩ u).heap[p]? = some (.cells (c.setIfInBounds j u) t fr) := by
  simp [World.setCell, Array.getElem?_modify, h]
theorem setCell_other {w : World} {p j k : Nat} (u : Value) (h : k ≠ p) : (w.setCell ⟨p, j, none⟩ u).heap[k]? = w.heap[k]? := by
  simp only [World.setCell]
  rw [Array.getElem?_modify, if_neg (fun e => h e.symm)]
theorem own_offT {B : Nat} {e : TypeId} {s n : Nat} {v : Value} {cs : List Value} {w : World} {k : Nat} {c : Array Value} {t : TypeId} {fr : Nat × Nat} (h : w.ownsRow B e s v n cs) (hk : w.heap[k]? = some (.cells c t fr)) (hne : e ≠ t) : v.ownBlock ≠ some k := by
  rcases h.2 with ⟨rfl, _⟩ | ⟨g, cap, cur, rfl, _, hc, _⟩
  · intro e; cases e
  · intro eq
    obtain rfl : g = k := Option.some.inj eq
    rw [hk] at hc
    cases hc
    exact hne rfl
/-- A cell of a row of one of the types written: what is of another type stays. -/
theorem fr_set {ts : List TypeId} {B : Nat} {w : World} {p j : Nat} {c : Array Value} {t : TypeId} {fr : Nat × Nat} (u : Value) (h : w.heap[p]? = some (.cells c t fr)) (ht : t ∈ ts) (hB : B ≤ p) : FrT ts B w (w.setCell ⟨p, j, none⟩ u) := by
  refine ⟨(Below.refl _ _).setCell hB u, fun k c' t' fr' hk h1 => ?_⟩
  have : k ≠ p := fun e => by
    subst e
    rw [h] at hk
    cases hk
    exact h1 ht
  rw [setCell_other u this]
  exact hk

theorem run_cell {w : World} {p j : Nat} {c : Array Value} {t : TypeId} {fr : Nat × Nat} {u : Value} (h : w.heap[p]? = some (.cells c t fr)) (hj : c[j]? = some u) : w.cell? ⟨p, j, none⟩ = some u := by
  rw [cell_of_row _ _ j _ _ _ h]
  exact hj
theorem run_frozen {w : World} {p j : Nat} {c : Array Value} {t : TypeId} (h : w.heap[p]? = some (.cells c t (0, 0))) : w.frozen? ⟨p, j, none⟩ = false := by
  simp [World.frozen?, h]

end Go.Proofs.YtokidlklkgghkaaGreatDoor
