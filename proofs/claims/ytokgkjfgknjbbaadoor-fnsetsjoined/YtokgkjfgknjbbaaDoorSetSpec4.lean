/- The specification's JoinSets and MeetSets. -/
import Derived.Test.YtokgkjfgknjbbaaDoorSetSpec3
namespace Go.Proofs.YtokgkjfgknjbbaaDoor
open Go.RowKit

theorem join_setOf (a b : List UInt8) : setOfP (bytesB (inL a) ++ bytesB (inL b)) = toldP (fun x => inL a x || inL b x) := by
  have h1 : ((bytesB (inL a) ++ bytesB (inL b)).all fun u => okb u.toNat) = true := by
    rw [List.all_append, bytes_ok (inL_sup a), bytes_ok (inL_sup b)]
    rfl
  rw [setOfP, if_pos h1, memB_app, mem_bytes (inL_sup a), mem_bytes (inL_sup b)]

theorem mem_filter {f g : Nat → Bool} (hs : Sup f) : memB ((bytesB f).filter fun u => g u.toNat) = fun x => f x && g x := by
  funext x
  have hm := congrFun (mem_bytes hs) x
  rw [← hm, memB, memB, Bool.eq_iff_iff, Bool.and_eq_true, List.any_eq_true, List.any_eq_true]
  constructor
  · rintro ⟨u, hu, hx⟩
    have h := List.mem_filter.1 hu
    rw [beq_iff_eq] at hx
    rw [← hx]
    exact ⟨⟨u, h.1, by simp⟩, h.2⟩
  · rintro ⟨⟨u, hu, hx⟩, hg⟩
    rw [beq_iff_eq] at hx
    rw [← hx] at hg
    exact ⟨u, List.mem_filter.2 ⟨hu, hg⟩, by rw [hx]; simp⟩
theorem meet_setOf (a b : List UInt8) : setOfP ((bytesB (inL a)).filter fun u => inL b u.toNat) = toldP (fun x => inL a x && inL b x) := by
  have h1 : (((bytesB (inL a)).filter fun u => inL b u.toNat).all fun u => okb u.toNat) = true := by
    rw [List.all_eq_true]
    intro u hu
    exact List.all_eq_true.1 (bytes_ok (inL_sup a)) u (List.mem_filter.1 hu).1
  rw [setOfP, if_pos h1, mem_filter (inL_sup a)]

theorem str_extract (l : List UInt8) (i : Nat) (h : i < l.length) : (str l).extract i (i + 1) = str [l[i]] := by
  apply ByteArray.ext
  rw [ByteArray.data_extract]
  simp only [str]
  apply Array.toList_inj.1
  simp only [Array.toList_extract, List.toList_toArray]
  rw [List.extract_eq_take_drop, show i + 1 - i = 1 by omega, List.drop_eq_getElem_cons h]
  rfl

set_option maxHeartbeats 800000 in
set_option maxRecDepth 100000 in
theorem specJoin_any (a b : ByteArray) (w : World) (ha : a.size ≤ 1048576) (hb : b.size ≤ 1048576) :
    Calls Tryd.prog 34 #[.string a, .string b] w fun e w' => e = .returned (pairV (joinP a.data.toList b.data.toList)) ∧ Below w.heap.size w w' := by
  have OA : Hid (∀ W, _) := fun W => specSetOk_any a W ha
  have OB : Hid (∀ W, _) := fun W => specSetOk_any b W hb
  have BA : Hid (∀ W, _) := fun W => specSetBytes_any a W ha
  have BB : Hid (∀ W, _) := fun W => specSetBytes_any b W hb
  have la := bytes_len (inL a.data.toList)
  have lb := bytes_len (inL b.data.toList)
  cases oa : okL a.data.toList with
  | false =>
    have HV : Hid (pairV (joinP a.data.toList b.data.toList) = .tuple #[.string (str []), .bool false]) := by rw [Hid, joinP, oa]; rfl
    rw [oa] at OA
    clear oa OB
    generalize pairV (joinP a.data.toList b.data.toList) = v at *
    go_enter Tryd.func34, Tryd.ntmps34
    go_wp2_with fail
    refine (OA.out _).mono ?_
    rintro e w1 ⟨rfl, hb1⟩
    go_wp2_with fail
    go_ret2
    rw [HV.out]
    exact ⟨rfl, hb1⟩
  | true =>
    rw [oa] at OA
    cases ob : okL b.data.toList with
    | false =>
      have HV : Hid (pairV (joinP a.data.toList b.data.toList) = .tuple #[.string (str []), .bool false]) := by rw [Hid, joinP, oa, ob]; rfl
      rw [ob] at OB
      clear oa ob
      generalize pairV (joinP a.data.toList b.data.toList) = v at *
      go_enter Tryd.func34, Tryd.ntmps34
      go_wp2_with fail
      refine (OA.out _).mono ?_
      rintro e w1 ⟨rfl, hb1⟩
      go_wp2_with fail
      refine (OB.out _).mono ?_
      rintro e w2 ⟨rfl, hb2⟩
      go_wp2_with fail
      go_ret2
      rw [HV.out]
      exact ⟨rfl, hb1.trans (hb2.mono hb1.size)⟩
    | true =>
      have hj : joinP a.data.toList b.data.toList = setOfP (bytesB (inL a.data.toList) ++ bytesB (inL b.data.toList)) := by rw [join_setOf, joinP, oa, ob]; rfl
      have HX : Hid (∀ W, _) := fun W => specSetOf_any (str (bytesB (inL a.data.toList) ++ bytesB (inL b.data.toList))) W (by rw [str_size, List.length_append]; omega)
      rw [str_list, ← hj] at HX
      have hadd := fun W => run_add_str (P := Tryd.prog) W (bytesB (inL a.data.toList)) (bytesB (inL b.data.toList)) (by omega)
      rw [ob] at OB
      clear oa ob hj la lb
      generalize hv : pairV (joinP a.data.toList b.data.toList) = v at *
      obtain ⟨t, ok, rfl⟩ : ∃ t ok, v = .tuple #[.string t, .bool ok] := ⟨_, _, hv.symm⟩
      clear hv
      generalize str (bytesB (inL a.data.toList) ++ bytesB (inL b.data.toList)) = tab at *
      generalize str (bytesB (inL a.data.toList)) = ta at *
      generalize str (bytesB (inL b.data.toList)) = tb at *
      go_enter Tryd.func34, Tryd.ntmps34
      go_wp2_with fail
      refine (OA.out _).mono ?_
      rintro e w1 ⟨rfl, hb1⟩
      go_wp2_with fail
      refine (OB.out _).mono ?_
      rintro e w2 ⟨rfl, hb2⟩
      have h2 := hb1.trans (hb2.mono hb1.size)
      clear hb2 hb1
      go_wp2_with fail
      refine (BA.out _).mono ?_
      rintro e w3 ⟨rfl, hb3⟩
      have h3 := h2.trans (hb3.mono h2.size)
      clear hb3 h2
      go_wp2_with fail
      refine (BB.out _).mono ?_
      rintro e w4 ⟨rfl, hb4⟩
      have h4 := h3.trans (hb4.mono h3.size)
      clear hb4 h3
      go_wp2_with (go_at_call 27; refine (HX.out _).mono ?_; rintro e w5 ⟨rfl, hb5⟩)
      go_ret2
      exact ⟨rfl, h4.trans (hb5.mono h4.size)⟩

set_option maxHeartbeats 1600000 in
set_option maxRecDepth 100000 in
theorem specMeet_any (a b : ByteArray) (w : World) (ha : a.size ≤ 1048576) (hb : b.size ≤ 1048576) :
    Calls Tryd.prog 35 #[.string a, .string b] w fun e w' => e = .returned (pairV (meetP a.data.toList b.data.toList)) ∧ Below w.heap.size w w' := by
  have OA : Hid (∀ W, _) := fun W => specSetOk_any a W ha
  have OB : Hid (∀ W, _) := fun W => specSetOk_any b W hb
  have BA : Hid (∀ W, _) := fun W => specSetBytes_any a W ha
  have HI : Hid (∀ x W, x < 256 → _) := fun x W h => specInSet_any b x h W hb
  have la := bytes_len (inL a.data.toList)
  cases oa : okL a.data.toList with
  | false =>
    have HV : Hid (pairV (meetP a.data.toList b.data.toList) = .tuple #[.string (str []), .bool false]) := by rw [Hid, meetP, oa]; rfl
    rw [oa] at OA
    clear oa OB
    generalize pairV (meetP a.data.toList b.data.toList) = v at *
    go_enter Tryd.func35, Tryd.ntmps35
    go_wp2_with fail
    refine (OA.out _).mono ?_
    rintro e w1 ⟨rfl, hb1⟩
    go_wp2_with fail
    go_ret2
    rw [HV.out]
    exact ⟨rfl, hb1⟩
  | true =>
    rw [oa] at OA
    cases ob : okL b.data.toList with
    | false =>
      have HV : Hid (pairV (meetP a.data.toList b.data.toList) = .tuple #[.string (str []), .bool false]) := by rw [Hid, meetP, oa, ob]; rfl
      rw [ob] at OB
      clear oa ob
      generalize pairV (meetP a.data.toList b.data.toList) = v at *
      go_enter Tryd.func35, Tryd.ntmps35
      go_wp2_with fail
      refine (OA.out _).mono ?_
      rintro e w1 ⟨rfl, hb1⟩
      go_wp2_with fail
      refine (OB.out _).mono ?_
      rintro e w2 ⟨rfl, hb2⟩
      go_wp2_with fail
      go_ret2
      rw [HV.out]
      exact ⟨rfl, hb1.trans (hb2.mono hb1.size)⟩
    | true =>
      have HJ : Hid (meetP a.data.toList b.data.toList = setOfP ((bytesB (inL a.data.toList)).filter fun u => inL b.data.toList u.toNat)) := by rw [Hid, meet_setOf, meetP, oa, ob]; rfl
      rw [ob] at OB
      clear oa ob
      generalize hv : pairV (meetP a.data.toList b.data.toList) = v at *
      obtain ⟨t, ok, rfl⟩ : ∃ t ok, v = .tuple #[.string t, .bool ok] := ⟨_, _, hv.symm⟩
      have HVv : Hid (pairV (meetP a.data.toList b.data.toList) = .tuple #[.string t, .bool ok]) := hv
      clear hv
      generalize bytesB (inL a.data.toList) = l at *
      generalize inL b.data.toList = g at *
      obtain ⟨tl, htl⟩ : ∃ t, t = str l := ⟨_, rfl⟩
      rw [← htl] at BA
      have hsz : tl.size = l.length := by rw [htl]; exact str_size l
      have HGet : Hid (∀ i (h : i < l.length) (h' : i < tl.size), tl[i] = l[i]) := fun i h h' => by subst htl; rfl
      have HEx : Hid (∀ i (h : i < l.length), tl.extract i (i + 1) = str [l[i]]) := fun i h => by subst htl; exact str_extract l i h
      clear htl
      go_enter Tryd.func35, Tryd.ntmps35
      go_wp2_with fail
      refine (OA.out _).mono ?_
      rintro e w1 ⟨rfl, hb1⟩
      go_wp2_with fail
      refine (OB.out _).mono ?_
      rintro e w2 ⟨rfl, hb2⟩
      have h2 := hb1.trans (hb2.mono hb1.size)
      clear hb2 hb1
      go_wp2_with fail
      refine (BA.out _).mono ?_
      rintro e w3 ⟨rfl, hb3⟩
      have H3 : Hid (Below w.heap.size w w3) := h2.trans (hb3.mono h2.size)
      clear hb3 h2
      go_wp2
      go_loopw [6, 8] (fun tv iv wr => ∃ k : Nat, tv = .string (str ((l.take k).filter fun u => g u.toNat)) ∧ iv = .int .i64 k ∧ k ≤ l.length ∧ Below w.heap.size w wr) (fun _ iv _ => l.length - (intOf iv).toNat)
      case atStart => exact ⟨0, rfl, rfl, Nat.zero_le _, H3.out⟩
      case round =>
        obtain ⟨k, rfl, rfl, hk, hbel⟩ := hrel
        have HB : Hid (Below w.heap.size w wr) := hbel
        clear hbel
        by_cases hlt : k < l.length
        · have hlt2 : k < tl.size := by omega
          have e0 := HGet.out k hlt hlt2
          have hsl : ∀ W, (Instr.slice 9 (.string tl) (some (.int .i64 (k : Int))) (some (.int .i64 ((k : Int) + 1))) none).run Tryd.prog W = .ok (.string (str [l[k]])) W := fun W => by
            rw [run_slice_string (P := Tryd.prog) W 9 tl .i64 .i64 (k : Int) ((k : Int) + 1) Tryd.underlying9 (by omega) (by omega) (by omega), Int.toNat_natCast, show ((k : Int) + 1).toNat = k + 1 by omega, HEx.out k hlt]
          have hu := l[k].toNat_lt
          have HB1 : Hid (∀ w1, Below wr.heap.size wr w1 → Below w.heap.size w w1) := fun w1 h => HB.out.trans (h.mono HB.out.size)
          cases hg : g l[k].toNat with
          | true =>
            have HP : Hid ((l.take (k + 1)).filter (fun u => g u.toNat) = (l.take k).filter (fun u => g u.toNat) ++ [l[k]]) := by
              rw [Hid, List.take_succ_eq_append_getElem hlt, List.filter_append]
              simp [hg]
            have hfl : ((l.take k).filter (fun u => g u.toNat)).length ≤ k := Nat.le_trans (List.length_filter_le _ _) (by simp; omega)
            have hadd := fun W => run_add_str (P := Tryd.prog) W ((l.take k).filter (fun u => g u.toNat)) [l[k]] (by simp only [List.length_singleton]; omega)
            go_wp2_with (go_at_call 31; refine (HI.out l[k].toNat _ hu).mono ?_; rw [hg]; rintro e w4 ⟨rfl, hb4⟩)
            have HB2 : Hid (Below w.heap.size w w4) := HB1.out w4 hb4
            go_roundw
            case rel => exact ⟨k + 1, by rw [HP.out], by go_num, by omega, HB2.out⟩
            case measure => simp [intOf]; omega
          | false =>
            have HP : Hid ((l.take (k + 1)).filter (fun u => g u.toNat) = (l.take k).filter (fun u => g u.toNat)) := by
              rw [Hid, List.take_succ_eq_append_getElem hlt, List.filter_append]
              simp [hg]
            go_wp2_with (go_at_call 31; refine (HI.out l[k].toNat _ hu).mono ?_; rw [hg]; rintro e w4 ⟨rfl, hb4⟩)
            have HB2 : Hid (Below w.heap.size w w4) := HB1.out w4 hb4
            go_roundw
            case rel => exact ⟨k + 1, by rw [HP.out], by go_num, by omega, HB2.out⟩
            case measure => simp [intOf]; omega
        · obtain rfl : k = l.length := by omega
          have htk : l.take l.length = l := List.take_length
          have hfl : (l.filter (fun u => g u.toNat)).length ≤ l.length := List.length_filter_le _ _
          have HX : Hid (∀ W, _) := fun W => specSetOf_any (str (l.filter (fun u => g u.toNat))) W (by rw [str_size]; omega)
          rw [str_list, ← HJ.out, HVv.out] at HX
          rw [htk]
          clear htk
          go_wp2_with (go_at_call 27; refine (HX.out _).mono ?_; rintro e w5 ⟨rfl, hb5⟩)
          go_ret2
          exact ⟨rfl, HB.out.trans (hb5.mono HB.out.size)⟩

end Go.Proofs.YtokgkjfgknjbbaaDoor
