/- Names that an expression does not have change nothing of it; the laws' sameTexts. -/
import Derived.Test.YtokgkjfgknjbbaaDoorEnvSet
import Derived.Test.YtokgkjfgknjbbaaDoorSKit
import Derived.Test.YtokgkjfgknjbbaaDoorXFreeP
import Derived.Test.YtokgkjfgknjbbaaDoorXSub
namespace Go.Proofs.YtokgkjfgknjbbaaDoor
open Go.RowKit

def inB (ss : List ByteArray) (s : ByteArray) : Bool := ss.any (fun t => decide (t = s))
theorem inB_iff (ss : List ByteArray) (s : ByteArray) : inB ss s = true ↔ s ∈ ss := by simp [inB]
def onlyB (xs : List VarD) (ss : List ByteArray) : List VarD := xs.filter (fun x => inB ss x.1)

set_option maxHeartbeats 800000 in
theorem specIn_any (v : Value) (ss : List ByteArray) (s : ByteArray) (w : World) (hn : ss.length ≤ 1048576) (h : SRow w v ss) :
    Calls Tryd.prog 46 #[v, .string s] w fun e w' => e = .returned (.bool (inB ss s)) ∧ w' = w := by
  have HR : Hid (SRow w v ss) := h
  obtain ⟨a, cap, rfl⟩ := h.slice
  clear h
  go_enter Tryd.func46, Tryd.ntmps46
  go_wp2
  go_loop [5] (fun iv => ∃ k : Nat, iv = .int .i64 k ∧ k ≤ ss.length ∧ ∀ j (hj : j < ss.length), j < k → ss[j] ≠ s) (fun iv => ss.length - (intOf iv).toNat)
  case atStart => exact ⟨0, rfl, Nat.zero_le _, fun _ _ h => by omega⟩
  case round =>
    obtain ⟨k, rfl, hk, hj⟩ := hrel
    have HJ : Hid (∀ j (hj : j < ss.length), j < k → ss[j] ≠ s) := hj
    clear hj
    by_cases hlt : k < ss.length
    · obtain ⟨b, off, rfl, hc1⟩ := HR.out.at hlt
      by_cases hnm : ss[k] = s
      · have ht := beq_yes hnm
        have HV : Hid (inB ss s = true) := by rw [Hid, inB_iff, ← hnm]; exact List.getElem_mem _
        clear hnm
        go_wp2
        go_ret
        rw [HV.out]
        exact ⟨rfl, rfl⟩
      · have ht := beq_no hnm
        go_wp2
        go_round
        case rel =>
          refine ⟨k + 1, by go_num, by omega, fun j hj hjk => ?_⟩
          by_cases e : j = k
          · subst e; exact hnm
          · exact HJ.out j hj (by omega)
        case measure => simp [intOf]; omega
    · have HV : Hid (inB ss s = false) := by
        rw [Hid, ← Bool.not_eq_true, inB_iff]
        intro hm
        obtain ⟨j, hj, e⟩ := List.getElem_of_mem hm
        exact HJ.out j hj (by omega) e
      go_wp2
      go_ret
      rw [HV.out]
      exact ⟨rfl, rfl⟩
theorem specIn_is (v : Value) (ss : List ByteArray) (s : ByteArray) (b : Bool) (hb : inB ss s = b) (w : World) (hn : ss.length ≤ 1048576) (h : SRow w v ss) :
    Calls Tryd.prog 46 #[v, .string s] w fun e w' => e = .returned (.bool b) ∧ w' = w := by
  rw [← hb]; exact specIn_any v ss s w hn h

set_option maxHeartbeats 1600000 in
theorem specEnvOnly_any (v u : Value) (xs : List VarD) (ss : List ByteArray) (w : World) (hn : xs.length ≤ 1048576) (hs : ss.length ≤ 1048576) (h : VRow w v xs) (h' : SRow w u ss) :
    Calls Tryd.prog 13 #[v, u] w fun e w' => ∃ o, e = .returned o ∧ OwnV w.heap.size o (onlyB xs ss) w' ∧ Below w.heap.size w w' := by
  obtain ⟨i0, hi, hz0, hz1, hz2⟩ := info_parts Tryd.infoVar
  have HR : Hid (VRow w v xs) := h
  have HS : Hid (SRow w u ss) := h'
  obtain ⟨a, cap, rfl⟩ := h.slice
  obtain ⟨a', cap', rfl⟩ := h'.slice
  clear h h'
  go_enter Tryd.func13, Tryd.ntmps13
  go_wp2
  go_loopw [5, 6] (fun ov iv wr => ∃ k : Nat, iv = .int .i64 k ∧ k ≤ xs.length ∧ OwnV w.heap.size ov ((xs.take k).filter (fun x => inB ss x.1)) wr ∧ Below w.heap.size w wr) (fun _ iv _ => xs.length - (intOf iv).toNat)
  case atStart => exact ⟨0, rfl, Nat.zero_le _, World.ownsRow_made _ _ _ (Nat.le_refl _) (by decide) rfl, (Below.refl _ _).alloc (Nat.le_refl _) _⟩
  case round =>
    obtain ⟨k, rfl, hk, hown, hb⟩ := hrel
    have HO : Hid (OwnV w.heap.size u5 ((xs.take k).filter (fun x => inB ss x.1)) wr) := hown
    have HB : Hid (Below w.heap.size w wr) := hb
    have HRr : Hid (VRow wr (.slice a xs.length cap) xs) := HR.out.below hb
    have HSr : Hid (SRow wr (.slice a' ss.length cap') ss) := HS.out.below hb
    clear hb hown
    by_cases hlt : k < xs.length
    · obtain ⟨b, off, rfl, hc1, hc2⟩ := HRr.out.at hlt
      have hfl : ((xs.take k).filter (fun x => inB ss x.1)).length ≤ k := Nat.le_trans (List.length_filter_le _ _) (by rw [List.length_take]; exact Nat.min_le_left _ _)
      have HF : Hid (_ = _) := filt_next (fun x => inB ss x.1) xs k hlt
      generalize (xs.take k).filter (fun x => inB ss x.1) = ys at *
      cases hls : inB ss xs[k].1 with
      | true =>
        have HK := specIn_is _ ss xs[k].1 true hls wr hs HSr.out
        have HF2 : Hid ((xs.take (k + 1)).filter (fun x => inB ss x.1) = ys ++ [xs[k]]) := by have := HF.out; rwa [hls, if_pos rfl] at this
        clear hls HF
        go_wp2_with fail
        refine HK.mono ?_
        rintro e wq ⟨rfl, hw⟩
        rw [hw]
        clear hw HK
        go_wp2_with (at_builtin; refine wpList_append_own _ rfl _ _ 28 rfl w.heap.size 68 i0 _ 2 24 Tryd.underlying28 hi hz0 hz1 hz2 rfl (by decide) _ _ _ rfl (World.ownsRow.alloc HO.out _) ⟨wr.heap.size, 0, none⟩ 1 1 [.string xs[k].1, .int .i64 xs[k].2] rfl rfl (two_at _ _ _ _) (two_cell _ _) (by unfold maxLen; omega) (by omega) (by have h8 := HB.out.size; simp; omega) ?_)
        intro v' w2 hown2 hgrow _
        have R := ownV_snoc hown2 HO.out hgrow rfl HB.out
        clear hown2 hgrow
        go_wp2
        go_roundw
        case rel => exact ⟨k + 1, by go_num, by omega, by rw [HF2.out]; exact R.1, R.2⟩
        case measure => simp [intOf]; omega
      | false =>
        have HK := specIn_is _ ss xs[k].1 false hls wr hs HSr.out
        have HF2 : Hid ((xs.take (k + 1)).filter (fun x => inB ss x.1) = ys) := by have := HF.out; rwa [hls, if_neg (by simp), List.append_nil] at this
        clear hls HF
        go_wp2_with fail
        refine HK.mono ?_
        rintro e wq ⟨rfl, hw⟩
        rw [hw]
        clear hw HK
        go_wp2
        go_roundw
        case rel => exact ⟨k + 1, by go_num, by omega, by rw [HF2.out]; exact HO.out, HB.out⟩
        case measure => simp [intOf]; omega
    · obtain rfl : k = xs.length := by omega
      rw [List.take_of_length_le (Nat.le_refl _)] at HO
      go_wp2
      go_ret
      exact ⟨_, rfl, HO.out, HB.out⟩

end Go.Proofs.YtokgkjfgknjbbaaDoor

namespace Go.Proofs.YtokgkjfgknjbbaaDoor
open Go.RowKit

set_option maxHeartbeats 800000 in
theorem has_any (v : Value) (ss : List ByteArray) (s : ByteArray) (w : World) (hn : ss.length ≤ 1048576) (h : SRow w v ss) :
    Calls Tryd.prog 14 #[v, .string s] w fun e w' => e = .returned (.bool (inB ss s)) ∧ w' = w := by
  have HR : Hid (SRow w v ss) := h
  obtain ⟨a, cap, rfl⟩ := h.slice
  clear h
  go_enter Tryd.func14, Tryd.ntmps14
  go_wp2
  go_loop [5] (fun iv => ∃ k : Nat, iv = .int .i64 k ∧ k ≤ ss.length ∧ ∀ j (hj : j < ss.length), j < k → ss[j] ≠ s) (fun iv => ss.length - (intOf iv).toNat)
  case atStart => exact ⟨0, rfl, Nat.zero_le _, fun _ _ h => by omega⟩
  case round =>
    obtain ⟨k, rfl, hk, hj⟩ := hrel
    have HJ : Hid (∀ j (hj : j < ss.length), j < k → ss[j] ≠ s) := hj
    clear hj
    by_cases hlt : k < ss.length
    · obtain ⟨b, off, rfl, hc1⟩ := HR.out.at hlt
      by_cases hnm : ss[k] = s
      · have ht := beq_yes hnm
        have HV : Hid (inB ss s = true) := by rw [Hid, inB_iff, ← hnm]; exact List.getElem_mem _
        clear hnm
        go_wp2
        go_ret
        rw [HV.out]
        exact ⟨rfl, rfl⟩
      · have ht := beq_no hnm
        go_wp2
        go_round
        case rel =>
          refine ⟨k + 1, by go_num, by omega, fun j hj hjk => ?_⟩
          by_cases e : j = k
          · subst e; exact hnm
          · exact HJ.out j hj (by omega)
        case measure => simp [intOf]; omega
    · have HV : Hid (inB ss s = false) := by
        rw [Hid, ← Bool.not_eq_true, inB_iff]
        intro hm
        obtain ⟨j, hj, e⟩ := List.getElem_of_mem hm
        exact HJ.out j hj (by omega) e
      go_wp2
      go_ret
      rw [HV.out]
      exact ⟨rfl, rfl⟩
theorem has_is (v : Value) (ss : List ByteArray) (s : ByteArray) (b : Bool) (hb : inB ss s = b) (w : World) (hn : ss.length ≤ 1048576) (h : SRow w v ss) :
    Calls Tryd.prog 14 #[v, .string s] w fun e w' => e = .returned (.bool b) ∧ w' = w := by
  rw [← hb]; exact has_any v ss s w hn h

end Go.Proofs.YtokgkjfgknjbbaaDoor

namespace Go.Proofs.YtokgkjfgknjbbaaDoor
open Go.RowKit

theorem getB_filter (q : ByteArray → Bool) (k : ByteArray) : ∀ xs : List VarD, getB (xs.filter (fun x => q x.1)) k = if q k = true then getB xs k else none
  | [] => by simp [getB]
  | x :: xs => by
    have ih := getB_filter q k xs
    by_cases h : q x.1 = true
    · rw [List.filter_cons, if_pos h, getB, getB, ih]
      by_cases e : x.1 = k
      · subst e; simp [h]
      · simp [e]
    · rw [List.filter_cons, if_neg h, ih, getB]
      by_cases e : x.1 = k
      · subst e; simp [h]
      · simp [e]
theorem mem_free {ns : List NodeD} (h : exprB ns = true) {k : Nat} (hk : k < ns.length) (h2 : ns[k].op = 2) : ns[k].name ∈ freeB ns := by
  rw [freeB, if_pos h]
  have h1 := (freeF_asc ns (k + 1) (by omega)).2 ns[k].name
  rw [freeF_next ns k hk, if_pos h2] at h1
  have key : ∀ m, k + 1 ≤ m → m ≤ ns.length → ns[k].name ∈ freeF (ns.take m) := by
    intro m
    induction m with
    | zero => intro h; omega
    | succ m ih =>
      intro hm hl
      rw [freeF_next ns m (by omega)]
      by_cases e : k = m
      · subst e
        rw [if_pos h2]
        exact mem_putS.2 (.inr rfl)
      · have := ih (by omega) (by omega)
        split
        · exact mem_putS.2 (.inl this)
        · exact this
  have := key ns.length (by omega) (Nat.le_refl _)
  rwa [List.take_of_length_le (Nat.le_refl _)] at this
theorem evalN_env {ns : List NodeD} {env env' : ByteArray → Option Int} (h : ∀ k (hk : k < ns.length), ns[k].op = 2 → env ns[k].name = env' ns[k].name) (here : Int) : ∀ f i, evalN ns env here f i = evalN ns env' here f i
  | 0, _ => rfl
  | f + 1, i => by
    rw [evalN, evalN]
    cases hx : ns[i]? with
    | none => rfl
    | some x =>
      obtain ⟨hi, rfl⟩ := List.getElem?_eq_some_iff.1 hx
      have e : (ns[i].kids.map fun k => evalN ns env here f k.toNat) = ns[i].kids.map fun k => evalN ns env' here f k.toNat := List.map_congr_left fun k _ => evalN_env h here f k.toNat
      simp only
      rw [e]
      cases allV (ns[i].kids.map fun k => evalN ns env' here f k.toNat) with
      | none => rfl
      | some vs =>
        simp only
        congr 1
        unfold nodeV
        by_cases h2 : ns[i].op = 2
        · have h1 : ¬ ns[i].op = 1 := by omega
          rw [if_neg h1, if_neg h1, if_pos h2, if_pos h2]; exact h i hi h2
        · rw [if_neg h2, if_neg h2]
/-- WHAT NO NAME OF IT TELLS CHANGES NOTHING. -/
theorem eval_only {ns : List NodeD} (h : exprB ns = true) (xs : List VarD) (here : Int) : evalB ns (getB (onlyB xs (freeB ns))) here = evalB ns (getB xs) here := by
  rw [evalB, evalB, if_pos h, if_pos h]
  apply evalN_env
  intro k hk h2
  rw [onlyB, getB_filter (fun s => inB (freeB ns) s), if_pos ((inB_iff _ _).2 (mem_free h hk h2))]

set_option maxHeartbeats 800000 in
theorem sameTexts_any (u v : Value) (ss : List ByteArray) (w : World) (hn : ss.length ≤ 1048576) (h : SRow w u ss) (h' : SRow w v ss) :
    Calls Tryd.prog 16 #[u, v] w fun e w' => e = .returned (.bool true) ∧ Below w.heap.size w w' := by
  have HU : Hid (SRow w u ss) := h
  have HV : Hid (SRow w v ss) := h'
  obtain ⟨a, cap, rfl⟩ := h.slice
  obtain ⟨b, cap', rfl⟩ := h'.slice
  clear h h'
  go_enter Tryd.func16, Tryd.ntmps16
  go_wp2
  go_loopw [5] (fun iv wr => ∃ k q : Nat, iv = .int .i64 k ∧ k ≤ ss.length ∧ wr = w.drewN q) (fun iv _ => ss.length - (intOf iv).toNat)
  case atStart => exact ⟨0, 0, rfl, Nat.zero_le _, rfl⟩
  case round =>
    obtain ⟨k, q, rfl, hk, hwr⟩ := hrel
    have HW : Hid (wr = w.drewN q) := hwr
    have B1 : Hid (Below w.heap.size w wr) := by rw [Hid, hwr]; exact bel_drewN (Below.refl _ _) q
    clear hwr
    by_cases hlt : k < ss.length
    · obtain ⟨ba, oa, rfl, ca⟩ := (HU.out.below B1.out).at hlt
      obtain ⟨bb, ob, rfl, cb⟩ := (HV.out.below B1.out).at hlt
      have i4 : (k : Int) < (ss.length : Int) := by omega
      have ht : (ss[k].toList == ss[k].toList) = true := by simp
      go_wp2
      go_quiet (fail)
      go_wp2
      go_roundw
      case rel => exact ⟨k + 1, q + nq, by go_num, by omega, by rw [HW.out, World.drewN_drewN]⟩
      case measure => simp [intOf]; omega
    · obtain rfl : k = ss.length := by omega
      go_wp2
      go_ret
      exact ⟨rfl, B1.out⟩
end Go.Proofs.YtokgkjfgknjbbaaDoor
