/- Names that an expression does not have change nothing of it; the laws' sameTexts. -/
import Derived.Test.YtokgkjfgknjbbaaDoorXFreeP
import Derived.Test.YtokgkjfgknjbbaaDoorSameV
import Derived.Test.YtokgkjfgknjbbaaDoorXSub
namespace Go.Proofs.YtokgkjfgknjbbaaDoor
open Go.RowKit

theorem getB_filter (q : ByteArray → Bool) (k : ByteArray) : ∀ xs : List VarD, getB (xs.filter (fun x => q x.1)) k = if q k = true then getB xs k else none
  | [] => by simp [getB]
  | x :: xs => by
    have ih := getB_filter q k xs
    by_cases h : q x.1 = true
    · rw [List.filter_cons, if_pos h, getB, getB, ih]
      by_cases e : x.1 = k
      · subst e; simp [h]
      · simp [e]
    · rw [List.filter_cons, if_neg h, ih, getB]
      by_cases e : x.1 = k
      · subst e; simp [h]
      · simp [e]
theorem mem_free {ns : List NodeD} (h : exprB ns = true) {k : Nat} (hk : k < ns.length) (h2 : ns[k].op = 2) : ns[k].name ∈ freeB ns := by
  rw [freeB, if_pos h]
  have h1 := (freeF_asc ns (k + 1) (by omega)).2 ns[k].name
  rw [freeF_next ns k hk, if_pos h2] at h1
  have key : ∀ m, k + 1 ≤ m → m ≤ ns.length → ns[k].name ∈ freeF (ns.take m) := by
    intro m
    induction m with
    | zero => intro h; omega
    | succ m ih =>
      intro hm hl
      rw [freeF_next ns m (by omega)]
      by_cases e : k = m
      · subst e
        rw [if_pos h2]
        exact mem_putS.2 (.inr rfl)
      · have := ih (by omega) (by omega)
        split
        · exact mem_putS.2 (.inl this)
        · exact this
  have := key ns.length (by omega) (Nat.le_refl _)
  rwa [List.take_of_length_le (Nat.le_refl _)] at this
theorem evalN_env {ns : List NodeD} {env env' : ByteArray → Option Int} (h : ∀ k (hk : k < ns.length), ns[k].op = 2 → env ns[k].name = env' ns[k].name) (here : Int) : ∀ f i, evalN ns env here f i = evalN ns env' here f i
  | 0, _ => rfl
  | f + 1, i => by
    rw [evalN, evalN]
    cases hx : ns[i]? with
    | none => rfl
    | some x =>
      obtain ⟨hi, rfl⟩ := List.getElem?_eq_some_iff.1 hx
      have e : (ns[i].kids.map fun k => evalN ns env here f k.toNat) = ns[i].kids.map fun k => evalN ns env' here f k.toNat := List.map_congr_left fun k _ => evalN_env h here f k.toNat
      simp only
      rw [e]
      cases allV (ns[i].kids.map fun k => evalN ns env' here f k.toNat) with
      | none => rfl
      | some vs =>
        simp only
        congr 1
        unfold nodeV
        by_cases h2 : ns[i].op = 2
        · have h1 : ¬ ns[i].op = 1 := by omega
          rw [if_neg h1, if_neg h1, if_pos h2, if_pos h2]; exact h i hi h2
        · rw [if_neg h2, if_neg h2]
/-- WHAT NO NAME OF IT TELLS CHANGES NOTHING. -/
theorem eval_only {ns : List NodeD} (h : exprB ns = true) (xs : List VarD) (here : Int) : evalB ns (getB (onlyB xs (freeB ns))) here = evalB ns (getB xs) here := by
  rw [evalB, evalB, if_pos h, if_pos h]
  apply evalN_env
  intro k hk h2
  rw [onlyB, getB_filter (fun s => inB (freeB ns) s), if_pos ((inB_iff _ _).2 (mem_free h hk h2))]

set_option maxHeartbeats 800000 in
theorem sameTexts_any (u v : Value) (ss : List ByteArray) (w : World) (hn : ss.length ≤ 1048576) (h : SRow w u ss) (h' : SRow w v ss) :
    Calls Tryd.prog 16 #[u, v] w fun e w' => e = .returned (.bool true) ∧ Below w.heap.size w w' := by
  have HU : Hid (SRow w u ss) := h
  have HV : Hid (SRow w v ss) := h'
  obtain ⟨a, cap, rfl⟩ := h.slice
  obtain ⟨b, cap', rfl⟩ := h'.slice
  clear h h'
  go_enter Tryd.func16, Tryd.ntmps16
  go_wp2
  go_loopw [5] (fun iv wr => ∃ k q : Nat, iv = .int .i64 k ∧ k ≤ ss.length ∧ wr = w.drewN q) (fun iv _ => ss.length - (intOf iv).toNat)
  case atStart => exact ⟨0, 0, rfl, Nat.zero_le _, rfl⟩
  case round =>
    obtain ⟨k, q, rfl, hk, hwr⟩ := hrel
    have HW : Hid (wr = w.drewN q) := hwr
    have B1 : Hid (Below w.heap.size w wr) := by rw [Hid, hwr]; exact bel_drewN (Below.refl _ _) q
    clear hwr
    by_cases hlt : k < ss.length
    · obtain ⟨ba, oa, rfl, ca⟩ := (HU.out.below B1.out).at hlt
      obtain ⟨bb, ob, rfl, cb⟩ := (HV.out.below B1.out).at hlt
      have i4 : (k : Int) < (ss.length : Int) := by omega
      have ht : (ss[k].toList == ss[k].toList) = true := by simp
      go_wp2
      go_quiet (fail)
      go_wp2
      go_roundw
      case rel => exact ⟨k + 1, q + nq, by go_num, by omega, by rw [HW.out, World.drewN_drewN]⟩
      case measure => simp [intOf]; omega
    · obtain rfl : k = ss.length := by omega
      go_wp2
      go_ret
      exact ⟨rfl, B1.out⟩
end Go.Proofs.YtokgkjfgknjbbaaDoor
