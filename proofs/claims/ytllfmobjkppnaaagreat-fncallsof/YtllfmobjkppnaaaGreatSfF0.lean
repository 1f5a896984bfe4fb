/- Whether a grammar with groups has a right form, step by step. No program is named. -/
import Derived.Test.YtllfmobjkppnaaaGreatItv
import Derived.Test.YtllfmobjkppnaaaGreatFrK
namespace Go.Proofs.YtllfmobjkppnaaaGreat
open Go.RowKit
set_option linter.unusedVariables false

theorem addU_len (us : List Int) (k : Int) : (addU us k).length = us.length := by rw [addU, List.length_modify]
def BdU (us : List Int) (m : Int) : Prop := ∀ u ∈ us, 0 ≤ u ∧ u ≤ m
theorem addU_bd {us : List Int} {m : Int} (h : BdU us m) (k : Int) : BdU (addU us k) (m + 1) := fun u hu => by
  obtain ⟨i, hi, rfl⟩ := List.getElem_of_mem hu
  have hi' : i < us.length := by rw [addU_len] at hi; exact hi
  have e : (addU us k)[i] = if k.toNat = i then us[i] + 1 else us[i] := by simp only [addU, List.getElem_modify]
  have := h us[i] (List.getElem_mem _)
  rw [e]
  split <;> omega
theorem bdU_mono {us : List Int} {m m' : Int} (h : BdU us m) (hm : m ≤ m') : BdU us m' := fun u hu => by
  have := h u hu
  omega
theorem bdU_zero (n : Nat) : BdU (List.replicate n 0) 0 := fun u hu => by
  rw [List.eq_of_mem_replicate hu]
  omega
theorem zv_addU (us : List Int) (z : Nat) (hz : z < us.length) : zv (addU us (z : Int)) = (zv us).set z (.int .i64 (us[z] + 1)) := by
  simp only [addU, Int.toNat_natCast]
  apply List.ext_getElem
  · simp [zv]
  · intro i h1 h2
    simp only [zv, List.getElem_map, List.getElem_set, List.getElem_modify]
    split <;> simp_all
theorem foldl_next {α β : Type} (f : β → α → β) (b : β) (xs : List α) (k : Nat) (h : k < xs.length) : (xs.take (k + 1)).foldl f b = f ((xs.take k).foldl f b) xs[k] := by
  rw [List.take_succ_eq_append_getElem h, List.foldl_append]; rfl
theorem range_all_next (p : Nat → Bool) (k : Nat) : (List.range (k + 1)).all p = ((List.range k).all p && p k) := by
  rw [List.range_succ, List.all_append]; simp
theorem range_all_no {p : Nat → Bool} {k n : Nat} (h : k < n) (hp : p k = false) : (List.range n).all p = false := by
  rw [List.all_eq_false]
  exact ⟨k, List.mem_range.2 h, by rw [hp]; decide⟩
theorem getD_lt {α : Type} [Inhabited α] (xs : List α) (i : Nat) (h : i < xs.length) : xs.getD i default = xs[i] := by
  rw [List.getD_eq_getElem?_getD, List.getElem?_eq_getElem h]; rfl
theorem all_take_next {α : Type} (p : α → Bool) (xs : List α) (k : Nat) (h : k < xs.length) : (xs.take (k + 1)).all p = ((xs.take k).all p && p xs[k]) := by
  rw [List.take_succ_eq_append_getElem h, List.all_append]; simp
theorem all_no {α : Type} {p : α → Bool} {xs : List α} {k : Nat} (h : k < xs.length) (hp : p xs[k] = false) : xs.all p = false := by
  rw [List.all_eq_false]
  exact ⟨xs[k], List.getElem_mem _, by rw [hp]; decide⟩

section
variable {ns : List SNodeD} {rs : List SRuleD}
theorem form_size (h : ¬ ns.length ≤ 120) : formB ns rs = false := by rw [formB, decide_eq_false h]; rfl
theorem form_rules (h : ¬ (1 ≤ rs.length ∧ rs.length ≤ 8)) : formB ns rs = false := by rw [formB, decide_eq_false h]; simp
theorem form_shape {i : Nat} (hi : i < ns.length) (h : shapeS ns i ns[i] = false) : formB ns rs = false := by
  rw [formB, range_all_no (p := fun i => shapeS ns i (ns.getD i default)) hi (by show _ = _; rw [getD_lt _ _ hi]; exact h)]; simp
theorem form_rule {i : Nat} (hi : i < rs.length) (h : ruleS ns rs i rs[i] = false) : formB ns rs = false := by
  rw [formB, range_all_no (n := rs.length) (p := fun i => ruleS ns rs i (rs.getD i default)) hi (by show _ = _; rw [getD_lt _ _ hi]; exact h)]; simp
theorem form_uses {us : List Int} (hu : us = usesR (usesN (List.replicate ns.length 0) ns) rs) {k : Nat} (hk : k < us.length) (h : ¬ us[k] = 1) : formB ns rs = false := by
  rw [formB, ← hu, all_no (p := fun u => decide (u = 1)) hk (decide_eq_false h)]; simp
theorem form_known {i : Nat} (hi : i < rs.length) (h : knF ns rs fuelK false (nodeS ns rs[i].body).kids rs[i].params = false) : formB ns rs = false := by
  rw [formB, all_no (p := fun r : SRuleD => knF ns rs fuelK false (nodeS ns r.body).kids r.params) hi h]; simp
theorem form_yes (h1 : ns.length ≤ 120) (h2 : 1 ≤ rs.length ∧ rs.length ≤ 8) (h3 : (List.range ns.length).all (fun i => shapeS ns i (ns.getD i default)) = true) (h4 : (List.range rs.length).all (fun i => ruleS ns rs i (rs.getD i default)) = true) (h5 : (usesR (usesN (List.replicate ns.length 0) ns) rs).all (fun u => decide (u = 1)) = true) (h6 : rs.all (fun r => knF ns rs fuelK false (nodeS ns r.body).kids r.params) = true) : formB ns rs = true := by
  rw [formB, decide_eq_true h1, decide_eq_true h2, h3, h4, h5, h6]; rfl
theorem shaped_of (h3 : (List.range ns.length).all (fun i => shapeS ns i (ns.getD i default)) = true) : Shaped ns := fun i hi => by
  have := List.all_eq_true.1 h3 i (List.mem_range.2 hi)
  rw [getD_lt _ _ hi] at this
  exact shF_of this
theorem rules_of (h4 : (List.range rs.length).all (fun i => ruleS ns rs i (rs.getD i default)) = true) (i : Nat) (hi : i < rs.length) : ruleS ns rs i rs[i] = true := by
  have := List.all_eq_true.1 h4 i (List.mem_range.2 hi)
  rwa [getD_lt _ _ hi] at this
end

end Go.Proofs.YtllfmobjkppnaaaGreat
