/- What is told of a tree: each node's text by those ahead of it. No program is named. -/
import Derived.Test.YtdihemolhdjfeaaR8T
namespace Go.Proofs.Ytdihemolhdjfeaa
open Go.RowKit

/-- What is put behind a node's name and parenthesis for its kids from the j-th on. -/
def tailT (ts : List ByteArray) : Nat → List Int → ByteArray
  | _, [] => ⟨#[]⟩
  | j, k :: ks => (if 0 < j then blankP else ⟨#[]⟩) ++ ts.getD k.toNat ⟨#[]⟩ ++ tailT ts (j + 1) ks
theorem ba_nil (s : ByteArray) : s ++ (⟨#[]⟩ : ByteArray) = s := by
  apply ByteArray.ext; simp [ByteArray.data_append]
theorem nil_ba (s : ByteArray) : (⟨#[]⟩ : ByteArray) ++ s = s := by
  apply ByteArray.ext; simp [ByteArray.data_append]
theorem kidT_some (ts : List ByteArray) : ∀ (ks : List Int) (j : Nat) (s r : ByteArray), kidT ts j s ks = some r → r = s ++ tailT ts j ks ∧ ∀ k ∈ ks, 0 ≤ k ∧ k ≤ (ts.length : Int) - 1
  | [], j, s, r, h => by
    rw [kidT] at h
    cases h
    exact ⟨(ba_nil s).symm, by simp⟩
  | k :: ks, j, s, r, h => by
    rw [kidT] at h
    split at h
    · rename_i hk
      obtain ⟨e, hm⟩ := kidT_some ts ks (j + 1) _ r h
      refine ⟨?_, fun x hx => ?_⟩
      · rw [e, tailT]
        split
        · rw [ByteArray.append_assoc, ByteArray.append_assoc, ByteArray.append_assoc]
        · rw [nil_ba, ByteArray.append_assoc]
      · rcases List.mem_cons.1 hx with rfl | hx
        · exact hk
        · exact hm x hx
    · cases h
theorem tailT_ext (ts us : List ByteArray) : ∀ (ks : List Int) (j : Nat), (∀ k ∈ ks, 0 ≤ k ∧ k ≤ (ts.length : Int) - 1) → tailT (ts ++ us) j ks = tailT ts j ks
  | [], j, _ => rfl
  | k :: ks, j, h => by
    have hk := h k List.mem_cons_self
    rw [tailT, tailT, tailT_ext ts us ks (j + 1) (fun x hx => h x (List.mem_cons_of_mem _ hx))]
    rw [List.getD_eq_getElem?_getD, List.getD_eq_getElem?_getD, List.getElem?_append_left (by omega)]
/-- A node's text is told by those ahead of it. -/
def Told (g : List RuleD) (ts : List ByteArray) (xs : List TNodeD) : Prop :=
  ts.length = xs.length ∧ ∀ i (h : i < xs.length), (0 ≤ xs[i].rule ∧ xs[i].rule ≤ (g.length : Int) - 1) ∧ (∀ k ∈ xs[i].kids, 0 ≤ k ∧ k ≤ (i : Int) - 1) ∧ ts.getD i ⟨#[]⟩ = ((g.getD xs[i].rule.toNat default).name ++ openP) ++ tailT ts 0 xs[i].kids ++ shutP ∧ (ts.getD i ⟨#[]⟩).size ≤ 2000
theorem textsB_told (g : List RuleD) : ∀ (ys : List TNodeD) (ts zs : List ByteArray), textsB g ts ys = some zs → ∃ us, zs = ts ++ us ∧ us.length = ys.length ∧ ∀ i (h : i < ys.length), (0 ≤ ys[i].rule ∧ ys[i].rule ≤ (g.length : Int) - 1) ∧ (∀ k ∈ ys[i].kids, 0 ≤ k ∧ k ≤ ((ts.length + i : Nat) : Int) - 1) ∧ zs.getD (ts.length + i) ⟨#[]⟩ = ((g.getD ys[i].rule.toNat default).name ++ openP) ++ tailT zs 0 ys[i].kids ++ shutP ∧ (zs.getD (ts.length + i) ⟨#[]⟩).size ≤ 2000
  | [], ts, zs, h => by
    rw [textsB] at h
    cases h
    exact ⟨[], by simp, rfl, fun i h => absurd h (by simp)⟩
  | x :: ys, ts, zs, h => by
    rw [textsB] at h
    split at h
    · rename_i hru
      cases hk : kidT ts 0 ((g.getD x.rule.toNat default).name ++ openP) x.kids with
      | none => rw [hk] at h; cases h
      | some s =>
        rw [hk] at h
        simp only at h
        split at h
        · cases h
        · rename_i hsz
          obtain ⟨es, hkm⟩ := kidT_some ts _ _ _ _ hk
          obtain ⟨us, hzs, hul, hall⟩ := textsB_told g ys _ zs h
          have hzs' : zs = ts ++ ((s ++ shutP) :: us) := by rw [hzs]; simp
          refine ⟨(s ++ shutP) :: us, hzs', by simp [hul], fun i hi => ?_⟩
          have h0 : zs.getD (ts.length + 0) ⟨#[]⟩ = s ++ shutP := by
            rw [hzs', List.getD_eq_getElem?_getD]
            simp
          match i, hi with
          | 0, _ =>
            refine ⟨hru, fun k hk => ?_, ?_, ?_⟩
            · have := hkm k hk
              simpa using this
            · rw [h0, es]
              simp only [List.getElem_cons_zero]
              rw [hzs', tailT_ext ts _ _ _ hkm]
            · rw [h0]; omega
          | i + 1, hi =>
            have := hall i (by simpa using hi)
            simp only [List.length_append, List.length_cons, List.length_nil] at this
            have e : ts.length + (0 + 1) + i = ts.length + (i + 1) := by omega
            rw [e] at this
            exact this
    · cases h
theorem told_of {g : List RuleD} {xs : List TNodeD} {zs : List ByteArray} (h : textsB g [] xs = some zs) : Told g zs xs := by
  obtain ⟨us, hzs, hul, hall⟩ := textsB_told g xs [] zs h
  rw [List.nil_append] at hzs
  subst hzs
  refine ⟨hul, fun i hi => ?_⟩
  have := hall i hi
  simp only [List.length_nil, Nat.zero_add] at this
  exact this
def mayB (g : List RuleD) (xs : List TNodeD) : Bool := match textsB g [] xs with | none => false | some _ => decide (0 < xs.length)
theorem treeTextB_no {g : List RuleD} {xs : List TNodeD} (h : mayB g xs = false) : treeTextB g xs = ⟨#[]⟩ := by
  rw [treeTextB]
  rw [mayB] at h
  cases e : textsB g [] xs with
  | none => rfl
  | some zs =>
    rw [e] at h
    have h0 : xs.length = 0 := by have := of_decide_eq_false h; omega
    have := (told_of e).1
    have hz : zs = [] := List.length_eq_zero_iff.1 (by omega)
    rw [hz]; rfl
theorem treeTextB_yes {g : List RuleD} {xs : List TNodeD} (h : mayB g xs = true) : ∃ zs, Told g zs xs ∧ 0 < xs.length ∧ treeTextB g xs = zs.getD (xs.length - 1) ⟨#[]⟩ := by
  rw [mayB] at h
  cases e : textsB g [] xs with
  | none => rw [e] at h; cases h
  | some zs =>
    rw [e] at h
    have hT := told_of e
    refine ⟨zs, hT, of_decide_eq_true h, ?_⟩
    rw [treeTextB, e]
    show lastT zs = _
    rw [lastT, hT.1]
/-- The text from the j-th kid on, one step. -/
theorem tailT_drop (ts : List ByteArray) (ks : List Int) (j : Nat) (h : j < ks.length) : tailT ts j (ks.drop j) = (if 0 < j then blankP else ⟨#[]⟩) ++ ts.getD ks[j].toNat ⟨#[]⟩ ++ tailT ts (j + 1) (ks.drop (j + 1)) := by
  rw [List.drop_eq_getElem_cons h, tailT]

end Go.Proofs.Ytdihemolhdjfeaa
