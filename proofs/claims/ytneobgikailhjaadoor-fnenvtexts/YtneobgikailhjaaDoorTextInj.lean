/- Lists of right names that are told the same are the same: the plain mathematics. -/
import Derived.Test.YtneobgikailhjaaDoorTextI
import Derived.Test.YtneobgikailhjaaDoorRdPure
import Derived.Test.YtneobgikailhjaaDoorEnvOrd
namespace Go.Proofs.YtneobgikailhjaaDoor
open Go.RowKit

theorem cut_at (c : UInt8) : ∀ (a b x y : List UInt8), c ∉ a → c ∉ b → a ++ c :: x = b ++ c :: y → a = b ∧ x = y
  | [], [], x, y, _, _, h => by simpa using h
  | [], e :: b, x, y, _, hb, h => by
    simp only [List.nil_append, List.cons_append, List.cons.injEq] at h
    exact absurd (by rw [h.1]; exact List.mem_cons_self ..) hb
  | d :: a, [], x, y, ha, _, h => by
    simp only [List.nil_append, List.cons_append, List.cons.injEq] at h
    exact absurd (by rw [← h.1]; exact List.mem_cons_self ..) ha
  | d :: a, e :: b, x, y, ha, hb, h => by
    simp only [List.cons_append, List.cons.injEq] at h
    have := cut_at c a b x y (fun h => ha (List.mem_cons_of_mem _ h)) (fun h => hb (List.mem_cons_of_mem _ h)) h.2
    exact ⟨by rw [h.1, this.1], this.2⟩

theorem joinTail_cons (p : List UInt8) (r : List (List UInt8)) : Lib.joinTail [44] (p :: r) = 44 :: (p ++ Lib.joinTail [44] r) := by simp [Lib.joinTail]
theorem tail_inj : ∀ (r s : List (List UInt8)) (x y : List UInt8), 44 ∉ x → 44 ∉ y → (∀ p ∈ r, 44 ∉ p) → (∀ p ∈ s, 44 ∉ p) → x ++ Lib.joinTail [44] r = y ++ Lib.joinTail [44] s → x :: r = y :: s
  | [], [], x, y, _, _, _, _, h => by simpa [Lib.joinTail] using h
  | [], q :: s, x, y, hx, _, _, _, h => by
    rw [joinTail_cons] at h
    have : x = y ++ 44 :: (q ++ Lib.joinTail [44] s) := by simpa [Lib.joinTail] using h
    exact absurd (by rw [this]; simp) hx
  | p :: r, [], x, y, _, hy, _, _, h => by
    rw [joinTail_cons] at h
    have : x ++ 44 :: (p ++ Lib.joinTail [44] r) = y := by simpa [Lib.joinTail] using h
    exact absurd (by rw [← this]; simp) hy
  | p :: r, q :: s, x, y, hx, hy, hr, hs, h => by
    rw [joinTail_cons, joinTail_cons] at h
    obtain ⟨h1, h2⟩ := cut_at 44 _ _ _ _ hx hy h
    have := tail_inj r s p q (hr p (List.mem_cons_self ..)) (hs q (List.mem_cons_self ..)) (fun t ht => hr t (List.mem_cons_of_mem _ ht)) (fun t ht => hs t (List.mem_cons_of_mem _ ht)) h2
    rw [h1, this]
theorem join_inj : ∀ (r s : List (List UInt8)), (∀ p ∈ r, 44 ∉ p ∧ p ≠ []) → (∀ p ∈ s, 44 ∉ p ∧ p ≠ []) → Lib.join r [44] = Lib.join s [44] → r = s
  | [], [], _, _, _ => rfl
  | [], q :: s, _, hs, h => by
    rw [Lib.join_nil, Lib.join_cons] at h
    have h1 : q = [] := (List.append_eq_nil_iff.1 h.symm).1
    exact absurd h1 (hs q (List.mem_cons_self ..)).2
  | p :: r, [], hr, _, h => by
    rw [Lib.join_nil, Lib.join_cons] at h
    have h1 : p = [] := (List.append_eq_nil_iff.1 h).1
    exact absurd h1 (hr p (List.mem_cons_self ..)).2
  | p :: r, q :: s, hr, hs, h => by
    rw [Lib.join_cons, Lib.join_cons] at h
    exact tail_inj r s p q (hr p (List.mem_cons_self ..)).1 (hs q (List.mem_cons_self ..)).1 (fun t ht => (hr t (List.mem_cons_of_mem _ ht)).1) (fun t ht => (hs t (List.mem_cons_of_mem _ ht)).1) h

/-- The figures of a number, as they are told. -/
theorem num_neg {n : Int} (h : n < 0) (h9 : -9999 ≤ n) : (numB n).data.toList = 45 :: Lib.decDigits (-n).toNat := by
  rw [numB, if_pos h, if_neg (by omega), ba_append, Lib.itoa, if_neg (by omega)]
  simp [str]
theorem num_pos {n : Int} (h : ¬ n < 0) : (numB n).data.toList = Lib.decDigits n.toNat := by
  rw [numB, if_neg h, Lib.itoa, if_neg h]
  simp [str]
theorem dec_inj {u v : Nat} (h : Lib.decDigits u = Lib.decDigits v) : u = v := by
  rw [← valD_dec u, h, valD_dec]
theorem dec_no {u : Nat} {c : UInt8} (h : c.toNat < 48) : c ∉ Lib.decDigits u := fun hc => by have := (dec_figs u c hc).1; omega
theorem num_inj {n m : Int} (hn : -9999 ≤ n) (hm : -9999 ≤ m) (h : (numB n).data.toList = (numB m).data.toList) : n = m := by
  by_cases h1 : n < 0
  · by_cases h2 : m < 0
    · rw [num_neg h1 hn, num_neg h2 hm] at h
      have := dec_inj (List.cons.inj h).2
      omega
    · rw [num_neg h1 hn, num_pos h2] at h
      exact absurd (by rw [← h]; exact List.mem_cons_self ..) (dec_no (u := m.toNat) (c := 45) (by decide))
  · by_cases h2 : m < 0
    · rw [num_pos h1, num_neg h2 hm] at h
      exact absurd (by rw [h]; exact List.mem_cons_self ..) (dec_no (u := n.toNat) (c := 45) (by decide))
    · rw [num_pos h1, num_pos h2] at h
      have := dec_inj h
      omega
theorem num_no {n : Int} (hn : -9999 ≤ n) : 44 ∉ (numB n).data.toList := by
  by_cases h1 : n < 0
  · rw [num_neg h1 hn]
    intro h
    rcases List.mem_cons.1 h with h | h
    · exact absurd h (by decide)
    · exact dec_no (by decide) h
  · rw [num_pos h1]
    exact dec_no (by decide)
theorem name_no {s : ByteArray} (h : nameB s = true) {c : UInt8} (hc : c.toNat < 97) : c ∉ s.data.toList := fun hm => by
  simp only [nameB, Bool.and_eq_true, List.all_eq_true] at h
  have := h.1 c hm
  simp only [letB, decide_eq_true_eq] at this
  omega
theorem tB_list (x : VarD) : (tB x).data.toList = x.1.data.toList ++ 61 :: (numB x.2).data.toList := by
  rw [tB, ba_append, ba_append]
  simp

/-- One of a right list. -/
def Fine (x : VarD) : Prop := nameB x.1 = true ∧ -9999 ≤ x.2 ∧ x.2 ≤ 9999
theorem tB_inj {x y : VarD} (hx : Fine x) (hy : Fine y) (h : (tB x).data.toList = (tB y).data.toList) : x = y := by
  rw [tB_list, tB_list] at h
  obtain ⟨h1, h2⟩ := cut_at 61 _ _ _ _ (name_no hx.1 (by decide)) (name_no hy.1 (by decide)) h
  exact Prod.ext (ByteArray.ext (Array.toList_inj.1 h1)) (num_inj hx.2.1 hy.2.1 h2)
theorem tB_ok {x : VarD} (hx : Fine x) : 44 ∉ (tB x).data.toList ∧ (tB x).data.toList ≠ [] := by
  rw [tB_list]
  refine ⟨fun h => ?_, by simp⟩
  rcases List.mem_append.1 h with h | h
  · exact name_no hx.1 (by decide) h
  · rcases List.mem_cons.1 h with h | h
    · exact absurd h (by decide)
    · exact num_no hx.2.1 h
theorem map_inj : ∀ (xs ys : List VarD), (∀ x ∈ xs, Fine x) → (∀ x ∈ ys, Fine x) → (xs.map tB).map (fun t => t.data.toList) = (ys.map tB).map (fun t => t.data.toList) → xs = ys
  | [], [], _, _, _ => rfl
  | [], y :: ys, _, _, h => by simp at h
  | x :: xs, [], _, _, h => by simp at h
  | x :: xs, y :: ys, hx, hy, h => by
    simp only [List.map_cons, List.cons.injEq] at h
    rw [tB_inj (hx x (List.mem_cons_self ..)) (hy y (List.mem_cons_self ..)) h.1, map_inj xs ys (fun t ht => hx t (List.mem_cons_of_mem _ ht)) (fun t ht => hy t (List.mem_cons_of_mem _ ht)) h.2]
theorem text_inj {xs ys : List VarD} (hx : ∀ x ∈ xs, Fine x) (hy : ∀ x ∈ ys, Fine x) (h : textB xs = textB ys) : xs = ys := by
  have h1 := congrArg (fun t : ByteArray => t.data.toList) h
  simp only [← textB_join] at h1
  refine map_inj xs ys hx hy (join_inj _ _ (fun p hp => ?_) (fun p hp => ?_) h1)
  · obtain ⟨t, ht, rfl⟩ := List.mem_map.1 hp
    obtain ⟨x, hx', rfl⟩ := List.mem_map.1 ht
    exact tB_ok (hx x hx')
  · obtain ⟨t, ht, rfl⟩ := List.mem_map.1 hp
    obtain ⟨x, hx', rfl⟩ := List.mem_map.1 ht
    exact tB_ok (hy x hx')
theorem fine_chain {xs : List VarD} {p : Option ByteArray} (h : chainB p xs = true) : ∀ x ∈ xs, Fine x := fun x hx => by
  have := chain_all xs p h x hx
  exact ⟨this.1, this.2.1.1, this.2.1.2⟩

def litV : List VarD := [(⟨#[97]⟩, -3), (⟨#[98]⟩, 4)]
theorem lit_text : textB litV = ⟨#[97, 61, 45, 51, 44, 98, 61, 52]⟩ := by
  have h := textB_join litV
  have d3 : Lib.decDigits 3 = [51] := by rw [Lib.decDigits, dif_pos (by decide)]; rfl
  have d4 : Lib.decDigits 4 = [52] := by rw [Lib.decDigits, dif_pos (by decide)]; rfl
  have e1 : (tB ((⟨#[97]⟩ : ByteArray), (-3 : Int))).data.toList = [97, 61, 45, 51] := by
    rw [tB_list, num_neg (by decide) (by decide)]
    show [97] ++ 61 :: 45 :: Lib.decDigits 3 = _
    rw [d3]; rfl
  have e2 : (tB ((⟨#[98]⟩ : ByteArray), (4 : Int))).data.toList = [98, 61, 52] := by
    rw [tB_list, num_pos (by decide)]
    show [98] ++ 61 :: Lib.decDigits 4 = _
    rw [d4]; rfl
  simp only [litV, List.map_cons, List.map_nil, e1, e2] at h
  apply ByteArray.ext
  apply Array.toList_inj.1
  exact h.symm

end Go.Proofs.YtneobgikailhjaaDoor
