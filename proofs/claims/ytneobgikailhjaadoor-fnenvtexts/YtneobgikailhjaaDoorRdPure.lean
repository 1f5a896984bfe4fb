/- What is read out of decimal figures: the plain mathematics, with no program in it. -/
import Derived.Test.YtneobgikailhjaaDoorDecPure
namespace Go.Proofs.YtneobgikailhjaaDoor
open Go.RowKit

/-- The number that figures tell. -/
def valD (l : List UInt8) : Nat := l.foldl (fun v b => v * 10 + (b.toNat - 48)) 0

theorem valD_snoc (l : List UInt8) (b : UInt8) : valD (l ++ [b]) = valD l * 10 + (b.toNat - 48) := by simp [valD]

theorem snoc_ind {P : List UInt8 → Prop} (h0 : P []) (h1 : ∀ l b, P l → P (l ++ [b])) (l : List UInt8) : P l := by
  have : ∀ m : List UInt8, P m.reverse := by
    intro m
    induction m with
    | nil => exact h0
    | cons b m ih => rw [List.reverse_cons]; exact h1 _ b ih
  have h := this l.reverse
  rwa [List.reverse_reverse] at h

theorem valD_mono (l m : List UInt8) : valD l ≤ valD (l ++ m) := by
  refine snoc_ind (P := fun m => valD l ≤ valD (l ++ m)) (by simp) (fun m b ih => ?_) m
  rw [← List.append_assoc, valD_snoc]
  omega

theorem valD_take (l : List UInt8) (i : Nat) : valD (l.take i) ≤ valD l := by
  have := valD_mono (l.take i) (l.drop i)
  rwa [List.take_append_drop] at this

theorem valD_dec (u : Nat) : valD (Lib.decDigits u) = u := by
  induction u using Nat.strongRecOn with
  | ind u ih =>
    rw [Lib.decDigits]
    by_cases h : u < 10
    · rw [dif_pos h]
      simp only [valD, List.foldl_cons, List.foldl_nil]
      rw [toNat_ofNat _ (by omega)]
      omega
    · rw [dif_neg h, valD_snoc, ih (u / 10) (by omega), toNat_ofNat _ (by omega)]
      omega

theorem dec_figs (u : Nat) : ∀ b ∈ Lib.decDigits u, 48 ≤ b.toNat ∧ b.toNat ≤ 57 := by
  induction u using Nat.strongRecOn with
  | ind u ih =>
    rw [Lib.decDigits]
    by_cases h : u < 10
    · rw [dif_pos h]
      intro b hb
      rw [List.mem_singleton.1 hb, toNat_ofNat _ (by omega)]
      omega
    · rw [dif_neg h]
      intro b hb
      rcases List.mem_append.1 hb with hb | hb
      · exact ih (u / 10) (by omega) b hb
      · rw [List.mem_singleton.1 hb, toNat_ofNat _ (by omega)]
        omega

theorem dec_len : ∀ (j u : Nat), u < 10 ^ (j + 1) → (Lib.decDigits u).length ≤ j + 1
  | 0, u, h => by rw [Lib.decDigits, dif_pos (by simpa using h)]; simp
  | j + 1, u, h => by
    rw [Lib.decDigits]
    by_cases h1 : u < 10
    · rw [dif_pos h1]; simp
    · rw [dif_neg h1, List.length_append, List.length_singleton]
      have := dec_len j (u / 10) (by rw [Nat.pow_succ] at h; omega)
      omega

/-- What reading figures answers. -/
def rdYes (L : List UInt8) : Prop := valD L ≤ 1000000000 ∧ Lib.decDigits (valD L) = L
def rdB (L : List UInt8) : Bool := decide (valD L ≤ 1000000000) && decide (Lib.decDigits (valD L) = L)
theorem rdB_iff (L : List UInt8) : rdB L = true ↔ rdYes L := by simp [rdB, rdYes]
theorem rd_long {L : List UInt8} (h : 10 < L.length) : ¬ rdYes L := by
  intro ⟨h1, h2⟩
  have := dec_len 9 (valD L) (by omega)
  rw [h2] at this
  omega
theorem rd_bad {L : List UInt8} {b : UInt8} (hb : b ∈ L) (h : b.toNat < 48 ∨ 57 < b.toNat) : ¬ rdYes L := by
  intro ⟨_, h2⟩
  rw [← h2] at hb
  have := dec_figs _ b hb
  omega
theorem rd_great {L : List UInt8} {i : Nat} (h : 1000000000 < valD (L.take i)) : ¬ rdYes L := by
  intro ⟨h1, _⟩
  have := valD_take L i
  omega

/-- The answer, as a value. -/
def rdVal (L : List UInt8) : Value := if rdB L = true then .tuple #[.int .i64 (valD L), .bool true] else .tuple #[.int .i64 0, .bool false]
theorem rdVal_yes {L : List UInt8} (h : rdYes L) : rdVal L = .tuple #[.int .i64 (valD L), .bool true] := by rw [rdVal, if_pos ((rdB_iff L).2 h)]
theorem rdVal_no {L : List UInt8} (h : ¬ rdYes L) : rdVal L = .tuple #[.int .i64 0, .bool false] := by rw [rdVal, if_neg (fun e => h ((rdB_iff L).1 e))]

theorem take_snoc2 (s : ByteArray) (k : Nat) (h : k < s.size) : s.data.toList.take (k + 1) = s.data.toList.take k ++ [s[k]] := by
  rw [List.take_succ_eq_append_getElem (by simpa using h)]; rfl

theorem byte_mem (s : ByteArray) (k : Nat) (h : k < s.size) : s[k] ∈ s.data.toList :=
  List.getElem_mem (l := s.data.toList) (n := k) (by simpa using h)

/-- The test that both functions make at the end, as the walk leaves it. -/
theorem rd_test (s : ByteArray) (v : Nat) : ((str (Lib.itoa (v : Int))).toList == s.toList) = decide (Lib.decDigits v = s.data.toList) := by
  rw [Lib.itoa_nonneg, ByteArray.toList_eq, ByteArray.toList_eq, str_list, Bool.eq_iff_iff]
  simp

theorem valD_ten (l : List UInt8) : (∀ b ∈ l, b.toNat ≤ 57) → valD l < 10 ^ l.length := by
  refine snoc_ind (P := fun l => (∀ b ∈ l, b.toNat ≤ 57) → valD l < 10 ^ l.length) (by simp [valD]) (fun l b ih hl => ?_) l
  rw [valD_snoc, List.length_append, List.length_singleton, Nat.pow_succ]
  have h1 := ih (fun x hx => hl x (by simp [hx]))
  have h2 := hl b (by simp)
  omega

end Go.Proofs.YtneobgikailhjaaDoor
