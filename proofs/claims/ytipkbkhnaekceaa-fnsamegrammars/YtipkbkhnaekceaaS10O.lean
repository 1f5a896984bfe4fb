/- The specification's l10Letter, l10Figure, l10One. -/
/- What l10One answers, by the place behind a token. No program is named. -/
/- The specification's l10One (printed by mk/s10o.py). -/
import Derived.Test.YtipkbkhnaekceaaDecPure
import Derived.Test.YtipkbkhnaekceaaSetSpec
namespace Go.Proofs.Ytipkbkhnaekceaa
open Go.RowKit
set_option linter.unusedVariables false

theorem let10_any (b : Nat) (w : World) : Calls Try.prog 82 #[.int .u8 b] w fun e w' => e = .returned (.bool (letT b)) ∧ w' = w := by
  by_cases h1 : 97 ≤ b
  · by_cases h2 : b ≤ 122
    · have HV : Hid (letT b = true) := by simp [Hid, letT, h1, h2]
      have d2 : decide ((b : Int) ≤ 122) = true := by rw [decide_eq_true]; omega
      go_enter Try.func82, Try.ntmps82
      go_wp2
      go_ret
      rw [HV.out]
      exact ⟨rfl, rfl⟩
    · have HV : Hid (letT b = false) := by simp [Hid, letT]; omega
      have d2 : decide ((b : Int) ≤ 122) = false := by rw [decide_eq_false]; omega
      have d3 : decide ((65 : Int) ≤ (b : Int)) = true := by rw [decide_eq_true]; omega
      have d4 : decide ((b : Int) ≤ 90) = false := by rw [decide_eq_false]; omega
      go_enter Try.func82, Try.ntmps82
      go_wp2
      go_ret
      rw [HV.out]
      exact ⟨rfl, rfl⟩
  · have d1 : decide ((97 : Int) ≤ (b : Int)) = false := by rw [decide_eq_false]; omega
    by_cases h3 : 65 ≤ b
    · have d3 : decide ((65 : Int) ≤ (b : Int)) = true := by rw [decide_eq_true]; omega
      by_cases h4 : b ≤ 90
      · have HV : Hid (letT b = true) := by simp [Hid, letT, h3, h4]
        have d4 : decide ((b : Int) ≤ 90) = true := by rw [decide_eq_true]; omega
        go_enter Try.func82, Try.ntmps82
        go_wp2
        go_ret
        rw [HV.out]
        exact ⟨rfl, rfl⟩
      · have HV : Hid (letT b = false) := by simp [Hid, letT]; omega
        have d4 : decide ((b : Int) ≤ 90) = false := by rw [decide_eq_false]; omega
        go_enter Try.func82, Try.ntmps82
        go_wp2
        go_ret
        rw [HV.out]
        exact ⟨rfl, rfl⟩
    · have d3 : decide ((65 : Int) ≤ (b : Int)) = false := by rw [decide_eq_false]; omega
      have HV : Hid (letT b = false) := by simp [Hid, letT]; omega
      go_enter Try.func82, Try.ntmps82
      go_wp2
      go_ret
      rw [HV.out]
      exact ⟨rfl, rfl⟩
theorem fig10_any (b : Nat) (w : World) : Calls Try.prog 73 #[.int .u8 b] w fun e w' => e = .returned (.bool (figT b)) ∧ w' = w := by
  by_cases h1 : 48 ≤ b
  · have d1 : decide ((48 : Int) ≤ (b : Int)) = true := by rw [decide_eq_true]; omega
    by_cases h2 : b ≤ 57
    · have HV : Hid (figT b = true) := by simp [Hid, figT, h1, h2]
      have d2 : decide ((b : Int) ≤ 57) = true := by rw [decide_eq_true]; omega
      go_enter Try.func73, Try.ntmps73
      go_wp2
      go_ret
      rw [HV.out]
      exact ⟨rfl, rfl⟩
    · have HV : Hid (figT b = false) := by simp [Hid, figT]; omega
      have d2 : decide ((b : Int) ≤ 57) = false := by rw [decide_eq_false]; omega
      go_enter Try.func73, Try.ntmps73
      go_wp2
      go_ret
      rw [HV.out]
      exact ⟨rfl, rfl⟩
  · have d1 : decide ((48 : Int) ≤ (b : Int)) = false := by rw [decide_eq_false]; omega
    have HV : Hid (figT b = false) := by simp [Hid, figT]; omega
    go_enter Try.func73, Try.ntmps73
    go_wp2
    go_ret
    rw [HV.out]
    exact ⟨rfl, rfl⟩

theorem ext_take (s : ByteArray) (i j : Nat) : s.extract i j = bytesOf ((s.data.toList.drop i).take (j - i)) := by
  apply ByteArray.ext
  rw [ByteArray.data_extract, ← Array.toList_inj, Array.toList_extract]
  rfl
theorem drop_at {s : ByteArray} {k : Nat} (h : k < s.size) : s.data.toList.drop k = s[k] :: s.data.toList.drop (k + 1) := by
  rw [List.drop_eq_getElem_cons (by simpa using h)]
  rfl

end Go.Proofs.Ytipkbkhnaekceaa

namespace Go.Proofs.Ytipkbkhnaekceaa
open Go.RowKit
set_option linter.unusedVariables false

def noS10 : ByteArray := ⟨#[]⟩
def res10 (l : List UInt8) (p : Nat) : TokD × Int := match one10 l with | none => (⟨0, noS10⟩, 0) | some (t, k) => (t, ((p + k : Nat) : Int))
theorem toList_size (s : ByteArray) : s.data.toList.length = s.size := by simp
theorem span_of {s : ByteArray} {p k : Nat} {q : UInt8 → Bool} (h1 : p + 1 ≤ k) (h2 : k ≤ s.size) (h : ∀ m (hm : m < s.size), p + 1 ≤ m → m < k → q s[m] = true) (he : ∀ hk : k < s.size, q s[k] = false) : spanN q (s.data.toList.drop (p + 1)) = k - (p + 1) := by
  have hl := toList_size s
  refine spanN_at q _ _ (by rw [List.length_drop]; omega) (fun i hi hlt => ?_) (fun hlt => ?_)
  · rw [List.getElem_drop]
    exact h (p + 1 + i) (by omega) (by omega) (by omega)
  · rw [List.length_drop] at hlt
    rw [List.getElem_drop]
    have := he (by omega)
    have e : p + 1 + (k - (p + 1)) = k := by omega
    simp only [e]
    exact this
theorem ext_all {s : ByteArray} {p k : Nat} (hp : p < s.size) (hk : p + 1 ≤ k) : bytesOf (s[p] :: (s.data.toList.drop (p + 1)).take (k - (p + 1))) = s.extract p k := by
  rw [ext_take, drop_at hp]
  have e : k - p = (k - (p + 1)) + 1 := by omega
  rw [e, List.take_succ_cons]
theorem ext_in {s : ByteArray} {p k : Nat} : bytesOf ((s.data.toList.drop (p + 1)).take (k - (p + 1))) = s.extract (p + 1) k := by
  rw [ext_take]
theorem head_of {s : ByteArray} {p k : Nat} (hk : p + 1 ≤ k) : ((s.data.toList.drop (p + 1)).drop (k - (p + 1))).head? = s.data.toList[k]? := by
  rw [List.drop_drop, List.head?_drop]
  congr 1
  omega
theorem at_some {s : ByteArray} {k : Nat} (h : k < s.size) : s.data.toList[k]? = some s[k] := by
  rw [List.getElem?_eq_getElem (by rw [toList_size]; exact h)]
  rfl
theorem at_none {s : ByteArray} : s.data.toList[s.size]? = none := List.getElem?_eq_none (by rw [toList_size]; exact Nat.le_refl _)

theorem res_word {s : ByteArray} {p k : Nat} (hp : p < s.size) (hl : letT s[p].toNat = true) (h1 : p + 1 ≤ k) (hn : spanN wordT (s.data.toList.drop (p + 1)) = k - (p + 1)) :
    res10 (s.data.toList.drop p) p = if 6 < k - p then (⟨0, noS10⟩, 0) else if s.data.toList[k]? = some 40 then (⟨6, s.extract p k⟩, ((k + 1 : Nat) : Int)) else (⟨1, s.extract p k⟩, (k : Int)) := by
  rw [res10, drop_at hp, one10, if_pos hl, hn, ext_all hp h1, head_of h1]
  by_cases h6 : 6 < k - p
  · rw [if_pos (by omega), if_pos h6]
  · rw [if_neg (by omega), if_neg h6]
    by_cases h40 : s.data.toList[k]? = some 40
    · rw [if_pos h40, if_pos h40]
      have e : p + (k - (p + 1) + 2) = k + 1 := by omega
      simp only [e]
    · rw [if_neg h40, if_neg h40]
      have e : p + (k - (p + 1) + 1) = k := by omega
      simp only [e]
theorem res_fig {s : ByteArray} {p k : Nat} (hp : p < s.size) (hl : letT s[p].toNat = false) (hf : figT s[p].toNat = true) (h1 : p + 1 ≤ k) (hn : spanN figU (s.data.toList.drop (p + 1)) = k - (p + 1)) :
    res10 (s.data.toList.drop p) p = if 2 < k - p then (⟨0, noS10⟩, 0) else (⟨2, s.extract p k⟩, (k : Int)) := by
  rw [res10, drop_at hp, one10, if_neg (by rw [hl]; decide), if_pos hf, hn, ext_all hp h1]
  by_cases h6 : 2 < k - p
  · rw [if_pos (by omega), if_pos h6]
  · rw [if_neg (by omega), if_neg h6]
    have e : p + (k - (p + 1) + 1) = k := by omega
    simp only [e]
theorem res_text {s : ByteArray} {p k : Nat} (hp : p < s.size) (hb : s[p] = 34) (h1 : p + 1 ≤ k) (hn : spanN inText (s.data.toList.drop (p + 1)) = k - (p + 1)) :
    res10 (s.data.toList.drop p) p = if s.data.toList[k]? = some 34 ∧ 1 ≤ k - p - 1 ∧ k - p - 1 ≤ 8 then (⟨3, s.extract (p + 1) k⟩, ((k + 1 : Nat) : Int)) else (⟨0, noS10⟩, 0) := by
  have e1 : letT s[p].toNat = false := by rw [hb]; decide
  have e2 : figT s[p].toNat = false := by rw [hb]; decide
  rw [res10, drop_at hp, one10, if_neg (by rw [e1]; decide), if_neg (by rw [e2]; decide), if_pos hb, hn, ext_in, head_of h1]
  by_cases hc : s.data.toList[k]? = some 34 ∧ 1 ≤ k - p - 1 ∧ k - p - 1 ≤ 8
  · rw [if_pos hc, if_pos ⟨hc.1, by omega, by omega⟩]
    have e : p + (k - (p + 1) + 2) = k + 1 := by omega
    simp only [e]
  · rw [if_neg hc, if_neg (fun c => hc ⟨c.1, by omega, by omega⟩)]
theorem res_set {s : ByteArray} {p k : Nat} (hp : p < s.size) (hb : s[p] = 91) (h1 : p + 1 ≤ k) (h2 : k ≤ s.size) (hn : spanN inSetB (s.data.toList.drop (p + 1)) = k - (p + 1)) :
    res10 (s.data.toList.drop p) p = if k < s.size ∧ okL (s.extract (p + 1) k).data.toList = true then (⟨4, s.extract (p + 1) k⟩, ((k + 1 : Nat) : Int)) else (⟨0, noS10⟩, 0) := by
  have e1 : letT s[p].toNat = false := by rw [hb]; decide
  have e2 : figT s[p].toNat = false := by rw [hb]; decide
  have e3 : ¬ s[p] = 34 := by rw [hb]; decide
  rw [res10, drop_at hp, one10, if_neg (by rw [e1]; decide), if_neg (by rw [e2]; decide), if_neg e3, if_pos hb, hn, ext_in, ← ext_in]
  have hl := toList_size s
  have e5 : (bytesOf ((s.data.toList.drop (p + 1)).take (k - (p + 1)))).data.toList = (s.data.toList.drop (p + 1)).take (k - (p + 1)) := rfl
  rw [e5]
  by_cases hc : k < s.size ∧ okL ((s.data.toList.drop (p + 1)).take (k - (p + 1))) = true
  · rw [if_pos hc, if_pos ⟨by rw [List.length_drop]; omega, hc.2⟩]
    have e : p + (k - (p + 1) + 2) = k + 1 := by omega
    simp only [e]
  · rw [if_neg hc, if_neg (fun c => hc ⟨by have := c.1; rw [List.length_drop] at this; omega, c.2⟩)]
theorem res_arrow {s : ByteArray} {p : Nat} (hp : p + 1 < s.size) (hb : s[p] = 45) (h2 : s[p + 1] = 62) : res10 (s.data.toList.drop p) p = (⟨5, ⟨#[45, 62]⟩⟩, ((p + 2 : Nat) : Int)) := by
  have e1 : letT s[p].toNat = false := by rw [hb]; decide
  have e2 : figT s[p].toNat = false := by rw [hb]; decide
  have e3 : ¬ s[p] = 34 := by rw [hb]; decide
  have e4 : ¬ s[p] = 91 := by rw [hb]; decide
  have e5 : (s.data.toList.drop (p + 1)).head? = some 62 := by rw [List.head?_drop, at_some hp, h2]
  rw [res10, drop_at (by omega), one10, if_neg (by rw [e1]; decide), if_neg (by rw [e2]; decide), if_neg e3, if_neg e4, if_pos ⟨hb, e5⟩]
  rfl
theorem res_sign {s : ByteArray} {p : Nat} (hp : p < s.size) (hl : letT s[p].toNat = false) (hf : figT s[p].toNat = false) (e3 : ¬ s[p] = 34) (e4 : ¬ s[p] = 91) (e5 : ¬ (s[p] = 45 ∧ s.data.toList[p + 1]? = some 62)) :
    res10 (s.data.toList.drop p) p = if signsL.contains s[p] = true then (⟨5, s.extract p (p + 1)⟩, ((p + 1 : Nat) : Int)) else (⟨0, noS10⟩, 0) := by
  have e6 : (s.data.toList.drop (p + 1)).head? = s.data.toList[p + 1]? := List.head?_drop
  rw [res10, drop_at hp, one10, if_neg (by rw [hl]; decide), if_neg (by rw [hf]; decide), if_neg e3, if_neg e4, e6, if_neg e5]
  by_cases hc : signsL.contains s[p] = true
  · rw [if_pos hc, if_pos hc]
    have e7 := ext_all hp (Nat.le_refl (p + 1))
    rw [Nat.sub_self, List.take_zero] at e7
    rw [e7]
  · rw [if_neg hc, if_neg hc]

end Go.Proofs.Ytipkbkhnaekceaa

namespace Go.Proofs.Ytipkbkhnaekceaa
open Go.RowKit
set_option linter.unusedVariables false

theorem box10 (w : World) (vs : Array Value) (t : TypeId) (j : Nat) (u : Value) (h : vs[j]? = some u) : (w.alloc (.cells vs t)).cell? ⟨w.heap.size, j, none⟩ = some u := by
  have hb : (w.alloc (.cells vs t)).heap[w.heap.size]? = some (.cells vs t) := heap_alloc_new w _
  rw [cell_of_row _ _ j _ _ _ hb]
  exact h
theorem froz10 (w : World) (vs : Array Value) (t : TypeId) (j : Nat) : (w.alloc (.cells vs t)).frozen? ⟨w.heap.size, j, none⟩ = false := by
  unfold World.frozen?
  rw [show (w.alloc (.cells vs t)).heap[w.heap.size]? = some (.cells vs t) from heap_alloc_new w _]
  rfl
theorem kept10 {W W' : World} {a : Addr} {v : Value} (h : W.cell? a = some v) (hb : Below W.heap.size W W') : W'.cell? a = some v :=
  (World.cell?_of_block (hb.block a.block (World.block_lt_of_cell? W a h))).trans h
theorem frozk10 {W W' : World} {a : Addr} {v : Value} (hc : W.cell? a = some v) (h : W.frozen? a = false) (hb : Below W.heap.size W W') : W'.frozen? a = false := by
  unfold World.frozen? at h ⊢
  rw [hb.block a.block (World.block_lt_of_cell? W a hc)]
  exact h
theorem u8_is {b c : UInt8} {n : Nat} (h : b.toNat = n) (hc : c.toNat = n) : b = c := UInt8.toNat_inj.1 (h.trans hc.symm)
theorem u8_isnt {b c : UInt8} {n : Nat} (h : ¬ b.toNat = n) (hc : c.toNat = n) : ¬ b = c := fun e => h (by rw [e]; exact hc)

set_option maxHeartbeats 6400000 in
set_option maxRecDepth 100000 in
theorem one10_word (s : ByteArray) (p : Nat) (w : World) (hp : p < s.size) (hs : s.size ≤ 1048576) (hlb : letT s[p].toNat = true) (r : TokD × Int) (hr : r = res10 (s.data.toList.drop p) p) :
    Calls Try.prog 64 #[.string s, .int .i64 p] w fun e w' => e = .returned (.tuple #[.agg #[.int .i64 r.1.kind, .string r.1.text], .int .i64 r.2]) ∧ Below w.heap.size w w' := by
  have HR : Hid (r = res10 (s.data.toList.drop p) p) := hr
  clear hr
  have hpu := s[p].toNat_lt
  have i1 : (p : Int) < (s.size : Int) := by omega
  have wp1 : IntKind.i64.wrap ((p : Int) + 1) = (p : Int) + 1 := by rw [IntKind.wrap_i64]; omega
  have B0 : Hid (Below w.heap.size w (w.alloc (.cells #[.int .i64 0, .string ⟨#[]⟩] 106))) := (Below.refl _ _).alloc (Nat.le_refl _) _
  have c0 : (w.alloc (.cells #[.int .i64 0, .string ⟨#[]⟩] 106)).cell? ⟨w.heap.size, 0, none⟩ = some (.int .i64 0) := box10 _ _ _ 0 _ rfl
  have c1 : (w.alloc (.cells #[.int .i64 0, .string ⟨#[]⟩] 106)).cell? ⟨w.heap.size, 1, none⟩ = some (.string ⟨#[]⟩) := box10 _ _ _ 1 _ rfl
  have g0 : (w.alloc (.cells #[.int .i64 0, .string ⟨#[]⟩] 106)).frozen? ⟨w.heap.size, 0, none⟩ = false := froz10 _ _ _ 0
  have g1 : (w.alloc (.cells #[.int .i64 0, .string ⟨#[]⟩] 106)).frozen? ⟨w.heap.size, 1, none⟩ = false := froz10 _ _ _ 1
  have HLp : Hid (∀ W, _) := fun W => let10_any s[p].toNat W
  rw [hlb] at HLp
  go_enter Try.func64, Try.ntmps64
  go_wp2_with (go_at_call 82; refine (HLp.out _).mono ?_; rintro e wq ⟨rfl, hw⟩; rw [hw]; clear hw)
  generalize w.alloc (.cells #[.int .i64 0, .string ⟨#[]⟩] 106) = w0 at *
  go_loopw [7] (fun iv wr => ∃ k : Nat, iv = .int .i64 k ∧ p + 1 ≤ k ∧ k ≤ s.size ∧ (∀ m (hm : m < s.size), p + 1 ≤ m → m < k → wordT s[m] = true) ∧ wr = w0) (fun iv _ => s.size - (intOf iv).toNat)
  case atStart => exact ⟨p + 1, by go_num, Nat.le_refl _, by omega, fun m hm h1 h2 => by omega, rfl⟩
  case round =>
    obtain ⟨k, rfl, hk1, hk2, hto, hwr⟩ := hrel
    rw [hwr]
    clear hwr
    have HTo : Hid (∀ m (hm : m < s.size), p + 1 ≤ m → m < k → wordT s[m] = true) := hto
    clear hto
    have wkp : IntKind.i64.wrap ((k : Int) - (p : Int)) = (k : Int) - (p : Int) := by rw [IntKind.wrap_i64]; omega
    have j1 : (p : Int) ≤ (k : Int) := by omega
    have j2 : (k : Int) ≤ (s.size : Int) := by omega
    by_cases hlt : k < s.size
    · have hu := s[k].toNat_lt
      have i4 : (k : Int) < (s.size : Int) := by omega
      have i5 : ((k : Int) == (s.size : Int)) = false := by rw [beq_eq_false_iff_ne]; omega
      cases hq : wordT s[k] with
      | true =>
        have HNx : Hid (∀ m (hm : m < s.size), p + 1 ≤ m → m < k + 1 → wordT s[m] = true) := fun m hm h1 h2 => by
          by_cases e : m = k
          · subst e; exact hq
          · exact HTo.out m hm h1 (by omega)
        unfold wordT at hq
        have HLk : Hid (∀ W, _) := fun W => let10_any s[k].toNat W
        have HFk : Hid (∀ W, _) := fun W => fig10_any s[k].toNat W
        cases hl2 : letT s[k].toNat with
        | true =>
          rw [hl2] at HLk
          clear hq
          go_wp2_with (go_at_call 82; refine (HLk.out _).mono ?_; rintro e wq ⟨rfl, hw⟩; rw [hw]; clear hw)
          go_roundw
          case rel => exact ⟨k + 1, by go_num, by omega, by omega, HNx.out, by first | trivial | rfl⟩
          case measure => simp [intOf]; omega
        | false =>
          rw [hl2, Bool.false_or] at hq
          rw [hl2] at HLk
          rw [hq] at HFk
          clear hq
          go_wp2_with (first | (go_at_call 82; refine (HLk.out _).mono ?_; rintro e wq ⟨rfl, hw⟩; rw [hw]; clear hw) | (go_at_call 73; refine (HFk.out _).mono ?_; rintro e wq ⟨rfl, hw⟩; rw [hw]; clear hw))
          go_roundw
          case rel => exact ⟨k + 1, by go_num, by omega, by omega, HNx.out, by first | trivial | rfl⟩
          case measure => simp [intOf]; omega
      | false =>
        have HSp : Hid (spanN wordT (s.data.toList.drop (p + 1)) = k - (p + 1)) := span_of hk1 hk2 HTo.out (fun _ => hq)
        have HAt : Hid (s.data.toList[k]? = some s[k]) := at_some hlt
        unfold wordT at hq
        have HLk : Hid (∀ W, _) := fun W => let10_any s[k].toNat W
        have HFk : Hid (∀ W, _) := fun W => fig10_any s[k].toNat W
        rw [Bool.or_eq_false_iff] at hq
        rw [hq.1] at HLk
        rw [hq.2] at HFk
        clear hq HTo
        by_cases h6 : 6 < k - p
        · have HV : Hid (res10 (s.data.toList.drop p) p = (⟨0, noS10⟩, 0)) := by rw [Hid, res_word hp hlb hk1 HSp.out, if_pos h6]
          have d6 : decide ((6 : Int) < (k : Int) - (p : Int)) = true := by rw [decide_eq_true]; omega
          go_wp2_with (first | (go_at_call 82; refine (HLk.out _).mono ?_; rintro e wq ⟨rfl, hw⟩; rw [hw]; clear hw) | (go_at_call 73; refine (HFk.out _).mono ?_; rintro e wq ⟨rfl, hw⟩; rw [hw]; clear hw))
          refine bodyPost_ret (by simp [results, Try.results64, go_sem, c0, c1]; try rfl) rfl ?_
          have hr2 := HR.out.trans HV.out
          rw [hr2]
          exact ⟨rfl, (B0.out.setCell (Nat.le_refl _) _).setCell (Nat.le_refl _) _⟩

        have d6 : decide ((6 : Int) < (k : Int) - (p : Int)) = false := by rw [decide_eq_false]; omega
        by_cases h40 : s[k].toNat = 40
        · have q40 : ((s[k].toNat : Int) == 40) = true := by rw [beq_iff_eq]; omega
          have HV : Hid (res10 (s.data.toList.drop p) p = (⟨6, s.extract p k⟩, ((k + 1 : Nat) : Int))) := by rw [Hid, res_word hp hlb hk1 HSp.out, if_neg h6, if_pos (HAt.out.trans (congrArg some (u8_is h40 (by decide))))]
          clear h40
          go_wp2_with (first | (go_at_call 82; refine (HLk.out _).mono ?_; rintro e wq ⟨rfl, hw⟩; rw [hw]; clear hw) | (go_at_call 73; refine (HFk.out _).mono ?_; rintro e wq ⟨rfl, hw⟩; rw [hw]; clear hw))
          refine bodyPost_ret (by simp [results, Try.results64, go_sem, c0, c1]; try rfl) rfl ?_
          have hr2 := HR.out.trans HV.out
          rw [hr2]
          exact ⟨by first | rfl | (simp; try omega), (B0.out.setCell (Nat.le_refl _) _).setCell (Nat.le_refl _) _⟩

        · have q40 : ((s[k].toNat : Int) == 40) = false := by rw [beq_eq_false_iff_ne]; omega
          have HV : Hid (res10 (s.data.toList.drop p) p = (⟨1, s.extract p k⟩, (k : Int))) := by rw [Hid, res_word hp hlb hk1 HSp.out, if_neg h6, if_neg (fun c => u8_isnt h40 (by decide) (Option.some.inj (HAt.out.symm.trans c)))]
          clear h40
          go_wp2_with (first | (go_at_call 82; refine (HLk.out _).mono ?_; rintro e wq ⟨rfl, hw⟩; rw [hw]; clear hw) | (go_at_call 73; refine (HFk.out _).mono ?_; rintro e wq ⟨rfl, hw⟩; rw [hw]; clear hw))
          refine bodyPost_ret (by simp [results, Try.results64, go_sem, c0, c1]; try rfl) rfl ?_
          have hr2 := HR.out.trans HV.out
          rw [hr2]
          exact ⟨rfl, (B0.out.setCell (Nat.le_refl _) _).setCell (Nat.le_refl _) _⟩

    · obtain rfl : k = s.size := by omega
      have HSp : Hid (spanN wordT (s.data.toList.drop (p + 1)) = s.size - (p + 1)) := span_of hk1 hk2 HTo.out (fun h => absurd h (Nat.lt_irrefl _))
      have HAt : Hid (s.data.toList[s.size]? = none) := at_none
      have i4 : ¬ (s.size : Int) < (s.size : Int) := by omega
      have i5 : ((s.size : Int) == (s.size : Int)) = true := beq_self_eq_true _
      clear HTo
      by_cases h6 : 6 < s.size - p
      · have HV : Hid (res10 (s.data.toList.drop p) p = (⟨0, noS10⟩, 0)) := by rw [Hid, res_word hp hlb hk1 HSp.out, if_pos h6]
        have d6 : decide ((6 : Int) < (s.size : Int) - (p : Int)) = true := by rw [decide_eq_true]; omega
        go_wp2_with (fail)
        refine bodyPost_ret (by simp [results, Try.results64, go_sem, c0, c1]; try rfl) rfl ?_
        have hr2 := HR.out.trans HV.out
        rw [hr2]
        exact ⟨rfl, (B0.out.setCell (Nat.le_refl _) _).setCell (Nat.le_refl _) _⟩

      have d6 : decide ((6 : Int) < (s.size : Int) - (p : Int)) = false := by rw [decide_eq_false]; omega
      have HV : Hid (res10 (s.data.toList.drop p) p = (⟨1, s.extract p s.size⟩, (s.size : Int))) := by rw [Hid, res_word hp hlb hk1 HSp.out, if_neg h6, if_neg (by rw [HAt.out]; exact fun c => by cases c)]
      go_wp2_with (fail)
      refine bodyPost_ret (by simp [results, Try.results64, go_sem, c0, c1]; try rfl) rfl ?_
      have hr2 := HR.out.trans HV.out
      rw [hr2]
      exact ⟨rfl, (B0.out.setCell (Nat.le_refl _) _).setCell (Nat.le_refl _) _⟩

end Go.Proofs.Ytipkbkhnaekceaa
