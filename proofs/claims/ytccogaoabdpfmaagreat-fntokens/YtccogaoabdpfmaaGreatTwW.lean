/- Places between tokens are places between runes. No program is named. -/
/- The program's Tokens. -/
/- FnTokenFaults, walked out of a contract on the program's Tokens. -/
/- The law FnTokens, walked. -/
import Derived.Test.YtccogaoabdpfmaaGreatTkJ
import Derived.Test.YtccogaoabdpfmaaGreatFlV
import Derived.Test.YtccogaoabdpfmaaGreatXKit2
import Derived.Test.YtccogaoabdpfmaaGreatTkA
namespace Go.Proofs.YtccogaoabdpfmaaGreat
open Go.RowKit
set_option linter.unusedVariables false
theorem span_in (p : UInt8 → Bool) : ∀ (l : List UInt8) (i : Nat) (h : i < l.length), i < spanN p l → p l[i] = true
 | b :: l, i, h, hi => by
  rw [spanN] at hi
  split at hi
  ·rename_i hb
   cases i with
   | zero => exact hb
   | succ i => exact span_in p l i (by simpa using h) (by omega)
  ·omega
theorem word_low {b : UInt8} (h : wordT b = true) : b.toNat < 128 := by
 simp [wordT, letT, figT] at h
 omega
theorem fig_low {b : UInt8} (h : figU b = true) : b.toNat < 128 := by
 simp [figU, figT] at h
 omega
def LowAt (l : List UInt8) (k : Nat) : Prop := ∃ u : UInt8, l[k]? = some u ∧ u.toNat < 128
theorem low_cons {b : UInt8} {l : List UInt8} {k : Nat} (h : LowAt l k) : LowAt (b :: l) (k + 1) := h
theorem low_span {p : UInt8 → Bool} {b : UInt8} {l : List UInt8} (hb : b.toNat < 128) (hp : ∀ u : UInt8, p u = true → u.toNat < 128) : LowAt (b :: l) (spanN p l) := by
 have hle := spanN_le p l
 cases hk : spanN p l with
 | zero => exact ⟨b, rfl, hb⟩
 | succ k =>
  have hlt : k < l.length := by omega
  exact ⟨l[k], by rw [List.getElem?_cons_succ, List.getElem?_eq_getElem hlt], hp _ (span_in p l k hlt (by omega))⟩
theorem low_head {l : List UInt8} {k : Nat} {u : UInt8} (h : (l.drop k).head? = some u) (hu : u.toNat < 128) : LowAt l k := ⟨u, by rw [← h, List.head?_drop], hu⟩
theorem one10_last {l : List UInt8} {t : TokD} {k : Nat} (h : one10 l = some (t, k)) : LowAt l (k - 1) := by
 cases l with
 | nil => cases h
 | cons b l =>
  rw [one10] at h
  split at h
  ·rename_i hb
   have hb' : b.toNat < 128 := word_low (by simp [wordT, hb])
   split at h
   ·cases h
   ·split at h
    ·rename_i hq
     cases h
     exact low_cons (low_head hq (by decide))
    ·cases h
     exact low_span hb' (fun u => word_low)
  split at h
  ·rename_i hb
   have hb' : b.toNat < 128 := fig_low hb
   split at h
   ·cases h
   ·cases h
    exact low_span hb' (fun u => fig_low)
  split at h
  ·split at h
   ·rename_i hq
    cases h
    exact low_cons (low_head hq.1 (by decide))
   ·cases h
  split at h
  ·split at h
   ·rename_i hq
    cases h
    refine low_cons ⟨l[spanN inSetB l]'hq.1, List.getElem?_eq_getElem hq.1, ?_⟩
    have := span_stop inSetB l hq.1
    simp only [inSetB, decide_eq_false_iff_not, Decidable.not_not] at this
    omega
   ·cases h
  split at h
  ·rename_i hq
   cases h
   refine low_cons ⟨62, ?_, by decide⟩
   cases l with
   | nil => cases hq.2
   | cons c l => exact hq.2
  split at h
  ·rename_i hc
   cases h
   rw [List.contains_iff_mem] at hc
   have : ∀ b ∈ signsL, b.toNat < 128 := by decide
   exact ⟨b, rfl, this _ hc⟩
  ·cases h
def Bd (s : ByteArray) (q : Nat) : Prop := q = s.size ∨ LowAt s.data.toList q ∨ (1 ≤ q ∧ LowAt s.data.toList (q - 1))
theorem low_get {s : ByteArray} {k : Nat} (h : LowAt s.data.toList k) : ∃ hk : k < s.size, s[k].toNat < 128 := by
 obtain ⟨u, h1, h2⟩ := h
 have hk : k < s.size := by
  rcases Nat.lt_or_ge k s.size with h | h
  ·exact h
  ·rw [List.getElem?_eq_none (by rw [toList_size]; exact h)] at h1
   cases h1
 rw [at_some hk] at h1
 exact ⟨hk, by rw [Option.some.inj h1]; exact h2⟩
theorem bd_step {s : ByteArray} {pos q : Nat} (hp : pos < s.size) (hlt : pos < q) (hq : q ≤ s.size) (hb : Bd s q) : 1 ≤ (Utf8.decode s pos).2 ∧ pos + (Utf8.decode s pos).2 ≤ q := by
 by_cases ha : s[pos].toNat < 128
 ·rw [decode_ascii s pos hp ha]
  exact ⟨Nat.le_refl _, hlt⟩
 ·have hd := decode_bytes s pos hp (by omega)
  refine ⟨hd.1, ?_⟩
  rcases Nat.lt_or_ge q (pos + (Utf8.decode s pos).2) with h | h
  ·exfalso
   rcases hb with hb | hb | ⟨h1, hb⟩
   ·omega
   ·obtain ⟨hk, hl⟩ := low_get hb
    have := hd.2.2 q hk (by omega) h
    omega
   ·obtain ⟨hk, hl⟩ := low_get hb
    have := hd.2.2 (q - 1) hk (by omega) (by omega)
    omega
  ·exact h
def restT (s : ByteArray) (q : Nat) : ByteArray := s.extract q s.size
theorem restT_list (s : ByteArray) (q : Nat) : (restT s q).data.toList = s.data.toList.drop q := by
 rw [restT, ext_take]
 show (s.data.toList.drop q).take (s.size - q) = _
 rw [List.take_of_length_le (by rw [List.length_drop, toList_size]; omega)]
theorem restT_size (s : ByteArray) (q : Nat) : (restT s q).size = s.size - q := by rw [← toList_size, restT_list, List.length_drop, toList_size]
theorem restT_first {s : ByteArray} {q : Nat} (h : q < s.size) : FirstR (Utf8.decode s q).1 (restT s q) := by
 have h0 : 0 < (restT s q).size := by rw [restT_size]; omega
 have e : (restT s q)[0] = s[q] := by
  have e1 := at_some h0
  rw [restT_list, drop_at h] at e1
  exact (Option.some.inj e1).symm
 refine ⟨h0, fun hb => ?_, fun hb => ?_⟩
 ·rw [e] at hb ⊢
  rw [decode_ascii s q h hb]
 ·rw [e] at hb
  exact (decode_high s q h hb).1
theorem restT_at {s : ByteArray} {q : Nat} (h : q < s.size) (h0 : 0 < (restT s q).size) : (restT s q)[0] = s[q] := by
 have e1 := at_some h0
 rw [restT_list, drop_at h] at e1
 exact (Option.some.inj e1).symm
theorem low_drop {s : ByteArray} {q k : Nat} (h : LowAt (s.data.toList.drop q) k) : LowAt s.data.toList (q + k) := by
 obtain ⟨u, h1, h2⟩ := h
 rw [List.getElem?_drop] at h1
 exact ⟨u, h1, h2⟩
theorem over_step {s : ByteArray} {q f : Nat} {ts : List TokD} (h : q < s.size) (ho : 0 < overB (Utf8.decode s q).1 (restT s q)) :
  toks10 s.size (f + 1) ts (s.data.toList.drop q) = toks10 s.size f ts (s.data.toList.drop (q + overB (Utf8.decode s q).1 (restT s q))) ∧ q + overB (Utf8.decode s q).1 (restT s q) ≤ s.size ∧ Bd s (q + overB (Utf8.decode s q).1 (restT s q)) := by
 have hF := restT_first h
 have h0 := hF.1
 obtain ⟨_, _, hq⟩ := first_let hF h0
 have h32 := hq 32 (by decide)
 have h10 := hq 10 (by decide)
 have h35 := hq 35 (by decide)
 rw [restT_at h h0] at h32 h10 h35
 rw [show (32 : UInt8).toNat = 32 from rfl] at h32
 rw [show (10 : UInt8).toNat = 10 from rfl] at h10
 rw [show (35 : UInt8).toNat = 35 from rfl] at h35
 rw [toks_at h]
 generalize (Utf8.decode s q).1 = n at *
 by_cases c1 : n = 32 ∨ n = 10
 ·have e1 : overB n (restT s q) = 1 := by rw [overB, if_pos c1]
  have hs : s[q] = 32 ∨ s[q] = 10 := c1.imp h32.1 h10.1
  rw [e1, if_pos hs]
  refine ⟨rfl, by omega, .inr (.inr ⟨by omega, s[q], ?_, ?_⟩)⟩
  ·rw [Nat.add_sub_cancel, at_some h]
  ·rcases hs with e | e <;> rw [e] <;> decide
 ·have hs : ¬ (s[q] = 32 ∨ s[q] = 10) := fun c => c1 (c.imp h32.2 h10.2)
  by_cases c2 : n = 35
  ·have e1 : overB n (restT s q) = spanN inLine (s.data.toList.drop q) := by rw [overB, if_neg c1, if_pos c2, restT_list]; rfl
   have hle := spanN_le inLine (s.data.toList.drop q)
   rw [List.length_drop, toList_size] at hle
   rw [e1, if_neg hs, if_pos (h35.1 c2)]
   refine ⟨rfl, by omega, ?_⟩
   rcases Nat.lt_or_ge (spanN inLine (s.data.toList.drop q)) (s.size - q) with hl | hl
   ·have hl' : spanN inLine (s.data.toList.drop q) < (s.data.toList.drop q).length := by rw [List.length_drop, toList_size]; exact hl
    have hst := span_stop inLine _ hl'
    refine .inr (.inl (low_drop ⟨_, List.getElem?_eq_getElem hl', ?_⟩))
    simp only [inLine, decide_eq_false_iff_not, Decidable.not_not] at hst
    omega
   ·exact .inl (by omega)
  ·rw [overB, if_neg c1, if_neg c2] at ho
   omega
theorem over_none {s : ByteArray} {q f : Nat} {ts : List TokD} (h : q < s.size) (ho : overB (Utf8.decode s q).1 (restT s q) = 0) :
  toks10 s.size (f + 1) ts (s.data.toList.drop q) = match one10 (s.data.toList.drop q) with
   | none => ([], (q : Int) + 1)
   | some (t, k) => if ts.length = 200 then ([], (q : Int) + 1) else toks10 s.size f (ts ++ [t]) (s.data.toList.drop (q + k)) := by
 have hF := restT_first h
 have h0 := hF.1
 obtain ⟨_, _, hq⟩ := first_let hF h0
 have h32 := hq 32 (by decide)
 have h10 := hq 10 (by decide)
 have h35 := hq 35 (by decide)
 rw [restT_at h h0] at h32 h10 h35
 rw [show (32 : UInt8).toNat = 32 from rfl] at h32
 rw [show (10 : UInt8).toNat = 10 from rfl] at h10
 rw [show (35 : UInt8).toNat = 35 from rfl] at h35
 rw [toks_at h]
 have hn : ¬ ((Utf8.decode s q).1 = 32 ∨ (Utf8.decode s q).1 = 10) := fun c => by rw [overB, if_pos c] at ho; omega
 have hn2 : ¬ (Utf8.decode s q).1 = 35 := fun c => by
  rw [overB, if_neg hn, if_pos c, restT_list, drop_at h, spanN] at ho
  have e := h35.1 c
  rw [if_pos (by rw [e]; decide)] at ho
  omega
 rw [if_neg (fun c => hn (c.imp h32.2 h10.2)), if_neg (fun c => hn2 (h35.2 c))]
 rfl
theorem rest_res {s : ByteArray} {q : Nat} : resT (restT s q) = res10 (s.data.toList.drop q) 0 := by rw [resT, restT_list, List.drop_zero]
theorem bd_token {s : ByteArray} {q : Nat} {t : TokD} {k : Nat} (h : one10 (s.data.toList.drop q) = some (t, k)) : 1 ≤ k ∧ q + k ≤ s.size ∧ Bd s (q + k) := by
 have h1 := one10_pos h
 rw [List.length_drop, toList_size] at h1
 have h2 := low_drop (one10_last h)
 refine ⟨h1.1, by omega, .inr (.inr ⟨by omega, ?_⟩)⟩
 rw [show q + k - 1 = q + (k - 1) by omega]
 exact h2
theorem own_iterAt {w : World} {B : Nat} {e : TypeId} {size : Nat} {v : Value} {n : Nat} {xs : List Value} {k : Nat} {s : ByteArray} {p : Nat} (h : w.ownsRow B e size v n xs) (hk : w.heap[k]? = some (.stringIter s p)) (p' : Nat) : (w.iterAt k s p').ownsRow B e size v n xs := by
 obtain ⟨h1, h2⟩ := h
 refine ⟨h1, ?_⟩
 rcases h2 with h2 | ⟨g, cap, cur, a, b, c, d⟩
 ·exact .inl h2
 ·have hne : g ≠ k := fun e1 => by rw [e1, hk] at c; cases c
  exact .inr ⟨g, cap, cur, a, b, by rw [Lib.iterAt_other _ _ _ _ _ hne]; exact c, d⟩
theorem TokO.iterAt {w : World} {B : Nat} {v : Value} {ts : List TokD} {k : Nat} {s : ByteArray} {p : Nat} (h : TokO B v ts w) (hk : w.heap[k]? = some (.stringIter s p)) (p' : Nat) : TokO B v ts (w.iterAt k s p') :=
 RowO.world h (fun _ _ h3 => own_iterAt h3 hk p') (fun _ _ hx => hx)
theorem iter_below {w w' : World} {k : Nat} {s : ByteArray} {p : Nat} (h : w.heap[k]? = some (.stringIter s p)) (hb : Below w.heap.size w w') : w'.heap[k]? = some (.stringIter s p) := by
 rw [hb.block k (Array.getElem?_eq_some_iff.1 h).1]
 exact h
end Go.Proofs.YtccogaoabdpfmaaGreat

namespace Go.Proofs.YtccogaoabdpfmaaGreat
open Go.RowKit
set_option maxHeartbeats 6400000
set_option maxRecDepth 100000
set_option linter.unusedVariables false
theorem implTokens_any (s : ByteArray) (hs : s.size ≤ 1048576) : TokensC 7 s := by
 intro w
 obtain ⟨i0, hi, hz0, hz1, hz2⟩ := info_parts Tryz.infoTok
 have B0 : Hid (Below w.heap.size w (w.alloc (.cells #[] 35))) := (Below.refl _ _).alloc (Nat.le_refl _) _
 have O0 : Hid (TokO w.heap.size (.slice (some ⟨w.heap.size, 0, none⟩) 0 0) [] (w.alloc (.cells #[] 35))) := RowO.made (Nat.le_refl _)
 by_cases h600 : 600 < s.size
 ·have HV : Hid (tokensB s = ([], 601)) := by rw [Hid, tokensB, if_pos h600]
  have d1 : (600 : Int) < (s.size : Int) := by omega
  go_enter Tryz.func7, Tryz.ntmps7
  go_wp2
  go_ret2
  rw [HV.out]
  exact ⟨_, rfl, O0.out, B0.out⟩
 have HT : Hid (tokensB s = toks10 s.size (s.size + 1) [] s.data.toList) := by rw [Hid, tokensB, if_neg h600]
 have d1 : ¬ (600 : Int) < (s.size : Int) := by omega
 have BI : Hid (Below w.heap.size w ((w.alloc (.cells #[] 35)).alloc (.stringIter s 0))) := B0.out.alloc (by simp) _
 have OI : Hid (TokO w.heap.size (.slice (some ⟨w.heap.size, 0, none⟩) 0 0) [] ((w.alloc (.cells #[] 35)).alloc (.stringIter s 0))) := TokO.below O0.out ((Below.refl _ _).alloc (Nat.le_refl _) _)
 have II : Hid (((w.alloc (.cells #[] 35)).alloc (.stringIter s 0)).heap[w.heap.size + 1]? = some (.stringIter s 0)) := by
  have := World.iter_heap (w.alloc (.cells #[] 35)) s 0
  rwa [show (w.alloc (.cells #[] 35)).heap.size = w.heap.size + 1 by simp] at this
 clear B0 O0
 go_enter Tryz.func7, Tryz.ntmps7
 go_wp2
 go_loopw [4, 5] (fun ov bv wr => ∃ (pos q f : Nat) (ts : List TokD), bv = .int .i64 q ∧ wr.heap[w.heap.size + 1]? = some (.stringIter s pos) ∧ pos ≤ q ∧ q ≤ s.size ∧ s.size < f + q ∧ (pos = q ∨ Bd s q) ∧ ts.length ≤ 200 ∧ toks10 s.size f ts (s.data.toList.drop q) = toks10 s.size (s.size + 1) [] s.data.toList ∧ TokO w.heap.size ov ts wr ∧ Below w.heap.size w wr) (fun _ _ wr => s.size - wr.iterPos (w.heap.size + 1))
 case atStart => exact ⟨0, 0, s.size + 1, [], rfl, II.out, Nat.le_refl _, Nat.zero_le _, by omega, .inl rfl, by simp, rfl, OI.out, BI.out⟩
 case round =>
  obtain ⟨pos, q, f, ts, rfl, hit, hpq, hq, hf, hbd, hl2, hF, hO, hb⟩ := hrel
  clear II OI BI
  have HF : Hid (toks10 s.size f ts (s.data.toList.drop q) = toks10 s.size (s.size + 1) [] s.data.toList) := hF
  have hpos0 := iterPos_of hit
  have HP0 : Hid (wr.iterPos (w.heap.size + 1) = pos) := hpos0
  obtain ⟨ao, co, rfl⟩ := RowO.slice hO
  clear hF hpos0
  by_cases hp : pos < s.size
  ·have hnx : ∀ ty, (Instr.next (.pointer (some ⟨w.heap.size + 1, 0, none⟩)) true ty).run Tryz.prog wr = _ := fun ty => Lib.run_next_any_at wr (w.heap.size + 1) s pos ty hit hp
   have HIt : Hid ((wr.iterAt (w.heap.size + 1) s (pos + (Utf8.decode s pos).2)).heap[w.heap.size + 1]? = some (.stringIter s (pos + (Utf8.decode s pos).2))) := Lib.iterAt_heap wr (w.heap.size + 1) s pos (pos + (Utf8.decode s pos).2) hit
   have HB : Hid (Below w.heap.size w (wr.iterAt (w.heap.size + 1) s (pos + (Utf8.decode s pos).2))) := Lib.below_iterAt hb (k := w.heap.size + 1) (by omega) s (pos + (Utf8.decode s pos).2)
   have HO : Hid (TokO w.heap.size (.slice ao ts.length co) ts (wr.iterAt (w.heap.size + 1) s (pos + (Utf8.decode s pos).2))) := TokO.iterAt hO hit _
   clear hO hb hit
   by_cases hlt : pos < q
   ·have hst := bd_step hp hlt hq (hbd.resolve_left (by omega))
    have i4 : (pos : Int) < (q : Int) := by omega
    generalize wr.iterAt (w.heap.size + 1) s (pos + (Utf8.decode s pos).2) = W1 at *
    generalize (Utf8.decode s pos).1 = n at *
    generalize (Utf8.decode s pos).2 = wd at *
    go_wp2
    go_roundw
    case rel => exact ⟨pos + wd, q, f, ts, rfl, HIt.out, hst.2, hq, hf, hbd.imp (fun h => by omega) id, hl2, HF.out, HO.out, HB.out⟩
    case measure => rw [iterPos_of HIt.out, HP0.out]; omega
   obtain rfl : pos = q := by omega
   clear hlt hpq hbd
   obtain ⟨f, rfl⟩ : ∃ f', f = f' + 1 := ⟨f - 1, by omega⟩
   have i4 : ¬ (pos : Int) < (pos : Int) := by omega
   have hrz : (restT s pos).size ≤ 1048576 := by rw [restT_size]; omega
   have hsl : ∀ W : World, (Instr.slice 9 (.string s) (some (.int .i64 (pos : Int))) none none).run Tryz.prog W = .ok (.string (restT s pos)) W := fun W => by
    rw [run_slice_string_from_if W 9 s .i64 (pos : Int) Tryz.underlying9, if_pos ⟨by omega, by omega⟩]
    rfl
   have HPa : Hid (∀ W, _) := fun W => passed_any (Utf8.decode s pos).1 (restT s pos) W hrz
   have HStep : Hid (∀ k, pos < k → k ≤ s.size → Bd s k → 1 ≤ (Utf8.decode s pos).2 ∧ pos + (Utf8.decode s pos).2 ≤ k) := fun k h1 h2 h3 => bd_step hp h1 h2 h3
   by_cases hov : 0 < overB (Utf8.decode s pos).1 (restT s pos)
   ·obtain ⟨hN, hN2, hN3⟩ := over_step (f := f) (ts := ts) hp hov
    rw [HF.out] at hN
    have HN : Hid (_ = _) := hN
    have hst := HStep.out _ (by omega) hN2 hN3
    have HBd : Hid (Bd s (pos + overB (Utf8.decode s pos).1 (restT s pos))) := hN3
    clear hN hN3 HStep
    generalize wr.iterAt (w.heap.size + 1) s (pos + (Utf8.decode s pos).2) = W1 at *
    generalize overB (Utf8.decode s pos).1 (restT s pos) = ov at *
    generalize (Utf8.decode s pos).1 = n at *
    generalize (Utf8.decode s pos).2 = wd at *
    have i5 : (0 : Int) < (ov : Int) := by omega
    have w5 : IntKind.i64.wrap ((pos : Int) + (ov : Int)) = (pos : Int) + (ov : Int) := by rw [IntKind.wrap_i64]; omega
    go_wp2_with (go_at_call 12; refine (HPa.out _).mono ?_; rintro e w1 ⟨rfl, hb1⟩)
    have R0 : Hid (w1.heap[w.heap.size + 1]? = some (.stringIter s (pos + wd))) := iter_below HIt.out hb1
    have R1 : Hid (TokO w.heap.size (.slice ao ts.length co) ts w1) := TokO.below HO.out hb1
    have R2 : Hid (Below w.heap.size w w1) := HB.out.trans (hb1.mono HB.out.size)
    clear hb1
    (try go_wp2)
    go_roundw
    case rel => exact ⟨pos + wd, pos + ov, f, ts, by first | rfl | go_num, R0.out, hst.2, hN2, by omega, .inr HBd.out, hl2, HN.out.symm, R1.out, R2.out⟩
    case measure => rw [iterPos_of R0.out, HP0.out]; omega
   have hov0 : overB (Utf8.decode s pos).1 (restT s pos) = 0 := by omega
   have hA := over_none (f := f) (ts := ts) hp hov0
   rw [HF.out] at hA
   have HA : Hid (_ = _) := hA
   obtain ⟨r, hr⟩ : ∃ r, r = resT (restT s pos) := ⟨_, rfl⟩
   have HRt : Hid (∀ W, _) := fun W => readToken_any (Utf8.decode s pos).1 (restT s pos) W hrz (restT_first hp) r hr
   have HRr : Hid (r = res10 (s.data.toList.drop pos) 0) := hr.trans rest_res
   have wp1 : IntKind.i64.wrap ((pos : Int) + 1) = (pos : Int) + 1 := by rw [IntKind.wrap_i64]; omega
   rw [hov0] at HPa
   clear hr hA hov hov0
   cases ho : one10 (s.data.toList.drop pos) with
   | none =>
    rw [ho] at HA
    have hr2 : r.2 = 0 := by rw [HRr.out, res10, ho]
    have HV : Hid (tokensB s = ([], (pos : Int) + 1)) := by rw [Hid, HT.out]; exact HA.out
    have q0 : (r.2 == 0) = true := by rw [beq_iff_eq]; exact hr2
    clear ho hr2 HStep HRr
    generalize wr.iterAt (w.heap.size + 1) s (pos + (Utf8.decode s pos).2) = W1 at *
    generalize (Utf8.decode s pos).1 = n at *
    generalize (Utf8.decode s pos).2 = wd at *
    go_wp2_with fail
    refine (HPa.out _).mono ?_
    rintro e w1 ⟨rfl, hb1⟩
    have B1 : Hid (Below w.heap.size w w1) := HB.out.trans (hb1.mono HB.out.size)
    clear hb1
    go_wp2_with fail
    refine (HRt.out _).mono ?_
    rintro e w2 ⟨rfl, hb2⟩
    have B2 : Hid (Below w.heap.size w w2) := B1.out.trans (hb2.mono B1.out.size)
    clear hb2
    (try go_wp2)
    go_ret2
    rw [HV.out]
    exact ⟨_, rfl, tok_made w2 _ B2.out.size, (B2.out.alloc B2.out.size _).alloc (by have := B2.out.size; simp; omega) _⟩
   | some tk =>
    obtain ⟨t, k⟩ := tk
    rw [ho] at HA
    obtain ⟨hk1, hk2, hk3⟩ := bd_token ho
    obtain rfl : r = (t, ((0 + k : Nat) : Int)) := by rw [HRr.out, res10, ho]
    rw [show ((0 + k : Nat) : Int) = (k : Int) by omega] at HRt
    have q0 : ((k : Int) == 0) = false := by rw [beq_eq_false_iff_ne]; omega
    have hst := HStep.out _ (by omega) hk2 hk3
    have HBd : Hid (Bd s (pos + k)) := hk3
    clear ho HRr hk3 HStep
    generalize wr.iterAt (w.heap.size + 1) s (pos + (Utf8.decode s pos).2) = W1 at *
    generalize (Utf8.decode s pos).1 = n at *
    generalize (Utf8.decode s pos).2 = wd at *
    by_cases hfull : ts.length = 200
    ·have HV : Hid (tokensB s = ([], (pos : Int) + 1)) := by
      rw [Hid, HT.out, HA.out]
      simp only [if_pos hfull]
     have q200 : ((ts.length : Int) == 200) = true := by rw [beq_iff_eq]; omega
     clear hfull
     go_wp2_with fail
     refine (HPa.out _).mono ?_
     rintro e w1 ⟨rfl, hb1⟩
     have B1 : Hid (Below w.heap.size w w1) := HB.out.trans (hb1.mono HB.out.size)
     clear hb1
     go_wp2_with fail
     refine (HRt.out _).mono ?_
     rintro e w2 ⟨rfl, hb2⟩
     have B2 : Hid (Below w.heap.size w w2) := B1.out.trans (hb2.mono B1.out.size)
     clear hb2
     (try go_wp2)
     go_ret2
     rw [HV.out]
     exact ⟨_, rfl, tok_made w2 _ B2.out.size, (B2.out.alloc B2.out.size _).alloc (by have := B2.out.size; simp; omega) _⟩
    ·have HN : Hid (toks10 s.size f (ts ++ [t]) (s.data.toList.drop (pos + k)) = toks10 s.size (s.size + 1) [] s.data.toList) := by
      rw [Hid, HA.out]
      simp only [if_neg hfull]
     have q200 : ((ts.length : Int) == 200) = false := by rw [beq_eq_false_iff_ne]; omega
     have w5 : IntKind.i64.wrap ((pos : Int) + (k : Int)) = (pos : Int) + (k : Int) := by rw [IntKind.wrap_i64]; omega
     have hl3 : ts.length < 200 := by omega
     clear hfull
     go_wp2_with fail
     refine (HPa.out _).mono ?_
     rintro e w0 ⟨rfl, hb0⟩
     have I0 : Hid (w0.heap[w.heap.size + 1]? = some (.stringIter s (pos + wd))) := iter_below HIt.out hb0
     have O1 : Hid (TokO w.heap.size (.slice ao ts.length co) ts w0) := TokO.below HO.out hb0
     have B0 : Hid (Below w.heap.size w w0) := HB.out.trans (hb0.mono HB.out.size)
     clear hb0 HO HB HIt
     go_wp2_with fail
     refine (HRt.out _).mono ?_
     rintro e w1 ⟨rfl, hb1⟩
     have b0 := box10 w1 #[.int .i64 t.kind, .string t.text] 35 0 _ rfl
     have b1 := box10 w1 #[.int .i64 t.kind, .string t.text] 35 1 _ rfl
     have bal : Hid (Below w1.heap.size w1 (w1.alloc (.cells #[.int .i64 t.kind, .string t.text] 35))) := (Below.refl _ _).alloc (Nat.le_refl _) _
     have B1 : Hid (Below w.heap.size w w1) := B0.out.trans (hb1.mono B0.out.size)
     have B2 : Hid (Below w.heap.size w (w1.alloc (.cells #[.int .i64 t.kind, .string t.text] 35))) := B1.out.trans (bal.out.mono B1.out.size)
     have O2 : Hid (TokO w.heap.size (.slice ao ts.length co) ts (w1.alloc (.cells #[.int .i64 t.kind, .string t.text] 35))) := TokO.below (TokO.below O1.out hb1) bal.out
     have I2 : Hid ((w1.alloc (.cells #[.int .i64 t.kind, .string t.text] 35)).heap[w.heap.size + 1]? = some (.stringIter s (pos + wd))) := iter_below (iter_below I0.out hb1) bal.out
     have HLt : Hid (∀ k, (Value.slice ao ts.length co).ownBlock = some k → w.heap.size ≤ k) := fun k hk => (RowO.lt O2.out k hk).1
     have HNe : Hid (∀ k, (Value.slice ao ts.length co).ownBlock = some k → k ≠ w.heap.size + 1) := fun k hk e => by
      obtain ⟨cur, hcur⟩ := RowO.type O2.out hk
      rw [e, I2.out] at hcur
      cases hcur
     obtain ⟨cs, hcs, hsn⟩ := RowO.snoc O2.out
     have HC : Hid _ := hcs
     have HSn : Hid _ := hsn
     have hsz2 := B2.out.size
     clear hcs hsn hb1 bal B1 B0 O1 I0
     go_wp2_with (at_builtin; refine wpList_append_own _ rfl _ _ 31 rfl w.heap.size 35 i0 _ 2 24 Tryz.underlying31 hi hz0 hz1 hz2 rfl (by decide) _ _ _ rfl (World.ownsRow.alloc HC.out _) ⟨_, 0, none⟩ 1 1 [.int .i64 t.kind, .string t.text] rfl rfl (tok_at2 _ _ _ _ _) (tok_cells _ _) (by unfold maxLen; omega) (by omega) (by have h8 := B2.out.size; simp at h8 ⊢; omega) ?_)
     intro v' w3 hown3 hgrow _
     have R1 : Hid (TokO w.heap.size v' (ts ++ [t]) w3) := HSn.out v' w3 _ t rfl hown3 (fun _ _ h => h) rfl
     have R2 : Hid (Below w.heap.size w w3) := (B2.out.alloc B2.out.size _).grown hgrow (by have := B2.out.size; simp at this ⊢; omega) HLt.out
     have R0 : Hid (w3.heap[w.heap.size + 1]? = some (.stringIter s (pos + wd))) := by
      have hlt := (Array.getElem?_eq_some_iff.1 I2.out).1
      rw [Hid, hgrow.block (w.heap.size + 1) (by simp at hlt ⊢; omega) (fun h => HNe.out _ h.symm rfl)]
      rw [Below.heap_alloc _ _ _ hlt]
      exact I2.out
     clear hown3 hgrow
     go_wp2
     go_roundw
     case rel => exact ⟨pos + wd, pos + k, f, ts ++ [t], by first | rfl | go_num, R0.out, hst.2, hk2, by omega, .inr HBd.out, by simp; omega, HN.out, R1.out, R2.out⟩
     case measure => rw [iterPos_of R0.out, HP0.out]; omega
  ·have hnx : ∀ ty, (Instr.next (.pointer (some ⟨w.heap.size + 1, 0, none⟩)) true ty).run Tryz.prog wr = _ := fun ty => Lib.run_next_end_at wr (w.heap.size + 1) s pos ty hit hp
   obtain rfl : q = s.size := by omega
   have HV : Hid (tokensB s = (ts, 0)) := by
    rw [Hid, HT.out, ← HF.out, List.drop_of_length_le (by rw [toList_size]; exact Nat.le_refl _), toks_nil]
   have HO : Hid (TokO w.heap.size (.slice ao ts.length co) ts wr) := hO
   clear hO
   go_wp2
   go_ret2
   rw [HV.out]
   exact ⟨_, rfl, HO.out, hb⟩
end Go.Proofs.YtccogaoabdpfmaaGreat

namespace Go.Proofs.YtccogaoabdpfmaaGreat
open Go.RowKit
set_option linter.unusedVariables false
theorem bigT_any (a : Option Addr) (n cap : Nat) (w : World) :
  Calls Tryz.prog 4 #[.slice a n cap] w fun e w' => e = .returned (.bool (decide (1048576 < (n : Int)))) ∧ w' = w := by
 go_enter Tryz.func4, Tryz.ntmps4
 go_wp2
 go_ret
 exact ⟨rfl, rfl⟩
end Go.Proofs.YtccogaoabdpfmaaGreat

namespace Go.Proofs.YtccogaoabdpfmaaGreat
open Go.RowKit
set_option maxHeartbeats 6400000
set_option maxRecDepth 100000
set_option linter.unusedVariables false
def shwChk (ns : List SNodeD) (rs : List SRuleD) : Bool := ns.all (fun x => decide (x.args.length ≤ 1000)) && (List.range ns.length).all (fun i => decide ((shwFL ns.length ns i).length ≤ 100000000)) && rs.all (fun r => decide (r.params.length ≤ 1000) && decide (0 ≤ r.body) && decide (r.body.toNat < ns.length)) && decide (rs.length ≤ 1000)
def tokChk (T : ByteArray) : Bool := match parseB T with | some (ns, rs) => shwChk ns rs && tokY (shwRulesL ns rs rs.length) | none => false
noncomputable def all78t : Bool := texts11.all fun s => mores.all fun m => tokChk ((cut11 s).1 ++ m)
theorem all78t_is : all78t = true := by kernel_rfl
theorem shwChk_of {ns : List SNodeD} {rs : List SRuleD} (hI : SurfIn ns rs) (h : shwChk ns rs = true) : ShwB ns ∧ ShwR ns rs := by
 unfold shwChk at h
 simp only [Bool.and_eq_true, decide_eq_true_eq] at h
 obtain ⟨⟨⟨h1, h2⟩, h3⟩, h4⟩ := h
 refine ⟨⟨hI.nl, fun x hx => ?_, fun i hi => ?_⟩, ⟨h4, fun r hr => ?_⟩⟩
 ·have q := hI.lf x hx
  have e : symTot (leafS x) = x.text.size + rowTot exprTot x.args + x.bind.size := rfl
  have a := of_decide_eq_true (List.all_eq_true.1 h1 x hx)
  exact ⟨by omega, by omega, a, q.2⟩
 ·have a := of_decide_eq_true (List.all_eq_true.1 h2 i (List.mem_range.2 hi))
  rw [← shwFL_is, tl_size] at a
  exact a
 ·have a := List.all_eq_true.1 h3 r hr
  simp only [Bool.and_eq_true, decide_eq_true_eq] at a
  have q := hI.rn r hr
  exact ⟨q.1, a.1.1, q.2.2, r.body.toNat, (Int.toNat_of_nonneg a.1.2).symm, a.2⟩
theorem drawn_tok {ns : List SNodeD} {rs : List SRuleD} (h : Drawn ns rs) : SurfG ns rs ∧ Shaped ns ∧ ShwB ns ∧ ShwR ns rs ∧ TokOk (shwRules ns rs rs.length) := by
 obtain ⟨s, hs, m, hm, hp, hG⟩ := h
 have hc : tokChk ((cut11 s).1 ++ m) = true := List.all_eq_true.1 (List.all_eq_true.1 all78t_is s hs) m hm
 unfold tokChk at hc
 rw [hp] at hc
 simp only [Bool.and_eq_true] at hc
 obtain ⟨h1, h2⟩ := hc
 have hfo := hG.form
 unfold formB at hfo
 simp only [Bool.and_eq_true] at hfo
 obtain ⟨hB, hQ⟩ := shwChk_of hG.inn h1
 rw [← shwRulesL_is] at h2
 exact ⟨hG, shaped_of hfo.1.1.1.2, hB, hQ, tokOk_of h2⟩
theorem fnTokens_walk (a : Option Addr) (n cap : Nat) (w : World) (hcode : CodeRow w (.slice a n cap) n) :
  Calls Tryz.prog 3 #[.slice a n cap] w fun e w' => e = .returned (.bool true) ∧ Below w.heap.size w w' := by
 have HC : Hid (CodeRow w (.slice a n cap) n) := hcode
 clear hcode
 by_cases hn : n ≤ 1048576
 ·have hd : decide (1048576 < (n : Int)) = false := by simp; omega
  go_enter Tryz.func3, Tryz.ntmps3
  go_wp2_with fail
  refine (bigT_any a n cap _).mono ?_
  rintro e wq ⟨rfl, hw⟩
  rw [hw, hd]
  clear hw wq
  go_wp2_with fail
  refine (drawSurface_of w _ n _ (by omega) HC.out (Below.refl _ _)).mono ?_
  rintro e w1 ⟨ns, rs, nv, rv, hD, rfl, hH, hb1⟩
  obtain ⟨an, cn, rfl⟩ := RowC.slice hH.here.1
  obtain ⟨ar, cr, rfl⟩ := RowC.slice hH.here.2
  obtain ⟨hG, hSh, hB, hQ, hTk⟩ := drawn_tok hD
  have HSs : Hid (∀ V : World, Held (fun _ => False) V (fun V => SNs V (.slice an ns.length cn) ns ∧ SRs V (.slice ar rs.length cr) rs) → Calls Tryz.prog 6 #[.agg #[.slice an ns.length cn, .slice ar rs.length cr]] V fun e w' => e = .returned (.tuple #[.string (shwRules ns rs rs.length), .bool true]) ∧ Below V.heap.size V w') := fun V h => showSurface_held hG hSh hB hQ _ _ V h
  have ba : Below w1.heap.size w1 (w1.alloc (Obj.cells #[.slice an ns.length cn, .slice ar rs.length cr] 27)) := (Below.refl _ _).alloc (Nat.le_refl _) _
  have H2 : Hid (Held (fun _ => False) (w1.alloc (Obj.cells #[.slice an ns.length cn, .slice ar rs.length cr] 27)) (fun V => SNs V (.slice an ns.length cn) ns ∧ SRs V (.slice ar rs.length cr) rs)) := (hH.away (fun k _ h => h.elim)).fr (FrA.below ba)
  have B1 : Hid (Below w.heap.size w (w1.alloc (Obj.cells #[.slice an ns.length cn, .slice ar rs.length cr] 27))) := hb1.trans (ba.mono hb1.size)
  have HTk : Hid (TokOk (shwRules ns rs rs.length)) := hTk
  clear hG hSh hB hQ hTk hD hH hb1 ba
  generalize shwRules ns rs rs.length = S at *
  go_wp2_with fail
  refine (HSs.out _ H2.out).mono ?_
  rintro e w2 ⟨rfl, hb2⟩
  have B2 : Hid (Below w.heap.size w w2) := B1.out.trans (hb2.mono B1.out.size)
  clear hb2 HSs H2
  have hSz := HTk.out.size
  have HI : Hid (TokensC 7 S) := implTokens_any S (by omega)
  have HIm : Hid (TokensC 7 (saidB ++ S ++ moreB)) := implTokens_any _ (by
   rw [ByteArray.size_append, ByteArray.size_append]
   have e1 : saidB.size = 9 := rfl
   have e2 : moreB.size = 7 := rfl
   omega)
  have HIa : Hid (TokensC 7 (tokTxt (tokensB S).1 (tokensB S).1.length)) := implTokens_any _ (by have := HTk.out.text; omega)
  unfold TokensC at HI HIm HIa
  rw [HTk.out.none] at HI
  rw [HTk.out.more] at HIm
  rw [HTk.out.again] at HIa
  have htx := HTk.out.text
  have hmn := HTk.out.many
  have hL := (tokensB_I S).1
  clear HTk
  generalize (tokensB S).1 = L at *
  go_wp2_with fail
  refine (HI.out _).mono ?_
  rintro e w3 ⟨g0, rfl, hg3, hb3⟩
  have G3 : Hid (TokR w3 g0 L) := (ownT_of hg3).row
  have B3 : Hid (Below w.heap.size w w3) := B2.out.trans (hb3.mono B2.out.size)
  clear hg3 hb3 HI B2 B1
  obtain ⟨ag, cg, rfl⟩ := RowC.slice G3.out
  have HMo : Hid (∀ k, k ≤ L.length → (tokTxt L k).size ≤ 600) := fun k hk => by
   have h := tokTxt_mono L (L.length - k) k (by omega)
   rw [show k + (L.length - k) = L.length by omega] at h
   omega
  go_wp2
  go_loopw [8, 9] (fun tv iv wr => ∃ k : Nat, iv = .int .i64 k ∧ tv = .string (tokTxt L k) ∧ k ≤ L.length ∧ wr = w3) (fun _ iv _ => L.length - (intOf iv).toNat)
  case atStart => exact ⟨0, rfl, rfl, Nat.zero_le _, rfl⟩
  case round =>
   obtain ⟨k, rfl, rfl, hk, rfl⟩ := hrel
   have hts := HMo.out k hk
   by_cases hlt : k < L.length
   ·obtain ⟨b, off, rfl, hc1, hc2⟩ := G3.out.at hlt
    have i4 : (k : Int) < (L.length : Int) := by omega
    have HX : Hid (tokTxt L (k + 1) = tokStep (tokTxt L k) L[k]) := tokTxt_next L k hlt
    have hns := HMo.out (k + 1) (by omega)
    have hxs : L[k].text.size ≤ 600 := by
     rw [HX.out, tokStep] at hns
     split at hns
     ·simp only [ByteArray.size_append] at hns; omega
     split at hns
     ·simp only [ByteArray.size_append] at hns; omega
     split at hns
     ·simp only [ByteArray.size_append] at hns; omega
     ·simp only [ByteArray.size_append] at hns; omega
    unfold tokStep at HX
    clear hns
    generalize tokTxt L k = U at *
    generalize L[k].kind = K at *
    generalize L[k].text = T at *
    by_cases k3 : K = 3
    ·subst k3
     rw [if_pos rfl] at HX
     go_wp2
     go_roundw
     case rel => exact ⟨k + 1, by go_num, by rw [HX.out], by omega, by first | rfl | trivial⟩
     case measure => simp [intOf]; omega
    rw [if_neg k3] at HX
    have q3 : (K == 3) = false := by rw [beq_eq_false_iff_ne]; exact k3
    by_cases k4 : K = 4
    ·subst k4
     rw [if_pos rfl] at HX
     go_wp2
     go_roundw
     case rel => exact ⟨k + 1, by go_num, by rw [HX.out], by omega, by first | rfl | trivial⟩
     case measure => simp [intOf]; omega
    rw [if_neg k4] at HX
    have q4 : (K == 4) = false := by rw [beq_eq_false_iff_ne]; exact k4
    by_cases k6 : K = 6
    ·subst k6
     rw [if_pos rfl] at HX
     go_wp2
     go_roundw
     case rel => exact ⟨k + 1, by go_num, by rw [HX.out], by omega, by first | rfl | trivial⟩
     case measure => simp [intOf]; omega
    ·rw [if_neg k6] at HX
     have q6 : (K == 6) = false := by rw [beq_eq_false_iff_ne]; exact k6
     go_wp2
     go_roundw
     case rel => exact ⟨k + 1, by go_num, by rw [HX.out], by omega, by first | rfl | trivial⟩
     case measure => simp [intOf]; omega
   ·obtain rfl : k = L.length := by omega
    generalize tokTxt L L.length = t at *
    go_wp2_with fail
    refine (HIa.out _).mono ?_
    rintro e w4 ⟨g4, rfl, hg4, hb4⟩
    have G4 : Hid (TokR w4 g4 L) := (ownT_of hg4).row
    have Q4 : Hid (TokR w4 (.slice ag L.length cg) L) := G3.out.below hb4
    have B4 : Hid (Below w.heap.size w w4) := B3.out.trans (hb4.mono B3.out.size)
    clear hg4 hb4 HIa
    obtain ⟨a4, c4, rfl⟩ := RowC.slice G4.out
    go_wp2_with fail
    refine (HIm.out _).mono ?_
    rintro e w5 ⟨g5, rfl, hg5, hb5⟩
    have G5 : Hid (TokR w5 g5 L) := (ownT_of hg5).row
    have Q5 : Hid (TokR w5 (.slice ag L.length cg) L) := Q4.out.below hb5
    have P5 : Hid (TokR w5 (.slice a4 L.length c4) L) := G4.out.below hb5
    have B5 : Hid (Below w.heap.size w w5) := B4.out.trans (hb5.mono B4.out.size)
    clear hg5 hb5 HIm Q4 G4 B4
    obtain ⟨a5, c5, rfl⟩ := RowC.slice G5.out
    have u1 : ¬ (600 : Int) < (t.size : Int) := by omega
    have u2 : ¬ (580 : Int) < (S.size : Int) := by omega
    go_wp2
    go_loopw [14] (fun iv wr => ∃ k q : Nat, iv = .int .i64 k ∧ k ≤ L.length ∧ wr = w5.drewN q) (fun iv _ => L.length - (intOf iv).toNat)
    case atStart => exact ⟨0, 0, rfl, Nat.zero_le _, rfl⟩
    case round =>
     obtain ⟨k, q, rfl, hk, rfl⟩ := hrel
     by_cases hlt : k < L.length
     ·obtain ⟨b, off, rfl, hc1, hc2⟩ := Q5.out.at hlt
      obtain ⟨b', off', rfl, hc3, hc4⟩ := P5.out.at hlt
      obtain ⟨b2, off2, rfl, hc5, hc6⟩ := G5.out.at hlt
      have i4 : (k : Int) < (L.length : Int) := by omega
      have hT := beq_yes (rfl : L[k].text = L[k].text)
      generalize L[k].kind = K at *
      generalize L[k].text = T at *
      go_wp2
      go_region
      go_wp2
      go_roundw
      case rel => exact ⟨k + 1, q + 1, by go_num, by omega, rfl⟩
      case measure => simp [intOf]; omega
     ·obtain rfl : k = L.length := by omega
      have u3 : (3 : Int) < (L.length : Int) := by omega
      go_wp2
      go_ret
      exact ⟨rfl, bel_drewN B5.out q⟩
 ·have hd : decide (1048576 < (n : Int)) = true := by simp; omega
  go_enter Tryz.func3, Tryz.ntmps3
  go_wp2_with fail
  refine (bigT_any a n cap _).mono ?_
  rintro e wq ⟨rfl, hw⟩
  rw [hw, hd]
  clear hw wq
  go_wp2
  go_ret
  exact ⟨rfl, Below.refl _ _⟩
end Go.Proofs.YtccogaoabdpfmaaGreat
