/- strings.IndexRune at the signs, at a rune of 128 or more; strings.ContainsRune there. -/
/- The program's readSign, readToken, passedOver (printed by mk/tkj.py). -/
import Derived.Test.YtccogaoabdpfmaaGreatTkC
import Derived.Test.YtccogaoabdpfmaaGreatTkH
namespace Go.Proofs.YtccogaoabdpfmaaGreat
open Go.RowKit
set_option maxHeartbeats 3200000
set_option maxRecDepth 100000
set_option linter.unusedVariables false
def signsT : ByteArray := ⟨#[40, 41, 123, 125, 124, 42, 43, 63, 58, 44, 59, 61, 64, 45, 47, 60, 38, 33]⟩
theorem signsT_size : signsT.size = 18 := rfl
theorem signsT_low : ∀ k (h : k < signsT.size), signsT[k].toNat < 128 := by decide
theorem idx_none (c : UInt8) : ∀ (l : List UInt8), (∀ b ∈ l, b ≠ c) → Lib.indexByte l c = -1
 | [], _ => rfl
 | b :: l, h => by
  have h1 := idx_none c l (fun x hx => h x (List.mem_cons_of_mem _ hx))
  have h2 := h b (List.mem_cons_self ..)
  simp [Lib.indexByte, h1, h2]
theorem idx_ge (c : UInt8) : ∀ (l : List UInt8), -1 ≤ Lib.indexByte l c
 | [] => by simp [Lib.indexByte]
 | b :: l => by
  have ih := idx_ge c l
  rw [Lib.indexByte]
  split
  ·omega
  ·split <;> omega
theorem idx_has (c : UInt8) : ∀ (l : List UInt8), decide (0 ≤ Lib.indexByte l c) = l.contains c
 | [] => rfl
 | b :: l => by
  have ih := idx_has c l
  have hge := idx_ge c l
  by_cases hb : b = c
  ·subst hb
   simp [Lib.indexByte]
  ·have hb' : ¬ c = b := fun e => hb e.symm
   have e1 : (b :: l).contains c = l.contains c := by simp [hb']
   rw [e1, ← ih]
   have e2 : Lib.indexByte (b :: l) c = if (Lib.indexByte l c == -1) = true then -1 else Lib.indexByte l c + 1 := by
    rw [Lib.indexByte, if_neg (by simpa using hb)]
   rw [e2]
   by_cases hi : Lib.indexByte l c = -1
   ·rw [if_pos (by simpa using hi), hi]
   ·rw [if_neg (by simpa using hi), decide_eq_true (by omega), decide_eq_true (by omega)]
theorem idxRune_last (sg : ByteArray) (hsz : sg.size = 18) (HLow : Hid (∀ k (h : k < sg.size), sg[k].toNat < 128)) (HNo : Hid (∀ (c : UInt8) (i : Nat), 128 ≤ c.toNat → Lib.indexByte (sg.extract i sg.size).data.toList c = -1))
  (r : Nat) (h128 : 128 ≤ r) (he : ¬ r = 65533) (rs : ByteArray) (L : Nat) (f1 : 2 ≤ rs.size) (f2 : rs.size ≤ 4) (hL2 : rs.size = L + 1) (hLL : L < rs.size) (hL : 128 ≤ rs[L].toNat)
  (hcv : ∀ W : World, (convert 21 9 (.int .i32 (r : Int))).run Tryz.prog W = .ok (.string rs) W)
  (HV : Hid (∀ W : World, Calls Tryz.prog 92 #[.int .i32 (r : Int)] W fun e w' => e = .returned (.bool true) ∧ w' = W)) (w : World) :
  Calls Tryz.prog 78 #[.string sg, .int .i32 r] w fun e w' => e = .returned (.int .i64 (-1)) ∧ Below w.heap.size w w' := by
 have d0 : decide ((0 : Int) ≤ (r : Int)) = true := by rw [decide_eq_true]; omega
 have d1 : decide ((r : Int) < 128) = false := by rw [decide_eq_false]; omega
 have d1' : ¬ r < 128 := by omega
 have q3 : ((r : Int) == 65533) = false := by rw [beq_eq_false_iff_ne]; omega
 have j0 : L < sg.size := by omega
 have hlow := HLow.out L j0
 have HIx : Hid (∀ W, _) := fun W => Tryz.strings_IndexByte (sg.extract (L + 1) sg.size) (rs[L].toNat : Int) W
 have e1 : ((rs[L].toNat : Int)).toNat.toUInt8 = rs[L] := by simp
 rw [e1, HNo.out rs[L] (L + 1) hL] at HIx
 have i1 : (L : Int) < (sg.size : Int) := by omega
 have i2 : (L : Int) < (rs.size : Int) := by omega
 have w1 : IntKind.i64.wrap ((rs.size : Int) - 1) = (L : Int) := by rw [IntKind.wrap_i64]; omega
 have w2 : IntKind.i64.wrap ((L : Int) + 1) = (L : Int) + 1 := by rw [IntKind.wrap_i64]; omega
 have hu1 := sg[L].toNat_lt
 have hu2 := rs[L].toNat_lt
 have q5 : ((sg[L].toNat : Int) != (rs[L].toNat : Int)) = true := by simp; omega
 have HZ : Hid (rs.size = L + 1) := hL2
 have HS : Hid (sg.size = 18) := hsz
 have j1 : (0 : Int) ≤ (L : Int) + 1 := by omega
 have j2 : (L : Int) + 1 ≤ (sg.size : Int) := by omega
 have hsl : ∀ W : World, (Instr.slice 9 (.string sg) (some (.int .i64 ((L : Int) + 1))) none none).run Tryz.prog W = .ok (.string (sg.extract (L + 1) sg.size)) W := fun W => by
  rw [run_slice_string_from_if W 9 sg .i64 ((L : Int) + 1) Tryz.underlying9, if_pos ⟨j1, j2⟩]
  rfl
 clear hL2 hsz HLow HNo e1 he
 go_enter Tryz.func78, Tryz.ntmps78
 go_wp2_with (go_at_call 92; refine (HV.out _).mono ?_; rintro e wq ⟨rfl, hw⟩; rw [hw]; clear hw)
 go_step3
 go_wp2
 go_loopw [9] (fun iv wr => iv = .int .i64 (L : Int) ∧ wr = w) (fun _ _ => 0)
 case atStart => exact ⟨by first | rfl | (simp [w1]), rfl⟩
 case round =>
  obtain ⟨rfl, hwr⟩ := hrel
  rw [hwr]
  clear hwr
  go_wp2
  go_step3
  go_wp2_with (fail)
  go_quiet (fail)
  go_wp2_with (fail)
  have BQ : Hid (Below w.heap.size w (w.drewN nq)) := bel_drewN (Below.refl _ _) _
  generalize w.drewN nq = W1 at *
  go_quiet ((go_at_call 91; refine Calls.quiet_of_same (HIx.out _)))
  go_wp2
  (try rw [Exit.noGoto_ret])
  (try go_wp2)
  (try rw [Exit.noGoto_ret])
  go_ret
  exact ⟨rfl, bel_drewN BQ.out _⟩
theorem idxRune_high (r : Nat) (h128 : 128 ≤ r) (w : World) :
  Calls Tryz.prog 78 #[.string signsT, .int .i32 r] w fun e w' => e = .returned (.int .i64 (-1)) ∧ Below w.heap.size w w' := by
 have hsz := signsT_size
 have HLow : Hid (∀ k (h : k < signsT.size), signsT[k].toNat < 128) := signsT_low
 have HNo : Hid (∀ (c : UInt8) (i : Nat), 128 ≤ c.toNat → Lib.indexByte (signsT.extract i signsT.size).data.toList c = -1) := fun c i hc => idx_none c _ (fun b hb e => by
  have h1 := mem_extract hb
  obtain ⟨k, hk, rfl⟩ := List.getElem_of_mem h1
  have h2 := signsT_low k (by rw [← toList_size]; exact hk)
  have h3 : signsT.data.toList[k] = signsT[k]'(by rw [← toList_size]; exact hk) := rfl
  rw [h3] at e
  rw [e] at h2
  omega)
 have d0 : decide ((0 : Int) ≤ (r : Int)) = true := by rw [decide_eq_true]; omega
 have d1 : decide ((r : Int) < 128) = false := by rw [decide_eq_false]; omega
 have d1' : ¬ r < 128 := by omega
 generalize signsT = sg at *
 by_cases he : r = 65533
 ·subst he
  go_enter Tryz.func78, Tryz.ntmps78
  go_wp2
  go_loopw [4] (fun _ wr => ∃ pos : Nat, wr.heap[w.heap.size]? = some (.stringIter sg pos) ∧ Below w.heap.size w wr ∧ pos ≤ sg.size) (fun _ wr => sg.size - wr.iterPos w.heap.size)
  case atStart => exact ⟨0, World.iter_heap w sg 0, (Below.refl _ _).alloc (Nat.le_refl _) _, Nat.zero_le _⟩
  case round =>
   obtain ⟨pos, hit, hbw, hpos⟩ := hrel
   have hpos0 := iterPos_of hit
   by_cases hp : pos < sg.size
   ·have hlow := HLow.out pos hp
    have hnx : ∀ ty, (Instr.next (.pointer (some ⟨w.heap.size, 0, none⟩)) true ty).run Tryz.prog wr = _ := fun ty => Lib.run_next_ascii_at wr w.heap.size sg pos ty hit hp hlow
    have HIt : Hid ((wr.iterAt w.heap.size sg (pos + 1)).heap[w.heap.size]? = some (.stringIter sg (pos + 1))) := Lib.iterAt_heap wr w.heap.size sg pos (pos + 1) hit
    have HB : Hid (Below w.heap.size w (wr.iterAt w.heap.size sg (pos + 1))) := Lib.below_iterAt hbw (k := w.heap.size) (Nat.le_refl _) sg (pos + 1)
    have hq : ((sg[pos].toNat : Int) == 65533) = false := by rw [beq_eq_false_iff_ne]; omega
    generalize wr.iterAt w.heap.size sg (pos + 1) = W1 at *
    clear hit hbw
    go_wp2
    go_roundw
    case rel => exact ⟨pos + 1, HIt.out, HB.out, by omega⟩
    case measure => rw [iterPos_of HIt.out, hpos0]; omega
   ·have hnx : ∀ ty, (Instr.next (.pointer (some ⟨w.heap.size, 0, none⟩)) true ty).run Tryz.prog wr = _ := fun ty => Lib.run_next_end_at wr w.heap.size sg pos ty hit hp
    go_wp2
    go_ret
    exact ⟨rfl, hbw⟩
 have q3 : ((r : Int) == 65533) = false := by rw [beq_eq_false_iff_ne]; omega
 have HV : Hid (∀ W, _) := fun W => Tryz.utf8_ValidRune (r : Int) W
 cases hv : Lib.validRune (r : Int) with
 | false =>
  rw [hv] at HV
  go_enter Tryz.func78, Tryz.ntmps78
  go_wp2_with (go_at_call 92; refine (HV.out _).mono ?_; rintro e wq ⟨rfl, hw⟩; rw [hw]; clear hw)
  go_ret
  exact ⟨rfl, Below.refl _ _⟩
 | true =>
  rw [hv] at HV
  obtain ⟨f1, f2, f3⟩ := encode_facts (r : Int) (by rw [validRune_eq]; exact hv) (by omega)
  have hcv : ∀ W : World, (convert 21 9 (.int .i32 (r : Int))).run Tryz.prog W = .ok (.string (Utf8.encode (r : Int))) W := fun W => run_convert_int_string W 21 9 .i32 (r : Int) (by kernel_rfl) Tryz.underlying9
  generalize hLe : (Utf8.encode (r : Int)).size - 1 = L at f3
  clear hv
  exact idxRune_last sg hsz HLow HNo r h128 he _ L f1 f2 (by omega) (by omega) (f3 (by omega)) hcv HV w
def signB (r : Nat) : Bool := decide (r < 128) && signsL.contains (UInt8.ofNat r)
theorem contains_any (r : Nat) (w : World) : Calls Tryz.prog 51 #[.string signsT, .int .i32 r] w fun e w' => e = .returned (.bool (signB r)) ∧ Below w.heap.size w w' := by
 by_cases h : r < 128
 ·have HV : Hid (decide (0 ≤ Lib.indexByte signsT.data.toList (r : Int).toNat.toUInt8) = signB r) := by
   rw [Hid, idx_has, signB, decide_eq_true h]
   rfl
  refine (Tryz.strings_ContainsRune_ascii signsT (r : Int) w (by omega) (by omega)).mono ?_
  rintro e w' ⟨rfl, rfl⟩
  rw [HV.out]
  exact ⟨rfl, Below.refl _ _⟩
 ·have HV : Hid (signB r = false) := by rw [Hid, signB, decide_eq_false h]; rfl
  have HI : Hid (∀ W, _) := fun W => idxRune_high r (by omega) W
  generalize signsT = sg at *
  rw [HV.out]
  go_enter Tryz.func51, Tryz.ntmps51
  go_wp2_with (go_at_call 78; refine (HI.out _).mono ?_; rintro e w1 ⟨rfl, hb1⟩)
  go_ret
  exact ⟨rfl, hb1⟩
end Go.Proofs.YtccogaoabdpfmaaGreat

namespace Go.Proofs.YtccogaoabdpfmaaGreat
open Go.RowKit
set_option maxHeartbeats 3200000
set_option maxRecDepth 100000
set_option linter.unusedVariables false
def FirstR (n : Nat) (t : ByteArray) : Prop := ∃ h : 0 < t.size, (t[0].toNat < 128 → n = t[0].toNat) ∧ (128 ≤ t[0].toNat → 128 ≤ n)
theorem first_let {n : Nat} {t : ByteArray} (h : FirstR n t) (h0 : 0 < t.size) : letT n = letT t[0].toNat ∧ figT n = figT t[0].toNat ∧ (∀ c : UInt8, c.toNat < 128 → (n = c.toNat ↔ t[0] = c)) := by
 obtain ⟨_, h1, h2⟩ := h
 by_cases hb : t[0].toNat < 128
 ·rw [h1 hb]
  exact ⟨rfl, rfl, fun c hc => ⟨fun e => UInt8.toNat_inj.1 e, fun e => by rw [e]⟩⟩
 ·have h3 := h2 (by omega)
  refine ⟨?_, ?_, fun c hc => ⟨fun e => by omega, fun e => by rw [e] at hb; omega⟩⟩
  ·have e1 : letT n = false := by simp [letT]; omega
   have e2 : letT t[0].toNat = false := by simp [letT]; omega
   rw [e1, e2]
  ·have e1 : figT n = false := by simp [figT]; omega
   have e2 : figT t[0].toNat = false := by simp [figT]; omega
   rw [e1, e2]
theorem pre_arrow {t : ByteArray} (h0 : 0 < t.size) : Lib.hasPrefix t.data.toList [45, 62] = decide (t[0] = 45 ∧ t.data.toList[1]? = some 62) := by
 have e := drop_at h0
 rw [List.drop_zero] at e
 rw [e]
 cases hd : t.data.toList.drop (0 + 1) with
 | nil => simp [Lib.hasPrefix, List.isPrefixOf]
 | cons b l =>
  simp only [Lib.hasPrefix, List.isPrefixOf, List.getElem?_cons_succ, List.getElem?_cons_zero, Option.some.injEq, Bool.and_true]
  rw [Bool.eq_iff_iff, Bool.and_eq_true, beq_iff_eq, beq_iff_eq, decide_eq_true_eq]
  exact ⟨fun h => ⟨h.1.symm, h.2.symm⟩, fun h => ⟨h.1.symm, h.2.symm⟩⟩
theorem signB_first {n : Nat} {t : ByteArray} (h : FirstR n t) (h0 : 0 < t.size) : signB n = signsL.contains t[0] := by
 obtain ⟨_, h1, h2⟩ := h
 by_cases hb : t[0].toNat < 128
 ·rw [h1 hb, signB, decide_eq_true hb, UInt8.ofNat_toNat]
  rfl
 ·have h3 := h2 (by omega)
  rw [signB, decide_eq_false (by omega), Bool.false_and]
  cases hc : signsL.contains t[0] with
  | false => rfl
  | true =>
   exfalso
   rw [List.contains_iff_mem] at hc
   have : ∀ b ∈ signsL, b.toNat < 128 := by decide
   exact hb (this _ hc)
theorem enc_first {n : Nat} {t : ByteArray} (h : FirstR n t) (h0 : 0 < t.size) (hc : signsL.contains t[0] = true) : Utf8.encode (n : Int) = t.extract 0 (0 + 1) := by
 obtain ⟨_, h1, h2⟩ := h
 have hlow : t[0].toNat < 128 := by
  rw [List.contains_iff_mem] at hc
  have : ∀ b ∈ signsL, b.toNat < 128 := by decide
  exact this _ hc
 rw [h1 hlow, ext_take]
 have e := drop_at h0
 rw [e]
 have hv : Utf8.valid (t[0].toNat : Int) = true := by simp [Utf8.valid]; omega
 unfold Utf8.encode
 simp only [hv, if_true, Int.toNat_natCast, hlow]
 simp [bytesOf]
theorem readSign_any (n : Nat) (t : ByteArray) (w : World) (h0 : 0 < t.size) (hF : FirstR n t) (hl : letT t[0].toNat = false) (hf : figT t[0].toNat = false) (e3 : ¬ t[0] = 34) (e4 : ¬ t[0] = 91) (r : TokD × Int) (hr : r = resT t) :
  Calls Tryz.prog 26 #[.int .i32 n, .string t] w fun e w' => e = .returned (.tuple #[.agg #[.int .i64 r.1.kind, .string r.1.text], .int .i64 r.2]) ∧ Below w.heap.size w w' := by
 have HP : Hid (∀ W, _) := fun W => Tryz.strings_HasPrefix t ⟨#[45, 62]⟩ W
 have eP : Lib.hasPrefix t.data.toList (⟨#[45, 62]⟩ : ByteArray).data.toList = _ := pre_arrow h0
 rw [eP] at HP
 have HS : Hid (∀ W, _) := fun W => contains_any n W
 rw [signB_first hF h0] at HS
 have HEn : Hid (signsL.contains t[0] = true → Utf8.encode (n : Int) = t.extract 0 (0 + 1)) := enc_first hF h0
 unfold signsT at HS
 have B0 : Hid (Below w.heap.size w (w.alloc (.cells #[.int .i64 0, .string ⟨#[]⟩] 35))) := (Below.refl _ _).alloc (Nat.le_refl _) _
 have c0 : (w.alloc (.cells #[.int .i64 0, .string ⟨#[]⟩] 35)).cell? ⟨w.heap.size, 0, none⟩ = some (.int .i64 0) := box10 _ _ _ 0 _ rfl
 have c1 : (w.alloc (.cells #[.int .i64 0, .string ⟨#[]⟩] 35)).cell? ⟨w.heap.size, 1, none⟩ = some (.string ⟨#[]⟩) := box10 _ _ _ 1 _ rfl
 have g0 : (w.alloc (.cells #[.int .i64 0, .string ⟨#[]⟩] 35)).frozen? ⟨w.heap.size, 0, none⟩ = false := froz10 _ _ _ 0
 have g1 : (w.alloc (.cells #[.int .i64 0, .string ⟨#[]⟩] 35)).frozen? ⟨w.heap.size, 1, none⟩ = false := froz10 _ _ _ 1
 by_cases hA : t[0] = 45 ∧ t.data.toList[1]? = some 62
 ·have h1 : 0 + 1 < t.size := by
   rcases Nat.lt_or_ge 1 t.size with h | h
   ·exact h
   ·have := hA.2
    rw [List.getElem?_eq_none (by rw [toList_size]; exact h)] at this
    cases this
  have h62 : t[0 + 1] = 62 := by
   have h5 := at_some h1
   have h6 : t.data.toList[0 + 1]? = some 62 := hA.2
   rw [h6] at h5
   exact (Option.some.inj h5).symm
  have HV : Hid (r = (⟨5, ⟨#[45, 62]⟩⟩, 2)) := by rw [Hid, hr]; exact res_arrow h1 hA.1 h62
  rw [decide_eq_true hA] at HP
  clear hr hA eP h62 h1 hF hl hf e3 e4
  go_enter Tryz.func26, Tryz.ntmps26
  go_wp2_with (go_at_call 50; refine (HP.out _).mono ?_; rintro e wq ⟨rfl, hw⟩; rw [hw]; clear hw)
  refine bodyPost_ret (by simp [results, Tryz.results26, go_sem]; try rfl) rfl ?_
  rw [HV.out]
  first
   | exact ⟨rfl, (B0.out.setCell (Nat.le_refl _) _).setCell (Nat.le_refl _) _⟩
   | exact ⟨rfl, B0.out⟩
   | exact ⟨rfl, (Below.refl _ _).alloc (Nat.le_refl _) _⟩
 ·have HR : Hid (_ = _) := hr.trans (res_sign (s := t) (p := 0) h0 hl hf e3 e4 hA)
  rw [decide_eq_false hA] at HP
  cases hc : signsL.contains t[0] with
  | true =>
   rw [hc] at HS
   have HV : Hid (r = (⟨5, Utf8.encode (n : Int)⟩, 1)) := by rw [Hid, HR.out, if_pos hc, HEn.out hc]; rfl
   clear hr hA eP hF hl hf e3 e4 hc HR HEn
   go_enter Tryz.func26, Tryz.ntmps26
   go_wp2_with (first | (go_at_call 50; refine (HP.out _).mono ?_; rintro e wq ⟨rfl, hw⟩; rw [hw]; clear hw) | (go_at_call 51; refine (HS.out _).mono ?_; rintro e w1 ⟨rfl, hb1⟩; have x0 := kept10 c0 hb1; have x1 := kept10 c1 hb1; have y0 := frozk10 c0 g0 hb1; have y1 := frozk10 c1 g1 hb1; have BB : Hid (Below w.heap.size w w1) := B0.out.trans (hb1.mono B0.out.size)))
   refine bodyPost_ret (by simp [results, Tryz.results26, go_sem, x0, x1]; try rfl) rfl ?_
   have hr2 := HV.out
   rw [hr2]
   generalize Utf8.encode (n : Int) = zz at *
   exact ⟨rfl, (BB.out.setCell (Nat.le_refl _) _).setCell (Nat.le_refl _) _⟩
  | false =>
   rw [hc] at HS
   have HV : Hid (r = noneT) := by rw [Hid, HR.out, if_neg (by rw [hc]; decide)]; rfl
   clear hr hA eP hF hl hf e3 e4 hc HR HEn
   go_enter Tryz.func26, Tryz.ntmps26
   go_wp2_with (first | (go_at_call 50; refine (HP.out _).mono ?_; rintro e wq ⟨rfl, hw⟩; rw [hw]; clear hw) | (go_at_call 51; refine (HS.out _).mono ?_; rintro e w1 ⟨rfl, hb1⟩; have x0 := kept10 c0 hb1; have x1 := kept10 c1 hb1; have y0 := frozk10 c0 g0 hb1; have y1 := frozk10 c1 g1 hb1; have BB : Hid (Below w.heap.size w w1) := B0.out.trans (hb1.mono B0.out.size)))
   refine bodyPost_ret (by simp [results, Tryz.results26, go_sem, x0, x1]; try rfl) rfl ?_
   have hr2 := HV.out
   rw [hr2]
   exact ⟨rfl, (BB.out.setCell (Nat.le_refl _) _).setCell (Nat.le_refl _) _⟩
theorem readToken_any (n : Nat) (t : ByteArray) (w : World) (hs : t.size ≤ 1048576) (hF : FirstR n t) (r : TokD × Int) (hr : r = resT t) :
  Calls Tryz.prog 13 #[.int .i32 n, .string t] w fun e w' => e = .returned (.tuple #[.agg #[.int .i64 r.1.kind, .string r.1.text], .int .i64 r.2]) ∧ Below w.heap.size w w' := by
 have h0 : 0 < t.size := hF.1
 obtain ⟨hl, hf, hq⟩ := first_let hF h0
 have HL : Hid (∀ W, _) := fun W => letR_any n W
 have HG : Hid (∀ W, _) := fun W => figR_any n W
 have h34 := hq 34 (by decide)
 have h91 := hq 91 (by decide)
 have n34 : (34 : UInt8).toNat = 34 := rfl
 have n91 : (91 : UInt8).toNat = 91 := rfl
 rw [n34] at h34
 rw [n91] at h91
 clear hq n34 n91
 have B0 : Hid (Below w.heap.size w (w.alloc (.cells #[.int .i64 0, .string ⟨#[]⟩] 35))) := (Below.refl _ _).alloc (Nat.le_refl _) _
 have c0 : (w.alloc (.cells #[.int .i64 0, .string ⟨#[]⟩] 35)).cell? ⟨w.heap.size, 0, none⟩ = some (.int .i64 0) := box10 _ _ _ 0 _ rfl
 have c1 : (w.alloc (.cells #[.int .i64 0, .string ⟨#[]⟩] 35)).cell? ⟨w.heap.size, 1, none⟩ = some (.string ⟨#[]⟩) := box10 _ _ _ 1 _ rfl
 have g0 : (w.alloc (.cells #[.int .i64 0, .string ⟨#[]⟩] 35)).frozen? ⟨w.heap.size, 0, none⟩ = false := froz10 _ _ _ 0
 have g1 : (w.alloc (.cells #[.int .i64 0, .string ⟨#[]⟩] 35)).frozen? ⟨w.heap.size, 1, none⟩ = false := froz10 _ _ _ 1
 cases h1 : letT n with
 | true =>
  rw [h1] at HL hl
  have HX : Hid (∀ W, _) := fun W => readName_any t W h0 hs hl.symm r hr
  clear hr hF hl hf h34 h91
  go_enter Tryz.func13, Tryz.ntmps13
  go_wp2_with (first | (go_at_call 20; refine (HL.out _).mono ?_; rintro e wq ⟨rfl, hw⟩; rw [hw]; clear hw) | (go_at_call 21; refine (HX.out _).mono ?_; rintro e w1 ⟨rfl, hb1⟩; have x0 := kept10 c0 hb1; have x1 := kept10 c1 hb1; have y0 := frozk10 c0 g0 hb1; have y1 := frozk10 c1 g1 hb1; have BB : Hid (Below w.heap.size w w1) := B0.out.trans (hb1.mono B0.out.size)))
  refine bodyPost_ret (by simp [results, Tryz.results13, go_sem, x0, x1]; try rfl) rfl ?_
  exact ⟨rfl, (BB.out.setCell (Nat.le_refl _) _).setCell (Nat.le_refl _) _⟩
 | false =>
  rw [h1] at HL hl
  cases h2 : figT n with
  | true =>
   rw [h2] at HG hf
   have HX : Hid (∀ W, _) := fun W => readNum_any t W h0 hs hl.symm hf.symm r hr
   clear hr hF hl hf h34 h91
   go_enter Tryz.func13, Tryz.ntmps13
   go_wp2_with (first | (go_at_call 20; refine (HL.out _).mono ?_; rintro e wq ⟨rfl, hw⟩; rw [hw]; clear hw) | (go_at_call 22; refine (HG.out _).mono ?_; rintro e wq ⟨rfl, hw⟩; rw [hw]; clear hw) | (go_at_call 23; refine (HX.out _).mono ?_; rintro e w1 ⟨rfl, hb1⟩; have x0 := kept10 c0 hb1; have x1 := kept10 c1 hb1; have y0 := frozk10 c0 g0 hb1; have y1 := frozk10 c1 g1 hb1; have BB : Hid (Below w.heap.size w w1) := B0.out.trans (hb1.mono B0.out.size)))
   refine bodyPost_ret (by simp [results, Tryz.results13, go_sem, x0, x1]; try rfl) rfl ?_
   exact ⟨rfl, (BB.out.setCell (Nat.le_refl _) _).setCell (Nat.le_refl _) _⟩
  | false =>
   rw [h2] at HG hf
   by_cases q3 : n = 34
   ·have d3 : ((n : Int) == 34) = true := by rw [beq_iff_eq]; omega
    have HX : Hid (∀ W, _) := fun W => readText_any t W h0 hs (h34.1 q3) r hr
    clear q3 hr hF hl hf h34 h91
    go_enter Tryz.func13, Tryz.ntmps13
    go_wp2_with (first | (go_at_call 20; refine (HL.out _).mono ?_; rintro e wq ⟨rfl, hw⟩; rw [hw]; clear hw) | (go_at_call 22; refine (HG.out _).mono ?_; rintro e wq ⟨rfl, hw⟩; rw [hw]; clear hw) | (go_at_call 24; refine (HX.out _).mono ?_; rintro e w1 ⟨rfl, hb1⟩; have x0 := kept10 c0 hb1; have x1 := kept10 c1 hb1; have y0 := frozk10 c0 g0 hb1; have y1 := frozk10 c1 g1 hb1; have BB : Hid (Below w.heap.size w w1) := B0.out.trans (hb1.mono B0.out.size)))
    refine bodyPost_ret (by simp [results, Tryz.results13, go_sem, x0, x1]; try rfl) rfl ?_
    exact ⟨rfl, (BB.out.setCell (Nat.le_refl _) _).setCell (Nat.le_refl _) _⟩
   ·have d3 : ((n : Int) == 34) = false := by rw [beq_eq_false_iff_ne]; omega
    by_cases q4 : n = 91
    ·have d4 : ((n : Int) == 91) = true := by rw [beq_iff_eq]; omega
     have HX : Hid (∀ W, _) := fun W => readSetT_any t W h0 hs (h91.1 q4) r hr
     clear q3 q4 hr hF hl hf h34 h91
     go_enter Tryz.func13, Tryz.ntmps13
     go_wp2_with (first | (go_at_call 20; refine (HL.out _).mono ?_; rintro e wq ⟨rfl, hw⟩; rw [hw]; clear hw) | (go_at_call 22; refine (HG.out _).mono ?_; rintro e wq ⟨rfl, hw⟩; rw [hw]; clear hw) | (go_at_call 25; refine (HX.out _).mono ?_; rintro e w1 ⟨rfl, hb1⟩; have x0 := kept10 c0 hb1; have x1 := kept10 c1 hb1; have y0 := frozk10 c0 g0 hb1; have y1 := frozk10 c1 g1 hb1; have BB : Hid (Below w.heap.size w w1) := B0.out.trans (hb1.mono B0.out.size)))
     refine bodyPost_ret (by simp [results, Tryz.results13, go_sem, x0, x1]; try rfl) rfl ?_
     exact ⟨rfl, (BB.out.setCell (Nat.le_refl _) _).setCell (Nat.le_refl _) _⟩
    ·have d4 : ((n : Int) == 91) = false := by rw [beq_eq_false_iff_ne]; omega
     have HX : Hid (∀ W, _) := fun W => readSign_any n t W h0 hF hl.symm hf.symm (fun c => q3 (h34.2 c)) (fun c => q4 (h91.2 c)) r hr
     clear q3 q4 hr hF hl hf h34 h91
     go_enter Tryz.func13, Tryz.ntmps13
     go_wp2_with (first | (go_at_call 20; refine (HL.out _).mono ?_; rintro e wq ⟨rfl, hw⟩; rw [hw]; clear hw) | (go_at_call 22; refine (HG.out _).mono ?_; rintro e wq ⟨rfl, hw⟩; rw [hw]; clear hw) | (go_at_call 26; refine (HX.out _).mono ?_; rintro e w1 ⟨rfl, hb1⟩; have x0 := kept10 c0 hb1; have x1 := kept10 c1 hb1; have y0 := frozk10 c0 g0 hb1; have y1 := frozk10 c1 g1 hb1; have BB : Hid (Below w.heap.size w w1) := B0.out.trans (hb1.mono B0.out.size)))
     refine bodyPost_ret (by simp [results, Tryz.results13, go_sem, x0, x1]; try rfl) rfl ?_
     exact ⟨rfl, (BB.out.setCell (Nat.le_refl _) _).setCell (Nat.le_refl _) _⟩
def overB (n : Nat) (t : ByteArray) : Nat := if n = 32 ∨ n = 10 then 1 else if n = 35 then spanN (notB 10) t.data.toList else 0
theorem passed_any (n : Nat) (t : ByteArray) (w : World) (hs : t.size ≤ 1048576) :
  Calls Tryz.prog 12 #[.int .i32 n, .string t] w fun e w' => e = .returned (.int .i64 (overB n t)) ∧ Below w.heap.size w w' := by
 have HU : Hid (∀ W, _) := fun W => upTo_any 10 (by decide) t W hs
 by_cases h32 : n = 32
 ·have HV : Hid (overB n t = 1) := by rw [Hid, overB, if_pos (.inl h32)]
  have d1 : ((n : Int) == 32) = true := by rw [beq_iff_eq]; omega
  clear h32
  go_enter Tryz.func12, Tryz.ntmps12
  go_wp2
  go_ret
  rw [HV.out]
  exact ⟨rfl, Below.refl _ _⟩
 have d1 : ((n : Int) == 32) = false := by rw [beq_eq_false_iff_ne]; omega
 by_cases h10 : n = 10
 ·have HV : Hid (overB n t = 1) := by rw [Hid, overB, if_pos (.inr h10)]
  have d2 : ((n : Int) == 10) = true := by rw [beq_iff_eq]; omega
  clear h32 h10
  go_enter Tryz.func12, Tryz.ntmps12
  go_wp2
  go_ret
  rw [HV.out]
  exact ⟨rfl, Below.refl _ _⟩
 have d2 : ((n : Int) == 10) = false := by rw [beq_eq_false_iff_ne]; omega
 by_cases h35 : n = 35
 ·have HV : Hid (overB n t = spanN (notB 10) t.data.toList) := by rw [Hid, overB, if_neg (by omega), if_pos h35]
  have d3 : ((n : Int) == 35) = true := by rw [beq_iff_eq]; omega
  clear h32 h10 h35
  go_enter Tryz.func12, Tryz.ntmps12
  go_wp2_with (go_at_call 19; refine (HU.out _).mono ?_; rintro e w1 ⟨rfl, hb1⟩)
  go_ret
  rw [HV.out]
  exact ⟨rfl, hb1⟩
 ·have HV : Hid (overB n t = 0) := by rw [Hid, overB, if_neg (by omega), if_neg h35]
  have d3 : ((n : Int) == 35) = false := by rw [beq_eq_false_iff_ne]; omega
  clear h32 h10 h35
  go_enter Tryz.func12, Tryz.ntmps12
  go_wp2
  go_ret
  rw [HV.out]
  exact ⟨rfl, Below.refl _ _⟩
end Go.Proofs.YtccogaoabdpfmaaGreat
