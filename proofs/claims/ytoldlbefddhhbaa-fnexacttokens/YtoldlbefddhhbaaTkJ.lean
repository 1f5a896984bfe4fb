/- The program's readSign, readToken, passedOver (printed by mk/tkj.py). -/
import Derived.Test.YtoldlbefddhhbaaTkH
import Derived.Test.YtoldlbefddhhbaaTkI
namespace Go.Proofs.Ytoldlbefddhhbaa
open Go.RowKit
set_option linter.unusedVariables false

/-- The first rune of what is left, as far as it is asked for. -/
def FirstR (n : Nat) (t : ByteArray) : Prop := ∃ h : 0 < t.size, (t[0].toNat < 128 → n = t[0].toNat) ∧ (128 ≤ t[0].toNat → 128 ≤ n)
theorem first_let {n : Nat} {t : ByteArray} (h : FirstR n t) (h0 : 0 < t.size) : letT n = letT t[0].toNat ∧ figT n = figT t[0].toNat ∧ (∀ c : UInt8, c.toNat < 128 → (n = c.toNat ↔ t[0] = c)) := by
  obtain ⟨_, h1, h2⟩ := h
  by_cases hb : t[0].toNat < 128
  · rw [h1 hb]
    exact ⟨rfl, rfl, fun c hc => ⟨fun e => UInt8.toNat_inj.1 e, fun e => by rw [e]⟩⟩
  · have h3 := h2 (by omega)
    refine ⟨?_, ?_, fun c hc => ⟨fun e => by omega, fun e => by rw [e] at hb; omega⟩⟩
    · have e1 : letT n = false := by simp [letT]; omega
      have e2 : letT t[0].toNat = false := by simp [letT]; omega
      rw [e1, e2]
    · have e1 : figT n = false := by simp [figT]; omega
      have e2 : figT t[0].toNat = false := by simp [figT]; omega
      rw [e1, e2]
theorem pre_arrow {t : ByteArray} (h0 : 0 < t.size) : Lib.hasPrefix t.data.toList [45, 62] = decide (t[0] = 45 ∧ t.data.toList[1]? = some 62) := by
  have e := drop_at h0
  rw [List.drop_zero] at e
  rw [e]
  cases hd : t.data.toList.drop (0 + 1) with
  | nil => simp [Lib.hasPrefix, List.isPrefixOf]
  | cons b l => 
    simp only [Lib.hasPrefix, List.isPrefixOf, List.getElem?_cons_succ, List.getElem?_cons_zero, Option.some.injEq, Bool.and_true]
    rw [Bool.eq_iff_iff, Bool.and_eq_true, beq_iff_eq, beq_iff_eq, decide_eq_true_eq]
    exact ⟨fun h => ⟨h.1.symm, h.2.symm⟩, fun h => ⟨h.1.symm, h.2.symm⟩⟩
theorem signB_first {n : Nat} {t : ByteArray} (h : FirstR n t) (h0 : 0 < t.size) : signB n = signsL.contains t[0] := by
  obtain ⟨_, h1, h2⟩ := h
  by_cases hb : t[0].toNat < 128
  · rw [h1 hb, signB, decide_eq_true hb, UInt8.ofNat_toNat]
    rfl
  · have h3 := h2 (by omega)
    rw [signB, decide_eq_false (by omega), Bool.false_and]
    cases hc : signsL.contains t[0] with
    | false => rfl
    | true =>
      exfalso
      rw [List.contains_iff_mem] at hc
      have : ∀ b ∈ signsL, b.toNat < 128 := by decide
      exact hb (this _ hc)
theorem enc_first {n : Nat} {t : ByteArray} (h : FirstR n t) (h0 : 0 < t.size) (hc : signsL.contains t[0] = true) : Utf8.encode (n : Int) = t.extract 0 (0 + 1) := by
  obtain ⟨_, h1, h2⟩ := h
  have hlow : t[0].toNat < 128 := by
    rw [List.contains_iff_mem] at hc
    have : ∀ b ∈ signsL, b.toNat < 128 := by decide
    exact this _ hc
  rw [h1 hlow, ext_take]
  have e := drop_at h0
  rw [e]
  have hv : Utf8.valid (t[0].toNat : Int) = true := by simp [Utf8.valid]; omega
  unfold Utf8.encode
  simp only [hv, if_true, Int.toNat_natCast, hlow]
  simp [bytesOf]


set_option maxHeartbeats 3200000 in
set_option maxRecDepth 100000 in
theorem readSign_any (n : Nat) (t : ByteArray) (w : World) (h0 : 0 < t.size) (hF : FirstR n t) (hl : letT t[0].toNat = false) (hf : figT t[0].toNat = false) (e3 : ¬ t[0] = 34) (e4 : ¬ t[0] = 91) (r : TokD × Int) (hr : r = resT t) :
    Calls Try.prog 34 #[.int .i32 n, .string t] w fun e w' => e = .returned (.tuple #[.agg #[.int .i64 r.1.kind, .string r.1.text], .int .i64 r.2]) ∧ Below w.heap.size w w' := by
  have HP : Hid (∀ W, _) := fun W => Try.strings_HasPrefix t ⟨#[45, 62]⟩ W
  have eP : Lib.hasPrefix t.data.toList (⟨#[45, 62]⟩ : ByteArray).data.toList = _ := pre_arrow h0
  rw [eP] at HP
  have HS : Hid (∀ W, _) := fun W => contains_any n W
  rw [signB_first hF h0] at HS
  have HEn : Hid (signsL.contains t[0] = true → Utf8.encode (n : Int) = t.extract 0 (0 + 1)) := enc_first hF h0
  unfold signsT at HS
  have B0 : Hid (Below w.heap.size w (w.alloc (.cells #[.int .i64 0, .string ⟨#[]⟩] 32))) := (Below.refl _ _).alloc (Nat.le_refl _) _
  have c0 : (w.alloc (.cells #[.int .i64 0, .string ⟨#[]⟩] 32)).cell? ⟨w.heap.size, 0, none⟩ = some (.int .i64 0) := box10 _ _ _ 0 _ rfl
  have c1 : (w.alloc (.cells #[.int .i64 0, .string ⟨#[]⟩] 32)).cell? ⟨w.heap.size, 1, none⟩ = some (.string ⟨#[]⟩) := box10 _ _ _ 1 _ rfl
  have g0 : (w.alloc (.cells #[.int .i64 0, .string ⟨#[]⟩] 32)).frozen? ⟨w.heap.size, 0, none⟩ = false := froz10 _ _ _ 0
  have g1 : (w.alloc (.cells #[.int .i64 0, .string ⟨#[]⟩] 32)).frozen? ⟨w.heap.size, 1, none⟩ = false := froz10 _ _ _ 1
  by_cases hA : t[0] = 45 ∧ t.data.toList[1]? = some 62
  · have h1 : 0 + 1 < t.size := by
      rcases Nat.lt_or_ge 1 t.size with h | h
      · exact h
      · have := hA.2
        rw [List.getElem?_eq_none (by rw [toList_size]; exact h)] at this
        cases this
    have h62 : t[0 + 1] = 62 := by
      have h5 := at_some h1
      have h6 : t.data.toList[0 + 1]? = some 62 := hA.2
      rw [h6] at h5
      exact (Option.some.inj h5).symm
    have HV : Hid (r = (⟨5, ⟨#[45, 62]⟩⟩, 2)) := by rw [Hid, hr]; exact res_arrow h1 hA.1 h62
    rw [decide_eq_true hA] at HP
    clear hr hA eP h62 h1 hF hl hf e3 e4
    go_enter Try.func34, Try.ntmps34
    go_wp2_with (go_at_call 45; refine (HP.out _).mono ?_; rintro e wq ⟨rfl, hw⟩; rw [hw]; clear hw)
    refine bodyPost_ret (by simp [results, Try.results34, go_sem]; try rfl) rfl ?_
    rw [HV.out]
    first
      | exact ⟨rfl, (B0.out.setCell (Nat.le_refl _) _).setCell (Nat.le_refl _) _⟩
      | exact ⟨rfl, B0.out⟩
      | exact ⟨rfl, (Below.refl _ _).alloc (Nat.le_refl _) _⟩
  · have HR : Hid (_ = _) := hr.trans (res_sign (s := t) (p := 0) h0 hl hf e3 e4 hA)
    rw [decide_eq_false hA] at HP
    cases hc : signsL.contains t[0] with
    | true =>
      rw [hc] at HS
      have HV : Hid (r = (⟨5, Utf8.encode (n : Int)⟩, 1)) := by rw [Hid, HR.out, if_pos hc, HEn.out hc]; rfl
      clear hr hA eP hF hl hf e3 e4 hc HR HEn
      go_enter Try.func34, Try.ntmps34
      go_wp2_with (first | (go_at_call 45; refine (HP.out _).mono ?_; rintro e wq ⟨rfl, hw⟩; rw [hw]; clear hw) | (go_at_call 46; refine (HS.out _).mono ?_; rintro e w1 ⟨rfl, hb1⟩; have x0 := kept10 c0 hb1; have x1 := kept10 c1 hb1; have y0 := frozk10 c0 g0 hb1; have y1 := frozk10 c1 g1 hb1; have BB : Hid (Below w.heap.size w w1) := B0.out.trans (hb1.mono B0.out.size)))
      refine bodyPost_ret (by simp [results, Try.results34, go_sem, x0, x1]; try rfl) rfl ?_
      have hr2 := HV.out
      rw [hr2]
      generalize Utf8.encode (n : Int) = zz at *
      exact ⟨rfl, (BB.out.setCell (Nat.le_refl _) _).setCell (Nat.le_refl _) _⟩
    | false =>
      rw [hc] at HS
      have HV : Hid (r = noneT) := by rw [Hid, HR.out, if_neg (by rw [hc]; decide)]; rfl
      clear hr hA eP hF hl hf e3 e4 hc HR HEn
      go_enter Try.func34, Try.ntmps34
      go_wp2_with (first | (go_at_call 45; refine (HP.out _).mono ?_; rintro e wq ⟨rfl, hw⟩; rw [hw]; clear hw) | (go_at_call 46; refine (HS.out _).mono ?_; rintro e w1 ⟨rfl, hb1⟩; have x0 := kept10 c0 hb1; have x1 := kept10 c1 hb1; have y0 := frozk10 c0 g0 hb1; have y1 := frozk10 c1 g1 hb1; have BB : Hid (Below w.heap.size w w1) := B0.out.trans (hb1.mono B0.out.size)))
      refine bodyPost_ret (by simp [results, Try.results34, go_sem, x0, x1]; try rfl) rfl ?_
      have hr2 := HV.out
      rw [hr2]
      exact ⟨rfl, (BB.out.setCell (Nat.le_refl _) _).setCell (Nat.le_refl _) _⟩


set_option maxHeartbeats 3200000 in
set_option maxRecDepth 100000 in
theorem readToken_any (n : Nat) (t : ByteArray) (w : World) (hs : t.size ≤ 1048576) (hF : FirstR n t) (r : TokD × Int) (hr : r = resT t) :
    Calls Try.prog 14 #[.int .i32 n, .string t] w fun e w' => e = .returned (.tuple #[.agg #[.int .i64 r.1.kind, .string r.1.text], .int .i64 r.2]) ∧ Below w.heap.size w w' := by
  have h0 : 0 < t.size := hF.1
  obtain ⟨hl, hf, hq⟩ := first_let hF h0
  have HL : Hid (∀ W, _) := fun W => letR_any n W
  have HG : Hid (∀ W, _) := fun W => figR_any n W
  have h34 := hq 34 (by decide)
  have h91 := hq 91 (by decide)
  have n34 : (34 : UInt8).toNat = 34 := rfl
  have n91 : (91 : UInt8).toNat = 91 := rfl
  rw [n34] at h34
  rw [n91] at h91
  clear hq n34 n91
  have B0 : Hid (Below w.heap.size w (w.alloc (.cells #[.int .i64 0, .string ⟨#[]⟩] 32))) := (Below.refl _ _).alloc (Nat.le_refl _) _
  have c0 : (w.alloc (.cells #[.int .i64 0, .string ⟨#[]⟩] 32)).cell? ⟨w.heap.size, 0, none⟩ = some (.int .i64 0) := box10 _ _ _ 0 _ rfl
  have c1 : (w.alloc (.cells #[.int .i64 0, .string ⟨#[]⟩] 32)).cell? ⟨w.heap.size, 1, none⟩ = some (.string ⟨#[]⟩) := box10 _ _ _ 1 _ rfl
  have g0 : (w.alloc (.cells #[.int .i64 0, .string ⟨#[]⟩] 32)).frozen? ⟨w.heap.size, 0, none⟩ = false := froz10 _ _ _ 0
  have g1 : (w.alloc (.cells #[.int .i64 0, .string ⟨#[]⟩] 32)).frozen? ⟨w.heap.size, 1, none⟩ = false := froz10 _ _ _ 1
  cases h1 : letT n with
  | true =>
    rw [h1] at HL hl
    have HX : Hid (∀ W, _) := fun W => readName_any t W h0 hs hl.symm r hr
    clear hr hF hl hf h34 h91
    go_enter Try.func14, Try.ntmps14
    go_wp2_with (first | (go_at_call 28; refine (HL.out _).mono ?_; rintro e wq ⟨rfl, hw⟩; rw [hw]; clear hw) | (go_at_call 29; refine (HX.out _).mono ?_; rintro e w1 ⟨rfl, hb1⟩; have x0 := kept10 c0 hb1; have x1 := kept10 c1 hb1; have y0 := frozk10 c0 g0 hb1; have y1 := frozk10 c1 g1 hb1; have BB : Hid (Below w.heap.size w w1) := B0.out.trans (hb1.mono B0.out.size)))
    refine bodyPost_ret (by simp [results, Try.results14, go_sem, x0, x1]; try rfl) rfl ?_
    exact ⟨rfl, (BB.out.setCell (Nat.le_refl _) _).setCell (Nat.le_refl _) _⟩
  | false =>
    rw [h1] at HL hl
    cases h2 : figT n with
    | true =>
      rw [h2] at HG hf
      have HX : Hid (∀ W, _) := fun W => readNum_any t W h0 hs hl.symm hf.symm r hr
      clear hr hF hl hf h34 h91
      go_enter Try.func14, Try.ntmps14
      go_wp2_with (first | (go_at_call 28; refine (HL.out _).mono ?_; rintro e wq ⟨rfl, hw⟩; rw [hw]; clear hw) | (go_at_call 30; refine (HG.out _).mono ?_; rintro e wq ⟨rfl, hw⟩; rw [hw]; clear hw) | (go_at_call 31; refine (HX.out _).mono ?_; rintro e w1 ⟨rfl, hb1⟩; have x0 := kept10 c0 hb1; have x1 := kept10 c1 hb1; have y0 := frozk10 c0 g0 hb1; have y1 := frozk10 c1 g1 hb1; have BB : Hid (Below w.heap.size w w1) := B0.out.trans (hb1.mono B0.out.size)))
      refine bodyPost_ret (by simp [results, Try.results14, go_sem, x0, x1]; try rfl) rfl ?_
      exact ⟨rfl, (BB.out.setCell (Nat.le_refl _) _).setCell (Nat.le_refl _) _⟩
    | false =>
      rw [h2] at HG hf
      by_cases q3 : n = 34
      · have d3 : ((n : Int) == 34) = true := by rw [beq_iff_eq]; omega
        have HX : Hid (∀ W, _) := fun W => readText_any t W h0 hs (h34.1 q3) r hr
        clear q3 hr hF hl hf h34 h91
        go_enter Try.func14, Try.ntmps14
        go_wp2_with (first | (go_at_call 28; refine (HL.out _).mono ?_; rintro e wq ⟨rfl, hw⟩; rw [hw]; clear hw) | (go_at_call 30; refine (HG.out _).mono ?_; rintro e wq ⟨rfl, hw⟩; rw [hw]; clear hw) | (go_at_call 32; refine (HX.out _).mono ?_; rintro e w1 ⟨rfl, hb1⟩; have x0 := kept10 c0 hb1; have x1 := kept10 c1 hb1; have y0 := frozk10 c0 g0 hb1; have y1 := frozk10 c1 g1 hb1; have BB : Hid (Below w.heap.size w w1) := B0.out.trans (hb1.mono B0.out.size)))
        refine bodyPost_ret (by simp [results, Try.results14, go_sem, x0, x1]; try rfl) rfl ?_
        exact ⟨rfl, (BB.out.setCell (Nat.le_refl _) _).setCell (Nat.le_refl _) _⟩
      · have d3 : ((n : Int) == 34) = false := by rw [beq_eq_false_iff_ne]; omega
        by_cases q4 : n = 91
        · have d4 : ((n : Int) == 91) = true := by rw [beq_iff_eq]; omega
          have HX : Hid (∀ W, _) := fun W => readSetT_any t W h0 hs (h91.1 q4) r hr
          clear q3 q4 hr hF hl hf h34 h91
          go_enter Try.func14, Try.ntmps14
          go_wp2_with (first | (go_at_call 28; refine (HL.out _).mono ?_; rintro e wq ⟨rfl, hw⟩; rw [hw]; clear hw) | (go_at_call 30; refine (HG.out _).mono ?_; rintro e wq ⟨rfl, hw⟩; rw [hw]; clear hw) | (go_at_call 33; refine (HX.out _).mono ?_; rintro e w1 ⟨rfl, hb1⟩; have x0 := kept10 c0 hb1; have x1 := kept10 c1 hb1; have y0 := frozk10 c0 g0 hb1; have y1 := frozk10 c1 g1 hb1; have BB : Hid (Below w.heap.size w w1) := B0.out.trans (hb1.mono B0.out.size)))
          refine bodyPost_ret (by simp [results, Try.results14, go_sem, x0, x1]; try rfl) rfl ?_
          exact ⟨rfl, (BB.out.setCell (Nat.le_refl _) _).setCell (Nat.le_refl _) _⟩
        · have d4 : ((n : Int) == 91) = false := by rw [beq_eq_false_iff_ne]; omega
          have HX : Hid (∀ W, _) := fun W => readSign_any n t W h0 hF hl.symm hf.symm (fun c => q3 (h34.2 c)) (fun c => q4 (h91.2 c)) r hr
          clear q3 q4 hr hF hl hf h34 h91
          go_enter Try.func14, Try.ntmps14
          go_wp2_with (first | (go_at_call 28; refine (HL.out _).mono ?_; rintro e wq ⟨rfl, hw⟩; rw [hw]; clear hw) | (go_at_call 30; refine (HG.out _).mono ?_; rintro e wq ⟨rfl, hw⟩; rw [hw]; clear hw) | (go_at_call 34; refine (HX.out _).mono ?_; rintro e w1 ⟨rfl, hb1⟩; have x0 := kept10 c0 hb1; have x1 := kept10 c1 hb1; have y0 := frozk10 c0 g0 hb1; have y1 := frozk10 c1 g1 hb1; have BB : Hid (Below w.heap.size w w1) := B0.out.trans (hb1.mono B0.out.size)))
          refine bodyPost_ret (by simp [results, Try.results14, go_sem, x0, x1]; try rfl) rfl ?_
          exact ⟨rfl, (BB.out.setCell (Nat.le_refl _) _).setCell (Nat.le_refl _) _⟩

/-- How many bytes are passed over. -/
def overB (n : Nat) (t : ByteArray) : Nat := if n = 32 ∨ n = 10 then 1 else if n = 35 then spanN (notB 10) t.data.toList else 0
set_option maxHeartbeats 1600000 in
theorem passed_any (n : Nat) (t : ByteArray) (w : World) (hs : t.size ≤ 1048576) :
    Calls Try.prog 13 #[.int .i32 n, .string t] w fun e w' => e = .returned (.int .i64 (overB n t)) ∧ Below w.heap.size w w' := by
  have HU : Hid (∀ W, _) := fun W => upTo_any 10 (by decide) t W hs
  by_cases h32 : n = 32
  · have HV : Hid (overB n t = 1) := by rw [Hid, overB, if_pos (.inl h32)]
    have d1 : ((n : Int) == 32) = true := by rw [beq_iff_eq]; omega
    clear h32
    go_enter Try.func13, Try.ntmps13
    go_wp2
    go_ret
    rw [HV.out]
    exact ⟨rfl, Below.refl _ _⟩
  have d1 : ((n : Int) == 32) = false := by rw [beq_eq_false_iff_ne]; omega
  by_cases h10 : n = 10
  · have HV : Hid (overB n t = 1) := by rw [Hid, overB, if_pos (.inr h10)]
    have d2 : ((n : Int) == 10) = true := by rw [beq_iff_eq]; omega
    clear h32 h10
    go_enter Try.func13, Try.ntmps13
    go_wp2
    go_ret
    rw [HV.out]
    exact ⟨rfl, Below.refl _ _⟩
  have d2 : ((n : Int) == 10) = false := by rw [beq_eq_false_iff_ne]; omega
  by_cases h35 : n = 35
  · have HV : Hid (overB n t = spanN (notB 10) t.data.toList) := by rw [Hid, overB, if_neg (by omega), if_pos h35]
    have d3 : ((n : Int) == 35) = true := by rw [beq_iff_eq]; omega
    clear h32 h10 h35
    go_enter Try.func13, Try.ntmps13
    go_wp2_with (go_at_call 27; refine (HU.out _).mono ?_; rintro e w1 ⟨rfl, hb1⟩)
    go_ret
    rw [HV.out]
    exact ⟨rfl, hb1⟩
  · have HV : Hid (overB n t = 0) := by rw [Hid, overB, if_neg (by omega), if_neg h35]
    have d3 : ((n : Int) == 35) = false := by rw [beq_eq_false_iff_ne]; omega
    clear h32 h10 h35
    go_enter Try.func13, Try.ntmps13
    go_wp2
    go_ret
    rw [HV.out]
    exact ⟨rfl, Below.refl _ _⟩


end Go.Proofs.Ytoldlbefddhhbaa
