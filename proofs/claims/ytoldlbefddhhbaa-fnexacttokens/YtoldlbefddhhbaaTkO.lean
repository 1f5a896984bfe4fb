/- The program's Tokens. -/
import Derived.Test.YtoldlbefddhhbaaTkN
import Derived.Test.YtoldlbefddhhbaaTkT
namespace Go.Proofs.Ytoldlbefddhhbaa
open Go.RowKit
set_option linter.unusedVariables false

set_option maxHeartbeats 6400000 in
set_option maxRecDepth 100000 in
theorem implTokens_any (s : ByteArray) (hs : s.size ≤ 1048576) : TokensC 6 s := by
  intro w
  obtain ⟨i0, hi, hz0, hz1, hz2⟩ := info_parts Try.infoTok
  have B0 : Hid (Below w.heap.size w (w.alloc (.cells #[] 32))) := (Below.refl _ _).alloc (Nat.le_refl _) _
  have O0 : Hid (TokO w.heap.size (.slice (some ⟨w.heap.size, 0, none⟩) 0 0) [] (w.alloc (.cells #[] 32))) := RowO.made (Nat.le_refl _)
  by_cases h600 : 600 < s.size
  · have HV : Hid (tokensB s = ([], 601)) := by rw [Hid, tokensB, if_pos h600]
    have d1 : (600 : Int) < (s.size : Int) := by omega
    go_enter Try.func6, Try.ntmps6
    go_wp2
    go_ret2
    rw [HV.out]
    exact ⟨_, rfl, O0.out, B0.out⟩
  have HT : Hid (tokensB s = toks10 s.size (s.size + 1) [] s.data.toList) := by rw [Hid, tokensB, if_neg h600]
  have d1 : ¬ (600 : Int) < (s.size : Int) := by omega
  have BI : Hid (Below w.heap.size w ((w.alloc (.cells #[] 32)).alloc (.stringIter s 0))) := B0.out.alloc (by simp) _
  have OI : Hid (TokO w.heap.size (.slice (some ⟨w.heap.size, 0, none⟩) 0 0) [] ((w.alloc (.cells #[] 32)).alloc (.stringIter s 0))) := TokO.below O0.out ((Below.refl _ _).alloc (Nat.le_refl _) _)
  have II : Hid (((w.alloc (.cells #[] 32)).alloc (.stringIter s 0)).heap[w.heap.size + 1]? = some (.stringIter s 0)) := by
    have := World.iter_heap (w.alloc (.cells #[] 32)) s 0
    rwa [show (w.alloc (.cells #[] 32)).heap.size = w.heap.size + 1 by simp] at this
  clear B0 O0
  go_enter Try.func6, Try.ntmps6
  go_wp2
  go_loopw [4, 5] (fun ov bv wr => ∃ (pos q f : Nat) (ts : List TokD), bv = .int .i64 q ∧ wr.heap[w.heap.size + 1]? = some (.stringIter s pos) ∧ pos ≤ q ∧ q ≤ s.size ∧ s.size < f + q ∧ (pos = q ∨ Bd s q) ∧ ts.length ≤ 200 ∧ toks10 s.size f ts (s.data.toList.drop q) = toks10 s.size (s.size + 1) [] s.data.toList ∧ TokO w.heap.size ov ts wr ∧ Below w.heap.size w wr) (fun _ _ wr => s.size - wr.iterPos (w.heap.size + 1))
  case atStart => exact ⟨0, 0, s.size + 1, [], rfl, II.out, Nat.le_refl _, Nat.zero_le _, by omega, .inl rfl, by simp, rfl, OI.out, BI.out⟩
  case round =>
    obtain ⟨pos, q, f, ts, rfl, hit, hpq, hq, hf, hbd, hl2, hF, hO, hb⟩ := hrel
    clear II OI BI
    have HF : Hid (toks10 s.size f ts (s.data.toList.drop q) = toks10 s.size (s.size + 1) [] s.data.toList) := hF
    have hpos0 := iterPos_of hit
    have HP0 : Hid (wr.iterPos (w.heap.size + 1) = pos) := hpos0
    obtain ⟨ao, co, rfl⟩ := RowO.slice hO
    clear hF hpos0
    by_cases hp : pos < s.size
    · have hnx : ∀ ty, (Instr.next (.pointer (some ⟨w.heap.size + 1, 0, none⟩)) true ty).run Try.prog wr = _ := fun ty => Lib.run_next_any_at wr (w.heap.size + 1) s pos ty hit hp
      have HIt : Hid ((wr.iterAt (w.heap.size + 1) s (pos + (Utf8.decode s pos).2)).heap[w.heap.size + 1]? = some (.stringIter s (pos + (Utf8.decode s pos).2))) := Lib.iterAt_heap wr (w.heap.size + 1) s pos (pos + (Utf8.decode s pos).2) hit
      have HB : Hid (Below w.heap.size w (wr.iterAt (w.heap.size + 1) s (pos + (Utf8.decode s pos).2))) := Lib.below_iterAt hb (k := w.heap.size + 1) (by omega) s (pos + (Utf8.decode s pos).2)
      have HO : Hid (TokO w.heap.size (.slice ao ts.length co) ts (wr.iterAt (w.heap.size + 1) s (pos + (Utf8.decode s pos).2))) := TokO.iterAt hO hit _
      clear hO hb hit
      by_cases hlt : pos < q
      · have hst := bd_step hp hlt hq (hbd.resolve_left (by omega))
        have i4 : (pos : Int) < (q : Int) := by omega
        generalize wr.iterAt (w.heap.size + 1) s (pos + (Utf8.decode s pos).2) = W1 at *
        generalize (Utf8.decode s pos).1 = n at *
        generalize (Utf8.decode s pos).2 = wd at *
        go_wp2
        go_roundw
        case rel => exact ⟨pos + wd, q, f, ts, rfl, HIt.out, hst.2, hq, hf, hbd.imp (fun h => by omega) id, hl2, HF.out, HO.out, HB.out⟩
        case measure => rw [iterPos_of HIt.out, HP0.out]; omega
      obtain rfl : pos = q := by omega
      clear hlt hpq hbd
      obtain ⟨f, rfl⟩ : ∃ f', f = f' + 1 := ⟨f - 1, by omega⟩
      have i4 : ¬ (pos : Int) < (pos : Int) := by omega
      have hrz : (restT s pos).size ≤ 1048576 := by rw [restT_size]; omega
      have hsl : ∀ W : World, (Instr.slice 9 (.string s) (some (.int .i64 (pos : Int))) none none).run Try.prog W = .ok (.string (restT s pos)) W := fun W => by
        rw [run_slice_string_from_if W 9 s .i64 (pos : Int) Try.underlying9, if_pos ⟨by omega, by omega⟩]
        rfl
      have HPa : Hid (∀ W, _) := fun W => passed_any (Utf8.decode s pos).1 (restT s pos) W hrz
      have HStep : Hid (∀ k, pos < k → k ≤ s.size → Bd s k → 1 ≤ (Utf8.decode s pos).2 ∧ pos + (Utf8.decode s pos).2 ≤ k) := fun k h1 h2 h3 => bd_step hp h1 h2 h3
      by_cases hov : 0 < overB (Utf8.decode s pos).1 (restT s pos)
      · obtain ⟨hN, hN2, hN3⟩ := over_step (f := f) (ts := ts) hp hov
        rw [HF.out] at hN
        have HN : Hid (_ = _) := hN
        have hst := HStep.out _ (by omega) hN2 hN3
        have HBd : Hid (Bd s (pos + overB (Utf8.decode s pos).1 (restT s pos))) := hN3
        clear hN hN3 HStep
        generalize wr.iterAt (w.heap.size + 1) s (pos + (Utf8.decode s pos).2) = W1 at *
        generalize overB (Utf8.decode s pos).1 (restT s pos) = ov at *
        generalize (Utf8.decode s pos).1 = n at *
        generalize (Utf8.decode s pos).2 = wd at *
        have i5 : (0 : Int) < (ov : Int) := by omega
        have w5 : IntKind.i64.wrap ((pos : Int) + (ov : Int)) = (pos : Int) + (ov : Int) := by rw [IntKind.wrap_i64]; omega
        go_wp2_with (go_at_call 13; refine (HPa.out _).mono ?_; rintro e w1 ⟨rfl, hb1⟩)
        have R0 : Hid (w1.heap[w.heap.size + 1]? = some (.stringIter s (pos + wd))) := iter_below HIt.out hb1
        have R1 : Hid (TokO w.heap.size (.slice ao ts.length co) ts w1) := TokO.below HO.out hb1
        have R2 : Hid (Below w.heap.size w w1) := HB.out.trans (hb1.mono HB.out.size)
        clear hb1
        (try go_wp2)
        go_roundw
        case rel => exact ⟨pos + wd, pos + ov, f, ts, by first | rfl | go_num, R0.out, hst.2, hN2, by omega, .inr HBd.out, hl2, HN.out.symm, R1.out, R2.out⟩
        case measure => rw [iterPos_of R0.out, HP0.out]; omega
      have hov0 : overB (Utf8.decode s pos).1 (restT s pos) = 0 := by omega
      have hA := over_none (f := f) (ts := ts) hp hov0
      rw [HF.out] at hA
      have HA : Hid (_ = _) := hA
      obtain ⟨r, hr⟩ : ∃ r, r = resT (restT s pos) := ⟨_, rfl⟩
      have HRt : Hid (∀ W, _) := fun W => readToken_any (Utf8.decode s pos).1 (restT s pos) W hrz (restT_first hp) r hr
      have HRr : Hid (r = res10 (s.data.toList.drop pos) 0) := hr.trans rest_res
      have wp1 : IntKind.i64.wrap ((pos : Int) + 1) = (pos : Int) + 1 := by rw [IntKind.wrap_i64]; omega
      rw [hov0] at HPa
      clear hr hA hov hov0
      cases ho : one10 (s.data.toList.drop pos) with
      | none =>
        rw [ho] at HA
        have hr2 : r.2 = 0 := by rw [HRr.out, res10, ho]
        have HV : Hid (tokensB s = ([], (pos : Int) + 1)) := by rw [Hid, HT.out]; exact HA.out
        have q0 : (r.2 == 0) = true := by rw [beq_iff_eq]; exact hr2
        clear ho hr2 HStep HRr
        generalize wr.iterAt (w.heap.size + 1) s (pos + (Utf8.decode s pos).2) = W1 at *
        generalize (Utf8.decode s pos).1 = n at *
        generalize (Utf8.decode s pos).2 = wd at *
        go_wp2_with fail
        refine (HPa.out _).mono ?_
        rintro e w1 ⟨rfl, hb1⟩
        have B1 : Hid (Below w.heap.size w w1) := HB.out.trans (hb1.mono HB.out.size)
        clear hb1
        go_wp2_with fail
        refine (HRt.out _).mono ?_
        rintro e w2 ⟨rfl, hb2⟩
        have B2 : Hid (Below w.heap.size w w2) := B1.out.trans (hb2.mono B1.out.size)
        clear hb2
        (try go_wp2)
        go_ret2
        rw [HV.out]
        exact ⟨_, rfl, tok_made w2 _ B2.out.size, (B2.out.alloc B2.out.size _).alloc (by have := B2.out.size; simp; omega) _⟩
      | some tk =>
        obtain ⟨t, k⟩ := tk
        rw [ho] at HA
        obtain ⟨hk1, hk2, hk3⟩ := bd_token ho
        obtain rfl : r = (t, ((0 + k : Nat) : Int)) := by rw [HRr.out, res10, ho]
        rw [show ((0 + k : Nat) : Int) = (k : Int) by omega] at HRt
        have q0 : ((k : Int) == 0) = false := by rw [beq_eq_false_iff_ne]; omega
        have hst := HStep.out _ (by omega) hk2 hk3
        have HBd : Hid (Bd s (pos + k)) := hk3
        clear ho HRr hk3 HStep
        generalize wr.iterAt (w.heap.size + 1) s (pos + (Utf8.decode s pos).2) = W1 at *
        generalize (Utf8.decode s pos).1 = n at *
        generalize (Utf8.decode s pos).2 = wd at *
        by_cases hfull : ts.length = 200
        · have HV : Hid (tokensB s = ([], (pos : Int) + 1)) := by
            rw [Hid, HT.out, HA.out]
            simp only [if_pos hfull]
          have q200 : ((ts.length : Int) == 200) = true := by rw [beq_iff_eq]; omega
          clear hfull
          go_wp2_with fail
          refine (HPa.out _).mono ?_
          rintro e w1 ⟨rfl, hb1⟩
          have B1 : Hid (Below w.heap.size w w1) := HB.out.trans (hb1.mono HB.out.size)
          clear hb1
          go_wp2_with fail
          refine (HRt.out _).mono ?_
          rintro e w2 ⟨rfl, hb2⟩
          have B2 : Hid (Below w.heap.size w w2) := B1.out.trans (hb2.mono B1.out.size)
          clear hb2
          (try go_wp2)
          go_ret2
          rw [HV.out]
          exact ⟨_, rfl, tok_made w2 _ B2.out.size, (B2.out.alloc B2.out.size _).alloc (by have := B2.out.size; simp; omega) _⟩
        · have HN : Hid (toks10 s.size f (ts ++ [t]) (s.data.toList.drop (pos + k)) = toks10 s.size (s.size + 1) [] s.data.toList) := by
            rw [Hid, HA.out]
            simp only [if_neg hfull]
          have q200 : ((ts.length : Int) == 200) = false := by rw [beq_eq_false_iff_ne]; omega
          have w5 : IntKind.i64.wrap ((pos : Int) + (k : Int)) = (pos : Int) + (k : Int) := by rw [IntKind.wrap_i64]; omega
          have hl3 : ts.length < 200 := by omega
          clear hfull
          go_wp2_with fail
          refine (HPa.out _).mono ?_
          rintro e w0 ⟨rfl, hb0⟩
          have I0 : Hid (w0.heap[w.heap.size + 1]? = some (.stringIter s (pos + wd))) := iter_below HIt.out hb0
          have O1 : Hid (TokO w.heap.size (.slice ao ts.length co) ts w0) := TokO.below HO.out hb0
          have B0 : Hid (Below w.heap.size w w0) := HB.out.trans (hb0.mono HB.out.size)
          clear hb0 HO HB HIt
          go_wp2_with fail
          refine (HRt.out _).mono ?_
          rintro e w1 ⟨rfl, hb1⟩
          have b0 := box10 w1 #[.int .i64 t.kind, .string t.text] 32 0 _ rfl
          have b1 := box10 w1 #[.int .i64 t.kind, .string t.text] 32 1 _ rfl
          have bal : Hid (Below w1.heap.size w1 (w1.alloc (.cells #[.int .i64 t.kind, .string t.text] 32))) := (Below.refl _ _).alloc (Nat.le_refl _) _
          have B1 : Hid (Below w.heap.size w w1) := B0.out.trans (hb1.mono B0.out.size)
          have B2 : Hid (Below w.heap.size w (w1.alloc (.cells #[.int .i64 t.kind, .string t.text] 32))) := B1.out.trans (bal.out.mono B1.out.size)
          have O2 : Hid (TokO w.heap.size (.slice ao ts.length co) ts (w1.alloc (.cells #[.int .i64 t.kind, .string t.text] 32))) := TokO.below (TokO.below O1.out hb1) bal.out
          have I2 : Hid ((w1.alloc (.cells #[.int .i64 t.kind, .string t.text] 32)).heap[w.heap.size + 1]? = some (.stringIter s (pos + wd))) := iter_below (iter_below I0.out hb1) bal.out
          have HLt : Hid (∀ k, (Value.slice ao ts.length co).ownBlock = some k → w.heap.size ≤ k) := fun k hk => (RowO.lt O2.out k hk).1
          have HNe : Hid (∀ k, (Value.slice ao ts.length co).ownBlock = some k → k ≠ w.heap.size + 1) := fun k hk e => by
            obtain ⟨cur, hcur⟩ := RowO.type O2.out hk
            rw [e, I2.out] at hcur
            cases hcur
          obtain ⟨cs, hcs, hsn⟩ := RowO.snoc O2.out
          have HC : Hid _ := hcs
          have HSn : Hid _ := hsn
          have hsz2 := B2.out.size
          clear hcs hsn hb1 bal B1 B0 O1 I0
          go_wp2_with (at_builtin; refine wpList_append_own _ rfl _ _ 22 rfl w.heap.size 32 i0 _ 2 24 Try.underlying22 hi hz0 hz1 hz2 rfl (by decide) _ _ _ rfl (World.ownsRow.alloc HC.out _) ⟨_, 0, none⟩ 1 1 [.int .i64 t.kind, .string t.text] rfl rfl (tok_at2 _ _ _ _ _) (tok_cells _ _) (by unfold maxLen; omega) (by omega) (by have h8 := B2.out.size; simp at h8 ⊢; omega) ?_)
          intro v' w3 hown3 hgrow _
          have R1 : Hid (TokO w.heap.size v' (ts ++ [t]) w3) := HSn.out v' w3 _ t rfl hown3 (fun _ _ h => h) rfl
          have R2 : Hid (Below w.heap.size w w3) := (B2.out.alloc B2.out.size _).grown hgrow (by have := B2.out.size; simp at this ⊢; omega) HLt.out
          have R0 : Hid (w3.heap[w.heap.size + 1]? = some (.stringIter s (pos + wd))) := by
            have hlt := (Array.getElem?_eq_some_iff.1 I2.out).1
            rw [Hid, hgrow.block (w.heap.size + 1) (by simp at hlt ⊢; omega) (fun h => HNe.out _ h.symm rfl)]
            rw [Below.heap_alloc _ _ _ hlt]
            exact I2.out
          clear hown3 hgrow
          go_wp2
          go_roundw
          case rel => exact ⟨pos + wd, pos + k, f, ts ++ [t], by first | rfl | go_num, R0.out, hst.2, hk2, by omega, .inr HBd.out, by simp; omega, HN.out, R1.out, R2.out⟩
          case measure => rw [iterPos_of R0.out, HP0.out]; omega
    · have hnx : ∀ ty, (Instr.next (.pointer (some ⟨w.heap.size + 1, 0, none⟩)) true ty).run Try.prog wr = _ := fun ty => Lib.run_next_end_at wr (w.heap.size + 1) s pos ty hit hp
      obtain rfl : q = s.size := by omega
      have HV : Hid (tokensB s = (ts, 0)) := by
        rw [Hid, HT.out, ← HF.out, List.drop_of_length_le (by rw [toList_size]; exact Nat.le_refl _), toks_nil]
      have HO : Hid (TokO w.heap.size (.slice ao ts.length co) ts wr) := hO
      clear hO
      go_wp2
      go_ret2
      rw [HV.out]
      exact ⟨_, rfl, HO.out, hb⟩

end Go.Proofs.Ytoldlbefddhhbaa
