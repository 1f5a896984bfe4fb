/- The program's checkSym. -/
import Derived.Test.YtofpoiccghpliaaGreatDoorICk3
namespace Go.Proofs.YtofpoiccghpliaaGreatDoor
open Go.RowKit

def symI (g : List RuleD) (x : SymD) (known : List ByteArray) : Bool :=
  if x.kind = 1 then text6 x.text && (decide (x.args.length = 0) && decide (x.bind = noS))
  else if x.kind = 2 then okL x.text.data.toList && (decide (x.args.length = 0) && decide (x.bind = noS))
  else if x.kind = 3 then callB g x known && argsB x.args known
  else if x.kind = 4 then decide (x.args.length = 1) && (decide (x.text = noS) && decide (x.bind = noS)) && argsB x.args known
  else false

/-- The loop over Args, ahead of which all else was right. -/
theorem argsB_all (ags : List (List NodeD)) (known : List ByteArray) : argsB ags known = ags.all fun ns => knownB ns known := rfl

set_option maxHeartbeats 6400000 in
set_option maxRecDepth 100000 in
theorem checkSym_any (gv : Value) (g : List RuleD) (r0 : Value) (x : SymD) (u : Value) (known : List ByteArray) (w : World) (hErr : errTy w) (hg : g.length ≤ 1048576) (hx : symTot x ≤ 1048576) (hk : known.length ≤ 1048576)
    (h : RowC 3 RuleE w gv g) (hp0 : ∀ r ∈ g, r.params.length ≤ 1048576) (h1 : RowC 1 ExprE w r0 x.args) (h2 : SRow w u known) :
    Calls Tryz.prog 73 #[.agg #[gv], .agg #[.int .i64 x.kind, .string x.text, r0, .string x.bind], u] w fun e w' => e = okE (symI g x known) ∧ Below w.heap.size w w' := by
  have HTt : symTot x = x.text.size + rowTot exprTot x.args + x.bind.size := rfl
  have hts : x.text.size ≤ 1048576 := by omega
  have hal : x.args.length ≤ 1048576 := Nat.le_trans (rowTot_len exprTot x.args) (by omega)
  have HErr : Hid (errTy w) := hErr
  have HG : Hid (RowC 3 RuleE w gv g) := h
  have HX : Hid (RowC 1 ExprE w r0 x.args) := h1
  have HK : Hid (SRow w u known) := h2
  have HP : Hid (∀ r ∈ g, r.params.length ≤ 1048576) := hp0
  obtain ⟨ag, cg, rfl⟩ := h.slice
  obtain ⟨a0, c0, rfl⟩ := h1.slice
  obtain ⟨ak, ck, rfl⟩ := h2.slice
  clear h h1 h2 hp0 HTt hx hErr
  have B0 : Hid (Below w.heap.size w ((w.alloc (.cells #[.slice ag g.length cg] 30)).alloc (.cells #[.int .i64 x.kind, .string x.text, .slice a0 x.args.length c0, .string x.bind] 66))) := ((Below.refl _ _).alloc (Nat.le_refl _) _).alloc (by simp) _
  have b0 : ((w.alloc (.cells #[.slice ag g.length cg] 30)).alloc (.cells #[.int .i64 x.kind, .string x.text, .slice a0 x.args.length c0, .string x.bind] 66)).cell? ⟨w.heap.size, 0, none⟩ = some (.slice ag g.length cg) := box_two _ _ _ _ _ 0 _ rfl
  have k0 : ((w.alloc (.cells #[.slice ag g.length cg] 30)).alloc (.cells #[.int .i64 x.kind, .string x.text, .slice a0 x.args.length c0, .string x.bind] 66)).cell? ⟨w.heap.size + 1, 0, none⟩ = some (.int .i64 x.kind) := box_two' _ _ _ _ _ 0 _ rfl
  have b1 : ((w.alloc (.cells #[.slice ag g.length cg] 30)).alloc (.cells #[.int .i64 x.kind, .string x.text, .slice a0 x.args.length c0, .string x.bind] 66)).cell? ⟨w.heap.size + 1, 1, none⟩ = some (.string x.text) := box_two' _ _ _ _ _ 1 _ rfl
  have b2 : ((w.alloc (.cells #[.slice ag g.length cg] 30)).alloc (.cells #[.int .i64 x.kind, .string x.text, .slice a0 x.args.length c0, .string x.bind] 66)).cell? ⟨w.heap.size + 1, 2, none⟩ = some (.slice a0 x.args.length c0) := box_two' _ _ _ _ _ 2 _ rfl
  have b3 : ((w.alloc (.cells #[.slice ag g.length cg] 30)).alloc (.cells #[.int .i64 x.kind, .string x.text, .slice a0 x.args.length c0, .string x.bind] 66)).cell? ⟨w.heap.size + 1, 3, none⟩ = some (.string x.bind) := box_two' _ _ _ _ _ 3 _ rfl
  by_cases k1 : x.kind = 1
  · have HB : Hid (symI g x known = (text6 x.text && (decide (x.args.length = 0) && decide (x.bind = noS)))) := by rw [Hid, symI, if_pos k1]
    have q1 : (x.kind == 1) = true := by rw [k1]; rfl
    have HT : Hid (∀ W, _) := fun W => isSymText_any x.text W hts
    clear k1
    have HT2 : Hid (∀ W, Calls Tryz.prog 87 #[.string x.text] W fun e w' => e = .returned (.bool (text6 x.text)) ∧ Below W.heap.size W w') := fun W => (HT.out W).mono (by rintro e w' ⟨rfl, rfl⟩; exact ⟨rfl, Below.refl _ _⟩)
    clear HT
    generalize text6 x.text = tb at *
    go_enter Tryz.func73, Tryz.ntmps73
    go_wp2_with fail
    refine (HT2.out _).mono ?_
    rintro e w1 ⟨rfl, hb1⟩
    have B2 : Hid (Below w.heap.size w w1) := B0.out.trans (hb1.mono B0.out.size)
    have c2 := cell_keep b2 hb1
    have c3 := cell_keep b3 hb1
    clear hb1 B0 b0 k0 b1 b2 b3 HT2
    cases tb with
    | false =>
      go_wp2_with (go_at_call 58; refine (want_no _).mono ?_; rintro e wq ⟨rfl, hw⟩; rw [hw]; clear hw)
      rw [HB.out]
      exact ⟨rfl, rfl, B2.out⟩
    | true =>
      rw [Bool.true_and] at HB
      by_cases ha : x.args.length = 0
      · have a1 : ((x.args.length : Int) == 0) = true := by rw [ha]; rfl
        rw [decide_eq_true ha, Bool.true_and] at HB
        have HAr : Hid (argsB x.args known = true) := by rw [Hid, List.length_eq_zero_iff.1 ha]; rfl
        clear ha
        by_cases hbd : x.bind = noS
        · have e1 := isE_yes hbd
          have HV : Hid (symI g x known = argsB x.args known) := by rw [Hid, HB.out, HAr.out, decide_eq_true hbd]
          clear hbd HB HAr
          go_wp2_with (go_at_call 58; refine (want_yes _).mono ?_; rintro e wq ⟨rfl, hw⟩; rw [hw]; clear hw)
          go_wp2
          go_loopw [69] (fun iv wr => ∃ k : Nat, iv = .int .i64 k ∧ k ≤ x.args.length ∧ (x.args.take k).all (fun ns => knownB ns known) = true ∧ Below w.heap.size w wr) (fun iv _ => x.args.length - (intOf iv).toNat)
          case atStart => exact ⟨0, rfl, Nat.zero_le _, rfl, B2.out⟩
          case round =>
            obtain ⟨k, rfl, hkk, hto, hbw⟩ := hrel
            have HTo : Hid ((x.args.take k).all (fun ns => knownB ns known) = true) := hto
            have BW : Hid (Below w.heap.size w wr) := hbw
            clear hto hbw
            by_cases hlt : k < x.args.length
            · obtain ⟨b, off, vs, rfl, _, hc, hE⟩ := (RowC.below ExprE_stable HX.out BW.out).at hlt
              obtain ⟨e0, rfl, hN⟩ := hE
              have n0 : wr.cell? ⟨b, off + k, none⟩ = some e0 := by have := hc 0 (by simp); simpa using this
              obtain ⟨ae, ce, rfl⟩ := hN.slice
              have i4 : (k : Int) < (x.args.length : Int) := by omega
              have B3 : Hid (Below w.heap.size w (wr.alloc (.cells #[.slice ae x.args[k].length ce] 107))) := BW.out.alloc BW.out.size _
              have b3 : (wr.alloc (.cells #[.slice ae x.args[k].length ce] 107)).cell? ⟨wr.heap.size, 0, none⟩ = some (.slice ae x.args[k].length ce) := box_at _ _ _ 0 _ rfl
              have HC : Hid (∀ _ : Unit, _) := fun _ => checkArg_any (.slice ae x.args[k].length ce) (.slice ak known.length ck) x.args[k] known _ (HErr.out.below B3.out) hk (hN.below ((Below.refl _ _).alloc (Nat.le_refl _) _)) (HK.out.below B3.out)
              clear hc hN
              cases hin : knownB x.args[k] known with
              | false =>
                rw [hin] at HC
                have HV2 : Hid (symI g x known = false) := by rw [Hid, HV.out]; exact all_no hlt hin
                clear hin
                go_wp2_with (go_at_call 90; refine (HC.out ()).mono ?_; rintro e w3 ⟨he, hb3⟩; rw [he, okE_no]; clear he)
                rw [HV2.out]
                exact ⟨rfl, rfl, B3.out.trans (hb3.mono B3.out.size)⟩
              | true =>
                rw [hin] at HC
                have HN : Hid ((x.args.take (k + 1)).all (fun ns => knownB ns known) = true) := all_to hlt HTo.out hin
                clear hin
                go_wp2_with (go_at_call 90; refine (HC.out ()).mono ?_; rintro e w3 ⟨he, hb3⟩; rw [he, okE_yes]; clear he)
                go_roundw
                case rel => exact ⟨k + 1, by go_num, by omega, HN.out, B3.out.trans (hb3.mono B3.out.size)⟩
                case measure => simp [intOf]; omega
            · obtain rfl : k = x.args.length := by omega
              have HV2 : Hid (symI g x known = true) := by
                have := HTo.out
                rw [List.take_of_length_le (Nat.le_refl _)] at this
                rw [Hid, HV.out, argsB_all, this]
              go_wp2
              go_end0
              rw [HV2.out]
              exact ⟨rfl, BW.out⟩
        · have e1 := isE_no hbd
          rw [decide_eq_false hbd] at HB
          clear hbd
          go_wp2_with (first | (go_at_call 58; refine (want_yes _).mono ?_; rintro e wq ⟨rfl, hw⟩; rw [hw]; clear hw) | (go_at_call 58; refine (want_no _).mono ?_; rintro e wq ⟨rfl, hw⟩; rw [hw]; clear hw))
          rw [HB.out]
          exact ⟨rfl, rfl, B2.out⟩
      · have a1 : ((x.args.length : Int) == 0) = false := by simpa using (by omega : (x.args.length : Int) ≠ 0)
        rw [decide_eq_false ha, Bool.false_and] at HB
        clear ha
        go_wp2_with (first | (go_at_call 58; refine (want_yes _).mono ?_; rintro e wq ⟨rfl, hw⟩; rw [hw]; clear hw) | (go_at_call 58; refine (want_no _).mono ?_; rintro e wq ⟨rfl, hw⟩; rw [hw]; clear hw))
        rw [HB.out]
        exact ⟨rfl, rfl, B2.out⟩
  by_cases k2 : x.kind = 2
  · have HB : Hid (symI g x known = (okL x.text.data.toList && (decide (x.args.length = 0) && decide (x.bind = noS)))) := by rw [Hid, symI, if_neg k1, if_pos k2]
    have q1 : (x.kind == 1) = false := by rw [k2]; rfl
    have q2 : (x.kind == 2) = true := by rw [k2]; rfl
    have HT : Hid (∀ W, _) := fun W => implSetOk_any x.text W
    clear k2
    have HT2 : Hid (∀ W, _) := HT.out
    clear HT
    generalize okL x.text.data.toList = tb at *
    go_enter Tryz.func73, Tryz.ntmps73
    go_wp2_with fail
    refine (HT2.out _).mono ?_
    rintro e w1 ⟨rfl, hb1⟩
    have B2 : Hid (Below w.heap.size w w1) := B0.out.trans (hb1.mono B0.out.size)
    have c2 := cell_keep b2 hb1
    have c3 := cell_keep b3 hb1
    clear hb1 B0 b0 k0 b1 b2 b3 HT2
    cases tb with
    | false =>
      go_wp2_with (go_at_call 58; refine (want_no _).mono ?_; rintro e wq ⟨rfl, hw⟩; rw [hw]; clear hw)
      rw [HB.out]
      exact ⟨rfl, rfl, B2.out⟩
    | true =>
      rw [Bool.true_and] at HB
      by_cases ha : x.args.length = 0
      · have a1 : ((x.args.length : Int) == 0) = true := by rw [ha]; rfl
        rw [decide_eq_true ha, Bool.true_and] at HB
        have HAr : Hid (argsB x.args known = true) := by rw [Hid, List.length_eq_zero_iff.1 ha]; rfl
        clear ha
        by_cases hbd : x.bind = noS
        · have e1 := isE_yes hbd
          have HV : Hid (symI g x known = argsB x.args known) := by rw [Hid, HB.out, HAr.out, decide_eq_true hbd]
          clear hbd HB HAr
          go_wp2_with (go_at_call 58; refine (want_yes _).mono ?_; rintro e wq ⟨rfl, hw⟩; rw [hw]; clear hw)
          go_wp2
          go_loopw [69] (fun iv wr => ∃ k : Nat, iv = .int .i64 k ∧ k ≤ x.args.length ∧ (x.args.take k).all (fun ns => knownB ns known) = true ∧ Below w.heap.size w wr) (fun iv _ => x.args.length - (intOf iv).toNat)
          case atStart => exact ⟨0, rfl, Nat.zero_le _, rfl, B2.out⟩
          case round =>
            obtain ⟨k, rfl, hkk, hto, hbw⟩ := hrel
            have HTo : Hid ((x.args.take k).all (fun ns => knownB ns known) = true) := hto
            have BW : Hid (Below w.heap.size w wr) := hbw
            clear hto hbw
            by_cases hlt : k < x.args.length
            · obtain ⟨b, off, vs, rfl, _, hc, hE⟩ := (RowC.below ExprE_stable HX.out BW.out).at hlt
              obtain ⟨e0, rfl, hN⟩ := hE
              have n0 : wr.cell? ⟨b, off + k, none⟩ = some e0 := by have := hc 0 (by simp); simpa using this
              obtain ⟨ae, ce, rfl⟩ := hN.slice
              have i4 : (k : Int) < (x.args.length : Int) := by omega
              have B3 : Hid (Below w.heap.size w (wr.alloc (.cells #[.slice ae x.args[k].length ce] 107))) := BW.out.alloc BW.out.size _
              have b3 : (wr.alloc (.cells #[.slice ae x.args[k].length ce] 107)).cell? ⟨wr.heap.size, 0, none⟩ = some (.slice ae x.args[k].length ce) := box_at _ _ _ 0 _ rfl
              have HC : Hid (∀ _ : Unit, _) := fun _ => checkArg_any (.slice ae x.args[k].length ce) (.slice ak known.length ck) x.args[k] known _ (HErr.out.below B3.out) hk (hN.below ((Below.refl _ _).alloc (Nat.le_refl _) _)) (HK.out.below B3.out)
              clear hc hN
              cases hin : knownB x.args[k] known with
              | false =>
                rw [hin] at HC
                have HV2 : Hid (symI g x known = false) := by rw [Hid, HV.out]; exact all_no hlt hin
                clear hin
                go_wp2_with (go_at_call 90; refine (HC.out ()).mono ?_; rintro e w3 ⟨he, hb3⟩; rw [he, okE_no]; clear he)
                rw [HV2.out]
                exact ⟨rfl, rfl, B3.out.trans (hb3.mono B3.out.size)⟩
              | true =>
                rw [hin] at HC
                have HN : Hid ((x.args.take (k + 1)).all (fun ns => knownB ns known) = true) := all_to hlt HTo.out hin
                clear hin
                go_wp2_with (go_at_call 90; refine (HC.out ()).mono ?_; rintro e w3 ⟨he, hb3⟩; rw [he, okE_yes]; clear he)
                go_roundw
                case rel => exact ⟨k + 1, by go_num, by omega, HN.out, B3.out.trans (hb3.mono B3.out.size)⟩
                case measure => simp [intOf]; omega
            · obtain rfl : k = x.args.length := by omega
              have HV2 : Hid (symI g x known = true) := by
                have := HTo.out
                rw [List.take_of_length_le (Nat.le_refl _)] at this
                rw [Hid, HV.out, argsB_all, this]
              go_wp2
              go_end0
              rw [HV2.out]
              exact ⟨rfl, BW.out⟩
        · have e1 := isE_no hbd
          rw [decide_eq_false hbd] at HB
          clear hbd
          go_wp2_with (first | (go_at_call 58; refine (want_yes _).mono ?_; rintro e wq ⟨rfl, hw⟩; rw [hw]; clear hw) | (go_at_call 58; refine (want_no _).mono ?_; rintro e wq ⟨rfl, hw⟩; rw [hw]; clear hw))
          rw [HB.out]
          exact ⟨rfl, rfl, B2.out⟩
      · have a1 : ((x.args.length : Int) == 0) = false := by simpa using (by omega : (x.args.length : Int) ≠ 0)
        rw [decide_eq_false ha, Bool.false_and] at HB
        clear ha
        go_wp2_with (first | (go_at_call 58; refine (want_yes _).mono ?_; rintro e wq ⟨rfl, hw⟩; rw [hw]; clear hw) | (go_at_call 58; refine (want_no _).mono ?_; rintro e wq ⟨rfl, hw⟩; rw [hw]; clear hw))
        rw [HB.out]
        exact ⟨rfl, rfl, B2.out⟩
  by_cases k3 : x.kind = 3
  · have HB : Hid (symI g x known = (callB g x known && argsB x.args known)) := by rw [Hid, symI, if_neg k1, if_neg k2, if_pos k3]
    have q1 : (x.kind == 1) = false := by rw [k3]; rfl
    have q2 : (x.kind == 2) = false := by rw [k3]; rfl
    have q3 : (x.kind == 3) = true := by rw [k3]; rfl
    clear k3
    have HT : Hid (∀ W, Below w.heap.size w W → _) := fun W hb => checkCall_any (.slice ag g.length cg) g (.slice a0 x.args.length c0) x (.slice ak known.length ck) known W hg hk (RowC.below RuleE_stable HG.out hb) HP.out (RowC.below ExprE_stable HX.out hb) (HK.out.below hb)
    generalize callB g x known = tb at *
    go_enter Tryz.func73, Tryz.ntmps73
    go_wp2_with fail
    refine (HT.out _ B0.out).mono ?_
    rintro e w1 ⟨he, hb1⟩
    have B2 : Hid (Below w.heap.size w w1) := B0.out.trans (hb1.mono B0.out.size)
    have c2 := cell_keep b2 hb1
    clear hb1 B0 b0 k0 b1 b2 b3 HT
    cases tb with
    | false =>
      rw [he, okE_no]
      clear he
      go_wp2
      rw [HB.out]
      exact ⟨rfl, rfl, B2.out⟩
    | true =>
      rw [he, okE_yes]
      clear he
      have HV : Hid (symI g x known = argsB x.args known) := by rw [Hid, HB.out, Bool.true_and]
      clear HB
      go_wp2
      go_loopw [69] (fun iv wr => ∃ k : Nat, iv = .int .i64 k ∧ k ≤ x.args.length ∧ (x.args.take k).all (fun ns => knownB ns known) = true ∧ Below w.heap.size w wr) (fun iv _ => x.args.length - (intOf iv).toNat)
      case atStart => exact ⟨0, rfl, Nat.zero_le _, rfl, B2.out⟩
      case round =>
        obtain ⟨k, rfl, hkk, hto, hbw⟩ := hrel
        have HTo : Hid ((x.args.take k).all (fun ns => knownB ns known) = true) := hto
        have BW : Hid (Below w.heap.size w wr) := hbw
        clear hto hbw
        by_cases hlt : k < x.args.length
        · obtain ⟨b, off, vs, rfl, _, hc, hE⟩ := (RowC.below ExprE_stable HX.out BW.out).at hlt
          obtain ⟨e0, rfl, hN⟩ := hE
          have n0 : wr.cell? ⟨b, off + k, none⟩ = some e0 := by have := hc 0 (by simp); simpa using this
          obtain ⟨ae, ce, rfl⟩ := hN.slice
          have i4 : (k : Int) < (x.args.length : Int) := by omega
          have B3 : Hid (Below w.heap.size w (wr.alloc (.cells #[.slice ae x.args[k].length ce] 107))) := BW.out.alloc BW.out.size _
          have b3 : (wr.alloc (.cells #[.slice ae x.args[k].length ce] 107)).cell? ⟨wr.heap.size, 0, none⟩ = some (.slice ae x.args[k].length ce) := box_at _ _ _ 0 _ rfl
          have HC : Hid (∀ _ : Unit, _) := fun _ => checkArg_any (.slice ae x.args[k].length ce) (.slice ak known.length ck) x.args[k] known _ (HErr.out.below B3.out) hk (hN.below ((Below.refl _ _).alloc (Nat.le_refl _) _)) (HK.out.below B3.out)
          clear hc hN
          cases hin : knownB x.args[k] known with
          | false =>
            rw [hin] at HC
            have HV2 : Hid (symI g x known = false) := by rw [Hid, HV.out]; exact all_no hlt hin
            clear hin
            go_wp2_with (go_at_call 90; refine (HC.out ()).mono ?_; rintro e w3 ⟨he, hb3⟩; rw [he, okE_no]; clear he)
            rw [HV2.out]
            exact ⟨rfl, rfl, B3.out.trans (hb3.mono B3.out.size)⟩
          | true =>
            rw [hin] at HC
            have HN : Hid ((x.args.take (k + 1)).all (fun ns => knownB ns known) = true) := all_to hlt HTo.out hin
            clear hin
            go_wp2_with (go_at_call 90; refine (HC.out ()).mono ?_; rintro e w3 ⟨he, hb3⟩; rw [he, okE_yes]; clear he)
            go_roundw
            case rel => exact ⟨k + 1, by go_num, by omega, HN.out, B3.out.trans (hb3.mono B3.out.size)⟩
            case measure => simp [intOf]; omega
        · obtain rfl : k = x.args.length := by omega
          have HV2 : Hid (symI g x known = true) := by
            have := HTo.out
            rw [List.take_of_length_le (Nat.le_refl _)] at this
            rw [Hid, HV.out, argsB_all, this]
          go_wp2
          go_end0
          rw [HV2.out]
          exact ⟨rfl, BW.out⟩
  by_cases k4 : x.kind = 4
  · have HB : Hid (symI g x known = (decide (x.args.length = 1) && (decide (x.text = noS) && decide (x.bind = noS)) && argsB x.args known)) := by rw [Hid, symI, if_neg k1, if_neg k2, if_neg k3, if_pos k4]
    have q1 : (x.kind == 1) = false := by rw [k4]; rfl
    have q2 : (x.kind == 2) = false := by rw [k4]; rfl
    have q3 : (x.kind == 3) = false := by rw [k4]; rfl
    have q4 : (x.kind == 4) = true := by rw [k4]; rfl
    clear k4
    have B2 := B0
    by_cases ha : x.args.length = 1
    · have a1 : ((x.args.length : Int) == 1) = true := by rw [ha]; rfl
      rw [decide_eq_true ha, Bool.true_and] at HB
      clear ha
      by_cases htx : x.text = noS
      · have e0 := isE_yes htx
        rw [decide_eq_true htx, Bool.true_and] at HB
        clear htx
        by_cases hbd : x.bind = noS
        · have e1 := isE_yes hbd
          have HV : Hid (symI g x known = argsB x.args known) := by rw [Hid, HB.out, decide_eq_true hbd, Bool.true_and]
          clear hbd HB
          go_enter Tryz.func73, Tryz.ntmps73
          go_wp2_with (go_at_call 58; refine (want_yes _).mono ?_; rintro e wq ⟨rfl, hw⟩; rw [hw]; clear hw)
          go_wp2
          go_loopw [69] (fun iv wr => ∃ k : Nat, iv = .int .i64 k ∧ k ≤ x.args.length ∧ (x.args.take k).all (fun ns => knownB ns known) = true ∧ Below w.heap.size w wr) (fun iv _ => x.args.length - (intOf iv).toNat)
          case atStart => exact ⟨0, rfl, Nat.zero_le _, rfl, B2.out⟩
          case round =>
            obtain ⟨k, rfl, hkk, hto, hbw⟩ := hrel
            have HTo : Hid ((x.args.take k).all (fun ns => knownB ns known) = true) := hto
            have BW : Hid (Below w.heap.size w wr) := hbw
            clear hto hbw
            by_cases hlt : k < x.args.length
            · obtain ⟨b, off, vs, rfl, _, hc, hE⟩ := (RowC.below ExprE_stable HX.out BW.out).at hlt
              obtain ⟨e0, rfl, hN⟩ := hE
              have n0 : wr.cell? ⟨b, off + k, none⟩ = some e0 := by have := hc 0 (by simp); simpa using this
              obtain ⟨ae, ce, rfl⟩ := hN.slice
              have i4 : (k : Int) < (x.args.length : Int) := by omega
              have B3 : Hid (Below w.heap.size w (wr.alloc (.cells #[.slice ae x.args[k].length ce] 107))) := BW.out.alloc BW.out.size _
              have b3 : (wr.alloc (.cells #[.slice ae x.args[k].length ce] 107)).cell? ⟨wr.heap.size, 0, none⟩ = some (.slice ae x.args[k].length ce) := box_at _ _ _ 0 _ rfl
              have HC : Hid (∀ _ : Unit, _) := fun _ => checkArg_any (.slice ae x.args[k].length ce) (.slice ak known.length ck) x.args[k] known _ (HErr.out.below B3.out) hk (hN.below ((Below.refl _ _).alloc (Nat.le_refl _) _)) (HK.out.below B3.out)
              clear hc hN
              cases hin : knownB x.args[k] known with
              | false =>
                rw [hin] at HC
                have HV2 : Hid (symI g x known = false) := by rw [Hid, HV.out]; exact all_no hlt hin
                clear hin
                go_wp2_with (go_at_call 90; refine (HC.out ()).mono ?_; rintro e w3 ⟨he, hb3⟩; rw [he, okE_no]; clear he)
                rw [HV2.out]
                exact ⟨rfl, rfl, B3.out.trans (hb3.mono B3.out.size)⟩
              | true =>
                rw [hin] at HC
                have HN : Hid ((x.args.take (k + 1)).all (fun ns => knownB ns known) = true) := all_to hlt HTo.out hin
                clear hin
                go_wp2_with (go_at_call 90; refine (HC.out ()).mono ?_; rintro e w3 ⟨he, hb3⟩; rw [he, okE_yes]; clear he)
                go_roundw
                case rel => exact ⟨k + 1, by go_num, by omega, HN.out, B3.out.trans (hb3.mono B3.out.size)⟩
                case measure => simp [intOf]; omega
            · obtain rfl : k = x.args.length := by omega
              have HV2 : Hid (symI g x known = true) := by
                have := HTo.out
                rw [List.take_of_length_le (Nat.le_refl _)] at this
                rw [Hid, HV.out, argsB_all, this]
              go_wp2
              go_end0
              rw [HV2.out]
              exact ⟨rfl, BW.out⟩
        · have e1 := isE_no hbd
          rw [decide_eq_false hbd, Bool.false_and] at HB
          clear hbd
          go_enter Tryz.func73, Tryz.ntmps73
          go_wp2_with (first | (go_at_call 58; refine (want_yes _).mono ?_; rintro e wq ⟨rfl, hw⟩; rw [hw]; clear hw) | (go_at_call 58; refine (want_no _).mono ?_; rintro e wq ⟨rfl, hw⟩; rw [hw]; clear hw))
          rw [HB.out]
          exact ⟨rfl, rfl, B2.out⟩
      · have e0 := isE_no htx
        rw [decide_eq_false htx, Bool.false_and, Bool.false_and] at HB
        clear htx
        go_enter Tryz.func73, Tryz.ntmps73
        go_wp2_with (first | (go_at_call 58; refine (want_yes _).mono ?_; rintro e wq ⟨rfl, hw⟩; rw [hw]; clear hw) | (go_at_call 58; refine (want_no _).mono ?_; rintro e wq ⟨rfl, hw⟩; rw [hw]; clear hw))
        rw [HB.out]
        exact ⟨rfl, rfl, B2.out⟩
    · have a1 : ((x.args.length : Int) == 1) = false := by simpa using (by omega : (x.args.length : Int) ≠ 1)
      rw [decide_eq_false ha, Bool.false_and, Bool.false_and] at HB
      clear ha
      go_enter Tryz.func73, Tryz.ntmps73
      go_wp2_with (first | (go_at_call 58; refine (want_yes _).mono ?_; rintro e wq ⟨rfl, hw⟩; rw [hw]; clear hw) | (go_at_call 58; refine (want_no _).mono ?_; rintro e wq ⟨rfl, hw⟩; rw [hw]; clear hw))
      rw [HB.out]
      exact ⟨rfl, rfl, B2.out⟩
  have HB : Hid (symI g x known = false) := by rw [Hid, symI, if_neg k1, if_neg k2, if_neg k3, if_neg k4]
  have q1 : (x.kind == 1) = false := by simpa using k1
  have q2 : (x.kind == 2) = false := by simpa using k2
  have q3 : (x.kind == 3) = false := by simpa using k3
  have q4 : (x.kind == 4) = false := by simpa using k4
  go_enter Tryz.func73, Tryz.ntmps73
  go_wp2
  rw [HB.out]
  exact ⟨rfl, rfl, B0.out⟩

end Go.Proofs.YtofpoiccghpliaaGreatDoor
