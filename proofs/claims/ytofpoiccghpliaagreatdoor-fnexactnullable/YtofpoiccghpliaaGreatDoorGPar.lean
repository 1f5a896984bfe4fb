/- The specification's l06Sym (printed by mk/gsym.py). -/
/- The specification's l06Params. -/
import Derived.Test.YtofpoiccghpliaaGreatDoorGOk1
import Derived.Deep.RegionHeld3
import Derived.Deep.RegionLaw
namespace Go.Proofs.YtofpoiccghpliaaGreatDoor
open Go.RowKit

def noS : ByteArray := ⟨#[]⟩
theorem noS_list : noS.toList = [] := by rw [noS, ByteArray.toList, ByteArray.toList.loop]; rfl
theorem isE_yes {s : ByteArray} (h : s = noS) : s.toList.isEmpty = true := by rw [h, noS_list]; rfl
theorem isE_no {s : ByteArray} (h : ¬ s = noS) : s.toList.isEmpty = false := by
  have hb := beq_no h
  rw [noS_list] at hb
  cases hl : s.toList with
  | nil => rw [hl] at hb; cases hb
  | cons a l => rfl
/-- Whether a sym is right, and what is known behind it. -/
def symB (x : SymD) (known : List ByteArray) (params : Int) : List ByteArray × Bool :=
  if x.kind = 1 then (known, text6 x.text && decide (x.args.length = 0) && decide (x.bind = noS))
  else if x.kind = 2 then (known, okL x.text.data.toList && decide (x.args.length = 0) && decide (x.bind = noS))
  else if x.kind = 4 then (known, decide (x.text = noS) && decide (x.bind = noS) && decide (x.args.length = 1) && argsB x.args known)
  else if x.kind = 3 then
    if (decide ((x.args.length : Int) = params) && argsB x.args known) = true then
      if x.bind = noS then (known, true)
      else (putS known x.bind, nameB x.bind && !(inB known x.bind) && decide ((putS known x.bind).length ≤ 6))
    else (known, false)
  else (known, false)

set_option maxHeartbeats 6400000 in
set_option maxRecDepth 100000 in
theorem l06Sym_any (r0 : Value) (x : SymD) (u : Value) (known : List ByteArray) (params : Int) (w : World) (hx : symTot x ≤ 1048576) (hin : ∀ ns ∈ x.args, NIn ns) (hk : known.length ≤ 1000) (h : RowC 1 ExprE w r0 x.args) (h' : SRow w u known) :
    Calls Tryz.prog 38 #[.agg #[.int .i64 x.kind, .string x.text, r0, .string x.bind], u, .int .i64 params] w fun e w' => ∃ o, e = .returned (.tuple #[o, .bool (symB x known params).2]) ∧ SRow w' o (symB x known params).1 ∧ Below w.heap.size w w' := by
  have HTt : symTot x = x.text.size + rowTot exprTot x.args + x.bind.size := rfl
  have hts : x.text.size ≤ 1048576 := by omega
  have hbs : x.bind.size ≤ 1048576 := by omega
  have hal : x.args.length ≤ 1048576 := Nat.le_trans (rowTot_len exprTot x.args) (by omega)
  have HR : Hid (RowC 1 ExprE w r0 x.args) := h
  have HK : Hid (SRow w u known) := h'
  have HIn : Hid (∀ ns ∈ x.args, NIn ns) := hin
  obtain ⟨a, cap, rfl⟩ := h.slice
  obtain ⟨a', cap', rfl⟩ := h'.slice
  clear h h' hin HTt hx
  have B0 : Hid (Below w.heap.size w (w.alloc (.cells #[.int .i64 x.kind, .string x.text, .slice a x.args.length cap, .string x.bind] 66))) := (Below.refl _ _).alloc (Nat.le_refl _) _
  have c1 : (w.alloc (.cells #[.int .i64 x.kind, .string x.text, .slice a x.args.length cap, .string x.bind] 66)).cell? ⟨w.heap.size, 1, none⟩ = some (.string x.text) := box_at _ _ _ 1 _ rfl
  have c2 : (w.alloc (.cells #[.int .i64 x.kind, .string x.text, .slice a x.args.length cap, .string x.bind] 66)).cell? ⟨w.heap.size, 2, none⟩ = some (.slice a x.args.length cap) := box_at _ _ _ 2 _ rfl
  have c3 : (w.alloc (.cells #[.int .i64 x.kind, .string x.text, .slice a x.args.length cap, .string x.bind] 66)).cell? ⟨w.heap.size, 3, none⟩ = some (.string x.bind) := box_at _ _ _ 3 _ rfl
  have HArg : Hid (∀ W, Below w.heap.size w W → _) := fun W hb => l06Args_any (.slice a x.args.length cap) (.slice a' known.length cap') x.args known W (by omega) hal HIn.out (RowC.below ExprE_stable HR.out hb) (HK.out.below hb)
  have HKb : Hid (∀ W, Below w.heap.size w W → SRow W (.slice a' known.length cap') known) := fun W hb => HK.out.below hb
  by_cases k1 : x.kind = 1
  · have HT : Hid (∀ W, _) := fun W => l06Text_any x.text W hts
    have q1 : (x.kind == 1) = true := by rw [k1]; rfl
    cases ht : text6 x.text with
    | false =>
      have HV : Hid (symB x known params = (known, false)) := by rw [Hid, symB, if_pos k1, ht]; rfl
      rw [ht] at HT
      clear k1
      go_enter Tryz.func38, Tryz.ntmps38
      go_wp2
      go_big_quiet ((go_at_call 50; refine Calls.quiet_of (HT.out _)))
      go_wp2
      go_ret2
      rw [HV.out]
      exact ⟨_, rfl, HKb.out _ (bel_drewN B0.out _), bel_drewN B0.out _⟩
    | true =>
      by_cases ha : x.args.length = 0
      · have ha1 : ((x.args.length : Int) == 0) = true := by rw [ha]; rfl
        by_cases hb : x.bind = noS
        · have hb1 := isE_yes hb
          have HV : Hid (symB x known params = (known, true)) := by rw [Hid, symB, if_pos k1, ht, decide_eq_true ha, decide_eq_true hb]; rfl
          clear ha hb
          rw [ht] at HT
          clear k1
          go_enter Tryz.func38, Tryz.ntmps38
          go_wp2
          go_big_quiet ((go_at_call 50; refine Calls.quiet_of (HT.out _)))
          go_wp2
          go_ret2
          rw [HV.out]
          exact ⟨_, rfl, HKb.out _ (bel_drewN B0.out _), bel_drewN B0.out _⟩
        · have hb1 := isE_no hb
          have HV : Hid (symB x known params = (known, false)) := by rw [Hid, symB, if_pos k1, ht, decide_eq_true ha, decide_eq_false hb]; rfl
          clear ha hb
          rw [ht] at HT
          clear k1
          go_enter Tryz.func38, Tryz.ntmps38
          go_wp2
          go_big_quiet ((go_at_call 50; refine Calls.quiet_of (HT.out _)))
          go_wp2
          go_ret2
          rw [HV.out]
          exact ⟨_, rfl, HKb.out _ (bel_drewN B0.out _), bel_drewN B0.out _⟩
      · have ha1 : ((x.args.length : Int) == 0) = false := by simpa using (by omega : (x.args.length : Int) ≠ 0)
        have HV : Hid (symB x known params = (known, false)) := by rw [Hid, symB, if_pos k1, ht, decide_eq_false ha]; rfl
        clear ha
        rw [ht] at HT
        clear k1
        go_enter Tryz.func38, Tryz.ntmps38
        go_wp2
        go_big_quiet ((go_at_call 50; refine Calls.quiet_of (HT.out _)))
        go_wp2
        go_ret2
        rw [HV.out]
        exact ⟨_, rfl, HKb.out _ (bel_drewN B0.out _), bel_drewN B0.out _⟩
  by_cases k2 : x.kind = 2
  · have HS : Hid (∀ W, _) := fun W => specSetOk_any x.text W hts
    have q1 : (x.kind == 1) = false := by rw [k2]; rfl
    have q2 : (x.kind == 2) = true := by rw [k2]; rfl
    cases ht : okL x.text.data.toList with
    | false =>
      have HV : Hid (symB x known params = (known, false)) := by rw [Hid, symB, if_neg k1, if_pos k2, ht]; rfl
      rw [ht] at HS
      clear k1 k2
      go_enter Tryz.func38, Tryz.ntmps38
      go_wp2
      generalize w.alloc (.cells #[.int .i64 x.kind, .string x.text, .slice a x.args.length cap, .string x.bind] 66) = W0 at *
      first | (go_region_law ((go_simp; go_at_call 51; refine (HS.out _).mono ?_; rintro e w2 ⟨rfl, hb2⟩; have d2 := cell_keep (W := W0.drew) c2 hb2; try go_wp2))) | fail
      all_goals
        have B2 : Hid (Below w.heap.size w w2) := B0.out.trans ((bel_of_drew hb2).mono B0.out.size)
        (try go_wp2)
        go_ret2
        rw [HV.out]
        exact ⟨_, rfl, HKb.out _ B2.out, B2.out⟩
    | true =>
      by_cases ha : x.args.length = 0
      · have ha1 : ((x.args.length : Int) == 0) = true := by rw [ha]; rfl
        by_cases hb : x.bind = noS
        · have hb1 := isE_yes hb
          have HV : Hid (symB x known params = (known, true)) := by rw [Hid, symB, if_neg k1, if_pos k2, ht, decide_eq_true ha, decide_eq_true hb]; rfl
          clear ha hb
          rw [ht] at HS
          clear k1 k2
          go_enter Tryz.func38, Tryz.ntmps38
          go_wp2
          generalize w.alloc (.cells #[.int .i64 x.kind, .string x.text, .slice a x.args.length cap, .string x.bind] 66) = W0 at *
          go_region_law ((go_simp; go_at_call 51; refine (HS.out _).mono ?_; rintro e w2 ⟨rfl, hb2⟩; have d2 := cell_keep (W := W0.drew) c2 hb2; have d3 := cell_keep (W := W0.drew) c3 hb2; try go_wp2))
          all_goals
            have B2 : Hid (Below w.heap.size w w2) := B0.out.trans ((bel_of_drew hb2).mono B0.out.size)
            (try go_wp2)
            go_ret2
            rw [HV.out]
            exact ⟨_, rfl, HKb.out _ B2.out, B2.out⟩
        · have hb1 := isE_no hb
          have HV : Hid (symB x known params = (known, false)) := by rw [Hid, symB, if_neg k1, if_pos k2, ht, decide_eq_true ha, decide_eq_false hb]; rfl
          clear ha hb
          rw [ht] at HS
          clear k1 k2
          go_enter Tryz.func38, Tryz.ntmps38
          go_wp2
          generalize w.alloc (.cells #[.int .i64 x.kind, .string x.text, .slice a x.args.length cap, .string x.bind] 66) = W0 at *
          go_region_law ((go_simp; go_at_call 51; refine (HS.out _).mono ?_; rintro e w2 ⟨rfl, hb2⟩; have d2 := cell_keep (W := W0.drew) c2 hb2; have d3 := cell_keep (W := W0.drew) c3 hb2; try go_wp2))
          all_goals
            have B2 : Hid (Below w.heap.size w w2) := B0.out.trans ((bel_of_drew hb2).mono B0.out.size)
            (try go_wp2)
            go_ret2
            rw [HV.out]
            exact ⟨_, rfl, HKb.out _ B2.out, B2.out⟩
      · have ha1 : ((x.args.length : Int) == 0) = false := by simpa using (by omega : (x.args.length : Int) ≠ 0)
        have HV : Hid (symB x known params = (known, false)) := by rw [Hid, symB, if_neg k1, if_pos k2, ht, decide_eq_false ha]; rfl
        clear ha
        rw [ht] at HS
        clear k1 k2
        go_enter Tryz.func38, Tryz.ntmps38
        go_wp2
        generalize w.alloc (.cells #[.int .i64 x.kind, .string x.text, .slice a x.args.length cap, .string x.bind] 66) = W0 at *
        first | (go_region_law ((go_simp; go_at_call 51; refine (HS.out _).mono ?_; rintro e w2 ⟨rfl, hb2⟩; have d2 := cell_keep (W := W0.drew) c2 hb2; try go_wp2))) | fail
        all_goals
          have B2 : Hid (Below w.heap.size w w2) := B0.out.trans ((bel_of_drew hb2).mono B0.out.size)
          (try go_wp2)
          go_ret2
          rw [HV.out]
          exact ⟨_, rfl, HKb.out _ B2.out, B2.out⟩
  by_cases k4 : x.kind = 4
  · have q1 : (x.kind == 1) = false := by rw [k4]; rfl
    have q2 : (x.kind == 2) = false := by rw [k4]; rfl
    have q4 : (x.kind == 4) = true := by rw [k4]; rfl
    by_cases ht : x.text = noS
    · have ht1 := isE_yes ht
      by_cases hb : x.bind = noS
      · have hb1 := isE_yes hb
        by_cases ha : x.args.length = 1
        · have ha1 : ((x.args.length : Int) == 1) = true := by rw [ha]; rfl
          have HV : Hid (symB x known params = (known, argsB x.args known)) := by rw [Hid, symB, if_neg k1, if_neg k2, if_pos k4, decide_eq_true ht, decide_eq_true hb, decide_eq_true ha]; rfl
          clear k1 k2 k4 ht hb ha
          go_enter Tryz.func38, Tryz.ntmps38
          go_wp2_with fail
          refine (HArg.out _ B0.out).mono ?_
          rintro e w2 ⟨rfl, hb2⟩
          have B2 : Hid (Below w.heap.size w w2) := B0.out.trans (hb2.mono B0.out.size)
          clear hb2
          go_wp2
          go_ret2
          rw [HV.out]
          exact ⟨_, rfl, HKb.out _ B2.out, B2.out⟩
        · have ha1 : ((x.args.length : Int) == 1) = false := by simpa using (by omega : (x.args.length : Int) ≠ 1)
          have HV : Hid (symB x known params = (known, false)) := by rw [Hid, symB, if_neg k1, if_neg k2, if_pos k4, decide_eq_true ht, decide_eq_true hb, decide_eq_false ha]; rfl
          clear ht hb ha
          clear k1 k2 k4
          go_enter Tryz.func38, Tryz.ntmps38
          go_wp2
          go_ret2
          rw [HV.out]
          exact ⟨_, rfl, HKb.out _ B0.out, B0.out⟩
      · have hb1 := isE_no hb
        have HV : Hid (symB x known params = (known, false)) := by rw [Hid, symB, if_neg k1, if_neg k2, if_pos k4, decide_eq_true ht, decide_eq_false hb]; rfl
        clear ht hb
        clear k1 k2 k4
        go_enter Tryz.func38, Tryz.ntmps38
        go_wp2
        go_ret2
        rw [HV.out]
        exact ⟨_, rfl, HKb.out _ B0.out, B0.out⟩
    · have ht1 := isE_no ht
      have HV : Hid (symB x known params = (known, false)) := by rw [Hid, symB, if_neg k1, if_neg k2, if_pos k4, decide_eq_false ht]; rfl
      clear ht
      clear k1 k2 k4
      go_enter Tryz.func38, Tryz.ntmps38
      go_wp2
      go_ret2
      rw [HV.out]
      exact ⟨_, rfl, HKb.out _ B0.out, B0.out⟩
  by_cases k3 : x.kind = 3
  · have q1 : (x.kind == 1) = false := by rw [k3]; rfl
    have q2 : (x.kind == 2) = false := by rw [k3]; rfl
    have q4 : (x.kind == 4) = false := by rw [k3]; rfl
    have q3 : (x.kind == 3) = true := by rw [k3]; rfl
    by_cases hp : (x.args.length : Int) = params
    · have hp1 : ((x.args.length : Int) != params) = false := by rw [hp]; simp
      cases hg : argsB x.args known with
      | false =>
        have HV : Hid (symB x known params = (known, false)) := by rw [Hid, symB, if_neg k1, if_neg k2, if_neg k4, if_pos k3, decide_eq_true hp, hg]; rfl
        rw [hg] at HArg
        clear k1 k2 k3 k4 hp
        go_enter Tryz.func38, Tryz.ntmps38
        go_wp2_with fail
        refine (HArg.out _ B0.out).mono ?_
        rintro e w2 ⟨rfl, hb2⟩
        have B2 : Hid (Below w.heap.size w w2) := B0.out.trans (hb2.mono B0.out.size)
        clear hb2
        go_wp2
        go_ret2
        rw [HV.out]
        exact ⟨_, rfl, HKb.out _ B2.out, B2.out⟩
      | true =>
        rw [hg] at HArg
        by_cases hb : x.bind = noS
        · have hb1 := isE_yes hb
          have HV : Hid (symB x known params = (known, true)) := by rw [Hid, symB, if_neg k1, if_neg k2, if_neg k4, if_pos k3, decide_eq_true hp, hg, if_pos (by decide), if_pos hb]
          clear k1 k2 k3 k4 hp hb
          go_enter Tryz.func38, Tryz.ntmps38
          go_wp2_with fail
          refine (HArg.out _ B0.out).mono ?_
          rintro e w2 ⟨rfl, hb2⟩
          have B2 : Hid (Below w.heap.size w w2) := B0.out.trans (hb2.mono B0.out.size)
          have d3 := cell_keep c3 hb2
          clear hb2
          go_wp2
          go_ret2
          rw [HV.out]
          exact ⟨_, rfl, HKb.out _ B2.out, B2.out⟩
        · have hb1 := isE_no hb
          have HV : Hid (symB x known params = (putS known x.bind, nameB x.bind && !(inB known x.bind) && decide ((putS known x.bind).length ≤ 6))) := by rw [Hid, symB, if_neg k1, if_neg k2, if_neg k4, if_pos k3, decide_eq_true hp, hg, if_pos (by decide), if_neg hb]
          have hpl := putS_len known x.bind
          clear k1 k2 k3 k4 hp hb
          go_enter Tryz.func38, Tryz.ntmps38
          go_wp2_with fail
          refine (HArg.out _ B0.out).mono ?_
          rintro e w2 ⟨rfl, hb2⟩
          have B2 : Hid (Below w.heap.size w w2) := B0.out.trans (hb2.mono B0.out.size)
          have d3 := cell_keep c3 hb2
          clear hb2
          go_wp2_with fail
          refine (l03Put_any _ known x.bind _ (by omega) (HKb.out _ B2.out)).mono ?_
          rintro e w3 ⟨o, rfl, ho, hb3⟩
          have B3 : Hid (Below w.heap.size w w3) := B2.out.trans (hb3.mono B2.out.size)
          have e3 := cell_keep d3 hb3
          have HO : Hid (SRow w3 o (putS known x.bind)) := ho.row
          obtain ⟨ao, co, rfl⟩ := ho.row.slice
          clear ho hb3
          have HIs : Hid (_) := specIn_any (.slice a' known.length cap') known x.bind w3 (by omega) (HKb.out _ B3.out)
          have HNm : Hid (∀ W, _) := fun W => specVarName_any x.bind W hbs
          generalize putS known x.bind = pk at *
          cases hn : nameB x.bind with
          | false =>
            rw [hn] at HNm HV
            go_wp2_with (go_at_call 49; refine (HNm.out _).mono ?_; rintro e wq ⟨rfl, hw⟩; rw [hw]; clear hw)
            go_ret2
            rw [HV.out]
            exact ⟨_, rfl, HO.out, B3.out⟩
          | true =>
            rw [hn] at HNm HV
            cases hi : inB known x.bind with
            | true =>
              rw [hi] at HIs HV
              go_wp2_with (first
                | (go_at_call 49; refine (HNm.out _).mono ?_; rintro e wq ⟨rfl, hw⟩; rw [hw]; clear hw)
                | (go_at_call 54; refine Calls.mono HIs.out ?_; rintro e wq ⟨rfl, hw⟩; rw [hw]; clear hw))
              go_ret2
              rw [HV.out]
              exact ⟨_, rfl, HO.out, B3.out⟩
            | false =>
              rw [hi] at HIs HV
              go_wp2_with (first
                | (go_at_call 49; refine (HNm.out _).mono ?_; rintro e wq ⟨rfl, hw⟩; rw [hw]; clear hw)
                | (go_at_call 54; refine Calls.mono HIs.out ?_; rintro e wq ⟨rfl, hw⟩; rw [hw]; clear hw))
              go_ret2
              rw [HV.out]
              refine ⟨_, congrArg (fun z => Ending.returned (Value.tuple #[.slice ao pk.length co, .bool z])) ?_, HO.out, B3.out⟩
              simp
              try omega
    · have hp1 : ((x.args.length : Int) != params) = true := by simpa using hp
      have HV : Hid (symB x known params = (known, false)) := by rw [Hid, symB, if_neg k1, if_neg k2, if_neg k4, if_pos k3, decide_eq_false hp]; rfl
      clear k1 k2 k3 k4 hp
      go_enter Tryz.func38, Tryz.ntmps38
      go_wp2
      go_ret2
      rw [HV.out]
      exact ⟨_, rfl, HKb.out _ B0.out, B0.out⟩
  have q1 : (x.kind == 1) = false := by simpa using k1
  have q2 : (x.kind == 2) = false := by simpa using k2
  have q4 : (x.kind == 4) = false := by simpa using k4
  have q3 : (x.kind == 3) = false := by simpa using k3
  have HV : Hid (symB x known params = (known, false)) := by rw [Hid, symB, if_neg k1, if_neg k2, if_neg k4, if_neg k3]
  clear k1 k2 k3 k4
  go_enter Tryz.func38, Tryz.ntmps38
  go_wp2
  go_ret2
  rw [HV.out]
  exact ⟨_, rfl, HKb.out _ B0.out, B0.out⟩

end Go.Proofs.YtofpoiccghpliaaGreatDoor

namespace Go.Proofs.YtofpoiccghpliaaGreatDoor
open Go.RowKit

def lessS (a b : ByteArray) : Bool := Op.bytesLess a.toList b.toList
def parAt (ps : List ByteArray) (i : Nat) : Bool := nameB (ps.getD i noS) && (decide (i = 0) || lessS (ps.getD (i - 1) noS) (ps.getD i noS))
def parTo (ps : List ByteArray) (k : Nat) : Bool := (List.range k).all (parAt ps)
def paramsB (ps : List ByteArray) : Bool := parTo ps ps.length && decide (ps.length ≤ 6)
theorem parTo_next (ps : List ByteArray) (k : Nat) : parTo ps (k + 1) = (parTo ps k && parAt ps k) := by
  rw [parTo, List.range_succ, List.all_append, ← parTo]
  simp
theorem params_no (ps : List ByteArray) (k : Nat) (h : k < ps.length) (hc : parAt ps k = false) : paramsB ps = false := by
  have : parTo ps ps.length = false := by
    rw [parTo, List.all_eq_false]
    exact ⟨k, List.mem_range.2 h, by rw [hc]; decide⟩
  rw [paramsB, this]; rfl
theorem parAt_of (ps : List ByteArray) (k : Nat) (h : k < ps.length) : parAt ps k = (nameB ps[k] && (decide (k = 0) || lessS (ps.getD (k - 1) noS) ps[k])) := by
  rw [parAt]
  simp only [List.getD, List.getElem?_eq_getElem h, Option.getD_some]
theorem getD_is (ps : List ByteArray) (k : Nat) (h : k < ps.length) : ps.getD k noS = ps[k] := by
  simp only [List.getD, List.getElem?_eq_getElem h, Option.getD_some]

set_option maxHeartbeats 3200000 in
set_option maxRecDepth 100000 in
theorem l06Params_any (v : Value) (ps : List ByteArray) (w : World) (hn : ps.length ≤ 1048576) (hz : ∀ s ∈ ps, s.size ≤ 1048576) (h : SRow w v ps) :
    Calls Tryz.prog 37 #[v] w fun e w' => e = .returned (.bool (paramsB ps)) ∧ ∃ q, w' = w.drewN q := by
  have HR : Hid (SRow w v ps) := h
  have HZ : Hid (∀ s ∈ ps, s.size ≤ 1048576) := hz
  obtain ⟨a, cap, rfl⟩ := h.slice
  clear h hz
  go_enter Tryz.func37, Tryz.ntmps37
  go_wp2
  go_loopw [3] (fun iv wr => ∃ k q : Nat, iv = .int .i64 k ∧ k ≤ ps.length ∧ parTo ps k = true ∧ wr = w.drewN q) (fun iv _ => ps.length - (intOf iv).toNat)
  case atStart => exact ⟨0, 0, rfl, Nat.zero_le _, rfl, rfl⟩
  case round =>
    obtain ⟨k, q, rfl, hk, hto, hwr⟩ := hrel
    have HW : Hid (wr = w.drewN q) := hwr
    have HTo : Hid (parTo ps k = true) := hto
    have HRr : Hid (SRow wr (.slice a ps.length cap) ps) := by rw [HW.out]; exact HR.out.below (bel_drewN (Below.refl _ _) q)
    clear hwr hto
    by_cases hlt : k < ps.length
    · have HNx : Hid (_ = _) := parTo_next ps k
      have HAt : Hid (_ = _) := parAt_of ps k hlt
      have HNm : Hid (∀ W, _) := fun W => specVarName_any ps[k] W (HZ.out _ (List.getElem_mem hlt))
      have i4 : (k : Int) < (ps.length : Int) := by omega
      obtain ⟨b, off, rfl, hc1⟩ := HRr.out.at hlt
      cases hm : nameB ps[k] with
      | false =>
        have HV : Hid (paramsB ps = false) := params_no ps k hlt (by rw [HAt.out, hm]; rfl)
        rw [hm] at HNm
        generalize ps[k] = pk at *
        clear HAt HNx HTo
        go_wp2
        go_quiet ((go_at_call 49; refine Calls.quiet_of_same (HNm.out _)))
        go_wp2
        go_ret
        rw [HV.out]
        exact ⟨rfl, _, by rw [HW.out, World.drewN_drewN]⟩
      | true =>
        rw [hm] at HNm
        rcases Nat.eq_zero_or_pos k with hk0 | hk0
        · subst hk0
          have HY : Hid (parTo ps 1 = true) := by rw [Hid, HNx.out, HTo.out, HAt.out, hm]; rfl
          have c0 : wr.cell? ⟨b, off, none⟩ = some (.string ps[0]) := hc1
          have i6 : (0 : Int) < (ps.length : Int) := by omega
          clear hc1 i4
          generalize ps[0] = p0 at *
          clear HAt HNx HTo
          go_wp2
          go_quiet ((go_at_call 49; refine Calls.quiet_of_same (HNm.out _)))
          go_wp2
          go_roundw
          case rel => exact ⟨1, _, rfl, hlt, HY.out, by rw [HW.out, World.drewN_drewN]⟩
          case measure => simp [intOf]; omega
        · obtain ⟨j, rfl⟩ : ∃ j, k = j + 1 := ⟨k - 1, by omega⟩
          obtain ⟨b2, off2, e2, hc2⟩ := HRr.out.at (k := j) (by omega)
          cases e2
          have hwk : IntKind.i64.wrap (j : Int) = (j : Int) := by rw [IntKind.wrap_i64]; omega
          have i5 : (0 : Int) < (j : Int) + 1 := by omega
          have i6 : (j : Int) < (ps.length : Int) := by omega
          have i7 : (j : Int) + 1 < (ps.length : Int) := by omega
          have hgd : ps.getD (j + 1 - 1) noS = ps[j] := getD_is ps j (by omega)
          cases hls : Op.bytesLess ps[j].toList ps[j + 1].toList with
          | true =>
            have HY : Hid (parTo ps (j + 1 + 1) = true) := by rw [Hid, HNx.out, HTo.out, HAt.out, hm, hgd, lessS, hls]; simp
            clear hgd
            generalize ps[j + 1] = p1 at *
            generalize ps[j] = p0 at *
            clear HAt HNx HTo
            go_wp2
            go_quiet ((go_at_call 49; refine Calls.quiet_of_same (HNm.out _)))
            go_wp2
            go_roundw
            case rel => exact ⟨j + 1 + 1, _, by go_num, hlt, HY.out, by rw [HW.out, World.drewN_drewN]⟩
            case measure => simp [intOf]; omega
          | false =>
            have HV : Hid (paramsB ps = false) := params_no ps (j + 1) hlt (by rw [HAt.out, hm, hgd, lessS, hls]; simp)
            clear hgd
            generalize ps[j + 1] = p1 at *
            generalize ps[j] = p0 at *
            clear HAt HNx HTo
            go_wp2
            go_quiet ((go_at_call 49; refine Calls.quiet_of_same (HNm.out _)))
            go_wp2
            go_ret
            rw [HV.out]
            exact ⟨rfl, _, by rw [HW.out, World.drewN_drewN]⟩
    · obtain rfl : k = ps.length := by omega
      have HV : Hid (paramsB ps = decide ((ps.length : Int) ≤ 6)) := by
        rw [Hid, paramsB, HTo.out, Bool.true_and]
        apply decide_eq_decide.2
        omega
      go_wp2
      go_ret
      rw [HV.out]
      exact ⟨rfl, q, HW.out⟩

end Go.Proofs.YtofpoiccghpliaaGreatDoor
