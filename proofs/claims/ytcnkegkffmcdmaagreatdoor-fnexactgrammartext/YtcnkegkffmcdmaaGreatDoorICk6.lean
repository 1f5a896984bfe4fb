/- The program's checkAlt: what is known goes on from sym to sym. -/
/- The program's checkHeads and checkGrammar. -/
import Derived.Test.YtcnkegkffmcdmaaGreatDoorISame
import Derived.Test.YtcnkegkffmcdmaaGreatDoorGGram
import Derived.Lib.SliceRun
namespace Go.Proofs.YtcnkegkffmcdmaaGreatDoor
open Go.RowKit

theorem ownB_snoc' {B : Nat} {o v' : Value} {ys : List ByteArray} {x : ByteArray} {wr w2 : World} {ob : Obj} (hown2 : w2.ownsRow B 9 1 v' (ys.length + 1) (sb ys ++ [.string x])) (hown : OwnB B o ys wr) (hgrow : (wr.alloc ob).grownBy w2 o.ownBlock)
    {w : World} (hB : B ≤ wr.heap.size) (hb : Below B w wr) : OwnB B v' (ys ++ [x]) w2 ∧ Below B w w2 := by
  refine ⟨?_, ?_⟩
  · rw [OwnB, List.length_append, sb, List.map_append]
    exact hown2
  · exact (hb.alloc hB ob).grown hgrow (by simp; omega) (fun k hk => (hown.lt k hk).1)

set_option maxHeartbeats 1600000 in
theorem clones_any (v : Value) (ps : List ByteArray) (w : World) (hn : ps.length ≤ 1048576) (h : SRow w v ps) :
    Calls Tryz.prog 71 #[v] w fun e w' => ∃ o, e = .returned o ∧ OwnB w.heap.size o ps w' ∧ Below w.heap.size w w' := by
  obtain ⟨i0, hi, hz0, hz1, hz2⟩ := info_parts Tryz.infoStr
  have q24 : ∀ (w : World) (a : Option Addr) (n c n' c' : Nat), (binOp .eql 37 (.slice a n c) (.slice none n' c')).run Tryz.prog w = .ok (.bool a.isNone) w := fun w a n c n' c' => Lib.run_eql_slice_nil w _ _ a n c n' c' Tryz.underlying37
  have HR : Hid (SRow w v ps) := h
  obtain ⟨a, cap, rfl, hcap, hh⟩ := h
  cases a with
  | none =>
    have h0 : ps.length = 0 := by
      rcases Nat.eq_zero_or_pos ps.length with h | h
      · exact h
      · obtain ⟨_, _, e, _⟩ := hh h
        cases e
    obtain rfl : ps = [] := List.length_eq_zero_iff.1 h0
    obtain rfl := hcap rfl
    clear hh hcap h0
    go_enter Tryz.func71, Tryz.ntmps71
    go_wp2
    go_ret
    exact ⟨_, rfl, ⟨rfl, .inl ⟨rfl, rfl⟩⟩, Below.refl _ _⟩
  | some ad =>
    clear hh hcap
    have B0 : Hid (Below w.heap.size w (w.alloc (.cells #[] 9))) := (Below.refl _ _).alloc (Nat.le_refl _) _
    have O0 : Hid ((w.alloc (.cells #[] 9)).ownsRow w.heap.size 9 1 (.slice (some ⟨w.heap.size, 0, none⟩) 0 0) 0 []) := World.ownsRow_made (base := w.heap.size) w #[] 0 (e := 9) (size := 1) (Nat.le_refl _) (by decide) rfl
    have HR0 : Hid (SRow (w.alloc (.cells #[] 9)) (.slice (some ad) ps.length cap) ps) := HR.out.below B0.out
    go_enter Tryz.func71, Tryz.ntmps71
    go_wp2_with (at_builtin; refine append_texts rfl _ _ 37 rfl w.heap.size 9 i0 _ Tryz.underlying37 hi hz0 hz1 hz2 rfl _ 0 [] rfl O0.out ps (some ad) cap rfl HR0.out (by omega) (by simp) ?_)
    intro v' w' hown hgrow
    have B1 : Hid (Below w.heap.size w w') := B0.out.grown hgrow (by simp) (by intro k hk; simp [Value.ownBlock] at hk; omega)
    have O1 : Hid (OwnB w.heap.size v' ps w') := by simpa [Hid, OwnB] using hown
    clear hown hgrow
    go_wp2
    go_ret
    exact ⟨_, rfl, O1.out, B1.out⟩

set_option maxHeartbeats 6400000 in
set_option maxRecDepth 100000 in
theorem checkAlt_any (gv : Value) (g : List RuleD) (s0 : Value) (a : List SymD) (u : Value) (ps : List ByteArray) (w : World) (hErr : errTy w) (hg : g.length ≤ 1048576) (hx : altTot a ≤ 1048576) (hk : ps.length ≤ 6)
    (h : RowC 3 RuleE w gv g) (hp0 : ∀ r ∈ g, r.params.length ≤ 1048576) (h1 : RowC 4 SymE w s0 a) (h2 : SRow w u ps) :
    Calls Tryz.prog 53 #[.agg #[gv], .agg #[s0], u] w fun e w' => e = okE (altB g ps a) ∧ Below w.heap.size w w' := by
  obtain ⟨i0, hi, hz0, hz1, hz2⟩ := info_parts Tryz.infoStr
  have HErr : Hid (errTy w) := hErr
  have HG : Hid (RowC 3 RuleE w gv g) := h
  have HX : Hid (RowC 4 SymE w s0 a) := h1
  have HK : Hid (SRow w u ps) := h2
  have HP : Hid (∀ r ∈ g, r.params.length ≤ 1048576) := hp0
  have HZ : Hid (∀ x ∈ a, symTot x ≤ 1048576) := fun x hxa => Nat.le_trans (rowTot_mem symTot hxa) hx
  have HB : Hid (∀ _ : Unit, altB g ps a = (decide (a.length ≤ 8) && symsI g ps a)) := fun _ => altB_is g ps a
  have hal : a.length ≤ 1048576 := Nat.le_trans (rowTot_len symTot a) hx
  obtain ⟨ag, cg, rfl⟩ := h.slice
  obtain ⟨a0, c0, rfl⟩ := h1.slice
  obtain ⟨ak, ck, rfl⟩ := h2.slice
  clear h h1 h2 hp0 hx hErr
  have B0 : Hid (Below w.heap.size w ((w.alloc (.cells #[.slice ag g.length cg] 30)).alloc (.cells #[.slice a0 a.length c0] 44))) := ((Below.refl _ _).alloc (Nat.le_refl _) _).alloc (by simp) _
  have b0 : ((w.alloc (.cells #[.slice ag g.length cg] 30)).alloc (.cells #[.slice a0 a.length c0] 44)).cell? ⟨w.heap.size, 0, none⟩ = some (.slice ag g.length cg) := box_two _ _ _ _ _ 0 _ rfl
  have b1 : ((w.alloc (.cells #[.slice ag g.length cg] 30)).alloc (.cells #[.slice a0 a.length c0] 44)).cell? ⟨w.heap.size + 1, 0, none⟩ = some (.slice a0 a.length c0) := box_two' _ _ _ _ _ 0 _ rfl
  by_cases h8 : a.length ≤ 8
  · have d8 : decide ((a.length : Int) ≤ 8) = true := by rw [decide_eq_true]; omega
    have HC : Hid (∀ _ : Unit, _) := fun _ => clones_any (.slice ak ps.length ck) ps ((w.alloc (.cells #[.slice ag g.length cg] 30)).alloc (.cells #[.slice a0 a.length c0] 44)) (by omega) (HK.out.below B0.out)
    have HV0 : Hid (∀ _ : Unit, altB g ps a = symsI g ps a) := fun _ => by rw [HB.out (), decide_eq_true h8, Bool.true_and]
    go_enter Tryz.func53, Tryz.ntmps53
    go_wp2_with (go_at_call 52; refine (want_yes _).mono ?_; rintro e wq ⟨rfl, hw⟩; rw [hw]; clear hw)
    refine (HC.out ()).mono ?_
    rintro e w1 ⟨o, rfl, ho, hb1⟩
    have B1 : Hid (Below w.heap.size w w1) := B0.out.trans (hb1.mono B0.out.size)
    have O1 : Hid (OwnB (w.heap.size + 2) o ps w1) := by
      have := ho
      simp at this
      exact this
    have C0 : Hid (w1.cell? ⟨w.heap.size, 0, none⟩ = some (.slice ag g.length cg)) := cell_keep b0 hb1
    have c1 := cell_keep b1 hb1
    have hs1 : w.heap.size + 2 ≤ w1.heap.size := by have := hb1.size; simpa using this
    clear hb1 ho HC b0 b1 B0 HB
    go_wp2
    clear c1
    go_loopw [6, 19] (fun kv iv wr => ∃ (k : Nat) (kn : List ByteArray), iv = .int .i64 k ∧ k ≤ a.length ∧ OwnB (w.heap.size + 2) kv kn wr ∧ kn.length ≤ 6 ∧ symsI g kn (a.drop k) = symsI g ps a ∧ Below (w.heap.size + 2) w1 wr) (fun _ iv _ => a.length - (intOf iv).toNat)
    case atStart => exact ⟨0, ps, rfl, Nat.zero_le _, O1.out, hk, rfl, Below.refl _ _⟩
    case round =>
      obtain ⟨k, kn, rfl, hkk, hown, hk6, hsy, hbw⟩ := hrel
      have HO : Hid (OwnB (w.heap.size + 2) u6 kn wr) := hown
      have HS : Hid (symsI g kn (a.drop k) = symsI g ps a) := hsy
      have BV : Hid (Below (w.heap.size + 2) w1 wr) := hbw
      have BW : Hid (Below w.heap.size w wr) := B1.out.trans (hbw.mono (by omega))
      have hsr : w.heap.size + 2 ≤ wr.heap.size := Nat.le_trans hs1 hbw.size
      have cg1 : wr.cell? ⟨w.heap.size, 0, none⟩ = some (.slice ag g.length cg) := (World.cell?_of_block (hbw.block w.heap.size (by omega))).trans C0.out
      clear hown hsy hbw
      by_cases hlt : k < a.length
      · have HD : Hid (_ = _) := symsI_drop g kn a k hlt
        obtain ⟨b, off, vs, rfl, _, hc, hE⟩ := (RowC.below SymE_stable HX.out BW.out).at hlt
        obtain ⟨e0, rfl, hA⟩ := hE
        obtain ⟨ae, ce, rfl⟩ := hA.slice
        have n0 : wr.cell? ⟨b, off + k * 4, none⟩ = some (.int .i64 a[k].kind) := hc 0 (by simp)
        have n1 : wr.cell? ⟨b, off + k * 4 + 1, none⟩ = some (.string a[k].text) := hc 1 (by simp)
        have n2 : wr.cell? ⟨b, off + k * 4 + 2, none⟩ = some (.slice ae a[k].args.length ce) := hc 2 (by simp)
        have n3 : wr.cell? ⟨b, off + k * 4 + 3, none⟩ = some (.string a[k].bind) := hc 3 (by simp)
        have i4 : (k : Int) < (a.length : Int) := by omega
        have HZk := HZ.out _ (List.getElem_mem hlt)
        obtain ⟨ao, co, rfl⟩ := HO.out.row.slice
        have BV3 : Hid (Below (w.heap.size + 2) w1 (wr.alloc (.cells #[.int .i64 a[k].kind, .string a[k].text, .slice ae a[k].args.length ce, .string a[k].bind] 47))) := BV.out.alloc hsr _
        have B3 : Hid (Below w.heap.size w (wr.alloc (.cells #[.int .i64 a[k].kind, .string a[k].text, .slice ae a[k].args.length ce, .string a[k].bind] 47))) := BW.out.alloc BW.out.size _
        have O3 : Hid (OwnB (w.heap.size + 2) (.slice ao kn.length co) kn (wr.alloc (.cells #[.int .i64 a[k].kind, .string a[k].text, .slice ae a[k].args.length ce, .string a[k].bind] 47))) := World.ownsRow.alloc HO.out _
        have s3 : (wr.alloc (.cells #[.int .i64 a[k].kind, .string a[k].text, .slice ae a[k].args.length ce, .string a[k].bind] 47)).cell? ⟨wr.heap.size, 3, none⟩ = some (.string a[k].bind) := box_at _ _ _ 3 _ rfl
        have s2 : (wr.alloc (.cells #[.int .i64 a[k].kind, .string a[k].text, .slice ae a[k].args.length ce, .string a[k].bind] 47)).cell? ⟨wr.heap.size, 2, none⟩ = some (.slice ae a[k].args.length ce) := box_at _ _ _ 2 _ rfl
        have s1 : (wr.alloc (.cells #[.int .i64 a[k].kind, .string a[k].text, .slice ae a[k].args.length ce, .string a[k].bind] 47)).cell? ⟨wr.heap.size, 1, none⟩ = some (.string a[k].text) := box_at _ _ _ 1 _ rfl
        have s0 : (wr.alloc (.cells #[.int .i64 a[k].kind, .string a[k].text, .slice ae a[k].args.length ce, .string a[k].bind] 47)).cell? ⟨wr.heap.size, 0, none⟩ = some (.int .i64 a[k].kind) := box_at _ _ _ 0 _ rfl
        have cg3 : (wr.alloc (.cells #[.int .i64 a[k].kind, .string a[k].text, .slice ae a[k].args.length ce, .string a[k].bind] 47)).cell? ⟨w.heap.size, 0, none⟩ = some (.slice ag g.length cg) := cell_keep cg1 ((Below.refl _ _).alloc (Nat.le_refl _) _)
        have HC : Hid (∀ _ : Unit, _) := fun _ => checkSym_any (.slice ag g.length cg) g (.slice ae a[k].args.length ce) a[k] (.slice ao kn.length co) kn (wr.alloc (.cells #[.int .i64 a[k].kind, .string a[k].text, .slice ae a[k].args.length ce, .string a[k].bind] 47)) (HErr.out.below B3.out) hg HZk (by omega) (RowC.below RuleE_stable HG.out B3.out) HP.out (RowC.below ExprE_stable hA ((Below.refl _ _).alloc (Nat.le_refl _) _)) O3.out.row
        clear hc hA HZk cg1
        cases hin : symI g a[k] kn with
        | false =>
          rw [hin] at HC
          have HV : Hid (altB g ps a = false) := by rw [Hid, HV0.out (), ← HS.out, HD.out, hin]; rfl
          clear hin HD HS HV0
          go_wp2_with (go_at_call 72; refine (HC.out ()).mono ?_; rintro e w3 ⟨he, hb3⟩; rw [he, okE_no]; clear he)
          rw [HV.out]
          exact ⟨rfl, rfl, B3.out.trans (hb3.mono B3.out.size)⟩
        | true =>
          rw [hin] at HC
          have HN : Hid (symsI g (knI a[k] kn) (a.drop (k + 1)) = symsI g ps a) := by rw [Hid, ← HS.out, HD.out, hin, Bool.true_and]
          have hkl : (knI a[k] kn).length ≤ 6 := knI_len hk6 hin
          clear hin HD HS
          go_wp2_with fail
          refine (HC.out ()).mono ?_
          rintro e w3 ⟨he, hb3⟩
          rw [he, okE_yes]
          clear he
          have t3 := cell_keep s3 hb3
          have BV4 : Hid (Below (w.heap.size + 2) w1 w3) := BV3.out.trans (hb3.mono (Nat.le_trans hs1 BV3.out.size))
          have hs4 : w.heap.size + 2 ≤ w3.heap.size := Nat.le_trans hs1 BV4.out.size
          have O4 : Hid (OwnB (w.heap.size + 2) (.slice ao kn.length co) kn w3) := O3.out.below hb3
          clear hb3 s0 s1 s2 s3 cg3 n0 n1 n2 n3 BV3 B3 O3 HC
          by_cases hbd : a[k].bind = noS
          · have e1 := isE_yes hbd
            have HKn : Hid (knI a[k] kn = kn) := by rw [Hid, knI, if_pos hbd]
            clear hbd
            go_wp2
            go_roundw
            case rel => exact ⟨k + 1, kn, by go_num, by omega, O4.out, hk6, by rw [← HKn.out]; exact HN.out, BV4.out⟩
            case measure => simp [intOf]; omega
          · have e1 := isE_no hbd
            have HKn : Hid (knI a[k] kn = kn ++ [a[k].bind]) := by rw [Hid, knI, if_neg hbd]
            clear hbd
            go_wp2_with (at_builtin; refine wpList_append_own _ rfl _ _ 37 rfl (w.heap.size + 2) 9 i0 _ 1 16 Tryz.underlying37 hi hz0 hz1 hz2 rfl (by decide) _ _ _ rfl (World.ownsRow.alloc O4.out _) ⟨_, 0, none⟩ 1 1 [.string a[k].bind] rfl rfl (cell_one_new _ _ _) (one_cellF _) (by unfold maxLen; omega) (by omega) (by simp; omega) ?_)
            intro v' w4 hown4 hgrow _
            have R := ownB_snoc' hown4 O4.out hgrow hs4 BV4.out
            clear hown4 hgrow
            go_wp2
            go_roundw
            case rel => exact ⟨k + 1, knI a[k] kn, by go_num, by omega, by rw [HKn.out]; exact R.1, hkl, HN.out, R.2⟩
            case measure => simp [intOf]; omega
      · obtain rfl : k = a.length := by omega
        have HV : Hid (altB g ps a = true) := by rw [Hid, HV0.out (), ← HS.out, List.drop_of_length_le (Nat.le_refl _)]; rfl
        clear HV0 HS
        go_wp2
        go_end0
        rw [HV.out]
        exact ⟨rfl, BW.out⟩
  · have d8 : decide ((a.length : Int) ≤ 8) = false := by rw [decide_eq_false]; omega
    have HV : Hid (altB g ps a = false) := by rw [Hid, HB.out (), decide_eq_false h8]; rfl
    clear HB
    go_enter Tryz.func53, Tryz.ntmps53
    go_wp2_with (go_at_call 52; refine (want_no _).mono ?_; rintro e wq ⟨rfl, hw⟩; rw [hw]; clear hw)
    rw [HV.out]
    exact ⟨rfl, rfl, B0.out⟩

end Go.Proofs.YtcnkegkffmcdmaaGreatDoor

namespace Go.Proofs.YtcnkegkffmcdmaaGreatDoor
open Go.RowKit

def headAt (g : List RuleD) (i : Nat) : Bool := ruleNameB (g.getD i default).name && (decide (ruleAtI g (g.getD i default).name = (i : Int)) && paramsB (g.getD i default).params)
def headTo (g : List RuleD) (k : Nat) : Bool := (List.range k).all (headAt g)
def headsB (g : List RuleD) : Bool := decide ((1 : Int) ≤ g.length ∧ (g.length : Int) ≤ 30) && (decide ((g.getD 0 default).params.length = 0) && headTo g g.length)
def bodyB (g : List RuleD) (r : RuleD) : Bool := decide ((1 : Int) ≤ r.alts.length ∧ (r.alts.length : Int) ≤ 8) && r.alts.all (altB g r.params)
theorem headTo_next (g : List RuleD) (k : Nat) : headTo g (k + 1) = (headTo g k && headAt g k) := by
  rw [headTo, List.range_succ, List.all_append, ← headTo]
  simp
theorem head_no (g : List RuleD) (k : Nat) (h : k < g.length) (hc : headAt g k = false) : headsB g = false := by
  have : headTo g g.length = false := by
    rw [headTo, List.all_eq_false]
    exact ⟨k, List.mem_range.2 h, by rw [hc]; decide⟩
  rw [headsB, this, Bool.and_false, Bool.and_false]
theorem gram_is (g : List RuleD) : gramB g = (headsB g && g.all (bodyB g)) := by
  have e : gramTo g g.length = (headTo g g.length && g.all (bodyB g)) := by
    rw [Bool.eq_iff_iff, Bool.and_eq_true, gramTo, headTo, List.all_eq_true, List.all_eq_true, List.all_eq_true]
    have one : ∀ i, i < g.length → (gramAt g i = true ↔ headAt g i = true ∧ bodyB g (g.getD i default) = true) := fun i _ => by
      rw [gramAt, ruleB, headAt, bodyB]
      simp only [Bool.and_eq_true]
      exact ⟨fun ⟨a, ⟨⟨b, c⟩, d⟩, e⟩ => ⟨⟨b, a, c⟩, d, e⟩, fun ⟨⟨b, a, c⟩, d, e⟩ => ⟨a, ⟨⟨b, c⟩, d⟩, e⟩⟩
    refine ⟨fun h => ⟨fun i hi => ((one i (List.mem_range.1 hi)).1 (h i hi)).1, fun r hr => ?_⟩, fun ⟨h1, h2⟩ i hi => (one i (List.mem_range.1 hi)).2 ⟨h1 i hi, ?_⟩⟩
    · obtain ⟨i, hi, rfl⟩ := List.getElem_of_mem hr
      have := ((one i hi).1 (h i (List.mem_range.2 hi))).2
      rwa [getR_is g i hi] at this
    · rw [getR_is g i (List.mem_range.1 hi)]
      exact h2 _ (List.getElem_mem _)
  rw [gramB, headsB, e]
  simp only [Bool.and_assoc]
theorem heads_par {g : List RuleD} (h : headsB g = true) (k : Nat) (hk : k < g.length) : g[k].params.length ≤ 6 := by
  rw [headsB, Bool.and_eq_true, Bool.and_eq_true, headTo, List.all_eq_true] at h
  have := h.2.2 k (List.mem_range.2 hk)
  rw [headAt, getR_is g k hk, Bool.and_eq_true, Bool.and_eq_true] at this
  exact paramsB_len this.2.2

set_option maxHeartbeats 6400000 in
set_option maxRecDepth 100000 in
theorem checkHeads_any (gv : Value) (g : List RuleD) (w : World) (hg : grammarTot g ≤ 1048576) (h : RowC 3 RuleE w gv g) :
    Calls Tryz.prog 51 #[.agg #[gv]] w fun e w' => e = okE (headsB g) ∧ Below w.heap.size w w' := by
  have HG : Hid (RowC 3 RuleE w gv g) := h
  have hgl : g.length ≤ 1048576 := Nat.le_trans (rowTot_len ruleTot g) hg
  have HZ : Hid (∀ r ∈ g, r.name.size ≤ 1048576 ∧ r.params.length ≤ 1048576) := fun r hr => by
    have h1 := rowTot_mem ruleTot hr
    have e1 : ruleTot r = r.name.size + rowTot ByteArray.size r.params + rowTot altTot r.alts := rfl
    have h2 := rowTot_len ByteArray.size r.params
    have e2 : grammarTot g = rowTot ruleTot g := rfl
    exact ⟨by omega, by omega⟩
  obtain ⟨ag, cg, rfl⟩ := h.slice
  clear h hg
  have B0 : Hid (Below w.heap.size w (w.alloc (.cells #[.slice ag g.length cg] 30))) := (Below.refl _ _).alloc (Nat.le_refl _) _
  have b0 : (w.alloc (.cells #[.slice ag g.length cg] 30)).cell? ⟨w.heap.size, 0, none⟩ = some (.slice ag g.length cg) := box_at _ _ _ 0 _ rfl
  have HWy : Hid (∀ W, _) := fun W => want_yes W
  by_cases h1 : g.length < 1
  · have HV : Hid (headsB g = false) := by rw [Hid, headsB, decide_eq_false (by omega)]; rfl
    have d1 : decide ((1 : Int) ≤ (g.length : Int)) = false := by rw [decide_eq_false]; omega
    go_enter Tryz.func51, Tryz.ntmps51
    go_wp2_with (go_at_call 52; refine (want_no _).mono ?_; rintro e wq ⟨rfl, hw⟩; rw [hw]; clear hw)
    rw [HV.out]
    exact ⟨rfl, rfl, B0.out⟩
  have d1 : decide ((1 : Int) ≤ (g.length : Int)) = true := by rw [decide_eq_true]; omega
  by_cases h30 : 30 < g.length
  · have HV : Hid (headsB g = false) := by rw [Hid, headsB, decide_eq_false (by omega)]; rfl
    have d2 : decide ((g.length : Int) ≤ 30) = false := by rw [decide_eq_false]; omega
    go_enter Tryz.func51, Tryz.ntmps51
    go_wp2_with (go_at_call 52; refine (want_no _).mono ?_; rintro e wq ⟨rfl, hw⟩; rw [hw]; clear hw)
    rw [HV.out]
    exact ⟨rfl, rfl, B0.out⟩
  have d2 : decide ((g.length : Int) ≤ 30) = true := by rw [decide_eq_true]; omega
  have HB : Hid (∀ _ : Unit, headsB g = (decide ((g.getD 0 default).params.length = 0) && headTo g g.length)) := fun _ => by rw [headsB, decide_eq_true (by omega), Bool.true_and]
  have hl0 : 0 < g.length := by omega
  obtain ⟨b, off, vs, hag, _, hc, hE⟩ := (RowC.below RuleE_stable HG.out B0.out).at hl0
  obtain ⟨p0, p1, rfl, hps, _⟩ := hE
  obtain ⟨ap, cp, rfl⟩ := hps.slice
  have n1 : (w.alloc (.cells #[.slice ag g.length cg] 30)).cell? ⟨b, off + 1, none⟩ = some (.slice ap g[0].params.length cp) := by have := hc 1 (by simp); simpa using this
  have i4 : (0 : Int) < (g.length : Int) := by omega
  have hpl := (HZ.out _ (List.getElem_mem hl0)).2
  have HE0 : Hid ((g.getD 0 default).params.length = g[0].params.length) := by rw [Hid, getR_is g 0 hl0]
  subst hag
  clear hc hps
  by_cases hp0 : g[0].params.length = 0
  · have q0 : ((g[0].params.length : Int) == 0) = true := by rw [hp0]; rfl
    have HB2 : Hid (∀ _ : Unit, headsB g = headTo g g.length) := fun _ => by rw [HB.out (), HE0.out, decide_eq_true hp0, Bool.true_and]
    clear hp0 HB HE0
    go_enter Tryz.func51, Tryz.ntmps51
    go_wp2_with (go_at_call 52; refine (want_yes _).mono ?_; rintro e wq ⟨rfl, hw⟩; rw [hw]; clear hw)
    go_loopw [26] (fun iv wr => ∃ k : Nat, iv = .int .i64 k ∧ k ≤ g.length ∧ headTo g k = true ∧ Below (w.heap.size + 1) (w.alloc (.cells #[.slice (some ⟨b, off, none⟩) g.length cg] 30)) wr) (fun iv _ => g.length - (intOf iv).toNat)
    case atStart => exact ⟨0, rfl, Nat.zero_le _, rfl, Below.refl _ _⟩
    case round =>
      obtain ⟨k, rfl, hk, hto, hbw⟩ := hrel
      have HTo : Hid (headTo g k = true) := hto
      have hsz : w.heap.size + 1 ≤ wr.heap.size := by have := hbw.size; simp at this; omega
      have BW : Hid (Below w.heap.size w wr) := B0.out.trans (hbw.mono (by omega))
      have cg1 : wr.cell? ⟨w.heap.size, 0, none⟩ = some (.slice (some ⟨b, off, none⟩) g.length cg) := (World.cell?_of_block (hbw.block w.heap.size (by omega))).trans b0
      have BV : Hid (Below (w.heap.size + 1) (w.alloc (.cells #[.slice (some ⟨b, off, none⟩) g.length cg] 30)) wr) := hbw
      clear hto hbw b0 n1 B0
      by_cases hlt : k < g.length
      · obtain ⟨b', off', vs, hag, _, hc, hE⟩ := (RowC.below RuleE_stable HG.out BW.out).at hlt
        cases hag
        obtain ⟨p0, p1, rfl, hps, hal⟩ := hE
        obtain ⟨ap, cp, rfl⟩ := hps.slice
        obtain ⟨aa, ca, rfl⟩ := hal.slice
        have n0 : wr.cell? ⟨b, off + k * 3, none⟩ = some (.string g[k].name) := hc 0 (by simp)
        have n1 : wr.cell? ⟨b, off + k * 3 + 1, none⟩ = some (.slice ap g[k].params.length cp) := hc 1 (by simp)
        have n2 : wr.cell? ⟨b, off + k * 3 + 2, none⟩ = some (.slice aa g[k].alts.length ca) := hc 2 (by simp)
        have i5 : (k : Int) < (g.length : Int) := by omega
        obtain ⟨hz1, hz2⟩ := HZ.out _ (List.getElem_mem hlt)
        have HNx : Hid (headTo g (k + 1) = headAt g k) := by rw [Hid, headTo_next, HTo.out, Bool.true_and]
        have HAt : Hid (∀ _ : Unit, headAt g k = (ruleNameB g[k].name && (decide (ruleAtI g g[k].name = (k : Int)) && paramsB g[k].params))) := fun _ => by rw [headAt, getR_is g k hlt]
        have HNo : Hid (headAt g k = false → headsB g = false) := fun h => head_no g k hlt h
        have B3 : Hid (Below w.heap.size w (wr.alloc (.cells #[.string g[k].name, .slice ap g[k].params.length cp, .slice aa g[k].alts.length ca] 40))) := BW.out.alloc BW.out.size _
        have BV3 : Hid (Below (w.heap.size + 1) (w.alloc (.cells #[.slice (some ⟨b, off, none⟩) g.length cg] 30)) (wr.alloc (.cells #[.string g[k].name, .slice ap g[k].params.length cp, .slice aa g[k].alts.length ca] 40))) := BV.out.alloc hsz _
        have s0 : (wr.alloc (.cells #[.string g[k].name, .slice ap g[k].params.length cp, .slice aa g[k].alts.length ca] 40)).cell? ⟨wr.heap.size, 0, none⟩ = some (.string g[k].name) := box_at _ _ _ 0 _ rfl
        have s1 : (wr.alloc (.cells #[.string g[k].name, .slice ap g[k].params.length cp, .slice aa g[k].alts.length ca] 40)).cell? ⟨wr.heap.size, 1, none⟩ = some (.slice ap g[k].params.length cp) := box_at _ _ _ 1 _ rfl
        have cg3 : (wr.alloc (.cells #[.string g[k].name, .slice ap g[k].params.length cp, .slice aa g[k].alts.length ca] 40)).cell? ⟨w.heap.size, 0, none⟩ = some (.slice (some ⟨b, off, none⟩) g.length cg) := cell_keep cg1 ((Below.refl _ _).alloc (Nat.le_refl _) _)
        have HRn : Hid (∀ W, _) := fun W => implRuleName_any g[k].name W hz1
        have HRa : Hid (∀ _ : Unit, _) := fun _ => implRuleAt_any (.slice (some ⟨b, off, none⟩) g.length cg) g g[k].name (wr.alloc (.cells #[.string g[k].name, .slice ap g[k].params.length cp, .slice aa g[k].alts.length ca] 40)) hgl (RowC.below RuleE_stable HG.out B3.out)
        have HSp : Hid (SRow (wr.alloc (.cells #[.string g[k].name, .slice ap g[k].params.length cp, .slice aa g[k].alts.length ca] 40)) (.slice ap g[k].params.length cp) g[k].params) := hps.below ((Below.refl _ _).alloc (Nat.le_refl _) _)
        clear hc hps hal cg1
        cases hn : ruleNameB g[k].name with
        | false =>
          rw [hn] at HRn
          have HV : Hid (headsB g = false) := HNo.out (by rw [HAt.out (), hn]; rfl)
          clear hn HNo HAt HNx HB2
          go_wp2_with (first
            | (go_at_call 68; refine (HRn.out _).mono ?_; rintro e wq ⟨rfl, hw⟩; rw [hw]; clear hw)
            | (go_at_call 52; refine (want_no _).mono ?_; rintro e wq ⟨rfl, hw⟩; rw [hw]; clear hw))
          rw [HV.out]
          exact ⟨rfl, rfl, B3.out⟩
        | true =>
          rw [hn] at HRn
          rw [hn] at HAt
          clear hn
          go_wp2_with (first
            | (go_at_call 68; refine (HRn.out _).mono ?_; rintro e wq ⟨rfl, hw⟩; rw [hw]; clear hw)
            | (go_at_call 52; refine (want_yes _).mono ?_; rintro e wq ⟨rfl, hw⟩; rw [hw]; clear hw))
          refine (HRa.out ()).mono ?_
          rintro e w3 ⟨rfl, hb3⟩
          have B4 : Hid (Below w.heap.size w w3) := B3.out.trans (hb3.mono B3.out.size)
          have BV4 : Hid (Below (w.heap.size + 1) (w.alloc (.cells #[.slice (some ⟨b, off, none⟩) g.length cg] 30)) w3) := BV3.out.trans (hb3.mono (by have := BV3.out.size; simp at this; simp; omega))
          have t1 := cell_keep s1 hb3
          have HCp : Hid (∀ _ : Unit, _) := fun _ => checkParams_any (.slice ap g[k].params.length cp) g[k].params w3 (HSp.out.below hb3) hz2
          clear hb3 s0 s1 cg3 n0 n1 n2 HRa HRn B3 BV3 HSp
          by_cases hr : ruleAtI g g[k].name = (k : Int)
          · rw [hr]
            have HAt2 : Hid (∀ _ : Unit, headAt g k = paramsB g[k].params) := fun _ => by rw [HAt.out (), decide_eq_true hr]; rfl
            clear hr HAt
            have qk : ((k : Int) == (k : Int)) = true := by simp
            cases hpb : paramsB g[k].params with
            | false =>
              rw [hpb] at HCp HAt2
              have HV : Hid (headsB g = false) := HNo.out (HAt2.out ())
              clear hpb HNo HAt2 HNx HB2
              go_wp2_with (first
                | (go_at_call 52; refine (want_yes _).mono ?_; rintro e wq ⟨rfl, hw⟩; rw [hw]; clear hw)
                | (go_at_call 70; refine (HCp.out ()).mono ?_; rintro e wq ⟨he, hw⟩; rw [hw, he, okE_no]; clear hw he))
              rw [HV.out]
              exact ⟨rfl, rfl, B4.out⟩
            | true =>
              rw [hpb] at HCp HAt2
              clear hpb HNo
              go_wp2_with (first
                | (go_at_call 52; refine (want_yes _).mono ?_; rintro e wq ⟨rfl, hw⟩; rw [hw]; clear hw)
                | (go_at_call 70; refine (HCp.out ()).mono ?_; rintro e wq ⟨he, hw⟩; rw [hw, he, okE_yes]; clear hw he))
              go_roundw
              case rel => exact ⟨k + 1, by go_num, by omega, by rw [HNx.out, HAt2.out ()], BV4.out⟩
              case measure => simp [intOf]; omega
          · have qk : (ruleAtI g g[k].name == (k : Int)) = false := by simpa using hr
            have HV : Hid (headsB g = false) := HNo.out (by rw [HAt.out (), decide_eq_false hr]; rfl)
            clear hr HAt HNo HNx HB2
            generalize ruleAtI g g[k].name = rr at *
            go_wp2_with (go_at_call 52; refine (want_no _).mono ?_; rintro e wq ⟨rfl, hw⟩; rw [hw]; clear hw)
            rw [HV.out]
            exact ⟨rfl, rfl, B4.out⟩
      · obtain rfl : k = g.length := by omega
        have HV : Hid (headsB g = true) := by rw [Hid, HB2.out (), HTo.out]
        clear HB2
        go_wp2
        go_end0
        rw [HV.out]
        exact ⟨rfl, BW.out⟩
  · have q0 : ((g[0].params.length : Int) == 0) = false := by simpa using hp0
    have HV : Hid (headsB g = false) := by rw [Hid, HB.out (), HE0.out, decide_eq_false hp0]; rfl
    clear hp0 HB HE0
    generalize g[0].params.length = np at *
    go_enter Tryz.func51, Tryz.ntmps51
    go_wp2_with (first
      | (go_at_call 52; refine (want_yes _).mono ?_; rintro e wq ⟨rfl, hw⟩; rw [hw]; clear hw)
      | (go_at_call 52; refine (want_no _).mono ?_; rintro e wq ⟨rfl, hw⟩; rw [hw]; clear hw))
    rw [HV.out]
    exact ⟨rfl, rfl, B0.out⟩

end Go.Proofs.YtcnkegkffmcdmaaGreatDoor
