/- The specification's l06Rule. -/
/- The specification's GrammarOk. -/
import Derived.Test.YtofpoiccghpliaaGreatDoorGPar
import Derived.Laws.AppendOwnNone
namespace Go.Proofs.YtofpoiccghpliaaGreatDoor
open Go.RowKit

def paramsOf (g : List RuleD) (name : ByteArray) : Int := if 0 ≤ ruleAtI g name then ((g.getD (ruleAtI g name).toNat default).params.length : Int) else -1
def symsF (g : List RuleD) : List ByteArray → List SymD → Bool
  | _, [] => true
  | kn, x :: xs => (symB x kn (paramsOf g x.text)).2 && symsF g (symB x kn (paramsOf g x.text)).1 xs
def altB (g : List RuleD) (ps : List ByteArray) (a : List SymD) : Bool := decide (a.length ≤ 8) && symsF g ps a
def ruleB (g : List RuleD) (r : RuleD) : Bool := ruleNameB r.name && paramsB r.params && decide ((1 : Int) ≤ r.alts.length ∧ (r.alts.length : Int) ≤ 8) && r.alts.all (altB g r.params)
theorem symB_len {x : SymD} {kn : List ByteArray} {p : Int} (hk : kn.length ≤ 6) (h : (symB x kn p).2 = true) : (symB x kn p).1.length ≤ 6 := by
  unfold symB at h ⊢
  split at h
  · rename_i h1; rw [if_pos h1]; exact hk
  · rename_i h1
    rw [if_neg h1]
    split at h
    · rename_i h2; rw [if_pos h2]; exact hk
    · rename_i h2
      rw [if_neg h2]
      split at h
      · rename_i h3; rw [if_pos h3]; exact hk
      · rename_i h3
        rw [if_neg h3]
        split at h
        · rename_i h4
          rw [if_pos h4]
          split at h
          · rename_i h5
            rw [if_pos h5]
            split at h
            · rename_i h6; rw [if_pos h6]; exact hk
            · rename_i h6
              rw [if_neg h6]
              simp only [Bool.and_eq_true, decide_eq_true_eq] at h
              exact h.2
          · cases h
        · cases h
theorem symsF_drop (g : List RuleD) (kn : List ByteArray) (xs : List SymD) (k : Nat) (h : k < xs.length) : symsF g kn (xs.drop k) = ((symB xs[k] kn (paramsOf g xs[k].text)).2 && symsF g (symB xs[k] kn (paramsOf g xs[k].text)).1 (xs.drop (k + 1))) := by
  rw [List.drop_eq_getElem_cons h, symsF]
theorem paramsB_len {ps : List ByteArray} (h : paramsB ps = true) : ps.length ≤ 6 := by
  rw [paramsB, Bool.and_eq_true] at h
  simpa using h.2
theorem symIn_args {x : SymD} (hx : symTot x ≤ 1048576) (hin : SymIn x) : ∀ ns ∈ x.args, NIn ns := fun ns hns => by
  have e : symTot x = x.text.size + rowTot exprTot x.args + x.bind.size := rfl
  have h1 := rowTot_mem exprTot hns
  have e2 : exprTot ns = ns.length + (ns.map fun y => y.name.size + y.kids.length).sum := rfl
  have hi := hin.2.2.1.2 ns hns
  refine ⟨by omega, fun y hy => ?_⟩
  have h2 : y.name.size + y.kids.length ≤ (ns.map fun y => y.name.size + y.kids.length).sum := sum_mem (fun y : NodeD => y.name.size + y.kids.length) hy
  have h3 := hi.2 y hy
  exact ⟨by omega, by omega, h3.1, h3.2.1, h3.2.2.2.2⟩

/-- A whole list of texts appended to one that the call owns; nil or not. -/
theorem append_texts {P : Program} {w : World} {ops : Array Oper} {rest : List Oper} {o : Oper} {a : Act} {Q : Exit → Act → World → Prop} (hgd : o.guard = none) (s x : Operand) (t : TypeId)
    (ho : o.op = .call { callee := .builtin .append, args := #[s, x], argTypes := #[t, t] })
    (base : Nat) (e : TypeId) (i : TypeInfo) (z : Value) (ht : P.underlying t = some (.slice e)) (hi : P.info? e = some i) (hz : i.zero = some z)
    (hsize : i.size = 1) (hby : i.bytes = 16) (hzs : z.cells.size = 1)
    (v : Value) (n : Nat) (xs : List Value) (hs : a.eval s = v) (hown : w.ownsRow base e 1 v n xs) (ps : List ByteArray) (pa : Option Addr) (c : Nat) (hx : a.eval x = .slice pa ps.length c) (hp : SRow w (.slice pa ps.length c) ps)
    (hl : n + ps.length ≤ 4194304) (hbase : base ≤ w.heap.size)
    (h : ∀ v' w', w'.ownsRow base e 1 v' (n + ps.length) (xs ++ sb ps) → w.grownBy w' v.ownBlock → wpList P ops Q rest (a.put o.dst v') w') : wpList P ops Q (o :: rest) a w := by
  obtain ⟨pa', c', e1, hcap, hh⟩ := hp
  cases e1
  cases pa with
  | none =>
    have h0 : ps.length = 0 := by
      rcases Nat.eq_zero_or_pos ps.length with h | h
      · exact h
      · obtain ⟨_, _, e, _⟩ := hh h
        cases e
    obtain rfl : ps = [] := List.length_eq_zero_iff.1 h0
    obtain rfl := hcap rfl
    refine wpList_append_own_none hgd s x t ho base e i 1 ht hi v n xs hs hown hx (h v w ?_ (World.grownBy.refl _ _))
    simpa [sb] using hown
  | some ad =>
    refine wpList_append_own w hgd s x t ho base e i z 1 16 ht hi hz hsize hby hzs (by decide) v n xs hs hown ad ps.length c (sb ps) hx (by rw [sb_len, Nat.mul_one]) (fun j u hj => ?_) (fun u hu => ?_) (by unfold maxLen; omega) (by omega) hbase (fun v' w' h1 h2 _ => h v' w' h1 h2)
    · have hj2 : j < ps.length := by
        have := (List.getElem?_eq_some_iff.1 hj).1
        rwa [sb_len] at this
      obtain ⟨b, off, e, _, hc⟩ := hh (by omega)
      cases e
      rw [sb_at ps j hj2] at hj
      rw [← Option.some.inj hj, Addr.add_lit]
      exact hc j hj2
    · obtain ⟨s, _, rfl⟩ := List.mem_map.1 hu
      rfl

set_option maxHeartbeats 6400000 in
set_option maxRecDepth 100000 in
theorem l06Rule_any (gv : Value) (g : List RuleD) (p0 p1 : Value) (r : RuleD) (w : World) (hg : grammarTot g ≤ 1048576) (hr : ruleTot r ≤ 1048576) (hrin : RuleIn r) (h : RowC 3 RuleE w gv g) (h1 : SRow w p0 r.params) (h2 : RowC 1 AltE w p1 r.alts) :
    Calls Tryz.prog 25 #[.agg #[gv], .agg #[.string r.name, p0, p1]] w fun e w' => e = .returned (.bool (ruleB g r)) ∧ Below w.heap.size w w' := by
  obtain ⟨i0, hi, hz0, hz1, hz2⟩ := info_parts Tryz.infoStr
  obtain ⟨ag, cg, rfl⟩ := h.slice
  obtain ⟨a0, c0, rfl⟩ := h1.slice
  obtain ⟨a1, c1, rfl⟩ := h2.slice
  have et : ruleTot r = r.name.size + rowTot ByteArray.size r.params + rowTot altTot r.alts := rfl
  have hgl : g.length ≤ 1048576 := Nat.le_trans (rowTot_len ruleTot g) hg
  have hns : r.name.size ≤ 1048576 := by omega
  have hpl : r.params.length ≤ 1048576 := Nat.le_trans (rowTot_len ByteArray.size r.params) (by omega)
  have hal : r.alts.length ≤ 1048576 := Nat.le_trans (rowTot_len altTot r.alts) (by omega)
  have HPz : Hid (∀ s ∈ r.params, s.size ≤ 1048576) := fun s hs => Nat.le_trans (rowTot_mem ByteArray.size hs) (by omega)
  have HAz : Hid (∀ x ∈ r.alts, altTot x ≤ 1048576 ∧ AltIn x) := fun x hx => ⟨Nat.le_trans (rowTot_mem altTot hx) (by omega), hrin.2.2.2 x hx⟩
  clear et hr hrin
  have B0 : Hid (Below w.heap.size w ((w.alloc (.cells #[.slice ag g.length cg] 30)).alloc (.cells #[.string r.name, .slice a0 r.params.length c0, .slice a1 r.alts.length c1] 43))) := ((Below.refl _ _).alloc (Nat.le_refl _) _).alloc (by simp) _
  have G0 : Hid (RowC 3 RuleE ((w.alloc (.cells #[.slice ag g.length cg] 30)).alloc (.cells #[.string r.name, .slice a0 r.params.length c0, .slice a1 r.alts.length c1] 43)) (.slice ag g.length cg) g) := RowC.below RuleE_stable h B0.out
  have P0 : Hid (SRow ((w.alloc (.cells #[.slice ag g.length cg] 30)).alloc (.cells #[.string r.name, .slice a0 r.params.length c0, .slice a1 r.alts.length c1] 43)) (.slice a0 r.params.length c0) r.params) := h1.below B0.out
  have A0 : Hid (RowC 1 AltE ((w.alloc (.cells #[.slice ag g.length cg] 30)).alloc (.cells #[.string r.name, .slice a0 r.params.length c0, .slice a1 r.alts.length c1] 43)) (.slice a1 r.alts.length c1) r.alts) := RowC.below AltE_stable h2 B0.out
  have cg0 : ((w.alloc (.cells #[.slice ag g.length cg] 30)).alloc (.cells #[.string r.name, .slice a0 r.params.length c0, .slice a1 r.alts.length c1] 43)).cell? ⟨w.heap.size, 0, none⟩ = some (.slice ag g.length cg) := box_two _ _ _ _ _ 0 _ rfl
  have cr1 : ((w.alloc (.cells #[.slice ag g.length cg] 30)).alloc (.cells #[.string r.name, .slice a0 r.params.length c0, .slice a1 r.alts.length c1] 43)).cell? ⟨w.heap.size + 1, 1, none⟩ = some (.slice a0 r.params.length c0) := box_two' _ _ _ _ _ 1 _ rfl
  have cr2 : ((w.alloc (.cells #[.slice ag g.length cg] 30)).alloc (.cells #[.string r.name, .slice a0 r.params.length c0, .slice a1 r.alts.length c1] 43)).cell? ⟨w.heap.size + 1, 2, none⟩ = some (.slice a1 r.alts.length c1) := box_two' _ _ _ _ _ 2 _ rfl
  have HNm : Hid (∀ W, _) := fun W => specRuleName_any r.name W hns
  clear h h1 h2
  cases hn : ruleNameB r.name with
  | false =>
    have HV : Hid (ruleB g r = false) := by rw [Hid, ruleB, hn]; rfl
    rw [hn] at HNm
    go_enter Tryz.func25, Tryz.ntmps25
    go_wp2_with (go_at_call 36; refine (HNm.out _).mono ?_; rintro e wq ⟨rfl, hw⟩; rw [hw]; clear hw)
    go_ret
    rw [HV.out]
    exact ⟨rfl, B0.out⟩
  | true =>
    rw [hn] at HNm
    have HPa : Hid (∀ W, SRow W (.slice a0 r.params.length c0) r.params → Calls Tryz.prog 37 #[.slice a0 r.params.length c0] W fun e w' => e = .returned (.bool (paramsB r.params)) ∧ Below W.heap.size W w') := fun W h => by
      refine (l06Params_any (.slice a0 r.params.length c0) r.params W hpl HPz.out h).mono ?_
      rintro e w' ⟨rfl, q, rfl⟩
      exact ⟨rfl, bel_drewN (Below.refl _ _) q⟩
    cases hp : paramsB r.params with
    | false =>
      have HV : Hid (ruleB g r = false) := by rw [Hid, ruleB, hn, hp]; rfl
      rw [hp] at HPa
      go_enter Tryz.func25, Tryz.ntmps25
      go_wp2_with (first
        | (go_at_call 36; refine (HNm.out _).mono ?_; rintro e wq ⟨rfl, hw⟩; rw [hw]; clear hw)
        | (go_at_call 37; refine (HPa.out _ P0.out).mono ?_; rintro e w1 ⟨rfl, hb1⟩))
      go_ret
      rw [HV.out]
      exact ⟨rfl, B0.out.trans (hb1.mono B0.out.size)⟩
    | true =>
      rw [hp] at HPa
      have hp6 := paramsB_len hp
      have HLn : Hid (∀ W, _) := fun W => in_any (r.alts.length : Int) 1 8 W
      by_cases hl : (1 : Int) ≤ r.alts.length ∧ (r.alts.length : Int) ≤ 8
      · have HV : Hid (ruleB g r = r.alts.all (altB g r.params)) := by rw [Hid, ruleB, hn, hp, decide_eq_true hl]; rfl
        rw [decide_eq_true hl] at HLn
        have hal8 : r.alts.length ≤ 8 := by omega
        go_enter Tryz.func25, Tryz.ntmps25
        go_wp2_with (first
          | (go_at_call 36; refine (HNm.out _).mono ?_; rintro e wq ⟨rfl, hw⟩; rw [hw]; clear hw)
          | (go_at_call 37; refine (HPa.out _ P0.out).mono ?_; rintro e w1 ⟨rfl, hb1⟩; have d2 := cell_keep cr2 hb1)
          | (go_at_call 23; refine (HLn.out _).mono ?_; rintro e wq ⟨rfl, hw⟩; rw [hw]; clear hw))
        clear d2 HNm HPa HLn hl hn hp
        have hsz : (((w.alloc (.cells #[.slice ag g.length cg] 30)).alloc (.cells #[.string r.name, .slice a0 r.params.length c0, .slice a1 r.alts.length c1] 43))).heap.size = w.heap.size + 2 := by simp
        have HB1 : Hid (Below (((w.alloc (.cells #[.slice ag g.length cg] 30)).alloc (.cells #[.string r.name, .slice a0 r.params.length c0, .slice a1 r.alts.length c1] 43))).heap.size (((w.alloc (.cells #[.slice ag g.length cg] 30)).alloc (.cells #[.string r.name, .slice a0 r.params.length c0, .slice a1 r.alts.length c1] 43))) w1) := hb1
        clear hb1
        generalize ((w.alloc (.cells #[.slice ag g.length cg] 30)).alloc (.cells #[.string r.name, .slice a0 r.params.length c0, .slice a1 r.alts.length c1] 43)) = W0 at *
        go_loopw [5] (fun iv wr => ∃ i : Nat, iv = .int .i64 i ∧ i ≤ r.alts.length ∧ (r.alts.take i).all (altB g r.params) = true ∧ Below W0.heap.size W0 wr) (fun iv _ => r.alts.length - (intOf iv).toNat)
        case atStart => exact ⟨0, rfl, Nat.zero_le _, rfl, HB1.out⟩
        case round =>
          obtain ⟨i, rfl, hil, hall, hb⟩ := hrel
          have HB : Hid (Below W0.heap.size W0 wr) := hb
          have HAl : Hid ((r.alts.take i).all (altB g r.params) = true) := hall
          have g0 := cell_keep cg0 hb
          have g1 := cell_keep cr1 hb
          have g2 := cell_keep cr2 hb
          clear hall HB1
          by_cases hlt : i < r.alts.length
          · have i4 : (i : Int) < (r.alts.length : Int) := by omega
            have HPr : Hid (SRow wr (.slice a0 r.params.length c0) r.params) := P0.out.below hb
            obtain ⟨b, off, vs, rfl, _, hc, hE⟩ := A0.out.at hlt
            obtain ⟨sv, rfl, hS⟩ := hE
            have N0 : W0.cell? ⟨b, off + i, none⟩ = some sv := by have h := hc 0 (by simp); rw [Nat.mul_one] at h; exact h
            have S0 : Hid (RowC 4 SymE W0 sv r.alts[i]) := hS
            obtain ⟨asx, csx, rfl⟩ := hS.slice
            have HAi := HAz.out _ (List.getElem_mem hlt)
            have HNx : Hid ((r.alts.take (i + 1)).all (altB g r.params) = altB g r.params r.alts[i]) := by
              rw [Hid, List.take_succ_eq_append_getElem hlt, List.all_append, HAl.out]
              simp
            have HNo : Hid (altB g r.params r.alts[i] = false → ruleB g r = false) := fun h => by
              rw [HV.out, List.all_eq_false]
              exact ⟨_, List.getElem_mem hlt, by rw [h]; decide⟩
            have hsl : r.alts[i].length ≤ 1048576 := Nat.le_trans (rowTot_len symTot r.alts[i]) HAi.1
            have HAt : Hid (∀ x ∈ r.alts[i], symTot x ≤ 1048576 ∧ SymIn x) := fun x hx => ⟨Nat.le_trans (rowTot_mem symTot hx) HAi.1, HAi.2.2 x hx⟩
            have n0 := cell_keep N0 hb
            clear hc hS hb HAi HAz
            generalize r.alts[i] = xs at *
            have hwz : W0.heap.size ≤ wr.heap.size := HB.out.size
            have bal := (Below.refl wr.heap.size wr).alloc (Nat.le_refl _) (.cells #[] 9)
            have O1 : Hid (OwnB wr.heap.size (.slice (some ⟨wr.heap.size, 0, none⟩) 0 0) [] (wr.alloc (.cells #[] 9))) := World.ownsRow_made _ _ _ (Nat.le_refl _) (by decide) rfl
            have e1 := cell_keep g1 bal
            have HP1 : Hid (SRow (wr.alloc (.cells #[] 9)) (.slice a0 r.params.length c0) r.params) := HPr.out.below bal
            have hws : wr.heap.size ≤ (wr.alloc (.cells #[] 9)).heap.size := by simp
            clear bal
            go_wp2_with (at_builtin; refine append_texts rfl _ _ 26 rfl wr.heap.size 9 i0 _ Tryz.underlying26 hi hz0 hz1 hz2 rfl _ _ _ rfl O1.out r.params a0 c0 rfl HP1.out (by simp; omega) hws ?_)
            intro o2 w2 ho2 hg2
            have HB2 : Hid (Below W0.heap.size W0 w2) := by
              have h3 : Below wr.heap.size wr w2 := ((Below.refl wr.heap.size wr).alloc (Nat.le_refl _) _).grown hg2 (by simp) (fun j hj => (World.ownsRow.lt O1.out j hj).1)
              exact HB.out.trans (h3.mono HB.out.size)
            have HO2 : Hid (SRow w2 o2 r.params) := by
              have h4 : OwnB wr.heap.size o2 r.params w2 := by simpa [OwnB, sb] using ho2
              exact h4.row
            clear ho2 hg2 O1 HP1 hws e1 g0 g1 g2 n0 HPr
            have f2 := cell_keep cr2 HB2.out
            have fn := cell_keep N0 HB2.out
            obtain ⟨ak, ck, rfl⟩ := HO2.out.slice
            by_cases h8 : xs.length ≤ 8
            · have h8' : (xs.length : Int) ≤ 8 := by omega
              have HAB : Hid (altB g r.params xs = symsF g r.params xs) := by rw [Hid, altB, decide_eq_true h8]; rfl
              go_wp2
              clear f2 fn
              go_loopw [6, 7] (fun kv iv ww => ∃ (kn : List ByteArray) (k : Nat), iv = .int .i64 k ∧ k ≤ xs.length ∧ kn.length ≤ 6 ∧ SRow ww kv kn ∧ symsF g kn (xs.drop k) = symsF g r.params xs ∧ Below W0.heap.size W0 ww) (fun _ iv _ => xs.length - (intOf iv).toNat)
              case atStart => exact ⟨r.params, 0, rfl, Nat.zero_le _, hp6, HO2.out, rfl, HB2.out⟩
              case round =>
                obtain ⟨kn, k, rfl, hk, hkn, hkv, hsy, hbw⟩ := hrel
                clear HB HB2 HO2
                have HB : Hid (Below W0.heap.size W0 wr) := hbw
                have HKn : Hid (SRow wr u6 kn) := hkv
                have HSy : Hid (symsF g kn (xs.drop k) = symsF g r.params xs) := hsy
                obtain ⟨akn, ckn, rfl⟩ := hkv.slice
                have f0 := cell_keep cg0 hbw
                have f2 := cell_keep cr2 hbw
                have fn := cell_keep N0 hbw
                by_cases hkl : k < xs.length
                · have HSd : Hid (_ = _) := symsF_drop g kn xs k hkl
                  obtain ⟨bs, ofs, vs, rfl, _, hcs, hEs⟩ := (RowC.below SymE_stable S0.out hbw).at hkl
                  obtain ⟨av, rfl, hAv⟩ := hEs
                  have s0 : wr.cell? ⟨bs, ofs + k * 4, none⟩ = some (.int .i64 xs[k].kind) := hcs 0 (by simp)
                  have s1 : wr.cell? ⟨bs, ofs + k * 4 + 1, none⟩ = some (.string xs[k].text) := hcs 1 (by simp)
                  have s2 : wr.cell? ⟨bs, ofs + k * 4 + 2, none⟩ = some av := hcs 2 (by simp)
                  have s3 : wr.cell? ⟨bs, ofs + k * 4 + 3, none⟩ = some (.string xs[k].bind) := hcs 3 (by simp)
                  have HAv : Hid (RowC 1 ExprE wr av xs[k].args) := hAv
                  obtain ⟨aa, ca, rfl⟩ := hAv.slice
                  have HXz := HAt.out _ (List.getElem_mem hkl)
                  have HSm : Hid (∀ (u : Value) (pn : Int) (W : World), Below wr.heap.size wr W → SRow W u kn → _) := fun u pn W hb hu => l06Sym_any (.slice aa xs[k].args.length ca) xs[k] u kn pn W HXz.1 (symIn_args HXz.1 HXz.2) (by omega) (RowC.below ExprE_stable HAv.out hb) hu
                  have HRa : Hid (∀ W, Below W0.heap.size W0 W → _) := fun W hb => specRuleAt_any (.slice ag g.length cg) g xs[k].text W hgl (RowC.below RuleE_stable G0.out hb)
                  clear hcs hAv hbw hkv hsy HXz
                  have bal1 := (Below.refl wr.heap.size wr).alloc (Nat.le_refl _) (.cells #[.int .i64 xs[k].kind, .string xs[k].text, .slice aa xs[k].args.length ca, .string xs[k].bind] 66)
                  have f0' := cell_keep f0 bal1
                  have x0 : (wr.alloc (.cells #[.int .i64 xs[k].kind, .string xs[k].text, .slice aa xs[k].args.length ca, .string xs[k].bind] 66)).cell? ⟨wr.heap.size, 0, none⟩ = some (.int .i64 xs[k].kind) := box_at _ _ _ 0 _ rfl
                  have x1 : (wr.alloc (.cells #[.int .i64 xs[k].kind, .string xs[k].text, .slice aa xs[k].args.length ca, .string xs[k].bind] 66)).cell? ⟨wr.heap.size, 1, none⟩ = some (.string xs[k].text) := box_at _ _ _ 1 _ rfl
                  have x2 : (wr.alloc (.cells #[.int .i64 xs[k].kind, .string xs[k].text, .slice aa xs[k].args.length ca, .string xs[k].bind] 66)).cell? ⟨wr.heap.size, 2, none⟩ = some (.slice aa xs[k].args.length ca) := box_at _ _ _ 2 _ rfl
                  have x3 : (wr.alloc (.cells #[.int .i64 xs[k].kind, .string xs[k].text, .slice aa xs[k].args.length ca, .string xs[k].bind] 66)).cell? ⟨wr.heap.size, 3, none⟩ = some (.string xs[k].bind) := box_at _ _ _ 3 _ rfl
                  have B1w : Hid (Below wr.heap.size wr (wr.alloc (.cells #[.int .i64 xs[k].kind, .string xs[k].text, .slice aa xs[k].args.length ca, .string xs[k].bind] 66))) := bal1
                  have B1 : Hid (Below W0.heap.size W0 (wr.alloc (.cells #[.int .i64 xs[k].kind, .string xs[k].text, .slice aa xs[k].args.length ca, .string xs[k].bind] 66))) := HB.out.trans (bal1.mono HB.out.size)
                  clear bal1
                  go_wp2_with fail
                  clear f0 f2 fn s0 s1 s2 s3
                  generalize (wr.alloc (.cells #[.int .i64 xs[k].kind, .string xs[k].text, .slice aa xs[k].args.length ca, .string xs[k].bind] 66)) = W1 at *
                  refine (HRa.out _ B1.out).mono ?_
                  rintro e w3 ⟨rfl, hb3⟩
                  have B3 : Hid (Below W0.heap.size W0 w3) := B1.out.trans (hb3.mono B1.out.size)
                  have B3w : Hid (Below wr.heap.size wr w3) := B1w.out.trans (hb3.mono B1w.out.size)
                  have HK3 : Hid (SRow w3 (.slice akn kn.length ckn) kn) := HKn.out.below B3w.out
                  have y0 := cell_keep x0 hb3
                  have y1 := cell_keep x1 hb3
                  have y2 := cell_keep x2 hb3
                  have y3 := cell_keep x3 hb3
                  have yg := cell_keep f0' hb3
                  clear x0 x1 x2 x3 f0' hb3
                  by_cases hat : 0 ≤ ruleAtI g xs[k].text
                  · obtain ⟨n, hn⟩ : ∃ n : Nat, ruleAtI g xs[k].text = (n : Int) := ⟨(ruleAtI g xs[k].text).toNat, by omega⟩
                    have hnl : n < g.length := by
                      have h5 : ruleAtI g xs[k].text < ((0 + g.length : Nat) : Int) := (atF_lt xs[k].text 0 g).1
                      omega
                    obtain ⟨bg, og, vs, rfl, _, hcg, hEg⟩ := (RowC.below RuleE_stable G0.out B3.out).at hnl
                    obtain ⟨q0, q1, rfl, hq0, _⟩ := hEg
                    have z1 : w3.cell? ⟨bg, og + n * 3 + 1, none⟩ = some q0 := hcg 1 (by simp)
                    obtain ⟨aq, cq, rfl⟩ := hq0.slice
                    have HPo : Hid (paramsOf g xs[k].text = ((g[n].params.length : Nat) : Int)) := by
                      rw [Hid, paramsOf, if_pos hat, hn, Int.toNat_natCast, List.getD, List.getElem?_eq_getElem hnl]
                      rfl
                    rw [hn]
                    have n4 : (n : Int) < (g.length : Int) := by omega
                    clear hcg hq0 hat hn
                    go_wp2_with fail
                    refine (HSm.out _ ((g[n].params.length : Nat) : Int) _ B3w.out HK3.out).mono ?_
                    rintro e w4 ⟨o4, rfl, hk4, hb4⟩
                    have B4 : Hid (Below W0.heap.size W0 w4) := B3.out.trans (hb4.mono B3.out.size)
                    clear hb4
                    cases hok : (symB xs[k] kn ((g[n].params.length : Nat) : Int)).2 with
                    | false =>
                      have HF : Hid (ruleB g r = false) := HNo.out (by rw [HAB.out, ← HSy.out, HSd.out, HPo.out, hok]; rfl)
                      clear hk4
                      go_wp2
                      go_ret
                      rw [HF.out]
                      exact ⟨rfl, B0.out.trans (B4.out.mono B0.out.size)⟩
                    | true =>
                      have HN6 : Hid ((symB xs[k] kn ((g[n].params.length : Nat) : Int)).1.length ≤ 6) := symB_len hkn hok
                      have HNs : Hid (symsF g (symB xs[k] kn ((g[n].params.length : Nat) : Int)).1 (xs.drop (k + 1)) = symsF g r.params xs) := by rw [Hid, ← HSy.out, HSd.out, HPo.out, hok]; rfl
                      have HK4 : Hid (SRow w4 o4 (symB xs[k] kn ((g[n].params.length : Nat) : Int)).1) := hk4
                      obtain ⟨ao4, co4, rfl⟩ := hk4.slice
                      clear hk4
                      generalize (symB xs[k] kn ((g[n].params.length : Nat) : Int)).1 = kn4 at *
                      go_wp2
                      go_roundw
                      case rel => exact ⟨kn4, k + 1, by go_num, by omega, HN6.out, HK4.out, HNs.out, B4.out⟩
                      case measure => simp [intOf]; omega
                  · have HPo : Hid (paramsOf g xs[k].text = -1) := by rw [Hid, paramsOf, if_neg hat]
                    have hat2 : ruleAtI g xs[k].text < 0 := by omega
                    go_wp2_with fail
                    refine (HSm.out _ (-1 : Int) _ B3w.out HK3.out).mono ?_
                    rintro e w4 ⟨o4, rfl, hk4, hb4⟩
                    have B4 : Hid (Below W0.heap.size W0 w4) := B3.out.trans (hb4.mono B3.out.size)
                    clear hb4
                    cases hok : (symB xs[k] kn (-1 : Int)).2 with
                    | false =>
                      have HF : Hid (ruleB g r = false) := HNo.out (by rw [HAB.out, ← HSy.out, HSd.out, HPo.out, hok]; rfl)
                      clear hk4
                      go_wp2
                      go_ret
                      rw [HF.out]
                      exact ⟨rfl, B0.out.trans (B4.out.mono B0.out.size)⟩
                    | true =>
                      have HN6 : Hid ((symB xs[k] kn (-1 : Int)).1.length ≤ 6) := symB_len hkn hok
                      have HNs : Hid (symsF g (symB xs[k] kn (-1 : Int)).1 (xs.drop (k + 1)) = symsF g r.params xs) := by rw [Hid, ← HSy.out, HSd.out, HPo.out, hok]; rfl
                      have HK4 : Hid (SRow w4 o4 (symB xs[k] kn (-1 : Int)).1) := hk4
                      obtain ⟨ao4, co4, rfl⟩ := hk4.slice
                      clear hk4
                      generalize (symB xs[k] kn (-1 : Int)).1 = kn4 at *
                      go_wp2
                      go_roundw
                      case rel => exact ⟨kn4, k + 1, by go_num, by omega, HN6.out, HK4.out, HNs.out, B4.out⟩
                      case measure => simp [intOf]; omega
                · obtain rfl : k = xs.length := by omega
                  have HT : Hid (symsF g r.params xs = true) := by rw [Hid, ← HSy.out, List.drop_of_length_le (Nat.le_refl _)]; rfl
                  clear hbw hkv hsy
                  go_wp2
                  go_roundw
                  case rel => exact ⟨i + 1, by go_num, by omega, by rw [HNx.out, HAB.out, HT.out], HB.out⟩
                  case measure => simp [intOf]; omega
            · have h8' : (8 : Int) < (xs.length : Int) := by omega
              have HF : Hid (ruleB g r = false) := HNo.out (by rw [altB, decide_eq_false h8]; rfl)
              go_wp2
              go_ret
              rw [HF.out]
              exact ⟨rfl, B0.out.trans (HB2.out.mono B0.out.size)⟩
          · obtain rfl : i = r.alts.length := by omega
            have HT : Hid (r.alts.all (altB g r.params) = true) := by
              have := HAl.out
              rwa [List.take_length] at this
            clear hb
            go_wp2
            go_ret
            rw [HV.out, HT.out]
            exact ⟨rfl, B0.out.trans (HB.out.mono B0.out.size)⟩
      · have HV : Hid (ruleB g r = false) := by rw [Hid, ruleB, hn, hp, decide_eq_false hl]; rfl
        rw [decide_eq_false hl] at HLn
        clear hl
        go_enter Tryz.func25, Tryz.ntmps25
        go_wp2_with (first
          | (go_at_call 36; refine (HNm.out _).mono ?_; rintro e wq ⟨rfl, hw⟩; rw [hw]; clear hw)
          | (go_at_call 37; refine (HPa.out _ P0.out).mono ?_; rintro e w1 ⟨rfl, hb1⟩; have d2 := cell_keep cr2 hb1)
          | (go_at_call 23; refine (HLn.out _).mono ?_; rintro e wq ⟨rfl, hw⟩; rw [hw]; clear hw))
        go_ret
        rw [HV.out]
        exact ⟨rfl, B0.out.trans (hb1.mono B0.out.size)⟩

end Go.Proofs.YtofpoiccghpliaaGreatDoor

namespace Go.Proofs.YtofpoiccghpliaaGreatDoor
open Go.RowKit

def gramAt (g : List RuleD) (i : Nat) : Bool := decide (ruleAtI g (g.getD i default).name = (i : Int)) && ruleB g (g.getD i default)
def gramTo (g : List RuleD) (k : Nat) : Bool := (List.range k).all (gramAt g)
def gramB (g : List RuleD) : Bool := decide ((1 : Int) ≤ g.length ∧ (g.length : Int) ≤ 30) && decide ((g.getD 0 default).params.length = 0) && gramTo g g.length
theorem gramTo_next (g : List RuleD) (k : Nat) : gramTo g (k + 1) = (gramTo g k && gramAt g k) := by
  rw [gramTo, List.range_succ, List.all_append, ← gramTo]
  simp
theorem gram_no (g : List RuleD) (k : Nat) (h : k < g.length) (hc : gramAt g k = false) : gramB g = false := by
  have : gramTo g g.length = false := by
    rw [gramTo, List.all_eq_false]
    exact ⟨k, List.mem_range.2 h, by rw [hc]; decide⟩
  rw [gramB, this, Bool.and_false]
theorem getR_is (g : List RuleD) (k : Nat) (h : k < g.length) : g.getD k default = g[k] := by
  simp only [List.getD, List.getElem?_eq_getElem h, Option.getD_some]

theorem keep4 {W W' : World} {a b c d : Addr} {x y z u : Value} (h : W.cell? a = some x ∧ W.cell? b = some y ∧ W.cell? c = some z ∧ W.cell? d = some u) (hb : Below W.heap.size W W') : W'.cell? a = some x ∧ W'.cell? b = some y ∧ W'.cell? c = some z ∧ W'.cell? d = some u :=
  ⟨cell_keep h.1 hb, cell_keep h.2.1 hb, cell_keep h.2.2.1 hb, cell_keep h.2.2.2 hb⟩

set_option maxHeartbeats 6400000 in
set_option maxRecDepth 100000 in
theorem specGrammarOk_any (v : Value) (g : List RuleD) (w : World) (hg : grammarTot g ≤ 1048576) (hin : GrammarIn g) (h : RowC 3 RuleE w v g) :
    Calls Tryz.prog 14 #[.agg #[v]] w fun e w' => e = .returned (.bool (gramB g)) ∧ Below w.heap.size w w' := by
  obtain ⟨a, cap, rfl⟩ := h.slice
  have hgl : g.length ≤ 1048576 := Nat.le_trans (rowTot_len ruleTot g) hg
  have B0 : Hid (Below w.heap.size w (w.alloc (.cells #[.slice a g.length cap] 30))) := (Below.refl _ _).alloc (Nat.le_refl _) _
  have G0 : Hid (RowC 3 RuleE (w.alloc (.cells #[.slice a g.length cap] 30)) (.slice a g.length cap) g) := RowC.below RuleE_stable h B0.out
  have c0 : (w.alloc (.cells #[.slice a g.length cap] 30)).cell? ⟨w.heap.size, 0, none⟩ = some (.slice a g.length cap) := box_at _ _ _ 0 _ rfl
  have HIn : Hid (∀ r ∈ g, ruleTot r ≤ 1048576 ∧ RuleIn r) := fun r hr => ⟨Nat.le_trans (rowTot_mem ruleTot hr) hg, hin.2 r hr⟩
  have HG : Hid (grammarTot g ≤ 1048576) := hg
  have HLn : Hid (∀ W, _) := fun W => in_any (g.length : Int) 1 30 W
  clear h hg hin
  by_cases hl : (1 : Int) ≤ g.length ∧ (g.length : Int) ≤ 30
  · rw [decide_eq_true hl] at HLn
    have h0 : 0 < g.length := by omega
    have h30 : g.length ≤ 30 := by omega
    have HV0 : Hid (gramB g = (decide (g[0].params.length = 0) && gramTo g g.length)) := by rw [Hid, gramB, decide_eq_true hl, getR_is g 0 h0]; rfl
    clear hl
    obtain ⟨b, off, vs, rfl, _, hc, hE⟩ := G0.out.at h0
    obtain ⟨q0, q1, rfl, hq0, _⟩ := hE
    have z1 : (w.alloc (.cells #[.slice (some ⟨b, off, none⟩) g.length cap] 30)).cell? ⟨b, off + 1, none⟩ = some q0 := by have h := hc 1 (by simp); rw [Nat.zero_mul] at h; exact h
    obtain ⟨aq, cq, rfl⟩ := hq0.slice
    clear hc hq0
    by_cases hp : g[0].params.length = 0
    · have hp1 : ¬ (0 : Int) < (g[0].params.length : Int) := by omega
      have hp2 : decide (0 < g[0].params.length) = false := by rw [decide_eq_false]; omega
      have HV : Hid (gramB g = gramTo g g.length) := by rw [Hid, HV0.out, decide_eq_true hp]; rfl
      have i0 : (0 : Int) < (g.length : Int) := by omega
      clear hp HV0
      go_enter Tryz.func14, Tryz.ntmps14
      go_wp2_with (go_at_call 23; refine (HLn.out _).mono ?_; rintro e wq ⟨rfl, hw⟩; rw [hw]; clear hw)
      (try simp only [hp2])
      clear z1 hp1 hp2
      generalize w.alloc (.cells #[.slice (some ⟨b, off, none⟩) g.length cap] 30) = W0 at *
      go_loopw [3] (fun iv wr => ∃ k : Nat, iv = .int .i64 k ∧ k ≤ g.length ∧ gramTo g k = true ∧ Below W0.heap.size W0 wr) (fun iv _ => g.length - (intOf iv).toNat)
      case atStart => exact ⟨0, rfl, Nat.zero_le _, rfl, Below.refl _ _⟩
      case round =>
        obtain ⟨k, rfl, hk, hto, hb⟩ := hrel
        have HTo : Hid (gramTo g k = true) := hto
        have HB : Hid (Below W0.heap.size W0 wr) := hb
        have f0 := cell_keep c0 hb
        clear hto
        by_cases hlt : k < g.length
        · have HNx : Hid (_ = _) := gramTo_next g k
          have HAt : Hid (gramAt g k = (decide (ruleAtI g g[k].name = (k : Int)) && ruleB g g[k])) := by rw [Hid, gramAt, getR_is g k hlt]
          have HNo : Hid (gramAt g k = false → gramB g = false) := gram_no g k hlt
          obtain ⟨b2, off2, vs, e2, _, hc, hE⟩ := (RowC.below RuleE_stable G0.out hb).at hlt
          cases e2
          obtain ⟨p0, p1, rfl, hp0, hp1⟩ := hE
          have n0 : wr.cell? ⟨b, off + k * 3, none⟩ = some (.string g[k].name) := hc 0 (by simp)
          have n1 : wr.cell? ⟨b, off + k * 3 + 1, none⟩ = some p0 := hc 1 (by simp)
          have n2 : wr.cell? ⟨b, off + k * 3 + 2, none⟩ = some p1 := hc 2 (by simp)
          have HP0 : Hid (SRow wr p0 g[k].params) := hp0
          have HP1 : Hid (RowC 1 AltE wr p1 g[k].alts) := hp1
          obtain ⟨aa0, ca0, rfl⟩ := hp0.slice
          obtain ⟨aa1, ca1, rfl⟩ := hp1.slice
          have HRi := HIn.out _ (List.getElem_mem hlt)
          have i4 : (k : Int) < (g.length : Int) := by omega
          have BD : Hid (Below W0.heap.size W0 wr.drew) := bel_drewN hb 1
          have HRa : Hid (∀ W, Below W0.heap.size W0 W → _) := fun W hb => specRuleAt_any (.slice (some ⟨b, off, none⟩) g.length cap) g g[k].name W hgl (RowC.below RuleE_stable G0.out hb)
          have HRu : Hid (∀ W, Below wr.heap.size wr W → _) := fun W hbw => l06Rule_any (.slice (some ⟨b, off, none⟩) g.length cap) g (.slice aa0 g[k].params.length ca0) (.slice aa1 g[k].alts.length ca1) g[k] W HG.out HRi.1 HRi.2 (RowC.below RuleE_stable G0.out (HB.out.trans (hbw.mono HB.out.size))) (HP0.out.below hbw) (RowC.below AltE_stable HP1.out hbw)
          clear hc hp0 hp1 hb HRi
          by_cases hat : ruleAtI g g[k].name = (k : Int)
          · have hat1 : (ruleAtI g g[k].name != (k : Int)) = false := by rw [hat]; simp
            cases hr : ruleB g g[k] with
            | true =>
              have HY : Hid (gramTo g (k + 1) = true) := by rw [Hid, HNx.out, HTo.out, HAt.out, decide_eq_true hat, hr]; rfl
              rw [hr] at HRu
              rw [hat] at HRa
              clear hat hat1
              go_wp2
              go_region_held3 (fun W => W.cell? ⟨w.heap.size, 0, none⟩ = some (.slice (some ⟨b, off, none⟩) g.length cap) ∧ W.cell? ⟨b, off + k * 3, none⟩ = some (.string g[k].name) ∧ W.cell? ⟨b, off + k * 3 + 1, none⟩ = some (.slice aa0 g[k].params.length ca0) ∧ W.cell? ⟨b, off + k * 3 + 2, none⟩ = some (.slice aa1 g[k].alts.length ca1))
                ((first | exact keep4 (by assumption) hb4 | exact keep4 (by assumption) hb3 | go_keep))
                ((first
                  | (go_at_call 25; refine (HRu.out _ (bel_of_drew hb3)).mono ?_; rintro e w4 ⟨rfl, hb4⟩)
                  | (go_at_call 24; refine (HRa.out _ BD.out).mono ?_; rintro e w3 ⟨rfl, hb3⟩)))
              have B4 : Hid (Below W0.heap.size W0 w4) := by
                have h3 := BD.out.trans (hb3.mono BD.out.size)
                exact h3.trans (hb4.mono h3.size)
              clear hb3 hb4
              go_wp2
              go_roundw
              case rel => exact ⟨k + 1, by go_num, by omega, HY.out, B4.out⟩
              case measure => simp [intOf]; omega
            | false =>
              have HF : Hid (gramB g = false) := HNo.out (by rw [HAt.out, hr, Bool.and_false])
              rw [hr] at HRu
              rw [hat] at HRa
              clear hat hat1
              go_wp2
              go_region_held3 (fun W => W.cell? ⟨w.heap.size, 0, none⟩ = some (.slice (some ⟨b, off, none⟩) g.length cap) ∧ W.cell? ⟨b, off + k * 3, none⟩ = some (.string g[k].name) ∧ W.cell? ⟨b, off + k * 3 + 1, none⟩ = some (.slice aa0 g[k].params.length ca0) ∧ W.cell? ⟨b, off + k * 3 + 2, none⟩ = some (.slice aa1 g[k].alts.length ca1))
                ((first | exact keep4 (by assumption) hb4 | exact keep4 (by assumption) hb3 | go_keep))
                ((first
                  | (go_at_call 25; refine (HRu.out _ (bel_of_drew hb3)).mono ?_; rintro e w4 ⟨rfl, hb4⟩)
                  | (go_at_call 24; refine (HRa.out _ BD.out).mono ?_; rintro e w3 ⟨rfl, hb3⟩)))
              have B4 : Hid (Below W0.heap.size W0 w4) := by
                have h3 := BD.out.trans (hb3.mono BD.out.size)
                exact h3.trans (hb4.mono h3.size)
              clear hb3 hb4
              go_wp2
              go_ret
              rw [HF.out]
              exact ⟨rfl, B0.out.trans (B4.out.mono B0.out.size)⟩
          · have hat1 : (ruleAtI g g[k].name != (k : Int)) = true := by simpa using hat
            have HF : Hid (gramB g = false) := HNo.out (by rw [HAt.out, decide_eq_false hat]; rfl)
            clear hat
            go_wp2
            first | (go_region_law ((go_simp; go_at_call 24; refine (HRa.out _ BD.out).mono ?_; rintro e w3 ⟨rfl, hb3⟩; have t0 := cell_keep (W := wr.drew) f0 hb3; have t1 := cell_keep (W := wr.drew) n0 hb3; try go_wp2))) | fail
            all_goals
              have B4 : Hid (Below W0.heap.size W0 w3) := BD.out.trans (hb3.mono BD.out.size)
              (try go_wp2)
              go_ret
              rw [HF.out]
              exact ⟨rfl, B0.out.trans (B4.out.mono B0.out.size)⟩
        · obtain rfl : k = g.length := by omega
          have HT : Hid (gramB g = true) := by rw [Hid, HV.out, HTo.out]
          clear hb
          go_wp2
          go_ret
          rw [HT.out]
          exact ⟨rfl, B0.out.trans (HB.out.mono B0.out.size)⟩
    · have hp1 : (0 : Int) < (g[0].params.length : Int) := by omega
      have HV : Hid (gramB g = false) := by rw [Hid, HV0.out, decide_eq_false hp]; rfl
      have i0 : (0 : Int) < (g.length : Int) := by omega
      clear hp HV0
      go_enter Tryz.func14, Tryz.ntmps14
      go_wp2_with (go_at_call 23; refine (HLn.out _).mono ?_; rintro e wq ⟨rfl, hw⟩; rw [hw]; clear hw)
      go_ret
      rw [HV.out]
      exact ⟨rfl, B0.out⟩
  · have HV : Hid (gramB g = false) := by rw [Hid, gramB, decide_eq_false hl]; rfl
    rw [decide_eq_false hl] at HLn
    clear hl
    go_enter Tryz.func14, Tryz.ntmps14
    go_wp2_with (go_at_call 23; refine (HLn.out _).mono ?_; rintro e wq ⟨rfl, hw⟩; rw [hw]; clear hw)
    go_ret
    rw [HV.out]
    exact ⟨rfl, B0.out⟩

end Go.Proofs.YtofpoiccghpliaaGreatDoor
