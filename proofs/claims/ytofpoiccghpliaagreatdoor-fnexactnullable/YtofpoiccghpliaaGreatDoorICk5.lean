/- What the program knows in a row of syms, in the order in which it came, and what the specification knows, in its order: the same names, as many. -/
/- The program's checkAlt: what is known goes on from sym to sym. -/
import Derived.Test.YtofpoiccghpliaaGreatDoorICk4
import Derived.Lib.SliceRun
namespace Go.Proofs.YtofpoiccghpliaaGreatDoor
open Go.RowKit

def SameK (a b : List ByteArray) : Prop := a.length = b.length ∧ ∀ s, s ∈ a ↔ s ∈ b
theorem SameK.refl (a : List ByteArray) : SameK a a := ⟨rfl, fun _ => Iff.rfl⟩
theorem inB_same {a b : List ByteArray} (h : SameK a b) (s : ByteArray) : inB a s = inB b s := by
  rw [Bool.eq_iff_iff, inB_iff, inB_iff]; exact h.2 s
theorem knownB_same {a b : List ByteArray} (h : SameK a b) (ns : List NodeD) : knownB ns a = knownB ns b := by
  have : inB a = inB b := funext (inB_same h)
  rw [knownB, knownB, this]
theorem argsB_same {a b : List ByteArray} (h : SameK a b) (xs : List (List NodeD)) : argsB xs a = argsB xs b := by
  have : (fun ns => knownB ns a) = (fun ns => knownB ns b) := funext (knownB_same h)
  rw [argsB, argsB, this]
theorem filt_two {ss : List ByteArray} {s : ByteArray} (h : ∀ x ∈ ss, ¬ x = s) : (ss.filter (fun t => ltS t s)).length + (ss.filter (fun t => gtS t s)).length = ss.length := by
  induction ss with
  | nil => rfl
  | cons y ys ih =>
    have h1 := ih fun x hx => h x (List.mem_cons_of_mem _ hx)
    have hy := h y (List.mem_cons_self ..)
    rw [List.filter_cons, List.filter_cons, gt_iff]
    rcases lt_tri y s with hl | he | hl
    · rw [hl, lt_asymm' hl]
      simp only [Bool.false_eq_true, if_false, if_true, List.length_cons]
      omega
    · exact absurd he hy
    · rw [hl, lt_asymm' hl]
      simp only [Bool.false_eq_true, if_false, if_true, List.length_cons]
      omega
theorem putS_new {ss : List ByteArray} {s : ByteArray} (h : inB ss s = false) : (putS ss s).length = ss.length + 1 := by
  have hn : ∀ x ∈ ss, ¬ x = s := fun x hx e => by
    rw [e] at hx
    rw [(inB_iff ss s).2 hx] at h
    cases h
  have := filt_two hn
  rw [putS, List.length_append, List.length_append, List.length_singleton]
  omega

def knI (x : SymD) (kn : List ByteArray) : List ByteArray := if x.bind = noS then kn else kn ++ [x.bind]
def symsI (g : List RuleD) : List ByteArray → List SymD → Bool
  | _, [] => true
  | kn, x :: xs => symI g x kn && symsI g (knI x kn) xs
theorem symsI_drop (g : List RuleD) (kn : List ByteArray) (xs : List SymD) (k : Nat) (h : k < xs.length) : symsI g kn (xs.drop k) = (symI g xs[k] kn && symsI g (knI xs[k] kn) (xs.drop (k + 1))) := by
  rw [List.drop_eq_getElem_cons h, symsI]

theorem call_is (g : List RuleD) (x : SymD) (kn : List ByteArray) : (callB g x kn && argsB x.args kn) = (if (decide ((x.args.length : Int) = paramsOf g x.text) && argsB x.args kn) = true then (if x.bind = noS then (kn, true) else (putS kn x.bind, nameB x.bind && !(inB kn x.bind) && decide ((putS kn x.bind).length ≤ 6))) else (kn, false)).2 := by
  rw [callB]
  by_cases hp : (x.args.length : Int) = paramsOf g x.text
  · have h0 : 0 ≤ ruleAtI g x.text := by
      rw [paramsOf] at hp
      split at hp
      · assumption
      · omega
    rw [decide_eq_true h0, decide_eq_true hp, Bool.true_and, Bool.true_and, Bool.true_and]
    cases ha : argsB x.args kn with
    | false => simp
    | true =>
      rw [if_pos rfl, Bool.and_true]
      by_cases hb : x.bind = noS
      · rw [if_pos hb, decide_eq_true hb]; rfl
      · rw [if_neg hb, decide_eq_false hb, Bool.false_or]
        cases hi : inB kn x.bind with
        | true => simp
        | false =>
          rw [putS_new hi]
          congr 1
  · rw [decide_eq_false hp]; simp

theorem symI_is (g : List RuleD) (x : SymD) (kn : List ByteArray) : symI g x kn = (symB x kn (paramsOf g x.text)).2 := by
  rw [symI, symB]
  by_cases k1 : x.kind = 1
  · rw [if_pos k1, if_pos k1, ← Bool.and_assoc]
  · rw [if_neg k1, if_neg k1]
    by_cases k2 : x.kind = 2
    · rw [if_pos k2, if_pos k2, ← Bool.and_assoc]
    · rw [if_neg k2, if_neg k2]
      by_cases k3 : x.kind = 3
      · rw [if_pos k3, if_neg (by omega), if_pos k3]
        exact call_is g x kn
      · rw [if_neg k3]
        by_cases k4 : x.kind = 4
        · rw [if_pos k4, if_pos k4]
          show _ = (decide (x.text = noS) && decide (x.bind = noS) && decide (x.args.length = 1) && argsB x.args kn)
          cases decide (x.args.length = 1) <;> cases decide (x.text = noS) <;> cases decide (x.bind = noS) <;> rfl
        · rw [if_neg k4, if_neg k4, if_neg k3]
theorem symI_same {g : List RuleD} {x : SymD} {a b : List ByteArray} (h : SameK a b) : symI g x a = symI g x b := by
  rw [symI, symI, callB, callB, argsB_same h, inB_same h, h.1]
theorem known_is {g : List RuleD} {x : SymD} {kn kn' : List ByteArray} (h : SameK kn kn') (hs : symI g x kn = true) : SameK (symB x kn (paramsOf g x.text)).1 (knI x kn') := by
  have keep : x.bind = noS → SameK kn (knI x kn') := fun hb => by rw [knI, if_pos hb]; exact h
  rw [symI_is] at hs
  rw [symB] at hs ⊢
  by_cases k1 : x.kind = 1
  · rw [if_pos k1] at hs ⊢
    simp only [Bool.and_eq_true, decide_eq_true_eq] at hs
    exact keep hs.2
  · rw [if_neg k1] at hs ⊢
    by_cases k2 : x.kind = 2
    · rw [if_pos k2] at hs ⊢
      simp only [Bool.and_eq_true, decide_eq_true_eq] at hs
      exact keep hs.2
    · rw [if_neg k2] at hs ⊢
      by_cases k4 : x.kind = 4
      · rw [if_pos k4] at hs ⊢
        simp only [Bool.and_eq_true, decide_eq_true_eq] at hs
        exact keep hs.1.1.2
      · rw [if_neg k4] at hs ⊢
        by_cases k3 : x.kind = 3
        · rw [if_pos k3] at hs ⊢
          by_cases hc : (decide ((x.args.length : Int) = paramsOf g x.text) && argsB x.args kn) = true
          · rw [if_pos hc] at hs ⊢
            by_cases hb : x.bind = noS
            · rw [if_pos hb] at hs ⊢
              exact keep hb
            · rw [if_neg hb] at hs ⊢
              simp only [Bool.and_eq_true, Bool.not_eq_true'] at hs
              refine ⟨?_, fun s => ?_⟩
              · rw [putS_new hs.1.2, knI, if_neg hb, List.length_append, h.1]; rfl
              · rw [mem_putS, knI, if_neg hb, List.mem_append, h.2 s, List.mem_singleton]
          · rw [if_neg hc] at hs
            cases hs
        · rw [if_neg k3] at hs
          cases hs
theorem syms_is (g : List RuleD) : ∀ (xs : List SymD) {kn kn' : List ByteArray}, SameK kn kn' → symsI g kn' xs = symsF g kn xs
  | [], _, _, _ => rfl
  | x :: xs, kn, kn', h => by
    rw [symsI, symsF, ← symI_same h, ← symI_is]
    cases hs : symI g x kn with
    | false => rfl
    | true => rw [syms_is g xs (known_is h hs)]
theorem altB_is (g : List RuleD) (ps : List ByteArray) (a : List SymD) : altB g ps a = (decide (a.length ≤ 8) && symsI g ps a) := by
  rw [altB, syms_is g a (SameK.refl ps)]
theorem knI_len {g : List RuleD} {x : SymD} {kn : List ByteArray} (hk : kn.length ≤ 6) (h : symI g x kn = true) : (knI x kn).length ≤ 6 := by
  rw [← (known_is (SameK.refl kn) h).1]
  rw [symI_is] at h
  exact symB_len hk h

end Go.Proofs.YtofpoiccghpliaaGreatDoor

namespace Go.Proofs.YtofpoiccghpliaaGreatDoor
open Go.RowKit

theorem ownB_snoc' {B : Nat} {o v' : Value} {ys : List ByteArray} {x : ByteArray} {wr w2 : World} {ob : Obj} (hown2 : w2.ownsRow B 9 1 v' (ys.length + 1) (sb ys ++ [.string x])) (hown : OwnB B o ys wr) (hgrow : (wr.alloc ob).grownBy w2 o.ownBlock)
    {w : World} (hB : B ≤ wr.heap.size) (hb : Below B w wr) : OwnB B v' (ys ++ [x]) w2 ∧ Below B w w2 := by
  refine ⟨?_, ?_⟩
  · rw [OwnB, List.length_append, sb, List.map_append]
    exact hown2
  · exact (hb.alloc hB ob).grown hgrow (by simp; omega) (fun k hk => (hown.lt k hk).1)

set_option maxHeartbeats 1600000 in
theorem clones_any (v : Value) (ps : List ByteArray) (w : World) (hn : ps.length ≤ 1048576) (h : SRow w v ps) :
    Calls Tryz.prog 72 #[v] w fun e w' => ∃ o, e = .returned o ∧ OwnB w.heap.size o ps w' ∧ Below w.heap.size w w' := by
  obtain ⟨i0, hi, hz0, hz1, hz2⟩ := info_parts Tryz.infoStr
  have q24 : ∀ (w : World) (a : Option Addr) (n c n' c' : Nat), (binOp .eql 26 (.slice a n c) (.slice none n' c')).run Tryz.prog w = .ok (.bool a.isNone) w := fun w a n c n' c' => Lib.run_eql_slice_nil w _ _ a n c n' c' Tryz.underlying26
  have HR : Hid (SRow w v ps) := h
  obtain ⟨a, cap, rfl, hcap, hh⟩ := h
  cases a with
  | none =>
    have h0 : ps.length = 0 := by
      rcases Nat.eq_zero_or_pos ps.length with h | h
      · exact h
      · obtain ⟨_, _, e, _⟩ := hh h
        cases e
    obtain rfl : ps = [] := List.length_eq_zero_iff.1 h0
    obtain rfl := hcap rfl
    clear hh hcap h0
    go_enter Tryz.func72, Tryz.ntmps72
    go_wp2
    go_ret
    exact ⟨_, rfl, ⟨rfl, .inl ⟨rfl, rfl⟩⟩, Below.refl _ _⟩
  | some ad =>
    clear hh hcap
    have B0 : Hid (Below w.heap.size w (w.alloc (.cells #[] 9))) := (Below.refl _ _).alloc (Nat.le_refl _) _
    have O0 : Hid ((w.alloc (.cells #[] 9)).ownsRow w.heap.size 9 1 (.slice (some ⟨w.heap.size, 0, none⟩) 0 0) 0 []) := World.ownsRow_made (base := w.heap.size) w #[] 0 (e := 9) (size := 1) (Nat.le_refl _) (by decide) rfl
    have HR0 : Hid (SRow (w.alloc (.cells #[] 9)) (.slice (some ad) ps.length cap) ps) := HR.out.below B0.out
    go_enter Tryz.func72, Tryz.ntmps72
    go_wp2_with (at_builtin; refine append_texts rfl _ _ 26 rfl w.heap.size 9 i0 _ Tryz.underlying26 hi hz0 hz1 hz2 rfl _ 0 [] rfl O0.out ps (some ad) cap rfl HR0.out (by omega) (by simp) ?_)
    intro v' w' hown hgrow
    have B1 : Hid (Below w.heap.size w w') := B0.out.grown hgrow (by simp) (by intro k hk; simp [Value.ownBlock] at hk; omega)
    have O1 : Hid (OwnB w.heap.size v' ps w') := by simpa [Hid, OwnB] using hown
    clear hown hgrow
    go_wp2
    go_ret
    exact ⟨_, rfl, O1.out, B1.out⟩

set_option maxHeartbeats 6400000 in
set_option maxRecDepth 100000 in
theorem checkAlt_any (gv : Value) (g : List RuleD) (s0 : Value) (a : List SymD) (u : Value) (ps : List ByteArray) (w : World) (hErr : errTy w) (hg : g.length ≤ 1048576) (hx : altTot a ≤ 1048576) (hk : ps.length ≤ 6)
    (h : RowC 3 RuleE w gv g) (hp0 : ∀ r ∈ g, r.params.length ≤ 1048576) (h1 : RowC 4 SymE w s0 a) (h2 : SRow w u ps) :
    Calls Tryz.prog 59 #[.agg #[gv], .agg #[s0], u] w fun e w' => e = okE (altB g ps a) ∧ Below w.heap.size w w' := by
  obtain ⟨i0, hi, hz0, hz1, hz2⟩ := info_parts Tryz.infoStr
  have HErr : Hid (errTy w) := hErr
  have HG : Hid (RowC 3 RuleE w gv g) := h
  have HX : Hid (RowC 4 SymE w s0 a) := h1
  have HK : Hid (SRow w u ps) := h2
  have HP : Hid (∀ r ∈ g, r.params.length ≤ 1048576) := hp0
  have HZ : Hid (∀ x ∈ a, symTot x ≤ 1048576) := fun x hxa => Nat.le_trans (rowTot_mem symTot hxa) hx
  have HB : Hid (∀ _ : Unit, altB g ps a = (decide (a.length ≤ 8) && symsI g ps a)) := fun _ => altB_is g ps a
  have hal : a.length ≤ 1048576 := Nat.le_trans (rowTot_len symTot a) hx
  obtain ⟨ag, cg, rfl⟩ := h.slice
  obtain ⟨a0, c0, rfl⟩ := h1.slice
  obtain ⟨ak, ck, rfl⟩ := h2.slice
  clear h h1 h2 hp0 hx hErr
  have B0 : Hid (Below w.heap.size w ((w.alloc (.cells #[.slice ag g.length cg] 30)).alloc (.cells #[.slice a0 a.length c0] 63))) := ((Below.refl _ _).alloc (Nat.le_refl _) _).alloc (by simp) _
  have b0 : ((w.alloc (.cells #[.slice ag g.length cg] 30)).alloc (.cells #[.slice a0 a.length c0] 63)).cell? ⟨w.heap.size, 0, none⟩ = some (.slice ag g.length cg) := box_two _ _ _ _ _ 0 _ rfl
  have b1 : ((w.alloc (.cells #[.slice ag g.length cg] 30)).alloc (.cells #[.slice a0 a.length c0] 63)).cell? ⟨w.heap.size + 1, 0, none⟩ = some (.slice a0 a.length c0) := box_two' _ _ _ _ _ 0 _ rfl
  by_cases h8 : a.length ≤ 8
  · have d8 : decide ((a.length : Int) ≤ 8) = true := by rw [decide_eq_true]; omega
    have HC : Hid (∀ _ : Unit, _) := fun _ => clones_any (.slice ak ps.length ck) ps ((w.alloc (.cells #[.slice ag g.length cg] 30)).alloc (.cells #[.slice a0 a.length c0] 63)) (by omega) (HK.out.below B0.out)
    have HV0 : Hid (∀ _ : Unit, altB g ps a = symsI g ps a) := fun _ => by rw [HB.out (), decide_eq_true h8, Bool.true_and]
    go_enter Tryz.func59, Tryz.ntmps59
    go_wp2_with (go_at_call 58; refine (want_yes _).mono ?_; rintro e wq ⟨rfl, hw⟩; rw [hw]; clear hw)
    refine (HC.out ()).mono ?_
    rintro e w1 ⟨o, rfl, ho, hb1⟩
    have B1 : Hid (Below w.heap.size w w1) := B0.out.trans (hb1.mono B0.out.size)
    have O1 : Hid (OwnB (w.heap.size + 2) o ps w1) := by
      have := ho
      simp at this
      exact this
    have C0 : Hid (w1.cell? ⟨w.heap.size, 0, none⟩ = some (.slice ag g.length cg)) := cell_keep b0 hb1
    have c1 := cell_keep b1 hb1
    have hs1 : w.heap.size + 2 ≤ w1.heap.size := by have := hb1.size; simpa using this
    clear hb1 ho HC b0 b1 B0 HB
    go_wp2
    clear c1
    go_loopw [6, 19] (fun kv iv wr => ∃ (k : Nat) (kn : List ByteArray), iv = .int .i64 k ∧ k ≤ a.length ∧ OwnB (w.heap.size + 2) kv kn wr ∧ kn.length ≤ 6 ∧ symsI g kn (a.drop k) = symsI g ps a ∧ Below (w.heap.size + 2) w1 wr) (fun _ iv _ => a.length - (intOf iv).toNat)
    case atStart => exact ⟨0, ps, rfl, Nat.zero_le _, O1.out, hk, rfl, Below.refl _ _⟩
    case round =>
      obtain ⟨k, kn, rfl, hkk, hown, hk6, hsy, hbw⟩ := hrel
      have HO : Hid (OwnB (w.heap.size + 2) u6 kn wr) := hown
      have HS : Hid (symsI g kn (a.drop k) = symsI g ps a) := hsy
      have BV : Hid (Below (w.heap.size + 2) w1 wr) := hbw
      have BW : Hid (Below w.heap.size w wr) := B1.out.trans (hbw.mono (by omega))
      have hsr : w.heap.size + 2 ≤ wr.heap.size := Nat.le_trans hs1 hbw.size
      have cg1 : wr.cell? ⟨w.heap.size, 0, none⟩ = some (.slice ag g.length cg) := (World.cell?_of_block (hbw.block w.heap.size (by omega))).trans C0.out
      clear hown hsy hbw
      by_cases hlt : k < a.length
      · have HD : Hid (_ = _) := symsI_drop g kn a k hlt
        obtain ⟨b, off, vs, rfl, _, hc, hE⟩ := (RowC.below SymE_stable HX.out BW.out).at hlt
        obtain ⟨e0, rfl, hA⟩ := hE
        obtain ⟨ae, ce, rfl⟩ := hA.slice
        have n0 : wr.cell? ⟨b, off + k * 4, none⟩ = some (.int .i64 a[k].kind) := hc 0 (by simp)
        have n1 : wr.cell? ⟨b, off + k * 4 + 1, none⟩ = some (.string a[k].text) := hc 1 (by simp)
        have n2 : wr.cell? ⟨b, off + k * 4 + 2, none⟩ = some (.slice ae a[k].args.length ce) := hc 2 (by simp)
        have n3 : wr.cell? ⟨b, off + k * 4 + 3, none⟩ = some (.string a[k].bind) := hc 3 (by simp)
        have i4 : (k : Int) < (a.length : Int) := by omega
        have HZk := HZ.out _ (List.getElem_mem hlt)
        obtain ⟨ao, co, rfl⟩ := HO.out.row.slice
        have BV3 : Hid (Below (w.heap.size + 2) w1 (wr.alloc (.cells #[.int .i64 a[k].kind, .string a[k].text, .slice ae a[k].args.length ce, .string a[k].bind] 66))) := BV.out.alloc hsr _
        have B3 : Hid (Below w.heap.size w (wr.alloc (.cells #[.int .i64 a[k].kind, .string a[k].text, .slice ae a[k].args.length ce, .string a[k].bind] 66))) := BW.out.alloc BW.out.size _
        have O3 : Hid (OwnB (w.heap.size + 2) (.slice ao kn.length co) kn (wr.alloc (.cells #[.int .i64 a[k].kind, .string a[k].text, .slice ae a[k].args.length ce, .string a[k].bind] 66))) := World.ownsRow.alloc HO.out _
        have s3 : (wr.alloc (.cells #[.int .i64 a[k].kind, .string a[k].text, .slice ae a[k].args.length ce, .string a[k].bind] 66)).cell? ⟨wr.heap.size, 3, none⟩ = some (.string a[k].bind) := box_at _ _ _ 3 _ rfl
        have s2 : (wr.alloc (.cells #[.int .i64 a[k].kind, .string a[k].text, .slice ae a[k].args.length ce, .string a[k].bind] 66)).cell? ⟨wr.heap.size, 2, none⟩ = some (.slice ae a[k].args.length ce) := box_at _ _ _ 2 _ rfl
        have s1 : (wr.alloc (.cells #[.int .i64 a[k].kind, .string a[k].text, .slice ae a[k].args.length ce, .string a[k].bind] 66)).cell? ⟨wr.heap.size, 1, none⟩ = some (.string a[k].text) := box_at _ _ _ 1 _ rfl
        have s0 : (wr.alloc (.cells #[.int .i64 a[k].kind, .string a[k].text, .slice ae a[k].args.length ce, .string a[k].bind] 66)).cell? ⟨wr.heap.size, 0, none⟩ = some (.int .i64 a[k].kind) := box_at _ _ _ 0 _ rfl
        have cg3 : (wr.alloc (.cells #[.int .i64 a[k].kind, .string a[k].text, .slice ae a[k].args.length ce, .string a[k].bind] 66)).cell? ⟨w.heap.size, 0, none⟩ = some (.slice ag g.length cg) := cell_keep cg1 ((Below.refl _ _).alloc (Nat.le_refl _) _)
        have HC : Hid (∀ _ : Unit, _) := fun _ => checkSym_any (.slice ag g.length cg) g (.slice ae a[k].args.length ce) a[k] (.slice ao kn.length co) kn (wr.alloc (.cells #[.int .i64 a[k].kind, .string a[k].text, .slice ae a[k].args.length ce, .string a[k].bind] 66)) (HErr.out.below B3.out) hg HZk (by omega) (RowC.below RuleE_stable HG.out B3.out) HP.out (RowC.below ExprE_stable hA ((Below.refl _ _).alloc (Nat.le_refl _) _)) O3.out.row
        clear hc hA HZk cg1
        cases hin : symI g a[k] kn with
        | false =>
          rw [hin] at HC
          have HV : Hid (altB g ps a = false) := by rw [Hid, HV0.out (), ← HS.out, HD.out, hin]; rfl
          clear hin HD HS HV0
          go_wp2_with (go_at_call 73; refine (HC.out ()).mono ?_; rintro e w3 ⟨he, hb3⟩; rw [he, okE_no]; clear he)
          rw [HV.out]
          exact ⟨rfl, rfl, B3.out.trans (hb3.mono B3.out.size)⟩
        | true =>
          rw [hin] at HC
          have HN : Hid (symsI g (knI a[k] kn) (a.drop (k + 1)) = symsI g ps a) := by rw [Hid, ← HS.out, HD.out, hin, Bool.true_and]
          have hkl : (knI a[k] kn).length ≤ 6 := knI_len hk6 hin
          clear hin HD HS
          go_wp2_with fail
          refine (HC.out ()).mono ?_
          rintro e w3 ⟨he, hb3⟩
          rw [he, okE_yes]
          clear he
          have t3 := cell_keep s3 hb3
          have BV4 : Hid (Below (w.heap.size + 2) w1 w3) := BV3.out.trans (hb3.mono (Nat.le_trans hs1 BV3.out.size))
          have hs4 : w.heap.size + 2 ≤ w3.heap.size := Nat.le_trans hs1 BV4.out.size
          have O4 : Hid (OwnB (w.heap.size + 2) (.slice ao kn.length co) kn w3) := O3.out.below hb3
          clear hb3 s0 s1 s2 s3 cg3 n0 n1 n2 n3 BV3 B3 O3 HC
          by_cases hbd : a[k].bind = noS
          · have e1 := isE_yes hbd
            have HKn : Hid (knI a[k] kn = kn) := by rw [Hid, knI, if_pos hbd]
            clear hbd
            go_wp2
            go_roundw
            case rel => exact ⟨k + 1, kn, by go_num, by omega, O4.out, hk6, by rw [← HKn.out]; exact HN.out, BV4.out⟩
            case measure => simp [intOf]; omega
          · have e1 := isE_no hbd
            have HKn : Hid (knI a[k] kn = kn ++ [a[k].bind]) := by rw [Hid, knI, if_neg hbd]
            clear hbd
            go_wp2_with (at_builtin; refine wpList_append_own _ rfl _ _ 26 rfl (w.heap.size + 2) 9 i0 _ 1 16 Tryz.underlying26 hi hz0 hz1 hz2 rfl (by decide) _ _ _ rfl (World.ownsRow.alloc O4.out _) ⟨_, 0, none⟩ 1 1 [.string a[k].bind] rfl rfl (cell_one_new _ _ _) (one_cellF _) (by unfold maxLen; omega) (by omega) (by simp; omega) ?_)
            intro v' w4 hown4 hgrow _
            have R := ownB_snoc' hown4 O4.out hgrow hs4 BV4.out
            clear hown4 hgrow
            go_wp2
            go_roundw
            case rel => exact ⟨k + 1, knI a[k] kn, by go_num, by omega, by rw [HKn.out]; exact R.1, hkl, HN.out, R.2⟩
            case measure => simp [intOf]; omega
      · obtain rfl : k = a.length := by omega
        have HV : Hid (altB g ps a = true) := by rw [Hid, HV0.out (), ← HS.out, List.drop_of_length_le (Nat.le_refl _)]; rfl
        clear HV0 HS
        go_wp2
        go_end0
        rw [HV.out]
        exact ⟨rfl, BW.out⟩
  · have d8 : decide ((a.length : Int) ≤ 8) = false := by rw [decide_eq_false]; omega
    have HV : Hid (altB g ps a = false) := by rw [Hid, HB.out (), decide_eq_false h8]; rfl
    clear HB
    go_enter Tryz.func59, Tryz.ntmps59
    go_wp2_with (go_at_call 58; refine (want_no _).mono ?_; rintro e wq ⟨rfl, hw⟩; rw [hw]; clear hw)
    rw [HV.out]
    exact ⟨rfl, rfl, B0.out⟩

end Go.Proofs.YtofpoiccghpliaaGreatDoor
