/- What the program knows in a row of syms, in the order in which it came, and what the specification knows, in its order: the same names, as many. -/
/- The program's checkAlt: what is known goes on from sym to sym. -/
/- The program's clones of texts, numbers, expressions and syms: each list in a block of its own. -/
/- The program's places in the order in which they are met: has, add. -/
import Derived.Test.YtkmkfpgaehgonaaGreatDoorICk4
import Derived.Test.YtkmkfpgaehgonaaGreatDoorRG
import Derived.Test.YtkmkfpgaehgonaaGreatDoorXKit3
import Derived.Test.YtkmkfpgaehgonaaGreatDoorINam
import Derived.Test.YtkmkfpgaehgonaaGreatDoorHld
import Derived.Test.YtkmkfpgaehgonaaGreatDoorF15T1
import Derived.Lib.SliceRun
import Derived.Deep.RegionHeld3
import Derived.Deep.Onto
import Derived.Maps.AppendAt
namespace Go.Proofs.YtkmkfpgaehgonaaGreatDoor
open Go.RowKit

def SameK (a b : List ByteArray) : Prop := a.length = b.length ∧ ∀ s, s ∈ a ↔ s ∈ b
theorem SameK.refl (a : List ByteArray) : SameK a a := ⟨rfl, fun _ => Iff.rfl⟩
theorem inB_same {a b : List ByteArray} (h : SameK a b) (s : ByteArray) : inB a s = inB b s := by
  rw [Bool.eq_iff_iff, inB_iff, inB_iff]; exact h.2 s
theorem knownB_same {a b : List ByteArray} (h : SameK a b) (ns : List NodeD) : knownB ns a = knownB ns b := by
  have : inB a = inB b := funext (inB_same h)
  rw [knownB, knownB, this]
theorem argsB_same {a b : List ByteArray} (h : SameK a b) (xs : List (List NodeD)) : argsB xs a = argsB xs b := by
  have : (fun ns => knownB ns a) = (fun ns => knownB ns b) := funext (knownB_same h)
  rw [argsB, argsB, this]
theorem filt_two {ss : List ByteArray} {s : ByteArray} (h : ∀ x ∈ ss, ¬ x = s) : (ss.filter (fun t => ltS t s)).length + (ss.filter (fun t => gtS t s)).length = ss.length := by
  induction ss with
  | nil => rfl
  | cons y ys ih =>
    have h1 := ih fun x hx => h x (List.mem_cons_of_mem _ hx)
    have hy := h y (List.mem_cons_self ..)
    rw [List.filter_cons, List.filter_cons, gt_iff]
    rcases lt_tri y s with hl | he | hl
    · rw [hl, lt_asymm' hl]
      simp only [Bool.false_eq_true, if_false, if_true, List.length_cons]
      omega
    · exact absurd he hy
    · rw [hl, lt_asymm' hl]
      simp only [Bool.false_eq_true, if_false, if_true, List.length_cons]
      omega
theorem putS_new {ss : List ByteArray} {s : ByteArray} (h : inB ss s = false) : (putS ss s).length = ss.length + 1 := by
  have hn : ∀ x ∈ ss, ¬ x = s := fun x hx e => by
    rw [e] at hx
    rw [(inB_iff ss s).2 hx] at h
    cases h
  have := filt_two hn
  rw [putS, List.length_append, List.length_append, List.length_singleton]
  omega

def knI (x : SymD) (kn : List ByteArray) : List ByteArray := if x.bind = noS then kn else kn ++ [x.bind]
def symsI (g : List RuleD) : List ByteArray → List SymD → Bool
  | _, [] => true
  | kn, x :: xs => symI g x kn && symsI g (knI x kn) xs
theorem symsI_drop (g : List RuleD) (kn : List ByteArray) (xs : List SymD) (k : Nat) (h : k < xs.length) : symsI g kn (xs.drop k) = (symI g xs[k] kn && symsI g (knI xs[k] kn) (xs.drop (k + 1))) := by
  rw [List.drop_eq_getElem_cons h, symsI]

theorem call_is (g : List RuleD) (x : SymD) (kn : List ByteArray) : (callB g x kn && argsB x.args kn) = (if (decide ((x.args.length : Int) = paramsOf g x.text) && argsB x.args kn) = true then (if x.bind = noS then (kn, true) else (putS kn x.bind, nameB x.bind && !(inB kn x.bind) && decide ((putS kn x.bind).length ≤ 6))) else (kn, false)).2 := by
  rw [callB]
  by_cases hp : (x.args.length : Int) = paramsOf g x.text
  · have h0 : 0 ≤ ruleAtI g x.text := by
      rw [paramsOf] at hp
      split at hp
      · assumption
      · omega
    rw [decide_eq_true h0, decide_eq_true hp, Bool.true_and, Bool.true_and, Bool.true_and]
    cases ha : argsB x.args kn with
    | false => simp
    | true =>
      rw [if_pos rfl, Bool.and_true]
      by_cases hb : x.bind = noS
      · rw [if_pos hb, decide_eq_true hb]; rfl
      · rw [if_neg hb, decide_eq_false hb, Bool.false_or]
        cases hi : inB kn x.bind with
        | true => simp
        | false =>
          rw [putS_new hi]
          congr 1
  · rw [decide_eq_false hp]; simp

theorem symI_is (g : List RuleD) (x : SymD) (kn : List ByteArray) : symI g x kn = (symB x kn (paramsOf g x.text)).2 := by
  rw [symI, symB]
  by_cases k1 : x.kind = 1
  · rw [if_pos k1, if_pos k1, ← Bool.and_assoc]
  · rw [if_neg k1, if_neg k1]
    by_cases k2 : x.kind = 2
    · rw [if_pos k2, if_pos k2, ← Bool.and_assoc]
    · rw [if_neg k2, if_neg k2]
      by_cases k3 : x.kind = 3
      · rw [if_pos k3, if_neg (by omega), if_pos k3]
        exact call_is g x kn
      · rw [if_neg k3]
        by_cases k4 : x.kind = 4
        · rw [if_pos k4, if_pos k4]
          show _ = (decide (x.text = noS) && decide (x.bind = noS) && decide (x.args.length = 1) && argsB x.args kn)
          cases decide (x.args.length = 1) <;> cases decide (x.text = noS) <;> cases decide (x.bind = noS) <;> rfl
        · rw [if_neg k4, if_neg k4, if_neg k3]
theorem symI_same {g : List RuleD} {x : SymD} {a b : List ByteArray} (h : SameK a b) : symI g x a = symI g x b := by
  rw [symI, symI, callB, callB, argsB_same h, inB_same h, h.1]
theorem known_is {g : List RuleD} {x : SymD} {kn kn' : List ByteArray} (h : SameK kn kn') (hs : symI g x kn = true) : SameK (symB x kn (paramsOf g x.text)).1 (knI x kn') := by
  have keep : x.bind = noS → SameK kn (knI x kn') := fun hb => by rw [knI, if_pos hb]; exact h
  rw [symI_is] at hs
  rw [symB] at hs ⊢
  by_cases k1 : x.kind = 1
  · rw [if_pos k1] at hs ⊢
    simp only [Bool.and_eq_true, decide_eq_true_eq] at hs
    exact keep hs.2
  · rw [if_neg k1] at hs ⊢
    by_cases k2 : x.kind = 2
    · rw [if_pos k2] at hs ⊢
      simp only [Bool.and_eq_true, decide_eq_true_eq] at hs
      exact keep hs.2
    · rw [if_neg k2] at hs ⊢
      by_cases k4 : x.kind = 4
      · rw [if_pos k4] at hs ⊢
        simp only [Bool.and_eq_true, decide_eq_true_eq] at hs
        exact keep hs.1.1.2
      · rw [if_neg k4] at hs ⊢
        by_cases k3 : x.kind = 3
        · rw [if_pos k3] at hs ⊢
          by_cases hc : (decide ((x.args.length : Int) = paramsOf g x.text) && argsB x.args kn) = true
          · rw [if_pos hc] at hs ⊢
            by_cases hb : x.bind = noS
            · rw [if_pos hb] at hs ⊢
              exact keep hb
            · rw [if_neg hb] at hs ⊢
              simp only [Bool.and_eq_true, Bool.not_eq_true'] at hs
              refine ⟨?_, fun s => ?_⟩
              · rw [putS_new hs.1.2, knI, if_neg hb, List.length_append, h.1]; rfl
              · rw [mem_putS, knI, if_neg hb, List.mem_append, h.2 s, List.mem_singleton]
          · rw [if_neg hc] at hs
            cases hs
        · rw [if_neg k3] at hs
          cases hs
theorem syms_is (g : List RuleD) : ∀ (xs : List SymD) {kn kn' : List ByteArray}, SameK kn kn' → symsI g kn' xs = symsF g kn xs
  | [], _, _, _ => rfl
  | x :: xs, kn, kn', h => by
    rw [symsI, symsF, ← symI_same h, ← symI_is]
    cases hs : symI g x kn with
    | false => rfl
    | true => rw [syms_is g xs (known_is h hs)]
theorem altB_is (g : List RuleD) (ps : List ByteArray) (a : List SymD) : altB g ps a = (decide (a.length ≤ 8) && symsI g ps a) := by
  rw [altB, syms_is g a (SameK.refl ps)]
theorem knI_len {g : List RuleD} {x : SymD} {kn : List ByteArray} (hk : kn.length ≤ 6) (h : symI g x kn = true) : (knI x kn).length ≤ 6 := by
  rw [← (known_is (SameK.refl kn) h).1]
  rw [symI_is] at h
  exact symB_len hk h

end Go.Proofs.YtkmkfpgaehgonaaGreatDoor

namespace Go.Proofs.YtkmkfpgaehgonaaGreatDoor
open Go.RowKit

theorem ownB_snoc' {B : Nat} {o v' : Value} {ys : List ByteArray} {x : ByteArray} {wr w2 : World} {ob : Obj} (hown2 : w2.ownsRow B 9 1 v' (ys.length + 1) (sb ys ++ [.string x])) (hown : OwnB B o ys wr) (hgrow : (wr.alloc ob).grownBy w2 o.ownBlock)
    {w : World} (hB : B ≤ wr.heap.size) (hb : Below B w wr) : OwnB B v' (ys ++ [x]) w2 ∧ Below B w w2 := by
  refine ⟨?_, ?_⟩
  · rw [OwnB, List.length_append, sb, List.map_append]
    exact hown2
  · exact (hb.alloc hB ob).grown hgrow (by simp; omega) (fun k hk => (hown.lt k hk).1)

set_option maxHeartbeats 1600000 in
theorem clones_any (v : Value) (ps : List ByteArray) (w : World) (hn : ps.length ≤ 1048576) (h : SRow w v ps) :
    Calls Tryz.prog 82 #[v] w fun e w' => ∃ o, e = .returned o ∧ OwnB w.heap.size o ps w' ∧ Below w.heap.size w w' := by
  obtain ⟨i0, hi, hz0, hz1, hz2⟩ := info_parts Tryz.infoStr
  have q24 : ∀ (w : World) (a : Option Addr) (n c n' c' : Nat), (binOp .eql 37 (.slice a n c) (.slice none n' c')).run Tryz.prog w = .ok (.bool a.isNone) w := fun w a n c n' c' => Lib.run_eql_slice_nil w _ _ a n c n' c' Tryz.underlying37
  have HR : Hid (SRow w v ps) := h
  obtain ⟨a, cap, rfl, hcap, hh⟩ := h
  cases a with
  | none =>
    have h0 : ps.length = 0 := by
      rcases Nat.eq_zero_or_pos ps.length with h | h
      · exact h
      · obtain ⟨_, _, e, _⟩ := hh h
        cases e
    obtain rfl : ps = [] := List.length_eq_zero_iff.1 h0
    obtain rfl := hcap rfl
    clear hh hcap h0
    go_enter Tryz.func82, Tryz.ntmps82
    go_wp2
    go_ret
    exact ⟨_, rfl, ⟨rfl, .inl ⟨rfl, rfl⟩⟩, Below.refl _ _⟩
  | some ad =>
    clear hh hcap
    have B0 : Hid (Below w.heap.size w (w.alloc (.cells #[] 9))) := (Below.refl _ _).alloc (Nat.le_refl _) _
    have O0 : Hid ((w.alloc (.cells #[] 9)).ownsRow w.heap.size 9 1 (.slice (some ⟨w.heap.size, 0, none⟩) 0 0) 0 []) := World.ownsRow_made (base := w.heap.size) w #[] 0 (e := 9) (size := 1) (Nat.le_refl _) (by decide) rfl
    have HR0 : Hid (SRow (w.alloc (.cells #[] 9)) (.slice (some ad) ps.length cap) ps) := HR.out.below B0.out
    go_enter Tryz.func82, Tryz.ntmps82
    go_wp2_with (at_builtin; refine append_texts rfl _ _ 37 rfl w.heap.size 9 i0 _ Tryz.underlying37 hi hz0 hz1 hz2 rfl _ 0 [] rfl O0.out ps (some ad) cap rfl HR0.out (by omega) (by simp) ?_)
    intro v' w' hown hgrow
    have B1 : Hid (Below w.heap.size w w') := B0.out.grown hgrow (by simp) (by intro k hk; simp [Value.ownBlock] at hk; omega)
    have O1 : Hid (OwnB w.heap.size v' ps w') := by simpa [Hid, OwnB] using hown
    clear hown hgrow
    go_wp2
    go_ret
    exact ⟨_, rfl, O1.out, B1.out⟩

set_option maxHeartbeats 6400000 in
set_option maxRecDepth 100000 in
theorem checkAlt_any (gv : Value) (g : List RuleD) (s0 : Value) (a : List SymD) (u : Value) (ps : List ByteArray) (w : World) (hErr : errTy w) (hg : g.length ≤ 1048576) (hx : altTot a ≤ 1048576) (hk : ps.length ≤ 6)
    (h : RowC 3 RuleE w gv g) (hp0 : ∀ r ∈ g, r.params.length ≤ 1048576) (h1 : RowC 4 SymE w s0 a) (h2 : SRow w u ps) :
    Calls Tryz.prog 59 #[.agg #[gv], .agg #[s0], u] w fun e w' => e = okE (altB g ps a) ∧ Below w.heap.size w w' := by
  obtain ⟨i0, hi, hz0, hz1, hz2⟩ := info_parts Tryz.infoStr
  have HErr : Hid (errTy w) := hErr
  have HG : Hid (RowC 3 RuleE w gv g) := h
  have HX : Hid (RowC 4 SymE w s0 a) := h1
  have HK : Hid (SRow w u ps) := h2
  have HP : Hid (∀ r ∈ g, r.params.length ≤ 1048576) := hp0
  have HZ : Hid (∀ x ∈ a, symTot x ≤ 1048576) := fun x hxa => Nat.le_trans (rowTot_mem symTot hxa) hx
  have HB : Hid (∀ _ : Unit, altB g ps a = (decide (a.length ≤ 8) && symsI g ps a)) := fun _ => altB_is g ps a
  have hal : a.length ≤ 1048576 := Nat.le_trans (rowTot_len symTot a) hx
  obtain ⟨ag, cg, rfl⟩ := h.slice
  obtain ⟨a0, c0, rfl⟩ := h1.slice
  obtain ⟨ak, ck, rfl⟩ := h2.slice
  clear h h1 h2 hp0 hx hErr
  have B0 : Hid (Below w.heap.size w ((w.alloc (.cells #[.slice ag g.length cg] 28)).alloc (.cells #[.slice a0 a.length c0] 60))) := ((Below.refl _ _).alloc (Nat.le_refl _) _).alloc (by simp) _
  have b0 : ((w.alloc (.cells #[.slice ag g.length cg] 28)).alloc (.cells #[.slice a0 a.length c0] 60)).cell? ⟨w.heap.size, 0, none⟩ = some (.slice ag g.length cg) := box_two _ _ _ _ _ 0 _ rfl
  have b1 : ((w.alloc (.cells #[.slice ag g.length cg] 28)).alloc (.cells #[.slice a0 a.length c0] 60)).cell? ⟨w.heap.size + 1, 0, none⟩ = some (.slice a0 a.length c0) := box_two' _ _ _ _ _ 0 _ rfl
  by_cases h8 : a.length ≤ 8
  · have d8 : decide ((a.length : Int) ≤ 8) = true := by rw [decide_eq_true]; omega
    have HC : Hid (∀ _ : Unit, _) := fun _ => clones_any (.slice ak ps.length ck) ps ((w.alloc (.cells #[.slice ag g.length cg] 28)).alloc (.cells #[.slice a0 a.length c0] 60)) (by omega) (HK.out.below B0.out)
    have HV0 : Hid (∀ _ : Unit, altB g ps a = symsI g ps a) := fun _ => by rw [HB.out (), decide_eq_true h8, Bool.true_and]
    go_enter Tryz.func59, Tryz.ntmps59
    go_wp2_with (go_at_call 58; refine (want_yes _).mono ?_; rintro e wq ⟨rfl, hw⟩; rw [hw]; clear hw)
    refine (HC.out ()).mono ?_
    rintro e w1 ⟨o, rfl, ho, hb1⟩
    have B1 : Hid (Below w.heap.size w w1) := B0.out.trans (hb1.mono B0.out.size)
    have O1 : Hid (OwnB (w.heap.size + 2) o ps w1) := by
      have := ho
      simp at this
      exact this
    have C0 : Hid (w1.cell? ⟨w.heap.size, 0, none⟩ = some (.slice ag g.length cg)) := cell_keep b0 hb1
    have c1 := cell_keep b1 hb1
    have hs1 : w.heap.size + 2 ≤ w1.heap.size := by have := hb1.size; simpa using this
    clear hb1 ho HC b0 b1 B0 HB
    go_wp2
    clear c1
    go_loopw [6, 19] (fun kv iv wr => ∃ (k : Nat) (kn : List ByteArray), iv = .int .i64 k ∧ k ≤ a.length ∧ OwnB (w.heap.size + 2) kv kn wr ∧ kn.length ≤ 6 ∧ symsI g kn (a.drop k) = symsI g ps a ∧ Below (w.heap.size + 2) w1 wr) (fun _ iv _ => a.length - (intOf iv).toNat)
    case atStart => exact ⟨0, ps, rfl, Nat.zero_le _, O1.out, hk, rfl, Below.refl _ _⟩
    case round =>
      obtain ⟨k, kn, rfl, hkk, hown, hk6, hsy, hbw⟩ := hrel
      have HO : Hid (OwnB (w.heap.size + 2) u6 kn wr) := hown
      have HS : Hid (symsI g kn (a.drop k) = symsI g ps a) := hsy
      have BV : Hid (Below (w.heap.size + 2) w1 wr) := hbw
      have BW : Hid (Below w.heap.size w wr) := B1.out.trans (hbw.mono (by omega))
      have hsr : w.heap.size + 2 ≤ wr.heap.size := Nat.le_trans hs1 hbw.size
      have cg1 : wr.cell? ⟨w.heap.size, 0, none⟩ = some (.slice ag g.length cg) := (World.cell?_of_block (hbw.block w.heap.size (by omega))).trans C0.out
      clear hown hsy hbw
      by_cases hlt : k < a.length
      · have HD : Hid (_ = _) := symsI_drop g kn a k hlt
        obtain ⟨b, off, vs, rfl, _, hc, hE⟩ := (RowC.below SymE_stable HX.out BW.out).at hlt
        obtain ⟨e0, rfl, hA⟩ := hE
        obtain ⟨ae, ce, rfl⟩ := hA.slice
        have n0 : wr.cell? ⟨b, off + k * 4, none⟩ = some (.int .i64 a[k].kind) := hc 0 (by simp)
        have n1 : wr.cell? ⟨b, off + k * 4 + 1, none⟩ = some (.string a[k].text) := hc 1 (by simp)
        have n2 : wr.cell? ⟨b, off + k * 4 + 2, none⟩ = some (.slice ae a[k].args.length ce) := hc 2 (by simp)
        have n3 : wr.cell? ⟨b, off + k * 4 + 3, none⟩ = some (.string a[k].bind) := hc 3 (by simp)
        have i4 : (k : Int) < (a.length : Int) := by omega
        have HZk := HZ.out _ (List.getElem_mem hlt)
        obtain ⟨ao, co, rfl⟩ := HO.out.row.slice
        have BV3 : Hid (Below (w.heap.size + 2) w1 (wr.alloc (.cells #[.int .i64 a[k].kind, .string a[k].text, .slice ae a[k].args.length ce, .string a[k].bind] 63))) := BV.out.alloc hsr _
        have B3 : Hid (Below w.heap.size w (wr.alloc (.cells #[.int .i64 a[k].kind, .string a[k].text, .slice ae a[k].args.length ce, .string a[k].bind] 63))) := BW.out.alloc BW.out.size _
        have O3 : Hid (OwnB (w.heap.size + 2) (.slice ao kn.length co) kn (wr.alloc (.cells #[.int .i64 a[k].kind, .string a[k].text, .slice ae a[k].args.length ce, .string a[k].bind] 63))) := World.ownsRow.alloc HO.out _
        have s3 : (wr.alloc (.cells #[.int .i64 a[k].kind, .string a[k].text, .slice ae a[k].args.length ce, .string a[k].bind] 63)).cell? ⟨wr.heap.size, 3, none⟩ = some (.string a[k].bind) := box_at _ _ _ 3 _ rfl
        have s2 : (wr.alloc (.cells #[.int .i64 a[k].kind, .string a[k].text, .slice ae a[k].args.length ce, .string a[k].bind] 63)).cell? ⟨wr.heap.size, 2, none⟩ = some (.slice ae a[k].args.length ce) := box_at _ _ _ 2 _ rfl
        have s1 : (wr.alloc (.cells #[.int .i64 a[k].kind, .string a[k].text, .slice ae a[k].args.length ce, .string a[k].bind] 63)).cell? ⟨wr.heap.size, 1, none⟩ = some (.string a[k].text) := box_at _ _ _ 1 _ rfl
        have s0 : (wr.alloc (.cells #[.int .i64 a[k].kind, .string a[k].text, .slice ae a[k].args.length ce, .string a[k].bind] 63)).cell? ⟨wr.heap.size, 0, none⟩ = some (.int .i64 a[k].kind) := box_at _ _ _ 0 _ rfl
        have cg3 : (wr.alloc (.cells #[.int .i64 a[k].kind, .string a[k].text, .slice ae a[k].args.length ce, .string a[k].bind] 63)).cell? ⟨w.heap.size, 0, none⟩ = some (.slice ag g.length cg) := cell_keep cg1 ((Below.refl _ _).alloc (Nat.le_refl _) _)
        have HC : Hid (∀ _ : Unit, _) := fun _ => checkSym_any (.slice ag g.length cg) g (.slice ae a[k].args.length ce) a[k] (.slice ao kn.length co) kn (wr.alloc (.cells #[.int .i64 a[k].kind, .string a[k].text, .slice ae a[k].args.length ce, .string a[k].bind] 63)) (HErr.out.below B3.out) hg HZk (by omega) (RowC.below RuleE_stable HG.out B3.out) HP.out (RowC.below ExprE_stable hA ((Below.refl _ _).alloc (Nat.le_refl _) _)) O3.out.row
        clear hc hA HZk cg1
        cases hin : symI g a[k] kn with
        | false =>
          rw [hin] at HC
          have HV : Hid (altB g ps a = false) := by rw [Hid, HV0.out (), ← HS.out, HD.out, hin]; rfl
          clear hin HD HS HV0
          go_wp2_with (go_at_call 83; refine (HC.out ()).mono ?_; rintro e w3 ⟨he, hb3⟩; rw [he, okE_no]; clear he)
          rw [HV.out]
          exact ⟨rfl, rfl, B3.out.trans (hb3.mono B3.out.size)⟩
        | true =>
          rw [hin] at HC
          have HN : Hid (symsI g (knI a[k] kn) (a.drop (k + 1)) = symsI g ps a) := by rw [Hid, ← HS.out, HD.out, hin, Bool.true_and]
          have hkl : (knI a[k] kn).length ≤ 6 := knI_len hk6 hin
          clear hin HD HS
          go_wp2_with fail
          refine (HC.out ()).mono ?_
          rintro e w3 ⟨he, hb3⟩
          rw [he, okE_yes]
          clear he
          have t3 := cell_keep s3 hb3
          have BV4 : Hid (Below (w.heap.size + 2) w1 w3) := BV3.out.trans (hb3.mono (Nat.le_trans hs1 BV3.out.size))
          have hs4 : w.heap.size + 2 ≤ w3.heap.size := Nat.le_trans hs1 BV4.out.size
          have O4 : Hid (OwnB (w.heap.size + 2) (.slice ao kn.length co) kn w3) := O3.out.below hb3
          clear hb3 s0 s1 s2 s3 cg3 n0 n1 n2 n3 BV3 B3 O3 HC
          by_cases hbd : a[k].bind = noS
          · have e1 := isE_yes hbd
            have HKn : Hid (knI a[k] kn = kn) := by rw [Hid, knI, if_pos hbd]
            clear hbd
            go_wp2
            go_roundw
            case rel => exact ⟨k + 1, kn, by go_num, by omega, O4.out, hk6, by rw [← HKn.out]; exact HN.out, BV4.out⟩
            case measure => simp [intOf]; omega
          · have e1 := isE_no hbd
            have HKn : Hid (knI a[k] kn = kn ++ [a[k].bind]) := by rw [Hid, knI, if_neg hbd]
            clear hbd
            go_wp2_with (at_builtin; refine wpList_append_own _ rfl _ _ 37 rfl (w.heap.size + 2) 9 i0 _ 1 16 Tryz.underlying37 hi hz0 hz1 hz2 rfl (by decide) _ _ _ rfl (World.ownsRow.alloc O4.out _) ⟨_, 0, none⟩ 1 1 [.string a[k].bind] rfl rfl (cell_one_new _ _ _) (one_cellF _) (by unfold maxLen; omega) (by omega) (by simp; omega) ?_)
            intro v' w4 hown4 hgrow _
            have R := ownB_snoc' hown4 O4.out hgrow hs4 BV4.out
            clear hown4 hgrow
            go_wp2
            go_roundw
            case rel => exact ⟨k + 1, knI a[k] kn, by go_num, by omega, by rw [HKn.out]; exact R.1, hkl, HN.out, R.2⟩
            case measure => simp [intOf]; omega
      · obtain rfl : k = a.length := by omega
        have HV : Hid (altB g ps a = true) := by rw [Hid, HV0.out (), ← HS.out, List.drop_of_length_le (Nat.le_refl _)]; rfl
        clear HV0 HS
        go_wp2
        go_end0
        rw [HV.out]
        exact ⟨rfl, BW.out⟩
  · have d8 : decide ((a.length : Int) ≤ 8) = false := by rw [decide_eq_false]; omega
    have HV : Hid (altB g ps a = false) := by rw [Hid, HB.out (), decide_eq_false h8]; rfl
    clear HB
    go_enter Tryz.func59, Tryz.ntmps59
    go_wp2_with (go_at_call 58; refine (want_no _).mono ?_; rintro e wq ⟨rfl, hw⟩; rw [hw]; clear hw)
    rw [HV.out]
    exact ⟨rfl, rfl, B0.out⟩

end Go.Proofs.YtkmkfpgaehgonaaGreatDoor

namespace Go.Proofs.YtkmkfpgaehgonaaGreatDoor
open Go.RowKit
set_option linter.unusedVariables false

theorem own_shape15 {w : World} {B s n : Nat} {e : TypeId} {v : Value} {cs : List Value} (h : w.ownsRow B e s v n cs) : ∃ a c, v = .slice a n c := by
  rcases h.2 with ⟨rfl, h0⟩ | ⟨g, cap, cur, rfl, _⟩
  · exact ⟨none, 0, by rw [h0]⟩
  · exact ⟨_, _, rfl⟩
/-- The cells of a literal of one element lie in its block. -/
theorem cells_new (w : World) (vs : List Value) (t : TypeId) : ∀ j u, vs[j]? = some u → (w.alloc (.cells vs.toArray t)).cell? ((⟨w.heap.size, 0, none⟩ : Addr).add j) = some u := by
  intro j u hj
  have hb : (w.alloc (.cells vs.toArray t)).heap[w.heap.size]? = some (.cells vs.toArray t) := heap_alloc_new w _
  rw [Addr.add_lit, Nat.zero_add, cell_of_row _ _ j _ _ _ hb]
  simpa using hj
theorem RowF.made {α : Type} {sz : Nat} {T : TypeId} {E : (Nat → Prop) → World → List Value → α → Prop} {F : Nat → Prop} {B g cap : Nat} {w : World} (h : w.ownsRow B T sz (.slice (some ⟨g, 0, none⟩) 0 cap) 0 []) (hg : F g) : RowF sz T E F (.slice (some ⟨g, 0, none⟩) 0 cap) ([] : List α) w :=
  ⟨[], fun _ _ => False, rfl, fun _ h => (by cases h), World.ownsRow.mono h (Nat.zero_le _), ⟨fun k hk => by cases hk; exact hg, fun _ _ _ h => h, fun _ _ h => h.elim, fun _ _ _ _ h => h.elim⟩, fun i h => by cases h⟩
theorem bel_drew15 {w w' : World} (h : Below w.heap.size w w') : Below w.heap.size w w'.drew := ⟨h.os, h.tape, h.output, h.size, h.block⟩
theorem hat_of {w : World} {ob : Obj} {v v' : Value} (h : v'.ownBlock = v.ownBlock ∨ v'.ownBlock = some (w.heap.size + 1)) : v'.ownBlock = v.ownBlock ∨ v'.ownBlock = some (w.alloc ob).heap.size := by simpa using h
theorem nw_up {a a' b b' k : Nat} (ha : a' ≤ a) (hb : b ≤ b') (h : Nw a b k) : Nw a' b' k := ⟨Nat.le_trans ha h.1, Nat.lt_of_lt_of_le h.2 hb⟩

theorem Tryz.infoInt15 : (Tryz.prog.info? 3).map (fun i => (i.zero, i.size, i.bytes)) = some (some (.int .i64 0), 1, 8) := by kernel_rfl
set_option maxHeartbeats 1600000 in
theorem cloneI_any (v : Value) (ps : List Int) (w : World) (hn : ps.length ≤ 1048576) (h : IRow w v ps) :
    Calls Tryz.prog 113 #[v] w fun e w' => ∃ o, e = .returned o ∧ OwnZ w.heap.size o ps w' ∧ Below w.heap.size w w' := by
  obtain ⟨i0, hi, hz0, hz1, hz2⟩ := info_parts Tryz.infoInt15
  have q24 : ∀ (w : World) (a : Option Addr) (n c n' c' : Nat), (binOp .eql 44 (.slice a n c) (.slice none n' c')).run Tryz.prog w = .ok (.bool a.isNone) w := fun w a n c n' c' => Lib.run_eql_slice_nil w _ _ a n c n' c' Tryz.underlying44
  have HR : Hid (IRow w v ps) := h
  obtain ⟨a, cap, rfl, hcap, hh⟩ := h
  cases a with
  | none =>
    have h0 : ps.length = 0 := by
      rcases Nat.eq_zero_or_pos ps.length with h | h
      · exact h
      · obtain ⟨_, _, e, _⟩ := hh h
        cases e
    obtain rfl : ps = [] := List.length_eq_zero_iff.1 h0
    obtain rfl := hcap rfl
    clear hh hcap h0
    go_enter Tryz.func113, Tryz.ntmps113
    go_wp2
    go_ret
    exact ⟨_, rfl, ⟨rfl, .inl ⟨rfl, rfl⟩⟩, Below.refl _ _⟩
  | some ad =>
    clear hh hcap
    have B0 : Hid (Below w.heap.size w (w.alloc (.cells #[] 3))) := (Below.refl _ _).alloc (Nat.le_refl _) _
    have O0 : Hid ((w.alloc (.cells #[] 3)).ownsRow w.heap.size 3 1 (.slice (some ⟨w.heap.size, 0, none⟩) 0 0) 0 []) := World.ownsRow_made (base := w.heap.size) w #[] 0 (e := 3) (size := 1) (Nat.le_refl _) (by decide) rfl
    have HR0 : Hid (IRow (w.alloc (.cells #[] 3)) (.slice (some ad) ps.length cap) ps) := HR.out.below B0.out
    go_enter Tryz.func113, Tryz.ntmps113
    go_wp2_with (at_builtin; refine append_intsF rfl _ _ 44 rfl w.heap.size 3 i0 _ Tryz.underlying44 hi hz0 hz1 hz2 rfl _ 0 [] rfl O0.out ps (some ad) cap rfl HR0.out (by omega) (by simp) ?_)
    intro v' w' hown hgrow
    have B1 : Hid (Below w.heap.size w w') := B0.out.grown hgrow (by simp) (by intro k hk; simp [Value.ownBlock] at hk; omega)
    have O1 : Hid (OwnZ w.heap.size v' ps w') := by simpa [Hid, OwnZ] using hown
    clear hown hgrow
    go_wp2
    go_ret
    exact ⟨_, rfl, O1.out, B1.out⟩

set_option maxHeartbeats 1600000 in
theorem clonedTexts_any (v : Value) (ss : List ByteArray) (w : World) (hz : rowTot ByteArray.size ss ≤ 1048576) (h : SRow w v ss) :
    Calls Tryz.prog 40 #[v] w fun e w' => ∃ o, e = .returned o ∧ OwnB w.heap.size o ss w' ∧ Below w.heap.size w w' := by
  obtain ⟨i0, hi, hz0, hz1, hz2⟩ := info_parts Tryz.infoStr
  have hn := rowTot_len ByteArray.size ss
  have HT : Hid (∀ i (h : i < ss.length), ss[i].size ≤ 1048576) := fun i hi => by have := rowTot_mem ByteArray.size (List.getElem_mem hi); omega
  have HR : Hid (SRow w v ss) := h
  obtain ⟨a, cap, rfl⟩ := h.slice
  clear h
  have O0 : Hid (OwnB w.heap.size (.slice (some ⟨w.heap.size, 0, none⟩) 0 0) (ss.take 0) (w.alloc (.cells #[] 9))) := World.ownsRow_made (base := w.heap.size) w #[] 0 (e := 9) (size := 1) (Nat.le_refl _) (by decide) rfl
  have B0 : Hid (Below w.heap.size w (w.alloc (.cells #[] 9))) := (Below.refl _ _).alloc (Nat.le_refl _) _
  go_enter Tryz.func40, Tryz.ntmps40
  go_wp2
  go_loopw [3, 9] (fun ov iv wr => ∃ k : Nat, iv = .int .i64 k ∧ k ≤ ss.length ∧ OwnB w.heap.size ov (ss.take k) wr ∧ Below w.heap.size w wr) (fun _ iv _ => ss.length - (intOf iv).toNat)
  case atStart => exact ⟨0, rfl, Nat.zero_le _, O0.out, B0.out⟩
  case round =>
    clear O0 B0
    obtain ⟨k, rfl, hk, hown, hbw⟩ := hrel
    have HO : Hid (OwnB w.heap.size u3 (ss.take k) wr) := hown
    have HB : Hid (Below w.heap.size w wr) := hbw
    clear hown hbw
    by_cases hlt : k < ss.length
    · obtain ⟨b, off, rfl, hc⟩ := (HR.out.below HB.out).at hlt
      have HNx : Hid (ss.take (k + 1) = ss.take k ++ [ss[k]]) := List.take_succ_eq_append_getElem hlt
      have hl : (ss.take k).length = k := by rw [List.length_take]; omega
      have i4 : (k : Int) < (ss.length : Int) := by omega
      have HC : Hid (∀ W, _) := fun W => cloneS ss[k] W (HT.out k hlt)
      generalize ss[k] = tx at *
      generalize ss.take k = zs at *
      go_wp2_with fail
      refine (HC.out _).mono ?_
      rintro e w3 ⟨rfl, hb3⟩
      have B3 : Hid (Below w.heap.size w w3) := HB.out.trans (hb3.mono HB.out.size)
      have O3 : Hid (OwnB w.heap.size u3 zs w3) := HO.out.below hb3
      clear hb3 HO HB HC hc
      go_wp2_with (at_builtin; refine wpList_append_own _ rfl _ _ 37 rfl w.heap.size 9 i0 _ 1 16 Tryz.underlying37 hi hz0 hz1 hz2 rfl (by decide) _ _ _ rfl (World.ownsRow.alloc O3.out _) ⟨_, 0, none⟩ 1 1 [.string tx] rfl rfl (cell_one_new _ _ _) (one_cellF _) (by unfold maxLen; omega) (by omega) (by have h8 := B3.out.size; simp; omega) ?_)
      intro v' w4 hown4 hgrow _
      have R := ownB_snoc (by rw [hl]; exact hown4) O3.out hgrow rfl B3.out
      clear hown4 hgrow
      go_wp2
      go_roundw
      case rel => exact ⟨k + 1, by go_num, by omega, by rw [HNx.out]; exact R.1, R.2⟩
      case measure => simp [intOf]; omega
    · obtain rfl : k = ss.length := by omega
      rw [List.take_of_length_le (Nat.le_refl _)] at HO
      have i4 : ¬ (ss.length : Int) < (ss.length : Int) := by omega
      go_wp2
      go_ret
      exact ⟨_, rfl, HO.out, HB.out⟩

end Go.Proofs.YtkmkfpgaehgonaaGreatDoor

namespace Go.Proofs.YtkmkfpgaehgonaaGreatDoor
open Go.RowKit
set_option linter.unusedVariables false

def zs15 (L : List Nat) : List Int := L.map fun (n : Nat) => (n : Int)
theorem zs15_len (L : List Nat) : (zs15 L).length = L.length := List.length_map ..
theorem zs15_at (L : List Nat) (k : Nat) (h : k < L.length) (h' : k < (zs15 L).length) : (zs15 L)[k] = (L[k] : Int) := List.getElem_map ..
def idxZ15 (x : Int) : Nat → List Int → Int
  | _, [] => -1
  | i, z :: zs => if z = x then (i : Int) else idxZ15 x (i + 1) zs
theorem idxZ15_drop (ks : List Int) (x : Int) (k : Nat) (h : k < ks.length) : idxZ15 x k (ks.drop k) = if ks[k] = x then (k : Int) else idxZ15 x (k + 1) (ks.drop (k + 1)) := by
  rw [List.drop_eq_getElem_cons h, idxZ15]
theorem idxZ15_in (x : Int) : ∀ (i : Nat) (L : List Int), decide (0 ≤ idxZ15 x i L) = L.contains x
  | i, [] => by simp [idxZ15]
  | i, z :: zs => by
    rw [idxZ15, List.contains_cons]
    by_cases h : z = x
    · rw [if_pos h]
      simp [h]
    · rw [if_neg h, idxZ15_in x (i + 1) zs, beq_eq_false_iff_ne.2 (fun e => h e.symm), Bool.false_or]
theorem contains15 (L : List Nat) (j : Nat) : (zs15 L).contains (j : Int) = L.contains j := by
  rw [Bool.eq_iff_iff, List.contains_iff_mem, List.contains_iff_mem, zs15, List.mem_map]
  constructor
  · rintro ⟨n, hn, e⟩
    have : n = j := by omega
    rw [← this]
    exact hn
  · exact fun h => ⟨j, h, rfl⟩

set_option maxHeartbeats 1600000 in
theorem index15_any (v : Value) (ks : List Int) (x : Int) (w : World) (hn : ks.length ≤ 1048576) (h : IRow w v ks) :
    Calls Tryz.prog 65 #[v, .int .i64 x] w fun e w' => e = .returned (.int .i64 (idxZ15 x 0 ks)) ∧ w' = w := by
  obtain ⟨a, cap, rfl⟩ := h.slice
  have HR : Hid (IRow w (.slice a ks.length cap) ks) := h
  clear h
  go_enter Tryz.func65, Tryz.ntmps65
  go_wp2
  go_loopw [8] (fun iv wr => ∃ k : Nat, iv = .int .i64 k ∧ k ≤ ks.length ∧ idxZ15 x k (ks.drop k) = idxZ15 x 0 ks ∧ wr = w) (fun iv _ => ks.length - (intOf iv).toNat)
  case atStart => exact ⟨0, rfl, Nat.zero_le _, rfl, rfl⟩
  case round =>
    obtain ⟨k, rfl, hk, hat, hwr⟩ := hrel
    rw [hwr]
    clear hwr
    have HA : Hid (idxZ15 x k (ks.drop k) = idxZ15 x 0 ks) := hat
    clear hat
    by_cases hlt : k < ks.length
    · have HD : Hid (_ = _) := idxZ15_drop ks x k hlt
      obtain ⟨b, off, rfl, hc⟩ := HR.out.at hlt
      have i4 : (k : Int) < (ks.length : Int) := by omega
      by_cases he : ks[k] = x
      · have hq : (x == ks[k]) = true := by rw [he]; simp
        have HV : Hid (idxZ15 x 0 ks = (k : Int)) := by rw [Hid, ← HA.out, HD.out, if_pos he]
        clear he
        go_wp2
        go_ret
        rw [HV.out]
        exact ⟨rfl, rfl⟩
      · have hq : (x == ks[k]) = false := beq_eq_false_iff_ne.2 (fun h => he h.symm)
        have HN : Hid (idxZ15 x (k + 1) (ks.drop (k + 1)) = idxZ15 x 0 ks) := by rw [Hid, ← HA.out, HD.out, if_neg he]
        clear he
        go_wp2
        go_roundw
        case rel => exact ⟨k + 1, by go_num, by omega, HN.out, (by first | rfl | trivial)⟩
        case measure => simp [intOf]; omega
    · obtain rfl : k = ks.length := by omega
      have HV : Hid (idxZ15 x 0 ks = -1) := by rw [Hid, ← HA.out, List.drop_of_length_le (Nat.le_refl _)]; rfl
      go_wp2
      go_ret
      rw [HV.out]
      exact ⟨rfl, rfl⟩

theorem contains15_any (v : Value) (L : List Nat) (j : Nat) (w : World) (hn : L.length ≤ 1048576) (h : IRow w v (zs15 L)) :
    Calls Tryz.prog 38 #[v, .int .i64 (j : Int)] w fun e w' => e = .returned (.bool (L.contains j)) ∧ w' = w := by
  have HI : Hid (∀ _ : Unit, _) := fun _ => index15_any v (zs15 L) (j : Int) w (by rw [zs15_len]; exact hn) h
  have HV : Hid (decide (0 ≤ idxZ15 (j : Int) 0 (zs15 L)) = L.contains j) := by rw [Hid, idxZ15_in, contains15]
  generalize idxZ15 (j : Int) 0 (zs15 L) = r at *
  rw [← HV.out]
  clear HV
  go_enter Tryz.func38, Tryz.ntmps38
  go_wp2_with (go_at_call 65; refine (HI.out ()).mono ?_; rintro e wq ⟨rfl, hw⟩; rw [hw]; clear hw)
  go_ret
  exact ⟨rfl, rfl⟩

theorem own_base15 {B B' s n : Nat} {e : TypeId} {v : Value} {cs : List Value} {w : World} (h : w.ownsRow B e s v n cs) (hB : B' ≤ B) : w.ownsRow B' e s v n cs := by
  refine ⟨h.1, ?_⟩
  rcases h.2 with h | ⟨g, cap, cur, e, hg, r⟩
  · exact .inl h
  · exact .inr ⟨g, cap, cur, e, Nat.le_trans hB hg, r⟩
/-- Places behind a pointer. -/
structure Met15 (p B : Nat) (L : List Nat) (lv : Value) (w : World) : Prop where
  box : w.heap[p]? = some (.cells #[lv] 46 (0, 0))
  own : OwnZ B lv (zs15 L) w
theorem Met15.below {p B : Nat} {L : List Nat} {lv : Value} {w w' : World} (h : Met15 p B L lv w) (hb : Below w.heap.size w w') : Met15 p B L lv w' :=
  ⟨(hb.block _ (Array.getElem?_eq_some_iff.1 h.box).1).trans h.box, h.own.below hb⟩

set_option maxHeartbeats 1600000 in
theorem has15_any (b : Bool) (p B : Nat) (L : List Nat) (lv : Value) (j : Nat) (w : World) (hb : L.contains j = b) (hn : L.length ≤ 1048576) (h : Met15 p B L lv w) :
    Calls Tryz.prog 20 #[.pointer (some ⟨p, 0, none⟩), .int .i64 (j : Int)] w fun e w' => e = .returned (.bool b) ∧ w' = w := by
  have HC : Hid (∀ _ : Unit, _) := fun _ => contains15_any lv L j w hn h.own.row
  rw [hb] at HC
  obtain ⟨a, c, rfl⟩ := h.own.row.slice
  rw [zs15_len] at h HC
  have c0 : w.cell? ⟨p, 0, none⟩ = some (.slice a L.length c) := run_cell h.box rfl
  clear h hb
  go_enter Tryz.func20, Tryz.ntmps20
  go_wp2_with (go_at_call 38; refine (HC.out ()).mono ?_; rintro e wq ⟨rfl, hw⟩; rw [hw]; clear hw)
  go_ret
  exact ⟨rfl, rfl⟩

set_option maxHeartbeats 3200000 in
set_option maxRecDepth 100000 in
theorem add15_any (p B C : Nat) (L : List Nat) (lv : Value) (j : Nat) (w : World) (hn : L.length ≤ 1048575) (hp : C ≤ p) (hB : C ≤ B) (hCw : B ≤ w.heap.size) (h : Met15 p B L lv w) :
    Calls Tryz.prog 35 #[.pointer (some ⟨p, 0, none⟩), .int .i64 (j : Int)] w fun e w' => e = .returned (.tuple #[]) ∧ (∃ lv', Met15 p B (addL L j) lv' w') ∧ FrT [3, 46] C w w' := by
  obtain ⟨i0, hi, hz0, hz1, hz2⟩ := info_parts Tryz.infoInt5
  obtain ⟨b, hb⟩ : ∃ b, L.contains j = b := ⟨_, rfl⟩
  have HH : Hid (∀ _ : Unit, _) := fun _ => has15_any b p B L lv j w hb (by omega) h
  obtain ⟨a, c, rfl⟩ := h.own.row.slice
  rw [zs15_len] at h
  have c0 : w.cell? ⟨p, 0, none⟩ = some (.slice a L.length c) := run_cell h.box rfl
  have HM : Hid (Met15 p B L (.slice a L.length c) w) := h
  clear h
  cases b with
  | true =>
    have HA : Hid (addL L j = L) := by rw [Hid, addL, if_pos hb]
    clear hb
    go_enter Tryz.func35, Tryz.ntmps35
    go_wp2_with (go_at_call 20; refine (HH.out ()).mono ?_; rintro e wq ⟨rfl, hw⟩; rw [hw]; clear hw)
    go_end0
    rw [HA.out]
    exact ⟨rfl, ⟨_, HM.out⟩, FrT.refl _ _ _⟩
  | false =>
    have HA : Hid (addL L j = L ++ [j]) := by rw [Hid, addL, if_neg (by rw [hb]; simp)]
    clear hb
    have hpw : p < w.heap.size := (Array.getElem?_eq_some_iff.1 HM.out.box).1
    have hown : w.ownsRow B 3 1 (.slice a L.length c) L.length (zv (zs15 L)) := by
      have h1 := HM.out.own
      rw [OwnZ, zs15_len] at h1
      exact h1
    have HO : Hid (w.ownsRow B 3 1 (.slice a L.length c) L.length (zv (zs15 L))) := hown
    have hne : (Value.slice a L.length c).ownBlock ≠ some p := own_offT hown HM.out.box (by decide)
    clear hown
    go_enter Tryz.func35, Tryz.ntmps35
    go_wp2_with (first | (go_at_call 20; refine (HH.out ()).mono ?_; rintro e wq ⟨rfl, hw⟩; rw [hw]; clear hw) | (at_builtin; refine wpList_append_own_at _ rfl _ _ 44 rfl B 3 i0 _ 1 8 Tryz.underlying44 hi hz0 hz1 hz2 rfl (by decide) _ _ _ rfl (World.ownsRow.alloc HO.out _) ⟨_, 0, none⟩ 1 1 [.int .i64 (j : Int)] rfl rfl (cells_new _ _ _) (by intro u hu; simp only [List.mem_cons, List.not_mem_nil, or_false] at hu; rcases hu with rfl; rfl) (by unfold maxLen; omega) (by omega) (by simp; omega) ?_))
    intro v5 w5 hown5 hgr5 _ hat5
    have hb5 : w5.heap[p]? = some (.cells #[.slice a L.length c] 46 (0, 0)) := (hgr5.block p (by simp; omega) (fun e => hne e.symm)).trans ((Below.heap_alloc w _ p hpw).trans HM.out.box)
    have c5 := run_cell (j := 0) hb5 rfl
    have f5 := run_frozen (j := 0) hb5
    obtain ⟨a5, k5, rfl⟩ := own_shape15 hown5
    have F5 : FrT [3, 46] C w w5 := (FrT.below ((Below.refl _ _).alloc (Nat.le_refl _) _) (by omega)).trans (fr_grown (World.ownsRow.alloc (own_base15 HO.out hB) _) hgr5 (by simp) (by simp; omega))
    have HF : Hid (FrT [3, 46] C w (w5.setCell ⟨p, 0, none⟩ (.slice a5 (L.length + 1) k5))) := F5.trans (fr_set _ hb5 (by simp) hp)
    have HN : Hid (Met15 p B (L ++ [j]) (.slice a5 (L.length + 1) k5) (w5.setCell ⟨p, 0, none⟩ (.slice a5 (L.length + 1) k5))) := by
      refine ⟨setCell_self (j := 0) _ hb5, ?_⟩
      have h1 : OwnZ B (.slice a5 (L.length + 1) k5) (zs15 (L ++ [j])) w5 := by
        rw [OwnZ, zs15_len, List.length_append, zs15, List.map_append, zv, List.map_append]
        exact hown5
      exact own_frT h1 (fr_set (ts := [46]) (B := p) _ hb5 (by simp) (Nat.le_refl _)) (by decide)
    clear hown5 hgr5 hat5 hb5 F5
    go_wp2
    go_end0
    rw [HA.out]
    exact ⟨rfl, ⟨_, HN.out⟩, HF.out⟩

end Go.Proofs.YtkmkfpgaehgonaaGreatDoor
