/- The verifier's thirteen texts, exactly: read out of the translation itself, and how l11Split parts them. -/
/- At the verifier's thirteen texts: what is parsed out of each, its form, and the grammar that it is made into. -/
/- What hangs on none of some blocks; rows whose elements do. No program is named. -/
import Derived.Test.YtccogaoabdpfmaaGreatSetBits
import Derived.Test.YtccogaoabdpfmaaGreatS10O
import Derived.Test.YtccogaoabdpfmaaGreatSfG
import Derived.Test.YtccogaoabdpfmaaGreatSfF
import Derived.Test.YtccogaoabdpfmaaGreatS11N
import Derived.Test.YtccogaoabdpfmaaGreatXPure
namespace Go.Proofs.YtccogaoabdpfmaaGreat
open Go.RowKit
set_option maxHeartbeats 800000
set_option maxRecDepth 100000
set_option linter.unusedVariables false
def opTexts : Op → List ByteArray
 | .buildSlice _ _ parts => parts.toList.filterMap fun p => match p.2 with | .const (.string s) => some s | _ => none
 | _ => []
def codeTexts : Code → List ByteArray
 | .seq a b => codeTexts a ++ codeTexts b
 | .region _ is _ => is.toList.flatMap fun i => opTexts i.op
 | _ => []
noncomputable def texts11 : List ByteArray := match Tryz.f82.body with | some c => codeTexts c | none => []
theorem texts11_len : texts11.length = 13 := by kernel_rfl
def bar11 (s : ByteArray) : Nat := (List.range s.size).foldl (fun m i => if s.data.toList[i]? = some 124 then i else m) s.size
def cut11 (s : ByteArray) : ByteArray × ByteArray := if bar11 s < s.size then (s.extract 0 (bar11 s), s.extract (bar11 s + 1) s.size) else (s, ⟨#[97]⟩)
theorem bar_of {s : ByteArray} {j : Nat} (hj : j < s.size) (h : s[j] = 124) (hn : ∀ m (hm : m < s.size), j < m → ¬ s[m] = 124) : bar11 s = j := by
 have key : ∀ k, k ≤ s.size → j < k → (List.range k).foldl (fun m i => if s.data.toList[i]? = some 124 then i else m) s.size = j := by
  intro k
  induction k with
  | zero => intro _ h0; omega
  | succ k ih =>
   intro hk hjk
   have hl : k < s.data.toList.length := by rw [toList_size s]; omega
   rw [List.range_succ, List.foldl_append, List.foldl_cons, List.foldl_nil]
   have eg : s.data.toList[k]? = some s[k] := by rw [List.getElem?_eq_getElem hl]; rfl
   by_cases c : j = k
   ·subst c
    rw [if_pos (eg.trans (congrArg some h))]
   ·rw [if_neg (fun h' => hn k (by omega) (by omega) (Option.some.inj (eg.symm.trans h'))), ih (by omega) (by omega)]
 exact key s.size (Nat.le_refl _) hj
theorem bar_none {s : ByteArray} (hn : ∀ m (hm : m < s.size), ¬ s[m] = 124) : bar11 s = s.size := by
 have key : ∀ k, k ≤ s.size → (List.range k).foldl (fun m i => if s.data.toList[i]? = some 124 then i else m) s.size = s.size := by
  intro k
  induction k with
  | zero => intro _; rfl
  | succ k ih =>
   intro hk
   have hl : k < s.data.toList.length := by rw [toList_size s]; omega
   rw [List.range_succ, List.foldl_append, List.foldl_cons, List.foldl_nil, ih (by omega)]
   have eg : s.data.toList[k]? = some s[k] := by rw [List.getElem?_eq_getElem hl]; rfl
   rw [if_neg (fun h' => hn k (by omega) (Option.some.inj (eg.symm.trans h')))]
 exact key s.size (Nat.le_refl _)
theorem list11_is (w : World) :
  Calls Tryz.prog 82 #[] w fun e w' => e = .returned (.slice (some ⟨w.heap.size, 0, none⟩) 13 13) ∧ w' = w.alloc (.cells (texts11.map Value.string).toArray 9) := by
 go_enter Tryz.func82, Tryz.ntmps82
 go_wp2
 go_ret
 refine ⟨rfl, ?_⟩
 refine congrArg (fun c => w.alloc (Obj.cells c 9)) ?_
 kernel_rfl
theorem texts11_row (w : World) (t : TypeId) (i : Nat) (h : i < texts11.length) : (w.alloc (.cells (texts11.map Value.string).toArray t)).cell? ⟨w.heap.size, i, none⟩ = some (.string texts11[i]) := by
 have := World.news_of_block (heap_alloc_new w (.cells (texts11.map Value.string).toArray t)) i (.string texts11[i]) (by simp [h])
 rw [Addr.add_lit, Nat.zero_add] at this
 exact this
theorem texts11_size : ∀ s ∈ texts11, s.size ≤ 200 := by
 have : texts11.all (fun s => decide (s.size ≤ 200)) = true := by kernel_rfl
 intro s hs
 simpa using List.all_eq_true.1 this s hs
theorem split11_is (m : Nat) (w : World) (h1 : m < texts11.length) :
  Calls Tryz.prog 58 #[.int .i64 m] w fun e w' => e = .returned (.tuple #[.string (cut11 texts11[m]).1, .string (cut11 texts11[m]).2]) ∧ Below w.heap.size w w' := by
 have hs := texts11_row w 9 m h1
 have hz := texts11_size texts11[m] (List.getElem_mem _)
 have hm : m < 13 := by rw [← texts11_len]; exact h1
 generalize texts11[m] = s at *
 have HB : Hid (Below w.heap.size w (w.alloc (.cells (texts11.map Value.string).toArray 9))) := (Below.refl _ _).alloc (Nat.le_refl _) _
 go_enter Tryz.func58, Tryz.ntmps58
 go_wp2_with fail
 refine (list11_is _).mono ?_
 rintro e w1 ⟨rfl, rfl⟩
 generalize w.alloc (.cells (texts11.map Value.string).toArray 9) = w1 at *
 have hk : (m : Int).tmod 13 = (m : Int) := by rw [Int.tmod_eq_emod_of_nonneg (by omega)]; omega
 go_wp2
 go_loop [6] (fun iv => ∃ i : Int, iv = .int .i64 i ∧ -1 ≤ i ∧ i < s.size ∧ ∀ q (hq : q < s.size), i < (q : Int) → ¬ s[q] = 124) (fun iv => (intOf iv + 1).toNat)
 case atStart => exact ⟨_, rfl, by omega, by omega, fun q hq h => by omega⟩
 case round =>
  obtain ⟨i, rfl, hi0, hi1, hnone⟩ := hrel
  have HN : Hid (∀ q (hq : q < s.size), i < (q : Int) → ¬ s[q] = 124) := hnone
  clear hnone
  by_cases hneg : 0 ≤ i
  ·obtain ⟨j, rfl⟩ := Int.eq_ofNat_of_zero_le hneg
   have hj : j < s.size := by omega
   have hu := s[j].toNat_lt
   by_cases hb : s[j].toNat = 124
   ·have HE : Hid (cut11 s = (s.extract 0 j, s.extract (j + 1) s.size)) := by
     have e := bar_of hj (u8_is hb (by decide)) (fun q hq hjq => HN.out q hq (by omega))
     rw [Hid, cut11, e, if_pos hj]
    have q : ((s[j].toNat : Int) == 124) = true := by rw [beq_iff_eq]; omega
    go_wp2
    go_region
    go_wp2
    go_ret2
    rw [HE.out]
    exact ⟨by simp, ⟨HB.out.os, HB.out.tape, HB.out.output, HB.out.size, HB.out.block⟩⟩
   ·have q : ((s[j].toNat : Int) == 124) = false := by rw [beq_eq_false_iff_ne]; omega
    have HX : Hid (¬ s[j] = 124) := fun h => hb (by rw [h]; rfl)
    go_wp2
    go_round
    case rel =>
     refine ⟨(j : Int) - 1, rfl, by omega, by omega, fun q hq hjq => ?_⟩
     by_cases c : q = j
     ·subst c; exact HX.out
     ·exact HN.out q hq (by omega)
    case measure => simp [intOf]
  ·obtain rfl : i = -1 := by omega
   have HE : Hid (cut11 s = (s, ⟨#[97]⟩)) := by
    have e := bar_none (s := s) (fun q hq => HN.out q hq (by omega))
    rw [Hid, cut11, e, if_neg (Nat.lt_irrefl _)]
   go_wp2
   go_ret2
   rw [HE.out]
   exact ⟨rfl, HB.out⟩
end Go.Proofs.YtccogaoabdpfmaaGreat

namespace Go.Proofs.YtccogaoabdpfmaaGreat
open Go.RowKit
set_option linter.unusedVariables false
theorem formC_of {ns : List SNodeD} {rs : List SRuleD} (hI : SurfIn ns rs) : FormC ns rs := fun B nv rv W hN hR => form_any ns rs hI nv rv W (sNs_of hN) (sRs_of hR)
instance (x : Int) : Decidable (i64 x) := by unfold i64; infer_instance
instance (ns : List NodeD) : Decidable (NIn ns) := by unfold NIn; infer_instance
instance (ns : List SNodeD) : Decidable (LeafsIn ns) := by unfold LeafsIn; infer_instance
instance (rs : List SRuleD) : Decidable (RulesInS rs) := by unfold RulesInS; infer_instance
instance (ns : List SNodeD) (rs : List SRuleD) : Decidable (SurfIn ns rs) :=
 decidable_of_iff (ns.length ≤ 100000 ∧ rs.length ≤ 100000 ∧ (∀ x ∈ ns, x.kids.length ≤ 10000000 ∧ x.args.length ≤ 10000000) ∧ LeafsIn ns ∧ RulesInS rs)
  ⟨fun h => ⟨h.1, h.2.1, h.2.2.1, h.2.2.2.1, h.2.2.2.2⟩, fun h => ⟨h.nl, h.rl, h.kl, h.lf, h.rn⟩⟩
end Go.Proofs.YtccogaoabdpfmaaGreat

namespace Go.Proofs.YtccogaoabdpfmaaGreat
open Go.RowKit
set_option linter.unusedVariables false
variable {α : Type}
def Held (A : Nat → Prop) (w : World) (P : World → Prop) : Prop := ∀ W : World, w.heap.size ≤ W.heap.size → (∀ k, k < w.heap.size → ¬ A k → W.heap[k]? = w.heap[k]?) → P W
structure FrA (A : Nat → Prop) (w w' : World) : Prop where
 size : w.heap.size ≤ w'.heap.size
 block : ∀ k, k < w.heap.size → ¬ A k → w'.heap[k]? = w.heap[k]?
section
variable {A A' : Nat → Prop} {B : Nat} {w w' w1 w2 : World} {P Q : World → Prop}
theorem Held.here (h : Held A w P) : P w := h w (Nat.le_refl _) (fun _ _ _ => rfl)
theorem Held.imp (h : Held A w P) (hi : ∀ W, P W → Q W) : Held A w Q := fun W h1 h2 => hi W (h W h1 h2)
theorem Held.and (h : Held A w P) (k : Held A w Q) : Held A w fun W => P W ∧ Q W := fun W h1 h2 => ⟨h W h1 h2, k W h1 h2⟩
theorem Held.away (h : Held A w P) (hA : ∀ k, k < w.heap.size → A' k → A k) : Held A' w P := fun W h1 h2 => h W h1 (fun k hk ha => h2 k hk (fun ha' => ha (hA k hk ha')))
theorem Held.fr (h : Held A w P) (hf : FrA A w w') : Held A w' P := fun W h1 h2 => h W (Nat.le_trans hf.size h1) (fun k hk ha => (h2 k (Nat.lt_of_lt_of_le hk hf.size) ha).trans (hf.block k hk ha))
theorem Held.go (h : Held A w P) (hf : FrA A w w') (hA : ∀ k, k < w.heap.size → A' k → A k) : Held A' w' P := fun W h1 h2 => h W (Nat.le_trans hf.size h1) (fun k hk ha => (h2 k (Nat.lt_of_lt_of_le hk hf.size) (fun ha' => ha (hA k hk ha'))).trans (hf.block k hk ha))
theorem Held.of_fresh (h : Fresh B w P) (hA : ∀ k, A k → k < B) : Held A w P := fun W h1 h2 => h W h1 (fun k hk hlt => h2 k hlt (fun ha => by have := hA k ha; omega))
theorem FrA.refl (A : Nat → Prop) (w : World) : FrA A w w := ⟨Nat.le_refl _, fun _ _ _ => rfl⟩
theorem FrA.trans (h : FrA A w w1) (k : FrA A' w1 w2) (hA : ∀ k, k < w.heap.size → A' k → A k) : FrA A w w2 :=
 ⟨Nat.le_trans h.size k.size, fun b hb ha => (k.block b (Nat.lt_of_lt_of_le hb h.size) (fun ha' => ha (hA b hb ha'))).trans (h.block b hb ha)⟩
theorem FrA.wide (h : FrA A w w') (hA : ∀ k, k < w.heap.size → A k → A' k) : FrA A' w w' := ⟨h.size, fun k hk ha => h.block k hk (fun ha' => ha (hA k hk ha'))⟩
theorem FrA.below (h : Below w.heap.size w w') : FrA A w w' := ⟨h.size, fun k hk _ => h.block k hk⟩
theorem FrA.set {p j : Nat} (u : Value) (hp : A p) : FrA A w (w.setCell ⟨p, j, none⟩ u) := ⟨by simp [World.setCell], fun k _ ha => setCell_other u (fun e => ha (e ▸ hp))⟩
theorem FrA.grown {r : Option Nat} (hg : w.grownBy w' r) (hr : ∀ k, r = some k → A k) : FrA A w w' := ⟨hg.size, fun k hk ha => hg.block k hk (fun e => ha (hr k e.symm))⟩
end
def HE (A : Nat → Prop) (E : World → List Value → α → Prop) (w : World) (vs : List Value) (x : α) : Prop := Held A w fun W => E W vs x
abbrev RowH (sz : Nat) (T : TypeId) (E : World → List Value → α → Prop) (A : Nat → Prop) (B : Nat) (v : Value) (xs : List α) (w : World) : Prop := RowO sz T (HE A E) B v xs w
section
variable {sz : Nat} {T : TypeId} {E : World → List Value → α → Prop} {A A' : Nat → Prop} {B : Nat} {v : Value} {xs : List α} {w w' : World}
theorem RowH.rowC (h : RowH sz T E A B v xs w) : RowC sz E w v xs := by
 obtain ⟨a, cap, rfl, hcap, hh⟩ := RowO.row h
 refine ⟨a, cap, rfl, hcap, fun h0 => ?_⟩
 obtain ⟨b, off, rfl, hlt, hc⟩ := hh h0
 exact ⟨b, off, rfl, hlt, fun i hi => (hc i hi).imp fun vs h => ⟨h.1, h.2.1, h.2.2.here⟩⟩
theorem RowH.go (h : RowH sz T E A B v xs w) (hf : FrA A w w') (hA : ∀ k, k < w.heap.size → A' k → A k) (hv : ∀ k, v.ownBlock = some k → w'.heap[k]? = w.heap[k]?) : RowH sz T E A' B v xs w' := by
 obtain ⟨vss, h1, h2, h3, h4⟩ := h
 refine ⟨vss, h1, h2, ⟨h3.1, ?_⟩, fun i hi hi' => Held.go (h4 i hi hi') hf hA⟩
 rcases h3.2 with hn | ⟨g, cap, cur, rfl, hB, hc, r⟩
 ·exact .inl hn
 ·exact .inr ⟨g, cap, cur, rfl, hB, (hv g rfl).trans hc, r⟩
theorem RowH.below (h : RowH sz T E A B v xs w) (hb : Below w.heap.size w w') : RowH sz T E A B v xs w' :=
 RowH.go h (FrA.below hb) (fun _ _ ha => ha) (fun k hk => hb.block k (RowO.lt h k hk).2)
theorem RowH.held (h : RowH sz T E A B v xs w) (hv : ∀ k, v.ownBlock = some k → ¬ A k) : Held A w fun W => RowC sz E W v xs := by
 intro W hW hbl
 obtain ⟨vss, h1, h2, h3, h4⟩ := h
 have h3' : W.ownsRow B T sz v xs.length vss.flatten := by
  refine ⟨h3.1, ?_⟩
  rcases h3.2 with hn | ⟨g, cap, cur, rfl, hB, hc, r⟩
  ·exact .inl hn
  ·exact .inr ⟨g, cap, cur, rfl, hB, (hbl g (Array.getElem?_eq_some_iff.1 hc).1 (hv g rfl)).trans hc, r⟩
 exact RowO.row (sz := sz) (T := T) (E := E) (B := B) ⟨vss, h1, h2, h3', fun i hi hi' => h4 i hi hi' W hW hbl⟩
theorem RowH.nil : RowH sz T E A B (.slice none 0 0) ([] : List α) w := RowO.nil
theorem RowH.snoc (h : RowH sz T E A B v xs w) : ∃ cs, w.ownsRow B T sz v xs.length cs ∧ ∀ (g cap : Nat) (w1 w2 : World) (vs : List Value) (x : α), vs.length = sz → FrA A w w1 → w2.ownsRow B T sz (.slice (some ⟨g, 0, none⟩) (xs.length + 1) cap) (xs.length + 1) (cs ++ vs) → w1.grownBy w2 v.ownBlock → (∀ k, v.ownBlock = some k → A k) → (∀ k, k < w.heap.size → A' k → A k) → Held A' w2 (fun W => E W vs x) → RowH sz T E A' B (.slice (some ⟨g, 0, none⟩) (xs ++ [x]).length cap) (xs ++ [x]) w2 := by
 obtain ⟨vss, h1, h2, h3, h4⟩ := h
 refine ⟨vss.flatten, h3, fun g cap w1 w2 vs x hl hf ho2 hg hvA hA hx => ?_⟩
 have hfr : FrA A w w2 := hf.trans (FrA.grown hg hvA) (fun _ _ ha => ha)
 have e : (xs ++ [x]).length = xs.length + 1 := by simp
 rw [e]
 refine ⟨vss ++ [vs], by simp [h1], fun u hu => ?_, by rw [e]; simpa using ho2, fun i hi hi' => ?_⟩
 ·rcases List.mem_append.1 hu with hu | hu
  ·exact h2 u hu
  ·rw [List.mem_singleton.1 hu]; exact hl
 ·by_cases hlt : i < vss.length
  ·rw [List.getElem_append_left hlt, List.getElem_append_left (by omega)]
   exact Held.go (h4 i hlt (by omega)) hfr hA
  ·have e : i = vss.length := by simp at hi; omega
   subst e
   rw [List.getElem_append_right (Nat.le_refl _), List.getElem_append_right (by omega)]
   simp only [Nat.sub_self, h1]
   exact hx
end
end Go.Proofs.YtccogaoabdpfmaaGreat
