/- What is shown of a grammar with groups, in pure terms. No program is named. -/
/- ShowExpr of the specification. -/
/- The specification's l11ShowArgs. -/
/- The specification's l11Show, kind by kind (printed by mk/shb.py). -/
/- The specification's ShowSurface, at a surface that is right. -/
/- What is shown, as lists of bytes, for the kernel to work out; and FnTokens in pure terms. No program is named. -/
/- Bytes and runes: what a range over a text tells of spans of its bytes. No program is named. -/
import Derived.Test.YtccogaoabdpfmaaGreatXShow
import Derived.Test.YtccogaoabdpfmaaGreatSfR
import Derived.Test.YtccogaoabdpfmaaGreatXOk
import Derived.Test.YtccogaoabdpfmaaGreatSfR2
import Derived.Test.YtccogaoabdpfmaaGreatMoS
import Derived.Test.YtccogaoabdpfmaaGreatSuD
import Derived.Test.YtccogaoabdpfmaaGreatXPure
import Derived.Deep.RegionHeld3
import Derived.Lib.OthersKept
namespace Go.Proofs.YtccogaoabdpfmaaGreat
open Go.RowKit
set_option linter.unusedVariables false
def joinN (sep : ByteArray) (y : Nat → ByteArray) : Nat → ByteArray
 | 0 => ⟨#[]⟩
 | k + 1 => (if 0 < k then joinN sep y k ++ sep else joinN sep y k) ++ y k
theorem joinN_congr (sep : ByteArray) {y z : Nat → ByteArray} : ∀ n, (∀ k, k < n → y k = z k) → joinN sep y n = joinN sep z n
 | 0, _ => rfl
 | n + 1, h => by rw [joinN, joinN, joinN_congr sep n (fun k hk => h k (by omega)), h n (by omega)]
theorem joinN_size (sep : ByteArray) (y : Nat → ByteArray) (M : Nat) (h : ∀ k, (y k).size ≤ M) : ∀ n, (joinN sep y n).size ≤ n * (M + sep.size)
 | 0 => Nat.zero_le _
 | n + 1 => by
  have h1 := joinN_size sep y M h n
  have h2 := h n
  rw [joinN, ByteArray.size_append, Nat.succ_mul]
  split
  ·rw [ByteArray.size_append]; omega
  ·omega
def shwArgs (es : List (List NodeD)) (n : Nat) : ByteArray := joinN ⟨#[44]⟩ (fun k => showB (es.getD k [])) n
def shwCall (x : SNodeD) : ByteArray := if x.bind = em then x.text else x.bind ++ ⟨#[58]⟩ ++ x.text
def starB (k : Int) : ByteArray := if k = 7 then ⟨#[42]⟩ else if k = 8 then ⟨#[43]⟩ else ⟨#[63]⟩
def kidA (x : SNodeD) (k : Nat) : Nat := (x.kids.getD k 0).toNat
def shwIn (ns : List SNodeD) (z : Nat) (t : ByteArray) : ByteArray := if (nodeS ns (z : Int)).kind = 6 then ⟨#[40, 32]⟩ ++ t ++ ⟨#[32, 41]⟩ else t
def shwBody (ns : List SNodeD) (x : SNodeD) (y : Nat → ByteArray) : ByteArray :=
 if x.kind = 1 then ⟨#[34]⟩ ++ x.text ++ ⟨#[34]⟩
 else if x.kind = 2 then ⟨#[91]⟩ ++ x.text ++ ⟨#[93]⟩
 else if x.kind = 4 then ⟨#[123, 32]⟩ ++ shwArgs x.args x.args.length ++ ⟨#[32, 125]⟩
 else if x.kind = 3 then (if 0 < x.args.length then shwCall x ++ ⟨#[40]⟩ ++ shwArgs x.args x.args.length ++ ⟨#[41]⟩ else shwCall x)
 else if x.kind = 5 then joinN ⟨#[32]⟩ (fun k => shwIn ns (kidA x k) (y (kidA x k))) x.kids.length
 else if x.kind = 6 then joinN ⟨#[32, 124, 32]⟩ (fun k => y (kidA x k)) x.kids.length
 else ⟨#[40, 32]⟩ ++ y (kidA x 0) ++ ⟨#[32, 41]⟩ ++ starB x.kind
def shwF : Nat → List SNodeD → Nat → ByteArray
 | 0, _, _ => ⟨#[]⟩
 | f + 1, ns, i => shwBody ns (nodeS ns (i : Int)) (shwF f ns)
def shwS (ns : List SNodeD) (i : Nat) : ByteArray := shwF ns.length ns i
theorem kidA_lt {ns : List SNodeD} (hS : Shaped ns) {i : Nat} (hi : i < ns.length) {j : Nat} (hj : j < ns[i].kids.length) : ns[i].kids[j] = (kidA ns[i] j : Int) ∧ kidA ns[i] j < i := by
 obtain ⟨z, e, hz, _⟩ := kid_lt hS hi hj
 have : kidA ns[i] j = z := by rw [kidA, List.getD_eq_getElem?_getD, List.getElem?_eq_getElem hj, Option.getD_some, e, Int.toNat_natCast]
 rw [this]
 exact ⟨e, hz⟩
theorem shwBody_congr {ns : List SNodeD} (hS : Shaped ns) {i : Nat} (hi : i < ns.length) {y z : Nat → ByteArray} (h : ∀ k, k < i → y k = z k) : shwBody ns ns[i] y = shwBody ns ns[i] z := by
 have hk := (hS i hi).kind
 unfold shwBody
 split; · rfl
 split; · rfl
 split; · rfl
 split; · rfl
 split
 ·exact joinN_congr _ _ fun k hk => by rw [h _ (kidA_lt hS hi hk).2]
 split
 ·exact joinN_congr _ _ fun k hk => by rw [h _ (kidA_lt hS hi hk).2]
 ·rw [h _ (kidA_lt hS hi (by rw [(hS i hi).one (by omega)]; decide)).2]
theorem shwF_fuel {ns : List SNodeD} (hS : Shaped ns) : ∀ (n i f g : Nat), i < n → i < f → i < g → i < ns.length → shwF f ns i = shwF g ns i
 | 0, _, _, _, h, _, _, _ => absurd h (Nat.not_lt_zero _)
 | n + 1, i, 0, _, _, h, _, _ => absurd h (Nat.not_lt_zero _)
 | n + 1, i, f + 1, 0, _, _, h, _ => absurd h (Nat.not_lt_zero _)
 | n + 1, i, f + 1, g + 1, hn, hf, hg, hi => by
  rw [shwF, shwF, nodeS_is hi]
  exact shwBody_congr hS hi fun k hk => shwF_fuel hS n k f g (by omega) (by omega) (by omega) (by omega)
theorem shwS_at {ns : List SNodeD} (hS : Shaped ns) {i : Nat} (hi : i < ns.length) : shwS ns i = shwBody ns ns[i] (shwS ns) := by
 obtain ⟨m, hm⟩ : ∃ m, ns.length = m + 1 := ⟨ns.length - 1, by omega⟩
 have e : shwS ns i = shwBody ns ns[i] (shwF m ns) := by rw [shwS, hm, shwF, nodeS_is hi]
 rw [e]
 exact shwBody_congr hS hi fun k hk => shwF_fuel hS (k + 1) k m ns.length (by omega) (by omega) (by omega) (by omega)
def shwRule (ns : List SNodeD) (r : SRuleD) (n : Nat) (out : ByteArray) : ByteArray := match n with
 | 0 => out ++ r.name
 | k + 1 => shwRule ns r k out ++ (if k = 0 then ⟨#[40]⟩ else ⟨#[44]⟩) ++ r.params.getD k ⟨#[]⟩
def shwEnd (ns : List SNodeD) (r : SRuleD) (out : ByteArray) : ByteArray :=
 (if 0 < r.params.length then out ++ ⟨#[41]⟩ else out) ++ (⟨#[32, 45, 62, 32]⟩) ++ shwS ns r.body.toNat ++ ⟨#[32, 59, 10]⟩
def shwRules (ns : List SNodeD) (rs : List SRuleD) : Nat → ByteArray
 | 0 => ⟨#[]⟩
 | n + 1 => shwEnd ns (rs.getD n default) (shwRule ns (rs.getD n default) (rs.getD n default).params.length (shwRules ns rs n))
end Go.Proofs.YtccogaoabdpfmaaGreat

namespace Go.Proofs.YtccogaoabdpfmaaGreat
open Go.RowKit
set_option maxHeartbeats 1600000
set_option maxRecDepth 100000
theorem specShowExpr_any (v : Value) (ns : List NodeD) (w : World) (hin : NIn ns) (h : NRow w v ns) :
  Calls Tryz.prog 43 #[.agg #[v]] w fun e w' => e = .returned (.string (showB ns)) ∧ Below w.heap.size w w' := by
 have HR : Hid (NRow w v ns) := h
 have HIn : Hid (NIn ns) := hin
 obtain ⟨a, cap, rfl⟩ := h.slice
 clear h hin
 have B0 : Hid (Below w.heap.size w (w.alloc (.cells #[.slice a ns.length cap] 95))) := (Below.refl _ _).alloc (Nat.le_refl _) _
 have E0 : Hid ((w.alloc (.cells #[.slice a ns.length cap] 95)).cell? ⟨w.heap.size, 0, none⟩ = some (.slice a ns.length cap)) := lit_one _ _ _
 cases hex : exprB ns with
 | false =>
  have HEx : Hid (∀ W, NRow W (.slice a ns.length cap) ns → _) := fun W => specExprOk_is (.slice a ns.length cap) ns false hex W HIn.out
  have HF : Hid (showB ns = ⟨#[]⟩) := by rw [Hid, showB, hex]; exact if_neg (fun h => by cases h.1)
  rw [HF.out]
  clear hex
  go_enter Tryz.func43, Tryz.ntmps43
  go_wp2_with fail
  refine (HEx.out _ (HR.out.below B0.out)).mono ?_
  rintro e w1 ⟨rfl, hb1⟩
  have B1 : Hid (Below w.heap.size w w1) := B0.out.trans (hb1.mono B0.out.size)
  clear hb1
  go_wp2
  go_ret
  exact ⟨rfl, B1.out⟩
 | true =>
  have HEx : Hid (∀ W, NRow W (.slice a ns.length cap) ns → _) := fun W => specExprOk_is (.slice a ns.length cap) ns true hex W HIn.out
  have HSz : Hid (∀ W, NRow W (.slice a ns.length cap) ns → _) := fun W => l04Size_any (.slice a ns.length cap) ns W hex
  have hl := (exprB_at hex).1
  have HSh : Hid (∀ W, NRow W (.slice a ns.length cap) ns → _) := l04Show_any hex ns.length (ns.length - 1) (by omega) (by omega) (by omega) (.slice a ns.length cap)
  have HF : Hid (sizeB ns ≤ 200 → showB ns = showN ns.length ns (ns.length - 1)) := fun h => by rw [showB, hex]; exact if_pos ⟨rfl, h⟩
  have HF' : Hid (¬ sizeB ns ≤ 200 → showB ns = ⟨#[]⟩) := fun h => by rw [showB, hex]; exact if_neg (fun h' => h h'.2)
  clear hex
  generalize showN ns.length ns (ns.length - 1) = T at *
  generalize showB ns = R at *
  generalize sizeB ns = S at *
  go_enter Tryz.func43, Tryz.ntmps43
  go_wp2_with fail
  refine (HEx.out _ (HR.out.below B0.out)).mono ?_
  rintro e w1 ⟨rfl, hb1⟩
  have B1 : Hid (Below w.heap.size w w1) := B0.out.trans (hb1.mono B0.out.size)
  have hE1 := cell_keep E0.out hb1
  clear hb1 E0 B0
  go_wp2_with fail
  refine (HSz.out _ (HR.out.below B1.out)).mono ?_
  rintro e w2 ⟨rfl, hb2⟩
  have B2 : Hid (Below w.heap.size w w2) := B1.out.trans (hb2.mono B1.out.size)
  have hE2 := cell_keep hE1 hb2
  clear hb2 hE1
  by_cases hs : S ≤ 200
  ·obtain rfl := HF.out hs
   have hs2 : ¬ 200 < S := by omega
   have i1 : IntKind.i64.wrap ((ns.length : Int) - 1) = ((ns.length - 1 : Nat) : Int) := by rw [IntKind.wrap_i64]; omega
   clear HF HF'
   go_wp2_with fail
   refine (HSh.out _ (HR.out.below B2.out)).mono ?_
   rintro e w3 ⟨rfl, hb3⟩
   have B3 := B2.out.trans (hb3.mono B2.out.size)
   clear hb3
   go_wp2
   go_ret
   exact ⟨rfl, B3⟩
  ·obtain rfl := HF'.out (by omega)
   have hs2 : 200 < S := by omega
   clear HF HF'
   go_wp2
   go_ret
   exact ⟨rfl, B2.out⟩
end Go.Proofs.YtccogaoabdpfmaaGreat

namespace Go.Proofs.YtccogaoabdpfmaaGreat
open Go.RowKit
set_option maxHeartbeats 3200000
set_option maxRecDepth 100000
set_option linter.unusedVariables false
theorem showB_size (ns : List NodeD) : (showB ns).size ≤ 33554432 := by
 unfold showB
 split
 ·rename_i h
  have h1 := showN_size (exprB_at h.1).2 ns.length (ns.length - 1)
  have hl := (exprB_at h.1).1
  have h2 : 2 ^ ns.length ≤ 2 ^ 20 := Nat.pow_le_pow_right (by omega) (by omega)
  have h3 : (2 : Nat) ^ 20 = 1048576 := by decide
  omega
 ·show 0 ≤ _
  omega
theorem shwArgs_size (es : List (List NodeD)) (n : Nat) (hn : n ≤ 1000) : (shwArgs es n).size ≤ 40000000000 := by
 have h := joinN_size ⟨#[44]⟩ (fun k => showB (es.getD k [])) 33554432 (fun k => showB_size _) n
 have e : (⟨#[44]⟩ : ByteArray).size = 1 := rfl
 rw [e] at h
 have h2 : n * (33554432 + 1) ≤ 1000 * (33554432 + 1) := Nat.mul_le_mul_right _ hn
 exact Nat.le_trans h (by omega)
theorem shwArgs_next (es : List (List NodeD)) (k : Nat) (h : k < es.length) : shwArgs es (k + 1) = (if 0 < k then shwArgs es k ++ ⟨#[44]⟩ else shwArgs es k) ++ showB es[k] := by
 show (if 0 < k then shwArgs es k ++ ⟨#[44]⟩ else shwArgs es k) ++ showB (es.getD k []) = _
 rw [List.getD_eq_getElem?_getD, List.getElem?_eq_getElem h]
 rfl
theorem showArgs_any (v : Value) (es : List (List NodeD)) (w : World) (hl : es.length ≤ 1000) (hin : ∀ e ∈ es, NIn e) (h : RowC 1 ExprE w v es) :
  Calls Tryz.prog 18 #[v] w fun e w' => e = .returned (.string (shwArgs es es.length)) ∧ Below w.heap.size w w' := by
 have HR : Hid (RowC 1 ExprE w v es) := h
 have HI : Hid (∀ e ∈ es, NIn e) := hin
 obtain ⟨a, cap, rfl⟩ := RowC.slice h
 clear h hin
 go_enter Tryz.func18, Tryz.ntmps18
 go_wp2
 go_loopw [3, 4] (fun sv iv wr => ∃ k : Nat, iv = .int .i64 k ∧ sv = .string (shwArgs es k) ∧ k ≤ es.length ∧ Below w.heap.size w wr) (fun _ iv _ => es.length - (intOf iv).toNat)
 case atStart => exact ⟨0, rfl, rfl, Nat.zero_le _, Below.refl _ _⟩
 case round =>
  obtain ⟨k, rfl, rfl, hk, hb⟩ := hrel
  have HB : Hid (Below w.heap.size w wr) := hb
  have HRr : Hid (RowC 1 ExprE wr (.slice a es.length cap) es) := RowC.below ExprE_stable HR.out hb
  clear hb
  by_cases hlt : k < es.length
  ·obtain ⟨b, off, vs, rfl, _, hc, nv, rfl, hn⟩ := RowC.at HRr.out hlt
   have HN : Hid (∀ V : World, Below wr.heap.size wr V → Calls Tryz.prog 43 #[.agg #[nv]] V fun e w' => e = .returned (.string (showB es[k])) ∧ Below V.heap.size V w') := fun V hV => specShowExpr_any nv es[k] V (HI.out _ (List.getElem_mem hlt)) (hn.below hV)
   obtain ⟨an, cn, rfl⟩ := hn.slice
   have c0 : wr.cell? ⟨b, off + k, none⟩ = some (.slice an es[k].length cn) := by
    have := hc 0 (by simp)
    simpa using this
   have i4 : (k : Int) < (es.length : Int) := by omega
   have HX : Hid (shwArgs es (k + 1) = _) := shwArgs_next es k hlt
   have hT := shwArgs_size es k (by omega)
   have hU := showB_size es[k]
   clear hc hn
   generalize shwArgs es k = T at *
   generalize showB es[k] = U at *
   by_cases h0 : 0 < k
   ·have d0 : (0 : Int) < (k : Int) := by omega
    rw [if_pos h0] at HX
    go_wp2_with fail
    refine (HN.out _ (Below.refl _ _)).mono ?_
    rintro e w2 ⟨rfl, hb2⟩
    have HB2 : Hid (Below w.heap.size w w2) := HB.out.trans (hb2.mono HB.out.size)
    clear hb2
    go_wp2
    go_roundw
    case rel => exact ⟨k + 1, by go_num, by rw [HX.out], by omega, HB2.out⟩
    case measure => simp [intOf]; omega
   ·obtain rfl : k = 0 := by omega
    rw [if_neg h0] at HX
    rw [Nat.add_zero] at c0
    go_wp2_with fail
    refine (HN.out _ (Below.refl _ _)).mono ?_
    rintro e w2 ⟨rfl, hb2⟩
    have HB2 : Hid (Below w.heap.size w w2) := HB.out.trans (hb2.mono HB.out.size)
    clear hb2
    go_wp2
    go_roundw
    case rel => exact ⟨1, by go_num, by rw [HX.out], by omega, HB2.out⟩
    case measure => simp [intOf]; omega
  ·obtain rfl : k = es.length := by omega
   go_wp2
   go_ret
   exact ⟨rfl, HB.out⟩
end Go.Proofs.YtccogaoabdpfmaaGreat

namespace Go.Proofs.YtccogaoabdpfmaaGreat
open Go.RowKit
set_option maxHeartbeats 12800000
set_option maxRecDepth 100000
set_option linter.unusedVariables false
structure ShwB (ns : List SNodeD) : Prop where
 len : ns.length ≤ 100000
 leaf : ∀ x ∈ ns, x.text.size ≤ 1048576 ∧ x.bind.size ≤ 1048576 ∧ x.args.length ≤ 1000 ∧ ∀ e ∈ x.args, NIn e
 siz : ∀ i, i < ns.length → (shwS ns i).size ≤ 100000000
def ShowC (ns : List SNodeD) (rs : List SRuleD) (i : Nat) : Prop := ∀ (nv rv : Value) (W : World) (hi : i < ns.length), SNs W nv ns → SRs W rv rs →
 Calls Tryz.prog 11 #[.agg #[nv, rv], .int .i64 i] W fun e w' => e = .returned (.string (shwS ns i)) ∧ Below W.heap.size W w'
theorem kidA_in {ns : List SNodeD} (hS : Shaped ns) {i : Nat} (hi : i < ns.length) (k : Nat) : kidA ns[i] k < ns.length := by
 by_cases h : k < ns[i].kids.length
 ·have := (kidA_lt hS hi h).2
  omega
 ·rw [kidA, List.getD_eq_getElem?_getD, List.getElem?_eq_none (by omega)]
  show (0 : Nat) < _
  omega
theorem shwIn_size {ns : List SNodeD} (z : Nat) (t : ByteArray) : (shwIn ns z t).size ≤ t.size + 4 := by
 unfold shwIn
 split
 ·simp only [ByteArray.size_append]
  have e1 : (⟨#[40, 32]⟩ : ByteArray).size = 2 := rfl
  have e2 : (⟨#[32, 41]⟩ : ByteArray).size = 2 := rfl
  omega
 ·omega
def rowJ (ns : List SNodeD) (x : SNodeD) (j : Nat) : ByteArray := joinN ⟨#[32]⟩ (fun k => shwIn ns (kidA x k) (shwS ns (kidA x k))) j
def altJ (ns : List SNodeD) (x : SNodeD) (j : Nat) : ByteArray := joinN ⟨#[32, 124, 32]⟩ (fun k => shwS ns (kidA x k)) j
theorem rowJ_next (ns : List SNodeD) (x : SNodeD) (j : Nat) : rowJ ns x (j + 1) = (if 0 < j then rowJ ns x j ++ ⟨#[32]⟩ else rowJ ns x j) ++ shwIn ns (kidA x j) (shwS ns (kidA x j)) := rfl
theorem altJ_next (ns : List SNodeD) (x : SNodeD) (j : Nat) : altJ ns x (j + 1) = (if 0 < j then altJ ns x j ++ ⟨#[32, 124, 32]⟩ else altJ ns x j) ++ shwS ns (kidA x j) := rfl
theorem rowJ_size {ns : List SNodeD} (hS : Shaped ns) (hB : ShwB ns) {i : Nat} (hi : i < ns.length) (j : Nat) (hj : j ≤ 8) : (rowJ ns ns[i] j).size ≤ 1000000000 := by
 have h := joinN_size ⟨#[32]⟩ (fun k => shwIn ns (kidA ns[i] k) (shwS ns (kidA ns[i] k))) 100000004 (fun k => Nat.le_trans (shwIn_size _ _) (Nat.add_le_add_right (hB.siz _ (kidA_in hS hi k)) 4)) j
 have e : (⟨#[32]⟩ : ByteArray).size = 1 := rfl
 rw [e] at h
 have h2 : j * (100000004 + 1) ≤ 8 * (100000004 + 1) := Nat.mul_le_mul_right _ hj
 exact Nat.le_trans h (by omega)
theorem altJ_size {ns : List SNodeD} (hS : Shaped ns) (hB : ShwB ns) {i : Nat} (hi : i < ns.length) (j : Nat) (hj : j ≤ 8) : (altJ ns ns[i] j).size ≤ 1000000000 := by
 have h := joinN_size ⟨#[32, 124, 32]⟩ (fun k => shwS ns (kidA ns[i] k)) 100000000 (fun k => hB.siz _ (kidA_in hS hi k)) j
 have e : (⟨#[32, 124, 32]⟩ : ByteArray).size = 3 := rfl
 rw [e] at h
 have h2 : j * (100000000 + 3) ≤ 8 * (100000000 + 3) := Nat.mul_le_mul_right _ hj
 exact Nat.le_trans h (by omega)
theorem keep4h {W W' : World} {a b c d : Addr} {x y z u : Value} (h : W.cell? a = some x ∧ W.cell? b = some y ∧ W.cell? c = some z ∧ W.cell? d = some u) (hb : Below W.heap.size W W') : W'.cell? a = some x ∧ W'.cell? b = some y ∧ W'.cell? c = some z ∧ W'.cell? d = some u :=
 ⟨cell_keep h.1 hb, cell_keep h.2.1 hb, cell_keep h.2.2.1 hb, cell_keep h.2.2.2 hb⟩
theorem keep6h {W W' : World} {a b c d e f : Addr} {x y z u v p : Value} (h : W.cell? a = some x ∧ W.cell? b = some y ∧ W.cell? c = some z ∧ W.cell? d = some u ∧ W.cell? e = some v ∧ W.cell? f = some p) (hb : Below W.heap.size W W') : W'.cell? a = some x ∧ W'.cell? b = some y ∧ W'.cell? c = some z ∧ W'.cell? d = some u ∧ W'.cell? e = some v ∧ W'.cell? f = some p :=
 ⟨cell_keep h.1 hb, cell_keep h.2.1 hb, cell_keep h.2.2.1 hb, cell_keep h.2.2.2.1 hb, cell_keep h.2.2.2.2.1 hb, cell_keep h.2.2.2.2.2 hb⟩
theorem show_1 (ns : List SNodeD) (rs : List SRuleD) (hSh : Shaped ns) (hB : ShwB ns) (i : Nat) (ih : ∀ z, z < i → ShowC ns rs z) (hk : ∀ h : i < ns.length, ns[i].kind = 1) : ShowC ns rs i := by
 intro nv rv W hi hN hR
 have hk := hk hi
 obtain ⟨an, cn, rfl⟩ := RowC.slice hN
 obtain ⟨ar, cr, rfl⟩ := RowC.slice hR
 have S1 : Hid (SBox ns rs W an ar cn cr (W.alloc (.cells #[.slice an ns.length cn, .slice ar rs.length cr] 27))) := sbox_of hN hR
 obtain ⟨g, off, aa, ca, ka, ck, rfl, m0, m1, m2, m3, m4, hAr, hZ⟩ := sNs_at S1.out.nod hi
 have bal : Below (W.alloc (.cells #[.slice (some ⟨g, off, none⟩) ns.length cn, .slice ar rs.length cr] 27)).heap.size (W.alloc (.cells #[.slice (some ⟨g, off, none⟩) ns.length cn, .slice ar rs.length cr] 27)) ((W.alloc (.cells #[.slice (some ⟨g, off, none⟩) ns.length cn, .slice ar rs.length cr] 27)).alloc (.cells #[.int .i64 ns[i].kind, .string ns[i].text, .slice aa ns[i].args.length ca, .string ns[i].bind, .slice ka ns[i].kids.length ck] 60)) := (Below.refl _ _).alloc (Nat.le_refl _) _
 have X2 := heap_alloc_new (W.alloc (.cells #[.slice (some ⟨g, off, none⟩) ns.length cn, .slice ar rs.length cr] 27)) (.cells #[.int .i64 ns[i].kind, .string ns[i].text, .slice aa ns[i].args.length ca, .string ns[i].bind, .slice ka ns[i].kids.length ck] 60)
 rw [show (W.alloc (.cells #[.slice (some ⟨g, off, none⟩) ns.length cn, .slice ar rs.length cr] 27)).heap.size = W.heap.size + 1 by simp] at X2
 have H2 : Hid (ShI ns rs W (some ⟨g, off, none⟩) ar cn cr ns[i].kind ns[i].text ns[i].bind aa ns[i].args.length ca ka ck ns[i].kids ((W.alloc (.cells #[.slice (some ⟨g, off, none⟩) ns.length cn, .slice ar rs.length cr] 27)).alloc (.cells #[.int .i64 ns[i].kind, .string ns[i].text, .slice aa ns[i].args.length ca, .string ns[i].bind, .slice ka ns[i].kids.length ck] 60))) := ⟨S1.out.step bal, X2, hZ.below bal⟩
 have A2 : Hid (RowC 1 ExprE ((W.alloc (.cells #[.slice (some ⟨g, off, none⟩) ns.length cn, .slice ar rs.length cr] 27)).alloc (.cells #[.int .i64 ns[i].kind, .string ns[i].text, .slice aa ns[i].args.length ca, .string ns[i].bind, .slice ka ns[i].kids.length ck] 60)) (.slice aa ns[i].args.length ca) ns[i].args) := RowC.below ExprE_stable hAr bal
 have c0 := run_cell (j := 0) S1.out.box rfl
 have i1 : (i : Int) < (ns.length : Int) := by omega
 obtain ⟨l1, l2, l3, l4⟩ := hB.leaf ns[i] (List.getElem_mem hi)
 have HA : Hid (∀ V : World, RowC 1 ExprE V (.slice aa ns[i].args.length ca) ns[i].args → Calls Tryz.prog 18 #[.slice aa ns[i].args.length ca] V fun e w' => e = .returned (.string (shwArgs ns[i].args ns[i].args.length)) ∧ Below V.heap.size V w') := fun V h => showArgs_any _ _ V l3 l4 h
 have lA := shwArgs_size ns[i].args ns[i].args.length l3
 have HV0 : Hid (shwS ns i = shwBody ns ns[i] (shwS ns)) := shwS_at hSh hi
 have hk8 : ns[i].kids.length ≤ 8 := by
  have h := hSh i hi
  have hk := h.kind
  by_cases h5 : ns[i].kind = 5
  ·exact h.row h5
  by_cases h6 : ns[i].kind = 6
  ·exact (h.alt h6).2
  by_cases h7 : 6 < ns[i].kind
  ·rw [h.one h7]; decide
  ·rw [h.leaf (by omega)]; exact Nat.zero_le _
 rw [hk] at H2 A2 m0
 have y0 := run_cell (j := 0) H2.out.x rfl
 have y1 := run_cell (j := 1) H2.out.x rfl
 have y2 := run_cell (j := 2) H2.out.x rfl
 have y3 := run_cell (j := 3) H2.out.x rfl
 have y4 := run_cell (j := 4) H2.out.x rfl
 have HV : Hid (shwS ns i = ⟨#[34]⟩ ++ ns[i].text ++ ⟨#[34]⟩) := by rw [Hid, HV0.out, shwBody, if_pos hk]
 clear hN hR hAr hZ bal X2 S1 l4
 clear HV0 HA lA hSh hB ih hk
 generalize shwS ns i = R at *
 go_enter Tryz.func11, Tryz.ntmps11
 go_wp2
 go_ret
 rw [HV.out]
 exact ⟨rfl, H2.out.s.bel⟩
theorem show_2 (ns : List SNodeD) (rs : List SRuleD) (hSh : Shaped ns) (hB : ShwB ns) (i : Nat) (ih : ∀ z, z < i → ShowC ns rs z) (hk : ∀ h : i < ns.length, ns[i].kind = 2) : ShowC ns rs i := by
 intro nv rv W hi hN hR
 have hk := hk hi
 obtain ⟨an, cn, rfl⟩ := RowC.slice hN
 obtain ⟨ar, cr, rfl⟩ := RowC.slice hR
 have S1 : Hid (SBox ns rs W an ar cn cr (W.alloc (.cells #[.slice an ns.length cn, .slice ar rs.length cr] 27))) := sbox_of hN hR
 obtain ⟨g, off, aa, ca, ka, ck, rfl, m0, m1, m2, m3, m4, hAr, hZ⟩ := sNs_at S1.out.nod hi
 have bal : Below (W.alloc (.cells #[.slice (some ⟨g, off, none⟩) ns.length cn, .slice ar rs.length cr] 27)).heap.size (W.alloc (.cells #[.slice (some ⟨g, off, none⟩) ns.length cn, .slice ar rs.length cr] 27)) ((W.alloc (.cells #[.slice (some ⟨g, off, none⟩) ns.length cn, .slice ar rs.length cr] 27)).alloc (.cells #[.int .i64 ns[i].kind, .string ns[i].text, .slice aa ns[i].args.length ca, .string ns[i].bind, .slice ka ns[i].kids.length ck] 60)) := (Below.refl _ _).alloc (Nat.le_refl _) _
 have X2 := heap_alloc_new (W.alloc (.cells #[.slice (some ⟨g, off, none⟩) ns.length cn, .slice ar rs.length cr] 27)) (.cells #[.int .i64 ns[i].kind, .string ns[i].text, .slice aa ns[i].args.length ca, .string ns[i].bind, .slice ka ns[i].kids.length ck] 60)
 rw [show (W.alloc (.cells #[.slice (some ⟨g, off, none⟩) ns.length cn, .slice ar rs.length cr] 27)).heap.size = W.heap.size + 1 by simp] at X2
 have H2 : Hid (ShI ns rs W (some ⟨g, off, none⟩) ar cn cr ns[i].kind ns[i].text ns[i].bind aa ns[i].args.length ca ka ck ns[i].kids ((W.alloc (.cells #[.slice (some ⟨g, off, none⟩) ns.length cn, .slice ar rs.length cr] 27)).alloc (.cells #[.int .i64 ns[i].kind, .string ns[i].text, .slice aa ns[i].args.length ca, .string ns[i].bind, .slice ka ns[i].kids.length ck] 60))) := ⟨S1.out.step bal, X2, hZ.below bal⟩
 have A2 : Hid (RowC 1 ExprE ((W.alloc (.cells #[.slice (some ⟨g, off, none⟩) ns.length cn, .slice ar rs.length cr] 27)).alloc (.cells #[.int .i64 ns[i].kind, .string ns[i].text, .slice aa ns[i].args.length ca, .string ns[i].bind, .slice ka ns[i].kids.length ck] 60)) (.slice aa ns[i].args.length ca) ns[i].args) := RowC.below ExprE_stable hAr bal
 have c0 := run_cell (j := 0) S1.out.box rfl
 have i1 : (i : Int) < (ns.length : Int) := by omega
 obtain ⟨l1, l2, l3, l4⟩ := hB.leaf ns[i] (List.getElem_mem hi)
 have HA : Hid (∀ V : World, RowC 1 ExprE V (.slice aa ns[i].args.length ca) ns[i].args → Calls Tryz.prog 18 #[.slice aa ns[i].args.length ca] V fun e w' => e = .returned (.string (shwArgs ns[i].args ns[i].args.length)) ∧ Below V.heap.size V w') := fun V h => showArgs_any _ _ V l3 l4 h
 have lA := shwArgs_size ns[i].args ns[i].args.length l3
 have HV0 : Hid (shwS ns i = shwBody ns ns[i] (shwS ns)) := shwS_at hSh hi
 have hk8 : ns[i].kids.length ≤ 8 := by
  have h := hSh i hi
  have hk := h.kind
  by_cases h5 : ns[i].kind = 5
  ·exact h.row h5
  by_cases h6 : ns[i].kind = 6
  ·exact (h.alt h6).2
  by_cases h7 : 6 < ns[i].kind
  ·rw [h.one h7]; decide
  ·rw [h.leaf (by omega)]; exact Nat.zero_le _
 rw [hk] at H2 A2 m0
 have y0 := run_cell (j := 0) H2.out.x rfl
 have y1 := run_cell (j := 1) H2.out.x rfl
 have y2 := run_cell (j := 2) H2.out.x rfl
 have y3 := run_cell (j := 3) H2.out.x rfl
 have y4 := run_cell (j := 4) H2.out.x rfl
 have HV : Hid (shwS ns i = ⟨#[91]⟩ ++ ns[i].text ++ ⟨#[93]⟩) := by rw [Hid, HV0.out, shwBody, if_neg (by omega), if_pos hk]
 clear hN hR hAr hZ bal X2 S1 l4
 clear HV0 HA lA hSh hB ih hk
 generalize shwS ns i = R at *
 go_enter Tryz.func11, Tryz.ntmps11
 go_wp2
 go_ret
 rw [HV.out]
 exact ⟨rfl, H2.out.s.bel⟩
theorem show_4 (ns : List SNodeD) (rs : List SRuleD) (hSh : Shaped ns) (hB : ShwB ns) (i : Nat) (ih : ∀ z, z < i → ShowC ns rs z) (hk : ∀ h : i < ns.length, ns[i].kind = 4) : ShowC ns rs i := by
 intro nv rv W hi hN hR
 have hk := hk hi
 obtain ⟨an, cn, rfl⟩ := RowC.slice hN
 obtain ⟨ar, cr, rfl⟩ := RowC.slice hR
 have S1 : Hid (SBox ns rs W an ar cn cr (W.alloc (.cells #[.slice an ns.length cn, .slice ar rs.length cr] 27))) := sbox_of hN hR
 obtain ⟨g, off, aa, ca, ka, ck, rfl, m0, m1, m2, m3, m4, hAr, hZ⟩ := sNs_at S1.out.nod hi
 have bal : Below (W.alloc (.cells #[.slice (some ⟨g, off, none⟩) ns.length cn, .slice ar rs.length cr] 27)).heap.size (W.alloc (.cells #[.slice (some ⟨g, off, none⟩) ns.length cn, .slice ar rs.length cr] 27)) ((W.alloc (.cells #[.slice (some ⟨g, off, none⟩) ns.length cn, .slice ar rs.length cr] 27)).alloc (.cells #[.int .i64 ns[i].kind, .string ns[i].text, .slice aa ns[i].args.length ca, .string ns[i].bind, .slice ka ns[i].kids.length ck] 60)) := (Below.refl _ _).alloc (Nat.le_refl _) _
 have X2 := heap_alloc_new (W.alloc (.cells #[.slice (some ⟨g, off, none⟩) ns.length cn, .slice ar rs.length cr] 27)) (.cells #[.int .i64 ns[i].kind, .string ns[i].text, .slice aa ns[i].args.length ca, .string ns[i].bind, .slice ka ns[i].kids.length ck] 60)
 rw [show (W.alloc (.cells #[.slice (some ⟨g, off, none⟩) ns.length cn, .slice ar rs.length cr] 27)).heap.size = W.heap.size + 1 by simp] at X2
 have H2 : Hid (ShI ns rs W (some ⟨g, off, none⟩) ar cn cr ns[i].kind ns[i].text ns[i].bind aa ns[i].args.length ca ka ck ns[i].kids ((W.alloc (.cells #[.slice (some ⟨g, off, none⟩) ns.length cn, .slice ar rs.length cr] 27)).alloc (.cells #[.int .i64 ns[i].kind, .string ns[i].text, .slice aa ns[i].args.length ca, .string ns[i].bind, .slice ka ns[i].kids.length ck] 60))) := ⟨S1.out.step bal, X2, hZ.below bal⟩
 have A2 : Hid (RowC 1 ExprE ((W.alloc (.cells #[.slice (some ⟨g, off, none⟩) ns.length cn, .slice ar rs.length cr] 27)).alloc (.cells #[.int .i64 ns[i].kind, .string ns[i].text, .slice aa ns[i].args.length ca, .string ns[i].bind, .slice ka ns[i].kids.length ck] 60)) (.slice aa ns[i].args.length ca) ns[i].args) := RowC.below ExprE_stable hAr bal
 have c0 := run_cell (j := 0) S1.out.box rfl
 have i1 : (i : Int) < (ns.length : Int) := by omega
 obtain ⟨l1, l2, l3, l4⟩ := hB.leaf ns[i] (List.getElem_mem hi)
 have HA : Hid (∀ V : World, RowC 1 ExprE V (.slice aa ns[i].args.length ca) ns[i].args → Calls Tryz.prog 18 #[.slice aa ns[i].args.length ca] V fun e w' => e = .returned (.string (shwArgs ns[i].args ns[i].args.length)) ∧ Below V.heap.size V w') := fun V h => showArgs_any _ _ V l3 l4 h
 have lA := shwArgs_size ns[i].args ns[i].args.length l3
 have HV0 : Hid (shwS ns i = shwBody ns ns[i] (shwS ns)) := shwS_at hSh hi
 have hk8 : ns[i].kids.length ≤ 8 := by
  have h := hSh i hi
  have hk := h.kind
  by_cases h5 : ns[i].kind = 5
  ·exact h.row h5
  by_cases h6 : ns[i].kind = 6
  ·exact (h.alt h6).2
  by_cases h7 : 6 < ns[i].kind
  ·rw [h.one h7]; decide
  ·rw [h.leaf (by omega)]; exact Nat.zero_le _
 rw [hk] at H2 A2 m0
 have y0 := run_cell (j := 0) H2.out.x rfl
 have y1 := run_cell (j := 1) H2.out.x rfl
 have y2 := run_cell (j := 2) H2.out.x rfl
 have y3 := run_cell (j := 3) H2.out.x rfl
 have y4 := run_cell (j := 4) H2.out.x rfl
 have HV : Hid (shwS ns i = ⟨#[123, 32]⟩ ++ shwArgs ns[i].args ns[i].args.length ++ ⟨#[32, 125]⟩) := by rw [Hid, HV0.out, shwBody, if_neg (by omega), if_neg (by omega), if_pos hk]
 clear hN hR hAr hZ bal X2 S1 l4
 clear HV0 hSh hB ih hk
 generalize shwS ns i = R at *
 generalize shwArgs ns[i].args ns[i].args.length = T at *
 go_enter Tryz.func11, Tryz.ntmps11
 go_wp2_with fail
 refine (HA.out _ A2.out).mono ?_
 rintro e w2 ⟨rfl, hb2⟩
 have HB2 : Hid (Below W.heap.size W w2) := H2.out.s.bel.trans (hb2.mono H2.out.s.bel.size)
 clear hb2
 go_wp2
 go_ret
 rw [HV.out]
 exact ⟨rfl, HB2.out⟩
theorem show_3 (ns : List SNodeD) (rs : List SRuleD) (hSh : Shaped ns) (hB : ShwB ns) (i : Nat) (ih : ∀ z, z < i → ShowC ns rs z) (hk : ∀ h : i < ns.length, ns[i].kind = 3) : ShowC ns rs i := by
 intro nv rv W hi hN hR
 have hk := hk hi
 obtain ⟨an, cn, rfl⟩ := RowC.slice hN
 obtain ⟨ar, cr, rfl⟩ := RowC.slice hR
 have S1 : Hid (SBox ns rs W an ar cn cr (W.alloc (.cells #[.slice an ns.length cn, .slice ar rs.length cr] 27))) := sbox_of hN hR
 obtain ⟨g, off, aa, ca, ka, ck, rfl, m0, m1, m2, m3, m4, hAr, hZ⟩ := sNs_at S1.out.nod hi
 have bal : Below (W.alloc (.cells #[.slice (some ⟨g, off, none⟩) ns.length cn, .slice ar rs.length cr] 27)).heap.size (W.alloc (.cells #[.slice (some ⟨g, off, none⟩) ns.length cn, .slice ar rs.length cr] 27)) ((W.alloc (.cells #[.slice (some ⟨g, off, none⟩) ns.length cn, .slice ar rs.length cr] 27)).alloc (.cells #[.int .i64 ns[i].kind, .string ns[i].text, .slice aa ns[i].args.length ca, .string ns[i].bind, .slice ka ns[i].kids.length ck] 60)) := (Below.refl _ _).alloc (Nat.le_refl _) _
 have X2 := heap_alloc_new (W.alloc (.cells #[.slice (some ⟨g, off, none⟩) ns.length cn, .slice ar rs.length cr] 27)) (.cells #[.int .i64 ns[i].kind, .string ns[i].text, .slice aa ns[i].args.length ca, .string ns[i].bind, .slice ka ns[i].kids.length ck] 60)
 rw [show (W.alloc (.cells #[.slice (some ⟨g, off, none⟩) ns.length cn, .slice ar rs.length cr] 27)).heap.size = W.heap.size + 1 by simp] at X2
 have H2 : Hid (ShI ns rs W (some ⟨g, off, none⟩) ar cn cr ns[i].kind ns[i].text ns[i].bind aa ns[i].args.length ca ka ck ns[i].kids ((W.alloc (.cells #[.slice (some ⟨g, off, none⟩) ns.length cn, .slice ar rs.length cr] 27)).alloc (.cells #[.int .i64 ns[i].kind, .string ns[i].text, .slice aa ns[i].args.length ca, .string ns[i].bind, .slice ka ns[i].kids.length ck] 60))) := ⟨S1.out.step bal, X2, hZ.below bal⟩
 have A2 : Hid (RowC 1 ExprE ((W.alloc (.cells #[.slice (some ⟨g, off, none⟩) ns.length cn, .slice ar rs.length cr] 27)).alloc (.cells #[.int .i64 ns[i].kind, .string ns[i].text, .slice aa ns[i].args.length ca, .string ns[i].bind, .slice ka ns[i].kids.length ck] 60)) (.slice aa ns[i].args.length ca) ns[i].args) := RowC.below ExprE_stable hAr bal
 have c0 := run_cell (j := 0) S1.out.box rfl
 have i1 : (i : Int) < (ns.length : Int) := by omega
 obtain ⟨l1, l2, l3, l4⟩ := hB.leaf ns[i] (List.getElem_mem hi)
 have HA : Hid (∀ V : World, RowC 1 ExprE V (.slice aa ns[i].args.length ca) ns[i].args → Calls Tryz.prog 18 #[.slice aa ns[i].args.length ca] V fun e w' => e = .returned (.string (shwArgs ns[i].args ns[i].args.length)) ∧ Below V.heap.size V w') := fun V h => showArgs_any _ _ V l3 l4 h
 have lA := shwArgs_size ns[i].args ns[i].args.length l3
 have HV0 : Hid (shwS ns i = shwBody ns ns[i] (shwS ns)) := shwS_at hSh hi
 have hk8 : ns[i].kids.length ≤ 8 := by
  have h := hSh i hi
  have hk := h.kind
  by_cases h5 : ns[i].kind = 5
  ·exact h.row h5
  by_cases h6 : ns[i].kind = 6
  ·exact (h.alt h6).2
  by_cases h7 : 6 < ns[i].kind
  ·rw [h.one h7]; decide
  ·rw [h.leaf (by omega)]; exact Nat.zero_le _
 rw [hk] at H2 A2 m0
 have y0 := run_cell (j := 0) H2.out.x rfl
 have y1 := run_cell (j := 1) H2.out.x rfl
 have y2 := run_cell (j := 2) H2.out.x rfl
 have y3 := run_cell (j := 3) H2.out.x rfl
 have y4 := run_cell (j := 4) H2.out.x rfl
 have HV : Hid (shwS ns i = if 0 < ns[i].args.length then shwCall ns[i] ++ ⟨#[40]⟩ ++ shwArgs ns[i].args ns[i].args.length ++ ⟨#[41]⟩ else shwCall ns[i]) := by rw [Hid, HV0.out, shwBody, if_neg (by omega), if_neg (by omega), if_neg (by omega), if_pos hk]
 clear hN hR hAr hZ bal X2 S1 l4
 clear HV0 hSh hB ih hk
 generalize shwS ns i = R at *
 generalize shwArgs ns[i].args ns[i].args.length = T at *
 by_cases hbd : ns[i].bind = em
 ·have q3 : (ns[i].bind.toList != []) = false := bne_empty hbd
  have q1 : ns[i].bind.toList.isEmpty = true := isE_yes hbd
  have q2 : (ns[i].bind.toList == []) = true := beq_empty hbd
  have HC : Hid (shwCall ns[i] = ns[i].text) := if_pos hbd
  rw [HC.out] at HV
  clear hbd HC
  by_cases ha : 0 < ns[i].args.length
  ·have d1 : (0 : Int) < (ns[i].args.length : Int) := by omega
   rw [if_pos ha] at HV
   go_enter Tryz.func11, Tryz.ntmps11
   go_wp2_with fail
   refine (HA.out _ A2.out).mono ?_
   rintro e w2 ⟨rfl, hb2⟩
   have HB2 : Hid (Below W.heap.size W w2) := H2.out.s.bel.trans (hb2.mono H2.out.s.bel.size)
   clear hb2
   go_wp2
   go_ret
   rw [HV.out]
   exact ⟨rfl, HB2.out⟩
  ·have d1 : ¬ (0 : Int) < (ns[i].args.length : Int) := by omega
   have d2 : decide ((0 : Int) < (ns[i].args.length : Int)) = false := decide_eq_false d1
   rw [if_neg ha] at HV
   go_enter Tryz.func11, Tryz.ntmps11
   go_wp2
   go_ret
   rw [HV.out]
   exact ⟨rfl, H2.out.s.bel⟩
 ·have q3 : (ns[i].bind.toList != []) = true := bne_full hbd
  have q1 : ns[i].bind.toList.isEmpty = false := isE_no hbd
  have q2 : (ns[i].bind.toList == []) = false := beq_full hbd
  have HC : Hid (shwCall ns[i] = ns[i].bind ++ ⟨#[58]⟩ ++ ns[i].text) := if_neg hbd
  rw [HC.out] at HV
  clear hbd HC
  by_cases ha : 0 < ns[i].args.length
  ·have d1 : (0 : Int) < (ns[i].args.length : Int) := by omega
   rw [if_pos ha] at HV
   go_enter Tryz.func11, Tryz.ntmps11
   go_wp2_with fail
   refine (HA.out _ A2.out).mono ?_
   rintro e w2 ⟨rfl, hb2⟩
   have HB2 : Hid (Below W.heap.size W w2) := H2.out.s.bel.trans (hb2.mono H2.out.s.bel.size)
   clear hb2
   go_wp2
   go_ret
   rw [HV.out]
   exact ⟨rfl, HB2.out⟩
  ·have d1 : ¬ (0 : Int) < (ns[i].args.length : Int) := by omega
   have d2 : decide ((0 : Int) < (ns[i].args.length : Int)) = false := decide_eq_false d1
   rw [if_neg ha] at HV
   go_enter Tryz.func11, Tryz.ntmps11
   go_wp2
   go_ret
   rw [HV.out]
   exact ⟨rfl, H2.out.s.bel⟩
theorem show_5 (ns : List SNodeD) (rs : List SRuleD) (hSh : Shaped ns) (hB : ShwB ns) (i : Nat) (ih : ∀ z, z < i → ShowC ns rs z) (hk : ∀ h : i < ns.length, ns[i].kind = 5) : ShowC ns rs i := by
 intro nv rv W hi hN hR
 have hk := hk hi
 obtain ⟨an, cn, rfl⟩ := RowC.slice hN
 obtain ⟨ar, cr, rfl⟩ := RowC.slice hR
 have S1 : Hid (SBox ns rs W an ar cn cr (W.alloc (.cells #[.slice an ns.length cn, .slice ar rs.length cr] 27))) := sbox_of hN hR
 obtain ⟨g, off, aa, ca, ka, ck, rfl, m0, m1, m2, m3, m4, hAr, hZ⟩ := sNs_at S1.out.nod hi
 have bal : Below (W.alloc (.cells #[.slice (some ⟨g, off, none⟩) ns.length cn, .slice ar rs.length cr] 27)).heap.size (W.alloc (.cells #[.slice (some ⟨g, off, none⟩) ns.length cn, .slice ar rs.length cr] 27)) ((W.alloc (.cells #[.slice (some ⟨g, off, none⟩) ns.length cn, .slice ar rs.length cr] 27)).alloc (.cells #[.int .i64 ns[i].kind, .string ns[i].text, .slice aa ns[i].args.length ca, .string ns[i].bind, .slice ka ns[i].kids.length ck] 60)) := (Below.refl _ _).alloc (Nat.le_refl _) _
 have X2 := heap_alloc_new (W.alloc (.cells #[.slice (some ⟨g, off, none⟩) ns.length cn, .slice ar rs.length cr] 27)) (.cells #[.int .i64 ns[i].kind, .string ns[i].text, .slice aa ns[i].args.length ca, .string ns[i].bind, .slice ka ns[i].kids.length ck] 60)
 rw [show (W.alloc (.cells #[.slice (some ⟨g, off, none⟩) ns.length cn, .slice ar rs.length cr] 27)).heap.size = W.heap.size + 1 by simp] at X2
 have H2 : Hid (ShI ns rs W (some ⟨g, off, none⟩) ar cn cr ns[i].kind ns[i].text ns[i].bind aa ns[i].args.length ca ka ck ns[i].kids ((W.alloc (.cells #[.slice (some ⟨g, off, none⟩) ns.length cn, .slice ar rs.length cr] 27)).alloc (.cells #[.int .i64 ns[i].kind, .string ns[i].text, .slice aa ns[i].args.length ca, .string ns[i].bind, .slice ka ns[i].kids.length ck] 60))) := ⟨S1.out.step bal, X2, hZ.below bal⟩
 have A2 : Hid (RowC 1 ExprE ((W.alloc (.cells #[.slice (some ⟨g, off, none⟩) ns.length cn, .slice ar rs.length cr] 27)).alloc (.cells #[.int .i64 ns[i].kind, .string ns[i].text, .slice aa ns[i].args.length ca, .string ns[i].bind, .slice ka ns[i].kids.length ck] 60)) (.slice aa ns[i].args.length ca) ns[i].args) := RowC.below ExprE_stable hAr bal
 have c0 := run_cell (j := 0) S1.out.box rfl
 have i1 : (i : Int) < (ns.length : Int) := by omega
 obtain ⟨l1, l2, l3, l4⟩ := hB.leaf ns[i] (List.getElem_mem hi)
 have HA : Hid (∀ V : World, RowC 1 ExprE V (.slice aa ns[i].args.length ca) ns[i].args → Calls Tryz.prog 18 #[.slice aa ns[i].args.length ca] V fun e w' => e = .returned (.string (shwArgs ns[i].args ns[i].args.length)) ∧ Below V.heap.size V w') := fun V h => showArgs_any _ _ V l3 l4 h
 have lA := shwArgs_size ns[i].args ns[i].args.length l3
 have HV0 : Hid (shwS ns i = shwBody ns ns[i] (shwS ns)) := shwS_at hSh hi
 have hk8 : ns[i].kids.length ≤ 8 := by
  have h := hSh i hi
  have hk := h.kind
  by_cases h5 : ns[i].kind = 5
  ·exact h.row h5
  by_cases h6 : ns[i].kind = 6
  ·exact (h.alt h6).2
  by_cases h7 : 6 < ns[i].kind
  ·rw [h.one h7]; decide
  ·rw [h.leaf (by omega)]; exact Nat.zero_le _
 rw [hk] at H2 A2 m0
 have y0 := run_cell (j := 0) H2.out.x rfl
 have y1 := run_cell (j := 1) H2.out.x rfl
 have y2 := run_cell (j := 2) H2.out.x rfl
 have y3 := run_cell (j := 3) H2.out.x rfl
 have y4 := run_cell (j := 4) H2.out.x rfl
 have HV : Hid (shwS ns i = rowJ ns ns[i] ns[i].kids.length) := by rw [Hid, HV0.out, shwBody, if_neg (by omega), if_neg (by omega), if_neg (by omega), if_neg (by omega), if_pos hk, rowJ]
 have HK : Hid (∀ j (hj : j < ns[i].kids.length), ns[i].kids[j] = (kidA ns[i] j : Int) ∧ kidA ns[i] j < i) := fun j hj => kidA_lt hSh hi hj
 have HJ : Hid (∀ j, j ≤ 8 → (rowJ ns ns[i] j).size ≤ 1000000000) := fun j hj => rowJ_size hSh hB hi j hj
 have HZ : Hid (∀ z, z < ns.length → (shwS ns z).size ≤ 100000000) := hB.siz
 have HIh : Hid (∀ z, z < i → ShowC ns rs z) := ih
 have HL : Hid (ns.length ≤ 100000) := hB.len
 clear hN hR hAr hZ bal X2 S1 l4
 clear HV0 HA lA A2 hSh hB ih hk y0 y1 y2 y3 l1 l2
 rw [HV.out]
 clear HV
 go_enter Tryz.func11, Tryz.ntmps11
 go_wp2
 generalize ((W.alloc (.cells #[.slice (some ⟨g, off, none⟩) ns.length cn, .slice ar rs.length cr] 27)).alloc (.cells #[.int .i64 5, .string ns[i].text, .slice aa ns[i].args.length ca, .string ns[i].bind, .slice ka ns[i].kids.length ck] 60)) = WW at *
 go_loopw [7, 8] (fun tv kv wr => ∃ j : Nat, kv = .int .i64 j ∧ tv = .string (rowJ ns ns[i] j) ∧ j ≤ ns[i].kids.length ∧ (ShI ns rs W (some ⟨g, off, none⟩) ar cn cr 5 ns[i].text ns[i].bind aa ns[i].args.length ca ka ck ns[i].kids wr)) (fun _ kv _ => ns[i].kids.length - (intOf kv).toNat)
 case atStart => exact ⟨0, rfl, rfl, Nat.zero_le _, H2.out⟩
 case round =>
  obtain ⟨j, rfl, rfl, hj0, hS⟩ := hrel
  have HS : Hid (ShI ns rs W (some ⟨g, off, none⟩) ar cn cr 5 ns[i].text ns[i].bind aa ns[i].args.length ca ka ck ns[i].kids wr) := hS
  have c0 := run_cell (j := 0) hS.s.box rfl
  have c1 := run_cell (j := 1) hS.s.box rfl
  have y4 := run_cell (j := 4) hS.x rfl
  clear hS H2
  have hJs := HJ.out j (by omega)
  by_cases hj : j < ns[i].kids.length
  ·obtain ⟨hz, hzi⟩ := HK.out j hj
   obtain ⟨kb, ko, rfl, hkc⟩ := HS.out.z.at hj
   have HX : Hid (rowJ ns ns[i] (j + 1) = _) := rowJ_next ns ns[i] j
   have hzs := HZ.out (kidA ns[i] j) (by omega)
   have HZE : Hid (ns[i].kids[j] = (kidA ns[i] j : Int)) := hz
   rw [hz] at hkc
   clear hz
   generalize kidA ns[i] j = z at *
   have hzl : z < ns.length := by omega
   have i2 : (j : Int) < (ns[i].kids.length : Int) := by omega
   have i3 : (z : Int) < (ns.length : Int) := by omega
   have d1 : decide ((j : Int) < (ns[i].kids.length : Int)) = true := decide_eq_true i2
   have HC : Hid (∀ W', Below wr.heap.size wr W' → Calls Tryz.prog 11 #[.agg #[.slice (some ⟨g, off, none⟩) ns.length cn, .slice ar rs.length cr], .int .i64 z] W' fun e w' => e = .returned (.string (shwS ns z)) ∧ Below W'.heap.size W' w') := fun W' hb => HIh.out z hzi _ _ W' hzl (sNs_below HS.out.s.nod hb) (sRs_below HS.out.s.rul hb)
   generalize rowJ ns ns[i] j = T at *
   by_cases h0 : 0 < j
   ·have d0 : (0 : Int) < (j : Int) := by omega
    rw [if_pos h0] at HX
    obtain ⟨T2, hT2⟩ : ∃ X, X = T ++ ⟨#[32]⟩ := ⟨_, rfl⟩
    have hT2s : T2.size ≤ 1000000010 := by
     rw [hT2, ByteArray.size_append]
     have e : (⟨#[32]⟩ : ByteArray).size ≤ 3 := by decide
     omega
    rw [← hT2] at HX
    have hsum : ¬ (9223372036854775807 : Int) < (T2.size : Int) + ((shwS ns z).size : Int) := by omega
    have hsum2 : (T2.size : Int) + ((shwS ns z).size : Int) ≤ 9223372036854775807 := by omega
    go_wp2
    rw [← hT2]
    clear hT2
    go_region_held3 (fun V => V.cell? ⟨W.heap.size, 0, none⟩ = some (.slice (some ⟨g, off, none⟩) ns.length cn) ∧ V.cell? ⟨W.heap.size, 1, none⟩ = some (.slice ar rs.length cr) ∧ V.cell? ⟨W.heap.size + 1, 4, none⟩ = some (.slice (some ⟨kb, ko, none⟩) ns[i].kids.length ck) ∧ V.cell? ⟨kb, ko + j, none⟩ = some (.int .i64 z))
     ((first | exact keep4h (by assumption) hb2 | go_keep))
     ((first | (go_at_call 11; refine (HC.out _ (bel_drewS (Below.refl _ _))).mono ?_; rintro e w2 ⟨rfl, hb2⟩)))
    have HS2 : Hid (ShI ns rs W (some ⟨g, off, none⟩) ar cn cr 5 ns[i].text ns[i].bind aa ns[i].args.length ca (some ⟨kb, ko, none⟩) ck ns[i].kids w2) := HS.out.step (bel_of_drew hb2)
    have e0 := run_cell (j := 0) HS2.out.s.box rfl
    have e4 := run_cell (j := 4) HS2.out.x rfl
    obtain ⟨kb', ko', hko, hkc'⟩ := HS2.out.z.at hj
    obtain ⟨rfl, rfl⟩ : kb = kb' ∧ ko = ko' := by cases hko; exact ⟨rfl, rfl⟩
    rw [HZE.out] at hkc'
    obtain ⟨g', off', ya, yc, yk, yl, hgo, n0, _, _, _, _, _, _⟩ := sNs_at HS2.out.s.nod hzl
    obtain ⟨rfl, rfl⟩ : g = g' ∧ off = off' := by cases hgo; exact ⟨rfl, rfl⟩
    clear hb2 HS hko hgo HC
    by_cases h6 : ns[z].kind = 6
    ·rw [h6] at n0
     have HX6 : Hid (shwIn ns z (shwS ns z) = ⟨#[40, 32]⟩ ++ shwS ns z ++ ⟨#[32, 41]⟩) := by rw [Hid, shwIn, nodeS_is hzl, if_pos h6]
     rw [HX6.out] at HX
     clear h6 HX6
     generalize shwS ns z = U at *
     go_wp2
     go_region
     go_wp2
     go_roundw
     case rel => exact ⟨j + 1, by go_num, by rw [HX.out], by omega, HS2.out.drew 1⟩
     case measure => simp [intOf]; omega
    ·have q6 : (ns[z].kind == 6) = false := by rw [beq_eq_false_iff_ne]; exact h6
     have HX6 : Hid (shwIn ns z (shwS ns z) = shwS ns z) := by rw [Hid, shwIn, nodeS_is hzl, if_neg h6]
     rw [HX6.out] at HX
     clear h6 HX6
     generalize shwS ns z = U at *
     generalize ns[z].kind = kd at *
     go_wp2
     go_region
     go_wp2
     go_roundw
     case rel => exact ⟨j + 1, by go_num, by rw [HX.out], by omega, HS2.out.drew 1⟩
     case measure => simp [intOf]; omega
   ·have d0 : ¬ (0 : Int) < (j : Int) := by omega
    have d2 : decide ((0 : Int) < (j : Int)) = false := decide_eq_false d0
    rw [if_neg h0] at HX
    have hsum : ¬ (9223372036854775807 : Int) < (T.size : Int) + ((shwS ns z).size : Int) := by omega
    have hsum2 : (T.size : Int) + ((shwS ns z).size : Int) ≤ 9223372036854775807 := by omega
    go_wp2
    go_region_held3 (fun V => V.cell? ⟨W.heap.size, 0, none⟩ = some (.slice (some ⟨g, off, none⟩) ns.length cn) ∧ V.cell? ⟨W.heap.size, 1, none⟩ = some (.slice ar rs.length cr) ∧ V.cell? ⟨W.heap.size + 1, 4, none⟩ = some (.slice (some ⟨kb, ko, none⟩) ns[i].kids.length ck) ∧ V.cell? ⟨kb, ko + j, none⟩ = some (.int .i64 z))
     ((first | exact keep4h (by assumption) hb2 | go_keep))
     ((first | (go_at_call 11; refine (HC.out _ (bel_drewS (Below.refl _ _))).mono ?_; rintro e w2 ⟨rfl, hb2⟩)))
    have HS2 : Hid (ShI ns rs W (some ⟨g, off, none⟩) ar cn cr 5 ns[i].text ns[i].bind aa ns[i].args.length ca (some ⟨kb, ko, none⟩) ck ns[i].kids w2) := HS.out.step (bel_of_drew hb2)
    have e0 := run_cell (j := 0) HS2.out.s.box rfl
    have e4 := run_cell (j := 4) HS2.out.x rfl
    obtain ⟨kb', ko', hko, hkc'⟩ := HS2.out.z.at hj
    obtain ⟨rfl, rfl⟩ : kb = kb' ∧ ko = ko' := by cases hko; exact ⟨rfl, rfl⟩
    rw [HZE.out] at hkc'
    obtain ⟨g', off', ya, yc, yk, yl, hgo, n0, _, _, _, _, _, _⟩ := sNs_at HS2.out.s.nod hzl
    obtain ⟨rfl, rfl⟩ : g = g' ∧ off = off' := by cases hgo; exact ⟨rfl, rfl⟩
    clear hb2 HS hko hgo HC
    by_cases h6 : ns[z].kind = 6
    ·rw [h6] at n0
     have HX6 : Hid (shwIn ns z (shwS ns z) = ⟨#[40, 32]⟩ ++ shwS ns z ++ ⟨#[32, 41]⟩) := by rw [Hid, shwIn, nodeS_is hzl, if_pos h6]
     rw [HX6.out] at HX
     clear h6 HX6
     generalize shwS ns z = U at *
     go_wp2
     go_region
     go_wp2
     go_roundw
     case rel => exact ⟨j + 1, by go_num, by rw [HX.out], by omega, HS2.out.drew 1⟩
     case measure => simp [intOf]; omega
    ·have q6 : (ns[z].kind == 6) = false := by rw [beq_eq_false_iff_ne]; exact h6
     have HX6 : Hid (shwIn ns z (shwS ns z) = shwS ns z) := by rw [Hid, shwIn, nodeS_is hzl, if_neg h6]
     rw [HX6.out] at HX
     clear h6 HX6
     generalize shwS ns z = U at *
     generalize ns[z].kind = kd at *
     go_wp2
     go_region
     go_wp2
     go_roundw
     case rel => exact ⟨j + 1, by go_num, by rw [HX.out], by omega, HS2.out.drew 1⟩
     case measure => simp [intOf]; omega
  ·obtain rfl : j = ns[i].kids.length := by omega
   go_wp2
   go_ret
   exact ⟨rfl, HS.out.s.bel⟩
theorem show_6 (ns : List SNodeD) (rs : List SRuleD) (hSh : Shaped ns) (hB : ShwB ns) (i : Nat) (ih : ∀ z, z < i → ShowC ns rs z) (hk : ∀ h : i < ns.length, ns[i].kind = 6) : ShowC ns rs i := by
 intro nv rv W hi hN hR
 have hk := hk hi
 obtain ⟨an, cn, rfl⟩ := RowC.slice hN
 obtain ⟨ar, cr, rfl⟩ := RowC.slice hR
 have S1 : Hid (SBox ns rs W an ar cn cr (W.alloc (.cells #[.slice an ns.length cn, .slice ar rs.length cr] 27))) := sbox_of hN hR
 obtain ⟨g, off, aa, ca, ka, ck, rfl, m0, m1, m2, m3, m4, hAr, hZ⟩ := sNs_at S1.out.nod hi
 have bal : Below (W.alloc (.cells #[.slice (some ⟨g, off, none⟩) ns.length cn, .slice ar rs.length cr] 27)).heap.size (W.alloc (.cells #[.slice (some ⟨g, off, none⟩) ns.length cn, .slice ar rs.length cr] 27)) ((W.alloc (.cells #[.slice (some ⟨g, off, none⟩) ns.length cn, .slice ar rs.length cr] 27)).alloc (.cells #[.int .i64 ns[i].kind, .string ns[i].text, .slice aa ns[i].args.length ca, .string ns[i].bind, .slice ka ns[i].kids.length ck] 60)) := (Below.refl _ _).alloc (Nat.le_refl _) _
 have X2 := heap_alloc_new (W.alloc (.cells #[.slice (some ⟨g, off, none⟩) ns.length cn, .slice ar rs.length cr] 27)) (.cells #[.int .i64 ns[i].kind, .string ns[i].text, .slice aa ns[i].args.length ca, .string ns[i].bind, .slice ka ns[i].kids.length ck] 60)
 rw [show (W.alloc (.cells #[.slice (some ⟨g, off, none⟩) ns.length cn, .slice ar rs.length cr] 27)).heap.size = W.heap.size + 1 by simp] at X2
 have H2 : Hid (ShI ns rs W (some ⟨g, off, none⟩) ar cn cr ns[i].kind ns[i].text ns[i].bind aa ns[i].args.length ca ka ck ns[i].kids ((W.alloc (.cells #[.slice (some ⟨g, off, none⟩) ns.length cn, .slice ar rs.length cr] 27)).alloc (.cells #[.int .i64 ns[i].kind, .string ns[i].text, .slice aa ns[i].args.length ca, .string ns[i].bind, .slice ka ns[i].kids.length ck] 60))) := ⟨S1.out.step bal, X2, hZ.below bal⟩
 have A2 : Hid (RowC 1 ExprE ((W.alloc (.cells #[.slice (some ⟨g, off, none⟩) ns.length cn, .slice ar rs.length cr] 27)).alloc (.cells #[.int .i64 ns[i].kind, .string ns[i].text, .slice aa ns[i].args.length ca, .string ns[i].bind, .slice ka ns[i].kids.length ck] 60)) (.slice aa ns[i].args.length ca) ns[i].args) := RowC.below ExprE_stable hAr bal
 have c0 := run_cell (j := 0) S1.out.box rfl
 have i1 : (i : Int) < (ns.length : Int) := by omega
 obtain ⟨l1, l2, l3, l4⟩ := hB.leaf ns[i] (List.getElem_mem hi)
 have HA : Hid (∀ V : World, RowC 1 ExprE V (.slice aa ns[i].args.length ca) ns[i].args → Calls Tryz.prog 18 #[.slice aa ns[i].args.length ca] V fun e w' => e = .returned (.string (shwArgs ns[i].args ns[i].args.length)) ∧ Below V.heap.size V w') := fun V h => showArgs_any _ _ V l3 l4 h
 have lA := shwArgs_size ns[i].args ns[i].args.length l3
 have HV0 : Hid (shwS ns i = shwBody ns ns[i] (shwS ns)) := shwS_at hSh hi
 have hk8 : ns[i].kids.length ≤ 8 := by
  have h := hSh i hi
  have hk := h.kind
  by_cases h5 : ns[i].kind = 5
  ·exact h.row h5
  by_cases h6 : ns[i].kind = 6
  ·exact (h.alt h6).2
  by_cases h7 : 6 < ns[i].kind
  ·rw [h.one h7]; decide
  ·rw [h.leaf (by omega)]; exact Nat.zero_le _
 rw [hk] at H2 A2 m0
 have y0 := run_cell (j := 0) H2.out.x rfl
 have y1 := run_cell (j := 1) H2.out.x rfl
 have y2 := run_cell (j := 2) H2.out.x rfl
 have y3 := run_cell (j := 3) H2.out.x rfl
 have y4 := run_cell (j := 4) H2.out.x rfl
 have HV : Hid (shwS ns i = altJ ns ns[i] ns[i].kids.length) := by rw [Hid, HV0.out, shwBody, if_neg (by omega), if_neg (by omega), if_neg (by omega), if_neg (by omega), if_neg (by omega), if_pos hk, altJ]
 have HK : Hid (∀ j (hj : j < ns[i].kids.length), ns[i].kids[j] = (kidA ns[i] j : Int) ∧ kidA ns[i] j < i) := fun j hj => kidA_lt hSh hi hj
 have HJ : Hid (∀ j, j ≤ 8 → (altJ ns ns[i] j).size ≤ 1000000000) := fun j hj => altJ_size hSh hB hi j hj
 have HZ : Hid (∀ z, z < ns.length → (shwS ns z).size ≤ 100000000) := hB.siz
 have HIh : Hid (∀ z, z < i → ShowC ns rs z) := ih
 have HL : Hid (ns.length ≤ 100000) := hB.len
 clear hN hR hAr hZ bal X2 S1 l4
 clear HV0 HA lA A2 hSh hB ih hk y0 y1 y2 y3 l1 l2
 rw [HV.out]
 clear HV
 go_enter Tryz.func11, Tryz.ntmps11
 go_wp2
 generalize ((W.alloc (.cells #[.slice (some ⟨g, off, none⟩) ns.length cn, .slice ar rs.length cr] 27)).alloc (.cells #[.int .i64 6, .string ns[i].text, .slice aa ns[i].args.length ca, .string ns[i].bind, .slice ka ns[i].kids.length ck] 60)) = WW at *
 go_loopw [10, 11] (fun tv kv wr => ∃ j : Nat, kv = .int .i64 j ∧ tv = .string (altJ ns ns[i] j) ∧ j ≤ ns[i].kids.length ∧ (ShI ns rs W (some ⟨g, off, none⟩) ar cn cr 6 ns[i].text ns[i].bind aa ns[i].args.length ca ka ck ns[i].kids wr)) (fun _ kv _ => ns[i].kids.length - (intOf kv).toNat)
 case atStart => exact ⟨0, rfl, rfl, Nat.zero_le _, H2.out⟩
 case round =>
  obtain ⟨j, rfl, rfl, hj0, hS⟩ := hrel
  have HS : Hid (ShI ns rs W (some ⟨g, off, none⟩) ar cn cr 6 ns[i].text ns[i].bind aa ns[i].args.length ca ka ck ns[i].kids wr) := hS
  have c0 := run_cell (j := 0) hS.s.box rfl
  have c1 := run_cell (j := 1) hS.s.box rfl
  have y4 := run_cell (j := 4) hS.x rfl
  clear hS H2
  have hJs := HJ.out j (by omega)
  by_cases hj : j < ns[i].kids.length
  ·obtain ⟨hz, hzi⟩ := HK.out j hj
   obtain ⟨kb, ko, rfl, hkc⟩ := HS.out.z.at hj
   have HX : Hid (altJ ns ns[i] (j + 1) = _) := altJ_next ns ns[i] j
   have hzs := HZ.out (kidA ns[i] j) (by omega)
   rw [hz] at hkc
   clear hz
   generalize kidA ns[i] j = z at *
   have hzl : z < ns.length := by omega
   have i2 : (j : Int) < (ns[i].kids.length : Int) := by omega
   have i3 : (z : Int) < (ns.length : Int) := by omega
   have d1 : decide ((j : Int) < (ns[i].kids.length : Int)) = true := decide_eq_true i2
   have HC : Hid (∀ W', Below wr.heap.size wr W' → Calls Tryz.prog 11 #[.agg #[.slice (some ⟨g, off, none⟩) ns.length cn, .slice ar rs.length cr], .int .i64 z] W' fun e w' => e = .returned (.string (shwS ns z)) ∧ Below W'.heap.size W' w') := fun W' hb => HIh.out z hzi _ _ W' hzl (sNs_below HS.out.s.nod hb) (sRs_below HS.out.s.rul hb)
   generalize altJ ns ns[i] j = T at *
   generalize shwS ns z = U at *
   by_cases h0 : 0 < j
   ·have d0 : (0 : Int) < (j : Int) := by omega
    rw [if_pos h0] at HX
    obtain ⟨T2, hT2⟩ : ∃ X, X = T ++ ⟨#[32, 124, 32]⟩ := ⟨_, rfl⟩
    have hT2s : T2.size ≤ 1000000010 := by
     rw [hT2, ByteArray.size_append]
     have e : (⟨#[32, 124, 32]⟩ : ByteArray).size ≤ 3 := by decide
     omega
    rw [← hT2] at HX
    have hsum : ¬ (9223372036854775807 : Int) < (T2.size : Int) + (U.size : Int) := by omega
    have hsum2 : (T2.size : Int) + (U.size : Int) ≤ 9223372036854775807 := by omega
    go_wp2
    rw [← hT2]
    clear hT2
    go_region_held (fun V => V.cell? ⟨W.heap.size, 0, none⟩ = some (.slice (some ⟨g, off, none⟩) ns.length cn) ∧ V.cell? ⟨W.heap.size, 1, none⟩ = some (.slice ar rs.length cr) ∧ V.cell? ⟨W.heap.size + 1, 4, none⟩ = some (.slice (some ⟨kb, ko, none⟩) ns[i].kids.length ck) ∧ V.cell? ⟨kb, ko + j, none⟩ = some (.int .i64 z))
     ((first | exact keep4h (by assumption) hb2 | go_keep))
     ((first | (go_at_call 11; refine (HC.out _ (bel_drewS (Below.refl _ _))).mono ?_; rintro e w2 ⟨rfl, hb2⟩)))
    have HS2 : Hid (ShI ns rs W (some ⟨g, off, none⟩) ar cn cr 6 ns[i].text ns[i].bind aa ns[i].args.length ca (some ⟨kb, ko, none⟩) ck ns[i].kids w2) := HS.out.step (bel_of_drew hb2)
    clear hb2 HS HC
    go_wp2
    go_roundw
    case rel => exact ⟨j + 1, by go_num, by rw [HX.out], by omega, HS2.out⟩
    case measure => simp [intOf]; omega
   ·have d0 : ¬ (0 : Int) < (j : Int) := by omega
    have d2 : decide ((0 : Int) < (j : Int)) = false := decide_eq_false d0
    rw [if_neg h0] at HX
    have hsum : ¬ (9223372036854775807 : Int) < (T.size : Int) + (U.size : Int) := by omega
    have hsum2 : (T.size : Int) + (U.size : Int) ≤ 9223372036854775807 := by omega
    go_wp2
    go_region_held (fun V => V.cell? ⟨W.heap.size, 0, none⟩ = some (.slice (some ⟨g, off, none⟩) ns.length cn) ∧ V.cell? ⟨W.heap.size, 1, none⟩ = some (.slice ar rs.length cr) ∧ V.cell? ⟨W.heap.size + 1, 4, none⟩ = some (.slice (some ⟨kb, ko, none⟩) ns[i].kids.length ck) ∧ V.cell? ⟨kb, ko + j, none⟩ = some (.int .i64 z))
     ((first | exact keep4h (by assumption) hb2 | go_keep))
     ((first | (go_at_call 11; refine (HC.out _ (bel_drewS (Below.refl _ _))).mono ?_; rintro e w2 ⟨rfl, hb2⟩)))
    have HS2 : Hid (ShI ns rs W (some ⟨g, off, none⟩) ar cn cr 6 ns[i].text ns[i].bind aa ns[i].args.length ca (some ⟨kb, ko, none⟩) ck ns[i].kids w2) := HS.out.step (bel_of_drew hb2)
    clear hb2 HS HC
    go_wp2
    go_roundw
    case rel => exact ⟨j + 1, by go_num, by rw [HX.out], by omega, HS2.out⟩
    case measure => simp [intOf]; omega
  ·obtain rfl : j = ns[i].kids.length := by omega
   go_wp2
   go_ret
   exact ⟨rfl, HS.out.s.bel⟩
theorem show_7 (ns : List SNodeD) (rs : List SRuleD) (hSh : Shaped ns) (hB : ShwB ns) (i : Nat) (ih : ∀ z, z < i → ShowC ns rs z) (hk : ∀ h : i < ns.length, ns[i].kind = 7) : ShowC ns rs i := by
 intro nv rv W hi hN hR
 have hk := hk hi
 obtain ⟨an, cn, rfl⟩ := RowC.slice hN
 obtain ⟨ar, cr, rfl⟩ := RowC.slice hR
 have S1 : Hid (SBox ns rs W an ar cn cr (W.alloc (.cells #[.slice an ns.length cn, .slice ar rs.length cr] 27))) := sbox_of hN hR
 obtain ⟨g, off, aa, ca, ka, ck, rfl, m0, m1, m2, m3, m4, hAr, hZ⟩ := sNs_at S1.out.nod hi
 have bal : Below (W.alloc (.cells #[.slice (some ⟨g, off, none⟩) ns.length cn, .slice ar rs.length cr] 27)).heap.size (W.alloc (.cells #[.slice (some ⟨g, off, none⟩) ns.length cn, .slice ar rs.length cr] 27)) ((W.alloc (.cells #[.slice (some ⟨g, off, none⟩) ns.length cn, .slice ar rs.length cr] 27)).alloc (.cells #[.int .i64 ns[i].kind, .string ns[i].text, .slice aa ns[i].args.length ca, .string ns[i].bind, .slice ka ns[i].kids.length ck] 60)) := (Below.refl _ _).alloc (Nat.le_refl _) _
 have X2 := heap_alloc_new (W.alloc (.cells #[.slice (some ⟨g, off, none⟩) ns.length cn, .slice ar rs.length cr] 27)) (.cells #[.int .i64 ns[i].kind, .string ns[i].text, .slice aa ns[i].args.length ca, .string ns[i].bind, .slice ka ns[i].kids.length ck] 60)
 rw [show (W.alloc (.cells #[.slice (some ⟨g, off, none⟩) ns.length cn, .slice ar rs.length cr] 27)).heap.size = W.heap.size + 1 by simp] at X2
 have H2 : Hid (ShI ns rs W (some ⟨g, off, none⟩) ar cn cr ns[i].kind ns[i].text ns[i].bind aa ns[i].args.length ca ka ck ns[i].kids ((W.alloc (.cells #[.slice (some ⟨g, off, none⟩) ns.length cn, .slice ar rs.length cr] 27)).alloc (.cells #[.int .i64 ns[i].kind, .string ns[i].text, .slice aa ns[i].args.length ca, .string ns[i].bind, .slice ka ns[i].kids.length ck] 60))) := ⟨S1.out.step bal, X2, hZ.below bal⟩
 have A2 : Hid (RowC 1 ExprE ((W.alloc (.cells #[.slice (some ⟨g, off, none⟩) ns.length cn, .slice ar rs.length cr] 27)).alloc (.cells #[.int .i64 ns[i].kind, .string ns[i].text, .slice aa ns[i].args.length ca, .string ns[i].bind, .slice ka ns[i].kids.length ck] 60)) (.slice aa ns[i].args.length ca) ns[i].args) := RowC.below ExprE_stable hAr bal
 have c0 := run_cell (j := 0) S1.out.box rfl
 have i1 : (i : Int) < (ns.length : Int) := by omega
 obtain ⟨l1, l2, l3, l4⟩ := hB.leaf ns[i] (List.getElem_mem hi)
 have HA : Hid (∀ V : World, RowC 1 ExprE V (.slice aa ns[i].args.length ca) ns[i].args → Calls Tryz.prog 18 #[.slice aa ns[i].args.length ca] V fun e w' => e = .returned (.string (shwArgs ns[i].args ns[i].args.length)) ∧ Below V.heap.size V w') := fun V h => showArgs_any _ _ V l3 l4 h
 have lA := shwArgs_size ns[i].args ns[i].args.length l3
 have HV0 : Hid (shwS ns i = shwBody ns ns[i] (shwS ns)) := shwS_at hSh hi
 have hk8 : ns[i].kids.length ≤ 8 := by
  have h := hSh i hi
  have hk := h.kind
  by_cases h5 : ns[i].kind = 5
  ·exact h.row h5
  by_cases h6 : ns[i].kind = 6
  ·exact (h.alt h6).2
  by_cases h7 : 6 < ns[i].kind
  ·rw [h.one h7]; decide
  ·rw [h.leaf (by omega)]; exact Nat.zero_le _
 rw [hk] at H2 A2 m0
 have y0 := run_cell (j := 0) H2.out.x rfl
 have y1 := run_cell (j := 1) H2.out.x rfl
 have y2 := run_cell (j := 2) H2.out.x rfl
 have y3 := run_cell (j := 3) H2.out.x rfl
 have y4 := run_cell (j := 4) H2.out.x rfl
 have h1 : 0 < ns[i].kids.length := by rw [(hSh i hi).one (by omega)]; decide
 obtain ⟨hz, hzi⟩ := kidA_lt hSh hi h1
 have HV : Hid (shwS ns i = ⟨#[40, 32]⟩ ++ shwS ns (kidA ns[i] 0) ++ ⟨#[32, 41]⟩ ++ ⟨#[42]⟩) := by rw [Hid, HV0.out, shwBody, if_neg (by omega), if_neg (by omega), if_neg (by omega), if_neg (by omega), if_neg (by omega), if_neg (by omega), starB, hk]; rfl
 obtain ⟨kb, ko, rfl, hkc⟩ := H2.out.z.at h1
 have hzs := hB.siz (kidA ns[i] 0) (by omega)
 rw [hz] at hkc
 have c1 := run_cell (j := 1) H2.out.s.box rfl
 have c0' := run_cell (j := 0) H2.out.s.box rfl
 have HIh : Hid (∀ z, z < i → ShowC ns rs z) := ih
 clear hN hR hAr hZ bal X2 S1 l4
 clear HV0 HA lA A2 hSh hB ih hk y1 y2 y3 l1 l2 hz
 generalize kidA ns[i] 0 = z at *
 have hzl : z < ns.length := by omega
 have i2 : (0 : Int) < (ns[i].kids.length : Int) := by omega
 generalize shwS ns i = R at *
 have bal : Below ((W.alloc (.cells #[.slice (some ⟨g, off, none⟩) ns.length cn, .slice ar rs.length cr] 27)).alloc (.cells #[.int .i64 7, .string ns[i].text, .slice aa ns[i].args.length ca, .string ns[i].bind, .slice (some ⟨kb, ko, none⟩) ns[i].kids.length ck] 60)).heap.size ((W.alloc (.cells #[.slice (some ⟨g, off, none⟩) ns.length cn, .slice ar rs.length cr] 27)).alloc (.cells #[.int .i64 7, .string ns[i].text, .slice aa ns[i].args.length ca, .string ns[i].bind, .slice (some ⟨kb, ko, none⟩) ns[i].kids.length ck] 60)) (((W.alloc (.cells #[.slice (some ⟨g, off, none⟩) ns.length cn, .slice ar rs.length cr] 27)).alloc (.cells #[.int .i64 7, .string ns[i].text, .slice aa ns[i].args.length ca, .string ns[i].bind, .slice (some ⟨kb, ko, none⟩) ns[i].kids.length ck] 60)).alloc (.cells #[.string ⟨#[42]⟩, .string ⟨#[43]⟩, .string ⟨#[63]⟩] 9)) := (Below.refl _ _).alloc (Nat.le_refl _) _
 have X3 := heap_alloc_new ((W.alloc (.cells #[.slice (some ⟨g, off, none⟩) ns.length cn, .slice ar rs.length cr] 27)).alloc (.cells #[.int .i64 7, .string ns[i].text, .slice aa ns[i].args.length ca, .string ns[i].bind, .slice (some ⟨kb, ko, none⟩) ns[i].kids.length ck] 60)) (.cells #[.string ⟨#[42]⟩, .string ⟨#[43]⟩, .string ⟨#[63]⟩] 9)
 have HS : Hid (ShI ns rs W (some ⟨g, off, none⟩) ar cn cr 7 ns[i].text ns[i].bind aa ns[i].args.length ca (some ⟨kb, ko, none⟩) ck ns[i].kids (((W.alloc (.cells #[.slice (some ⟨g, off, none⟩) ns.length cn, .slice ar rs.length cr] 27)).alloc (.cells #[.int .i64 7, .string ns[i].text, .slice aa ns[i].args.length ca, .string ns[i].bind, .slice (some ⟨kb, ko, none⟩) ns[i].kids.length ck] 60)).alloc (.cells #[.string ⟨#[42]⟩, .string ⟨#[43]⟩, .string ⟨#[63]⟩] 9))) := H2.out.step bal
 have x3 := run_cell (j := 0) X3 rfl
 rw [show ((W.alloc (.cells #[.slice (some ⟨g, off, none⟩) ns.length cn, .slice ar rs.length cr] 27)).alloc (.cells #[.int .i64 7, .string ns[i].text, .slice aa ns[i].args.length ca, .string ns[i].bind, .slice (some ⟨kb, ko, none⟩) ns[i].kids.length ck] 60)).heap.size = W.heap.size + 2 by simp] at x3
 have b0 := run_cell (j := 0) HS.out.s.box rfl
 have b1 := run_cell (j := 1) HS.out.s.box rfl
 have z0 := run_cell (j := 0) HS.out.x rfl
 have z4 := run_cell (j := 4) HS.out.x rfl
 have hkd := cell_keep hkc bal
 (try rw [Nat.add_zero] at hkd)
 (try rw [Nat.add_zero] at hkc)
 have HC : Hid (∀ W', Below (((W.alloc (.cells #[.slice (some ⟨g, off, none⟩) ns.length cn, .slice ar rs.length cr] 27)).alloc (.cells #[.int .i64 7, .string ns[i].text, .slice aa ns[i].args.length ca, .string ns[i].bind, .slice (some ⟨kb, ko, none⟩) ns[i].kids.length ck] 60)).alloc (.cells #[.string ⟨#[42]⟩, .string ⟨#[43]⟩, .string ⟨#[63]⟩] 9)).heap.size (((W.alloc (.cells #[.slice (some ⟨g, off, none⟩) ns.length cn, .slice ar rs.length cr] 27)).alloc (.cells #[.int .i64 7, .string ns[i].text, .slice aa ns[i].args.length ca, .string ns[i].bind, .slice (some ⟨kb, ko, none⟩) ns[i].kids.length ck] 60)).alloc (.cells #[.string ⟨#[42]⟩, .string ⟨#[43]⟩, .string ⟨#[63]⟩] 9)) W' → Calls Tryz.prog 11 #[.agg #[.slice (some ⟨g, off, none⟩) ns.length cn, .slice ar rs.length cr], .int .i64 z] W' fun e w' => e = .returned (.string (shwS ns z)) ∧ Below W'.heap.size W' w') := fun W' hb => HIh.out z hzi _ _ W' hzl (sNs_below HS.out.s.nod hb) (sRs_below HS.out.s.rul hb)
 clear H2 bal X3 HIh
 generalize shwS ns z = U at *
 go_enter Tryz.func11, Tryz.ntmps11
 go_wp2
 generalize ((W.alloc (.cells #[.slice (some ⟨g, off, none⟩) ns.length cn, .slice ar rs.length cr] 27)).alloc (.cells #[.int .i64 7, .string ns[i].text, .slice aa ns[i].args.length ca, .string ns[i].bind, .slice (some ⟨kb, ko, none⟩) ns[i].kids.length ck] 60)).alloc (.cells #[.string ⟨#[42]⟩, .string ⟨#[43]⟩, .string ⟨#[63]⟩] 9) = W3 at *
 go_region_held (fun V => V.cell? ⟨W.heap.size, 0, none⟩ = some (.slice (some ⟨g, off, none⟩) ns.length cn) ∧ V.cell? ⟨W.heap.size, 1, none⟩ = some (.slice ar rs.length cr) ∧ V.cell? ⟨W.heap.size + 1, 4, none⟩ = some (.slice (some ⟨kb, ko, none⟩) ns[i].kids.length ck) ∧ V.cell? ⟨W.heap.size + 1, 0, none⟩ = some (.int .i64 7) ∧ V.cell? ⟨kb, ko, none⟩ = some (.int .i64 z) ∧ V.cell? ⟨W.heap.size + 2, 0, none⟩ = some (.string ⟨#[42]⟩))
  ((first | exact keep6h (by assumption) hb2 | go_keep))
  ((first | (go_at_call 11; refine (HC.out _ (bel_drewS (Below.refl _ _))).mono ?_; rintro e w2 ⟨rfl, hb2⟩)))
 all_goals
  have HB2 : Hid (Below W.heap.size W w2) := (HS.out.step (bel_of_drew hb2)).s.bel
  clear hb2 HS HC
  go_wp2
  go_ret
  rw [HV.out]
  exact ⟨rfl, HB2.out⟩
theorem show_8 (ns : List SNodeD) (rs : List SRuleD) (hSh : Shaped ns) (hB : ShwB ns) (i : Nat) (ih : ∀ z, z < i → ShowC ns rs z) (hk : ∀ h : i < ns.length, ns[i].kind = 8) : ShowC ns rs i := by
 intro nv rv W hi hN hR
 have hk := hk hi
 obtain ⟨an, cn, rfl⟩ := RowC.slice hN
 obtain ⟨ar, cr, rfl⟩ := RowC.slice hR
 have S1 : Hid (SBox ns rs W an ar cn cr (W.alloc (.cells #[.slice an ns.length cn, .slice ar rs.length cr] 27))) := sbox_of hN hR
 obtain ⟨g, off, aa, ca, ka, ck, rfl, m0, m1, m2, m3, m4, hAr, hZ⟩ := sNs_at S1.out.nod hi
 have bal : Below (W.alloc (.cells #[.slice (some ⟨g, off, none⟩) ns.length cn, .slice ar rs.length cr] 27)).heap.size (W.alloc (.cells #[.slice (some ⟨g, off, none⟩) ns.length cn, .slice ar rs.length cr] 27)) ((W.alloc (.cells #[.slice (some ⟨g, off, none⟩) ns.length cn, .slice ar rs.length cr] 27)).alloc (.cells #[.int .i64 ns[i].kind, .string ns[i].text, .slice aa ns[i].args.length ca, .string ns[i].bind, .slice ka ns[i].kids.length ck] 60)) := (Below.refl _ _).alloc (Nat.le_refl _) _
 have X2 := heap_alloc_new (W.alloc (.cells #[.slice (some ⟨g, off, none⟩) ns.length cn, .slice ar rs.length cr] 27)) (.cells #[.int .i64 ns[i].kind, .string ns[i].text, .slice aa ns[i].args.length ca, .string ns[i].bind, .slice ka ns[i].kids.length ck] 60)
 rw [show (W.alloc (.cells #[.slice (some ⟨g, off, none⟩) ns.length cn, .slice ar rs.length cr] 27)).heap.size = W.heap.size + 1 by simp] at X2
 have H2 : Hid (ShI ns rs W (some ⟨g, off, none⟩) ar cn cr ns[i].kind ns[i].text ns[i].bind aa ns[i].args.length ca ka ck ns[i].kids ((W.alloc (.cells #[.slice (some ⟨g, off, none⟩) ns.length cn, .slice ar rs.length cr] 27)).alloc (.cells #[.int .i64 ns[i].kind, .string ns[i].text, .slice aa ns[i].args.length ca, .string ns[i].bind, .slice ka ns[i].kids.length ck] 60))) := ⟨S1.out.step bal, X2, hZ.below bal⟩
 have A2 : Hid (RowC 1 ExprE ((W.alloc (.cells #[.slice (some ⟨g, off, none⟩) ns.length cn, .slice ar rs.length cr] 27)).alloc (.cells #[.int .i64 ns[i].kind, .string ns[i].text, .slice aa ns[i].args.length ca, .string ns[i].bind, .slice ka ns[i].kids.length ck] 60)) (.slice aa ns[i].args.length ca) ns[i].args) := RowC.below ExprE_stable hAr bal
 have c0 := run_cell (j := 0) S1.out.box rfl
 have i1 : (i : Int) < (ns.length : Int) := by omega
 obtain ⟨l1, l2, l3, l4⟩ := hB.leaf ns[i] (List.getElem_mem hi)
 have HA : Hid (∀ V : World, RowC 1 ExprE V (.slice aa ns[i].args.length ca) ns[i].args → Calls Tryz.prog 18 #[.slice aa ns[i].args.length ca] V fun e w' => e = .returned (.string (shwArgs ns[i].args ns[i].args.length)) ∧ Below V.heap.size V w') := fun V h => showArgs_any _ _ V l3 l4 h
 have lA := shwArgs_size ns[i].args ns[i].args.length l3
 have HV0 : Hid (shwS ns i = shwBody ns ns[i] (shwS ns)) := shwS_at hSh hi
 have hk8 : ns[i].kids.length ≤ 8 := by
  have h := hSh i hi
  have hk := h.kind
  by_cases h5 : ns[i].kind = 5
  ·exact h.row h5
  by_cases h6 : ns[i].kind = 6
  ·exact (h.alt h6).2
  by_cases h7 : 6 < ns[i].kind
  ·rw [h.one h7]; decide
  ·rw [h.leaf (by omega)]; exact Nat.zero_le _
 rw [hk] at H2 A2 m0
 have y0 := run_cell (j := 0) H2.out.x rfl
 have y1 := run_cell (j := 1) H2.out.x rfl
 have y2 := run_cell (j := 2) H2.out.x rfl
 have y3 := run_cell (j := 3) H2.out.x rfl
 have y4 := run_cell (j := 4) H2.out.x rfl
 have h1 : 0 < ns[i].kids.length := by rw [(hSh i hi).one (by omega)]; decide
 obtain ⟨hz, hzi⟩ := kidA_lt hSh hi h1
 have HV : Hid (shwS ns i = ⟨#[40, 32]⟩ ++ shwS ns (kidA ns[i] 0) ++ ⟨#[32, 41]⟩ ++ ⟨#[43]⟩) := by rw [Hid, HV0.out, shwBody, if_neg (by omega), if_neg (by omega), if_neg (by omega), if_neg (by omega), if_neg (by omega), if_neg (by omega), starB, hk]; rfl
 obtain ⟨kb, ko, rfl, hkc⟩ := H2.out.z.at h1
 have hzs := hB.siz (kidA ns[i] 0) (by omega)
 rw [hz] at hkc
 have c1 := run_cell (j := 1) H2.out.s.box rfl
 have c0' := run_cell (j := 0) H2.out.s.box rfl
 have HIh : Hid (∀ z, z < i → ShowC ns rs z) := ih
 clear hN hR hAr hZ bal X2 S1 l4
 clear HV0 HA lA A2 hSh hB ih hk y1 y2 y3 l1 l2 hz
 generalize kidA ns[i] 0 = z at *
 have hzl : z < ns.length := by omega
 have i2 : (0 : Int) < (ns[i].kids.length : Int) := by omega
 generalize shwS ns i = R at *
 have bal : Below ((W.alloc (.cells #[.slice (some ⟨g, off, none⟩) ns.length cn, .slice ar rs.length cr] 27)).alloc (.cells #[.int .i64 8, .string ns[i].text, .slice aa ns[i].args.length ca, .string ns[i].bind, .slice (some ⟨kb, ko, none⟩) ns[i].kids.length ck] 60)).heap.size ((W.alloc (.cells #[.slice (some ⟨g, off, none⟩) ns.length cn, .slice ar rs.length cr] 27)).alloc (.cells #[.int .i64 8, .string ns[i].text, .slice aa ns[i].args.length ca, .string ns[i].bind, .slice (some ⟨kb, ko, none⟩) ns[i].kids.length ck] 60)) (((W.alloc (.cells #[.slice (some ⟨g, off, none⟩) ns.length cn, .slice ar rs.length cr] 27)).alloc (.cells #[.int .i64 8, .string ns[i].text, .slice aa ns[i].args.length ca, .string ns[i].bind, .slice (some ⟨kb, ko, none⟩) ns[i].kids.length ck] 60)).alloc (.cells #[.string ⟨#[42]⟩, .string ⟨#[43]⟩, .string ⟨#[63]⟩] 9)) := (Below.refl _ _).alloc (Nat.le_refl _) _
 have X3 := heap_alloc_new ((W.alloc (.cells #[.slice (some ⟨g, off, none⟩) ns.length cn, .slice ar rs.length cr] 27)).alloc (.cells #[.int .i64 8, .string ns[i].text, .slice aa ns[i].args.length ca, .string ns[i].bind, .slice (some ⟨kb, ko, none⟩) ns[i].kids.length ck] 60)) (.cells #[.string ⟨#[42]⟩, .string ⟨#[43]⟩, .string ⟨#[63]⟩] 9)
 have HS : Hid (ShI ns rs W (some ⟨g, off, none⟩) ar cn cr 8 ns[i].text ns[i].bind aa ns[i].args.length ca (some ⟨kb, ko, none⟩) ck ns[i].kids (((W.alloc (.cells #[.slice (some ⟨g, off, none⟩) ns.length cn, .slice ar rs.length cr] 27)).alloc (.cells #[.int .i64 8, .string ns[i].text, .slice aa ns[i].args.length ca, .string ns[i].bind, .slice (some ⟨kb, ko, none⟩) ns[i].kids.length ck] 60)).alloc (.cells #[.string ⟨#[42]⟩, .string ⟨#[43]⟩, .string ⟨#[63]⟩] 9))) := H2.out.step bal
 have x3 := run_cell (j := 1) X3 rfl
 rw [show ((W.alloc (.cells #[.slice (some ⟨g, off, none⟩) ns.length cn, .slice ar rs.length cr] 27)).alloc (.cells #[.int .i64 8, .string ns[i].text, .slice aa ns[i].args.length ca, .string ns[i].bind, .slice (some ⟨kb, ko, none⟩) ns[i].kids.length ck] 60)).heap.size = W.heap.size + 2 by simp] at x3
 have b0 := run_cell (j := 0) HS.out.s.box rfl
 have b1 := run_cell (j := 1) HS.out.s.box rfl
 have z0 := run_cell (j := 0) HS.out.x rfl
 have z4 := run_cell (j := 4) HS.out.x rfl
 have hkd := cell_keep hkc bal
 (try rw [Nat.add_zero] at hkd)
 (try rw [Nat.add_zero] at hkc)
 have HC : Hid (∀ W', Below (((W.alloc (.cells #[.slice (some ⟨g, off, none⟩) ns.length cn, .slice ar rs.length cr] 27)).alloc (.cells #[.int .i64 8, .string ns[i].text, .slice aa ns[i].args.length ca, .string ns[i].bind, .slice (some ⟨kb, ko, none⟩) ns[i].kids.length ck] 60)).alloc (.cells #[.string ⟨#[42]⟩, .string ⟨#[43]⟩, .string ⟨#[63]⟩] 9)).heap.size (((W.alloc (.cells #[.slice (some ⟨g, off, none⟩) ns.length cn, .slice ar rs.length cr] 27)).alloc (.cells #[.int .i64 8, .string ns[i].text, .slice aa ns[i].args.length ca, .string ns[i].bind, .slice (some ⟨kb, ko, none⟩) ns[i].kids.length ck] 60)).alloc (.cells #[.string ⟨#[42]⟩, .string ⟨#[43]⟩, .string ⟨#[63]⟩] 9)) W' → Calls Tryz.prog 11 #[.agg #[.slice (some ⟨g, off, none⟩) ns.length cn, .slice ar rs.length cr], .int .i64 z] W' fun e w' => e = .returned (.string (shwS ns z)) ∧ Below W'.heap.size W' w') := fun W' hb => HIh.out z hzi _ _ W' hzl (sNs_below HS.out.s.nod hb) (sRs_below HS.out.s.rul hb)
 clear H2 bal X3 HIh
 generalize shwS ns z = U at *
 go_enter Tryz.func11, Tryz.ntmps11
 go_wp2
 generalize ((W.alloc (.cells #[.slice (some ⟨g, off, none⟩) ns.length cn, .slice ar rs.length cr] 27)).alloc (.cells #[.int .i64 8, .string ns[i].text, .slice aa ns[i].args.length ca, .string ns[i].bind, .slice (some ⟨kb, ko, none⟩) ns[i].kids.length ck] 60)).alloc (.cells #[.string ⟨#[42]⟩, .string ⟨#[43]⟩, .string ⟨#[63]⟩] 9) = W3 at *
 go_region_held (fun V => V.cell? ⟨W.heap.size, 0, none⟩ = some (.slice (some ⟨g, off, none⟩) ns.length cn) ∧ V.cell? ⟨W.heap.size, 1, none⟩ = some (.slice ar rs.length cr) ∧ V.cell? ⟨W.heap.size + 1, 4, none⟩ = some (.slice (some ⟨kb, ko, none⟩) ns[i].kids.length ck) ∧ V.cell? ⟨W.heap.size + 1, 0, none⟩ = some (.int .i64 8) ∧ V.cell? ⟨kb, ko, none⟩ = some (.int .i64 z) ∧ V.cell? ⟨W.heap.size + 2, 1, none⟩ = some (.string ⟨#[43]⟩))
  ((first | exact keep6h (by assumption) hb2 | go_keep))
  ((first | (go_at_call 11; refine (HC.out _ (bel_drewS (Below.refl _ _))).mono ?_; rintro e w2 ⟨rfl, hb2⟩)))
 all_goals
  have HB2 : Hid (Below W.heap.size W w2) := (HS.out.step (bel_of_drew hb2)).s.bel
  clear hb2 HS HC
  go_wp2
  go_ret
  rw [HV.out]
  exact ⟨rfl, HB2.out⟩
theorem show_9 (ns : List SNodeD) (rs : List SRuleD) (hSh : Shaped ns) (hB : ShwB ns) (i : Nat) (ih : ∀ z, z < i → ShowC ns rs z) (hk : ∀ h : i < ns.length, ns[i].kind = 9) : ShowC ns rs i := by
 intro nv rv W hi hN hR
 have hk := hk hi
 obtain ⟨an, cn, rfl⟩ := RowC.slice hN
 obtain ⟨ar, cr, rfl⟩ := RowC.slice hR
 have S1 : Hid (SBox ns rs W an ar cn cr (W.alloc (.cells #[.slice an ns.length cn, .slice ar rs.length cr] 27))) := sbox_of hN hR
 obtain ⟨g, off, aa, ca, ka, ck, rfl, m0, m1, m2, m3, m4, hAr, hZ⟩ := sNs_at S1.out.nod hi
 have bal : Below (W.alloc (.cells #[.slice (some ⟨g, off, none⟩) ns.length cn, .slice ar rs.length cr] 27)).heap.size (W.alloc (.cells #[.slice (some ⟨g, off, none⟩) ns.length cn, .slice ar rs.length cr] 27)) ((W.alloc (.cells #[.slice (some ⟨g, off, none⟩) ns.length cn, .slice ar rs.length cr] 27)).alloc (.cells #[.int .i64 ns[i].kind, .string ns[i].text, .slice aa ns[i].args.length ca, .string ns[i].bind, .slice ka ns[i].kids.length ck] 60)) := (Below.refl _ _).alloc (Nat.le_refl _) _
 have X2 := heap_alloc_new (W.alloc (.cells #[.slice (some ⟨g, off, none⟩) ns.length cn, .slice ar rs.length cr] 27)) (.cells #[.int .i64 ns[i].kind, .string ns[i].text, .slice aa ns[i].args.length ca, .string ns[i].bind, .slice ka ns[i].kids.length ck] 60)
 rw [show (W.alloc (.cells #[.slice (some ⟨g, off, none⟩) ns.length cn, .slice ar rs.length cr] 27)).heap.size = W.heap.size + 1 by simp] at X2
 have H2 : Hid (ShI ns rs W (some ⟨g, off, none⟩) ar cn cr ns[i].kind ns[i].text ns[i].bind aa ns[i].args.length ca ka ck ns[i].kids ((W.alloc (.cells #[.slice (some ⟨g, off, none⟩) ns.length cn, .slice ar rs.length cr] 27)).alloc (.cells #[.int .i64 ns[i].kind, .string ns[i].text, .slice aa ns[i].args.length ca, .string ns[i].bind, .slice ka ns[i].kids.length ck] 60))) := ⟨S1.out.step bal, X2, hZ.below bal⟩
 have A2 : Hid (RowC 1 ExprE ((W.alloc (.cells #[.slice (some ⟨g, off, none⟩) ns.length cn, .slice ar rs.length cr] 27)).alloc (.cells #[.int .i64 ns[i].kind, .string ns[i].text, .slice aa ns[i].args.length ca, .string ns[i].bind, .slice ka ns[i].kids.length ck] 60)) (.slice aa ns[i].args.length ca) ns[i].args) := RowC.below ExprE_stable hAr bal
 have c0 := run_cell (j := 0) S1.out.box rfl
 have i1 : (i : Int) < (ns.length : Int) := by omega
 obtain ⟨l1, l2, l3, l4⟩ := hB.leaf ns[i] (List.getElem_mem hi)
 have HA : Hid (∀ V : World, RowC 1 ExprE V (.slice aa ns[i].args.length ca) ns[i].args → Calls Tryz.prog 18 #[.slice aa ns[i].args.length ca] V fun e w' => e = .returned (.string (shwArgs ns[i].args ns[i].args.length)) ∧ Below V.heap.size V w') := fun V h => showArgs_any _ _ V l3 l4 h
 have lA := shwArgs_size ns[i].args ns[i].args.length l3
 have HV0 : Hid (shwS ns i = shwBody ns ns[i] (shwS ns)) := shwS_at hSh hi
 have hk8 : ns[i].kids.length ≤ 8 := by
  have h := hSh i hi
  have hk := h.kind
  by_cases h5 : ns[i].kind = 5
  ·exact h.row h5
  by_cases h6 : ns[i].kind = 6
  ·exact (h.alt h6).2
  by_cases h7 : 6 < ns[i].kind
  ·rw [h.one h7]; decide
  ·rw [h.leaf (by omega)]; exact Nat.zero_le _
 rw [hk] at H2 A2 m0
 have y0 := run_cell (j := 0) H2.out.x rfl
 have y1 := run_cell (j := 1) H2.out.x rfl
 have y2 := run_cell (j := 2) H2.out.x rfl
 have y3 := run_cell (j := 3) H2.out.x rfl
 have y4 := run_cell (j := 4) H2.out.x rfl
 have h1 : 0 < ns[i].kids.length := by rw [(hSh i hi).one (by omega)]; decide
 obtain ⟨hz, hzi⟩ := kidA_lt hSh hi h1
 have HV : Hid (shwS ns i = ⟨#[40, 32]⟩ ++ shwS ns (kidA ns[i] 0) ++ ⟨#[32, 41]⟩ ++ ⟨#[63]⟩) := by rw [Hid, HV0.out, shwBody, if_neg (by omega), if_neg (by omega), if_neg (by omega), if_neg (by omega), if_neg (by omega), if_neg (by omega), starB, hk]; rfl
 obtain ⟨kb, ko, rfl, hkc⟩ := H2.out.z.at h1
 have hzs := hB.siz (kidA ns[i] 0) (by omega)
 rw [hz] at hkc
 have c1 := run_cell (j := 1) H2.out.s.box rfl
 have c0' := run_cell (j := 0) H2.out.s.box rfl
 have HIh : Hid (∀ z, z < i → ShowC ns rs z) := ih
 clear hN hR hAr hZ bal X2 S1 l4
 clear HV0 HA lA A2 hSh hB ih hk y1 y2 y3 l1 l2 hz
 generalize kidA ns[i] 0 = z at *
 have hzl : z < ns.length := by omega
 have i2 : (0 : Int) < (ns[i].kids.length : Int) := by omega
 generalize shwS ns i = R at *
 have bal : Below ((W.alloc (.cells #[.slice (some ⟨g, off, none⟩) ns.length cn, .slice ar rs.length cr] 27)).alloc (.cells #[.int .i64 9, .string ns[i].text, .slice aa ns[i].args.length ca, .string ns[i].bind, .slice (some ⟨kb, ko, none⟩) ns[i].kids.length ck] 60)).heap.size ((W.alloc (.cells #[.slice (some ⟨g, off, none⟩) ns.length cn, .slice ar rs.length cr] 27)).alloc (.cells #[.int .i64 9, .string ns[i].text, .slice aa ns[i].args.length ca, .string ns[i].bind, .slice (some ⟨kb, ko, none⟩) ns[i].kids.length ck] 60)) (((W.alloc (.cells #[.slice (some ⟨g, off, none⟩) ns.length cn, .slice ar rs.length cr] 27)).alloc (.cells #[.int .i64 9, .string ns[i].text, .slice aa ns[i].args.length ca, .string ns[i].bind, .slice (some ⟨kb, ko, none⟩) ns[i].kids.length ck] 60)).alloc (.cells #[.string ⟨#[42]⟩, .string ⟨#[43]⟩, .string ⟨#[63]⟩] 9)) := (Below.refl _ _).alloc (Nat.le_refl _) _
 have X3 := heap_alloc_new ((W.alloc (.cells #[.slice (some ⟨g, off, none⟩) ns.length cn, .slice ar rs.length cr] 27)).alloc (.cells #[.int .i64 9, .string ns[i].text, .slice aa ns[i].args.length ca, .string ns[i].bind, .slice (some ⟨kb, ko, none⟩) ns[i].kids.length ck] 60)) (.cells #[.string ⟨#[42]⟩, .string ⟨#[43]⟩, .string ⟨#[63]⟩] 9)
 have HS : Hid (ShI ns rs W (some ⟨g, off, none⟩) ar cn cr 9 ns[i].text ns[i].bind aa ns[i].args.length ca (some ⟨kb, ko, none⟩) ck ns[i].kids (((W.alloc (.cells #[.slice (some ⟨g, off, none⟩) ns.length cn, .slice ar rs.length cr] 27)).alloc (.cells #[.int .i64 9, .string ns[i].text, .slice aa ns[i].args.length ca, .string ns[i].bind, .slice (some ⟨kb, ko, none⟩) ns[i].kids.length ck] 60)).alloc (.cells #[.string ⟨#[42]⟩, .string ⟨#[43]⟩, .string ⟨#[63]⟩] 9))) := H2.out.step bal
 have x3 := run_cell (j := 2) X3 rfl
 rw [show ((W.alloc (.cells #[.slice (some ⟨g, off, none⟩) ns.length cn, .slice ar rs.length cr] 27)).alloc (.cells #[.int .i64 9, .string ns[i].text, .slice aa ns[i].args.length ca, .string ns[i].bind, .slice (some ⟨kb, ko, none⟩) ns[i].kids.length ck] 60)).heap.size = W.heap.size + 2 by simp] at x3
 have b0 := run_cell (j := 0) HS.out.s.box rfl
 have b1 := run_cell (j := 1) HS.out.s.box rfl
 have z0 := run_cell (j := 0) HS.out.x rfl
 have z4 := run_cell (j := 4) HS.out.x rfl
 have hkd := cell_keep hkc bal
 (try rw [Nat.add_zero] at hkd)
 (try rw [Nat.add_zero] at hkc)
 have HC : Hid (∀ W', Below (((W.alloc (.cells #[.slice (some ⟨g, off, none⟩) ns.length cn, .slice ar rs.length cr] 27)).alloc (.cells #[.int .i64 9, .string ns[i].text, .slice aa ns[i].args.length ca, .string ns[i].bind, .slice (some ⟨kb, ko, none⟩) ns[i].kids.length ck] 60)).alloc (.cells #[.string ⟨#[42]⟩, .string ⟨#[43]⟩, .string ⟨#[63]⟩] 9)).heap.size (((W.alloc (.cells #[.slice (some ⟨g, off, none⟩) ns.length cn, .slice ar rs.length cr] 27)).alloc (.cells #[.int .i64 9, .string ns[i].text, .slice aa ns[i].args.length ca, .string ns[i].bind, .slice (some ⟨kb, ko, none⟩) ns[i].kids.length ck] 60)).alloc (.cells #[.string ⟨#[42]⟩, .string ⟨#[43]⟩, .string ⟨#[63]⟩] 9)) W' → Calls Tryz.prog 11 #[.agg #[.slice (some ⟨g, off, none⟩) ns.length cn, .slice ar rs.length cr], .int .i64 z] W' fun e w' => e = .returned (.string (shwS ns z)) ∧ Below W'.heap.size W' w') := fun W' hb => HIh.out z hzi _ _ W' hzl (sNs_below HS.out.s.nod hb) (sRs_below HS.out.s.rul hb)
 clear H2 bal X3 HIh
 generalize shwS ns z = U at *
 go_enter Tryz.func11, Tryz.ntmps11
 go_wp2
 generalize ((W.alloc (.cells #[.slice (some ⟨g, off, none⟩) ns.length cn, .slice ar rs.length cr] 27)).alloc (.cells #[.int .i64 9, .string ns[i].text, .slice aa ns[i].args.length ca, .string ns[i].bind, .slice (some ⟨kb, ko, none⟩) ns[i].kids.length ck] 60)).alloc (.cells #[.string ⟨#[42]⟩, .string ⟨#[43]⟩, .string ⟨#[63]⟩] 9) = W3 at *
 go_region_held (fun V => V.cell? ⟨W.heap.size, 0, none⟩ = some (.slice (some ⟨g, off, none⟩) ns.length cn) ∧ V.cell? ⟨W.heap.size, 1, none⟩ = some (.slice ar rs.length cr) ∧ V.cell? ⟨W.heap.size + 1, 4, none⟩ = some (.slice (some ⟨kb, ko, none⟩) ns[i].kids.length ck) ∧ V.cell? ⟨W.heap.size + 1, 0, none⟩ = some (.int .i64 9) ∧ V.cell? ⟨kb, ko, none⟩ = some (.int .i64 z) ∧ V.cell? ⟨W.heap.size + 2, 2, none⟩ = some (.string ⟨#[63]⟩))
  ((first | exact keep6h (by assumption) hb2 | go_keep))
  ((first | (go_at_call 11; refine (HC.out _ (bel_drewS (Below.refl _ _))).mono ?_; rintro e w2 ⟨rfl, hb2⟩)))
 all_goals
  have HB2 : Hid (Below W.heap.size W w2) := (HS.out.step (bel_of_drew hb2)).s.bel
  clear hb2 HS HC
  go_wp2
  go_ret
  rw [HV.out]
  exact ⟨rfl, HB2.out⟩
theorem show_any (ns : List SNodeD) (rs : List SRuleD) (hSh : Shaped ns) (hB : ShwB ns) : ∀ i, ShowC ns rs i := by
 intro i
 induction i using Nat.strongRecOn with
 | ind i ih =>
  intro nv rv W hi
  have hk := (hSh i hi).kind
  obtain h | h | h | h | h | h | h | h | h : ns[i].kind = 1 ∨ ns[i].kind = 2 ∨ ns[i].kind = 3 ∨ ns[i].kind = 4 ∨ ns[i].kind = 5 ∨ ns[i].kind = 6 ∨ ns[i].kind = 7 ∨ ns[i].kind = 8 ∨ ns[i].kind = 9 := by omega
  ·exact show_1 ns rs hSh hB i ih (fun _ => h) nv rv W hi
  ·exact show_2 ns rs hSh hB i ih (fun _ => h) nv rv W hi
  ·exact show_3 ns rs hSh hB i ih (fun _ => h) nv rv W hi
  ·exact show_4 ns rs hSh hB i ih (fun _ => h) nv rv W hi
  ·exact show_5 ns rs hSh hB i ih (fun _ => h) nv rv W hi
  ·exact show_6 ns rs hSh hB i ih (fun _ => h) nv rv W hi
  ·exact show_7 ns rs hSh hB i ih (fun _ => h) nv rv W hi
  ·exact show_8 ns rs hSh hB i ih (fun _ => h) nv rv W hi
  ·exact show_9 ns rs hSh hB i ih (fun _ => h) nv rv W hi
end Go.Proofs.YtccogaoabdpfmaaGreat

namespace Go.Proofs.YtccogaoabdpfmaaGreat
open Go.RowKit
set_option maxHeartbeats 6400000
set_option maxRecDepth 100000
set_option linter.unusedVariables false
structure ShwR (ns : List SNodeD) (rs : List SRuleD) : Prop where
 rl : rs.length ≤ 1000
 rule : ∀ r ∈ rs, r.name.size ≤ 1048576 ∧ r.params.length ≤ 1000 ∧ (∀ p ∈ r.params, p.size ≤ 1048576) ∧ ∃ b : Nat, r.body = (b : Int) ∧ b < ns.length
theorem shwRule_size (ns : List SNodeD) (r : SRuleD) (out : ByteArray) (h1 : r.name.size ≤ 1048576) (h2 : ∀ p ∈ r.params, p.size ≤ 1048576) : ∀ n, (shwRule ns r n out).size ≤ out.size + 1048576 + n * 1048577
 | 0 => by rw [shwRule, ByteArray.size_append]; omega
 | n + 1 => by
  have h := shwRule_size ns r out h1 h2 n
  have hp : (r.params.getD n ⟨#[]⟩).size ≤ 1048576 := by
   rw [List.getD_eq_getElem?_getD]
   by_cases hn : n < r.params.length
   ·rw [List.getElem?_eq_getElem hn]; exact h2 _ (List.getElem_mem hn)
   ·rw [List.getElem?_eq_none (by omega)]; exact Nat.zero_le _
  have he : (if n = 0 then (⟨#[40]⟩ : ByteArray) else ⟨#[44]⟩).size = 1 := by split <;> rfl
  rw [shwRule, ByteArray.size_append, ByteArray.size_append, he, Nat.succ_mul]
  omega
theorem shwRules_size {ns : List SNodeD} {rs : List SRuleD} (hB : ShwB ns) (hR : ShwR ns rs) : ∀ n, n ≤ rs.length → (shwRules ns rs n).size ≤ n * 2000000000
 | 0, _ => Nat.zero_le _
 | n + 1, h => by
  have h0 := shwRules_size hB hR n (by omega)
  have e : rs.getD n default = rs[n] := by rw [List.getD_eq_getElem?_getD, List.getElem?_eq_getElem (by omega)]; rfl
  obtain ⟨q1, q2, q3, b, q4, q5⟩ := hR.rule rs[n] (List.getElem_mem _)
  have h1 := shwRule_size ns rs[n] (shwRules ns rs n) q1 q3 rs[n].params.length
  have h2 := hB.siz b q5
  have h3 : rs[n].params.length * 1048577 ≤ 1000 * 1048577 := Nat.mul_le_mul_right _ q2
  have e1 : (⟨#[41]⟩ : ByteArray).size = 1 := rfl
  have e2 : (⟨#[32, 45, 62, 32]⟩ : ByteArray).size = 4 := rfl
  have e3 : (⟨#[32, 59, 10]⟩ : ByteArray).size = 3 := rfl
  rw [shwRules, e, shwEnd, ByteArray.size_append, ByteArray.size_append, ByteArray.size_append, q4, Int.toNat_natCast, Nat.succ_mul]
  split
  ·rw [ByteArray.size_append]; omega
  ·omega
theorem shwRules_next {ns : List SNodeD} {rs : List SRuleD} (n : Nat) (h : n < rs.length) : shwRules ns rs (n + 1) = shwEnd ns rs[n] (shwRule ns rs[n] rs[n].params.length (shwRules ns rs n)) := by
 rw [shwRules, List.getD_eq_getElem?_getD, List.getElem?_eq_getElem h]
 rfl
theorem shwRule_next {ns : List SNodeD} {r : SRuleD} (out : ByteArray) (k : Nat) (h : k < r.params.length) : shwRule ns r (k + 1) out = shwRule ns r k out ++ (if k = 0 then ⟨#[40]⟩ else ⟨#[44]⟩) ++ r.params[k] := by
 rw [shwRule, List.getD_eq_getElem?_getD, List.getElem?_eq_getElem h]
 rfl
theorem showSurface_held {ns : List SNodeD} {rs : List SRuleD} (hG : SurfG ns rs) (hSh : Shaped ns) (hB : ShwB ns) (hQ : ShwR ns rs) (nv rv : Value) (W : World) (hH : Held (fun _ => False) W (fun V => SNs V nv ns ∧ SRs V rv rs)) :
  Calls Tryz.prog 6 #[.agg #[nv, rv]] W fun e w' => e = .returned (.tuple #[.string (shwRules ns rs rs.length), .bool true]) ∧ Below W.heap.size W w' := by
 obtain ⟨an, cn, rfl⟩ := RowC.slice hH.here.1
 obtain ⟨ar, cr, rfl⟩ := RowC.slice hH.here.2
 have S1 : Hid (SBox ns rs W an ar cn cr (W.alloc (.cells #[.slice an ns.length cn, .slice ar rs.length cr] 27))) := sbox_of hH.here.1 hH.here.2
 have H1 : Hid (Held (fun _ => False) (W.alloc (.cells #[.slice an ns.length cn, .slice ar rs.length cr] 27)) (fun V => SNs V (.slice an ns.length cn) ns ∧ SRs V (.slice ar rs.length cr) rs)) := hH.fr (FrA.below S1.out.bel)
 have HOk : Hid (∀ V : World, Held (fun _ => False) V (fun V => SNs V (.slice an ns.length cn) ns ∧ SRs V (.slice ar rs.length cr) rs) → Calls Tryz.prog 10 #[.agg #[.slice an ns.length cn, .slice ar rs.length cr]] V fun e w' => e = .returned (.bool true) ∧ Below V.heap.size V w') := fun V h => surfaceOk_held hG _ _ V h
 have HSh : Hid (∀ (b : Nat) (V : World), b < ns.length → SNs V (.slice an ns.length cn) ns → SRs V (.slice ar rs.length cr) rs → Calls Tryz.prog 11 #[.agg #[.slice an ns.length cn, .slice ar rs.length cr], .int .i64 b] V fun e w' => e = .returned (.string (shwS ns b)) ∧ Below V.heap.size V w') := fun b V hb hN hR => show_any ns rs hSh hB b _ _ V hb hN hR
 have HZ : Hid (∀ n, n ≤ rs.length → (shwRules ns rs n).size ≤ 2000000000000) := fun n hn => Nat.le_trans (shwRules_size hB hQ n hn) (by have := hQ.rl; have := Nat.mul_le_mul_right 2000000000 (Nat.le_trans hn this); omega)
 have HQ : Hid (ShwR ns rs) := hQ
 have HBs : Hid (∀ b, b < ns.length → (shwS ns b).size ≤ 100000000) := hB.siz
 have c0 := run_cell (j := 0) S1.out.box rfl
 have c1 := run_cell (j := 1) S1.out.box rfl
 have hrl := hQ.rl
 clear hH hG hSh hB hQ
 go_enter Tryz.func6, Tryz.ntmps6
 go_wp2_with fail
 generalize W.alloc (.cells #[.slice an ns.length cn, .slice ar rs.length cr] 27) = W1 at *
 refine (HOk.out W1 H1.out).mono ?_
 rintro e w2 ⟨rfl, hb2⟩
 have S2 : Hid (SBox ns rs W an ar cn cr w2) := S1.out.step hb2
 have d1 := run_cell (j := 1) S2.out.box rfl
 clear hb2 S1 H1 c0 c1 HOk
 go_wp2
 go_loopw [4, 5] (fun ov iv wr => ∃ i : Nat, iv = .int .i64 i ∧ ov = .string (shwRules ns rs i) ∧ i ≤ rs.length ∧ SBox ns rs W an ar cn cr wr) (fun _ iv _ => rs.length - (intOf iv).toNat)
 case atStart => exact ⟨0, rfl, rfl, Nat.zero_le _, S2.out⟩
 case round =>
  obtain ⟨i, rfl, rfl, hi0, hS⟩ := hrel
  have HS : Hid (SBox ns rs W an ar cn cr wr) := hS
  have e0 := run_cell (j := 0) hS.box rfl
  have e1 := run_cell (j := 1) hS.box rfl
  clear hS S2 d1
  have hT := HZ.out i hi0
  by_cases hi : i < rs.length
  ·obtain ⟨b, off, pa, pc, rfl, n0, n1, n2, hP⟩ := sRs_at HS.out.rul hi
   obtain ⟨q1, q2, q3, bd, q4, q5⟩ := HQ.out.rule rs[i] (List.getElem_mem hi)
   have HNx : Hid (shwRules ns rs (i + 1) = _) := shwRules_next (ns := ns) i hi
   have i1 : (i : Int) < (rs.length : Int) := by omega
   have bal : Below wr.heap.size wr (wr.alloc (.cells #[.string rs[i].name, .slice pa rs[i].params.length pc, .int .i64 rs[i].body] 42)) := (Below.refl _ _).alloc (Nat.le_refl _) _
   have X3 := heap_alloc_new wr (.cells #[.string rs[i].name, .slice pa rs[i].params.length pc, .int .i64 rs[i].body] 42)
   have HX3 : Hid _ := X3
   have HS3 : Hid (SBox ns rs W an (some ⟨b, off, none⟩) cn cr (wr.alloc (.cells #[.string rs[i].name, .slice pa rs[i].params.length pc, .int .i64 rs[i].body] 42))) := HS.out.step bal
   have HP3 : Hid (SRow (wr.alloc (.cells #[.string rs[i].name, .slice pa rs[i].params.length pc, .int .i64 rs[i].body] 42)) (.slice pa rs[i].params.length pc) rs[i].params) := hP.below bal
   have y1 := run_cell (j := 1) X3 rfl
   have HRs : Hid (∀ T : ByteArray, T.size ≤ 2000000000000 → ∀ n, n ≤ rs[i].params.length → (shwRule ns rs[i] n T).size ≤ 2010000000000) := fun T hT n hn => Nat.le_trans (shwRule_size ns rs[i] T q1 q3 n) (by have := Nat.mul_le_mul_right 1048577 (Nat.le_trans hn q2); omega)
   have HEnd : Hid (∀ T, shwEnd ns rs[i] T = (if 0 < rs[i].params.length then T ++ ⟨#[41]⟩ else T) ++ (⟨#[32, 45, 62, 32]⟩) ++ shwS ns bd ++ ⟨#[32, 59, 10]⟩) := fun T => by rw [shwEnd, q4, Int.toNat_natCast]
   have hbs := HBs.out bd q5
   have HNp : Hid (∀ (T : ByteArray) (k : Nat) (hk : k < rs[i].params.length), shwRule ns rs[i] (k + 1) T = shwRule ns rs[i] k T ++ (if k = 0 then ⟨#[40]⟩ else ⟨#[44]⟩) ++ rs[i].params[k]) := fun T k hk => shwRule_next T k hk
   have Hq3 : Hid (∀ p ∈ rs[i].params, p.size ≤ 1048576) := q3
   have h00 : ∀ T, shwRule ns rs[i] 0 T = T ++ rs[i].name := fun T => rfl
   have H00 : Hid (∀ T, shwRule ns rs[i] 0 T = T ++ rs[i].name) := h00
   rw [q4] at n2 HX3 HS3 HP3 y1
   clear hP bal X3 q3 q4 h00
   generalize shwRules ns rs i = T at *
   go_wp2
   generalize wr.alloc (.cells #[.string rs[i].name, .slice pa rs[i].params.length pc, .int .i64 bd] 42) = W3 at *
   go_loopw [4, 7] (fun ov kv wq => ∃ k : Nat, kv = .int .i64 k ∧ ov = .string (shwRule ns rs[i] k T) ∧ k ≤ rs[i].params.length ∧ wq = W3) (fun _ kv _ => rs[i].params.length - (intOf kv).toNat)
   case atStart => exact ⟨0, rfl, by rw [H00.out], Nat.zero_le _, rfl⟩
   case round =>
    obtain ⟨k, rfl, rfl, hk0, rfl⟩ := hrel
    have hU := HRs.out T hT k hk0
    have z1 := run_cell (j := 1) HX3.out rfl
    have z2 := run_cell (j := 2) HX3.out rfl
    have f0 := run_cell (j := 0) HS3.out.box rfl
    have f1 := run_cell (j := 1) HS3.out.box rfl
    by_cases hk : k < rs[i].params.length
    ·obtain ⟨pb, po, rfl, hpc⟩ := HP3.out.at hk
     have i2 : (k : Int) < (rs[i].params.length : Int) := by omega
     have HY : Hid (shwRule ns rs[i] (k + 1) T = _) := HNp.out T k hk
     have hps := Hq3.out rs[i].params[k] (List.getElem_mem hk)
     generalize shwRule ns rs[i] k T = U at *
     generalize rs[i].params[k] = p at *
     by_cases h0 : k = 0
     ·subst h0
      rw [if_pos rfl] at HY
      (try rw [Nat.add_zero] at hpc)
      go_wp2
      go_roundw
      case rel => exact ⟨1, by go_num, by rw [HY.out], by omega, by first | rfl | trivial⟩
      case measure => simp [intOf]; omega
     ·rw [if_neg h0] at HY
      have h0' : ¬ (k : Int) = 0 := by omega
      have q0 : ((k : Int) == 0) = false := by rw [beq_eq_false_iff_ne]; exact h0'
      go_wp2
      go_roundw
      case rel => exact ⟨k + 1, by go_num, by rw [HY.out], by omega, by first | rfl | trivial⟩
      case measure => simp [intOf]; omega
    ·obtain rfl : k = rs[i].params.length := by omega
     have HE := HEnd.out (shwRule ns rs[i] rs[i].params.length T)
     have HE2 : Hid (shwRules ns rs (i + 1) = _) := HNx.out.trans HE
     clear HE
     generalize shwRule ns rs[i] rs[i].params.length T = U at *
     have HC : Hid (∀ V : World, V = wr → Calls Tryz.prog 11 #[.agg #[.slice an ns.length cn, .slice (some ⟨b, off, none⟩) rs.length cr], .int .i64 bd] V fun e w' => e = .returned (.string (shwS ns bd)) ∧ Below V.heap.size V w') := fun V hV => by
      subst hV
      exact HSh.out bd _ q5 HS3.out.nod HS3.out.rul
     generalize shwS ns bd = B at *
     by_cases h0 : 0 < rs[i].params.length
     ·have d0 : (0 : Int) < (rs[i].params.length : Int) := by omega
      rw [if_pos h0] at HE2
      go_wp2_with fail
      refine (HC.out _ rfl).mono ?_
      rintro e w4 ⟨rfl, hb4⟩
      have HS4 : Hid (SBox ns rs W an (some ⟨b, off, none⟩) cn cr w4) := HS3.out.step hb4
      clear hb4
      go_wp2
      go_roundw
      case rel => exact ⟨i + 1, by go_num, by rw [HE2.out], by omega, HS4.out⟩
      case measure => simp [intOf]; omega
     ·have d0 : ¬ (0 : Int) < (rs[i].params.length : Int) := by omega
      have d2 : rs[i].params.length = 0 := by omega
      rw [if_neg h0] at HE2
      go_wp2_with fail
      refine (HC.out _ rfl).mono ?_
      rintro e w4 ⟨rfl, hb4⟩
      have HS4 : Hid (SBox ns rs W an (some ⟨b, off, none⟩) cn cr w4) := HS3.out.step hb4
      clear hb4
      go_wp2
      go_roundw
      case rel => exact ⟨i + 1, by go_num, by rw [HE2.out], by omega, HS4.out⟩
      case measure => simp [intOf]; omega
  ·obtain rfl : i = rs.length := by omega
   go_wp2
   go_ret2
   exact ⟨rfl, HS.out.bel⟩
end Go.Proofs.YtccogaoabdpfmaaGreat

namespace Go.Proofs.YtccogaoabdpfmaaGreat
open Go.RowKit
set_option linter.unusedVariables false
def tl (s : ByteArray) : List UInt8 := s.data.toList
theorem tl_append (a b : ByteArray) : tl (a ++ b) = tl a ++ tl b := by
 unfold tl
 rw [ByteArray.data_append, Array.toList_append]
theorem tl_size (s : ByteArray) : (tl s).length = s.size := by
 unfold tl
 rw [Array.length_toList]
 rfl
def joinL (sep : List UInt8) (y : Nat → List UInt8) : Nat → List UInt8
 | 0 => []
 | k + 1 => (if 0 < k then joinL sep y k ++ sep else joinL sep y k) ++ y k
theorem joinL_is (sep : ByteArray) (y : Nat → ByteArray) : ∀ n, tl (joinN sep y n) = joinL (tl sep) (fun k => tl (y k)) n
 | 0 => rfl
 | n + 1 => by
  rw [joinN, joinL, tl_append]
  congr 1
  split
  ·rw [tl_append, joinL_is sep y n]
  ·rw [joinL_is sep y n]
def shwArgsL (es : List (List NodeD)) (n : Nat) : List UInt8 := joinL [44] (fun k => tl (showB (es.getD k []))) n
theorem shwArgsL_is (es : List (List NodeD)) (n : Nat) : tl (shwArgs es n) = shwArgsL es n := joinL_is _ _ _
def shwCallL (x : SNodeD) : List UInt8 := if x.bind = em then tl x.text else tl x.bind ++ [58] ++ tl x.text
theorem shwCallL_is (x : SNodeD) : tl (shwCall x) = shwCallL x := by
 unfold shwCall shwCallL
 split
 ·rfl
 ·rw [tl_append, tl_append]; rfl
def shwInL (ns : List SNodeD) (z : Nat) (t : List UInt8) : List UInt8 := if (nodeS ns (z : Int)).kind = 6 then [40, 32] ++ t ++ [32, 41] else t
theorem shwInL_is (ns : List SNodeD) (z : Nat) (t : ByteArray) : tl (shwIn ns z t) = shwInL ns z (tl t) := by
 unfold shwIn shwInL
 split
 ·rw [tl_append, tl_append]; rfl
 ·rfl
def shwBodyL (ns : List SNodeD) (x : SNodeD) (y : Nat → List UInt8) : List UInt8 :=
 if x.kind = 1 then [34] ++ tl x.text ++ [34]
 else if x.kind = 2 then [91] ++ tl x.text ++ [93]
 else if x.kind = 4 then [123, 32] ++ shwArgsL x.args x.args.length ++ [32, 125]
 else if x.kind = 3 then (if 0 < x.args.length then shwCallL x ++ [40] ++ shwArgsL x.args x.args.length ++ [41] else shwCallL x)
 else if x.kind = 5 then joinL [32] (fun k => shwInL ns (kidA x k) (y (kidA x k))) x.kids.length
 else if x.kind = 6 then joinL [32, 124, 32] (fun k => y (kidA x k)) x.kids.length
 else [40, 32] ++ y (kidA x 0) ++ [32, 41] ++ tl (starB x.kind)
theorem shwBodyL_is (ns : List SNodeD) (x : SNodeD) (y : Nat → ByteArray) : tl (shwBody ns x y) = shwBodyL ns x (fun k => tl (y k)) := by
 unfold shwBody shwBodyL
 split
 ·rw [tl_append, tl_append]; rfl
 split
 ·rw [tl_append, tl_append]; rfl
 split
 ·rw [tl_append, tl_append, shwArgsL_is]; rfl
 split
 ·split
  ·rw [tl_append, tl_append, tl_append, shwArgsL_is, shwCallL_is]; rfl
  ·exact shwCallL_is x
 split
 ·rw [joinL_is]
  congr 1
  funext k
  exact shwInL_is _ _ _
 split
 ·exact joinL_is _ _ _
 ·rw [tl_append, tl_append, tl_append]; rfl
def shwFL : Nat → List SNodeD → Nat → List UInt8
 | 0, _, _ => []
 | f + 1, ns, i => shwBodyL ns (nodeS ns (i : Int)) (shwFL f ns)
theorem shwFL_is (ns : List SNodeD) : ∀ f i, tl (shwF f ns i) = shwFL f ns i
 | 0, i => rfl
 | f + 1, i => by
  rw [shwF, shwFL, shwBodyL_is]
  congr 1
  funext k
  exact shwFL_is ns f k
def shwRuleL (r : SRuleD) (n : Nat) (out : List UInt8) : List UInt8 := match n with
 | 0 => out ++ tl r.name
 | k + 1 => shwRuleL r k out ++ (if k = 0 then [40] else [44]) ++ tl (r.params.getD k ⟨#[]⟩)
theorem shwRuleL_is (ns : List SNodeD) (r : SRuleD) (out : ByteArray) : ∀ n, tl (shwRule ns r n out) = shwRuleL r n (tl out)
 | 0 => by rw [shwRule, shwRuleL, tl_append]
 | k + 1 => by
  rw [shwRule, shwRuleL, tl_append, tl_append, shwRuleL_is ns r out k]
  split <;> rfl
def shwEndL (ns : List SNodeD) (r : SRuleD) (out : List UInt8) : List UInt8 :=
 (if 0 < r.params.length then out ++ [41] else out) ++ [32, 45, 62, 32] ++ shwFL ns.length ns r.body.toNat ++ [32, 59, 10]
theorem shwEndL_is (ns : List SNodeD) (r : SRuleD) (out : ByteArray) : tl (shwEnd ns r out) = shwEndL ns r (tl out) := by
 unfold shwEnd shwEndL
 rw [tl_append, tl_append, tl_append, shwS, shwFL_is]
 split
 ·rw [tl_append]; rfl
 ·rfl
def shwRulesL (ns : List SNodeD) (rs : List SRuleD) : Nat → List UInt8
 | 0 => []
 | n + 1 => shwEndL ns (rs.getD n default) (shwRuleL (rs.getD n default) (rs.getD n default).params.length (shwRulesL ns rs n))
theorem shwRulesL_is (ns : List SNodeD) (rs : List SRuleD) : ∀ n, tl (shwRules ns rs n) = shwRulesL ns rs n
 | 0 => rfl
 | n + 1 => by rw [shwRules, shwRulesL, shwEndL_is, shwRuleL_is, shwRulesL_is ns rs n]
def tokStep (t : ByteArray) (x : TokD) : ByteArray :=
 if x.kind = 3 then t ++ ⟨#[34]⟩ ++ x.text ++ ⟨#[34, 32]⟩ else if x.kind = 4 then t ++ ⟨#[91]⟩ ++ x.text ++ ⟨#[93, 32]⟩ else if x.kind = 6 then t ++ x.text ++ ⟨#[40, 32]⟩ else t ++ x.text ++ ⟨#[32]⟩
def tokTxt (L : List TokD) (n : Nat) : ByteArray := (L.take n).foldl tokStep ⟨#[]⟩
def tokStepL (t : List UInt8) (x : TokD) : List UInt8 :=
 if x.kind = 3 then t ++ [34] ++ tl x.text ++ [34, 32] else if x.kind = 4 then t ++ [91] ++ tl x.text ++ [93, 32] else if x.kind = 6 then t ++ tl x.text ++ [40, 32] else t ++ tl x.text ++ [32]
theorem tokStepL_is (t : ByteArray) (x : TokD) : tl (tokStep t x) = tokStepL (tl t) x := by
 unfold tokStep tokStepL
 split
 ·rw [tl_append, tl_append, tl_append]; rfl
 split
 ·rw [tl_append, tl_append, tl_append]; rfl
 split
 ·rw [tl_append, tl_append]; rfl
 ·rw [tl_append, tl_append]; rfl
theorem tokFold_is : ∀ (L : List TokD) (t : ByteArray), tl (L.foldl tokStep t) = L.foldl tokStepL (tl t)
 | [], t => rfl
 | x :: L, t => by rw [List.foldl_cons, List.foldl_cons, tokFold_is L, tokStepL_is]
theorem tokTxt_next (L : List TokD) (n : Nat) (h : n < L.length) : tokTxt L (n + 1) = tokStep (tokTxt L n) L[n] := by
 unfold tokTxt
 rw [List.take_succ_eq_append_getElem h, List.foldl_append]
 rfl
theorem tokStep_size (t : ByteArray) (x : TokD) : t.size ≤ (tokStep t x).size := by
 unfold tokStep
 split
 ·simp only [ByteArray.size_append]; omega
 split
 ·simp only [ByteArray.size_append]; omega
 split
 ·simp only [ByteArray.size_append]; omega
 ·simp only [ByteArray.size_append]; omega
theorem tokTxt_mono (L : List TokD) : ∀ (d n : Nat), n + d ≤ L.length → (tokTxt L n).size ≤ (tokTxt L (n + d)).size
 | 0, n, h => Nat.le_refl _
 | d + 1, n, h => by
  have h1 := tokTxt_mono L d n (by omega)
  have h2 := tokStep_size (tokTxt L (n + d)) (L[n + d]'(by omega))
  rw [← tokTxt_next L (n + d) (by omega)] at h2
  exact Nat.le_trans h1 h2
def tokensL (l : List UInt8) : List TokD × Int := if 600 < l.length then ([], 601) else toks10 l.length (l.length + 1) [] l
theorem tokensL_is (s : ByteArray) : tokensB s = tokensL (tl s) := by
 unfold tokensB tokensL
 rw [tl_size]
 rfl
def sameT : List TokD → List TokD → Bool
 | [], [] => true
 | x :: xs, y :: ys => decide (x.kind = y.kind) && decide (x.text = y.text) && sameT xs ys
 | _, _ => false
theorem sameT_of : ∀ {a b : List TokD}, sameT a b = true → a = b
 | [], [], _ => rfl
 | [], _ :: _, h => by cases h
 | _ :: _, [], h => by cases h
 | x :: xs, y :: ys, h => by
  simp only [sameT, Bool.and_eq_true, decide_eq_true_eq] at h
  obtain ⟨⟨h1, h2⟩, h3⟩ := h
  obtain ⟨k, t⟩ := x
  obtain ⟨k', t'⟩ := y
  cases h1; cases h2
  rw [sameT_of h3]
def saidB : ByteArray := ⟨#[35, 32, 115, 97, 105, 100, 10, 32, 32]⟩
def moreB : ByteArray := ⟨#[32, 35, 32, 109, 111, 114, 101]⟩
def tokQ (S t : List UInt8) (L : List TokD) : Bool := decide (S.length ≤ 580) && decide (t.length ≤ 600) && decide (3 < L.length) && (decide ((tokensL t).2 = 0) && sameT (tokensL t).1 L) && (decide ((tokensL (tl saidB ++ S ++ tl moreB)).2 = 0) && sameT (tokensL (tl saidB ++ S ++ tl moreB)).1 L)
def tokY (S : List UInt8) : Bool := decide ((tokensL S).2 = 0) && tokQ S ((tokensL S).1.foldl tokStepL []) (tokensL S).1
structure TokOk (S : ByteArray) : Prop where
 size : S.size ≤ 580
 none : (tokensB S).2 = 0
 text : (tokTxt (tokensB S).1 (tokensB S).1.length).size ≤ 600
 many : 3 < (tokensB S).1.length
 again : tokensB (tokTxt (tokensB S).1 (tokensB S).1.length) = ((tokensB S).1, 0)
 more : tokensB (saidB ++ S ++ moreB) = ((tokensB S).1, 0)
theorem pair_of {α β : Type} {q : α × β} {a : α} {b : β} (h1 : q.1 = a) (h2 : q.2 = b) : q = (a, b) := by cases q; cases h1; cases h2; rfl
theorem tokOk_of {S : ByteArray} (h : tokY (tl S) = true) : TokOk S := by
 have e : (tokensB S).1.foldl tokStepL [] = tl (tokTxt (tokensB S).1 (tokensB S).1.length) := by
  unfold tokTxt
  rw [List.take_length, tokFold_is]
  rfl
 have e2 : tl saidB ++ tl S ++ tl moreB = tl (saidB ++ S ++ moreB) := by rw [tl_append, tl_append]
 unfold tokY at h
 rw [← tokensL_is, e, tokQ, e2, ← tokensL_is, ← tokensL_is, tl_size, tl_size] at h
 simp only [Bool.and_eq_true, decide_eq_true_eq] at h
 obtain ⟨h0, ⟨⟨⟨h1, h2⟩, h3⟩, h4, h5⟩, h6, h7⟩ := h
 exact ⟨h1, h0, h2, h3, pair_of (sameT_of h5) h4, pair_of (sameT_of h7) h6⟩
end Go.Proofs.YtccogaoabdpfmaaGreat

namespace Go.Proofs.YtccogaoabdpfmaaGreat
open Go.RowKit
set_option linter.unusedVariables false
theorem get_in {s : ByteArray} {k : Nat} (h : k < s.size) : s.get! k = s[k] := by
 simp [ByteArray.get!, getElem!_pos, h]
 rfl
theorem decode_bytes (s : ByteArray) (pos : Nat) (h : pos < s.size) (ha : 128 ≤ s[pos].toNat) :
  1 ≤ (Utf8.decode s pos).2 ∧ pos + (Utf8.decode s pos).2 ≤ s.size ∧ ∀ m (hm : m < s.size), pos ≤ m → m < pos + (Utf8.decode s pos).2 → 128 ≤ s[m].toNat := by
 have hn : ¬ s[pos].toNat < 128 := by omega
 have one : ∀ m (hm : m < s.size), pos ≤ m → m < pos + 1 → 128 ≤ s[m].toNat := fun m hm h1 h2 => by
  obtain rfl : m = pos := by omega
  exact ha
 have ct : ∀ k, (decide (pos + k < s.size) && (s.get! (pos + k)).toNat / 64 == 2) = true → ∃ hk : pos + k < s.size, 128 ≤ s[pos + k].toNat := fun k hk => by
  rw [Bool.and_eq_true, decide_eq_true_eq, beq_iff_eq] at hk
  refine ⟨hk.1, ?_⟩
  have := hk.2
  rw [get_in hk.1] at this
  omega
 have all : ∀ n, (∀ k, 1 ≤ k → k < n → ∃ hk : pos + k < s.size, 128 ≤ s[pos + k].toNat) → 1 ≤ n → pos + n ≤ s.size ∧ ∀ m (hm : m < s.size), pos ≤ m → m < pos + n → 128 ≤ s[m].toNat := fun n hk hn1 => by
  refine ⟨?_, fun m hm h1 h2 => ?_⟩
  ·rcases Nat.lt_or_ge 1 n with h1 | h1
   ·obtain ⟨h2, _⟩ := hk (n - 1) (by omega) (by omega)
    omega
   ·omega
  ·by_cases e : m = pos
   ·subst e; exact ha
   ·obtain ⟨h3, h4⟩ := hk (m - pos) (by omega) (by omega)
    have e2 : pos + (m - pos) = m := by omega
    simp only [e2] at h4
    exact h4
 have fin : ∀ c n : Nat, 1 ≤ n → (∀ k, 1 ≤ k → k < n → ∃ hk : pos + k < s.size, 128 ≤ s[pos + k].toNat) → 1 ≤ ((c, n) : Nat × Nat).2 ∧ pos + ((c, n) : Nat × Nat).2 ≤ s.size ∧ ∀ m (hm : m < s.size), pos ≤ m → m < pos + ((c, n) : Nat × Nat).2 → 128 ≤ s[m].toNat := fun c n h1 hk => ⟨h1, all n hk h1⟩
 simp only [Utf8.decode, get_at s pos h, hn, if_false]
 split
 ·rename_i hc
  rw [Bool.and_eq_true] at hc
  have c1 := ct 1 hc.2
  split
  ·exact fin _ 2 (by omega) (fun k h1 h2 => by obtain rfl : k = 1 := (by omega); exact c1)
  ·exact fin _ 1 (by omega) (fun k h1 h2 => by omega)
 ·split
  ·rename_i hc
   rw [Bool.and_eq_true, Bool.and_eq_true] at hc
   have c1 := ct 1 hc.1.2
   have c2 := ct 2 hc.2
   split
   ·refine fin _ 3 (by omega) (fun k h1 h2 => ?_)
    rcases (by omega : k = 1 ∨ k = 2) with rfl | rfl
    ·exact c1
    ·exact c2
   ·exact fin _ 1 (by omega) (fun k h1 h2 => by omega)
  ·split
   ·rename_i hc
    rw [Bool.and_eq_true, Bool.and_eq_true, Bool.and_eq_true] at hc
    have c1 := ct 1 hc.1.1.2
    have c2 := ct 2 hc.1.2
    have c3 := ct 3 hc.2
    split
    ·refine fin _ 4 (by omega) (fun k h1 h2 => ?_)
     rcases (by omega : k = 1 ∨ k = 2 ∨ k = 3) with rfl | rfl | rfl
     ·exact c1
     ·exact c2
     ·exact c3
    ·exact fin _ 1 (by omega) (fun k h1 h2 => by omega)
   ·exact fin _ 1 (by omega) (fun k h1 h2 => by omega)
def KindR (q : Nat → Bool) (p : UInt8 → Bool) : Prop := (∀ b : UInt8, b.toNat < 128 → q b.toNat = p b) ∧ ∃ c, (∀ n, 128 ≤ n → q n = c) ∧ ∀ b : UInt8, 128 ≤ b.toNat → p b = c
theorem kind_step {q : Nat → Bool} {p : UInt8 → Bool} (hk : KindR q p) (s : ByteArray) (pos : Nat) (h : pos < s.size) :
  1 ≤ (Utf8.decode s pos).2 ∧ pos + (Utf8.decode s pos).2 ≤ s.size ∧
  ((q (Utf8.decode s pos).1 = true ∧ ∀ m (hm : m < s.size), pos ≤ m → m < pos + (Utf8.decode s pos).2 → p s[m] = true) ∨ (q (Utf8.decode s pos).1 = false ∧ p s[pos] = false)) := by
 by_cases ha : s[pos].toNat < 128
 ·rw [decode_ascii s pos h ha]
  refine ⟨Nat.le_refl _, by show pos + 1 ≤ _; omega, ?_⟩
  have e := hk.1 s[pos] ha
  cases hq : q s[pos].toNat with
  | true =>
   refine .inl ⟨rfl, fun m hm h1 h2 => ?_⟩
   obtain rfl : m = pos := by have : m < pos + 1 := h2; omega
   rw [← e, hq]
  | false => exact .inr ⟨rfl, by rw [← e, hq]⟩
 ·have hb := decode_bytes s pos h (by omega)
  have hh := decode_high s pos h (by omega)
  obtain ⟨c, c1, c2⟩ := hk.2
  refine ⟨hb.1, hb.2.1, ?_⟩
  cases c with
  | true => exact .inl ⟨c1 _ hh.1, fun m hm h1 h2 => c2 _ (hb.2.2 m hm h1 h2)⟩
  | false => exact .inr ⟨c1 _ hh.1, c2 _ (by omega)⟩
theorem span_whole {s : ByteArray} {k : Nat} {q : UInt8 → Bool} (h2 : k ≤ s.size) (h : ∀ m (hm : m < s.size), m < k → q s[m] = true) (he : ∀ hk : k < s.size, q s[k] = false) : spanN q s.data.toList = k := by
 have := span_from (p := 0) (q := q) (Nat.zero_le k) h2 (fun m hm _ h1 => h m hm h1) he
 simpa using this
def wordR (n : Nat) : Bool := letT n || figT n
def notR (m n : Nat) : Bool := decide (n ≠ m)
def notB (m : Nat) (b : UInt8) : Bool := decide (b.toNat ≠ m)
theorem kind_word : KindR wordR wordT := ⟨fun b _ => rfl, false, fun n hn => by simp [wordR, letT, figT]; omega, fun b hb => by simp [wordT, letT, figT]; omega⟩
theorem kind_fig : KindR figT figU := ⟨fun b _ => rfl, false, fun n hn => by simp [figT]; omega, fun b hb => by simp [figU, figT]; omega⟩
theorem kind_not {m : Nat} (hm : m < 128) : KindR (notR m) (notB m) := ⟨fun b _ => rfl, true, fun n hn => by simp [notR]; omega, fun b hb => by simp [notB]; omega⟩
theorem span_and (p q : UInt8 → Bool) : ∀ l, spanN (fun b => p b && q b) l = min (spanN p l) (spanN q l)
 | [] => rfl
 | b :: l => by
  rw [spanN, spanN, spanN, span_and p q l]
  cases p b <;> cases q b <;> simp <;> omega
theorem span_take (p : UInt8 → Bool) : ∀ (l : List UInt8) (m : Nat), spanN p (l.take m) = min m (spanN p l)
 | l, 0 => by simp [spanN]
 | [], m + 1 => by simp [spanN]
 | b :: l, m + 1 => by
  rw [List.take_succ_cons, spanN, spanN, span_take p l m]
  cases p b <;> simp <;> omega
theorem span_stop (p : UInt8 → Bool) : ∀ (l : List UInt8) (h : spanN p l < l.length), p l[spanN p l] = false
 | [], h => by cases h
 | b :: l, h => by
  cases hp : p b with
  | true =>
   have e : spanN p (b :: l) = spanN p l + 1 := by rw [spanN, if_pos hp]
   have h2 : spanN p l < l.length := by rw [e] at h; simpa using h
   have := span_stop p l h2
   simp only [e, List.getElem_cons_succ]
   exact this
  | false =>
   have e : spanN p (b :: l) = 0 := by rw [spanN, if_neg (by rw [hp]; decide)]
   simp only [e, List.getElem_cons_zero]
   exact hp
theorem inText_is : inText = fun b => notB 34 b && notB 10 b := rfl
def resT (t : ByteArray) : TokD × Int := res10 (t.data.toList.drop 0) 0
def noneT : TokD × Int := (⟨0, noS10⟩, 0)
theorem span_cons {p : UInt8 → Bool} {s : ByteArray} (h : 0 < s.size) (hp : p s[0] = true) : 1 ≤ spanN p s.data.toList ∧ spanN p (s.data.toList.drop (0 + 1)) = spanN p s.data.toList - (0 + 1) := by
 have := drop_at h
 rw [List.drop_zero] at this
 rw [this, spanN, if_pos hp]
 simp
theorem resT_word {t : ByteArray} (h : 0 < t.size) (hl : letT t[0].toNat = true) :
  resT t = if 6 < spanN wordT t.data.toList then noneT else if t.data.toList[spanN wordT t.data.toList]? = some 40 then (⟨6, t.extract 0 (spanN wordT t.data.toList)⟩, ((spanN wordT t.data.toList + 1 : Nat) : Int)) else (⟨1, t.extract 0 (spanN wordT t.data.toList)⟩, (spanN wordT t.data.toList : Int)) := by
 have hs := span_cons (p := wordT) h (by simp [wordT, hl])
 exact res_word h hl hs.1 hs.2
theorem resT_fig {t : ByteArray} (h : 0 < t.size) (hl : letT t[0].toNat = false) (hf : figT t[0].toNat = true) :
  resT t = if 2 < spanN figU t.data.toList then noneT else (⟨2, t.extract 0 (spanN figU t.data.toList)⟩, (spanN figU t.data.toList : Int)) := by
 have hs := span_cons (p := figU) h hf
 exact res_fig h hl hf hs.1 hs.2
def behT (t : ByteArray) : ByteArray := t.extract 1 t.size
theorem behT_list (t : ByteArray) : (behT t).data.toList = t.data.toList.drop 1 := by
 rw [behT, ext_take]
 show (t.data.toList.drop 1).take (t.size - 1) = _
 rw [List.take_of_length_le (by rw [List.length_drop, toList_size]; omega)]
theorem behT_size {t : ByteArray} (h : 0 < t.size) : (behT t).size = t.size - 1 := by
 rw [← toList_size, behT_list, List.length_drop, toList_size]
theorem behT_ext (t : ByteArray) (k : Nat) (h : 0 < t.size) (hk : k ≤ (behT t).size) : (behT t).extract 0 k = t.extract 1 (k + 1) := by
 rw [ext_take, behT_list, ext_take]
 simp
theorem resT_text {t : ByteArray} (h : 0 < t.size) (hb : t[0] = 34) :
  resT t = if spanN (notB 34) (behT t).data.toList < (behT t).size ∧ 1 ≤ spanN (notB 34) (behT t).data.toList ∧ spanN (notB 34) (behT t).data.toList ≤ 8 ∧ ¬ spanN (notB 10) ((behT t).extract 0 (spanN (notB 34) (behT t).data.toList)).data.toList < spanN (notB 34) (behT t).data.toList
   then (⟨3, (behT t).extract 0 (spanN (notB 34) (behT t).data.toList)⟩, ((spanN (notB 34) (behT t).data.toList + 2 : Nat) : Int)) else noneT := by
 have hsz := behT_size h
 have hln : (t.data.toList.drop 1).length = t.size - 1 := by rw [List.length_drop, toList_size]
 have hr := res_text (s := t) (p := 0) (k := spanN inText (t.data.toList.drop 1) + 1) h hb (by omega) (by simp)
 have e1 : ((behT t).extract 0 (spanN (notB 34) (behT t).data.toList)).data.toList = (t.data.toList.drop 1).take (spanN (notB 34) (t.data.toList.drop 1)) := by
  rw [ext_take, behT_list]
  simp [bytesOf]
 rw [e1, span_take, behT_list, hsz]
 show res10 _ 0 = _
 rw [hr]
 have hand : spanN inText (t.data.toList.drop 1) = min (spanN (notB 34) (t.data.toList.drop 1)) (spanN (notB 10) (t.data.toList.drop 1)) := by rw [inText_is]; exact span_and _ _ _
 have ha := spanN_le (notB 34) (t.data.toList.drop 1)
 have hc := spanN_le (notB 10) (t.data.toList.drop 1)
 have s1 := span_stop (notB 34) (t.data.toList.drop 1)
 have s2 := span_stop (notB 10) (t.data.toList.drop 1)
 have hat : ∀ k (hk : k < (t.data.toList.drop 1).length), t.data.toList[k + 1]? = some (t.data.toList.drop 1)[k] := fun k hk => by
  have h1 := List.getElem?_eq_getElem hk
  rw [List.getElem?_drop, Nat.add_comm] at h1
  exact h1
 rw [hand]
 generalize hA : spanN (notB 34) (t.data.toList.drop 1) = a at *
 generalize hC : spanN (notB 10) (t.data.toList.drop 1) = c at *
 generalize t.data.toList.drop 1 = l at *
 by_cases hall : a < t.size - 1 ∧ 1 ≤ a ∧ a ≤ 8 ∧ ¬ min a c < a
 ·have hm : min a c = a := by omega
  have h34 : l[a]'(by omega) = 34 := by
   have := s1 (by omega)
   simp only [notB, decide_eq_false_iff_not, Decidable.not_not] at this
   exact u8_is this (by decide)
  rw [if_pos hall, hm, if_pos ⟨by rw [hat a (by omega), h34], by omega, by omega⟩]
  rw [behT_ext t a h (by omega)]
 ·rw [if_neg hall, if_neg]
  ·rfl
  ·rintro ⟨h1, h2, h3⟩
   by_cases hlt : min a c < l.length
   ·have h34 : l[min a c] = 34 := by
     have := hat _ hlt
     rw [h1] at this
     exact (Option.some.inj this).symm
    by_cases hac : a ≤ c
    ·have hm : min a c = a := by omega
     exact hall ⟨by omega, by omega, by omega, by omega⟩
    ·have hm : min a c = c := by omega
     have := s2 (by omega)
     simp only [notB, decide_eq_false_iff_not, Decidable.not_not] at this
     simp only [hm] at h34
     rw [h34] at this
     exact absurd this (by decide)
   ·rw [List.getElem?_eq_none (by rw [toList_size]; omega)] at h1
    cases h1
theorem resT_set {t : ByteArray} (h : 0 < t.size) (hb : t[0] = 91) :
  resT t = if spanN (notB 93) (behT t).data.toList < (behT t).size ∧ okL ((behT t).extract 0 (spanN (notB 93) (behT t).data.toList)).data.toList = true
   then (⟨4, (behT t).extract 0 (spanN (notB 93) (behT t).data.toList)⟩, ((spanN (notB 93) (behT t).data.toList + 2 : Nat) : Int)) else noneT := by
 have hsz := behT_size h
 have hle := spanN_le (notB 93) (t.data.toList.drop 1)
 have hln : (t.data.toList.drop 1).length = t.size - 1 := by rw [List.length_drop, toList_size]
 have hr := res_set (s := t) (p := 0) (k := spanN (notB 93) (t.data.toList.drop 1) + 1) h hb (by omega) (by omega) (by simp; rfl)
 show res10 _ 0 = _
 rw [hr, behT_list, hsz]
 rw [behT_ext t _ h (by omega)]
 by_cases hc : spanN (notB 93) (t.data.toList.drop 1) < t.size - 1 ∧ okL (t.extract 1 (spanN (notB 93) (t.data.toList.drop 1) + 1)).data.toList = true
 ·rw [if_pos hc, if_pos ⟨by omega, hc.2⟩]
 ·rw [if_neg hc, if_neg (fun c => hc ⟨by omega, c.2⟩)]
  rfl
end Go.Proofs.YtccogaoabdpfmaaGreat
