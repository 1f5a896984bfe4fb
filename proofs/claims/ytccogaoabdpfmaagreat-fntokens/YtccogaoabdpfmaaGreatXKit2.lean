/- The verifier's drawn grammar with groups: l11Surface, DrawSurface. -/
/- The specification's l04Size: how great an expression is when it is written out, 201 at most. -/
/- The laws' own helpers on expressions: nodes copied. -/
import Derived.Test.YtccogaoabdpfmaaGreatMoS
import Derived.Test.YtccogaoabdpfmaaGreatS11N
import Derived.Laws.OwnMore
import Derived.Maps.AppendAt
namespace Go.Proofs.YtccogaoabdpfmaaGreat
open Go.RowKit
set_option maxHeartbeats 1600000
set_option maxRecDepth 100000
set_option linter.unusedVariables false
def Drawn (ns : List SNodeD) (rs : List SRuleD) : Prop := ∃ s ∈ texts11, ∃ m ∈ mores, parseB ((cut11 s).1 ++ m) = some (ns, rs) ∧ SurfG ns rs
theorem surface11_of (W : World) (v : Value) (n g : Nat) (w : World) (hn : n ≤ 1000000000000) (hcode : CodeRow W v n) (hc : Cur W v n g w) :
  Calls Tryz.prog 8 #[.pointer (some ⟨g, 0, none⟩)] w fun e w' => ∃ (ns : List SNodeD) (rs : List SRuleD) (nv rv : Value), Drawn ns rs ∧ e = .returned (.agg #[nv, rv]) ∧ Held (fun k => k < w.heap.size) w' (fun V => SNs V nv ns ∧ SRs V rv rs) ∧ Went W v n g w w' := by
 have HC : Hid (CodeRow W v n) := hcode
 have HW : Hid (Cur W v n g w) := hc
 clear hcode hc
 go_enter Tryz.func8, Tryz.ntmps8
 go_wp2_with fail
 refine (more11_is W v n g _ hn HC.out (went_alloc HW.out _).1).mono ?_
 rintro e w1 ⟨s, hs, m, hm, rfl, hw1⟩
 obtain ⟨ns, rs, hp, hG⟩ := good78 hs hm
 have HD : Hid (Drawn ns rs) := ⟨s, hs, m, hm, hp, hG⟩
 have hz : ((cut11 s).1 ++ m).size ≤ 1048576 := by
  rw [ByteArray.size_append]
  have := cut11_size s hs
  have := mores_size m hm
  omega
 have HR : Hid (∀ V : World, Calls Tryz.prog 14 #[.string ((cut11 s).1 ++ m)] V fun e w' => ∃ (nv rv : Value), e = .returned (.tuple #[.agg #[nv, rv], .bool true]) ∧ Fresh V.heap.size w' (fun V => SNs V nv ns ∧ SRs V rv rs) ∧ Below V.heap.size V w') := fun V => readG hz hp hG V
 have H1 : Hid (Went W v n g _ w1) := hw1
 clear hw1 hs hm hp hG hz
 generalize (cut11 s).1 ++ m = T at *
 go_wp2_with fail
 refine (HR.out _).mono ?_
 rintro e w2 ⟨nv, rv, rfl, hfr, hb2⟩
 obtain ⟨⟨an, cn, rfl⟩, ⟨ar, cr, rfl⟩⟩ : (∃ an cn, nv = .slice an ns.length cn) ∧ ∃ ar cr, rv = .slice ar rs.length cr := ⟨RowC.slice (hfr w2 (Nat.le_refl _) (fun _ _ _ => rfl)).1, RowC.slice (hfr w2 (Nat.le_refl _) (fun _ _ _ => rfl)).2⟩
 have F2 : Hid (Fresh w1.heap.size w2 (fun V => SNs V (.slice an ns.length cn) ns ∧ SRs V (.slice ar rs.length cr) rs)) := hfr
 have B3 : Hid (Below w1.heap.size w1 w2) := hb2
 have H3 : Hid (Held (fun k => k < w1.heap.size) w2 (fun V => SNs V (.slice an ns.length cn) ns ∧ SRs V (.slice ar rs.length cr) rs)) := Held.of_fresh F2.out (fun k hk => hk)
 have hsz : w.heap.size < w1.heap.size := by have := H1.out.2.size; simp at this; omega
 have hgw := HW.out.lt
 have X3 : w2.heap[w.heap.size]? = some (.cells #[.slice none 0 0, .slice none 0 0] 27 (0, 0)) := by
  rw [B3.out.block _ hsz, H1.out.2.block _ (by simp) (fun e => by have := Option.some.inj e; omega)]
  exact heap_alloc_new _ _
 have c0 := run_cell (j := 0) X3 rfl
 have c1 := run_cell (j := 1) X3 rfl
 have f0 := run_frozen (j := 0) X3
 have f1 := run_frozen (j := 1) X3
 have hlt3 : w.heap.size < w2.heap.size := Nat.lt_of_lt_of_le hsz B3.out.size
 have hn3 : ¬ w.heap.size = w2.heap.size := by omega
 have hn4 : ¬ w2.heap.size = w.heap.size := by omega
 have X4 := (((Below.refl w2.heap.size w2).alloc (Nat.le_refl _) (Obj.cells #[.slice an ns.length cn, .slice ar rs.length cr] 27)).block _ hlt3).trans X3
 have a0 := run_cell (j := 0) X4 rfl
 have a1 := run_cell (j := 1) X4 rfl
 have g0 := run_frozen (j := 0) X4
 have g1 := run_frozen (j := 1) X4
 obtain ⟨w4, hw4⟩ : ∃ X, X = (w2.setCell ⟨w.heap.size, 0, none⟩ (Value.slice an ns.length cn)).setCell ⟨w.heap.size, 1, none⟩ (Value.slice ar rs.length cr) := ⟨_, rfl⟩
 obtain ⟨w5, hw5⟩ : ∃ X, X = w4.alloc (Obj.cells #[.slice an ns.length cn, .slice ar rs.length cr] 27) := ⟨_, rfl⟩
 have s4 : w4.heap.size = w2.heap.size := by rw [hw4]; simp [World.setCell]
 have b5 : Below w4.heap.size w4 w5 := by rw [hw5]; exact (Below.refl _ _).alloc (Nat.le_refl _) _
 have Y4 : w4.heap[w.heap.size]? = some (.cells #[.slice an ns.length cn, .slice ar rs.length cr] 27 (0, 0)) := by
  rw [hw4]
  have y := (setCell_self (j := 0) (Value.slice an ns.length cn) X3)
  exact (setCell_self (j := 1) (Value.slice ar rs.length cr) y).trans rfl
 have Z : w5.heap[w.heap.size]? = some (.cells #[.slice an ns.length cn, .slice ar rs.length cr] 27 (0, 0)) := (b5.block _ (by rw [s4]; exact hlt3)).trans Y4
 have Z0 : Hid (w5.cell? ⟨w.heap.size, 0, none⟩ = some (.slice an ns.length cn)) := run_cell (j := 0) Z rfl
 have Z1 : Hid (w5.cell? ⟨w.heap.size, 1, none⟩ = some (.slice ar rs.length cr)) := run_cell (j := 1) Z rfl
 have e4 : ∀ k, k ≠ w.heap.size → w4.heap[k]? = w2.heap[k]? := fun k hne => by rw [hw4]; exact (setCell_other _ hne).trans (setCell_other _ hne)
 have e5 : ∀ k, k < w2.heap.size → k ≠ w.heap.size → w5.heap[k]? = w2.heap[k]? := fun k hk hne => (b5.block k (by rw [s4]; exact hk)).trans (e4 k hne)
 have hBW : W.heap.size ≤ w.heap.size := HW.out.1.size
 have fr4 : FrA (fun k => k < w1.heap.size) w2 w4 := ⟨by rw [s4]; exact Nat.le_refl _, fun k hk ha => e4 k (fun e => ha (by rw [e]; exact hsz))⟩
 have hld : Hid (Held (fun k => k < w.heap.size) w5 (fun V => SNs V (.slice an ns.length cn) ns ∧ SRs V (.slice ar rs.length cr) rs)) :=
  ((H3.out.fr fr4).fr (FrA.below b5)).away (fun k _ hk => Nat.lt_trans hk hsz)
 have hwn : Hid (Went W v n g w w5) := by
  have h13 := went_below2 H1.out B3.out
  have hB4 : Below W.heap.size W w4 := by rw [hw4]; exact (h13.1.1.setCell hBW _).setCell hBW _
  have hB5 : Below W.heap.size W w5 := hB4.trans (b5.mono (by rw [s4]; exact Nat.le_trans hBW (Nat.le_of_lt hlt3)))
  have o4 : w4.os = w2.os ∧ w4.tape = w2.tape ∧ w4.output = w2.output := by rw [hw4]; exact ⟨rfl, rfl, rfl⟩
  refine ⟨Cur.moved h13.1 hB5 (e5 g (Nat.lt_trans hgw hlt3) (by omega)), ⟨b5.os.trans (o4.1.trans h13.2.os), b5.tape.trans (o4.2.1.trans h13.2.tape), b5.output.trans (o4.2.2.trans h13.2.output), ?_, fun k hk hne => ?_⟩⟩
  ·have := b5.size; omega
  ·rw [e5 k (by omega) (by omega), h13.2.block k (by simp; omega) hne]
   exact ((Below.refl w.heap.size w).alloc (Nat.le_refl _) _).block k hk
 clear hfr hb2 X3 X4 Z Y4 b5 s4 e4 e5 fr4
 go_wp2
 have zz0 := Z0.out
 have zz1 := Z1.out
 rw [hw4] at hw5
 rw [← hw5]
 refine bodyPost_ret (by simp [results, Tryz.results8, go_sem, zz0, zz1]; try rfl) rfl ?_
 exact ⟨ns, rs, _, _, HD.out, rfl, hld.out, hwn.out⟩
theorem drawSurface_of (W : World) (v : Value) (n : Nat) (w : World) (hn : n ≤ 1000000000000) (hcode : CodeRow W v n) (hb : Below W.heap.size W w) :
  Calls Tryz.prog 5 #[v] w fun e w' => ∃ (ns : List SNodeD) (rs : List SRuleD) (nv rv : Value), Drawn ns rs ∧ e = .returned (.agg #[nv, rv]) ∧ Held (fun k => k < w.heap.size) w' (fun V => SNs V nv ns ∧ SRs V rv rs) ∧ Below w.heap.size w w' := by
 have HC : Hid (CodeRow W v n) := hcode
 have HB : Hid (Below W.heap.size W w) := hb
 clear hcode hb
 have ba : Hid (Below w.heap.size w (w.alloc (Obj.cells #[.slice none 0 0, .slice none 0 0] 27))) := (Below.refl _ _).alloc (Nat.le_refl _) _
 go_enter Tryz.func5, Tryz.ntmps5
 go_wp2_with fail
 refine (new_any W v n _ hn HC.out (HB.out.trans (ba.out.mono HB.out.size))).mono ?_
 rintro e w1 ⟨g, rfl, hc1, hb1, hg⟩
 have H1 : Hid (Cur W v n g w1) := hc1
 have B1 : Hid (Below _ _ w1) := hb1
 have hga : w.heap.size < g := by have := hg; simp at this; omega
 clear hc1 hb1
 go_wp2_with fail
 refine (surface11_of W v n g _ hn HC.out H1.out).mono ?_
 rintro e w2 ⟨ns, rs, nv, rv, hD, rfl, hH, hw2⟩
 obtain ⟨an, cn, rfl⟩ := RowC.slice hH.here.1
 obtain ⟨ar, cr, rfl⟩ := RowC.slice hH.here.2
 have HD : Hid (Drawn ns rs) := hD
 have H2 : Hid (Held (fun k => k < w1.heap.size) w2 (fun V => SNs V (.slice an ns.length cn) ns ∧ SRs V (.slice ar rs.length cr) rs)) := hH
 have T2 : Hid (Went W v n g w1 w2) := hw2
 have hsz : w.heap.size < w1.heap.size := by have := B1.out.size; simp at this; omega
 have X2 : w2.heap[w.heap.size]? = some (.cells #[.slice none 0 0, .slice none 0 0] 27 (0, 0)) := by
  rw [T2.out.2.block _ hsz (fun e => by have := Option.some.inj e; omega), B1.out.block _ (by simp)]
  exact heap_alloc_new _ _
 have c0 := run_cell (j := 0) X2 rfl
 have c1 := run_cell (j := 1) X2 rfl
 have f0 := run_frozen (j := 0) X2
 have f1 := run_frozen (j := 1) X2
 obtain ⟨w4, hw4⟩ : ∃ X, X = (w2.setCell ⟨w.heap.size, 0, none⟩ (Value.slice an ns.length cn)).setCell ⟨w.heap.size, 1, none⟩ (Value.slice ar rs.length cr) := ⟨_, rfl⟩
 have s4 : w4.heap.size = w2.heap.size := by rw [hw4]; simp [World.setCell]
 have Y4 : w4.heap[w.heap.size]? = some (.cells #[.slice an ns.length cn, .slice ar rs.length cr] 27 (0, 0)) := by
  rw [hw4]
  have y := (setCell_self (j := 0) (Value.slice an ns.length cn) X2)
  exact (setCell_self (j := 1) (Value.slice ar rs.length cr) y).trans rfl
 have Z0 : Hid (w4.cell? ⟨w.heap.size, 0, none⟩ = some (.slice an ns.length cn)) := run_cell (j := 0) Y4 rfl
 have Z1 : Hid (w4.cell? ⟨w.heap.size, 1, none⟩ = some (.slice ar rs.length cr)) := run_cell (j := 1) Y4 rfl
 have e4 : ∀ k, k ≠ w.heap.size → w4.heap[k]? = w2.heap[k]? := fun k hne => by rw [hw4]; exact (setCell_other _ hne).trans (setCell_other _ hne)
 have fr4 : FrA (fun k => k < w1.heap.size) w2 w4 := ⟨by rw [s4]; exact Nat.le_refl _, fun k hk ha => e4 k (fun e => ha (by rw [e]; exact hsz))⟩
 have hld : Hid (Held (fun k => k < w.heap.size) w4 (fun V => SNs V (.slice an ns.length cn) ns ∧ SRs V (.slice ar rs.length cr) rs)) := (H2.out.fr fr4).away (fun k _ hk => Nat.lt_trans hk hsz)
 have hbl : Hid (Below w.heap.size w w4) := by
  have o4 : w4.os = w2.os ∧ w4.tape = w2.tape ∧ w4.output = w2.output := by rw [hw4]; exact ⟨rfl, rfl, rfl⟩
  have hb1 := ba.out.trans (B1.out.mono ba.out.size)
  refine ⟨o4.1.trans (T2.out.2.os.trans hb1.os), o4.2.1.trans (T2.out.2.tape.trans hb1.tape), o4.2.2.trans (T2.out.2.output.trans hb1.output), ?_, fun k hk => ?_⟩
  ·have := T2.out.2.size; omega
  ·rw [e4 k (by omega), T2.out.2.block k (by omega) (fun e => by have := Option.some.inj e; omega)]
   exact hb1.block k hk
 clear hH hw2 X2 Y4 s4 e4 fr4 hD
 go_wp2
 have zz0 := Z0.out
 have zz1 := Z1.out
 rw [← hw4]
 refine bodyPost_ret (by simp [results, Tryz.results5, go_sem, zz0, zz1]; try rfl) rfl ?_
 exact ⟨ns, rs, _, _, HD.out, rfl, hld.out, hbl.out⟩
end Go.Proofs.YtccogaoabdpfmaaGreat

namespace Go.Proofs.YtccogaoabdpfmaaGreat
open Go.RowKit
set_option maxHeartbeats 3200000
set_option maxRecDepth 100000
def capI (n : Int) : Int := if 201 < n then 201 else n
def sumK (sz : List Int) (ks : List Int) : Int := ks.foldl (fun n k => n + sz.getD k.toNat 0) 1
def sizesF (ns : List NodeD) : List Int := ns.foldl (fun sz x => sz ++ [capI (sumK sz x.kids)]) []
def sizeB (ns : List NodeD) : Int := (sizesF ns).getD (ns.length - 1) 0
theorem sumK_next (sz ks : List Int) (j : Nat) (h : j < ks.length) : sumK sz (ks.take (j + 1)) = sumK sz (ks.take j) + sz.getD ks[j].toNat 0 := by
 rw [List.take_succ_eq_append_getElem h, sumK, List.foldl_append]
 rfl
theorem sizesF_next (ns : List NodeD) (k : Nat) (h : k < ns.length) : sizesF (ns.take (k + 1)) = sizesF (ns.take k) ++ [capI (sumK (sizesF (ns.take k)) ns[k].kids)] := by
 rw [List.take_succ_eq_append_getElem h, sizesF, List.foldl_append]
 rfl
theorem sizesF_len (ns : List NodeD) : ∀ k, k ≤ ns.length → (sizesF (ns.take k)).length = k
 | 0, _ => rfl
 | k + 1, h => by rw [sizesF_next ns k (by omega), List.length_append, sizesF_len ns k (by omega)]; rfl
theorem getD_in {sz : List Int} (h : ∀ z ∈ sz, 1 ≤ z ∧ z ≤ 201) (k : Nat) : 0 ≤ sz.getD k 0 ∧ sz.getD k 0 ≤ 201 := by
 rw [List.getD_eq_getElem?_getD]
 by_cases hk : k < sz.length
 ·rw [List.getElem?_eq_getElem hk]
  have := h _ (List.getElem_mem hk)
  exact ⟨by show 0 ≤ sz[k]; omega, this.2⟩
 ·rw [List.getElem?_eq_none (by omega)]
  exact ⟨by decide, by decide⟩
theorem sumK_in {sz : List Int} (h : ∀ z ∈ sz, 1 ≤ z ∧ z ≤ 201) (ks : List Int) : ∀ j, j ≤ ks.length → 1 ≤ sumK sz (ks.take j) ∧ sumK sz (ks.take j) ≤ 1 + 201 * j
 | 0, _ => by rw [List.take_zero]; exact ⟨by show (1 : Int) ≤ 1; omega, by show (1 : Int) ≤ _; omega⟩
 | j + 1, hj => by
  have ih := sumK_in h ks j (by omega)
  have g := getD_in h ks[j].toNat
  rw [sumK_next sz ks j (by omega)]
  omega
theorem sizesF_in (ns : List NodeD) : ∀ k, k ≤ ns.length → ∀ z ∈ sizesF (ns.take k), 1 ≤ z ∧ z ≤ 201
 | 0, _, z, hz => by cases hz
 | k + 1, h, z, hz => by
  have ih := sizesF_in ns k (by omega)
  rw [sizesF_next ns k (by omega)] at hz
  rcases List.mem_append.1 hz with hz | hz
  ·exact ih z hz
  ·obtain rfl : z = _ := List.mem_singleton.1 hz
   have := sumK_in ih ns[k].kids ns[k].kids.length (Nat.le_refl _)
   rw [List.take_of_length_le (Nat.le_refl _)] at this
   unfold capI
   split <;> omega
theorem one_cellZ (z : Int) : ∀ u ∈ [Value.int .i64 z], u.oneCell' = true := by
 intro u hu
 obtain rfl : u = .int .i64 z := by simpa using hu
 rfl
theorem ownZ_snoc {B : Nat} {o v' : Value} {ys : List Int} {x : Int} {wr w2 : World} {ob : Obj} (hown2 : w2.ownsRow B 3 1 v' (ys.length + 1) (zv ys ++ [.int .i64 x])) (hown : OwnZ B o ys wr) (hgrow : (wr.alloc ob).grownBy w2 o.ownBlock)
  {w : World} (hw : B = w.heap.size) (hb : Below w.heap.size w wr) : OwnZ B v' (ys ++ [x]) w2 ∧ Below w.heap.size w w2 := by
 subst hw
 refine ⟨?_, ?_⟩
 ·rw [OwnZ, List.length_append, zv, List.map_append]
  exact hown2
 ·exact (hb.alloc hb.size ob).grown hgrow (by have := hb.size; simp; omega) (fun k hk => (World.ownsRow.lt hown k hk).1)
theorem l04Size_any (v : Value) (ns : List NodeD) (w : World) (hx : exprB ns = true) (h : NRow w v ns) :
  Calls Tryz.prog 73 #[.agg #[v]] w fun e w' => e = .returned (.int .i64 (sizeB ns)) ∧ Below w.heap.size w w' := by
 obtain ⟨i0, hi, hz0, hz1, hz2⟩ := info_parts Tryz.infoInt5
 obtain ⟨⟨hl1, hl2⟩, hnode⟩ := exprB_at hx
 have HNd : Hid (∀ k (hk : k < ns.length), nodeB k ns[k] = true) := hnode
 obtain ⟨a, cap, rfl⟩ := h.slice
 have B0 : Hid (Below w.heap.size w (w.alloc (.cells #[.slice a ns.length cap] 95))) := (Below.refl _ _).alloc (Nat.le_refl _) _
 have HR : Hid (NRow (w.alloc (.cells #[.slice a ns.length cap] 95)) (.slice a ns.length cap) ns) := h.below B0.out
 have E0 : Hid ((w.alloc (.cells #[.slice a ns.length cap] 95)).cell? ⟨w.heap.size, 0, none⟩ = some (.slice a ns.length cap)) := lit_one _ _ _
 have HS0 : Hid ((w.alloc (.cells #[.slice a ns.length cap] 95)).heap.size = w.heap.size + 1) := by rw [Hid]; simp
 clear h hnode hx
 go_enter Tryz.func73, Tryz.ntmps73
 go_wp2
 generalize w.alloc (.cells #[.slice a ns.length cap] 95) = w0 at *
 go_loopw [3, 4] (fun ov iv wr => ∃ k : Nat, iv = .int .i64 k ∧ k ≤ ns.length ∧ OwnZ w0.heap.size ov (sizesF (ns.take k)) wr ∧ Below w0.heap.size w0 wr) (fun _ iv _ => ns.length - (intOf iv).toNat)
 case atStart => exact ⟨0, rfl, Nat.zero_le _, by rw [← HS0.out]; exact World.ownsRow_made _ _ _ (Nat.le_refl _) (by decide) rfl, (Below.refl _ _).alloc (Nat.le_refl _) _⟩
 case round =>
  obtain ⟨k, rfl, hk, hown, hbw⟩ := hrel
  have HO : Hid (OwnZ w0.heap.size u3 (sizesF (ns.take k)) wr) := hown
  have HB : Hid (Below w0.heap.size w0 wr) := hbw
  have hE := cell_keep E0.out hbw
  have hfl : (sizesF (ns.take k)).length ≤ k ∧ k ≤ (sizesF (ns.take k)).length := by have := sizesF_len ns k hk; omega
  obtain ⟨hfl, hfm⟩ := hfl
  have HIn : Hid (∀ z ∈ sizesF (ns.take k), 1 ≤ z ∧ z ≤ 201) := sizesF_in ns k hk
  clear hown hbw
  by_cases hlt : k < ns.length
  ·obtain ⟨b, off, kv, rfl, n0, n1, n2, n3, hI⟩ := (HR.out.below HB.out).at hlt
   have HNx : Hid (_ = _) := sizesF_next ns k hlt
   have HKd : Hid (∀ q ∈ ns[k].kids, 0 ≤ q ∧ q < k) := (node_parts (HNd.out k hlt)).2.2.2
   have hkl : ns[k].kids.length ≤ 2 := by
    have := (node_parts (HNd.out k hlt)).2.1
    unfold kidsN at this
    split at this
    ·omega
    ·split at this <;> omega
   obtain ⟨ak, ck, rfl⟩ := hI.slice
   have HI : Hid (IRow wr (.slice ak ns[k].kids.length ck) ns[k].kids) := hI
   have i4 : (k : Int) < (ns.length : Int) := by omega
   clear hI n0 n1 n2
   generalize sizesF (ns.take k) = zs at *
   obtain ⟨az, cz, rfl⟩ := HO.out.row.slice
   go_wp2
   go_loopw [5, 6] (fun nv jv ww => ∃ j : Nat, nv = .int .i64 (sumK zs (ns[k].kids.take j)) ∧ jv = .int .i64 j ∧ j ≤ ns[k].kids.length ∧ ww = wr) (fun _ jv _ => ns[k].kids.length - (intOf jv).toNat)
   case atStart => exact ⟨0, rfl, rfl, Nat.zero_le _, rfl⟩
   case round =>
    obtain ⟨j, rfl, rfl, hj, hww⟩ := hrel
    rw [hww]
    clear hww
    have hsum := sumK_in HIn.out ns[k].kids j hj
    by_cases hjl : j < ns[k].kids.length
    ·obtain ⟨bk, offk, rfl, hck⟩ := HI.out.at hjl
     have hkq := HKd.out _ (List.getElem_mem hjl)
     have HNj : Hid (_ = _) := sumK_next zs ns[k].kids j hjl
     obtain ⟨q, hq⟩ : ∃ q : Nat, ns[k].kids[j] = (q : Int) := ⟨ns[k].kids[j].toNat, by omega⟩
     have hgd := getD_in HIn.out q
     rw [hq] at hck hkq HNj
     rw [Int.toNat_natCast] at HNj
     have hqz : q < zs.length := by omega
     obtain ⟨bs, offs, rfl, hcs⟩ := HO.out.row.at hqz
     have hgq : zs.getD q 0 = zs[q] := by rw [List.getD_eq_getElem?_getD, List.getElem?_eq_getElem hqz]; rfl
     rw [hgq] at hgd HNj
     have i5 : (j : Int) < (ns[k].kids.length : Int) := by omega
     have i6 : (q : Int) < (zs.length : Int) := by omega
     clear hq hkq hgq
     generalize sumK zs (ns[k].kids.take j) = S at *
     go_wp2
     go_roundw
     case rel => exact ⟨j + 1, by rw [HNj.out], by go_num, by omega, by first | trivial | rfl⟩
     case measure => simp [intOf]; omega
    ·obtain rfl : j = ns[k].kids.length := by omega
     rw [List.take_of_length_le (Nat.le_refl _)] at hsum
     rw [List.take_of_length_le (Nat.le_refl _)]
     have i5 : ¬ (ns[k].kids.length : Int) < (ns[k].kids.length : Int) := by omega
     by_cases hc : 201 < sumK zs ns[k].kids
     ·have HC : Hid (capI (sumK zs ns[k].kids) = 201) := if_pos hc
      generalize sumK zs ns[k].kids = S at *
      go_wp2_with (at_builtin; refine wpList_append_own _ rfl _ _ 58 rfl w0.heap.size 3 i0 _ 1 8 Tryz.underlying58 hi hz0 hz1 hz2 rfl (by decide) _ _ _ rfl (World.ownsRow.alloc HO.out _) ⟨_, 0, none⟩ 1 1 [.int .i64 201] rfl rfl (cell_one_new _ _ _) (one_cellZ _) (by unfold maxLen; omega) (by omega) (by have h8 := HB.out.size; simp; omega) ?_)
      intro v' w2 hown2 hgrow _
      have R := ownZ_snoc hown2 HO.out hgrow rfl HB.out
      clear hown2 hgrow
      go_wp2
      go_roundw
      case rel => exact ⟨k + 1, by go_num, by omega, by rw [HNx.out, HC.out]; exact R.1, R.2⟩
      case measure => simp [intOf]; omega
     ·have HC : Hid (capI (sumK zs ns[k].kids) = sumK zs ns[k].kids) := if_neg hc
      generalize sumK zs ns[k].kids = S at *
      go_wp2_with (at_builtin; refine wpList_append_own _ rfl _ _ 58 rfl w0.heap.size 3 i0 _ 1 8 Tryz.underlying58 hi hz0 hz1 hz2 rfl (by decide) _ _ _ rfl (World.ownsRow.alloc HO.out _) ⟨_, 0, none⟩ 1 1 [.int .i64 S] rfl rfl (cell_one_new _ _ _) (one_cellZ _) (by unfold maxLen; omega) (by omega) (by have h8 := HB.out.size; simp; omega) ?_)
      intro v' w2 hown2 hgrow _
      have R := ownZ_snoc hown2 HO.out hgrow rfl HB.out
      clear hown2 hgrow
      go_wp2
      go_roundw
      case rel => exact ⟨k + 1, by go_num, by omega, by rw [HNx.out, HC.out]; exact R.1, R.2⟩
      case measure => simp [intOf]; omega
  ·obtain rfl : k = ns.length := by omega
   rw [List.take_of_length_le (Nat.le_refl _)] at HO hfl hfm
   have HSz : Hid (sizeB ns = (sizesF ns).getD (ns.length - 1) 0) := rfl
   have i4 : ¬ (ns.length : Int) < (ns.length : Int) := by omega
   have hBf := B0.out.trans (HB.out.mono B0.out.size)
   clear HIn
   generalize sizesF ns = zs at *
   have hqz : ns.length - 1 < zs.length := by omega
   obtain ⟨az, cz, rfl⟩ := HO.out.row.slice
   obtain ⟨bs, offs, rfl, hcs⟩ := HO.out.row.at hqz
   have HG : Hid (sizeB ns = zs[ns.length - 1]) := by rw [Hid, HSz.out, List.getD_eq_getElem?_getD, List.getElem?_eq_getElem hqz]; rfl
   have i6 : IntKind.i64.wrap ((zs.length : Int) - 1) = ((ns.length - 1 : Nat) : Int) := by rw [IntKind.wrap_i64]; omega
   have i7 : ((ns.length - 1 : Nat) : Int) < (zs.length : Int) := by omega
   go_wp2
   go_ret
   exact ⟨by rw [HG.out]; rfl, hBf⟩
end Go.Proofs.YtccogaoabdpfmaaGreat

namespace Go.Proofs.YtccogaoabdpfmaaGreat
open Go.RowKit
def nv (qs : List (NodeD × Value)) : List Value := qs.flatMap fun q => [.int .i64 q.1.op, .int .i64 q.1.num, .string q.1.name, q.2]
end Go.Proofs.YtccogaoabdpfmaaGreat
