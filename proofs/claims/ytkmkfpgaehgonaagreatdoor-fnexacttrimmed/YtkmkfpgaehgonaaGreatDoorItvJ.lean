/- The specification's copies of expressions (out of FlV, FlC: without what speaks of l12Make). -/
/- Rows whose elements reach each into blocks of its own, told with their bounds; and such rows read as RowF. No program is named. -/
import Derived.Test.YtkmkfpgaehgonaaGreatDoorXKit3
import Derived.Test.YtkmkfpgaehgonaaGreatDoorRG
import Derived.Test.YtkmkfpgaehgonaaGreatDoorRF
import Derived.Deep.RegionLaw
import Derived.Deep.CutRange
namespace Go.Proofs.YtkmkfpgaehgonaaGreatDoor
open Go.RowKit
set_option linter.unusedVariables false

theorem xb_grownC {bx : Nat} {c : Array Value} {t : TypeId} {w w' : World} {k : Option Nat} (hg : w.grownBy w' k) (h : w.heap[bx]? = some (.cells c t (0, 0))) (hne : k ≠ some bx) : w'.heap[bx]? = some (.cells c t (0, 0)) := by
  rw [hg.block bx (Array.getElem?_eq_some_iff.1 h).1 (fun e => hne e.symm)]; exact h
theorem Tryz.infoExprF : (Tryz.prog.info? 88).map (fun i => (i.zero, i.size, i.bytes)) = some (some (.agg #[.slice none 0 0]), 1, 24) := by kernel_rfl
theorem one_sliceF (o : Option Addr) (l c : Nat) : ∀ u ∈ [Value.slice o l c], u.oneCell' = true := by
  intro u hu
  obtain rfl : u = .slice o l c := by simpa using hu
  rfl

theorem Tryz.infoNodeF : (Tryz.prog.info? 90).map (fun i => (i.zero, i.size, i.bytes)) = some (some (.agg #[.int .i64 0, .int .i64 0, .string ⟨#[]⟩, .slice none 0 0]), 4, 56) := by kernel_rfl
theorem four_nodeF (a b : Int) (s : ByteArray) (o : Option Addr) (l c : Nat) : ∀ u ∈ [Value.int .i64 a, .int .i64 b, .string s, .slice o l c], u.oneCell' = true := by
  intro u hu
  simp only [List.mem_cons, List.not_mem_nil, or_false] at hu
  rcases hu with rfl | rfl | rfl | rfl <;> rfl
/-- Within l04Copies: an expression's box, and its nodes so far. -/
structure CpI (wr : World) (ns : List NodeD) (k : Nat) (ev : Value) (wi : World) : Prop where
  box : wi.heap[wr.heap.size]? = some (.cells #[ev] 88 (0, 0))
  row : RowH 4 90 NodE (Own0 (wr.heap.size + 1) ev) (wr.heap.size + 1) ev (ns.take k) wi
  bel : Below wr.heap.size wr wi

/-- Behind a node's box, its kids copied, and the node laid out for the append. -/
theorem cp_step {wo wr w3 : World} {ns : List NodeD} {k : Nat} {ev kv0 kv3 : Value} (x : NodeD) (hC : CpI wo ns k ev wr) (hown3 : w3.ownsRow (wr.heap.size + 1) 3 1 kv3 (0 + x.kids.length) ([] ++ zv x.kids))
    (hgr3 : ((wr.alloc (.cells #[.int .i64 x.op, .int .i64 x.num, .string x.name, kv0] 90)).alloc (.cells #[] 3)).grownBy w3 (some (wr.heap.size + 1))) :
    RowH 4 90 NodE (Own0 (wo.heap.size + 1) ev) (wo.heap.size + 1) ev (ns.take k) ((w3.setCell ⟨wr.heap.size, 3, none⟩ kv3).alloc (.cells #[.int .i64 x.op, .int .i64 x.num, .string x.name, kv3] 90)) ∧
    Held (Own0 (wo.heap.size + 1) ev) ((w3.setCell ⟨wr.heap.size, 3, none⟩ kv3).alloc (.cells #[.int .i64 x.op, .int .i64 x.num, .string x.name, kv3] 90)) (fun V => NodE V [.int .i64 x.op, .int .i64 x.num, .string x.name, kv3] x) ∧
    ((w3.setCell ⟨wr.heap.size, 3, none⟩ kv3).alloc (.cells #[.int .i64 x.op, .int .i64 x.num, .string x.name, kv3] 90)).heap[wo.heap.size]? = some (.cells #[ev] 88 (0, 0)) ∧
    Below wr.heap.size wr ((w3.setCell ⟨wr.heap.size, 3, none⟩ kv3).alloc (.cells #[.int .i64 x.op, .int .i64 x.num, .string x.name, kv3] 90)) ∧ wo.heap.size < wr.heap.size ∧
    w3.heap.size = (w3.setCell ⟨wr.heap.size, 3, none⟩ kv3).heap.size := by
  have hso : wo.heap.size < wr.heap.size := (Array.getElem?_eq_some_iff.1 hC.box).1
  have B1 : Below wr.heap.size wr ((wr.alloc (.cells #[.int .i64 x.op, .int .i64 x.num, .string x.name, kv0] 90)).alloc (.cells #[] 3)) := ((Below.refl wr.heap.size wr).alloc (Nat.le_refl _) _).alloc (by simp) _
  have B2 : Below wr.heap.size wr w3 := B1.grown hgr3 (by simp <;> omega) (fun q hq => by cases hq; omega)
  have B3 : Below wr.heap.size wr ((w3.setCell ⟨wr.heap.size, 3, none⟩ kv3).alloc (.cells #[.int .i64 x.op, .int .i64 x.num, .string x.name, kv3] 90)) := (B2.setCell (Nat.le_refl _) kv3).alloc (by simp [World.setCell]; exact B2.size) _
  have hs : (w3.setCell ⟨wr.heap.size, 3, none⟩ kv3).heap.size = w3.heap.size := by simp [World.setCell]
  have F3 : Fresh (wr.heap.size + 1) w3 (fun V => IRow V kv3 x.kids) := Fresh.imp (own_fresh hown3) (fun V h => by
    rw [Nat.zero_add, List.nil_append] at h
    exact OwnZ.row (ks := x.kids) (B := wr.heap.size + 1) h)
  have F4 := (F3.setLow (b := wr.heap.size) (Nat.lt_succ_self _) 3 kv3).below ((Below.refl _ _).alloc (Nat.le_refl (w3.setCell ⟨wr.heap.size, 3, none⟩ kv3).heap.size) (.cells #[.int .i64 x.op, .int .i64 x.num, .string x.name, kv3] 90))
  refine ⟨hC.row.below B3, Held.of_fresh (Fresh.imp F4 (fun V h => ⟨kv3, rfl, h⟩)) (fun q hq => ?_), (B3.block _ hso).trans hC.box, B3, hso, hs.symm⟩
  have := own0_lt hC.row (by omega) q hq
  omega

set_option maxHeartbeats 6400000 in
set_option maxRecDepth 100000 in
theorem copies_any (v : Value) (es : List (List NodeD)) (w : World) (hl : es.length ≤ 1048576) (hn : ∀ e ∈ es, e.length ≤ 1048576 ∧ ∀ x ∈ e, x.kids.length ≤ 1048576) (h : RowC 1 ExprE w v es) : Calls Tryz.prog 28 #[v] w fun e w' => ∃ o : Value, e = .returned o ∧ Fresh w.heap.size w' (fun V => RowC 1 ExprE V o es) ∧ Below w.heap.size w w' := by
  obtain ⟨i0, hi, hz0, hz1, hz2⟩ := info_parts Tryz.infoExprF
  obtain ⟨j0, hj, hj0, hj1, hj2⟩ := info_parts Tryz.infoNodeF
  obtain ⟨z0, hz, hzz0, hzz1, hzz2⟩ := info_parts Tryz.infoInt5
  have HS : Hid (RowC 1 ExprE w v es) := h
  have HN : Hid (∀ e ∈ es, e.length ≤ 1048576 ∧ ∀ x ∈ e, x.kids.length ≤ 1048576) := hn
  obtain ⟨a, cap, rfl⟩ := h.slice
  have B0 : Hid (Below w.heap.size w (w.alloc (.cells #[] 88))) := (Below.refl _ _).alloc (Nat.le_refl _) _
  have R0 : Hid (RowH 1 88 ExprE (Own0 w.heap.size (.slice (some ⟨w.heap.size, 0, none⟩) 0 0)) w.heap.size (.slice (some ⟨w.heap.size, 0, none⟩) 0 0) ([] : List (List NodeD)) (w.alloc (.cells #[] 88))) := RowH.made0 w
  clear h hn
  go_enter Tryz.func28, Tryz.ntmps28
  go_wp2
  go_loopg [3, 4] es.length (fun gg ov kv wr => ∃ (i : Nat) (ao : Option Addr) (co : Nat), kv = .int .i64 i ∧ ov = .slice ao i co ∧ gg + i = es.length ∧ RowH 1 88 ExprE (Own0 w.heap.size (.slice ao i co)) w.heap.size (.slice ao i co) (es.take i) wr ∧ Below w.heap.size w wr)
  case atStart => exact ⟨0, _, _, rfl, rfl, by omega, R0.out, B0.out⟩
  case round =>
    obtain ⟨i, ao, co, rfl, rfl, hg, hR, hB⟩ := hrel
    have HR : Hid (RowH 1 88 ExprE (Own0 w.heap.size (.slice ao i co)) w.heap.size (.slice ao i co) (es.take i) wr) := hR
    have HB : Hid (Below w.heap.size w wr) := hB
    clear hR hB R0 B0
    rename World => wo
    by_cases hk : i < es.length
    · have dk : decide ((i : Int) < (es.length : Int)) = true := decide_eq_true (by omega)
      have ik : (i : Int) < (es.length : Int) := by omega
      obtain ⟨b, off, vs, rfl, _, hc, nv, rfl, hNr⟩ := RowC.at HS.out hk
      obtain ⟨an, cn, rfl⟩ := hNr.slice
      have HNr : Hid (NRow w (.slice an es[i].length cn) es[i]) := hNr
      have n0w : w.cell? ⟨b, off + i, none⟩ = some (.slice an es[i].length cn) := by have h := hc 0 (by simp); rw [Nat.mul_one] at h; exact h
      have hsz := HB.out.size
      have hel := HN.out _ (List.getElem_mem hk)
      have HEl : Hid (∀ x ∈ es[i], x.kids.length ≤ 1048576) := hel.2
      have hel1 := hel.1
      have C0 : Hid (CpI wo es[i] 0 (.slice none 0 0) (wo.alloc (.cells #[.slice none 0 0] 88))) := ⟨heap_alloc_new wo _, RowH.nil, (Below.refl _ _).alloc (Nat.le_refl _) _⟩
      obtain ⟨f1, rfl⟩ : ∃ f, gk = f + 1 := ⟨gk - 1, by omega⟩
      clear hc hNr hel
      go_wp2
      generalize wo.alloc (.cells #[.slice none 0 0] 88) = w1 at *
      go_loopg [6] es[i].length (fun gg kv wr => ∃ (k : Nat) (ae : Option Addr) (ce : Nat), kv = .int .i64 k ∧ gg + k = es[i].length ∧ CpI wo es[i] k (.slice ae k ce) wr)
      case atStart => exact ⟨0, _, _, rfl, by omega, C0.out⟩
      case round =>
        obtain ⟨k, ae, ce, rfl, hg2, hC⟩ := hrel
        have HC : Hid (CpI wo es[i] k (.slice ae k ce) wr) := hC
        have HBr : Hid (Below w.heap.size w wr) := HB.out.trans (hC.bel.mono hsz)
        have n0 := cell_keep n0w HBr.out
        clear hC C0
        by_cases hkk : k < es[i].length
        · have dkk : decide ((k : Int) < (es[i].length : Int)) = true := decide_eq_true (by omega)
          have ikk : (k : Int) < (es[i].length : Int) := by omega
          obtain ⟨nb, no, kv, rfl, m0, m1, m2, m3, hZ⟩ := (HNr.out.below HBr.out).at hkk
          obtain ⟨ka, kc, rfl⟩ := hZ.slice
          have hkl := HEl.out _ (List.getElem_mem hkk)
          have hso : wo.heap.size < wr.heap.size := (Array.getElem?_eq_some_iff.1 HC.out.box).1
          -- the node's box, and a row for its kids
          have XB : Hid (((wr.alloc (.cells #[.int .i64 es[i][k].op, .int .i64 es[i][k].num, .string es[i][k].name, .slice ka es[i][k].kids.length kc] 90)).alloc (.cells #[] 3)).heap[wr.heap.size]? = some (.cells #[.int .i64 es[i][k].op, .int .i64 es[i][k].num, .string es[i][k].name, .slice ka es[i][k].kids.length kc] 90 (0, 0))) := (Below.heap_alloc _ _ _ (by simp)).trans (heap_alloc_new wr _)
          have XE : Hid (((wr.alloc (.cells #[.int .i64 es[i][k].op, .int .i64 es[i][k].num, .string es[i][k].name, .slice ka es[i][k].kids.length kc] 90)).alloc (.cells #[] 3)).heap[wo.heap.size]? = some (.cells #[.slice ae k ce] 88 (0, 0))) := (Below.heap_alloc _ _ _ (by simp; omega)).trans ((Below.heap_alloc _ _ _ hso).trans HC.out.box)
          have BX : Hid (Below wr.heap.size wr ((wr.alloc (.cells #[.int .i64 es[i][k].op, .int .i64 es[i][k].num, .string es[i][k].name, .slice ka es[i][k].kids.length kc] 90)).alloc (.cells #[] 3))) := ((Below.refl wr.heap.size wr).alloc (Nat.le_refl _) _).alloc (by simp) _
          have KX : Hid (((wr.alloc (.cells #[.int .i64 es[i][k].op, .int .i64 es[i][k].num, .string es[i][k].name, .slice ka es[i][k].kids.length kc] 90)).alloc (.cells #[] 3)).ownsRow (wr.heap.size + 1) 3 1 (.slice (some ⟨wr.heap.size + 1, 0, none⟩) 0 0) 0 []) := by
            have h := World.ownsRow_made (wr.alloc (.cells #[.int .i64 es[i][k].op, .int .i64 es[i][k].num, .string es[i][k].name, .slice ka es[i][k].kids.length kc] 90)) (e := 3) (size := 1) (base := wr.heap.size + 1) #[] 0 (by simp) (Nat.zero_le _) (by simp)
            rwa [show (wr.alloc (.cells #[.int .i64 es[i][k].op, .int .i64 es[i][k].num, .string es[i][k].name, .slice ka es[i][k].kids.length kc] 90)).heap.size = wr.heap.size + 1 by simp] at h
          have ZX : Hid (IRow ((wr.alloc (.cells #[.int .i64 es[i][k].op, .int .i64 es[i][k].num, .string es[i][k].name, .slice ka es[i][k].kids.length kc] 90)).alloc (.cells #[] 3)) (.slice ka es[i][k].kids.length kc) es[i][k].kids) := hZ.below BX.out
          have x3 := run_cell (j := 3) XB.out rfl
          clear hZ
          go_wp2_with (first
            | (at_builtin; obtain ⟨R4, H4, E4, B4, hso4, hs4⟩ := cp_step (kv0 := .slice ka es[i][k].kids.length kc) es[i][k] HC.out hown3 hgr3; obtain ⟨cs4, ho4, hK4⟩ := RowH.add R4 (fun k hk => .inr hk); have hlk : (es[i].take k).length = k := (by rw [List.length_take]; omega); rw [hlk] at ho4 hK4; refine wpList_append_lies _ rfl _ _ 86 rfl (wo.heap.size + 1) 90 j0 _ 4 56 Tryz.underlying86 hj hj0 hj1 hj2 rfl (by decide) _ _ _ rfl ho4 ⟨w3.heap.size, 0, none⟩ 1 1 [.int .i64 es[i][k].op, .int .i64 es[i][k].num, .string es[i][k].name, .slice ka3 es[i][k].kids.length kc3] rfl rfl (by rw [hs4]; exact World.news_of_block (cs := #[.int .i64 es[i][k].op, .int .i64 es[i][k].num, .string es[i][k].name, .slice ka3 es[i][k].kids.length kc3]) (t := 90) (fr := (0, 0)) (heap_alloc_new _ _)) (four_nodeF _ _ _ _ _ _) (by omega) (by unfold maxLen; omega) (by omega) (Nat.le_trans hso4 B4.size) _ rfl ?_; intro gg5 cap5 w5 hown5 hgr5 hat5 hlt5; clear hs4 hlk; have E5 := xb_grownC hgr5 E4 (fun e => by have h := (World.ownsRow.lt ho4 _ e).1; omega); have e5 := run_cell (j := 0) E5 rfl; have f5 := run_frozen (j := 0) E5)
            | (at_builtin; refine append_intsF rfl _ _ 44 rfl (wr.heap.size + 1) 3 z0 _ Tryz.underlying44 hz hzz0 hzz1 hzz2 rfl _ 0 [] rfl KX.out es[i][k].kids ka kc rfl ZX.out (by omega) (by simp <;> omega) ?_; intro kv3 w3 hown3 hgr3; obtain ⟨ka3, kc3, rfl⟩ : ∃ a c, kv3 = .slice a es[i][k].kids.length c := (by rw [Nat.zero_add] at hown3; rcases hown3.2 with ⟨rfl, h0⟩ | ⟨g, cp, cur, rfl, _⟩; exact ⟨none, 0, by rw [h0]⟩; exact ⟨_, cp, rfl⟩); have B3 := (Below.refl (wr.heap.size + 1) _).grown hgr3 (by simp <;> omega) (fun q hq => (World.ownsRow.lt KX.out q hq).1); have X3 := (B3.block _ (by omega)).trans XB.out; have y0 := run_cell (j := 0) X3 rfl; have y1 := run_cell (j := 1) X3 rfl; have y2 := run_cell (j := 2) X3 rfl; have y3 := run_cell (j := 3) X3 rfl; have f3 := run_frozen (j := 3) X3; have E3 := (B3.block _ (by omega)).trans XE.out; have e3 := run_cell (j := 0) E3 rfl))
          have R5 := hK4 gg5 cap5 w5 [.int .i64 es[i][k].op, .int .i64 es[i][k].num, .string es[i][k].name, .slice ka3 es[i][k].kids.length kc3] es[i][k] (Own0 (wo.heap.size + 1) (.slice (some ⟨gg5, 0, none⟩) (k + 1) cap5)) rfl H4 hown5 hgr5 (own_next hat5 rfl)
          have hg5 : wo.heap.size + 1 ≤ gg5 := (World.ownsRow.lt hown5 gg5 rfl).1
          rw [show es[i].take k ++ [es[i][k]] = es[i].take (k + 1) by rw [List.take_succ_eq_append_getElem hkk]] at R5
          have C5 : Hid (CpI wo es[i] (k + 1) (.slice (some ⟨gg5, 0, none⟩) (k + 1) cap5) (w5.setCell ⟨wo.heap.size, 0, none⟩ (.slice (some ⟨gg5, 0, none⟩) (k + 1) cap5))) := by
            refine ⟨(setCell_self _ E5).trans rfl, RowH.go R5 (FrA.set _ (.inl (Nat.lt_succ_self _))) (fun _ _ h => h) (fun q hq => setCell_other _ (by cases hq; show gg5 ≠ wo.heap.size; omega)), ?_⟩
            exact ((HC.out.bel.trans (B4.mono HC.out.bel.size)).grown hgr5 (Nat.le_trans HC.out.bel.size B4.size) (fun q hq => by have h := (World.ownsRow.lt ho4 q hq).1; omega)).setCell (Nat.le_refl _) _
          have w1' : IntKind.i64.wrap ((k : Int) + 1) = ((k + 1 : Nat) : Int) := by rw [IntKind.wrap_i64]; omega
          obtain ⟨f2, rfl⟩ : ∃ f, gk = f + 1 := ⟨gk - 1, by omega⟩
          clear R5 hown5 hgr5 hat5 hlt5 E5 e5 f5 R4 H4 E4 B4 ho4 hK4 hown3 hgr3 B3 X3 E3 y0 y1 y2 y3 f3 e3 XB XE BX KX ZX x3 m0 m1 m2 m3
          generalize w5.setCell ⟨wo.heap.size, 0, none⟩ (.slice (some ⟨gg5, 0, none⟩) (k + 1) cap5) = w6 at *
          go_roundg f2
          case measure => omega
          case rel => exact ⟨k + 1, _, _, by go_num, by omega, C5.out⟩
        · have dkk : decide ((k : Int) < (es[i].length : Int)) = false := decide_eq_false (by omega)
          have e0 := run_cell (j := 0) HC.out.box rfl
          obtain rfl : k = es[i].length := by omega
          have hlk : es[i].take es[i].length = es[i] := List.take_of_length_le (Nat.le_refl _)
          have hal : Below wr.heap.size wr (wr.alloc (.cells #[.slice ae es[i].length ce] 88)) := (Below.refl _ _).alloc (Nat.le_refl _) _
          have R3 : RowH 1 88 ExprE (Own0 w.heap.size (.slice ao i co)) w.heap.size (.slice ao i co) (es.take i) (wr.alloc (.cells #[.slice ae es[i].length ce] 88)) := (HR.out.below HC.out.bel).below hal
          have hlt3 := own0_lt HR.out hsz
          have HF : Fresh (wo.heap.size + 1) wr (fun V => RowC 4 NodE V (.slice ae es[i].length ce) es[i]) := by
            have h := RowH.fresh HC.out.row
            rw [hlk] at h
            exact h
          obtain ⟨cs, ho3, hK⟩ := RowH.add R3 (fun k hk => .inr hk)
          have HH : Hid (Held (Own0 w.heap.size (.slice ao i co)) (wr.alloc (.cells #[.slice ae es[i].length ce] 88)) (fun V => ExprE V [.slice ae es[i].length ce] es[i])) := Held.of_fresh (Fresh.imp (HF.below hal) (fun V h => ⟨_, rfl, nRow_ofC h⟩)) (fun q hq => Nat.lt_succ_of_lt (hlt3 q hq))
          have hli : (es.take i).length = i := by rw [List.length_take]; omega
          rw [hli] at ho3 hK
          have HK : Hid (∀ (g cap : Nat) (w2 : World) (vs : List Value) (x : List NodeD) (A' : Nat → Prop), _) := hK
          have hs2 : w.heap.size ≤ wr.heap.size := HBr.out.size
          have HO3 : Hid _ := ho3
          have w1' : IntKind.i64.wrap ((i : Int) + 1) = ((i + 1 : Nat) : Int) := by rw [IntKind.wrap_i64]; omega
          clear hal R3 hlt3 HF ho3 hK hlk hli HC
          go_wp2_with (at_builtin; refine wpList_append_lies _ rfl _ _ 61 rfl w.heap.size 88 i0 _ 1 24 Tryz.underlying61 hi hz0 hz1 hz2 rfl (by decide) _ _ _ rfl HO3.out ⟨wr.heap.size, 0, none⟩ 1 1 [.slice ae es[i].length ce] rfl rfl (cell_one_new _ _ _) (one_sliceF _ _ _) (by omega) (by unfold maxLen; omega) (by omega) (by simp; omega) (wr.heap.size + 1) (by simp) ?_; intro gg cap w4 hown hgrow hat hlt)
          have R4 := HK.out gg cap w4 [.slice ae es[i].length ce] es[i] (Own0 w.heap.size (.slice (some ⟨gg, 0, none⟩) (i + 1) cap)) rfl HH.out hown hgrow (own_next hat (by simp))
          rw [show es.take i ++ [es[i]] = es.take (i + 1) by rw [List.take_succ_eq_append_getElem hk]] at R4
          have HR4 : Hid _ := R4
          have B4 : Hid (Below w.heap.size w w4) := (HBr.out.alloc hs2 _).grown hgrow (by simp; omega) (fun k hk => (World.ownsRow.lt HO3.out k hk).1)
          clear R4 hown hgrow hat hlt HH HK HO3
          go_wp2
          go_roundg f1
          case measure => omega
          case rel => exact ⟨i + 1, _, _, by go_num, rfl, by omega, HR4.out, B4.out⟩
    · have dk : decide ((i : Int) < (es.length : Int)) = false := decide_eq_false (by omega)
      have HF : Hid (Fresh w.heap.size wo (fun V => RowC 1 ExprE V (.slice ao i co) es)) := by
        have h := RowH.fresh HR.out
        rw [List.take_of_length_le (by omega)] at h
        exact h
      clear HR
      go_wp2
      go_ret
      exact ⟨_, rfl, HF.out, HB.out⟩

end Go.Proofs.YtkmkfpgaehgonaaGreatDoor

namespace Go.Proofs.YtkmkfpgaehgonaaGreatDoor
open Go.RowKit
set_option linter.unusedVariables false
variable {α : Type}

/-- A list that the call owns; element i reaches from (cut i).1 to (cut i).2; all that lies below X. -/
def RowJ (sz : Nat) (T : TypeId) (E : Nat → Nat → World → List Value → α → Prop) (B X : Nat) (v : Value) (xs : List α) (w : World) : Prop :=
  ∃ (vss : List (List Value)) (cut : Nat → Nat × Nat), vss.length = xs.length ∧ (∀ vs ∈ vss, vs.length = sz) ∧ w.ownsRow B T sz v xs.length vss.flatten ∧
    (∀ i (h : i < vss.length) (h' : i < xs.length), InI (cut i).1 (cut i).2 w (fun W => E (cut i).1 (cut i).2 W vss[i] xs[i]) ∧ B ≤ (cut i).1 ∧ (cut i).2 ≤ X ∧ ∀ k, v.ownBlock = some k → k < (cut i).1 ∨ (cut i).2 ≤ k) ∧ ∀ i j, i < j → j < xs.length → (cut i).2 ≤ (cut j).1
section
variable {sz : Nat} {T : TypeId} {lo hi : Nat} {E : Nat → Nat → World → List Value → α → Prop} {B X X' : Nat} {v : Value} {xs : List α} {w w' : World}
theorem RowJ.nil : RowJ sz T E B X (.slice none 0 0) ([] : List α) w := ⟨[], fun _ => (0, 0), rfl, fun _ h => (by cases h), ⟨by simp, .inl ⟨rfl, rfl⟩⟩, (fun i h => by cases h), fun i j _ h => by cases h⟩
theorem RowJ.own (h : RowJ sz T E B X v xs w) : ∃ cs, w.ownsRow B T sz v xs.length cs := by
  obtain ⟨vss, _, _, _, h3, _⟩ := h
  exact ⟨_, h3⟩
theorem RowJ.lt (h : RowJ sz T E B X v xs w) : ∀ k, v.ownBlock = some k → B ≤ k ∧ k < w.heap.size := by
  obtain ⟨cs, ho⟩ := h.own
  exact World.ownsRow.lt ho
theorem RowJ.slice (h : RowJ sz T E B X v xs w) : ∃ a cap, v = .slice a xs.length cap := by
  obtain ⟨cs, ho⟩ := h.own
  rcases ho.2 with ⟨rfl, h0⟩ | ⟨g, cap, cur, rfl, _⟩
  · exact ⟨none, 0, by rw [h0]⟩
  · exact ⟨_, cap, rfl⟩
theorem RowJ.type (h : RowJ sz T E B X v xs w) {g : Nat} (hg : v.ownBlock = some g) : ∃ cur, w.heap[g]? = some (.cells cur T (0, 0)) := by
  obtain ⟨cs, ho⟩ := h.own
  rcases ho.2 with ⟨rfl, h0⟩ | ⟨g', cap, cur, rfl, hB, hc, _⟩
  · cases hg
  · cases hg
    exact ⟨cur, hc⟩
theorem RowJ.up (h : RowJ sz T E B X v xs w) (hX : X ≤ X') : RowJ sz T E B X' v xs w := by
  obtain ⟨vss, cut, h1, h2, h3, h4, h5⟩ := h
  exact ⟨vss, cut, h1, h2, h3, fun i hi hi' => ⟨(h4 i hi hi').1, (h4 i hi hi').2.1, Nat.le_trans (h4 i hi hi').2.2.1 hX, (h4 i hi hi').2.2.2⟩, h5⟩
/-- In a world that has the row's block and those that its elements reach. -/
theorem RowJ.go (h : RowJ sz T E B X v xs w) (hs : X ≤ w'.heap.size) (hv : ∀ k, v.ownBlock = some k → w'.heap[k]? = w.heap[k]?) (hk : ∀ k, B ≤ k → k < X → v.ownBlock ≠ some k → w'.heap[k]? = w.heap[k]?) : RowJ sz T E B X v xs w' := by
  obtain ⟨vss, cut, h1, h2, h3, h4, h5⟩ := h
  refine ⟨vss, cut, h1, h2, ⟨h3.1, ?_⟩, fun i hi hi' => ?_, h5⟩
  · rcases h3.2 with hn | ⟨g, cap, cur, rfl, hB, hc, r⟩
    · exact .inl hn
    · exact .inr ⟨g, cap, cur, rfl, hB, (hv g rfl).trans hc, r⟩
  · obtain ⟨a, b, c, d⟩ := h4 i hi hi'
    exact ⟨a.go (Nat.le_trans c hs) (fun k k1 k2 => hk k (Nat.le_trans b k1) (Nat.lt_of_lt_of_le k2 c) (fun e => by rcases d k e with h | h <;> omega)), b, c, d⟩
theorem RowJ.below (h : RowJ sz T E B X v xs w) (hX : X ≤ w.heap.size) (hb : Below w.heap.size w w') : RowJ sz T E B X v xs w' :=
  h.go (Nat.le_trans hX hb.size) (fun k hk => hb.block k (h.lt k hk).2) (fun k _ hk _ => hb.block k (Nat.lt_of_lt_of_le hk hX))
theorem RowJ.fresh (h : RowJ sz T E B X v xs w) (hX : X ≤ w.heap.size) : Fresh B w fun W => RowJ sz T E B X v xs W := fun W h1 h2 =>
  h.go (Nat.le_trans hX h1) (fun k hk => h2 k (h.lt k hk).1 (h.lt k hk).2) (fun k hB hk _ => h2 k hB (Nat.lt_of_lt_of_le hk hX))
theorem RowJ.rowC {E0 : World → List Value → α → Prop} (hE : ∀ lo hi w vs x, E lo hi w vs x → E0 w vs x) (h : RowJ sz T E B X v xs w) : RowC sz E0 w v xs := by
  obtain ⟨vss, cut, h1, h2, h3, h4, h5⟩ := h
  exact RowO.row (sz := sz) (T := T) (E := E0) (B := B) ⟨vss, h1, h2, h3, fun i hi hi' => hE _ _ _ _ _ (h4 i hi hi').1.here⟩
/-- One element more: it reaches from X on. -/
theorem RowJ.add (h : RowJ sz T E B X v xs w) (hBX : B ≤ X) (hvX : ∀ k, v.ownBlock = some k → k < X) (hX : X ≤ w.heap.size) : ∃ cs, w.ownsRow B T sz v xs.length cs ∧ ∀ (g cap hi : Nat) (w2 : World) (vs : List Value) (x : α), vs.length = sz → X ≤ hi → InI X hi w (fun W => E X hi W vs x) → w2.ownsRow B T sz (.slice (some ⟨g, 0, none⟩) (xs.length + 1) cap) (xs.length + 1) (cs ++ vs) → w.grownBy w2 v.ownBlock → (v.ownBlock = some g ∨ g = w.heap.size) → RowJ sz T E B hi (.slice (some ⟨g, 0, none⟩) (xs.length + 1) cap) (xs ++ [x]) w2 := by
  obtain ⟨vss, cut, h1, h2, h3, h4, h5⟩ := h
  refine ⟨vss.flatten, h3, fun g cap hi w2 vs x hl hXh hx ho2 hg hat => ?_⟩
  have e : (xs ++ [x]).length = xs.length + 1 := by simp
  have hgk : ∀ k, (Value.slice (some ⟨g, 0, none⟩) (xs.length + 1) cap).ownBlock = some k → v.ownBlock = some k ∨ k = w.heap.size := fun k hk => by
    have ek : g = k := Option.some.inj hk
    rw [← ek]; exact hat
  refine ⟨vss ++ [vs], fun i => if i < xs.length then cut i else (X, hi), by simp [h1], fun u hu => ?_, by rw [e]; simpa using ho2, fun i hi1 hi' => ?_, fun i j hij hj => ?_⟩
  · rcases List.mem_append.1 hu with hu | hu
    · exact h2 u hu
    · rw [List.mem_singleton.1 hu]; exact hl
  · by_cases hlt : i < vss.length
    · have ec : (fun i => if i < xs.length then cut i else (X, hi)) i = cut i := if_pos (by omega)
      rw [List.getElem_append_left hlt, List.getElem_append_left (by omega), ec]
      obtain ⟨a, b, c, d⟩ := h4 i hlt (by omega)
      refine ⟨a.go (Nat.le_trans c (Nat.le_trans hX hg.size)) (fun k k1 k2 => hg.block k (by omega) (fun e => by rcases d k e.symm with h | h <;> omega)), b, by omega, fun k hk => ?_⟩
      rcases hgk k hk with h | h
      · exact d k h
      · exact .inr (by omega)
    · have e : i = vss.length := by simp at hi1; omega
      subst e
      have ec : (fun i => if i < xs.length then cut i else (X, hi)) vss.length = (X, hi) := if_neg (by omega)
      rw [List.getElem_append_right (Nat.le_refl _), List.getElem_append_right (by omega), ec]
      simp only [Nat.sub_self, h1]
      refine ⟨hx.go (Nat.le_trans hx.1 hg.size) (fun k k1 k2 => hg.block k (Nat.lt_of_lt_of_le k2 hx.1) (fun e => by have := hvX k e.symm; omega)), hBX, Nat.le_refl _, fun k hk => ?_⟩
      rcases hgk k hk with h | h
      · exact .inl (hvX k h)
      · exact .inr (by have := hx.1; omega)
  · rw [e] at hj
    have ei : (fun i => if i < xs.length then cut i else (X, hi)) i = cut i := if_pos (by omega)
    rw [ei]
    by_cases hj2 : j < xs.length
    · have ej : (fun i => if i < xs.length then cut i else (X, hi)) j = cut j := if_pos hj2
      rw [ej]; exact h5 i j hij hj2
    · have ej : (fun i => if i < xs.length then cut i else (X, hi)) j = (X, hi) := if_neg hj2
      rw [ej]
      exact (h4 i (by omega) (by omega)).2.2.1
def putJ (w : World) (k : Nat) (o : Obj) : World := { w with heap := w.heap.setIfInBounds k o }
theorem putJ_size (w : World) (k : Nat) (o : Obj) : (putJ w k o).heap.size = w.heap.size := by simp [putJ]
theorem putJ_other (w : World) {k j : Nat} (o : Obj) (h : j ≠ k) : (putJ w k o).heap[j]? = w.heap[j]? := by simp [putJ, Ne.symm h]
theorem putJ_self (w : World) {k : Nat} (o : Obj) (h : k < w.heap.size) : (putJ w k o).heap[k]? = some o := by simp [putJ, h]
/-- A row that lies in every world that has the blocks from lo to hi has its own there. -/
theorem inJ_own {lo hi : Nat} (h : InI lo hi w (fun V => ∃ B X, RowJ sz T E B X v xs V)) : ∀ k, v.ownBlock = some k → lo ≤ k ∧ k < hi := fun k hk => by
  obtain ⟨B, X, h0⟩ := h.here
  have hlt := (h0.lt k hk).2
  by_cases hb : lo ≤ k ∧ k < hi
  · exact hb
  · obtain ⟨B', X', h1⟩ := h.2 (putJ w k (.stringIter ⟨#[]⟩ 0)) (by rw [putJ_size]; exact h.1) (fun j hj hj' => putJ_other w _ (fun e => hb (by omega)))
    obtain ⟨cur, hc⟩ := h1.type hk
    rw [putJ_self w _ hlt] at hc
    cases hc
/-- Read as a row whose elements have each blocks of their own. -/
theorem RowJ.rowF {lo hi : Nat} {EF : (Nat → Prop) → World → List Value → α → Prop} (hE : StabF EF) (hJ : ∀ lo hi vs x, InI lo hi w (fun W => E lo hi W vs x) → EF (Nw lo hi) w vs x)
    (h : RowJ sz T E B X v xs w) (hB : lo ≤ B) (hX : X ≤ hi) (ho : ∀ k, v.ownBlock = some k → lo ≤ k ∧ k < hi) : RowF sz T EF (Nw lo hi) v xs w := by
  obtain ⟨vss, cut, h1, h2, h3, h4, h5⟩ := h
  refine ⟨vss, fun i k => i < xs.length ∧ Nw (cut i).1 (cut i).2 k, h1, h2, ⟨h3.1, ?_⟩, ⟨ho, fun k hk i hF => ?_, fun i k hF => ?_, fun i j k hij hF hG => ?_⟩, fun i hi1 hi2 => hE.up _ _ _ _ _ (hJ _ _ _ _ (h4 i hi1 hi2).1) (fun k hk => ⟨hi2, hk⟩)⟩
  · rcases h3.2 with hn | ⟨g, cap, cur, rfl, hB, hc, r⟩
    · exact .inl hn
    · exact .inr ⟨g, cap, cur, rfl, Nat.zero_le _, hc, r⟩
  · have hq := (h4 i (by rw [h1]; exact hF.1) hF.1).2.2.2 k hk
    have := hF.2.1
    have := hF.2.2
    omega
  · have hq := h4 i (by rw [h1]; exact hF.1) hF.1
    exact ⟨by have := hF.2.1; have := hq.2.1; omega, by have := hF.2.2; have := hq.2.2.1; omega⟩
  · have a1 := hF.2.1
    have a2 := hF.2.2
    have b1 := hG.2.1
    have b2 := hG.2.2
    rcases Nat.lt_or_gt_of_ne hij with hl | hl
    · have := h5 i j hl hG.1; omega
    · have := h5 j i hl hF.1; omega
end

end Go.Proofs.YtkmkfpgaehgonaaGreatDoor
