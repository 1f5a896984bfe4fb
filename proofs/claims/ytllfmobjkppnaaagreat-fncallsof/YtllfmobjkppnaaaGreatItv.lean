/- The specification's l04Copies: expressions, copied anew. -/
/- What a right shape of a node says. No program is named. -/
/- A plain grammar in the making (the specification's l12Make), as it lies in memory; what each step does to it. -/
/- Within the specification's l12Make.row: what is kept from thing to thing. -/
/- Within the specification's l12Make.group: what is kept from row to row. -/
/- Rows whose elements reach each into blocks of its own, one behind the other. No program is named. -/
import Derived.Test.YtllfmobjkppnaaaGreatFlV
namespace Go.Proofs.YtllfmobjkppnaaaGreat
open Go.RowKit
set_option linter.unusedVariables false

theorem Tryz.infoNodeF : (Tryz.prog.info? 116).map (fun i => (i.zero, i.size, i.bytes)) = some (some (.agg #[.int .i64 0, .int .i64 0, .string ⟨#[]⟩, .slice none 0 0]), 4, 56) := by kernel_rfl
theorem four_nodeF (a b : Int) (s : ByteArray) (o : Option Addr) (l c : Nat) : ∀ u ∈ [Value.int .i64 a, .int .i64 b, .string s, .slice o l c], u.oneCell' = true := by
  intro u hu
  simp only [List.mem_cons, List.not_mem_nil, or_false] at hu
  rcases hu with rfl | rfl | rfl | rfl <;> rfl
/-- Within l04Copies: an expression's box, and its nodes so far. -/
structure CpI (wr : World) (ns : List NodeD) (k : Nat) (ev : Value) (wi : World) : Prop where
  box : wi.heap[wr.heap.size]? = some (.cells #[ev] 78 (0, 0))
  row : RowH 4 116 NodE (Own0 (wr.heap.size + 1) ev) (wr.heap.size + 1) ev (ns.take k) wi
  bel : Below wr.heap.size wr wi

/-- Behind a node's box, its kids copied, and the node laid out for the append. -/
theorem cp_step {wo wr w3 : World} {ns : List NodeD} {k : Nat} {ev kv0 kv3 : Value} (x : NodeD) (hC : CpI wo ns k ev wr) (hown3 : w3.ownsRow (wr.heap.size + 1) 3 1 kv3 (0 + x.kids.length) ([] ++ zv x.kids))
    (hgr3 : ((wr.alloc (.cells #[.int .i64 x.op, .int .i64 x.num, .string x.name, kv0] 116)).alloc (.cells #[] 3)).grownBy w3 (some (wr.heap.size + 1))) :
    RowH 4 116 NodE (Own0 (wo.heap.size + 1) ev) (wo.heap.size + 1) ev (ns.take k) ((w3.setCell ⟨wr.heap.size, 3, none⟩ kv3).alloc (.cells #[.int .i64 x.op, .int .i64 x.num, .string x.name, kv3] 116)) ∧
    Held (Own0 (wo.heap.size + 1) ev) ((w3.setCell ⟨wr.heap.size, 3, none⟩ kv3).alloc (.cells #[.int .i64 x.op, .int .i64 x.num, .string x.name, kv3] 116)) (fun V => NodE V [.int .i64 x.op, .int .i64 x.num, .string x.name, kv3] x) ∧
    ((w3.setCell ⟨wr.heap.size, 3, none⟩ kv3).alloc (.cells #[.int .i64 x.op, .int .i64 x.num, .string x.name, kv3] 116)).heap[wo.heap.size]? = some (.cells #[ev] 78 (0, 0)) ∧
    Below wr.heap.size wr ((w3.setCell ⟨wr.heap.size, 3, none⟩ kv3).alloc (.cells #[.int .i64 x.op, .int .i64 x.num, .string x.name, kv3] 116)) ∧ wo.heap.size < wr.heap.size ∧
    w3.heap.size = (w3.setCell ⟨wr.heap.size, 3, none⟩ kv3).heap.size := by
  have hso : wo.heap.size < wr.heap.size := (Array.getElem?_eq_some_iff.1 hC.box).1
  have B1 : Below wr.heap.size wr ((wr.alloc (.cells #[.int .i64 x.op, .int .i64 x.num, .string x.name, kv0] 116)).alloc (.cells #[] 3)) := ((Below.refl wr.heap.size wr).alloc (Nat.le_refl _) _).alloc (by simp) _
  have B2 : Below wr.heap.size wr w3 := B1.grown hgr3 (by simp <;> omega) (fun q hq => by cases hq; omega)
  have B3 : Below wr.heap.size wr ((w3.setCell ⟨wr.heap.size, 3, none⟩ kv3).alloc (.cells #[.int .i64 x.op, .int .i64 x.num, .string x.name, kv3] 116)) := (B2.setCell (Nat.le_refl _) kv3).alloc (by simp [World.setCell]; exact B2.size) _
  have hs : (w3.setCell ⟨wr.heap.size, 3, none⟩ kv3).heap.size = w3.heap.size := by simp [World.setCell]
  have F3 : Fresh (wr.heap.size + 1) w3 (fun V => IRow V kv3 x.kids) := Fresh.imp (own_fresh hown3) (fun V h => by
    rw [Nat.zero_add, List.nil_append] at h
    exact OwnZ.row (ks := x.kids) (B := wr.heap.size + 1) h)
  have F4 := (F3.setLow (b := wr.heap.size) (Nat.lt_succ_self _) 3 kv3).below ((Below.refl _ _).alloc (Nat.le_refl (w3.setCell ⟨wr.heap.size, 3, none⟩ kv3).heap.size) (.cells #[.int .i64 x.op, .int .i64 x.num, .string x.name, kv3] 116))
  refine ⟨hC.row.below B3, Held.of_fresh (Fresh.imp F4 (fun V h => ⟨kv3, rfl, h⟩)) (fun q hq => ?_), (B3.block _ hso).trans hC.box, B3, hso, hs.symm⟩
  have := own0_lt hC.row (by omega) q hq
  omega

set_option maxHeartbeats 6400000 in
set_option maxRecDepth 100000 in
theorem copies_any (v : Value) (es : List (List NodeD)) (w : World) (hl : es.length ≤ 1048576) (hn : ∀ e ∈ es, e.length ≤ 1048576 ∧ ∀ x ∈ e, x.kids.length ≤ 1048576) (h : RowC 1 ExprE w v es) : Calls Tryz.prog 57 #[v] w fun e w' => ∃ o : Value, e = .returned o ∧ Fresh w.heap.size w' (fun V => RowC 1 ExprE V o es) ∧ Below w.heap.size w w' := by
  obtain ⟨i0, hi, hz0, hz1, hz2⟩ := info_parts Tryz.infoExprF
  obtain ⟨j0, hj, hj0, hj1, hj2⟩ := info_parts Tryz.infoNodeF
  obtain ⟨z0, hz, hzz0, hzz1, hzz2⟩ := info_parts Tryz.infoInt5
  have HS : Hid (RowC 1 ExprE w v es) := h
  have HN : Hid (∀ e ∈ es, e.length ≤ 1048576 ∧ ∀ x ∈ e, x.kids.length ≤ 1048576) := hn
  obtain ⟨a, cap, rfl⟩ := h.slice
  have B0 : Hid (Below w.heap.size w (w.alloc (.cells #[] 78))) := (Below.refl _ _).alloc (Nat.le_refl _) _
  have R0 : Hid (RowH 1 78 ExprE (Own0 w.heap.size (.slice (some ⟨w.heap.size, 0, none⟩) 0 0)) w.heap.size (.slice (some ⟨w.heap.size, 0, none⟩) 0 0) ([] : List (List NodeD)) (w.alloc (.cells #[] 78))) := RowH.made0 w
  clear h hn
  go_enter Tryz.func57, Tryz.ntmps57
  go_wp2
  go_loopg [3, 4] es.length (fun gg ov kv wr => ∃ (i : Nat) (ao : Option Addr) (co : Nat), kv = .int .i64 i ∧ ov = .slice ao i co ∧ gg + i = es.length ∧ RowH 1 78 ExprE (Own0 w.heap.size (.slice ao i co)) w.heap.size (.slice ao i co) (es.take i) wr ∧ Below w.heap.size w wr)
  case atStart => exact ⟨0, _, _, rfl, rfl, by omega, R0.out, B0.out⟩
  case round =>
    obtain ⟨i, ao, co, rfl, rfl, hg, hR, hB⟩ := hrel
    have HR : Hid (RowH 1 78 ExprE (Own0 w.heap.size (.slice ao i co)) w.heap.size (.slice ao i co) (es.take i) wr) := hR
    have HB : Hid (Below w.heap.size w wr) := hB
    clear hR hB R0 B0
    rename World => wo
    by_cases hk : i < es.length
    · have dk : decide ((i : Int) < (es.length : Int)) = true := decide_eq_true (by omega)
      have ik : (i : Int) < (es.length : Int) := by omega
      obtain ⟨b, off, vs, rfl, _, hc, nv, rfl, hNr⟩ := RowC.at HS.out hk
      obtain ⟨an, cn, rfl⟩ := hNr.slice
      have HNr : Hid (NRow w (.slice an es[i].length cn) es[i]) := hNr
      have n0w : w.cell? ⟨b, off + i, none⟩ = some (.slice an es[i].length cn) := by have h := hc 0 (by simp); rw [Nat.mul_one] at h; exact h
      have hsz := HB.out.size
      have hel := HN.out _ (List.getElem_mem hk)
      have HEl : Hid (∀ x ∈ es[i], x.kids.length ≤ 1048576) := hel.2
      have hel1 := hel.1
      have C0 : Hid (CpI wo es[i] 0 (.slice none 0 0) (wo.alloc (.cells #[.slice none 0 0] 78))) := ⟨heap_alloc_new wo _, RowH.nil, (Below.refl _ _).alloc (Nat.le_refl _) _⟩
      obtain ⟨f1, rfl⟩ : ∃ f, gk = f + 1 := ⟨gk - 1, by omega⟩
      clear hc hNr hel
      go_wp2
      generalize wo.alloc (.cells #[.slice none 0 0] 78) = w1 at *
      go_loopg [6] es[i].length (fun gg kv wr => ∃ (k : Nat) (ae : Option Addr) (ce : Nat), kv = .int .i64 k ∧ gg + k = es[i].length ∧ CpI wo es[i] k (.slice ae k ce) wr)
      case atStart => exact ⟨0, _, _, rfl, by omega, C0.out⟩
      case round =>
        obtain ⟨k, ae, ce, rfl, hg2, hC⟩ := hrel
        have HC : Hid (CpI wo es[i] k (.slice ae k ce) wr) := hC
        have HBr : Hid (Below w.heap.size w wr) := HB.out.trans (hC.bel.mono hsz)
        have n0 := cell_keep n0w HBr.out
        clear hC C0
        by_cases hkk : k < es[i].length
        · have dkk : decide ((k : Int) < (es[i].length : Int)) = true := decide_eq_true (by omega)
          have ikk : (k : Int) < (es[i].length : Int) := by omega
          obtain ⟨nb, no, kv, rfl, m0, m1, m2, m3, hZ⟩ := (HNr.out.below HBr.out).at hkk
          obtain ⟨ka, kc, rfl⟩ := hZ.slice
          have hkl := HEl.out _ (List.getElem_mem hkk)
          have hso : wo.heap.size < wr.heap.size := (Array.getElem?_eq_some_iff.1 HC.out.box).1
          -- the node's box, and a row for its kids
          have XB : Hid (((wr.alloc (.cells #[.int .i64 es[i][k].op, .int .i64 es[i][k].num, .string es[i][k].name, .slice ka es[i][k].kids.length kc] 116)).alloc (.cells #[] 3)).heap[wr.heap.size]? = some (.cells #[.int .i64 es[i][k].op, .int .i64 es[i][k].num, .string es[i][k].name, .slice ka es[i][k].kids.length kc] 116 (0, 0))) := (Below.heap_alloc _ _ _ (by simp)).trans (heap_alloc_new wr _)
          have XE : Hid (((wr.alloc (.cells #[.int .i64 es[i][k].op, .int .i64 es[i][k].num, .string es[i][k].name, .slice ka es[i][k].kids.length kc] 116)).alloc (.cells #[] 3)).heap[wo.heap.size]? = some (.cells #[.slice ae k ce] 78 (0, 0))) := (Below.heap_alloc _ _ _ (by simp; omega)).trans ((Below.heap_alloc _ _ _ hso).trans HC.out.box)
          have BX : Hid (Below wr.heap.size wr ((wr.alloc (.cells #[.int .i64 es[i][k].op, .int .i64 es[i][k].num, .string es[i][k].name, .slice ka es[i][k].kids.length kc] 116)).alloc (.cells #[] 3))) := ((Below.refl wr.heap.size wr).alloc (Nat.le_refl _) _).alloc (by simp) _
          have KX : Hid (((wr.alloc (.cells #[.int .i64 es[i][k].op, .int .i64 es[i][k].num, .string es[i][k].name, .slice ka es[i][k].kids.length kc] 116)).alloc (.cells #[] 3)).ownsRow (wr.heap.size + 1) 3 1 (.slice (some ⟨wr.heap.size + 1, 0, none⟩) 0 0) 0 []) := by
            have h := World.ownsRow_made (wr.alloc (.cells #[.int .i64 es[i][k].op, .int .i64 es[i][k].num, .string es[i][k].name, .slice ka es[i][k].kids.length kc] 116)) (e := 3) (size := 1) (base := wr.heap.size + 1) #[] 0 (by simp) (Nat.zero_le _) (by simp)
            rwa [show (wr.alloc (.cells #[.int .i64 es[i][k].op, .int .i64 es[i][k].num, .string es[i][k].name, .slice ka es[i][k].kids.length kc] 116)).heap.size = wr.heap.size + 1 by simp] at h
          have ZX : Hid (IRow ((wr.alloc (.cells #[.int .i64 es[i][k].op, .int .i64 es[i][k].num, .string es[i][k].name, .slice ka es[i][k].kids.length kc] 116)).alloc (.cells #[] 3)) (.slice ka es[i][k].kids.length kc) es[i][k].kids) := hZ.below BX.out
          have x3 := run_cell (j := 3) XB.out rfl
          clear hZ
          go_wp2_with (first
            | (at_builtin; obtain ⟨R4, H4, E4, B4, hso4, hs4⟩ := cp_step (kv0 := .slice ka es[i][k].kids.length kc) es[i][k] HC.out hown3 hgr3; obtain ⟨cs4, ho4, hK4⟩ := RowH.add R4 (fun k hk => .inr hk); have hlk : (es[i].take k).length = k := (by rw [List.length_take]; omega); rw [hlk] at ho4 hK4; refine wpList_append_lies _ rfl _ _ 76 rfl (wo.heap.size + 1) 116 j0 _ 4 56 Tryz.underlying76 hj hj0 hj1 hj2 rfl (by decide) _ _ _ rfl ho4 ⟨w3.heap.size, 0, none⟩ 1 1 [.int .i64 es[i][k].op, .int .i64 es[i][k].num, .string es[i][k].name, .slice ka3 es[i][k].kids.length kc3] rfl rfl (by rw [hs4]; exact World.news_of_block (cs := #[.int .i64 es[i][k].op, .int .i64 es[i][k].num, .string es[i][k].name, .slice ka3 es[i][k].kids.length kc3]) (t := 116) (fr := (0, 0)) (heap_alloc_new _ _)) (four_nodeF _ _ _ _ _ _) (by omega) (by unfold maxLen; omega) (by omega) (Nat.le_trans hso4 B4.size) _ rfl ?_; intro gg5 cap5 w5 hown5 hgr5 hat5 hlt5; clear hs4 hlk; have E5 := xb_grown hgr5 E4 (fun e => by have h := (World.ownsRow.lt ho4 _ e).1; omega); have e5 := run_cell (j := 0) E5 rfl; have f5 := run_frozen (j := 0) E5)
            | (at_builtin; refine append_intsF rfl _ _ 74 rfl (wr.heap.size + 1) 3 z0 _ Tryz.underlying74 hz hzz0 hzz1 hzz2 rfl _ 0 [] rfl KX.out es[i][k].kids ka kc rfl ZX.out (by omega) (by simp <;> omega) ?_; intro kv3 w3 hown3 hgr3; obtain ⟨ka3, kc3, rfl⟩ : ∃ a c, kv3 = .slice a es[i][k].kids.length c := (by rw [Nat.zero_add] at hown3; rcases hown3.2 with ⟨rfl, h0⟩ | ⟨g, cp, cur, rfl, _⟩; exact ⟨none, 0, by rw [h0]⟩; exact ⟨_, cp, rfl⟩); have B3 := (Below.refl (wr.heap.size + 1) _).grown hgr3 (by simp <;> omega) (fun q hq => (World.ownsRow.lt KX.out q hq).1); have X3 := (B3.block _ (by omega)).trans XB.out; have y0 := run_cell (j := 0) X3 rfl; have y1 := run_cell (j := 1) X3 rfl; have y2 := run_cell (j := 2) X3 rfl; have y3 := run_cell (j := 3) X3 rfl; have f3 := run_frozen (j := 3) X3; have E3 := (B3.block _ (by omega)).trans XE.out; have e3 := run_cell (j := 0) E3 rfl))
          have R5 := hK4 gg5 cap5 w5 [.int .i64 es[i][k].op, .int .i64 es[i][k].num, .string es[i][k].name, .slice ka3 es[i][k].kids.length kc3] es[i][k] (Own0 (wo.heap.size + 1) (.slice (some ⟨gg5, 0, none⟩) (k + 1) cap5)) rfl H4 hown5 hgr5 (own_next hat5 rfl)
          have hg5 : wo.heap.size + 1 ≤ gg5 := (World.ownsRow.lt hown5 gg5 rfl).1
          rw [show es[i].take k ++ [es[i][k]] = es[i].take (k + 1) by rw [List.take_succ_eq_append_getElem hkk]] at R5
          have C5 : Hid (CpI wo es[i] (k + 1) (.slice (some ⟨gg5, 0, none⟩) (k + 1) cap5) (w5.setCell ⟨wo.heap.size, 0, none⟩ (.slice (some ⟨gg5, 0, none⟩) (k + 1) cap5))) := by
            refine ⟨(setCell_self _ E5).trans rfl, RowH.go R5 (FrA.set _ (.inl (Nat.lt_succ_self _))) (fun _ _ h => h) (fun q hq => setCell_other _ (by cases hq; show gg5 ≠ wo.heap.size; omega)), ?_⟩
            exact ((HC.out.bel.trans (B4.mono HC.out.bel.size)).grown hgr5 (Nat.le_trans HC.out.bel.size B4.size) (fun q hq => by have h := (World.ownsRow.lt ho4 q hq).1; omega)).setCell (Nat.le_refl _) _
          have w1' : IntKind.i64.wrap ((k : Int) + 1) = ((k + 1 : Nat) : Int) := by rw [IntKind.wrap_i64]; omega
          obtain ⟨f2, rfl⟩ : ∃ f, gk = f + 1 := ⟨gk - 1, by omega⟩
          clear R5 hown5 hgr5 hat5 hlt5 E5 e5 f5 R4 H4 E4 B4 ho4 hK4 hown3 hgr3 B3 X3 E3 y0 y1 y2 y3 f3 e3 XB XE BX KX ZX x3 m0 m1 m2 m3
          generalize w5.setCell ⟨wo.heap.size, 0, none⟩ (.slice (some ⟨gg5, 0, none⟩) (k + 1) cap5) = w6 at *
          go_roundg f2
          case measure => omega
          case rel => exact ⟨k + 1, _, _, by go_num, by omega, C5.out⟩
        · have dkk : decide ((k : Int) < (es[i].length : Int)) = false := decide_eq_false (by omega)
          have e0 := run_cell (j := 0) HC.out.box rfl
          obtain rfl : k = es[i].length := by omega
          have hlk : es[i].take es[i].length = es[i] := List.take_of_length_le (Nat.le_refl _)
          have hal : Below wr.heap.size wr (wr.alloc (.cells #[.slice ae es[i].length ce] 78)) := (Below.refl _ _).alloc (Nat.le_refl _) _
          have R3 : RowH 1 78 ExprE (Own0 w.heap.size (.slice ao i co)) w.heap.size (.slice ao i co) (es.take i) (wr.alloc (.cells #[.slice ae es[i].length ce] 78)) := (HR.out.below HC.out.bel).below hal
          have hlt3 := own0_lt HR.out hsz
          have HF : Fresh (wo.heap.size + 1) wr (fun V => RowC 4 NodE V (.slice ae es[i].length ce) es[i]) := by
            have h := RowH.fresh HC.out.row
            rw [hlk] at h
            exact h
          obtain ⟨cs, ho3, hK⟩ := RowH.add R3 (fun k hk => .inr hk)
          have HH : Hid (Held (Own0 w.heap.size (.slice ao i co)) (wr.alloc (.cells #[.slice ae es[i].length ce] 78)) (fun V => ExprE V [.slice ae es[i].length ce] es[i])) := Held.of_fresh (Fresh.imp (HF.below hal) (fun V h => ⟨_, rfl, nRow_ofC h⟩)) (fun q hq => Nat.lt_succ_of_lt (hlt3 q hq))
          have hli : (es.take i).length = i := by rw [List.length_take]; omega
          rw [hli] at ho3 hK
          have HK : Hid (∀ (g cap : Nat) (w2 : World) (vs : List Value) (x : List NodeD) (A' : Nat → Prop), _) := hK
          have hs2 : w.heap.size ≤ wr.heap.size := HBr.out.size
          have HO3 : Hid _ := ho3
          have w1' : IntKind.i64.wrap ((i : Int) + 1) = ((i + 1 : Nat) : Int) := by rw [IntKind.wrap_i64]; omega
          clear hal R3 hlt3 HF ho3 hK hlk hli HC
          go_wp2_with (at_builtin; refine wpList_append_lies _ rfl _ _ 46 rfl w.heap.size 78 i0 _ 1 24 Tryz.underlying46 hi hz0 hz1 hz2 rfl (by decide) _ _ _ rfl HO3.out ⟨wr.heap.size, 0, none⟩ 1 1 [.slice ae es[i].length ce] rfl rfl (cell_one_new _ _ _) (one_sliceF _ _ _) (by omega) (by unfold maxLen; omega) (by omega) (by simp; omega) (wr.heap.size + 1) (by simp) ?_; intro gg cap w4 hown hgrow hat hlt)
          have R4 := HK.out gg cap w4 [.slice ae es[i].length ce] es[i] (Own0 w.heap.size (.slice (some ⟨gg, 0, none⟩) (i + 1) cap)) rfl HH.out hown hgrow (own_next hat (by simp))
          rw [show es.take i ++ [es[i]] = es.take (i + 1) by rw [List.take_succ_eq_append_getElem hk]] at R4
          have HR4 : Hid _ := R4
          have B4 : Hid (Below w.heap.size w w4) := (HBr.out.alloc hs2 _).grown hgrow (by simp; omega) (fun k hk => (World.ownsRow.lt HO3.out k hk).1)
          clear R4 hown hgrow hat hlt HH HK HO3
          go_wp2
          go_roundg f1
          case measure => omega
          case rel => exact ⟨i + 1, _, _, by go_num, rfl, by omega, HR4.out, B4.out⟩
    · have dk : decide ((i : Int) < (es.length : Int)) = false := decide_eq_false (by omega)
      have HF : Hid (Fresh w.heap.size wo (fun V => RowC 1 ExprE V (.slice ao i co) es)) := by
        have h := RowH.fresh HR.out
        rw [List.take_of_length_le (by omega)] at h
        exact h
      clear HR
      go_wp2
      go_ret
      exact ⟨_, rfl, HF.out, HB.out⟩

end Go.Proofs.YtllfmobjkppnaaaGreat

namespace Go.Proofs.YtllfmobjkppnaaaGreat
open Go.RowKit
set_option linter.unusedVariables false

structure ShF (ns : List SNodeD) (i : Nat) (x : SNodeD) : Prop where
  kind : 1 ≤ x.kind ∧ x.kind ≤ 9
  leaf : x.kind ≤ 4 → x.kids = []
  row : x.kind = 5 → x.kids.length ≤ 8
  alt : x.kind = 6 → 1 ≤ x.kids.length ∧ x.kids.length ≤ 8
  one : 6 < x.kind → x.kids.length = 1
  kids : ∀ k ∈ x.kids, 0 ≤ k ∧ k ≤ (i : Int) - 1 ∧ (x.kind = 5 → ¬ (nodeS ns k).kind = 5) ∧ (x.kind = 6 → (nodeS ns k).kind = 5) ∧ (6 < x.kind → (nodeS ns k).kind = 6)
theorem shF_of {ns : List SNodeD} {i : Nat} {x : SNodeD} (h : shapeS ns i x = true) : ShF ns i x := by
  unfold shapeS at h
  split at h
  · cases h
  rename_i h1
  split at h
  · rename_i h4
    have h0 : x.kids.length = 0 := by simpa using h
    have e := List.length_eq_zero_iff.1 h0
    exact ⟨by omega, fun _ => e, fun _ => by omega, fun _ => by omega, fun _ => by omega, fun k hk => by rw [e] at hk; cases hk⟩
  · rename_i h4
    split at h
    · cases h
    rename_i h5
    obtain ⟨_, h5⟩ := not_or.1 h5
    obtain ⟨_, h5⟩ := not_or.1 h5
    obtain ⟨_, h5⟩ := not_or.1 h5
    refine ⟨by omega, fun _ => by omega, fun _ => by omega, fun _ => by omega, fun _ => by omega, fun k hk => ?_⟩
    have := List.all_eq_true.1 h k hk
    simp only [Bool.and_eq_true, decide_eq_true_eq, Bool.not_eq_true', decide_eq_false_iff_not] at this
    obtain ⟨⟨a, b⟩, c⟩ := this
    exact ⟨a, b, fun e q => c (.inl ⟨e, q⟩), fun e => Decidable.byContradiction fun q => c (.inr (.inl ⟨e, q⟩)), fun e => Decidable.byContradiction fun q => c (.inr (.inr ⟨e, q⟩))⟩
def Shaped (ns : List SNodeD) : Prop := ∀ i (h : i < ns.length), ShF ns i ns[i]
theorem nodeS_is {ns : List SNodeD} {i : Nat} (h : i < ns.length) : nodeS ns (i : Int) = ns[i] := by
  rw [nodeS, Int.toNat_natCast, List.getD_eq_getElem?_getD, List.getElem?_eq_getElem h]; rfl
/-- A kid of a node that is no leaf: its place. -/
theorem kid_lt {ns : List SNodeD} (hS : Shaped ns) {i : Nat} (hi : i < ns.length) {j : Nat} (hj : j < ns[i].kids.length) : ∃ z : Nat, ns[i].kids[j] = (z : Int) ∧ z < i ∧ ∃ hz : z < ns.length, (ns[i].kind = 5 → ¬ ns[z].kind = 5) ∧ (ns[i].kind = 6 → ns[z].kind = 5) ∧ (6 < ns[i].kind → ns[z].kind = 6) := by
  obtain ⟨a, b, c, d, e⟩ := (hS i hi).kids _ (List.getElem_mem hj)
  obtain ⟨z, hz⟩ : ∃ z : Nat, ns[i].kids[j] = (z : Int) := ⟨ns[i].kids[j].toNat, by omega⟩
  have hzl : z < ns.length := by omega
  rw [hz, nodeS_is hzl] at c d e
  exact ⟨z, hz, by omega, hzl, c, d, e⟩
theorem group_lt {ns : List SNodeD} (hS : Shaped ns) {z : Nat} (hz : z < ns.length) (h4 : ¬ ns[z].kind ≤ 4) (h5 : ¬ ns[z].kind = 5) : ∃ a : Nat, groupS ns (z : Int) = (a : Int) ∧ a ≤ z ∧ ∃ ha : a < ns.length, ns[a].kind = 6 := by
  rw [groupS, nodeS_is hz]
  by_cases h6 : ns[z].kind = 6
  · rw [if_pos h6]; exact ⟨z, rfl, Nat.le_refl _, hz, h6⟩
  · rw [if_neg h6]
    have h1 := (hS z hz).one (by omega)
    obtain ⟨a, e, hlt, ha, _, _, q⟩ := kid_lt hS hz (j := 0) (by omega)
    refine ⟨a, ?_, by omega, ha, q (by omega)⟩
    rw [List.getD_eq_getElem?_getD, List.getElem?_eq_getElem (by omega), Option.getD_some, e]
theorem kid_some {ns : List SNodeD} (hS : Shaped ns) {z : Nat} (hz : z < ns.length) (h4 : ¬ ns[z].kind ≤ 4) (h5 : ¬ ns[z].kind = 5) : ns[z].kind ≠ 6 → 0 < ns[z].kids.length := fun h6 => by
  have h1 := (hS z hz).one (by omega)
  omega
/-- Leaves within bounds. -/
def LeafsIn (ns : List SNodeD) : Prop := ∀ x ∈ ns, symTot (leafS x) ≤ 1048576 ∧ ∀ e ∈ x.args, NIn e
theorem knF_leaf (ns : List SNodeD) (rs : List SRuleD) (f : Nat) (k : Int) (ks : List Int) (kn : List ByteArray) (h : (nodeS ns k).kind ≤ 4) : knF ns rs (f + 1) true (k :: ks) kn = ((symB (leafS (nodeS ns k)) kn (parsS (nodeS ns k).text rs)).2 && knF ns rs f true ks (symB (leafS (nodeS ns k)) kn (parsS (nodeS ns k).text rs)).1) := by
  rw [knF, if_pos h]
theorem knF_group (ns : List SNodeD) (rs : List SRuleD) (f : Nat) (k : Int) (ks : List Int) (kn : List ByteArray) (h : ¬ (nodeS ns k).kind ≤ 4) : knF ns rs (f + 1) true (k :: ks) kn = (knF ns rs f false (nodeS ns (groupS ns k)).kids kn && knF ns rs f true ks kn) := by
  rw [knF, if_neg h]
theorem knF_alt (ns : List SNodeD) (rs : List SRuleD) (f : Nat) (k : Int) (ks : List Int) (kn : List ByteArray) : knF ns rs (f + 1) false (k :: ks) kn = (knF ns rs f true (nodeS ns k).kids kn && knF ns rs f false ks kn) := by
  rw [knF]
theorem knF_nil (ns : List SNodeD) (rs : List SRuleD) (f : Nat) (b : Bool) (kn : List ByteArray) : knF ns rs f b [] kn = true := by
  cases f <;> cases b <;> rfl

end Go.Proofs.YtllfmobjkppnaaaGreat

namespace Go.Proofs.YtllfmobjkppnaaaGreat
open Go.RowKit
set_option linter.unusedVariables false

/-- The blocks that turn. -/
def Mut (p : Nat) (gv qv : Value) : Nat → Prop := fun k => k = p ∨ gv.ownBlock = some k ∨ qv.ownBlock = some k
/-- The same, and those that its owner turns beside it. -/
def MutA (A : Nat → Prop) (p : Nat) (gv qv : Value) : Nat → Prop := fun k => A k ∨ Mut p gv qv k
/-- A group that waits: node, rule, names. -/
def GrpE (w : World) (vs : List Value) (q : Int × Nat × List ByteArray) : Prop := ∃ kv : Value, vs = [.int .i64 q.1, .int .i64 (q.2.1 : Int), kv] ∧ SRow w kv q.2.2
structure MkI (A : Nat → Prop) (ns : List SNodeD) (rs : List SRuleD) (an ar : Option Addr) (cn cr B p : Nat) (W0 : World) (m : MkD) (gv qv : Value) (w : World) : Prop where
  box : w.heap[p]? = some (.cells #[.slice an ns.length cn, .slice ar rs.length cr, gv, qv, .int .i64 (m.count : Int)] 128 (0, 0))
  rul : RowH 3 42 RuleE (MutA A p gv qv) B gv m.rules w
  que : RowH 3 133 GrpE (MutA A p gv qv) B qv m.queue w
  bel : Below B W0 w
  pB : B ≤ p
section
variable {A A' : Nat → Prop} {ns : List SNodeD} {rs : List SRuleD} {an ar : Option Addr} {cn cr B p : Nat} {W0 : World} {m : MkD} {gv qv gv' qv' : Value} {w w' w1 w2 : World}
theorem MkI.lt (h : MkI A ns rs an ar cn cr B p W0 m gv qv w) : B ≤ w.heap.size := Nat.le_of_lt (Nat.lt_of_le_of_lt h.pB (Array.getElem?_eq_some_iff.1 h.box).1)
theorem MkI.step (h : MkI A ns rs an ar cn cr B p W0 m gv qv w) (hb : Below w.heap.size w w') : MkI A ns rs an ar cn cr B p W0 m gv qv w' :=
  ⟨(hb.block _ (Array.getElem?_eq_some_iff.1 h.box).1).trans h.box, h.rul.below hb, h.que.below hb, h.bel.trans (hb.mono h.lt), h.pB⟩
theorem MkI.off (h : MkI A ns rs an ar cn cr B p W0 m gv qv w) {k : Nat} {c : Array Value} {t : TypeId} {fr : Nat × Nat} (hk : w.heap[k]? = some (.cells c t fr)) (h1 : t ≠ 128) (h2 : t ≠ 42) (h3 : t ≠ 133) : ¬ Mut p gv qv k := by
  rintro (rfl | h4 | h4)
  · rw [h.box] at hk
    cases hk
    exact h1 rfl
  · obtain ⟨cur, hc⟩ := RowO.type h.rul h4
    rw [hc] at hk
    cases hk
    exact h2 rfl
  · obtain ⟨cur, hc⟩ := RowO.type h.que h4
    rw [hc] at hk
    cases hk
    exact h3 rfl
theorem MkI.ge (h : MkI A ns rs an ar cn cr B p W0 m gv qv w) : ∀ k, Mut p gv qv k → B ≤ k ∧ k < w.heap.size := by
  rintro k (rfl | h4 | h4)
  · exact ⟨h.pB, (Array.getElem?_eq_some_iff.1 h.box).1⟩
  · exact RowO.lt h.rul k h4
  · exact RowO.lt h.que k h4
theorem MkI.offs (h : MkI A ns rs an ar cn cr B p W0 m gv qv w) : (∀ k, gv.ownBlock = some k → k ≠ p ∧ qv.ownBlock ≠ some k) ∧ (∀ k, qv.ownBlock = some k → k ≠ p) := by
  refine ⟨fun k hk => ⟨fun e => ?_, fun e => ?_⟩, fun k hk e => ?_⟩
  · obtain ⟨cur, hc⟩ := RowO.type h.rul hk
    rw [e, h.box] at hc
    cases hc
  · obtain ⟨cur, hc⟩ := RowO.type h.rul hk
    obtain ⟨cur', hc'⟩ := RowO.type h.que e
    rw [hc] at hc'
    cases hc'
  · obtain ⟨cur, hc⟩ := RowO.type h.que hk
    rw [e, h.box] at hc
    cases hc
/-- The count turned. -/
theorem MkI.count (h : MkI A ns rs an ar cn cr B p W0 m gv qv w) (n : Nat) : MkI A ns rs an ar cn cr B p W0 { m with count := n } gv qv (w.setCell ⟨p, 4, none⟩ (.int .i64 (n : Int))) ∧ FrA (Mut p gv qv) w (w.setCell ⟨p, 4, none⟩ (.int .i64 (n : Int))) := by
  have hf : FrA (Mut p gv qv) w (w.setCell ⟨p, 4, none⟩ (.int .i64 (n : Int))) := FrA.set _ (.inl rfl)
  exact ⟨⟨(setCell_self _ h.box).trans rfl, h.rul.go (hf.wide (fun k _ a => .inr a)) (fun _ _ a => a) (fun k hk => setCell_other _ (h.offs.1 k hk).1), h.que.go (hf.wide (fun k _ a => .inr a)) (fun _ _ a => a) (fun k hk => setCell_other _ (h.offs.2 k hk)), h.bel.setCell h.pB _, h.pB⟩, hf⟩
/-- A rule more, appended; then the box turned. -/
theorem MkI.rule (h : MkI A ns rs an ar cn cr B p W0 m gv qv w) : ∃ cs, w.ownsRow B 42 3 gv m.rules.length cs ∧ ∀ (g cap : Nat) (w2 : World) (vs : List Value) (r : RuleD), vs.length = 3 → Held (MutA A p gv qv) w (fun V => RuleE V vs r) → w2.ownsRow B 42 3 (.slice (some ⟨g, 0, none⟩) (m.rules.length + 1) cap) (m.rules.length + 1) (cs ++ vs) → w.grownBy w2 gv.ownBlock → (gv.ownBlock = some g ∨ g = w.heap.size) →
    w2.heap[p]? = some (.cells #[.slice an ns.length cn, .slice ar rs.length cr, gv, qv, .int .i64 (m.count : Int)] 128 (0, 0)) ∧
    MkI A ns rs an ar cn cr B p W0 { m with rules := m.rules ++ [r] } (.slice (some ⟨g, 0, none⟩) (m.rules.length + 1) cap) qv (w2.setCell ⟨p, 2, none⟩ (.slice (some ⟨g, 0, none⟩) (m.rules.length + 1) cap)) ∧
    FrA (Mut p gv qv) w (w2.setCell ⟨p, 2, none⟩ (.slice (some ⟨g, 0, none⟩) (m.rules.length + 1) cap)) ∧ (∀ k, k < w.heap.size → Mut p (.slice (some ⟨g, 0, none⟩) (m.rules.length + 1) cap) qv k → Mut p gv qv k) := by
  obtain ⟨cs, ho, hK⟩ := RowH.add h.rul (fun k hk => .inr (.inr (.inl hk)))
  refine ⟨cs, ho, fun g cap w2 vs r hl hx ho2 hg hat => ?_⟩
  have lk : ∀ k, k < w.heap.size → Mut p (.slice (some ⟨g, 0, none⟩) (m.rules.length + 1) cap) qv k → Mut p gv qv k := fun k hk hm => by
    rcases hm with hm | hm | hm
    · exact .inl hm
    · have e : g = k := Option.some.inj hm
      rcases hat with h2 | h2
      · exact .inr (.inl (by rw [← e]; exact h2))
      · omega
    · exact .inr (.inr hm)
  have hpl := (Array.getElem?_eq_some_iff.1 h.box).1
  have hne : gv.ownBlock ≠ some p := fun e => (h.offs.1 p e).1 rfl
  have hb2 : w2.heap[p]? = some (.cells #[.slice an ns.length cn, .slice ar rs.length cr, gv, qv, .int .i64 (m.count : Int)] 128 (0, 0)) := (hg.block p hpl (fun e => hne e.symm)).trans h.box
  have R := hK g cap w2 vs r (MutA A p (.slice (some ⟨g, 0, none⟩) (m.rules.length + 1) cap) qv) hl hx ho2 hg (fun k hk a => a.imp id (lk k hk))
  have f1 : FrA (Mut p gv qv) w w2 := FrA.grown hg (fun k hk => .inr (.inl hk))
  have hgp : g ≠ p := fun e => by
    rcases hat with h2 | h2
    · exact hne (by rw [h2, e])
    · omega
  have f2 : FrA (Mut p (.slice (some ⟨g, 0, none⟩) (m.rules.length + 1) cap) qv) w2 (w2.setCell ⟨p, 2, none⟩ (.slice (some ⟨g, 0, none⟩) (m.rules.length + 1) cap)) := FrA.set _ (.inl rfl)
  refine ⟨hb2, ⟨(setCell_self _ hb2).trans rfl, R.go (f2.wide (fun k _ a => .inr a)) (fun _ _ a => a) (fun k hk => setCell_other _ (by cases hk; exact hgp)), ?_, (h.bel.grown hg h.lt (fun k hk => (RowO.lt h.rul k hk).1)).setCell h.pB _, h.pB⟩, f1.trans f2 lk, lk⟩
  refine (h.que.go (f1.wide (fun k _ a => .inr a)) (fun k hk a => a.imp id (lk k hk)) (fun k hk => hg.block k (RowO.lt h.que k hk).2 (fun e => (h.offs.1 k e.symm).2 hk))).go (f2.wide (fun k _ a => .inr a)) (fun _ _ a => a) (fun k hk => setCell_other _ (h.offs.2 k hk))
/-- A group more, appended; then the box turned. -/
theorem MkI.group (h : MkI A ns rs an ar cn cr B p W0 m gv qv w) : ∃ cs, w.ownsRow B 133 3 qv m.queue.length cs ∧ ∀ (g cap : Nat) (w2 : World) (vs : List Value) (q : Int × Nat × List ByteArray), vs.length = 3 → Held (MutA A p gv qv) w (fun V => GrpE V vs q) → w2.ownsRow B 133 3 (.slice (some ⟨g, 0, none⟩) (m.queue.length + 1) cap) (m.queue.length + 1) (cs ++ vs) → w.grownBy w2 qv.ownBlock → (qv.ownBlock = some g ∨ g = w.heap.size) →
    w2.heap[p]? = some (.cells #[.slice an ns.length cn, .slice ar rs.length cr, gv, qv, .int .i64 (m.count : Int)] 128 (0, 0)) ∧
    MkI A ns rs an ar cn cr B p W0 { m with queue := m.queue ++ [q] } gv (.slice (some ⟨g, 0, none⟩) (m.queue.length + 1) cap) (w2.setCell ⟨p, 3, none⟩ (.slice (some ⟨g, 0, none⟩) (m.queue.length + 1) cap)) ∧
    FrA (Mut p gv qv) w (w2.setCell ⟨p, 3, none⟩ (.slice (some ⟨g, 0, none⟩) (m.queue.length + 1) cap)) ∧ (∀ k, k < w.heap.size → Mut p gv (.slice (some ⟨g, 0, none⟩) (m.queue.length + 1) cap) k → Mut p gv qv k) := by
  obtain ⟨cs, ho, hK⟩ := RowH.add h.que (fun k hk => .inr (.inr (.inr hk)))
  refine ⟨cs, ho, fun g cap w2 vs r hl hx ho2 hg hat => ?_⟩
  have lk : ∀ k, k < w.heap.size → Mut p gv (.slice (some ⟨g, 0, none⟩) (m.queue.length + 1) cap) k → Mut p gv qv k := fun k hk hm => by
    rcases hm with hm | hm | hm
    · exact .inl hm
    · exact .inr (.inl hm)
    · have e : g = k := Option.some.inj hm
      rcases hat with h2 | h2
      · exact .inr (.inr (by rw [← e]; exact h2))
      · omega
  have hpl := (Array.getElem?_eq_some_iff.1 h.box).1
  have hne : qv.ownBlock ≠ some p := fun e => h.offs.2 p e rfl
  have hb2 : w2.heap[p]? = some (.cells #[.slice an ns.length cn, .slice ar rs.length cr, gv, qv, .int .i64 (m.count : Int)] 128 (0, 0)) := (hg.block p hpl (fun e => hne e.symm)).trans h.box
  have R := hK g cap w2 vs r (MutA A p gv (.slice (some ⟨g, 0, none⟩) (m.queue.length + 1) cap)) hl hx ho2 hg (fun k hk a => a.imp id (lk k hk))
  have f1 : FrA (Mut p gv qv) w w2 := FrA.grown hg (fun k hk => .inr (.inr hk))
  have hgp : g ≠ p := fun e => by
    rcases hat with h2 | h2
    · exact hne (by rw [h2, e])
    · omega
  have f2 : FrA (Mut p gv (.slice (some ⟨g, 0, none⟩) (m.queue.length + 1) cap)) w2 (w2.setCell ⟨p, 3, none⟩ (.slice (some ⟨g, 0, none⟩) (m.queue.length + 1) cap)) := FrA.set _ (.inl rfl)
  refine ⟨hb2, ⟨(setCell_self _ hb2).trans rfl, ?_, R.go (f2.wide (fun k _ a => .inr a)) (fun _ _ a => a) (fun k hk => setCell_other _ (by cases hk; exact hgp)), (h.bel.grown hg h.lt (fun k hk => (RowO.lt h.que k hk).1)).setCell h.pB _, h.pB⟩, f1.trans f2 lk, lk⟩
  refine (h.rul.go (f1.wide (fun k _ a => .inr a)) (fun k hk a => a.imp id (lk k hk)) (fun k hk => hg.block k (RowO.lt h.rul k hk).2 (fun e => (h.offs.1 k hk).2 e.symm))).go (f2.wide (fun k _ a => .inr a)) (fun _ _ a => a) (fun k hk => setCell_other _ (h.offs.1 k hk).1)
/-- Other blocks that it hangs not on. -/
theorem MkI.away (h : MkI A ns rs an ar cn cr B p W0 m gv qv w) (hA : ∀ k, k < w.heap.size → A' k → MutA A p gv qv k) : MkI A' ns rs an ar cn cr B p W0 m gv qv w :=
  ⟨h.box, h.rul.go (FrA.refl _ _) (fun k hk a => a.elim (hA k hk) .inr) (fun _ _ => rfl), h.que.go (FrA.refl _ _) (fun k hk a => a.elim (hA k hk) .inr) (fun _ _ => rfl), h.bel, h.pB⟩
/-- A step that turns none but blocks of A. -/
theorem MkI.other {C : Nat → Prop} (h : MkI A ns rs an ar cn cr B p W0 m gv qv w) (hf : FrA C w w') (hC : ∀ k, C k → A k) (hN : ∀ k, C k → ¬ Mut p gv qv k) (hb : Below B W0 w') (hA : ∀ k, k < w.heap.size → A' k → A k) : MkI A' ns rs an ar cn cr B p W0 m gv qv w' :=
  ⟨(hf.block _ (Array.getElem?_eq_some_iff.1 h.box).1 (fun a => hN _ a (.inl rfl))).trans h.box, h.rul.go (hf.wide (fun k _ a => .inl (hC k a))) (fun k hk a => a.imp (hA k hk) id) (fun k hk => hf.block k (RowO.lt h.rul k hk).2 (fun a => hN _ a (.inr (.inl hk)))), h.que.go (hf.wide (fun k _ a => .inl (hC k a))) (fun k hk a => a.imp (hA k hk) id) (fun k hk => hf.block k (RowO.lt h.que k hk).2 (fun a => hN _ a (.inr (.inr hk)))), hb, h.pB⟩
theorem sRow_held {v : Value} {ss : List ByteArray} (h : SRow W0 v ss) (hb : Below W0.heap.size W0 w) (hA : ∀ k, A k → W0.heap.size ≤ k) : Held A w (fun V => SRow V v ss) := fun V h1 h2 => by
  obtain ⟨a, cap, rfl, hcap, hh⟩ := h
  refine ⟨a, cap, rfl, hcap, fun h0 => ?_⟩
  obtain ⟨b, off, rfl, hlt, hc⟩ := hh h0
  have hbs := hb.size
  refine ⟨b, off, rfl, by omega, fun i hi => ?_⟩
  have e : V.heap[b]? = W0.heap[b]? := (h2 b (by omega) (fun ha => by have := hA b ha; omega)).trans (hb.block b hlt)
  exact (World.cell?_of_block e).trans (hc i hi)
end

end Go.Proofs.YtllfmobjkppnaaaGreat

namespace Go.Proofs.YtllfmobjkppnaaaGreat
open Go.RowKit
set_option linter.unusedVariables false

/-- The blocks that the row's syms do not hang on. -/
def AR (b : Nat) (ov : Value) (p : Nat) (gv qv : Value) : Nat → Prop := fun k => k < b ∨ ov.ownBlock = some k ∨ Mut p gv qv k
def AO (A : Nat → Prop) (ov : Value) : Nat → Prop := fun k => A k ∨ ov.ownBlock = some k
structure RwI (A : Nat → Prop) (ns : List SNodeD) (rs : List SRuleD) (an ar : Option Addr) (cn cr B p : Nat) (W0 w : World) (gv0 qv0 : Value) (xs : Array Value) (m : MkD) (gv qv ov u : Value) (outl : List SymD) (kn : List ByteArray) (wr : World) : Prop where
  mki : MkI (AO A ov) ns rs an ar cn cr B p W0 m gv qv wr
  out : RowH 4 48 SymE (AR w.heap.size ov p gv qv) w.heap.size ov outl wr
  kno : Held (MutA (AO A ov) p gv qv) wr (fun V => SRow V u kn)
  xb : wr.heap[w.heap.size + 1]? = some (.cells xs 121 (0, 0))
  fr : FrA (Mut p gv0 qv0) w wr
  lk : ∀ k, k < w.heap.size → Mut p gv qv k → Mut p gv0 qv0 k
section
variable {A : Nat → Prop} {ns : List SNodeD} {rs : List SRuleD} {an ar : Option Addr} {cn cr B p : Nat} {W0 w : World} {gv0 qv0 : Value} {xs : Array Value} {m m' : MkD} {gv qv ov u gv' qv' ov' u' : Value} {outl : List SymD} {kn kn' : List ByteArray} {wr wr' : World}
theorem RwI.step (h : RwI A ns rs an ar cn cr B p W0 w gv0 qv0 xs m gv qv ov u outl kn wr) (hb : Below wr.heap.size wr wr') : RwI A ns rs an ar cn cr B p W0 w gv0 qv0 xs m gv qv ov u outl kn wr' :=
  ⟨h.mki.step hb, h.out.below hb, h.kno.fr (FrA.below hb), (hb.block _ (Array.getElem?_eq_some_iff.1 h.xb).1).trans h.xb, h.fr.trans (A' := Mut p gv0 qv0) (FrA.below hb) (fun _ _ a => a), h.lk⟩
theorem RwI.off (h : RwI A ns rs an ar cn cr B p W0 w gv0 qv0 xs m gv qv ov u outl kn wr) : (∀ k, ov.ownBlock = some k → ¬ Mut p gv qv k) ∧ ¬ Mut p gv qv (w.heap.size + 1) ∧ ov.ownBlock ≠ some (w.heap.size + 1) := by
  refine ⟨fun k hk => ?_, h.mki.off h.xb (by decide) (by decide) (by decide), fun e => ?_⟩
  · obtain ⟨cur, hc⟩ := RowO.type h.out hk
    exact h.mki.off hc (by decide) (by decide) (by decide)
  · obtain ⟨cur, hc⟩ := RowO.type h.out e
    rw [h.xb] at hc
    cases hc
theorem RwI.ar_lt (h : RwI A ns rs an ar cn cr B p W0 w gv0 qv0 xs m gv qv ov u outl kn wr) : ∀ k, AR w.heap.size ov p gv qv k → k < wr.heap.size := by
  rintro k (hk | hk | hk)
  · exact Nat.lt_of_lt_of_le hk h.fr.size
  · exact (RowO.lt h.out k hk).2
  · exact (h.mki.ge k hk).2
theorem RwI.mut_lt (h : RwI A ns rs an ar cn cr B p W0 w gv0 qv0 xs m gv qv ov u outl kn wr) (hA : ∀ k, A k → k < w.heap.size) : ∀ k, MutA (AO A ov) p gv qv k → k < wr.heap.size := by
  rintro k ((hk | hk) | hk)
  · exact Nat.lt_of_lt_of_le (hA k hk) h.fr.size
  · exact (RowO.lt h.out k hk).2
  · exact (h.mki.ge k hk).2
/-- Other names are known. -/
theorem RwI.known (h : RwI A ns rs an ar cn cr B p W0 w gv0 qv0 xs m gv qv ov u outl kn wr) (hk : Held (MutA (AO A ov) p gv qv) wr (fun V => SRow V u' kn')) : RwI A ns rs an ar cn cr B p W0 w gv0 qv0 xs m gv qv ov u' outl kn' wr := ⟨h.mki, h.out, hk, h.xb, h.fr, h.lk⟩
/-- The grammar in the making has turned. -/
theorem RwI.turn (h : RwI A ns rs an ar cn cr B p W0 w gv0 qv0 xs m gv qv ov u outl kn wr) (hM : MkI (AO A ov) ns rs an ar cn cr B p W0 m' gv' qv' wr') (hf : FrA (Mut p gv qv) wr wr') (lk : ∀ k, k < wr.heap.size → Mut p gv' qv' k → Mut p gv qv k) : RwI A ns rs an ar cn cr B p W0 w gv0 qv0 xs m' gv' qv' ov u outl kn wr' := by
  have o := h.off
  have ho : ∀ k, ov.ownBlock = some k → wr'.heap[k]? = wr.heap[k]? := fun k hk => hf.block k (RowO.lt h.out k hk).2 (o.1 k hk)
  refine ⟨hM, RowH.go h.out (hf.wide (fun k _ hk => .inr (.inr hk))) (fun k hk ha => ?_) ho, h.kno.go (hf.wide (fun k _ a => .inr a)) (fun k hk a => a.imp id (lk k hk)), (hf.block _ (Array.getElem?_eq_some_iff.1 h.xb).1 o.2.1).trans h.xb, h.fr.trans hf (fun k hk ha => h.lk k hk ha), fun k hk ha => h.lk k hk (lk k (Nat.lt_of_lt_of_le hk h.fr.size) ha)⟩
  rcases ha with ha | ha | ha
  · exact .inl ha
  · exact .inr (.inl ha)
  · exact .inr (.inr (lk k hk ha))
/-- A sym more, appended. -/
theorem RwI.sym (h : RwI A ns rs an ar cn cr B p W0 w gv0 qv0 xs m gv qv ov u outl kn wr) (hBw : B ≤ w.heap.size) : ∃ cs, wr.ownsRow w.heap.size 48 4 ov outl.length cs ∧ ∀ (g cap : Nat) (w2 : World) (vs : List Value) (s : SymD), vs.length = 4 → Held (AR w.heap.size ov p gv qv) wr (fun V => SymE V vs s) → w2.ownsRow w.heap.size 48 4 (.slice (some ⟨g, 0, none⟩) (outl.length + 1) cap) (outl.length + 1) (cs ++ vs) → wr.grownBy w2 ov.ownBlock → (ov.ownBlock = some g ∨ g = wr.heap.size) →
    RwI A ns rs an ar cn cr B p W0 w gv0 qv0 xs m gv qv (.slice (some ⟨g, 0, none⟩) (outl.length + 1) cap) u (outl ++ [s]) kn w2 := by
  obtain ⟨cs, ho, hK⟩ := RowH.add h.out (fun k hk => .inr (.inl hk))
  refine ⟨cs, ho, fun g cap w2 vs s hl hx ho2 hg hat => ?_⟩
  have lk1 : ∀ k, k < wr.heap.size → (Value.slice (some ⟨g, 0, none⟩) (outl.length + 1) cap).ownBlock = some k → ov.ownBlock = some k := fun k hk hm => by
    have e : g = k := Option.some.inj hm
    rcases hat with h2 | h2
    · rw [← e]; exact h2
    · omega
  have lk : ∀ k, k < wr.heap.size → AR w.heap.size (.slice (some ⟨g, 0, none⟩) (outl.length + 1) cap) p gv qv k → AR w.heap.size ov p gv qv k := fun k hk hm => by
    rcases hm with hm | hm | hm
    · exact .inl hm
    · exact .inr (.inl (lk1 k hk hm))
    · exact .inr (.inr hm)
  have o := h.off
  have f1 : FrA (fun k => ov.ownBlock = some k) wr w2 := FrA.grown hg (fun k hk => hk)
  have hge : ∀ k, ov.ownBlock = some k → w.heap.size ≤ k := fun k hk => (RowO.lt h.out k hk).1
  have hR := hK g cap w2 vs s (AR w.heap.size (.slice (some ⟨g, 0, none⟩) (outl.length + 1) cap) p gv qv) hl hx ho2 hg lk
  have bel : Below B W0 w2 := h.mki.bel.grown hg h.mki.lt (fun k hk => Nat.le_trans hBw (hge k hk))
  exact ⟨h.mki.other f1 (fun k hk => .inr hk) o.1 bel (fun k hk a => a.imp id (lk1 k hk)), hR, h.kno.go (f1.wide (fun k _ a => .inl (.inr a))) (fun k hk a => a.imp (fun a => a.imp id (lk1 k hk)) id), (f1.block _ (Array.getElem?_eq_some_iff.1 h.xb).1 o.2.2).trans h.xb, h.fr.trans (A' := fun k => ov.ownBlock = some k) f1 (fun k hk ha => absurd (hge k ha) (by omega)), h.lk⟩
/-- Behind a leaf's box, its args copied, and the sym laid out for the append. -/
theorem RwI.leaf {W3 w4 w6 : World} {o6 : Value} (x : SymD) (l0 l1 l2 l3 : Value) (h : RwI A ns rs an ar cn cr B p W0 w gv0 qv0 xs m gv qv ov u outl kn W3) (hb4 : Below W3.heap.size W3 w4) (hb6 : Below (w4.alloc (.cells #[l0, l1, l2, l3] 48)).heap.size (w4.alloc (.cells #[l0, l1, l2, l3] 48)) w6) (hF : Fresh (w4.alloc (.cells #[l0, l1, l2, l3] 48)).heap.size w6 (fun V => RowC 1 ExprE V o6 x.args)) :
    RwI A ns rs an ar cn cr B p W0 w gv0 qv0 xs m gv qv ov u outl kn ((w6.setCell ⟨w4.heap.size, 2, none⟩ o6).alloc (.cells #[.int .i64 x.kind, .string x.text, o6, .string x.bind] 48)) ∧
    Held (AR w.heap.size ov p gv qv) ((w6.setCell ⟨w4.heap.size, 2, none⟩ o6).alloc (.cells #[.int .i64 x.kind, .string x.text, o6, .string x.bind] 48)) (fun V => SymE V [.int .i64 x.kind, .string x.text, o6, .string x.bind] x) ∧
    Below W3.heap.size W3 ((w6.setCell ⟨w4.heap.size, 2, none⟩ o6).alloc (.cells #[.int .i64 x.kind, .string x.text, o6, .string x.bind] 48)) ∧ (w6.setCell ⟨w4.heap.size, 2, none⟩ o6).heap.size = w6.heap.size := by
  have hs5 : w4.heap.size < (w4.alloc (.cells #[l0, l1, l2, l3] 48)).heap.size := by simp
  have B5 : Below W3.heap.size W3 (w4.alloc (.cells #[l0, l1, l2, l3] 48)) := hb4.alloc hb4.size _
  have B6 : Below W3.heap.size W3 w6 := B5.trans (hb6.mono B5.size)
  have B7 : Below W3.heap.size W3 ((w6.setCell ⟨w4.heap.size, 2, none⟩ o6).alloc (.cells #[.int .i64 x.kind, .string x.text, o6, .string x.bind] 48)) := (B6.setCell hb4.size o6).alloc (by simp [World.setCell]; exact B6.size) _
  have F7 := (hF.setLow hs5 2 o6).below ((Below.refl _ _).alloc (Nat.le_refl (w6.setCell ⟨w4.heap.size, 2, none⟩ o6).heap.size) (.cells #[.int .i64 x.kind, .string x.text, o6, .string x.bind] 48))
  exact ⟨h.step B7, Held.of_fresh (Fresh.imp F7 (fun V hv => ⟨o6, rfl, hv⟩)) (fun k hk => Nat.lt_of_lt_of_le (h.ar_lt k hk) B5.size), B7, by simp [World.setCell]⟩
/-- Behind the copy of the names, and the rule laid out for the append. -/
theorem RwI.params {w5 w6 : World} {pv : Value} (nm : ByteArray) (h : RwI A ns rs an ar cn cr B p W0 w gv0 qv0 xs m gv qv ov u outl kn w5) (hA : ∀ k, A k → k < w.heap.size) (hown : w6.ownsRow w5.heap.size 9 1 pv (0 + kn.length) ([] ++ sb kn)) (hgr : (World.drew (w5.alloc (.cells #[] 9))).grownBy w6 (some w5.heap.size)) :
    RwI A ns rs an ar cn cr B p W0 w gv0 qv0 xs m gv qv ov u outl kn (w6.alloc (.cells #[.string nm, pv, .slice none 0 0] 42)) ∧
    Held (MutA (AO A ov) p gv qv) (w6.alloc (.cells #[.string nm, pv, .slice none 0 0] 42)) (fun V => RuleE V [.string nm, pv, .slice none 0 0] ⟨nm, kn, []⟩) ∧
    Below w5.heap.size w5 (w6.alloc (.cells #[.string nm, pv, .slice none 0 0] 42)) := by
  have B5 : Below w5.heap.size w5 (World.drew (w5.alloc (.cells #[] 9))) := bel_drewS ((Below.refl _ _).alloc (Nat.le_refl _) _)
  have B6 : Below w5.heap.size w5 w6 := B5.grown hgr B5.size (fun k hk => by cases hk; exact Nat.le_refl _)
  have B7 : Below w5.heap.size w5 (w6.alloc (.cells #[.string nm, pv, .slice none 0 0] 42)) := B6.alloc B6.size _
  have F6 : Fresh w5.heap.size w6 (fun V => SRow V pv kn) := Fresh.imp (own_fresh hown) (fun V hv => by
    rw [Nat.zero_add, List.nil_append] at hv
    exact OwnB.row (B := w5.heap.size) hv)
  have F7 := F6.below ((Below.refl _ _).alloc (Nat.le_refl w6.heap.size) (.cells #[.string nm, pv, .slice none 0 0] 42))
  exact ⟨h.step B7, Held.of_fresh (Fresh.imp F7 (fun V hv => ⟨pv, .slice none 0 0, rfl, hv, none, 0, rfl, fun _ => rfl, fun h0 => absurd h0 (by simp)⟩)) (h.mut_lt hA), B7⟩
end

end Go.Proofs.YtllfmobjkppnaaaGreat

namespace Go.Proofs.YtllfmobjkppnaaaGreat
open Go.RowKit
set_option linter.unusedVariables false

/-- Beside A, the two rows of alternatives. -/
def AG (A : Nat → Prop) (av mv : Value) : Nat → Prop := fun k => A k ∨ av.ownBlock = some k ∨ mv.ownBlock = some k
structure GwI (A : Nat → Prop) (ns : List SNodeD) (rs : List SRuleD) (an ar : Option Addr) (cn cr B p : Nat) (W0 w : World) (gv0 qv0 : Value) (qs xs : Array Value) (m : MkD) (gv qv av mv kv : Value) (alts more : List (List SymD)) (kn : List ByteArray) (wr : World) : Prop where
  mki : MkI (AG A av mv) ns rs an ar cn cr B p W0 m gv qv wr
  als : RowH 1 45 AltE (MutA (AG A av mv) p gv qv) w.heap.size av alts wr
  mor : RowH 1 45 AltE (MutA (AG A av mv) p gv qv) w.heap.size mv more wr
  kno : Held (MutA (AG A av mv) p gv qv) wr (fun V => SRow V kv kn)
  qb : wr.heap[w.heap.size]? = some (.cells qs 133 (0, 0))
  xb : wr.heap[w.heap.size + 1]? = some (.cells xs 121 (0, 0))
  nq : ¬ Mut p gv qv w.heap.size
  ne : ∀ k, av.ownBlock = some k → mv.ownBlock ≠ some k
  fr : FrA (Mut p gv0 qv0) w wr
  lk : ∀ k, k < w.heap.size → Mut p gv qv k → Mut p gv0 qv0 k
section
variable {A : Nat → Prop} {ns : List SNodeD} {rs : List SRuleD} {an ar : Option Addr} {cn cr B p : Nat} {W0 w : World} {gv0 qv0 : Value} {qs xs : Array Value} {m m' : MkD} {gv qv av mv kv gv' qv' : Value} {alts more : List (List SymD)} {kn : List ByteArray} {wr wr' : World}
theorem GwI.step (h : GwI A ns rs an ar cn cr B p W0 w gv0 qv0 qs xs m gv qv av mv kv alts more kn wr) (hb : Below wr.heap.size wr wr') : GwI A ns rs an ar cn cr B p W0 w gv0 qv0 qs xs m gv qv av mv kv alts more kn wr' :=
  ⟨h.mki.step hb, h.als.below hb, h.mor.below hb, h.kno.fr (FrA.below hb), (hb.block _ (Array.getElem?_eq_some_iff.1 h.qb).1).trans h.qb, (hb.block _ (Array.getElem?_eq_some_iff.1 h.xb).1).trans h.xb, h.nq, h.ne, h.fr.trans (A' := Mut p gv0 qv0) (FrA.below hb) (fun _ _ a => a), h.lk⟩
theorem alt_off {v : Value} {l : List (List SymD)} {b : Nat} {C : Nat → Prop} (h : RowH 1 45 AltE C b v l wr) (hM : MkI (AG A av mv) ns rs an ar cn cr B p W0 m gv qv wr) : ∀ k, v.ownBlock = some k → ¬ Mut p gv qv k := fun k hk => by
  obtain ⟨cur, hc⟩ := RowO.type h hk
  exact hM.off hc (by decide) (by decide) (by decide)
theorem alt_ne {v : Value} {l : List (List SymD)} {b x : Nat} {C : Nat → Prop} {cs : Array Value} {t : TypeId} (h : RowH 1 45 AltE C b v l wr) (hx : wr.heap[x]? = some (.cells cs t (0, 0))) (ht : t ≠ 45) : v.ownBlock ≠ some x := fun e => by
  obtain ⟨cur, hc⟩ := RowO.type h e
  rw [hx] at hc
  cases hc
  exact ht rfl
theorem GwI.nx (h : GwI A ns rs an ar cn cr B p W0 w gv0 qv0 qs xs m gv qv av mv kv alts more kn wr) : ¬ Mut p gv qv (w.heap.size + 1) := h.mki.off h.xb (by decide) (by decide) (by decide)
theorem GwI.ag_lt (h : GwI A ns rs an ar cn cr B p W0 w gv0 qv0 qs xs m gv qv av mv kv alts more kn wr) (hA : ∀ k, A k → k < w.heap.size) : ∀ k, AG A av mv k → k < wr.heap.size := by
  rintro k (hk | hk | hk)
  · exact Nat.lt_of_lt_of_le (hA k hk) h.fr.size
  · exact (RowO.lt h.als k hk).2
  · exact (RowO.lt h.mor k hk).2
theorem GwI.mut_lt (h : GwI A ns rs an ar cn cr B p W0 w gv0 qv0 qs xs m gv qv av mv kv alts more kn wr) (hA : ∀ k, A k → k < w.heap.size) : ∀ k, MutA (AG A av mv) p gv qv k → k < wr.heap.size := by
  rintro k (hk | hk)
  · exact h.ag_lt hA k hk
  · exact (h.mki.ge k hk).2
/-- The grammar in the making has turned. -/
theorem GwI.turn (h : GwI A ns rs an ar cn cr B p W0 w gv0 qv0 qs xs m gv qv av mv kv alts more kn wr) (hM : MkI (AG A av mv) ns rs an ar cn cr B p W0 m' gv' qv' wr') (hf : FrA (Mut p gv qv) wr wr') (lk : ∀ k, k < wr.heap.size → Mut p gv' qv' k → Mut p gv qv k) : GwI A ns rs an ar cn cr B p W0 w gv0 qv0 qs xs m' gv' qv' av mv kv alts more kn wr' := by
  have hq := (Array.getElem?_eq_some_iff.1 h.qb).1
  have hx := (Array.getElem?_eq_some_iff.1 h.xb).1
  have hfw : FrA (MutA (AG A av mv) p gv qv) wr wr' := hf.wide (fun k _ a => .inr a)
  have hlk : ∀ k, k < wr.heap.size → MutA (AG A av mv) p gv' qv' k → MutA (AG A av mv) p gv qv k := fun k hk a => a.imp id (lk k hk)
  exact ⟨hM, h.als.go hfw hlk (fun k hk => hf.block k (RowO.lt h.als k hk).2 (alt_off h.als h.mki k hk)), h.mor.go hfw hlk (fun k hk => hf.block k (RowO.lt h.mor k hk).2 (alt_off h.mor h.mki k hk)), h.kno.go hfw hlk, (hf.block _ hq h.nq).trans h.qb, (hf.block _ hx h.nx).trans h.xb, fun a => h.nq (lk _ hq a), h.ne, h.fr.trans hf (fun k hk a => h.lk k hk a), fun k hk a => h.lk k hk (lk k (Nat.lt_of_lt_of_le hk h.fr.size) a)⟩
theorem own_was {v : Value} {g n c H k : Nat} (hat : v.ownBlock = some g ∨ g = H) (hk : k < H) (h : (Value.slice (some ⟨g, 0, none⟩) n c).ownBlock = some k) : v.ownBlock = some k := by
  have e : g = k := Option.some.inj h
  rcases hat with h2 | h2
  · rw [← e]; exact h2
  · omega
/-- An alternative more. -/
theorem GwI.addA (h : GwI A ns rs an ar cn cr B p W0 w gv0 qv0 qs xs m gv qv av mv kv alts more kn wr) (hBw : B ≤ w.heap.size) : ∃ cs, wr.ownsRow w.heap.size 45 1 av alts.length cs ∧ ∀ (g cap : Nat) (w2 : World) (vs : List Value) (x : List SymD), vs.length = 1 → Held (MutA (AG A av mv) p gv qv) wr (fun V => AltE V vs x) → w2.ownsRow w.heap.size 45 1 (.slice (some ⟨g, 0, none⟩) (alts.length + 1) cap) (alts.length + 1) (cs ++ vs) → wr.grownBy w2 av.ownBlock → (av.ownBlock = some g ∨ g = wr.heap.size) →
    GwI A ns rs an ar cn cr B p W0 w gv0 qv0 qs xs m gv qv (.slice (some ⟨g, 0, none⟩) (alts.length + 1) cap) mv kv (alts ++ [x]) more kn w2 ∧ FrA (MutA (AG A av mv) p gv qv) wr w2 ∧ ∀ k, k < wr.heap.size → MutA (AG A (.slice (some ⟨g, 0, none⟩) (alts.length + 1) cap) mv) p gv qv k → MutA (AG A av mv) p gv qv k := by
  obtain ⟨cs, ho, hK⟩ := RowH.add h.als (fun k hk => .inl (.inr (.inl hk)))
  refine ⟨cs, ho, fun g cap w2 vs x hl hx ho2 hg hat => ?_⟩
  have lk1 : ∀ k, k < wr.heap.size → AG A (.slice (some ⟨g, 0, none⟩) (alts.length + 1) cap) mv k → AG A av mv k := fun k hk a => a.imp id (fun a => a.imp (own_was hat hk) id)
  have lk : ∀ k, k < wr.heap.size → MutA (AG A (.slice (some ⟨g, 0, none⟩) (alts.length + 1) cap) mv) p gv qv k → MutA (AG A av mv) p gv qv k := fun k hk a => a.imp (lk1 k hk) id
  have f1 : FrA (fun k => av.ownBlock = some k) wr w2 := FrA.grown hg (fun k hk => hk)
  have f2 : FrA (MutA (AG A av mv) p gv qv) wr w2 := f1.wide (fun k _ a => .inl (.inr (.inl a)))
  have hge : ∀ k, av.ownBlock = some k → w.heap.size ≤ k := fun k hk => (RowO.lt h.als k hk).1
  have bel : Below B W0 w2 := h.mki.bel.grown hg h.mki.lt (fun k hk => Nat.le_trans hBw (hge k hk))
  refine ⟨⟨h.mki.other f1 (fun k hk => .inr (.inl hk)) (alt_off h.als h.mki) bel lk1, hK g cap w2 vs x _ hl hx ho2 hg lk, h.mor.go f2 lk (fun k hk => f1.block k (RowO.lt h.mor k hk).2 (fun e => h.ne k e hk)), h.kno.go f2 lk, (f1.block _ (Array.getElem?_eq_some_iff.1 h.qb).1 (alt_ne h.als h.qb (by decide))).trans h.qb, (f1.block _ (Array.getElem?_eq_some_iff.1 h.xb).1 (alt_ne h.als h.xb (by decide))).trans h.xb, h.nq, fun k hk e => ?_, h.fr.trans (A' := fun k => av.ownBlock = some k) f1 (fun k hk ha => absurd (hge k ha) (by omega)), h.lk⟩, f2, lk⟩
  exact h.ne k (own_was hat (RowO.lt h.mor k e).2 hk) e
/-- One more of those that come again. -/
theorem GwI.addM (h : GwI A ns rs an ar cn cr B p W0 w gv0 qv0 qs xs m gv qv av mv kv alts more kn wr) (hBw : B ≤ w.heap.size) : ∃ cs, wr.ownsRow w.heap.size 45 1 mv more.length cs ∧ ∀ (g cap : Nat) (w2 : World) (vs : List Value) (x : List SymD), vs.length = 1 → Held (MutA (AG A av mv) p gv qv) wr (fun V => AltE V vs x) → w2.ownsRow w.heap.size 45 1 (.slice (some ⟨g, 0, none⟩) (more.length + 1) cap) (more.length + 1) (cs ++ vs) → wr.grownBy w2 mv.ownBlock → (mv.ownBlock = some g ∨ g = wr.heap.size) →
    GwI A ns rs an ar cn cr B p W0 w gv0 qv0 qs xs m gv qv av (.slice (some ⟨g, 0, none⟩) (more.length + 1) cap) kv alts (more ++ [x]) kn w2 := by
  obtain ⟨cs, ho, hK⟩ := RowH.add h.mor (fun k hk => .inl (.inr (.inr hk)))
  refine ⟨cs, ho, fun g cap w2 vs x hl hx ho2 hg hat => ?_⟩
  have lk1 : ∀ k, k < wr.heap.size → AG A av (.slice (some ⟨g, 0, none⟩) (more.length + 1) cap) k → AG A av mv k := fun k hk a => a.imp id (fun a => a.imp id (own_was hat hk))
  have lk : ∀ k, k < wr.heap.size → MutA (AG A av (.slice (some ⟨g, 0, none⟩) (more.length + 1) cap)) p gv qv k → MutA (AG A av mv) p gv qv k := fun k hk a => a.imp (lk1 k hk) id
  have f1 : FrA (fun k => mv.ownBlock = some k) wr w2 := FrA.grown hg (fun k hk => hk)
  have f2 : FrA (MutA (AG A av mv) p gv qv) wr w2 := f1.wide (fun k _ a => .inl (.inr (.inr a)))
  have hge : ∀ k, mv.ownBlock = some k → w.heap.size ≤ k := fun k hk => (RowO.lt h.mor k hk).1
  have bel : Below B W0 w2 := h.mki.bel.grown hg h.mki.lt (fun k hk => Nat.le_trans hBw (hge k hk))
  refine ⟨h.mki.other f1 (fun k hk => .inr (.inr hk)) (alt_off h.mor h.mki) bel lk1, h.als.go f2 lk (fun k hk => f1.block k (RowO.lt h.als k hk).2 (fun e => h.ne k hk e)), hK g cap w2 vs x _ hl hx ho2 hg lk, h.kno.go f2 lk, (f1.block _ (Array.getElem?_eq_some_iff.1 h.qb).1 (alt_ne h.mor h.qb (by decide))).trans h.qb, (f1.block _ (Array.getElem?_eq_some_iff.1 h.xb).1 (alt_ne h.mor h.xb (by decide))).trans h.xb, h.nq, fun k hk e => ?_, h.fr.trans (A' := fun k => mv.ownBlock = some k) f1 (fun k hk ha => absurd (hge k ha) (by omega)), h.lk⟩
  exact h.ne k hk (own_was hat (RowO.lt h.als k hk).2 e)
/-- At the end: what the rules may hold. -/
theorem GwI.done (h : GwI A ns rs an ar cn cr B p W0 w gv0 qv0 qs xs m gv qv av mv kv alts more kn wr) (hA : ∀ k, A k → k < w.heap.size) : MkI A ns rs an ar cn cr B p W0 m gv qv wr ∧ Held (MutA A p gv qv) wr (fun V => RowC 1 AltE V av alts) := by
  refine ⟨h.mki.away (fun k hk a => .inl (.inl a)), ?_⟩
  have h2 : RowH 1 45 AltE (MutA A p gv qv) w.heap.size av alts wr := h.als.go (FrA.refl _ _) (fun k hk a => a.imp .inl id) (fun _ _ => rfl)
  refine RowH.held h2 (fun k hk a => ?_)
  rcases a with a | a
  · have := hA k a
    have := (RowO.lt h.als k hk).1
    omega
  · exact alt_off h.als h.mki k hk a
end
/-- A whole row appended to one that the call owns, both held. -/
theorem RowH.addAll {α : Type} {sz : Nat} {T : TypeId} {E : World → List Value → α → Prop} {A : Nat → Prop} {B B' : Nat} {v u : Value} {xs ys : List α} {w : World} (h : RowH sz T E A B v xs w) (h' : RowH sz T E A B' u ys w) (hvA : ∀ k, v.ownBlock = some k → A k) : ∃ cs ds, w.ownsRow B T sz v xs.length cs ∧ w.ownsRow B' T sz u ys.length ds ∧ ∀ (g cap : Nat) (w2 : World) (A' : Nat → Prop), w2.ownsRow B T sz (.slice (some ⟨g, 0, none⟩) (xs.length + ys.length) cap) (xs.length + ys.length) (cs ++ ds) → w.grownBy w2 v.ownBlock → (∀ k, k < w.heap.size → A' k → A k) → RowH sz T E A' B (.slice (some ⟨g, 0, none⟩) (xs.length + ys.length) cap) (xs ++ ys) w2 := by
  obtain ⟨vss, h1, h2, h3, h4⟩ := h
  obtain ⟨uss, k1, k2, k3, k4⟩ := h'
  refine ⟨vss.flatten, uss.flatten, h3, k3, fun g cap w2 A' ho2 hg hA => ?_⟩
  have hfr : FrA A w w2 := FrA.grown hg hvA
  have e : (xs ++ ys).length = xs.length + ys.length := by simp
  refine ⟨vss ++ uss, by simp [h1, k1], fun x hx => ?_, by rw [e]; simpa using ho2, fun i hi hi' => ?_⟩
  · rcases List.mem_append.1 hx with hx | hx
    · exact h2 x hx
    · exact k2 x hx
  · by_cases hlt : i < vss.length
    · rw [List.getElem_append_left hlt, List.getElem_append_left (by omega)]
      exact Held.go (h4 i hlt (by omega)) hfr hA
    · rw [List.getElem_append_right (by omega), List.getElem_append_right (by omega)]
      have hi2 : i - vss.length < uss.length := by simp at hi; omega
      have e2 : i - xs.length = i - vss.length := by rw [h1]
      simp only [e2]
      exact Held.go (k4 (i - vss.length) hi2 (by omega)) hfr hA

end Go.Proofs.YtllfmobjkppnaaaGreat

namespace Go.Proofs.YtllfmobjkppnaaaGreat
open Go.RowKit
set_option linter.unusedVariables false
variable {α : Type}

/-- What is told of a world is told of every world that has its blocks from lo to hi. -/
def InI (lo hi : Nat) (w : World) (P : World → Prop) : Prop := hi ≤ w.heap.size ∧ ∀ W : World, hi ≤ W.heap.size → (∀ k, lo ≤ k → k < hi → W.heap[k]? = w.heap[k]?) → P W
section
variable {lo hi : Nat} {w w' : World} {P Q : World → Prop} {A : Nat → Prop}
theorem InI.here (h : InI lo hi w P) : P w := h.2 w h.1 (fun _ _ _ => rfl)
theorem InI.imp (h : InI lo hi w P) (hQ : ∀ W, P W → Q W) : InI lo hi w Q := ⟨h.1, fun W h1 h2 => hQ W (h.2 W h1 h2)⟩
theorem InI.of_fresh (h : Fresh lo w P) : InI lo w.heap.size w P := ⟨Nat.le_refl _, fun W h1 h2 => h W h1 h2⟩
theorem InI.go (h : InI lo hi w P) (hs : hi ≤ w'.heap.size) (hk : ∀ k, lo ≤ k → k < hi → w'.heap[k]? = w.heap[k]?) : InI lo hi w' P := ⟨hs, fun W h1 h2 => h.2 W h1 (fun k a b => (h2 k a b).trans (hk k a b))⟩
theorem InI.below (h : InI lo hi w P) (hb : Below w.heap.size w w') : InI lo hi w' P := h.go (Nat.le_trans h.1 hb.size) (fun k _ b => hb.block k (Nat.lt_of_lt_of_le b h.1))
theorem InI.held (h : InI lo hi w P) (hA : ∀ k, A k → k < lo ∨ hi ≤ k) : Held A w P := fun W h1 h2 => h.2 W (Nat.le_trans h.1 h1) (fun k a b => h2 k (Nat.lt_of_lt_of_le b h.1) (fun ha => by rcases hA k ha with h | h <;> omega))
end
/-- A list that the call owns; element i reaches from (cut i).1 to (cut i).2; all that lies below X. -/
def RowI (sz : Nat) (T : TypeId) (E : World → List Value → α → Prop) (B X : Nat) (v : Value) (xs : List α) (w : World) : Prop :=
  ∃ (vss : List (List Value)) (cut : Nat → Nat × Nat), vss.length = xs.length ∧ (∀ vs ∈ vss, vs.length = sz) ∧ w.ownsRow B T sz v xs.length vss.flatten ∧
    (∀ i (h : i < vss.length) (h' : i < xs.length), InI (cut i).1 (cut i).2 w (fun W => E W vss[i] xs[i]) ∧ B ≤ (cut i).1 ∧ (cut i).2 ≤ X ∧ ∀ k, v.ownBlock = some k → k < (cut i).1 ∨ (cut i).2 ≤ k) ∧ ∀ i j, i < j → j < xs.length → (cut i).2 ≤ (cut j).1
section
variable {sz : Nat} {T : TypeId} {E : World → List Value → α → Prop} {B X X' : Nat} {v : Value} {xs : List α} {w w' : World}
theorem RowI.nil : RowI sz T E B X (.slice none 0 0) ([] : List α) w := ⟨[], fun _ => (0, 0), rfl, fun _ h => (by cases h), ⟨by simp, .inl ⟨rfl, rfl⟩⟩, (fun i h => by cases h), fun i j _ h => by cases h⟩
theorem RowI.own (h : RowI sz T E B X v xs w) : ∃ cs, w.ownsRow B T sz v xs.length cs := by
  obtain ⟨vss, _, _, _, h3, _⟩ := h
  exact ⟨_, h3⟩
theorem RowI.lt (h : RowI sz T E B X v xs w) : ∀ k, v.ownBlock = some k → B ≤ k ∧ k < w.heap.size := by
  obtain ⟨cs, ho⟩ := h.own
  exact World.ownsRow.lt ho
theorem RowI.slice (h : RowI sz T E B X v xs w) : ∃ a cap, v = .slice a xs.length cap := by
  obtain ⟨cs, ho⟩ := h.own
  rcases ho.2 with ⟨rfl, h0⟩ | ⟨g, cap, cur, rfl, _⟩
  · exact ⟨none, 0, by rw [h0]⟩
  · exact ⟨_, cap, rfl⟩
theorem RowI.type (h : RowI sz T E B X v xs w) {g : Nat} (hg : v.ownBlock = some g) : ∃ cur, w.heap[g]? = some (.cells cur T (0, 0)) := by
  obtain ⟨cs, ho⟩ := h.own
  rcases ho.2 with ⟨rfl, h0⟩ | ⟨g', cap, cur, rfl, hB, hc, _⟩
  · cases hg
  · cases hg
    exact ⟨cur, hc⟩
theorem RowI.up (h : RowI sz T E B X v xs w) (hX : X ≤ X') : RowI sz T E B X' v xs w := by
  obtain ⟨vss, cut, h1, h2, h3, h4, h5⟩ := h
  exact ⟨vss, cut, h1, h2, h3, fun i hi hi' => ⟨(h4 i hi hi').1, (h4 i hi hi').2.1, Nat.le_trans (h4 i hi hi').2.2.1 hX, (h4 i hi hi').2.2.2⟩, h5⟩
/-- In a world that has the row's block and those that its elements reach. -/
theorem RowI.go (h : RowI sz T E B X v xs w) (hs : X ≤ w'.heap.size) (hv : ∀ k, v.ownBlock = some k → w'.heap[k]? = w.heap[k]?) (hk : ∀ k, B ≤ k → k < X → v.ownBlock ≠ some k → w'.heap[k]? = w.heap[k]?) : RowI sz T E B X v xs w' := by
  obtain ⟨vss, cut, h1, h2, h3, h4, h5⟩ := h
  refine ⟨vss, cut, h1, h2, ⟨h3.1, ?_⟩, fun i hi hi' => ?_, h5⟩
  · rcases h3.2 with hn | ⟨g, cap, cur, rfl, hB, hc, r⟩
    · exact .inl hn
    · exact .inr ⟨g, cap, cur, rfl, hB, (hv g rfl).trans hc, r⟩
  · obtain ⟨a, b, c, d⟩ := h4 i hi hi'
    exact ⟨a.go (Nat.le_trans c hs) (fun k k1 k2 => hk k (Nat.le_trans b k1) (Nat.lt_of_lt_of_le k2 c) (fun e => by rcases d k e with h | h <;> omega)), b, c, d⟩
theorem RowI.below (h : RowI sz T E B X v xs w) (hX : X ≤ w.heap.size) (hb : Below w.heap.size w w') : RowI sz T E B X v xs w' :=
  h.go (Nat.le_trans hX hb.size) (fun k hk => hb.block k (h.lt k hk).2) (fun k _ hk _ => hb.block k (Nat.lt_of_lt_of_le hk hX))
theorem RowI.fresh (h : RowI sz T E B X v xs w) (hX : X ≤ w.heap.size) : Fresh B w fun W => RowI sz T E B X v xs W := fun W h1 h2 =>
  h.go (Nat.le_trans hX h1) (fun k hk => h2 k (h.lt k hk).1 (h.lt k hk).2) (fun k hB hk _ => h2 k hB (Nat.lt_of_lt_of_le hk hX))
theorem RowI.rowC (h : RowI sz T E B X v xs w) : RowC sz E w v xs := by
  obtain ⟨vss, cut, h1, h2, h3, h4, h5⟩ := h
  exact RowO.row (sz := sz) (T := T) (E := E) (B := B) ⟨vss, h1, h2, h3, fun i hi hi' => (h4 i hi hi').1.here⟩
/-- One element more: it reaches from X on. -/
theorem RowI.add (h : RowI sz T E B X v xs w) (hBX : B ≤ X) (hvX : ∀ k, v.ownBlock = some k → k < X) (hX : X ≤ w.heap.size) : ∃ cs, w.ownsRow B T sz v xs.length cs ∧ ∀ (g cap hi : Nat) (w2 : World) (vs : List Value) (x : α), vs.length = sz → X ≤ hi → InI X hi w (fun W => E W vs x) → w2.ownsRow B T sz (.slice (some ⟨g, 0, none⟩) (xs.length + 1) cap) (xs.length + 1) (cs ++ vs) → w.grownBy w2 v.ownBlock → (v.ownBlock = some g ∨ g = w.heap.size) → RowI sz T E B hi (.slice (some ⟨g, 0, none⟩) (xs.length + 1) cap) (xs ++ [x]) w2 := by
  obtain ⟨vss, cut, h1, h2, h3, h4, h5⟩ := h
  refine ⟨vss.flatten, h3, fun g cap hi w2 vs x hl hXh hx ho2 hg hat => ?_⟩
  have e : (xs ++ [x]).length = xs.length + 1 := by simp
  have hgk : ∀ k, (Value.slice (some ⟨g, 0, none⟩) (xs.length + 1) cap).ownBlock = some k → v.ownBlock = some k ∨ k = w.heap.size := fun k hk => by
    have ek : g = k := Option.some.inj hk
    rw [← ek]; exact hat
  refine ⟨vss ++ [vs], fun i => if i < xs.length then cut i else (X, hi), by simp [h1], fun u hu => ?_, by rw [e]; simpa using ho2, fun i hi1 hi' => ?_, fun i j hij hj => ?_⟩
  · rcases List.mem_append.1 hu with hu | hu
    · exact h2 u hu
    · rw [List.mem_singleton.1 hu]; exact hl
  · by_cases hlt : i < vss.length
    · have ec : (fun i => if i < xs.length then cut i else (X, hi)) i = cut i := if_pos (by omega)
      rw [List.getElem_append_left hlt, List.getElem_append_left (by omega), ec]
      obtain ⟨a, b, c, d⟩ := h4 i hlt (by omega)
      refine ⟨a.go (Nat.le_trans c (Nat.le_trans hX hg.size)) (fun k k1 k2 => hg.block k (by omega) (fun e => by rcases d k e.symm with h | h <;> omega)), b, by omega, fun k hk => ?_⟩
      rcases hgk k hk with h | h
      · exact d k h
      · exact .inr (by omega)
    · have e : i = vss.length := by simp at hi1; omega
      subst e
      have ec : (fun i => if i < xs.length then cut i else (X, hi)) vss.length = (X, hi) := if_neg (by omega)
      rw [List.getElem_append_right (Nat.le_refl _), List.getElem_append_right (by omega), ec]
      simp only [Nat.sub_self, h1]
      refine ⟨hx.go (Nat.le_trans hx.1 hg.size) (fun k k1 k2 => hg.block k (Nat.lt_of_lt_of_le k2 hx.1) (fun e => by have := hvX k e.symm; omega)), hBX, Nat.le_refl _, fun k hk => ?_⟩
      rcases hgk k hk with h | h
      · exact .inl (hvX k h)
      · exact .inr (by have := hx.1; omega)
  · rw [e] at hj
    have ei : (fun i => if i < xs.length then cut i else (X, hi)) i = cut i := if_pos (by omega)
    rw [ei]
    by_cases hj2 : j < xs.length
    · have ej : (fun i => if i < xs.length then cut i else (X, hi)) j = cut j := if_pos hj2
      rw [ej]; exact h5 i j hij hj2
    · have ej : (fun i => if i < xs.length then cut i else (X, hi)) j = (X, hi) := if_neg hj2
      rw [ej]
      exact (h4 i (by omega) (by omega)).2.2.1
end

end Go.Proofs.YtllfmobjkppnaaaGreat
