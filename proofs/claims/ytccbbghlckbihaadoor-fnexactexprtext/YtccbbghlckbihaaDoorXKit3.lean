/- The laws' own helpers on expressions: whole ones copied, compared with their like. -/
import Derived.Test.YtccbbghlckbihaaDoorXKit2
namespace Go.Proofs.YtccbbghlckbihaaDoor
open Go.RowKit

theorem OwnN.setLow {B : Nat} {v : Value} {ns : List NodeD} {w : World} (h : OwnN B v ns w) {b : Nat} (hb : b < B) (j : Nat) (u : Value) : OwnN B v ns (w.setCell ⟨b, j, none⟩ u) := by
  obtain ⟨qs, e, h1, h2⟩ := h
  refine ⟨qs, e, World.ownsRow.kept h1 (grow_set w b j u) ?_, fun q hq => World.ownsRow.kept (h2 q hq) (grow_set w b j u) (off_block (h2 q hq) hb)⟩
  cases hv : v.ownBlock with
  | none => exact .inl rfl
  | some k => exact .inr (fun e => by have := (World.ownsRow.lt h1 k hv).1; have e2 : k = b := Option.some.inj e; omega)
theorem OwnN.base {B B' : Nat} {v : Value} {ns : List NodeD} {w : World} (h : OwnN B v ns w) (hB : B' ≤ B) : OwnN B' v ns w := by
  obtain ⟨qs, e, h1, h2⟩ := h
  refine ⟨qs, e, ⟨h1.1, ?_⟩, fun q hq => (h2 q hq).base hB⟩
  rcases h1.2 with h | ⟨g, cap, cur, e, hg, r⟩
  · exact .inl h
  · exact .inr ⟨g, cap, cur, e, Nat.le_trans hB hg, r⟩

theorem ex1_at (w : World) (x y z : Value) (s t : TypeId) {B : Nat} (hB : w.heap.size = B) :
    (((w.alloc (.cells #[x] s)).alloc (.cells #[y] t)).alloc (.cells #[z] t)).heap[B + 1]? = some (.cells #[y] t) ∧ (((w.alloc (.cells #[x] s)).alloc (.cells #[y] t)).alloc (.cells #[z] t)).heap[B + 2]? = some (.cells #[z] t) := by
  subst hB
  have e1 : (w.alloc (.cells #[x] s)).heap.size = w.heap.size + 1 := by simp
  have e2 : ((w.alloc (.cells #[x] s)).alloc (.cells #[y] t)).heap.size = w.heap.size + 2 := by simp
  refine ⟨?_, ?_⟩
  · rw [Below.heap_alloc _ _ _ (by rw [e2]; omega)]
    have := heap_alloc_new (w.alloc (.cells #[x] s)) (.cells #[y] t)
    rwa [e1] at this
  · have := heap_alloc_new ((w.alloc (.cells #[x] s)).alloc (.cells #[y] t)) (.cells #[z] t)
    rwa [e2] at this

set_option maxHeartbeats 1600000 in
theorem toExpr_any (v : Value) (ns : List NodeD) (w : World) (hn : ns.length ≤ 1048576) (hz : ∀ x ∈ ns, x.kids.length ≤ 1048576) (h : NRow w v ns) :
    Calls Tryd.prog 6 #[.agg #[v]] w fun e w' => ∃ o, e = .returned (.agg #[o]) ∧ OwnN w.heap.size o ns w' ∧ Below w.heap.size w w' := by
  obtain ⟨a, cap, rfl⟩ := h.slice
  have HR : Hid (NRow w (.slice a ns.length cap) ns) := h
  have HZ : Hid (∀ x ∈ ns, x.kids.length ≤ 1048576) := hz
  clear h hz
  obtain ⟨B, hB⟩ : ∃ B, w.heap.size = B := ⟨_, rfl⟩
  go_enter Tryd.func6, Tryd.ntmps6
  go_wp2_with fail
  obtain ⟨hb1, hb2⟩ := ex1_at w (.slice a ns.length cap) (.slice none 0 0) (.slice none 0 0) 24 30 hB
  have BW : Hid (Below w.heap.size w (((w.alloc (.cells #[.slice a ns.length cap] 24)).alloc (.cells #[.slice none 0 0] 30)).alloc (.cells #[.slice none 0 0] 30))) := (((Below.refl _ _).alloc (Nat.le_refl _) _).alloc (by simp) _).alloc (by simp; omega) _
  have hszW : (((w.alloc (.cells #[.slice a ns.length cap] 24)).alloc (.cells #[.slice none 0 0] 30)).alloc (.cells #[.slice none 0 0] 30)).heap.size = B + 3 := by simp [hB]
  generalize ((w.alloc (.cells #[.slice a ns.length cap] 24)).alloc (.cells #[.slice none 0 0] 30)).alloc (.cells #[.slice none 0 0] 30) = W0 at *
  refine (toExNodeS_any _ ns W0 hn HZ.out (HR.out.below BW.out)).mono ?_
  rintro e w2 ⟨o, rfl, ho, hbc⟩
  have B2 : Hid (Below w.heap.size w w2) := BW.out.trans (hbc.mono BW.out.size)
  have HO2 : Hid (OwnN (B + 3) o ns w2) := by rw [← hszW]; exact ho
  obtain ⟨ao, co, rfl⟩ := ho.row.slice
  have k1 : w2.heap[B + 1]? = some (.cells #[.slice none 0 0] 30) := (hbc.block _ (by omega)).trans hb1
  have k2 : w2.heap[B + 2]? = some (.cells #[.slice none 0 0] 30) := (hbc.block _ (by omega)).trans hb2
  clear ho hbc hb1 hb2
  have c1 : w2.cell? ⟨B + 1, 0, none⟩ = some (.slice none 0 0) := by rw [cell_of_row _ _ 0 _ _ _ k1]; rfl
  have c2 : w2.cell? ⟨B + 1 + 1, 0, none⟩ = some (.slice none 0 0) := by rw [cell_of_row _ _ 0 _ _ _ k2]; rfl
  have f1 : w2.frozen? ⟨B + 1, 0, none⟩ = false := by unfold World.frozen?; rw [k1]; simp
  have f2 : w2.frozen? ⟨B + 1 + 1, 0, none⟩ = false := by unfold World.frozen?; rw [show B + 1 + 1 = B + 2 from rfl, k2]; simp
  clear k1 k2
  have HO3 : Hid (OwnN (B + 3) (.slice ao ns.length co) ns (w2.setCell ⟨B + 1 + 1, 0, none⟩ (.slice ao ns.length co))) := HO2.out.setLow (by omega) _ _
  have B3 : Hid (Below w.heap.size w (w2.setCell ⟨B + 1 + 1, 0, none⟩ (.slice ao ns.length co))) := B2.out.setCell (by show w.heap.size ≤ B + 1 + 1; omega) _
  have d2 : (w2.setCell ⟨B + 1 + 1, 0, none⟩ (.slice ao ns.length co)).cell? ⟨B + 1 + 1, 0, none⟩ = some (.slice ao ns.length co) := World.cell?_setCell_same _ _ _ c2
  have d1 : (w2.setCell ⟨B + 1 + 1, 0, none⟩ (.slice ao ns.length co)).cell? ⟨B + 1, 0, none⟩ = some (.slice none 0 0) := (World.cell?_setCell_other _ _ _ _ (by simp)).trans c1
  have e1 : (w2.setCell ⟨B + 1 + 1, 0, none⟩ (.slice ao ns.length co)).frozen? ⟨B + 1, 0, none⟩ = false := (World.frozen?_setCell _ _ _ _).trans f1
  go_wp2
  generalize w2.setCell ⟨B + 1 + 1, 0, none⟩ (.slice ao ns.length co) = W3 at *
  have HO4 : Hid (OwnN w.heap.size (.slice ao ns.length co) ns (W3.setCell ⟨B + 1, 0, none⟩ (.slice ao ns.length co))) := (HO3.out.setLow (by omega) _ _).base (by omega)
  have B4 : Hid (Below w.heap.size w (W3.setCell ⟨B + 1, 0, none⟩ (.slice ao ns.length co))) := B3.out.setCell (by show w.heap.size ≤ B + 1; omega) _
  have r0 : (W3.setCell ⟨B + 1, 0, none⟩ (.slice ao ns.length co)).cell? ⟨B + 1, 0, none⟩ = some (.slice ao ns.length co) := World.cell?_setCell_same _ _ _ d1
  clear d1 d2 e1 f1 f2 c1 c2
  generalize W3.setCell ⟨B + 1, 0, none⟩ (.slice ao ns.length co) = W5 at *
  (try simp only [Exit.inBlock, Exit.then])
  refine bodyPost_ret (by simp [results, Tryd.results6, go_sem, r0]; try rfl) rfl ?_
  exact ⟨_, rfl, HO4.out, B4.out⟩

set_option maxHeartbeats 1600000 in
theorem eqIntS_same (u v : Value) (ks : List Int) (w : World) (hx : ks.length ≤ 1048576) (h : IRow w u ks) (h' : IRow w v ks) :
    Calls Tryd.prog 35 #[u, v] w fun e w' => e = .returned (.bool true) ∧ ∃ q, w' = w.drewN q := by
  have HX : Hid (IRow w u ks) := h
  have HY : Hid (IRow w v ks) := h'
  obtain ⟨a, cap, rfl⟩ := h.slice
  obtain ⟨a', cap', rfl⟩ := h'.slice
  clear h h'
  go_enter Tryd.func35, Tryd.ntmps35
  go_wp2
  go_loopw [5] (fun iv wr => ∃ k q : Nat, iv = .int .i64 k ∧ k ≤ ks.length ∧ wr = w.drewN q) (fun iv _ => ks.length - (intOf iv).toNat)
  case atStart => exact ⟨0, 0, rfl, Nat.zero_le _, rfl⟩
  case round =>
    obtain ⟨k, q, rfl, hk, hwr⟩ := hrel
    have HW : Hid (wr = w.drewN q) := hwr
    have HXr : Hid (IRow wr (.slice a ks.length cap) ks) := by rw [HW.out]; exact HX.out.below (bel_drewN (Below.refl _ _) q)
    have HYr : Hid (IRow wr (.slice a' ks.length cap') ks) := by rw [HW.out]; exact HY.out.below (bel_drewN (Below.refl _ _) q)
    clear hwr
    by_cases hlt : k < ks.length
    · obtain ⟨b, off, rfl, hc1⟩ := HXr.out.at hlt
      obtain ⟨b', off', rfl, hc2⟩ := HYr.out.at hlt
      have i4 : (k : Int) < (ks.length : Int) := by omega
      go_wp2
      go_big_quiet (fail)
      go_wp2
      go_roundw
      case rel => exact ⟨k + 1, q + nq, by go_num, by omega, by rw [HW.out, World.drewN_drewN]⟩
      case measure => simp [intOf]; omega
    · obtain rfl : k = ks.length := by omega
      go_wp2
      go_ret
      exact ⟨rfl, q, HW.out⟩

set_option maxHeartbeats 1600000 in
theorem eqExNode_same (op num : Int) (name : ByteArray) (u v : Value) (ks : List Int) (w : World) (hx : ks.length ≤ 1048576) (h : IRow w u ks) (h' : IRow w v ks) :
    Calls Tryd.prog 28 #[.agg #[.int .i64 op, .int .i64 num, .string name, u], .agg #[.int .i64 op, .int .i64 num, .string name, v]] w fun e w' => e = .returned (.bool true) ∧ Below w.heap.size w w' := by
  have hb := beq_yes (rfl : name = name)
  have BW : Hid (Below w.heap.size w ((w.alloc (.cells #[.int .i64 op, .int .i64 num, .string name, u] 39)).alloc (.cells #[.int .i64 op, .int .i64 num, .string name, v] 39))) := ((Below.refl _ _).alloc (Nat.le_refl _) _).alloc (by simp) _
  have HE : Hid (_) := eqIntS_same u v ks _ hx (h.below BW.out) (h'.below BW.out)
  obtain ⟨a, cap, rfl⟩ := h.slice
  obtain ⟨a', cap', rfl⟩ := h'.slice
  clear h h'
  go_enter Tryd.func28, Tryd.ntmps28
  go_wp2_with fail
  refine Calls.mono HE.out ?_
  rintro e w1 ⟨rfl, q, hq⟩
  have B1 : Hid (Below w.heap.size w w1) := by rw [hq]; exact bel_drewN BW.out q
  clear hq HE
  go_wp2
  go_ret
  exact ⟨rfl, B1.out⟩

theorem cells_keep8 {W W' : World} {a b c d a' b' c' d' : Addr} {x y z u x' y' z' u' : Value} (h : W.cell? a = some x ∧ W.cell? b = some y ∧ W.cell? c = some z ∧ W.cell? d = some u ∧ W.cell? a' = some x' ∧ W.cell? b' = some y' ∧ W.cell? c' = some z' ∧ W.cell? d' = some u') (hb : Below W.heap.size W W') :
    W'.cell? a = some x ∧ W'.cell? b = some y ∧ W'.cell? c = some z ∧ W'.cell? d = some u ∧ W'.cell? a' = some x' ∧ W'.cell? b' = some y' ∧ W'.cell? c' = some z' ∧ W'.cell? d' = some u' :=
  ⟨cell_keep h.1 hb, cell_keep h.2.1 hb, cell_keep h.2.2.1 hb, cell_keep h.2.2.2.1 hb, cell_keep h.2.2.2.2.1 hb, cell_keep h.2.2.2.2.2.1 hb, cell_keep h.2.2.2.2.2.2.1 hb, cell_keep h.2.2.2.2.2.2.2 hb⟩

set_option maxHeartbeats 3200000 in
theorem eqExNodeS_same (u v : Value) (ns : List NodeD) (w : World) (hn : ns.length ≤ 1048576) (hz : ∀ x ∈ ns, x.kids.length ≤ 1048576) (h : NRow w u ns) (h' : NRow w v ns) :
    Calls Tryd.prog 17 #[u, v] w fun e w' => e = .returned (.bool true) ∧ Below w.heap.size w w' := by
  have HX : Hid (NRow w u ns) := h
  have HY : Hid (NRow w v ns) := h'
  have HZ : Hid (∀ x ∈ ns, x.kids.length ≤ 1048576) := hz
  obtain ⟨a, cap, rfl⟩ := h.slice
  obtain ⟨a', cap', rfl⟩ := h'.slice
  clear h h' hz
  go_enter Tryd.func17, Tryd.ntmps17
  go_wp2
  go_loopw [5] (fun iv wr => ∃ k : Nat, iv = .int .i64 k ∧ k ≤ ns.length ∧ Below w.heap.size w wr) (fun iv _ => ns.length - (intOf iv).toNat)
  case atStart => exact ⟨0, rfl, Nat.zero_le _, Below.refl _ _⟩
  case round =>
    obtain ⟨k, rfl, hk, hb⟩ := hrel
    have HB : Hid (Below w.heap.size w wr) := hb
    have HXr : Hid (NRow wr (.slice a ns.length cap) ns) := HX.out.below hb
    have HYr : Hid (NRow wr (.slice a' ns.length cap') ns) := HY.out.below hb
    clear hb
    by_cases hlt : k < ns.length
    · obtain ⟨b, off, kv, rfl, n0, n1, n2, n3, hI⟩ := HXr.out.at hlt
      obtain ⟨b', off', kv', rfl, m0, m1, m2, m3, hI'⟩ := HYr.out.at hlt
      have i4 : (k : Int) < (ns.length : Int) := by omega
      have HE : Hid (_) := eqExNode_same ns[k].op ns[k].num ns[k].name kv kv' ns[k].kids wr.drew (HZ.out _ (List.getElem_mem hlt)) (hI.below (bel_drewN (Below.refl _ _) 1)) (hI'.below (bel_drewN (Below.refl _ _) 1))
      clear hI hI'
      generalize ns[k].op = op at *
      generalize ns[k].num = num at *
      generalize ns[k].name = name at *
      go_wp2
      go_region_held3 (fun W => W.cell? ⟨b, off + k * 4, none⟩ = some (.int .i64 op) ∧ W.cell? ⟨b, off + k * 4 + 1, none⟩ = some (.int .i64 num) ∧ W.cell? ⟨b, off + k * 4 + 2, none⟩ = some (.string name) ∧ W.cell? ⟨b, off + k * 4 + 3, none⟩ = some kv ∧ W.cell? ⟨b', off' + k * 4, none⟩ = some (.int .i64 op) ∧ W.cell? ⟨b', off' + k * 4 + 1, none⟩ = some (.int .i64 num) ∧ W.cell? ⟨b', off' + k * 4 + 2, none⟩ = some (.string name) ∧ W.cell? ⟨b', off' + k * 4 + 3, none⟩ = some kv')
        ((first | exact cells_keep8 (by assumption) hb2 | go_keep))
        ((first | (go_at_call 28; refine Calls.mono HE.out ?_; rintro e w2 ⟨rfl, hb2⟩)))
      have HB2 : Hid (Below w.heap.size w w2) := HB.out.trans ((bel_of_drew hb2).mono HB.out.size)
      clear hb2
      go_wp2
      go_roundw
      case rel => exact ⟨k + 1, by go_num, by omega, HB2.out⟩
      case measure => simp [intOf]; omega
    · obtain rfl : k = ns.length := by omega
      go_wp2
      go_ret
      exact ⟨rfl, HB.out⟩

theorem eqExpr_same (u v : Value) (ns : List NodeD) (w : World) (hn : ns.length ≤ 1048576) (hz : ∀ x ∈ ns, x.kids.length ≤ 1048576) (h : NRow w u ns) (h' : NRow w v ns) :
    Calls Tryd.prog 8 #[.agg #[u], .agg #[v]] w fun e w' => e = .returned (.bool true) ∧ Below w.heap.size w w' := by
  have BW : Hid (Below w.heap.size w ((w.alloc (.cells #[u] 30)).alloc (.cells #[v] 30))) := ((Below.refl _ _).alloc (Nat.le_refl _) _).alloc (by simp) _
  have HE : Hid (_) := eqExNodeS_same u v ns _ hn hz (h.below BW.out) (h'.below BW.out)
  obtain ⟨a, cap, rfl⟩ := h.slice
  obtain ⟨a', cap', rfl⟩ := h'.slice
  clear h h' hz
  go_enter Tryd.func8, Tryd.ntmps8
  go_wp2_with fail
  refine Calls.mono HE.out ?_
  rintro e w1 ⟨rfl, hb1⟩
  have B1 : Hid (Below w.heap.size w w1) := BW.out.trans (hb1.mono BW.out.size)
  clear hb1 HE
  go_wp2
  go_ret
  exact ⟨rfl, B1.out⟩

end Go.Proofs.YtccbbghlckbihaaDoor
