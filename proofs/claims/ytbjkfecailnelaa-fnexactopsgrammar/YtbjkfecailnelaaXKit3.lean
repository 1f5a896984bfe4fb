/- The laws' own helpers on expressions: whole ones copied, compared with their like. -/
import Derived.Test.YtbjkfecailnelaaXKit2
namespace Go.Proofs.Ytbjkfecailnelaa
open Go.RowKit

theorem OwnN.setLow {B : Nat} {v : Value} {ns : List NodeD} {w : World} (h : OwnN B v ns w) {b : Nat} (hb : b < B) (j : Nat) (u : Value) : OwnN B v ns (w.setCell ⟨b, j, none⟩ u) := by
  obtain ⟨qs, e, h1, h2⟩ := h
  refine ⟨qs, e, World.ownsRow.kept h1 (grow_set w b j u) ?_, fun q hq => World.ownsRow.kept (h2 q hq) (grow_set w b j u) (off_block (h2 q hq) hb)⟩
  cases hv : v.ownBlock with
  | none => exact .inl rfl
  | some k => exact .inr (fun e => by have := (World.ownsRow.lt h1 k hv).1; have e2 : k = b := Option.some.inj e; omega)
theorem OwnN.base {B B' : Nat} {v : Value} {ns : List NodeD} {w : World} (h : OwnN B v ns w) (hB : B' ≤ B) : OwnN B' v ns w := by
  obtain ⟨qs, e, h1, h2⟩ := h
  refine ⟨qs, e, ⟨h1.1, ?_⟩, fun q hq => (h2 q hq).base hB⟩
  rcases h1.2 with h | ⟨g, cap, cur, e, hg, r⟩
  · exact .inl h
  · exact .inr ⟨g, cap, cur, e, Nat.le_trans hB hg, r⟩


set_option maxHeartbeats 1600000 in
theorem eqIntS_same (u v : Value) (ks : List Int) (w : World) (hx : ks.length ≤ 1048576) (h : IRow w u ks) (h' : IRow w v ks) :
    Calls Try.prog 67 #[u, v] w fun e w' => e = .returned (.bool true) ∧ ∃ q, w' = w.drewN q := by
  have HX : Hid (IRow w u ks) := h
  have HY : Hid (IRow w v ks) := h'
  obtain ⟨a, cap, rfl⟩ := h.slice
  obtain ⟨a', cap', rfl⟩ := h'.slice
  clear h h'
  go_enter Try.func67, Try.ntmps67
  go_wp2
  go_loopw [5] (fun iv wr => ∃ k q : Nat, iv = .int .i64 k ∧ k ≤ ks.length ∧ wr = w.drewN q) (fun iv _ => ks.length - (intOf iv).toNat)
  case atStart => exact ⟨0, 0, rfl, Nat.zero_le _, rfl⟩
  case round =>
    obtain ⟨k, q, rfl, hk, hwr⟩ := hrel
    have HW : Hid (wr = w.drewN q) := hwr
    have HXr : Hid (IRow wr (.slice a ks.length cap) ks) := by rw [HW.out]; exact HX.out.below (bel_drewN (Below.refl _ _) q)
    have HYr : Hid (IRow wr (.slice a' ks.length cap') ks) := by rw [HW.out]; exact HY.out.below (bel_drewN (Below.refl _ _) q)
    clear hwr
    by_cases hlt : k < ks.length
    · obtain ⟨b, off, rfl, hc1⟩ := HXr.out.at hlt
      obtain ⟨b', off', rfl, hc2⟩ := HYr.out.at hlt
      have i4 : (k : Int) < (ks.length : Int) := by omega
      go_wp2
      go_big_quiet (fail)
      go_wp2
      go_roundw
      case rel => exact ⟨k + 1, q + nq, by go_num, by omega, by rw [HW.out, World.drewN_drewN]⟩
      case measure => simp [intOf]; omega
    · obtain rfl : k = ks.length := by omega
      go_wp2
      go_ret
      exact ⟨rfl, q, HW.out⟩

set_option maxHeartbeats 1600000 in
theorem eqExNode_same (op num : Int) (name : ByteArray) (u v : Value) (ks : List Int) (w : World) (hx : ks.length ≤ 1048576) (h : IRow w u ks) (h' : IRow w v ks) :
    Calls Try.prog 66 #[.agg #[.int .i64 op, .int .i64 num, .string name, u], .agg #[.int .i64 op, .int .i64 num, .string name, v]] w fun e w' => e = .returned (.bool true) ∧ Below w.heap.size w w' := by
  have hb := beq_yes (rfl : name = name)
  have BW : Hid (Below w.heap.size w ((w.alloc (.cells #[.int .i64 op, .int .i64 num, .string name, u] 51)).alloc (.cells #[.int .i64 op, .int .i64 num, .string name, v] 51))) := ((Below.refl _ _).alloc (Nat.le_refl _) _).alloc (by simp) _
  have HE : Hid (_) := eqIntS_same u v ks _ hx (h.below BW.out) (h'.below BW.out)
  obtain ⟨a, cap, rfl⟩ := h.slice
  obtain ⟨a', cap', rfl⟩ := h'.slice
  clear h h'
  go_enter Try.func66, Try.ntmps66
  go_wp2_with fail
  refine Calls.mono HE.out ?_
  rintro e w1 ⟨rfl, q, hq⟩
  have B1 : Hid (Below w.heap.size w w1) := by rw [hq]; exact bel_drewN BW.out q
  clear hq HE
  go_wp2
  go_ret
  exact ⟨rfl, B1.out⟩

theorem cells_keep8 {W W' : World} {a b c d a' b' c' d' : Addr} {x y z u x' y' z' u' : Value} (h : W.cell? a = some x ∧ W.cell? b = some y ∧ W.cell? c = some z ∧ W.cell? d = some u ∧ W.cell? a' = some x' ∧ W.cell? b' = some y' ∧ W.cell? c' = some z' ∧ W.cell? d' = some u') (hb : Below W.heap.size W W') :
    W'.cell? a = some x ∧ W'.cell? b = some y ∧ W'.cell? c = some z ∧ W'.cell? d = some u ∧ W'.cell? a' = some x' ∧ W'.cell? b' = some y' ∧ W'.cell? c' = some z' ∧ W'.cell? d' = some u' :=
  ⟨cell_keep h.1 hb, cell_keep h.2.1 hb, cell_keep h.2.2.1 hb, cell_keep h.2.2.2.1 hb, cell_keep h.2.2.2.2.1 hb, cell_keep h.2.2.2.2.2.1 hb, cell_keep h.2.2.2.2.2.2.1 hb, cell_keep h.2.2.2.2.2.2.2 hb⟩

set_option maxHeartbeats 3200000 in
theorem eqExNodeS_same (u v : Value) (ns : List NodeD) (w : World) (hn : ns.length ≤ 1048576) (hz : ∀ x ∈ ns, x.kids.length ≤ 1048576) (h : NRow w u ns) (h' : NRow w v ns) :
    Calls Try.prog 65 #[u, v] w fun e w' => e = .returned (.bool true) ∧ Below w.heap.size w w' := by
  have HX : Hid (NRow w u ns) := h
  have HY : Hid (NRow w v ns) := h'
  have HZ : Hid (∀ x ∈ ns, x.kids.length ≤ 1048576) := hz
  obtain ⟨a, cap, rfl⟩ := h.slice
  obtain ⟨a', cap', rfl⟩ := h'.slice
  clear h h' hz
  go_enter Try.func65, Try.ntmps65
  go_wp2
  go_loopw [5] (fun iv wr => ∃ k : Nat, iv = .int .i64 k ∧ k ≤ ns.length ∧ Below w.heap.size w wr) (fun iv _ => ns.length - (intOf iv).toNat)
  case atStart => exact ⟨0, rfl, Nat.zero_le _, Below.refl _ _⟩
  case round =>
    obtain ⟨k, rfl, hk, hb⟩ := hrel
    have HB : Hid (Below w.heap.size w wr) := hb
    have HXr : Hid (NRow wr (.slice a ns.length cap) ns) := HX.out.below hb
    have HYr : Hid (NRow wr (.slice a' ns.length cap') ns) := HY.out.below hb
    clear hb
    by_cases hlt : k < ns.length
    · obtain ⟨b, off, kv, rfl, n0, n1, n2, n3, hI⟩ := HXr.out.at hlt
      obtain ⟨b', off', kv', rfl, m0, m1, m2, m3, hI'⟩ := HYr.out.at hlt
      have i4 : (k : Int) < (ns.length : Int) := by omega
      have HE : Hid (_) := eqExNode_same ns[k].op ns[k].num ns[k].name kv kv' ns[k].kids wr.drew (HZ.out _ (List.getElem_mem hlt)) (hI.below (bel_drewN (Below.refl _ _) 1)) (hI'.below (bel_drewN (Below.refl _ _) 1))
      clear hI hI'
      generalize ns[k].op = op at *
      generalize ns[k].num = num at *
      generalize ns[k].name = name at *
      go_wp2
      go_region_held3 (fun W => W.cell? ⟨b, off + k * 4, none⟩ = some (.int .i64 op) ∧ W.cell? ⟨b, off + k * 4 + 1, none⟩ = some (.int .i64 num) ∧ W.cell? ⟨b, off + k * 4 + 2, none⟩ = some (.string name) ∧ W.cell? ⟨b, off + k * 4 + 3, none⟩ = some kv ∧ W.cell? ⟨b', off' + k * 4, none⟩ = some (.int .i64 op) ∧ W.cell? ⟨b', off' + k * 4 + 1, none⟩ = some (.int .i64 num) ∧ W.cell? ⟨b', off' + k * 4 + 2, none⟩ = some (.string name) ∧ W.cell? ⟨b', off' + k * 4 + 3, none⟩ = some kv')
        ((first | exact cells_keep8 (by assumption) hb2 | go_keep))
        ((first | (go_at_call 66; refine Calls.mono HE.out ?_; rintro e w2 ⟨rfl, hb2⟩)))
      have HB2 : Hid (Below w.heap.size w w2) := HB.out.trans ((bel_of_drew hb2).mono HB.out.size)
      clear hb2
      go_wp2
      go_roundw
      case rel => exact ⟨k + 1, by go_num, by omega, HB2.out⟩
      case measure => simp [intOf]; omega
    · obtain rfl : k = ns.length := by omega
      go_wp2
      go_ret
      exact ⟨rfl, HB.out⟩

theorem eqExpr_same (u v : Value) (ns : List NodeD) (w : World) (hn : ns.length ≤ 1048576) (hz : ∀ x ∈ ns, x.kids.length ≤ 1048576) (h : NRow w u ns) (h' : NRow w v ns) :
    Calls Try.prog 64 #[.agg #[u], .agg #[v]] w fun e w' => e = .returned (.bool true) ∧ Below w.heap.size w w' := by
  have BW : Hid (Below w.heap.size w ((w.alloc (.cells #[u] 47)).alloc (.cells #[v] 47))) := ((Below.refl _ _).alloc (Nat.le_refl _) _).alloc (by simp) _
  have HE : Hid (_) := eqExNodeS_same u v ns _ hn hz (h.below BW.out) (h'.below BW.out)
  obtain ⟨a, cap, rfl⟩ := h.slice
  obtain ⟨a', cap', rfl⟩ := h'.slice
  clear h h' hz
  go_enter Try.func64, Try.ntmps64
  go_wp2_with fail
  refine Calls.mono HE.out ?_
  rintro e w1 ⟨rfl, hb1⟩
  have B1 : Hid (Below w.heap.size w w1) := BW.out.trans (hb1.mono BW.out.size)
  clear hb1 HE
  go_wp2
  go_ret
  exact ⟨rfl, B1.out⟩

end Go.Proofs.Ytbjkfecailnelaa
