/- The laws' own helpers on expressions: whole ones copied, compared with their like. -/
/- Marks written into an expression's nodes, and into a list of texts and looked for again. -/
import Derived.Test.YtofpoiccghpliaaGreatDoorXKit2
import Derived.Test.YtofpoiccghpliaaGreatDoorSKit
import Derived.Deep.RegionHeld3
namespace Go.Proofs.YtofpoiccghpliaaGreatDoor
open Go.RowKit

theorem OwnN.setLow {B : Nat} {v : Value} {ns : List NodeD} {w : World} (h : OwnN B v ns w) {b : Nat} (hb : b < B) (j : Nat) (u : Value) : OwnN B v ns (w.setCell ⟨b, j, none⟩ u) := by
  obtain ⟨qs, e, h1, h2⟩ := h
  refine ⟨qs, e, World.ownsRow.kept h1 (grow_set w b j u) ?_, fun q hq => World.ownsRow.kept (h2 q hq) (grow_set w b j u) (off_block (h2 q hq) hb)⟩
  cases hv : v.ownBlock with
  | none => exact .inl rfl
  | some k => exact .inr (fun e => by have := (World.ownsRow.lt h1 k hv).1; have e2 : k = b := Option.some.inj e; omega)
theorem OwnN.base {B B' : Nat} {v : Value} {ns : List NodeD} {w : World} (h : OwnN B v ns w) (hB : B' ≤ B) : OwnN B' v ns w := by
  obtain ⟨qs, e, h1, h2⟩ := h
  refine ⟨qs, e, ⟨h1.1, ?_⟩, fun q hq => (h2 q hq).base hB⟩
  rcases h1.2 with h | ⟨g, cap, cur, e, hg, r⟩
  · exact .inl h
  · exact .inr ⟨g, cap, cur, e, Nat.le_trans hB hg, r⟩

theorem ex1_at (w : World) (x y z : Value) (s t : TypeId) {B : Nat} (hB : w.heap.size = B) :
    (((w.alloc (.cells #[x] s)).alloc (.cells #[y] t)).alloc (.cells #[z] t)).heap[B + 1]? = some (.cells #[y] t) ∧ (((w.alloc (.cells #[x] s)).alloc (.cells #[y] t)).alloc (.cells #[z] t)).heap[B + 2]? = some (.cells #[z] t) := by
  subst hB
  have e1 : (w.alloc (.cells #[x] s)).heap.size = w.heap.size + 1 := by simp
  have e2 : ((w.alloc (.cells #[x] s)).alloc (.cells #[y] t)).heap.size = w.heap.size + 2 := by simp
  refine ⟨?_, ?_⟩
  · rw [Below.heap_alloc _ _ _ (by rw [e2]; omega)]
    have := heap_alloc_new (w.alloc (.cells #[x] s)) (.cells #[y] t)
    rwa [e1] at this
  · have := heap_alloc_new ((w.alloc (.cells #[x] s)).alloc (.cells #[y] t)) (.cells #[z] t)
    rwa [e2] at this

set_option maxHeartbeats 1600000 in
theorem toExpr_any (v : Value) (ns : List NodeD) (w : World) (hn : ns.length ≤ 1048576) (hz : ∀ x ∈ ns, x.kids.length ≤ 1048576) (h : NRow w v ns) :
    Calls Tryz.prog 109 #[.agg #[v]] w fun e w' => ∃ o, e = .returned (.agg #[o]) ∧ OwnN w.heap.size o ns w' ∧ Below w.heap.size w w' := by
  obtain ⟨a, cap, rfl⟩ := h.slice
  have HR : Hid (NRow w (.slice a ns.length cap) ns) := h
  have HZ : Hid (∀ x ∈ ns, x.kids.length ≤ 1048576) := hz
  clear h hz
  obtain ⟨B, hB⟩ : ∃ B, w.heap.size = B := ⟨_, rfl⟩
  go_enter Tryz.func109, Tryz.ntmps109
  go_wp2_with fail
  obtain ⟨hb1, hb2⟩ := ex1_at w (.slice a ns.length cap) (.slice none 0 0) (.slice none 0 0) 151 107 hB
  have BW : Hid (Below w.heap.size w (((w.alloc (.cells #[.slice a ns.length cap] 151)).alloc (.cells #[.slice none 0 0] 107)).alloc (.cells #[.slice none 0 0] 107))) := (((Below.refl _ _).alloc (Nat.le_refl _) _).alloc (by simp) _).alloc (by simp; omega) _
  have hszW : (((w.alloc (.cells #[.slice a ns.length cap] 151)).alloc (.cells #[.slice none 0 0] 107)).alloc (.cells #[.slice none 0 0] 107)).heap.size = B + 3 := by simp [hB]
  generalize ((w.alloc (.cells #[.slice a ns.length cap] 151)).alloc (.cells #[.slice none 0 0] 107)).alloc (.cells #[.slice none 0 0] 107) = W0 at *
  refine (toExNodeS_any _ ns W0 hn HZ.out (HR.out.below BW.out)).mono ?_
  rintro e w2 ⟨o, rfl, ho, hbc⟩
  have B2 : Hid (Below w.heap.size w w2) := BW.out.trans (hbc.mono BW.out.size)
  have HO2 : Hid (OwnN (B + 3) o ns w2) := by rw [← hszW]; exact ho
  obtain ⟨ao, co, rfl⟩ := ho.row.slice
  have k1 : w2.heap[B + 1]? = some (.cells #[.slice none 0 0] 107) := (hbc.block _ (by omega)).trans hb1
  have k2 : w2.heap[B + 2]? = some (.cells #[.slice none 0 0] 107) := (hbc.block _ (by omega)).trans hb2
  clear ho hbc hb1 hb2
  have c1 : w2.cell? ⟨B + 1, 0, none⟩ = some (.slice none 0 0) := by rw [cell_of_row _ _ 0 _ _ _ k1]; rfl
  have c2 : w2.cell? ⟨B + 1 + 1, 0, none⟩ = some (.slice none 0 0) := by rw [cell_of_row _ _ 0 _ _ _ k2]; rfl
  have f1 : w2.frozen? ⟨B + 1, 0, none⟩ = false := by unfold World.frozen?; rw [k1]; simp
  have f2 : w2.frozen? ⟨B + 1 + 1, 0, none⟩ = false := by unfold World.frozen?; rw [show B + 1 + 1 = B + 2 from rfl, k2]; simp
  clear k1 k2
  have HO3 : Hid (OwnN (B + 3) (.slice ao ns.length co) ns (w2.setCell ⟨B + 1 + 1, 0, none⟩ (.slice ao ns.length co))) := HO2.out.setLow (by omega) _ _
  have B3 : Hid (Below w.heap.size w (w2.setCell ⟨B + 1 + 1, 0, none⟩ (.slice ao ns.length co))) := B2.out.setCell (by show w.heap.size ≤ B + 1 + 1; omega) _
  have d2 : (w2.setCell ⟨B + 1 + 1, 0, none⟩ (.slice ao ns.length co)).cell? ⟨B + 1 + 1, 0, none⟩ = some (.slice ao ns.length co) := World.cell?_setCell_same _ _ _ c2
  have d1 : (w2.setCell ⟨B + 1 + 1, 0, none⟩ (.slice ao ns.length co)).cell? ⟨B + 1, 0, none⟩ = some (.slice none 0 0) := (World.cell?_setCell_other _ _ _ _ (by simp)).trans c1
  have e1 : (w2.setCell ⟨B + 1 + 1, 0, none⟩ (.slice ao ns.length co)).frozen? ⟨B + 1, 0, none⟩ = false := (World.frozen?_setCell _ _ _ _).trans f1
  go_wp2
  generalize w2.setCell ⟨B + 1 + 1, 0, none⟩ (.slice ao ns.length co) = W3 at *
  have HO4 : Hid (OwnN w.heap.size (.slice ao ns.length co) ns (W3.setCell ⟨B + 1, 0, none⟩ (.slice ao ns.length co))) := (HO3.out.setLow (by omega) _ _).base (by omega)
  have B4 : Hid (Below w.heap.size w (W3.setCell ⟨B + 1, 0, none⟩ (.slice ao ns.length co))) := B3.out.setCell (by show w.heap.size ≤ B + 1; omega) _
  have r0 : (W3.setCell ⟨B + 1, 0, none⟩ (.slice ao ns.length co)).cell? ⟨B + 1, 0, none⟩ = some (.slice ao ns.length co) := World.cell?_setCell_same _ _ _ d1
  clear d1 d2 e1 f1 f2 c1 c2
  generalize W3.setCell ⟨B + 1, 0, none⟩ (.slice ao ns.length co) = W5 at *
  (try simp only [Exit.inBlock, Exit.then])
  refine bodyPost_ret (by simp [results, Tryz.results109, go_sem, r0]; try rfl) rfl ?_
  exact ⟨_, rfl, HO4.out, B4.out⟩

set_option maxHeartbeats 1600000 in
theorem eqIntS_same (u v : Value) (ks : List Int) (w : World) (hx : ks.length ≤ 1048576) (h : IRow w u ks) (h' : IRow w v ks) :
    Calls Tryz.prog 156 #[u, v] w fun e w' => e = .returned (.bool true) ∧ ∃ q, w' = w.drewN q := by
  have HX : Hid (IRow w u ks) := h
  have HY : Hid (IRow w v ks) := h'
  obtain ⟨a, cap, rfl⟩ := h.slice
  obtain ⟨a', cap', rfl⟩ := h'.slice
  clear h h'
  go_enter Tryz.func156, Tryz.ntmps156
  go_wp2
  go_loopw [5] (fun iv wr => ∃ k q : Nat, iv = .int .i64 k ∧ k ≤ ks.length ∧ wr = w.drewN q) (fun iv _ => ks.length - (intOf iv).toNat)
  case atStart => exact ⟨0, 0, rfl, Nat.zero_le _, rfl⟩
  case round =>
    obtain ⟨k, q, rfl, hk, hwr⟩ := hrel
    have HW : Hid (wr = w.drewN q) := hwr
    have HXr : Hid (IRow wr (.slice a ks.length cap) ks) := by rw [HW.out]; exact HX.out.below (bel_drewN (Below.refl _ _) q)
    have HYr : Hid (IRow wr (.slice a' ks.length cap') ks) := by rw [HW.out]; exact HY.out.below (bel_drewN (Below.refl _ _) q)
    clear hwr
    by_cases hlt : k < ks.length
    · obtain ⟨b, off, rfl, hc1⟩ := HXr.out.at hlt
      obtain ⟨b', off', rfl, hc2⟩ := HYr.out.at hlt
      have i4 : (k : Int) < (ks.length : Int) := by omega
      go_wp2
      go_big_quiet (fail)
      go_wp2
      go_roundw
      case rel => exact ⟨k + 1, q + nq, by go_num, by omega, by rw [HW.out, World.drewN_drewN]⟩
      case measure => simp [intOf]; omega
    · obtain rfl : k = ks.length := by omega
      go_wp2
      go_ret
      exact ⟨rfl, q, HW.out⟩

set_option maxHeartbeats 1600000 in
theorem eqExNode_same (op num : Int) (name : ByteArray) (u v : Value) (ks : List Int) (w : World) (hx : ks.length ≤ 1048576) (h : IRow w u ks) (h' : IRow w v ks) :
    Calls Tryz.prog 144 #[.agg #[.int .i64 op, .int .i64 num, .string name, u], .agg #[.int .i64 op, .int .i64 num, .string name, v]] w fun e w' => e = .returned (.bool true) ∧ Below w.heap.size w w' := by
  have hb := beq_yes (rfl : name = name)
  have BW : Hid (Below w.heap.size w ((w.alloc (.cells #[.int .i64 op, .int .i64 num, .string name, u] 138)).alloc (.cells #[.int .i64 op, .int .i64 num, .string name, v] 138))) := ((Below.refl _ _).alloc (Nat.le_refl _) _).alloc (by simp) _
  have HE : Hid (_) := eqIntS_same u v ks _ hx (h.below BW.out) (h'.below BW.out)
  obtain ⟨a, cap, rfl⟩ := h.slice
  obtain ⟨a', cap', rfl⟩ := h'.slice
  clear h h'
  go_enter Tryz.func144, Tryz.ntmps144
  go_wp2_with fail
  refine Calls.mono HE.out ?_
  rintro e w1 ⟨rfl, q, hq⟩
  have B1 : Hid (Below w.heap.size w w1) := by rw [hq]; exact bel_drewN BW.out q
  clear hq HE
  go_wp2
  go_ret
  exact ⟨rfl, B1.out⟩

theorem cells_keep8 {W W' : World} {a b c d a' b' c' d' : Addr} {x y z u x' y' z' u' : Value} (h : W.cell? a = some x ∧ W.cell? b = some y ∧ W.cell? c = some z ∧ W.cell? d = some u ∧ W.cell? a' = some x' ∧ W.cell? b' = some y' ∧ W.cell? c' = some z' ∧ W.cell? d' = some u') (hb : Below W.heap.size W W') :
    W'.cell? a = some x ∧ W'.cell? b = some y ∧ W'.cell? c = some z ∧ W'.cell? d = some u ∧ W'.cell? a' = some x' ∧ W'.cell? b' = some y' ∧ W'.cell? c' = some z' ∧ W'.cell? d' = some u' :=
  ⟨cell_keep h.1 hb, cell_keep h.2.1 hb, cell_keep h.2.2.1 hb, cell_keep h.2.2.2.1 hb, cell_keep h.2.2.2.2.1 hb, cell_keep h.2.2.2.2.2.1 hb, cell_keep h.2.2.2.2.2.2.1 hb, cell_keep h.2.2.2.2.2.2.2 hb⟩

set_option maxHeartbeats 3200000 in
theorem eqExNodeS_same (u v : Value) (ns : List NodeD) (w : World) (hn : ns.length ≤ 1048576) (hz : ∀ x ∈ ns, x.kids.length ≤ 1048576) (h : NRow w u ns) (h' : NRow w v ns) :
    Calls Tryz.prog 125 #[u, v] w fun e w' => e = .returned (.bool true) ∧ Below w.heap.size w w' := by
  have HX : Hid (NRow w u ns) := h
  have HY : Hid (NRow w v ns) := h'
  have HZ : Hid (∀ x ∈ ns, x.kids.length ≤ 1048576) := hz
  obtain ⟨a, cap, rfl⟩ := h.slice
  obtain ⟨a', cap', rfl⟩ := h'.slice
  clear h h' hz
  go_enter Tryz.func125, Tryz.ntmps125
  go_wp2
  go_loopw [5] (fun iv wr => ∃ k : Nat, iv = .int .i64 k ∧ k ≤ ns.length ∧ Below w.heap.size w wr) (fun iv _ => ns.length - (intOf iv).toNat)
  case atStart => exact ⟨0, rfl, Nat.zero_le _, Below.refl _ _⟩
  case round =>
    obtain ⟨k, rfl, hk, hb⟩ := hrel
    have HB : Hid (Below w.heap.size w wr) := hb
    have HXr : Hid (NRow wr (.slice a ns.length cap) ns) := HX.out.below hb
    have HYr : Hid (NRow wr (.slice a' ns.length cap') ns) := HY.out.below hb
    clear hb
    by_cases hlt : k < ns.length
    · obtain ⟨b, off, kv, rfl, n0, n1, n2, n3, hI⟩ := HXr.out.at hlt
      obtain ⟨b', off', kv', rfl, m0, m1, m2, m3, hI'⟩ := HYr.out.at hlt
      have i4 : (k : Int) < (ns.length : Int) := by omega
      have HE : Hid (_) := eqExNode_same ns[k].op ns[k].num ns[k].name kv kv' ns[k].kids wr.drew (HZ.out _ (List.getElem_mem hlt)) (hI.below (bel_drewN (Below.refl _ _) 1)) (hI'.below (bel_drewN (Below.refl _ _) 1))
      clear hI hI'
      generalize ns[k].op = op at *
      generalize ns[k].num = num at *
      generalize ns[k].name = name at *
      go_wp2
      go_region_held3 (fun W => W.cell? ⟨b, off + k * 4, none⟩ = some (.int .i64 op) ∧ W.cell? ⟨b, off + k * 4 + 1, none⟩ = some (.int .i64 num) ∧ W.cell? ⟨b, off + k * 4 + 2, none⟩ = some (.string name) ∧ W.cell? ⟨b, off + k * 4 + 3, none⟩ = some kv ∧ W.cell? ⟨b', off' + k * 4, none⟩ = some (.int .i64 op) ∧ W.cell? ⟨b', off' + k * 4 + 1, none⟩ = some (.int .i64 num) ∧ W.cell? ⟨b', off' + k * 4 + 2, none⟩ = some (.string name) ∧ W.cell? ⟨b', off' + k * 4 + 3, none⟩ = some kv')
        ((first | exact cells_keep8 (by assumption) hb2 | go_keep))
        ((first | (go_at_call 144; refine Calls.mono HE.out ?_; rintro e w2 ⟨rfl, hb2⟩)))
      have HB2 : Hid (Below w.heap.size w w2) := HB.out.trans ((bel_of_drew hb2).mono HB.out.size)
      clear hb2
      go_wp2
      go_roundw
      case rel => exact ⟨k + 1, by go_num, by omega, HB2.out⟩
      case measure => simp [intOf]; omega
    · obtain rfl : k = ns.length := by omega
      go_wp2
      go_ret
      exact ⟨rfl, HB.out⟩

theorem eqExpr_same (u v : Value) (ns : List NodeD) (w : World) (hn : ns.length ≤ 1048576) (hz : ∀ x ∈ ns, x.kids.length ≤ 1048576) (h : NRow w u ns) (h' : NRow w v ns) :
    Calls Tryz.prog 117 #[.agg #[u], .agg #[v]] w fun e w' => e = .returned (.bool true) ∧ Below w.heap.size w w' := by
  have BW : Hid (Below w.heap.size w ((w.alloc (.cells #[u] 107)).alloc (.cells #[v] 107))) := ((Below.refl _ _).alloc (Nat.le_refl _) _).alloc (by simp) _
  have HE : Hid (_) := eqExNodeS_same u v ns _ hn hz (h.below BW.out) (h'.below BW.out)
  obtain ⟨a, cap, rfl⟩ := h.slice
  obtain ⟨a', cap', rfl⟩ := h'.slice
  clear h h' hz
  go_enter Tryz.func117, Tryz.ntmps117
  go_wp2_with fail
  refine Calls.mono HE.out ?_
  rintro e w1 ⟨rfl, hb1⟩
  have B1 : Hid (Below w.heap.size w w1) := BW.out.trans (hb1.mono BW.out.size)
  clear hb1 HE
  go_wp2
  go_ret
  exact ⟨rfl, B1.out⟩

end Go.Proofs.YtofpoiccghpliaaGreatDoor

namespace Go.Proofs.YtofpoiccghpliaaGreatDoor
open Go.RowKit

/-- Nothing has changed but blocks from B on below H, and new ones. -/
structure Mid (B H : Nat) (w w' : World) : Prop where
  os : w'.os = w.os
  tape : w'.tape = w.tape
  output : w'.output = w.output
  size : w.heap.size ≤ w'.heap.size
  block : ∀ j, j < w.heap.size → (j < B ∨ H ≤ j) → w'.heap[j]? = w.heap[j]?
theorem Mid.refl (B H : Nat) (w : World) : Mid B H w w := ⟨rfl, rfl, rfl, Nat.le_refl _, fun _ _ _ => rfl⟩
theorem Mid.trans {B H : Nat} {w w1 w2 : World} (h : Mid B H w w1) (k : Mid B H w1 w2) : Mid B H w w2 :=
  ⟨k.os.trans h.os, k.tape.trans h.tape, k.output.trans h.output, Nat.le_trans h.size k.size, fun j hj hr => (k.block j (Nat.lt_of_lt_of_le hj h.size) hr).trans (h.block j hj hr)⟩
theorem mid_below {B H : Nat} {w w' : World} (h : Below w.heap.size w w') : Mid B H w w' := ⟨h.os, h.tape, h.output, h.size, fun j hj _ => h.block j hj⟩
theorem mid_grown {B H : Nat} {w w' : World} {row : Option Nat} (h : w.grownBy w' row) (hr : ∀ k, row = some k → B ≤ k ∧ k < H) : Mid B H w w' :=
  ⟨h.os, h.tape, h.output, h.size, fun j hj hB => h.block j hj (fun e => by have := hr j e.symm; omega)⟩
theorem Mid.onto {B H C : Nat} {w w1 w2 : World} (h : Below C w w1) (hC : C ≤ w.heap.size) (hB : C ≤ B) (k : Mid B H w1 w2) : Below C w w2 :=
  ⟨k.os.trans h.os, k.tape.trans h.tape, k.output.trans h.output, Nat.le_trans h.size k.size, fun j hj => (k.block j (by have := h.size; omega) (.inl (by omega))).trans (h.block j hj)⟩
theorem own_mid {B H C : Nat} {e : TypeId} {s n : Nat} {v : Value} {cs : List Value} {w w' : World} (h : w.ownsRow C e s v n cs) (hm : Mid B H w w') (hne : ∀ k, v.ownBlock = some k → k < B ∨ H ≤ k) : w'.ownsRow C e s v n cs := by
  refine ⟨h.1, ?_⟩
  rcases h.2 with h | ⟨g, cap, cur, rfl, hB, hc, r⟩
  · exact .inl h
  · exact .inr ⟨g, cap, cur, rfl, hB, (hm.block g (Array.getElem?_eq_some_iff.1 hc).1 (hne g rfl)).trans hc, r⟩

/-- Two rows of two kinds are two blocks. -/
theorem own_ne {B B' : Nat} {e e' : TypeId} {s s' n n' : Nat} {v v' : Value} {cs cs' : List Value} {w : World} (h : w.ownsRow B e s v n cs) (h' : w.ownsRow B' e' s' v' n' cs') (hne : e ≠ e') : v.ownBlock = none ∨ v.ownBlock ≠ v'.ownBlock := by
  rcases h.2 with ⟨rfl, _⟩ | ⟨g, cap, cur, rfl, _, hc, _⟩
  · exact .inl rfl
  · refine .inr (fun eq => ?_)
    rcases h'.2 with ⟨rfl, _⟩ | ⟨g', cap', cur', rfl, _, hc', _⟩
    · cases eq
    · obtain rfl : g = g' := Option.some.inj eq
      rw [hc] at hc'
      cases hc'
      exact hne rfl
/-- A row whose block has been written into through another row of the same block. -/
theorem own_again {B : Nat} {e : TypeId} {s n n' : Nat} {v v' : Value} {cs cs' cs2 : List Value} {w w' : World} (h : w.ownsRow B e s v n cs) (h' : w.ownsRow B e s v' n' cs') (hg : w.grownBy w' v.ownBlock) (hn : w'.ownsRow B e s v n cs2) : ∃ cs3, w'.ownsRow B e s v' n' cs3 := by
  by_cases he : v'.ownBlock = none ∨ v'.ownBlock ≠ v.ownBlock
  · exact ⟨_, World.ownsRow.kept h' hg he⟩
  · rcases h'.2 with ⟨rfl, _⟩ | ⟨g', cap', cur', rfl, hB', hc', hle', hm', hs', ht'⟩
    · exact absurd (.inl rfl) he
    · have hv : v.ownBlock = some g' := by
        by_cases h0 : some g' = v.ownBlock
        · exact h0.symm
        · exact absurd (.inr h0) he
      rcases h.2 with ⟨rfl, _⟩ | ⟨g, cap, cur, rfl, hB, hc, hle, hm, hs, ht⟩
      · cases hv
      · obtain rfl : g = g' := Option.some.inj hv
        rw [hc] at hc'
        cases hc'
        rcases hn.2 with ⟨h0, _⟩ | ⟨g2, cap2, cur2, e2, hB2, hc2, hle2, hm2, hs2, ht2⟩
        · cases h0
        · cases e2
          have hz : cur2.size = cap' * s := by rw [hs2, ← hs, hs']
          refine ⟨cur2.toList.take (n' * s), ?_, .inr ⟨g, cap', cur2, rfl, hB', hc2, hle', hm', hz, rfl⟩⟩
          rw [List.length_take, Array.length_toList, hz]
          exact Nat.min_eq_left (Nat.mul_le_mul_right _ hle')

/-- A node's kids: a row of at most K numbers, in a block below H. -/
def Kid (B H K : Nat) (w : World) (kv : Value) : Prop := ∃ m ds, m ≤ K ∧ w.ownsRow B 3 1 kv m ds ∧ ∀ g, kv.ownBlock = some g → g < H
/-- Nodes whose cells may be written into. -/
def MkC (B H K : Nat) (v : Value) (n : Nat) (cs : List Value) (w : World) : Prop :=
  w.ownsRow B 138 4 v n cs ∧ (∀ g, v.ownBlock = some g → g < H) ∧ ∀ i, i < n → ∃ kv, cs[i * 4 + 3]? = some kv ∧ Kid B H K w kv
theorem MkC.below {B H K n : Nat} {v : Value} {cs : List Value} {w w' : World} (h : MkC B H K v n cs w) (hb : Below w.heap.size w w') : MkC B H K v n cs w' := by
  refine ⟨own_below h.1 hb, h.2.1, fun i hi => ?_⟩
  obtain ⟨kv, e, m, ds, hm, ho, hg⟩ := h.2.2 i hi
  exact ⟨kv, e, m, ds, hm, own_below ho hb, hg⟩
theorem MkC.stored {B H K n g cap : Nat} {cs : List Value} {w : World} (h : MkC B H K (.slice (some ⟨g, 0, none⟩) n cap) n cs w) (j : Nat) (hj : j % 4 ≠ 3) (u : Value) :
    MkC B H K (.slice (some ⟨g, 0, none⟩) n cap) n (cs.set j u) (w.setCell ⟨g, j, none⟩ u) := by
  refine ⟨(World.ownsRow.stored h.1 j u).1, h.2.1, fun i hi => ?_⟩
  obtain ⟨kv, e, m, ds, hm, ho, hg⟩ := h.2.2 i hi
  refine ⟨kv, by rw [List.getElem?_set_ne (by omega)]; exact e, m, ds, hm, World.ownsRow.kept ho (grow_set w g j u) ?_, hg⟩
  rcases own_ne ho h.1 (by decide) with h0 | h0
  · exact .inl h0
  · exact .inr h0
theorem MkC.marked {B H K n m : Nat} {v kv : Value} {cs ds ds' : List Value} {w w' : World} (h : MkC B H K v n cs w) (ho : w.ownsRow B 3 1 kv m ds) (hg : w.grownBy w' kv.ownBlock) (hn : w'.ownsRow B 3 1 kv m ds') : MkC B H K v n cs w' := by
  refine ⟨World.ownsRow.kept h.1 hg (own_ne h.1 ho (by decide)), h.2.1, fun i hi => ?_⟩
  obtain ⟨kv2, e, m2, ds2, hm, ho2, hg2⟩ := h.2.2 i hi
  obtain ⟨ds3, h3⟩ := own_again ho ho2 hg hn
  exact ⟨kv2, e, m2, ds3, hm, h3, hg2⟩
theorem OwnN.mk {B : Nat} {v : Value} {ns : List NodeD} {w : World} (h : OwnN B v ns w) (K : Nat) (hK : ∀ x ∈ ns, x.kids.length ≤ K) : ∃ cs, MkC B w.heap.size K v ns.length cs w := by
  obtain ⟨qs, rfl, h1, h2⟩ := h
  refine ⟨nv qs, ?_, fun g hg => (World.ownsRow.lt h1 g hg).2, fun i hi => ?_⟩
  · rw [List.length_map]; exact h1
  · rw [List.length_map] at hi
    have hq := h2 _ (List.getElem_mem hi)
    exact ⟨_, (nv_at qs i hi).2.2.2, _, _, hK _ (List.mem_map.2 ⟨_, List.getElem_mem hi, rfl⟩), hq, fun g hg => (World.ownsRow.lt hq g hg).2⟩

theorem mark_int (z : Int) (w : World) (h0 : 0 < z) (h1 : z ≤ 1000000000000) :
    Calls Tryz.prog 21 #[.int .i64 z] w fun e w' => ∃ T, e = .returned (.string T) ∧ Below w.heap.size w w' := by
  obtain ⟨n, rfl⟩ := Int.eq_ofNat_of_zero_le (show 0 ≤ z by omega)
  refine (mark_any n w (by omega) (by omega)).mono ?_
  rintro e w' ⟨rfl, hb⟩
  exact ⟨_, rfl, hb⟩

set_option maxHeartbeats 800000 in
theorem markIntS_any (B : Nat) (v : Value) (n : Nat) (cs : List Value) (z : Int) (w : World) (hn : n ≤ 10000000) (h0 : 0 < z) (h1 : z ≤ 1000000000000) (hown : w.ownsRow B 3 1 v n cs) :
    Calls Tryz.prog 97 #[v, .int .i64 z] w fun e w' => e = .returned (.int .i64 (z + n)) ∧ (∃ ds, w'.ownsRow B 3 1 v n ds) ∧ w.grownBy w' v.ownBlock := by
  by_cases hz : n = 0
  · subst hz
    have HO : Hid (w.ownsRow B 3 1 v 0 cs) := hown
    obtain ⟨a, cap, rfl⟩ : ∃ a cap, v = .slice a 0 cap := by
      rcases hown.2 with ⟨rfl, _⟩ | ⟨g, cap, cur, rfl, _⟩
      · exact ⟨_, _, rfl⟩
      · exact ⟨_, _, rfl⟩
    clear hown
    go_enter Tryz.func97, Tryz.ntmps97
    go_wp2
    go_loop [1, 5] (fun kv iv => kv = .int .i64 z ∧ iv = .int .i64 0) (fun _ _ => 0)
    case atStart => exact ⟨rfl, rfl⟩
    case round =>
      obtain ⟨rfl, rfl⟩ := hrel
      go_wp2
      go_ret
      exact ⟨by simp, ⟨_, HO.out⟩, World.grownBy.refl _ _⟩
  · obtain ⟨g, cap, rfl, hBg, hgl⟩ := World.ownsRow.form hown (by omega)
    have HO : Hid (w.ownsRow B 3 1 (.slice (some ⟨g, 0, none⟩) n cap) n cs) := hown
    clear hown
    go_enter Tryz.func97, Tryz.ntmps97
    go_wp2
    go_loopw [1, 5] (fun kv iv wr => ∃ (i : Nat) (ds : List Value), kv = .int .i64 (z + i) ∧ iv = .int .i64 i ∧ i ≤ n ∧ wr.ownsRow B 3 1 (.slice (some ⟨g, 0, none⟩) n cap) n ds ∧ w.grownBy wr (some g)) (fun _ iv _ => n - (intOf iv).toNat)
    case atStart => exact ⟨0, _, by simp, rfl, Nat.zero_le _, HO.out, World.grownBy.refl _ _⟩
    case round =>
      obtain ⟨i, ds, rfl, rfl, hi, hown, hgr⟩ := hrel
      have HW : Hid (wr.ownsRow B 3 1 (.slice (some ⟨g, 0, none⟩) n cap) n ds) := hown
      have HG : Hid (w.grownBy wr (some g)) := hgr
      clear hown hgr
      by_cases hlt : i < n
      · obtain ⟨c0, hc0, f0⟩ := own_cell HW.out i (by omega)
        go_wp2
        go_roundw
        case rel =>
          have s1 := World.ownsRow.stored HW.out i (.int .i64 (z + i))
          have t1 := s1.2
          exact ⟨i + 1, _, congrArg (Value.int .i64) (by omega), by go_num, by omega, s1.1, ⟨t1.os.trans HG.out.os, t1.tape.trans HG.out.tape, t1.output.trans HG.out.output, Nat.le_trans HG.out.size t1.size, fun j hj hr => (t1.block j (Nat.lt_of_lt_of_le hj HG.out.size) hr).trans (HG.out.block j hj hr)⟩⟩
        case measure => simp [intOf]; omega
      · obtain rfl : i = n := by omega
        go_wp2
        go_ret
        exact ⟨rfl, ⟨_, HW.out⟩, HG.out⟩

set_option maxHeartbeats 1600000 in
theorem markExNodeS_any (B H K : Nat) (v : Value) (n : Nat) (cs : List Value) (z : Int) (w : World) (hK : K ≤ 1048576) (hn : n ≤ 1048576) (h0 : 0 < z) (h1 : z + ((n * (K + 3) : Nat) : Int) ≤ 900000000000) (h : MkC B H K v n cs w) :
    Calls Tryz.prog 79 #[v, .int .i64 z] w fun e w' => ∃ r : Int, e = .returned (.int .i64 r) ∧ 0 < r ∧ Mid B H w w' := by
  by_cases hz : n = 0
  · subst hz
    obtain ⟨a, cap, rfl⟩ : ∃ a cap, v = .slice a 0 cap := by
      rcases h.1.2 with ⟨rfl, _⟩ | ⟨g, cap, cur, rfl, _⟩
      · exact ⟨_, _, rfl⟩
      · exact ⟨_, _, rfl⟩
    clear h
    go_enter Tryz.func79, Tryz.ntmps79
    go_wp2
    go_loop [1, 5] (fun kv iv => kv = .int .i64 z ∧ iv = .int .i64 0) (fun _ _ => 0)
    case atStart => exact ⟨rfl, rfl⟩
    case round =>
      obtain ⟨rfl, rfl⟩ := hrel
      go_wp2
      go_ret
      exact ⟨_, rfl, h0, Mid.refl _ _ _⟩
  · obtain ⟨g, cap, rfl, hBg, hgl⟩ := World.ownsRow.form h.1 (by omega)
    have HO : Hid (MkC B H K (.slice (some ⟨g, 0, none⟩) n cap) n cs w) := h
    have hgH : g < H := h.2.1 g rfl
    clear h
    go_enter Tryz.func79, Tryz.ntmps79
    go_wp2
    go_loopw [1, 5] (fun kv iv wr => ∃ (i : Nat) (y : Int) (ds : List Value), kv = .int .i64 y ∧ iv = .int .i64 i ∧ i ≤ n ∧ 0 < y ∧ y ≤ z + ((i * (K + 3) : Nat) : Int) ∧ MkC B H K (.slice (some ⟨g, 0, none⟩) n cap) n ds wr ∧ Mid B H w wr) (fun _ iv _ => n - (intOf iv).toNat)
    case atStart => exact ⟨0, z, _, rfl, rfl, Nat.zero_le _, h0, by simp, HO.out, Mid.refl _ _ _⟩
    case round =>
      obtain ⟨i, y, ds, rfl, rfl, hi, hy0, hy1, hmk, hmid⟩ := hrel
      have HW : Hid (MkC B H K (.slice (some ⟨g, 0, none⟩) n cap) n ds wr) := hmk
      have HM : Hid (Mid B H w wr) := hmid
      clear hmk hmid
      by_cases hlt : i < n
      · have m1 : (i + 1) * (K + 3) = i * (K + 3) + (K + 3) := Nat.succ_mul _ _
        have m2 : (i + 1) * (K + 3) ≤ n * (K + 3) := Nat.mul_le_mul_right _ hlt
        have HY : Hid (y + (K + 3) ≤ z + (((i + 1) * (K + 3) : Nat) : Int)) := by rw [Hid, m1]; omega
        have hyb : y + (K + 3) ≤ 900000000000 := by omega
        clear m1 m2 hy1
        obtain ⟨c0, hc0, f0⟩ := own_cell HW.out.1 (i * 4) (by omega)
        obtain ⟨c1, hc1, f1⟩ := own_cell HW.out.1 (i * 4 + 1) (by omega)
        have S2 : Hid (MkC B H K (.slice (some ⟨g, 0, none⟩) n cap) n ((ds.set (i * 4) (.int .i64 y)).set (i * 4 + 1) (.int .i64 (y + 1))) ((wr.setCell ⟨g, i * 4, none⟩ (.int .i64 y)).setCell ⟨g, i * 4 + 1, none⟩ (.int .i64 (y + 1)))) :=
          (HW.out.stored (i * 4) (by omega) _).stored (i * 4 + 1) (by omega) _
        have M2 : Hid (Mid B H w ((wr.setCell ⟨g, i * 4, none⟩ (.int .i64 y)).setCell ⟨g, i * 4 + 1, none⟩ (.int .i64 (y + 1)))) :=
          (HM.out.trans (mid_grown (grow_set _ _ _ _) (fun k e => by obtain rfl := Option.some.inj e; exact ⟨hBg, hgH⟩))).trans (mid_grown (grow_set _ _ _ _) (fun k e => by obtain rfl := Option.some.inj e; exact ⟨hBg, hgH⟩))
        go_wp2_with fail
        refine (mark_int _ _ (by omega) (by omega)).mono ?_
        rintro e w3 ⟨T, rfl, hb3⟩
        have S3 : Hid (MkC B H K (.slice (some ⟨g, 0, none⟩) n cap) n ((ds.set (i * 4) (.int .i64 y)).set (i * 4 + 1) (.int .i64 (y + 1))) w3) := S2.out.below hb3
        have M3 : Hid (Mid B H w w3) := M2.out.trans (mid_below hb3)
        clear hb3 S2 M2 HW HM hc0 hc1 f0 f1
        generalize (ds.set (i * 4) (.int .i64 y)).set (i * 4 + 1) (.int .i64 (y + 1)) = es at *
        obtain ⟨c2, hc2, f2⟩ := own_cell S3.out.1 (i * 4 + 2) (by omega)
        have S4 : Hid (MkC B H K (.slice (some ⟨g, 0, none⟩) n cap) n (es.set (i * 4 + 2) (.string T)) (w3.setCell ⟨g, i * 4 + 2, none⟩ (.string T))) := S3.out.stored (i * 4 + 2) (by omega) _
        have M4 : Hid (Mid B H w (w3.setCell ⟨g, i * 4 + 2, none⟩ (.string T))) := M3.out.trans (mid_grown (grow_set _ _ _ _) (fun k e => by obtain rfl := Option.some.inj e; exact ⟨hBg, hgH⟩))
        obtain ⟨kv, hkv, m, dk, hmK, hok, hkH⟩ := S4.out.2.2 i hlt
        have hc4 : (w3.setCell ⟨g, i * 4 + 2, none⟩ (.string T)).cell? ⟨g, i * 4 + 3, none⟩ = some kv := by
          have := World.ownsRow.cells S4.out.1 (g := g) rfl (i * 4 + 3) kv hkv
          rwa [Addr.add_lit, Nat.zero_add] at this
        have OK : Hid (_) := hok
        have KH : Hid (∀ g, kv.ownBlock = some g → B ≤ g ∧ g < H) := fun g hg => ⟨(World.ownsRow.lt hok g hg).1, hkH g hg⟩
        clear hok hkH hkv
        go_wp2_with fail
        refine (markIntS_any B kv m dk _ _ (by omega) (by omega) (by omega) OK.out).mono ?_
        rintro e w5 ⟨rfl, ⟨dk2, hd2⟩, hg5⟩
        have S5 : Hid (MkC B H K (.slice (some ⟨g, 0, none⟩) n cap) n (es.set (i * 4 + 2) (.string T)) w5) := S4.out.marked OK.out hg5 hd2
        have M5 : Hid (Mid B H w w5) := M4.out.trans (mid_grown hg5 KH.out)
        clear hg5 hd2 S4 M4 hc4 OK
        go_wp2
        go_roundw
        case rel => exact ⟨i + 1, _, _, rfl, by go_num, by omega, by omega, by have := HY.out; omega, S5.out, M5.out⟩
        case measure => simp [intOf]; omega
      · obtain rfl : i = n := by omega
        go_wp2
        go_ret
        exact ⟨_, rfl, hy0, HM.out⟩

end Go.Proofs.YtofpoiccghpliaaGreatDoor
