/- What is read out of decimal figures: the plain mathematics, with no program in it. -/
/- What is written is read back: numbers, short texts, figures: the plain mathematics. -/
/- The laws' own helpers on expressions: nodes copied. -/
/- The laws' own helpers on expressions: whole ones copied, compared with their like. -/
import Derived.Test.YtokidlklkgghkaaGreatDoorMark
import Derived.Test.YtokidlklkgghkaaGreatDoorReadSpec
import Derived.Test.YtokidlklkgghkaaGreatDoorUnhexPure
import Derived.Test.YtokidlklkgghkaaGreatDoorXAssert
namespace Go.Proofs.YtokidlklkgghkaaGreatDoor
open Go.RowKit

end Go.Proofs.YtokidlklkgghkaaGreatDoor

namespace Go.Proofs.YtokidlklkgghkaaGreatDoor
open Go.RowKit

theorem varB_short : ∀ (j n : Nat), n < 128 ^ (j + 1) → (varB n).length ≤ j + 1
  | 0, n, h => by rw [varB_last n (by simp at h; omega)]; simp
  | j + 1, n, h => by
    by_cases h1 : 127 < n
    · rw [varB_more n h1, List.length_cons]
      have := varB_short j (n / 128) (by rw [Nat.pow_succ] at h; omega)
      omega
    · rw [varB_last n (by omega)]; simp

theorem valB_varB (n : Nat) : valB (varB n) = n := by
  induction n using Nat.strongRecOn with
  | ind n ih =>
    by_cases h : 127 < n
    · rw [varB_more n h, valB, ih (n / 128) (by omega), toNat_ofNat _ (by omega)]
      omega
    · rw [varB_last n (by omega), valB, valB, toNat_ofNat _ (by omega)]
      omega

theorem headB_varB (r : List UInt8) : ∀ (f n : Nat), (varB n).length ≤ f → headB f (varB n ++ r) = some (varB n)
  | 0, n, h => by have := varB_pos n; omega
  | f + 1, n, h => by
    by_cases h1 : 127 < n
    · have e := varB_more n h1
      rw [e, List.length_cons] at h
      rw [e, List.cons_append, headB, if_neg (by rw [toNat_ofNat _ (by omega)]; omega), headB_varB r f (n / 128) (by omega)]
      rfl
    · rw [varB_last n (by omega), List.singleton_append, headB, if_pos (by rw [toNat_ofNat _ (by omega)]; omega)]

theorem readB_varB (n : Nat) (r : List UInt8) (h : n ≤ 1000000000) : readB (varB n ++ r) = some (n, (varB n).length) := by
  rw [readB, headB_varB r 5 n (varB_short 4 n (by omega))]
  simp only [valB_varB]
  rw [if_neg (by intro h1; rcases h1 with h1 | h1; omega; exact h1 rfl)]

end Go.Proofs.YtokidlklkgghkaaGreatDoor

namespace Go.Proofs.YtokidlklkgghkaaGreatDoor
open Go.RowKit

theorem grow_set (w : World) (b j : Nat) (u : Value) : w.grownBy (w.setCell ⟨b, j, none⟩ u) (some b) :=
  ⟨rfl, rfl, rfl, by simp, fun k _ hk => by
    simp only [World.setCell]
    rw [Array.getElem?_modify, if_neg (fun e => hk (by rw [← e]))]⟩
theorem off_block {B : Nat} {v : Value} {ks : List Int} {w : World} (h : OwnZ B v ks w) {b : Nat} (hb : b < B) : v.ownBlock = none ∨ v.ownBlock ≠ some b := by
  cases hv : v.ownBlock with
  | none => exact .inl rfl
  | some k => exact .inr (fun e => by have := (World.ownsRow.lt h k hv).1; have e2 : k = b := Option.some.inj e; omega)

/-- Nodes with their kids' lists, cell by cell. -/
def nv (qs : List (NodeD × Value)) : List Value := qs.flatMap fun q => [.int .i64 q.1.op, .int .i64 q.1.num, .string q.1.name, q.2]
def OwnN (B : Nat) (v : Value) (ns : List NodeD) (w : World) : Prop :=
  ∃ qs : List (NodeD × Value), qs.map (·.1) = ns ∧ w.ownsRow B 93 4 v qs.length (nv qs) ∧ ∀ q ∈ qs, OwnZ B q.2 q.1.kids w

theorem Tryz.infoNode : (Tryz.prog.info? 93).map (fun i => (i.zero, i.size, i.bytes)) = some (some (.agg #[.int .i64 0, .int .i64 0, .string ⟨#[]⟩, .slice none 0 0]), 4, 56) := by kernel_rfl

end Go.Proofs.YtokidlklkgghkaaGreatDoor

namespace Go.Proofs.YtokidlklkgghkaaGreatDoor
open Go.RowKit

theorem OwnN.setLow {B : Nat} {v : Value} {ns : List NodeD} {w : World} (h : OwnN B v ns w) {b : Nat} (hb : b < B) (j : Nat) (u : Value) : OwnN B v ns (w.setCell ⟨b, j, none⟩ u) := by
  obtain ⟨qs, e, h1, h2⟩ := h
  refine ⟨qs, e, World.ownsRow.kept h1 (grow_set w b j u) ?_, fun q hq => World.ownsRow.kept (h2 q hq) (grow_set w b j u) (off_block (h2 q hq) hb)⟩
  cases hv : v.ownBlock with
  | none => exact .inl rfl
  | some k => exact .inr (fun e => by have := (World.ownsRow.lt h1 k hv).1; have e2 : k = b := Option.some.inj e; omega)

set_option maxHeartbeats 1600000 in
theorem eqIntS_same (u v : Value) (ks : List Int) (w : World) (hx : ks.length ≤ 1048576) (h : IRow w u ks) (h' : IRow w v ks) :
    Calls Tryz.prog 182 #[u, v] w fun e w' => e = .returned (.bool true) ∧ ∃ q, w' = w.drewN q := by
  have HX : Hid (IRow w u ks) := h
  have HY : Hid (IRow w v ks) := h'
  obtain ⟨a, cap, rfl⟩ := h.slice
  obtain ⟨a', cap', rfl⟩ := h'.slice
  clear h h'
  go_enter Tryz.func182, Tryz.ntmps182
  go_wp2
  go_loopw [5] (fun iv wr => ∃ k q : Nat, iv = .int .i64 k ∧ k ≤ ks.length ∧ wr = w.drewN q) (fun iv _ => ks.length - (intOf iv).toNat)
  case atStart => exact ⟨0, 0, rfl, Nat.zero_le _, rfl⟩
  case round =>
    obtain ⟨k, q, rfl, hk, hwr⟩ := hrel
    have HW : Hid (wr = w.drewN q) := hwr
    have HXr : Hid (IRow wr (.slice a ks.length cap) ks) := by rw [HW.out]; exact HX.out.below (bel_drewN (Below.refl _ _) q)
    have HYr : Hid (IRow wr (.slice a' ks.length cap') ks) := by rw [HW.out]; exact HY.out.below (bel_drewN (Below.refl _ _) q)
    clear hwr
    by_cases hlt : k < ks.length
    · obtain ⟨b, off, rfl, hc1⟩ := HXr.out.at hlt
      obtain ⟨b', off', rfl, hc2⟩ := HYr.out.at hlt
      have i4 : (k : Int) < (ks.length : Int) := by omega
      go_wp2
      go_big_quiet (fail)
      go_wp2
      go_roundw
      case rel => exact ⟨k + 1, q + nq, by go_num, by omega, by rw [HW.out, World.drewN_drewN]⟩
      case measure => simp [intOf]; omega
    · obtain rfl : k = ks.length := by omega
      go_wp2
      go_ret
      exact ⟨rfl, q, HW.out⟩

set_option maxHeartbeats 1600000 in
theorem eqExNode_same (op num : Int) (name : ByteArray) (u v : Value) (ks : List Int) (w : World) (hx : ks.length ≤ 1048576) (h : IRow w u ks) (h' : IRow w v ks) :
    Calls Tryz.prog 172 #[.agg #[.int .i64 op, .int .i64 num, .string name, u], .agg #[.int .i64 op, .int .i64 num, .string name, v]] w fun e w' => e = .returned (.bool true) ∧ Below w.heap.size w w' := by
  have hb := beq_yes (rfl : name = name)
  have BW : Hid (Below w.heap.size w ((w.alloc (.cells #[.int .i64 op, .int .i64 num, .string name, u] 93)).alloc (.cells #[.int .i64 op, .int .i64 num, .string name, v] 93))) := ((Below.refl _ _).alloc (Nat.le_refl _) _).alloc (by simp) _
  have HE : Hid (_) := eqIntS_same u v ks _ hx (h.below BW.out) (h'.below BW.out)
  obtain ⟨a, cap, rfl⟩ := h.slice
  obtain ⟨a', cap', rfl⟩ := h'.slice
  clear h h'
  go_enter Tryz.func172, Tryz.ntmps172
  go_wp2_with fail
  refine Calls.mono HE.out ?_
  rintro e w1 ⟨rfl, q, hq⟩
  have B1 : Hid (Below w.heap.size w w1) := by rw [hq]; exact bel_drewN BW.out q
  clear hq HE
  go_wp2
  go_ret
  exact ⟨rfl, B1.out⟩

theorem cells_keep8 {W W' : World} {a b c d a' b' c' d' : Addr} {x y z u x' y' z' u' : Value} (h : W.cell? a = some x ∧ W.cell? b = some y ∧ W.cell? c = some z ∧ W.cell? d = some u ∧ W.cell? a' = some x' ∧ W.cell? b' = some y' ∧ W.cell? c' = some z' ∧ W.cell? d' = some u') (hb : Below W.heap.size W W') :
    W'.cell? a = some x ∧ W'.cell? b = some y ∧ W'.cell? c = some z ∧ W'.cell? d = some u ∧ W'.cell? a' = some x' ∧ W'.cell? b' = some y' ∧ W'.cell? c' = some z' ∧ W'.cell? d' = some u' :=
  ⟨cell_keep h.1 hb, cell_keep h.2.1 hb, cell_keep h.2.2.1 hb, cell_keep h.2.2.2.1 hb, cell_keep h.2.2.2.2.1 hb, cell_keep h.2.2.2.2.2.1 hb, cell_keep h.2.2.2.2.2.2.1 hb, cell_keep h.2.2.2.2.2.2.2 hb⟩

set_option maxHeartbeats 3200000 in
theorem eqExNodeS_same (u v : Value) (ns : List NodeD) (w : World) (hn : ns.length ≤ 1048576) (hz : ∀ x ∈ ns, x.kids.length ≤ 1048576) (h : NRow w u ns) (h' : NRow w v ns) :
    Calls Tryz.prog 155 #[u, v] w fun e w' => e = .returned (.bool true) ∧ Below w.heap.size w w' := by
  have HX : Hid (NRow w u ns) := h
  have HY : Hid (NRow w v ns) := h'
  have HZ : Hid (∀ x ∈ ns, x.kids.length ≤ 1048576) := hz
  obtain ⟨a, cap, rfl⟩ := h.slice
  obtain ⟨a', cap', rfl⟩ := h'.slice
  clear h h' hz
  go_enter Tryz.func155, Tryz.ntmps155
  go_wp2
  go_loopw [5] (fun iv wr => ∃ k : Nat, iv = .int .i64 k ∧ k ≤ ns.length ∧ Below w.heap.size w wr) (fun iv _ => ns.length - (intOf iv).toNat)
  case atStart => exact ⟨0, rfl, Nat.zero_le _, Below.refl _ _⟩
  case round =>
    obtain ⟨k, rfl, hk, hb⟩ := hrel
    have HB : Hid (Below w.heap.size w wr) := hb
    have HXr : Hid (NRow wr (.slice a ns.length cap) ns) := HX.out.below hb
    have HYr : Hid (NRow wr (.slice a' ns.length cap') ns) := HY.out.below hb
    clear hb
    by_cases hlt : k < ns.length
    · obtain ⟨b, off, kv, rfl, n0, n1, n2, n3, hI⟩ := HXr.out.at hlt
      obtain ⟨b', off', kv', rfl, m0, m1, m2, m3, hI'⟩ := HYr.out.at hlt
      have i4 : (k : Int) < (ns.length : Int) := by omega
      have HE : Hid (_) := eqExNode_same ns[k].op ns[k].num ns[k].name kv kv' ns[k].kids wr.drew (HZ.out _ (List.getElem_mem hlt)) (hI.below (bel_drewN (Below.refl _ _) 1)) (hI'.below (bel_drewN (Below.refl _ _) 1))
      clear hI hI'
      generalize ns[k].op = op at *
      generalize ns[k].num = num at *
      generalize ns[k].name = name at *
      go_wp2
      go_region_held3 (fun W => W.cell? ⟨b, off + k * 4, none⟩ = some (.int .i64 op) ∧ W.cell? ⟨b, off + k * 4 + 1, none⟩ = some (.int .i64 num) ∧ W.cell? ⟨b, off + k * 4 + 2, none⟩ = some (.string name) ∧ W.cell? ⟨b, off + k * 4 + 3, none⟩ = some kv ∧ W.cell? ⟨b', off' + k * 4, none⟩ = some (.int .i64 op) ∧ W.cell? ⟨b', off' + k * 4 + 1, none⟩ = some (.int .i64 num) ∧ W.cell? ⟨b', off' + k * 4 + 2, none⟩ = some (.string name) ∧ W.cell? ⟨b', off' + k * 4 + 3, none⟩ = some kv')
        ((first | exact cells_keep8 (by assumption) hb2 | go_keep))
        ((first | (go_at_call 172; refine Calls.mono HE.out ?_; rintro e w2 ⟨rfl, hb2⟩)))
      have HB2 : Hid (Below w.heap.size w w2) := HB.out.trans ((bel_of_drew hb2).mono HB.out.size)
      clear hb2
      go_wp2
      go_roundw
      case rel => exact ⟨k + 1, by go_num, by omega, HB2.out⟩
      case measure => simp [intOf]; omega
    · obtain rfl : k = ns.length := by omega
      go_wp2
      go_ret
      exact ⟨rfl, HB.out⟩

theorem eqExpr_same (u v : Value) (ns : List NodeD) (w : World) (hn : ns.length ≤ 1048576) (hz : ∀ x ∈ ns, x.kids.length ≤ 1048576) (h : NRow w u ns) (h' : NRow w v ns) :
    Calls Tryz.prog 148 #[.agg #[u], .agg #[v]] w fun e w' => e = .returned (.bool true) ∧ Below w.heap.size w w' := by
  have BW : Hid (Below w.heap.size w ((w.alloc (.cells #[u] 66)).alloc (.cells #[v] 66))) := ((Below.refl _ _).alloc (Nat.le_refl _) _).alloc (by simp) _
  have HE : Hid (_) := eqExNodeS_same u v ns _ hn hz (h.below BW.out) (h'.below BW.out)
  obtain ⟨a, cap, rfl⟩ := h.slice
  obtain ⟨a', cap', rfl⟩ := h'.slice
  clear h h' hz
  go_enter Tryz.func148, Tryz.ntmps148
  go_wp2_with fail
  refine Calls.mono HE.out ?_
  rintro e w1 ⟨rfl, hb1⟩
  have B1 : Hid (Below w.heap.size w w1) := BW.out.trans (hb1.mono BW.out.size)
  clear hb1 HE
  go_wp2
  go_ret
  exact ⟨rfl, B1.out⟩

end Go.Proofs.YtokidlklkgghkaaGreatDoor
