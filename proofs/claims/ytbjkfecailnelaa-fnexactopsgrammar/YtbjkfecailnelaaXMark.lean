/- Marks written into an expression's nodes, and into a list of texts and looked for again. -/
import Derived.Test.YtbjkfecailnelaaXKit3
import Derived.Test.YtbjkfecailnelaaSKit
import Derived.Test.YtbjkfecailnelaaMark
import Derived.Deep.RegionHeld3
namespace Go.Proofs.Ytbjkfecailnelaa
open Go.RowKit

/-- Nothing has changed but blocks from B on below H, and new ones. -/
structure Mid (B H : Nat) (w w' : World) : Prop where
  os : w'.os = w.os
  tape : w'.tape = w.tape
  output : w'.output = w.output
  size : w.heap.size ≤ w'.heap.size
  block : ∀ j, j < w.heap.size → (j < B ∨ H ≤ j) → w'.heap[j]? = w.heap[j]?
theorem Mid.refl (B H : Nat) (w : World) : Mid B H w w := ⟨rfl, rfl, rfl, Nat.le_refl _, fun _ _ _ => rfl⟩
theorem Mid.trans {B H : Nat} {w w1 w2 : World} (h : Mid B H w w1) (k : Mid B H w1 w2) : Mid B H w w2 :=
  ⟨k.os.trans h.os, k.tape.trans h.tape, k.output.trans h.output, Nat.le_trans h.size k.size, fun j hj hr => (k.block j (Nat.lt_of_lt_of_le hj h.size) hr).trans (h.block j hj hr)⟩
theorem mid_below {B H : Nat} {w w' : World} (h : Below w.heap.size w w') : Mid B H w w' := ⟨h.os, h.tape, h.output, h.size, fun j hj _ => h.block j hj⟩
theorem mid_grown {B H : Nat} {w w' : World} {row : Option Nat} (h : w.grownBy w' row) (hr : ∀ k, row = some k → B ≤ k ∧ k < H) : Mid B H w w' :=
  ⟨h.os, h.tape, h.output, h.size, fun j hj hB => h.block j hj (fun e => by have := hr j e.symm; omega)⟩
theorem Mid.onto {B H C : Nat} {w w1 w2 : World} (h : Below C w w1) (hC : C ≤ w.heap.size) (hB : C ≤ B) (k : Mid B H w1 w2) : Below C w w2 :=
  ⟨k.os.trans h.os, k.tape.trans h.tape, k.output.trans h.output, Nat.le_trans h.size k.size, fun j hj => (k.block j (by have := h.size; omega) (.inl (by omega))).trans (h.block j hj)⟩
theorem own_mid {B H C : Nat} {e : TypeId} {s n : Nat} {v : Value} {cs : List Value} {w w' : World} (h : w.ownsRow C e s v n cs) (hm : Mid B H w w') (hne : ∀ k, v.ownBlock = some k → k < B ∨ H ≤ k) : w'.ownsRow C e s v n cs := by
  refine ⟨h.1, ?_⟩
  rcases h.2 with h | ⟨g, cap, cur, rfl, hB, hc, r⟩
  · exact .inl h
  · exact .inr ⟨g, cap, cur, rfl, hB, (hm.block g (Array.getElem?_eq_some_iff.1 hc).1 (hne g rfl)).trans hc, r⟩

/-- Two rows of two kinds are two blocks. -/
theorem own_ne {B B' : Nat} {e e' : TypeId} {s s' n n' : Nat} {v v' : Value} {cs cs' : List Value} {w : World} (h : w.ownsRow B e s v n cs) (h' : w.ownsRow B' e' s' v' n' cs') (hne : e ≠ e') : v.ownBlock = none ∨ v.ownBlock ≠ v'.ownBlock := by
  rcases h.2 with ⟨rfl, _⟩ | ⟨g, cap, cur, rfl, _, hc, _⟩
  · exact .inl rfl
  · refine .inr (fun eq => ?_)
    rcases h'.2 with ⟨rfl, _⟩ | ⟨g', cap', cur', rfl, _, hc', _⟩
    · cases eq
    · obtain rfl : g = g' := Option.some.inj eq
      rw [hc] at hc'
      cases hc'
      exact hne rfl
/-- A row whose block has been written into through another row of the same block. -/
theorem own_again {B : Nat} {e : TypeId} {s n n' : Nat} {v v' : Value} {cs cs' cs2 : List Value} {w w' : World} (h : w.ownsRow B e s v n cs) (h' : w.ownsRow B e s v' n' cs') (hg : w.grownBy w' v.ownBlock) (hn : w'.ownsRow B e s v n cs2) : ∃ cs3, w'.ownsRow B e s v' n' cs3 := by
  by_cases he : v'.ownBlock = none ∨ v'.ownBlock ≠ v.ownBlock
  · exact ⟨_, World.ownsRow.kept h' hg he⟩
  · rcases h'.2 with ⟨rfl, _⟩ | ⟨g', cap', cur', rfl, hB', hc', hle', hm', hs', ht'⟩
    · exact absurd (.inl rfl) he
    · have hv : v.ownBlock = some g' := by
        by_cases h0 : some g' = v.ownBlock
        · exact h0.symm
        · exact absurd (.inr h0) he
      rcases h.2 with ⟨rfl, _⟩ | ⟨g, cap, cur, rfl, hB, hc, hle, hm, hs, ht⟩
      · cases hv
      · obtain rfl : g = g' := Option.some.inj hv
        rw [hc] at hc'
        cases hc'
        rcases hn.2 with ⟨h0, _⟩ | ⟨g2, cap2, cur2, e2, hB2, hc2, hle2, hm2, hs2, ht2⟩
        · cases h0
        · cases e2
          have hz : cur2.size = cap' * s := by rw [hs2, ← hs, hs']
          refine ⟨cur2.toList.take (n' * s), ?_, .inr ⟨g, cap', cur2, rfl, hB', hc2, hle', hm', hz, rfl⟩⟩
          rw [List.length_take, Array.length_toList, hz]
          exact Nat.min_eq_left (Nat.mul_le_mul_right _ hle')

/-- A node's kids: a row of at most K numbers, in a block below H. -/
def Kid (B H K : Nat) (w : World) (kv : Value) : Prop := ∃ m ds, m ≤ K ∧ w.ownsRow B 3 1 kv m ds ∧ ∀ g, kv.ownBlock = some g → g < H
/-- Nodes whose cells may be written into. -/
def MkC (B H K : Nat) (v : Value) (n : Nat) (cs : List Value) (w : World) : Prop :=
  w.ownsRow B 51 4 v n cs ∧ (∀ g, v.ownBlock = some g → g < H) ∧ ∀ i, i < n → ∃ kv, cs[i * 4 + 3]? = some kv ∧ Kid B H K w kv
theorem MkC.below {B H K n : Nat} {v : Value} {cs : List Value} {w w' : World} (h : MkC B H K v n cs w) (hb : Below w.heap.size w w') : MkC B H K v n cs w' := by
  refine ⟨own_below h.1 hb, h.2.1, fun i hi => ?_⟩
  obtain ⟨kv, e, m, ds, hm, ho, hg⟩ := h.2.2 i hi
  exact ⟨kv, e, m, ds, hm, own_below ho hb, hg⟩
theorem MkC.stored {B H K n g cap : Nat} {cs : List Value} {w : World} (h : MkC B H K (.slice (some ⟨g, 0, none⟩) n cap) n cs w) (j : Nat) (hj : j % 4 ≠ 3) (u : Value) :
    MkC B H K (.slice (some ⟨g, 0, none⟩) n cap) n (cs.set j u) (w.setCell ⟨g, j, none⟩ u) := by
  refine ⟨(World.ownsRow.stored h.1 j u).1, h.2.1, fun i hi => ?_⟩
  obtain ⟨kv, e, m, ds, hm, ho, hg⟩ := h.2.2 i hi
  refine ⟨kv, by rw [List.getElem?_set_ne (by omega)]; exact e, m, ds, hm, World.ownsRow.kept ho (grow_set w g j u) ?_, hg⟩
  rcases own_ne ho h.1 (by decide) with h0 | h0
  · exact .inl h0
  · exact .inr h0
theorem MkC.marked {B H K n m : Nat} {v kv : Value} {cs ds ds' : List Value} {w w' : World} (h : MkC B H K v n cs w) (ho : w.ownsRow B 3 1 kv m ds) (hg : w.grownBy w' kv.ownBlock) (hn : w'.ownsRow B 3 1 kv m ds') : MkC B H K v n cs w' := by
  refine ⟨World.ownsRow.kept h.1 hg (own_ne h.1 ho (by decide)), h.2.1, fun i hi => ?_⟩
  obtain ⟨kv2, e, m2, ds2, hm, ho2, hg2⟩ := h.2.2 i hi
  obtain ⟨ds3, h3⟩ := own_again ho ho2 hg hn
  exact ⟨kv2, e, m2, ds3, hm, h3, hg2⟩
theorem OwnN.mk {B : Nat} {v : Value} {ns : List NodeD} {w : World} (h : OwnN B v ns w) (K : Nat) (hK : ∀ x ∈ ns, x.kids.length ≤ K) : ∃ cs, MkC B w.heap.size K v ns.length cs w := by
  obtain ⟨qs, rfl, h1, h2⟩ := h
  refine ⟨nv qs, ?_, fun g hg => (World.ownsRow.lt h1 g hg).2, fun i hi => ?_⟩
  · rw [List.length_map]; exact h1
  · rw [List.length_map] at hi
    have hq := h2 _ (List.getElem_mem hi)
    exact ⟨_, (nv_at qs i hi).2.2.2, _, _, hK _ (List.mem_map.2 ⟨_, List.getElem_mem hi, rfl⟩), hq, fun g hg => (World.ownsRow.lt hq g hg).2⟩

theorem mark_int (z : Int) (w : World) (h0 : 0 < z) (h1 : z ≤ 1000000000000) :
    Calls Try.prog 23 #[.int .i64 z] w fun e w' => ∃ T, e = .returned (.string T) ∧ Below w.heap.size w w' := by
  obtain ⟨n, rfl⟩ := Int.eq_ofNat_of_zero_le (show 0 ≤ z by omega)
  refine (mark_any n w (by omega) (by omega)).mono ?_
  rintro e w' ⟨rfl, hb⟩
  exact ⟨_, rfl, hb⟩

set_option maxHeartbeats 800000 in
theorem markIntS_any (B : Nat) (v : Value) (n : Nat) (cs : List Value) (z : Int) (w : World) (hn : n ≤ 10000000) (h0 : 0 < z) (h1 : z ≤ 1000000000000) (hown : w.ownsRow B 3 1 v n cs) :
    Calls Try.prog 59 #[v, .int .i64 z] w fun e w' => e = .returned (.int .i64 (z + n)) ∧ (∃ ds, w'.ownsRow B 3 1 v n ds) ∧ w.grownBy w' v.ownBlock := by
  by_cases hz : n = 0
  · subst hz
    have HO : Hid (w.ownsRow B 3 1 v 0 cs) := hown
    obtain ⟨a, cap, rfl⟩ : ∃ a cap, v = .slice a 0 cap := by
      rcases hown.2 with ⟨rfl, _⟩ | ⟨g, cap, cur, rfl, _⟩
      · exact ⟨_, _, rfl⟩
      · exact ⟨_, _, rfl⟩
    clear hown
    go_enter Try.func59, Try.ntmps59
    go_wp2
    go_loop [1, 5] (fun kv iv => kv = .int .i64 z ∧ iv = .int .i64 0) (fun _ _ => 0)
    case atStart => exact ⟨rfl, rfl⟩
    case round =>
      obtain ⟨rfl, rfl⟩ := hrel
      go_wp2
      go_ret
      exact ⟨by simp, ⟨_, HO.out⟩, World.grownBy.refl _ _⟩
  · obtain ⟨g, cap, rfl, hBg, hgl⟩ := World.ownsRow.form hown (by omega)
    have HO : Hid (w.ownsRow B 3 1 (.slice (some ⟨g, 0, none⟩) n cap) n cs) := hown
    clear hown
    go_enter Try.func59, Try.ntmps59
    go_wp2
    go_loopw [1, 5] (fun kv iv wr => ∃ (i : Nat) (ds : List Value), kv = .int .i64 (z + i) ∧ iv = .int .i64 i ∧ i ≤ n ∧ wr.ownsRow B 3 1 (.slice (some ⟨g, 0, none⟩) n cap) n ds ∧ w.grownBy wr (some g)) (fun _ iv _ => n - (intOf iv).toNat)
    case atStart => exact ⟨0, _, by simp, rfl, Nat.zero_le _, HO.out, World.grownBy.refl _ _⟩
    case round =>
      obtain ⟨i, ds, rfl, rfl, hi, hown, hgr⟩ := hrel
      have HW : Hid (wr.ownsRow B 3 1 (.slice (some ⟨g, 0, none⟩) n cap) n ds) := hown
      have HG : Hid (w.grownBy wr (some g)) := hgr
      clear hown hgr
      by_cases hlt : i < n
      · obtain ⟨c0, hc0, f0⟩ := own_cell HW.out i (by omega)
        go_wp2
        go_roundw
        case rel =>
          have s1 := World.ownsRow.stored HW.out i (.int .i64 (z + i))
          have t1 := s1.2
          exact ⟨i + 1, _, congrArg (Value.int .i64) (by omega), by go_num, by omega, s1.1, ⟨t1.os.trans HG.out.os, t1.tape.trans HG.out.tape, t1.output.trans HG.out.output, Nat.le_trans HG.out.size t1.size, fun j hj hr => (t1.block j (Nat.lt_of_lt_of_le hj HG.out.size) hr).trans (HG.out.block j hj hr)⟩⟩
        case measure => simp [intOf]; omega
      · obtain rfl : i = n := by omega
        go_wp2
        go_ret
        exact ⟨rfl, ⟨_, HW.out⟩, HG.out⟩

set_option maxHeartbeats 1600000 in
theorem markExNodeS_any (B H K : Nat) (v : Value) (n : Nat) (cs : List Value) (z : Int) (w : World) (hK : K ≤ 1048576) (hn : n ≤ 1048576) (h0 : 0 < z) (h1 : z + ((n * (K + 3) : Nat) : Int) ≤ 900000000000) (h : MkC B H K v n cs w) :
    Calls Try.prog 52 #[v, .int .i64 z] w fun e w' => ∃ r : Int, e = .returned (.int .i64 r) ∧ 0 < r ∧ Mid B H w w' := by
  by_cases hz : n = 0
  · subst hz
    obtain ⟨a, cap, rfl⟩ : ∃ a cap, v = .slice a 0 cap := by
      rcases h.1.2 with ⟨rfl, _⟩ | ⟨g, cap, cur, rfl, _⟩
      · exact ⟨_, _, rfl⟩
      · exact ⟨_, _, rfl⟩
    clear h
    go_enter Try.func52, Try.ntmps52
    go_wp2
    go_loop [1, 5] (fun kv iv => kv = .int .i64 z ∧ iv = .int .i64 0) (fun _ _ => 0)
    case atStart => exact ⟨rfl, rfl⟩
    case round =>
      obtain ⟨rfl, rfl⟩ := hrel
      go_wp2
      go_ret
      exact ⟨_, rfl, h0, Mid.refl _ _ _⟩
  · obtain ⟨g, cap, rfl, hBg, hgl⟩ := World.ownsRow.form h.1 (by omega)
    have HO : Hid (MkC B H K (.slice (some ⟨g, 0, none⟩) n cap) n cs w) := h
    have hgH : g < H := h.2.1 g rfl
    clear h
    go_enter Try.func52, Try.ntmps52
    go_wp2
    go_loopw [1, 5] (fun kv iv wr => ∃ (i : Nat) (y : Int) (ds : List Value), kv = .int .i64 y ∧ iv = .int .i64 i ∧ i ≤ n ∧ 0 < y ∧ y ≤ z + ((i * (K + 3) : Nat) : Int) ∧ MkC B H K (.slice (some ⟨g, 0, none⟩) n cap) n ds wr ∧ Mid B H w wr) (fun _ iv _ => n - (intOf iv).toNat)
    case atStart => exact ⟨0, z, _, rfl, rfl, Nat.zero_le _, h0, by simp, HO.out, Mid.refl _ _ _⟩
    case round =>
      obtain ⟨i, y, ds, rfl, rfl, hi, hy0, hy1, hmk, hmid⟩ := hrel
      have HW : Hid (MkC B H K (.slice (some ⟨g, 0, none⟩) n cap) n ds wr) := hmk
      have HM : Hid (Mid B H w wr) := hmid
      clear hmk hmid
      by_cases hlt : i < n
      · have m1 : (i + 1) * (K + 3) = i * (K + 3) + (K + 3) := Nat.succ_mul _ _
        have m2 : (i + 1) * (K + 3) ≤ n * (K + 3) := Nat.mul_le_mul_right _ hlt
        have HY : Hid (y + (K + 3) ≤ z + (((i + 1) * (K + 3) : Nat) : Int)) := by rw [Hid, m1]; omega
        have hyb : y + (K + 3) ≤ 900000000000 := by omega
        clear m1 m2 hy1
        obtain ⟨c0, hc0, f0⟩ := own_cell HW.out.1 (i * 4) (by omega)
        obtain ⟨c1, hc1, f1⟩ := own_cell HW.out.1 (i * 4 + 1) (by omega)
        have S2 : Hid (MkC B H K (.slice (some ⟨g, 0, none⟩) n cap) n ((ds.set (i * 4) (.int .i64 y)).set (i * 4 + 1) (.int .i64 (y + 1))) ((wr.setCell ⟨g, i * 4, none⟩ (.int .i64 y)).setCell ⟨g, i * 4 + 1, none⟩ (.int .i64 (y + 1)))) :=
          (HW.out.stored (i * 4) (by omega) _).stored (i * 4 + 1) (by omega) _
        have M2 : Hid (Mid B H w ((wr.setCell ⟨g, i * 4, none⟩ (.int .i64 y)).setCell ⟨g, i * 4 + 1, none⟩ (.int .i64 (y + 1)))) :=
          (HM.out.trans (mid_grown (grow_set _ _ _ _) (fun k e => by obtain rfl := Option.some.inj e; exact ⟨hBg, hgH⟩))).trans (mid_grown (grow_set _ _ _ _) (fun k e => by obtain rfl := Option.some.inj e; exact ⟨hBg, hgH⟩))
        go_wp2_with fail
        refine (mark_int _ _ (by omega) (by omega)).mono ?_
        rintro e w3 ⟨T, rfl, hb3⟩
        have S3 : Hid (MkC B H K (.slice (some ⟨g, 0, none⟩) n cap) n ((ds.set (i * 4) (.int .i64 y)).set (i * 4 + 1) (.int .i64 (y + 1))) w3) := S2.out.below hb3
        have M3 : Hid (Mid B H w w3) := M2.out.trans (mid_below hb3)
        clear hb3 S2 M2 HW HM hc0 hc1 f0 f1
        generalize (ds.set (i * 4) (.int .i64 y)).set (i * 4 + 1) (.int .i64 (y + 1)) = es at *
        obtain ⟨c2, hc2, f2⟩ := own_cell S3.out.1 (i * 4 + 2) (by omega)
        have S4 : Hid (MkC B H K (.slice (some ⟨g, 0, none⟩) n cap) n (es.set (i * 4 + 2) (.string T)) (w3.setCell ⟨g, i * 4 + 2, none⟩ (.string T))) := S3.out.stored (i * 4 + 2) (by omega) _
        have M4 : Hid (Mid B H w (w3.setCell ⟨g, i * 4 + 2, none⟩ (.string T))) := M3.out.trans (mid_grown (grow_set _ _ _ _) (fun k e => by obtain rfl := Option.some.inj e; exact ⟨hBg, hgH⟩))
        obtain ⟨kv, hkv, m, dk, hmK, hok, hkH⟩ := S4.out.2.2 i hlt
        have hc4 : (w3.setCell ⟨g, i * 4 + 2, none⟩ (.string T)).cell? ⟨g, i * 4 + 3, none⟩ = some kv := by
          have := World.ownsRow.cells S4.out.1 (g := g) rfl (i * 4 + 3) kv hkv
          rwa [Addr.add_lit, Nat.zero_add] at this
        have OK : Hid (_) := hok
        have KH : Hid (∀ g, kv.ownBlock = some g → B ≤ g ∧ g < H) := fun g hg => ⟨(World.ownsRow.lt hok g hg).1, hkH g hg⟩
        clear hok hkH hkv
        go_wp2_with fail
        refine (markIntS_any B kv m dk _ _ (by omega) (by omega) (by omega) OK.out).mono ?_
        rintro e w5 ⟨rfl, ⟨dk2, hd2⟩, hg5⟩
        have S5 : Hid (MkC B H K (.slice (some ⟨g, 0, none⟩) n cap) n (es.set (i * 4 + 2) (.string T)) w5) := S4.out.marked OK.out hg5 hd2
        have M5 : Hid (Mid B H w w5) := M4.out.trans (mid_grown hg5 KH.out)
        clear hg5 hd2 S4 M4 hc4 OK
        go_wp2
        go_roundw
        case rel => exact ⟨i + 1, _, _, rfl, by go_num, by omega, by omega, by have := HY.out; omega, S5.out, M5.out⟩
        case measure => simp [intOf]; omega
      · obtain rfl : i = n := by omega
        go_wp2
        go_ret
        exact ⟨_, rfl, hy0, HM.out⟩


end Go.Proofs.Ytbjkfecailnelaa
