/- The program's sets that are joined: joined, then, and what a text's bytes make. -/
/- A table of the library's that is a package-level variable reads on as it read, behind whatever makes new memory alone. -/
import Derived.Test.YtofpoiccghpliaaGreatDoorE18T
import Derived.Deep.CutBlock
import Derived.Deep.LoopGhost
import Derived.Laws.CopyOwn
import Derived.OwnWalk
import Derived.WalkKit
import Derived.Below
import Derived.Lib.LaidTab
namespace Go.Proofs.YtofpoiccghpliaaGreatDoor
open Go.RowKit
set_option linter.unusedVariables false

/-- Joined up to a place. -/
def mixL (a b : List Bool) (k : Nat) : List Bool := (orL a b).take k ++ a.drop k
theorem mixL_len {a b : List Bool} (h : a.length = b.length) (k : Nat) : (mixL a b k).length = a.length := by
  unfold mixL
  rw [List.length_append, List.length_take, List.length_drop, orL_len h]
  omega
theorem mixL_getD {a b : List Bool} (h : a.length = b.length) (k j : Nat) (hj : j < a.length) : (mixL a b k).getD j false = if j < k then (a.getD j false || b.getD j false) else a.getD j false := by
  unfold mixL
  have hl : ((orL a b).take k).length = min k a.length := by rw [List.length_take, orL_len h]
  by_cases e : j < k
  · rw [if_pos e, ← orL_getD h, List.getD_eq_getElem?_getD, List.getElem?_append_left (by omega), List.getElem?_take, if_pos e, ← List.getD_eq_getElem?_getD]
  · rw [if_neg e, List.getD_eq_getElem?_getD, List.getElem?_append_right (by omega), hl, List.getElem?_drop, show k + (j - min k a.length) = j from by omega, ← List.getD_eq_getElem?_getD]
theorem mixL_next {a b : List Bool} (h : a.length = b.length) (k : Nat) (hk : k < a.length) : (mixL a b k).set k (a.getD k false || b.getD k false) = mixL a b (k + 1) := by
  have l1 := mixL_len h k
  apply ext_getD (by rw [List.length_set, l1, mixL_len h])
  intro j hj
  rw [List.length_set, l1] at hj
  rw [getD_suF _ _ _ _ (by omega), mixL_getD h k j hj, mixL_getD h (k + 1) j hj]
  by_cases e : j = k
  · subst e; rw [if_pos rfl, if_pos (by omega)]
  · rw [if_neg e]
    by_cases e2 : j < k
    · rw [if_pos e2, if_pos (by omega)]
    · rw [if_neg e2, if_neg (by omega)]
theorem mixL_zero (a b : List Bool) : mixL a b 0 = a := by unfold mixL; rw [List.take_zero, List.drop_zero, List.nil_append]
theorem mixL_all {a b : List Bool} (h : a.length = b.length) : mixL a b a.length = orL a b := by
  unfold mixL
  rw [List.drop_of_length_le (Nat.le_refl _), List.append_nil, List.take_of_length_le (by rw [orL_len h]; exact Nat.le_refl _)]
theorem tab_new (w : World) (F : List Bool) : TabF w.heap.size F (w.alloc (.cells (flV18 F).toArray 49)) := heap_alloc_last w _

theorem three18 (p q : List Bool) (w : World) :
    TabF w.heap.size p (((w.alloc (.cells (flV18 p).toArray 49)).alloc (.cells (flV18 q).toArray 49)).alloc (.cells Tryz.zeroCells49 49))
    ∧ TabF (w.heap.size + 1) q (((w.alloc (.cells (flV18 p).toArray 49)).alloc (.cells (flV18 q).toArray 49)).alloc (.cells Tryz.zeroCells49 49))
    ∧ TabF (w.heap.size + 1 + 1) zL18 (((w.alloc (.cells (flV18 p).toArray 49)).alloc (.cells (flV18 q).toArray 49)).alloc (.cells Tryz.zeroCells49 49))
    ∧ Below w.heap.size w (((w.alloc (.cells (flV18 p).toArray 49)).alloc (.cells (flV18 q).toArray 49)).alloc (.cells Tryz.zeroCells49 49)) := by
  have hz := flZero18
  rw [Value.agg.injEq] at hz
  rw [hz]
  have z1 := tab_new w p
  have z2 := tab_new (w.alloc (.cells (flV18 p).toArray 49)) q
  have z3 := tab_new ((w.alloc (.cells (flV18 p).toArray 49)).alloc (.cells (flV18 q).toArray 49)) zL18
  have b1 : ∀ (W : World) (o : Obj), Below W.heap.size W (W.alloc o) := fun W o => (Below.refl _ _).alloc (Nat.le_refl _) _
  have s1 : (w.alloc (.cells (flV18 p).toArray 49)).heap.size = w.heap.size + 1 := by simp
  have s2 : ((w.alloc (.cells (flV18 p).toArray 49)).alloc (.cells (flV18 q).toArray 49)).heap.size = w.heap.size + 1 + 1 := by simp
  rw [s2] at z3
  rw [s1] at z2
  exact ⟨(z1.keep (b1 _ _)).keep (b1 _ _), z2.keep (b1 _ _), z3, ((b1 w _).trans ((b1 _ _).mono (by rw [s1]; omega))).trans ((b1 _ _).mono (by rw [s2]; omega))⟩
theorem below_put18 {B tb : Nat} {w0 w : World} {F : List Bool} (h : Below B w0 w) (hB : B ≤ tb) : Below B w0 (putW18 w tb F) := below_setRow h hB _

set_option maxHeartbeats 1600000 in
set_option maxRecDepth 100000 in
theorem implJoined_any (p q : List Bool) (w : World) (hp : p.length = 257) (hq : q.length = 257) :
    Calls Tryz.prog 29 #[.agg (flV18 p).toArray, .agg (flV18 q).toArray] w fun e w' => e = .returned (.agg (flV18 (orL p q)).toArray) ∧ Below w.heap.size w w' := by
  have HP : Hid (p.length = 257) := hp
  have HQ : Hid (q.length = 257) := hq
  have HL : Hid (p.length = q.length) := hp.trans hq.symm
  obtain ⟨t2, t3, t4, b1⟩ := three18 p q w
  have T2 : Hid (TabF w.heap.size p _) := t2
  have T3 : Hid (TabF (w.heap.size + 1) q _) := t3
  have T4 : Hid (TabF (w.heap.size + 1 + 1) zL18 _) := t4
  have B1 : Hid (Below w.heap.size w _) := b1
  clear t2 t3 t4 b1 hp hq
  go_enter Tryz.func29, Tryz.ntmps29
  go_upto_region 1 with fail
  generalize (((w.alloc (.cells (flV18 p).toArray 49)).alloc (.cells (flV18 q).toArray 49)).alloc (.cells Tryz.zeroCells49 49)) = w0 at *
  have c2 := T2.out.cell 0 (by have := HP.out; omega)
  have c3 := T3.out.cell 0 (by have := HQ.out; omega)
  have f2 := T2.out.frozen 0
  have HM : Hid (_ = _) := mixL_next HL.out 0 (by have := HP.out; omega)
  rw [mixL_zero] at HM
  have HT : Hid (∀ b : Bool, TabF w.heap.size (p.set 0 b) (w0.setCell ⟨w.heap.size, 0, none⟩ (.bool b)) ∧ TabF (w.heap.size + 1) q (w0.setCell ⟨w.heap.size, 0, none⟩ (.bool b)) ∧ TabF (w.heap.size + 1 + 1) zL18 (w0.setCell ⟨w.heap.size, 0, none⟩ (.bool b)) ∧ Below w.heap.size w (w0.setCell ⟨w.heap.size, 0, none⟩ (.bool b))) := fun b => by
    have k : Kp (fun q => q = w.heap.size) w0 (w0.setCell ⟨w.heap.size, 0, none⟩ (.bool b)) := Kp.store rfl
    exact ⟨T2.out.set 0 b, T3.out.kp k (by omega), T4.out.kp k (by omega), k.onto B1.out (Nat.le_refl _) (fun j hj => by omega)⟩
  clear T2 T3 T4 B1
  cases hx : p.getD 0 false with
  | true =>
    rw [hx] at c2 HM
    have h := HT.out true
    rw [Bool.true_or] at HM
    rw [HM.out] at h
    obtain ⟨t2, t3, t4, b1⟩ := h
    have T2 : Hid (TabF w.heap.size (mixL p q (0 + 1)) _) := t2
    have T3 : Hid (TabF (w.heap.size + 1) q _) := t3
    have T4 : Hid (TabF (w.heap.size + 1 + 1) zL18 _) := t4
    have B1 : Hid (Below w.heap.size w _) := b1
    clear t2 t3 t4 b1 HT
    go_wp2_with (refine wpl_loadArr rfl _ rfl rfl T3.out HQ.out ?_)
    go_loopg [16] 256 (fun g s16 wx => ∃ i : Nat, i + g = 256 ∧ s16 = .int .i64 i ∧ TabF w.heap.size (mixL p q (1 + i)) wx ∧ TabF (w.heap.size + 1) q wx ∧ TabF (w.heap.size + 1 + 1) zL18 wx ∧ Below w.heap.size w wx)
    case atStart => exact ⟨0, by omega, rfl, T2.out, T3.out, T4.out, B1.out⟩
    case round =>
      clear T2 T3 T4 B1 c2 c3 f2
      obtain ⟨i, hig, rfl, t2, t3, t4, b1⟩ := hrel
      obtain ⟨W, rfl⟩ : ∃ W, W = wr := ⟨wr, rfl⟩
      have T2 : Hid (TabF w.heap.size (mixL p q (1 + i)) W) := t2
      have T3 : Hid (TabF (w.heap.size + 1) q W) := t3
      have T4 : Hid (TabF (w.heap.size + 1 + 1) zL18 W) := t4
      have B1 : Hid (Below w.heap.size w W) := b1
      clear t2 t3 t4 b1
      cases gk with
      | zero =>
        obtain rfl : i = 256 := by omega
        have he : mixL p q (1 + 256) = orL p q := by
          have h1 := mixL_all HL.out
          rw [HP.out] at h1
          exact h1
        rw [he] at T2
        have HO : Hid ((orL p q).length = 257) := (orL_len HL.out).trans HP.out
        go_wp2_with (first | (refine wpl_load1 rfl _ rfl rfl T2.out HO.out ?_) | (refine wpl_store1 rfl _ _ rfl rfl rfl T4.out zL18_len HO.out ?_))
        refine ret18 rfl rfl rfl (T4.out.put (orL p q)) HO.out ?_
        exact ⟨rfl, below_put18 B1.out (by omega)⟩
      | succ g =>
        have hi : i < 256 := by omega
        have hiz : (i : Int) < 256 := by omega
        have hk : 1 + i < p.length := by rw [HP.out]; omega
        have c2 := T2.out.cell (1 + i) (by rw [mixL_len HL.out]; exact hk)
        rw [mixL_getD HL.out (1 + i) (1 + i) hk, if_neg (by omega)] at c2
        have f2 := T2.out.frozen (1 + i)
        have HG : Hid (q.tail.getD i false = q.getD (1 + i) false ∧ q.tail.length = 256) := by
          rw [← List.drop_one]
          exact ⟨by rw [List.getD_eq_getElem?_getD, List.getElem?_drop, ← List.getD_eq_getElem?_getD], by rw [List.length_drop, HQ.out]⟩
        have hn := mixL_next HL.out (1 + i) hk
        have HT : Hid (∀ b : Bool, b = (p.getD (1 + i) false || q.getD (1 + i) false) → TabF w.heap.size (mixL p q (1 + (i + 1))) (W.setCell ⟨w.heap.size, 1 + i, none⟩ (.bool b)) ∧ TabF (w.heap.size + 1) q (W.setCell ⟨w.heap.size, 1 + i, none⟩ (.bool b)) ∧ TabF (w.heap.size + 1 + 1) zL18 (W.setCell ⟨w.heap.size, 1 + i, none⟩ (.bool b)) ∧ Below w.heap.size w (W.setCell ⟨w.heap.size, 1 + i, none⟩ (.bool b))) := fun b hb => by
          have k : Kp (fun q => q = w.heap.size) W (W.setCell ⟨w.heap.size, 1 + i, none⟩ (.bool b)) := Kp.store rfl
          have t := T2.out.set (1 + i) b
          rw [hb, hn] at t
          rw [hb]
          rw [hb] at k
          exact ⟨t, T3.out.kp k (by omega), T4.out.kp k (by omega), k.onto B1.out (Nat.le_refl _) (fun j hj => by omega)⟩
        clear hn T2 T3 T4 B1
        generalize q.getD (1 + i) false = y at *
        cases hp1 : p.getD (1 + i) false with
        | true =>
          rw [hp1] at c2 HT
          go_wp2_with (refine wpl_index18 rfl _ _ rfl rfl rfl HG.out.2 hi ?_; rw [HG.out.1])
          go_roundg g
          case measure => omega
          case rel => exact ⟨i + 1, by omega, by first | rfl | simp, HT.out true rfl⟩
        | false =>
          rw [hp1] at c2 HT
          go_wp2_with (refine wpl_index18 rfl _ _ rfl rfl rfl HG.out.2 hi ?_; rw [HG.out.1])
          go_roundg g
          case measure => omega
          case rel => exact ⟨i + 1, by omega, by first | rfl | simp, HT.out y rfl⟩
  | false =>
    rw [hx] at c2 HM
    have h := HT.out (q.getD 0 false)
    rw [Bool.false_or] at HM
    rw [HM.out] at h
    obtain ⟨t2, t3, t4, b1⟩ := h
    have T2 : Hid (TabF w.heap.size (mixL p q (0 + 1)) _) := t2
    have T3 : Hid (TabF (w.heap.size + 1) q _) := t3
    have T4 : Hid (TabF (w.heap.size + 1 + 1) zL18 _) := t4
    have B1 : Hid (Below w.heap.size w _) := b1
    clear t2 t3 t4 b1 HT
    go_wp2_with (refine wpl_loadArr rfl _ rfl rfl T3.out HQ.out ?_)
    go_loopg [16] 256 (fun g s16 wx => ∃ i : Nat, i + g = 256 ∧ s16 = .int .i64 i ∧ TabF w.heap.size (mixL p q (1 + i)) wx ∧ TabF (w.heap.size + 1) q wx ∧ TabF (w.heap.size + 1 + 1) zL18 wx ∧ Below w.heap.size w wx)
    case atStart => exact ⟨0, by omega, rfl, T2.out, T3.out, T4.out, B1.out⟩
    case round =>
      clear T2 T3 T4 B1 c2 c3 f2
      obtain ⟨i, hig, rfl, t2, t3, t4, b1⟩ := hrel
      obtain ⟨W, rfl⟩ : ∃ W, W = wr := ⟨wr, rfl⟩
      have T2 : Hid (TabF w.heap.size (mixL p q (1 + i)) W) := t2
      have T3 : Hid (TabF (w.heap.size + 1) q W) := t3
      have T4 : Hid (TabF (w.heap.size + 1 + 1) zL18 W) := t4
      have B1 : Hid (Below w.heap.size w W) := b1
      clear t2 t3 t4 b1
      cases gk with
      | zero =>
        obtain rfl : i = 256 := by omega
        have he : mixL p q (1 + 256) = orL p q := by
          have h1 := mixL_all HL.out
          rw [HP.out] at h1
          exact h1
        rw [he] at T2
        have HO : Hid ((orL p q).length = 257) := (orL_len HL.out).trans HP.out
        go_wp2_with (first | (refine wpl_load1 rfl _ rfl rfl T2.out HO.out ?_) | (refine wpl_store1 rfl _ _ rfl rfl rfl T4.out zL18_len HO.out ?_))
        refine ret18 rfl rfl rfl (T4.out.put (orL p q)) HO.out ?_
        exact ⟨rfl, below_put18 B1.out (by omega)⟩
      | succ g =>
        have hi : i < 256 := by omega
        have hiz : (i : Int) < 256 := by omega
        have hk : 1 + i < p.length := by rw [HP.out]; omega
        have c2 := T2.out.cell (1 + i) (by rw [mixL_len HL.out]; exact hk)
        rw [mixL_getD HL.out (1 + i) (1 + i) hk, if_neg (by omega)] at c2
        have f2 := T2.out.frozen (1 + i)
        have HG : Hid (q.tail.getD i false = q.getD (1 + i) false ∧ q.tail.length = 256) := by
          rw [← List.drop_one]
          exact ⟨by rw [List.getD_eq_getElem?_getD, List.getElem?_drop, ← List.getD_eq_getElem?_getD], by rw [List.length_drop, HQ.out]⟩
        have hn := mixL_next HL.out (1 + i) hk
        have HT : Hid (∀ b : Bool, b = (p.getD (1 + i) false || q.getD (1 + i) false) → TabF w.heap.size (mixL p q (1 + (i + 1))) (W.setCell ⟨w.heap.size, 1 + i, none⟩ (.bool b)) ∧ TabF (w.heap.size + 1) q (W.setCell ⟨w.heap.size, 1 + i, none⟩ (.bool b)) ∧ TabF (w.heap.size + 1 + 1) zL18 (W.setCell ⟨w.heap.size, 1 + i, none⟩ (.bool b)) ∧ Below w.heap.size w (W.setCell ⟨w.heap.size, 1 + i, none⟩ (.bool b))) := fun b hb => by
          have k : Kp (fun q => q = w.heap.size) W (W.setCell ⟨w.heap.size, 1 + i, none⟩ (.bool b)) := Kp.store rfl
          have t := T2.out.set (1 + i) b
          rw [hb, hn] at t
          rw [hb]
          rw [hb] at k
          exact ⟨t, T3.out.kp k (by omega), T4.out.kp k (by omega), k.onto B1.out (Nat.le_refl _) (fun j hj => by omega)⟩
        clear hn T2 T3 T4 B1
        generalize q.getD (1 + i) false = y at *
        cases hp1 : p.getD (1 + i) false with
        | true =>
          rw [hp1] at c2 HT
          go_wp2_with (refine wpl_index18 rfl _ _ rfl rfl rfl HG.out.2 hi ?_; rw [HG.out.1])
          go_roundg g
          case measure => omega
          case rel => exact ⟨i + 1, by omega, by first | rfl | simp, HT.out true rfl⟩
        | false =>
          rw [hp1] at c2 HT
          go_wp2_with (refine wpl_index18 rfl _ _ rfl rfl rfl HG.out.2 hi ?_; rw [HG.out.1])
          go_roundg g
          case measure => omega
          case rel => exact ⟨i + 1, by omega, by first | rfl | simp, HT.out y rfl⟩

/-! ### one behind the other -/
set_option maxHeartbeats 1600000 in
set_option maxRecDepth 100000 in
theorem implThen_any (p q : List Bool) (w : World) (hp : p.length = 257) (hq : q.length = 257) :
    Calls Tryz.prog 44 #[.agg (flV18 p).toArray, .agg (flV18 q).toArray] w fun e w' => ∃ l, e = .returned (.agg (flV18 l).toArray) ∧ l.length = 257 ∧ l.getD 0 false = (p.getD 0 false && q.getD 0 false) ∧ Below w.heap.size w w' := by
  have HP : Hid (p.length = 257) := hp
  have HQ : Hid (q.length = 257) := hq
  have HR : Hid (zL18.length = 257) := zL18_len
  have HJ : Hid (∀ (p q : List Bool) W, p.length = 257 → q.length = 257 → _) := fun p q W hp hq => implJoined_any p q W hp hq
  obtain ⟨t2, t3, t4, b1⟩ := three18 p q w
  have T2 : Hid (TabF w.heap.size p _) := t2
  have T3 : Hid (TabF (w.heap.size + 1) q _) := t3
  have T4 : Hid (TabF (w.heap.size + 1 + 1) zL18 _) := t4
  have B1 : Hid (Below w.heap.size w _) := b1
  clear t2 t3 t4 b1 hp hq
  go_enter Tryz.func44, Tryz.ntmps44
  go_upto_region 1 with fail
  generalize (((w.alloc (.cells (flV18 p).toArray 49)).alloc (.cells (flV18 q).toArray 49)).alloc (.cells Tryz.zeroCells49 49)) = w0 at *
  have c2 := T2.out.cell 0 (by have := HP.out; omega)
  have f2 := T2.out.frozen 0
  cases hb : (q == zL18) with
  | true =>
    have HE : Hid (q = zL18) := eq_of_beq hb
    clear c2 f2
    go_wp2_with (first
      | (refine wpl_load1 rfl _ rfl rfl T3.out HQ.out ?_)
      | (refine wpl_build0 rfl rfl ?_)
      | (refine wpl_eql18 rfl _ _ _ rfl rfl rfl HQ.out HR.out ?_; rw [hb])
      | (refine wpl_store1 rfl _ _ rfl rfl rfl T4.out HR.out HQ.out ?_))
    refine ret18 rfl rfl rfl (T4.out.put q) HQ.out ?_
    exact ⟨q, rfl, HQ.out, by rw [HE.out]; cases p.getD 0 false <;> rfl, below_put18 B1.out (by omega)⟩
  | false =>
    cases hx : p.getD 0 false with
    | false =>
      rw [hx] at c2
      go_wp2_with (first
        | (refine wpl_load1 rfl _ rfl rfl T3.out HQ.out ?_)
        | (refine wpl_load1 rfl _ rfl rfl T2.out HP.out ?_)
        | (refine wpl_build0 rfl rfl ?_)
        | (refine wpl_eql18 rfl _ _ _ rfl rfl rfl HQ.out HR.out ?_; rw [hb])
        | (refine wpl_store1 rfl _ _ rfl rfl rfl T4.out HR.out HP.out ?_))
      refine ret18 rfl rfl rfl (T4.out.put p) HP.out ?_
      exact ⟨p, rfl, HP.out, by rw [hx]; rfl, below_put18 B1.out (by omega)⟩
    | true =>
      rw [hx] at c2
      have HT : Hid (TabF w.heap.size (p.set 0 false) (w0.setCell ⟨w.heap.size, 0, none⟩ (.bool false)) ∧ TabF (w.heap.size + 1) q (w0.setCell ⟨w.heap.size, 0, none⟩ (.bool false)) ∧ TabF (w.heap.size + 1 + 1) zL18 (w0.setCell ⟨w.heap.size, 0, none⟩ (.bool false)) ∧ Below w.heap.size w (w0.setCell ⟨w.heap.size, 0, none⟩ (.bool false))) := by
        have k : Kp (fun q => q = w.heap.size) w0 (w0.setCell ⟨w.heap.size, 0, none⟩ (.bool false)) := Kp.store rfl
        exact ⟨T2.out.set 0 false, T3.out.kp k (by omega), T4.out.kp k (by omega), k.onto B1.out (Nat.le_refl _) (fun j hj => by omega)⟩
      have HS : Hid ((p.set 0 false).length = 257) := by rw [Hid, List.length_set]; exact HP.out
      have HO : Hid ((orL (p.set 0 false) q).length = 257) := (orL_len (HS.out.trans HQ.out.symm)).trans HS.out
      go_wp2_with (first
        | (refine wpl_load1 rfl _ rfl rfl T3.out HQ.out ?_)
        | (refine wpl_build0 rfl rfl ?_)
        | (refine wpl_eql18 rfl _ _ _ rfl rfl rfl HQ.out HR.out ?_; rw [hb])
        | (refine wpl_load1 rfl _ rfl rfl HT.out.1 HS.out ?_)
        | (refine wpl_load1 rfl _ rfl rfl HT.out.2.1 HQ.out ?_))
      refine (HJ.out _ _ _ HS.out HQ.out).mono ?_
      rintro e w1 ⟨rfl, hb1⟩
      have T5 := HT.out.2.2.1.keep hb1
      go_wp2_with (refine wpl_store1 rfl _ _ rfl rfl rfl T5 HR.out HO.out ?_)
      refine ret18 rfl rfl rfl (T5.put _) HO.out ?_
      exact ⟨_, rfl, HO.out, by rw [orL_getD (HS.out.trans HQ.out.symm), getD_suF _ _ _ _ (by rw [HP.out]; decide), if_pos rfl, hx]; rfl, below_put18 (HT.out.2.2.2.trans (hb1.mono HT.out.2.2.2.size)) (by omega)⟩
end Go.Proofs.YtofpoiccghpliaaGreatDoor

namespace Go.Proofs.YtofpoiccghpliaaGreatDoor
open Go.RowKit

theorem tab_below {P : Program} {W W' : World} {name : String} {k : IntKind} {zs : List Int} (hT : Lib.TabIs P W name k zs) (hb : Below W.heap.size W W') : Lib.TabIs P W' name k zs := by
  unfold Lib.TabIs at hT ⊢
  unfold World.var? at hT ⊢
  match hg : P.globalNamed name, hT with
  | some g, hT =>
    simp only [Option.bind_some] at hT ⊢
    have hlt : g < W.heap.size := by
      rcases Nat.lt_or_ge g W.heap.size with h | h
      · exact h
      · rw [Array.getElem?_eq_none h] at hT
        simp at hT
    rw [hb.block g hlt]
    exact hT

end Go.Proofs.YtofpoiccghpliaaGreatDoor
