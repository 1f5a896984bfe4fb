/- The verifier's l04Made walked. -/
import Derived.Test.YtbpfapjchmignaaDoorXMade
namespace Go.Proofs.YtbpfapjchmignaaDoor
open Go.RowKit

def MadePost (W : World) (v : Value) (n g bo B nb : Nat) (ss : List ByteArray) (R : Nat → Prop) (d : Nat) (o : Value) (ns : List NodeD) (w : World) (e : Ending) (w' : World) : Prop :=
  ∃ o' ns', e = .returned (.int .i64 ((ns'.length : Int) - 1)) ∧ MadeS W v n g bo B nb ss (fun b => R b ∨ w.heap.size ≤ b) o' ns' w' ∧ ns.length < ns'.length ∧ ns'.length + 1 ≤ ns.length + 2 ^ (d + 1) ∧ NewAt w o o' ∧ Keep g bo o w w'

set_option maxHeartbeats 6400000 in
set_option maxRecDepth 100000 in
theorem made_zero (W : World) (v : Value) (n g bo B nb cn : Nat) (ss : List ByteArray) (hn : n ≤ 1000000000000) (hcode : CodeRow W v n) (hss : ∀ s ∈ ss, nameB s = true) (hsl : ss.length ≤ 100) (hsl0 : 0 < ss.length) (hnb : nb ≠ g) (hnb3 : nb < B) (hgB : g < B) (hbB : B ≤ bo) :
    ∀ (R : Nat → Prop) (_ : True) (o : Value) (ns : List NodeD) (w : World), MadeS W v n g bo B nb ss R o ns w → ns.length + 2 ≤ 100000 →
    Calls Tryd.prog 29 #[.pointer (some ⟨g, 0, none⟩), .pointer (some ⟨bo, 0, none⟩), .slice (some ⟨nb, 0, none⟩) ss.length cn, .int .i64 0] w (MadePost W v n g bo B nb ss R 0 o ns w) := by
  obtain ⟨i0, hi, hz0, hz1, hz2⟩ := info_parts Tryd.infoNode
  have HC : Hid (CodeRow W v n) := hcode
  have HSS : Hid (∀ s ∈ ss, nameB s = true) := hss
  clear hcode hss
  intro R
  unfold MadePost
  intro _ o ns w hM hl
  have M0 : Hid (MadeS W v n g bo B nb ss R o ns w) := hM
  have hgw : g < w.heap.size := hM.cur.lt
  clear hM
  have B1 : Hid (Below w.heap.size w (w.alloc (.cells #[.int .i64 1, .int .i64 1, .int .i64 2, .int .i64 2, .int .i64 3] 3))) := (Below.refl _ _).alloc (Nat.le_refl _) _
  have M1 : Hid (MadeS W v n g bo B nb ss R o ns (w.alloc (.cells #[.int .i64 1, .int .i64 1, .int .i64 2, .int .i64 2, .int .i64 3] 3))) := M0.out.below B1.out hnb (by omega) hnb3
  have HP1 : Hid (_) := pickIntP_any (fun y => 1 ≤ y ∧ y ≤ 3) W v n g 5 w.heap.size 5 _ hn HC.out M1.out.cur (by omega) (by omega) (by omega) (lit_ints (fun y => 1 ≤ y ∧ y ≤ 3) w ints1 3 ints1_in)
  go_enter Tryd.func29, Tryd.ntmps29
  go_wp2_with fail
  refine Calls.mono HP1.out ?_
  rintro e w1 ⟨op, rfl, hop, hw1⟩
  have M2 : Hid (MadeS W v n g bo B nb ss R o ns w1) := M1.out.went hw1 hnb (by omega) hnb3
  have K2 : Hid (Keep g bo o w w1) := (Keep.below B1.out).trans (Keep.went hw1) (.inl rfl)
  have hs1 : w.heap.size < w1.heap.size := by have := hw1.2.size; simp at this; omega
  clear hw1 M1 HP1 B1 M0
  by_cases o3 : op = 3
  · subst o3
    have BW : Hid (Below w1.heap.size w1 (w1.alloc (.cells #[.int .i64 3, .int .i64 0, .string ⟨#[]⟩, .slice none 0 0] 32))) := (Below.refl _ _).alloc (Nat.le_refl _) _
    have MT : Hid (MadeS W v n g bo B nb ss (fun b => R b ∨ w.heap.size ≤ b) o ns (w1.alloc (.cells #[.int .i64 3, .int .i64 0, .string ⟨#[]⟩, .slice none 0 0] 32))) := (M2.out.below BW.out hnb (by omega) hnb3).mono (fun b _ h => .inl h)
    have KT : Hid (Keep g bo o w (w1.alloc (.cells #[.int .i64 3, .int .i64 0, .string ⟨#[]⟩, .slice none 0 0] 32))) := K2.out.trans (Keep.below BW.out) (.inl rfl)
    have XT : Hid (XBox w1.heap.size 3 0 ⟨#[]⟩ (.slice none 0 0) (w1.alloc (.cells #[.int .i64 3, .int .i64 0, .string ⟨#[]⟩, .slice none 0 0] 32))) := XBox.made w1 3 0 ⟨#[]⟩ (.slice none 0 0)
    have ZT : Hid (OwnZ B (.slice none 0 0) [] (w1.alloc (.cells #[.int .i64 3, .int .i64 0, .string ⟨#[]⟩, .slice none 0 0] 32))) := ⟨rfl, .inl ⟨rfl, rfl⟩⟩
    have GT : Hid (nodeB ns.length ⟨3, 0, ⟨#[]⟩, []⟩ = true) := by rw [Hid]; rfl
    have NM : Hid (NmOk ss ⟨3, 0, ⟨#[]⟩, []⟩) := fun h => by cases h
    have RT : Hid (∀ b, (Value.slice none 0 0).ownBlock = some b → (fun b => R b ∨ w.heap.size ≤ b) b) := fun b hb => by cases hb
    have NT : Hid (NewAt w o o) := .inl rfl
    have LT : Hid (ns.length < ns.length + 1 ∧ ns.length + 1 + 1 ≤ ns.length + 2 ^ (0 + 1)) := ⟨by omega, by have := Nat.one_le_two_pow (n := 0); rw [Nat.pow_succ]; omega⟩
    clear BW M2 K2
    go_wp2
    generalize (w1.alloc (.cells #[.int .i64 3, .int .i64 0, .string ⟨#[]⟩, .slice none 0 0] 32)) = wt at *
    generalize w1.heap.size = bx at *
    obtain ⟨x0, x1, x2, x3⟩ := XT.out.cells
    obtain ⟨qs, hqe, hqr, hqz⟩ := MT.out.own
    have HQl : Hid (qs.length = ns.length) := by rw [Hid, ← hqe]; simp
    have hql : qs.length ≤ 200000 := by rw [HQl.out]; omega
    have cbo := MT.out.box.cell
    have fbo := MT.out.box.frozen
    have hbase := MT.out.base
    have cbo2 := (box_alloc MT.out.box (.cells #[.int .i64 3, .int .i64 0, .string ⟨#[]⟩, (.slice none 0 0)] 32)).cell
    have HBx : Hid (Box bo o wt) := MT.out.box
    have HNe : Hid (o.ownBlock ≠ some bo) := own_off hqr MT.out.box (by decide)
    have HQr : Hid (wt.ownsRow B 32 4 o qs.length (nv qs)) := hqr
    have HQe : Hid (qs.map (·.1) = ns) := hqe
    have HQz : Hid (∀ q ∈ qs, OwnZ B q.2 q.1.kids wt ∧ ∀ b, q.2.ownBlock = some b → (fun b => R b ∨ w.heap.size ≤ b) b) := hqz
    clear hqr hqz hqe
    have i9 : IntKind.i64.wrap (((qs.length : Int) + 1) - 1) = (qs.length : Int) := by rw [IntKind.wrap_i64]; omega
    go_region_law ((refine step_append_lies _ (by rfl) _ _ _ (by rfl) B 32 i0 _ 4 56 Tryd.underlying24 hi hz0 hz1 hz2 rfl (by omega) _ _ _ (by rfl) (World.ownsRow.alloc HQr.out _) ⟨wt.heap.size, 0, none⟩ 1 1 [.int .i64 3, .int .i64 0, .string ⟨#[]⟩, (.slice none 0 0)] (by rfl) (by rfl) (World.news_of_block (cs := #[.int .i64 3, .int .i64 0, .string ⟨#[]⟩, (.slice none 0 0)]) (t := 32) (fr := (0, 0)) (heap_alloc_new wt _)) (four_cells _ _ _ _ _ _) (by omega) (by unfold maxLen; omega) (by omega) (by simp; omega) (wt.heap.size + 1) (by simp) ?_; intro gg cap w3 hown3 hgrow hat hlt3; have hb3 := box_grown hgrow (box_alloc HBx.out _) HNe.out; have c3 := hb3.cell; have f3 := hb3.frozen))
    all_goals
      have P := put_node MT.out hnb hnb3 hgB hbB HQe.out HQz.out HQr.out ZT.out RT.out GT.out NM.out hown3 (ob := .cells #[.int .i64 3, .int .i64 0, .string ⟨#[]⟩, (.slice none 0 0)] 32) ⟨hgrow.os, hgrow.tape, hgrow.output, hgrow.size, hgrow.block⟩ hat
      have HP : Hid (_) := P
      clear P hown3 hgrow hat hlt3 hb3
      go_wp2
      go_ret
      refine ⟨_, _, ?_, HP.out.1, ?_, ?_, NT.out.trans HP.out.2.2 KT.out.size, KT.out.trans HP.out.2.1 NT.out⟩
      · rw [List.length_append, ← HQl.out]; simp
      · have := LT.out; rw [List.length_append, List.length_singleton]; omega
      · have := LT.out; rw [List.length_append, List.length_singleton]; omega
  by_cases o1 : op = 1
  · subst o1
    have BW : Hid (Below w1.heap.size w1 ((w1.alloc (.cells #[.int .i64 1, .int .i64 0, .string ⟨#[]⟩, .slice none 0 0] 32)).alloc (.cells #[.int .i64 0, .int .i64 1, .int .i64 2, .int .i64 3, .int .i64 9, .int .i64 99] 3))) := ((Below.refl _ _).alloc (Nat.le_refl _) _).alloc (by simp) _
    have M3 : Hid (MadeS W v n g bo B nb ss R o ns ((w1.alloc (.cells #[.int .i64 1, .int .i64 0, .string ⟨#[]⟩, .slice none 0 0] 32)).alloc (.cells #[.int .i64 0, .int .i64 1, .int .i64 2, .int .i64 3, .int .i64 9, .int .i64 99] 3))) := M2.out.below BW.out hnb (by omega) hnb3
    have X3 : Hid (XBox w1.heap.size 1 0 ⟨#[]⟩ (.slice none 0 0) ((w1.alloc (.cells #[.int .i64 1, .int .i64 0, .string ⟨#[]⟩, .slice none 0 0] 32)).alloc (.cells #[.int .i64 0, .int .i64 1, .int .i64 2, .int .i64 3, .int .i64 9, .int .i64 99] 3))) := (XBox.made w1 1 0 ⟨#[]⟩ (.slice none 0 0)).alloc _
    have hsb : (w1.alloc (.cells #[.int .i64 1, .int .i64 0, .string ⟨#[]⟩, .slice none 0 0] 32)).heap.size = w1.heap.size + 1 := by simp
    have HP3 : Hid (_) := pickIntP_any (fun y => 0 ≤ y ∧ y ≤ 99) W v n g 6 (w1.heap.size + 1) 6 _ hn HC.out M3.out.cur (by omega) (by omega) (by omega) (by
      have := lit_ints (fun y => 0 ≤ y ∧ y ≤ 99) (w1.alloc (.cells #[.int .i64 1, .int .i64 0, .string ⟨#[]⟩, .slice none 0 0] 32)) ints3 3 ints3_in
      rw [hsb] at this
      exact this)
    have HW3 : Hid (Went W v n g w1 ((w1.alloc (.cells #[.int .i64 1, .int .i64 0, .string ⟨#[]⟩, .slice none 0 0] 32)).alloc (.cells #[.int .i64 0, .int .i64 1, .int .i64 2, .int .i64 3, .int .i64 9, .int .i64 99] 3))) := went_below M2.out.cur BW.out
    clear hsb
    go_wp2_with fail
    refine Calls.mono HP3.out ?_
    rintro e w5 ⟨y, rfl, ⟨hy0, hy1⟩, hw5⟩
    have X5 : Hid (XBox w1.heap.size 1 0 ⟨#[]⟩ (.slice none 0 0) w5) := X3.out.same (hw5.2.block _ X3.out.lt (fun e => by have e2 := Option.some.inj e; omega))
    have HW5 : Hid (Went W v n g w1 (w5.setCell ⟨w1.heap.size, 1, none⟩ (.int .i64 y))) := went_set (went_trans HW3.out hw5) (Nat.le_refl _) (by omega) M2.out.cur.1.size
    have MT : Hid (MadeS W v n g bo B nb ss (fun b => R b ∨ w.heap.size ≤ b) o ns (w5.setCell ⟨w1.heap.size, 1, none⟩ (.int .i64 y))) := (M2.out.went HW5.out hnb (by omega) hnb3).mono (fun b _ h => .inl h)
    have KT : Hid (Keep g bo o w (w5.setCell ⟨w1.heap.size, 1, none⟩ (.int .i64 y))) := K2.out.trans (Keep.went HW5.out) (.inl rfl)
    have XT : Hid (XBox w1.heap.size 1 y ⟨#[]⟩ (.slice none 0 0) (w5.setCell ⟨w1.heap.size, 1, none⟩ (.int .i64 y))) := X5.out.set1 y
    have ZT : Hid (OwnZ B (.slice none 0 0) [] (w5.setCell ⟨w1.heap.size, 1, none⟩ (.int .i64 y))) := ⟨rfl, .inl ⟨rfl, rfl⟩⟩
    have GT : Hid (nodeB ns.length ⟨1, y, ⟨#[]⟩, []⟩ = true) := nodeB_yes (show inI 1 1 11 = true by decide) rfl (by rw [fieldsB, if_pos rfl, inI, decide_eq_true (show 0 ≤ y ∧ y ≤ 99 from ⟨hy0, hy1⟩), if_neg (show ¬ (1 : Int) = 2 by decide)]; rfl) (fun j hj => by cases hj)
    have NM : Hid (NmOk ss ⟨1, y, ⟨#[]⟩, []⟩) := fun h => by cases h
    have hx1 := X5.out.cells.2.1
    have hf1 := X5.out.frozen 1
    have RT : Hid (∀ b, (Value.slice none 0 0).ownBlock = some b → (fun b => R b ∨ w.heap.size ≤ b) b) := fun b hb => by cases hb
    have NT : Hid (NewAt w o o) := .inl rfl
    have LT : Hid (ns.length < ns.length + 1 ∧ ns.length + 1 + 1 ≤ ns.length + 2 ^ (0 + 1)) := ⟨by omega, by have := Nat.one_le_two_pow (n := 0); rw [Nat.pow_succ]; omega⟩
    clear hw5 HW5 HW3 M3 X3 BW M2 K2 HP3
    go_wp2
    generalize w5.setCell ⟨w1.heap.size, 1, none⟩ (.int .i64 y) = wt at *
    generalize w1.heap.size = bx at *
    obtain ⟨x0, x1, x2, x3⟩ := XT.out.cells
    obtain ⟨qs, hqe, hqr, hqz⟩ := MT.out.own
    have HQl : Hid (qs.length = ns.length) := by rw [Hid, ← hqe]; simp
    have hql : qs.length ≤ 200000 := by rw [HQl.out]; omega
    have cbo := MT.out.box.cell
    have fbo := MT.out.box.frozen
    have hbase := MT.out.base
    have cbo2 := (box_alloc MT.out.box (.cells #[.int .i64 1, .int .i64 y, .string ⟨#[]⟩, (.slice none 0 0)] 32)).cell
    have HBx : Hid (Box bo o wt) := MT.out.box
    have HNe : Hid (o.ownBlock ≠ some bo) := own_off hqr MT.out.box (by decide)
    have HQr : Hid (wt.ownsRow B 32 4 o qs.length (nv qs)) := hqr
    have HQe : Hid (qs.map (·.1) = ns) := hqe
    have HQz : Hid (∀ q ∈ qs, OwnZ B q.2 q.1.kids wt ∧ ∀ b, q.2.ownBlock = some b → (fun b => R b ∨ w.heap.size ≤ b) b) := hqz
    clear hqr hqz hqe
    have i9 : IntKind.i64.wrap (((qs.length : Int) + 1) - 1) = (qs.length : Int) := by rw [IntKind.wrap_i64]; omega
    go_region_law ((refine step_append_lies _ (by rfl) _ _ _ (by rfl) B 32 i0 _ 4 56 Tryd.underlying24 hi hz0 hz1 hz2 rfl (by omega) _ _ _ (by rfl) (World.ownsRow.alloc HQr.out _) ⟨wt.heap.size, 0, none⟩ 1 1 [.int .i64 1, .int .i64 y, .string ⟨#[]⟩, (.slice none 0 0)] (by rfl) (by rfl) (World.news_of_block (cs := #[.int .i64 1, .int .i64 y, .string ⟨#[]⟩, (.slice none 0 0)]) (t := 32) (fr := (0, 0)) (heap_alloc_new wt _)) (four_cells _ _ _ _ _ _) (by omega) (by unfold maxLen; omega) (by omega) (by simp; omega) (wt.heap.size + 1) (by simp) ?_; intro gg cap w3 hown3 hgrow hat hlt3; have hb3 := box_grown hgrow (box_alloc HBx.out _) HNe.out; have c3 := hb3.cell; have f3 := hb3.frozen))
    all_goals
      have P := put_node MT.out hnb hnb3 hgB hbB HQe.out HQz.out HQr.out ZT.out RT.out GT.out NM.out hown3 (ob := .cells #[.int .i64 1, .int .i64 y, .string ⟨#[]⟩, (.slice none 0 0)] 32) ⟨hgrow.os, hgrow.tape, hgrow.output, hgrow.size, hgrow.block⟩ hat
      have HP : Hid (_) := P
      clear P hown3 hgrow hat hlt3 hb3
      go_wp2
      go_ret
      refine ⟨_, _, ?_, HP.out.1, ?_, ?_, NT.out.trans HP.out.2.2 KT.out.size, KT.out.trans HP.out.2.1 NT.out⟩
      · rw [List.length_append, ← HQl.out]; simp
      · have := LT.out; rw [List.length_append, List.length_singleton]; omega
      · have := LT.out; rw [List.length_append, List.length_singleton]; omega
  obtain rfl : op = 2 := by omega
  clear o1 o3
  have BW : Hid (Below w1.heap.size w1 (w1.alloc (.cells #[.int .i64 2, .int .i64 0, .string ⟨#[]⟩, .slice none 0 0] 32))) := (Below.refl _ _).alloc (Nat.le_refl _) _
  have M3 : Hid (MadeS W v n g bo B nb ss R o ns (w1.alloc (.cells #[.int .i64 2, .int .i64 0, .string ⟨#[]⟩, .slice none 0 0] 32))) := M2.out.below BW.out hnb (by omega) hnb3
  have X3 : Hid (XBox w1.heap.size 2 0 ⟨#[]⟩ (.slice none 0 0) (w1.alloc (.cells #[.int .i64 2, .int .i64 0, .string ⟨#[]⟩, .slice none 0 0] 32))) := XBox.made w1 2 0 ⟨#[]⟩ (.slice none 0 0)
  have HP3 : Hid (_) := below_any W v n g (ss.length : Int) _ hn HC.out M3.out.cur (by omega) (by omega)
  have HW3 : Hid (Went W v n g w1 (w1.alloc (.cells #[.int .i64 2, .int .i64 0, .string ⟨#[]⟩, .slice none 0 0] 32))) := went_below M2.out.cur BW.out
  have hs0 : ¬ (ss.length : Int) = 0 := by omega
  go_wp2_with fail
  refine Calls.mono HP3.out ?_
  rintro e w5 ⟨y, rfl, ⟨hy0, hy1⟩, hw5⟩
  obtain ⟨q, rfl⟩ := Int.eq_ofNat_of_zero_le hy0
  have hq : q < ss.length := by omega
  have hnm := (M3.out.went hw5 hnb (by omega) hnb3).names q hq
  have HMem : Hid (ss[q] ∈ ss) := List.getElem_mem hq
  have X5 : Hid (XBox w1.heap.size 2 0 ⟨#[]⟩ (.slice none 0 0) w5) := X3.out.same (hw5.2.block _ X3.out.lt (fun e => by have e2 := Option.some.inj e; omega))
  generalize ss[q] = nm at *
  have HW5 : Hid (Went W v n g w1 (w5.setCell ⟨w1.heap.size, 2, none⟩ (.string nm))) := went_set (went_trans HW3.out hw5) (Nat.le_refl _) (by omega) M2.out.cur.1.size
  have MT : Hid (MadeS W v n g bo B nb ss (fun b => R b ∨ w.heap.size ≤ b) o ns (w5.setCell ⟨w1.heap.size, 2, none⟩ (.string nm))) := (M2.out.went HW5.out hnb (by omega) hnb3).mono (fun b _ h => .inl h)
  have KT : Hid (Keep g bo o w (w5.setCell ⟨w1.heap.size, 2, none⟩ (.string nm))) := K2.out.trans (Keep.went HW5.out) (.inl rfl)
  have XT : Hid (XBox w1.heap.size 2 0 nm (.slice none 0 0) (w5.setCell ⟨w1.heap.size, 2, none⟩ (.string nm))) := X5.out.set2 nm
  have ZT : Hid (OwnZ B (.slice none 0 0) [] (w5.setCell ⟨w1.heap.size, 2, none⟩ (.string nm))) := ⟨rfl, .inl ⟨rfl, rfl⟩⟩
  have GT : Hid (nodeB ns.length ⟨2, 0, nm, []⟩ = true) := nodeB_yes (show inI 2 1 11 = true by decide) rfl (by rw [fieldsB, if_neg (show ¬ (2 : Int) = 1 by decide), if_pos rfl, HSS.out nm HMem.out]; rfl) (fun j hj => by cases hj)
  have NM : Hid (NmOk ss ⟨2, 0, nm, []⟩) := fun _ => HMem.out
  have hx1 := X5.out.cells.2.2.1
  have hf1 := X5.out.frozen 2
  have i5 : (q : Int) < (ss.length : Int) := by omega
  have RT : Hid (∀ b, (Value.slice none 0 0).ownBlock = some b → (fun b => R b ∨ w.heap.size ≤ b) b) := fun b hb => by cases hb
  have NT : Hid (NewAt w o o) := .inl rfl
  have LT : Hid (ns.length < ns.length + 1 ∧ ns.length + 1 + 1 ≤ ns.length + 2 ^ (0 + 1)) := ⟨by omega, by have := Nat.one_le_two_pow (n := 0); rw [Nat.pow_succ]; omega⟩
  clear hw5 HW5 HW3 M3 X3 BW M2 K2 HP3
  go_wp2
  generalize w5.setCell ⟨w1.heap.size, 2, none⟩ (.string nm) = wt at *
  generalize w1.heap.size = bx at *
  obtain ⟨x0, x1, x2, x3⟩ := XT.out.cells
  obtain ⟨qs, hqe, hqr, hqz⟩ := MT.out.own
  have HQl : Hid (qs.length = ns.length) := by rw [Hid, ← hqe]; simp
  have hql : qs.length ≤ 200000 := by rw [HQl.out]; omega
  have cbo := MT.out.box.cell
  have fbo := MT.out.box.frozen
  have hbase := MT.out.base
  have cbo2 := (box_alloc MT.out.box (.cells #[.int .i64 2, .int .i64 0, .string nm, (.slice none 0 0)] 32)).cell
  have HBx : Hid (Box bo o wt) := MT.out.box
  have HNe : Hid (o.ownBlock ≠ some bo) := own_off hqr MT.out.box (by decide)
  have HQr : Hid (wt.ownsRow B 32 4 o qs.length (nv qs)) := hqr
  have HQe : Hid (qs.map (·.1) = ns) := hqe
  have HQz : Hid (∀ q ∈ qs, OwnZ B q.2 q.1.kids wt ∧ ∀ b, q.2.ownBlock = some b → (fun b => R b ∨ w.heap.size ≤ b) b) := hqz
  clear hqr hqz hqe
  have i9 : IntKind.i64.wrap (((qs.length : Int) + 1) - 1) = (qs.length : Int) := by rw [IntKind.wrap_i64]; omega
  go_region_law ((refine step_append_lies _ (by rfl) _ _ _ (by rfl) B 32 i0 _ 4 56 Tryd.underlying24 hi hz0 hz1 hz2 rfl (by omega) _ _ _ (by rfl) (World.ownsRow.alloc HQr.out _) ⟨wt.heap.size, 0, none⟩ 1 1 [.int .i64 2, .int .i64 0, .string nm, (.slice none 0 0)] (by rfl) (by rfl) (World.news_of_block (cs := #[.int .i64 2, .int .i64 0, .string nm, (.slice none 0 0)]) (t := 32) (fr := (0, 0)) (heap_alloc_new wt _)) (four_cells _ _ _ _ _ _) (by omega) (by unfold maxLen; omega) (by omega) (by simp; omega) (wt.heap.size + 1) (by simp) ?_; intro gg cap w3 hown3 hgrow hat hlt3; have hb3 := box_grown hgrow (box_alloc HBx.out _) HNe.out; have c3 := hb3.cell; have f3 := hb3.frozen))
  all_goals
    have P := put_node MT.out hnb hnb3 hgB hbB HQe.out HQz.out HQr.out ZT.out RT.out GT.out NM.out hown3 (ob := .cells #[.int .i64 2, .int .i64 0, .string nm, (.slice none 0 0)] 32) ⟨hgrow.os, hgrow.tape, hgrow.output, hgrow.size, hgrow.block⟩ hat
    have HP : Hid (_) := P
    clear P hown3 hgrow hat hlt3 hb3
    go_wp2
    go_ret
    refine ⟨_, _, ?_, HP.out.1, ?_, ?_, NT.out.trans HP.out.2.2 KT.out.size, KT.out.trans HP.out.2.1 NT.out⟩
    · rw [List.length_append, ← HQl.out]; simp
    · have := LT.out; rw [List.length_append, List.length_singleton]; omega
    · have := LT.out; rw [List.length_append, List.length_singleton]; omega

/-- What holds while a node's kids are made. -/
structure KidInv (W : World) (v : Value) (n g bo B nb : Nat) (ss : List ByteArray) (R : Nat → Prop) (w : World) (o : Value) (ns : List NodeD) (d : Nat) (op : Int) (bx i : Nat) (oc : Value) (nsc : List NodeD) (kv : Value) (ks : List Int) (wr : World) : Prop where
  le : (i : Int) ≤ kidsN op
  made : MadeS W v n g bo B nb ss (fun b => (R b ∨ w.heap.size ≤ b) ∧ kv.ownBlock ≠ some b) oc nsc wr
  xb : XBox bx op 0 ⟨#[]⟩ kv wr
  z : OwnZ B kv ks wr
  len : ks.length = i
  kids : ∀ k ∈ ks, 0 ≤ k ∧ k < (nsc.length : Int)
  grow : nsc.length + i ≤ ns.length + i * 2 ^ (d + 1)
  ge : ns.length ≤ nsc.length
  new : NewAt w o oc
  keep : Keep g bo o w wr
  off : oc.ownBlock ≠ some bx
  knew : ∀ b, kv.ownBlock = some b → w.heap.size ≤ b
def KidRel (W : World) (v : Value) (n g bo B nb : Nat) (ss : List ByteArray) (R : Nat → Prop) (w : World) (o : Value) (ns : List NodeD) (d : Nat) (op : Int) (bx : Nat) (iv : Value) (wr : World) : Prop :=
  ∃ (i : Nat) (oc : Value) (nsc : List NodeD) (kv : Value) (ks : List Int), iv = .int .i64 i ∧ KidInv W v n g bo B nb ss R w o ns d op bx i oc nsc kv ks wr
theorem kidsN_two (op : Int) (h : 4 ≤ op) : kidsN op = if op = 11 then 1 else 2 := by rw [kidsN, if_neg (by omega)]
theorem kid_right {op : Int} {ks : List Int} {m : Nat} (h4 : 4 ≤ op) (h11 : op ≤ 11) (hl : (ks.length : Int) = kidsN op) (hk : ∀ k ∈ ks, 0 ≤ k ∧ k < (m : Int)) : nodeB m ⟨op, 0, ⟨#[]⟩, ks⟩ = true :=
  nodeB_yes (show inI op 1 11 = true by rw [inI]; exact decide_eq_true ⟨by omega, by omega⟩) hl (by
    rw [fieldsB, if_neg (show ¬ op = 1 by omega), if_neg (show ¬ op = 2 by omega)]; rfl) (fun j hj => by
    have hj' : j < ks.length := hj
    have h1 := hk ks[j] (List.getElem_mem hj')
    have h2 : 0 ≤ ks[j] ∧ ks[j] ≤ (m : Int) - 1 := by omega
    rw [inI]; exact decide_eq_true h2)
theorem kid_bound {a b i d : Nat} (h : a + i ≤ b + i * 2 ^ (d + 1)) (hi : i = 1 ∨ i = 2) : a + 1 + 1 ≤ b + 2 ^ (d + 1 + 1) := by
  have h1 := Nat.one_le_two_pow (n := d + 1)
  rw [Nat.pow_succ 2 (d + 1)]
  generalize 2 ^ (d + 1) = P at *
  rcases hi with rfl | rfl
  · omega
  · omega
/-- One kid more. -/
theorem kid_step {W : World} {v : Value} {n g bo B nb : Nat} {ss : List ByteArray} {R : Nat → Prop} {w : World} {o : Value} {ns : List NodeD} {d : Nat} {op : Int} {bx i : Nat} {oc : Value} {nsc : List NodeD} {kv : Value} {ks : List Int} {wr w5 w6 : World} {o5 : Value} {ns5 : List NodeD} {gg cap : Nat} {ob : Obj}
    (h : KidInv W v n g bo B nb ss R w o ns d op bx i oc nsc kv ks wr) (hlt : (i : Int) < kidsN op) (hnb3 : nb < B) (hgB : g < B) (hbx : B ≤ bx) (hbxb : bx ≠ bo) (hbw : w.heap.size ≤ bx)
    (hM5 : MadeS W v n g bo B nb ss (fun b => ((R b ∨ w.heap.size ≤ b) ∧ kv.ownBlock ≠ some b) ∨ wr.heap.size ≤ b) o5 ns5 w5) (hl1 : nsc.length < ns5.length) (hl2 : ns5.length + 1 ≤ nsc.length + 2 ^ (d + 1)) (hN5 : NewAt wr oc o5) (hK5 : Keep g bo oc wr w5)
    (hr : w6.ownsRow B 3 1 (.slice (some ⟨gg, 0, none⟩) (ks.length + 1) cap) (ks.length + 1) (zv ks ++ [.int .i64 ((ns5.length : Int) - 1)])) (hgr : (w5.alloc ob).grownBy w6 kv.ownBlock) (hat : kv.ownBlock = some gg ∨ gg = w5.heap.size + 1) :
    KidInv W v n g bo B nb ss R w o ns d op bx (i + 1) o5 ns5 (.slice (some ⟨gg, 0, none⟩) (ks.length + 1) cap) (ks ++ [(ns5.length : Int) - 1]) (w6.setCell ⟨bx, 3, none⟩ (.slice (some ⟨gg, 0, none⟩) (ks.length + 1) cap)) := by
  have hbg : bx ≠ g := by omega
  have xb5 : XBox bx op 0 ⟨#[]⟩ kv w5 := h.xb.same (hK5.block bx h.xb.lt hbg hbxb h.off)
  have z5 : OwnZ B kv ks w5 := ownZ_keep h.z h.made.cur h.made.box h.made.own hK5
  have off5 : o5.ownBlock ≠ some bx := fun e => by
    rcases hN5 with e1 | e1
    · exact h.off (e1.symm.trans e)
    · have h1 := e1 bx e; have h2 := h.xb.lt; omega
  have hkv : ∀ b, kv.ownBlock = some b → b < wr.heap.size := fun b hb => (World.ownsRow.lt h.z b hb).2
  obtain ⟨m7, x7, z7, hs7, hb7⟩ := kid_put hM5 z5 xb5 (fun b _ hR => by
    rcases hR with hR | hR
    · exact hR.2
    · intro e; have := hkv b e; omega) hnb3 hgB hbx hbxb off5 hr hgr hat
  have k5 : Keep g bo o w w5 := h.keep.trans hK5 h.new
  have s5 := k5.size
  have s6 := hgr.size
  simp at s6
  refine ⟨by omega, m7.mono (fun b _ hb => ?_), x7, z7, by rw [List.length_append, h.len]; rfl, fun k hk => ?_, ?_, by have := h.ge; omega, h.new.trans hN5 h.keep.size, k5.more (by show w6.os = _; exact hgr.os) (by show w6.tape = _; exact hgr.tape) (by show w6.output = _; exact hgr.output) (by rw [← hs7]; omega) (fun k hk => hb7 k (by omega) (by omega) (fun e => by have := h.knew k e; omega)), off5, fun b hb => ?_⟩
  · refine ⟨?_, fun e => hb.2 (Option.some.inj e)⟩
    rcases hb.1 with hR | hR
    · exact hR.1
    · exact .inr (Nat.le_trans h.keep.size hR)
  · rcases List.mem_append.1 hk with hk | hk
    · have := h.kids k hk; omega
    · obtain rfl : k = (ns5.length : Int) - 1 := by simpa using hk
      omega
  · have := h.grow
    rw [Nat.add_mul]
    omega
  · have e2 : gg = b := Option.some.inj hb
    subst e2
    rcases hat with e1 | e1
    · exact h.knew gg e1
    · omega

set_option maxHeartbeats 6400000 in
set_option maxRecDepth 100000 in
theorem made_succ (W : World) (v : Value) (n g bo B nb cn : Nat) (ss : List ByteArray) (hn : n ≤ 1000000000000) (hcode : CodeRow W v n) (hss : ∀ s ∈ ss, nameB s = true) (hsl : ss.length ≤ 100) (hsl0 : 0 < ss.length) (hnb : nb ≠ g) (hnb3 : nb < B) (hgB : g < B) (hbB : B ≤ bo) (d : Nat) (hd : d ≤ 4)
    (ih : ∀ (R : Nat → Prop) (_ : True) (o : Value) (ns : List NodeD) (w : World), MadeS W v n g bo B nb ss R o ns w → ns.length + 2 ^ (d + 1) ≤ 100000 →
      Calls Tryd.prog 29 #[.pointer (some ⟨g, 0, none⟩), .pointer (some ⟨bo, 0, none⟩), .slice (some ⟨nb, 0, none⟩) ss.length cn, .int .i64 (d : Int)] w (MadePost W v n g bo B nb ss R d o ns w)) :
    ∀ (R : Nat → Prop) (_ : True) (o : Value) (ns : List NodeD) (w : World), MadeS W v n g bo B nb ss R o ns w → ns.length + 2 ^ (d + 1 + 1) ≤ 100000 →
    Calls Tryd.prog 29 #[.pointer (some ⟨g, 0, none⟩), .pointer (some ⟨bo, 0, none⟩), .slice (some ⟨nb, 0, none⟩) ss.length cn, .int .i64 ((d : Int) + 1)] w (MadePost W v n g bo B nb ss R (d + 1) o ns w) := by
  obtain ⟨i0, hi, hz0, hz1, hz2⟩ := info_parts Tryd.infoNode
  obtain ⟨j0, hj, hj0, hj1, hj2⟩ := info_parts Tryd.infoInt5
  have HC : Hid (CodeRow W v n) := hcode
  have HSS : Hid (∀ s ∈ ss, nameB s = true) := hss
  have IH : Hid (∀ (R : Nat → Prop) (_ : True) (o : Value) (ns : List NodeD) (w : World), MadeS W v n g bo B nb ss R o ns w → ns.length + 2 ^ (d + 1) ≤ 100000 →
      Calls Tryd.prog 29 #[.pointer (some ⟨g, 0, none⟩), .pointer (some ⟨bo, 0, none⟩), .slice (some ⟨nb, 0, none⟩) ss.length cn, .int .i64 (d : Int)] w (MadePost W v n g bo B nb ss R d o ns w)) := ih
  clear hcode hss ih
  have id1 : (0 : Int) < (d : Int) + 1 := by omega
  have id2 : IntKind.i64.wrap (d : Int) = (d : Int) := by rw [IntKind.wrap_i64]; omega
  intro R
  unfold MadePost
  intro _ o ns w hM hl
  have M0 : Hid (MadeS W v n g bo B nb ss R o ns w) := hM
  have hgw : g < w.heap.size := hM.cur.lt
  clear hM
  have B1 : Hid (Below w.heap.size w (w.alloc (.cells #[.int .i64 1, .int .i64 1, .int .i64 2, .int .i64 2, .int .i64 3] 3))) := (Below.refl _ _).alloc (Nat.le_refl _) _
  have M1 : Hid (MadeS W v n g bo B nb ss R o ns (w.alloc (.cells #[.int .i64 1, .int .i64 1, .int .i64 2, .int .i64 2, .int .i64 3] 3))) := M0.out.below B1.out hnb (by omega) hnb3
  have HP1 : Hid (_) := pickIntP_any (fun y => 1 ≤ y ∧ y ≤ 3) W v n g 5 w.heap.size 5 _ hn HC.out M1.out.cur (by omega) (by omega) (by omega) (lit_ints (fun y => 1 ≤ y ∧ y ≤ 3) w ints1 3 ints1_in)
  go_enter Tryd.func29, Tryd.ntmps29
  go_wp2_with fail
  refine Calls.mono HP1.out ?_
  rintro e wz ⟨op, rfl, hop, hwz⟩
  have Mz : Hid (MadeS W v n g bo B nb ss R o ns wz) := M1.out.went hwz hnb (by omega) hnb3
  have Kz : Hid (Keep g bo o w wz) := (Keep.below B1.out).trans (Keep.went hwz) (.inl rfl)
  have hsz1 : w.heap.size < wz.heap.size := by have := hwz.2.size; simp at this; omega
  clear hwz M1 HP1 B1 M0
  have HPow : Hid (ns.length + 2 ^ (d + 1 + 1) ≤ 100000) := hl
  have hl : ns.length ≤ 100000 := Nat.le_trans (Nat.le_add_right _ _) HPow.out
  have HO : Hid (_) := once_any W v n g 3 wz hn HC.out Mz.out.cur (by omega) (by omega)
  go_wp2_with fail
  refine Calls.mono HO.out ?_
  rintro e w1 ⟨b1, rfl, hw1⟩
  have M2 : Hid (MadeS W v n g bo B nb ss R o ns w1) := Mz.out.went hw1 hnb (by omega) hnb3
  have K2 : Hid (Keep g bo o w w1) := Kz.out.trans (Keep.went hw1) (.inl rfl)
  have hs1 : w.heap.size < w1.heap.size := by have := hw1.2.size; omega
  clear hw1 HO Mz Kz hsz1
  cases b1 with
  | true =>
    clear id1 id2
    by_cases o3 : op = 3
    · subst o3
      have BW : Hid (Below w1.heap.size w1 (w1.alloc (.cells #[.int .i64 3, .int .i64 0, .string ⟨#[]⟩, .slice none 0 0] 32))) := (Below.refl _ _).alloc (Nat.le_refl _) _
      have MT : Hid (MadeS W v n g bo B nb ss (fun b => R b ∨ w.heap.size ≤ b) o ns (w1.alloc (.cells #[.int .i64 3, .int .i64 0, .string ⟨#[]⟩, .slice none 0 0] 32))) := (M2.out.below BW.out hnb (by omega) hnb3).mono (fun b _ h => .inl h)
      have KT : Hid (Keep g bo o w (w1.alloc (.cells #[.int .i64 3, .int .i64 0, .string ⟨#[]⟩, .slice none 0 0] 32))) := K2.out.trans (Keep.below BW.out) (.inl rfl)
      have XT : Hid (XBox w1.heap.size 3 0 ⟨#[]⟩ (.slice none 0 0) (w1.alloc (.cells #[.int .i64 3, .int .i64 0, .string ⟨#[]⟩, .slice none 0 0] 32))) := XBox.made w1 3 0 ⟨#[]⟩ (.slice none 0 0)
      have ZT : Hid (OwnZ B (.slice none 0 0) [] (w1.alloc (.cells #[.int .i64 3, .int .i64 0, .string ⟨#[]⟩, .slice none 0 0] 32))) := ⟨rfl, .inl ⟨rfl, rfl⟩⟩
      have GT : Hid (nodeB ns.length ⟨3, 0, ⟨#[]⟩, []⟩ = true) := by rw [Hid]; rfl
      have NM : Hid (NmOk ss ⟨3, 0, ⟨#[]⟩, []⟩) := fun h => by cases h
      have RT : Hid (∀ b, (Value.slice none 0 0).ownBlock = some b → (fun b => R b ∨ w.heap.size ≤ b) b) := fun b hb => by cases hb
      have NT : Hid (NewAt w o o) := .inl rfl
      have LT : Hid (ns.length < ns.length + 1 ∧ ns.length + 1 + 1 ≤ ns.length + 2 ^ ((d + 1) + 1)) := ⟨by omega, by have := Nat.one_le_two_pow (n := (d + 1)); rw [Nat.pow_succ]; omega⟩
      clear BW M2 K2
      go_wp2
      generalize (w1.alloc (.cells #[.int .i64 3, .int .i64 0, .string ⟨#[]⟩, .slice none 0 0] 32)) = wt at *
      generalize w1.heap.size = bx at *
      obtain ⟨x0, x1, x2, x3⟩ := XT.out.cells
      obtain ⟨qs, hqe, hqr, hqz⟩ := MT.out.own
      have HQl : Hid (qs.length = ns.length) := by rw [Hid, ← hqe]; simp
      have hql : qs.length ≤ 200000 := by rw [HQl.out]; omega
      have cbo := MT.out.box.cell
      have fbo := MT.out.box.frozen
      have hbase := MT.out.base
      have cbo2 := (box_alloc MT.out.box (.cells #[.int .i64 3, .int .i64 0, .string ⟨#[]⟩, (.slice none 0 0)] 32)).cell
      have HBx : Hid (Box bo o wt) := MT.out.box
      have HNe : Hid (o.ownBlock ≠ some bo) := own_off hqr MT.out.box (by decide)
      have HQr : Hid (wt.ownsRow B 32 4 o qs.length (nv qs)) := hqr
      have HQe : Hid (qs.map (·.1) = ns) := hqe
      have HQz : Hid (∀ q ∈ qs, OwnZ B q.2 q.1.kids wt ∧ ∀ b, q.2.ownBlock = some b → (fun b => R b ∨ w.heap.size ≤ b) b) := hqz
      clear hqr hqz hqe
      have i9 : IntKind.i64.wrap (((qs.length : Int) + 1) - 1) = (qs.length : Int) := by rw [IntKind.wrap_i64]; omega
      go_region_law ((refine step_append_lies _ (by rfl) _ _ _ (by rfl) B 32 i0 _ 4 56 Tryd.underlying24 hi hz0 hz1 hz2 rfl (by omega) _ _ _ (by rfl) (World.ownsRow.alloc HQr.out _) ⟨wt.heap.size, 0, none⟩ 1 1 [.int .i64 3, .int .i64 0, .string ⟨#[]⟩, (.slice none 0 0)] (by rfl) (by rfl) (World.news_of_block (cs := #[.int .i64 3, .int .i64 0, .string ⟨#[]⟩, (.slice none 0 0)]) (t := 32) (fr := (0, 0)) (heap_alloc_new wt _)) (four_cells _ _ _ _ _ _) (by omega) (by unfold maxLen; omega) (by omega) (by simp; omega) (wt.heap.size + 1) (by simp) ?_; intro gg cap w3 hown3 hgrow hat hlt3; have hb3 := box_grown hgrow (box_alloc HBx.out _) HNe.out; have c3 := hb3.cell; have f3 := hb3.frozen))
      all_goals
        have P := put_node MT.out hnb hnb3 hgB hbB HQe.out HQz.out HQr.out ZT.out RT.out GT.out NM.out hown3 (ob := .cells #[.int .i64 3, .int .i64 0, .string ⟨#[]⟩, (.slice none 0 0)] 32) ⟨hgrow.os, hgrow.tape, hgrow.output, hgrow.size, hgrow.block⟩ hat
        have HP : Hid (_) := P
        clear P hown3 hgrow hat hlt3 hb3
        go_wp2
        go_ret
        refine ⟨_, _, ?_, HP.out.1, ?_, ?_, NT.out.trans HP.out.2.2 KT.out.size, KT.out.trans HP.out.2.1 NT.out⟩
        · rw [List.length_append, ← HQl.out]; simp
        · have := LT.out; rw [List.length_append, List.length_singleton]; omega
        · have := LT.out; rw [List.length_append, List.length_singleton]; omega
    by_cases o1 : op = 1
    · subst o1
      have BW : Hid (Below w1.heap.size w1 ((w1.alloc (.cells #[.int .i64 1, .int .i64 0, .string ⟨#[]⟩, .slice none 0 0] 32)).alloc (.cells #[.int .i64 0, .int .i64 1, .int .i64 2, .int .i64 3, .int .i64 9, .int .i64 99] 3))) := ((Below.refl _ _).alloc (Nat.le_refl _) _).alloc (by simp) _
      have M3 : Hid (MadeS W v n g bo B nb ss R o ns ((w1.alloc (.cells #[.int .i64 1, .int .i64 0, .string ⟨#[]⟩, .slice none 0 0] 32)).alloc (.cells #[.int .i64 0, .int .i64 1, .int .i64 2, .int .i64 3, .int .i64 9, .int .i64 99] 3))) := M2.out.below BW.out hnb (by omega) hnb3
      have X3 : Hid (XBox w1.heap.size 1 0 ⟨#[]⟩ (.slice none 0 0) ((w1.alloc (.cells #[.int .i64 1, .int .i64 0, .string ⟨#[]⟩, .slice none 0 0] 32)).alloc (.cells #[.int .i64 0, .int .i64 1, .int .i64 2, .int .i64 3, .int .i64 9, .int .i64 99] 3))) := (XBox.made w1 1 0 ⟨#[]⟩ (.slice none 0 0)).alloc _
      have hsb : (w1.alloc (.cells #[.int .i64 1, .int .i64 0, .string ⟨#[]⟩, .slice none 0 0] 32)).heap.size = w1.heap.size + 1 := by simp
      have HP3 : Hid (_) := pickIntP_any (fun y => 0 ≤ y ∧ y ≤ 99) W v n g 6 (w1.heap.size + 1) 6 _ hn HC.out M3.out.cur (by omega) (by omega) (by omega) (by
        have := lit_ints (fun y => 0 ≤ y ∧ y ≤ 99) (w1.alloc (.cells #[.int .i64 1, .int .i64 0, .string ⟨#[]⟩, .slice none 0 0] 32)) ints3 3 ints3_in
        rw [hsb] at this
        exact this)
      have HW3 : Hid (Went W v n g w1 ((w1.alloc (.cells #[.int .i64 1, .int .i64 0, .string ⟨#[]⟩, .slice none 0 0] 32)).alloc (.cells #[.int .i64 0, .int .i64 1, .int .i64 2, .int .i64 3, .int .i64 9, .int .i64 99] 3))) := went_below M2.out.cur BW.out
      clear hsb
      go_wp2_with fail
      refine Calls.mono HP3.out ?_
      rintro e w5 ⟨y, rfl, ⟨hy0, hy1⟩, hw5⟩
      have X5 : Hid (XBox w1.heap.size 1 0 ⟨#[]⟩ (.slice none 0 0) w5) := X3.out.same (hw5.2.block _ X3.out.lt (fun e => by have e2 := Option.some.inj e; omega))
      have HW5 : Hid (Went W v n g w1 (w5.setCell ⟨w1.heap.size, 1, none⟩ (.int .i64 y))) := went_set (went_trans HW3.out hw5) (Nat.le_refl _) (by omega) M2.out.cur.1.size
      have MT : Hid (MadeS W v n g bo B nb ss (fun b => R b ∨ w.heap.size ≤ b) o ns (w5.setCell ⟨w1.heap.size, 1, none⟩ (.int .i64 y))) := (M2.out.went HW5.out hnb (by omega) hnb3).mono (fun b _ h => .inl h)
      have KT : Hid (Keep g bo o w (w5.setCell ⟨w1.heap.size, 1, none⟩ (.int .i64 y))) := K2.out.trans (Keep.went HW5.out) (.inl rfl)
      have XT : Hid (XBox w1.heap.size 1 y ⟨#[]⟩ (.slice none 0 0) (w5.setCell ⟨w1.heap.size, 1, none⟩ (.int .i64 y))) := X5.out.set1 y
      have ZT : Hid (OwnZ B (.slice none 0 0) [] (w5.setCell ⟨w1.heap.size, 1, none⟩ (.int .i64 y))) := ⟨rfl, .inl ⟨rfl, rfl⟩⟩
      have GT : Hid (nodeB ns.length ⟨1, y, ⟨#[]⟩, []⟩ = true) := nodeB_yes (show inI 1 1 11 = true by decide) rfl (by rw [fieldsB, if_pos rfl, inI, decide_eq_true (show 0 ≤ y ∧ y ≤ 99 from ⟨hy0, hy1⟩), if_neg (show ¬ (1 : Int) = 2 by decide)]; rfl) (fun j hj => by cases hj)
      have NM : Hid (NmOk ss ⟨1, y, ⟨#[]⟩, []⟩) := fun h => by cases h
      have hx1 := X5.out.cells.2.1
      have hf1 := X5.out.frozen 1
      have RT : Hid (∀ b, (Value.slice none 0 0).ownBlock = some b → (fun b => R b ∨ w.heap.size ≤ b) b) := fun b hb => by cases hb
      have NT : Hid (NewAt w o o) := .inl rfl
      have LT : Hid (ns.length < ns.length + 1 ∧ ns.length + 1 + 1 ≤ ns.length + 2 ^ ((d + 1) + 1)) := ⟨by omega, by have := Nat.one_le_two_pow (n := (d + 1)); rw [Nat.pow_succ]; omega⟩
      clear hw5 HW5 HW3 M3 X3 BW M2 K2 HP3
      go_wp2
      generalize w5.setCell ⟨w1.heap.size, 1, none⟩ (.int .i64 y) = wt at *
      generalize w1.heap.size = bx at *
      obtain ⟨x0, x1, x2, x3⟩ := XT.out.cells
      obtain ⟨qs, hqe, hqr, hqz⟩ := MT.out.own
      have HQl : Hid (qs.length = ns.length) := by rw [Hid, ← hqe]; simp
      have hql : qs.length ≤ 200000 := by rw [HQl.out]; omega
      have cbo := MT.out.box.cell
      have fbo := MT.out.box.frozen
      have hbase := MT.out.base
      have cbo2 := (box_alloc MT.out.box (.cells #[.int .i64 1, .int .i64 y, .string ⟨#[]⟩, (.slice none 0 0)] 32)).cell
      have HBx : Hid (Box bo o wt) := MT.out.box
      have HNe : Hid (o.ownBlock ≠ some bo) := own_off hqr MT.out.box (by decide)
      have HQr : Hid (wt.ownsRow B 32 4 o qs.length (nv qs)) := hqr
      have HQe : Hid (qs.map (·.1) = ns) := hqe
      have HQz : Hid (∀ q ∈ qs, OwnZ B q.2 q.1.kids wt ∧ ∀ b, q.2.ownBlock = some b → (fun b => R b ∨ w.heap.size ≤ b) b) := hqz
      clear hqr hqz hqe
      have i9 : IntKind.i64.wrap (((qs.length : Int) + 1) - 1) = (qs.length : Int) := by rw [IntKind.wrap_i64]; omega
      go_region_law ((refine step_append_lies _ (by rfl) _ _ _ (by rfl) B 32 i0 _ 4 56 Tryd.underlying24 hi hz0 hz1 hz2 rfl (by omega) _ _ _ (by rfl) (World.ownsRow.alloc HQr.out _) ⟨wt.heap.size, 0, none⟩ 1 1 [.int .i64 1, .int .i64 y, .string ⟨#[]⟩, (.slice none 0 0)] (by rfl) (by rfl) (World.news_of_block (cs := #[.int .i64 1, .int .i64 y, .string ⟨#[]⟩, (.slice none 0 0)]) (t := 32) (fr := (0, 0)) (heap_alloc_new wt _)) (four_cells _ _ _ _ _ _) (by omega) (by unfold maxLen; omega) (by omega) (by simp; omega) (wt.heap.size + 1) (by simp) ?_; intro gg cap w3 hown3 hgrow hat hlt3; have hb3 := box_grown hgrow (box_alloc HBx.out _) HNe.out; have c3 := hb3.cell; have f3 := hb3.frozen))
      all_goals
        have P := put_node MT.out hnb hnb3 hgB hbB HQe.out HQz.out HQr.out ZT.out RT.out GT.out NM.out hown3 (ob := .cells #[.int .i64 1, .int .i64 y, .string ⟨#[]⟩, (.slice none 0 0)] 32) ⟨hgrow.os, hgrow.tape, hgrow.output, hgrow.size, hgrow.block⟩ hat
        have HP : Hid (_) := P
        clear P hown3 hgrow hat hlt3 hb3
        go_wp2
        go_ret
        refine ⟨_, _, ?_, HP.out.1, ?_, ?_, NT.out.trans HP.out.2.2 KT.out.size, KT.out.trans HP.out.2.1 NT.out⟩
        · rw [List.length_append, ← HQl.out]; simp
        · have := LT.out; rw [List.length_append, List.length_singleton]; omega
        · have := LT.out; rw [List.length_append, List.length_singleton]; omega
    obtain rfl : op = 2 := by omega
    clear o1 o3
    have BW : Hid (Below w1.heap.size w1 (w1.alloc (.cells #[.int .i64 2, .int .i64 0, .string ⟨#[]⟩, .slice none 0 0] 32))) := (Below.refl _ _).alloc (Nat.le_refl _) _
    have M3 : Hid (MadeS W v n g bo B nb ss R o ns (w1.alloc (.cells #[.int .i64 2, .int .i64 0, .string ⟨#[]⟩, .slice none 0 0] 32))) := M2.out.below BW.out hnb (by omega) hnb3
    have X3 : Hid (XBox w1.heap.size 2 0 ⟨#[]⟩ (.slice none 0 0) (w1.alloc (.cells #[.int .i64 2, .int .i64 0, .string ⟨#[]⟩, .slice none 0 0] 32))) := XBox.made w1 2 0 ⟨#[]⟩ (.slice none 0 0)
    have HP3 : Hid (_) := below_any W v n g (ss.length : Int) _ hn HC.out M3.out.cur (by omega) (by omega)
    have HW3 : Hid (Went W v n g w1 (w1.alloc (.cells #[.int .i64 2, .int .i64 0, .string ⟨#[]⟩, .slice none 0 0] 32))) := went_below M2.out.cur BW.out
    have hs0 : ¬ (ss.length : Int) = 0 := by omega
    go_wp2_with fail
    refine Calls.mono HP3.out ?_
    rintro e w5 ⟨y, rfl, ⟨hy0, hy1⟩, hw5⟩
    obtain ⟨q, rfl⟩ := Int.eq_ofNat_of_zero_le hy0
    have hq : q < ss.length := by omega
    have hnm := (M3.out.went hw5 hnb (by omega) hnb3).names q hq
    have HMem : Hid (ss[q] ∈ ss) := List.getElem_mem hq
    have X5 : Hid (XBox w1.heap.size 2 0 ⟨#[]⟩ (.slice none 0 0) w5) := X3.out.same (hw5.2.block _ X3.out.lt (fun e => by have e2 := Option.some.inj e; omega))
    generalize ss[q] = nm at *
    have HW5 : Hid (Went W v n g w1 (w5.setCell ⟨w1.heap.size, 2, none⟩ (.string nm))) := went_set (went_trans HW3.out hw5) (Nat.le_refl _) (by omega) M2.out.cur.1.size
    have MT : Hid (MadeS W v n g bo B nb ss (fun b => R b ∨ w.heap.size ≤ b) o ns (w5.setCell ⟨w1.heap.size, 2, none⟩ (.string nm))) := (M2.out.went HW5.out hnb (by omega) hnb3).mono (fun b _ h => .inl h)
    have KT : Hid (Keep g bo o w (w5.setCell ⟨w1.heap.size, 2, none⟩ (.string nm))) := K2.out.trans (Keep.went HW5.out) (.inl rfl)
    have XT : Hid (XBox w1.heap.size 2 0 nm (.slice none 0 0) (w5.setCell ⟨w1.heap.size, 2, none⟩ (.string nm))) := X5.out.set2 nm
    have ZT : Hid (OwnZ B (.slice none 0 0) [] (w5.setCell ⟨w1.heap.size, 2, none⟩ (.string nm))) := ⟨rfl, .inl ⟨rfl, rfl⟩⟩
    have GT : Hid (nodeB ns.length ⟨2, 0, nm, []⟩ = true) := nodeB_yes (show inI 2 1 11 = true by decide) rfl (by rw [fieldsB, if_neg (show ¬ (2 : Int) = 1 by decide), if_pos rfl, HSS.out nm HMem.out]; rfl) (fun j hj => by cases hj)
    have NM : Hid (NmOk ss ⟨2, 0, nm, []⟩) := fun _ => HMem.out
    have hx1 := X5.out.cells.2.2.1
    have hf1 := X5.out.frozen 2
    have i5 : (q : Int) < (ss.length : Int) := by omega
    have RT : Hid (∀ b, (Value.slice none 0 0).ownBlock = some b → (fun b => R b ∨ w.heap.size ≤ b) b) := fun b hb => by cases hb
    have NT : Hid (NewAt w o o) := .inl rfl
    have LT : Hid (ns.length < ns.length + 1 ∧ ns.length + 1 + 1 ≤ ns.length + 2 ^ ((d + 1) + 1)) := ⟨by omega, by have := Nat.one_le_two_pow (n := (d + 1)); rw [Nat.pow_succ]; omega⟩
    clear hw5 HW5 HW3 M3 X3 BW M2 K2 HP3
    go_wp2
    generalize w5.setCell ⟨w1.heap.size, 2, none⟩ (.string nm) = wt at *
    generalize w1.heap.size = bx at *
    obtain ⟨x0, x1, x2, x3⟩ := XT.out.cells
    obtain ⟨qs, hqe, hqr, hqz⟩ := MT.out.own
    have HQl : Hid (qs.length = ns.length) := by rw [Hid, ← hqe]; simp
    have hql : qs.length ≤ 200000 := by rw [HQl.out]; omega
    have cbo := MT.out.box.cell
    have fbo := MT.out.box.frozen
    have hbase := MT.out.base
    have cbo2 := (box_alloc MT.out.box (.cells #[.int .i64 2, .int .i64 0, .string nm, (.slice none 0 0)] 32)).cell
    have HBx : Hid (Box bo o wt) := MT.out.box
    have HNe : Hid (o.ownBlock ≠ some bo) := own_off hqr MT.out.box (by decide)
    have HQr : Hid (wt.ownsRow B 32 4 o qs.length (nv qs)) := hqr
    have HQe : Hid (qs.map (·.1) = ns) := hqe
    have HQz : Hid (∀ q ∈ qs, OwnZ B q.2 q.1.kids wt ∧ ∀ b, q.2.ownBlock = some b → (fun b => R b ∨ w.heap.size ≤ b) b) := hqz
    clear hqr hqz hqe
    have i9 : IntKind.i64.wrap (((qs.length : Int) + 1) - 1) = (qs.length : Int) := by rw [IntKind.wrap_i64]; omega
    go_region_law ((refine step_append_lies _ (by rfl) _ _ _ (by rfl) B 32 i0 _ 4 56 Tryd.underlying24 hi hz0 hz1 hz2 rfl (by omega) _ _ _ (by rfl) (World.ownsRow.alloc HQr.out _) ⟨wt.heap.size, 0, none⟩ 1 1 [.int .i64 2, .int .i64 0, .string nm, (.slice none 0 0)] (by rfl) (by rfl) (World.news_of_block (cs := #[.int .i64 2, .int .i64 0, .string nm, (.slice none 0 0)]) (t := 32) (fr := (0, 0)) (heap_alloc_new wt _)) (four_cells _ _ _ _ _ _) (by omega) (by unfold maxLen; omega) (by omega) (by simp; omega) (wt.heap.size + 1) (by simp) ?_; intro gg cap w3 hown3 hgrow hat hlt3; have hb3 := box_grown hgrow (box_alloc HBx.out _) HNe.out; have c3 := hb3.cell; have f3 := hb3.frozen))
    all_goals
      have P := put_node MT.out hnb hnb3 hgB hbB HQe.out HQz.out HQr.out ZT.out RT.out GT.out NM.out hown3 (ob := .cells #[.int .i64 2, .int .i64 0, .string nm, (.slice none 0 0)] 32) ⟨hgrow.os, hgrow.tape, hgrow.output, hgrow.size, hgrow.block⟩ hat
      have HP : Hid (_) := P
      clear P hown3 hgrow hat hlt3 hb3
      go_wp2
      go_ret
      refine ⟨_, _, ?_, HP.out.1, ?_, ?_, NT.out.trans HP.out.2.2 KT.out.size, KT.out.trans HP.out.2.1 NT.out⟩
      · rw [List.length_append, ← HQl.out]; simp
      · have := LT.out; rw [List.length_append, List.length_singleton]; omega
      · have := LT.out; rw [List.length_append, List.length_singleton]; omega
  | false =>
    clear hop
    have B3 : Hid (Below w1.heap.size w1 (w1.alloc (.cells #[.int .i64 4, .int .i64 4, .int .i64 5, .int .i64 6, .int .i64 7, .int .i64 8, .int .i64 9, .int .i64 10, .int .i64 11] 3))) := (Below.refl _ _).alloc (Nat.le_refl _) _
    have M3 : Hid (MadeS W v n g bo B nb ss R o ns (w1.alloc (.cells #[.int .i64 4, .int .i64 4, .int .i64 5, .int .i64 6, .int .i64 7, .int .i64 8, .int .i64 9, .int .i64 10, .int .i64 11] 3))) := M2.out.below B3.out hnb (by omega) hnb3
    have HP3 : Hid (_) := pickIntP_any (fun y => 4 ≤ y ∧ y ≤ 11) W v n g 9 w1.heap.size 9 _ hn HC.out M3.out.cur (by omega) (by omega) (by omega) (lit_ints (fun y => 4 ≤ y ∧ y ≤ 11) w1 ints2 3 ints2_in)
    go_wp2_with fail
    refine Calls.mono HP3.out ?_
    rintro e w4 ⟨op2, rfl, ⟨ho4, ho11⟩, hw4⟩
    have M4 : Hid (MadeS W v n g bo B nb ss R o ns w4) := M3.out.went hw4 hnb (by omega) hnb3
    have K4 : Hid (Keep g bo o w w4) := (K2.out.trans (Keep.below B3.out) (.inl rfl)).trans (Keep.went hw4) (.inl rfl)
    have hs4 : w.heap.size < w4.heap.size := by have := hw4.2.size; simp at this; omega
    clear hw4 M3 HP3 B3 M2 K2
    have hbw4 : bo < w4.heap.size := M4.out.box.lt
    have hB4 : B ≤ w4.heap.size := M4.out.base
    generalize hopx : op2 = opx at *
    clear hopx
    have BW : Hid (Below w4.heap.size w4 (w4.alloc (.cells #[.int .i64 opx, .int .i64 0, .string ⟨#[]⟩, .slice none 0 0] 32))) := (Below.refl _ _).alloc (Nat.le_refl _) _
    have HKI : Hid (KidInv W v n g bo B nb ss R w o ns d opx w4.heap.size 0 o ns (.slice none 0 0) [] (w4.alloc (.cells #[.int .i64 opx, .int .i64 0, .string ⟨#[]⟩, .slice none 0 0] 32))) :=
      ⟨(by rw [kidsN_two opx ho4]; split <;> decide), (M4.out.below BW.out hnb (by omega) hnb3).mono (fun b _ h => ⟨.inl h, (fun e => (by cases e))⟩), XBox.made w4 opx 0 ⟨#[]⟩ (.slice none 0 0), ⟨rfl, .inl ⟨rfl, rfl⟩⟩, rfl, (fun k hk => (by cases hk)), (by omega), Nat.le_refl _, .inl rfl, K4.out.trans (Keep.below BW.out) (.inl rfl), (fun e => (by have := (M4.out.own.lt _ e).2; omega)), (fun b hb => (by cases hb))⟩
    have n1 : ¬ opx = 1 := by omega
    have n2 : ¬ opx = 2 := by omega
    have n3 : ¬ opx = 3 := by omega
    have m1 : (opx == 1) = false := by simpa using n1
    have m2 : (opx == 2) = false := by simpa using n2
    have m3 : (opx != 3) = true := by simpa using n3
    have hbx : B ≤ w4.heap.size := hB4
    have hbxb : w4.heap.size ≠ bo := by omega
    have hbw : w.heap.size ≤ w4.heap.size := by omega
    have HKd : Hid (∀ W', _) := fun W' => l04Kids_any opx W'
    have HKN : Hid (kidsN opx = 1 ∨ kidsN opx = 2) := by rw [Hid, kidsN_two opx ho4]; split <;> simp
    clear BW M4 K4
    go_wp2
    generalize (w4.alloc (.cells #[.int .i64 opx, .int .i64 0, .string ⟨#[]⟩, .slice none 0 0] 32)) = wb at *
    generalize w4.heap.size = bx at *
    go_loopw [11] (fun iv wr => KidRel W v n g bo B nb ss R w o ns d opx bx iv wr) (fun iv _ => 2 - (intOf iv).toNat)
    case atStart => exact ⟨0, o, ns, _, [], rfl, HKI.out⟩
    case round =>
      obtain ⟨i, oc, nsc, kv, ks, rfl, hki⟩ := hrel
      have KI : Hid (KidInv W v n g bo B nb ss R w o ns d opx bx i oc nsc kv ks wr) := hki
      clear hki
      by_cases hlt : (i : Int) < kidsN opx
      · have hle2 := HKN.out
        have hi1 : i ≤ 1 := by omega
        have x3 := KI.out.xb.cells.2.2.2
        have MD : Hid (MadeS W v n g bo B nb ss (fun b => (R b ∨ w.heap.size ≤ b) ∧ kv.ownBlock ≠ some b) oc nsc wr.drew) := KI.out.made.drew hnb (by omega) hnb3
        have HI : Hid (_) := IH.out _ trivial oc nsc wr.drew MD.out (by
          have h1 := KI.out.grow
          have h2 := HPow.out
          have h3 : 2 ^ (d + 1 + 1) = 2 ^ (d + 1) * 2 := Nat.pow_succ ..
          have h4 : i * 2 ^ (d + 1) ≤ 1 * 2 ^ (d + 1) := Nat.mul_le_mul_right _ hi1
          omega)
        have hksl : ks.length ≤ 1 := by have := KI.out.len; omega
        have hbase := KI.out.made.base
        have hle3 : ¬ kidsN opx ≤ (i : Int) := by omega
        clear hle2
        go_wp2_with fail
        refine (HKd.out _).mono ?_
        rintro e wq ⟨rfl, hw⟩
        rw [hw]
        clear hw wq
        go_wp2
        go_region_law ((first
          | (show ite (Region.wanted (Oper.mk (some 67) _ _ _ _ _) _ = true) _ _; refine step_append_lies _ (by rfl) _ _ _ (by rfl) B 3 j0 _ 1 8 Tryd.underlying30 hj hj0 hj1 hj2 rfl (by omega) _ _ _ (by rfl) (World.ownsRow.alloc Z5 _) ⟨w5.heap.size, 0, none⟩ 1 1 [.int .i64 ((ns5.length : Int) - 1)] (by rfl) (by rfl) (cell_one_new _ _ _) (one_cell .i64 _) (by omega) (by unfold maxLen; omega) (by omega) (by have h1 := hM5.base; simp; omega) (w5.heap.size + 1) (by simp) ?_; intro gg cap w6 hown6 hgrow6 hat6 hlt6; have X6 := XBox.same (X5.alloc (.cells #[.int .i64 ((ns5.length : Int) - 1)] 3)) (hgrow6.block bx (X5.alloc _).lt (fun e => own_off Z5 X5 (by decide) e.symm)); have z3 := X6.cells.2.2.2; have zf := X6.frozen 3)
          | (go_simp; go_at_call 29; refine Calls.mono HI.out ?_; rintro e w5 ⟨o5, ns5, rfl, hM5, hl1, hl2, hN5, hK5⟩; have X5 := KI.out.xb.same (hK5.block bx KI.out.xb.lt (by omega) hbxb KI.out.off); have y3 := X5.cells.2.2.2; have y3b := (X5.alloc (.cells #[.int .i64 ((ns5.length : Int) - 1)] 3)).cells.2.2.2; have Z5 : OwnZ B kv ks w5 := ownZ_keep KI.out.z KI.out.made.cur KI.out.made.box KI.out.made.own ⟨hK5.os, hK5.tape, hK5.output, hK5.size, hK5.block⟩; try go_wp2)))
        all_goals
          have KI2 : Hid (_) := kid_step KI.out hlt hnb3 hgB hbx hbxb hbw hM5 hl1 hl2 hN5 ⟨hK5.os, hK5.tape, hK5.output, hK5.size, hK5.block⟩ hown6 hgrow6 hat6
          clear hM5 hl1 hl2 hN5 hK5 hown6 hgrow6 hat6 hlt6 X5 X6 Z5 y3 y3b
          go_wp2
          go_roundw
          case rel => exact ⟨i + 1, _, _, _, _, by go_num, KI2.out⟩
          case measure => simp [intOf]; omega
      · obtain ⟨wt, rfl⟩ : ∃ wt, wt = wr := ⟨_, rfl⟩
        have hle := KI.out.le
        have hk : (i : Int) = kidsN opx := by omega
        have hi12 : i = 1 ∨ i = 2 := by have := HKN.out; omega
        have hgr := KI.out.grow
        have hkb := kid_bound hgr hi12
        have MT : Hid (MadeS W v n g bo B nb ss (fun b => R b ∨ w.heap.size ≤ b) oc nsc wt) := KI.out.made.mono (fun b _ h => h.1)
        have KT : Hid (Keep g bo o w wt) := KI.out.keep
        have NT : Hid (NewAt w o oc) := KI.out.new
        have LT : Hid (ns.length < nsc.length + 1 ∧ nsc.length + 1 + 1 ≤ ns.length + 2 ^ (d + 1 + 1)) := ⟨by have := KI.out.ge; omega, hkb⟩
        have hnl : nsc.length ≤ 100000 := by have h1 := Nat.le_trans hkb HPow.out; omega
        obtain ⟨ak, ck, rfl⟩ := KI.out.z.row.slice
        have XT : Hid (XBox bx opx 0 ⟨#[]⟩ (.slice ak ks.length ck) wt) := KI.out.xb
        have ZT : Hid (OwnZ B (.slice ak ks.length ck) ks wt) := KI.out.z
        have RT : Hid (∀ b, (Value.slice ak ks.length ck).ownBlock = some b → (fun b => R b ∨ w.heap.size ≤ b) b) := fun b hb => .inr (KI.out.knew b hb)
        have GT : Hid (nodeB nsc.length ⟨opx, 0, ⟨#[]⟩, ks⟩ = true) := kid_right ho4 ho11 (by rw [KI.out.len]; exact hk) KI.out.kids
        have NM : Hid (NmOk ss ⟨opx, 0, ⟨#[]⟩, ks⟩) := fun h => absurd h n2
        clear hle hk hi12 hgr hkb HKN
        go_wp2_with fail
        refine (HKd.out _).mono ?_
        rintro e wq ⟨rfl, hw⟩
        rw [hw]
        clear hw wq
        go_wp2
        obtain ⟨x0, x1, x2, x3⟩ := XT.out.cells
        obtain ⟨qs, hqe, hqr, hqz⟩ := MT.out.own
        have HQl : Hid (qs.length = nsc.length) := by rw [Hid, ← hqe]; simp
        have hql : qs.length ≤ 200000 := by rw [HQl.out]; omega
        have cbo := MT.out.box.cell
        have fbo := MT.out.box.frozen
        have hbase := MT.out.base
        have cbo2 := (box_alloc MT.out.box (.cells #[.int .i64 opx, .int .i64 0, .string ⟨#[]⟩, (.slice ak ks.length ck)] 32)).cell
        have HBx : Hid (Box bo oc wt) := MT.out.box
        have HNe : Hid (oc.ownBlock ≠ some bo) := own_off hqr MT.out.box (by decide)
        have HQr : Hid (wt.ownsRow B 32 4 oc qs.length (nv qs)) := hqr
        have HQe : Hid (qs.map (·.1) = nsc) := hqe
        have HQz : Hid (∀ q ∈ qs, OwnZ B q.2 q.1.kids wt ∧ ∀ b, q.2.ownBlock = some b → (fun b => R b ∨ w.heap.size ≤ b) b) := hqz
        clear hqr hqz hqe
        have i9 : IntKind.i64.wrap (((qs.length : Int) + 1) - 1) = (qs.length : Int) := by rw [IntKind.wrap_i64]; omega
        go_region_law ((refine step_append_lies _ (by rfl) _ _ _ (by rfl) B 32 i0 _ 4 56 Tryd.underlying24 hi hz0 hz1 hz2 rfl (by omega) _ _ _ (by rfl) (World.ownsRow.alloc HQr.out _) ⟨wt.heap.size, 0, none⟩ 1 1 [.int .i64 opx, .int .i64 0, .string ⟨#[]⟩, (.slice ak ks.length ck)] (by rfl) (by rfl) (World.news_of_block (cs := #[.int .i64 opx, .int .i64 0, .string ⟨#[]⟩, (.slice ak ks.length ck)]) (t := 32) (fr := (0, 0)) (heap_alloc_new wt _)) (four_cells _ _ _ _ _ _) (by omega) (by unfold maxLen; omega) (by omega) (by simp; omega) (wt.heap.size + 1) (by simp) ?_; intro gg cap w3 hown3 hgrow hat hlt3; have hb3 := box_grown hgrow (box_alloc HBx.out _) HNe.out; have c3 := hb3.cell; have f3 := hb3.frozen))
        all_goals
          have P := put_node MT.out hnb hnb3 hgB hbB HQe.out HQz.out HQr.out ZT.out RT.out GT.out NM.out hown3 (ob := .cells #[.int .i64 opx, .int .i64 0, .string ⟨#[]⟩, (.slice ak ks.length ck)] 32) ⟨hgrow.os, hgrow.tape, hgrow.output, hgrow.size, hgrow.block⟩ hat
          have HP : Hid (_) := P
          clear P hown3 hgrow hat hlt3 hb3
          go_wp2
          go_ret
          refine ⟨_, _, ?_, HP.out.1, ?_, ?_, NT.out.trans HP.out.2.2 KT.out.size, KT.out.trans HP.out.2.1 NT.out⟩
          · rw [List.length_append, ← HQl.out]; simp
          · have := LT.out; rw [List.length_append, List.length_singleton]; omega
          · have := LT.out; rw [List.length_append, List.length_singleton]; omega

/-- The verifier's l04Made, however deep. -/
theorem made_any (W : World) (v : Value) (n g bo B nb cn : Nat) (ss : List ByteArray) (hn : n ≤ 1000000000000) (hcode : CodeRow W v n) (hss : ∀ s ∈ ss, nameB s = true) (hsl : ss.length ≤ 100) (hsl0 : 0 < ss.length) (hnb : nb ≠ g) (hnb3 : nb < B) (hgB : g < B) (hbB : B ≤ bo) :
    ∀ (d : Nat), d ≤ 5 → ∀ (R : Nat → Prop) (_ : True) (o : Value) (ns : List NodeD) (w : World), MadeS W v n g bo B nb ss R o ns w → ns.length + 2 ^ (d + 1) ≤ 100000 →
    Calls Tryd.prog 29 #[.pointer (some ⟨g, 0, none⟩), .pointer (some ⟨bo, 0, none⟩), .slice (some ⟨nb, 0, none⟩) ss.length cn, .int .i64 (d : Int)] w (MadePost W v n g bo B nb ss R d o ns w)
  | 0, _ => made_zero W v n g bo B nb cn ss hn hcode hss hsl hsl0 hnb hnb3 hgB hbB
  | d + 1, hd => made_succ W v n g bo B nb cn ss hn hcode hss hsl hsl0 hnb hnb3 hgB hbB d (by omega) (made_any W v n g bo B nb cn ss hn hcode hss hsl hsl0 hnb hnb3 hgB hbB d (by omega))
end Go.Proofs.YtbpfapjchmignaaDoor
