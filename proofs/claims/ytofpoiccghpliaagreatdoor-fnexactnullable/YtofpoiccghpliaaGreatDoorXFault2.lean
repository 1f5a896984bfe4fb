/- faultCode, out of errors.As's contract. -/
import Derived.Test.YtofpoiccghpliaaGreatDoorXFault
namespace Go.Proofs.YtofpoiccghpliaaGreatDoor
open Go.RowKit

/-- The same, the world behind it told by what it keeps. -/
theorem as_is (c : Int) (t : Addr) (old : Value) (w : World) (hg : errTy w) (ht0 : w.cell? t = some old) (hf0 : w.frozen? t = false) :
    Calls Tryz.prog 122 #[.iface 166 (.agg #[.int .i64 c]), .iface 172 (.pointer (some t))] w fun ev w' => ev = .returned (.bool true) ∧ w'.cell? t = some (.int .i64 c) ∧ Below t.block w w' := by
  have htl : t.block < w.heap.size := World.block_lt_of_cell? w _ ht0
  refine (as_hit c t old w hg ht0 hf0).mono ?_
  rintro e w' ⟨rfl, rfl⟩
  refine ⟨rfl, ?_, ?_⟩
  · exact World.cell?_setCell_same' _ _ _ (by rw [World.cell?_alloc_lt _ _ t (by simp; omega), World.cell?_alloc_lt _ _ t (by simp; omega), World.cell?_alloc_lt _ _ t (by simp; omega), World.cell?_alloc_lt _ _ t htl, ht0]; rfl)
  · exact Below.setCell ((((((Below.refl _ _).alloc (by omega) _).alloc (by simp; omega) _).alloc (by simp; omega) _).alloc (by simp; omega) _)) (Nat.le_refl _) _

theorem faultCode_nil (w : World) : Calls Tryz.prog 113 #[.nilIface] w fun e w' => e = .returned (.int .i64 0) ∧ Below w.heap.size w w' := by
  go_enter Tryz.func113, Tryz.ntmps113
  go_wp2_with (go_at_call 122; refine (as_nil _ _).mono ?_; rintro e w' ⟨rfl, rfl⟩)
  go_ret
  exact ⟨rfl, (Below.refl _ _).alloc (Nat.le_refl _) _⟩
theorem errTy.below {w w' : World} (h : errTy w) (hb : Below w.heap.size w w') : errTy w' := by
  have hlt := World.block_lt_of_cell? w _ h
  exact (World.cell?_of_block (hb.block _ hlt)).trans h
theorem faultCode_is (c : Int) (w : World) (hg : errTy w) : Calls Tryz.prog 113 #[faultV c] w fun e w' => e = .returned (.int .i64 c) ∧ Below w.heap.size w w' := by
  have B0 : Hid (Below w.heap.size w (w.alloc (.cells #[.int .i64 0] 166))) := (Below.refl _ _).alloc (Nat.le_refl _) _
  have HA : Hid (_) := as_is c ⟨w.heap.size, 0, none⟩ (.int .i64 0) (w.alloc (.cells #[.int .i64 0] 166)) (hg.below B0.out) (by simp) (by simp)
  rw [faultV]
  clear hg
  go_enter Tryz.func113, Tryz.ntmps113
  go_wp2_with fail
  refine Calls.mono HA.out ?_
  rintro e w1 ⟨rfl, hc, hb⟩
  have B1 : Hid (Below w.heap.size w w1) := B0.out.trans hb
  clear hb
  go_wp2
  go_ret
  exact ⟨rfl, B1.out⟩
end Go.Proofs.YtofpoiccghpliaaGreatDoor
