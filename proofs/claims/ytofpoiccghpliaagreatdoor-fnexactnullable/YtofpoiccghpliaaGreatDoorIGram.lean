/- The program's GrammarOk: a check that may panic, under a deferred recover. -/
import Derived.Test.YtofpoiccghpliaaGreatDoorICk7
import Derived.Defers
import Derived.Recover
namespace Go.Proofs.YtofpoiccghpliaaGreatDoor
open Go.RowKit

theorem check1_any (gv : Value) (g : List RuleD) (B : Nat) (w : World) (hErr : errTy w) (hg : grammarTot g ≤ 1048576) (h : RowC 3 RuleE w gv g) (hB : w.cell? ⟨B, 0, none⟩ = some gv) :
    Calls Tryz.prog 42 #[.pointer (some ⟨B, 0, none⟩)] w fun e w' => e = okE (gramB g) ∧ Below w.heap.size w w' := by
  have HC : Hid (∀ _ : Unit, _) := fun _ => checkGrammar_any gv g w hErr hg h
  obtain ⟨ag, cg, rfl⟩ := h.slice
  clear h
  cases hb : gramB g with
  | false =>
    rw [hb] at HC
    clear hb
    go_enter Tryz.func42, Tryz.ntmps42
    go_wp2_with (go_at_call 43; refine (HC.out ()).mono ?_; rintro e w4 ⟨he, hb4⟩; rw [he, okE_no]; clear he)
    exact ⟨rfl, rfl, hb4⟩
  | true =>
    rw [hb] at HC
    clear hb
    go_enter Tryz.func42, Tryz.ntmps42
    go_wp2_with (go_at_call 43; refine (HC.out ()).mono ?_; rintro e w4 ⟨he, hb4⟩; rw [he, okE_yes]; clear he)
    go_end0
    exact ⟨rfl, hb4⟩

theorem catch_panicking (p : Addr) (x : Bool) (w : World) (hc : w.cell? p = some (.bool x)) (hz : w.frozen? p = false) :
    CallsD Tryz.prog 56 #[.pointer (some p)] (.panicking nrC) w fun e u' w' =>
      e = .returned (.tuple #[]) ∧ u' = .panicking [{ v := .iface 111 (.agg #[]), recovered := true }] ∧ w' = w.setCell p (.bool false) := by
  refine callsD_of_wpS Tryz.func56 rfl fun c₀ cs hu => ?_
  apply wpS_region
  simp [wpOpsS, go_sem, recoverD, hu, nrC, Tryz.ntmps56, hc, hz, bodyPostS, results, Tryz.results56]

theorem catch_idle (p : Addr) (x : Bool) (w : World) (hc : w.cell? p = some (.bool x)) (hz : w.frozen? p = false) :
    CallsD Tryz.prog 56 #[.pointer (some p)] .returning w fun e u' w' => e = .returned (.tuple #[]) ∧ u' = .returning ∧ w' = w.setCell p (.bool true) := by
  refine callsD_of_wpS Tryz.func56 rfl fun c₀ cs hu => ?_
  apply wpS_region
  simp [wpOpsS, go_sem, recoverD, hu, Tryz.ntmps56, hc, hz, bodyPostS, results, Tryz.results56]
  cases c₀
  simp_all

theorem frozen_kept {W W' : World} {a : Addr} {v : Value} (hc : W.cell? a = some v) (h : W.frozen? a = false) (hb : Below W.heap.size W W') : W'.frozen? a = false := by
  have hlt := World.block_lt_of_cell? W _ hc
  unfold World.frozen? at h ⊢
  rw [hb.block a.block hlt]
  exact h

set_option maxHeartbeats 1600000 in
theorem passes_any (b : Bool) (B : Nat) (w : World) (hC : ∀ W, Below w.heap.size w W → Calls Tryz.prog 42 #[.pointer (some ⟨B, 0, none⟩)] W fun e w' => e = okE b ∧ Below W.heap.size W w') :
    Calls Tryz.prog 41 #[.func (.func 42) #[] #[.pointer (some ⟨B, 0, none⟩)]] w fun e w' => e = .returned (.bool b) ∧ Below w.heap.size w w' := by
  have hmf : ∀ (fn : Fn) (first cap : Array Value) (w : World), (Instr.makeFunc fn first cap).run Tryz.prog w = .ok (.func fn first cap) w := fun _ _ _ _ => rfl
  have HC : Hid (∀ W, Below w.heap.size w W → Calls Tryz.prog 42 #[.pointer (some ⟨B, 0, none⟩)] W fun e w' => e = okE b ∧ Below W.heap.size W w') := hC
  clear hC
  have B0 : Hid (Below w.heap.size w (w.alloc (.cells #[.bool false] 4))) := (Below.refl _ _).alloc (Nat.le_refl _) _
  have b0 : (w.alloc (.cells #[.bool false] 4)).cell? ⟨w.heap.size, 0, none⟩ = some (.bool false) := box_at _ _ _ 0 _ rfl
  have z0 : (w.alloc (.cells #[.bool false] 4)).frozen? ⟨w.heap.size, 0, none⟩ = false := by simp
  cases b with
  | true =>
    go_enter_defers Tryz.func41, Tryz.ntmps41
    go_wp2_with (go_at_call 42; refine (HC.out _ B0.out).mono ?_; rintro e w1 ⟨he, hb1⟩; rw [he, okE_yes]; clear he; have c1 := cell_keep b0 hb1; have z1 := frozen_kept b0 z0 hb1)
    have B1 : Hid (Below w.heap.size w w1) := B0.out.trans (hb1.mono B0.out.size)
    refine leaves_cons (f := 56) (args := #[.pointer (some ⟨w.heap.size, 0, none⟩)]) (by simp) (by simp [go_sem]) ?_
    refine (catch_idle ⟨w.heap.size, 0, none⟩ true _ ?_ ?_).mono ?_
    · exact World.cell?_setCell_same' _ _ _ (by rw [c1]; rfl)
    · simpa using z1
    rintro e u' w'' ⟨rfl, rfl, rfl⟩
    have cf : ((w1.setCell ⟨w.heap.size, 0, none⟩ (.bool true)).setCell ⟨w.heap.size, 0, none⟩ (.bool true)).cell? ⟨w.heap.size, 0, none⟩ = some (.bool true) := World.cell?_setCell_same' _ _ _ (by rw [World.cell?_setCell_same' _ _ _ (by rw [c1]; rfl)]; rfl)
    have BF : Below w.heap.size w ((w1.setCell ⟨w.heap.size, 0, none⟩ (.bool true)).setCell ⟨w.heap.size, 0, none⟩ (.bool true)) := (B1.out.setCell (Nat.le_refl _) _).setCell (Nat.le_refl _) _
    simp only [Leaves, settle]
    exact ⟨.bool true, by simp [results, Tryz.results41, go_sem, cf], rfl, BF⟩
  | false =>
    go_enter_defers Tryz.func41, Tryz.ntmps41
    go_wp2_with (go_at_call 42; refine (HC.out _ B0.out).mono ?_; rintro e w1 ⟨he, hb1⟩; rw [he, okE_no]; clear he; have c1 := cell_keep b0 hb1; have z1 := frozen_kept b0 z0 hb1)
    have B1 : Hid (Below w.heap.size w w1) := B0.out.trans (hb1.mono B0.out.size)
    refine leaves_cons (f := 56) (args := #[.pointer (some ⟨w.heap.size, 0, none⟩)]) (by simp) (by simp [go_sem]) ?_
    refine (catch_panicking ⟨w.heap.size, 0, none⟩ false _ c1 z1).mono ?_
    rintro e u' w'' ⟨rfl, rfl, rfl⟩
    have cf : (w1.setCell ⟨w.heap.size, 0, none⟩ (.bool false)).cell? ⟨w.heap.size, 0, none⟩ = some (.bool false) := World.cell?_setCell_same' _ _ _ (by rw [c1]; rfl)
    have BF : Below w.heap.size w (w1.setCell ⟨w.heap.size, 0, none⟩ (.bool false)) := B1.out.setCell (Nat.le_refl _) _
    simp only [Leaves, settle, List.dropWhile_nil]
    exact ⟨.bool false, by simp [results, Tryz.results41, go_sem, cf], rfl, BF⟩

theorem implGrammarOk_any (gv : Value) (g : List RuleD) (w : World) (hErr : errTy w) (hg : grammarTot g ≤ 1048576) (h : RowC 3 RuleE w gv g) :
    Calls Tryz.prog 27 #[.agg #[gv]] w fun e w' => e = .returned (.bool (gramB g)) ∧ Below w.heap.size w w' := by
  have hmf : ∀ (fn : Fn) (first cap : Array Value) (w : World), (Instr.makeFunc fn first cap).run Tryz.prog w = .ok (.func fn first cap) w := fun _ _ _ _ => rfl
  obtain ⟨ag, cg, rfl⟩ := h.slice
  have B0 : Hid (Below w.heap.size w (w.alloc (.cells #[.slice ag g.length cg] 30))) := (Below.refl _ _).alloc (Nat.le_refl _) _
  have b0 : (w.alloc (.cells #[.slice ag g.length cg] 30)).cell? ⟨w.heap.size, 0, none⟩ = some (.slice ag g.length cg) := box_at _ _ _ 0 _ rfl
  have HP : Hid (∀ _ : Unit, _) := fun _ => passes_any (gramB g) w.heap.size (w.alloc (.cells #[.slice ag g.length cg] 30)) (fun W hb => check1_any (.slice ag g.length cg) g w.heap.size W (hErr.below (B0.out.trans (hb.mono B0.out.size))) hg (RowC.below RuleE_stable h (B0.out.trans (hb.mono B0.out.size))) (cell_keep b0 hb))
  clear h hErr
  go_enter Tryz.func27, Tryz.ntmps27
  go_wp2_with (go_at_call 41; refine (HP.out ()).mono ?_; rintro e w1 ⟨rfl, hb1⟩)
  go_ret
  exact ⟨rfl, B0.out.trans (hb1.mono B0.out.size)⟩

end Go.Proofs.YtofpoiccghpliaaGreatDoor
