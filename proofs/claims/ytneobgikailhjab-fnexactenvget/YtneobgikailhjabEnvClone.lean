/- The program's clonedVar, clonedVars and numsOf. -/
import Derived.Test.YtneobgikailhjabEnvImpl
import Derived.Test.YtneobgikailhjabShelf
import Derived.Maps.OwnOps
namespace Go.Proofs.Ytneobgikailhjab
open Go.RowKit Go.Maps

theorem clone_any (s : ByteArray) (w : World) (h : s.size ≤ 1048576) :
    Calls Try.prog 24 #[.string s] w fun e w' => e = .returned (.string s) ∧ Below w.heap.size w w' := by
  have HC : Hid (∀ W, _) := fun W => Try.stringslite_Clone s W (by omega)
  go_enter Try.func24, Try.ntmps24
  go_wp2_with fail
  refine (HC.out _).mono ?_
  rintro e w1 ⟨rfl, hb⟩
  go_wp2
  go_ret
  exact ⟨rfl, hb⟩

theorem frozen_keep {w w' : World} {b o : Nat} (h : w.frozen? ⟨b, o, none⟩ = false) (hlt : b < w.heap.size) (hb : Below w.heap.size w w') : w'.frozen? ⟨b, o, none⟩ = false := by
  unfold World.frozen? at h ⊢
  rw [hb.block b hlt]
  exact h
theorem cv_keep {w w' : World} {B : Nat} {s n z y : Value} (h : w.cell? ⟨B, 0, none⟩ = some s ∧ w.cell? ⟨B, 1, none⟩ = some n ∧ w.cell? ⟨B + 1, 0, none⟩ = some z ∧ w.frozen? ⟨B + 1, 0, none⟩ = false ∧ w.cell? ⟨B + 1, 1, none⟩ = some y ∧ w.frozen? ⟨B + 1, 1, none⟩ = false) (hb : Below w.heap.size w w') :
    w'.cell? ⟨B, 0, none⟩ = some s ∧ w'.cell? ⟨B, 1, none⟩ = some n ∧ w'.cell? ⟨B + 1, 0, none⟩ = some z ∧ w'.frozen? ⟨B + 1, 0, none⟩ = false ∧ w'.cell? ⟨B + 1, 1, none⟩ = some y ∧ w'.frozen? ⟨B + 1, 1, none⟩ = false := by
  obtain ⟨h1, h2, h3, h4, h5, h6⟩ := h
  have hlt : B + 1 < w.heap.size := World.block_lt_of_cell? w _ h3
  exact ⟨cell_keep h1 hb, cell_keep h2 hb, cell_keep h3 hb, frozen_keep h4 hlt hb, cell_keep h5 hb, frozen_keep h6 hlt hb⟩

theorem set_two {w : World} {b : Nat} {x y : Value} (h1 : w.cell? ⟨b, 0, none⟩ = some x) (h2 : w.cell? ⟨b, 1, none⟩ = some y) (u v : Value) :
    ((w.setCell ⟨b, 0, none⟩ u).setCell ⟨b, 1, none⟩ v).cell? ⟨b, 0, none⟩ = some u ∧ ((w.setCell ⟨b, 0, none⟩ u).setCell ⟨b, 1, none⟩ v).cell? ⟨b, 1, none⟩ = some v :=
  ⟨(World.cell?_setCell_other _ _ _ _ (by simp)).trans (World.cell?_setCell_same _ _ _ h1), World.cell?_setCell_same _ _ _ ((World.cell?_setCell_other _ _ _ _ (by simp)).trans h2)⟩

/-- The two blocks that it lays. -/
def cvW (w : World) (s : ByteArray) (n : Int) : World := (w.alloc (.cells #[.string s, .int .i64 n] 40)).alloc (.cells #[.string ⟨#[]⟩, .int .i64 0] 40)
theorem cvW_at (w : World) (s : ByteArray) (n : Int) {B : Nat} (hB : w.heap.size = B) : (cvW w s n).cell? ⟨B, 0, none⟩ = some (.string s) ∧ (cvW w s n).cell? ⟨B, 1, none⟩ = some (.int .i64 n) ∧ (cvW w s n).cell? ⟨B + 1, 0, none⟩ = some (.string ⟨#[]⟩) ∧ (cvW w s n).frozen? ⟨B + 1, 0, none⟩ = false
    ∧ (cvW w s n).cell? ⟨B + 1, 1, none⟩ = some (.int .i64 0) ∧ (cvW w s n).frozen? ⟨B + 1, 1, none⟩ = false := by
  subst hB
  have h1 : (cvW w s n).heap[w.heap.size]? = some (.cells #[.string s, .int .i64 n] 40) := (Below.heap_alloc _ _ _ (by simp)).trans (heap_alloc_new w _)
  have h2 : (cvW w s n).heap[w.heap.size + 1]? = some (.cells #[.string ⟨#[]⟩, .int .i64 0] 40) := by
    have := heap_alloc_new (w.alloc (.cells #[.string s, .int .i64 n] 40)) (.cells #[.string ⟨#[]⟩, .int .i64 0] 40)
    rwa [show (w.alloc (.cells #[.string s, .int .i64 n] 40)).heap.size = w.heap.size + 1 by simp] at this
  generalize cvW w s n = W at *
  refine ⟨?_, ?_, ?_, ?_, ?_, ?_⟩ <;> simp [World.cell?, World.frozen?, h1, h2]

set_option maxHeartbeats 800000 in
theorem clonedVar_any (s : ByteArray) (n : Int) (w : World) (h : s.size ≤ 1048576) :
    Calls Try.prog 22 #[.agg #[.string s, .int .i64 n]] w fun e w' => e = .returned (.agg #[.string s, .int .i64 n]) ∧ Below w.heap.size w w' := by
  have HC : Hid (∀ W, _) := fun W => clone_any s W h
  clear h
  obtain ⟨B, hB⟩ : ∃ B, w.heap.size = B := ⟨_, rfl⟩
  have HB0 : Hid (Below w.heap.size w (cvW w s n)) := ((Below.refl _ _).alloc (Nat.le_refl _) _).alloc (by simp) _
  have HS0 : Hid (_) := cvW_at w s n hB
  go_enter Try.func22, Try.ntmps22
  go_wp2
  rw [show (w.alloc (.cells #[.string s, .int .i64 n] 40)).alloc (.cells #[.string ⟨#[]⟩, .int .i64 0] 40) = cvW w s n from rfl]
  generalize cvW w s n = W0 at *
  have hb0 := HB0.out
  obtain ⟨g1, g2, g3, g4, g5, g6⟩ := HS0.out
  go_region_with (first | (go_at_call 24; refine (HC.out _).mono ?_; rintro e w2 ⟨rfl, hb2⟩; obtain ⟨k1, k2, k3, k4, k5, k6⟩ := cv_keep (w := W0.drew) ⟨g1, g2, g3, g4, g5, g6⟩ hb2))
  all_goals
    have HF : Hid (Below w.heap.size w ((w2.setCell ⟨B + 1, 0, none⟩ (.string s)).setCell ⟨B + 1, 1, none⟩ (.int .i64 n))) := by
      have h1 : Below w.heap.size w w2 := HB0.out.trans ((bel_of_drew hb2).mono HB0.out.size)
      exact (h1.setCell (by rw [hB]; exact Nat.le_succ B) _).setCell (by rw [hB]; exact Nat.le_succ B) _
    obtain ⟨f1, f2⟩ := set_two k3 k5 (.string s) (.int .i64 n)
    clear hb2 hb0 g1 g2 g3 g4 g5 g6 k1 k2 k3 k4 k5 k6 HS0
    generalize (w2.setCell ⟨B + 1, 0, none⟩ (.string s)).setCell ⟨B + 1, 1, none⟩ (.int .i64 n) = W5 at *
    go_wp2
    (try simp only [Exit.inBlock, Exit.then])
    refine bodyPost_ret (by simp [results, Try.results22, go_sem, f1, f2]; try rfl) rfl ?_
    exact ⟨rfl, HF.out⟩

theorem OwnV.alloc {B : Nat} {v : Value} {xs : List VarD} {w : World} (h : OwnV B v xs w) (o : Obj) : OwnV B v xs (w.alloc o) := World.ownsRow.alloc h o

theorem OwnV.base {B B' : Nat} {v : Value} {xs : List VarD} {w : World} (h : OwnV B v xs w) (hB : B' ≤ B) : OwnV B' v xs w := by
  refine ⟨h.1, ?_⟩
  rcases h.2 with h | ⟨g, cap, cur, e, hg, r⟩
  · exact .inl h
  · exact .inr ⟨g, cap, cur, e, Nat.le_trans hB hg, r⟩


theorem run_makeMap_hint {P : Program} {t k e : TypeId} {q : IntKind} {n : Int} {w : World} (hu : P.underlying t = some (.map k e)) : (Instr.makeMap t (some (.int q n))).run P w = .ok (.map (some w.heap.size)) (w.alloc (.map #[] 0)) := by
  simp [Instr.makeMap, run_underlying hu, asInt, asIntOf, Result.andThen]

theorem Try.law : Keyed Try.prog 9 := string_keyed Try.underlying9
theorem Try.zeroInt (w : World) : (zeroValue 3).run Try.prog w = .ok (.int .i64 0) w := by kernel_rfl
/-- A map of the program's: names with numbers. -/
abbrev OwnM (b n : Nat) (D : DataW Unit) (w : World) : Prop := w.ownsMap Try.prog 9 (plainElem (H := Unit) Try.prog 3) b n D
theorem OwnM.below {b n : Nat} {D : DataW Unit} {w w' : World} (h : OwnM b n D w) (hb : Below w.heap.size w w') : OwnM b n D w' := by
  have hlt := World.ownsMap.lt h
  obtain ⟨es, clock, hb', F, hs, hD⟩ := h
  exact ⟨es, clock, (hb.block b hlt).trans hb', F, hs, hD⟩


end Go.Proofs.Ytneobgikailhjab
