/- The verifier's draws for the first chapter. -/
import Derived.Test.YtbpfapjchmignaaDoorDraw2
namespace Go.Proofs.YtbpfapjchmignaaDoor
open Go.RowKit


theorem went_alloc {W : World} {v : Value} {n g : Nat} {w : World} (h : Cur W v n g w) (o : Obj) : Went W v n g w (w.alloc o) :=
  ⟨h.moved (h.1.alloc h.1.size o) (Below.heap_alloc w o g h.lt), World.grownBy_alloc w o _⟩

theorem went_below {W : World} {v : Value} {n g : Nat} {w w' : World} (h : Cur W v n g w) (hb : Below w.heap.size w w') : Went W v n g w w' :=
  ⟨h.moved (h.1.trans (hb.mono h.1.size)) (hb.block g h.lt), ⟨hb.os, hb.tape, hb.output, hb.size, fun k hk _ => hb.block k hk⟩⟩

theorem went_bel {W : World} {v : Value} {n g : Nat} {w w' : World} {B : Nat} (h : Went W v n g w w') (hB : B ≤ w.heap.size) (hg : B ≤ g) : Below B w w' :=
  ⟨h.2.os, h.2.tape, h.2.output, h.2.size, fun k hk => h.2.block k (by omega) (fun e => by have := Option.some.inj e; omega)⟩

theorem ints_row (w : World) (ys : List Int) (t : TypeId) (hy : ∀ y ∈ ys, -9223372036854775808 ≤ y ∧ y ≤ 9223372036854775807) :
    ∀ i, i < ys.length → ∃ y : Int, (w.alloc (.cells (ys.map (Value.int .i64)).toArray t)).cell? ⟨w.heap.size, i, none⟩ = some (.int .i64 y) ∧ -9223372036854775808 ≤ y ∧ y ≤ 9223372036854775807 := by
  intro i hi
  refine ⟨ys[i], ?_, hy _ (List.getElem_mem hi)⟩
  have := World.news_of_block (heap_alloc_new w (.cells (ys.map (Value.int .i64)).toArray t)) i (.int .i64 ys[i]) (by simp [hi])
  rw [Addr.add_lit, Nat.zero_add] at this
  exact this




end Go.Proofs.YtbpfapjchmignaaDoor
