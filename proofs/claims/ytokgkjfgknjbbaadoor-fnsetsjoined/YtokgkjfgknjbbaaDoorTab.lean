/- A table of the library's that is a package-level variable reads on as it read, behind whatever makes new memory alone. -/
import Derived.WalkKit
import Derived.Below
import Derived.Lib.LaidTab
namespace Go.Proofs.YtokgkjfgknjbbaaDoor
open Go.RowKit

theorem tab_below {P : Program} {W W' : World} {name : String} {k : IntKind} {zs : List Int} (hT : Lib.TabIs P W name k zs) (hb : Below W.heap.size W W') : Lib.TabIs P W' name k zs := by
  unfold Lib.TabIs at hT ⊢
  unfold World.var? at hT ⊢
  match hg : P.globalNamed name, hT with
  | some g, hT =>
    simp only [Option.bind_some] at hT ⊢
    have hlt : g < W.heap.size := by
      rcases Nat.lt_or_ge g W.heap.size with h | h
      · exact h
      · rw [Array.getElem?_eq_none h] at hT
        simp at hT
    rw [hb.block g hlt]
    exact hT

end Go.Proofs.YtokgkjfgknjbbaaDoor
