/- The laws' own helpers on expressions: whole ones copied, compared with their like. -/
import Derived.Test.YtbpfapjchmignaaDoorXKit2
namespace Go.Proofs.YtbpfapjchmignaaDoor
open Go.RowKit

theorem OwnN.setLow {B : Nat} {v : Value} {ns : List NodeD} {w : World} (h : OwnN B v ns w) {b : Nat} (hb : b < B) (j : Nat) (u : Value) : OwnN B v ns (w.setCell ⟨b, j, none⟩ u) := by
  obtain ⟨qs, e, h1, h2⟩ := h
  refine ⟨qs, e, World.ownsRow.kept h1 (grow_set w b j u) ?_, fun q hq => World.ownsRow.kept (h2 q hq) (grow_set w b j u) (off_block (h2 q hq) hb)⟩
  cases hv : v.ownBlock with
  | none => exact .inl rfl
  | some k => exact .inr (fun e => by have := (World.ownsRow.lt h1 k hv).1; have e2 : k = b := Option.some.inj e; omega)
theorem OwnN.base {B B' : Nat} {v : Value} {ns : List NodeD} {w : World} (h : OwnN B v ns w) (hB : B' ≤ B) : OwnN B' v ns w := by
  obtain ⟨qs, e, h1, h2⟩ := h
  refine ⟨qs, e, ⟨h1.1, ?_⟩, fun q hq => (h2 q hq).base hB⟩
  rcases h1.2 with h | ⟨g, cap, cur, e, hg, r⟩
  · exact .inl h
  · exact .inr ⟨g, cap, cur, e, Nat.le_trans hB hg, r⟩






end Go.Proofs.YtbpfapjchmignaaDoor
