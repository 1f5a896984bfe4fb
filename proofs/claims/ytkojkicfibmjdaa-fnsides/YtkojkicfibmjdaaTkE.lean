/- The verifier's drawn texts of tokens. -/
import Derived.Test.YtkojkicfibmjdaaTkD
import Derived.Deep.RegionHeld3
namespace Go.Proofs.Ytkojkicfibmjdaa
open Go.RowKit
set_option linter.unusedVariables false

theorem went_below2 {W : World} {v : Value} {n g : Nat} {w w1 w2 : World} (h : Went W v n g w w1) (hb : Below w1.heap.size w1 w2) : Went W v n g w w2 := went_trans h (went_below h.1 hb)
theorem cur_drew {W : World} {v : Value} {n g : Nat} {w : World} (h : Cur W v n g w) : Cur W v n g w.drew := ⟨⟨h.1.os, h.1.tape, h.1.output, h.1.size, h.1.block⟩, h.2⟩
theorem went_drew {W : World} {v : Value} {n g : Nat} {w w' : World} (h : Went W v n g w.drew w') : Went W v n g w w' := ⟨h.1, ⟨h.2.os, h.2.tape, h.2.output, h.2.size, h.2.block⟩⟩



end Go.Proofs.Ytkojkicfibmjdaa
