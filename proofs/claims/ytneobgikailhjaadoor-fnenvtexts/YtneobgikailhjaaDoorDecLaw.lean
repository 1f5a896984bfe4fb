/- The laws' road through Decimal: what the program's function answers where the library's table of powers of ten lies as its initialiser lays it, and the law on Decimal. -/
import Derived.Test.YtneobgikailhjaaDoorRows
import Derived.Test.YtneobgikailhjaaDoorDecPure
import Derived.Test.YtneobgikailhjaaDoorDec
import Derived.Test.YtneobgikailhjaaDoorShelf
import Derived.Test.YtneobgikailhjaaDoorTab
import Derived.Lib.LaidTab
import Derived.OpenShut
import Derived.Lib.AppendIntMem
namespace Go.Proofs.YtneobgikailhjaaDoor
open Go.RowKit

abbrev Pow10 (W : World) : Prop := Lib.TabIs Tryd.prog W "internal/strconv.uint64pow10" .u64 Lib.pow10Tab

theorem implDec_any (n : Int) (w : World) (h0 : -9223372036854775808 ≤ n) (h1 : n ≤ 9223372036854775807) (hT : Pow10 w) :
    Calls Tryd.prog 24 #[.int .i64 n] w fun e w' => e = .returned (.string (str (Lib.itoa n))) ∧ Below w.heap.size w w' := by
  have HT : Hid (Pow10 w) := hT
  clear hT
  go_enter Tryd.func24, Tryd.ntmps24
  go_wp2_with (go_at_call 30; refine (Tryd.strconv_Itoa _ h0 h1 _ HT.out).mono ?_; rintro e w1 ⟨rfl, k, os, rfl⟩)
  go_ret
  exact ⟨rfl, Lib.below_grow _ _ (Nat.le_refl _) _ _⟩


end Go.Proofs.YtneobgikailhjaaDoor
