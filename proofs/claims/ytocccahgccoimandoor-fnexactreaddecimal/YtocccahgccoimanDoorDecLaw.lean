/- The laws' road through Decimal: what the program's function answers where the library's table of powers of ten lies as its initialiser lays it, and the law on Decimal. -/
import Derived.Test.YtocccahgccoimanDoorRows
import Derived.Test.YtocccahgccoimanDoorDecPure
import Derived.Test.YtocccahgccoimanDoorDec
import Derived.Test.YtocccahgccoimanDoorShelf
import Derived.Test.YtocccahgccoimanDoorTab
import Derived.Lib.LaidTab
import Derived.OpenShut
import Derived.Lib.AppendIntMem
namespace Go.Proofs.YtocccahgccoimanDoor
open Go.RowKit

abbrev Pow10 (W : World) : Prop := Lib.TabIs Tryd.prog W "internal/strconv.uint64pow10" .u64 Lib.pow10Tab

theorem implDec_any (n : Int) (w : World) (h0 : -9223372036854775808 ≤ n) (h1 : n ≤ 9223372036854775807) (hT : Pow10 w) :
    Calls Tryd.prog 7 #[.int .i64 n] w fun e w' => e = .returned (.string (str (Lib.itoa n))) ∧ Below w.heap.size w w' := by
  have HT : Hid (Pow10 w) := hT
  clear hT
  go_enter Tryd.func7, Tryd.ntmps7
  go_wp2_with (go_at_call 16; refine (Tryd.strconv_Itoa _ h0 h1 _ HT.out).mono ?_; rintro e w1 ⟨rfl, k, os, rfl⟩)
  go_ret
  exact ⟨rfl, Lib.below_grow _ _ (Nat.le_refl _) _ _⟩

theorem fnExactDecimal_walk (n : Int) (wf : (Lit.int .i64 n).wf = true) (w : World) (hT : Pow10 w) :
    Calls Tryd.prog 3 #[.int .i64 n] w fun e w' => e = .returned (.bool true) ∧ Below w.heap.size w w' := by
  have HT : Hid (Pow10 w) := hT
  clear hT
  have hb : -9223372036854775808 ≤ n ∧ n ≤ 9223372036854775807 := bounds_i64 wf
  obtain ⟨h0, h1⟩ := hb
  clear wf
  go_enter Tryd.func3, Tryd.ntmps3
  go_wp2_with (first
    | (go_at_call 6; refine (specDec_any _ _ h0 h1).mono ?_; rintro e w1 ⟨rfl, hb1⟩)
    | (go_at_call 7; refine (implDec_any _ _ h0 h1 (tab_below HT.out hb1)).mono ?_; rintro e w2 ⟨rfl, hb2⟩))
  go_ret
  exact ⟨rfl, hb1.trans (hb2.mono hb1.size)⟩

end Go.Proofs.YtocccahgccoimanDoor
