/- The law on ShortText, walked out of contracts: it returns true at every text. -/
import Derived.Test.YtbpfapjchmignaaDoorVar
namespace Go.Proofs.YtbpfapjchmignaaDoor
open Go.RowKit

theorem implShort_yes (s : ByteArray) (w : World) (hs : s.size ≤ 20000) :
    Calls Tryd.prog 34 #[.string s] w fun e w' => e = .returned (.tuple #[.string (str (varB s.size) ++ s), .bool true]) ∧ Below w.heap.size w w' := by
  have hv := varB_len s.size
  have hz := str_size (varB s.size)
  have hadd := fun W => run_string_add_sum (P := Tryd.prog) (w := W) (str (varB s.size)) s (by omega)
  clear hz hv
  go_enter Tryd.func34, Tryd.ntmps34
  go_wp2_with (go_at_call 33; refine (implVar_yes _ _ (by omega)).mono ?_; rintro e w1 ⟨rfl, hb1⟩)
  go_ret2
  exact ⟨rfl, hb1⟩


theorem implShort_no (s : ByteArray) (w : World) (hs : 20000 < s.size) :
    Calls Tryd.prog 34 #[.string s] w fun e w' => e = .returned (.tuple #[.string (str []), .bool false]) ∧ w' = w := by
  have hs1 : (20000 : Int) < s.size := by omega
  go_enter Tryd.func34, Tryd.ntmps34
  go_wp2
  go_ret2
  exact ⟨rfl, rfl⟩



end Go.Proofs.YtbpfapjchmignaaDoor
