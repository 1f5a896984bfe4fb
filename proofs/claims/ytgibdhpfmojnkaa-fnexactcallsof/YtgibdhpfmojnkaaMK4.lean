/- The laws' marks on a Grammar and a Chart: how many are marked, and what is kept. -/
import Derived.Test.YtgibdhpfmojnkaaMK3
namespace Go.Proofs.Ytgibdhpfmojnkaa
open Go.RowKit
set_option linter.unusedVariables false

set_option maxHeartbeats 1600000 in
set_option maxRecDepth 100000 in
theorem mkGrammar {B H n c : Nat} (v : Value) (k : Int) (w : World) (hk0 : 0 < k) (hk : k + c ≤ 100000000000) (h : Shp tau B H (n + 6) (.row 41) w v c) :
    Calls Try.prog 10 #[.agg #[v], .int .i64 k] w fun e w' => e = .returned (.int .i64 (k + c)) ∧ Mk tau B H w w' := by
  obtain ⟨a, l, p, rfl⟩ : ∃ a l c, v = .slice a l c := by
    obtain ⟨a, l, c, _, _, e, _⟩ := Shp.rows (n := n + 5) h
    exact ⟨a, l, c, e⟩
  have hb : Below w.heap.size w (w.alloc (.cells #[.slice a l p] 30)) := (Below.refl _ _).alloc (Nat.le_refl _) _
  have HB : Hid (Mk tau B H w (w.alloc (.cells #[.slice a l p] 30))) := Mk.below hb
  have HC : Hid (∀ _ : Unit, _) := fun _ => mkRuleS (n := n) (.slice a l p) k (w.alloc (.cells #[.slice a l p] 30)) hk0 hk (HB.out.kp _ _ _ _ h)
  clear h hb
  go_enter Try.func10, Try.ntmps10
  go_wp2_with fail
  refine (HC.out ()).mono ?_
  rintro e w1 ⟨rfl, hm⟩
  have M1 : Hid (Mk tau B H w w1) := HB.out.trans hm
  clear hm
  go_wp2
  go_ret
  exact ⟨rfl, M1.out⟩


end Go.Proofs.Ytgibdhpfmojnkaa
