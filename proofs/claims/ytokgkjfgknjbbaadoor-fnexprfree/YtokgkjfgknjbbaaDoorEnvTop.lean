/- What the verifier's whole draws of names with numbers answer. -/
import Derived.Test.YtokgkjfgknjbbaaDoorEnvAny
namespace Go.Proofs.YtokgkjfgknjbbaaDoor
open Go.RowKit

theorem drawEnv_any (W : World) (v : Value) (n : Nat) (w : World) (hn : n ≤ 1000000000000) (hcode : CodeRow W v n) (hb : Below W.heap.size W w) :
    Calls Tryd.prog 10 #[v] w fun e w' => ∃ o xs, e = .returned o ∧ EnvGood xs 4 ∧ OwnV w.heap.size o xs w' ∧ Below w.heap.size w w' := by
  have HC : Hid (CodeRow W v n) := hcode
  have HB : Hid (Below W.heap.size W w) := hb
  clear hcode hb
  go_enter Tryd.func10, Tryd.ntmps10
  go_wp2_with fail
  refine (new_any W v n _ hn HC.out HB.out).mono ?_
  rintro e w1 ⟨g, rfl, hc1, hb1, hg⟩
  have H1 : Hid (Cur W v n g w1) := hc1
  have B1 : Hid (Below w.heap.size w w1) := hb1
  clear hc1 hb1
  go_wp2_with fail
  refine (env_any W v n g _ hn HC.out H1.out).mono ?_
  rintro e w2 ⟨o, xs, rfl, hgood, ho, hw2⟩
  have B2 : Hid (Below w.heap.size w w2) := B1.out.trans (went_bel hw2 B1.out.size hg)
  have HO : Hid (OwnV w.heap.size o xs w2) := World.ownsRow.mono ho B1.out.size
  clear hw2 ho
  go_wp2
  go_ret
  exact ⟨_, _, rfl, hgood, HO.out, B2.out⟩





end Go.Proofs.YtokgkjfgknjbbaaDoor
