/- The program's climb, behind its pointer: figures, parentheses, what binds before what, two bound, the operator of a byte. -/
import Derived.Test.YtkojkicfibmjdaaOpJ
import Derived.Test.YtkojkicfibmjdaaOpI2
import Derived.Test.YtkojkicfibmjdaaKindI
import Derived.Deep.AppendLies
import Derived.Deep.RegionLaw
namespace Go.Proofs.Ytkojkicfibmjdaa
open Go.RowKit
set_option linter.unusedVariables false

theorem figureText_any (b : UInt8) (w : World) :
    Calls Try.prog 35 #[.int .u8 (b.toNat : Int)] w fun e w' => e = .returned (.string ⟨#[b]⟩) ∧ Below w.heap.size w w' := by
  have hown : (w.alloc (.cells #[.int .u8 (b.toNat : Int)] 5)).ownsRow w.heap.size 5 1 (.slice (some ⟨w.heap.size, 0, none⟩) 1 1) [b].length (bv [b]) := ⟨rfl, .inr ⟨w.heap.size, 1, #[.int .u8 (b.toNat : Int)], rfl, Nat.le_refl _, heap_alloc_new w _, Nat.le_refl _, by unfold maxLen; omega, rfl, rfl⟩⟩
  have hcv := own_string (P := Try.prog) (dst := 9) [b] Try.underlying22 Try.underlying5 Try.underlying9 hown
  have BW : Hid (Below w.heap.size w (w.alloc (.cells #[.int .u8 (b.toNat : Int)] 5))) := (Below.refl _ _).alloc (Nat.le_refl _) _
  clear hown
  go_enter Try.func35, Try.ntmps35
  go_wp2
  go_ret
  exact ⟨rfl, BW.out⟩

theorem parenthesis_any (w : World) :
    Calls Try.prog 36 #[] w fun e w' => e = .returned (.agg #[.string par13.sign, .int .i64 par13.level, .bool par13.right]) ∧ Below w.heap.size w w' := by
  go_enter Try.func36, Try.ntmps36
  go_wp2
  go_returns
  exact ⟨rfl, (Below.refl _ _).alloc (Nat.le_refl _) _⟩

set_option maxHeartbeats 1600000 in
theorem bindsBefore_any (x y : OpD) (w : World) :
    Calls Try.prog 45 #[.agg #[.string x.sign, .int .i64 x.level, .bool x.right], .agg #[.string y.sign, .int .i64 y.level, .bool y.right]] w fun e w' => e = .returned (.bool (before13 x y)) ∧ Below w.heap.size w w' := by
  unfold before13
  generalize x.sign = s at *
  generalize x.level = l at *
  generalize x.right = r at *
  generalize y.sign = s' at *
  generalize y.level = l' at *
  generalize y.right = r' at *
  by_cases h1 : l' < l
  · rw [decide_eq_true h1, Bool.true_or]
    go_enter Try.func45, Try.ntmps45
    go_wp2
    go_ret
    exact ⟨rfl, ((Below.refl _ _).alloc (Nat.le_refl _) _).alloc (by simp) _⟩
  · rw [decide_eq_false h1, Bool.false_or]
    by_cases h2 : l = l'
    · subst h2
      rw [decide_eq_true rfl, Bool.true_and]
      cases r'
      all_goals
        go_enter Try.func45, Try.ntmps45
        go_wp2
        go_ret
        exact ⟨rfl, ((Below.refl _ _).alloc (Nat.le_refl _) _).alloc (by simp) _⟩
    · have h2' : (l == l') = false := by simpa using h2
      rw [decide_eq_false h2, Bool.false_and]
      go_enter Try.func45, Try.ntmps45
      go_wp2
      go_ret
      exact ⟨rfl, ((Below.refl _ _).alloc (Nat.le_refl _) _).alloc (by simp) _⟩

set_option maxHeartbeats 1600000 in
theorem bound_any (s t : ByteArray) (x : OpD) (w : World) (h1 : s.size + t.size ≤ 1000) (h2 : x.sign.size ≤ 1000) :
    Calls Try.prog 49 #[.string s, .agg #[.string x.sign, .int .i64 x.level, .bool x.right], .string t] w fun e w' => e = .returned (.string (two13 s x t)) ∧ Below w.heap.size w w' := by
  have BW : Hid (Below w.heap.size w (w.alloc (.cells #[.string x.sign, .int .i64 x.level, .bool x.right] 27))) := (Below.refl _ _).alloc (Nat.le_refl _) _
  have z1 : (⟨#[40]⟩ : ByteArray).size = 1 := rfl
  have z2 : (⟨#[41]⟩ : ByteArray).size = 1 := rfl
  have k1 : ¬ 9223372036854775807 < 1 + s.size := by omega
  have k2 : ¬ 9223372036854775807 < 1 + s.size + x.sign.size := by omega
  have k3 : ¬ 9223372036854775807 < 1 + s.size + x.sign.size + t.size := by omega
  have k4 : ¬ 9223372036854775807 < 1 + s.size + x.sign.size + t.size + 1 := by omega
  unfold two13
  go_enter Try.func49, Try.ntmps49
  go_wp2
  go_ret
  exact ⟨rfl, BW.out⟩

set_option maxHeartbeats 1600000 in
theorem opOf1_any (x : OpD) (c b : UInt8) (B : Nat) (w : World) (hx : x.sign = ⟨#[c]⟩) (hB : w.cell? ⟨B, 0, none⟩ = some (.int .u8 (b.toNat : Int))) :
    Calls Try.prog 44 #[.agg #[.string x.sign, .int .i64 x.level, .bool x.right], .pointer (some ⟨B, 0, none⟩)] w fun e w' => e = .returned (.bool (decide ((⟨#[b]⟩ : ByteArray) = x.sign))) ∧ Below w.heap.size w w' := by
  have BW : Hid (Below w.heap.size w (w.alloc (.cells #[.string x.sign, .int .i64 x.level, .bool x.right] 27))) := (Below.refl _ _).alloc (Nat.le_refl _) _
  have n1 : (w.alloc (.cells #[.string x.sign, .int .i64 x.level, .bool x.right] 27)).cell? ⟨B, 0, none⟩ = some (.int .u8 (b.toNat : Int)) := cell_keep hB BW.out
  have n0 : (w.alloc (.cells #[.string x.sign, .int .i64 x.level, .bool x.right] 27)).cell? ⟨w.heap.size, 0, none⟩ = some (.string x.sign) := box_at _ _ _ 0 _ rfl
  have hz : x.sign.size = 1 := by rw [hx]; rfl
  have hix : (Instr.index 9 (.string x.sign) (.int .i64 0)).run Try.prog (w.alloc (.cells #[.string x.sign, .int .i64 x.level, .bool x.right] 27)) = .ok (.int .u8 (c.toNat : Int)) (w.alloc (.cells #[.string x.sign, .int .i64 x.level, .bool x.right] 27)) := by rw [hx]; rfl
  have he : decide ((⟨#[b]⟩ : ByteArray) = x.sign) = ((c.toNat : Int) == (b.toNat : Int)) := by
    rw [hx]
    by_cases h : b = c
    · subst h; simp
    · have h1 : ¬ (⟨#[b]⟩ : ByteArray) = ⟨#[c]⟩ := fun e => h (by
        have := congrArg (fun s : ByteArray => s.data.toList) e
        simpa using this)
      rw [decide_eq_false h1]
      have h2 : ¬ (c.toNat : Int) = (b.toNat : Int) := fun e => h (UInt8.toNat_inj.1 (by omega)).symm
      simpa using h2
  rw [he]
  have HX : Hid _ := hx
  have g0 : (0 : Int) < (x.sign.size : Int) := by omega
  have g1 : x.sign[0]'(by omega) = c := by
    have : ∀ (s : ByteArray) (h : 0 < s.size), s = ⟨#[c]⟩ → s[0] = c := fun s h e => by subst e; rfl
    exact this _ _ hx
  clear hx hB he
  go_enter Try.func44, Try.ntmps44
  go_wp2
  go_quiet (fail)
  go_wp2
  go_ret
  exact ⟨by simp, bel_drewN BW.out _⟩

end Go.Proofs.Ytkojkicfibmjdaa
