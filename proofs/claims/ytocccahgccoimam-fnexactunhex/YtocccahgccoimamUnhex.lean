/- What the two functions that read figures answer. -/
import Derived.Test.YtocccahgccoimamVar
import Derived.Test.YtocccahgccoimamUnhexPure
import Derived.Test.YtocccahgccoimamShelf
import Derived.Deep.AppendLies
namespace Go.Proofs.Ytocccahgccoimam
open Go.RowKit

def unVal (s : ByteArray) : Value :=
  match unB s.data.toList with
  | some bs => .tuple #[.string (str bs), .bool true]
  | none => .tuple #[.string (str []), .bool false]

theorem unVal_some {s : ByteArray} {bs : List UInt8} (h : unB s.data.toList = some bs) : unVal s = .tuple #[.string (str bs), .bool true] := by rw [unVal, h]
theorem unVal_none {s : ByteArray} (h : unB s.data.toList = none) : unVal s = .tuple #[.string (str []), .bool false] := by rw [unVal, h]

theorem value_any (b : UInt8) (w : World) :
    Calls Try.prog 25 #[.int .u8 b.toNat] w fun e w' => e = .returned (.int .i64 (valI b.toNat)) ∧ w' = w := by
  have hb := b.toNat_lt
  by_cases h1 : 48 ≤ b.toNat ∧ b.toNat ≤ 57
  · have HV : Hid (valI b.toNat = (b.toNat : Int) - 48) := by simp only [Hid, valI, if_pos h1]
    obtain ⟨h1, h2⟩ := h1
    go_enter Try.func25, Try.ntmps25
    go_wp2
    go_ret
    rw [HV.out]
    exact ⟨rfl, rfl⟩
  · by_cases h2 : 97 ≤ b.toNat ∧ b.toNat ≤ 102
    · have HV : Hid (valI b.toNat = (b.toNat : Int) - 97 + 10) := by simp only [Hid, valI, if_neg h1, if_pos h2]
      obtain ⟨h2, h3⟩ := h2
      clear h1
      go_enter Try.func25, Try.ntmps25
      go_wp2
      go_ret
      rw [HV.out]
      exact ⟨rfl, rfl⟩
    · have HV : Hid (valI b.toNat = -1) := by simp only [Hid, valI, if_neg h1, if_neg h2]
      by_cases h3 : b.toNat < 48
      · go_enter Try.func25, Try.ntmps25
        go_wp2
        go_ret
        rw [HV.out]
        exact ⟨rfl, rfl⟩
      · by_cases h4 : b.toNat < 97
        · have h5 : 57 < b.toNat := by omega
          go_enter Try.func25, Try.ntmps25
          go_wp2
          go_ret
          rw [HV.out]
          exact ⟨rfl, rfl⟩
        · have h5 : 102 < b.toNat := by omega
          go_enter Try.func25, Try.ntmps25
          go_wp2
          go_ret
          rw [HV.out]
          exact ⟨rfl, rfl⟩

theorem get_list2 (s : ByteArray) (j : Nat) (h : j < s.size) : s.data.toList[j]'(by simpa using h) = s[j] := rfl

/-- What holds at each round's head of the specification's loop. -/
def UnSlots (s : ByteArray) (base : Nat) (w : World) (out iv : Value) (wr : World) : Prop :=
  ∃ pre : List UInt8, iv = .int .i64 ((2 * pre.length : Nat) : Int) ∧ UnRel s.data.toList pre ∧ wr.ownsRow base 5 1 out pre.length (bv pre) ∧ Below base w wr ∧ base ≤ wr.heap.size

theorem unSlots_step {s : ByteArray} {base q i : Nat} {pre : List UInt8} {w wr w1 : World} {out v' : Value} (hu : UnRel s.data.toList pre) (hq : pre.length = q) (hi : i = 2 * q) (h0 : i < s.size) (h1 : i + 1 < s.size)
    (h2 : 0 ≤ valI s[i].toNat) (h3 : 0 ≤ valI s[i + 1].toNat)
    (hown : wr.ownsRow base 5 1 out q (bv pre)) (hbel : Below base w wr) (hsz : base ≤ wr.heap.size) {o : Obj}
    (hown' : w1.ownsRow base 5 1 v' (q + 1) (bv pre ++ [.int .u8 (16 * valI s[i].toNat + valI s[i + 1].toNat)])) (hgrow : (wr.alloc o).grownBy w1 out.ownBlock) :
    UnSlots s base w v' (.int .i64 (2 * (q : Int) + 2)) w1 := by
  have hl : s.data.toList.length = s.size := by simp
  have e := un_step hu (i := i) (by rw [hq]; exact hi) (by rw [hl]; exact h1) (by rw [get_list2 s i h0]; exact h2) (by rw [get_list2 s (i + 1) h1]; exact h3)
  rw [get_list2 s i h0, get_list2 s (i + 1) h1] at e
  refine ⟨_, ?_, e, ?_, ?_, ?_⟩
  · rw [List.length_append, List.length_singleton, hq]
    refine congrArg (Value.int .i64) ?_
    omega
  · rw [bv_app, bv_one, byte_of_pair _ _ h2 h3, List.length_append, List.length_singleton, hq]
    exact hown'
  · exact (hbel.alloc hsz o).grown hgrow (by simp; omega) (fun k hk => (hown.lt k hk).1)
  · have := hgrow.size; simp at this; omega

set_option maxHeartbeats 800000 in
set_option maxRecDepth 100000 in
theorem specUnhex_even (s : ByteArray) (w : World) (hs : s.size ≤ 40000) (n : Nat) (hn : s.size = 2 * n) :
    Calls Try.prog 19 #[.string s] w fun e w' => e = .returned (unVal s) ∧ Below w.heap.size w w' := by
  obtain ⟨i0, hi, hz0, hz1, hz2⟩ := info_parts Try.info5
  have HL : Hid (s.data.toList.length = s.size) := by simp [Hid]
  have hm : ((s.size : Int) % 2 != 0) = false := by simp; omega
  have HN : Hid (s.size = 2 * n) := hn
  have hn1 : s.size ≤ 2 * n := by omega
  have hn2 : 2 * n ≤ s.size := by omega
  clear hn
  go_enter Try.func19, Try.ntmps19
  go_wp2
  go_loopw [4, 5] (fun out iv wr => UnSlots s w.heap.size w out iv wr) (fun _ iv _ => s.size - (intOf iv).toNat)
  case atStart => exact ⟨[], rfl, un_start _, World.ownsRow_made _ _ _ (Nat.le_refl _) (by decide) rfl, (Below.refl _ _).alloc (Nat.le_refl _) _, by simp⟩
  case round =>
    obtain ⟨pre, rfl, hu, hown, hbel, hsz⟩ := hrel
    have hle : 2 * pre.length ≤ s.size := by rw [← HL.out]; exact hu.1
    have HU : Hid (UnRel s.data.toList pre) := hu
    clear hu
    generalize hq : pre.length = q at *
    have HQ : Hid (pre.length = q) := hq
    clear hq
    by_cases hlt : 2 * q < s.size
    · have hlt1 : 2 * q + 1 < s.size := by omega
      have b1 := valI_lt s[2 * q].toNat
      have b2 := valI_lt s[2 * q + 1].toNat
      obtain ⟨b3, b4⟩ := b1
      obtain ⟨b5, b6⟩ := b2
      by_cases h1 : 0 ≤ valI s[2 * q].toNat
      · by_cases h2 : 0 ≤ valI s[2 * q + 1].toNat
        · go_wp2_with (first | (go_at_call 25; refine (value_any _ _).mono ?_; rintro e wq ⟨rfl, hw⟩; rw [hw]; clear hw) | (at_builtin; refine wpList_append_own _ rfl _ _ 34 rfl w.heap.size 5 i0 (.int .u8 0) 1 1 Try.underlying34 hi hz0 hz1 hz2 rfl (by decide) _ _ _ rfl (hown.alloc _) ⟨wr.heap.size, 0, none⟩ 1 1 [.int .u8 (16 * valI s[2 * q].toNat + valI s[2 * q + 1].toNat)] rfl rfl (one_at _ _ _) (one_cell _ _) (by unfold maxLen; omega) (by omega) (by simp; omega) ?_))
          intro v' w1 hown' hgrow _
          have R := unSlots_step (i := 2 * q) HU.out HQ.out rfl (by omega) hlt1 h1 h2 hown hbel hsz hown' hgrow
          clear hown' hgrow hown hbel
          go_wp2
          go_roundw
          case rel => exact R
          case measure => simp [intOf]; omega
        · have HE : Hid (_ = _) := un_bad2 (i := 2 * q + 1) HU.out (by rw [HQ.out]) (by rw [HL.out]; exact hlt1) (by rw [get_list2 s _ hlt1]; omega)
          go_wp2_with (go_at_call 25; refine (value_any _ _).mono ?_; rintro e w' ⟨rfl, rfl⟩)
          go_ret2
          exact ⟨congrArg _ (unVal_none HE.out).symm, hbel⟩
      · have HE : Hid (_ = _) := un_bad1 (i := 2 * q) HU.out (by rw [HQ.out]) (by rw [HL.out]; exact hlt) (by rw [get_list2 s _ hlt]; omega)
        go_wp2_with (go_at_call 25; refine (value_any _ _).mono ?_; rintro e w' ⟨rfl, rfl⟩)
        go_ret2
        exact ⟨congrArg _ (unVal_none HE.out).symm, hbel⟩
    · have HE : Hid (_ = _) := un_end HU.out (by rw [HL.out, HQ.out]; omega)
      rw [← HQ.out] at hown
      have hcv := own_string (P := Try.prog) (dst := 9) pre Try.underlying34 Try.underlying5 Try.underlying9 hown
      go_wp2
      go_ret2
      exact ⟨congrArg _ (unVal_some HE.out).symm, hbel⟩

end Go.Proofs.Ytocccahgccoimam
