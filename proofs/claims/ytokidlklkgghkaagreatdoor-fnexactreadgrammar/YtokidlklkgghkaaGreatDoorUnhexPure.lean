/- The law on ReadShort, walked out of contracts: it returns true at every text and every int. -/
/- The figure of a half byte: what the specification's function answers at 0 .. 15. -/
/- Figures: what the two functions that write bytes in figures answer. -/
/- What is read out of figures: the plain mathematics, with no program in it. -/
import Derived.Test.YtokidlklkgghkaaGreatDoorReadSpec
import Derived.Test.YtokidlklkgghkaaGreatDoorXFreeI
import Derived.Test.YtokidlklkgghkaaGreatDoorRows
import Derived.Test.YtokidlklkgghkaaGreatDoorEnvGet
import Derived.Deep.RegionHeld3
import Derived.Deep.AppendLies
import Derived.Lib.IndexLaws
namespace Go.Proofs.YtokidlklkgghkaaGreatDoor
open Go.RowKit

theorem headB_len : ∀ (f : Nat) (l bs : List UInt8), headB f l = some bs → bs.length ≤ l.length
  | 0, _, _, h => by simp [headB] at h
  | _ + 1, [], _, h => by simp [headB] at h
  | f + 1, b :: r, bs, h => by
    rw [headB] at h
    split at h
    · obtain rfl := Option.some.inj h; simp
    · match hr : headB f r, h with
      | some cs, h =>
        rw [Option.map_some] at h
        obtain rfl := Option.some.inj h
        have := headB_len f r cs hr
        simp only [List.length_cons]; omega

theorem rvOut_bounds {L : List UInt8} {a n x : Int} (h : rvOut L a = (n, x, true)) : 0 ≤ n ∧ n ≤ 1000000000 ∧ 0 ≤ x ∧ x ≤ L.length := by
  rw [rvOut] at h
  split at h
  · rename_i ha
    split at h
    · simp at h
    · rename_i m k hm
      rw [readB] at hm
      split at hm
      · simp at hm
      · rename_i bs hb
        have hl := headB_len _ _ _ hb
        rw [List.length_drop] at hl
        split at hm
        · simp at hm
        · rename_i hc
          simp only [Option.some.injEq, Prod.mk.injEq] at hm
          simp only [Prod.mk.injEq] at h
          obtain ⟨h1, h2, _⟩ := h
          obtain ⟨h3, h4⟩ := hm
          omega
  · simp at h

theorem strClone (s : ByteArray) (w : World) (h : s.size ≤ 1048576) :
    Calls Tryz.prog 36 #[.string s] w fun e w' => e = .returned (.string s) ∧ Below w.heap.size w w' := by
  go_enter Tryz.func36, Tryz.ntmps36
  go_wp2_with (go_at_call 60; refine (Tryz.stringslite_Clone _ _ (by omega)).mono ?_; rintro e w1 ⟨rfl, hb1⟩)
  go_ret
  exact ⟨rfl, hb1⟩

/-- What is read: the text, the place behind it, and whether there is one. -/
def rsVal (s : ByteArray) (a : Int) : Value :=
  if (rvOut s.data.toList a).2.2 = true ∧ (rvOut s.data.toList a).1 ≤ 20000 ∧ (rvOut s.data.toList a).1 ≤ s.size - (rvOut s.data.toList a).2.1 then
    .tuple #[.string (s.extract (rvOut s.data.toList a).2.1.toNat ((rvOut s.data.toList a).2.1 + (rvOut s.data.toList a).1).toNat), .int .i64 ((rvOut s.data.toList a).2.1 + (rvOut s.data.toList a).1), .bool true]
  else .tuple #[.string (str []), .int .i64 0, .bool false]

theorem rsVal_no {s : ByteArray} {a n x : Int} {b : Bool} (h : rvOut s.data.toList a = (n, x, b)) (hc : ¬ (b = true ∧ n ≤ 20000 ∧ n ≤ s.size - x)) :
    rsVal s a = .tuple #[.string (str []), .int .i64 0, .bool false] := by
  rw [rsVal, h, if_neg hc]

theorem rsVal_yes {s : ByteArray} {a n x : Int} (h : rvOut s.data.toList a = (n, x, true)) (h1 : n ≤ 20000) (h2 : n ≤ s.size - x) :
    rsVal s a = .tuple #[.string (s.extract x.toNat (x + n).toNat), .int .i64 (x + n), .bool true] := by
  rw [rsVal, h, if_pos ⟨rfl, h1, h2⟩]

set_option maxRecDepth 100000 in
theorem implReadShort_any (s : ByteArray) (a : Int) (w : World) (hs : s.size ≤ 1048576) :
    Calls Tryz.prog 63 #[.string s, .int .i64 a] w fun e w' => e = .returned (rsVal s a) ∧ Below w.heap.size w w' := by
  obtain ⟨n, x, b, hr⟩ : ∃ n x b, rvOut s.data.toList a = (n, x, b) := ⟨_, _, _, rfl⟩
  have HC : Hid (∀ W, _) := fun W => implRead_any s a W hs
  rw [rvVal_of hr] at HC
  cases b with
  | false =>
    have HE : Hid (_ = _) := rsVal_no hr (by simp)
    clear hr
    go_enter Tryz.func63, Tryz.ntmps63
    go_wp2_with (go_at_call 61; refine (HC.out _).mono ?_; rintro e w1 ⟨rfl, rfl⟩)
    go_ret3
    exact ⟨congrArg _ HE.out.symm, Below.refl _ _⟩
  | true =>
    obtain ⟨b1, b2, b3, b4⟩ := rvOut_bounds hr
    have b5 : x ≤ s.size := by simpa using b4
    clear b4
    by_cases h1 : n ≤ 20000
    · by_cases h2 : n ≤ s.size - x
      · have HE : Hid (_ = _) := rsVal_yes hr h1 h2
        clear hr
        have hsl := fun W => run_slice_string (P := Tryz.prog) W 9 s .i64 .i64 x (x + n) Tryz.underlying9 b3 (by omega) (by omega)
        have hz : (s.extract x.toNat (x + n).toNat).size ≤ 1048576 := by
          rw [ByteArray.size_extract]; omega
        go_enter Tryz.func63, Tryz.ntmps63
        go_wp2_with (first
          | (go_at_call 61; refine (HC.out _).mono ?_; rintro e w1 ⟨rfl, rfl⟩)
          | (go_at_call 36; refine (strClone _ _ hz).mono ?_; rintro e w2 ⟨rfl, hb2⟩))
        go_ret3
        exact ⟨congrArg _ HE.out.symm, hb2⟩
      · have HE : Hid (_ = _) := rsVal_no hr (by omega)
        clear hr
        go_enter Tryz.func63, Tryz.ntmps63
        go_wp2_with (go_at_call 61; refine (HC.out _).mono ?_; rintro e w1 ⟨rfl, rfl⟩)
        go_ret3
        exact ⟨congrArg _ HE.out.symm, Below.refl _ _⟩
    · have HE : Hid (_ = _) := rsVal_no hr (by omega)
      clear hr
      go_enter Tryz.func63, Tryz.ntmps63
      go_wp2_with (go_at_call 61; refine (HC.out _).mono ?_; rintro e w1 ⟨rfl, rfl⟩)
      go_ret3
      exact ⟨congrArg _ HE.out.symm, Below.refl _ _⟩

set_option maxRecDepth 100000 in
theorem specReadShort_any (s : ByteArray) (a : Int) (w : World) (hs : s.size ≤ 1048576) :
    Calls Tryz.prog 26 #[.string s, .int .i64 a] w fun e w' => e = .returned (rsVal s a) ∧ Below w.heap.size w w' := by
  obtain ⟨n, x, b, hr⟩ : ∃ n x b, rvOut s.data.toList a = (n, x, b) := ⟨_, _, _, rfl⟩
  have HC : Hid (∀ W, _) := fun W => specRead_any s a W hs
  rw [rvVal_of hr] at HC
  cases b with
  | false =>
    have HE : Hid (_ = _) := rsVal_no hr (by simp)
    clear hr
    go_enter Tryz.func26, Tryz.ntmps26
    go_wp2_with (go_at_call 25; refine (HC.out _).mono ?_; rintro e w1 ⟨rfl, hb1⟩)
    go_ret3
    exact ⟨congrArg _ HE.out.symm, hb1⟩
  | true =>
    obtain ⟨b1, b2, b3, b4⟩ := rvOut_bounds hr
    have b5 : x ≤ s.size := by simpa using b4
    clear b4
    by_cases h1 : n ≤ 20000
    · by_cases h2 : n ≤ s.size - x
      · have HE : Hid (_ = _) := rsVal_yes hr h1 h2
        clear hr
        have hsl := fun W => run_slice_string (P := Tryz.prog) W 9 s .i64 .i64 x (x + n) Tryz.underlying9 b3 (by omega) (by omega)
        go_enter Tryz.func26, Tryz.ntmps26
        go_wp2_with (go_at_call 25; refine (HC.out _).mono ?_; rintro e w1 ⟨rfl, hb1⟩)
        go_ret3
        exact ⟨congrArg _ HE.out.symm, hb1⟩
      · have HE : Hid (_ = _) := rsVal_no hr (by omega)
        clear hr
        go_enter Tryz.func26, Tryz.ntmps26
        go_wp2_with (go_at_call 25; refine (HC.out _).mono ?_; rintro e w1 ⟨rfl, hb1⟩)
        go_ret3
        exact ⟨congrArg _ HE.out.symm, hb1⟩
    · have HE : Hid (_ = _) := rsVal_no hr (by omega)
      clear hr
      go_enter Tryz.func26, Tryz.ntmps26
      go_wp2_with (go_at_call 25; refine (HC.out _).mono ?_; rintro e w1 ⟨rfl, hb1⟩)
      go_ret3
      exact ⟨congrArg _ HE.out.symm, hb1⟩

theorem rsVal_form (s : ByteArray) (a : Int) : ∃ t n b, rsVal s a = .tuple #[.string t, .int .i64 n, .bool b] := by
  rw [rsVal]
  split
  · exact ⟨_, _, _, rfl⟩
  · exact ⟨_, _, _, rfl⟩

end Go.Proofs.YtokidlklkgghkaaGreatDoor

namespace Go.Proofs.YtokidlklkgghkaaGreatDoor
open Go.RowKit

/-- The figure of a half byte, as a number. -/
def figI (x : Int) : Int := if x < 10 then 48 + x else 87 + x
def figB (n : Nat) : UInt8 := UInt8.ofNat (if n < 10 then 48 + n else 87 + n)
theorem figB_toNat (n : Nat) (h : n < 16) : ((figB n).toNat : Int) = figI n := by
  unfold figB figI
  rw [toNat_ofNat _ (by split <;> omega)]
  split <;> split <;> omega

end Go.Proofs.YtokidlklkgghkaaGreatDoor

namespace Go.Proofs.YtokidlklkgghkaaGreatDoor
open Go.RowKit

def hexB (l : List UInt8) : List UInt8 := l.flatMap fun b => [figB (b.toNat / 16), figB (b.toNat % 16)]
theorem hexB_len (l : List UInt8) : (hexB l).length = 2 * l.length := by
  induction l with
  | nil => rfl
  | cons b l ih => simp only [hexB, List.flatMap_cons, List.length_append, List.length_cons, List.length_nil] at ih ⊢; omega
theorem hexB_snoc (l : List UInt8) (b : UInt8) : hexB (l ++ [b]) = hexB l ++ [figB (b.toNat / 16), figB (b.toNat % 16)] := by simp [hexB]

theorem take_snoc (s : ByteArray) (k : Nat) (h : k < s.size) : s.data.toList.take (k + 1) = s.data.toList.take k ++ [s[k]] := by
  rw [List.take_succ_eq_append_getElem (by simpa using h)]; rfl

theorem hex_cells (b : UInt8) : bv [figB (b.toNat / 16), figB (b.toNat % 16)] = [Value.int .u8 (figI ((b.toNat : Int) / 16)), Value.int .u8 (figI ((b.toNat : Int) % 16))] := by
  have := b.toNat_lt
  simp only [bv, List.map_cons, List.map_nil]
  rw [figB_toNat _ (by omega), figB_toNat _ (by omega)]
  simp

theorem byte_facts (b : UInt8) : IntKind.i64.wrap (b.toNat : Int) = b.toNat ∧ (b.toNat : Int).tdiv 16 = (b.toNat : Int) / 16 ∧ (b.toNat : Int).tmod 16 = (b.toNat : Int) % 16 ∧
    IntKind.i64.wrap ((b.toNat : Int) / 16) = (b.toNat : Int) / 16 ∧ IntKind.i64.wrap ((b.toNat : Int) % 16) = (b.toNat : Int) % 16 := by
  have := b.toNat_lt
  refine ⟨wrap_small _ (by omega) (by omega), ?_, ?_, wrap_small _ (by omega) (by omega), wrap_small _ (by omega) (by omega)⟩
  · exact Int.tdiv_eq_ediv_of_nonneg (by omega)
  · exact Int.tmod_eq_emod_of_nonneg (by omega)

/-- What holds at each round's head. -/
def HexRel (s : ByteArray) (base : Nat) (w : World) (out iv : Value) (wr : World) : Prop :=
  ∃ k : Nat, iv = .int .i64 k ∧ k ≤ s.size ∧ wr.ownsRow base 5 1 out (2 * k) (bv (hexB (s.data.toList.take k))) ∧ Below base w wr ∧ base ≤ wr.heap.size

theorem hexRel_step {s : ByteArray} {base k : Nat} {w wr w1 : World} {out v' : Value} (hlt : k < s.size)
    (hown : wr.ownsRow base 5 1 out (2 * k) (bv (hexB (s.data.toList.take k)))) (hbel : Below base w wr) (hsz : base ≤ wr.heap.size) {o : Obj}
    (hown1 : w1.ownsRow base 5 1 v' (2 * k + 2) (bv (hexB (s.data.toList.take k)) ++ [.int .u8 (figI ((s[k].toNat : Int) / 16)), .int .u8 (figI ((s[k].toNat : Int) % 16))]))
    (hgrow : (wr.alloc o).drew.grownBy w1 out.ownBlock) : HexRel s base w v' (.int .i64 ((k : Int) + 1)) w1 := by
  refine ⟨k + 1, by simp, by omega, ?_, ?_, ?_⟩
  · rw [take_snoc s k hlt, hexB_snoc, bv_app, hex_cells]
    exact hown1
  · exact (hbel.alloc hsz o).drew.grown hgrow (by simp; omega) (fun k hk => (hown.lt k hk).1)
  · have := hgrow.size; simp at this; omega

theorem hexRel_end {s : ByteArray} {base : Nat} {wr : World} {out : Value}
    (hown : wr.ownsRow base 5 1 out (2 * s.size) (bv (hexB (s.data.toList.take s.size)))) : wr.ownsRow base 5 1 out (hexB s.data.toList).length (bv (hexB s.data.toList)) := by
  have hl : s.data.toList.length = s.size := by simp
  rw [List.take_of_length_le (by omega)] at hown
  rw [hexB_len, hl]
  exact hown

end Go.Proofs.YtokidlklkgghkaaGreatDoor

namespace Go.Proofs.YtokidlklkgghkaaGreatDoor
open Go.RowKit

/-- The value of a figure, or -1. -/
def valI (x : Nat) : Int := if 48 ≤ x ∧ x ≤ 57 then (x : Int) - 48 else if 97 ≤ x ∧ x ≤ 102 then (x : Int) - 97 + 10 else -1

theorem valI_lt (x : Nat) : valI x < 16 ∧ -1 ≤ valI x := by
  unfold valI
  split
  · omega
  · split <;> omega

def figs : List UInt8 := [48, 49, 50, 51, 52, 53, 54, 55, 56, 57, 97, 98, 99, 100, 101, 102]

theorem index_figs (b : UInt8) : Lib.indexByte figs b = valI b.toNat := by
  have h : ∀ n : Fin 256, Lib.indexByte figs (UInt8.ofNat n.1) = valI n.1 := by decide +kernel
  have := h ⟨b.toNat, b.toNat_lt⟩
  simpa using this

/-- Two figures a byte. -/
def unB : List UInt8 → Option (List UInt8)
  | [] => some []
  | [_] => none
  | a :: b :: r => if 0 ≤ valI a.toNat ∧ 0 ≤ valI b.toNat then (unB r).map (UInt8.ofNat (16 * valI a.toNat + valI b.toNat).toNat :: ·) else none

theorem unB_odd : ∀ (n : Nat) (l : List UInt8), l.length = 2 * n + 1 → unB l = none
  | 0, [_], _ => rfl
  | n + 1, a :: b :: r, h => by
    rw [unB]
    split
    · rw [unB_odd n r (by simp only [List.length_cons] at h; omega)]; rfl
    · rfl

/-- Behind so many pairs: pre is read. -/
def UnRel (L pre : List UInt8) : Prop := 2 * pre.length ≤ L.length ∧ unB L = (unB (L.drop (2 * pre.length))).map (pre ++ ·)

theorem un_start (L : List UInt8) : UnRel L [] := ⟨by simp, by simp⟩

theorem drop_two (L : List UInt8) (i : Nat) (h : i + 1 < L.length) : L.drop i = L[i] :: L[i + 1] :: L.drop (i + 2) := by
  rw [List.drop_eq_getElem_cons (by omega), List.drop_eq_getElem_cons h]

theorem un_step {L pre : List UInt8} {i : Nat} (h : UnRel L pre) (hi : i = 2 * pre.length) (hl : i + 1 < L.length) (h1 : 0 ≤ valI L[i].toNat) (h2 : 0 ≤ valI L[i + 1].toNat) :
    UnRel L (pre ++ [UInt8.ofNat (16 * valI L[i].toNat + valI L[i + 1].toNat).toNat]) := by
  subst hi
  refine ⟨by rw [List.length_append, List.length_singleton]; omega, ?_⟩
  rw [h.2, drop_two L _ hl, unB, if_pos ⟨h1, h2⟩, List.length_append, List.length_singleton, Nat.mul_add, Nat.mul_one]
  simp [Option.map_map, Function.comp_def]

theorem un_bad1 {L pre : List UInt8} {i : Nat} (h : UnRel L pre) (hi : i = 2 * pre.length) (hl : i < L.length) (h1 : valI L[i].toNat < 0) : unB L = none := by
  subst hi
  rw [h.2]
  by_cases h2 : 2 * pre.length + 1 < L.length
  · rw [drop_two L _ h2, unB, if_neg (by omega)]; rfl
  · rw [List.drop_eq_getElem_cons hl, List.drop_of_length_le (by omega)]; rfl

theorem un_bad2 {L pre : List UInt8} {i : Nat} (h : UnRel L pre) (hi : i = 2 * pre.length + 1) (hl : i < L.length) (h1 : valI L[i].toNat < 0) : unB L = none := by
  subst hi
  rw [h.2, drop_two L _ hl, unB, if_neg (by omega)]
  rfl

theorem un_end {L pre : List UInt8} (h : UnRel L pre) (hl : L.length = 2 * pre.length) : unB L = some pre := by
  rw [h.2, List.drop_of_length_le (by omega), unB]
  simp

theorem byte_of_pair (x y : Nat) (hx : 0 ≤ valI x) (hy : 0 ≤ valI y) : ((UInt8.ofNat (16 * valI x + valI y).toNat).toNat : Int) = 16 * valI x + valI y := by
  have h1 := valI_lt x
  have h2 := valI_lt y
  rw [toNat_ofNat _ (by omega)]
  omega

end Go.Proofs.YtokidlklkgghkaaGreatDoor
