/- Figures: what the two functions that write bytes in figures answer. -/
import Derived.Test.YtocccahgccoimamVar
import Derived.Test.YtocccahgccoimamFig
import Derived.Deep.RegionHeld3
import Derived.Deep.AppendLies
namespace Go.Proofs.Ytocccahgccoimam
open Go.RowKit

def hexB (l : List UInt8) : List UInt8 := l.flatMap fun b => [figB (b.toNat / 16), figB (b.toNat % 16)]
theorem hexB_len (l : List UInt8) : (hexB l).length = 2 * l.length := by
  induction l with
  | nil => rfl
  | cons b l ih => simp only [hexB, List.flatMap_cons, List.length_append, List.length_cons, List.length_nil] at ih ⊢; omega
theorem hexB_snoc (l : List UInt8) (b : UInt8) : hexB (l ++ [b]) = hexB l ++ [figB (b.toNat / 16), figB (b.toNat % 16)] := by simp [hexB]

theorem take_snoc (s : ByteArray) (k : Nat) (h : k < s.size) : s.data.toList.take (k + 1) = s.data.toList.take k ++ [s[k]] := by
  rw [List.take_succ_eq_append_getElem (by simpa using h)]; rfl

theorem hex_cells (b : UInt8) : bv [figB (b.toNat / 16), figB (b.toNat % 16)] = [Value.int .u8 (figI ((b.toNat : Int) / 16)), Value.int .u8 (figI ((b.toNat : Int) % 16))] := by
  have := b.toNat_lt
  simp only [bv, List.map_cons, List.map_nil]
  rw [figB_toNat _ (by omega), figB_toNat _ (by omega)]
  simp

theorem byte_facts (b : UInt8) : IntKind.i64.wrap (b.toNat : Int) = b.toNat ∧ (b.toNat : Int).tdiv 16 = (b.toNat : Int) / 16 ∧ (b.toNat : Int).tmod 16 = (b.toNat : Int) % 16 ∧
    IntKind.i64.wrap ((b.toNat : Int) / 16) = (b.toNat : Int) / 16 ∧ IntKind.i64.wrap ((b.toNat : Int) % 16) = (b.toNat : Int) % 16 := by
  have := b.toNat_lt
  refine ⟨wrap_small _ (by omega) (by omega), ?_, ?_, wrap_small _ (by omega) (by omega), wrap_small _ (by omega) (by omega)⟩
  · exact Int.tdiv_eq_ediv_of_nonneg (by omega)
  · exact Int.tmod_eq_emod_of_nonneg (by omega)

/-- What holds at each round's head. -/
def HexRel (s : ByteArray) (base : Nat) (w : World) (out iv : Value) (wr : World) : Prop :=
  ∃ k : Nat, iv = .int .i64 k ∧ k ≤ s.size ∧ wr.ownsRow base 5 1 out (2 * k) (bv (hexB (s.data.toList.take k))) ∧ Below base w wr ∧ base ≤ wr.heap.size

theorem hexRel_step {s : ByteArray} {base k : Nat} {w wr w1 : World} {out v' : Value} (hlt : k < s.size)
    (hown : wr.ownsRow base 5 1 out (2 * k) (bv (hexB (s.data.toList.take k)))) (hbel : Below base w wr) (hsz : base ≤ wr.heap.size) {o : Obj}
    (hown1 : w1.ownsRow base 5 1 v' (2 * k + 2) (bv (hexB (s.data.toList.take k)) ++ [.int .u8 (figI ((s[k].toNat : Int) / 16)), .int .u8 (figI ((s[k].toNat : Int) % 16))]))
    (hgrow : (wr.alloc o).drew.grownBy w1 out.ownBlock) : HexRel s base w v' (.int .i64 ((k : Int) + 1)) w1 := by
  refine ⟨k + 1, by simp, by omega, ?_, ?_, ?_⟩
  · rw [take_snoc s k hlt, hexB_snoc, bv_app, hex_cells]
    exact hown1
  · exact (hbel.alloc hsz o).drew.grown hgrow (by simp; omega) (fun k hk => (hown.lt k hk).1)
  · have := hgrow.size; simp at this; omega

theorem hexRel_end {s : ByteArray} {base : Nat} {wr : World} {out : Value}
    (hown : wr.ownsRow base 5 1 out (2 * s.size) (bv (hexB (s.data.toList.take s.size)))) : wr.ownsRow base 5 1 out (hexB s.data.toList).length (bv (hexB s.data.toList)) := by
  have hl : s.data.toList.length = s.size := by simp
  rw [List.take_of_length_le (by omega)] at hown
  rw [hexB_len, hl]
  exact hown

set_option maxHeartbeats 1600000 in
set_option maxRecDepth 100000 in
theorem specHex_yes (s : ByteArray) (w : World) (hs : s.size ≤ 20000) :
    Calls Try.prog 17 #[.string s] w fun e w' => e = .returned (.tuple #[.string (str (hexB s.data.toList)), .bool true]) ∧ Below w.heap.size w w' := by
  obtain ⟨i0, hi, hz0, hz1, hz2⟩ := info_parts Try.info5
  go_enter Try.func17, Try.ntmps17
  go_wp2
  go_loopw [4, 5] (fun out iv wr => HexRel s w.heap.size w out iv wr) (fun _ iv _ => s.size - (intOf iv).toNat)
  case atStart => exact ⟨0, rfl, Nat.zero_le _, World.ownsRow_made _ _ _ (Nat.le_refl _) (by decide) rfl, (Below.refl _ _).alloc (Nat.le_refl _) _, by simp⟩
  case round =>
    obtain ⟨k, rfl, hk, hown, hbel, hsz⟩ := hrel
    by_cases hlt : k < s.size
    · have hbyte : (s[k].toNat : Int) < 256 := by have := s[k].toNat_lt; omega
      obtain ⟨e1, e2, e3, e4, e5⟩ := byte_facts s[k]
      have g1 : (0 : Int) ≤ (k : Int) := by omega
      have g2 : (k : Int) < (s.size : Int) := by omega
      go_wp2
      go_region_held3 (fun _ => True) (trivial)
        ((first
          | (go_at_call 24; refine (fig_any _ _ (by omega) (by omega)).mono ?_; rintro e w' ⟨rfl, rfl⟩)
          | (show ite (Region.wanted (Oper.mk (some 30) _ _ _ _ _) _ = true) _ _; refine step_append_lies _ (by rfl) _ _ _ (by rfl) w.heap.size 5 i0 _ 1 1 Try.underlying34 hi hz0 hz1 hz2 rfl (by omega) _ _ _ (by rfl) ((hown.alloc _).drew) ⟨wr.heap.size, 0, none⟩ 2 2 [.int .u8 (figI ((s[k].toNat : Int) / 16)), .int .u8 (figI ((s[k].toNat : Int) % 16))] (by rfl) (by rfl) (World.news_of_block (cs := #[.int .u8 (figI ((s[k].toNat : Int) / 16)), .int .u8 (figI ((s[k].toNat : Int) % 16))]) (t := 5) (fr := (0, 0)) (heap_alloc_new wr _)) (by simp [Value.oneCell']) (by omega) (by unfold maxLen; omega) (by omega) (by simp; omega) (wr.heap.size + 1) (by simp) ?_; intro gg cap w1 hown1 hgrow hat hlt1)))
      all_goals
        have R := hexRel_step hlt hown hbel hsz hown1 hgrow
        clear hown1 hgrow hown hbel
        go_wp2
        go_roundw
        case rel => exact R
        case measure => simp [intOf]; omega
    · obtain rfl : k = s.size := by omega
      have hcv := own_string (P := Try.prog) (dst := 9) (hexB s.data.toList) Try.underlying34 Try.underlying5 Try.underlying9 (hexRel_end hown)
      go_wp2
      go_ret2
      exact ⟨rfl, hbel⟩

end Go.Proofs.Ytocccahgccoimam
