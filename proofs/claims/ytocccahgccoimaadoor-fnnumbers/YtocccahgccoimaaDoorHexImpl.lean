/- Figures: what the program's function that writes bytes in figures answers, and the law on it. -/
import Derived.Test.YtocccahgccoimaaDoorHex
namespace Go.Proofs.YtocccahgccoimaaDoor
open Go.RowKit

def hexFig : ByteArray := { data := #[48, 49, 50, 51, 52, 53, 54, 55, 56, 57, 97, 98, 99, 100, 101, 102] }

theorem hexFig_at : ∀ (n : Nat) (h : n < 16), ((hexFig[n]'(by exact h)).toNat : Int) = figI n := by
  have : ∀ n : Fin 16, ((hexFig[n.1]'(by exact n.2)).toNat : Int) = figI (n.1 : Nat) := by decide
  exact fun n h => this ⟨n, h⟩

theorem run_figure (P : Program) (W : World) (t : TypeId) (x : Int) (ht : P.underlying t = some .string) (h0 : 0 ≤ x) (h1 : x < 16) :
    (Instr.index t (.string { data := #[48, 49, 50, 51, 52, 53, 54, 55, 56, 57, 97, 98, 99, 100, 101, 102] }) (.int .u8 x)).run P W = .ok (.int .u8 (figI x)) W := by
  obtain ⟨n, rfl⟩ := Int.eq_ofNat_of_zero_le h0
  have hn : n < 16 := by omega
  have e := hexFig_at n hn
  show (Instr.index t (.string hexFig) (.int .u8 (n : Int))).run P W = _
  rw [run_index_string W t hexFig .u8 n ht, dif_pos ⟨h0, by show (n : Int) < 16; omega⟩, ← e]
  rfl

set_option maxHeartbeats 1600000 in
set_option maxRecDepth 100000 in
theorem implHex_yes (s : ByteArray) (w : World) (hs : s.size ≤ 20000) :
    Calls Tryd.prog 13 #[.string s] w fun e w' => e = .returned (.tuple #[.string (str (hexB s.data.toList)), .bool true]) ∧ Below w.heap.size w w' := by
  obtain ⟨i0, hi, hz0, hz1, hz2⟩ := info_parts Tryd.info5
  go_enter Tryd.func13, Tryd.ntmps13
  go_wp2_with (at_make; refine wpList_make_own _ rfl _ _ 22 rfl w.heap.size 5 i0 (.int .u8 0) 1 Tryd.underlying22 hi hz0 hz1 _ _ _ (2 * s.size) rfl rfl (by simp) (by rw [hz2]; omega) (by unfold maxLen; omega) (Nat.le_refl _) ?_; intro w0 hown0 hgrow0)
  go_loopw [4, 15] (fun out iv wr => HexRel s w.heap.size w out iv wr) (fun _ iv _ => s.size - (intOf iv).toNat)
  case atStart => exact ⟨0, rfl, Nat.zero_le _, hown0, (Below.refl _ _).grown hgrow0 (Nat.le_refl _) (by simp), hgrow0.size⟩
  case round =>
    obtain ⟨k, rfl, hk, hown, hbel, hsz⟩ := hrel
    by_cases hlt : k < s.size
    · have hbyte : (s[k].toNat : Int) < 256 := by have := s[k].toNat_lt; omega
      obtain ⟨e1, e2, e3, e4, e5⟩ := byte_facts s[k]
      have g1 : (0 : Int) ≤ (k : Int) := by omega
      have g2 : (k : Int) < (s.size : Int) := by omega
      have e6 : IntKind.u8.wrap ((s[k].toNat : Int) / 16) = (s[k].toNat : Int) / 16 := by rw [IntKind.wrap_u8]; omega
      have e7 : IntKind.u8.wrap ((s[k].toNat : Int) % 16) = (s[k].toNat : Int) % 16 := by rw [IntKind.wrap_u8]; omega
      have hx1 := fun W => run_figure Tryd.prog W 9 ((s[k].toNat : Int) / 16) Tryd.underlying9 (by omega) (by omega)
      have hx2 := fun W => run_figure Tryd.prog W 9 ((s[k].toNat : Int) % 16) Tryd.underlying9 (by omega) (by omega)
      go_wp2
      go_region_held3 (fun _ => True) (trivial)
        ((first
          | (show ite (Region.wanted (Oper.mk (some 30) _ _ _ _ _) _ = true) _ _; refine step_append_lies _ (by rfl) _ _ _ (by rfl) w.heap.size 5 i0 _ 1 1 Tryd.underlying22 hi hz0 hz1 hz2 rfl (by omega) _ _ _ (by rfl) ((hown.alloc _).drew) ⟨wr.heap.size, 0, none⟩ 2 2 [.int .u8 (figI ((s[k].toNat : Int) / 16)), .int .u8 (figI ((s[k].toNat : Int) % 16))] (by rfl) (by rfl) (World.news_of_block (cs := #[.int .u8 (figI ((s[k].toNat : Int) / 16)), .int .u8 (figI ((s[k].toNat : Int) % 16))]) (t := 5) (fr := (0, 0)) (heap_alloc_new wr _)) (by simp [Value.oneCell']) (by omega) (by unfold maxLen; omega) (by omega) (by simp; omega) (wr.heap.size + 1) (by simp) ?_; intro gg cap w1 hown1 hgrow hat hlt1)))
      all_goals
        have R := hexRel_step hlt hown hbel hsz hown1 hgrow
        clear hown1 hgrow hown hbel
        go_wp2
        go_roundw
        case rel => exact R
        case measure => simp [intOf]; omega
    · obtain rfl : k = s.size := by omega
      have hcv := own_string (P := Tryd.prog) (dst := 9) (hexB s.data.toList) Tryd.underlying22 Tryd.underlying5 Tryd.underlying9 (hexRel_end hown)
      go_wp2
      go_ret2
      exact ⟨rfl, hbel⟩

theorem implHex_no (s : ByteArray) (w : World) (hs : 20000 < s.size) :
    Calls Tryd.prog 13 #[.string s] w fun e w' => e = .returned (.tuple #[.string (str []), .bool false]) ∧ w' = w := by
  have hs1 : (20000 : Int) < s.size := by omega
  go_enter Tryd.func13, Tryd.ntmps13
  go_wp2
  go_ret2
  exact ⟨rfl, rfl⟩



end Go.Proofs.YtocccahgccoimaaDoor
