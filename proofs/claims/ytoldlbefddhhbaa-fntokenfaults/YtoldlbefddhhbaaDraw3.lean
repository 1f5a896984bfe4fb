/- The verifier's draws for the first chapter. -/
import Derived.Test.YtoldlbefddhhbaaDraw2
namespace Go.Proofs.Ytoldlbefddhhbaa
open Go.RowKit

theorem bv_rep (n : Nat) (b : UInt8) : bv (List.replicate n b) = List.replicate n (.int .u8 b.toNat) := by simp [bv]

def LongRel (n : Nat) (x : UInt8) (base : Nat) (w : World) (g cap : Nat) (iv : Value) (wr : World) : Prop :=
  ∃ k : Nat, iv = .int .i64 k ∧ k ≤ n ∧ wr.ownsRow base 5 1 (.slice (some ⟨g, 0, none⟩) n cap) n (bv (List.replicate k x ++ List.replicate (n - k) 0)) ∧ Below base w wr

theorem longRel_step {n base g cap k : Nat} {x : UInt8} {w wr : World} (hk : k < n) (hg : base ≤ g)
    (hown : wr.ownsRow base 5 1 (.slice (some ⟨g, 0, none⟩) n cap) n (bv (List.replicate k x ++ List.replicate (n - k) 0))) (hb : Below base w wr) :
    LongRel n x base w g cap (.int .i64 ((k : Int) + 1)) (wr.setCell ⟨g, k, none⟩ (.int .u8 x.toNat)) := by
  obtain ⟨h1, h2⟩ := World.ownsRow.stored hown k (.int .u8 x.toNat)
  refine ⟨k + 1, by simp, by omega, ?_, hb.setCell hg _⟩
  have e : (bv (List.replicate k x ++ List.replicate (n - k) 0)).set k (.int .u8 x.toNat) = bv (List.replicate (k + 1) x ++ List.replicate (n - (k + 1)) 0) := by
    rw [show n - k = (n - (k + 1)) + 1 by omega, List.replicate_succ (n := n - (k + 1)), List.replicate_succ' (n := k)]
    simp only [bv, List.map_append, List.map_cons, List.append_assoc, List.cons_append, List.nil_append]
    rw [List.set_append_right _ _ (by simp)]
    simp
  rw [e] at h1
  exact h1

set_option maxHeartbeats 800000 in
theorem long_any (n : Nat) (x : UInt8) (w : World) (hn : n ≤ 1000000) :
    Calls Try.prog 22 #[.int .i64 n, .int .u8 x.toNat] w fun e w' => ∃ l : List UInt8, e = .returned (.string (str l)) ∧ l.length = n ∧ Below w.heap.size w w' := by
  obtain ⟨i0, hi, hz0, hz1, hz2⟩ := info_parts Try.info5d
  go_enter Try.func22, Try.ntmps22
  go_wp2_with (at_make; refine wpList_make_full _ rfl _ _ 28 rfl w.heap.size 5 i0 (.int .u8 0) 1 Try.underlying28 hi hz0 hz1 _ _ _ _ n rfl rfl rfl rfl (by rw [hz2]; omega) (by unfold maxLen; omega) (Nat.le_refl _) ?_; intro w0 hown0 hgrow0)
  have HO : Hid (LongRel n x w.heap.size w w.heap.size n (.int .i64 0) w0) := by
    refine ⟨0, rfl, Nat.zero_le _, ?_, (Below.refl _ _).grown hgrow0 (Nat.le_refl _) (by simp)⟩
    have e : (madeCells (Value.int .u8 0).cells (n * 1)).toList = bv (List.replicate 0 x ++ List.replicate (n - 0) 0) := by
      rw [show (Value.int .u8 0).cells = #[.int .u8 0] from rfl, toList_madeCells_one]
      simp [bv]
    rw [e] at hown0
    exact hown0
  clear hown0 hgrow0
  go_loopw [6] (fun iv wr => LongRel n x w.heap.size w w.heap.size n iv wr) (fun iv _ => n - (intOf iv).toNat)
  case atStart => exact HO.out
  case round =>
    obtain ⟨k, rfl, hk, hown, hb⟩ := hrel
    by_cases hlt : k < n
    · have R := longRel_step hlt (Nat.le_refl _) hown hb
      have hfr := hown.frozenAt k
      have hcl : wr.cell? ⟨w.heap.size, k, none⟩ = some (.int .u8 0) := by
        rw [hown.cellAt k (by omega)]
        rw [show n - k = (n - k - 1) + 1 by omega, List.replicate_succ, bv, List.map_append, List.getElem?_append_right (by simp)]
        simp
      have g1 : (0 : Int) ≤ (k : Int) := by omega
      have g2 : (k : Int) < (n : Int) := by omega
      clear hown hb
      go_wp2
      go_roundw
      case rel => exact R
      case measure => simp [intOf]; omega
    · obtain rfl : k = n := by omega
      have hown2 : wr.ownsRow w.heap.size 5 1 (.slice (some ⟨w.heap.size, 0, none⟩) k k) (List.replicate k x).length (bv (List.replicate k x)) := by
        rw [List.length_replicate]
        simpa using hown
      have hcv := own_string (P := Try.prog) (dst := 9) (List.replicate k x) Try.underlying28 Try.underlying5 Try.underlying9 hown2
      clear hown2 hown
      go_wp2
      go_ret
      exact ⟨_, rfl, by simp, hb⟩

theorem long_int (n x : Int) (w : World) (h0 : 0 ≤ n) (h1 : n ≤ 1000000) (x0 : 0 ≤ x) (x1 : x < 256) :
    Calls Try.prog 22 #[.int .i64 n, .int .u8 x] w fun e w' => ∃ l : List UInt8, e = .returned (.string (str l)) ∧ (l.length : Int) = n ∧ Below w.heap.size w w' := by
  obtain ⟨k, rfl⟩ := Int.eq_ofNat_of_zero_le h0
  have e1 : x = ((UInt8.ofNat x.toNat).toNat : Int) := by rw [toNat_ofNat _ (by omega)]; omega
  rw [e1]
  refine (long_any k (UInt8.ofNat x.toNat) w (by omega)).mono ?_
  rintro e w' ⟨l, rfl, hl, hb⟩
  exact ⟨l, rfl, by omega, hb⟩

theorem went_alloc {W : World} {v : Value} {n g : Nat} {w : World} (h : Cur W v n g w) (o : Obj) : Went W v n g w (w.alloc o) :=
  ⟨h.moved (h.1.alloc h.1.size o) (Below.heap_alloc w o g h.lt), World.grownBy_alloc w o _⟩

theorem went_below {W : World} {v : Value} {n g : Nat} {w w' : World} (h : Cur W v n g w) (hb : Below w.heap.size w w') : Went W v n g w w' :=
  ⟨h.moved (h.1.trans (hb.mono h.1.size)) (hb.block g h.lt), ⟨hb.os, hb.tape, hb.output, hb.size, fun k hk _ => hb.block k hk⟩⟩

theorem went_bel {W : World} {v : Value} {n g : Nat} {w w' : World} {B : Nat} (h : Went W v n g w w') (hB : B ≤ w.heap.size) (hg : B ≤ g) : Below B w w' :=
  ⟨h.2.os, h.2.tape, h.2.output, h.2.size, fun k hk => h.2.block k (by omega) (fun e => by have := Option.some.inj e; omega)⟩

theorem ints_row (w : World) (ys : List Int) (t : TypeId) (hy : ∀ y ∈ ys, -9223372036854775808 ≤ y ∧ y ≤ 9223372036854775807) :
    ∀ i, i < ys.length → ∃ y : Int, (w.alloc (.cells (ys.map (Value.int .i64)).toArray t)).cell? ⟨w.heap.size, i, none⟩ = some (.int .i64 y) ∧ -9223372036854775808 ≤ y ∧ y ≤ 9223372036854775807 := by
  intro i hi
  refine ⟨ys[i], ?_, hy _ (List.getElem_mem hi)⟩
  have := World.news_of_block (heap_alloc_new w (.cells (ys.map (Value.int .i64)).toArray t)) i (.int .i64 ys[i]) (by simp [hi])
  rw [Addr.add_lit, Nat.zero_add] at this
  exact this




end Go.Proofs.Ytoldlbefddhhbaa
