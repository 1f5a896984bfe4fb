/- The laws' helpers over lists of texts: two lists of the same texts are the same; what is written into a list is held by it. -/
import Derived.Test.YtocccahgccoimanDoorMark
import Derived.Deep.RegionHeld3
namespace Go.Proofs.YtocccahgccoimanDoor
open Go.RowKit

/-- Texts as cells. -/
def sv (ss : List (List UInt8)) : List Value := ss.map fun l => Value.string (str l)
theorem sv_len (ss : List (List UInt8)) : (sv ss).length = ss.length := by simp [sv]
theorem sv_at (ss : List (List UInt8)) (i : Nat) (h : i < ss.length) : (sv ss)[i]? = some (.string (str ss[i])) := by simp [sv, h]

/-- The list of n texts whose row is the block g, in memory of the call's own from the block base on. -/
def OwnS (w : World) (base g cap n : Nat) (ss : List (List UInt8)) : Prop :=
  w.ownsRow base 9 1 (.slice (some ⟨g, 0, none⟩) n cap) n (sv ss)

theorem OwnS.len {w : World} {base g cap n : Nat} {ss : List (List UInt8)} (h : OwnS w base g cap n ss) : ss.length = n := by
  have := h.1
  rw [sv_len] at this
  omega

theorem OwnS.cell {w : World} {base g cap n : Nat} {ss : List (List UInt8)} (h : OwnS w base g cap n ss) (i : Nat) (hi : i < ss.length) : w.cell? ⟨g, i, none⟩ = some (.string (str ss[i])) := by
  have := h.len
  rw [World.ownsRow.cellAt h i (by omega), sv_at ss i hi]

theorem OwnS.lt {w : World} {base g cap n : Nat} {ss : List (List UInt8)} (h : OwnS w base g cap n ss) : base ≤ g ∧ g < w.heap.size := World.ownsRow.lt h g rfl

theorem OwnS.moved {w w' : World} {base g cap n : Nat} {ss : List (List UInt8)} (h : OwnS w base g cap n ss) (hb : w'.heap[g]? = w.heap[g]?) : OwnS w' base g cap n ss := by
  refine ⟨h.1, ?_⟩
  rcases h.2 with ⟨h1, _⟩ | ⟨g', cap', cur, h1, h2, h3, rest⟩
  · simp at h1
  · simp only [Value.slice.injEq, Option.some.injEq, Addr.mk.injEq] at h1
    obtain ⟨⟨rfl, _⟩, _, rfl⟩ := h1
    exact .inr ⟨g, cap, cur, rfl, h2, by rw [hb]; exact h3, rest⟩

theorem OwnS.below {w w' : World} {base g cap n B : Nat} {ss : List (List UInt8)} (h : OwnS w base g cap n ss) (hb : Below B w w') (hg : g < B) : OwnS w' base g cap n ss := h.moved (hb.block g hg)

theorem OwnS.based {w : World} {base base' g cap n : Nat} {ss : List (List UInt8)} (h : OwnS w base g cap n ss) (hb : base' ≤ base) : OwnS w base' g cap n ss := by
  refine ⟨h.1, ?_⟩
  rcases h.2 with ⟨h1, _⟩ | ⟨g', cap', cur, h1, h2, rest⟩
  · simp at h1
  · exact .inr ⟨g', cap', cur, h1, by omega, rest⟩

theorem grown_of_below {w w' : World} (h : Below w.heap.size w w') (row : Option Nat) : w.grownBy w' row := ⟨h.os, h.tape, h.output, h.size, fun k hk _ => h.block k hk⟩
theorem grown_trans {w w1 w2 : World} {row : Option Nat} (h : w.grownBy w1 row) (k : w1.grownBy w2 row) : w.grownBy w2 row :=
  ⟨k.os.trans h.os, k.tape.trans h.tape, k.output.trans h.output, Nat.le_trans h.size k.size, fun i hi hr => (k.block i (Nat.lt_of_lt_of_le hi h.size) hr).trans (h.block i hi hr)⟩
theorem below_of_grown {w w' : World} {B g : Nat} (h : w.grownBy w' (some g)) (hB : B ≤ w.heap.size) (hg : B ≤ g) : Below B w w' :=
  ⟨h.os, h.tape, h.output, h.size, fun k hk => h.block k (by omega) (fun e => by have := Option.some.inj e; omega)⟩

set_option maxHeartbeats 400000 in
theorem eqS_same (ss : List (List UInt8)) (ga ca gb cb : Nat) (w : World) (hl : ss.length ≤ 1000000000000)
    (ha : ∀ i (h : i < ss.length), w.cell? ⟨ga, i, none⟩ = some (.string (str ss[i]))) (hb : ∀ i (h : i < ss.length), w.cell? ⟨gb, i, none⟩ = some (.string (str ss[i]))) :
    Calls Tryd.prog 12 #[.slice (some ⟨ga, 0, none⟩) ss.length ca, .slice (some ⟨gb, 0, none⟩) ss.length cb] w fun e w' => e = .returned (.bool true) ∧ ∃ q, w' = w.drewN q := by
  have HA : Hid (∀ i (h : i < ss.length), w.cell? ⟨ga, i, none⟩ = some (.string (str ss[i]))) := ha
  have HB : Hid (∀ i (h : i < ss.length), w.cell? ⟨gb, i, none⟩ = some (.string (str ss[i]))) := hb
  clear ha hb
  go_enter Tryd.func12, Tryd.ntmps12
  go_wp2
  go_loopw [5] (fun iv wr => ∃ k q : Nat, iv = .int .i64 k ∧ k ≤ ss.length ∧ wr = w.drewN q) (fun iv _ => ss.length - (intOf iv).toNat)
  case atStart => exact ⟨0, 0, rfl, Nat.zero_le _, rfl⟩
  case round =>
    obtain ⟨k, q, rfl, hk, rfl⟩ := hrel
    by_cases hlt : k < ss.length
    · have h1 := HA.out k hlt
      have h2 := HB.out k hlt
      have g1 : (0 : Int) ≤ (k : Int) := by omega
      have g2 : (k : Int) < (ss.length : Int) := by omega
      go_wp2
      go_quiet (fail)
      go_wp2
      go_roundw
      case rel => exact ⟨k + 1, _, by go_num, by omega, rfl⟩
      case measure => simp [intOf]; omega
    · go_wp2
      go_ret
      exact ⟨rfl, q, rfl⟩

/-- The texts that are written, from the number k on. -/
def marks (k : Nat) : Nat → List (List UInt8)
  | 0 => []
  | n + 1 => marks k n ++ [markB (k + n)]
theorem marks_len (k : Nat) : ∀ n, (marks k n).length = n
  | 0 => rfl
  | n + 1 => by simp [marks, marks_len k n]

theorem marks_app (k : Nat) (n : Nat) : marks k (n + 1) = marks k n ++ [markB (k + n)] := rfl
theorem marks_get (k : Nat) : ∀ (n i : Nat), i < n → (marks k n)[i]? = some (markB (k + i))
  | 0, i, h => by omega
  | n + 1, i, h => by
    rw [marks_app]
    by_cases hi : i < n
    · rw [List.getElem?_append_left (by rw [marks_len]; exact hi)]
      exact marks_get k n i hi
    · obtain rfl : i = n := by omega
      rw [List.getElem?_append_right (by rw [marks_len]; exact Nat.le_refl _)]
      simp [marks_len]

/-- What holds at each round's head of the writing. -/
def MarkS (ss : List (List UInt8)) (k0 base g cap : Nat) (w : World) (kv iv : Value) (wr : World) : Prop :=
  ∃ i : Nat, iv = .int .i64 i ∧ kv = .int .i64 ((k0 + i : Nat) : Int) ∧ i ≤ ss.length ∧ OwnS wr base g cap ss.length (marks k0 i ++ ss.drop i) ∧ w.grownBy wr (some g)

theorem markS_step {ss : List (List UInt8)} {k0 base g cap i : Nat} {w wr w1 : World} (hi : i < ss.length) (hown : OwnS wr base g cap ss.length (marks k0 i ++ ss.drop i)) (hgr : w.grownBy wr (some g)) (hb : Below wr.heap.size wr w1) :
    MarkS ss k0 base g cap w (.int .i64 ((k0 : Int) + i + 1)) (.int .i64 ((i : Int) + 1)) (w1.setCell ⟨g, i, none⟩ (.string (str (markB (k0 + i))))) := by
  have hlt := hown.lt
  have h1 : OwnS w1 base g cap ss.length (marks k0 i ++ ss.drop i) := hown.below hb hlt.2
  obtain ⟨h2, h3⟩ := World.ownsRow.stored h1 i (.string (str (markB (k0 + i))))
  refine ⟨i + 1, by simp, ?_, by omega, ?_, ?_⟩
  · refine congrArg (Value.int .i64) ?_
    omega
  · have e : (sv (marks k0 i ++ ss.drop i)).set i (.string (str (markB (k0 + i)))) = sv (marks k0 (i + 1) ++ ss.drop (i + 1)) := by
      rw [marks_app, List.drop_eq_getElem_cons hi]
      simp only [sv, List.map_append, List.map_cons, List.map_nil]
      rw [List.set_append_right _ _ (by rw [List.length_map, marks_len]; exact Nat.le_refl _)]
      simp [marks_len]
    rw [e] at h2
    exact h2
  · exact grown_trans (grown_trans hgr (grown_of_below hb _)) h3

set_option maxHeartbeats 800000 in
theorem markS_any (ss : List (List UInt8)) (k0 base g cap : Nat) (w : World) (hl : ss.length ≤ 100000000000) (h0 : 0 < k0) (h1 : k0 ≤ 100000000000) (hown : OwnS w base g cap ss.length ss) :
    Calls Tryd.prog 13 #[.slice (some ⟨g, 0, none⟩) ss.length cap, .int .i64 k0] w fun e w' =>
      e = .returned (.int .i64 ((k0 + ss.length : Nat) : Int)) ∧ OwnS w' base g cap ss.length (marks k0 ss.length) ∧ w.grownBy w' (some g) := by
  have HO : Hid (OwnS w base g cap ss.length ss) := hown
  clear hown
  go_enter Tryd.func13, Tryd.ntmps13
  go_wp2
  go_loopw [1, 5] (fun kv iv wr => MarkS ss k0 base g cap w kv iv wr) (fun _ iv _ => ss.length - (intOf iv).toNat)
  case atStart => exact ⟨0, rfl, rfl, Nat.zero_le _, HO.out, World.grownBy.refl _ _⟩
  case round =>
    obtain ⟨i, rfl, rfl, hi, hown, hgr⟩ := hrel
    have HW : Hid (OwnS wr base g cap ss.length (marks k0 i ++ ss.drop i)) := hown
    have HG : Hid (w.grownBy wr (some g)) := hgr
    clear hown hgr
    by_cases hlt : i < ss.length
    · have g1 : (0 : Int) ≤ (i : Int) := by omega
      have g2 : (i : Int) < (ss.length : Int) := by omega
      go_wp2_with (go_at_call 20; refine (mark_any _ _ (by omega) (by omega)).mono ?_; rintro e w1 ⟨rfl, hb1⟩; have hcl := (HW.out.below hb1 HW.out.lt.2).cell i (by rw [HW.out.len]; exact hlt); have hfr := World.ownsRow.frozenAt (HW.out.below hb1 HW.out.lt.2) i)
      have R := markS_step hlt HW.out HG.out hb1
      clear hcl hfr
      go_roundw
      case rel => exact R
      case measure => simp [intOf]; omega
    · obtain rfl : i = ss.length := by omega
      have HE : Hid (OwnS wr base g cap ss.length (marks k0 ss.length)) := by
        have := HW.out
        rwa [List.drop_of_length_le (Nat.le_refl _), List.append_nil] at this
      go_wp2
      go_ret
      exact ⟨rfl, HE.out, HG.out⟩

theorem OwnS.mark {w : World} {base g cap n k0 : Nat} (h : OwnS w base g cap n (marks k0 n)) (i : Nat) (hi : i < n) : w.cell? ⟨g, i, none⟩ = some (.string (str (markB (k0 + i)))) := by
  rw [World.ownsRow.cellAt h i (by omega)]
  simp [sv, marks_get k0 n i hi]

set_option maxHeartbeats 800000 in
theorem heldS_any (n k0 base g cap : Nat) (w : World) (hl : n ≤ 100000000000) (h0 : 0 < k0) (h1 : k0 ≤ 100000000000) (hown : OwnS w base g cap n (marks k0 n)) :
    Calls Tryd.prog 14 #[.slice (some ⟨g, 0, none⟩) n cap, .int .i64 k0] w fun e w' =>
      e = .returned (.int .i64 ((k0 + n : Nat) : Int)) ∧ Below w.heap.size w w' := by
  have HO : Hid (OwnS w base g cap n (marks k0 n)) := hown
  clear hown
  go_enter Tryd.func14, Tryd.ntmps14
  go_wp2
  go_loopw [1, 5] (fun kv iv wr => ∃ i : Nat, iv = .int .i64 i ∧ kv = .int .i64 ((k0 + i : Nat) : Int) ∧ i ≤ n ∧ Below w.heap.size w wr) (fun _ iv _ => n - (intOf iv).toNat)
  case atStart => exact ⟨0, rfl, rfl, Nat.zero_le _, Below.refl _ _⟩
  case round =>
    obtain ⟨i, rfl, rfl, hi, hbel⟩ := hrel
    by_cases hlt : i < n
    · have g1 : (0 : Int) ≤ (i : Int) := by omega
      have g2 : (i : Int) < (n : Int) := by omega
      have hc := (HO.out.below hbel HO.out.lt.2).mark i hlt
      have hgl : g < wr.heap.size := Nat.lt_of_lt_of_le HO.out.lt.2 hbel.size
      go_wp2
      go_region_held3 (fun w' => w'.cell? ⟨g, i, none⟩ = some (.string (str (markB (k0 + i)))))
        (first | go_keep | (rw [hb1.cell (by exact hgl)]; exact hc))
        ((go_at_call 20; refine (mark_any (k0 + i) _ (by omega) (by omega)).mono ?_; rintro e w1 ⟨rfl, hb1⟩))
      have hB := hbel.trans ((bel_of_drew hb1).mono hbel.size)
      clear hb1
      go_wp2
      go_roundw
      case rel => exact ⟨i + 1, by go_num, by go_num, by omega, hB⟩
      case measure => simp [intOf]; omega
    · obtain rfl : i = n := by omega
      go_wp2
      go_ret
      exact ⟨rfl, hbel⟩

/-- Both from the number 1 on, as the laws call them. -/
theorem mark1 (ss : List (List UInt8)) (base g cap : Nat) (w : World) (hl : ss.length ≤ 100000000000) (hown : OwnS w base g cap ss.length ss) :
    Calls Tryd.prog 13 #[.slice (some ⟨g, 0, none⟩) ss.length cap, .int .i64 1] w fun e w' =>
      e = .returned (.int .i64 (1 + (ss.length : Int))) ∧ OwnS w' base g cap ss.length (marks 1 ss.length) ∧ w.grownBy w' (some g) := by
  refine (markS_any ss 1 base g cap w hl (by omega) (by omega) hown).mono ?_
  rintro e w' ⟨rfl, h⟩
  exact ⟨by rw [Int.natCast_add]; rfl, h⟩

theorem held1 (n base g cap : Nat) (w : World) (hl : n ≤ 100000000000) (hown : OwnS w base g cap n (marks 1 n)) :
    Calls Tryd.prog 14 #[.slice (some ⟨g, 0, none⟩) n cap, .int .i64 1] w fun e w' =>
      e = .returned (.int .i64 (1 + (n : Int))) ∧ Below w.heap.size w w' := by
  refine (heldS_any n 1 base g cap w hl (by omega) (by omega) hown).mono ?_
  rintro e w' ⟨rfl, h⟩
  exact ⟨by rw [Int.natCast_add]; rfl, h⟩

theorem OwnS.drewN {w : World} {base g cap n : Nat} {ss : List (List UInt8)} (h : OwnS w base g cap n ss) (q : Nat) : OwnS (w.drewN q) base g cap n ss := h

end Go.Proofs.YtocccahgccoimanDoor
