/- Forests counted floor by floor: in pure terms; rows of numbers that a call owns. -/
import Derived.Test.YtpcfcheicdnogaaWData
import Derived.Test.YtpcfcheicdnogaaXKit2
import Derived.Deep.RegionHeld3
import Derived.BigQuiet
namespace Go.Proofs.Ytpcfcheicdnogaa
open Go.RowKit

def place14 (n : Nat) (z : Int) : Bool := decide (0 ≤ z ∧ z < (n : Int))
def kids14 (n : Nat) (ks : List Int) : Bool := ks.all (place14 n)
def ways14 (n : Nat) (ys : List WayD) : Bool := ys.all fun y => kids14 n y.kids
def parts14 (n : Nat) (xs : List PartD) : Bool := xs.all fun x => ways14 n x.ways
def rows14 (cs : List Int) (n : Int) : List Int → Int
  | [] => n
  | z :: zs => rows14 cs (min (n * cs.getD z.toNat 0) 1000000) zs
def sum14 (cs : List Int) (s : Int) : List WayD → Int
  | [] => s
  | y :: ys => sum14 cs (min (s + rows14 cs 1 y.kids) 1000000) ys
def higher14 (cs : List Int) (xs : List PartD) : List Int := xs.map fun x => sum14 cs 0 x.ways
def floors14 (xs : List PartD) : Nat → List Int → List Int
  | 0, cs => cs
  | k + 1, cs => floors14 xs k (higher14 cs xs)
def right14 (xs : List PartD) : Bool := decide (0 < xs.length) && parts14 xs.length xs
def count14 (xs : List PartD) (h : Int) : Int := if right14 xs = true then (floors14 xs (min h 8).toNat (List.replicate xs.length 0)).getD 0 0 else 0

theorem all_next {α : Type} (f : α → Bool) (xs : List α) (k : Nat) (h : k < xs.length) : (xs.take (k + 1)).all f = ((xs.take k).all f && f xs[k]) := by
  rw [List.take_succ_eq_append_getElem h, List.all_append, List.all_cons, List.all_nil, Bool.and_true]
theorem all_stop {α : Type} (f : α → Bool) {xs : List α} {k : Nat} (h : k < xs.length) (hf : f xs[k] = false) : xs.all f = false := by
  cases e : xs.all f with
  | false => rfl
  | true =>
    have := List.all_eq_true.1 e _ (List.getElem_mem h)
    rw [hf] at this
    cases this
theorem rows14_drop (cs : List Int) (n : Int) (ks : List Int) (j : Nat) (h : j < ks.length) : rows14 cs n (ks.drop j) = rows14 cs (min (n * cs.getD ks[j].toNat 0) 1000000) (ks.drop (j + 1)) := by
  rw [List.drop_eq_getElem_cons h]
  rfl
theorem sum14_drop (cs : List Int) (s : Int) (ys : List WayD) (j : Nat) (h : j < ys.length) : sum14 cs s (ys.drop j) = sum14 cs (min (s + rows14 cs 1 ys[j].kids) 1000000) (ys.drop (j + 1)) := by
  rw [List.drop_eq_getElem_cons h]
  rfl
def In14 (x : Int) : Prop := 0 ≤ x ∧ x ≤ 1000000
theorem in14_getD {cs : List Int} (h : ∀ x ∈ cs, In14 x) (k : Nat) : In14 (cs.getD k 0) := by
  rw [List.getD_eq_getElem?_getD]
  cases e : cs[k]? with
  | none => exact ⟨Int.le_refl _, by decide⟩
  | some x => exact h x (List.mem_of_getElem? e)
theorem in14_mul {x y : Int} (hx : In14 x) (hy : In14 y) : 0 ≤ x * y ∧ x * y ≤ 1000000000000 := by
  refine ⟨Int.mul_nonneg hx.1 hy.1, ?_⟩
  have h1 : x * y ≤ 1000000 * y := Int.mul_le_mul_of_nonneg_right hx.2 hy.1
  have h2 := hy.2
  omega
theorem in14_min {x : Int} (h : 0 ≤ x) : In14 (min x 1000000) := ⟨by omega, by omega⟩
theorem in14_rows {cs : List Int} (h : ∀ x ∈ cs, In14 x) : ∀ (ks : List Int) (n : Int), In14 n → In14 (rows14 cs n ks)
  | [], _, hn => hn
  | z :: zs, _, hn => in14_rows h zs _ (in14_min (in14_mul hn (in14_getD h z.toNat)).1)
theorem in14_sum {cs : List Int} (h : ∀ x ∈ cs, In14 x) : ∀ (ys : List WayD) (s : Int), In14 s → In14 (sum14 cs s ys)
  | [], _, hn => hn
  | y :: ys, s, hn => in14_sum h ys _ (in14_min (by have h1 := hn.1; have h2 := (in14_rows h y.kids 1 ⟨by decide, by decide⟩).1; omega))
theorem in14_higher {cs : List Int} (h : ∀ x ∈ cs, In14 x) (xs : List PartD) : ∀ x ∈ higher14 cs xs, In14 x := fun x hx => by
  obtain ⟨p, _, rfl⟩ := List.mem_map.1 hx
  exact in14_sum h p.ways 0 ⟨by decide, by decide⟩
theorem higher14_len (cs : List Int) (xs : List PartD) : (higher14 cs xs).length = xs.length := List.length_map _
theorem higher14_next (cs : List Int) (xs : List PartD) (k : Nat) (h : k < xs.length) : higher14 cs (xs.take (k + 1)) = higher14 cs (xs.take k) ++ [sum14 cs 0 xs[k].ways] := by
  rw [higher14, List.take_succ_eq_append_getElem h, List.map_append]
  rfl
theorem in14_zeros (n : Nat) : ∀ x ∈ List.replicate n (0 : Int), In14 x := fun x hx => by
  rw [(List.mem_replicate.1 hx).2]
  exact ⟨by decide, by decide⟩
theorem zeros_cells (n : Nat) : (madeCells (Value.int .i64 0).cells (n * 1)).toList = zv (List.replicate n 0) := by
  rw [Nat.mul_one, zv, List.map_replicate, show (Value.int .i64 0).cells = #[.int .i64 0] from rfl, toList_madeCells_one]
theorem zv_set14 (ts : List Int) (k : Nat) (x : Int) : (zv ts).set k (.int .i64 x) = zv (ts.set k x) := by rw [zv, zv, List.map_set]
theorem own14_of {B n : Nat} {v : Value} {ts : List Int} {w : World} (h : w.ownsRow B 3 1 v n (zv ts)) (hn : ts.length = n) : OwnZ B v ts w := by
  subst hn
  exact h
theorem own14_to {B n : Nat} {v : Value} {ts : List Int} {w : World} (h : OwnZ B v ts w) (hn : ts.length = n) : w.ownsRow B 3 1 v n (zv ts) := by
  subst hn
  exact h
theorem own14_cell {B g n cap : Nat} {ts : List Int} {w : World} (h : OwnZ B (.slice (some ⟨g, 0, none⟩) n cap) ts w) (hn : ts.length = n) (k : Nat) (hk : k < n) : w.cell? ⟨g, k, none⟩ = some (.int .i64 (ts.getD k 0)) ∧ w.frozen? ⟨g, k, none⟩ = false := by
  subst hn
  have h1 := World.ownsRow.cellAt h k (by omega)
  refine ⟨?_, ?_⟩
  · rw [h1]
    simp [zv, hk]
  · obtain ⟨_, _, hf⟩ := own_cell h k (by omega)
    exact hf
theorem own14_set {B g n cap : Nat} {ts : List Int} {w : World} (h : OwnZ B (.slice (some ⟨g, 0, none⟩) n cap) ts w) (hn : ts.length = n) (k : Nat) (x : Int) : OwnZ B (.slice (some ⟨g, 0, none⟩) n cap) (ts.set k x) (w.setCell ⟨g, k, none⟩ (.int .i64 x)) := by
  have h1 := (World.ownsRow.stored (own14_to h hn) k (.int .i64 x)).1
  rw [zv_set14] at h1
  exact own14_of h1 (by rw [List.length_set]; exact hn)
theorem ways_len {xs : List PartD} (h : forestTot xs ≤ 1048576) (i : Nat) (hi : i < xs.length) : xs[i].ways.length ≤ 1048576 ∧ xs[i].args.length ≤ 1048576 ∧ ∀ j (hj : j < xs[i].ways.length), xs[i].ways[j].kids.length ≤ 1048576 := by
  have h1 := rowTot_mem partTot (List.getElem_mem hi)
  have h2 : partTot xs[i] = xs[i].args.length + rowTot wayTot xs[i].ways := rfl
  have h3 : forestTot xs = rowTot partTot xs := rfl
  have h4 := rowTot_len wayTot xs[i].ways
  refine ⟨by omega, by omega, fun j hj => ?_⟩
  have h5 := rowTot_mem wayTot (List.getElem_mem hj)
  have h6 : wayTot xs[i].ways[j] = xs[i].ways[j].kids.length := rfl
  omega

theorem high14 (h : Int) (w : World) : Calls Try.prog 17 #[.int .i64 h] w fun e w' => e = .returned (.int .i64 (min h 8)) ∧ w' = w := by
  by_cases h8 : 8 < h
  · rw [show min h 8 = 8 by omega]
    go_enter Try.func17, Try.ntmps17
    go_wp2
    go_ret
    exact ⟨rfl, rfl⟩
  · rw [show min h 8 = h by omega]
    go_enter Try.func17, Try.ntmps17
    go_wp2
    go_ret
    exact ⟨rfl, rfl⟩
theorem add14 (x y : Int) (w : World) (hx : In14 x) (hy : In14 y) : Calls Try.prog 19 #[.int .i64 x, .int .i64 y] w fun e w' => e = .returned (.int .i64 (min (x + y) 1000000)) ∧ w' = w := by
  have h1 := hx.1
  have h2 := hx.2
  have h3 := hy.1
  have h4 := hy.2
  clear hx hy
  have w1 : IntKind.i64.wrap (x + y) = x + y := by rw [IntKind.wrap_i64]; omega
  by_cases h8 : 1000000 < x + y
  · rw [show min (x + y) 1000000 = 1000000 by omega]
    go_enter Try.func19, Try.ntmps19
    go_wp2
    go_ret
    exact ⟨rfl, rfl⟩
  · rw [show min (x + y) 1000000 = x + y by omega]
    go_enter Try.func19, Try.ntmps19
    go_wp2
    go_ret
    exact ⟨rfl, rfl⟩
theorem quo14 {x y : Int} (hy : 0 < y) : Int.tdiv 1000000 y < x ↔ 1000000 < x * y := by
  rw [Int.tdiv_eq_ediv_of_nonneg (by decide)]
  exact Int.ediv_lt_iff_lt_mul hy
theorem mul14 (x y : Int) (w : World) (hx : In14 x) (hy : In14 y) : Calls Try.prog 18 #[.int .i64 x, .int .i64 y] w fun e w' => e = .returned (.int .i64 (min (x * y) 1000000)) ∧ w' = w := by
  have hm := in14_mul hx hy
  have h1 := hx.1
  have h2 := hx.2
  have h3 := hy.1
  have h4 := hy.2
  clear hx hy
  by_cases e0 : x = 0
  · subst e0
    rw [show min (0 * y) 1000000 = 0 by rw [Int.zero_mul]; decide]
    go_enter Try.func18, Try.ntmps18
    go_wp2
    go_ret
    exact ⟨rfl, rfl⟩
  · have b0 : (x == 0) = false := beq_eq_false_iff_ne.2 e0
    by_cases e1 : y = 0
    · subst e1
      rw [show min (x * 0) 1000000 = 0 by rw [Int.mul_zero]; decide]
      go_enter Try.func18, Try.ntmps18
      go_wp2
      go_ret
      exact ⟨rfl, rfl⟩
    · have b1 : (y == 0) = false := beq_eq_false_iff_ne.2 e1
      have w1 : IntKind.i64.wrap (x * y) = x * y := by rw [IntKind.wrap_i64]; omega
      have hq := quo14 (x := x) (y := y) (by omega)
      have hq0 : 0 ≤ Int.tdiv 1000000 y := Int.tdiv_nonneg (by decide) h3
      have hq1 : Int.tdiv 1000000 y ≤ 1000000 := Int.tdiv_le_self (a := 1000000) y (by decide)
      have w2 : IntKind.i64.wrap (Int.tdiv 1000000 y) = Int.tdiv 1000000 y := by rw [IntKind.wrap_i64]; omega
      by_cases h8 : 1000000 < x * y
      · have h9 := hq.2 h8
        rw [show min (x * y) 1000000 = 1000000 by omega]
        clear hq
        go_enter Try.func18, Try.ntmps18
        go_wp2
        go_ret
        exact ⟨rfl, rfl⟩
      · have h9 : ¬ Int.tdiv 1000000 y < x := fun h => h8 (hq.1 h)
        rw [show min (x * y) 1000000 = x * y by omega]
        clear hq
        go_enter Try.func18, Try.ntmps18
        go_wp2
        go_ret
        exact ⟨rfl, rfl⟩
theorem isPlaceP (p : Int) (a : Option Addr) (n c : Nat) (w : World) :
    Calls Try.prog 32 #[.int .i64 p, .slice a n c] w fun e w' => e = .returned (.bool (place14 n p)) ∧ w' = w := by
  unfold place14
  by_cases h0 : 0 ≤ p
  · by_cases h1 : p < (n : Int)
    · rw [decide_eq_true ⟨h0, h1⟩]
      go_enter Try.func32, Try.ntmps32
      go_wp2
      go_ret
      exact ⟨rfl, rfl⟩
    · rw [decide_eq_false (by omega)]
      go_enter Try.func32, Try.ntmps32
      go_wp2
      go_ret
      exact ⟨rfl, rfl⟩
  · rw [decide_eq_false (by omega)]
    go_enter Try.func32, Try.ntmps32
    go_wp2
    go_ret
    exact ⟨rfl, rfl⟩
theorem in14_any (n : Nat) (z : Int) (w : World) : Calls Try.prog 30 #[.int .i64 z, .int .i64 0, .int .i64 ((n : Int) - 1)] w fun e w' => e = .returned (.bool (place14 n z)) ∧ w' = w := by
  have h := in_any z 0 ((n : Int) - 1) w
  rwa [show decide (0 ≤ z ∧ z ≤ (n : Int) - 1) = place14 n z from by unfold place14; congr 1; exact propext ⟨fun h => ⟨h.1, by omega⟩, fun h => ⟨h.1, by omega⟩⟩] at h

end Go.Proofs.Ytpcfcheicdnogaa
