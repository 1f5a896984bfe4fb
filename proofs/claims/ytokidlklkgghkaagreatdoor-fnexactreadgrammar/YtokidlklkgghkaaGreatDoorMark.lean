/- Lists of structs as they lie in memory, whatever their elements are: read, kept, opened as arguments, and built cell by cell. No program is named. -/
/- The laws' own helpers on lists of names with numbers: how great they are, copied, compared. -/
/- Decimal figures: the plain mathematics, with no program in it. -/
/- The texts that the laws write into an answer's strings: what markText answers at every number above 0. -/
import Derived.Test.YtokidlklkgghkaaGreatDoorEnvGet
import Derived.Test.YtokidlklkgghkaaGreatDoorE16Q
import Derived.Test.YtokidlklkgghkaaGreatDoorRows
import Derived.Laws.OwnMore
import Derived.OwnWalk
import Derived.Handy
import Derived.Lib.ItoaNum
import Derived.Lib.ItoaMem
namespace Go.Proofs.YtokidlklkgghkaaGreatDoor
open Go.RowKit
variable {α : Type}

/-- A list: each element lies in sz cells, as E tells of them. -/
def RowC (sz : Nat) (E : World → List Value → α → Prop) (w : World) (v : Value) (xs : List α) : Prop :=
  ∃ a cap, v = .slice a xs.length cap ∧ (a = none → cap = 0) ∧ (0 < xs.length → ∃ b off, a = some ⟨b, off, none⟩ ∧ b < w.heap.size ∧
    ∀ i (h : i < xs.length), ∃ vs : List Value, vs.length = sz ∧ (∀ j (hj : j < vs.length), w.cell? ⟨b, off + i * sz + j, none⟩ = some vs[j]) ∧ E w vs xs[i])
theorem RowC.slice {sz : Nat} {E : World → List Value → α → Prop} {w : World} {v : Value} {xs : List α} (h : RowC sz E w v xs) : ∃ a cap, v = .slice a xs.length cap := by
  obtain ⟨a, cap, rfl, _⟩ := h
  exact ⟨a, cap, rfl⟩
theorem RowC.at {sz : Nat} {E : World → List Value → α → Prop} {w : World} {a : Option Addr} {n cap k : Nat} {xs : List α} (h : RowC sz E w (.slice a n cap) xs) (hk : k < xs.length) :
    ∃ b off vs, a = some ⟨b, off, none⟩ ∧ vs.length = sz ∧ (∀ j (hj : j < vs.length), w.cell? ⟨b, off + k * sz + j, none⟩ = some vs[j]) ∧ E w vs xs[k] := by
  obtain ⟨a', cap', e, _, hh⟩ := h
  cases e
  obtain ⟨b, off, rfl, _, hc⟩ := hh (by omega)
  obtain ⟨vs, h1, h2, h3⟩ := hc k hk
  exact ⟨b, off, vs, rfl, h1, h2, h3⟩

/-- What is told of a world stays told behind what makes new memory alone. -/
def StableE (E : World → List Value → α → Prop) : Prop := ∀ (w w' : World) (vs : List Value) (x : α), E w vs x → Below w.heap.size w w' → E w' vs x
theorem RowC.below {sz : Nat} {E : World → List Value → α → Prop} (hE : StableE E) {w w' : World} {v : Value} {xs : List α} (h : RowC sz E w v xs) (hb : Below w.heap.size w w') : RowC sz E w' v xs := by
  obtain ⟨a, cap, rfl, hcap, hh⟩ := h
  refine ⟨a, cap, rfl, hcap, fun h0 => ?_⟩
  obtain ⟨b, off, rfl, hlt, hc⟩ := hh h0
  refine ⟨b, off, rfl, Nat.lt_of_lt_of_le hlt hb.size, fun i hi => ?_⟩
  obtain ⟨vs, h1, h2, h3⟩ := hc i hi
  exact ⟨vs, h1, fun j hj => (World.cell?_of_block (hb.block b hlt)).trans (h2 j hj), hE _ _ _ _ h3 hb⟩

/-- What is told of a world is told of every world that has its blocks from B on. -/
def Fresh (B : Nat) (w : World) (P : World → Prop) : Prop := ∀ W : World, w.heap.size ≤ W.heap.size → (∀ k, B ≤ k → k < w.heap.size → W.heap[k]? = w.heap[k]?) → P W
theorem Fresh.step {B : Nat} {w w' : World} {P : World → Prop} (h : Fresh B w P) (h1 : w.heap.size ≤ w'.heap.size) (h2 : ∀ k, B ≤ k → k < w.heap.size → w'.heap[k]? = w.heap[k]?) : Fresh B w' P :=
  fun W h3 h4 => h W (Nat.le_trans h1 h3) (fun k hk hlt => (h4 k hk (Nat.lt_of_lt_of_le hlt h1)).trans (h2 k hk hlt))
theorem Fresh.setLow {B : Nat} {w : World} {P : World → Prop} (h : Fresh B w P) {b : Nat} (hb : b < B) (j : Nat) (u : Value) : Fresh B (w.setCell ⟨b, j, none⟩ u) P :=
  h.step (by simp) (fun k hk _ => by
    simp only [World.setCell]
    rw [Array.getElem?_modify, if_neg (by omega)])
theorem Fresh.imp {B : Nat} {w : World} {P Q : World → Prop} (h : Fresh B w P) (hi : ∀ W, P W → Q W) : Fresh B w Q := fun W h1 h2 => hi W (h W h1 h2)

/-- Cells written one behind the other: into a list, and into a block. -/
def setsL (cs : List Value) (j : Nat) : List Value → List Value
  | [] => cs
  | v :: vs => setsL (cs.set j v) (j + 1) vs
def setsW (w : World) (g j : Nat) : List Value → World
  | [] => w
  | v :: vs => setsW (w.setCell ⟨g, j, none⟩ v) g (j + 1) vs
theorem setsL_take (cs : List Value) (j : Nat) (vs : List Value) (h : j + vs.length ≤ cs.length) : (setsL cs j vs).take (j + vs.length) = cs.take j ++ vs := by
  induction vs generalizing cs j with
  | nil => simp [setsL]
  | cons v vs ih =>
    have h1 : j + 1 + vs.length ≤ (cs.set j v).length := by simp only [List.length_set, List.length_cons] at *; omega
    have h2 := ih (cs.set j v) (j + 1) h1
    have hj : j < cs.length := by simp only [List.length_cons] at h; omega
    rw [setsL, List.length_cons, show j + (vs.length + 1) = j + 1 + vs.length by omega, h2, List.take_succ_eq_append_getElem (by rw [List.length_set]; exact hj), List.take_set_of_le (Nat.le_refl _)]
    simp
theorem setsW_own {B : Nat} {e : TypeId} {sz g n cap : Nat} {cs : List Value} {w : World} (h : w.ownsRow B e sz (.slice (some ⟨g, 0, none⟩) n cap) n cs) (j : Nat) (vs : List Value) : (setsW w g j vs).ownsRow B e sz (.slice (some ⟨g, 0, none⟩) n cap) n (setsL cs j vs) := by
  induction vs generalizing w cs j with
  | nil => exact h
  | cons v vs ih => exact ih (World.ownsRow.stored h j v).1 (j + 1)
theorem setsW_fresh {B g : Nat} {w : World} {P : World → Prop} (h : Fresh B w P) (hg : g < B) (j : Nat) (vs : List Value) : Fresh B (setsW w g j vs) P := by
  induction vs generalizing w j with
  | nil => exact h
  | cons v vs ih => exact ih (h.setLow hg j v) (j + 1)

/-- A list that is being built in the block g: its first elements are laid, what they reach lies behind g. -/
def RowTo (sz : Nat) (E : World → List Value → α → Prop) (e : TypeId) (B g : Nat) (xs : List α) (k : Nat) (w : World) : Prop :=
  ∃ (cs : List Value) (vss : List (List Value)), w.ownsRow B e sz (.slice (some ⟨g, 0, none⟩) xs.length xs.length) xs.length cs ∧ k ≤ xs.length ∧ vss.length = k ∧ (∀ vs ∈ vss, vs.length = sz) ∧ cs.take (k * sz) = vss.flatten ∧
    ∀ i (h : i < vss.length) (h' : i < xs.length), Fresh (g + 1) w fun W => E W vss[i] xs[i]
theorem RowTo.own {sz : Nat} {E : World → List Value → α → Prop} {e : TypeId} {B g : Nat} {xs : List α} {k : Nat} {w : World} (h : RowTo sz E e B g xs k w) : ∃ cs, w.ownsRow B e sz (.slice (some ⟨g, 0, none⟩) xs.length xs.length) xs.length cs := by
  obtain ⟨cs, _, h1, _⟩ := h
  exact ⟨cs, h1⟩
theorem RowTo.next {sz : Nat} {E : World → List Value → α → Prop} {e : TypeId} {B g : Nat} {xs : List α} {k : Nat} {w : World} (h : RowTo sz E e B g xs k w) (hk : k < xs.length) {vs : List Value} (hl : vs.length = sz) (hE : Fresh (g + 1) w fun W => E W vs xs[k]) :
    RowTo sz E e B g xs (k + 1) (setsW w g (k * sz) vs) := by
  obtain ⟨cs, vss, h1, h2, h3, h4, h5, h6⟩ := h
  have hcs : cs.length = xs.length * sz := h1.1
  have hle : k * sz + vs.length ≤ cs.length := by
    rw [hcs, hl, ← Nat.succ_mul]
    exact Nat.mul_le_mul_right sz hk
  refine ⟨setsL cs (k * sz) vs, vss ++ [vs], setsW_own h1 _ _, hk, by simp [h3], fun v hv => ?_, ?_, fun i hi hi' => ?_⟩
  · rcases List.mem_append.1 hv with hv | hv
    · exact h4 v hv
    · rw [List.mem_singleton.1 hv]; exact hl
  · have := setsL_take cs (k * sz) vs hle
    rw [show (k + 1) * sz = k * sz + vs.length by rw [hl, Nat.succ_mul], this, h5]
    simp
  · by_cases hlt : i < vss.length
    · rw [List.getElem_append_left hlt]
      exact setsW_fresh (h6 i hlt hi') (Nat.lt_succ_self g) _ _
    · obtain rfl : i = k := by simp at hi; omega
      have e : (vss ++ [vs])[i] = vs := by
        rw [List.getElem_append_right (by omega)]
        simp
      rw [e]
      exact setsW_fresh hE (Nat.lt_succ_self g) _ _
theorem flat_at (sz : Nat) : ∀ (vss : List (List Value)), (∀ vs ∈ vss, vs.length = sz) → ∀ (i j : Nat) (h : i < vss.length) (hj : j < vss[i].length), vss.flatten[i * sz + j]? = some vss[i][j]
  | v :: vss, hl, 0, j, h, hj => by
    have hj' : j < v.length := hj
    rw [List.flatten_cons, Nat.zero_mul, Nat.zero_add, List.getElem?_append_left hj', List.getElem?_eq_getElem hj']
    rfl
  | v :: vss, hl, i + 1, j, h, hj => by
    have hv := hl v (List.mem_cons_self ..)
    rw [List.flatten_cons, List.getElem?_append_right (by rw [hv, Nat.succ_mul]; omega), hv, show (i + 1) * sz + j - sz = i * sz + j by rw [Nat.succ_mul]; omega]
    exact flat_at sz vss (fun x hx => hl x (List.mem_cons_of_mem _ hx)) i j (by simpa using h) hj
/-- The list, when all are laid. -/
theorem RowTo.done {sz : Nat} {E : World → List Value → α → Prop} {e : TypeId} {B g : Nat} {xs : List α} {w : World} (h : RowTo sz E e B g xs xs.length w) : Fresh g w fun W => RowC sz E W (.slice (some ⟨g, 0, none⟩) xs.length xs.length) xs := by
  obtain ⟨cs, vss, h1, h2, h3, h4, h5, h6⟩ := h
  intro W hW hbl
  refine ⟨some ⟨g, 0, none⟩, xs.length, rfl, fun h => (by cases h), fun h0 => ?_⟩
  have hg := World.ownsRow.lt h1 g rfl
  refine ⟨g, 0, rfl, Nat.lt_of_lt_of_le hg.2 hW, fun i hi => ⟨vss[i]'(by omega), h4 _ (List.getElem_mem _), fun j hj => ?_, h6 i (by omega) hi W hW (fun k hk => hbl k (by omega))⟩⟩
  rw [World.cell?_of_block (hbl g (Nat.le_refl _) hg.2)]
  have hf := flat_at sz vss h4 i j (by omega) hj
  rw [← h5, List.getElem?_take] at hf
  split at hf
  · have := World.ownsRow.cells h1 (g := g) rfl (i * sz + j) _ hf
    rwa [Addr.add_lit, ← Nat.add_assoc] at this
  · cases hf

end Go.Proofs.YtokidlklkgghkaaGreatDoor

namespace Go.Proofs.YtokidlklkgghkaaGreatDoor
open Go.RowKit

theorem beq_yes {a b : ByteArray} (h : a = b) : (a.toList == b.toList) = true := by rw [bytes_beq]; simpa using h
theorem beq_no {a b : ByteArray} (h : ¬ a = b) : (a.toList == b.toList) = false := by rw [bytes_beq]; simpa using h

/-- What is owned is owned behind whatever makes new memory alone. -/
theorem own_below {B : Nat} {e : TypeId} {size : Nat} {v : Value} {n : Nat} {xs : List Value} {w w' : World} (h : w.ownsRow B e size v n xs) (hb : Below w.heap.size w w') : w'.ownsRow B e size v n xs := by
  refine ⟨h.1, ?_⟩
  rcases h.2 with h | ⟨g, cap, cur, rfl, hg, hc, r⟩
  · exact .inl h
  · refine .inr ⟨g, cap, cur, rfl, hg, ?_, r⟩
    rw [hb.block g (Array.getElem?_eq_some_iff.1 hc).1]
    exact hc

theorem cell_keep {W W' : World} {a : Addr} {x : Value} (h : W.cell? a = some x) (hb : Below W.heap.size W W') : W'.cell? a = some x :=
  (World.cell?_of_block (hb.block _ (World.block_lt_of_cell? W a h))).trans h

end Go.Proofs.YtokidlklkgghkaaGreatDoor

namespace Go.Proofs.YtokidlklkgghkaaGreatDoor
open Go.RowKit

/-- The figures of a number, none for 0. -/
def digs (u : Nat) : List UInt8 := if u = 0 then [] else Lib.decDigits u

theorem digs_step (u : Nat) (h : u ≠ 0) : digs u = digs (u / 10) ++ [UInt8.ofNat (48 + u % 10)] := by
  unfold digs
  rw [if_neg h, Lib.decDigits]
  by_cases h1 : u < 10
  · rw [dif_pos h1, if_pos (by omega), show u % 10 = u by omega]; rfl
  · rw [dif_neg h1, if_neg (by omega)]

theorem digs_len : ∀ (u : Nat), (digs u).length ≤ u / 10 + 1 := by
  intro u
  induction u using Nat.strongRecOn with
  | ind u ih =>
    by_cases h : u = 0
    · simp [digs, h]
    · rw [digs_step u h, List.length_append, List.length_singleton]
      by_cases h1 : u < 10
      · rw [show u / 10 = 0 by omega]; simp [digs]
      · have := ih (u / 10) (by omega)
        omega

theorem str_add (a b : List UInt8) : str a ++ str b = str (a ++ b) := by
  apply ByteArray.ext
  simp [str]

theorem run_add_str {P : Program} (W : World) (a b : List UInt8) (h : a.length + b.length ≤ 9223372036854775807) :
    (Op.stringOp .add (str a) (str b)).run P W = .ok (.string (str (a ++ b))) W := by
  rw [run_string_add_sum _ _ _ (by rw [str_size, str_size]; exact h)]
  congr 2

/-- A number as a byte. -/
def byteI (z : Int) : UInt8 := UInt8.ofNat z.toNat

/-- One byte laid in a new block, made a string. -/
theorem run_one_string {P : Program} (w : World) (src dst e : TypeId) (z : Int) (h0 : 0 ≤ z) (h1 : z < 256) (hs : P.underlying src = some (.slice e)) (he : P.underlying e = some (.int .u8)) (hd : P.underlying dst = some .string) :
    (convert src dst (.slice (some ⟨w.heap.size, 0, none⟩) 1 1)).run P (w.alloc (.cells #[.int .u8 z] e)) = .ok (.string (str [byteI z])) (w.alloc (.cells #[.int .u8 z] e)) := by
  have := run_convert_bytes_back (P := P) (w.alloc (.cells #[.int .u8 z] e)) src dst e ⟨w.heap.size, 0, none⟩ 1 [byteI z] hs he hd (fun j hj => by
    have hj0 : j = 0 := by simpa using hj
    subst hj0
    have e1 := one_at w (.int .u8 z) e 0 (.int .u8 z) rfl
    rw [e1, List.getElem_cons_zero, byteI, toNat_ofNat _ (by omega)]
    simp [Int.toNat_of_nonneg h0])
  exact this

end Go.Proofs.YtokidlklkgghkaaGreatDoor

namespace Go.Proofs.YtokidlklkgghkaaGreatDoor
open Go.RowKit

def markB (k : Nat) : List UInt8 := 109 :: digs k

/-- What holds at each round's head: the figures of m are left. -/
def MarkRel (n0 : Nat) (base : Nat) (w : World) (nv sv : Value) (wr : World) : Prop :=
  ∃ (m : Nat) (t : List UInt8), nv = .int .i64 m ∧ sv = .string (str t) ∧ digs m ++ t = digs n0 ∧ m ≤ n0 ∧ Below base w wr ∧ base ≤ wr.heap.size

theorem markRel_step {n0 m : Nat} {base : Nat} {w wr : World} {t : List UInt8} (hm : 0 < m) (hmn : m ≤ n0)
    (hd : digs m ++ t = digs n0) (hbel : Below base w wr) (hsz : base ≤ wr.heap.size) (o : Obj) :
    MarkRel n0 base w (.int .i64 ((m : Int) / 10)) (.string (str ([byteI (48 + (m : Int) % 10)] ++ t))) (wr.alloc o) := by
  refine ⟨m / 10, _, by simp, rfl, ?_, by omega, hbel.alloc hsz o, by simp; omega⟩
  rw [← hd, digs_step m (by omega)]
  have : (48 + (m : Int) % 10).toNat = 48 + m % 10 := by omega
  rw [byteI, this]
  simp

theorem mark_room {n0 m : Nat} {t : List UInt8} (hd : digs m ++ t = digs n0) (b2 : n0 ≤ 1000000000000) : t.length ≤ 100000000001 := by
  have h1 := digs_len n0
  have h2 := congrArg List.length hd
  rw [List.length_append] at h2
  omega

set_option maxHeartbeats 800000 in
theorem mark_any (n : Nat) (w : World) (h0 : 0 < n) (h1 : n ≤ 1000000000000) :
    Calls Tryz.prog 48 #[.int .i64 n] w fun e w' => e = .returned (.string (str (markB n))) ∧ Below w.heap.size w w' := by
  have hn0 : ¬ n = 0 := by omega
  go_enter Tryz.func48, Tryz.ntmps48
  go_wp2
  go_loopw [0, 3] (fun nv sv wr => MarkRel n w.heap.size w nv sv wr) (fun nv _ _ => (intOf nv).toNat)
  case atStart => exact ⟨n, [], rfl, rfl, by simp, Nat.le_refl _, Below.refl _ _, Nat.le_refl _⟩
  case round =>
    obtain ⟨m, t, rfl, rfl, hd, hmn, hbel, hsz⟩ := hrel
    have hroom := mark_room hd h1
    have HD : Hid (digs m ++ t = digs n) := hd
    clear hd
    have hz : (str t).size ≤ 100000000001 := by rw [str_size]; omega
    by_cases hm : 0 < m
    · have hcv := fun W => run_one_string (P := Tryz.prog) W 72 9 5 (48 + (m : Int) % 10) (by omega) (by omega) Tryz.underlying72 Tryz.underlying5 Tryz.underlying9
      have hadd := fun W => run_add_str (P := Tryz.prog) W [byteI (48 + (m : Int) % 10)] t (by simp; omega)
      have R := markRel_step hm hmn HD.out hbel hsz (.cells #[.int .u8 (48 + (m : Int) % 10)] 5)
      go_wp2
      go_roundw
      case rel => exact R
      case measure => simp [intOf]; omega
    · obtain rfl : m = 0 := by omega
      have HE : Hid (markB n = [109] ++ t) := by
        have := HD.out
        simp only [digs, if_true, List.nil_append] at this
        simp only [Hid, markB, digs, this]
        rfl
      go_wp2
      go_ret
      rw [HE.out, ← str_add]
      exact ⟨rfl, hbel⟩

end Go.Proofs.YtokidlklkgghkaaGreatDoor
