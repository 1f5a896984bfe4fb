/- Expressions, as they lie in memory: nodes with their kids. -/
/- Lists of structs as they lie in memory, whatever their elements are: read, kept, opened as arguments, and built cell by cell. No program is named. -/
/- EnvGet of the specification. -/
/- VarName and EnvOk of the specification. -/
/- The laws' own helpers on lists of names with numbers: how great they are, copied, compared. -/
/- Lists of structs that a call owns, whose elements reach other rows: built by append, read, and written cell by cell. No program is named. -/
import Derived.Test.YtipkbkhnaekceaaVRow
import Derived.Deep.Slices
import Derived.OpenShut
import Derived.Laws.OwnMore
import Derived.OwnWalk
import Derived.Handy
import Derived.Deep.QuietTactic
import Derived.BigQuiet
import Derived.Laws.Cover1
namespace Go.Proofs.Ytipkbkhnaekceaa
open Go.RowKit

/-- A list of numbers. -/
def IRow (w : World) (v : Value) (ks : List Int) : Prop :=
  ∃ a cap, v = .slice a ks.length cap ∧ (a = none → cap = 0) ∧ (0 < ks.length → ∃ b off, a = some ⟨b, off, none⟩ ∧ b < w.heap.size ∧
    ∀ i (h : i < ks.length), w.cell? ⟨b, off + i, none⟩ = some (.int .i64 ks[i]))
theorem IRow.slice {w : World} {v : Value} {ks : List Int} (h : IRow w v ks) : ∃ a cap, v = .slice a ks.length cap := by
  obtain ⟨a, cap, rfl, _⟩ := h
  exact ⟨a, cap, rfl⟩
theorem IRow.below {w w' : World} {v : Value} {ks : List Int} (h : IRow w v ks) (hb : Below w.heap.size w w') : IRow w' v ks := by
  obtain ⟨a, cap, rfl, hcap, hh⟩ := h
  refine ⟨a, cap, rfl, hcap, fun h0 => ?_⟩
  obtain ⟨b, off, rfl, hlt, hc⟩ := hh h0
  exact ⟨b, off, rfl, Nat.lt_of_lt_of_le hlt hb.size, fun i hi => (World.cell?_of_block (hb.block b hlt)).trans (hc i hi)⟩
theorem IRow.at {w : World} {a : Option Addr} {n cap k : Nat} {ks : List Int} (h : IRow w (.slice a n cap) ks) (hk : k < ks.length) :
    ∃ b off, a = some ⟨b, off, none⟩ ∧ w.cell? ⟨b, off + k, none⟩ = some (.int .i64 ks[k]) := by
  obtain ⟨a', cap', e, _, hh⟩ := h
  cases e
  obtain ⟨b, off, rfl, _, hc⟩ := hh (by omega)
  exact ⟨b, off, rfl, hc k hk⟩

/-- A node: its Op, its Num, its Name, its Kids. -/
structure NodeD where
  op : Int
  num : Int
  name : ByteArray
  kids : List Int
/-- A node's four cells. -/
def NodeAt (w : World) (b o : Nat) (x : NodeD) (kv : Value) : Prop :=
  w.cell? ⟨b, o, none⟩ = some (.int .i64 x.op) ∧ w.cell? ⟨b, o + 1, none⟩ = some (.int .i64 x.num) ∧ w.cell? ⟨b, o + 2, none⟩ = some (.string x.name) ∧ w.cell? ⟨b, o + 3, none⟩ = some kv ∧ IRow w kv x.kids
theorem NodeAt.below {w w' : World} {b o : Nat} {x : NodeD} {kv : Value} (h : NodeAt w b o x kv) (hb : Below w.heap.size w w') : NodeAt w' b o x kv := by
  have hlt := World.block_lt_of_cell? w _ h.1
  have e := hb.block b hlt
  exact ⟨(World.cell?_of_block e).trans h.1, (World.cell?_of_block e).trans h.2.1, (World.cell?_of_block e).trans h.2.2.1, (World.cell?_of_block e).trans h.2.2.2.1, h.2.2.2.2.below hb⟩
/-- A list of nodes: four cells each. -/
def NRow (w : World) (v : Value) (ns : List NodeD) : Prop :=
  ∃ a cap, v = .slice a ns.length cap ∧ (a = none → cap = 0) ∧ (0 < ns.length → ∃ b off, a = some ⟨b, off, none⟩ ∧ b < w.heap.size ∧
    ∀ i (h : i < ns.length), ∃ kv, NodeAt w b (off + i * 4) ns[i] kv)
theorem NRow.slice {w : World} {v : Value} {ns : List NodeD} (h : NRow w v ns) : ∃ a cap, v = .slice a ns.length cap := by
  obtain ⟨a, cap, rfl, _⟩ := h
  exact ⟨a, cap, rfl⟩
theorem NRow.below {w w' : World} {v : Value} {ns : List NodeD} (h : NRow w v ns) (hb : Below w.heap.size w w') : NRow w' v ns := by
  obtain ⟨a, cap, rfl, hcap, hh⟩ := h
  refine ⟨a, cap, rfl, hcap, fun h0 => ?_⟩
  obtain ⟨b, off, rfl, hlt, hc⟩ := hh h0
  exact ⟨b, off, rfl, Nat.lt_of_lt_of_le hlt hb.size, fun i hi => (hc i hi).imp fun kv h => h.below hb⟩
theorem NRow.at {w : World} {a : Option Addr} {n cap k : Nat} {ns : List NodeD} (h : NRow w (.slice a n cap) ns) (hk : k < ns.length) :
    ∃ b off kv, a = some ⟨b, off, none⟩ ∧ NodeAt w b (off + k * 4) ns[k] kv := by
  obtain ⟨a', cap', e, _, hh⟩ := h
  cases e
  obtain ⟨b, off, rfl, _, hc⟩ := hh (by omega)
  obtain ⟨kv, h⟩ := hc k hk
  exact ⟨b, off, kv, rfl, h⟩

/-- Within the machine's bounds. -/
def i64 (z : Int) : Prop := -9223372036854775808 ≤ z ∧ z ≤ 9223372036854775807
def NodeIn (x : NodeD) : Prop := i64 x.op ∧ i64 x.num ∧ x.name.size ≤ maxLen ∧ x.kids.length ≤ maxLen ∧ ∀ k ∈ x.kids, i64 k

end Go.Proofs.Ytipkbkhnaekceaa

namespace Go.Proofs.Ytipkbkhnaekceaa
open Go.RowKit
variable {α : Type}

/-- A list: each element lies in sz cells, as E tells of them. -/
def RowC (sz : Nat) (E : World → List Value → α → Prop) (w : World) (v : Value) (xs : List α) : Prop :=
  ∃ a cap, v = .slice a xs.length cap ∧ (a = none → cap = 0) ∧ (0 < xs.length → ∃ b off, a = some ⟨b, off, none⟩ ∧ b < w.heap.size ∧
    ∀ i (h : i < xs.length), ∃ vs : List Value, vs.length = sz ∧ (∀ j (hj : j < vs.length), w.cell? ⟨b, off + i * sz + j, none⟩ = some vs[j]) ∧ E w vs xs[i])
theorem RowC.slice {sz : Nat} {E : World → List Value → α → Prop} {w : World} {v : Value} {xs : List α} (h : RowC sz E w v xs) : ∃ a cap, v = .slice a xs.length cap := by
  obtain ⟨a, cap, rfl, _⟩ := h
  exact ⟨a, cap, rfl⟩
theorem RowC.at {sz : Nat} {E : World → List Value → α → Prop} {w : World} {a : Option Addr} {n cap k : Nat} {xs : List α} (h : RowC sz E w (.slice a n cap) xs) (hk : k < xs.length) :
    ∃ b off vs, a = some ⟨b, off, none⟩ ∧ vs.length = sz ∧ (∀ j (hj : j < vs.length), w.cell? ⟨b, off + k * sz + j, none⟩ = some vs[j]) ∧ E w vs xs[k] := by
  obtain ⟨a', cap', e, _, hh⟩ := h
  cases e
  obtain ⟨b, off, rfl, _, hc⟩ := hh (by omega)
  obtain ⟨vs, h1, h2, h3⟩ := hc k hk
  exact ⟨b, off, vs, rfl, h1, h2, h3⟩

/-- What is told of a world stays told behind what makes new memory alone. -/
def StableE (E : World → List Value → α → Prop) : Prop := ∀ (w w' : World) (vs : List Value) (x : α), E w vs x → Below w.heap.size w w' → E w' vs x
theorem RowC.below {sz : Nat} {E : World → List Value → α → Prop} (hE : StableE E) {w w' : World} {v : Value} {xs : List α} (h : RowC sz E w v xs) (hb : Below w.heap.size w w') : RowC sz E w' v xs := by
  obtain ⟨a, cap, rfl, hcap, hh⟩ := h
  refine ⟨a, cap, rfl, hcap, fun h0 => ?_⟩
  obtain ⟨b, off, rfl, hlt, hc⟩ := hh h0
  refine ⟨b, off, rfl, Nat.lt_of_lt_of_le hlt hb.size, fun i hi => ?_⟩
  obtain ⟨vs, h1, h2, h3⟩ := hc i hi
  exact ⟨vs, h1, fun j hj => (World.cell?_of_block (hb.block b hlt)).trans (h2 j hj), hE _ _ _ _ h3 hb⟩

/-- What is told of a world is told of every world that has its blocks from B on. -/
def Fresh (B : Nat) (w : World) (P : World → Prop) : Prop := ∀ W : World, w.heap.size ≤ W.heap.size → (∀ k, B ≤ k → k < w.heap.size → W.heap[k]? = w.heap[k]?) → P W
theorem Fresh.here {B : Nat} {w : World} {P : World → Prop} (h : Fresh B w P) : P w := h w (Nat.le_refl _) (fun _ _ _ => rfl)
theorem Fresh.base {B B' : Nat} {w : World} {P : World → Prop} (h : Fresh B w P) (hB : B' ≤ B) : Fresh B' w P := fun W h1 h2 => h W h1 (fun k hk => h2 k (Nat.le_trans hB hk))
theorem Fresh.step {B : Nat} {w w' : World} {P : World → Prop} (h : Fresh B w P) (h1 : w.heap.size ≤ w'.heap.size) (h2 : ∀ k, B ≤ k → k < w.heap.size → w'.heap[k]? = w.heap[k]?) : Fresh B w' P :=
  fun W h3 h4 => h W (Nat.le_trans h1 h3) (fun k hk hlt => (h4 k hk (Nat.lt_of_lt_of_le hlt h1)).trans (h2 k hk hlt))
theorem Fresh.below {B : Nat} {w w' : World} {P : World → Prop} (h : Fresh B w P) (hb : Below w.heap.size w w') : Fresh B w' P := h.step hb.size (fun k _ hlt => hb.block k hlt)
theorem Fresh.setLow {B : Nat} {w : World} {P : World → Prop} (h : Fresh B w P) {b : Nat} (hb : b < B) (j : Nat) (u : Value) : Fresh B (w.setCell ⟨b, j, none⟩ u) P :=
  h.step (by simp) (fun k hk _ => by
    simp only [World.setCell]
    rw [Array.getElem?_modify, if_neg (by omega)])
theorem Fresh.imp {B : Nat} {w : World} {P Q : World → Prop} (h : Fresh B w P) (hi : ∀ W, P W → Q W) : Fresh B w Q := fun W h1 h2 => hi W (h W h1 h2)
theorem Fresh.and {B : Nat} {w : World} {P Q : World → Prop} (h : Fresh B w P) (k : Fresh B w Q) : Fresh B w fun W => P W ∧ Q W := fun W h1 h2 => ⟨h W h1 h2, k W h1 h2⟩

/-- Cells written one behind the other: into a list, and into a block. -/
def setsL (cs : List Value) (j : Nat) : List Value → List Value
  | [] => cs
  | v :: vs => setsL (cs.set j v) (j + 1) vs
def setsW (w : World) (g j : Nat) : List Value → World
  | [] => w
  | v :: vs => setsW (w.setCell ⟨g, j, none⟩ v) g (j + 1) vs
theorem setsL_take (cs : List Value) (j : Nat) (vs : List Value) (h : j + vs.length ≤ cs.length) : (setsL cs j vs).take (j + vs.length) = cs.take j ++ vs := by
  induction vs generalizing cs j with
  | nil => simp [setsL]
  | cons v vs ih =>
    have h1 : j + 1 + vs.length ≤ (cs.set j v).length := by simp only [List.length_set, List.length_cons] at *; omega
    have h2 := ih (cs.set j v) (j + 1) h1
    have hj : j < cs.length := by simp only [List.length_cons] at h; omega
    rw [setsL, List.length_cons, show j + (vs.length + 1) = j + 1 + vs.length by omega, h2, List.take_succ_eq_append_getElem (by rw [List.length_set]; exact hj), List.take_set_of_le (Nat.le_refl _)]
    simp
theorem setsW_own {B : Nat} {e : TypeId} {sz g n cap : Nat} {cs : List Value} {w : World} (h : w.ownsRow B e sz (.slice (some ⟨g, 0, none⟩) n cap) n cs) (j : Nat) (vs : List Value) : (setsW w g j vs).ownsRow B e sz (.slice (some ⟨g, 0, none⟩) n cap) n (setsL cs j vs) := by
  induction vs generalizing w cs j with
  | nil => exact h
  | cons v vs ih => exact ih (World.ownsRow.stored h j v).1 (j + 1)
theorem setsW_fresh {B g : Nat} {w : World} {P : World → Prop} (h : Fresh B w P) (hg : g < B) (j : Nat) (vs : List Value) : Fresh B (setsW w g j vs) P := by
  induction vs generalizing w j with
  | nil => exact h
  | cons v vs ih => exact ih (h.setLow hg j v) (j + 1)

/-- A list that is being built in the block g: its first elements are laid, what they reach lies behind g. -/
def RowTo (sz : Nat) (E : World → List Value → α → Prop) (e : TypeId) (B g : Nat) (xs : List α) (k : Nat) (w : World) : Prop :=
  ∃ (cs : List Value) (vss : List (List Value)), w.ownsRow B e sz (.slice (some ⟨g, 0, none⟩) xs.length xs.length) xs.length cs ∧ k ≤ xs.length ∧ vss.length = k ∧ (∀ vs ∈ vss, vs.length = sz) ∧ cs.take (k * sz) = vss.flatten ∧
    ∀ i (h : i < vss.length) (h' : i < xs.length), Fresh (g + 1) w fun W => E W vss[i] xs[i]
theorem RowTo.own {sz : Nat} {E : World → List Value → α → Prop} {e : TypeId} {B g : Nat} {xs : List α} {k : Nat} {w : World} (h : RowTo sz E e B g xs k w) : ∃ cs, w.ownsRow B e sz (.slice (some ⟨g, 0, none⟩) xs.length xs.length) xs.length cs := by
  obtain ⟨cs, _, h1, _⟩ := h
  exact ⟨cs, h1⟩
theorem RowTo.next {sz : Nat} {E : World → List Value → α → Prop} {e : TypeId} {B g : Nat} {xs : List α} {k : Nat} {w : World} (h : RowTo sz E e B g xs k w) (hk : k < xs.length) {vs : List Value} (hl : vs.length = sz) (hE : Fresh (g + 1) w fun W => E W vs xs[k]) :
    RowTo sz E e B g xs (k + 1) (setsW w g (k * sz) vs) := by
  obtain ⟨cs, vss, h1, h2, h3, h4, h5, h6⟩ := h
  have hcs : cs.length = xs.length * sz := h1.1
  have hle : k * sz + vs.length ≤ cs.length := by
    rw [hcs, hl, ← Nat.succ_mul]
    exact Nat.mul_le_mul_right sz hk
  refine ⟨setsL cs (k * sz) vs, vss ++ [vs], setsW_own h1 _ _, hk, by simp [h3], fun v hv => ?_, ?_, fun i hi hi' => ?_⟩
  · rcases List.mem_append.1 hv with hv | hv
    · exact h4 v hv
    · rw [List.mem_singleton.1 hv]; exact hl
  · have := setsL_take cs (k * sz) vs hle
    rw [show (k + 1) * sz = k * sz + vs.length by rw [hl, Nat.succ_mul], this, h5]
    simp
  · by_cases hlt : i < vss.length
    · rw [List.getElem_append_left hlt]
      exact setsW_fresh (h6 i hlt hi') (Nat.lt_succ_self g) _ _
    · obtain rfl : i = k := by simp at hi; omega
      have e : (vss ++ [vs])[i] = vs := by
        rw [List.getElem_append_right (by omega)]
        simp
      rw [e]
      exact setsW_fresh hE (Nat.lt_succ_self g) _ _
theorem flat_at (sz : Nat) : ∀ (vss : List (List Value)), (∀ vs ∈ vss, vs.length = sz) → ∀ (i j : Nat) (h : i < vss.length) (hj : j < vss[i].length), vss.flatten[i * sz + j]? = some vss[i][j]
  | v :: vss, hl, 0, j, h, hj => by
    have hj' : j < v.length := hj
    rw [List.flatten_cons, Nat.zero_mul, Nat.zero_add, List.getElem?_append_left hj', List.getElem?_eq_getElem hj']
    rfl
  | v :: vss, hl, i + 1, j, h, hj => by
    have hv := hl v (List.mem_cons_self ..)
    rw [List.flatten_cons, List.getElem?_append_right (by rw [hv, Nat.succ_mul]; omega), hv, show (i + 1) * sz + j - sz = i * sz + j by rw [Nat.succ_mul]; omega]
    exact flat_at sz vss (fun x hx => hl x (List.mem_cons_of_mem _ hx)) i j (by simpa using h) hj
/-- The list, when all are laid. -/
theorem RowTo.done {sz : Nat} {E : World → List Value → α → Prop} {e : TypeId} {B g : Nat} {xs : List α} {w : World} (h : RowTo sz E e B g xs xs.length w) : Fresh g w fun W => RowC sz E W (.slice (some ⟨g, 0, none⟩) xs.length xs.length) xs := by
  obtain ⟨cs, vss, h1, h2, h3, h4, h5, h6⟩ := h
  intro W hW hbl
  refine ⟨some ⟨g, 0, none⟩, xs.length, rfl, fun h => (by cases h), fun h0 => ?_⟩
  have hg := World.ownsRow.lt h1 g rfl
  refine ⟨g, 0, rfl, Nat.lt_of_lt_of_le hg.2 hW, fun i hi => ⟨vss[i]'(by omega), h4 _ (List.getElem_mem _), fun j hj => ?_, h6 i (by omega) hi W hW (fun k hk => hbl k (by omega))⟩⟩
  rw [World.cell?_of_block (hbl g (Nat.le_refl _) hg.2)]
  have hf := flat_at sz vss h4 i j (by omega) hj
  rw [← h5, List.getElem?_take] at hf
  split at hf
  · have := World.ownsRow.cells h1 (g := g) rfl (i * sz + j) _ hf
    rwa [Addr.add_lit, ← Nat.add_assoc] at this
  · cases hf

end Go.Proofs.Ytipkbkhnaekceaa

namespace Go.Proofs.Ytipkbkhnaekceaa
open Go.RowKit

theorem bytes_beq (a b : ByteArray) : (a.toList == b.toList) = decide (a = b) := by
  rw [Bool.eq_iff_iff]
  simp only [beq_iff_eq, decide_eq_true_eq, ByteArray.toList_eq]
  constructor
  · intro h; exact ByteArray.ext (Array.toList_inj.1 h)
  · intro h; rw [h]

end Go.Proofs.Ytipkbkhnaekceaa

namespace Go.Proofs.Ytipkbkhnaekceaa
open Go.RowKit

theorem in_any (n lo hi : Int) (w : World) :
    Calls Try.prog 29 #[.int .i64 n, .int .i64 lo, .int .i64 hi] w fun e w' => e = .returned (.bool (decide (lo ≤ n ∧ n ≤ hi))) ∧ w' = w := by
  by_cases h1 : lo ≤ n
  · by_cases h2 : n ≤ hi
    · have hd : decide (lo ≤ n ∧ n ≤ hi) = true := by simp [h1, h2]
      go_enter Try.func29, Try.ntmps29
      go_wp2
      go_ret
      rw [hd]
      exact ⟨rfl, rfl⟩
    · have hd : decide (lo ≤ n ∧ n ≤ hi) = false := by simp; omega
      have h3 : hi < n := by omega
      go_enter Try.func29, Try.ntmps29
      go_wp2
      go_ret
      exact ⟨congrArg (fun x => Ending.returned (Value.bool x)) (by simp; omega), rfl⟩
  · have hd : decide (lo ≤ n ∧ n ≤ hi) = false := by simp; omega
    have h3 : n < lo := by omega
    go_enter Try.func29, Try.ntmps29
    go_wp2
    go_ret
    exact ⟨congrArg (fun x => Ending.returned (Value.bool x)) (by simp), rfl⟩

/-- A name: 1 to 4 small letters. -/
def letB (b : UInt8) : Bool := decide (97 ≤ b.toNat ∧ b.toNat ≤ 122)
def nameB (s : ByteArray) : Bool := s.data.toList.all letB && decide (1 ≤ s.size ∧ s.size ≤ 4)

theorem nameB_no {s : ByteArray} {k : Nat} (hk : k < s.size) (h : letB s[k] = false) : nameB s = false := by
  have hm : s[k] ∈ s.data.toList := by
    have : s[k] = s.data[k] := rfl
    rw [this]; simp
  cases hh : nameB s with
  | false => rfl
  | true =>
    simp only [nameB, Bool.and_eq_true, List.all_eq_true] at hh
    have := hh.1 _ hm
    rw [h] at this
    cases this

theorem nameB_all {s : ByteArray} (h : ∀ j (hj : j < s.size), letB s[j] = true) : nameB s = decide ((1 : Int) ≤ (s.size : Int) ∧ (s.size : Int) ≤ 4) := by
  have h1 : s.data.toList.all letB = true := by
    rw [List.all_eq_true]
    intro x hx
    obtain ⟨j, hj, rfl⟩ := List.getElem_of_mem hx
    have hj' : j < s.size := by simpa using hj
    exact h j hj'
  rw [nameB, h1, Bool.true_and]
  congr 1
  apply propext
  omega

set_option maxHeartbeats 800000 in
theorem specVarName_any (s : ByteArray) (w : World) (hs : s.size ≤ 1048576) :
    Calls Try.prog 46 #[.string s] w fun e w' => e = .returned (.bool (nameB s)) ∧ w' = w := by
  go_enter Try.func46, Try.ntmps46
  go_wp2
  go_loop [3] (fun iv => ∃ k : Nat, iv = .int .i64 k ∧ k ≤ s.size ∧ ∀ j (hj : j < s.size), j < k → letB s[j] = true) (fun iv => s.size - (intOf iv).toNat)
  case atStart => exact ⟨0, rfl, Nat.zero_le _, fun _ _ h => by omega⟩
  case round =>
    obtain ⟨k, rfl, hk, hj⟩ := hrel
    have HJ : Hid (∀ j (hj : j < s.size), j < k → letB s[j] = true) := hj
    clear hj
    by_cases hlt : k < s.size
    · have hb := s[k].toNat_lt
      by_cases h1 : s[k].toNat < 97
      · have HN : Hid (nameB s = false) := nameB_no hlt (by simp [letB]; omega)
        go_wp2
        go_ret
        rw [HN.out]
        exact ⟨rfl, rfl⟩
      · by_cases h2 : 122 < s[k].toNat
        · have HN : Hid (nameB s = false) := nameB_no hlt (by simp [letB]; omega)
          go_wp2
          go_ret
          rw [HN.out]
          exact ⟨rfl, rfl⟩
        · go_wp2
          go_round
          case rel =>
            refine ⟨k + 1, by go_num, by omega, fun j hj hjk => ?_⟩
            by_cases e : j = k
            · subst e; simp [letB]; omega
            · exact HJ.out j hj (by omega)
          case measure => simp [intOf]; omega
    · have HN : Hid (_ = _) := nameB_all (s := s) (fun j hj => HJ.out j hj (by omega))
      go_wp2_with (go_at_call 29; refine (in_any _ 1 4 _).mono ?_; rintro e w1 ⟨rfl, rfl⟩)
      go_ret
      rw [HN.out]
      exact ⟨congrArg (fun x => Ending.returned (Value.bool x)) (by simp), rfl⟩

theorem in_is (n lo hi : Int) (b : Bool) (h : decide (lo ≤ n ∧ n ≤ hi) = b) (w : World) :
    Calls Try.prog 29 #[.int .i64 n, .int .i64 lo, .int .i64 hi] w fun e w' => e = .returned (.bool b) ∧ w' = w := by
  rw [← h]; exact in_any n lo hi w
theorem specVarName_is (s : ByteArray) (b : Bool) (h : nameB s = b) (hs : s.size ≤ 1048576) (w : World) :
    Calls Try.prog 46 #[.string s] w fun e w' => e = .returned (.bool b) ∧ w' = w := by
  rw [← h]; exact specVarName_any s w hs

end Go.Proofs.Ytipkbkhnaekceaa

namespace Go.Proofs.Ytipkbkhnaekceaa
open Go.RowKit

theorem beq_yes {a b : ByteArray} (h : a = b) : (a.toList == b.toList) = true := by rw [bytes_beq]; simpa using h
theorem beq_no {a b : ByteArray} (h : ¬ a = b) : (a.toList == b.toList) = false := by rw [bytes_beq]; simpa using h

/-- What is owned is owned behind whatever makes new memory alone. -/
theorem own_below {B : Nat} {e : TypeId} {size : Nat} {v : Value} {n : Nat} {xs : List Value} {w w' : World} (h : w.ownsRow B e size v n xs) (hb : Below w.heap.size w w') : w'.ownsRow B e size v n xs := by
  refine ⟨h.1, ?_⟩
  rcases h.2 with h | ⟨g, cap, cur, rfl, hg, hc, r⟩
  · exact .inl h
  · refine .inr ⟨g, cap, cur, rfl, hg, ?_, r⟩
    rw [hb.block g (Array.getElem?_eq_some_iff.1 hc).1]
    exact hc
theorem own_cell {B : Nat} {e : TypeId} {size : Nat} {g n cap : Nat} {xs : List Value} {w : World} (h : w.ownsRow B e size (.slice (some ⟨g, 0, none⟩) n cap) n xs) (j : Nat) (hj : j < n * size) :
    ∃ c, w.cell? ⟨g, j, none⟩ = some c ∧ w.frozen? ⟨g, j, none⟩ = false := by
  rcases h.2 with ⟨h', _⟩ | ⟨g', cap', cur, h', hb, hg, _⟩
  · cases h'
  · cases h'
    have hx : j < xs.length := by rw [h.1]; exact hj
    refine ⟨xs[j], ?_, ?_⟩
    · have := h.cells (g := g) rfl j xs[j] (List.getElem?_eq_getElem hx)
      rwa [Addr.add_lit, Nat.zero_add] at this
    · unfold World.frozen?
      rw [hg]
      simp

theorem cell_keep {W W' : World} {a : Addr} {x : Value} (h : W.cell? a = some x) (hb : Below W.heap.size W W') : W'.cell? a = some x :=
  (World.cell?_of_block (hb.block _ (World.block_lt_of_cell? W a h))).trans h

end Go.Proofs.Ytipkbkhnaekceaa

namespace Go.Proofs.Ytipkbkhnaekceaa
open Go.RowKit
set_option linter.unusedVariables false
variable {α : Type}

def RowO (sz : Nat) (T : TypeId) (E : World → List Value → α → Prop) (B : Nat) (v : Value) (xs : List α) (w : World) : Prop :=
  ∃ vss : List (List Value), vss.length = xs.length ∧ (∀ vs ∈ vss, vs.length = sz) ∧ w.ownsRow B T sz v xs.length vss.flatten ∧ ∀ i (h : i < vss.length) (h' : i < xs.length), E w vss[i] xs[i]
section
variable {sz : Nat} {T : TypeId} {E : World → List Value → α → Prop} {B : Nat} {v : Value} {xs : List α} {w w' : World}
theorem RowO.nil : RowO sz T E B (.slice none 0 0) [] w := ⟨[], rfl, fun _ h => (by cases h), ⟨by simp, .inl ⟨rfl, rfl⟩⟩, fun i h => by cases h⟩
theorem RowO.made (hB : B ≤ w.heap.size) : RowO sz T E B (.slice (some ⟨w.heap.size, 0, none⟩) 0 0) ([] : List α) (w.alloc (.cells #[] T)) :=
  ⟨[], rfl, fun _ h => (by cases h), World.ownsRow_made w #[] 0 hB (Nat.zero_le _) (by simp), fun i h => by cases h⟩
theorem RowO.slice (h : RowO sz T E B v xs w) : ∃ a cap, v = .slice a xs.length cap := by
  obtain ⟨vss, h1, h2, h3, h4⟩ := h
  rcases h3.2 with ⟨rfl, h0⟩ | ⟨g, cap, cur, rfl, _⟩
  · exact ⟨none, 0, by rw [h0]⟩
  · exact ⟨_, cap, rfl⟩
theorem RowO.at (h : RowO sz T E B v xs w) {k : Nat} (hk : k < xs.length) : ∃ g cap vs, v = .slice (some ⟨g, 0, none⟩) xs.length cap ∧ B ≤ g ∧ vs.length = sz ∧ (∀ j (hj : j < vs.length), w.cell? ⟨g, k * sz + j, none⟩ = some vs[j]) ∧ E w vs xs[k] := by
  obtain ⟨vss, h1, h2, h3, h4⟩ := h
  rcases h3.2 with ⟨rfl, h0⟩ | ⟨g, cap, cur, rfl, hB, _⟩
  · omega
  · refine ⟨g, cap, vss[k]'(by omega), rfl, hB, h2 _ (List.getElem_mem _), fun j hj => ?_, h4 k (by omega) hk⟩
    have hf := flat_at sz vss h2 k j (by omega) hj
    have := World.ownsRow.cells h3 (g := g) rfl _ _ hf
    rw [Addr.add_lit, Nat.zero_add] at this
    exact this
theorem RowO.row (h : RowO sz T E B v xs w) : RowC sz E w v xs := by
  obtain ⟨vss, h1, h2, h3, h4⟩ := h
  rcases h3.2 with ⟨rfl, h0⟩ | ⟨g, cap, cur, rfl, hB, hc, _⟩
  · exact ⟨none, 0, by rw [h0], fun _ => rfl, fun hh => by omega⟩
  · refine ⟨some ⟨g, 0, none⟩, cap, rfl, fun hh => (by cases hh), fun _ => ⟨g, 0, rfl, (Array.getElem?_eq_some_iff.1 hc).1, fun i hi => ⟨vss[i]'(by omega), h2 _ (List.getElem_mem _), fun j hj => ?_, h4 i (by omega) hi⟩⟩⟩
    have hf := flat_at sz vss h2 i j (by omega) hj
    have := World.ownsRow.cells h3 (g := g) rfl _ _ hf
    rw [Addr.add_lit, Nat.zero_add] at this
    rw [Nat.zero_add]
    exact this
theorem RowO.lt (h : RowO sz T E B v xs w) : ∀ k, v.ownBlock = some k → B ≤ k ∧ k < w.heap.size := by
  obtain ⟨vss, h1, h2, h3, h4⟩ := h
  exact World.ownsRow.lt h3
theorem RowO.base {B' : Nat} (h : RowO sz T E B v xs w) (hB : B' ≤ B) : RowO sz T E B' v xs w := by
  obtain ⟨vss, h1, h2, h3, h4⟩ := h
  refine ⟨vss, h1, h2, ⟨h3.1, ?_⟩, h4⟩
  rcases h3.2 with hn | ⟨g, cap, cur, e, hg, r⟩
  · exact .inl hn
  · exact .inr ⟨g, cap, cur, e, Nat.le_trans hB hg, r⟩
/-- In another world: where the row and what it reaches are there. -/
theorem RowO.world (h : RowO sz T E B v xs w) (hr : ∀ n cs, w.ownsRow B T sz v n cs → w'.ownsRow B T sz v n cs) (hE : ∀ vs x, E w vs x → E w' vs x) : RowO sz T E B v xs w' := by
  obtain ⟨vss, h1, h2, h3, h4⟩ := h
  exact ⟨vss, h1, h2, hr _ _ h3, fun i hi hi' => hE _ _ (h4 i hi hi')⟩
theorem RowO.below (hE : ∀ w w' vs x, E w vs x → Below w.heap.size w w' → E w' vs x) (h : RowO sz T E B v xs w) (hb : Below w.heap.size w w') : RowO sz T E B v xs w' :=
  h.world (fun _ _ h3 => own_below h3 hb) (fun _ _ hx => hE _ _ _ _ hx hb)
/-- Opened for an append: the cells, and the longer list behind it. -/
theorem RowO.snoc (h : RowO sz T E B v xs w) : ∃ cs, w.ownsRow B T sz v xs.length cs ∧ ∀ (v' : Value) (w2 : World) (vs : List Value) (x : α), vs.length = sz → w2.ownsRow B T sz v' (xs.length + 1) (cs ++ vs) → (∀ vs y, E w vs y → E w2 vs y) → E w2 vs x → RowO sz T E B v' (xs ++ [x]) w2 := by
  obtain ⟨vss, h1, h2, h3, h4⟩ := h
  refine ⟨vss.flatten, h3, fun v' w2 vs x hv ho hE hx => ⟨vss ++ [vs], by simp [h1], fun u hu => ?_, by simpa using ho, fun i hi hi' => ?_⟩⟩
  · rcases List.mem_append.1 hu with hu | hu
    · exact h2 u hu
    · rw [List.mem_singleton.1 hu]; exact hv
  · by_cases hlt : i < vss.length
    · rw [List.getElem_append_left hlt, List.getElem_append_left (by omega)]
      exact hE _ _ (h4 i hlt (by omega))
    · have e : i = vss.length := by simp at hi; omega
      subst e
      rw [List.getElem_append_right (Nat.le_refl _), List.getElem_append_right (by omega)]
      simp only [Nat.sub_self, h1]
      exact hx
theorem flat_set (sz : Nat) : ∀ (vss : List (List Value)), (∀ vs ∈ vss, vs.length = sz) → ∀ (i j : Nat) (u : Value) (h : i < vss.length), j < sz → vss.flatten.set (i * sz + j) u = (vss.set i (vss[i].set j u)).flatten
  | x :: vss, hl, 0, j, u, _, hj => by
    have hx := hl x (List.mem_cons_self ..)
    simp only [List.flatten_cons, Nat.zero_mul, Nat.zero_add, List.set_cons_zero, List.getElem_cons_zero]
    rw [List.set_append_left _ _ (by omega)]
  | x :: vss, hl, i + 1, j, u, h, hj => by
    have hx := hl x (List.mem_cons_self ..)
    have ih := flat_set sz vss (fun y hy => hl y (List.mem_cons_of_mem _ hy)) i j u (by simpa using h) hj
    simp only [List.flatten_cons, List.set_cons_succ, List.getElem_cons_succ]
    rw [List.set_append_right _ _ (by rw [hx, Nat.succ_mul]; omega), hx, show (i + 1) * sz + j - sz = i * sz + j by rw [Nat.succ_mul]; omega, ih]
/-- One cell of one element written. -/
theorem RowO.set {g cap : Nat} (h : RowO sz T E B (.slice (some ⟨g, 0, none⟩) xs.length cap) xs w) {i j : Nat} (hi : i < xs.length) (hj : j < sz) (u : Value) (x' : α) (hE : ∀ vs y, E w vs y → E (w.setCell ⟨g, i * sz + j, none⟩ u) vs y) (hx : ∀ vs, vs.length = sz → E w vs xs[i] → E (w.setCell ⟨g, i * sz + j, none⟩ u) (vs.set j u) x') :
    RowO sz T E B (.slice (some ⟨g, 0, none⟩) xs.length cap) (xs.set i x') (w.setCell ⟨g, i * sz + j, none⟩ u) := by
  obtain ⟨vss, h1, h2, h3, h4⟩ := h
  have hv : i < vss.length := by omega
  refine ⟨vss.set i (vss[i].set j u), by simp [h1], fun vs hvs => ?_, ?_, fun k hk hk' => ?_⟩
  · obtain ⟨m, hm, rfl⟩ := List.getElem_of_mem hvs
    rw [List.getElem_set]
    split
    · rw [List.length_set]; exact h2 _ (List.getElem_mem _)
    · exact h2 _ (List.getElem_mem _)
  · rw [List.length_set, ← flat_set sz vss h2 i j u hv hj]
    exact (World.ownsRow.stored h3 (i * sz + j) u).1
  · rw [List.getElem_set, List.getElem_set]
    split
    · rename_i e
      subst e
      exact hx _ (h2 _ (List.getElem_mem _)) (h4 i hv hi)
    · rw [List.length_set] at hk hk'
      exact hE _ _ (h4 k hk hk')
theorem RowO.type (h : RowO sz T E B v xs w) {g : Nat} (hg : v.ownBlock = some g) : ∃ cur, w.heap[g]? = some (.cells cur T (0, 0)) := by
  obtain ⟨vss, h1, h2, h3, h4⟩ := h
  rcases h3.2 with ⟨rfl, h0⟩ | ⟨g', cap, cur, rfl, hB, hc, _⟩
  · cases hg
  · cases hg
    exact ⟨cur, hc⟩
end

end Go.Proofs.Ytipkbkhnaekceaa
