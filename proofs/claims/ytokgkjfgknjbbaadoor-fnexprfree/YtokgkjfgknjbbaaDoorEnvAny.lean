/- What the verifier's draws of any names with numbers answer, right or not. -/
import Derived.Test.YtokgkjfgknjbbaaDoorEnvDraw
import Derived.Test.YtokgkjfgknjbbaaDoorDecPure
import Derived.Test.YtokgkjfgknjbbaaDoorEnvAsc
namespace Go.Proofs.YtokgkjfgknjbbaaDoor
open Go.RowKit

/-- Names that ascend, or one that is none: there the program's EnvSet and the specification's are the same. -/
def AscOr (xs : List VarD) : Prop := ascB xs = true ∨ ∃ x ∈ xs, nameB x.1 = false
/-- A drawn list, right or not. -/
def AnyV (xs : List VarD) (k : Nat) : Prop := xs.length ≤ k ∧ (∀ x ∈ xs, x.1.size ≤ 5 ∧ (-10000 ≤ x.2 ∧ x.2 ≤ 10000)) ∧ AscOr xs
theorem good_asc {xs : List VarD} {k : Nat} (h : EnvGood xs k) : ascB xs = true := by
  have := h.1
  rw [chain_parts, Bool.and_eq_true] at this
  exact this.1
theorem anyV_good {xs : List VarD} {k : Nat} (h : EnvGood xs k) : AnyV xs k := ⟨h.2.1, fun x hx => by
  have h1 := names5_size _ (h.2.2 x hx)
  have h2 := (chain_all xs none h.1 x hx).2.1
  exact ⟨by omega, by omega⟩, .inl (good_asc h)⟩
theorem anyV_snoc {xs : List VarD} {k : Nat} {x : VarD} (h : AnyV xs k) (h1 : x.1.size ≤ 5) (h2 : -10000 ≤ x.2 ∧ x.2 ≤ 10000) (h3 : AscOr (xs ++ [x])) : AnyV (xs ++ [x]) (k + 1) := by
  refine ⟨by rw [List.length_append, List.length_singleton]; have := h.1; omega, fun y hy => ?_, h3⟩
  rcases List.mem_append.1 hy with hy | hy
  · exact h.2.1 y hy
  · obtain rfl : y = x := by simpa using hy
    exact ⟨h1, h2⟩
theorem anyV_set {xs : List VarD} {k : Nat} {z : Int} (h : AnyV xs k) (h0 : 0 < xs.length) (hz : -10000 ≤ z ∧ z ≤ 10000) : AnyV (xs.set 0 (xs[0].1, z)) k := by
  refine ⟨by rw [List.length_set]; exact h.1, fun y hy => ?_, ?_⟩
  · rcases List.mem_or_eq_of_mem_set hy with hy | rfl
    · exact h.2.1 y hy
    · exact ⟨(h.2.1 xs[0] (List.getElem_mem _)).1, hz⟩
  · match xs, h0, h.2.2 with
    | x :: xs, _, .inl h => exact .inl h
    | x :: xs, _, .inr ⟨y, hy, hn⟩ =>
      rcases List.mem_cons.1 hy with rfl | hy
      · exact .inr ⟨(y.1, z), by simp, hn⟩
      · exact .inr ⟨y, by simp [hy], hn⟩
theorem anyV_more {xs : List VarD} {k j : Nat} (h : AnyV xs k) (hj : k ≤ j) : AnyV xs j := ⟨Nat.le_trans h.1 hj, h.2⟩

/-- A list that ascends with a name behind all of it. -/
theorem asc_snoc {xs : List VarD} {x : VarD} (h : ascB xs = true) (hx : ∀ y ∈ xs, ltS y.1 x.1 = true) : ascB (xs ++ [x]) = true := by
  rw [ascB_iff] at h ⊢
  unfold Asc
  rw [List.pairwise_append]
  refine ⟨h, List.pairwise_singleton _ _, fun a ha b hb => ?_⟩
  obtain rfl : b = x := by simpa using hb
  exact hx a ha
theorem ltS_lit (a b : List UInt8) : ltS ⟨a.toArray⟩ ⟨b.toArray⟩ = Op.bytesLess a b := by
  rw [ltS, ByteArray.toList_eq, ByteArray.toList_eq]
/-- The names that the draw puts behind all others. -/
def yT (k : Nat) : ByteArray := ⟨#[121]⟩ ++ str [byteI (97 + (k : Int))]
theorem yT_is (k : Nat) (h : k ≤ 9) : yT k = ⟨([121, UInt8.ofNat (97 + k)] : List UInt8).toArray⟩ := by
  match k, h with
  | 0, _ | 1, _ | 2, _ | 3, _ | 4, _ | 5, _ | 6, _ | 7, _ | 8, _ | 9, _ => decide
theorem yT_next (k : Nat) (h : k ≤ 8) : ltS (yT k) (yT (k + 1)) = true := by
  rw [yT_is k (by omega), yT_is (k + 1) (by omega), ltS_lit]
  match k, h with
  | 0, _ | 1, _ | 2, _ | 3, _ | 4, _ | 5, _ | 6, _ | 7, _ | 8, _ => decide
theorem names5_yT : ∀ s ∈ names5, ltS s (yT 0) = true := by
  intro s hs
  rw [yT_is 0 (by omega)]
  simp only [names5, List.mem_cons, List.not_mem_nil, or_false] at hs
  rcases hs with rfl | rfl | rfl | rfl | rfl <;> (rw [ltS, ByteArray.toList_eq, ByteArray.toList_eq]; decide)
/-- Ascending, and all ahead of the next of these. -/
def YRow (k : Nat) (ys : List VarD) : Prop := ascB ys = true ∧ ∀ y ∈ ys, ltS y.1 (yT k) = true
theorem yRow_good {xs : List VarD} {k : Nat} (h : EnvGood xs k) : YRow 0 xs := ⟨good_asc h, fun y hy => names5_yT _ (h.2.2 y hy)⟩
theorem yRow_next {k : Nat} {ys : List VarD} (hk : k ≤ 8) (h : YRow k ys) : YRow (k + 1) (ys ++ [(yT k, 0)]) := by
  refine ⟨asc_snoc h.1 h.2, fun y hy => ?_⟩
  rcases List.mem_append.1 hy with hy | hy
  · exact lt_trans' (h.2 y hy) (yT_next k hk)
  · obtain rfl : y = (yT k, 0) := by simpa using hy
    exact yT_next k hk

/-- What an append to a list of the call's own does to the world, where the cursor lies below it. -/
theorem went_snoc {W : World} {v o v' : Value} {n g B : Nat} {w wr w2 : World} {ob : Obj} {ys : List VarD} {x : VarD} (hown2 : w2.ownsRow B 68 2 v' (ys.length + 1) (vv ys ++ [.string x.1, .int .i64 x.2])) (hown : OwnV B o ys wr) (hgrow : (wr.alloc ob).grownBy w2 o.ownBlock)
    (hB : w.heap.size = B) (hg : g < B) (h0 : Went W v n g w wr) : OwnV B v' (ys ++ [x]) w2 ∧ Went W v n g w w2 := by
  subst hB
  refine ⟨?_, ?_⟩
  · rw [OwnV, vv_app, vv_one, List.length_append]
    exact hown2
  · have hgs := hgrow.size
    have hrow : ∀ j, o.ownBlock = some j → w.heap.size ≤ j := fun j hj => (World.ownsRow.lt hown j hj).1
    have hblk : ∀ j, j < wr.heap.size → some j ≠ o.ownBlock → w2.heap[j]? = wr.heap[j]? := fun j hj hr => (hgrow.block j (by simp; omega) hr).trans (Below.heap_alloc wr ob j hj)
    have hgl : g < wr.heap.size := h0.1.lt
    refine ⟨h0.1.moved ?_ (hblk g hgl (fun e => by have := hrow g e.symm; omega)), ?_⟩
    · have hW := h0.1.1
      refine ⟨hgrow.os.trans hW.os, hgrow.tape.trans hW.tape, hgrow.output.trans hW.output, ?_, fun j hj => ?_⟩
      · have := hW.size; simp at hgs; omega
      · have hs := hW.size
        have hWg := h0.1.2.1
        exact (hblk j (by omega) (fun e => by have := hrow j e.symm; omega)).trans (hW.block j hj)
    · refine ⟨hgrow.os.trans h0.2.os, hgrow.tape.trans h0.2.tape, hgrow.output.trans h0.2.output, ?_, fun j hj hr => ?_⟩
      · have := h0.2.size; simp at hgs; omega
      · have hw1 := h0.2.size
        exact (hblk j (by omega) (fun e => by have := hrow j e.symm; omega)).trans (h0.2.block j hj hr)

def names4 : List ByteArray := [⟨#[]⟩, ⟨#[65]⟩, ⟨#[122, 122]⟩, ⟨#[97, 98, 99, 100, 101]⟩]
theorem names4_size : ∀ s ∈ names4, s.size ≤ 5 := by
  intro s hs
  simp only [names4, List.mem_cons, List.not_mem_nil, or_false] at hs
  rcases hs with rfl | rfl | rfl | rfl <;> decide
theorem names4_asc {xs : List VarD} {k : Nat} {s : ByteArray} (h : EnvGood xs k) (hs : s ∈ names4) : AscOr (xs ++ [(s, 0)]) := by
  simp only [names4, List.mem_cons, List.not_mem_nil, or_false] at hs
  rcases hs with rfl | rfl | rfl | rfl
  · exact .inr ⟨(⟨#[]⟩, 0), by simp, by decide⟩
  · exact .inr ⟨(⟨#[65]⟩, 0), by simp, by decide⟩
  · refine .inl (asc_snoc (good_asc h) (fun y hy => ?_))
    have hs := h.2.2 y hy
    generalize y.1 = s at hs
    simp only [names5, List.mem_cons, List.not_mem_nil, or_false] at hs
    rcases hs with rfl | rfl | rfl | rfl | rfl <;> (rw [ltS, ByteArray.toList_eq, ByteArray.toList_eq]; decide)
  · exact .inr ⟨(⟨#[97, 98, 99, 100, 101]⟩, 0), by simp, by decide⟩
def nums4 : List Int := [-10000, -9999, 9999, 10000]
theorem nums4_in : ∀ z ∈ nums4, -10000 ≤ z ∧ z ≤ 10000 := by decide

theorem two_atH (w : World) (H : Nat) (hH : w.heap.size = H) (x y : Value) (t : TypeId) : ∀ j u, [x, y][j]? = some u → (w.alloc (.cells #[x, y] t)).cell? ((⟨H, 0, none⟩ : Addr).add j) = some u := by
  subst hH; exact two_at w x y t
theorem VRow.news0 {w : World} {ad : Addr} {n cap : Nat} {xs : List VarD} (h : VRow w (.slice (some ad) n cap) xs) : ∀ j u, (vv xs)[j]? = some u → w.cell? (ad.add j) = some u := by
  intro j u hu
  obtain ⟨i, hi, hh⟩ := vv_split xs j u hu
  obtain ⟨b, off, e, h1, h2⟩ := h.at hi
  cases e
  rw [Addr.add_lit]
  rcases hh with ⟨rfl, rfl⟩ | ⟨rfl, rfl⟩
  · exact h1
  · rw [← Nat.add_assoc]; exact h2
theorem went_grown {W : World} {v : Value} {n g : Nat} {w w1 w2 : World} {row : Option Nat} (h : Went W v n g w w1) (hgr : w1.grownBy w2 row) (hr : ∀ k, row = some k → w.heap.size ≤ k) (hg : g < w.heap.size) : Went W v n g w w2 := by
  have hgl : g < w1.heap.size := h.1.lt
  have hs := h.2.size
  refine ⟨h.1.moved ?_ (hgr.block g hgl (fun e => by have := hr g e.symm; omega)), ?_⟩
  · have hW := h.1.1
    exact ⟨hgr.os.trans hW.os, hgr.tape.trans hW.tape, hgr.output.trans hW.output, Nat.le_trans hW.size hgr.size, fun j hj => (hgr.block j (Nat.lt_of_lt_of_le hj hW.size) (fun e => by have h1 := hr j e.symm; have h2 := h.1.2.1; omega)).trans (hW.block j hj)⟩
  · exact ⟨hgr.os.trans h.2.os, hgr.tape.trans h.2.tape, hgr.output.trans h.2.output, Nat.le_trans hs hgr.size, fun j hj he => (hgr.block j (by omega) (fun e => by have := hr j e.symm; omega)).trans (h.2.block j hj he)⟩
/-- The first one's number is written. -/
theorem own_num {W : World} {v : Value} {n g go capo : Nat} {w w4 : World} {xs : List VarD} (ho : OwnV w.heap.size (.slice (some ⟨go, 0, none⟩) xs.length capo) xs w4) (h : Went W v n g w w4) (h0 : 0 < xs.length) (hB : w.heap.size ≤ go) (hg : g < w.heap.size) (num : Int) :
    OwnV w.heap.size (.slice (some ⟨go, 0, none⟩) xs.length capo) (xs.set 0 (xs[0].1, num)) (w4.setCell ⟨go, 1, none⟩ (.int .i64 num)) ∧ Went W v n g w (w4.setCell ⟨go, 1, none⟩ (.int .i64 num)) := by
  have s1 := World.ownsRow.stored ho 1 (.int .i64 num)
  refine ⟨?_, went_grown h s1.2 (fun k hk => by have h1 : go = k := Option.some.inj hk; omega) hg⟩
  have e : vv (xs.set 0 (xs[0].1, num)) = (vv xs).set 1 (.int .i64 num) := by
    match xs, h0 with
    | x :: xs, _ => rfl
  unfold OwnV
  rw [List.length_set, e]
  exact s1.1


end Go.Proofs.YtokgkjfgknjbbaaDoor
