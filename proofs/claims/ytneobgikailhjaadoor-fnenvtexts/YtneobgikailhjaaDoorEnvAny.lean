/- What the verifier's draws of any names with numbers answer, right or not. -/
import Derived.Test.YtneobgikailhjaaDoorEnvDraw
import Derived.Test.YtneobgikailhjaaDoorDecPure
import Derived.Test.YtneobgikailhjaaDoorEnvAsc
namespace Go.Proofs.YtneobgikailhjaaDoor
open Go.RowKit

/-- Names that ascend, or one that is none: there the program's EnvSet and the specification's are the same. -/
def AscOr (xs : List VarD) : Prop := ascB xs = true ∨ ∃ x ∈ xs, nameB x.1 = false
/-- A drawn list, right or not. -/
def AnyV (xs : List VarD) (k : Nat) : Prop := xs.length ≤ k ∧ (∀ x ∈ xs, x.1.size ≤ 5 ∧ (-10000 ≤ x.2 ∧ x.2 ≤ 10000)) ∧ AscOr xs
theorem good_asc {xs : List VarD} {k : Nat} (h : EnvGood xs k) : ascB xs = true := by
  have := h.1
  rw [chain_parts, Bool.and_eq_true] at this
  exact this.1
theorem anyV_good {xs : List VarD} {k : Nat} (h : EnvGood xs k) : AnyV xs k := ⟨h.2.1, fun x hx => by
  have h1 := names5_size _ (h.2.2 x hx)
  have h2 := (chain_all xs none h.1 x hx).2.1
  exact ⟨by omega, by omega⟩, .inl (good_asc h)⟩
theorem anyV_snoc {xs : List VarD} {k : Nat} {x : VarD} (h : AnyV xs k) (h1 : x.1.size ≤ 5) (h2 : -10000 ≤ x.2 ∧ x.2 ≤ 10000) (h3 : AscOr (xs ++ [x])) : AnyV (xs ++ [x]) (k + 1) := by
  refine ⟨by rw [List.length_append, List.length_singleton]; have := h.1; omega, fun y hy => ?_, h3⟩
  rcases List.mem_append.1 hy with hy | hy
  · exact h.2.1 y hy
  · obtain rfl : y = x := by simpa using hy
    exact ⟨h1, h2⟩
theorem anyV_set {xs : List VarD} {k : Nat} {z : Int} (h : AnyV xs k) (h0 : 0 < xs.length) (hz : -10000 ≤ z ∧ z ≤ 10000) : AnyV (xs.set 0 (xs[0].1, z)) k := by
  refine ⟨by rw [List.length_set]; exact h.1, fun y hy => ?_, ?_⟩
  · rcases List.mem_or_eq_of_mem_set hy with hy | rfl
    · exact h.2.1 y hy
    · exact ⟨(h.2.1 xs[0] (List.getElem_mem _)).1, hz⟩
  · match xs, h0, h.2.2 with
    | x :: xs, _, .inl h => exact .inl h
    | x :: xs, _, .inr ⟨y, hy, hn⟩ =>
      rcases List.mem_cons.1 hy with rfl | hy
      · exact .inr ⟨(y.1, z), by simp, hn⟩
      · exact .inr ⟨y, by simp [hy], hn⟩
theorem anyV_more {xs : List VarD} {k j : Nat} (h : AnyV xs k) (hj : k ≤ j) : AnyV xs j := ⟨Nat.le_trans h.1 hj, h.2⟩

/-- A list that ascends with a name behind all of it. -/
theorem asc_snoc {xs : List VarD} {x : VarD} (h : ascB xs = true) (hx : ∀ y ∈ xs, ltS y.1 x.1 = true) : ascB (xs ++ [x]) = true := by
  rw [ascB_iff] at h ⊢
  unfold Asc
  rw [List.pairwise_append]
  refine ⟨h, List.pairwise_singleton _ _, fun a ha b hb => ?_⟩
  obtain rfl : b = x := by simpa using hb
  exact hx a ha
theorem ltS_lit (a b : List UInt8) : ltS ⟨a.toArray⟩ ⟨b.toArray⟩ = Op.bytesLess a b := by
  rw [ltS, ByteArray.toList_eq, ByteArray.toList_eq]
/-- The names that the draw puts behind all others. -/
def yT (k : Nat) : ByteArray := ⟨#[121]⟩ ++ str [byteI (97 + (k : Int))]
theorem yT_is (k : Nat) (h : k ≤ 9) : yT k = ⟨([121, UInt8.ofNat (97 + k)] : List UInt8).toArray⟩ := by
  match k, h with
  | 0, _ | 1, _ | 2, _ | 3, _ | 4, _ | 5, _ | 6, _ | 7, _ | 8, _ | 9, _ => decide
theorem yT_next (k : Nat) (h : k ≤ 8) : ltS (yT k) (yT (k + 1)) = true := by
  rw [yT_is k (by omega), yT_is (k + 1) (by omega), ltS_lit]
  match k, h with
  | 0, _ | 1, _ | 2, _ | 3, _ | 4, _ | 5, _ | 6, _ | 7, _ | 8, _ => decide
theorem names5_yT : ∀ s ∈ names5, ltS s (yT 0) = true := by
  intro s hs
  rw [yT_is 0 (by omega)]
  simp only [names5, List.mem_cons, List.not_mem_nil, or_false] at hs
  rcases hs with rfl | rfl | rfl | rfl | rfl <;> (rw [ltS, ByteArray.toList_eq, ByteArray.toList_eq]; decide)
/-- Ascending, and all ahead of the next of these. -/
def YRow (k : Nat) (ys : List VarD) : Prop := ascB ys = true ∧ ∀ y ∈ ys, ltS y.1 (yT k) = true
theorem yRow_good {xs : List VarD} {k : Nat} (h : EnvGood xs k) : YRow 0 xs := ⟨good_asc h, fun y hy => names5_yT _ (h.2.2 y hy)⟩
theorem yRow_next {k : Nat} {ys : List VarD} (hk : k ≤ 8) (h : YRow k ys) : YRow (k + 1) (ys ++ [(yT k, 0)]) := by
  refine ⟨asc_snoc h.1 h.2, fun y hy => ?_⟩
  rcases List.mem_append.1 hy with hy | hy
  · exact lt_trans' (h.2 y hy) (yT_next k hk)
  · obtain rfl : y = (yT k, 0) := by simpa using hy
    exact yT_next k hk

/-- What an append to a list of the call's own does to the world, where the cursor lies below it. -/
theorem went_snoc {W : World} {v o v' : Value} {n g B : Nat} {w wr w2 : World} {ob : Obj} {ys : List VarD} {x : VarD} (hown2 : w2.ownsRow B 31 2 v' (ys.length + 1) (vv ys ++ [.string x.1, .int .i64 x.2])) (hown : OwnV B o ys wr) (hgrow : (wr.alloc ob).grownBy w2 o.ownBlock)
    (hB : w.heap.size = B) (hg : g < B) (h0 : Went W v n g w wr) : OwnV B v' (ys ++ [x]) w2 ∧ Went W v n g w w2 := by
  subst hB
  refine ⟨?_, ?_⟩
  · rw [OwnV, vv_app, vv_one, List.length_append]
    exact hown2
  · have hgs := hgrow.size
    have hrow : ∀ j, o.ownBlock = some j → w.heap.size ≤ j := fun j hj => (World.ownsRow.lt hown j hj).1
    have hblk : ∀ j, j < wr.heap.size → some j ≠ o.ownBlock → w2.heap[j]? = wr.heap[j]? := fun j hj hr => (hgrow.block j (by simp; omega) hr).trans (Below.heap_alloc wr ob j hj)
    have hgl : g < wr.heap.size := h0.1.lt
    refine ⟨h0.1.moved ?_ (hblk g hgl (fun e => by have := hrow g e.symm; omega)), ?_⟩
    · have hW := h0.1.1
      refine ⟨hgrow.os.trans hW.os, hgrow.tape.trans hW.tape, hgrow.output.trans hW.output, ?_, fun j hj => ?_⟩
      · have := hW.size; simp at hgs; omega
      · have hs := hW.size
        have hWg := h0.1.2.1
        exact (hblk j (by omega) (fun e => by have := hrow j e.symm; omega)).trans (hW.block j hj)
    · refine ⟨hgrow.os.trans h0.2.os, hgrow.tape.trans h0.2.tape, hgrow.output.trans h0.2.output, ?_, fun j hj hr => ?_⟩
      · have := h0.2.size; simp at hgs; omega
      · have hw1 := h0.2.size
        exact (hblk j (by omega) (fun e => by have := hrow j e.symm; omega)).trans (h0.2.block j hj hr)

def names4 : List ByteArray := [⟨#[]⟩, ⟨#[65]⟩, ⟨#[122, 122]⟩, ⟨#[97, 98, 99, 100, 101]⟩]
theorem names4_size : ∀ s ∈ names4, s.size ≤ 5 := by
  intro s hs
  simp only [names4, List.mem_cons, List.not_mem_nil, or_false] at hs
  rcases hs with rfl | rfl | rfl | rfl <;> decide
theorem names4_asc {xs : List VarD} {k : Nat} {s : ByteArray} (h : EnvGood xs k) (hs : s ∈ names4) : AscOr (xs ++ [(s, 0)]) := by
  simp only [names4, List.mem_cons, List.not_mem_nil, or_false] at hs
  rcases hs with rfl | rfl | rfl | rfl
  · exact .inr ⟨(⟨#[]⟩, 0), by simp, by decide⟩
  · exact .inr ⟨(⟨#[65]⟩, 0), by simp, by decide⟩
  · refine .inl (asc_snoc (good_asc h) (fun y hy => ?_))
    have hs := h.2.2 y hy
    generalize y.1 = s at hs
    simp only [names5, List.mem_cons, List.not_mem_nil, or_false] at hs
    rcases hs with rfl | rfl | rfl | rfl | rfl <;> (rw [ltS, ByteArray.toList_eq, ByteArray.toList_eq]; decide)
  · exact .inr ⟨(⟨#[97, 98, 99, 100, 101]⟩, 0), by simp, by decide⟩
def nums4 : List Int := [-10000, -9999, 9999, 10000]
theorem nums4_in : ∀ z ∈ nums4, -10000 ≤ z ∧ z ≤ 10000 := by decide

theorem two_atH (w : World) (H : Nat) (hH : w.heap.size = H) (x y : Value) (t : TypeId) : ∀ j u, [x, y][j]? = some u → (w.alloc (.cells #[x, y] t)).cell? ((⟨H, 0, none⟩ : Addr).add j) = some u := by
  subst hH; exact two_at w x y t
theorem VRow.news0 {w : World} {ad : Addr} {n cap : Nat} {xs : List VarD} (h : VRow w (.slice (some ad) n cap) xs) : ∀ j u, (vv xs)[j]? = some u → w.cell? (ad.add j) = some u := by
  intro j u hu
  obtain ⟨i, hi, hh⟩ := vv_split xs j u hu
  obtain ⟨b, off, e, h1, h2⟩ := h.at hi
  cases e
  rw [Addr.add_lit]
  rcases hh with ⟨rfl, rfl⟩ | ⟨rfl, rfl⟩
  · exact h1
  · rw [← Nat.add_assoc]; exact h2
theorem went_grown {W : World} {v : Value} {n g : Nat} {w w1 w2 : World} {row : Option Nat} (h : Went W v n g w w1) (hgr : w1.grownBy w2 row) (hr : ∀ k, row = some k → w.heap.size ≤ k) (hg : g < w.heap.size) : Went W v n g w w2 := by
  have hgl : g < w1.heap.size := h.1.lt
  have hs := h.2.size
  refine ⟨h.1.moved ?_ (hgr.block g hgl (fun e => by have := hr g e.symm; omega)), ?_⟩
  · have hW := h.1.1
    exact ⟨hgr.os.trans hW.os, hgr.tape.trans hW.tape, hgr.output.trans hW.output, Nat.le_trans hW.size hgr.size, fun j hj => (hgr.block j (Nat.lt_of_lt_of_le hj hW.size) (fun e => by have h1 := hr j e.symm; have h2 := h.1.2.1; omega)).trans (hW.block j hj)⟩
  · exact ⟨hgr.os.trans h.2.os, hgr.tape.trans h.2.tape, hgr.output.trans h.2.output, Nat.le_trans hs hgr.size, fun j hj he => (hgr.block j (by omega) (fun e => by have := hr j e.symm; omega)).trans (h.2.block j hj he)⟩
/-- The first one's number is written. -/
theorem own_num {W : World} {v : Value} {n g go capo : Nat} {w w4 : World} {xs : List VarD} (ho : OwnV w.heap.size (.slice (some ⟨go, 0, none⟩) xs.length capo) xs w4) (h : Went W v n g w w4) (h0 : 0 < xs.length) (hB : w.heap.size ≤ go) (hg : g < w.heap.size) (num : Int) :
    OwnV w.heap.size (.slice (some ⟨go, 0, none⟩) xs.length capo) (xs.set 0 (xs[0].1, num)) (w4.setCell ⟨go, 1, none⟩ (.int .i64 num)) ∧ Went W v n g w (w4.setCell ⟨go, 1, none⟩ (.int .i64 num)) := by
  have s1 := World.ownsRow.stored ho 1 (.int .i64 num)
  refine ⟨?_, went_grown h s1.2 (fun k hk => by have h1 : go = k := Option.some.inj hk; omega) hg⟩
  have e : vv (xs.set 0 (xs[0].1, num)) = (vv xs).set 1 (.int .i64 num) := by
    match xs, h0 with
    | x :: xs, _ => rfl
  unfold OwnV
  rw [List.length_set, e]
  exact s1.1

set_option maxHeartbeats 3200000 in
set_option maxRecDepth 100000 in
theorem any_any (W : World) (v : Value) (n g : Nat) (w : World) (hn : n ≤ 1000000000000) (hcode : CodeRow W v n) (hc : Cur W v n g w) :
    Calls Tryd.prog 14 #[.pointer (some ⟨g, 0, none⟩)] w fun e w' => ∃ o xs, e = .returned o ∧ AnyV xs 8 ∧ OwnV w.heap.size o xs w' ∧ Went W v n g w w' := by
  obtain ⟨i0, hi, hz0, hz1, hz2⟩ := info_parts Tryd.infoVar
  have HC : Hid (CodeRow W v n) := hcode
  have HW : Hid (Cur W v n g w) := hc
  have hg : g < w.heap.size := hc.lt
  have HA : Hid (Went W v n g w (w.alloc (.cells #[] 31))) := went_alloc hc _
  have HO0 : Hid ((w.alloc (.cells #[] 31)).ownsRow w.heap.size 31 2 (.slice (some ⟨w.heap.size, 0, none⟩) 0 0) 0 []) := World.ownsRow_made _ _ _ (Nat.le_refl _) (by decide) rfl
  clear hcode hc
  go_enter Tryd.func14, Tryd.ntmps14
  go_wp2_with fail
  refine (env_any W v n g _ hn HC.out HA.out.1).mono ?_
  rintro e w1 ⟨o1, xs, rfl, hgood, ho1, hw1⟩
  have H1 : Hid (Went W v n g w w1) := went_trans HA.out hw1
  have HO1 : Hid (w1.ownsRow w.heap.size 31 2 (.slice (some ⟨w.heap.size, 0, none⟩) 0 0) 0 []) := World.ownsRow.kept HO0.out hw1.2 (.inr (fun e => by have h1 : w.heap.size = g := Option.some.inj e; omega))
  have HR1 : Hid (VRow w1 o1 xs) := ho1.row
  have HG : Hid (AnyV xs 4) := anyV_good hgood
  have HGd : Hid (EnvGood xs 4) := hgood
  have hxl : xs.length ≤ 4 := hgood.2.1
  obtain ⟨a, cap, rfl⟩ := ho1.row.slice
  clear hgood ho1 hw1 HO0 HA
  cases a with
  | none =>
    obtain ⟨rfl, hx0⟩ := VRow.nil HR1.out
    have HO2 : Hid (OwnV w.heap.size (.slice (some ⟨w.heap.size, 0, none⟩) 0 0) xs w1) := by
      obtain rfl : xs = [] := List.eq_nil_of_length_eq_zero hx0
      exact HO1.out
    rw [hx0]
    clear hx0
    go_wp2_with (at_builtin; refine wpList_append_own_none rfl _ _ 24 rfl w.heap.size 31 i0 2 Tryd.underlying24 hi _ 0 [] rfl HO1.out rfl ?_)
    generalize Value.slice (some ⟨w.heap.size, 0, none⟩) 0 0 = o2 at *
    have hg2 : g < w1.heap.size := H1.out.1.lt
    go_wp2_with fail
    refine (below_any W v n g 10 _ hn HC.out H1.out.1 (by omega) (by omega)).mono ?_
    rintro e w3 ⟨x, rfl, ⟨x0, x1⟩, hw3⟩
    have H3 : Hid (Went W v n g w w3) := went_trans H1.out hw3
    have HO3 : Hid (OwnV w.heap.size o2 xs w3) := ownV_went HO2.out hw3 hg
    clear hw3
    have hg3 : g < w3.heap.size := H3.out.1.lt
    by_cases hx0 : x = 0
    · subst hx0
      have HA3 : Hid (Went W v n g w3 (w3.alloc (.cells (names4.map Value.string).toArray 9))) := went_alloc H3.out.1 _
      have HL : Hid (∀ i, i < 4 → ∃ y : ByteArray, (w3.alloc (.cells (names4.map Value.string).toArray 9)).cell? ⟨w3.heap.size, i, none⟩ = some (.string y) ∧ y ∈ names4) := fun i hi => by
        refine ⟨names4[i]'(by simpa [names4] using hi), ?_, List.getElem_mem _⟩
        rw [lit_row w3 (names4.map Value.string) 9 i (by simpa [names4] using hi)]
        simp
      go_wp2_with fail
      refine (pickP_any (· ∈ names4) W v n g 4 w3.heap.size 4 _ hn HC.out HA3.out.1 (by omega) (by omega) (by omega) HL.out).mono ?_
      rintro e w4 ⟨name, rfl, hnm, hw4⟩
      have hw34 := went_trans HA3.out hw4
      have H4 : Hid (Went W v n g w w4) := went_trans H3.out hw34
      have HO4 : Hid (OwnV w.heap.size o2 xs w4) := ownV_went HO3.out hw34 hg
      clear hw4 hw34 HL HA3
      go_wp2_with (at_builtin; refine wpList_append_own _ rfl _ _ 24 rfl w.heap.size 31 i0 _ 2 24 Tryd.underlying24 hi hz0 hz1 hz2 rfl (by decide) _ _ _ rfl (World.ownsRow.alloc HO4.out _) ⟨w4.heap.size, 0, none⟩ 1 1 [.string name, .int .i64 0] rfl rfl (two_at _ _ _ _) (two_cell _ _) (by unfold maxLen; omega) (by omega) (by have h8 := went_size H4.out; simp; omega) ?_)
      intro v' w5 hown2 hgrow _
      have R := went_snoc (x := (name, 0)) hown2 HO4.out hgrow rfl hg H4.out
      have HR : Hid (OwnV w.heap.size v' (xs ++ [(name, 0)]) w5 ∧ Went W v n g w w5) := R
      have HV : Hid (AnyV (xs ++ [(name, 0)]) 5) := anyV_snoc HG.out (names4_size _ hnm) ⟨by show (-10000 : Int) ≤ 0; omega, by show (0 : Int) ≤ 10000; omega⟩ (names4_asc HGd.out hnm)
      clear hown2 hgrow R
      go_wp2
      go_ret
      exact ⟨_, _, rfl, anyV_more HV.out (by omega), HR.out.1, HR.out.2⟩
    · by_cases hx1 : x = 1
      · subst hx1
        by_cases hlen : 0 < xs.length
        · have hlen2 : (0 : Int) < (xs.length : Int) := by omega
          have HA3 : Hid (Went W v n g w3 (w3.alloc (.cells (nums4.map (Value.int .i64)).toArray 3))) := went_alloc H3.out.1 _
          have HL : Hid (∀ i, i < 4 → ∃ y : Int, (w3.alloc (.cells (nums4.map (Value.int .i64)).toArray 3)).cell? ⟨w3.heap.size, i, none⟩ = some (.int .i64 y) ∧ (-10000 ≤ y ∧ y ≤ 10000)) := fun i hi => by
            refine ⟨nums4[i]'(by simpa [nums4] using hi), ?_, nums4_in _ (List.getElem_mem _)⟩
            rw [lit_row w3 (nums4.map (Value.int .i64)) 3 i (by simpa [nums4] using hi)]
            simp
          obtain ⟨go, capo, rfl, hBo, _⟩ := World.ownsRow.form HO3.out hlen
          go_wp2_with fail
          refine (pickIntP_any (fun y => -10000 ≤ y ∧ y ≤ 10000) W v n g 4 w3.heap.size 4 _ hn HC.out HA3.out.1 (by omega) (by omega) (by omega) HL.out).mono ?_
          rintro e w4 ⟨num, rfl, hnum, hw4⟩
          have hw34 := went_trans HA3.out hw4
          have H4 : Hid (Went W v n g w w4) := went_trans H3.out hw34
          have HO4 : Hid (OwnV w.heap.size (.slice (some ⟨go, 0, none⟩) xs.length capo) xs w4) := ownV_went HO3.out hw34 hg
          clear hw4 hw34 HL HA3
          obtain ⟨c1, hc1, f1⟩ := own_cell HO4.out 1 (by omega)
          have HV : Hid (AnyV (xs.set 0 (xs[0].1, num)) 4) := anyV_set HG.out hlen hnum
          have HF : Hid (OwnV w.heap.size (.slice (some ⟨go, 0, none⟩) xs.length capo) (xs.set 0 (xs[0].1, num)) (w4.setCell ⟨go, 1, none⟩ (.int .i64 num)) ∧ Went W v n g w (w4.setCell ⟨go, 1, none⟩ (.int .i64 num))) := own_num HO4.out H4.out hlen hBo hg num
          clear hnum
          go_wp2
          go_ret
          exact ⟨_, _, rfl, anyV_more HV.out (by omega), HF.out.1, HF.out.2⟩
        · have hlen2 : ¬ (0 : Int) < (xs.length : Int) := by omega
          obtain ⟨a9, cap9, rfl⟩ := HO3.out.row.slice
          go_wp2
          go_ret
          exact ⟨_, _, rfl, anyV_more HG.out (by omega), HO3.out, H3.out⟩
      · by_cases hx2 : x = 2
        · subst hx2
          go_wp2
          go_loopw [3, 4] (fun ov iv wr => ∃ (k : Nat) (ys : List VarD), iv = .int .i64 k ∧ k ≤ ys.length ∧ AnyV ys 8 ∧ YRow k ys ∧ ys.length ≤ 7 ∧ OwnV w.heap.size ov ys wr ∧ Went W v n g w wr) (fun _ iv _ => 8 - (intOf iv).toNat)
          case atStart => exact ⟨0, xs, rfl, Nat.zero_le _, anyV_more HG.out (by omega), yRow_good HGd.out, by omega, HO3.out, H3.out⟩
          case round =>
            obtain ⟨k, ys, rfl, hk, hany, hyr, hy7, hown, hwent⟩ := hrel
            have H5 : Hid (Went W v n g w wr) := hwent
            have HO5 : Hid (OwnV w.heap.size u3 ys wr) := hown
            have HY : Hid (AnyV ys 8) := hany
            have HYr : Hid (YRow k ys) := hyr
            obtain ⟨a5, cap5, hu⟩ := hown.row.slice
            clear hany hown hwent hyr
            subst hu
            go_wp2_with fail
            refine (below_any W v n g 2 _ hn HC.out H5.out.1 (by omega) (by omega)).mono ?_
            rintro e w6 ⟨t, rfl, ⟨t0, t1⟩, hw6⟩
            have H6 : Hid (Went W v n g w w6) := went_trans H5.out hw6
            have HO6 : Hid (OwnV w.heap.size (.slice a5 ys.length cap5) ys w6) := ownV_went HO5.out hw6 hg
            clear hw6
            by_cases hlt : (ys.length : Int) < 6 + t
            · have hcv := fun W => run_one_string (P := Tryd.prog) W 22 9 5 (97 + (k : Int)) (by omega) (by omega) Tryd.underlying22 Tryd.underlying5 Tryd.underlying9
              have hadd := fun W => run_string_add_sum (P := Tryd.prog) (w := W) ⟨#[121]⟩ (str [byteI (97 + (k : Int))]) (by rw [str_size]; show 1 + 1 ≤ _; omega)
              have hsz : ((⟨#[121]⟩ : ByteArray) ++ str [byteI (97 + (k : Int))]).size ≤ 5 := by rw [ByteArray.size_append, str_size]; show 1 + 1 ≤ 5; omega
              have HYn : Hid (YRow (k + 1) (ys ++ [((⟨#[121]⟩ : ByteArray) ++ str [byteI (97 + (k : Int))], 0)])) := yRow_next (by omega) HYr.out
              generalize ((⟨#[121]⟩ : ByteArray) ++ str [byteI (97 + (k : Int))]) = T at *
              have HA7 : Hid (Went W v n g w (w6.alloc (.cells #[.int .u8 (97 + (k : Int))] 5))) := went_trans H6.out (went_alloc H6.out.1 _)
              have HO7 : Hid (OwnV w.heap.size (.slice a5 ys.length cap5) ys (w6.alloc (.cells #[.int .u8 (97 + (k : Int))] 5))) := World.ownsRow.alloc HO6.out _
              go_wp2_with (at_builtin; refine wpList_append_own _ rfl _ _ 24 rfl w.heap.size 31 i0 _ 2 24 Tryd.underlying24 hi hz0 hz1 hz2 rfl (by decide) _ _ _ rfl (World.ownsRow.alloc HO7.out _) ⟨w6.heap.size + 1, 0, none⟩ 1 1 [.string T, .int .i64 0] rfl rfl (two_atH _ _ (by simp) _ _ _) (two_cell _ _) (by unfold maxLen; omega) (by omega) (by have h8 := went_size HA7.out; simp at h8 ⊢; omega) ?_)
              intro v' w8 hown2 hgrow _
              have R := went_snoc (x := (T, 0)) hown2 HO7.out hgrow rfl hg HA7.out
              have HR : Hid (OwnV w.heap.size v' (ys ++ [(T, 0)]) w8 ∧ Went W v n g w w8) := R
              have HV : Hid (AnyV (ys ++ [(T, 0)]) 8) := ⟨by rw [List.length_append, List.length_singleton]; omega, (anyV_snoc HY.out hsz ⟨by show (-10000 : Int) ≤ 0; omega, by show (0 : Int) ≤ 10000; omega⟩ (.inl HYn.out.1)).2⟩
              clear hown2 hgrow R
              go_wp2
              go_roundw
              case rel => exact ⟨k + 1, _, by go_num, by rw [List.length_append, List.length_singleton]; omega, HV.out, HYn.out, by rw [List.length_append, List.length_singleton]; omega, HR.out.1, HR.out.2⟩
              case measure => simp [intOf]; omega
            · go_wp2
              go_ret
              exact ⟨_, _, rfl, HY.out, HO6.out, H6.out⟩
        · go_wp2
          go_ret
          exact ⟨_, _, rfl, anyV_more HG.out (by omega), HO3.out, H3.out⟩
  | some ad =>
    have hnews : ∀ j u, (vv xs)[j]? = some u → w1.cell? (ad.add j) = some u := VRow.news0 HR1.out
    go_wp2_with (at_builtin; refine wpList_append_own _ rfl _ _ 24 rfl w.heap.size 31 i0 _ 2 24 Tryd.underlying24 hi hz0 hz1 hz2 rfl (by decide) _ _ _ rfl HO1.out ad xs.length cap (vv xs) rfl (vv_len xs) hnews (vv_cells xs) (by unfold maxLen; omega) (by omega) (by have h8 := went_size H1.out; omega) ?_)
    intro o2 w2 hown6 hgrow _
    have HO2 : Hid (OwnV w.heap.size o2 xs w2) := by
      have := hown6
      first | exact this | (simp only [Nat.zero_add, List.nil_append] at this; exact this)
    have H2 : Hid (Went W v n g w w2) := went_grown H1.out hgrow (fun k hk => by have h1 : w.heap.size = k := Option.some.inj hk; omega) hg
    clear hown6 hgrow
    have hg2 : g < w2.heap.size := H2.out.1.lt
    go_wp2_with fail
    refine (below_any W v n g 10 _ hn HC.out H2.out.1 (by omega) (by omega)).mono ?_
    rintro e w3 ⟨x, rfl, ⟨x0, x1⟩, hw3⟩
    have H3 : Hid (Went W v n g w w3) := went_trans H2.out hw3
    have HO3 : Hid (OwnV w.heap.size o2 xs w3) := ownV_went HO2.out hw3 hg
    clear hw3
    have hg3 : g < w3.heap.size := H3.out.1.lt
    by_cases hx0 : x = 0
    · subst hx0
      have HA3 : Hid (Went W v n g w3 (w3.alloc (.cells (names4.map Value.string).toArray 9))) := went_alloc H3.out.1 _
      have HL : Hid (∀ i, i < 4 → ∃ y : ByteArray, (w3.alloc (.cells (names4.map Value.string).toArray 9)).cell? ⟨w3.heap.size, i, none⟩ = some (.string y) ∧ y ∈ names4) := fun i hi => by
        refine ⟨names4[i]'(by simpa [names4] using hi), ?_, List.getElem_mem _⟩
        rw [lit_row w3 (names4.map Value.string) 9 i (by simpa [names4] using hi)]
        simp
      go_wp2_with fail
      refine (pickP_any (· ∈ names4) W v n g 4 w3.heap.size 4 _ hn HC.out HA3.out.1 (by omega) (by omega) (by omega) HL.out).mono ?_
      rintro e w4 ⟨name, rfl, hnm, hw4⟩
      have hw34 := went_trans HA3.out hw4
      have H4 : Hid (Went W v n g w w4) := went_trans H3.out hw34
      have HO4 : Hid (OwnV w.heap.size o2 xs w4) := ownV_went HO3.out hw34 hg
      clear hw4 hw34 HL HA3
      go_wp2_with (at_builtin; refine wpList_append_own _ rfl _ _ 24 rfl w.heap.size 31 i0 _ 2 24 Tryd.underlying24 hi hz0 hz1 hz2 rfl (by decide) _ _ _ rfl (World.ownsRow.alloc HO4.out _) ⟨w4.heap.size, 0, none⟩ 1 1 [.string name, .int .i64 0] rfl rfl (two_at _ _ _ _) (two_cell _ _) (by unfold maxLen; omega) (by omega) (by have h8 := went_size H4.out; simp; omega) ?_)
      intro v' w5 hown2 hgrow _
      have R := went_snoc (x := (name, 0)) hown2 HO4.out hgrow rfl hg H4.out
      have HR : Hid (OwnV w.heap.size v' (xs ++ [(name, 0)]) w5 ∧ Went W v n g w w5) := R
      have HV : Hid (AnyV (xs ++ [(name, 0)]) 5) := anyV_snoc HG.out (names4_size _ hnm) ⟨by show (-10000 : Int) ≤ 0; omega, by show (0 : Int) ≤ 10000; omega⟩ (names4_asc HGd.out hnm)
      clear hown2 hgrow R
      go_wp2
      go_ret
      exact ⟨_, _, rfl, anyV_more HV.out (by omega), HR.out.1, HR.out.2⟩
    · by_cases hx1 : x = 1
      · subst hx1
        by_cases hlen : 0 < xs.length
        · have hlen2 : (0 : Int) < (xs.length : Int) := by omega
          have HA3 : Hid (Went W v n g w3 (w3.alloc (.cells (nums4.map (Value.int .i64)).toArray 3))) := went_alloc H3.out.1 _
          have HL : Hid (∀ i, i < 4 → ∃ y : Int, (w3.alloc (.cells (nums4.map (Value.int .i64)).toArray 3)).cell? ⟨w3.heap.size, i, none⟩ = some (.int .i64 y) ∧ (-10000 ≤ y ∧ y ≤ 10000)) := fun i hi => by
            refine ⟨nums4[i]'(by simpa [nums4] using hi), ?_, nums4_in _ (List.getElem_mem _)⟩
            rw [lit_row w3 (nums4.map (Value.int .i64)) 3 i (by simpa [nums4] using hi)]
            simp
          obtain ⟨go, capo, rfl, hBo, _⟩ := World.ownsRow.form HO3.out hlen
          go_wp2_with fail
          refine (pickIntP_any (fun y => -10000 ≤ y ∧ y ≤ 10000) W v n g 4 w3.heap.size 4 _ hn HC.out HA3.out.1 (by omega) (by omega) (by omega) HL.out).mono ?_
          rintro e w4 ⟨num, rfl, hnum, hw4⟩
          have hw34 := went_trans HA3.out hw4
          have H4 : Hid (Went W v n g w w4) := went_trans H3.out hw34
          have HO4 : Hid (OwnV w.heap.size (.slice (some ⟨go, 0, none⟩) xs.length capo) xs w4) := ownV_went HO3.out hw34 hg
          clear hw4 hw34 HL HA3
          obtain ⟨c1, hc1, f1⟩ := own_cell HO4.out 1 (by omega)
          have HV : Hid (AnyV (xs.set 0 (xs[0].1, num)) 4) := anyV_set HG.out hlen hnum
          have HF : Hid (OwnV w.heap.size (.slice (some ⟨go, 0, none⟩) xs.length capo) (xs.set 0 (xs[0].1, num)) (w4.setCell ⟨go, 1, none⟩ (.int .i64 num)) ∧ Went W v n g w (w4.setCell ⟨go, 1, none⟩ (.int .i64 num))) := own_num HO4.out H4.out hlen hBo hg num
          clear hnum
          go_wp2
          go_ret
          exact ⟨_, _, rfl, anyV_more HV.out (by omega), HF.out.1, HF.out.2⟩
        · have hlen2 : ¬ (0 : Int) < (xs.length : Int) := by omega
          obtain ⟨a9, cap9, rfl⟩ := HO3.out.row.slice
          go_wp2
          go_ret
          exact ⟨_, _, rfl, anyV_more HG.out (by omega), HO3.out, H3.out⟩
      · by_cases hx2 : x = 2
        · subst hx2
          go_wp2
          go_loopw [3, 4] (fun ov iv wr => ∃ (k : Nat) (ys : List VarD), iv = .int .i64 k ∧ k ≤ ys.length ∧ AnyV ys 8 ∧ YRow k ys ∧ ys.length ≤ 7 ∧ OwnV w.heap.size ov ys wr ∧ Went W v n g w wr) (fun _ iv _ => 8 - (intOf iv).toNat)
          case atStart => exact ⟨0, xs, rfl, Nat.zero_le _, anyV_more HG.out (by omega), yRow_good HGd.out, by omega, HO3.out, H3.out⟩
          case round =>
            obtain ⟨k, ys, rfl, hk, hany, hyr, hy7, hown, hwent⟩ := hrel
            have H5 : Hid (Went W v n g w wr) := hwent
            have HO5 : Hid (OwnV w.heap.size u3 ys wr) := hown
            have HY : Hid (AnyV ys 8) := hany
            have HYr : Hid (YRow k ys) := hyr
            obtain ⟨a5, cap5, hu⟩ := hown.row.slice
            clear hany hown hwent hyr
            subst hu
            go_wp2_with fail
            refine (below_any W v n g 2 _ hn HC.out H5.out.1 (by omega) (by omega)).mono ?_
            rintro e w6 ⟨t, rfl, ⟨t0, t1⟩, hw6⟩
            have H6 : Hid (Went W v n g w w6) := went_trans H5.out hw6
            have HO6 : Hid (OwnV w.heap.size (.slice a5 ys.length cap5) ys w6) := ownV_went HO5.out hw6 hg
            clear hw6
            by_cases hlt : (ys.length : Int) < 6 + t
            · have hcv := fun W => run_one_string (P := Tryd.prog) W 22 9 5 (97 + (k : Int)) (by omega) (by omega) Tryd.underlying22 Tryd.underlying5 Tryd.underlying9
              have hadd := fun W => run_string_add_sum (P := Tryd.prog) (w := W) ⟨#[121]⟩ (str [byteI (97 + (k : Int))]) (by rw [str_size]; show 1 + 1 ≤ _; omega)
              have hsz : ((⟨#[121]⟩ : ByteArray) ++ str [byteI (97 + (k : Int))]).size ≤ 5 := by rw [ByteArray.size_append, str_size]; show 1 + 1 ≤ 5; omega
              have HYn : Hid (YRow (k + 1) (ys ++ [((⟨#[121]⟩ : ByteArray) ++ str [byteI (97 + (k : Int))], 0)])) := yRow_next (by omega) HYr.out
              generalize ((⟨#[121]⟩ : ByteArray) ++ str [byteI (97 + (k : Int))]) = T at *
              have HA7 : Hid (Went W v n g w (w6.alloc (.cells #[.int .u8 (97 + (k : Int))] 5))) := went_trans H6.out (went_alloc H6.out.1 _)
              have HO7 : Hid (OwnV w.heap.size (.slice a5 ys.length cap5) ys (w6.alloc (.cells #[.int .u8 (97 + (k : Int))] 5))) := World.ownsRow.alloc HO6.out _
              go_wp2_with (at_builtin; refine wpList_append_own _ rfl _ _ 24 rfl w.heap.size 31 i0 _ 2 24 Tryd.underlying24 hi hz0 hz1 hz2 rfl (by decide) _ _ _ rfl (World.ownsRow.alloc HO7.out _) ⟨w6.heap.size + 1, 0, none⟩ 1 1 [.string T, .int .i64 0] rfl rfl (two_atH _ _ (by simp) _ _ _) (two_cell _ _) (by unfold maxLen; omega) (by omega) (by have h8 := went_size HA7.out; simp at h8 ⊢; omega) ?_)
              intro v' w8 hown2 hgrow _
              have R := went_snoc (x := (T, 0)) hown2 HO7.out hgrow rfl hg HA7.out
              have HR : Hid (OwnV w.heap.size v' (ys ++ [(T, 0)]) w8 ∧ Went W v n g w w8) := R
              have HV : Hid (AnyV (ys ++ [(T, 0)]) 8) := ⟨by rw [List.length_append, List.length_singleton]; omega, (anyV_snoc HY.out hsz ⟨by show (-10000 : Int) ≤ 0; omega, by show (0 : Int) ≤ 10000; omega⟩ (.inl HYn.out.1)).2⟩
              clear hown2 hgrow R
              go_wp2
              go_roundw
              case rel => exact ⟨k + 1, _, by go_num, by rw [List.length_append, List.length_singleton]; omega, HV.out, HYn.out, by rw [List.length_append, List.length_singleton]; omega, HR.out.1, HR.out.2⟩
              case measure => simp [intOf]; omega
            · go_wp2
              go_ret
              exact ⟨_, _, rfl, HY.out, HO6.out, H6.out⟩
        · go_wp2
          go_ret
          exact ⟨_, _, rfl, anyV_more HG.out (by omega), HO3.out, H3.out⟩

end Go.Proofs.YtneobgikailhjaaDoor
