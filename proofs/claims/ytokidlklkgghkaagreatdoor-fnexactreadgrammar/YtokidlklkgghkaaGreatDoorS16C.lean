/- The specification reads an expression: l16Expr (printed by mk/s16c.py). -/
import Derived.Test.YtokidlklkgghkaaGreatDoorS16B
import Derived.Test.YtokidlklkgghkaaGreatDoorE16EE
import Derived.Test.YtokidlklkgghkaaGreatDoorE16S
import Derived.Test.YtokidlklkgghkaaGreatDoorS16E0
namespace Go.Proofs.YtokidlklkgghkaaGreatDoor
open Go.RowKit
set_option linter.unusedVariables false

def kN (o : Int) : Nat := (kidsN o).toNat
theorem kN_le (o : Int) : kN o ≤ 2 := by unfold kN kidsN; split; decide; split <;> decide
theorem kN_is (o : Int) : kidsN o = (kN o : Int) := by unfold kN kidsN; split; rfl; split <;> rfl
/-- A list of which is known how many there are, read to the end whatever was read. -/
structure LoopT {α : Type} (f : α → List UInt8) (P : α → Prop) (s : ByteArray) (a1 : Nat) (g1 : Bool) (N : Nat) (ts : List α) (b : Nat) (g : Bool) : Prop where
  lo : a1 ≤ b
  up : b ≤ s.size
  good : g = false → LoopD f P (fun _ => 0) s a1 N ts b
  bad : g1 = true → g = true
  no : g1 = false → g = true → ∀ (ys : List α) (r : List UInt8), ys.length = N → (∀ y ∈ ys, P y) → s.data.toList.drop a1 ≠ (ys.map f).flatten ++ r
section
variable {α : Type} {f : α → List UInt8} {P : α → Prop} {c : Nat} {s : ByteArray} {a1 b b' N : Nat} {ts : List α} {x : α} {g1 g g' : Bool}
theorem LoopT.start (h : a1 ≤ s.size) : LoopT f P s a1 g1 N [] a1 g1 := ⟨Nat.le_refl _, h, fun _ => LoopD.start h, fun e => e, fun e e1 => by rw [e] at e1; cases e1⟩
theorem LoopT.next (h : LoopT f P s a1 g1 N ts b g) (hk : ts.length < N) (hx : Fd f P (fun _ => 0) c s b g x b' g') : LoopT f P s a1 g1 N (ts ++ [x]) b' g' := by
  have hl := h.lo
  have hl' := hx.lo
  refine ⟨by omega, hx.up, fun e => (h.good (hx.flag e)).next hk (hx.pos e) hx.up (hx.yes e), fun e => (hx.bad (h.bad e)).1, fun e e1 ys r h1 h2 => ?_⟩
  cases e2 : g with
  | true => exact h.no e e2 ys r h1 h2
  | false => exact (h.good e2).no hk (hx.no e2 e1) ys r h1 h2
end
theorem node_h1 {x : NodeD} {s : ByteArray} {a : Nat} {r : List UInt8} (e : s.data.toList.drop a = nodeW x ++ r) : s.data.toList.drop a = [byteW x.op] ++ (varB x.num.toNat ++ (shortW x.name ++ ((x.kids.map fun n => [byteW n]).flatten ++ r))) := by rw [e, nodeW, kids_flat]; simp
/-- What the parts of a node tell of it. -/
theorem node_fd {s : ByteArray} {a b1 b2 b3 b4 m : Nat} {o : Int} {nm : ByteArray} {ks : List Int} {g1 g2 g3 g4 : Bool} (h1 : Fd (fun n => [byteW n]) (fun n => 0 ≤ n ∧ n ≤ 127) (fun _ => 0) 0 s a false o b1 g1)
    (h2 : Fd varB (· ≤ 1000000000) (fun _ => 0) 0 s b1 g1 m b2 g2) (h3 : Fd shortW (fun t => t.size ≤ 20000) ByteArray.size 0 s b2 g2 nm b3 g3) (h4 : LoopT (fun n => [byteW n]) (fun n => 0 ≤ n ∧ n ≤ 127) s b3 g3 (kN o) ks b4 g4) (hk : ks.length = kN o) :
    Fd nodeW NodeQ nodeT 2 s a false ⟨o, m, nm, ks⟩ b4 g4 := by
  have l1 := h1.lo
  have l2 := h2.lo
  have l3 := h3.lo
  have l4 := h4.lo
  have hkl := kN_le o
  have hf3 : g4 = false → g3 = false := fun e => by
    cases e3 : g3 with
    | false => rfl
    | true => have := h4.bad e3; rw [e] at this; cases this
  have hsum : ∀ l : List Int, (l.map fun _ => 0 + 1).sum = l.length := fun l => by
    induction l with
    | nil => rfl
    | cons x l ih => rw [List.map_cons, List.sum_cons, ih, List.length_cons]; omega
  have hkid : ∀ x : NodeD, NodeQ x → o = x.op → x.kids.length = kN o := fun x hx e => by
    have h5 := hx.2.2
    rw [e, kN, ← h5]
    rfl
  refine ⟨by omega, h4.up, ?_, fun e => (by cases e), fun _ e x r hx ee => ?_, fun e => ?_, fun e x r hx ee => ?_⟩
  · have t3 := h3.tot
    show a + (nm.size + ks.length) ≤ b4 + 2
    omega
  · have e1 := node_h1 ee
    cases q1 : g1 with
    | true => exact h1.no rfl q1 _ _ hx.1.op e1
    | false =>
      obtain ⟨p1, p2⟩ := h1.yes q1 _ _ hx.1.op e1
      have e2 := drop_nextS e1 p2
      have hn : x.num.toNat ≤ 1000000000 := by have := hx.1.num; omega
      cases q2 : g2 with
      | true => exact h2.no q1 q2 _ _ hn e2
      | false =>
        obtain ⟨p3, p4⟩ := h2.yes q2 _ _ hn e2
        have e3 := drop_nextS e2 p4
        have ht : x.name.size ≤ 20000 := by have := hx.1.name; omega
        cases q3 : g3 with
        | true => exact h3.no q2 q3 _ _ ht e3
        | false =>
          obtain ⟨p5, p6⟩ := h3.yes q3 _ _ ht e3
          exact h4.no q3 e x.kids r (hkid x hx p1) hx.1.kid (drop_nextS e3 p6)
  · have e3 := hf3 e
    have q3 := h3.pos e3
    have q4 := (h4.good e).low
    have q5 := hsum ks
    show a + (nm.size + ks.length) < b4
    omega
  · have e3 := hf3 e
    have e2' := h3.flag e3
    have e1' := h2.flag e2'
    have e1 := node_h1 ee
    obtain ⟨p1, p2⟩ := h1.yes e1' _ _ hx.1.op e1
    have e2 := drop_nextS e1 p2
    have hn : x.num.toNat ≤ 1000000000 := by have := hx.1.num; omega
    obtain ⟨p3, p4⟩ := h2.yes e2' _ _ hn e2
    have e4 := drop_nextS e2 p4
    have ht : x.name.size ≤ 20000 := by have := hx.1.name; omega
    obtain ⟨p5, p6⟩ := h3.yes e3 _ _ ht e4
    have e5 := drop_nextS e4 p6
    obtain ⟨p7, p8⟩ := (h4.good e).det x.kids r (hkid x hx p1) hx.1.kid e5
    rw [hk, ← hkid x hx p1, List.take_length] at p7 p8
    rw [kids_flat, List.length_map] at p8
    refine ⟨?_, ?_⟩
    · have hm : (m : Int) = x.num := by have := hx.1.num; omega
      cases x
      simp only at p1 p5 p7 hm
      rw [p1, hm, p5, p7]
    · rw [nodeW]
      simp only [List.length_cons, List.length_append, List.length_map, List.length_nil] at p2 ⊢
      omega
theorem ndIn_nin {xs : List NodeD} (h : ∀ x ∈ xs, NdIn x) (hl : xs.length ≤ 1048576) : NIn xs := ⟨hl, fun x hx => by
  obtain ⟨h1, h2, h3, h4, h5⟩ := h x hx
  exact ⟨by omega, by omega, by unfold i64; omega, by unfold i64; omega, fun k hk => by have := h5 k hk; unfold i64; omega⟩⟩
theorem RowF.none {α : Type} {sz : Nat} {T : TypeId} {E : (Nat → Prop) → World → List Value → α → Prop} {F : Nat → Prop} {w : World} : RowF sz T E F (.slice Option.none 0 0) ([] : List α) w :=
  ⟨[], fun _ _ => False, rfl, fun _ h => (by cases h), ⟨by simp, .inl ⟨rfl, rfl⟩⟩, ⟨fun k hk => (by cases hk), fun _ _ _ h => h, fun _ _ h => h.elim, fun _ _ _ _ h => h.elim⟩, fun i h => (by cases h)⟩
/-- What is answered of a text that may be an expression's. -/
def ExOut (s : ByteArray) (w : World) (e : Ending) (w' : World) : Prop := Below w.heap.size w w' ∧ ∃ (v : Value) (x : List NodeD) (fl : Bool), e = .returned (.tuple #[.agg #[v], .bool fl]) ∧ RowF 4 93 NodeF (Nw w.heap.size w'.heap.size) v x w' ∧ (∀ y ∈ x, NdIn y) ∧ listT nodeT x ≤ s.size + 3 ∧ (fl = true → listT nodeT x < s.size ∧ ∀ x0, exprB x0 = true → exprT x0 = s.data.toList → x = x0) ∧ (fl = false → ∀ x0, exprB x0 = true → exprT x0 ≠ s.data.toList)
theorem ex_answer {s : ByteArray} {xs : List NodeD} {b : Nat} {g : Bool} (h : Fd (listW nodeW) (ListC 30 NodeQ) (listT nodeT) 3 s 0 false xs b g) :
    (((!g) && (exprB xs && decide (str (exprT xs) = s))) = true → listT nodeT xs < s.size ∧ ∀ x0, exprB x0 = true → exprT x0 = s.data.toList → xs = x0) ∧ (((!g) && (exprB xs && decide (str (exprT xs) = s))) = false → ∀ x0, exprB x0 = true → exprT x0 ≠ s.data.toList) := by
  have hq : ∀ x0, exprB x0 = true → exprT x0 = s.data.toList → ListC 30 NodeQ x0 ∧ s.data.toList.drop 0 = listW nodeW x0 ++ [] := fun x0 h0 e0 => by
    have h1 := listP_expr h0
    obtain ⟨⟨_, hl2⟩, _⟩ := exprB_at h0
    exact ⟨⟨by omega, h1.2⟩, by rw [List.drop_zero, List.append_nil, ← e0, exprT, if_pos h0, ← exprW_list]⟩
  refine ⟨fun e => ?_, fun e x0 h0 e0 => ?_⟩
  · rw [Bool.and_eq_true, Bool.not_eq_true'] at e
    have hp := h.pos e.1
    have hu := h.up
    exact ⟨by omega, fun x0 h0 e0 => (h.yes e.1 x0 [] (hq x0 h0 e0).1 (hq x0 h0 e0).2).1⟩
  · cases hg : g with
    | true => exact h.no rfl hg x0 [] (hq x0 h0 e0).1 (hq x0 h0 e0).2
    | false =>
      obtain rfl := (h.yes hg x0 [] (hq x0 h0 e0).1 (hq x0 h0 e0).2).1
      rw [hg, h0, decide_eq_true (str_bne.2 e0)] at e
      cases e

set_option maxHeartbeats 6400000 in
set_option maxRecDepth 100000 in
theorem spExpr_any (s : ByteArray) (w : World) (hs : s.size ≤ 20000) : Calls Tryz.prog 28 #[.string s] w fun e w' => ExOut s w e w' := by
  obtain ⟨i0, hi, hz0, hz1, hz2⟩ := info_parts Tryz.infoNode
  obtain ⟨j0, ji, jz0, jz1, jz2⟩ := info_parts Tryz.infoInt5
  have HZ : Hid (s.size ≤ 20000) := hs
  have hs' : s.size ≤ 1048576 := by omega
  obtain ⟨A1, hA1⟩ : ∃ W, W = w.alloc (.cells #[.slice none 0 0] 66) := ⟨_, rfl⟩
  obtain ⟨A2, hA2⟩ : ∃ W, W = A1.alloc (.cells #[.string s, .int .i64 0, .bool false] 34) := ⟨_, rfl⟩
  obtain ⟨W0, hA3⟩ : ∃ W, W = A2.alloc (.cells #[.slice none 0 0] 66) := ⟨_, rfl⟩
  have z1 : A1.heap.size = w.heap.size + 1 := by rw [hA1]; simp
  have z2 : A2.heap.size = w.heap.size + 2 := by rw [hA2]; simp [z1]
  have hsz : W0.heap.size = w.heap.size + 3 := by rw [hA3]; simp [z2]
  have hW0 : W0 = ((w.alloc (.cells #[.slice none 0 0] 66)).alloc (.cells #[.string s, .int .i64 0, .bool false] 34)).alloc (.cells #[.slice none 0 0] 66) := by rw [hA3, hA2, hA1]
  have HB0 : Hid (Below w.heap.size w W0) := by rw [hA3]; exact Below.alloc (by rw [hA2]; exact Below.alloc (by rw [hA1]; exact (Below.refl _ _).alloc (Nat.le_refl _) _) (by omega) _) (by omega) _
  have b3 : ∀ j, j < A2.heap.size → W0.heap[j]? = A2.heap[j]? := fun j hj => by rw [hA3]; exact Below.heap_alloc A2 _ j hj
  have b2 : ∀ j, j < A1.heap.size → A2.heap[j]? = A1.heap[j]? := fun j hj => by rw [hA2]; exact Below.heap_alloc A1 _ j hj
  have HR0 : Hid (W0.heap[w.heap.size]? = some (.cells #[.slice none 0 0] 66 (0, 0))) := by rw [Hid, b3 _ (by omega), b2 _ (by omega), hA1]; exact heap_alloc_new w _
  have HC0 : Hid (CuA (w.heap.size + 1) s 0 false W0) := by rw [Hid, CuA, b3 _ (by omega), hA2, ← z1]; exact heap_alloc_new A1 _
  have HE0 : Hid (W0.heap[w.heap.size + 2]? = some (.cells #[.slice none 0 0] 66 (0, 0))) := by rw [Hid, hA3, ← z2]; exact heap_alloc_new A2 _
  have HZ0 : Hid (W0.heap.size = w.heap.size + 3) := hsz
  have HWe : Hid (W0 = _) := hW0
  clear hW0 b2 b3 hA1 hA2 hA3 z1 z2
  clear A1 A2
  go_enter Tryz.func28, Tryz.ntmps28
  go_wp2_with fail
  simp only [Nat.add_assoc, Nat.reduceAdd]
  rw [← HWe.out]
  refine (spVar_any (w.heap.size + 1) s 0 false W0 hs' (Nat.zero_le _) HC0.out).mono ?_
  rintro e w1 ⟨hk1, v1, N, a1, g1, rfl, ⟨rfl, hN⟩, hA1, hF1⟩
  have hz := HZ0.out
  have HA1 : Hid (CuA (w.heap.size + 1) s a1 g1 w1) := hA1
  have HF1 : Hid (Fd varB (· ≤ 1000000000) (fun _ => 0) 0 s 0 false N a1 g1) := hF1
  have HE1 : Hid (w1.heap[w.heap.size + 2]? = some (.cells #[.slice none 0 0] 66 (0, 0))) := (hk1.block _ (by omega) (by omega)).trans HE0.out
  have HR1 : Hid (w1.heap[w.heap.size]? = some (.cells #[.slice none 0 0] 66 (0, 0))) := (hk1.block _ (by omega) (by omega)).trans HR0.out
  have kpB : ∀ {U V : World} {q0 : Nat}, w.heap.size ≤ q0 → w.heap.size ≤ U.heap.size → Kp (fun q => q = q0) U V → Below w.heap.size U V := fun hq hu hk => ⟨hk.os, hk.tape, hk.output, hk.size, fun j hj => hk.block j (by omega) (by omega)⟩
  have HKB : Hid (∀ {U V : World} {q0 : Nat}, w.heap.size ≤ q0 → w.heap.size ≤ U.heap.size → Kp (fun q => q = q0) U V → Below w.heap.size U V) := kpB
  have HB1 : Hid (Below w.heap.size w w1) := HB0.out.trans (kpB (by omega) (by omega) hk1)
  have HS1 : Hid (w.heap.size + 3 ≤ w1.heap.size) := by have := hk1.size; rw [Hid]; omega
  clear hA1 hF1 HWe HC0 HR0 HE0 HB0 hz kpB hk1 hsz HZ0
  go_wp2
  go_loopw [7] (fun iv wr => ∃ (ts : List NodeD) (ov : Value) (b : Nat) (g : Bool), iv = .int .i64 (ts.length : Int) ∧ (ts.length ≤ N ∧ ts.length ≤ 30) ∧ wr.heap[w.heap.size + 2]? = some (.cells #[ov] 66 (0, 0)) ∧ wr.heap[w.heap.size]? = some (.cells #[.slice none 0 0] 66 (0, 0)) ∧ RowF 4 93 NodeF (Nw (w.heap.size + 3) wr.heap.size) ov ts wr ∧ CuA (w.heap.size + 1) s b g wr ∧ (Below w.heap.size w wr ∧ w.heap.size + 3 ≤ wr.heap.size) ∧ LoopS nodeW NodeQ nodeT 2 s a1 g1 N ts b g ∧ ∀ t ∈ ts, NdIn t) (fun iv _ => N - (intOf iv).toNat)
  case atStart => exact ⟨[], _, a1, g1, rfl, ⟨Nat.zero_le _, Nat.zero_le _⟩, HE1.out, HR1.out, RowF.none, HA1.out, ⟨HB1.out, HS1.out⟩, LoopS.start HF1.out.up, fun t ht => by cases ht⟩
  case round =>
    clear HE1 HR1 HA1 HB1 HS1
    obtain ⟨ts, ov, b, g, rfl, ⟨hkN, hk30⟩, hE, hR, ho, hA, ⟨hB, hS3⟩, hL, hIn⟩ := hrel
    obtain ⟨wk, rfl⟩ : ∃ W, W = wr := ⟨wr, rfl⟩
    obtain ⟨oa, oc, rfl⟩ := ho.slice
    have HE : Hid (wk.heap[w.heap.size + 2]? = some (.cells #[.slice oa ts.length oc] 66 (0, 0))) := hE
    have HR : Hid (wk.heap[w.heap.size]? = some (.cells #[.slice none 0 0] 66 (0, 0))) := hR
    have HO : Hid (RowF 4 93 NodeF (Nw (w.heap.size + 3) wk.heap.size) (.slice oa ts.length oc) ts wk) := ho
    have HA : Hid (CuA (w.heap.size + 1) s b g wk) := hA
    have HB : Hid (Below w.heap.size w wk) := hB
    have HL : Hid (LoopS nodeW NodeQ nodeT 2 s a1 g1 N ts b g) := hL
    have HIn : Hid (∀ t ∈ ts, NdIn t) := hIn
    have hbu : b ≤ s.size := hL.up
    have cfl := run_cell (j := 2) hA rfl
    clear hE hR ho hA hB hL hIn
    by_cases hgo : (ts.length < N ∧ ts.length < 30) ∧ g = false
    · obtain ⟨⟨hlt, hlt3⟩, rfl⟩ := hgo
      have i4 : (ts.length : Int) < (N : Int) := by omega
      have i5 : (ts.length : Int) < 30 := by omega
      go_wp2_with fail
      refine (spByte_any (w.heap.size + 1) s b false wk hs' hbu HA.out).mono ?_
      rintro e w5 ⟨hk5, v5, o, b1, q1, rfl, ⟨rfl, ho5⟩, hA5, hF5⟩
      have HF5 : Hid (Fd (fun n => [byteW n]) (fun n => 0 ≤ n ∧ n ≤ 127) (fun _ => 0) 0 s b false o b1 q1) := hF5
      have bal5 : Below w5.heap.size w5 (w5.alloc (.cells #[.int .i64 o, .int .i64 0, .string ⟨#[]⟩, .slice none 0 0] 93)) := (Below.refl _ _).alloc (Nat.le_refl _) _
      have HX5 : Hid ((w5.alloc (.cells #[.int .i64 o, .int .i64 0, .string ⟨#[]⟩, .slice none 0 0] 93)).heap[w5.heap.size]? = some (.cells #[.int .i64 o, .int .i64 0, .string ⟨#[]⟩, .slice none 0 0] 93 (0, 0))) := heap_alloc_new w5 _
      have HA5 : Hid (CuA (w.heap.size + 1) s b1 q1 (w5.alloc (.cells #[.int .i64 o, .int .i64 0, .string ⟨#[]⟩, .slice none 0 0] 93))) := CuA.below hA5 bal5
      have HK5 : Hid (Kp (fun q => q = w.heap.size + 1) wk (w5.alloc (.cells #[.int .i64 o, .int .i64 0, .string ⟨#[]⟩, .slice none 0 0] 93))) := hk5.trans (Kp.below bal5)
      have HX : Hid (wk.heap.size ≤ w5.heap.size) := hk5.size
      have hb1u := hF5.up
      clear hk5 hA5 hF5 bal5 cfl
      go_wp2_with fail
      generalize w5.alloc (.cells #[.int .i64 o, .int .i64 0, .string ⟨#[]⟩, .slice none 0 0] 93) = W5 at *
      generalize w5.heap.size = X at *
      refine (spVar_any (w.heap.size + 1) s b1 q1 W5 hs' hb1u HA5.out).mono ?_
      rintro e w6 ⟨hk6, v6, m, b2, q2, rfl, ⟨rfl, hm6⟩, hA6, hF6⟩
      have hX := HX.out
      have hXW : X < W5.heap.size := (Array.getElem?_eq_some_iff.1 HX5.out).1
      have x6 : w6.heap[X]? = some (.cells #[.int .i64 o, .int .i64 0, .string ⟨#[]⟩, .slice none 0 0] 93 (0, 0)) := (hk6.block _ hXW (by omega)).trans HX5.out
      have c6 := run_cell (j := 1) x6 rfl
      have f6 := run_frozen (j := 1) x6
      have HF6 : Hid (Fd varB (· ≤ 1000000000) (fun _ => 0) 0 s b1 q1 m b2 q2) := hF6
      have HX6 : Hid ((w6.setCell ⟨X, 1, none⟩ (.int .i64 (m : Int))).heap[X]? = some (.cells #[.int .i64 o, .int .i64 (m : Int), .string ⟨#[]⟩, .slice none 0 0] 93 (0, 0))) := by rw [Hid, setCell_self (j := 1) _ x6]; rfl
      have HA6 : Hid (CuA (w.heap.size + 1) s b2 q2 (w6.setCell ⟨X, 1, none⟩ (.int .i64 (m : Int)))) := (setCell_other _ (by omega)).trans hA6
      have HK6 : Hid (Kp (fun q => q = w.heap.size + 1 ∨ q = X) wk (w6.setCell ⟨X, 1, none⟩ (.int .i64 (m : Int)))) := ((HK5.out.trans hk6).up (fun k hk => .inl hk)).trans (Kp.store (.inr rfl))
      have hb2u := hF6.up
      clear hk6 hA6 hF6 x6 HX5 HA5 HK5 hXW
      go_wp2_with fail
      generalize w6.setCell ⟨X, 1, none⟩ (.int .i64 (m : Int)) = W6 at *
      refine (spShort_any (w.heap.size + 1) s b2 q2 W6 hs' hb2u HA6.out).mono ?_
      rintro e w7 ⟨hk7, v7, nm, b3, q3, rfl, ⟨rfl, hnm⟩, hA7, hF7⟩
      have hXW : X < W6.heap.size := (Array.getElem?_eq_some_iff.1 HX6.out).1
      have x7 : w7.heap[X]? = some (.cells #[.int .i64 o, .int .i64 (m : Int), .string ⟨#[]⟩, .slice none 0 0] 93 (0, 0)) := (hk7.block _ hXW (by omega)).trans HX6.out
      have c7 := run_cell (j := 2) x7 rfl
      have f7 := run_frozen (j := 2) x7
      have HF7 : Hid (Fd shortW (fun t => t.size ≤ 20000) ByteArray.size 0 s b2 q2 nm b3 q3) := hF7
      have HX7 : Hid ((w7.setCell ⟨X, 2, none⟩ (.string nm)).heap[X]? = some (.cells #[.int .i64 o, .int .i64 (m : Int), .string nm, .slice none 0 0] 93 (0, 0))) := by rw [Hid, setCell_self (j := 2) _ x7]; rfl
      have HA7 : Hid (CuA (w.heap.size + 1) s b3 q3 (w7.setCell ⟨X, 2, none⟩ (.string nm))) := (setCell_other _ (by omega)).trans hA7
      have HK7 : Hid (Kp (fun q => q = w.heap.size + 1 ∨ q = X) wk (w7.setCell ⟨X, 2, none⟩ (.string nm))) := (HK6.out.trans (hk7.up (fun k hk => .inl hk))).trans (Kp.store (.inr rfl))
      have hb3u := hF7.up
      clear hk7 hA7 hF7 x7 HX6 HA6 HK6 hXW c6 f6
      go_wp2
      generalize w7.setCell ⟨X, 2, none⟩ (.string nm) = W7 at *
      have hkc := kN_le o
      go_loopw [9] (fun jv wq => ∃ (ks : List Int) (kv : Value) (b4 : Nat) (q4 : Bool), jv = .int .i64 (ks.length : Int) ∧ ks.length ≤ kN o ∧ wq.heap[X]? = some (.cells #[.int .i64 o, .int .i64 (m : Int), .string nm, kv] 93 (0, 0)) ∧ OwnZ (X + 1) kv ks wq ∧ CuA (w.heap.size + 1) s b4 q4 wq ∧ Kp (fun q => q = w.heap.size + 1 ∨ X ≤ q) wk wq ∧ LoopT (fun n => [byteW n]) (fun n => 0 ≤ n ∧ n ≤ 127) s b3 q3 (kN o) ks b4 q4 ∧ ∀ k ∈ ks, 0 ≤ k ∧ k ≤ 255) (fun jv _ => kN o - (intOf jv).toNat)
      case atStart => exact ⟨[], _, b3, q3, rfl, Nat.zero_le _, HX7.out, ⟨rfl, .inl ⟨rfl, rfl⟩⟩, HA7.out, HK7.out.up (fun k hk => hk.imp_right (fun e => Nat.le_of_eq e.symm)), LoopT.start hb3u, fun k hk => by cases hk⟩
      case round =>
        clear HX7 HA7 HK7 c7 f7
        obtain ⟨ks, kv, b4, q4, rfl, hk, hx0, ho0, hA0, hK0, hL0, hS0⟩ := hrel
        obtain ⟨wq, rfl⟩ : ∃ W, W = wr := ⟨wr, rfl⟩
        obtain ⟨ka, kc, rfl⟩ := shapeR ho0
        have HXq : Hid (wq.heap[X]? = some (.cells #[.int .i64 o, .int .i64 (m : Int), .string nm, .slice ka ks.length kc] 93 (0, 0))) := hx0
        have HOq : Hid (OwnZ (X + 1) (.slice ka ks.length kc) ks wq) := ho0
        have HAq : Hid (CuA (w.heap.size + 1) s b4 q4 wq) := hA0
        have HKq : Hid (Kp (fun q => q = w.heap.size + 1 ∨ X ≤ q) wk wq) := hK0
        have HLq : Hid (LoopT (fun n => [byteW n]) (fun n => 0 ≤ n ∧ n ≤ 127) s b3 q3 (kN o) ks b4 q4) := hL0
        have HSq : Hid (∀ k ∈ ks, 0 ≤ k ∧ k ≤ 255) := hS0
        have hXq : X < wq.heap.size := (Array.getElem?_eq_some_iff.1 hx0).1
        have y0 := run_cell (j := 0) hx0 rfl
        have c3 : wq.cell? ⟨X, 3, none⟩ = some (.slice ka ks.length kc) := run_cell hx0 rfl
        have hb4u : b4 ≤ s.size := hL0.up
        have hkN2 := kN_is o
        clear hx0 ho0 hA0 hK0 hL0 hS0
        by_cases hlt2 : ks.length < kN o
        · have j4 : (ks.length : Int) < kidsN o := by omega
          go_wp2_with (go_at_call 55; refine (l04Kids_any o _).mono ?_; rintro e wz ⟨rfl, hw⟩; rw [hw]; clear hw)
          refine wp_region_K (k := 5) (S := fun V => V.cell? ⟨X, 3, none⟩ = some (.slice ka ks.length kc)) (by kernel_rfl) ?_ (fun hHeld hcl => ?_)
          · exact c3
          refine wpAnyK_free (i := 0) (d := some 50) (v := ?nv0) (by assumption) rfl (by kernel_rfl) (by kernel_rfl) (by kernel_rfl) (by decide) (by rfl) (fun _ _ _ h => h) (Or.inl ⟨by rfl, ?nh0⟩) (.inr (by assumption)) (fun hcl0 => ?nr0)
          case nh0 => (intro w hSw; (try dsimp only at hSw); go_simp; first | done | with_reducible rfl)
          case' nr0 => (clear hcl; simp only [Act.put, List.setIfInBounds_toArray, List.set_cons_zero, List.set_cons_succ])
          refine wpAnyK_take [1] (i := 1) (d := some 51) (v := ?nv1) (by assumption) rfl (by kernel_rfl) (by kernel_rfl) (by kernel_rfl) (by kernel_rfl) (by kernel_rfl) (by decide) (by rfl) (fun _ _ _ h => h) (Or.inl ⟨by rfl, ?nh1⟩) (by assumption) (fun hcl1 => ?nr1)
          case nh1 => (intro w hSw; (try dsimp only at hSw); go_simp; first | done | with_reducible rfl)
          case' nr1 => (clear hcl0; simp only [Act.put, List.setIfInBounds_toArray, List.set_cons_zero, List.set_cons_succ])
          refine wpAnyK_free (i := 2) (d := some 52) (v := ?nv2) (by assumption) rfl (by kernel_rfl) (by kernel_rfl) (by kernel_rfl) (by decide) (by rfl) (fun _ _ _ h => h) (Or.inl ⟨by rfl, ?nh2⟩) (.inr (by assumption)) (fun hcl2 => ?nr2)
          case nh2 => (intro w hSw; (try dsimp only at hSw); go_simp; first | done | with_reducible rfl)
          case' nr2 => (clear hcl1; simp only [Act.put, List.setIfInBounds_toArray, List.set_cons_zero, List.set_cons_succ])
          refine wpAnyK_one (i := 3) (by assumption) (by kernel_rfl) rfl (fun K hK => ?_)
          go_simp
          go_at_call 27
          have hAd : CuA (w.heap.size + 1) s b4 q4 wq.drew := HAq.out
          refine (spByte_any (w.heap.size + 1) s b4 q4 wq.drew hs' hb4u hAd).mono ?_
          rintro e w8 ⟨hk8, v8, kn, b5, q5, rfl, ⟨rfl, hkn⟩, hA8, hF8⟩
          have hk8' : Kp (fun q => q = w.heap.size + 1) wq w8 := (Kp.below ((Below.refl _ _).drew : Below wq.heap.size wq wq.drew)).trans hk8
          have hX0 := HX.out
          have d3 := kp_cellR c3 hk8' (by show ¬ X = w.heap.size + 1; omega)
          go_simp
          refine hK.out _ _ d3 (fun hcl3 => ?_)
          have bal8 : Below w8.heap.size w8 (w8.alloc (.cells #[.int .i64 kn] 3)) := (Below.refl _ _).alloc (Nat.le_refl _) _
          refine wpAnyK_one (i := 4) (by assumption) (by kernel_rfl) rfl (fun K hK => ?_)
          go_simp
          refine hK.out _ _ (cell_keep d3 bal8) (fun hcl4 => ?_)
          have O8 : OwnZ (X + 1) (.slice ka ks.length kc) ks w8 := own_ag HOq.out (F := fun q => X + 1 ≤ q) (hk8'.ag (fun q hq e => by omega)) (fun q hq => (World.ownsRow.lt HOq.out q hq).1)
          have hs8 : wq.heap.size ≤ w8.heap.size := hk8'.size
          refine wpAnyK_past (i := 5) (by assumption) (by kernel_rfl) rfl (by kernel_rfl) (fun K hK => ?_)
          refine step_append_lies _ (by rfl) _ _ _ (by rfl) (X + 1) 3 j0 _ 1 8 Tryz.underlying91 ji jz0 jz1 jz2 rfl (by omega) _ _ _ (by rfl) (World.ownsRow.alloc O8 _) ⟨w8.heap.size, 0, none⟩ 1 1 [.int .i64 kn] (by rfl) (by rfl) (cellsR _ _ _) (by intro u hu; simp only [List.mem_cons, List.not_mem_nil, or_false] at hu; rcases hu with rfl; rfl) (by omega) (by show ks.length + 1 ≤ _; unfold maxLen; omega) (by show (ks.length + 1) * 8 ≤ _; omega) (by simp; omega) (w8.heap.size + 1) (by simp) ?_
          intro gg capg w9 hown9 hgrow hat hlt9
          have hgs : w8.heap.size ≤ w9.heap.size := Nat.le_trans bal8.size hgrow.size
          have hne : ∀ j, j ≤ X → some j ≠ (Value.slice ka ks.length kc).ownBlock := fun j hj e => by have := (World.ownsRow.lt O8 _ e.symm).1; omega
          have hgb : ∀ j, j < w8.heap.size → some j ≠ (Value.slice ka ks.length kc).ownBlock → w9.heap[j]? = w8.heap[j]? := fun j hj hn => (hgrow.block j (Nat.lt_of_lt_of_le hj bal8.size) hn).trans (bal8.block j hj)
          have X8 : w8.heap[X]? = some (.cells #[.int .i64 o, .int .i64 (m : Int), .string nm, .slice ka ks.length kc] 93 (0, 0)) := (hk8'.block _ hXq (by omega)).trans HXq.out
          have X9 : w9.heap[X]? = some (.cells #[.int .i64 o, .int .i64 (m : Int), .string nm, .slice ka ks.length kc] 93 (0, 0)) := (hgb _ (by omega) (hne _ (Nat.le_refl _))).trans X8
          have c9 := run_cell (j := 3) X9 rfl
          have f9 := run_frozen (j := 3) X9
          have A9 : CuA (w.heap.size + 1) s b5 q5 w9 := (hgb _ (by omega) (hne _ (by omega))).trans hA8
          have hwk : wk.heap.size ≤ wq.heap.size := HKq.out.size
          have K9 : Kp (fun q => q = w.heap.size + 1 ∨ X ≤ q) wk w9 := ⟨hgrow.os.trans (bal8.os.trans (hk8'.os.trans HKq.out.os)), hgrow.tape.trans (bal8.tape.trans (hk8'.tape.trans HKq.out.tape)), hgrow.output.trans (bal8.output.trans (hk8'.output.trans HKq.out.output)), by omega, fun j hj hF => (hgb j (by omega) (hne j (by omega))).trans ((hk8'.block j (by omega) (fun e => hF (.inl e))).trans (HKq.out.block j hj hF))⟩
          have HX10 : Hid ((w9.setCell ⟨X, 3, none⟩ (.slice (some ⟨gg, 0, none⟩) (ks.length + 1) capg)).heap[X]? = some (.cells #[.int .i64 o, .int .i64 (m : Int), .string nm, .slice (some ⟨gg, 0, none⟩) (ks.length + 1) capg] 93 (0, 0))) := setCell_self (j := 3) _ X9
          have HA10 : Hid (CuA (w.heap.size + 1) s b5 q5 (w9.setCell ⟨X, 3, none⟩ (.slice (some ⟨gg, 0, none⟩) (ks.length + 1) capg))) := (setCell_other _ (by omega)).trans A9
          have HK10 : Hid (Kp (fun q => q = w.heap.size + 1 ∨ X ≤ q) wk (w9.setCell ⟨X, 3, none⟩ (.slice (some ⟨gg, 0, none⟩) (ks.length + 1) capg))) := K9.trans (Kp.store (.inr (Nat.le_refl _)))
          have HO10 : Hid (OwnZ (X + 1) (.slice (some ⟨gg, 0, none⟩) (ks.length + 1) capg) (ks ++ [kn]) (w9.setCell ⟨X, 3, none⟩ (.slice (some ⟨gg, 0, none⟩) (ks.length + 1) capg))) := by
            have h1 : OwnZ (X + 1) (.slice (some ⟨gg, 0, none⟩) (ks.length + 1) capg) (ks ++ [kn]) w9 := by
              rw [OwnZ, List.length_append, zv, List.map_append]
              exact hown9
            exact own_ag h1 (F := fun q => X + 1 ≤ q) ((Kp.store (F := fun q => q = X) (w := w9) (o := 3) (u := .slice (some ⟨gg, 0, none⟩) (ks.length + 1) capg) rfl).ag (fun q hq e => by omega)) (fun q hq => (World.ownsRow.lt h1 q hq).1)
          have HL10 : Hid (LoopT (fun n => [byteW n]) (fun n => 0 ≤ n ∧ n ≤ 127) s b3 q3 (kN o) (ks ++ [kn]) b5 q5) := HLq.out.next hlt2 hF8
          have HS10 : Hid (∀ k ∈ ks ++ [kn], 0 ≤ k ∧ k ≤ 255) := fun k hk => by
            rcases List.mem_append.1 hk with hk | hk
            · exact HSq.out k hk
            · rw [List.mem_singleton.1 hk]; exact hkn
          refine hK.out _ _ (fun hcl5 => ?_)
          clear hcl3 hcl4 hgrow hat hown9 hgs hgb hne bal8 hHeld K9 A9 X8 X9 O8 hk8 hk8' hA8 hF8 d3 c3 y0
          refine wpAnyK_past (i := 6) (by assumption) (by kernel_rfl) rfl (by kernel_rfl) (fun K hK => ?_)
          go_simp
          refine hK.out _ _ (fun hcl6 => ?_)
          refine wpAnyK_past (i := 7) (by assumption) (by kernel_rfl) rfl (by kernel_rfl) (fun K hK => ?_)
          go_simp
          refine hK.out _ _ (fun hcl7 => ?_)
          refine wpAnyK_done (by kernel_rfl) ?_
          clear hcl5 hcl6 hcl7 c9 f9
          go_wp2
          go_roundw
          case rel => exact ⟨ks ++ [kn], _, b5, q5, by rw [List.length_append, List.length_singleton]; go_num, by rw [List.length_append, List.length_singleton]; omega, HX10.out, HO10.out, HA10.out, HK10.out, HL10.out, HS10.out⟩
          case measure => simp [intOf]; omega
        · have hkl : ks.length = kN o := by omega
          have j4 : ¬ (ks.length : Int) < kidsN o := by omega
          have HN : Hid (Fd nodeW NodeQ nodeT 2 s b false ⟨o, m, nm, ks⟩ b4 q4) := node_fd HF5.out HF6.out HF7.out HLq.out hkl
          have HLn : Hid (LoopS nodeW NodeQ nodeT 2 s a1 g1 N (ts ++ [⟨o, m, nm, ks⟩]) b4 q4) := HL.out.next hlt HN.out
          have hX0 := HX.out
          have eE : wq.heap[w.heap.size + 2]? = some (.cells #[.slice oa ts.length oc] 66 (0, 0)) := (HKq.out.block _ (by omega) (by omega)).trans HE.out
          have HRq : Hid (wq.heap[w.heap.size]? = some (.cells #[.slice none 0 0] 66 (0, 0))) := (HKq.out.block _ (by omega) (by omega)).trans HR.out
          have HEq : Hid (wq.heap[w.heap.size + 2]? = some (.cells #[.slice oa ts.length oc] 66 (0, 0))) := eE
          have e0 := run_cell (j := 0) eE rfl
          have y1 := run_cell (j := 1) HXq.out rfl
          have y2 := run_cell (j := 2) HXq.out rfl
          have hwk : wk.heap.size ≤ wq.heap.size := HKq.out.size
          obtain ⟨cs, hcs, hAdd⟩ := (HO.out.ag stabNode (HKq.out.ag (fun q hq e => by have := hq.1; have := hq.2; omega))).add stabNode (by omega) hwk
          have HCs : Hid (wq.ownsRow 0 93 4 (.slice oa ts.length oc) ts.length cs) := hcs
          have HAdd : Hid (_) := hAdd
          have hne : ∀ q, (Value.slice oa ts.length oc).ownBlock = some q → w.heap.size + 3 ≤ q ∧ q < wk.heap.size := fun q hq => (HO.out.lt q hq).1
          have HEn : Hid (NodeF (Nw wk.heap.size wq.heap.size) wq [.int .i64 o, .int .i64 (m : Int), .string nm, .slice ka ks.length kc] ⟨o, m, nm, ks⟩) := ⟨_, rfl, own_baseR HOq.out (Nat.zero_le _), fun q hq => by have := World.ownsRow.lt HOq.out q hq; exact ⟨by omega, this.2⟩⟩
          have HS5 : Hid (∀ x ∈ ts ++ [(⟨o, m, nm, ks⟩ : NodeD)], NdIn x) := fun x hx => by
            rcases List.mem_append.1 hx with hx | hx
            · exact HIn.out x hx
            · rw [List.mem_singleton.1 hx]; exact ⟨ho5, ⟨Int.natCast_nonneg m, by show (m : Int) ≤ 1000000000; omega⟩, hnm, by show ks.length ≤ 2; omega, HSq.out⟩
          clear hcs hAdd eE
          have HKl : Hid (ks.length = kN o) := hkl
          clear hkl hlt2
          go_wp2_with (first | (go_at_call 55; refine (l04Kids_any o _).mono ?_; rintro e wz ⟨rfl, hw⟩; rw [hw]; clear hw) | (at_builtin; refine wpList_append_own_at _ rfl _ _ 64 rfl 0 93 i0 _ 4 56 Tryz.underlying64 hi hz0 hz1 hz2 rfl (by decide) _ _ _ rfl (World.ownsRow.alloc HCs.out _) ⟨_, 0, none⟩ 1 1 [.int .i64 o, .int .i64 (m : Int), .string nm, .slice ka ks.length kc] rfl rfl (cellsR _ _ _) (by intro u hu; simp only [List.mem_cons, List.not_mem_nil, or_false] at hu; rcases hu with rfl | rfl | rfl | rfl <;> rfl) (by unfold maxLen; omega) (by omega) (Nat.zero_le _) ?_))
          intro v6 w6 hown6 hgr6 _ hat6
          obtain ⟨a6, k6, rfl⟩ := shapeR hown6
          have hs6 : wq.heap.size + 1 ≤ w6.heap.size := by have := hgr6.size; simpa using this
          have hgb : ∀ j, j < wq.heap.size → (∀ q, (Value.slice oa ts.length oc).ownBlock = some q → j ≠ q) → w6.heap[j]? = wq.heap[j]? := fun j hj hn => (hgr6.block j (by simp; omega) (fun e => hn _ e.symm rfl)).trans (Below.heap_alloc wq _ j (by omega))
          have hO6 : RowF 4 93 NodeF (Nw (w.heap.size + 3) w6.heap.size) (.slice a6 (ts.length + 1) k6) (ts ++ [⟨o, m, nm, ks⟩]) w6 := HAdd.out wq w6 _ _ _ ⟨o, m, nm, ks⟩ rfl (Below.refl _ _) HEn.out hown6 hgr6 (hatR hat6)
          have hE6 : w6.heap[w.heap.size + 2]? = some (.cells #[.slice oa ts.length oc] 66 (0, 0)) := (hgb _ (by omega) (fun q hq => by have := hne q hq; omega)).trans HEq.out
          have e6 := run_cell (j := 0) hE6 rfl
          have f6 := run_frozen (j := 0) hE6
          have HE9 : Hid ((w6.setCell ⟨w.heap.size + 2, 0, none⟩ (.slice a6 (ts.length + 1) k6)).heap[w.heap.size + 2]? = some (.cells #[.slice a6 (ts.length + 1) k6] 66 (0, 0))) := setCell_self (j := 0) _ hE6
          have HR9 : Hid ((w6.setCell ⟨w.heap.size + 2, 0, none⟩ (.slice a6 (ts.length + 1) k6)).heap[w.heap.size]? = some (.cells #[.slice none 0 0] 66 (0, 0))) := (setCell_other _ (by omega)).trans ((hgb _ (by omega) (fun q hq => by have := hne q hq; omega)).trans HRq.out)
          have HA9 : Hid (CuA (w.heap.size + 1) s b4 q4 (w6.setCell ⟨w.heap.size + 2, 0, none⟩ (.slice a6 (ts.length + 1) k6))) := (setCell_other _ (by omega)).trans ((hgb _ (by omega) (fun q hq => by have := hne q hq; omega)).trans HAq.out)
          have HO9 : Hid (RowF 4 93 NodeF (Nw (w.heap.size + 3) (w6.setCell ⟨w.heap.size + 2, 0, none⟩ (.slice a6 (ts.length + 1) k6)).heap.size) (.slice a6 (ts.length + 1) k6) (ts ++ [⟨o, m, nm, ks⟩]) (w6.setCell ⟨w.heap.size + 2, 0, none⟩ (.slice a6 (ts.length + 1) k6))) :=
            (hO6.ag stabNode ((Kp.store (F := fun q => q = w.heap.size + 2) (w := w6) (o := 0) (u := .slice a6 (ts.length + 1) k6) rfl).ag (fun q hq e => by have := hq.1; omega))).up (fun q hq => ⟨hq.1, by have h4 := hq.2; simpa [World.setCell] using h4⟩)
          have HB9 : Hid (Below w.heap.size w (w6.setCell ⟨w.heap.size + 2, 0, none⟩ (.slice a6 (ts.length + 1) k6)) ∧ w.heap.size + 3 ≤ (w6.setCell ⟨w.heap.size + 2, 0, none⟩ (.slice a6 (ts.length + 1) k6)).heap.size) := by
            have h1 : Below w.heap.size w w6 := ⟨hgr6.os.trans (HKq.out.os.trans HB.out.os), hgr6.tape.trans (HKq.out.tape.trans HB.out.tape), hgr6.output.trans (HKq.out.output.trans HB.out.output), by omega, fun j hj => (hgb j (by omega) (fun q hq => by have := hne q hq; omega)).trans ((HKq.out.block j (by omega) (by omega)).trans (HB.out.block j hj))⟩
            exact ⟨h1.setCell (Nat.le_add_right _ 2) _, by simp [World.setCell]; omega⟩
          clear hown6 hgr6 hat6 hgb hO6 hE6
          go_wp2
          go_roundw
          case rel => exact ⟨ts ++ [⟨o, m, nm, ks⟩], _, b4, q4, by rw [List.length_append, List.length_singleton]; go_num, ⟨by rw [List.length_append, List.length_singleton]; omega, by rw [List.length_append, List.length_singleton]; omega⟩, HE9.out, HR9.out, HO9.out, HA9.out, HB9.out, HLn.out, HS5.out⟩
          case measure => simp [intOf]; omega
    · have HX : Hid (g = false → N ≤ ts.length ∨ 30 ≤ ts.length) := fun e => by
        by_cases h1 : ts.length < N
        · by_cases h2 : ts.length < 30
          · exact absurd ⟨⟨h1, h2⟩, e⟩ hgo
          · exact .inr (by omega)
        · exact .inl (by omega)
      have HFd : Hid (Fd (listW nodeW) (ListC 30 NodeQ) (listT nodeT) 3 s 0 false ts b g) := HL.out.fin (by decide) HF1.out hkN HX.out
      have HAn : Hid (_) := ex_answer HFd.out
      have HT : Hid (listT nodeT ts ≤ s.size + 3) := by have := HFd.out.tot; have := HFd.out.up; rw [Hid]; omega
      have hNr : NRow wk (.slice oa ts.length oc) ts := HO.out.nRow
      have HSp : Hid (∀ _ : Unit, _) := fun _ => specExprText_any (.slice oa ts.length oc) ts wk (ndIn_nin HIn.out (by omega)) hNr
      have e0 := run_cell (j := 0) HE.out rfl
      have hor : (¬ ts.length < N) ∨ (ts.length < N ∧ ¬ ts.length < 30) ∨ ((ts.length < N ∧ ts.length < 30) ∧ g = true) := by
        by_cases h1 : ts.length < N
        · by_cases h2 : ts.length < 30
          · exact .inr (.inr ⟨⟨h1, h2⟩, by cases g <;> simp_all⟩)
          · exact .inr (.inl ⟨h1, h2⟩)
        · exact .inl h1
      clear hNr HX HL HF1 hgo
      have HKeep : Hid (∀ (W : World) (u a0 a1 : Value), (W.cell? ⟨w.heap.size + 2, 0, none⟩ = some a0 ∧ W.cell? ⟨w.heap.size + 1, 2, none⟩ = some a1) → (W.setCell ⟨w.heap.size, 0, none⟩ u).cell? ⟨w.heap.size + 2, 0, none⟩ = some a0 ∧ (W.setCell ⟨w.heap.size, 0, none⟩ u).cell? ⟨w.heap.size + 1, 2, none⟩ = some a1) := fun W u a0 a1 h =>
        ⟨kp_cellR h.1 (Kp.store (F := fun q => q = w.heap.size) rfl) (by show ¬ w.heap.size + 2 = w.heap.size; omega), kp_cellR h.2 (Kp.store (F := fun q => q = w.heap.size) rfl) (by show ¬ w.heap.size + 1 = w.heap.size; omega)⟩

      cases g with
      | true =>
        rw [Bool.not_true, Bool.false_and] at HAn
        generalize str (exprT ts) = st at *
        generalize exprB ts = ok at *
        rcases hor with hno | ⟨hyes, hno⟩ | ⟨⟨hyes, hyes3⟩, hgt⟩
        · have i4 : ¬ (ts.length : Int) < (N : Int) := by omega
          go_wp2_with fail
          refine (HSp.out ()).mono ?_
          rintro e w6 ⟨rfl, hb6⟩
          have E6 : w6.heap[w.heap.size + 2]? = some (.cells #[.slice oa ts.length oc] 66 (0, 0)) := (hb6.block _ (by omega)).trans HE.out
          have R6 : w6.heap[w.heap.size]? = some (.cells #[.slice none 0 0] 66 (0, 0)) := (hb6.block _ (by omega)).trans HR.out
          have A6 : CuA (w.heap.size + 1) s b true w6 := CuA.below HA.out hb6
          have O6 : Hid (RowF 4 93 NodeF (Nw (w.heap.size + 3) wk.heap.size) (.slice oa ts.length oc) ts w6) := HO.out.below stabNode hb6
          have B6 : Hid (Below w.heap.size w w6) := HB.out.trans (hb6.mono HB.out.size)
          have s6 : Hid (wk.heap.size ≤ w6.heap.size) := hb6.size
          have HR6 : Hid (_) := R6
          have p0 := run_cell (j := 0) E6 rfl
          have p1 := run_cell (j := 2) A6 rfl
          have p2 := run_cell (j := 0) R6 rfl
          have p3 := run_frozen (j := 0) R6
          clear E6 R6 A6 hb6
          go_wp2_with fail
          refine wp_region_K (k := 14) (S := fun V => V.cell? ⟨w.heap.size + 2, 0, none⟩ = some (.slice oa ts.length oc) ∧ V.cell? ⟨w.heap.size + 1, 2, none⟩ = some (.bool true)) (by kernel_rfl) ?_ (fun hHeld hcl => ?_)
          · exact ⟨p0, p1⟩
          refine wpAnyK_take [0] (i := 0) (d := some 68) (v := ?r1v0) (by assumption) rfl (by kernel_rfl) (by kernel_rfl) (by kernel_rfl) (by kernel_rfl) (by kernel_rfl) (by decide) (by rfl) (fun _ _ _ h => h) (Or.inl ⟨by rfl, ?r1h0⟩) (by assumption) (fun hcl0 => ?r1r0)
          case r1h0 => (intro w hSw; (try dsimp only at hSw); go_simp; first | done | with_reducible rfl)
          case' r1r0 => (clear hcl; simp only [Act.put, List.setIfInBounds_toArray, List.set_cons_zero, List.set_cons_succ])
          refine wpAnyK_free (i := 1) (d := some 69) (v := ?r1v1) (by assumption) rfl (by kernel_rfl) (by kernel_rfl) (by kernel_rfl) (by decide) (by rfl) (fun _ _ _ h => h) (Or.inl ⟨by rfl, ?r1h1⟩) (.inr (by assumption)) (fun hcl1 => ?r1r1)
          case r1h1 => (intro w hSw; (try dsimp only at hSw); go_simp; first | done | with_reducible rfl)
          case' r1r1 => (clear hcl0; simp only [Act.put, List.setIfInBounds_toArray, List.set_cons_zero, List.set_cons_succ])
          refine wpAnyK_free (i := 2) (d := some 70) (v := ?r1v2) (by assumption) rfl (by kernel_rfl) (by kernel_rfl) (by kernel_rfl) (by decide) (by rfl) (fun _ _ _ h => h) (Or.inl ⟨by rfl, ?r1h2⟩) (.inr (by assumption)) (fun hcl2 => ?r1r2)
          case r1h2 => (intro w hSw; (try dsimp only at hSw); go_simp; first | done | with_reducible rfl)
          case' r1r2 => (clear hcl1; simp only [Act.put, List.setIfInBounds_toArray, List.set_cons_zero, List.set_cons_succ])
          refine wpAnyK_free (i := 3) (d := some 71) (v := ?r1v3) (by assumption) rfl (by kernel_rfl) (by kernel_rfl) (by kernel_rfl) (by decide) (by rfl) (fun _ _ _ h => h) (Or.inl ⟨by rfl, ?r1h3⟩) (.inr (by assumption)) (fun hcl3 => ?r1r3)
          case r1h3 => (intro w hSw; (try dsimp only at hSw); go_simp; first | done | with_reducible rfl)
          case' r1r3 => (clear hcl2; simp only [Act.put, List.setIfInBounds_toArray, List.set_cons_zero, List.set_cons_succ])
          refine wpAnyK_take [9, 8, 6, 5, 4] (i := 4) (d := some 72) (v := ?r1v4) (by assumption) rfl (by kernel_rfl) (by kernel_rfl) (by kernel_rfl) (by kernel_rfl) (by kernel_rfl) (by decide) (by rfl) (fun _ _ _ h => h) (Or.inl ⟨by rfl, ?r1h4⟩) (by assumption) (fun hcl4 => ?r1r4)
          case r1h4 => (intro w hSw; (try dsimp only at hSw); go_simp; first | done | with_reducible rfl)
          case' r1r4 => (clear hcl3; simp only [Act.put, List.setIfInBounds_toArray, List.set_cons_zero, List.set_cons_succ])
          refine wpAnyK_free (i := 5) (d := some 73) (v := ?r1v5) (by assumption) rfl (by kernel_rfl) (by kernel_rfl) (by kernel_rfl) (by decide) (by rfl) (fun _ _ _ h => h) (Or.inl ⟨by rfl, ?r1h5⟩) (.inr (by assumption)) (fun hcl5 => ?r1r5)
          case r1h5 => (intro w hSw; (try dsimp only at hSw); go_simp; first | done | with_reducible rfl)
          case' r1r5 => (clear hcl4; simp only [Act.put, List.setIfInBounds_toArray, List.set_cons_zero, List.set_cons_succ])
          refine wpAnyK_free (i := 6) (d := some 74) (v := ?r1v6) (by assumption) rfl (by kernel_rfl) (by kernel_rfl) (by kernel_rfl) (by decide) (by rfl) (fun _ _ _ h => h) (Or.inl ⟨by rfl, ?r1h6⟩) (.inr (by assumption)) (fun hcl6 => ?r1r6)
          case r1h6 => (intro w hSw; (try dsimp only at hSw); go_simp; first | done | with_reducible rfl)
          case' r1r6 => (clear hcl5; simp only [Act.put, List.setIfInBounds_toArray, List.set_cons_zero, List.set_cons_succ])
          refine wpAnyK_free (i := 7) (d := some 75) (v := undef) (by assumption) rfl (by kernel_rfl) (by kernel_rfl) (by kernel_rfl) (by decide) (by rfl) (fun _ _ _ h => h) (Or.inr ⟨by rfl, rfl⟩) (.inr (by assumption)) (fun hcl7 => ?r1r7)
          case' r1r7 => (clear hcl6; simp only [Act.put, List.setIfInBounds_toArray, List.set_cons_zero, List.set_cons_succ])
          refine wpAnyK_free (i := 8) (d := some 76) (v := ?r1v8) (by assumption) rfl (by kernel_rfl) (by kernel_rfl) (by kernel_rfl) (by decide) (by rfl) (fun _ _ _ h => h) (Or.inl ⟨by rfl, ?r1h8⟩) (.inr (by assumption)) (fun hcl8 => ?r1r8)
          case r1h8 => (intro w hSw; (try dsimp only at hSw); go_simp; first | done | with_reducible rfl)
          case' r1r8 => (clear hcl7; simp only [Act.put, List.setIfInBounds_toArray, List.set_cons_zero, List.set_cons_succ])
          refine wpAnyK_free (i := 9) (d := some 77) (v := ?r1v9) (by assumption) rfl (by kernel_rfl) (by kernel_rfl) (by kernel_rfl) (by decide) (by rfl) (fun _ _ _ h => h) (Or.inl ⟨by rfl, ?r1h9⟩) (.inr (by assumption)) (fun hcl9 => ?r1r9)
          case r1h9 => (intro w hSw; (try dsimp only at hSw); go_simp; first | done | with_reducible rfl)
          case' r1r9 => (clear hcl8; simp only [Act.put, List.setIfInBounds_toArray, List.set_cons_zero, List.set_cons_succ])
          refine wpAnyK_free (i := 10) (d := some 78) (v := undef) (by assumption) rfl (by kernel_rfl) (by kernel_rfl) (by kernel_rfl) (by decide) (by rfl) (fun _ _ _ h => h) (Or.inr ⟨by rfl, rfl⟩) (.inr (by assumption)) (fun hcl10 => ?r1r10)
          case' r1r10 => (clear hcl9; simp only [Act.put, List.setIfInBounds_toArray, List.set_cons_zero, List.set_cons_succ])
          refine wpAnyK_free (i := 11) (d := some 79) (v := undef) (by assumption) rfl (by kernel_rfl) (by kernel_rfl) (by kernel_rfl) (by decide) (by rfl) (fun _ _ _ h => h) (Or.inr ⟨by rfl, rfl⟩) (.inr (by assumption)) (fun hcl11 => ?r1r11)
          case' r1r11 => (clear hcl10; simp only [Act.put, List.setIfInBounds_toArray, List.set_cons_zero, List.set_cons_succ])
          refine wpAnyK_free (i := 12) (d := some 80) (v := undef) (by assumption) rfl (by kernel_rfl) (by kernel_rfl) (by kernel_rfl) (by decide) (by rfl) (fun _ _ _ h => h) (Or.inr ⟨by rfl, rfl⟩) (.inr (by assumption)) (fun hcl12 => ?r1r12)
          case' r1r12 => (clear hcl11; simp only [Act.put, List.setIfInBounds_toArray, List.set_cons_zero, List.set_cons_succ])
          refine wpAnyK_free (i := 13) (d := some 81) (v := ?r1v13) (by assumption) rfl (by kernel_rfl) (by kernel_rfl) (by kernel_rfl) (by decide) (by rfl) (fun _ _ _ h => h) (Or.inl ⟨by rfl, ?r1h13⟩) (.inr (by assumption)) (fun hcl13 => ?r1r13)
          case r1h13 => (intro w hSw; (try dsimp only at hSw); go_simp; first | done | with_reducible rfl)
          case' r1r13 => (clear hcl12; simp only [Act.put, List.setIfInBounds_toArray, List.set_cons_zero, List.set_cons_succ])
          refine wpAnyK_past (i := 14) (by assumption) (by kernel_rfl) rfl (by kernel_rfl) (fun K hK => ?_)
          go_simp
          refine hK.out _ _ (fun hcl14 => ?_)
          refine wpAnyK_past (i := 15) (by assumption) (by kernel_rfl) rfl (by kernel_rfl) (fun K hK => ?_)
          go_simp
          refine hK.out _ _ (fun hcl15 => ?_)
          refine wpAnyK_done (by kernel_rfl) ?_
          clear hHeld hcl13 hcl14 hcl15
          have h9 : (w6.setCell ⟨w.heap.size, 0, none⟩ (.slice oa ts.length oc)).heap[w.heap.size]? = some (.cells #[.slice oa ts.length oc] 66 (0, 0)) := setCell_self (j := 0) _ HR6.out
          have z0 : (w6.setCell ⟨w.heap.size, 0, none⟩ (.slice oa ts.length oc)).cell? ⟨w.heap.size, 0, none⟩ = some (.slice oa ts.length oc) := run_cell h9 rfl
          have HB9 : Hid (∀ n, Below w.heap.size w ((w6.setCell ⟨w.heap.size, 0, none⟩ (.slice oa ts.length oc)).drewN n)) := fun n => bel_drewN (B6.out.setCell (Nat.le_refl _) _) n
          have HO9 : Hid (∀ n, RowF 4 93 NodeF (Nw w.heap.size ((w6.setCell ⟨w.heap.size, 0, none⟩ (.slice oa ts.length oc)).drewN n).heap.size) (.slice oa ts.length oc) ts ((w6.setCell ⟨w.heap.size, 0, none⟩ (.slice oa ts.length oc)).drewN n)) := fun n => by
            have h3 := (O6.out.ag stabNode ((Kp.store (F := fun q => q = w.heap.size) (w := w6) (o := 0) (u := .slice oa ts.length oc) rfl).ag (fun q hq e => by have := hq.1; omega))).below stabNode (bel_drewN (Below.refl _ _) n)
            have h4 := s6.out
            exact h3.up (fun q hq => ⟨by have := hq.1; omega, by have := hq.2; show q < (w6.setCell ⟨w.heap.size, 0, none⟩ (.slice oa ts.length oc)).heap.size; simp [World.setCell]; omega⟩)
          clear h9
          go_wp2
          refine bodyPost_ret (by simp [results, Tryz.results28, go_sem, z0]; try rfl) rfl ?_
          exact ⟨HB9.out 1, _, ts, _, rfl, HO9.out 1, HIn.out, HT.out, fun e => (by cases e), fun _ => HAn.out.2 (by trivial)⟩
        · have i4 : (ts.length : Int) < (N : Int) := by omega
          have i5 : ¬ (ts.length : Int) < 30 := by omega
          go_wp2_with fail
          refine (HSp.out ()).mono ?_
          rintro e w6 ⟨rfl, hb6⟩
          have E6 : w6.heap[w.heap.size + 2]? = some (.cells #[.slice oa ts.length oc] 66 (0, 0)) := (hb6.block _ (by omega)).trans HE.out
          have R6 : w6.heap[w.heap.size]? = some (.cells #[.slice none 0 0] 66 (0, 0)) := (hb6.block _ (by omega)).trans HR.out
          have A6 : CuA (w.heap.size + 1) s b true w6 := CuA.below HA.out hb6
          have O6 : Hid (RowF 4 93 NodeF (Nw (w.heap.size + 3) wk.heap.size) (.slice oa ts.length oc) ts w6) := HO.out.below stabNode hb6
          have B6 : Hid (Below w.heap.size w w6) := HB.out.trans (hb6.mono HB.out.size)
          have s6 : Hid (wk.heap.size ≤ w6.heap.size) := hb6.size
          have HR6 : Hid (_) := R6
          have p0 := run_cell (j := 0) E6 rfl
          have p1 := run_cell (j := 2) A6 rfl
          have p2 := run_cell (j := 0) R6 rfl
          have p3 := run_frozen (j := 0) R6
          clear E6 R6 A6 hb6
          go_wp2_with fail
          refine wp_region_K (k := 14) (S := fun V => V.cell? ⟨w.heap.size + 2, 0, none⟩ = some (.slice oa ts.length oc) ∧ V.cell? ⟨w.heap.size + 1, 2, none⟩ = some (.bool true)) (by kernel_rfl) ?_ (fun hHeld hcl => ?_)
          · exact ⟨p0, p1⟩
          refine wpAnyK_take [0] (i := 0) (d := some 68) (v := ?r2v0) (by assumption) rfl (by kernel_rfl) (by kernel_rfl) (by kernel_rfl) (by kernel_rfl) (by kernel_rfl) (by decide) (by rfl) (fun _ _ _ h => h) (Or.inl ⟨by rfl, ?r2h0⟩) (by assumption) (fun hcl0 => ?r2r0)
          case r2h0 => (intro w hSw; (try dsimp only at hSw); go_simp; first | done | with_reducible rfl)
          case' r2r0 => (clear hcl; simp only [Act.put, List.setIfInBounds_toArray, List.set_cons_zero, List.set_cons_succ])
          refine wpAnyK_free (i := 1) (d := some 69) (v := ?r2v1) (by assumption) rfl (by kernel_rfl) (by kernel_rfl) (by kernel_rfl) (by decide) (by rfl) (fun _ _ _ h => h) (Or.inl ⟨by rfl, ?r2h1⟩) (.inr (by assumption)) (fun hcl1 => ?r2r1)
          case r2h1 => (intro w hSw; (try dsimp only at hSw); go_simp; first | done | with_reducible rfl)
          case' r2r1 => (clear hcl0; simp only [Act.put, List.setIfInBounds_toArray, List.set_cons_zero, List.set_cons_succ])
          refine wpAnyK_free (i := 2) (d := some 70) (v := ?r2v2) (by assumption) rfl (by kernel_rfl) (by kernel_rfl) (by kernel_rfl) (by decide) (by rfl) (fun _ _ _ h => h) (Or.inl ⟨by rfl, ?r2h2⟩) (.inr (by assumption)) (fun hcl2 => ?r2r2)
          case r2h2 => (intro w hSw; (try dsimp only at hSw); go_simp; first | done | with_reducible rfl)
          case' r2r2 => (clear hcl1; simp only [Act.put, List.setIfInBounds_toArray, List.set_cons_zero, List.set_cons_succ])
          refine wpAnyK_free (i := 3) (d := some 71) (v := ?r2v3) (by assumption) rfl (by kernel_rfl) (by kernel_rfl) (by kernel_rfl) (by decide) (by rfl) (fun _ _ _ h => h) (Or.inl ⟨by rfl, ?r2h3⟩) (.inr (by assumption)) (fun hcl3 => ?r2r3)
          case r2h3 => (intro w hSw; (try dsimp only at hSw); go_simp; first | done | with_reducible rfl)
          case' r2r3 => (clear hcl2; simp only [Act.put, List.setIfInBounds_toArray, List.set_cons_zero, List.set_cons_succ])
          refine wpAnyK_take [9, 8, 6, 5, 4] (i := 4) (d := some 72) (v := ?r2v4) (by assumption) rfl (by kernel_rfl) (by kernel_rfl) (by kernel_rfl) (by kernel_rfl) (by kernel_rfl) (by decide) (by rfl) (fun _ _ _ h => h) (Or.inl ⟨by rfl, ?r2h4⟩) (by assumption) (fun hcl4 => ?r2r4)
          case r2h4 => (intro w hSw; (try dsimp only at hSw); go_simp; first | done | with_reducible rfl)
          case' r2r4 => (clear hcl3; simp only [Act.put, List.setIfInBounds_toArray, List.set_cons_zero, List.set_cons_succ])
          refine wpAnyK_free (i := 5) (d := some 73) (v := ?r2v5) (by assumption) rfl (by kernel_rfl) (by kernel_rfl) (by kernel_rfl) (by decide) (by rfl) (fun _ _ _ h => h) (Or.inl ⟨by rfl, ?r2h5⟩) (.inr (by assumption)) (fun hcl5 => ?r2r5)
          case r2h5 => (intro w hSw; (try dsimp only at hSw); go_simp; first | done | with_reducible rfl)
          case' r2r5 => (clear hcl4; simp only [Act.put, List.setIfInBounds_toArray, List.set_cons_zero, List.set_cons_succ])
          refine wpAnyK_free (i := 6) (d := some 74) (v := ?r2v6) (by assumption) rfl (by kernel_rfl) (by kernel_rfl) (by kernel_rfl) (by decide) (by rfl) (fun _ _ _ h => h) (Or.inl ⟨by rfl, ?r2h6⟩) (.inr (by assumption)) (fun hcl6 => ?r2r6)
          case r2h6 => (intro w hSw; (try dsimp only at hSw); go_simp; first | done | with_reducible rfl)
          case' r2r6 => (clear hcl5; simp only [Act.put, List.setIfInBounds_toArray, List.set_cons_zero, List.set_cons_succ])
          refine wpAnyK_free (i := 7) (d := some 75) (v := undef) (by assumption) rfl (by kernel_rfl) (by kernel_rfl) (by kernel_rfl) (by decide) (by rfl) (fun _ _ _ h => h) (Or.inr ⟨by rfl, rfl⟩) (.inr (by assumption)) (fun hcl7 => ?r2r7)
          case' r2r7 => (clear hcl6; simp only [Act.put, List.setIfInBounds_toArray, List.set_cons_zero, List.set_cons_succ])
          refine wpAnyK_free (i := 8) (d := some 76) (v := ?r2v8) (by assumption) rfl (by kernel_rfl) (by kernel_rfl) (by kernel_rfl) (by decide) (by rfl) (fun _ _ _ h => h) (Or.inl ⟨by rfl, ?r2h8⟩) (.inr (by assumption)) (fun hcl8 => ?r2r8)
          case r2h8 => (intro w hSw; (try dsimp only at hSw); go_simp; first | done | with_reducible rfl)
          case' r2r8 => (clear hcl7; simp only [Act.put, List.setIfInBounds_toArray, List.set_cons_zero, List.set_cons_succ])
          refine wpAnyK_free (i := 9) (d := some 77) (v := ?r2v9) (by assumption) rfl (by kernel_rfl) (by kernel_rfl) (by kernel_rfl) (by decide) (by rfl) (fun _ _ _ h => h) (Or.inl ⟨by rfl, ?r2h9⟩) (.inr (by assumption)) (fun hcl9 => ?r2r9)
          case r2h9 => (intro w hSw; (try dsimp only at hSw); go_simp; first | done | with_reducible rfl)
          case' r2r9 => (clear hcl8; simp only [Act.put, List.setIfInBounds_toArray, List.set_cons_zero, List.set_cons_succ])
          refine wpAnyK_free (i := 10) (d := some 78) (v := undef) (by assumption) rfl (by kernel_rfl) (by kernel_rfl) (by kernel_rfl) (by decide) (by rfl) (fun _ _ _ h => h) (Or.inr ⟨by rfl, rfl⟩) (.inr (by assumption)) (fun hcl10 => ?r2r10)
          case' r2r10 => (clear hcl9; simp only [Act.put, List.setIfInBounds_toArray, List.set_cons_zero, List.set_cons_succ])
          refine wpAnyK_free (i := 11) (d := some 79) (v := undef) (by assumption) rfl (by kernel_rfl) (by kernel_rfl) (by kernel_rfl) (by decide) (by rfl) (fun _ _ _ h => h) (Or.inr ⟨by rfl, rfl⟩) (.inr (by assumption)) (fun hcl11 => ?r2r11)
          case' r2r11 => (clear hcl10; simp only [Act.put, List.setIfInBounds_toArray, List.set_cons_zero, List.set_cons_succ])
          refine wpAnyK_free (i := 12) (d := some 80) (v := undef) (by assumption) rfl (by kernel_rfl) (by kernel_rfl) (by kernel_rfl) (by decide) (by rfl) (fun _ _ _ h => h) (Or.inr ⟨by rfl, rfl⟩) (.inr (by assumption)) (fun hcl12 => ?r2r12)
          case' r2r12 => (clear hcl11; simp only [Act.put, List.setIfInBounds_toArray, List.set_cons_zero, List.set_cons_succ])
          refine wpAnyK_free (i := 13) (d := some 81) (v := ?r2v13) (by assumption) rfl (by kernel_rfl) (by kernel_rfl) (by kernel_rfl) (by decide) (by rfl) (fun _ _ _ h => h) (Or.inl ⟨by rfl, ?r2h13⟩) (.inr (by assumption)) (fun hcl13 => ?r2r13)
          case r2h13 => (intro w hSw; (try dsimp only at hSw); go_simp; first | done | with_reducible rfl)
          case' r2r13 => (clear hcl12; simp only [Act.put, List.setIfInBounds_toArray, List.set_cons_zero, List.set_cons_succ])
          refine wpAnyK_past (i := 14) (by assumption) (by kernel_rfl) rfl (by kernel_rfl) (fun K hK => ?_)
          go_simp
          refine hK.out _ _ (fun hcl14 => ?_)
          refine wpAnyK_past (i := 15) (by assumption) (by kernel_rfl) rfl (by kernel_rfl) (fun K hK => ?_)
          go_simp
          refine hK.out _ _ (fun hcl15 => ?_)
          refine wpAnyK_done (by kernel_rfl) ?_
          clear hHeld hcl13 hcl14 hcl15
          have h9 : (w6.setCell ⟨w.heap.size, 0, none⟩ (.slice oa ts.length oc)).heap[w.heap.size]? = some (.cells #[.slice oa ts.length oc] 66 (0, 0)) := setCell_self (j := 0) _ HR6.out
          have z0 : (w6.setCell ⟨w.heap.size, 0, none⟩ (.slice oa ts.length oc)).cell? ⟨w.heap.size, 0, none⟩ = some (.slice oa ts.length oc) := run_cell h9 rfl
          have HB9 : Hid (∀ n, Below w.heap.size w ((w6.setCell ⟨w.heap.size, 0, none⟩ (.slice oa ts.length oc)).drewN n)) := fun n => bel_drewN (B6.out.setCell (Nat.le_refl _) _) n
          have HO9 : Hid (∀ n, RowF 4 93 NodeF (Nw w.heap.size ((w6.setCell ⟨w.heap.size, 0, none⟩ (.slice oa ts.length oc)).drewN n).heap.size) (.slice oa ts.length oc) ts ((w6.setCell ⟨w.heap.size, 0, none⟩ (.slice oa ts.length oc)).drewN n)) := fun n => by
            have h3 := (O6.out.ag stabNode ((Kp.store (F := fun q => q = w.heap.size) (w := w6) (o := 0) (u := .slice oa ts.length oc) rfl).ag (fun q hq e => by have := hq.1; omega))).below stabNode (bel_drewN (Below.refl _ _) n)
            have h4 := s6.out
            exact h3.up (fun q hq => ⟨by have := hq.1; omega, by have := hq.2; show q < (w6.setCell ⟨w.heap.size, 0, none⟩ (.slice oa ts.length oc)).heap.size; simp [World.setCell]; omega⟩)
          clear h9
          go_wp2
          refine bodyPost_ret (by simp [results, Tryz.results28, go_sem, z0]; try rfl) rfl ?_
          exact ⟨HB9.out 1, _, ts, _, rfl, HO9.out 1, HIn.out, HT.out, fun e => (by cases e), fun _ => HAn.out.2 (by trivial)⟩
        · have i4 : (ts.length : Int) < (N : Int) := by omega
          have i5 : (ts.length : Int) < 30 := by omega
          go_wp2_with fail
          refine (HSp.out ()).mono ?_
          rintro e w6 ⟨rfl, hb6⟩
          have E6 : w6.heap[w.heap.size + 2]? = some (.cells #[.slice oa ts.length oc] 66 (0, 0)) := (hb6.block _ (by omega)).trans HE.out
          have R6 : w6.heap[w.heap.size]? = some (.cells #[.slice none 0 0] 66 (0, 0)) := (hb6.block _ (by omega)).trans HR.out
          have A6 : CuA (w.heap.size + 1) s b true w6 := CuA.below HA.out hb6
          have O6 : Hid (RowF 4 93 NodeF (Nw (w.heap.size + 3) wk.heap.size) (.slice oa ts.length oc) ts w6) := HO.out.below stabNode hb6
          have B6 : Hid (Below w.heap.size w w6) := HB.out.trans (hb6.mono HB.out.size)
          have s6 : Hid (wk.heap.size ≤ w6.heap.size) := hb6.size
          have HR6 : Hid (_) := R6
          have p0 := run_cell (j := 0) E6 rfl
          have p1 := run_cell (j := 2) A6 rfl
          have p2 := run_cell (j := 0) R6 rfl
          have p3 := run_frozen (j := 0) R6
          clear E6 R6 A6 hb6
          go_wp2_with fail
          refine wp_region_K (k := 14) (S := fun V => V.cell? ⟨w.heap.size + 2, 0, none⟩ = some (.slice oa ts.length oc) ∧ V.cell? ⟨w.heap.size + 1, 2, none⟩ = some (.bool true)) (by kernel_rfl) ?_ (fun hHeld hcl => ?_)
          · exact ⟨p0, p1⟩
          refine wpAnyK_take [0] (i := 0) (d := some 68) (v := ?r3v0) (by assumption) rfl (by kernel_rfl) (by kernel_rfl) (by kernel_rfl) (by kernel_rfl) (by kernel_rfl) (by decide) (by rfl) (fun _ _ _ h => h) (Or.inl ⟨by rfl, ?r3h0⟩) (by assumption) (fun hcl0 => ?r3r0)
          case r3h0 => (intro w hSw; (try dsimp only at hSw); go_simp; first | done | with_reducible rfl)
          case' r3r0 => (clear hcl; simp only [Act.put, List.setIfInBounds_toArray, List.set_cons_zero, List.set_cons_succ])
          refine wpAnyK_free (i := 1) (d := some 69) (v := ?r3v1) (by assumption) rfl (by kernel_rfl) (by kernel_rfl) (by kernel_rfl) (by decide) (by rfl) (fun _ _ _ h => h) (Or.inl ⟨by rfl, ?r3h1⟩) (.inr (by assumption)) (fun hcl1 => ?r3r1)
          case r3h1 => (intro w hSw; (try dsimp only at hSw); go_simp; first | done | with_reducible rfl)
          case' r3r1 => (clear hcl0; simp only [Act.put, List.setIfInBounds_toArray, List.set_cons_zero, List.set_cons_succ])
          refine wpAnyK_free (i := 2) (d := some 70) (v := ?r3v2) (by assumption) rfl (by kernel_rfl) (by kernel_rfl) (by kernel_rfl) (by decide) (by rfl) (fun _ _ _ h => h) (Or.inl ⟨by rfl, ?r3h2⟩) (.inr (by assumption)) (fun hcl2 => ?r3r2)
          case r3h2 => (intro w hSw; (try dsimp only at hSw); go_simp; first | done | with_reducible rfl)
          case' r3r2 => (clear hcl1; simp only [Act.put, List.setIfInBounds_toArray, List.set_cons_zero, List.set_cons_succ])
          refine wpAnyK_free (i := 3) (d := some 71) (v := ?r3v3) (by assumption) rfl (by kernel_rfl) (by kernel_rfl) (by kernel_rfl) (by decide) (by rfl) (fun _ _ _ h => h) (Or.inl ⟨by rfl, ?r3h3⟩) (.inr (by assumption)) (fun hcl3 => ?r3r3)
          case r3h3 => (intro w hSw; (try dsimp only at hSw); go_simp; first | done | with_reducible rfl)
          case' r3r3 => (clear hcl2; simp only [Act.put, List.setIfInBounds_toArray, List.set_cons_zero, List.set_cons_succ])
          refine wpAnyK_take [9, 8, 6, 5, 4] (i := 4) (d := some 72) (v := ?r3v4) (by assumption) rfl (by kernel_rfl) (by kernel_rfl) (by kernel_rfl) (by kernel_rfl) (by kernel_rfl) (by decide) (by rfl) (fun _ _ _ h => h) (Or.inl ⟨by rfl, ?r3h4⟩) (by assumption) (fun hcl4 => ?r3r4)
          case r3h4 => (intro w hSw; (try dsimp only at hSw); go_simp; first | done | with_reducible rfl)
          case' r3r4 => (clear hcl3; simp only [Act.put, List.setIfInBounds_toArray, List.set_cons_zero, List.set_cons_succ])
          refine wpAnyK_free (i := 5) (d := some 73) (v := ?r3v5) (by assumption) rfl (by kernel_rfl) (by kernel_rfl) (by kernel_rfl) (by decide) (by rfl) (fun _ _ _ h => h) (Or.inl ⟨by rfl, ?r3h5⟩) (.inr (by assumption)) (fun hcl5 => ?r3r5)
          case r3h5 => (intro w hSw; (try dsimp only at hSw); go_simp; first | done | with_reducible rfl)
          case' r3r5 => (clear hcl4; simp only [Act.put, List.setIfInBounds_toArray, List.set_cons_zero, List.set_cons_succ])
          refine wpAnyK_free (i := 6) (d := some 74) (v := ?r3v6) (by assumption) rfl (by kernel_rfl) (by kernel_rfl) (by kernel_rfl) (by decide) (by rfl) (fun _ _ _ h => h) (Or.inl ⟨by rfl, ?r3h6⟩) (.inr (by assumption)) (fun hcl6 => ?r3r6)
          case r3h6 => (intro w hSw; (try dsimp only at hSw); go_simp; first | done | with_reducible rfl)
          case' r3r6 => (clear hcl5; simp only [Act.put, List.setIfInBounds_toArray, List.set_cons_zero, List.set_cons_succ])
          refine wpAnyK_free (i := 7) (d := some 75) (v := undef) (by assumption) rfl (by kernel_rfl) (by kernel_rfl) (by kernel_rfl) (by decide) (by rfl) (fun _ _ _ h => h) (Or.inr ⟨by rfl, rfl⟩) (.inr (by assumption)) (fun hcl7 => ?r3r7)
          case' r3r7 => (clear hcl6; simp only [Act.put, List.setIfInBounds_toArray, List.set_cons_zero, List.set_cons_succ])
          refine wpAnyK_free (i := 8) (d := some 76) (v := ?r3v8) (by assumption) rfl (by kernel_rfl) (by kernel_rfl) (by kernel_rfl) (by decide) (by rfl) (fun _ _ _ h => h) (Or.inl ⟨by rfl, ?r3h8⟩) (.inr (by assumption)) (fun hcl8 => ?r3r8)
          case r3h8 => (intro w hSw; (try dsimp only at hSw); go_simp; first | done | with_reducible rfl)
          case' r3r8 => (clear hcl7; simp only [Act.put, List.setIfInBounds_toArray, List.set_cons_zero, List.set_cons_succ])
          refine wpAnyK_free (i := 9) (d := some 77) (v := ?r3v9) (by assumption) rfl (by kernel_rfl) (by kernel_rfl) (by kernel_rfl) (by decide) (by rfl) (fun _ _ _ h => h) (Or.inl ⟨by rfl, ?r3h9⟩) (.inr (by assumption)) (fun hcl9 => ?r3r9)
          case r3h9 => (intro w hSw; (try dsimp only at hSw); go_simp; first | done | with_reducible rfl)
          case' r3r9 => (clear hcl8; simp only [Act.put, List.setIfInBounds_toArray, List.set_cons_zero, List.set_cons_succ])
          refine wpAnyK_free (i := 10) (d := some 78) (v := undef) (by assumption) rfl (by kernel_rfl) (by kernel_rfl) (by kernel_rfl) (by decide) (by rfl) (fun _ _ _ h => h) (Or.inr ⟨by rfl, rfl⟩) (.inr (by assumption)) (fun hcl10 => ?r3r10)
          case' r3r10 => (clear hcl9; simp only [Act.put, List.setIfInBounds_toArray, List.set_cons_zero, List.set_cons_succ])
          refine wpAnyK_free (i := 11) (d := some 79) (v := undef) (by assumption) rfl (by kernel_rfl) (by kernel_rfl) (by kernel_rfl) (by decide) (by rfl) (fun _ _ _ h => h) (Or.inr ⟨by rfl, rfl⟩) (.inr (by assumption)) (fun hcl11 => ?r3r11)
          case' r3r11 => (clear hcl10; simp only [Act.put, List.setIfInBounds_toArray, List.set_cons_zero, List.set_cons_succ])
          refine wpAnyK_free (i := 12) (d := some 80) (v := undef) (by assumption) rfl (by kernel_rfl) (by kernel_rfl) (by kernel_rfl) (by decide) (by rfl) (fun _ _ _ h => h) (Or.inr ⟨by rfl, rfl⟩) (.inr (by assumption)) (fun hcl12 => ?r3r12)
          case' r3r12 => (clear hcl11; simp only [Act.put, List.setIfInBounds_toArray, List.set_cons_zero, List.set_cons_succ])
          refine wpAnyK_free (i := 13) (d := some 81) (v := ?r3v13) (by assumption) rfl (by kernel_rfl) (by kernel_rfl) (by kernel_rfl) (by decide) (by rfl) (fun _ _ _ h => h) (Or.inl ⟨by rfl, ?r3h13⟩) (.inr (by assumption)) (fun hcl13 => ?r3r13)
          case r3h13 => (intro w hSw; (try dsimp only at hSw); go_simp; first | done | with_reducible rfl)
          case' r3r13 => (clear hcl12; simp only [Act.put, List.setIfInBounds_toArray, List.set_cons_zero, List.set_cons_succ])
          refine wpAnyK_past (i := 14) (by assumption) (by kernel_rfl) rfl (by kernel_rfl) (fun K hK => ?_)
          go_simp
          refine hK.out _ _ (fun hcl14 => ?_)
          refine wpAnyK_past (i := 15) (by assumption) (by kernel_rfl) rfl (by kernel_rfl) (fun K hK => ?_)
          go_simp
          refine hK.out _ _ (fun hcl15 => ?_)
          refine wpAnyK_done (by kernel_rfl) ?_
          clear hHeld hcl13 hcl14 hcl15
          have h9 : (w6.setCell ⟨w.heap.size, 0, none⟩ (.slice oa ts.length oc)).heap[w.heap.size]? = some (.cells #[.slice oa ts.length oc] 66 (0, 0)) := setCell_self (j := 0) _ HR6.out
          have z0 : (w6.setCell ⟨w.heap.size, 0, none⟩ (.slice oa ts.length oc)).cell? ⟨w.heap.size, 0, none⟩ = some (.slice oa ts.length oc) := run_cell h9 rfl
          have HB9 : Hid (∀ n, Below w.heap.size w ((w6.setCell ⟨w.heap.size, 0, none⟩ (.slice oa ts.length oc)).drewN n)) := fun n => bel_drewN (B6.out.setCell (Nat.le_refl _) _) n
          have HO9 : Hid (∀ n, RowF 4 93 NodeF (Nw w.heap.size ((w6.setCell ⟨w.heap.size, 0, none⟩ (.slice oa ts.length oc)).drewN n).heap.size) (.slice oa ts.length oc) ts ((w6.setCell ⟨w.heap.size, 0, none⟩ (.slice oa ts.length oc)).drewN n)) := fun n => by
            have h3 := (O6.out.ag stabNode ((Kp.store (F := fun q => q = w.heap.size) (w := w6) (o := 0) (u := .slice oa ts.length oc) rfl).ag (fun q hq e => by have := hq.1; omega))).below stabNode (bel_drewN (Below.refl _ _) n)
            have h4 := s6.out
            exact h3.up (fun q hq => ⟨by have := hq.1; omega, by have := hq.2; show q < (w6.setCell ⟨w.heap.size, 0, none⟩ (.slice oa ts.length oc)).heap.size; simp [World.setCell]; omega⟩)
          clear h9
          go_wp2
          refine bodyPost_ret (by simp [results, Tryz.results28, go_sem, z0]; try rfl) rfl ?_
          exact ⟨HB9.out 1, _, ts, _, rfl, HO9.out 1, HIn.out, HT.out, fun e => (by cases e), fun _ => HAn.out.2 (by trivial)⟩
      | false =>
        rw [Bool.not_false, Bool.true_and] at HAn
        cases hok : exprB ts with
        | false =>
          rw [hok, Bool.false_and] at HAn
          rw [hok] at HSp
          clear hok
          generalize str (exprT ts) = st at *
          rcases hor with hno | ⟨hyes, hno⟩ | ⟨⟨hyes, hyes3⟩, hgt⟩
          · have i4 : ¬ (ts.length : Int) < (N : Int) := by omega
            go_wp2_with fail
            refine (HSp.out ()).mono ?_
            rintro e w6 ⟨rfl, hb6⟩
            have E6 : w6.heap[w.heap.size + 2]? = some (.cells #[.slice oa ts.length oc] 66 (0, 0)) := (hb6.block _ (by omega)).trans HE.out
            have R6 : w6.heap[w.heap.size]? = some (.cells #[.slice none 0 0] 66 (0, 0)) := (hb6.block _ (by omega)).trans HR.out
            have A6 : CuA (w.heap.size + 1) s b false w6 := CuA.below HA.out hb6
            have O6 : Hid (RowF 4 93 NodeF (Nw (w.heap.size + 3) wk.heap.size) (.slice oa ts.length oc) ts w6) := HO.out.below stabNode hb6
            have B6 : Hid (Below w.heap.size w w6) := HB.out.trans (hb6.mono HB.out.size)
            have s6 : Hid (wk.heap.size ≤ w6.heap.size) := hb6.size
            have HR6 : Hid (_) := R6
            have p0 := run_cell (j := 0) E6 rfl
            have p1 := run_cell (j := 2) A6 rfl
            have p2 := run_cell (j := 0) R6 rfl
            have p3 := run_frozen (j := 0) R6
            clear E6 R6 A6 hb6
            go_wp2_with fail
            refine wp_region_K (k := 14) (S := fun V => V.cell? ⟨w.heap.size + 2, 0, none⟩ = some (.slice oa ts.length oc) ∧ V.cell? ⟨w.heap.size + 1, 2, none⟩ = some (.bool false)) (by kernel_rfl) ?_ (fun hHeld hcl => ?_)
            · exact ⟨p0, p1⟩
            refine wpAnyK_take [0] (i := 0) (d := some 68) (v := ?r4v0) (by assumption) rfl (by kernel_rfl) (by kernel_rfl) (by kernel_rfl) (by kernel_rfl) (by kernel_rfl) (by decide) (by rfl) (fun _ _ _ h => h) (Or.inl ⟨by rfl, ?r4h0⟩) (by assumption) (fun hcl0 => ?r4r0)
            case r4h0 => (intro w hSw; (try dsimp only at hSw); go_simp; first | done | with_reducible rfl)
            case' r4r0 => (clear hcl; simp only [Act.put, List.setIfInBounds_toArray, List.set_cons_zero, List.set_cons_succ])
            refine wpAnyK_free (i := 1) (d := some 69) (v := ?r4v1) (by assumption) rfl (by kernel_rfl) (by kernel_rfl) (by kernel_rfl) (by decide) (by rfl) (fun _ _ _ h => h) (Or.inl ⟨by rfl, ?r4h1⟩) (.inr (by assumption)) (fun hcl1 => ?r4r1)
            case r4h1 => (intro w hSw; (try dsimp only at hSw); go_simp; first | done | with_reducible rfl)
            case' r4r1 => (clear hcl0; simp only [Act.put, List.setIfInBounds_toArray, List.set_cons_zero, List.set_cons_succ])
            refine wpAnyK_free (i := 2) (d := some 70) (v := ?r4v2) (by assumption) rfl (by kernel_rfl) (by kernel_rfl) (by kernel_rfl) (by decide) (by rfl) (fun _ _ _ h => h) (Or.inl ⟨by rfl, ?r4h2⟩) (.inr (by assumption)) (fun hcl2 => ?r4r2)
            case r4h2 => (intro w hSw; (try dsimp only at hSw); go_simp; first | done | with_reducible rfl)
            case' r4r2 => (clear hcl1; simp only [Act.put, List.setIfInBounds_toArray, List.set_cons_zero, List.set_cons_succ])
            refine wpAnyK_free (i := 3) (d := some 71) (v := ?r4v3) (by assumption) rfl (by kernel_rfl) (by kernel_rfl) (by kernel_rfl) (by decide) (by rfl) (fun _ _ _ h => h) (Or.inl ⟨by rfl, ?r4h3⟩) (.inr (by assumption)) (fun hcl3 => ?r4r3)
            case r4h3 => (intro w hSw; (try dsimp only at hSw); go_simp; first | done | with_reducible rfl)
            case' r4r3 => (clear hcl2; simp only [Act.put, List.setIfInBounds_toArray, List.set_cons_zero, List.set_cons_succ])
            refine wpAnyK_take [9, 8, 6, 5, 4] (i := 4) (d := some 72) (v := ?r4v4) (by assumption) rfl (by kernel_rfl) (by kernel_rfl) (by kernel_rfl) (by kernel_rfl) (by kernel_rfl) (by decide) (by rfl) (fun _ _ _ h => h) (Or.inl ⟨by rfl, ?r4h4⟩) (by assumption) (fun hcl4 => ?r4r4)
            case r4h4 => (intro w hSw; (try dsimp only at hSw); go_simp; first | done | with_reducible rfl)
            case' r4r4 => (clear hcl3; simp only [Act.put, List.setIfInBounds_toArray, List.set_cons_zero, List.set_cons_succ])
            refine wpAnyK_free (i := 5) (d := some 73) (v := ?r4v5) (by assumption) rfl (by kernel_rfl) (by kernel_rfl) (by kernel_rfl) (by decide) (by rfl) (fun _ _ _ h => h) (Or.inl ⟨by rfl, ?r4h5⟩) (.inr (by assumption)) (fun hcl5 => ?r4r5)
            case r4h5 => (intro w hSw; (try dsimp only at hSw); go_simp; first | done | with_reducible rfl)
            case' r4r5 => (clear hcl4; simp only [Act.put, List.setIfInBounds_toArray, List.set_cons_zero, List.set_cons_succ])
            refine wpAnyK_free (i := 6) (d := some 74) (v := ?r4v6) (by assumption) rfl (by kernel_rfl) (by kernel_rfl) (by kernel_rfl) (by decide) (by rfl) (fun _ _ _ h => h) (Or.inl ⟨by rfl, ?r4h6⟩) (.inr (by assumption)) (fun hcl6 => ?r4r6)
            case r4h6 => (intro w hSw; (try dsimp only at hSw); go_simp; first | done | with_reducible rfl)
            case' r4r6 => (clear hcl5; simp only [Act.put, List.setIfInBounds_toArray, List.set_cons_zero, List.set_cons_succ])
            refine wpAnyK_free (i := 7) (d := some 75) (v := ?r4v7) (by assumption) rfl (by kernel_rfl) (by kernel_rfl) (by kernel_rfl) (by decide) (by rfl) (fun _ _ _ h => h) (Or.inl ⟨by rfl, ?r4h7⟩) (.inr (by assumption)) (fun hcl7 => ?r4r7)
            case r4h7 => (intro w hSw; (try dsimp only at hSw); go_simp; first | done | with_reducible rfl)
            case' r4r7 => (clear hcl6; simp only [Act.put, List.setIfInBounds_toArray, List.set_cons_zero, List.set_cons_succ])
            refine wpAnyK_free (i := 8) (d := some 76) (v := ?r4v8) (by assumption) rfl (by kernel_rfl) (by kernel_rfl) (by kernel_rfl) (by decide) (by rfl) (fun _ _ _ h => h) (Or.inl ⟨by rfl, ?r4h8⟩) (.inr (by assumption)) (fun hcl8 => ?r4r8)
            case r4h8 => (intro w hSw; (try dsimp only at hSw); go_simp; first | done | with_reducible rfl)
            case' r4r8 => (clear hcl7; simp only [Act.put, List.setIfInBounds_toArray, List.set_cons_zero, List.set_cons_succ])
            refine wpAnyK_free (i := 9) (d := some 77) (v := ?r4v9) (by assumption) rfl (by kernel_rfl) (by kernel_rfl) (by kernel_rfl) (by decide) (by rfl) (fun _ _ _ h => h) (Or.inl ⟨by rfl, ?r4h9⟩) (.inr (by assumption)) (fun hcl9 => ?r4r9)
            case r4h9 => (intro w hSw; (try dsimp only at hSw); go_simp; first | done | with_reducible rfl)
            case' r4r9 => (clear hcl8; simp only [Act.put, List.setIfInBounds_toArray, List.set_cons_zero, List.set_cons_succ])
            refine wpAnyK_free (i := 10) (d := some 78) (v := undef) (by assumption) rfl (by kernel_rfl) (by kernel_rfl) (by kernel_rfl) (by decide) (by rfl) (fun _ _ _ h => h) (Or.inr ⟨by rfl, rfl⟩) (.inr (by assumption)) (fun hcl10 => ?r4r10)
            case' r4r10 => (clear hcl9; simp only [Act.put, List.setIfInBounds_toArray, List.set_cons_zero, List.set_cons_succ])
            refine wpAnyK_free (i := 11) (d := some 79) (v := undef) (by assumption) rfl (by kernel_rfl) (by kernel_rfl) (by kernel_rfl) (by decide) (by rfl) (fun _ _ _ h => h) (Or.inr ⟨by rfl, rfl⟩) (.inr (by assumption)) (fun hcl11 => ?r4r11)
            case' r4r11 => (clear hcl10; simp only [Act.put, List.setIfInBounds_toArray, List.set_cons_zero, List.set_cons_succ])
            refine wpAnyK_free (i := 12) (d := some 80) (v := undef) (by assumption) rfl (by kernel_rfl) (by kernel_rfl) (by kernel_rfl) (by decide) (by rfl) (fun _ _ _ h => h) (Or.inr ⟨by rfl, rfl⟩) (.inr (by assumption)) (fun hcl12 => ?r4r12)
            case' r4r12 => (clear hcl11; simp only [Act.put, List.setIfInBounds_toArray, List.set_cons_zero, List.set_cons_succ])
            refine wpAnyK_free (i := 13) (d := some 81) (v := ?r4v13) (by assumption) rfl (by kernel_rfl) (by kernel_rfl) (by kernel_rfl) (by decide) (by rfl) (fun _ _ _ h => h) (Or.inl ⟨by rfl, ?r4h13⟩) (.inr (by assumption)) (fun hcl13 => ?r4r13)
            case r4h13 => (intro w hSw; (try dsimp only at hSw); go_simp; first | done | with_reducible rfl)
            case' r4r13 => (clear hcl12; simp only [Act.put, List.setIfInBounds_toArray, List.set_cons_zero, List.set_cons_succ])
            refine wpAnyK_past (i := 14) (by assumption) (by kernel_rfl) rfl (by kernel_rfl) (fun K hK => ?_)
            go_simp
            refine hK.out _ _ (fun hcl14 => ?_)
            refine wpAnyK_past (i := 15) (by assumption) (by kernel_rfl) rfl (by kernel_rfl) (fun K hK => ?_)
            go_simp
            refine hK.out _ _ (fun hcl15 => ?_)
            refine wpAnyK_done (by kernel_rfl) ?_
            clear hHeld hcl13 hcl14 hcl15
            have h9 : (w6.setCell ⟨w.heap.size, 0, none⟩ (.slice oa ts.length oc)).heap[w.heap.size]? = some (.cells #[.slice oa ts.length oc] 66 (0, 0)) := setCell_self (j := 0) _ HR6.out
            have z0 : (w6.setCell ⟨w.heap.size, 0, none⟩ (.slice oa ts.length oc)).cell? ⟨w.heap.size, 0, none⟩ = some (.slice oa ts.length oc) := run_cell h9 rfl
            have HB9 : Hid (∀ n, Below w.heap.size w ((w6.setCell ⟨w.heap.size, 0, none⟩ (.slice oa ts.length oc)).drewN n)) := fun n => bel_drewN (B6.out.setCell (Nat.le_refl _) _) n
            have HO9 : Hid (∀ n, RowF 4 93 NodeF (Nw w.heap.size ((w6.setCell ⟨w.heap.size, 0, none⟩ (.slice oa ts.length oc)).drewN n).heap.size) (.slice oa ts.length oc) ts ((w6.setCell ⟨w.heap.size, 0, none⟩ (.slice oa ts.length oc)).drewN n)) := fun n => by
              have h3 := (O6.out.ag stabNode ((Kp.store (F := fun q => q = w.heap.size) (w := w6) (o := 0) (u := .slice oa ts.length oc) rfl).ag (fun q hq e => by have := hq.1; omega))).below stabNode (bel_drewN (Below.refl _ _) n)
              have h4 := s6.out
              exact h3.up (fun q hq => ⟨by have := hq.1; omega, by have := hq.2; show q < (w6.setCell ⟨w.heap.size, 0, none⟩ (.slice oa ts.length oc)).heap.size; simp [World.setCell]; omega⟩)
            clear h9
            go_wp2
            refine bodyPost_ret (by simp [results, Tryz.results28, go_sem, z0]; try rfl) rfl ?_
            exact ⟨HB9.out 1, _, ts, _, rfl, HO9.out 1, HIn.out, HT.out, fun e => (by cases e), fun _ => HAn.out.2 (by trivial)⟩
          · have i4 : (ts.length : Int) < (N : Int) := by omega
            have i5 : ¬ (ts.length : Int) < 30 := by omega
            go_wp2_with fail
            refine (HSp.out ()).mono ?_
            rintro e w6 ⟨rfl, hb6⟩
            have E6 : w6.heap[w.heap.size + 2]? = some (.cells #[.slice oa ts.length oc] 66 (0, 0)) := (hb6.block _ (by omega)).trans HE.out
            have R6 : w6.heap[w.heap.size]? = some (.cells #[.slice none 0 0] 66 (0, 0)) := (hb6.block _ (by omega)).trans HR.out
            have A6 : CuA (w.heap.size + 1) s b false w6 := CuA.below HA.out hb6
            have O6 : Hid (RowF 4 93 NodeF (Nw (w.heap.size + 3) wk.heap.size) (.slice oa ts.length oc) ts w6) := HO.out.below stabNode hb6
            have B6 : Hid (Below w.heap.size w w6) := HB.out.trans (hb6.mono HB.out.size)
            have s6 : Hid (wk.heap.size ≤ w6.heap.size) := hb6.size
            have HR6 : Hid (_) := R6
            have p0 := run_cell (j := 0) E6 rfl
            have p1 := run_cell (j := 2) A6 rfl
            have p2 := run_cell (j := 0) R6 rfl
            have p3 := run_frozen (j := 0) R6
            clear E6 R6 A6 hb6
            go_wp2_with fail
            refine wp_region_K (k := 14) (S := fun V => V.cell? ⟨w.heap.size + 2, 0, none⟩ = some (.slice oa ts.length oc) ∧ V.cell? ⟨w.heap.size + 1, 2, none⟩ = some (.bool false)) (by kernel_rfl) ?_ (fun hHeld hcl => ?_)
            · exact ⟨p0, p1⟩
            refine wpAnyK_take [0] (i := 0) (d := some 68) (v := ?r5v0) (by assumption) rfl (by kernel_rfl) (by kernel_rfl) (by kernel_rfl) (by kernel_rfl) (by kernel_rfl) (by decide) (by rfl) (fun _ _ _ h => h) (Or.inl ⟨by rfl, ?r5h0⟩) (by assumption) (fun hcl0 => ?r5r0)
            case r5h0 => (intro w hSw; (try dsimp only at hSw); go_simp; first | done | with_reducible rfl)
            case' r5r0 => (clear hcl; simp only [Act.put, List.setIfInBounds_toArray, List.set_cons_zero, List.set_cons_succ])
            refine wpAnyK_free (i := 1) (d := some 69) (v := ?r5v1) (by assumption) rfl (by kernel_rfl) (by kernel_rfl) (by kernel_rfl) (by decide) (by rfl) (fun _ _ _ h => h) (Or.inl ⟨by rfl, ?r5h1⟩) (.inr (by assumption)) (fun hcl1 => ?r5r1)
            case r5h1 => (intro w hSw; (try dsimp only at hSw); go_simp; first | done | with_reducible rfl)
            case' r5r1 => (clear hcl0; simp only [Act.put, List.setIfInBounds_toArray, List.set_cons_zero, List.set_cons_succ])
            refine wpAnyK_free (i := 2) (d := some 70) (v := ?r5v2) (by assumption) rfl (by kernel_rfl) (by kernel_rfl) (by kernel_rfl) (by decide) (by rfl) (fun _ _ _ h => h) (Or.inl ⟨by rfl, ?r5h2⟩) (.inr (by assumption)) (fun hcl2 => ?r5r2)
            case r5h2 => (intro w hSw; (try dsimp only at hSw); go_simp; first | done | with_reducible rfl)
            case' r5r2 => (clear hcl1; simp only [Act.put, List.setIfInBounds_toArray, List.set_cons_zero, List.set_cons_succ])
            refine wpAnyK_free (i := 3) (d := some 71) (v := ?r5v3) (by assumption) rfl (by kernel_rfl) (by kernel_rfl) (by kernel_rfl) (by decide) (by rfl) (fun _ _ _ h => h) (Or.inl ⟨by rfl, ?r5h3⟩) (.inr (by assumption)) (fun hcl3 => ?r5r3)
            case r5h3 => (intro w hSw; (try dsimp only at hSw); go_simp; first | done | with_reducible rfl)
            case' r5r3 => (clear hcl2; simp only [Act.put, List.setIfInBounds_toArray, List.set_cons_zero, List.set_cons_succ])
            refine wpAnyK_take [9, 8, 6, 5, 4] (i := 4) (d := some 72) (v := ?r5v4) (by assumption) rfl (by kernel_rfl) (by kernel_rfl) (by kernel_rfl) (by kernel_rfl) (by kernel_rfl) (by decide) (by rfl) (fun _ _ _ h => h) (Or.inl ⟨by rfl, ?r5h4⟩) (by assumption) (fun hcl4 => ?r5r4)
            case r5h4 => (intro w hSw; (try dsimp only at hSw); go_simp; first | done | with_reducible rfl)
            case' r5r4 => (clear hcl3; simp only [Act.put, List.setIfInBounds_toArray, List.set_cons_zero, List.set_cons_succ])
            refine wpAnyK_free (i := 5) (d := some 73) (v := ?r5v5) (by assumption) rfl (by kernel_rfl) (by kernel_rfl) (by kernel_rfl) (by decide) (by rfl) (fun _ _ _ h => h) (Or.inl ⟨by rfl, ?r5h5⟩) (.inr (by assumption)) (fun hcl5 => ?r5r5)
            case r5h5 => (intro w hSw; (try dsimp only at hSw); go_simp; first | done | with_reducible rfl)
            case' r5r5 => (clear hcl4; simp only [Act.put, List.setIfInBounds_toArray, List.set_cons_zero, List.set_cons_succ])
            refine wpAnyK_free (i := 6) (d := some 74) (v := ?r5v6) (by assumption) rfl (by kernel_rfl) (by kernel_rfl) (by kernel_rfl) (by decide) (by rfl) (fun _ _ _ h => h) (Or.inl ⟨by rfl, ?r5h6⟩) (.inr (by assumption)) (fun hcl6 => ?r5r6)
            case r5h6 => (intro w hSw; (try dsimp only at hSw); go_simp; first | done | with_reducible rfl)
            case' r5r6 => (clear hcl5; simp only [Act.put, List.setIfInBounds_toArray, List.set_cons_zero, List.set_cons_succ])
            refine wpAnyK_free (i := 7) (d := some 75) (v := ?r5v7) (by assumption) rfl (by kernel_rfl) (by kernel_rfl) (by kernel_rfl) (by decide) (by rfl) (fun _ _ _ h => h) (Or.inl ⟨by rfl, ?r5h7⟩) (.inr (by assumption)) (fun hcl7 => ?r5r7)
            case r5h7 => (intro w hSw; (try dsimp only at hSw); go_simp; first | done | with_reducible rfl)
            case' r5r7 => (clear hcl6; simp only [Act.put, List.setIfInBounds_toArray, List.set_cons_zero, List.set_cons_succ])
            refine wpAnyK_free (i := 8) (d := some 76) (v := ?r5v8) (by assumption) rfl (by kernel_rfl) (by kernel_rfl) (by kernel_rfl) (by decide) (by rfl) (fun _ _ _ h => h) (Or.inl ⟨by rfl, ?r5h8⟩) (.inr (by assumption)) (fun hcl8 => ?r5r8)
            case r5h8 => (intro w hSw; (try dsimp only at hSw); go_simp; first | done | with_reducible rfl)
            case' r5r8 => (clear hcl7; simp only [Act.put, List.setIfInBounds_toArray, List.set_cons_zero, List.set_cons_succ])
            refine wpAnyK_free (i := 9) (d := some 77) (v := ?r5v9) (by assumption) rfl (by kernel_rfl) (by kernel_rfl) (by kernel_rfl) (by decide) (by rfl) (fun _ _ _ h => h) (Or.inl ⟨by rfl, ?r5h9⟩) (.inr (by assumption)) (fun hcl9 => ?r5r9)
            case r5h9 => (intro w hSw; (try dsimp only at hSw); go_simp; first | done | with_reducible rfl)
            case' r5r9 => (clear hcl8; simp only [Act.put, List.setIfInBounds_toArray, List.set_cons_zero, List.set_cons_succ])
            refine wpAnyK_free (i := 10) (d := some 78) (v := undef) (by assumption) rfl (by kernel_rfl) (by kernel_rfl) (by kernel_rfl) (by decide) (by rfl) (fun _ _ _ h => h) (Or.inr ⟨by rfl, rfl⟩) (.inr (by assumption)) (fun hcl10 => ?r5r10)
            case' r5r10 => (clear hcl9; simp only [Act.put, List.setIfInBounds_toArray, List.set_cons_zero, List.set_cons_succ])
            refine wpAnyK_free (i := 11) (d := some 79) (v := undef) (by assumption) rfl (by kernel_rfl) (by kernel_rfl) (by kernel_rfl) (by decide) (by rfl) (fun _ _ _ h => h) (Or.inr ⟨by rfl, rfl⟩) (.inr (by assumption)) (fun hcl11 => ?r5r11)
            case' r5r11 => (clear hcl10; simp only [Act.put, List.setIfInBounds_toArray, List.set_cons_zero, List.set_cons_succ])
            refine wpAnyK_free (i := 12) (d := some 80) (v := undef) (by assumption) rfl (by kernel_rfl) (by kernel_rfl) (by kernel_rfl) (by decide) (by rfl) (fun _ _ _ h => h) (Or.inr ⟨by rfl, rfl⟩) (.inr (by assumption)) (fun hcl12 => ?r5r12)
            case' r5r12 => (clear hcl11; simp only [Act.put, List.setIfInBounds_toArray, List.set_cons_zero, List.set_cons_succ])
            refine wpAnyK_free (i := 13) (d := some 81) (v := ?r5v13) (by assumption) rfl (by kernel_rfl) (by kernel_rfl) (by kernel_rfl) (by decide) (by rfl) (fun _ _ _ h => h) (Or.inl ⟨by rfl, ?r5h13⟩) (.inr (by assumption)) (fun hcl13 => ?r5r13)
            case r5h13 => (intro w hSw; (try dsimp only at hSw); go_simp; first | done | with_reducible rfl)
            case' r5r13 => (clear hcl12; simp only [Act.put, List.setIfInBounds_toArray, List.set_cons_zero, List.set_cons_succ])
            refine wpAnyK_past (i := 14) (by assumption) (by kernel_rfl) rfl (by kernel_rfl) (fun K hK => ?_)
            go_simp
            refine hK.out _ _ (fun hcl14 => ?_)
            refine wpAnyK_past (i := 15) (by assumption) (by kernel_rfl) rfl (by kernel_rfl) (fun K hK => ?_)
            go_simp
            refine hK.out _ _ (fun hcl15 => ?_)
            refine wpAnyK_done (by kernel_rfl) ?_
            clear hHeld hcl13 hcl14 hcl15
            have h9 : (w6.setCell ⟨w.heap.size, 0, none⟩ (.slice oa ts.length oc)).heap[w.heap.size]? = some (.cells #[.slice oa ts.length oc] 66 (0, 0)) := setCell_self (j := 0) _ HR6.out
            have z0 : (w6.setCell ⟨w.heap.size, 0, none⟩ (.slice oa ts.length oc)).cell? ⟨w.heap.size, 0, none⟩ = some (.slice oa ts.length oc) := run_cell h9 rfl
            have HB9 : Hid (∀ n, Below w.heap.size w ((w6.setCell ⟨w.heap.size, 0, none⟩ (.slice oa ts.length oc)).drewN n)) := fun n => bel_drewN (B6.out.setCell (Nat.le_refl _) _) n
            have HO9 : Hid (∀ n, RowF 4 93 NodeF (Nw w.heap.size ((w6.setCell ⟨w.heap.size, 0, none⟩ (.slice oa ts.length oc)).drewN n).heap.size) (.slice oa ts.length oc) ts ((w6.setCell ⟨w.heap.size, 0, none⟩ (.slice oa ts.length oc)).drewN n)) := fun n => by
              have h3 := (O6.out.ag stabNode ((Kp.store (F := fun q => q = w.heap.size) (w := w6) (o := 0) (u := .slice oa ts.length oc) rfl).ag (fun q hq e => by have := hq.1; omega))).below stabNode (bel_drewN (Below.refl _ _) n)
              have h4 := s6.out
              exact h3.up (fun q hq => ⟨by have := hq.1; omega, by have := hq.2; show q < (w6.setCell ⟨w.heap.size, 0, none⟩ (.slice oa ts.length oc)).heap.size; simp [World.setCell]; omega⟩)
            clear h9
            go_wp2
            refine bodyPost_ret (by simp [results, Tryz.results28, go_sem, z0]; try rfl) rfl ?_
            exact ⟨HB9.out 1, _, ts, _, rfl, HO9.out 1, HIn.out, HT.out, fun e => (by cases e), fun _ => HAn.out.2 (by trivial)⟩
          · cases hgt
        | true =>
          rw [hok, Bool.true_and] at HAn
          rw [hok] at HSp
          clear hok
          by_cases heq : str (exprT ts) = s
          · rw [decide_eq_true heq] at HAn
            rw [heq] at HSp
            clear heq
            have q1 : (s.toList == s.toList) = true := beq_self_eq_true _
            rcases hor with hno | ⟨hyes, hno⟩ | ⟨⟨hyes, hyes3⟩, hgt⟩
            · have i4 : ¬ (ts.length : Int) < (N : Int) := by omega
              go_wp2_with fail
              refine (HSp.out ()).mono ?_
              rintro e w6 ⟨rfl, hb6⟩
              have E6 : w6.heap[w.heap.size + 2]? = some (.cells #[.slice oa ts.length oc] 66 (0, 0)) := (hb6.block _ (by omega)).trans HE.out
              have R6 : w6.heap[w.heap.size]? = some (.cells #[.slice none 0 0] 66 (0, 0)) := (hb6.block _ (by omega)).trans HR.out
              have A6 : CuA (w.heap.size + 1) s b false w6 := CuA.below HA.out hb6
              have O6 : Hid (RowF 4 93 NodeF (Nw (w.heap.size + 3) wk.heap.size) (.slice oa ts.length oc) ts w6) := HO.out.below stabNode hb6
              have B6 : Hid (Below w.heap.size w w6) := HB.out.trans (hb6.mono HB.out.size)
              have s6 : Hid (wk.heap.size ≤ w6.heap.size) := hb6.size
              have HR6 : Hid (_) := R6
              have p0 := run_cell (j := 0) E6 rfl
              have p1 := run_cell (j := 2) A6 rfl
              have p2 := run_cell (j := 0) R6 rfl
              have p3 := run_frozen (j := 0) R6
              clear E6 R6 A6 hb6
              go_wp2_with fail
              refine wp_region_K (k := 14) (S := fun V => V.cell? ⟨w.heap.size + 2, 0, none⟩ = some (.slice oa ts.length oc) ∧ V.cell? ⟨w.heap.size + 1, 2, none⟩ = some (.bool false)) (by kernel_rfl) ?_ (fun hHeld hcl => ?_)
              · exact ⟨p0, p1⟩
              refine wpAnyK_take [0] (i := 0) (d := some 68) (v := ?r6v0) (by assumption) rfl (by kernel_rfl) (by kernel_rfl) (by kernel_rfl) (by kernel_rfl) (by kernel_rfl) (by decide) (by rfl) (fun _ _ _ h => h) (Or.inl ⟨by rfl, ?r6h0⟩) (by assumption) (fun hcl0 => ?r6r0)
              case r6h0 => (intro w hSw; (try dsimp only at hSw); go_simp; first | done | with_reducible rfl)
              case' r6r0 => (clear hcl; simp only [Act.put, List.setIfInBounds_toArray, List.set_cons_zero, List.set_cons_succ])
              refine wpAnyK_free (i := 1) (d := some 69) (v := ?r6v1) (by assumption) rfl (by kernel_rfl) (by kernel_rfl) (by kernel_rfl) (by decide) (by rfl) (fun _ _ _ h => h) (Or.inl ⟨by rfl, ?r6h1⟩) (.inr (by assumption)) (fun hcl1 => ?r6r1)
              case r6h1 => (intro w hSw; (try dsimp only at hSw); go_simp; first | done | with_reducible rfl)
              case' r6r1 => (clear hcl0; simp only [Act.put, List.setIfInBounds_toArray, List.set_cons_zero, List.set_cons_succ])
              refine wpAnyK_free (i := 2) (d := some 70) (v := ?r6v2) (by assumption) rfl (by kernel_rfl) (by kernel_rfl) (by kernel_rfl) (by decide) (by rfl) (fun _ _ _ h => h) (Or.inl ⟨by rfl, ?r6h2⟩) (.inr (by assumption)) (fun hcl2 => ?r6r2)
              case r6h2 => (intro w hSw; (try dsimp only at hSw); go_simp; first | done | with_reducible rfl)
              case' r6r2 => (clear hcl1; simp only [Act.put, List.setIfInBounds_toArray, List.set_cons_zero, List.set_cons_succ])
              refine wpAnyK_free (i := 3) (d := some 71) (v := ?r6v3) (by assumption) rfl (by kernel_rfl) (by kernel_rfl) (by kernel_rfl) (by decide) (by rfl) (fun _ _ _ h => h) (Or.inl ⟨by rfl, ?r6h3⟩) (.inr (by assumption)) (fun hcl3 => ?r6r3)
              case r6h3 => (intro w hSw; (try dsimp only at hSw); go_simp; first | done | with_reducible rfl)
              case' r6r3 => (clear hcl2; simp only [Act.put, List.setIfInBounds_toArray, List.set_cons_zero, List.set_cons_succ])
              refine wpAnyK_take [9, 8, 6, 5, 4] (i := 4) (d := some 72) (v := ?r6v4) (by assumption) rfl (by kernel_rfl) (by kernel_rfl) (by kernel_rfl) (by kernel_rfl) (by kernel_rfl) (by decide) (by rfl) (fun _ _ _ h => h) (Or.inl ⟨by rfl, ?r6h4⟩) (by assumption) (fun hcl4 => ?r6r4)
              case r6h4 => (intro w hSw; (try dsimp only at hSw); go_simp; first | done | with_reducible rfl)
              case' r6r4 => (clear hcl3; simp only [Act.put, List.setIfInBounds_toArray, List.set_cons_zero, List.set_cons_succ])
              refine wpAnyK_free (i := 5) (d := some 73) (v := ?r6v5) (by assumption) rfl (by kernel_rfl) (by kernel_rfl) (by kernel_rfl) (by decide) (by rfl) (fun _ _ _ h => h) (Or.inl ⟨by rfl, ?r6h5⟩) (.inr (by assumption)) (fun hcl5 => ?r6r5)
              case r6h5 => (intro w hSw; (try dsimp only at hSw); go_simp; first | done | with_reducible rfl)
              case' r6r5 => (clear hcl4; simp only [Act.put, List.setIfInBounds_toArray, List.set_cons_zero, List.set_cons_succ])
              refine wpAnyK_free (i := 6) (d := some 74) (v := ?r6v6) (by assumption) rfl (by kernel_rfl) (by kernel_rfl) (by kernel_rfl) (by decide) (by rfl) (fun _ _ _ h => h) (Or.inl ⟨by rfl, ?r6h6⟩) (.inr (by assumption)) (fun hcl6 => ?r6r6)
              case r6h6 => (intro w hSw; (try dsimp only at hSw); go_simp; first | done | with_reducible rfl)
              case' r6r6 => (clear hcl5; simp only [Act.put, List.setIfInBounds_toArray, List.set_cons_zero, List.set_cons_succ])
              refine wpAnyK_free (i := 7) (d := some 75) (v := ?r6v7) (by assumption) rfl (by kernel_rfl) (by kernel_rfl) (by kernel_rfl) (by decide) (by rfl) (fun _ _ _ h => h) (Or.inl ⟨by rfl, ?r6h7⟩) (.inr (by assumption)) (fun hcl7 => ?r6r7)
              case r6h7 => (intro w hSw; (try dsimp only at hSw); go_simp; first | done | with_reducible rfl)
              case' r6r7 => (clear hcl6; simp only [Act.put, List.setIfInBounds_toArray, List.set_cons_zero, List.set_cons_succ])
              refine wpAnyK_free (i := 8) (d := some 76) (v := ?r6v8) (by assumption) rfl (by kernel_rfl) (by kernel_rfl) (by kernel_rfl) (by decide) (by rfl) (fun _ _ _ h => h) (Or.inl ⟨by rfl, ?r6h8⟩) (.inr (by assumption)) (fun hcl8 => ?r6r8)
              case r6h8 => (intro w hSw; (try dsimp only at hSw); go_simp; first | done | with_reducible rfl)
              case' r6r8 => (clear hcl7; simp only [Act.put, List.setIfInBounds_toArray, List.set_cons_zero, List.set_cons_succ])
              refine wpAnyK_free (i := 9) (d := some 77) (v := ?r6v9) (by assumption) rfl (by kernel_rfl) (by kernel_rfl) (by kernel_rfl) (by decide) (by rfl) (fun _ _ _ h => h) (Or.inl ⟨by rfl, ?r6h9⟩) (.inr (by assumption)) (fun hcl9 => ?r6r9)
              case r6h9 => (intro w hSw; (try dsimp only at hSw); go_simp; first | done | with_reducible rfl)
              case' r6r9 => (clear hcl8; simp only [Act.put, List.setIfInBounds_toArray, List.set_cons_zero, List.set_cons_succ])
              refine wpAnyK_free (i := 10) (d := some 78) (v := ?r6v10) (by assumption) rfl (by kernel_rfl) (by kernel_rfl) (by kernel_rfl) (by decide) (by rfl) (fun _ _ _ h => h) (Or.inl ⟨by rfl, ?r6h10⟩) (.inr (by assumption)) (fun hcl10 => ?r6r10)
              case r6h10 => (intro w hSw; (try dsimp only at hSw); go_simp; first | done | with_reducible rfl)
              case' r6r10 => (clear hcl9; simp only [Act.put, List.setIfInBounds_toArray, List.set_cons_zero, List.set_cons_succ])
              refine wpAnyK_free (i := 11) (d := some 79) (v := ?r6v11) (by assumption) rfl (by kernel_rfl) (by kernel_rfl) (by kernel_rfl) (by decide) (by rfl) (fun _ _ _ h => h) (Or.inl ⟨by rfl, ?r6h11⟩) (.inr (by assumption)) (fun hcl11 => ?r6r11)
              case r6h11 => (intro w hSw; (try dsimp only at hSw); go_simp; first | done | with_reducible rfl)
              case' r6r11 => (clear hcl10; simp only [Act.put, List.setIfInBounds_toArray, List.set_cons_zero, List.set_cons_succ])
              refine wpAnyK_free (i := 12) (d := some 80) (v := ?r6v12) (by assumption) rfl (by kernel_rfl) (by kernel_rfl) (by kernel_rfl) (by decide) (by rfl) (fun _ _ _ h => h) (Or.inl ⟨by rfl, ?r6h12⟩) (.inr (by assumption)) (fun hcl12 => ?r6r12)
              case r6h12 => (intro w hSw; (try dsimp only at hSw); go_simp; first | done | with_reducible rfl)
              case' r6r12 => (clear hcl11; simp only [Act.put, List.setIfInBounds_toArray, List.set_cons_zero, List.set_cons_succ])
              refine wpAnyK_free (i := 13) (d := some 81) (v := ?r6v13) (by assumption) rfl (by kernel_rfl) (by kernel_rfl) (by kernel_rfl) (by decide) (by rfl) (fun _ _ _ h => h) (Or.inl ⟨by rfl, ?r6h13⟩) (.inr (by assumption)) (fun hcl13 => ?r6r13)
              case r6h13 => (intro w hSw; (try dsimp only at hSw); go_simp; first | done | with_reducible rfl)
              case' r6r13 => (clear hcl12; simp only [Act.put, List.setIfInBounds_toArray, List.set_cons_zero, List.set_cons_succ])
              refine wpAnyK_past (i := 14) (by assumption) (by kernel_rfl) rfl (by kernel_rfl) (fun K hK => ?_)
              go_simp
              refine hK.out _ _ (fun hcl14 => ?_)
              refine wpAnyK_past (i := 15) (by assumption) (by kernel_rfl) rfl (by kernel_rfl) (fun K hK => ?_)
              go_simp
              refine hK.out _ _ (fun hcl15 => ?_)
              refine wpAnyK_done (by kernel_rfl) ?_
              clear hHeld hcl13 hcl14 hcl15
              have h9 : (w6.setCell ⟨w.heap.size, 0, none⟩ (.slice oa ts.length oc)).heap[w.heap.size]? = some (.cells #[.slice oa ts.length oc] 66 (0, 0)) := setCell_self (j := 0) _ HR6.out
              have z0 : (w6.setCell ⟨w.heap.size, 0, none⟩ (.slice oa ts.length oc)).cell? ⟨w.heap.size, 0, none⟩ = some (.slice oa ts.length oc) := run_cell h9 rfl
              have HB9 : Hid (∀ n, Below w.heap.size w ((w6.setCell ⟨w.heap.size, 0, none⟩ (.slice oa ts.length oc)).drewN n)) := fun n => bel_drewN (B6.out.setCell (Nat.le_refl _) _) n
              have HO9 : Hid (∀ n, RowF 4 93 NodeF (Nw w.heap.size ((w6.setCell ⟨w.heap.size, 0, none⟩ (.slice oa ts.length oc)).drewN n).heap.size) (.slice oa ts.length oc) ts ((w6.setCell ⟨w.heap.size, 0, none⟩ (.slice oa ts.length oc)).drewN n)) := fun n => by
                have h3 := (O6.out.ag stabNode ((Kp.store (F := fun q => q = w.heap.size) (w := w6) (o := 0) (u := .slice oa ts.length oc) rfl).ag (fun q hq e => by have := hq.1; omega))).below stabNode (bel_drewN (Below.refl _ _) n)
                have h4 := s6.out
                exact h3.up (fun q hq => ⟨by have := hq.1; omega, by have := hq.2; show q < (w6.setCell ⟨w.heap.size, 0, none⟩ (.slice oa ts.length oc)).heap.size; simp [World.setCell]; omega⟩)
              clear h9
              go_wp2
              refine bodyPost_ret (by simp [results, Tryz.results28, go_sem, z0]; try rfl) rfl ?_
              exact ⟨HB9.out 1, _, ts, _, rfl, HO9.out 1, HIn.out, HT.out, fun _ => HAn.out.1 (by trivial), fun e => (by cases e)⟩
            · have i4 : (ts.length : Int) < (N : Int) := by omega
              have i5 : ¬ (ts.length : Int) < 30 := by omega
              go_wp2_with fail
              refine (HSp.out ()).mono ?_
              rintro e w6 ⟨rfl, hb6⟩
              have E6 : w6.heap[w.heap.size + 2]? = some (.cells #[.slice oa ts.length oc] 66 (0, 0)) := (hb6.block _ (by omega)).trans HE.out
              have R6 : w6.heap[w.heap.size]? = some (.cells #[.slice none 0 0] 66 (0, 0)) := (hb6.block _ (by omega)).trans HR.out
              have A6 : CuA (w.heap.size + 1) s b false w6 := CuA.below HA.out hb6
              have O6 : Hid (RowF 4 93 NodeF (Nw (w.heap.size + 3) wk.heap.size) (.slice oa ts.length oc) ts w6) := HO.out.below stabNode hb6
              have B6 : Hid (Below w.heap.size w w6) := HB.out.trans (hb6.mono HB.out.size)
              have s6 : Hid (wk.heap.size ≤ w6.heap.size) := hb6.size
              have HR6 : Hid (_) := R6
              have p0 := run_cell (j := 0) E6 rfl
              have p1 := run_cell (j := 2) A6 rfl
              have p2 := run_cell (j := 0) R6 rfl
              have p3 := run_frozen (j := 0) R6
              clear E6 R6 A6 hb6
              go_wp2_with fail
              refine wp_region_K (k := 14) (S := fun V => V.cell? ⟨w.heap.size + 2, 0, none⟩ = some (.slice oa ts.length oc) ∧ V.cell? ⟨w.heap.size + 1, 2, none⟩ = some (.bool false)) (by kernel_rfl) ?_ (fun hHeld hcl => ?_)
              · exact ⟨p0, p1⟩
              refine wpAnyK_take [0] (i := 0) (d := some 68) (v := ?r7v0) (by assumption) rfl (by kernel_rfl) (by kernel_rfl) (by kernel_rfl) (by kernel_rfl) (by kernel_rfl) (by decide) (by rfl) (fun _ _ _ h => h) (Or.inl ⟨by rfl, ?r7h0⟩) (by assumption) (fun hcl0 => ?r7r0)
              case r7h0 => (intro w hSw; (try dsimp only at hSw); go_simp; first | done | with_reducible rfl)
              case' r7r0 => (clear hcl; simp only [Act.put, List.setIfInBounds_toArray, List.set_cons_zero, List.set_cons_succ])
              refine wpAnyK_free (i := 1) (d := some 69) (v := ?r7v1) (by assumption) rfl (by kernel_rfl) (by kernel_rfl) (by kernel_rfl) (by decide) (by rfl) (fun _ _ _ h => h) (Or.inl ⟨by rfl, ?r7h1⟩) (.inr (by assumption)) (fun hcl1 => ?r7r1)
              case r7h1 => (intro w hSw; (try dsimp only at hSw); go_simp; first | done | with_reducible rfl)
              case' r7r1 => (clear hcl0; simp only [Act.put, List.setIfInBounds_toArray, List.set_cons_zero, List.set_cons_succ])
              refine wpAnyK_free (i := 2) (d := some 70) (v := ?r7v2) (by assumption) rfl (by kernel_rfl) (by kernel_rfl) (by kernel_rfl) (by decide) (by rfl) (fun _ _ _ h => h) (Or.inl ⟨by rfl, ?r7h2⟩) (.inr (by assumption)) (fun hcl2 => ?r7r2)
              case r7h2 => (intro w hSw; (try dsimp only at hSw); go_simp; first | done | with_reducible rfl)
              case' r7r2 => (clear hcl1; simp only [Act.put, List.setIfInBounds_toArray, List.set_cons_zero, List.set_cons_succ])
              refine wpAnyK_free (i := 3) (d := some 71) (v := ?r7v3) (by assumption) rfl (by kernel_rfl) (by kernel_rfl) (by kernel_rfl) (by decide) (by rfl) (fun _ _ _ h => h) (Or.inl ⟨by rfl, ?r7h3⟩) (.inr (by assumption)) (fun hcl3 => ?r7r3)
              case r7h3 => (intro w hSw; (try dsimp only at hSw); go_simp; first | done | with_reducible rfl)
              case' r7r3 => (clear hcl2; simp only [Act.put, List.setIfInBounds_toArray, List.set_cons_zero, List.set_cons_succ])
              refine wpAnyK_take [9, 8, 6, 5, 4] (i := 4) (d := some 72) (v := ?r7v4) (by assumption) rfl (by kernel_rfl) (by kernel_rfl) (by kernel_rfl) (by kernel_rfl) (by kernel_rfl) (by decide) (by rfl) (fun _ _ _ h => h) (Or.inl ⟨by rfl, ?r7h4⟩) (by assumption) (fun hcl4 => ?r7r4)
              case r7h4 => (intro w hSw; (try dsimp only at hSw); go_simp; first | done | with_reducible rfl)
              case' r7r4 => (clear hcl3; simp only [Act.put, List.setIfInBounds_toArray, List.set_cons_zero, List.set_cons_succ])
              refine wpAnyK_free (i := 5) (d := some 73) (v := ?r7v5) (by assumption) rfl (by kernel_rfl) (by kernel_rfl) (by kernel_rfl) (by decide) (by rfl) (fun _ _ _ h => h) (Or.inl ⟨by rfl, ?r7h5⟩) (.inr (by assumption)) (fun hcl5 => ?r7r5)
              case r7h5 => (intro w hSw; (try dsimp only at hSw); go_simp; first | done | with_reducible rfl)
              case' r7r5 => (clear hcl4; simp only [Act.put, List.setIfInBounds_toArray, List.set_cons_zero, List.set_cons_succ])
              refine wpAnyK_free (i := 6) (d := some 74) (v := ?r7v6) (by assumption) rfl (by kernel_rfl) (by kernel_rfl) (by kernel_rfl) (by decide) (by rfl) (fun _ _ _ h => h) (Or.inl ⟨by rfl, ?r7h6⟩) (.inr (by assumption)) (fun hcl6 => ?r7r6)
              case r7h6 => (intro w hSw; (try dsimp only at hSw); go_simp; first | done | with_reducible rfl)
              case' r7r6 => (clear hcl5; simp only [Act.put, List.setIfInBounds_toArray, List.set_cons_zero, List.set_cons_succ])
              refine wpAnyK_free (i := 7) (d := some 75) (v := ?r7v7) (by assumption) rfl (by kernel_rfl) (by kernel_rfl) (by kernel_rfl) (by decide) (by rfl) (fun _ _ _ h => h) (Or.inl ⟨by rfl, ?r7h7⟩) (.inr (by assumption)) (fun hcl7 => ?r7r7)
              case r7h7 => (intro w hSw; (try dsimp only at hSw); go_simp; first | done | with_reducible rfl)
              case' r7r7 => (clear hcl6; simp only [Act.put, List.setIfInBounds_toArray, List.set_cons_zero, List.set_cons_succ])
              refine wpAnyK_free (i := 8) (d := some 76) (v := ?r7v8) (by assumption) rfl (by kernel_rfl) (by kernel_rfl) (by kernel_rfl) (by decide) (by rfl) (fun _ _ _ h => h) (Or.inl ⟨by rfl, ?r7h8⟩) (.inr (by assumption)) (fun hcl8 => ?r7r8)
              case r7h8 => (intro w hSw; (try dsimp only at hSw); go_simp; first | done | with_reducible rfl)
              case' r7r8 => (clear hcl7; simp only [Act.put, List.setIfInBounds_toArray, List.set_cons_zero, List.set_cons_succ])
              refine wpAnyK_free (i := 9) (d := some 77) (v := ?r7v9) (by assumption) rfl (by kernel_rfl) (by kernel_rfl) (by kernel_rfl) (by decide) (by rfl) (fun _ _ _ h => h) (Or.inl ⟨by rfl, ?r7h9⟩) (.inr (by assumption)) (fun hcl9 => ?r7r9)
              case r7h9 => (intro w hSw; (try dsimp only at hSw); go_simp; first | done | with_reducible rfl)
              case' r7r9 => (clear hcl8; simp only [Act.put, List.setIfInBounds_toArray, List.set_cons_zero, List.set_cons_succ])
              refine wpAnyK_free (i := 10) (d := some 78) (v := ?r7v10) (by assumption) rfl (by kernel_rfl) (by kernel_rfl) (by kernel_rfl) (by decide) (by rfl) (fun _ _ _ h => h) (Or.inl ⟨by rfl, ?r7h10⟩) (.inr (by assumption)) (fun hcl10 => ?r7r10)
              case r7h10 => (intro w hSw; (try dsimp only at hSw); go_simp; first | done | with_reducible rfl)
              case' r7r10 => (clear hcl9; simp only [Act.put, List.setIfInBounds_toArray, List.set_cons_zero, List.set_cons_succ])
              refine wpAnyK_free (i := 11) (d := some 79) (v := ?r7v11) (by assumption) rfl (by kernel_rfl) (by kernel_rfl) (by kernel_rfl) (by decide) (by rfl) (fun _ _ _ h => h) (Or.inl ⟨by rfl, ?r7h11⟩) (.inr (by assumption)) (fun hcl11 => ?r7r11)
              case r7h11 => (intro w hSw; (try dsimp only at hSw); go_simp; first | done | with_reducible rfl)
              case' r7r11 => (clear hcl10; simp only [Act.put, List.setIfInBounds_toArray, List.set_cons_zero, List.set_cons_succ])
              refine wpAnyK_free (i := 12) (d := some 80) (v := ?r7v12) (by assumption) rfl (by kernel_rfl) (by kernel_rfl) (by kernel_rfl) (by decide) (by rfl) (fun _ _ _ h => h) (Or.inl ⟨by rfl, ?r7h12⟩) (.inr (by assumption)) (fun hcl12 => ?r7r12)
              case r7h12 => (intro w hSw; (try dsimp only at hSw); go_simp; first | done | with_reducible rfl)
              case' r7r12 => (clear hcl11; simp only [Act.put, List.setIfInBounds_toArray, List.set_cons_zero, List.set_cons_succ])
              refine wpAnyK_free (i := 13) (d := some 81) (v := ?r7v13) (by assumption) rfl (by kernel_rfl) (by kernel_rfl) (by kernel_rfl) (by decide) (by rfl) (fun _ _ _ h => h) (Or.inl ⟨by rfl, ?r7h13⟩) (.inr (by assumption)) (fun hcl13 => ?r7r13)
              case r7h13 => (intro w hSw; (try dsimp only at hSw); go_simp; first | done | with_reducible rfl)
              case' r7r13 => (clear hcl12; simp only [Act.put, List.setIfInBounds_toArray, List.set_cons_zero, List.set_cons_succ])
              refine wpAnyK_past (i := 14) (by assumption) (by kernel_rfl) rfl (by kernel_rfl) (fun K hK => ?_)
              go_simp
              refine hK.out _ _ (fun hcl14 => ?_)
              refine wpAnyK_past (i := 15) (by assumption) (by kernel_rfl) rfl (by kernel_rfl) (fun K hK => ?_)
              go_simp
              refine hK.out _ _ (fun hcl15 => ?_)
              refine wpAnyK_done (by kernel_rfl) ?_
              clear hHeld hcl13 hcl14 hcl15
              have h9 : (w6.setCell ⟨w.heap.size, 0, none⟩ (.slice oa ts.length oc)).heap[w.heap.size]? = some (.cells #[.slice oa ts.length oc] 66 (0, 0)) := setCell_self (j := 0) _ HR6.out
              have z0 : (w6.setCell ⟨w.heap.size, 0, none⟩ (.slice oa ts.length oc)).cell? ⟨w.heap.size, 0, none⟩ = some (.slice oa ts.length oc) := run_cell h9 rfl
              have HB9 : Hid (∀ n, Below w.heap.size w ((w6.setCell ⟨w.heap.size, 0, none⟩ (.slice oa ts.length oc)).drewN n)) := fun n => bel_drewN (B6.out.setCell (Nat.le_refl _) _) n
              have HO9 : Hid (∀ n, RowF 4 93 NodeF (Nw w.heap.size ((w6.setCell ⟨w.heap.size, 0, none⟩ (.slice oa ts.length oc)).drewN n).heap.size) (.slice oa ts.length oc) ts ((w6.setCell ⟨w.heap.size, 0, none⟩ (.slice oa ts.length oc)).drewN n)) := fun n => by
                have h3 := (O6.out.ag stabNode ((Kp.store (F := fun q => q = w.heap.size) (w := w6) (o := 0) (u := .slice oa ts.length oc) rfl).ag (fun q hq e => by have := hq.1; omega))).below stabNode (bel_drewN (Below.refl _ _) n)
                have h4 := s6.out
                exact h3.up (fun q hq => ⟨by have := hq.1; omega, by have := hq.2; show q < (w6.setCell ⟨w.heap.size, 0, none⟩ (.slice oa ts.length oc)).heap.size; simp [World.setCell]; omega⟩)
              clear h9
              go_wp2
              refine bodyPost_ret (by simp [results, Tryz.results28, go_sem, z0]; try rfl) rfl ?_
              exact ⟨HB9.out 1, _, ts, _, rfl, HO9.out 1, HIn.out, HT.out, fun _ => HAn.out.1 (by trivial), fun e => (by cases e)⟩
            · cases hgt
          · rw [decide_eq_false heq] at HAn
            have q1 : ((str (exprT ts)).toList == s.toList) = false := beq_eq_false_iff_ne.2 (fun h => heq (toList_injR h))
            clear heq
            generalize str (exprT ts) = st at *
            rcases hor with hno | ⟨hyes, hno⟩ | ⟨⟨hyes, hyes3⟩, hgt⟩
            · have i4 : ¬ (ts.length : Int) < (N : Int) := by omega
              go_wp2_with fail
              refine (HSp.out ()).mono ?_
              rintro e w6 ⟨rfl, hb6⟩
              have E6 : w6.heap[w.heap.size + 2]? = some (.cells #[.slice oa ts.length oc] 66 (0, 0)) := (hb6.block _ (by omega)).trans HE.out
              have R6 : w6.heap[w.heap.size]? = some (.cells #[.slice none 0 0] 66 (0, 0)) := (hb6.block _ (by omega)).trans HR.out
              have A6 : CuA (w.heap.size + 1) s b false w6 := CuA.below HA.out hb6
              have O6 : Hid (RowF 4 93 NodeF (Nw (w.heap.size + 3) wk.heap.size) (.slice oa ts.length oc) ts w6) := HO.out.below stabNode hb6
              have B6 : Hid (Below w.heap.size w w6) := HB.out.trans (hb6.mono HB.out.size)
              have s6 : Hid (wk.heap.size ≤ w6.heap.size) := hb6.size
              have HR6 : Hid (_) := R6
              have p0 := run_cell (j := 0) E6 rfl
              have p1 := run_cell (j := 2) A6 rfl
              have p2 := run_cell (j := 0) R6 rfl
              have p3 := run_frozen (j := 0) R6
              clear E6 R6 A6 hb6
              go_wp2_with fail
              refine wp_region_K (k := 14) (S := fun V => V.cell? ⟨w.heap.size + 2, 0, none⟩ = some (.slice oa ts.length oc) ∧ V.cell? ⟨w.heap.size + 1, 2, none⟩ = some (.bool false)) (by kernel_rfl) ?_ (fun hHeld hcl => ?_)
              · exact ⟨p0, p1⟩
              refine wpAnyK_take [0] (i := 0) (d := some 68) (v := ?r8v0) (by assumption) rfl (by kernel_rfl) (by kernel_rfl) (by kernel_rfl) (by kernel_rfl) (by kernel_rfl) (by decide) (by rfl) (fun _ _ _ h => h) (Or.inl ⟨by rfl, ?r8h0⟩) (by assumption) (fun hcl0 => ?r8r0)
              case r8h0 => (intro w hSw; (try dsimp only at hSw); go_simp; first | done | with_reducible rfl)
              case' r8r0 => (clear hcl; simp only [Act.put, List.setIfInBounds_toArray, List.set_cons_zero, List.set_cons_succ])
              refine wpAnyK_free (i := 1) (d := some 69) (v := ?r8v1) (by assumption) rfl (by kernel_rfl) (by kernel_rfl) (by kernel_rfl) (by decide) (by rfl) (fun _ _ _ h => h) (Or.inl ⟨by rfl, ?r8h1⟩) (.inr (by assumption)) (fun hcl1 => ?r8r1)
              case r8h1 => (intro w hSw; (try dsimp only at hSw); go_simp; first | done | with_reducible rfl)
              case' r8r1 => (clear hcl0; simp only [Act.put, List.setIfInBounds_toArray, List.set_cons_zero, List.set_cons_succ])
              refine wpAnyK_free (i := 2) (d := some 70) (v := ?r8v2) (by assumption) rfl (by kernel_rfl) (by kernel_rfl) (by kernel_rfl) (by decide) (by rfl) (fun _ _ _ h => h) (Or.inl ⟨by rfl, ?r8h2⟩) (.inr (by assumption)) (fun hcl2 => ?r8r2)
              case r8h2 => (intro w hSw; (try dsimp only at hSw); go_simp; first | done | with_reducible rfl)
              case' r8r2 => (clear hcl1; simp only [Act.put, List.setIfInBounds_toArray, List.set_cons_zero, List.set_cons_succ])
              refine wpAnyK_free (i := 3) (d := some 71) (v := ?r8v3) (by assumption) rfl (by kernel_rfl) (by kernel_rfl) (by kernel_rfl) (by decide) (by rfl) (fun _ _ _ h => h) (Or.inl ⟨by rfl, ?r8h3⟩) (.inr (by assumption)) (fun hcl3 => ?r8r3)
              case r8h3 => (intro w hSw; (try dsimp only at hSw); go_simp; first | done | with_reducible rfl)
              case' r8r3 => (clear hcl2; simp only [Act.put, List.setIfInBounds_toArray, List.set_cons_zero, List.set_cons_succ])
              refine wpAnyK_take [9, 8, 6, 5, 4] (i := 4) (d := some 72) (v := ?r8v4) (by assumption) rfl (by kernel_rfl) (by kernel_rfl) (by kernel_rfl) (by kernel_rfl) (by kernel_rfl) (by decide) (by rfl) (fun _ _ _ h => h) (Or.inl ⟨by rfl, ?r8h4⟩) (by assumption) (fun hcl4 => ?r8r4)
              case r8h4 => (intro w hSw; (try dsimp only at hSw); go_simp; first | done | with_reducible rfl)
              case' r8r4 => (clear hcl3; simp only [Act.put, List.setIfInBounds_toArray, List.set_cons_zero, List.set_cons_succ])
              refine wpAnyK_free (i := 5) (d := some 73) (v := ?r8v5) (by assumption) rfl (by kernel_rfl) (by kernel_rfl) (by kernel_rfl) (by decide) (by rfl) (fun _ _ _ h => h) (Or.inl ⟨by rfl, ?r8h5⟩) (.inr (by assumption)) (fun hcl5 => ?r8r5)
              case r8h5 => (intro w hSw; (try dsimp only at hSw); go_simp; first | done | with_reducible rfl)
              case' r8r5 => (clear hcl4; simp only [Act.put, List.setIfInBounds_toArray, List.set_cons_zero, List.set_cons_succ])
              refine wpAnyK_free (i := 6) (d := some 74) (v := ?r8v6) (by assumption) rfl (by kernel_rfl) (by kernel_rfl) (by kernel_rfl) (by decide) (by rfl) (fun _ _ _ h => h) (Or.inl ⟨by rfl, ?r8h6⟩) (.inr (by assumption)) (fun hcl6 => ?r8r6)
              case r8h6 => (intro w hSw; (try dsimp only at hSw); go_simp; first | done | with_reducible rfl)
              case' r8r6 => (clear hcl5; simp only [Act.put, List.setIfInBounds_toArray, List.set_cons_zero, List.set_cons_succ])
              refine wpAnyK_free (i := 7) (d := some 75) (v := ?r8v7) (by assumption) rfl (by kernel_rfl) (by kernel_rfl) (by kernel_rfl) (by decide) (by rfl) (fun _ _ _ h => h) (Or.inl ⟨by rfl, ?r8h7⟩) (.inr (by assumption)) (fun hcl7 => ?r8r7)
              case r8h7 => (intro w hSw; (try dsimp only at hSw); go_simp; first | done | with_reducible rfl)
              case' r8r7 => (clear hcl6; simp only [Act.put, List.setIfInBounds_toArray, List.set_cons_zero, List.set_cons_succ])
              refine wpAnyK_free (i := 8) (d := some 76) (v := ?r8v8) (by assumption) rfl (by kernel_rfl) (by kernel_rfl) (by kernel_rfl) (by decide) (by rfl) (fun _ _ _ h => h) (Or.inl ⟨by rfl, ?r8h8⟩) (.inr (by assumption)) (fun hcl8 => ?r8r8)
              case r8h8 => (intro w hSw; (try dsimp only at hSw); go_simp; first | done | with_reducible rfl)
              case' r8r8 => (clear hcl7; simp only [Act.put, List.setIfInBounds_toArray, List.set_cons_zero, List.set_cons_succ])
              refine wpAnyK_free (i := 9) (d := some 77) (v := ?r8v9) (by assumption) rfl (by kernel_rfl) (by kernel_rfl) (by kernel_rfl) (by decide) (by rfl) (fun _ _ _ h => h) (Or.inl ⟨by rfl, ?r8h9⟩) (.inr (by assumption)) (fun hcl9 => ?r8r9)
              case r8h9 => (intro w hSw; (try dsimp only at hSw); go_simp; first | done | with_reducible rfl)
              case' r8r9 => (clear hcl8; simp only [Act.put, List.setIfInBounds_toArray, List.set_cons_zero, List.set_cons_succ])
              refine wpAnyK_free (i := 10) (d := some 78) (v := ?r8v10) (by assumption) rfl (by kernel_rfl) (by kernel_rfl) (by kernel_rfl) (by decide) (by rfl) (fun _ _ _ h => h) (Or.inl ⟨by rfl, ?r8h10⟩) (.inr (by assumption)) (fun hcl10 => ?r8r10)
              case r8h10 => (intro w hSw; (try dsimp only at hSw); go_simp; first | done | with_reducible rfl)
              case' r8r10 => (clear hcl9; simp only [Act.put, List.setIfInBounds_toArray, List.set_cons_zero, List.set_cons_succ])
              refine wpAnyK_free (i := 11) (d := some 79) (v := ?r8v11) (by assumption) rfl (by kernel_rfl) (by kernel_rfl) (by kernel_rfl) (by decide) (by rfl) (fun _ _ _ h => h) (Or.inl ⟨by rfl, ?r8h11⟩) (.inr (by assumption)) (fun hcl11 => ?r8r11)
              case r8h11 => (intro w hSw; (try dsimp only at hSw); go_simp; first | done | with_reducible rfl)
              case' r8r11 => (clear hcl10; simp only [Act.put, List.setIfInBounds_toArray, List.set_cons_zero, List.set_cons_succ])
              refine wpAnyK_free (i := 12) (d := some 80) (v := ?r8v12) (by assumption) rfl (by kernel_rfl) (by kernel_rfl) (by kernel_rfl) (by decide) (by rfl) (fun _ _ _ h => h) (Or.inl ⟨by rfl, ?r8h12⟩) (.inr (by assumption)) (fun hcl12 => ?r8r12)
              case r8h12 => (intro w hSw; (try dsimp only at hSw); go_simp; first | done | with_reducible rfl)
              case' r8r12 => (clear hcl11; simp only [Act.put, List.setIfInBounds_toArray, List.set_cons_zero, List.set_cons_succ])
              refine wpAnyK_free (i := 13) (d := some 81) (v := ?r8v13) (by assumption) rfl (by kernel_rfl) (by kernel_rfl) (by kernel_rfl) (by decide) (by rfl) (fun _ _ _ h => h) (Or.inl ⟨by rfl, ?r8h13⟩) (.inr (by assumption)) (fun hcl13 => ?r8r13)
              case r8h13 => (intro w hSw; (try dsimp only at hSw); go_simp; first | done | with_reducible rfl)
              case' r8r13 => (clear hcl12; simp only [Act.put, List.setIfInBounds_toArray, List.set_cons_zero, List.set_cons_succ])
              refine wpAnyK_past (i := 14) (by assumption) (by kernel_rfl) rfl (by kernel_rfl) (fun K hK => ?_)
              go_simp
              refine hK.out _ _ (fun hcl14 => ?_)
              refine wpAnyK_past (i := 15) (by assumption) (by kernel_rfl) rfl (by kernel_rfl) (fun K hK => ?_)
              go_simp
              refine hK.out _ _ (fun hcl15 => ?_)
              refine wpAnyK_done (by kernel_rfl) ?_
              clear hHeld hcl13 hcl14 hcl15
              have h9 : (w6.setCell ⟨w.heap.size, 0, none⟩ (.slice oa ts.length oc)).heap[w.heap.size]? = some (.cells #[.slice oa ts.length oc] 66 (0, 0)) := setCell_self (j := 0) _ HR6.out
              have z0 : (w6.setCell ⟨w.heap.size, 0, none⟩ (.slice oa ts.length oc)).cell? ⟨w.heap.size, 0, none⟩ = some (.slice oa ts.length oc) := run_cell h9 rfl
              have HB9 : Hid (∀ n, Below w.heap.size w ((w6.setCell ⟨w.heap.size, 0, none⟩ (.slice oa ts.length oc)).drewN n)) := fun n => bel_drewN (B6.out.setCell (Nat.le_refl _) _) n
              have HO9 : Hid (∀ n, RowF 4 93 NodeF (Nw w.heap.size ((w6.setCell ⟨w.heap.size, 0, none⟩ (.slice oa ts.length oc)).drewN n).heap.size) (.slice oa ts.length oc) ts ((w6.setCell ⟨w.heap.size, 0, none⟩ (.slice oa ts.length oc)).drewN n)) := fun n => by
                have h3 := (O6.out.ag stabNode ((Kp.store (F := fun q => q = w.heap.size) (w := w6) (o := 0) (u := .slice oa ts.length oc) rfl).ag (fun q hq e => by have := hq.1; omega))).below stabNode (bel_drewN (Below.refl _ _) n)
                have h4 := s6.out
                exact h3.up (fun q hq => ⟨by have := hq.1; omega, by have := hq.2; show q < (w6.setCell ⟨w.heap.size, 0, none⟩ (.slice oa ts.length oc)).heap.size; simp [World.setCell]; omega⟩)
              clear h9
              go_wp2
              refine bodyPost_ret (by simp [results, Tryz.results28, go_sem, z0]; try rfl) rfl ?_
              exact ⟨HB9.out 1, _, ts, _, rfl, HO9.out 1, HIn.out, HT.out, fun e => (by cases e), fun _ => HAn.out.2 (by trivial)⟩
            · have i4 : (ts.length : Int) < (N : Int) := by omega
              have i5 : ¬ (ts.length : Int) < 30 := by omega
              go_wp2_with fail
              refine (HSp.out ()).mono ?_
              rintro e w6 ⟨rfl, hb6⟩
              have E6 : w6.heap[w.heap.size + 2]? = some (.cells #[.slice oa ts.length oc] 66 (0, 0)) := (hb6.block _ (by omega)).trans HE.out
              have R6 : w6.heap[w.heap.size]? = some (.cells #[.slice none 0 0] 66 (0, 0)) := (hb6.block _ (by omega)).trans HR.out
              have A6 : CuA (w.heap.size + 1) s b false w6 := CuA.below HA.out hb6
              have O6 : Hid (RowF 4 93 NodeF (Nw (w.heap.size + 3) wk.heap.size) (.slice oa ts.length oc) ts w6) := HO.out.below stabNode hb6
              have B6 : Hid (Below w.heap.size w w6) := HB.out.trans (hb6.mono HB.out.size)
              have s6 : Hid (wk.heap.size ≤ w6.heap.size) := hb6.size
              have HR6 : Hid (_) := R6
              have p0 := run_cell (j := 0) E6 rfl
              have p1 := run_cell (j := 2) A6 rfl
              have p2 := run_cell (j := 0) R6 rfl
              have p3 := run_frozen (j := 0) R6
              clear E6 R6 A6 hb6
              go_wp2_with fail
              refine wp_region_K (k := 14) (S := fun V => V.cell? ⟨w.heap.size + 2, 0, none⟩ = some (.slice oa ts.length oc) ∧ V.cell? ⟨w.heap.size + 1, 2, none⟩ = some (.bool false)) (by kernel_rfl) ?_ (fun hHeld hcl => ?_)
              · exact ⟨p0, p1⟩
              refine wpAnyK_take [0] (i := 0) (d := some 68) (v := ?r9v0) (by assumption) rfl (by kernel_rfl) (by kernel_rfl) (by kernel_rfl) (by kernel_rfl) (by kernel_rfl) (by decide) (by rfl) (fun _ _ _ h => h) (Or.inl ⟨by rfl, ?r9h0⟩) (by assumption) (fun hcl0 => ?r9r0)
              case r9h0 => (intro w hSw; (try dsimp only at hSw); go_simp; first | done | with_reducible rfl)
              case' r9r0 => (clear hcl; simp only [Act.put, List.setIfInBounds_toArray, List.set_cons_zero, List.set_cons_succ])
              refine wpAnyK_free (i := 1) (d := some 69) (v := ?r9v1) (by assumption) rfl (by kernel_rfl) (by kernel_rfl) (by kernel_rfl) (by decide) (by rfl) (fun _ _ _ h => h) (Or.inl ⟨by rfl, ?r9h1⟩) (.inr (by assumption)) (fun hcl1 => ?r9r1)
              case r9h1 => (intro w hSw; (try dsimp only at hSw); go_simp; first | done | with_reducible rfl)
              case' r9r1 => (clear hcl0; simp only [Act.put, List.setIfInBounds_toArray, List.set_cons_zero, List.set_cons_succ])
              refine wpAnyK_free (i := 2) (d := some 70) (v := ?r9v2) (by assumption) rfl (by kernel_rfl) (by kernel_rfl) (by kernel_rfl) (by decide) (by rfl) (fun _ _ _ h => h) (Or.inl ⟨by rfl, ?r9h2⟩) (.inr (by assumption)) (fun hcl2 => ?r9r2)
              case r9h2 => (intro w hSw; (try dsimp only at hSw); go_simp; first | done | with_reducible rfl)
              case' r9r2 => (clear hcl1; simp only [Act.put, List.setIfInBounds_toArray, List.set_cons_zero, List.set_cons_succ])
              refine wpAnyK_free (i := 3) (d := some 71) (v := ?r9v3) (by assumption) rfl (by kernel_rfl) (by kernel_rfl) (by kernel_rfl) (by decide) (by rfl) (fun _ _ _ h => h) (Or.inl ⟨by rfl, ?r9h3⟩) (.inr (by assumption)) (fun hcl3 => ?r9r3)
              case r9h3 => (intro w hSw; (try dsimp only at hSw); go_simp; first | done | with_reducible rfl)
              case' r9r3 => (clear hcl2; simp only [Act.put, List.setIfInBounds_toArray, List.set_cons_zero, List.set_cons_succ])
              refine wpAnyK_take [9, 8, 6, 5, 4] (i := 4) (d := some 72) (v := ?r9v4) (by assumption) rfl (by kernel_rfl) (by kernel_rfl) (by kernel_rfl) (by kernel_rfl) (by kernel_rfl) (by decide) (by rfl) (fun _ _ _ h => h) (Or.inl ⟨by rfl, ?r9h4⟩) (by assumption) (fun hcl4 => ?r9r4)
              case r9h4 => (intro w hSw; (try dsimp only at hSw); go_simp; first | done | with_reducible rfl)
              case' r9r4 => (clear hcl3; simp only [Act.put, List.setIfInBounds_toArray, List.set_cons_zero, List.set_cons_succ])
              refine wpAnyK_free (i := 5) (d := some 73) (v := ?r9v5) (by assumption) rfl (by kernel_rfl) (by kernel_rfl) (by kernel_rfl) (by decide) (by rfl) (fun _ _ _ h => h) (Or.inl ⟨by rfl, ?r9h5⟩) (.inr (by assumption)) (fun hcl5 => ?r9r5)
              case r9h5 => (intro w hSw; (try dsimp only at hSw); go_simp; first | done | with_reducible rfl)
              case' r9r5 => (clear hcl4; simp only [Act.put, List.setIfInBounds_toArray, List.set_cons_zero, List.set_cons_succ])
              refine wpAnyK_free (i := 6) (d := some 74) (v := ?r9v6) (by assumption) rfl (by kernel_rfl) (by kernel_rfl) (by kernel_rfl) (by decide) (by rfl) (fun _ _ _ h => h) (Or.inl ⟨by rfl, ?r9h6⟩) (.inr (by assumption)) (fun hcl6 => ?r9r6)
              case r9h6 => (intro w hSw; (try dsimp only at hSw); go_simp; first | done | with_reducible rfl)
              case' r9r6 => (clear hcl5; simp only [Act.put, List.setIfInBounds_toArray, List.set_cons_zero, List.set_cons_succ])
              refine wpAnyK_free (i := 7) (d := some 75) (v := ?r9v7) (by assumption) rfl (by kernel_rfl) (by kernel_rfl) (by kernel_rfl) (by decide) (by rfl) (fun _ _ _ h => h) (Or.inl ⟨by rfl, ?r9h7⟩) (.inr (by assumption)) (fun hcl7 => ?r9r7)
              case r9h7 => (intro w hSw; (try dsimp only at hSw); go_simp; first | done | with_reducible rfl)
              case' r9r7 => (clear hcl6; simp only [Act.put, List.setIfInBounds_toArray, List.set_cons_zero, List.set_cons_succ])
              refine wpAnyK_free (i := 8) (d := some 76) (v := ?r9v8) (by assumption) rfl (by kernel_rfl) (by kernel_rfl) (by kernel_rfl) (by decide) (by rfl) (fun _ _ _ h => h) (Or.inl ⟨by rfl, ?r9h8⟩) (.inr (by assumption)) (fun hcl8 => ?r9r8)
              case r9h8 => (intro w hSw; (try dsimp only at hSw); go_simp; first | done | with_reducible rfl)
              case' r9r8 => (clear hcl7; simp only [Act.put, List.setIfInBounds_toArray, List.set_cons_zero, List.set_cons_succ])
              refine wpAnyK_free (i := 9) (d := some 77) (v := ?r9v9) (by assumption) rfl (by kernel_rfl) (by kernel_rfl) (by kernel_rfl) (by decide) (by rfl) (fun _ _ _ h => h) (Or.inl ⟨by rfl, ?r9h9⟩) (.inr (by assumption)) (fun hcl9 => ?r9r9)
              case r9h9 => (intro w hSw; (try dsimp only at hSw); go_simp; first | done | with_reducible rfl)
              case' r9r9 => (clear hcl8; simp only [Act.put, List.setIfInBounds_toArray, List.set_cons_zero, List.set_cons_succ])
              refine wpAnyK_free (i := 10) (d := some 78) (v := ?r9v10) (by assumption) rfl (by kernel_rfl) (by kernel_rfl) (by kernel_rfl) (by decide) (by rfl) (fun _ _ _ h => h) (Or.inl ⟨by rfl, ?r9h10⟩) (.inr (by assumption)) (fun hcl10 => ?r9r10)
              case r9h10 => (intro w hSw; (try dsimp only at hSw); go_simp; first | done | with_reducible rfl)
              case' r9r10 => (clear hcl9; simp only [Act.put, List.setIfInBounds_toArray, List.set_cons_zero, List.set_cons_succ])
              refine wpAnyK_free (i := 11) (d := some 79) (v := ?r9v11) (by assumption) rfl (by kernel_rfl) (by kernel_rfl) (by kernel_rfl) (by decide) (by rfl) (fun _ _ _ h => h) (Or.inl ⟨by rfl, ?r9h11⟩) (.inr (by assumption)) (fun hcl11 => ?r9r11)
              case r9h11 => (intro w hSw; (try dsimp only at hSw); go_simp; first | done | with_reducible rfl)
              case' r9r11 => (clear hcl10; simp only [Act.put, List.setIfInBounds_toArray, List.set_cons_zero, List.set_cons_succ])
              refine wpAnyK_free (i := 12) (d := some 80) (v := ?r9v12) (by assumption) rfl (by kernel_rfl) (by kernel_rfl) (by kernel_rfl) (by decide) (by rfl) (fun _ _ _ h => h) (Or.inl ⟨by rfl, ?r9h12⟩) (.inr (by assumption)) (fun hcl12 => ?r9r12)
              case r9h12 => (intro w hSw; (try dsimp only at hSw); go_simp; first | done | with_reducible rfl)
              case' r9r12 => (clear hcl11; simp only [Act.put, List.setIfInBounds_toArray, List.set_cons_zero, List.set_cons_succ])
              refine wpAnyK_free (i := 13) (d := some 81) (v := ?r9v13) (by assumption) rfl (by kernel_rfl) (by kernel_rfl) (by kernel_rfl) (by decide) (by rfl) (fun _ _ _ h => h) (Or.inl ⟨by rfl, ?r9h13⟩) (.inr (by assumption)) (fun hcl13 => ?r9r13)
              case r9h13 => (intro w hSw; (try dsimp only at hSw); go_simp; first | done | with_reducible rfl)
              case' r9r13 => (clear hcl12; simp only [Act.put, List.setIfInBounds_toArray, List.set_cons_zero, List.set_cons_succ])
              refine wpAnyK_past (i := 14) (by assumption) (by kernel_rfl) rfl (by kernel_rfl) (fun K hK => ?_)
              go_simp
              refine hK.out _ _ (fun hcl14 => ?_)
              refine wpAnyK_past (i := 15) (by assumption) (by kernel_rfl) rfl (by kernel_rfl) (fun K hK => ?_)
              go_simp
              refine hK.out _ _ (fun hcl15 => ?_)
              refine wpAnyK_done (by kernel_rfl) ?_
              clear hHeld hcl13 hcl14 hcl15
              have h9 : (w6.setCell ⟨w.heap.size, 0, none⟩ (.slice oa ts.length oc)).heap[w.heap.size]? = some (.cells #[.slice oa ts.length oc] 66 (0, 0)) := setCell_self (j := 0) _ HR6.out
              have z0 : (w6.setCell ⟨w.heap.size, 0, none⟩ (.slice oa ts.length oc)).cell? ⟨w.heap.size, 0, none⟩ = some (.slice oa ts.length oc) := run_cell h9 rfl
              have HB9 : Hid (∀ n, Below w.heap.size w ((w6.setCell ⟨w.heap.size, 0, none⟩ (.slice oa ts.length oc)).drewN n)) := fun n => bel_drewN (B6.out.setCell (Nat.le_refl _) _) n
              have HO9 : Hid (∀ n, RowF 4 93 NodeF (Nw w.heap.size ((w6.setCell ⟨w.heap.size, 0, none⟩ (.slice oa ts.length oc)).drewN n).heap.size) (.slice oa ts.length oc) ts ((w6.setCell ⟨w.heap.size, 0, none⟩ (.slice oa ts.length oc)).drewN n)) := fun n => by
                have h3 := (O6.out.ag stabNode ((Kp.store (F := fun q => q = w.heap.size) (w := w6) (o := 0) (u := .slice oa ts.length oc) rfl).ag (fun q hq e => by have := hq.1; omega))).below stabNode (bel_drewN (Below.refl _ _) n)
                have h4 := s6.out
                exact h3.up (fun q hq => ⟨by have := hq.1; omega, by have := hq.2; show q < (w6.setCell ⟨w.heap.size, 0, none⟩ (.slice oa ts.length oc)).heap.size; simp [World.setCell]; omega⟩)
              clear h9
              go_wp2
              refine bodyPost_ret (by simp [results, Tryz.results28, go_sem, z0]; try rfl) rfl ?_
              exact ⟨HB9.out 1, _, ts, _, rfl, HO9.out 1, HIn.out, HT.out, fun e => (by cases e), fun _ => HAn.out.2 (by trivial)⟩
            · cases hgt

end Go.Proofs.YtokidlklkgghkaaGreatDoor
