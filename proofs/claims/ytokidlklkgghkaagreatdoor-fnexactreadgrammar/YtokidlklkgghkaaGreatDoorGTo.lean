/- Lists read element by element (pure). -/
/- The program reads a list of texts. -/
/- The laws' helpers on grammars: copied into memory of their own (printed by mk/gkit.py). -/
import Derived.Test.YtokidlklkgghkaaGreatDoorE16R
import Derived.Test.YtokidlklkgghkaaGreatDoorGRule
import Derived.Test.YtokidlklkgghkaaGreatDoorXKit3
namespace Go.Proofs.YtokidlklkgghkaaGreatDoor
open Go.RowKit
set_option linter.unusedVariables false

/-- Behind some elements of a list of N, read from a1 on. -/
structure LoopD {α : Type} (f : α → List UInt8) (P : α → Prop) (T : α → Nat) (s : ByteArray) (a1 N : Nat) (xs : List α) (b : Nat) : Prop where
  low : a1 + (xs.map fun x => T x + 1).sum ≤ b
  up : b ≤ s.size
  det : ∀ (ys : List α) (r : List UInt8), ys.length = N → (∀ y ∈ ys, P y) → s.data.toList.drop a1 = (ys.map f).flatten ++ r → xs = ys.take xs.length ∧ b = a1 + ((ys.take xs.length).map f).flatten.length
section
variable {α : Type} {f : α → List UInt8} {P : α → Prop} {T : α → Nat} {s : ByteArray} {a1 N b : Nat} {xs : List α}
theorem LoopD.start (h : a1 ≤ s.size) : LoopD f P T s a1 N [] a1 := ⟨by simp, h, fun ys r _ _ _ => by simp⟩
theorem LoopD.rest (h : LoopD f P T s a1 N xs b) (hk : xs.length < N) {ys : List α} {r : List UInt8} (h1 : ys.length = N) (h2 : ∀ y ∈ ys, P y) (h3 : s.data.toList.drop a1 = (ys.map f).flatten ++ r) :
    ∃ hy : xs.length < ys.length, s.data.toList.drop b = f ys[xs.length] ++ (((ys.drop (xs.length + 1)).map f).flatten ++ r) := by
  have hy : xs.length < ys.length := by omega
  obtain ⟨e1, e2⟩ := h.det ys r h1 h2 h3
  refine ⟨hy, ?_⟩
  have e3 : (ys.map f).flatten = ((ys.take xs.length).map f).flatten ++ (f ys[xs.length] ++ ((ys.drop (xs.length + 1)).map f).flatten) := by
    have e4 : ys = ys.take xs.length ++ (ys[xs.length] :: ys.drop (xs.length + 1)) := by rw [← List.drop_eq_getElem_cons hy, List.take_append_drop]
    have e5 := congrArg (fun l => (l.map f).flatten) e4
    simp only [List.map_append, List.flatten_append, List.map_cons, List.flatten_cons] at e5
    exact e5
  rw [e2, ← List.drop_drop, h3, e3, List.append_assoc, List.drop_left, List.append_assoc]
theorem LoopD.next (h : LoopD f P T s a1 N xs b) (hk : xs.length < N) {x : α} {b' : Nat} (hl : b + T x < b') (hu : b' ≤ s.size) (hd : ∀ x0 r, P x0 → s.data.toList.drop b = f x0 ++ r → x = x0 ∧ b' = b + (f x0).length) : LoopD f P T s a1 N (xs ++ [x]) b' := by
  refine ⟨?_, hu, fun ys r h1 h2 h3 => ?_⟩
  · have := h.low
    simp only [List.map_append, List.sum_append, List.map_cons, List.map_nil, List.sum_cons, List.sum_nil]
    omega
  · obtain ⟨hy, e⟩ := h.rest hk h1 h2 h3
    obtain ⟨e1, e2⟩ := h.det ys r h1 h2 h3
    obtain ⟨e3, e4⟩ := hd _ _ (h2 _ (List.getElem_mem hy)) e
    have e5 : ys.take (xs.length + 1) = ys.take xs.length ++ [ys[xs.length]] := List.take_succ_eq_append_getElem hy
    rw [List.length_append, List.length_singleton, e5]
    refine ⟨by rw [e3, ← e1], ?_⟩
    rw [List.map_append, List.flatten_append, List.length_append]
    simp only [List.map_cons, List.map_nil, List.flatten_cons, List.flatten_nil, List.append_nil]
    omega
theorem LoopD.no (h : LoopD f P T s a1 N xs b) (hk : xs.length < N) (hd : ∀ x r, P x → s.data.toList.drop b ≠ f x ++ r) (ys : List α) (r : List UInt8) (h1 : ys.length = N) (h2 : ∀ y ∈ ys, P y) : s.data.toList.drop a1 ≠ (ys.map f).flatten ++ r := fun h3 => by
  obtain ⟨hy, e⟩ := h.rest hk h1 h2 h3
  exact hd _ _ (h2 _ (List.getElem_mem hy)) e
/-- What may be written of a list. -/
def ListP (P : α → Prop) (xs : List α) : Prop := xs.length ≤ 1000000000 ∧ ∀ x ∈ xs, P x
def listT (T : α → Nat) (xs : List α) : Nat := (xs.map fun x => T x + 1).sum
/-- The number ahead tells how many there are. -/
theorem list_head {a : Nat} {N : Nat} (hd : ∀ x0 r, x0 ≤ 1000000000 → s.data.toList.drop a = varB x0 ++ r → N = x0 ∧ a1 = a + (varB x0).length) {ys : List α} {r : List UInt8} (hp : ListP P ys) (e : s.data.toList.drop a = listW f ys ++ r) :
    ys.length = N ∧ a1 = a + (varB ys.length).length ∧ s.data.toList.drop a1 = (ys.map f).flatten ++ r := by
  rw [listW, List.append_assoc] at e
  obtain ⟨h1, h2⟩ := hd _ _ hp.1 e
  refine ⟨h1.symm, h2, ?_⟩
  rw [h2, ← List.drop_drop, e, List.drop_left]
theorem LoopD.fin {a : Nat} (ha : a < a1) (hd : ∀ x0 r, x0 ≤ 1000000000 → s.data.toList.drop a = varB x0 ++ r → N = x0 ∧ a1 = a + (varB x0).length) (h : LoopD f P T s a1 N xs b) (hk : xs.length = N) :
    a + listT T xs < b ∧ b ≤ s.size ∧ ∀ ys r, ListP P ys → s.data.toList.drop a = listW f ys ++ r → xs = ys ∧ b = a + (listW f ys).length := by
  refine ⟨by have := h.low; unfold listT; omega, h.up, fun ys r hp e => ?_⟩
  obtain ⟨h1, h2, h3⟩ := list_head hd hp e
  obtain ⟨e1, e2⟩ := h.det ys r h1 hp.2 h3
  rw [hk, ← h1, List.take_length] at e1 e2
  refine ⟨e1, ?_⟩
  rw [listW, List.length_append]
  omega
theorem LoopD.bad {a : Nat} (hd : ∀ x0 r, x0 ≤ 1000000000 → s.data.toList.drop a = varB x0 ++ r → N = x0 ∧ a1 = a + (varB x0).length) (h : LoopD f P T s a1 N xs b) (hk : xs.length < N) (hn : ∀ x r, P x → s.data.toList.drop b ≠ f x ++ r) (ys : List α) (r : List UInt8) (hp : ListP P ys) : s.data.toList.drop a ≠ listW f ys ++ r := fun e => by
  obtain ⟨h1, h2, h3⟩ := list_head hd hp e
  exact h.no hk hn ys r h1 hp.2 h3
end
end Go.Proofs.YtokidlklkgghkaaGreatDoor

namespace Go.Proofs.YtokidlklkgghkaaGreatDoor
open Go.RowKit
set_option linter.unusedVariables false

theorem Tryz.infoStrR : (Tryz.prog.info? 9).map (fun i => (i.zero, i.size, i.bytes)) = some (some (.string ⟨#[]⟩), 1, 16) := by kernel_rfl
theorem cellsR (w : World) (vs : List Value) (t : TypeId) : ∀ j u, vs[j]? = some u → (w.alloc (.cells vs.toArray t)).cell? ((⟨w.heap.size, 0, none⟩ : Addr).add j) = some u := by
  intro j u h
  rw [Addr.add_lit, Nat.zero_add]
  exact run_cell (heap_alloc_new w _) (by simpa using h)
theorem shapeR {w : World} {B s n : Nat} {e : TypeId} {v : Value} {cs : List Value} (h : w.ownsRow B e s v n cs) : ∃ a c, v = .slice a n c := by
  rcases h.2 with ⟨rfl, h0⟩ | ⟨g, cap, cur, rfl, _⟩
  · exact ⟨none, 0, by rw [h0]⟩
  · exact ⟨_, cap, rfl⟩
def RdSS (ts : List ByteArray) (v : Value) (w w' : World) : Prop := OwnB w.heap.size v ts w' ∧ ∀ t ∈ ts, t.size ≤ 20000

set_option maxHeartbeats 3200000 in
set_option maxRecDepth 100000 in
theorem readStrs_any (p : Nat) (s : ByteArray) (a : Nat) (w : World) (hs : s.size ≤ 1048576) (ha : a ≤ s.size) (h : RdA p s a w) :
    Calls Tryz.prog 40 #[.pointer (some ⟨p, 0, none⟩), .func (.func 39) #[.pointer (some ⟨p, 0, none⟩)] #[]] w fun e w' =>
      RdOut (listW shortW) (ListP fun t => t.size ≤ 20000) (listT ByteArray.size) RdSS p s a w e w' := by
  obtain ⟨i0, hi, hz0, hz1, hz2⟩ := info_parts Tryz.infoStrR
  have hpw : p < w.heap.size := (Array.getElem?_eq_some_iff.1 h).1
  have bal : Below w.heap.size w (w.alloc (.cells #[] 9)) := (Below.refl _ _).alloc (Nat.le_refl _) _
  have HA1 : Hid (RdA p s a (w.alloc (.cells #[] 9))) := RdA.below h bal
  have HK1 : Hid (Kp (fun q => q = p) w (w.alloc (.cells #[] 9))) := Kp.below bal
  have HO1 : Hid (OwnB w.heap.size (.slice (some ⟨w.heap.size, 0, none⟩) 0 0) [] (w.alloc (.cells #[] 9))) := World.ownsRow_made (base := w.heap.size) w #[] 0 (e := 9) (size := 1) (Nat.le_refl _) (by decide) rfl
  clear h bal
  go_enter Tryz.func40, Tryz.ntmps40
  go_wp2_with fail
  generalize w.alloc (.cells #[] 9) = w1 at *
  refine (rdNumber_any p s a w1 hs ha HA1.out).mono ?_
  rintro e w2 ⟨hk2, ⟨rfl, hn2⟩ | ⟨v2, N, a1, rfl, ⟨rfl, hN⟩, hA2, hlt2, hle2, hd2⟩⟩
  · go_simp
    exact ⟨rfl, HK1.out.trans hk2, .inl ⟨rfl, fun ys r hp e => by
      rw [listW, List.append_assoc] at e
      exact hn2 _ _ hp.1 e⟩⟩
  have HA2 : Hid (RdA p s a1 w2) := hA2
  have HK2 : Hid (Kp (fun q => q = p) w w2) := HK1.out.trans hk2
  have HD2 : Hid (∀ x0 r, x0 ≤ 1000000000 → s.data.toList.drop a = varB x0 ++ r → N = x0 ∧ a1 = a + (varB x0).length) := hd2
  have HL2 : Hid (a < a1) := by have h0 : a + 0 < a1 := hlt2; exact h0
  have HO2 : Hid (OwnB w.heap.size (.slice (some ⟨w.heap.size, 0, none⟩) 0 0) [] w2) := own_ag HO1.out (F := fun q => w.heap.size ≤ q) (hk2.ag (fun q hq e => by omega)) (fun q hq => (World.ownsRow.lt HO1.out q hq).1)
  clear hA2 hk2 hd2 hlt2
  go_wp2
  go_loopw [5, 9] (fun ov kv wr => ∃ (ts : List ByteArray) (b : Nat), kv = .int .i64 (ts.length : Int) ∧ ts.length ≤ N ∧ OwnB w.heap.size ov ts wr ∧ RdA p s b wr ∧ Kp (fun q => q = p) w wr ∧ LoopD shortW (fun t => t.size ≤ 20000) ByteArray.size s a1 N ts b ∧ ∀ t ∈ ts, t.size ≤ 20000) (fun _ kv _ => N - (intOf kv).toNat)
  case atStart => exact ⟨[], a1, rfl, Nat.zero_le _, HO2.out, HA2.out, HK2.out, LoopD.start hle2, fun t ht => by cases ht⟩
  case round =>
    clear HO2 HA2 HK2
    obtain ⟨ts, b, rfl, hk, ho, hA, hK0, hL, hS⟩ := hrel
    obtain ⟨wk, rfl⟩ : ∃ W, W = wr := ⟨wr, rfl⟩
    obtain ⟨oa, oc, rfl⟩ := shapeR ho
    have HO : Hid (OwnB w.heap.size (.slice oa ts.length oc) ts wk) := ho
    have HA : Hid (RdA p s b wk) := hA
    have HK : Hid (Kp (fun q => q = p) w wk) := hK0
    have HL : Hid (LoopD shortW (fun t => t.size ≤ 20000) ByteArray.size s a1 N ts b) := hL
    have HS : Hid (∀ t ∈ ts, t.size ≤ 20000) := hS
    have hws : w.heap.size ≤ wk.heap.size := hK0.size
    have htl : ts.length ≤ 1048576 := by
      have h1 := hL.low
      have h2 := hL.up
      have h3 : ∀ l : List ByteArray, l.length ≤ (l.map fun x => ByteArray.size x + 1).sum := fun l => by
        induction l with
        | nil => simp
        | cons x l ih => simp only [List.length_cons, List.map_cons, List.sum_cons]; omega
      have h4 := h3 ts
      omega
    have hbu : b ≤ s.size := hL.up
    clear ho hA hK0 hL hS
    by_cases hlt : ts.length < N
    · have i4 : (ts.length : Int) < (N : Int) := by omega
      go_wp2_with fail
      refine (rdShort_any p s b wk hs hbu HA.out).mono ?_
      rintro e w5 ⟨hk5, ⟨rfl, hn5⟩ | ⟨v5, t, b5, rfl, ⟨rfl, ht5⟩, hA5, hlt5, hle5, hd5⟩⟩
      · go_simp
        exact ⟨rfl, HK.out.trans hk5, .inl ⟨rfl, fun ys r hp => HL.out.bad HD2.out hlt hn5 ys r hp⟩⟩
      have HN5 : Hid (LoopD shortW (fun t => t.size ≤ 20000) ByteArray.size s a1 N (ts ++ [t]) b5) := HL.out.next hlt hlt5 hle5 hd5
      have HA5 : Hid (RdA p s b5 w5) := hA5
      have HK5 : Hid (Kp (fun q => q = p) w w5) := HK.out.trans hk5
      have HO5 : Hid (OwnB w.heap.size (.slice oa ts.length oc) ts w5) := own_ag HO.out (F := fun q => w.heap.size ≤ q) (hk5.ag (fun q hq e => by omega)) (fun q hq => (World.ownsRow.lt HO.out q hq).1)
      have HS5 : Hid (∀ x ∈ ts ++ [t], x.size ≤ 20000) := fun x hx => by
        rcases List.mem_append.1 hx with hx | hx
        · exact HS.out x hx
        · rw [List.mem_singleton.1 hx]; exact ht5
      have hw5 : w.heap.size ≤ w5.heap.size := HK5.out.size
      clear hA5 hk5 hd5 hlt5 hle5
      go_wp2_with (at_builtin; refine wpList_append_own_at _ rfl _ _ 37 rfl w.heap.size 9 i0 _ 1 16 Tryz.underlying37 hi hz0 hz1 hz2 rfl (by decide) _ _ _ rfl (World.ownsRow.alloc HO5.out _) ⟨_, 0, none⟩ 1 1 [.string t] rfl rfl (cellsR _ _ _) (by intro u hu; simp only [List.mem_cons, List.not_mem_nil, or_false] at hu; rcases hu with rfl; rfl) (by unfold maxLen; omega) (by omega) (by simp; omega) ?_)
      intro v6 w6 hown6 hgr6 _ hat6
      obtain ⟨a6, k6, rfl⟩ := shapeR hown6
      have hne : ∀ q, (Value.slice oa ts.length oc).ownBlock = some q → w.heap.size ≤ q := fun q hq => (World.ownsRow.lt HO5.out q hq).1
      have hs6 : w5.heap.size + 1 ≤ w6.heap.size := by have := hgr6.size; simpa using this
      have K6 : Hid (Kp (fun q => q = p) w w6) := ⟨hgr6.os.trans HK5.out.os, hgr6.tape.trans HK5.out.tape, hgr6.output.trans HK5.out.output, by omega, fun j hj hF => (hgr6.block j (by simp; omega) (fun e => by have := hne _ e.symm; omega)).trans ((Below.heap_alloc w5 _ j (by omega)).trans (HK5.out.block j hj hF))⟩
      have A6 : Hid (RdA p s b5 w6) := (hgr6.block p (by simp; omega) (fun e => by have := hne _ e.symm; omega)).trans ((Below.heap_alloc w5 _ p (by omega)).trans HA5.out)
      have O6 : Hid (OwnB w.heap.size (.slice a6 (ts.length + 1) k6) (ts ++ [t]) w6) := by
        rw [Hid, OwnB, List.length_append, sb, List.map_append]
        exact hown6
      clear hown6 hgr6 hat6
      go_wp2
      go_roundw
      case rel => exact ⟨ts ++ [t], b5, by rw [List.length_append, List.length_singleton]; go_num, by rw [List.length_append, List.length_singleton]; omega, O6.out, A6.out, K6.out, HN5.out, HS5.out⟩
      case measure => simp [intOf]; omega
    · obtain rfl : N = ts.length := by omega
      have i4 : ¬ (ts.length : Int) < (ts.length : Int) := by omega
      go_wp2
      go_ret
      obtain ⟨q1, q2, q3⟩ := HL.out.fin HL2.out HD2.out rfl
      exact ⟨HK.out, .inr ⟨_, ts, b, rfl, ⟨HO.out, HS.out⟩, HA.out, q1, q2, q3⟩⟩

end Go.Proofs.YtokidlklkgghkaaGreatDoor

namespace Go.Proofs.YtokidlklkgghkaaGreatDoor
open Go.RowKit

end Go.Proofs.YtokidlklkgghkaaGreatDoor
