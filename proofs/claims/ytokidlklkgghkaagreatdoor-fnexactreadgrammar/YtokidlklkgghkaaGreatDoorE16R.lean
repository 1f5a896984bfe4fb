/- The program's reader of bytes: single, number, short. -/
import Derived.Test.YtokidlklkgghkaaGreatDoorE16Q
import Derived.Test.YtokidlklkgghkaaGreatDoorFrK
import Derived.Test.YtokidlklkgghkaaGreatDoorUnhexPure
import Derived.Test.YtokidlklkgghkaaGreatDoorXKit3
import Derived.Test.YtokidlklkgghkaaGreatDoorHdP
import Derived.Test.YtokidlklkgghkaaGreatDoorOrK
namespace Go.Proofs.YtokidlklkgghkaaGreatDoor
open Go.RowKit
set_option linter.unusedVariables false

/-- A reader at p: its text, and where it stands. -/
def RdA (p : Nat) (s : ByteArray) (a : Nat) (w : World) : Prop := w.heap[p]? = some (.cells #[.string s, .int .i64 (a : Int)] 51 (0, 0))
theorem RdA.below {p : Nat} {s : ByteArray} {a : Nat} {w w' : World} (h : RdA p s a w) (hb : Below w.heap.size w w') : RdA p s a w' := (hb.block _ (Array.getElem?_eq_some_iff.1 h).1).trans h
/-- What a reader leaves: f is what writes, P what may be written, T how great it is, Rv the answer. -/
def RdOut {α : Type} (f : α → List UInt8) (P : α → Prop) (T : α → Nat) (Rv : α → Value → World → World → Prop) (p : Nat) (s : ByteArray) (a : Nat) (w : World) (e : Ending) (w' : World) : Prop :=
  Kp (fun q => q = p) w w' ∧ ((e = .panicked nrC ∧ ∀ x r, P x → s.data.toList.drop a ≠ f x ++ r) ∨ ∃ (v : Value) (x : α) (b : Nat), e = .returned v ∧ Rv x v w w' ∧ RdA p s b w' ∧ a + T x < b ∧ b ≤ s.size ∧ ∀ x0 r, P x0 → s.data.toList.drop a = f x0 ++ r → x = x0 ∧ b = a + (f x0).length)
theorem headB_some : ∀ (fu : Nat) (l bs : List UInt8), headB fu l = some bs → bs ≠ [] ∧ ∃ r, l = bs ++ r
  | 0, _, _, h => by cases h
  | _ + 1, [], _, h => by cases h
  | fu + 1, b :: r, bs, h => by
    rw [headB] at h
    split at h
    · cases h
      exact ⟨by simp, r, rfl⟩
    · cases h2 : headB fu r with
      | none => rw [h2] at h; cases h
      | some cs =>
        rw [h2] at h
        cases h
        obtain ⟨_, r', e⟩ := headB_some fu r cs h2
        exact ⟨by simp, r', by rw [e]; rfl⟩
theorem readB_some {l : List UInt8} {n k : Nat} (h : readB l = some (n, k)) : n ≤ 1000000000 ∧ 1 ≤ k ∧ k ≤ l.length := by
  rw [readB] at h
  cases hh : headB 5 l with
  | none => rw [hh] at h; cases h
  | some bs =>
    rw [hh] at h
    obtain ⟨h1, r, h2⟩ := headB_some 5 l bs hh
    simp only at h
    split at h
    · cases h
    · rename_i hc
      cases h
      refine ⟨by omega, List.length_pos_iff.2 h1, by rw [h2, List.length_append]; omega⟩
def RdN (n : Nat) (v : Value) (_ _ : World) : Prop := v = .int .i64 (n : Int) ∧ n ≤ 1000000000

set_option maxHeartbeats 1600000 in
set_option maxRecDepth 100000 in
theorem rdNumber_any (p : Nat) (s : ByteArray) (a : Nat) (w : World) (hs : s.size ≤ 1048576) (ha : a ≤ s.size) (h : RdA p s a w) :
    Calls Tryz.prog 38 #[.pointer (some ⟨p, 0, none⟩)] w fun e w' => RdOut varB (· ≤ 1000000000) (fun _ => 0) RdN p s a w e w' := by
  have hpw : p < w.heap.size := (Array.getElem?_eq_some_iff.1 h).1
  have HA : Hid (RdA p s a w) := h
  have c0 : w.cell? ⟨p, 0, none⟩ = some (.string s) := run_cell h rfl
  have c1 : w.cell? ⟨p, 1, none⟩ = some (.int .i64 (a : Int)) := run_cell h rfl
  have hll : s.data.toList.length = s.size := by rw [Array.length_toList]; rfl
  clear h
  cases hr : readB (s.data.toList.drop a) with
  | none =>
    have HC : Hid (∀ W, _) := fun W => implRead_any s (a : Int) W hs
    rw [rvVal_of (rvOut_none hr)] at HC
    have HN : Hid (readB (s.data.toList.drop a) = none) := hr
    clear hr
    go_enter Tryz.func38, Tryz.ntmps38
    go_wp2_with fail
    go_region_held3 (fun W => W.cell? ⟨p, 0, none⟩ = some (.string s) ∧ W.cell? ⟨p, 1, none⟩ = some (.int .i64 (a : Int)))
      ((first | assumption | go_keep))
      ((go_at_call 61; refine (HC.out _).mono ?_; rintro e wq ⟨rfl, hw⟩; rw [hw]; clear hw))
    go_wp2_with (go_at_call 62; refine (want_no _).mono ?_; rintro e wq ⟨rfl, hw⟩; rw [hw]; clear hw)
    exact ⟨rfl, Kp.below (Below.refl _ _).drew, .inl ⟨rfl, fun x r hx e => by
      have h9 := HN.out
      rw [e, readB_varB x r hx] at h9
      cases h9⟩⟩
  | some nk =>
    obtain ⟨n, k⟩ := nk
    have HC : Hid (∀ W, _) := fun W => implRead_any s (a : Int) W hs
    rw [rvVal_of (rvOut_some (by omega) hr)] at HC
    have HN : Hid (readB (s.data.toList.drop a) = some (n, k)) := hr
    have HF : Hid (∀ W : World, W.heap[p]? = some (.cells #[.string s, .int .i64 (a : Int)] 51 (0, 0)) → RdA p s (a + k) (W.setCell ⟨p, 1, none⟩ (.int .i64 ((a : Int) + k)))) := fun W hW => by
      have h1 := setCell_self (j := 1) (.int .i64 ((a : Int) + k)) hW
      unfold RdA
      rw [h1]
      simp
    clear hr
    have hd : w.drew.heap[p]? = some (.cells #[.string s, .int .i64 (a : Int)] 51 (0, 0)) := HA.out
    have HD : Hid (_) := hd
    have d1 := run_cell (j := 1) hd rfl
    have f1 := run_frozen (j := 1) hd
    clear hd
    go_enter Tryz.func38, Tryz.ntmps38
    go_wp2_with fail
    go_region_held3 (fun W => W.cell? ⟨p, 0, none⟩ = some (.string s) ∧ W.cell? ⟨p, 1, none⟩ = some (.int .i64 (a : Int)))
      ((first | assumption | go_keep))
      ((go_at_call 61; refine (HC.out _).mono ?_; rintro e wq ⟨rfl, hw⟩; rw [hw]; clear hw))
    go_wp2_with (go_at_call 62; refine (want_yes _).mono ?_; rintro e wq ⟨rfl, hw⟩; rw [hw]; clear hw)
    go_ret
    obtain ⟨q1, q2, q3⟩ := readB_some HN.out
    rw [List.length_drop, hll] at q3
    refine ⟨(Kp.below ((Below.refl _ _).drew : Below w.heap.size w w.drew)).trans (Kp.store rfl), .inr ⟨_, n, a + k, rfl, ⟨rfl, q1⟩, HF.out _ HD.out, by show a + 0 < a + k; omega, by omega, fun x0 r hx e => ?_⟩⟩
    have h9 := HN.out
    rw [e, readB_varB x0 r hx] at h9
    cases h9
    exact ⟨rfl, rfl⟩

theorem keepR2 {W W' : World} {a0 a1 : Addr} {x0 x1 : Value} (h : W.cell? a0 = some x0 ∧ W.cell? a1 = some x1) (hb : Below W.heap.size W W') : W'.cell? a0 = some x0 ∧ W'.cell? a1 = some x1 := ⟨cell_keep h.1 hb, cell_keep h.2 hb⟩
/-- Whether a short text stands at a place: how long, and how long its number is. -/
def shAt (s : ByteArray) (a n k : Nat) : Prop := readB (s.data.toList.drop a) = some (n, k) ∧ n ≤ 20000 ∧ a + k + n ≤ s.size
def RdS (t : ByteArray) (v : Value) (_ _ : World) : Prop := v = .string t ∧ t.size ≤ 20000
theorem rsVal_none {s : ByteArray} {a : Nat} (ha : a ≤ s.size) (h : ∀ n k, ¬ shAt s a n k) : rsVal s (a : Int) = .tuple #[.string (str []), .int .i64 0, .bool false] := by
  have hll : s.data.toList.length = s.size := by rw [Array.length_toList]; rfl
  cases hr : readB (s.data.toList.drop a) with
  | none => exact rsVal_no (rvOut_none hr) (fun h => by cases h.1)
  | some nk =>
    obtain ⟨n, k⟩ := nk
    exact rsVal_no (rvOut_some (by omega) hr) (fun h' => h n k ⟨hr, by omega, by omega⟩)
theorem rsVal_some {s : ByteArray} {a n k : Nat} (ha : a ≤ s.size) (h : shAt s a n k) : rsVal s (a : Int) = .tuple #[.string (s.extract (a + k) (a + k + n)), .int .i64 ((a + k + n : Nat) : Int), .bool true] := by
  have hll : s.data.toList.length = s.size := by rw [Array.length_toList]; rfl
  have h1 := rvOut_some (L := s.data.toList) (by omega) h.1
  unfold rsVal
  rw [h1]
  rw [if_pos ⟨rfl, by have := h.2.1; show (n : Int) ≤ 20000; omega, by have := h.2.2; show (n : Int) ≤ s.size - ((a : Int) + k); omega⟩]
  have e1 : ((a : Int) + k).toNat = a + k := by omega
  have e2 : ((a : Int) + k + n).toNat = a + k + n := by omega
  simp only [e1, e2]
  rw [show ((a : Int) + k + n) = ((a + k + n : Nat) : Int) by omega]

theorem shAt_of {s : ByteArray} {a : Nat} (ha : a ≤ s.size) {t : ByteArray} {r : List UInt8} (ht : t.size ≤ 20000) (e : s.data.toList.drop a = shortW t ++ r) : shAt s a t.size (varB t.size).length ∧ s.extract (a + (varB t.size).length) (a + (varB t.size).length + t.size) = t := by
  have hll : s.data.toList.length = s.size := by rw [Array.length_toList]; rfl
  have htl : t.data.toList.length = t.size := by rw [Array.length_toList]; rfl
  have e1 : s.data.toList.drop a = varB t.size ++ (t.data.toList ++ r) := by rw [e, shortW, List.append_assoc]
  have e2 := congrArg List.length e1
  rw [List.length_drop, List.length_append, List.length_append, hll, htl] at e2
  refine ⟨⟨by rw [e1, readB_varB _ _ (by omega)], ht, by omega⟩, ?_⟩
  have e3 : s.data.toList.drop (a + (varB t.size).length) = t.data.toList ++ r := by
    rw [← List.drop_drop, e1, List.drop_left]
  refine ByteArray.ext (Array.toList_inj.1 ?_)
  rw [ByteArray.data_extract, Array.toList_extract, List.extract_eq_take_drop, e3, show a + (varB t.size).length + t.size - (a + (varB t.size).length) = t.data.toList.length by rw [htl]; omega, List.take_left]
set_option maxHeartbeats 1600000 in
set_option maxRecDepth 100000 in
theorem rdShort_any (p : Nat) (s : ByteArray) (a : Nat) (w : World) (hs : s.size ≤ 1048576) (ha : a ≤ s.size) (h : RdA p s a w) :
    Calls Tryz.prog 39 #[.pointer (some ⟨p, 0, none⟩)] w fun e w' => RdOut shortW (fun t => t.size ≤ 20000) ByteArray.size RdS p s a w e w' := by
  have hpw : p < w.heap.size := (Array.getElem?_eq_some_iff.1 h).1
  have HA : Hid (RdA p s a w) := h
  have c0 : w.cell? ⟨p, 0, none⟩ = some (.string s) := run_cell h rfl
  have c1 : w.cell? ⟨p, 1, none⟩ = some (.int .i64 (a : Int)) := run_cell h rfl
  clear h
  have HC : Hid (∀ W, _) := fun W => implReadShort_any s (a : Int) W hs
  by_cases hx : ∃ n k, shAt s a n k
  · obtain ⟨n, k, hx⟩ := hx
    rw [rsVal_some ha hx] at HC
    have HN : Hid (shAt s a n k) := hx
    clear hx
    generalize hz : s.extract (a + k) (a + k + n) = z at *
    have HZ : Hid (s.extract (a + k) (a + k + n) = z) := hz
    clear hz
    generalize hq : a + k + n = q at *
    have HQ : Hid (a + k + n = q) := hq
    clear hq
    have HF : Hid (∀ W : World, W.heap[p]? = some (.cells #[.string s, .int .i64 (a : Int)] 51 (0, 0)) → RdA p s q (W.setCell ⟨p, 1, none⟩ (.int .i64 (q : Int)))) := fun W hW => by
      have h1 := setCell_self (j := 1) (.int .i64 (q : Int)) hW
      unfold RdA
      rw [h1]
      simp
    go_enter Tryz.func39, Tryz.ntmps39
    go_wp2_with fail
    go_region_held3 (fun W => W.cell? ⟨p, 0, none⟩ = some (.string s) ∧ W.cell? ⟨p, 1, none⟩ = some (.int .i64 (a : Int)))
      ((first | exact keepR2 (by assumption) hb2 | assumption | go_keep))
      ((go_at_call 63; refine (HC.out _).mono ?_; rintro e w2 ⟨rfl, hb2⟩))
    have hb2' : Below w.heap.size w w2 := bel_of_drew hb2
    have hd : w2.heap[p]? = some (.cells #[.string s, .int .i64 (a : Int)] 51 (0, 0)) := (hb2'.block _ hpw).trans HA.out
    have HD : Hid (_) := hd
    have d1 := run_cell (j := 1) hd rfl
    have f1 := run_frozen (j := 1) hd
    have HB2 : Hid (Below w.heap.size w w2) := hb2'
    clear hd hb2 hb2'
    go_wp2_with (go_at_call 62; refine (want_yes _).mono ?_; rintro e wq ⟨rfl, hw⟩; rw [hw]; clear hw)
    go_ret
    obtain rfl : a + k + n = q := HQ.out
    rw [← HZ.out]
    obtain ⟨q1, q2, q3⟩ := readB_some HN.out.1
    have q4 := HN.out.2
    have q5 : (s.extract (a + k) (a + k + n)).size = n := by rw [ByteArray.size_extract]; omega
    refine ⟨(Kp.below HB2.out).trans (Kp.store rfl), .inr ⟨_, _, a + k + n, rfl, ⟨rfl, by omega⟩, HF.out _ HD.out, by omega, q4.2, fun x0 r hx e => ?_⟩⟩
    obtain ⟨h8, h9⟩ := shAt_of ha hx e
    have h7 := HN.out.1.symm.trans h8.1
    cases h7
    exact ⟨h9, by rw [shortW, List.length_append, Array.length_toList]; show _ = a + (_ + x0.size); omega⟩
  · have HN : Hid (∀ n k, ¬ shAt s a n k) := fun n k h => hx ⟨n, k, h⟩
    rw [rsVal_none ha HN.out] at HC
    clear hx
    go_enter Tryz.func39, Tryz.ntmps39
    go_wp2_with fail
    go_region_held3 (fun W => W.cell? ⟨p, 0, none⟩ = some (.string s) ∧ W.cell? ⟨p, 1, none⟩ = some (.int .i64 (a : Int)))
      ((first | exact keepR2 (by assumption) hb2 | assumption | go_keep))
      ((go_at_call 63; refine (HC.out _).mono ?_; rintro e w2 ⟨rfl, hb2⟩))
    have HB2 : Hid (Below w.heap.size w w2) := bel_of_drew hb2
    clear hb2
    go_wp2_with (go_at_call 62; refine (want_no _).mono ?_; rintro e wq ⟨rfl, hw⟩; rw [hw]; clear hw)
    exact ⟨rfl, Kp.below HB2.out, .inl ⟨rfl, fun x r hx e => HN.out _ _ (shAt_of ha hx e).1⟩⟩

theorem byteW_of {b : UInt8} {n : Int} (h : 0 ≤ n ∧ n ≤ 127) (e : b = byteW n) : (b.toNat : Int) = n := by
  subst e
  rw [byteW, UInt8.toNat_ofNat']
  omega
def RdB (n : Int) (v : Value) (_ _ : World) : Prop := v = .int .i64 n ∧ 0 ≤ n ∧ n ≤ 255

set_option maxHeartbeats 1600000 in
set_option maxRecDepth 100000 in
theorem rdSingle_any (p : Nat) (s : ByteArray) (a : Nat) (w : World) (hs : s.size ≤ 1048576) (ha : a ≤ s.size) (h : RdA p s a w) :
    Calls Tryz.prog 82 #[.pointer (some ⟨p, 0, none⟩)] w fun e w' => RdOut (fun n => [byteW n]) (fun n => 0 ≤ n ∧ n ≤ 127) (fun _ => 0) RdB p s a w e w' := by
  have HA : Hid (RdA p s a w) := h
  have c0 : w.cell? ⟨p, 0, none⟩ = some (.string s) := run_cell h rfl
  have c1 : w.cell? ⟨p, 1, none⟩ = some (.int .i64 (a : Int)) := run_cell h rfl
  have hll : s.data.toList.length = s.size := by rw [Array.length_toList]; rfl
  clear h
  by_cases hlt : a < s.size
  · have d1 : decide ((a : Int) < (s.size : Int)) = true := decide_eq_true (by omega)
    go_enter Tryz.func82, Tryz.ntmps82
    go_wp2_with fail
    refine wp_region_K (k := 10) (S := fun W => W.cell? ⟨p, 0, none⟩ = some (.string s) ∧ W.cell? ⟨p, 1, none⟩ = some (.int .i64 (a : Int))) (by kernel_rfl) ?_ (fun hHeld hcl => ?_)
    · exact ⟨c0, c1⟩
    refine wpAnyK_free (i := 0) (d := some 3) (v := ?tv0) (by assumption) rfl (by kernel_rfl) (by kernel_rfl) (by kernel_rfl) (by decide) (by rfl) (fun _ _ _ h => h) (Or.inl ⟨by rfl, ?th0⟩) (.inr (by assumption)) (fun hcl0 => ?tr0)
    case th0 => (intro w hSw; (try dsimp only at hSw); go_simp; first | done | with_reducible rfl)
    case' tr0 => (clear hcl; simp only [Act.put, List.setIfInBounds_toArray, List.set_cons_zero, List.set_cons_succ])
    refine wpAnyK_free (i := 1) (d := some 4) (v := ?tv1) (by assumption) rfl (by kernel_rfl) (by kernel_rfl) (by kernel_rfl) (by decide) (by rfl) (fun _ _ _ h => h) (Or.inl ⟨by rfl, ?th1⟩) (.inr (by assumption)) (fun hcl1 => ?tr1)
    case th1 => (intro w hSw; (try dsimp only at hSw); go_simp; first | done | with_reducible rfl)
    case' tr1 => (clear hcl0; simp only [Act.put, List.setIfInBounds_toArray, List.set_cons_zero, List.set_cons_succ])
    refine wpAnyK_free (i := 2) (d := some 5) (v := ?tv2) (by assumption) rfl (by kernel_rfl) (by kernel_rfl) (by kernel_rfl) (by decide) (by rfl) (fun _ _ _ h => h) (Or.inl ⟨by rfl, ?th2⟩) (.inr (by assumption)) (fun hcl2 => ?tr2)
    case th2 => (intro w hSw; (try dsimp only at hSw); go_simp; first | done | with_reducible rfl)
    case' tr2 => (clear hcl1; simp only [Act.put, List.setIfInBounds_toArray, List.set_cons_zero, List.set_cons_succ])
    refine wpAnyK_take [9, 3] (i := 3) (d := some 6) (v := ?tv3) (by assumption) rfl (by kernel_rfl) (by kernel_rfl) (by kernel_rfl) (by kernel_rfl) (by kernel_rfl) (by decide) (by rfl) (fun _ _ _ h => h) (Or.inl ⟨by rfl, ?th3⟩) (by assumption) (fun hcl3 => ?tr3)
    case th3 => (intro w hSw; (try dsimp only at hSw); go_simp; first | done | with_reducible rfl)
    case' tr3 => (clear hcl2; simp only [Act.put, List.setIfInBounds_toArray, List.set_cons_zero, List.set_cons_succ])
    refine wpAnyK_free (i := 4) (d := some 7) (v := ?tv4) (by assumption) rfl (by kernel_rfl) (by kernel_rfl) (by kernel_rfl) (by decide) (by rfl) (fun _ _ _ h => h) (Or.inl ⟨by rfl, ?th4⟩) (.inr (by assumption)) (fun hcl4 => ?tr4)
    case th4 => (intro w hSw; (try dsimp only at hSw); go_simp; first | done | with_reducible rfl)
    case' tr4 => (clear hcl3; simp only [Act.put, List.setIfInBounds_toArray, List.set_cons_zero, List.set_cons_succ])
    refine wpAnyK_free (i := 5) (d := some 8) (v := ?tv5) (by assumption) rfl (by kernel_rfl) (by kernel_rfl) (by kernel_rfl) (by decide) (by rfl) (fun _ _ _ h => h) (Or.inl ⟨by rfl, ?th5⟩) (.inr (by assumption)) (fun hcl5 => ?tr5)
    case th5 => (intro w hSw; (try dsimp only at hSw); go_simp; first | done | with_reducible rfl)
    case' tr5 => (clear hcl4; simp only [Act.put, List.setIfInBounds_toArray, List.set_cons_zero, List.set_cons_succ])
    refine wpAnyK_free (i := 6) (d := some 9) (v := ?tv6) (by assumption) rfl (by kernel_rfl) (by kernel_rfl) (by kernel_rfl) (by decide) (by rfl) (fun _ _ _ h => h) (Or.inl ⟨by rfl, ?th6⟩) (.inr (by assumption)) (fun hcl6 => ?tr6)
    case th6 => (intro w hSw; (try dsimp only at hSw); go_simp; first | done | with_reducible rfl)
    case' tr6 => (clear hcl5; simp only [Act.put, List.setIfInBounds_toArray, List.set_cons_zero, List.set_cons_succ])
    refine wpAnyK_take [9, 8, 7] (i := 7) (d := some 10) (v := ?tv7) (by assumption) rfl (by kernel_rfl) (by kernel_rfl) (by kernel_rfl) (by kernel_rfl) (by kernel_rfl) (by decide) (by rfl) (fun _ _ _ h => h) (Or.inl ⟨by rfl, ?th7⟩) (by assumption) (fun hcl7 => ?tr7)
    case th7 => (intro w hSw; (try dsimp only at hSw); go_simp; first | done | with_reducible rfl)
    case' tr7 => (clear hcl6; simp only [Act.put, List.setIfInBounds_toArray, List.set_cons_zero, List.set_cons_succ])
    refine wpAnyK_free (i := 8) (d := some 11) (v := ?tv8) (by assumption) rfl (by kernel_rfl) (by kernel_rfl) (by kernel_rfl) (by decide) (by rfl) (fun _ _ _ h => h) (Or.inl ⟨by rfl, ?th8⟩) (.inr (by assumption)) (fun hcl8 => ?tr8)
    case th8 => (intro w hSw; (try dsimp only at hSw); go_simp; first | done | with_reducible rfl)
    case' tr8 => (clear hcl7; simp only [Act.put, List.setIfInBounds_toArray, List.set_cons_zero, List.set_cons_succ])
    refine wpAnyK_free (i := 9) (d := some 12) (v := ?tv9) (by assumption) rfl (by kernel_rfl) (by kernel_rfl) (by kernel_rfl) (by decide) (by rfl) (fun _ _ _ h => h) (Or.inl ⟨by rfl, ?th9⟩) (.inr (by assumption)) (fun hcl9 => ?tr9)
    case th9 => (intro w hSw; (try dsimp only at hSw); go_simp; first | done | with_reducible rfl)
    case' tr9 => (clear hcl8; simp only [Act.put, List.setIfInBounds_toArray, List.set_cons_zero, List.set_cons_succ])
    refine wpAnyK_past (i := 10) (by assumption) (by kernel_rfl) rfl (by kernel_rfl) (fun K hK => ?_)
    go_simp
    go_at_call 62
    refine (want_yes _).mono ?_
    rintro e wq ⟨rfl, hw⟩
    rw [hw]
    clear hw
    go_simp
    refine hK.out _ _ (fun hcl10 => ?_)
    refine wpAnyK_done (by kernel_rfl) ?_
    have hd : w.drew.heap[p]? = some (.cells #[.string s, .int .i64 (a : Int)] 51 (0, 0)) := HA.out
    have HD : Hid (_) := hd
    have d0 := run_cell (j := 0) hd rfl
    have d2 := run_cell (j := 1) hd rfl
    have f1 := run_frozen (j := 1) hd
    have hX : ((w.setCell ⟨p, 1, none⟩ (.int .i64 ((a : Int) + 1))).drew).heap[p]? = some (.cells #[.string s, .int .i64 ((a : Int) + 1)] 51 (0, 0)) := setCell_self (j := 1) _ HA.out
    have HX : Hid (_) := hX
    have x0 : ((w.setCell ⟨p, 1, none⟩ (.int .i64 ((a : Int) + 1))).drew).cell? ⟨p, 0, none⟩ = some (.string s) := run_cell (j := 0) hX rfl
    have x1 : ((w.setCell ⟨p, 1, none⟩ (.int .i64 ((a : Int) + 1))).drew).cell? ⟨p, 1, none⟩ = some (.int .i64 ((a : Int) + 1)) := run_cell (j := 1) hX rfl
    have i9 : IntKind.i64.wrap (a : Int) = (a : Int) := by rw [IntKind.wrap_i64]; omega
    have i8 : (a : Int) < (s.size : Int) := by omega
    clear hd hX hcl10 hHeld d1
    have hbyte : (s[a].toNat : Int) < 256 := by have := s[a].toNat_lt; omega
    go_wp2_with fail
    refine wp_region_K (k := 11) (S := fun W => W.cell? ⟨p, 0, none⟩ = some (.string s) ∧ W.cell? ⟨p, 1, none⟩ = some (.int .i64 ((a : Int) + 1))) (by kernel_rfl) ?_ (fun hHeld hcl => ?_)
    · exact ⟨x0, x1⟩
    refine wpAnyK_free (i := 0) (d := some 21) (v := ?uv0) (by assumption) rfl (by kernel_rfl) (by kernel_rfl) (by kernel_rfl) (by decide) (by rfl) (fun _ _ _ h => h) (Or.inl ⟨by rfl, ?uh0⟩) (.inr (by assumption)) (fun hcl0 => ?ur0)
    case uh0 => (intro w hSw; (try dsimp only at hSw); go_simp; first | done | with_reducible rfl)
    case' ur0 => (clear hcl; simp only [Act.put, List.setIfInBounds_toArray, List.set_cons_zero, List.set_cons_succ])
    refine wpAnyK_free (i := 1) (d := some 22) (v := ?uv1) (by assumption) rfl (by kernel_rfl) (by kernel_rfl) (by kernel_rfl) (by decide) (by rfl) (fun _ _ _ h => h) (Or.inl ⟨by rfl, ?uh1⟩) (.inr (by assumption)) (fun hcl1 => ?ur1)
    case uh1 => (intro w hSw; (try dsimp only at hSw); go_simp; first | done | with_reducible rfl)
    case' ur1 => (clear hcl0; simp only [Act.put, List.setIfInBounds_toArray, List.set_cons_zero, List.set_cons_succ])
    refine wpAnyK_free (i := 2) (d := some 23) (v := ?uv2) (by assumption) rfl (by kernel_rfl) (by kernel_rfl) (by kernel_rfl) (by decide) (by rfl) (fun _ _ _ h => h) (Or.inl ⟨by rfl, ?uh2⟩) (.inr (by assumption)) (fun hcl2 => ?ur2)
    case uh2 => (intro w hSw; (try dsimp only at hSw); go_simp; first | done | with_reducible rfl)
    case' ur2 => (clear hcl1; simp only [Act.put, List.setIfInBounds_toArray, List.set_cons_zero, List.set_cons_succ])
    refine wpAnyK_take [10, 9, 3] (i := 3) (d := some 24) (v := ?uv3) (by assumption) rfl (by kernel_rfl) (by kernel_rfl) (by kernel_rfl) (by kernel_rfl) (by kernel_rfl) (by decide) (by rfl) (fun _ _ _ h => h) (Or.inl ⟨by rfl, ?uh3⟩) (by assumption) (fun hcl3 => ?ur3)
    case uh3 => (intro w hSw; (try dsimp only at hSw); go_simp; first | done | with_reducible rfl)
    case' ur3 => (clear hcl2; simp only [Act.put, List.setIfInBounds_toArray, List.set_cons_zero, List.set_cons_succ])
    refine wpAnyK_free (i := 4) (d := some 25) (v := ?uv4) (by assumption) rfl (by kernel_rfl) (by kernel_rfl) (by kernel_rfl) (by decide) (by rfl) (fun _ _ _ h => h) (Or.inl ⟨by rfl, ?uh4⟩) (.inr (by assumption)) (fun hcl4 => ?ur4)
    case uh4 => (intro w hSw; (try dsimp only at hSw); go_simp; first | done | with_reducible rfl)
    case' ur4 => (clear hcl3; simp only [Act.put, List.setIfInBounds_toArray, List.set_cons_zero, List.set_cons_succ])
    refine wpAnyK_free (i := 5) (d := some 26) (v := ?uv5) (by assumption) rfl (by kernel_rfl) (by kernel_rfl) (by kernel_rfl) (by decide) (by rfl) (fun _ _ _ h => h) (Or.inl ⟨by rfl, ?uh5⟩) (.inr (by assumption)) (fun hcl5 => ?ur5)
    case uh5 => (intro w hSw; (try dsimp only at hSw); go_simp; first | done | with_reducible rfl)
    case' ur5 => (clear hcl4; simp only [Act.put, List.setIfInBounds_toArray, List.set_cons_zero, List.set_cons_succ])
    refine wpAnyK_free (i := 6) (d := some 27) (v := ?uv6) (by assumption) rfl (by kernel_rfl) (by kernel_rfl) (by kernel_rfl) (by decide) (by rfl) (fun _ _ _ h => h) (Or.inl ⟨by rfl, ?uh6⟩) (.inr (by assumption)) (fun hcl6 => ?ur6)
    case uh6 => (intro w hSw; (try dsimp only at hSw); go_simp; first | done | with_reducible rfl)
    case' ur6 => (clear hcl5; simp only [Act.put, List.setIfInBounds_toArray, List.set_cons_zero, List.set_cons_succ])
    refine wpAnyK_take [10, 9, 8, 7] (i := 7) (d := some 28) (v := ?uv7) (by assumption) rfl (by kernel_rfl) (by kernel_rfl) (by kernel_rfl) (by kernel_rfl) (by kernel_rfl) (by decide) (by rfl) (fun _ _ _ h => h) (Or.inl ⟨by rfl, ?uh7⟩) (by assumption) (fun hcl7 => ?ur7)
    case uh7 => (intro w hSw; (try dsimp only at hSw); go_simp; first | done | with_reducible rfl)
    case' ur7 => (clear hcl6; simp only [Act.put, List.setIfInBounds_toArray, List.set_cons_zero, List.set_cons_succ])
    refine wpAnyK_free (i := 8) (d := some 29) (v := ?uv8) (by assumption) rfl (by kernel_rfl) (by kernel_rfl) (by kernel_rfl) (by decide) (by rfl) (fun _ _ _ h => h) (Or.inl ⟨by rfl, ?uh8⟩) (.inr (by assumption)) (fun hcl8 => ?ur8)
    case uh8 => (intro w hSw; (try dsimp only at hSw); go_simp; first | done | with_reducible rfl)
    case' ur8 => (clear hcl7; simp only [Act.put, List.setIfInBounds_toArray, List.set_cons_zero, List.set_cons_succ])
    refine wpAnyK_free (i := 9) (d := some 30) (v := ?yv9) (by assumption) rfl (by kernel_rfl) (by kernel_rfl) (by kernel_rfl) (by decide) (by rfl) (fun _ _ _ h => h) (Or.inl ⟨by rfl, ?yh9⟩) (.inr (by assumption)) (fun hcl9 => ?yr9)
    case yh9 => (intro w hSw; (try dsimp only at hSw); go_simp; first | done | with_reducible rfl)
    case' yr9 => (clear hcl8; simp only [Act.put, List.setIfInBounds_toArray, List.set_cons_zero, List.set_cons_succ])
    refine wpAnyK_free (i := 10) (d := some 31) (v := ?yv10) (by assumption) rfl (by kernel_rfl) (by kernel_rfl) (by kernel_rfl) (by decide) (by rfl) (fun _ _ _ h => h) (Or.inl ⟨by rfl, ?yh10⟩) (.inr (by assumption)) (fun hcl10 => ?yr10)
    case yh10 => (intro w hSw; (try dsimp only at hSw); go_simp; first | done | with_reducible rfl)
    case' yr10 => (clear hcl9; simp only [Act.put, List.setIfInBounds_toArray, List.set_cons_zero, List.set_cons_succ])
    refine wpAnyK_past (i := 11) (by assumption) (by kernel_rfl) rfl (by kernel_rfl) (fun K hK => ?_)
    go_simp
    refine hK.out _ _ (fun hcl11 => ?_)
    refine wpAnyK_done (by kernel_rfl) ?_
    clear hHeld hcl11
    go_wp2
    go_ret
    have w8 : IntKind.i64.wrap (s[a].toNat : Int) = (s[a].toNat : Int) := by rw [IntKind.wrap_i64]; omega
    have e0 : s.data.toList.drop a = s[a] :: s.data.toList.drop (a + 1) := by
      rw [List.drop_eq_getElem_cons (by omega)]
      rfl
    refine ⟨(Kp.store rfl : Kp (fun q => q = p) w (w.setCell ⟨p, 1, none⟩ (.int .i64 ((a : Int) + 1)))).trans (Kp.below (Below.refl _ _).drew.drew), .inr ⟨_, (s[a].toNat : Int), a + 1, rfl, ⟨congrArg (Value.int .i64) w8, by omega, by omega⟩, ?_, by show a + 0 < a + 1; omega, by omega, fun n r hn e => ?_⟩⟩
    · unfold RdA
      rw [show ((a + 1 : Nat) : Int) = (a : Int) + 1 by omega]
      exact HX.out
    · rw [e0] at e
      have e1 : s[a] = byteW n := List.head_eq_of_cons_eq e
      exact ⟨byteW_of hn e1, rfl⟩
  · have d1 : decide ((a : Int) < (s.size : Int)) = false := decide_eq_false (by omega)
    have HN : Hid (s.data.toList.drop a = []) := List.drop_of_length_le (by omega)
    go_enter Tryz.func82, Tryz.ntmps82
    go_wp2_with fail
    refine wp_region_K (k := 10) (S := fun W => W.cell? ⟨p, 0, none⟩ = some (.string s) ∧ W.cell? ⟨p, 1, none⟩ = some (.int .i64 (a : Int))) (by kernel_rfl) ?_ (fun hHeld hcl => ?_)
    · exact ⟨c0, c1⟩
    refine wpAnyK_free (i := 0) (d := some 3) (v := ?sv0) (by assumption) rfl (by kernel_rfl) (by kernel_rfl) (by kernel_rfl) (by decide) (by rfl) (fun _ _ _ h => h) (Or.inl ⟨by rfl, ?sh0⟩) (.inr (by assumption)) (fun hcl0 => ?sr0)
    case sh0 => (intro w hSw; (try dsimp only at hSw); go_simp; first | done | with_reducible rfl)
    case' sr0 => (clear hcl; simp only [Act.put, List.setIfInBounds_toArray, List.set_cons_zero, List.set_cons_succ])
    refine wpAnyK_free (i := 1) (d := some 4) (v := ?sv1) (by assumption) rfl (by kernel_rfl) (by kernel_rfl) (by kernel_rfl) (by decide) (by rfl) (fun _ _ _ h => h) (Or.inl ⟨by rfl, ?sh1⟩) (.inr (by assumption)) (fun hcl1 => ?sr1)
    case sh1 => (intro w hSw; (try dsimp only at hSw); go_simp; first | done | with_reducible rfl)
    case' sr1 => (clear hcl0; simp only [Act.put, List.setIfInBounds_toArray, List.set_cons_zero, List.set_cons_succ])
    refine wpAnyK_free (i := 2) (d := some 5) (v := ?sv2) (by assumption) rfl (by kernel_rfl) (by kernel_rfl) (by kernel_rfl) (by decide) (by rfl) (fun _ _ _ h => h) (Or.inl ⟨by rfl, ?sh2⟩) (.inr (by assumption)) (fun hcl2 => ?sr2)
    case sh2 => (intro w hSw; (try dsimp only at hSw); go_simp; first | done | with_reducible rfl)
    case' sr2 => (clear hcl1; simp only [Act.put, List.setIfInBounds_toArray, List.set_cons_zero, List.set_cons_succ])
    refine wpAnyK_take [9, 3] (i := 3) (d := some 6) (v := ?sv3) (by assumption) rfl (by kernel_rfl) (by kernel_rfl) (by kernel_rfl) (by kernel_rfl) (by kernel_rfl) (by decide) (by rfl) (fun _ _ _ h => h) (Or.inl ⟨by rfl, ?sh3⟩) (by assumption) (fun hcl3 => ?sr3)
    case sh3 => (intro w hSw; (try dsimp only at hSw); go_simp; first | done | with_reducible rfl)
    case' sr3 => (clear hcl2; simp only [Act.put, List.setIfInBounds_toArray, List.set_cons_zero, List.set_cons_succ])
    refine wpAnyK_free (i := 4) (d := some 7) (v := ?sv4) (by assumption) rfl (by kernel_rfl) (by kernel_rfl) (by kernel_rfl) (by decide) (by rfl) (fun _ _ _ h => h) (Or.inl ⟨by rfl, ?sh4⟩) (.inr (by assumption)) (fun hcl4 => ?sr4)
    case sh4 => (intro w hSw; (try dsimp only at hSw); go_simp; first | done | with_reducible rfl)
    case' sr4 => (clear hcl3; simp only [Act.put, List.setIfInBounds_toArray, List.set_cons_zero, List.set_cons_succ])
    refine wpAnyK_free (i := 5) (d := some 8) (v := ?sv5) (by assumption) rfl (by kernel_rfl) (by kernel_rfl) (by kernel_rfl) (by decide) (by rfl) (fun _ _ _ h => h) (Or.inl ⟨by rfl, ?sh5⟩) (.inr (by assumption)) (fun hcl5 => ?sr5)
    case sh5 => (intro w hSw; (try dsimp only at hSw); go_simp; first | done | with_reducible rfl)
    case' sr5 => (clear hcl4; simp only [Act.put, List.setIfInBounds_toArray, List.set_cons_zero, List.set_cons_succ])
    refine wpAnyK_free (i := 6) (d := some 9) (v := ?sv6) (by assumption) rfl (by kernel_rfl) (by kernel_rfl) (by kernel_rfl) (by decide) (by rfl) (fun _ _ _ h => h) (Or.inl ⟨by rfl, ?sh6⟩) (.inr (by assumption)) (fun hcl6 => ?sr6)
    case sh6 => (intro w hSw; (try dsimp only at hSw); go_simp; first | done | with_reducible rfl)
    case' sr6 => (clear hcl5; simp only [Act.put, List.setIfInBounds_toArray, List.set_cons_zero, List.set_cons_succ])
    refine wpAnyK_take [9, 8, 7] (i := 7) (d := some 10) (v := ?sv7) (by assumption) rfl (by kernel_rfl) (by kernel_rfl) (by kernel_rfl) (by kernel_rfl) (by kernel_rfl) (by decide) (by rfl) (fun _ _ _ h => h) (Or.inl ⟨by rfl, ?sh7⟩) (by assumption) (fun hcl7 => ?sr7)
    case sh7 => (intro w hSw; (try dsimp only at hSw); go_simp; first | done | with_reducible rfl)
    case' sr7 => (clear hcl6; simp only [Act.put, List.setIfInBounds_toArray, List.set_cons_zero, List.set_cons_succ])
    refine wpAnyK_free (i := 8) (d := some 11) (v := ?sv8) (by assumption) rfl (by kernel_rfl) (by kernel_rfl) (by kernel_rfl) (by decide) (by rfl) (fun _ _ _ h => h) (Or.inl ⟨by rfl, ?sh8⟩) (.inr (by assumption)) (fun hcl8 => ?sr8)
    case sh8 => (intro w hSw; (try dsimp only at hSw); go_simp; first | done | with_reducible rfl)
    case' sr8 => (clear hcl7; simp only [Act.put, List.setIfInBounds_toArray, List.set_cons_zero, List.set_cons_succ])
    refine wpAnyK_free (i := 9) (d := some 12) (v := ?sv9) (by assumption) rfl (by kernel_rfl) (by kernel_rfl) (by kernel_rfl) (by decide) (by rfl) (fun _ _ _ h => h) (Or.inl ⟨by rfl, ?sh9⟩) (.inr (by assumption)) (fun hcl9 => ?sr9)
    case sh9 => (intro w hSw; (try dsimp only at hSw); go_simp; first | done | with_reducible rfl)
    case' sr9 => (clear hcl8; simp only [Act.put, List.setIfInBounds_toArray, List.set_cons_zero, List.set_cons_succ])
    refine wpAnyK_past (i := 10) (by assumption) (by kernel_rfl) rfl (by kernel_rfl) (fun K hK => ?_)
    go_simp
    go_at_call 62
    refine (want_no _).mono ?_
    rintro e wq ⟨rfl, hw⟩
    rw [hw]
    clear hw
    go_simp
    exact ⟨rfl, Kp.below (Below.refl _ _).drew, .inl ⟨rfl, fun x r hx e => by rw [HN.out] at e; cases e⟩⟩

end Go.Proofs.YtokidlklkgghkaaGreatDoor
