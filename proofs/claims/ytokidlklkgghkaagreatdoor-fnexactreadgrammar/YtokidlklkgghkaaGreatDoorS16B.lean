/- The specification's reader of bytes: l16Var, l16ReadShort, l16Byte (printed by mk/s16b.py). -/
import Derived.Test.YtokidlklkgghkaaGreatDoorS16A
import Derived.BigQuiet
namespace Go.Proofs.YtokidlklkgghkaaGreatDoor
open Go.RowKit
set_option linter.unusedVariables false

/-- The specification's reader at p: its text, where it stands, its flag. -/
def CuA (p : Nat) (s : ByteArray) (a : Nat) (f : Bool) (w : World) : Prop := w.heap[p]? = some (.cells #[.string s, .int .i64 (a : Int), .bool f] 34 (0, 0))
theorem CuA.below {p : Nat} {s : ByteArray} {a : Nat} {f : Bool} {w w' : World} (h : CuA p s a f w) (hb : Below w.heap.size w w') : CuA p s a f w' := (hb.block _ (Array.getElem?_eq_some_iff.1 h).1).trans h
/-- What a reader with a flag leaves. -/
def SpOut {α : Type} (f : α → List UInt8) (P : α → Prop) (T : α → Nat) (c : Nat) (Rv : α → Value → World → World → Prop) (p : Nat) (s : ByteArray) (a : Nat) (f0 : Bool) (w : World) (e : Ending) (w' : World) : Prop :=
  Kp (fun q => q = p) w w' ∧ ∃ (v : Value) (x : α) (b : Nat) (f1 : Bool), e = .returned v ∧ Rv x v w w' ∧ CuA p s b f1 w' ∧ Fd f P T c s a f0 x b f1
theorem rv_cases {s : ByteArray} {a : Nat} (ha : a ≤ s.size) : (readB (s.data.toList.drop a) = none ∧ rvOut s.data.toList (a : Int) = (0, 0, false)) ∨ ∃ n k, readB (s.data.toList.drop a) = some (n, k) ∧ rvOut s.data.toList (a : Int) = ((n : Int), (a : Int) + k, true) := by
  have hll : s.data.toList.length = s.size := by rw [Array.length_toList]; rfl
  cases hr : readB (s.data.toList.drop a) with
  | none => exact .inl ⟨rfl, rvOut_none hr⟩
  | some nk => exact .inr ⟨nk.1, nk.2, rfl, rvOut_some (by omega) hr⟩
theorem cu_bad {p : Nat} {s : ByteArray} {a : Nat} {f : Bool} {W : World} (h : CuA p s a f W) : CuA p s a true (W.setCell ⟨p, 2, none⟩ (.bool true)) := by
  have h1 := setCell_self (j := 2) (.bool true) h
  unfold CuA
  rw [h1]
  simp
theorem cu_at {p : Nat} {s : ByteArray} {a b : Nat} {f : Bool} {W : World} (h : CuA p s a f W) : CuA p s b f (W.setCell ⟨p, 1, none⟩ (.int .i64 (b : Int))) := by
  have h1 := setCell_self (j := 1) (.int .i64 (b : Int)) h
  unfold CuA
  rw [h1]
  simp
theorem Fd.broken {α : Type} {f : α → List UInt8} {P : α → Prop} {T : α → Nat} {c : Nat} {s : ByteArray} {a : Nat} {f0 : Bool} {x : α} (ha : a ≤ s.size) (hx : T x = 0) (hn : f0 = false → ∀ x0 r, P x0 → s.data.toList.drop a ≠ f x0 ++ r) : Fd f P T c s a f0 x a true :=
  ⟨Nat.le_refl _, ha, by omega, fun _ => ⟨rfl, hx⟩, fun e _ => hn e, fun e => (by cases e), fun e => (by cases e)⟩
theorem Fd.read {α : Type} {f : α → List UInt8} {P : α → Prop} {T : α → Nat} {c : Nat} {s : ByteArray} {a b : Nat} {x : α} (hb : b ≤ s.size) (hx : a + T x < b) (hy : ∀ x0 r, P x0 → s.data.toList.drop a = f x0 ++ r → x = x0 ∧ b = a + (f x0).length) : Fd f P T c s a false x b false :=
  ⟨by omega, hb, by omega, fun e => (by cases e), fun _ e => (by cases e), fun _ => hx, fun _ => hy⟩

set_option maxHeartbeats 1600000 in
set_option maxRecDepth 100000 in
theorem spVar_any (p : Nat) (s : ByteArray) (a : Nat) (f0 : Bool) (w : World) (hs : s.size ≤ 1048576) (ha : a ≤ s.size) (h : CuA p s a f0 w) :
    Calls Tryz.prog 10 #[.pointer (some ⟨p, 0, none⟩)] w fun e w' => SpOut varB (· ≤ 1000000000) (fun _ => 0) 0 RdN p s a f0 w e w' := by
  have hpw : p < w.heap.size := (Array.getElem?_eq_some_iff.1 h).1
  have HA : Hid (CuA p s a f0 w) := h
  have c0 : w.cell? ⟨p, 0, none⟩ = some (.string s) := run_cell h rfl
  have c1 : w.cell? ⟨p, 1, none⟩ = some (.int .i64 (a : Int)) := run_cell h rfl
  clear h
  have HC : Hid (∀ W, _) := fun W => specRead_any s (a : Int) W hs
  rcases rv_cases ha with ⟨hr, ho⟩ | ⟨n, k, hr, ho⟩
  · rw [rvVal_of ho] at HC
    have HN : Hid (∀ (x0 : Nat) r, x0 ≤ 1000000000 → s.data.toList.drop a ≠ varB x0 ++ r) := fun x r hx e => by
      rw [e, readB_varB x r hx] at hr
      cases hr
    clear hr ho
    go_enter Tryz.func10, Tryz.ntmps10
    go_wp2_with fail
    go_region_held3 (fun W => W.cell? ⟨p, 0, none⟩ = some (.string s) ∧ W.cell? ⟨p, 1, none⟩ = some (.int .i64 (a : Int)))
      ((first | exact keepR2 (by assumption) hb2 | assumption | go_keep))
      ((go_at_call 25; refine (HC.out _).mono ?_; rintro e w2 ⟨rfl, hb2⟩))
    have HB2 : Hid (Below w.heap.size w w2) := bel_of_drew hb2
    have HC2 : Hid (CuA p s a f0 w2) := CuA.below HA.out HB2.out
    have e2 : w2.cell? ⟨p, 2, none⟩ = some (.bool f0) := run_cell HC2.out rfl
    have f1 := run_frozen (j := 1) HC2.out
    have f2 := run_frozen (j := 2) HC2.out
    clear hb2
    cases f0
    · go_wp2
      go_ret
      exact ⟨(Kp.below HB2.out).trans (Kp.store rfl), _, 0, a, true, rfl, ⟨rfl, by omega⟩, cu_bad HC2.out, Fd.broken ha rfl (fun _ => HN.out)⟩
    · go_wp2
      go_ret
      exact ⟨(Kp.below HB2.out).trans (Kp.store rfl), _, 0, a, true, rfl, ⟨rfl, by omega⟩, cu_bad HC2.out, Fd.broken ha rfl (fun _ => HN.out)⟩
  · rw [rvVal_of ho] at HC
    have HR : Hid (readB (s.data.toList.drop a) = some (n, k)) := hr
    clear hr ho
    have HF : Hid (∀ W : World, CuA p s a f0 W → CuA p s (a + k) f0 (W.setCell ⟨p, 1, none⟩ (.int .i64 ((a : Int) + k)))) := fun W hW => cu_at (b := a + k) hW
    go_enter Tryz.func10, Tryz.ntmps10
    go_wp2_with fail
    go_region_held3 (fun W => W.cell? ⟨p, 0, none⟩ = some (.string s) ∧ W.cell? ⟨p, 1, none⟩ = some (.int .i64 (a : Int)))
      ((first | exact keepR2 (by assumption) hb2 | assumption | go_keep))
      ((go_at_call 25; refine (HC.out _).mono ?_; rintro e w2 ⟨rfl, hb2⟩))
    have HB2 : Hid (Below w.heap.size w w2) := bel_of_drew hb2
    have HC2 : Hid (CuA p s a f0 w2) := CuA.below HA.out HB2.out
    have e2 : w2.cell? ⟨p, 2, none⟩ = some (.bool f0) := run_cell HC2.out rfl
    have f1 := run_frozen (j := 1) HC2.out
    have f2 := run_frozen (j := 2) HC2.out
    clear hb2
    cases f0
    · go_wp2
      go_ret
      have hll : s.data.toList.length = s.size := by rw [Array.length_toList]; rfl
      obtain ⟨q1, q2, q3⟩ := readB_some HR.out
      rw [List.length_drop, hll] at q3
      refine ⟨(Kp.below HB2.out).trans (Kp.store rfl), _, n, a + k, false, rfl, ⟨rfl, q1⟩, HF.out _ HC2.out, Fd.read (by omega) (by show a + 0 < a + k; omega) (fun x0 r hx e => ?_)⟩
      have h9 := HR.out
      rw [e, readB_varB x0 r hx] at h9
      cases h9
      exact ⟨rfl, rfl⟩
    · go_wp2
      go_ret
      exact ⟨(Kp.below HB2.out).trans (Kp.store rfl), _, 0, a, true, rfl, ⟨rfl, by omega⟩, cu_bad HC2.out, Fd.broken ha rfl (fun e => by cases e)⟩

set_option maxHeartbeats 1600000 in
set_option maxRecDepth 100000 in
theorem spShort_any (p : Nat) (s : ByteArray) (a : Nat) (f0 : Bool) (w : World) (hs : s.size ≤ 1048576) (ha : a ≤ s.size) (h : CuA p s a f0 w) :
    Calls Tryz.prog 11 #[.pointer (some ⟨p, 0, none⟩)] w fun e w' => SpOut shortW (fun t => t.size ≤ 20000) ByteArray.size 0 RdS p s a f0 w e w' := by
  have hpw : p < w.heap.size := (Array.getElem?_eq_some_iff.1 h).1
  have HA : Hid (CuA p s a f0 w) := h
  have c0 : w.cell? ⟨p, 0, none⟩ = some (.string s) := run_cell h rfl
  have c1 : w.cell? ⟨p, 1, none⟩ = some (.int .i64 (a : Int)) := run_cell h rfl
  clear h
  have HC : Hid (∀ W, _) := fun W => specReadShort_any s (a : Int) W hs
  by_cases hx : ∃ n k, shAt s a n k
  · obtain ⟨n, k, hx⟩ := hx
    rw [rsVal_some ha hx] at HC
    have HN : Hid (shAt s a n k) := hx
    clear hx
    generalize hz : s.extract (a + k) (a + k + n) = z at *
    have HZ : Hid (s.extract (a + k) (a + k + n) = z) := hz
    clear hz
    generalize hq : a + k + n = q at *
    have HQ : Hid (a + k + n = q) := hq
    clear hq
    go_enter Tryz.func11, Tryz.ntmps11
    go_wp2_with fail
    go_region_held3 (fun W => W.cell? ⟨p, 0, none⟩ = some (.string s) ∧ W.cell? ⟨p, 1, none⟩ = some (.int .i64 (a : Int)))
      ((first | exact keepR2 (by assumption) hb2 | assumption | go_keep))
      ((go_at_call 26; refine (HC.out _).mono ?_; rintro e w2 ⟨rfl, hb2⟩))
    have HB2 : Hid (Below w.heap.size w w2) := bel_of_drew hb2
    have HC2 : Hid (CuA p s a f0 w2) := CuA.below HA.out HB2.out
    have e2 : w2.cell? ⟨p, 2, none⟩ = some (.bool f0) := run_cell HC2.out rfl
    have f1 := run_frozen (j := 1) HC2.out
    have f2 := run_frozen (j := 2) HC2.out
    clear hb2
    cases f0
    · go_wp2
      go_ret
      obtain rfl : a + k + n = q := HQ.out
      rw [← HZ.out]
      obtain ⟨q1, q2, q3⟩ := readB_some HN.out.1
      have q4 := HN.out.2
      have q5 : (s.extract (a + k) (a + k + n)).size = n := by rw [ByteArray.size_extract]; omega
      refine ⟨(Kp.below HB2.out).trans (Kp.store rfl), _, _, a + k + n, false, rfl, ⟨rfl, by omega⟩, cu_at (b := a + k + n) HC2.out, Fd.read q4.2 (by omega) (fun x0 r hx e => ?_)⟩
      obtain ⟨h8, h9⟩ := shAt_of ha hx e
      have h7 := HN.out.1.symm.trans h8.1
      cases h7
      exact ⟨h9, by rw [shortW, List.length_append, Array.length_toList]; show _ = a + (_ + x0.size); omega⟩
    · go_wp2
      go_ret
      exact ⟨(Kp.below HB2.out).trans (Kp.store rfl), _, ⟨#[]⟩, a, true, rfl, ⟨rfl, by decide⟩, cu_bad HC2.out, Fd.broken ha rfl (fun e => by cases e)⟩
  · have HN : Hid (∀ n k, ¬ shAt s a n k) := fun n k h => hx ⟨n, k, h⟩
    rw [rsVal_none ha HN.out] at HC
    clear hx
    go_enter Tryz.func11, Tryz.ntmps11
    go_wp2_with fail
    go_region_held3 (fun W => W.cell? ⟨p, 0, none⟩ = some (.string s) ∧ W.cell? ⟨p, 1, none⟩ = some (.int .i64 (a : Int)))
      ((first | exact keepR2 (by assumption) hb2 | assumption | go_keep))
      ((go_at_call 26; refine (HC.out _).mono ?_; rintro e w2 ⟨rfl, hb2⟩))
    have HB2 : Hid (Below w.heap.size w w2) := bel_of_drew hb2
    have HC2 : Hid (CuA p s a f0 w2) := CuA.below HA.out HB2.out
    have e2 : w2.cell? ⟨p, 2, none⟩ = some (.bool f0) := run_cell HC2.out rfl
    have f1 := run_frozen (j := 1) HC2.out
    have f2 := run_frozen (j := 2) HC2.out
    clear hb2
    cases f0
    · go_wp2
      go_ret
      exact ⟨(Kp.below HB2.out).trans (Kp.store rfl), _, ⟨#[]⟩, a, true, rfl, ⟨rfl, by decide⟩, cu_bad HC2.out, Fd.broken ha rfl (fun _ x r hx e => HN.out _ _ (shAt_of ha hx e).1)⟩
    · go_wp2
      go_ret
      exact ⟨(Kp.below HB2.out).trans (Kp.store rfl), _, ⟨#[]⟩, a, true, rfl, ⟨rfl, by decide⟩, cu_bad HC2.out, Fd.broken ha rfl (fun e => by cases e)⟩

set_option maxHeartbeats 1600000 in
set_option maxRecDepth 100000 in
theorem spByte_any (p : Nat) (s : ByteArray) (a : Nat) (f0 : Bool) (w : World) (hs : s.size ≤ 1048576) (ha : a ≤ s.size) (h : CuA p s a f0 w) :
    Calls Tryz.prog 27 #[.pointer (some ⟨p, 0, none⟩)] w fun e w' => SpOut (fun n => [byteW n]) (fun n => 0 ≤ n ∧ n ≤ 127) (fun _ => 0) 0 RdB p s a f0 w e w' := by
  have hpw : p < w.heap.size := (Array.getElem?_eq_some_iff.1 h).1
  have HA : Hid (CuA p s a f0 w) := h
  have c0 : w.cell? ⟨p, 0, none⟩ = some (.string s) := run_cell h rfl
  have c1 : w.cell? ⟨p, 1, none⟩ = some (.int .i64 (a : Int)) := run_cell h rfl
  have c2 : w.cell? ⟨p, 2, none⟩ = some (.bool f0) := run_cell h rfl
  have fz2 := run_frozen (j := 2) h
  have fz1 := run_frozen (j := 1) h
  have hll : s.data.toList.length = s.size := by rw [Array.length_toList]; rfl
  clear h
  cases f0 with
  | true =>
    go_enter Tryz.func27, Tryz.ntmps27
    go_wp2_with fail
    go_quiet (fail)
    go_wp2
    go_ret
    exact ⟨(Kp.below (bel_drewN (Below.refl _ _) _)).trans (Kp.store rfl), _, 0, a, true, rfl, ⟨rfl, by omega, by omega⟩, cu_bad (CuA.below HA.out (bel_drewN (Below.refl _ _) _)), Fd.broken ha rfl (fun e => by cases e)⟩
  | false =>
    by_cases hlt : a < s.size
    · have d1 : decide ((s.size : Int) ≤ (a : Int)) = false := decide_eq_false (by omega)
      have hX : ((w.setCell ⟨p, 1, none⟩ (.int .i64 ((a : Int) + 1)))).heap[p]? = some (.cells #[.string s, .int .i64 ((a : Int) + 1), .bool false] 34 (0, 0)) := setCell_self (j := 1) _ HA.out
      have HX : Hid (_) := hX
      have x0 : (w.setCell ⟨p, 1, none⟩ (.int .i64 ((a : Int) + 1))).cell? ⟨p, 0, none⟩ = some (.string s) := run_cell (j := 0) hX rfl
      have x1 : (w.setCell ⟨p, 1, none⟩ (.int .i64 ((a : Int) + 1))).cell? ⟨p, 1, none⟩ = some (.int .i64 ((a : Int) + 1)) := run_cell (j := 1) hX rfl
      clear hX
      go_enter Tryz.func27, Tryz.ntmps27
      go_wp2_with fail
      go_quiet (fail)
      go_wp2_with fail
      have i9 : IntKind.i64.wrap (a : Int) = (a : Int) := by rw [IntKind.wrap_i64]; omega
      have i8 : (a : Int) < (s.size : Int) := by omega
      have hbyte : (s[a].toNat : Int) < 256 := by have := s[a].toNat_lt; omega
      go_quiet (fail)
      go_wp2
      go_ret
      have w8 : IntKind.i64.wrap (s[a].toNat : Int) = (s[a].toNat : Int) := by rw [IntKind.wrap_i64]; omega
      have e0 : s.data.toList.drop a = s[a] :: s.data.toList.drop (a + 1) := by
        rw [List.drop_eq_getElem_cons (by omega)]
        rfl
      refine ⟨((Kp.below (bel_drewN (Below.refl _ _) _)).trans (Kp.store (F := fun q => q = p) rfl)).trans (Kp.below (bel_drewN (Below.refl _ _) _)), _, (s[a].toNat : Int), a + 1, false, rfl, ⟨rfl, by omega, by omega⟩, CuA.below (cu_at (b := a + 1) (CuA.below HA.out (bel_drewN (Below.refl _ _) _))) (bel_drewN (Below.refl _ _) _), Fd.read (by omega) (by show a + 0 < a + 1; omega) (fun n r hn e => ?_)⟩
      rw [e0] at e
      have e1 : s[a] = byteW n := List.head_eq_of_cons_eq e
      exact ⟨byteW_of hn e1, rfl⟩
    · have d1 : decide ((s.size : Int) ≤ (a : Int)) = true := decide_eq_true (by omega)
      go_enter Tryz.func27, Tryz.ntmps27
      go_wp2_with fail
      go_quiet (fail)
      go_wp2
      go_ret
      exact ⟨(Kp.below (bel_drewN (Below.refl _ _) _)).trans (Kp.store rfl), _, 0, a, true, rfl, ⟨rfl, by omega, by omega⟩, cu_bad (CuA.below HA.out (bel_drewN (Below.refl _ _) _)), Fd.broken ha rfl (fun _ n r hn e => by
        have h1 : s.data.toList.drop a = [] := List.drop_eq_nil_of_le (by omega)
        rw [h1] at e
        cases e)⟩
end Go.Proofs.YtokidlklkgghkaaGreatDoor
