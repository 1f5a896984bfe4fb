/- The specification's reader: thing. -/
/- Tokens: how many, and how long. -/
/- All readers of rows and alternatives, tied together; rules of a grammar with groups, as the reader keeps them. -/
import Derived.Test.YtipkbkhnaekceaaSuL
import Derived.Test.YtipkbkhnaekceaaDecPure
namespace Go.Proofs.Ytipkbkhnaekceaa
open Go.RowKit
set_option linter.unusedVariables false

/-- One expression as a list of args. -/
theorem args_one {X : Nat} {nv : Value} {e : List NodeD} {w : World} (h : NodesO X nv e w) (hX : X ≤ w.heap.size) : ArgsO X (.slice (some ⟨w.heap.size, 0, none⟩) 1 1) [e] (w.alloc (.cells #[nv] 55)) := by
  refine ⟨[[nv]], rfl, by simp, ?_, fun i hi hi' => ?_⟩
  · exact World.ownsRow_lit (base := X) (e := 55) (size := 1) w #[nv] 1 hX (by decide) rfl
  · obtain rfl : i = 0 := by simp at hi; exact hi
    exact ⟨nv, rfl, NodesO.below h ((Below.refl _ _).alloc (Nat.le_refl _) _)⟩
theorem put_leaf {A : Nat → Prop} {B p : Nat} {lv ov : Value} {tk : List TokD} {r : RdD} (kd : Int) (t b : ByteArray) (w : World) (hl : r.out.length ≤ 100000) (h : RdS B p lv ov tk r w) (hn : SNodesO A B ov r.out w) :
    Calls Try.prog 69 #[.pointer (some ⟨p, 0, none⟩), .agg #[.int .i64 kd, .string t, .slice none 0 0, .string b, .slice none 0 0]] w fun e w' => e = .returned (.int .i64 r.out.length) ∧ SuS A B p lv tk (putR r ⟨kd, t, [], b, []⟩) w' ∧ FrS B w w' :=
  putS_any (A := A) ⟨kd, t, [], b, []⟩ (.slice none 0 0) (.slice none 0 0) w hl h hn (argsA_nil A B w) (ownZ_nil11 B w) (fun k hk => by cases hk)
theorem sNodes_rd {A : Nat → Prop} {B : Nat} {v : Value} {xs : List SNodeD} {w w' : World} (h : SNodesO A B v xs w) (hf : FrR B w w') : SNodesO A B v xs w' := sNodes_fr h hf (by decide) (by decide) (by decide) (by decide)
theorem FrR.toS {B : Nat} {w w' : World} (h : FrR B w w') : FrS B w w' := FrT.wide h (by simp)

def sg3 : Nat → ByteArray
  | 0 => s1 42
  | 1 => s1 43
  | _ => s1 63
theorem sg3_cell {sb i : Nat} {w : World} (h : w.heap[sb]? = some (.cells #[.string (s1 42), .string (s1 43), .string (s1 63)] 9 (0, 0))) (hi : i < 3) : w.cell? ⟨sb, i, none⟩ = some (.string (sg3 i)) := by
  match i, hi with
  | 0, _ => exact run_cell h rfl
  | 1, _ => exact run_cell h rfl
  | 2, _ => exact run_cell h rfl

set_option maxHeartbeats 12800000 in
set_option maxRecDepth 100000 in
theorem thing_K (g : Nat) (ih : AltK g) : ThK (g + 1) := by
  intro A B p lv tk r w ha hA hS
  obtain ⟨ov, hR, hN⟩ := hS
  have hBw := hR.lt
  have hrr := ha.rk
  have hT := ha.tko
  have htl := hT.len
  have hrm := ha.room
  have hol : r.out.length ≤ 60000 := by omega
  have HA : Hid (AskS tk (g + 1) .thing r) := ha
  have HAw : Hid (∀ b, A b → b < w.heap.size) := hA
  have HR : Hid (RdS B p lv ov tk r w) := hR
  have HN : Hid (SNodesO A B ov r.out w) := hN
  have HIh : Hid (AltK g) := ih
  have HE : Hid (∀ _ : Unit, suF tk (g + 1) .thing r [] = match kindR tk r 3 with
    | some t => (putR (onR r) ⟨1, t, [], em, []⟩, some (r.out.length : Int))
    | none => match kindR tk r 4 with
      | some t => (putR (onR r) ⟨2, t, [], em, []⟩, some (r.out.length : Int))
      | none => match kindR tk r 1 with
        | some t => (callR tk (onR r) t false, some (((callR tk (onR r) t false).out.length : Int) - 1))
        | none => match kindR tk r 6 with
          | some t => (callR tk (onR r) t true, some (((callR tk (onR r) t true).out.length : Int) - 1))
          | none =>
            if isT tk r (s1 123) = true then (putR (wantR tk (wholeR tk (onR r)).1 (s1 125)) ⟨4, em, [(wholeR tk (onR r)).2], em, []⟩, some ((wholeR tk (onR r)).1.out.length : Int))
            else if isT tk r (s1 40) = true then
              (if isT tk (wantR tk (suF tk g .alts (onR r) []).1 (s1 41)) (s1 42) = true then (putR (onR (wantR tk (suF tk g .alts (onR r) []).1 (s1 41))) ⟨7, em, [], em, [(suF tk g .alts (onR r) []).2.getD 0]⟩, some ((wantR tk (suF tk g .alts (onR r) []).1 (s1 41)).out.length : Int))
              else if isT tk (wantR tk (suF tk g .alts (onR r) []).1 (s1 41)) (s1 43) = true then (putR (onR (wantR tk (suF tk g .alts (onR r) []).1 (s1 41))) ⟨8, em, [], em, [(suF tk g .alts (onR r) []).2.getD 0]⟩, some ((wantR tk (suF tk g .alts (onR r) []).1 (s1 41)).out.length : Int))
              else if isT tk (wantR tk (suF tk g .alts (onR r) []).1 (s1 41)) (s1 63) = true then (putR (onR (wantR tk (suF tk g .alts (onR r) []).1 (s1 41))) ⟨9, em, [], em, [(suF tk g .alts (onR r) []).2.getD 0]⟩, some ((wantR tk (suF tk g .alts (onR r) []).1 (s1 41)).out.length : Int))
              else (wantR tk (suF tk g .alts (onR r) []).1 (s1 41), (suF tk g .alts (onR r) []).2))
            else (r, none)) := fun _ => by rw [suF]; rfl
  have hgen : ∃ qq, suF tk (g + 1) .thing r [] = qq := ⟨_, rfl⟩
  obtain ⟨qq, hqq⟩ := hgen
  rw [hqq] at HE ⊢
  clear hqq hR hN ha hA ih
  go_enter Try.func83, Try.ntmps83
  go_wp2_with fail
  refine (kind11_any (B := B) p lv ov tk r 3 w HR.out.pB (by omega) HR.out.rd HR.out.tok HR.out.low).mono ?_
  rintro e w1 ⟨rfl, h1, h2⟩
  cases hk : kindR tk r 3 with
  | some t =>
    rw [kindT, hk] at h1
    have R1 : Hid (RdS B p lv ov tk (onR r) w1) := HR.out.next h1 h2
    have N1 : Hid (SNodesO A B ov (onR r).out w1) := sNodes_rd HN.out h2
    have F1 : Hid (FrS B w w1) := FrR.toS h2
    have HV : Hid (qq = _) := HE.out ()
    rw [hk] at HV
    clear h1 h2 hk HE
    go_wp2_with fail
    refine (put_leaf 1 t em w1 (by show r.out.length ≤ _; omega) R1.out N1.out).mono ?_
    rintro e w2 ⟨rfl, h1, h2⟩
    have S2 : Hid _ := h1
    have F2 : Hid (FrS B w w2) := F1.out.trans h2
    clear h1 h2
    go_wp2
    go_ret2
    rw [HV.out]
    exact ⟨rfl, S2.out, F2.out⟩
  | none =>
    rw [kindT, hk] at h1
    have R1 : Hid (RdS B p lv ov tk r w1) := HR.out.next h1 h2
    have N1 : Hid (SNodesO A B ov r.out w1) := sNodes_rd HN.out h2
    have F1 : Hid (FrS B w w1) := FrR.toS h2
    rw [hk] at HE
    clear h1 h2 hk
    go_wp2_with fail
    refine (kind11_any (B := B) p lv ov tk r 4 w1 R1.out.pB (by omega) R1.out.rd R1.out.tok R1.out.low).mono ?_
    rintro e w2 ⟨rfl, h1, h2⟩
    cases hk : kindR tk r 4 with
    | some t =>
      rw [kindT, hk] at h1
      have R2 : Hid (RdS B p lv ov tk (onR r) w2) := R1.out.next h1 h2
      have N2 : Hid (SNodesO A B ov (onR r).out w2) := sNodes_rd N1.out h2
      have F2 : Hid (FrS B w w2) := F1.out.trans (FrR.toS h2)
      have HV : Hid (qq = _) := HE.out ()
      rw [hk] at HV
      clear h1 h2 hk HE
      go_wp2_with fail
      refine (put_leaf 2 t em w2 (by show r.out.length ≤ _; omega) R2.out N2.out).mono ?_
      rintro e w3 ⟨rfl, h1, h2⟩
      have S3 : Hid _ := h1
      have F3 : Hid (FrS B w w3) := F2.out.trans h2
      clear h1 h2
      go_wp2
      go_ret2
      rw [HV.out]
      exact ⟨rfl, S3.out, F3.out⟩
    | none =>
      rw [kindT, hk] at h1
      have R2 : Hid (RdS B p lv ov tk r w2) := R1.out.next h1 h2
      have N2 : Hid (SNodesO A B ov r.out w2) := sNodes_rd N1.out h2
      have F2 : Hid (FrS B w w2) := F1.out.trans (FrR.toS h2)
      rw [hk] at HE
      clear h1 h2 hk
      go_wp2_with fail
      refine (kind11_any (B := B) p lv ov tk r 1 w2 R2.out.pB (by omega) R2.out.rd R2.out.tok R2.out.low).mono ?_
      rintro e w3 ⟨rfl, h1, h2⟩
      cases hk : kindR tk r 1 with
      | some t =>
        rw [kindT, hk] at h1
        have R3 : Hid (RdS B p lv ov tk (onR r) w3) := R2.out.next h1 h2
        have N3 : Hid (SNodesO A B ov (onR r).out w3) := sNodes_rd N2.out h2
        have F3 : Hid (FrS B w w3) := F2.out.trans (FrR.toS h2)
        have A3 : Hid (∀ b, A b → b < w3.heap.size) := fun b hb => Nat.lt_of_lt_of_le (HAw.out b hb) F3.out.bel.size
        have hrr1 : RkO tk (onR r) := hrr.go (goI_on (kindR_lt hk))
        have HV : Hid (qq = _) := HE.out ()
        rw [hk] at HV
        simp only [call_more] at HV
        clear h1 h2 hk HE
        go_wp2_with fail
        refine (callF t w3 hT hrr1 (by show r.out.length ≤ _; omega) A3.out R3.out N3.out).mono ?_
        rintro e w4 ⟨rfl, h1, h2⟩
        have S4 : Hid _ := h1
        have F4 : Hid (FrS B w w4) := F3.out.trans h2
        clear h1 h2
        go_wp2
        go_ret2
        rw [HV.out]
        exact ⟨by simp [onR], S4.out, F4.out⟩
      | none =>
        rw [kindT, hk] at h1
        have R3 : Hid (RdS B p lv ov tk r w3) := R2.out.next h1 h2
        have N3 : Hid (SNodesO A B ov r.out w3) := sNodes_rd N2.out h2
        have F3 : Hid (FrS B w w3) := F2.out.trans (FrR.toS h2)
        rw [hk] at HE
        clear h1 h2 hk
        go_wp2_with fail
        refine (kind11_any (B := B) p lv ov tk r 6 w3 R3.out.pB (by omega) R3.out.rd R3.out.tok R3.out.low).mono ?_
        rintro e w4 ⟨rfl, h1, h2⟩
        cases hk : kindR tk r 6 with
        | some t =>
          rw [kindT, hk] at h1
          have R4 : Hid (RdS B p lv ov tk (onR r) w4) := R3.out.next h1 h2
          have N4 : Hid (SNodesO A B ov (onR r).out w4) := sNodes_rd N3.out h2
          have F4 : Hid (FrS B w w4) := F3.out.trans (FrR.toS h2)
          have A4 : Hid (∀ b, A b → b < w4.heap.size) := fun b hb => Nat.lt_of_lt_of_le (HAw.out b hb) F4.out.bel.size
          have hrr1 : RkO tk (onR r) := hrr.go (goI_on (kindR_lt hk))
          have HV : Hid (qq = _) := HE.out ()
          rw [hk] at HV
          simp only [call_more] at HV
          clear h1 h2 hk HE
          go_wp2_with fail
          refine (callT t w4 hT hrr1 (by show r.out.length ≤ _; omega) A4.out R4.out N4.out).mono ?_
          rintro e w5 ⟨rfl, h1, h2⟩
          have S5 : Hid _ := h1
          have F5 : Hid (FrS B w w5) := F4.out.trans h2
          clear h1 h2
          go_wp2
          go_ret2
          rw [HV.out]
          exact ⟨by simp [onR], S5.out, F5.out⟩
        | none =>
          rw [kindT, hk] at h1
          have R4 : Hid (RdS B p lv ov tk r w4) := R3.out.next h1 h2
          have N4 : Hid (SNodesO A B ov r.out w4) := sNodes_rd N3.out h2
          have F4 : Hid (FrS B w w4) := F3.out.trans (FrR.toS h2)
          rw [hk] at HE
          clear h1 h2 hk
          go_wp2_with fail
          refine (sign_any (B := B) p lv ov tk r (s1 123) w4 R4.out.pB (by omega) R4.out.rd R4.out.tok).mono ?_
          rintro e w5 ⟨rfl, h1, h2⟩
          cases hs : isT tk r (s1 123) with
          | true =>
            rw [signR, if_pos hs] at h1
            have R5 : Hid (RdS B p lv ov tk (onR r) w5) := R4.out.next h1 h2
            have N5 : Hid (SNodesO A B ov (onR r).out w5) := sNodes_rd N4.out h2
            have F5 : Hid (FrS B w w5) := F4.out.trans (FrR.toS h2)
            have hrr1 : RkO tk (onR r) := hrr.go (goI_on (isT_lt hs))
            have HV : Hid (qq = _) := (HE.out ()).trans (if_pos hs)
            have HO : Hid ((wholeR tk (onR r)).1.out = r.out) := wholeR_out tk (onR r)
            have HW : Hid (∀ _ : Unit, _) := fun _ => whole_any w5 hT hrr1.1 hrr1.2.1 hrr1.2.2 R5.out
            clear h1 h2 hs HE
            generalize wholeR tk (onR r) = q at *
            go_wp2_with fail
            refine (HW.out ()).mono ?_
            rintro e w6 ⟨nv, rfl, h1, h2, h3⟩
            obtain ⟨an, ln, cn, rfl⟩ := nodes_form h2
            have R6 : Hid (RdS B p lv ov tk q.1 w6) := R5.out.next h1 h3
            have N6 : Hid (SNodesO A B ov r.out w6) := sNodes_rd N5.out h3
            have F6 : Hid (FrS B w w6) := F5.out.trans (FrR.toS h3)
            have hs6 : w5.heap.size ≤ w6.heap.size := h3.bel.size
            have bal : Below w6.heap.size w6 (w6.alloc (.cells #[.slice an ln cn] 55)) := (Below.refl _ _).alloc (Nat.le_refl _) _
            have R7 : Hid (RdS B p lv ov tk q.1 (w6.alloc (.cells #[.slice an ln cn] 55))) := R6.out.below bal
            have N7 : Hid (SNodesO A B ov r.out (w6.alloc (.cells #[.slice an ln cn] 55))) := sNodes_below N6.out bal
            have E7 : Hid (NodesO w5.heap.size (.slice an ln cn) q.2 (w6.alloc (.cells #[.slice an ln cn] 55))) := NodesO.below h2 bal
            have F7 : Hid (FrS B w (w6.alloc (.cells #[.slice an ln cn] 55))) := F6.out.trans (FrT.below bal R6.out.lt)
            have X7 : Hid ((w6.alloc (.cells #[.slice an ln cn] 55)).heap[w6.heap.size]? = some (.cells #[.slice an ln cn] 55 (0, 0))) := heap_alloc_new w6 _
            have hs7 : w5.heap.size ≤ (w6.alloc (.cells #[.slice an ln cn] 55)).heap.size := by simp; omega
            clear h1 h2 h3 bal HW
            go_wp2_with fail
            generalize w6.alloc (.cells #[.slice an ln cn] 55) = w7 at *
            generalize w6.heap.size = be at *
            refine (want_any (B := B) p lv ov tk q.1 (s1 125) w7 R7.out.pB (by omega) R7.out.rd R7.out.tok).mono ?_
            rintro e w8 ⟨rfl, h1, h2⟩
            have R8 : Hid (RdS B p lv ov tk (wantR tk q.1 (s1 125)) w8) := R7.out.next h1 h2
            have N8 : Hid (SNodesO A B ov r.out w8) := sNodes_rd N7.out h2
            have E8 : Hid (NodesO w5.heap.size (.slice an ln cn) q.2 w8) := nodesO_fr E7.out h2 (by decide) (by decide)
            have F8 : Hid (FrS B w w8) := F7.out.trans (FrR.toS h2)
            have c8 : w8.cell? ⟨be, 0, none⟩ = some (.slice an ln cn) := run_cell (h2.typ _ _ _ _ X7.out (by decide)) rfl
            have hs8 : w5.heap.size ≤ w8.heap.size := Nat.le_trans hs7 h2.bel.size
            have hB5 : B ≤ w5.heap.size := R5.out.lt
            have bal : Below w8.heap.size w8 (w8.alloc (.cells #[.slice an ln cn] 55)) := (Below.refl _ _).alloc (Nat.le_refl _) _
            have R9 : Hid (RdS B p lv ov tk (wantR tk q.1 (s1 125)) (w8.alloc (.cells #[.slice an ln cn] 55))) := R8.out.below bal
            have HO9 : Hid ((wantR tk q.1 (s1 125)).out = r.out) := ((wantR_I tk q.1 (s1 125)).2.2.2.2).trans HO.out
            have N9 : Hid (SNodesO A B ov (wantR tk q.1 (s1 125)).out (w8.alloc (.cells #[.slice an ln cn] 55))) := by rw [HO9.out]; exact sNodes_below N8.out bal
            have A9 : Hid (ArgsA A B (.slice (some ⟨w8.heap.size, 0, none⟩) 1 1) [q.2] (w8.alloc (.cells #[.slice an ln cn] 55))) := argsA_of (args_one E8.out hs8) hB5 (fun b hb => Nat.lt_of_lt_of_le (HAw.out b hb) F5.out.bel.size)
            have F9 : Hid (FrS B w (w8.alloc (.cells #[.slice an ln cn] 55))) := F8.out.trans (FrT.below bal R8.out.lt)
            have HPu : Hid (∀ _ : Unit, _) := fun _ => putS_any (A := A) ⟨4, em, [q.2], em, []⟩ (.slice (some ⟨w8.heap.size, 0, none⟩) 1 1) (.slice none 0 0) _ (by rw [HO9.out]; omega) R9.out N9.out A9.out (ownZ_nil11 B _) (fun k hk => by cases hk)
            clear h1 h2 bal
            go_wp2_with fail
            refine (HPu.out ()).mono ?_
            rintro e w10 ⟨rfl, h1, h2⟩
            have S10 : Hid _ := h1
            have F10 : Hid (FrS B w w10) := F9.out.trans h2
            clear h1 h2 HPu
            rw [HO9.out]
            go_wp2
            go_ret2
            rw [HV.out, HO.out]
            exact ⟨rfl, S10.out, F10.out⟩
          | false =>
            rw [signR, if_neg (by rw [hs]; decide)] at h1
            have R5 : Hid (RdS B p lv ov tk r w5) := R4.out.next h1 h2
            have N5 : Hid (SNodesO A B ov r.out w5) := sNodes_rd N4.out h2
            have F5 : Hid (FrS B w w5) := F4.out.trans (FrR.toS h2)
            have HE5 : Hid (qq = _) := (HE.out ()).trans (if_neg (by rw [hs]; decide))
            clear h1 h2 hs HE
            go_wp2_with fail
            refine (sign_any (B := B) p lv ov tk r (s1 40) w5 R5.out.pB (by omega) R5.out.rd R5.out.tok).mono ?_
            rintro e w6 ⟨rfl, h1, h2⟩
            cases hs : isT tk r (s1 40) with
            | false =>
              rw [signR, if_neg (by rw [hs]; decide)] at h1
              have R6 : Hid (RdS B p lv ov tk r w6) := R5.out.next h1 h2
              have N6 : Hid (SNodesO A B ov r.out w6) := sNodes_rd N5.out h2
              have F6 : Hid (FrS B w w6) := F5.out.trans (FrR.toS h2)
              have HV : Hid (qq = (r, none)) := HE5.out.trans (if_neg (by rw [hs]; decide))
              clear h1 h2 hs HE5
              go_wp2
              go_ret2
              rw [HV.out]
              exact ⟨rfl, ⟨ov, R6.out, N6.out⟩, F6.out⟩
            | true =>
              rw [signR, if_pos hs] at h1
              have R6 : Hid (RdS B p lv ov tk (onR r) w6) := R5.out.next h1 h2
              have N6 : Hid (SNodesO A B ov (onR r).out w6) := sNodes_rd N5.out h2
              have F6 : Hid (FrS B w w6) := F5.out.trans (FrR.toS h2)
              have A6 : Hid (∀ b, A b → b < w6.heap.size) := fun b hb => Nat.lt_of_lt_of_le (HAw.out b hb) F6.out.bel.size
              have hlt := isT_lt hs
              have HAa : Hid (AskS tk g .alts (onR r)) := HA.out.go (n := 0) (goI_on hlt) (by omega) (by
                have := HA.out.need
                simp only [rankS] at this
                show 4 + 8 * (tk.length - (r.at_ + 1)) ≤ g
                omega)
              have HI : Hid (SuI tk .alts (onR r) (suF tk g .alts (onR r) [])) := HAa.out.I []
              have HV : Hid (qq = _) := HE5.out.trans (if_pos hs)
              have HAl : Hid (∀ _ : Unit, _) := fun _ => HIh.out A B p lv tk (onR r) w6 HAa.out A6.out ⟨ov, R6.out, N6.out⟩
              have hqs : (suF tk g .alts (onR r) []).2.isSome = true := HI.out.some_ (fun h => by cases h)
              have hql : (suF tk g .alts (onR r) []).1.out.length ≤ 90000 := by
                have z1 := HI.out.go.siz
                have z2 := HI.out.le
                have z3 := HI.out.go.at1
                simp only [baseS, nodesS] at z1 z3
                have e1 : (onR r).at_ = r.at_ + 1 := rfl
                have e2 : (onR r).out = r.out := rfl
                rw [e1] at z1 z3
                rw [e2] at z1
                omega
              clear h1 h2 hs HE5 HI HA
              generalize suF tk g .alts (onR r) [] = q at *
              go_wp2_with fail
              refine (HAl.out ()).mono ?_
              rintro e w7 ⟨rfl, ⟨ov7, h1, h2⟩, h3⟩
              have R7 : Hid (RdS B p lv ov7 tk q.1 w7) := h1
              have N7 : Hid (SNodesO A B ov7 q.1.out w7) := h2
              have F7 : Hid (FrS B w w7) := F6.out.trans h3
              clear h1 h2 h3 HAl
              go_wp2_with fail
              refine (want_any (B := B) p lv ov7 tk q.1 (s1 41) w7 R7.out.pB (by omega) R7.out.rd R7.out.tok).mono ?_
              rintro e w8 ⟨rfl, h1, h2⟩
              have HO8 : Hid ((wantR tk q.1 (s1 41)).out = q.1.out) := (wantR_I tk q.1 (s1 41)).2.2.2.2
              have R8 : Hid (RdS B p lv ov7 tk (wantR tk q.1 (s1 41)) w8) := R7.out.next h1 h2
              have N8 : Hid (SNodesO A B ov7 (wantR tk q.1 (s1 41)).out w8) := by rw [HO8.out]; exact sNodes_rd N7.out h2
              have F8 : Hid (FrS B w w8) := F7.out.trans (FrR.toS h2)
              have h2l : (wantR tk q.1 (s1 41)).out.length ≤ 90000 := by rw [HO8.out]; exact hql
              clear h1 h2 HO8
              generalize wantR tk q.1 (s1 41) = r2 at *
              have bal : Below w8.heap.size w8 (w8.alloc (.cells #[.string (s1 42), .string (s1 43), .string (s1 63)] 9)) := (Below.refl _ _).alloc (Nat.le_refl _) _
              have R9 : Hid (RdS B p lv ov7 tk r2 (w8.alloc (.cells #[.string (s1 42), .string (s1 43), .string (s1 63)] 9))) := R8.out.below bal
              have N9 : Hid (SNodesO A B ov7 r2.out (w8.alloc (.cells #[.string (s1 42), .string (s1 43), .string (s1 63)] 9))) := sNodes_below N8.out bal
              have F9 : Hid (FrS B w (w8.alloc (.cells #[.string (s1 42), .string (s1 43), .string (s1 63)] 9))) := F8.out.trans (FrT.below bal R8.out.lt)
              have X9 : Hid ((w8.alloc (.cells #[.string (s1 42), .string (s1 43), .string (s1 63)] 9)).heap[w8.heap.size]? = some (.cells #[.string (s1 42), .string (s1 43), .string (s1 63)] 9 (0, 0))) := heap_alloc_new w8 _
              clear bal
              go_wp2
              go_loopw [9] (fun iv wr => ∃ i : Nat, iv = .int .i64 i ∧ i ≤ 3 ∧ (∀ j, j < i → isT tk r2 (sg3 j) = false) ∧ RdS B p lv ov7 tk r2 wr ∧ SNodesO A B ov7 r2.out wr ∧ wr.heap[w8.heap.size]? = some (.cells #[.string (s1 42), .string (s1 43), .string (s1 63)] 9 (0, 0)) ∧ FrS B w wr) (fun iv _ => 3 - (intOf iv).toNat)
              case atStart => exact ⟨0, rfl, by omega, fun j hj => by omega, R9.out, N9.out, X9.out, F9.out⟩
              case round =>
                obtain ⟨i, rfl, hi3, hno, hR, hN, hX, hF⟩ := hrel
                have HNo : Hid (∀ j, j < i → isT tk r2 (sg3 j) = false) := hno
                have RR : Hid (RdS B p lv ov7 tk r2 wr) := hR
                have NR : Hid (SNodesO A B ov7 r2.out wr) := hN
                have XR : Hid (wr.heap[w8.heap.size]? = some (.cells #[.string (s1 42), .string (s1 43), .string (s1 63)] 9 (0, 0))) := hX
                have FR : Hid (FrS B w wr) := hF
                clear hno hR hN hX hF
                by_cases hlt3 : i < 3
                · have c9 := sg3_cell XR.out hlt3
                  have i3 : (i : Int) < 3 := by omega
                  have HSg : Hid (∀ _ : Unit, _) := fun _ => sign_any (B := B) p lv ov7 tk r2 (sg3 i) wr RR.out.pB (by omega) RR.out.rd RR.out.tok
                  have HVi : Hid (isT tk r2 (sg3 i) = true → qq = (putR (onR r2) ⟨7 + (i : Int), em, [], em, [q.2.getD 0]⟩, some (r2.out.length : Int))) := fun ht => by
                    rw [HV.out]
                    match i, hlt3, HNo.out, ht with
                    | 0, _, _, ht =>
                      have ht' : isT tk r2 (s1 42) = true := ht
                      rw [if_pos ht']; rfl
                    | 1, _, hn, ht =>
                      have h0 := hn 0 (by omega)
                      have ht' : isT tk r2 (s1 43) = true := ht
                      rw [if_neg (by rw [show s1 42 = sg3 0 from rfl, h0]; decide), if_pos ht']; rfl
                    | 2, _, hn, ht =>
                      have h0 := hn 0 (by omega)
                      have h1 := hn 1 (by omega)
                      rw [if_neg (by rw [show s1 42 = sg3 0 from rfl, h0]; decide), if_neg (by rw [show s1 43 = sg3 1 from rfl, h1]; decide), if_pos (show isT tk r2 (s1 63) = true from ht)]; rfl
                  have HNn : Hid (isT tk r2 (sg3 i) = false → ∀ j, j < i + 1 → isT tk r2 (sg3 j) = false) := fun h0 j hj => by
                    by_cases e : j = i
                    · rw [e]; exact h0
                    · exact HNo.out j (by omega)
                  have w7i : IntKind.i64.wrap (7 + (i : Int)) = 7 + (i : Int) := by rw [IntKind.wrap_i64]; omega
                  clear HV HNo
                  generalize sg3 i = sgi at *
                  go_wp2_with fail
                  refine (HSg.out ()).mono ?_
                  rintro e w10 ⟨rfl, h1, h2⟩
                  cases hs : isT tk r2 sgi with
                  | true =>
                    rw [signR, if_pos hs] at h1
                    have R10 : Hid (RdS B p lv ov7 tk (onR r2) w10) := RR.out.next h1 h2
                    have N10 : Hid (SNodesO A B ov7 (onR r2).out w10) := sNodes_rd NR.out h2
                    have F10 : Hid (FrS B w w10) := FR.out.trans (FrR.toS h2)
                    have HVt : Hid (qq = _) := HVi.out hs
                    have bal : Below w10.heap.size w10 (w10.alloc (.cells #[.int .i64 (q.2.getD 0)] 3)) := (Below.refl _ _).alloc (Nat.le_refl _) _
                    have R11 : Hid (RdS B p lv ov7 tk (onR r2) (w10.alloc (.cells #[.int .i64 (q.2.getD 0)] 3))) := R10.out.below bal
                    have N11 : Hid (SNodesO A B ov7 (onR r2).out (w10.alloc (.cells #[.int .i64 (q.2.getD 0)] 3))) := sNodes_below N10.out bal
                    have F11 : Hid (FrS B w (w10.alloc (.cells #[.int .i64 (q.2.getD 0)] 3))) := F10.out.trans (FrT.below bal R10.out.lt)
                    have hB10 : B ≤ w10.heap.size := R10.out.lt
                    have hw10 : w.heap.size ≤ w10.heap.size := F10.out.bel.size
                    have HPu : Hid (∀ _ : Unit, _) := fun _ => putS_any (A := A) ⟨7 + (i : Int), em, [], em, [q.2.getD 0]⟩ (.slice none 0 0) (.slice (some ⟨w10.heap.size, 0, none⟩) 1 1) _ (by show r2.out.length ≤ _; omega) R11.out N11.out (argsA_nil A B _) (OwnZ.base (ownZ_lit1 w10 (q.2.getD 0)) hB10) (fun k hk hAk => by
                      have e1 : w10.heap.size = k := Option.some.inj hk
                      have e2 := HAw.out k hAk
                      omega)
                    clear h1 h2 hs bal HSg HVi HNn
                    go_wp2_with fail
                    refine (HPu.out ()).mono ?_
                    rintro e w12 ⟨rfl, h1, h2⟩
                    have S12 : Hid _ := h1
                    have F12 : Hid (FrS B w w12) := F11.out.trans h2
                    clear h1 h2 HPu
                    go_wp2
                    go_ret2
                    rw [HVt.out]
                    exact ⟨rfl, S12.out, F12.out⟩
                  | false =>
                    rw [signR, if_neg (by rw [hs]; decide)] at h1
                    have R10 : Hid (RdS B p lv ov7 tk r2 w10) := RR.out.next h1 h2
                    have N10 : Hid (SNodesO A B ov7 r2.out w10) := sNodes_rd NR.out h2
                    have X10 : Hid (w10.heap[w8.heap.size]? = some (.cells #[.string (s1 42), .string (s1 43), .string (s1 63)] 9 (0, 0))) := h2.typ _ _ _ _ XR.out (by decide)
                    have F10 : Hid (FrS B w w10) := FR.out.trans (FrR.toS h2)
                    have HNm : Hid (∀ j, j < i + 1 → isT tk r2 (sg3 j) = false) := HNn.out hs
                    clear h1 h2 hs HSg HVi HNn
                    go_wp2
                    go_roundw
                    case rel => exact ⟨i + 1, by go_num, by omega, HNm.out, R10.out, N10.out, X10.out, F10.out⟩
                    case measure => simp [intOf]; omega
                · obtain rfl : i = 3 := by omega
                  have HVf : Hid (qq = (r2, q.2)) := by
                    rw [Hid, HV.out, if_neg (by rw [show s1 42 = sg3 0 from rfl, HNo.out 0 (by omega)]; decide), if_neg (by rw [show s1 43 = sg3 1 from rfl, HNo.out 1 (by omega)]; decide), if_neg (by rw [show s1 63 = sg3 2 from rfl, HNo.out 2 (by omega)]; decide)]
                  clear HV HNo
                  go_wp2
                  go_ret2
                  rw [HVf.out]
                  exact ⟨by rw [hqs]; rfl, ⟨ov7, RR.out, NR.out⟩, FR.out⟩

end Go.Proofs.Ytipkbkhnaekceaa

namespace Go.Proofs.Ytipkbkhnaekceaa
open Go.RowKit

theorem bytesOf_size (l : List UInt8) : (bytesOf l).size = l.length := by simp [bytesOf, ByteArray.size]
theorem one10_num {l : List UInt8} {t : TokD} {k : Nat} (h : one10 l = some (t, k)) : (t.kind = 2 → t.text.size ≤ 2) ∧ t.text.size ≤ l.length := by
  cases l with
  | nil => cases h
  | cons b l =>
    rw [one10] at h
    have q1 := spanN_le wordT l
    have q2 := spanN_le figU l
    have q3 := spanN_le inText l
    have q4 := spanN_le inSetB l
    simp only [List.length_cons]
    split at h
    · split at h
      · cases h
      · split at h
        · cases h; exact ⟨(fun h => (by cases h)), by simp only [bytesOf_size, List.length_cons, List.length_take]; omega⟩
        · cases h; exact ⟨(fun h => (by cases h)), by simp only [bytesOf_size, List.length_cons, List.length_take]; omega⟩
    split at h
    · split at h
      · cases h
      · cases h; exact ⟨(fun _ => (by simp only [bytesOf_size, List.length_cons, List.length_take]; omega)), by simp only [bytesOf_size, List.length_cons, List.length_take]; omega⟩
    split at h
    · split at h
      · cases h; exact ⟨(fun h => (by cases h)), by simp only [bytesOf_size, List.length_take]; omega⟩
      · cases h
    split at h
    · split at h
      · cases h; exact ⟨(fun h => (by cases h)), by simp only [bytesOf_size, List.length_take]; omega⟩
      · cases h
    split at h
    · rename_i hq
      have : 0 < l.length := by
        cases l with
        | nil => cases hq.2
        | cons _ _ => simp
      cases h; exact ⟨(fun h => (by cases h)), by simp only [bytesOf_size, List.length_cons, List.length_nil]; omega⟩
    split at h
    · cases h; exact ⟨(fun h => (by cases h)), by simp only [bytesOf_size, List.length_cons, List.length_nil]; omega⟩
    · cases h
def TokG (M : Nat) (x : TokD) : Prop := (x.kind = 2 → x.text.size ≤ 2) ∧ x.text.size ≤ M
theorem toks10_I (n M : Nat) : ∀ (f : Nat) (out : List TokD) (l : List UInt8), l.length ≤ M → out.length ≤ 200 → (∀ x ∈ out, TokG M x) → (toks10 n f out l).1.length ≤ 200 ∧ ∀ x ∈ (toks10 n f out l).1, TokG M x
  | 0, out, l, _, h1, h2 => by rw [toks10]; exact ⟨h1, h2⟩
  | f + 1, out, [], _, h1, h2 => by rw [toks10]; exact ⟨h1, h2⟩; exact fun h => by cases h
  | f + 1, out, b :: l, hl, h1, h2 => by
    rw [toks10]
    simp only [List.length_cons] at hl
    split
    · exact toks10_I n M f out l (by omega) h1 h2
    split
    · exact toks10_I n M f out _ (by rw [List.length_drop]; simp only [List.length_cons]; omega) h1 h2
    cases ho : one10 (b :: l) with
    | none => exact ⟨by simp, fun x hx => by cases hx⟩
    | some q =>
      obtain ⟨t, k⟩ := q
      simp only
      split
      · exact ⟨by simp, fun x hx => by cases hx⟩
      · have hg := one10_num ho
        simp only [List.length_cons] at hg
        exact toks10_I n M f _ _ (by rw [List.length_drop]; simp only [List.length_cons]; omega) (by rw [List.length_append, List.length_singleton]; omega) (fun x hx => by
          rcases List.mem_append.1 hx with hx | hx
          · exact h2 x hx
          · rw [List.mem_singleton.1 hx]
            exact ⟨hg.1, by omega⟩)
theorem tokensB_I (s : ByteArray) : (tokensB s).1.length ≤ 200 ∧ ∀ x ∈ (tokensB s).1, TokG 600 x := by
  unfold tokensB
  split
  · exact ⟨by simp, fun x hx => by cases hx⟩
  · exact toks10_I s.size 600 _ [] _ (by simp; omega) (by simp) (fun x hx => by cases hx)

end Go.Proofs.Ytipkbkhnaekceaa

namespace Go.Proofs.Ytipkbkhnaekceaa
open Go.RowKit
set_option linter.unusedVariables false

theorem allS : ∀ g, ThK g ∧ RowK g ∧ AltK g := by
  intro g
  induction g using Nat.strongRecOn with
  | ind g ih =>
    refine ⟨?_, row_K g (fun f hf => (ih f hf).1), ?_⟩
    · match g, ih with
      | 0, _ =>
        intro A B p lv tk r w ha _ _
        have := ha.need
        simp only [rankS] at this
        omega
      | g + 1, ih => exact thing_K g (ih g (Nat.lt_succ_self g)).2.2
    · match g, ih with
      | 0, _ =>
        intro A B p lv tk r w ha _ _
        have := ha.need
        simp only [rankS] at this
        omega
      | g + 1, ih => exact alts_K g (fun f hf => (ih f (by omega)).2.1)
theorem tk200 (s : ByteArray) : Tk200 (tokensB s).1 := ⟨(tokensB_I s).1, fun x hx h => ((tokensB_I s).2 x hx).1 h⟩

def SRuleV (B : Nat) (w : World) (vs : List Value) (x : SRuleD) : Prop := ∃ pv : Value, vs = [.string x.name, pv, .int .i64 x.body] ∧ OwnB B pv x.params w
def SRulesO (B : Nat) (v : Value) (rs : List SRuleD) (w : World) : Prop := RowO 3 104 (SRuleV B) B v rs w
section
variable {ts : List TypeId} {B B' : Nat} {v : Value} {w w' : World}
theorem ownB_fr {ss : List ByteArray} (h : OwnB B v ss w) (hf : FrT ts B' w w') (ht : 9 ∉ ts) : OwnB B v ss w' := own_frT h hf ht
theorem sRuleV_fr {vs : List Value} {x : SRuleD} (h : SRuleV B w vs x) (hf : FrT ts B' w w') (h1 : 9 ∉ ts) : SRuleV B w' vs x := by
  obtain ⟨pv, e, hp⟩ := h
  exact ⟨pv, e, ownB_fr hp hf h1⟩
theorem sRules_fr {rs : List SRuleD} (h : SRulesO B v rs w) (hf : FrT ts B' w w') (h1 : 9 ∉ ts) (h2 : 104 ∉ ts) : SRulesO B v rs w' :=
  RowO.world h (fun _ _ h4 => own_frT h4 hf h2) (fun _ _ hx => sRuleV_fr hx hf h1)
theorem sRules_below {rs : List SRuleD} (h : SRulesO B v rs w) (hb : Below w.heap.size w w') : SRulesO B v rs w' :=
  sRules_fr (ts := []) h (FrT.below (B := 0) hb (Nat.zero_le _)) (by simp) (by simp)
theorem ownB_base {ss : List ByteArray} (h : OwnB B v ss w) (hB : B' ≤ B) : OwnB B' v ss w := by
  refine ⟨h.1, ?_⟩
  rcases h.2 with hn | ⟨g, cap, cur, e, hg, r⟩
  · exact .inl hn
  · exact .inr ⟨g, cap, cur, e, Nat.le_trans hB hg, r⟩
end
theorem Try.infoSRule : (Try.prog.info? 104).map (fun i => (i.zero, i.size, i.bytes)) = some (some (.agg #[.string ⟨#[]⟩, .slice none 0 0, .int .i64 0]), 3, 48) := by kernel_rfl
theorem Try.infoStr11 : (Try.prog.info? 9).map (fun i => (i.zero, i.size, i.bytes)) = some (some (.string ⟨#[]⟩), 1, 16) := by kernel_rfl
theorem one_str11 (s : ByteArray) : ∀ u ∈ [Value.string s], u.oneCell' = true := by
  intro u hu
  obtain rfl : u = .string s := by simpa using hu
  rfl
theorem three11 (s : ByteArray) (o : Option Addr) (l c : Nat) (b : Int) : ∀ u ∈ [Value.string s, .slice o l c, .int .i64 b], u.oneCell' = true := by
  intro u hu
  simp only [List.mem_cons, List.not_mem_nil, or_false] at hu
  rcases hu with rfl | rfl | rfl <;> rfl

end Go.Proofs.Ytipkbkhnaekceaa
