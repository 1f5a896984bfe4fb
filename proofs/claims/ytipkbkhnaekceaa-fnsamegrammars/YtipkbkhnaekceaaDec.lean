/- The end of the specification's l12Make.group: the alternatives by the group's kind. -/
/- The figure of a half byte: what the specification's function answers at 0 .. 15. -/
/- Decimal: what the specification's function answers, at every int. -/
import Derived.Test.YtipkbkhnaekceaaDraw
import Derived.Test.YtipkbkhnaekceaaRows
import Derived.Test.YtipkbkhnaekceaaDecPure
namespace Go.Proofs.Ytipkbkhnaekceaa
open Go.RowKit
set_option linter.unusedVariables false

structure FinI (A : Nat → Prop) (ns : List SNodeD) (rs : List SRuleD) (an ar : Option Addr) (cn cr B p : Nat) (W0 w : World) (gv0 qv0 : Value) (qs : Array Value) (m : MkD) (gv qv o : Value) (L : List (List SymD)) (W : World) : Prop where
  mki : MkI A ns rs an ar cn cr B p W0 m gv qv W
  alt : Held (MutA A p gv qv) W (fun V => RowC 1 AltE V o L)
  qb : W.heap[w.heap.size]? = some (.cells qs 133 (0, 0))
  fr : FrA (Mut p gv0 qv0) w W
  lk : ∀ k, k < w.heap.size → Mut p gv qv k → Mut p gv0 qv0 k
theorem alt_cells {A : Nat → Prop} {B : Nat} {v : Value} {xs : List (List SymD)} {w : World} (h : RowH 1 48 AltE A B v xs w) : ∃ cs, w.ownsRow B 48 1 v xs.length cs ∧ cs.length = xs.length * 1 ∧ (∀ u ∈ cs, u.oneCell' = true) ∧ RowO 1 48 (fun _ vs _ => vs.length = 1) B v xs w := by
  obtain ⟨vss, h1, h2, h3, h4⟩ := h
  refine ⟨vss.flatten, h3, h3.1, fun u hu => ?_, ⟨vss, h1, h2, h3, fun i hi hi' => h2 _ (List.getElem_mem _)⟩⟩
  obtain ⟨vs, hvs, hu⟩ := List.mem_flatten.1 hu
  obtain ⟨i, hi, rfl⟩ := List.getElem_of_mem hvs
  obtain ⟨r0, e, hr⟩ := Held.here (h4 i hi (by omega))
  rw [e] at hu
  rw [List.mem_singleton.1 hu]
  obtain ⟨a, c, rfl⟩ := hr.slice
  rfl
/-- Two rows of alternatives, one appended to the other. -/
theorem alts_all {A : Nat → Prop} {B B' : Nat} {v u : Value} {xs ys : List (List SymD)} {w : World} (h : RowH 1 48 AltE A B v xs w) (h' : RowH 1 48 AltE A B' u ys w) (hvA : ∀ k, v.ownBlock = some k → A k) : ∃ cs ds, w.ownsRow B 48 1 v xs.length cs ∧ w.ownsRow B' 48 1 u ys.length ds ∧ ds.length = ys.length * 1 ∧ (∀ u ∈ ds, u.oneCell' = true) ∧ ∀ (g cap : Nat) (w2 : World) (A' : Nat → Prop), w2.ownsRow B 48 1 (.slice (some ⟨g, 0, none⟩) (xs.length + ys.length) cap) (xs.length + ys.length) (cs ++ ds) → w.grownBy w2 v.ownBlock → (∀ k, k < w.heap.size → A' k → A k) → RowH 1 48 AltE A' B (.slice (some ⟨g, 0, none⟩) (xs.length + ys.length) cap) (xs ++ ys) w2 := by
  obtain ⟨cs, ds, h1, h2, h3⟩ := RowH.addAll h h' hvA
  obtain ⟨es, k1, k2, k3, _⟩ := alt_cells h'
  have e : ds = es := by
    rcases h2.2 with ⟨e1, e2⟩ | ⟨g, cap, cur, e1, hB, hc, r⟩
    · have l1 := h2.1
      have l2 := k1.1
      rw [e2] at l1 l2
      have e3 : ds = [] := List.length_eq_zero_iff.1 (by simpa using l1)
      have e4 : es = [] := List.length_eq_zero_iff.1 (by simpa using l2)
      rw [e3, e4]
    · rcases k1.2 with ⟨e3, e4⟩ | ⟨g', cap', cur', e3, hB', hc', r'⟩
      · rw [e3] at e1
        cases e1
      · have e5 := e1.symm.trans e3
        cases e5
        rw [hc] at hc'
        cases hc'
        exact r.2.2.2.symm.trans r'.2.2.2
  subst e
  exact ⟨cs, ds, h1, h2, k2, k3, h3⟩
section
variable {A : Nat → Prop} {ns : List SNodeD} {rs : List SRuleD} {an ar : Option Addr} {cn cr B p : Nat} {W0 w : World} {gv0 qv0 : Value} {qs xs : Array Value} {m : MkD} {gv qv av mv kv : Value} {alts more : List (List SymD)} {kn : List ByteArray} {wr wr' : World}
theorem GwI.fin (h : GwI A ns rs an ar cn cr B p W0 w gv0 qv0 qs xs m gv qv av mv kv alts more kn wr) (hA : ∀ k, A k → k < w.heap.size) : FinI A ns rs an ar cn cr B p W0 w gv0 qv0 qs m gv qv av alts wr := by
  obtain ⟨h1, h2⟩ := h.done hA
  exact ⟨h1, h2, h.qb, h.fr, h.lk⟩
/-- What a row of alternatives in new memory is, at the end. -/
theorem GwI.finNew {W : World} {o : Value} {L : List (List SymD)} {b : Nat} (h : GwI A ns rs an ar cn cr B p W0 w gv0 qv0 qs xs m gv qv av mv kv alts more kn wr) (hA : ∀ k, A k → k < w.heap.size) (hBw : B ≤ w.heap.size) (hR : RowH 1 48 AltE (MutA A p gv qv) b o L W) (hb : w.heap.size ≤ b) (hf : FrA (fun k => av.ownBlock = some k) wr W) (hbe : Below w.heap.size w wr → Below B W0 W) (hB2 : Below B W0 W) : FinI A ns rs an ar cn cr B p W0 w gv0 qv0 qs m gv qv o L W := by
  have hM : MkI A ns rs an ar cn cr B p W0 m gv qv W := h.mki.other hf (fun k hk => .inr (.inl hk)) (alt_off h.als h.mki) hB2 (fun k hk a => .inl a)
  refine ⟨hM, RowH.held hR (fun k hk a => ?_), (hf.block _ (Array.getElem?_eq_some_iff.1 h.qb).1 (alt_ne h.als h.qb (by decide))).trans h.qb, h.fr.trans (A' := fun k => av.ownBlock = some k) hf (fun k hk ha => absurd (RowO.lt h.als k ha).1 (by omega)), h.lk⟩
  rcases a with a | a
  · have := hA k a
    have := (RowO.lt hR k hk).1
    omega
  · obtain ⟨cur, hc⟩ := RowO.type hR hk
    exact hM.off hc (by decide) (by decide) (by decide) a
/-- Again and again: nothing, and what comes again. -/
theorem GwI.star (h : GwI A ns rs an ar cn cr B p W0 w gv0 qv0 qs xs m gv qv av mv kv alts more kn wr) (hA : ∀ k, A k → k < w.heap.size) (hBw : B ≤ w.heap.size) :
    ∃ cs ds, (wr.alloc (.cells #[.slice none 0 0] 48)).ownsRow wr.heap.size 48 1 (.slice (some ⟨wr.heap.size, 0, none⟩) 1 1) 1 cs ∧ (wr.alloc (.cells #[.slice none 0 0] 48)).ownsRow w.heap.size 48 1 mv more.length ds ∧ ds.length = more.length * 1 ∧ (∀ u ∈ ds, u.oneCell' = true) ∧
      ∀ (g cap : Nat) (w2 : World), w2.ownsRow wr.heap.size 48 1 (.slice (some ⟨g, 0, none⟩) (1 + more.length) cap) (1 + more.length) (cs ++ ds) → (wr.alloc (.cells #[.slice none 0 0] 48)).grownBy w2 (some wr.heap.size) → FinI A ns rs an ar cn cr B p W0 w gv0 qv0 qs m gv qv (.slice (some ⟨g, 0, none⟩) (1 + more.length) cap) ([[]] ++ more) w2 := by
  have bal : Below wr.heap.size wr (wr.alloc (.cells #[.slice none 0 0] 48)) := (Below.refl _ _).alloc (Nat.le_refl _) _
  have hsz := h.fr.size
  have hnew : RowH 1 48 AltE (fun k => MutA (AG A av mv) p gv qv k ∨ wr.heap.size = k) wr.heap.size (.slice (some ⟨wr.heap.size, 0, none⟩) 1 1) [[]] (wr.alloc (.cells #[.slice none 0 0] 48)) := by
    refine ⟨[[.slice none 0 0]], rfl, fun vs hvs => by rw [List.mem_singleton.1 hvs]; rfl, ⟨rfl, .inr ⟨wr.heap.size, 1, #[.slice none 0 0], rfl, Nat.le_refl _, heap_alloc_new wr _, Nat.le_refl _, by unfold maxLen; omega, rfl, rfl⟩⟩, fun i hi hi' => ?_⟩
    obtain rfl : i = 0 := by simpa using hi
    intro V _ _
    exact ⟨.slice none 0 0, rfl, none, 0, rfl, fun _ => rfl, fun h0 => absurd h0 (by simp)⟩
  have hmor : RowH 1 48 AltE (fun k => MutA (AG A av mv) p gv qv k ∨ wr.heap.size = k) w.heap.size mv more (wr.alloc (.cells #[.slice none 0 0] 48)) := RowH.below (RowH.go h.mor (FrA.refl _ _) (fun k hk a => a.elim id (fun e => by omega)) (fun _ _ => rfl)) bal
  obtain ⟨cs, ds, h1, h2, h3, h4, h5⟩ := alts_all hnew hmor (fun k hk => .inr (Option.some.inj hk))
  refine ⟨cs, ds, h1, h2, h3, h4, fun g cap w2 ho hg => ?_⟩
  have hR := h5 g cap w2 (MutA A p gv qv) ho hg (fun k hk a => .inl (a.imp .inl id))
  have B2 : Below wr.heap.size wr w2 := bal.grown hg bal.size (fun k hk => by cases hk; exact Nat.le_refl _)
  exact h.finNew hA hBw hR hsz (FrA.below B2) (fun _ => h.mki.bel.trans (B2.mono h.mki.lt)) (h.mki.bel.trans (B2.mono h.mki.lt))
/-- Once, and again and again. -/
theorem GwI.plus (h : GwI A ns rs an ar cn cr B p W0 w gv0 qv0 qs xs m gv qv av mv kv alts more kn wr) (hA : ∀ k, A k → k < w.heap.size) (hBw : B ≤ w.heap.size) :
    ∃ cs ds, wr.ownsRow w.heap.size 48 1 av alts.length cs ∧ wr.ownsRow w.heap.size 48 1 mv more.length ds ∧ ds.length = more.length * 1 ∧ (∀ u ∈ ds, u.oneCell' = true) ∧
      ∀ (g cap : Nat) (w2 : World), w2.ownsRow w.heap.size 48 1 (.slice (some ⟨g, 0, none⟩) (alts.length + more.length) cap) (alts.length + more.length) (cs ++ ds) → wr.grownBy w2 av.ownBlock → FinI A ns rs an ar cn cr B p W0 w gv0 qv0 qs m gv qv (.slice (some ⟨g, 0, none⟩) (alts.length + more.length) cap) (alts ++ more) w2 := by
  obtain ⟨cs, ds, h1, h2, h3, h4, h5⟩ := alts_all h.als h.mor (fun k hk => .inl (.inr (.inl hk)))
  refine ⟨cs, ds, h1, h2, h3, h4, fun g cap w2 ho hg => ?_⟩
  have hR := h5 g cap w2 (MutA A p gv qv) ho hg (fun k hk a => a.imp .inl id)
  have hf : FrA (fun k => av.ownBlock = some k) wr w2 := FrA.grown hg (fun k hk => hk)
  have hB2 : Below B W0 w2 := h.mki.bel.grown hg h.mki.lt (fun k hk => Nat.le_trans hBw (RowO.lt h.als k hk).1)
  exact h.finNew hA hBw hR (Nat.le_refl _) hf (fun _ => hB2) hB2
end

end Go.Proofs.Ytipkbkhnaekceaa

namespace Go.Proofs.Ytipkbkhnaekceaa
open Go.RowKit

/-- The figure of a half byte, as a number. -/
def figI (x : Int) : Int := if x < 10 then 48 + x else 87 + x

theorem fig_any (x : Int) (w : World) (h0 : 0 ≤ x) (h1 : x < 16) :
    Calls Try.prog 94 #[.int .i64 x] w fun e w' => e = .returned (.int .u8 (figI x)) ∧ w' = w := by
  by_cases h : x < 10
  · have HF : Hid (figI x = 48 + x) := by simp [Hid, figI, h]
    go_enter Try.func94, Try.ntmps94
    go_wp2
    go_ret
    rw [HF.out]
    exact ⟨rfl, rfl⟩
  · have HF : Hid (figI x = 97 + x - 10) := by simp only [Hid, figI, if_neg h]; omega
    go_enter Try.func94, Try.ntmps94
    go_wp2
    go_ret
    rw [HF.out]
    exact ⟨rfl, rfl⟩

end Go.Proofs.Ytipkbkhnaekceaa

namespace Go.Proofs.Ytipkbkhnaekceaa
open Go.RowKit

/-- What holds at each round's head: the figures of m are left. -/
def DecRel (n0 : Int) (base : Nat) (w : World) (nv sv : Value) (wr : World) : Prop :=
  ∃ (m : Int) (t : List UInt8), nv = .int .i64 m ∧ sv = .string (str t) ∧ digs m.natAbs ++ t = digs n0.natAbs ∧ -9223372036854775808 ≤ m ∧ m ≤ 9223372036854775807 ∧ Below base w wr ∧ base ≤ wr.heap.size

theorem decRel_step {n0 m m' x : Int} {base : Nat} {w wr : World} {t : List UInt8} (hm : m ≠ 0) (hx : x = (m.natAbs % 10 : Nat)) (hm' : m'.natAbs = m.natAbs / 10)
    (hd : digs m.natAbs ++ t = digs n0.natAbs) (b1 : -9223372036854775808 ≤ m') (b2 : m' ≤ 9223372036854775807) (hbel : Below base w wr) (hsz : base ≤ wr.heap.size) (o : Obj) :
    DecRel n0 base w (.int .i64 m') (.string (str ([byteI (figI x)] ++ t))) (wr.alloc o) := by
  refine ⟨m', _, rfl, rfl, ?_, b1, b2, hbel.alloc hsz o, by simp; omega⟩
  rw [hm', ← hd, digs_step m.natAbs (by omega)]
  have : (figI x).toNat = 48 + m.natAbs % 10 := by
    unfold figI
    rw [if_pos (by omega)]
    omega
  rw [byteI, this]
  simp

theorem digs_room {n0 m : Int} {t : List UInt8} (hm : m ≠ 0) (hd : digs m.natAbs ++ t = digs n0.natAbs) (b1 : -9223372036854775808 ≤ n0) (b2 : n0 ≤ 9223372036854775807) : t.length + 1 ≤ 922337203685477581 := by
  have h1 := digs_len n0.natAbs
  have h2 := congrArg List.length hd
  rw [List.length_append, digs_step m.natAbs (by omega), List.length_append, List.length_singleton] at h2
  omega

set_option maxHeartbeats 800000 in
theorem specDec_pos (n : Int) (w : World) (h0 : -9223372036854775808 ≤ n) (h1 : n ≤ 9223372036854775807) (hn : n ≠ 0) :
    Calls Try.prog 87 #[.int .i64 n] w fun e w' => e = .returned (.string (str (Lib.itoa n))) ∧ Below w.heap.size w w' := by
  have hne : (n == 0) = false := by simpa using hn
  go_enter Try.func87, Try.ntmps87
  go_wp2
  go_loopw [0, 4] (fun nv sv wr => DecRel n w.heap.size w nv sv wr) (fun nv _ _ => (intOf nv).natAbs)
  case atStart => exact ⟨n, [], rfl, rfl, by simp, h0, h1, Below.refl _ _, Nat.le_refl _⟩
  case round =>
    obtain ⟨m, t, rfl, rfl, hd, b1, b2, hbel, hsz⟩ := hrel
    by_cases hm : m = 0
    · subst hm
      have HD : Hid (t = digs n.natAbs) := by simpa [Hid, digs] using hd
      clear hd
      have hl := digs_len n.natAbs
      by_cases hneg : n < 0
      · have hz : (str t).size ≤ 922337203685477582 := by rw [str_size, HD.out]; omega
        clear hl
        have HE : Hid (Lib.itoa n = [45] ++ t) := by rw [HD.out]; exact itoa_digs_neg n hneg
        go_wp2
        go_ret
        rw [HE.out, ← str_add]
        exact ⟨rfl, hbel⟩
      · have HE : Hid (Lib.itoa n = t) := by rw [HD.out]; exact itoa_digs_pos n (by omega)
        clear hl
        go_wp2
        go_ret
        rw [HE.out]
        exact ⟨rfl, hbel⟩
    · have hroom := digs_room hm hd h0 h1
      have HD : Hid (digs m.natAbs ++ t = digs n.natAbs) := hd
      clear hd
      have hmne : (m != 0) = true := by simpa using hm
      by_cases hneg : m < 0
      · have q1 : m.tdiv 10 = -((m.natAbs / 10 : Nat) : Int) := by
          rw [show m = -(m.natAbs : Int) by omega, Int.neg_tdiv, Int.tdiv_eq_ediv_of_nonneg (by omega)]; omega
        have q2 : m.tmod 10 = -((m.natAbs % 10 : Nat) : Int) := by
          rw [show m = -(m.natAbs : Int) by omega, Int.neg_tmod, Int.tmod_eq_emod_of_nonneg (by omega)]; omega
        have hz : (str t).size ≤ 922337203685477580 := by rw [str_size]; omega
        have q5 : -10 < m.tmod 10 := by omega
        have q6 : m.tmod 10 ≤ 0 := by omega
        have q8 : -9223372036854775808 ≤ m.tdiv 10 := by omega
        have q9 : m.tdiv 10 ≤ 0 := by omega
        have Q1 : Hid (m.tdiv 10 = -((m.natAbs / 10 : Nat) : Int)) := q1
        have Q2 : Hid (m.tmod 10 = -((m.natAbs % 10 : Nat) : Int)) := q2
        clear q1 q2
        by_cases hy : m.tmod 10 < 0
        · have hcv := fun W => run_one_string (P := Try.prog) W 22 9 5 (figI (-(m.tmod 10))) (by unfold figI; split <;> omega) (by unfold figI; split <;> omega) Try.underlying22 Try.underlying5 Try.underlying9
          have hadd := fun W => run_add_str (P := Try.prog) W [byteI (figI (-(m.tmod 10)))] t (by simp; omega)
          have R := decRel_step (m' := m.tdiv 10) (x := -(m.tmod 10)) hm (by have h9 := Q2.out; omega) (by rw [Q1.out]; omega) HD.out (by omega) (by omega) hbel hsz (.cells #[.int .u8 (figI (-(m.tmod 10)))] 5)
          go_wp2_with (go_at_call 94; refine (fig_any _ _ (by omega) (by omega)).mono ?_; rintro e wq ⟨rfl, hw⟩; rw [hw]; clear hw)
          go_roundw
          case rel => exact R
          case measure => simp [intOf]; show m.natAbs / 10 < m.natAbs; omega
        · have hcv := fun W => run_one_string (P := Try.prog) W 22 9 5 (figI (m.tmod 10)) (by unfold figI; split <;> omega) (by unfold figI; split <;> omega) Try.underlying22 Try.underlying5 Try.underlying9
          have hadd := fun W => run_add_str (P := Try.prog) W [byteI (figI (m.tmod 10))] t (by simp; omega)
          have R := decRel_step (m' := m.tdiv 10) (x := m.tmod 10) hm (by have h9 := Q2.out; omega) (by rw [Q1.out]; omega) HD.out (by omega) (by omega) hbel hsz (.cells #[.int .u8 (figI (m.tmod 10))] 5)
          go_wp2_with (go_at_call 94; refine (fig_any _ _ (by omega) (by omega)).mono ?_; rintro e wq ⟨rfl, hw⟩; rw [hw]; clear hw)
          go_roundw
          case rel => exact R
          case measure => simp [intOf]; show m.natAbs / 10 < m.natAbs; omega
      · have hpos : 0 < m := by omega
        have hz : (str t).size ≤ 922337203685477580 := by rw [str_size]; omega
        have hcv := fun W => run_one_string (P := Try.prog) W 22 9 5 (figI (m % 10)) (by unfold figI; split <;> omega) (by unfold figI; split <;> omega) Try.underlying22 Try.underlying5 Try.underlying9
        have hadd := fun W => run_add_str (P := Try.prog) W [byteI (figI (m % 10))] t (by simp; omega)
        have R := decRel_step (m' := m / 10) (x := m % 10) hm (by omega) (by omega) HD.out (by omega) (by omega) hbel hsz (.cells #[.int .u8 (figI (m % 10))] 5)
        go_wp2_with (go_at_call 94; refine (fig_any _ _ (by omega) (by omega)).mono ?_; rintro e wq ⟨rfl, hw⟩; rw [hw]; clear hw)
        go_roundw
        case rel => exact R
        case measure => simp [intOf]; omega

theorem specDec_any (n : Int) (w : World) (h0 : -9223372036854775808 ≤ n) (h1 : n ≤ 9223372036854775807) :
    Calls Try.prog 87 #[.int .i64 n] w fun e w' => e = .returned (.string (str (Lib.itoa n))) ∧ Below w.heap.size w w' := by
  by_cases hn : n = 0
  · subst hn
    rw [itoa_zero]
    go_enter Try.func87, Try.ntmps87
    go_wp2
    go_ret
    exact ⟨rfl, Below.refl _ _⟩
  · exact specDec_pos n w h0 h1 hn

end Go.Proofs.Ytipkbkhnaekceaa
