/- The program reads a sym. -/
/- The program reads a list (printed by mk/each16.py out of E16Z). -/
/- The program reads an alternative. -/
/- The program reads a list (printed by mk/each16.py out of E16Z). -/
import Derived.Test.YtokidlklkgghkaaGreatDoorE16EE
namespace Go.Proofs.YtokidlklkgghkaaGreatDoor
open Go.RowKit
set_option linter.unusedVariables false

theorem drop_next {s : ByteArray} {a b : Nat} {L R : List UInt8} (e : s.data.toList.drop a = L ++ R) (hb : b = a + L.length) : s.data.toList.drop b = R := by rw [hb, ← List.drop_drop, e, List.drop_left]
def SymQ (x : SymD) : Prop := (0 ≤ x.kind ∧ x.kind ≤ 127) ∧ x.text.size ≤ 20000 ∧ x.bind.size ≤ 20000 ∧ ListP (fun e => exprB e = true) x.args
def symT (x : SymD) : Nat := x.text.size + x.bind.size + listT (listT nodeT) x.args
def SyIn (x : SymD) : Prop := (0 ≤ x.kind ∧ x.kind ≤ 255) ∧ x.text.size ≤ 20000 ∧ x.bind.size ≤ 20000 ∧ ∀ e ∈ x.args, ∀ y ∈ e, NdIn y
def RdSy (x : SymD) (v : Value) (w w' : World) : Prop := ∃ av : Value, v = .agg #[.int .i64 x.kind, .string x.text, av, .string x.bind] ∧ RowF 1 66 ExprF (Nw w.heap.size w'.heap.size) av x.args w' ∧ SyIn x
theorem sym_h0 {x : SymD} {s : ByteArray} {a : Nat} {r : List UInt8} (e : s.data.toList.drop a = symW x ++ r) : s.data.toList.drop a = [byteW x.kind] ++ (shortW x.text ++ (shortW x.bind ++ (listW argW x.args ++ r))) := by rw [e, symW]; simp

set_option maxHeartbeats 6400000 in
set_option maxRecDepth 100000 in
theorem rdSym_any (p : Nat) (s : ByteArray) (a : Nat) (w : World) (hs : s.size ≤ 1048576) (ha : a ≤ s.size) (h : RdA p s a w) :
    Calls Tryz.prog 65 #[.pointer (some ⟨p, 0, none⟩)] w fun e w' => RdOut symW SymQ symT RdSy p s a w e w' := by
  have hpw : p < w.heap.size := (Array.getElem?_eq_some_iff.1 h).1
  have bal : Below w.heap.size w (w.alloc (.cells #[.int .i64 0, .string ⟨#[]⟩, .slice none 0 0, .string ⟨#[]⟩] 46)) := (Below.refl _ _).alloc (Nat.le_refl _) _
  have HA1 : Hid (RdA p s a (w.alloc (.cells #[.int .i64 0, .string ⟨#[]⟩, .slice none 0 0, .string ⟨#[]⟩] 46))) := RdA.below h bal
  have HK1 : Hid (Kp (fun q => q = p) w (w.alloc (.cells #[.int .i64 0, .string ⟨#[]⟩, .slice none 0 0, .string ⟨#[]⟩] 46))) := Kp.below bal
  have HP1 : Hid ((w.alloc (.cells #[.int .i64 0, .string ⟨#[]⟩, .slice none 0 0, .string ⟨#[]⟩] 46)).heap[w.heap.size]? = some (.cells #[.int .i64 0, .string ⟨#[]⟩, .slice none 0 0, .string ⟨#[]⟩] 46 (0, 0))) := heap_alloc_new w _
  clear h bal
  go_enter Tryz.func65, Tryz.ntmps65
  go_wp2_with fail
  generalize w.alloc (.cells #[.int .i64 0, .string ⟨#[]⟩, .slice none 0 0, .string ⟨#[]⟩] 46) = w1 at *
  refine (rdSingle_any p s a w1 hs ha HA1.out).mono ?_
  rintro e w2 ⟨hk2, ⟨rfl, hn2⟩ | ⟨v2, o, b1, rfl, ⟨rfl, ho⟩, hA2, hl2, hu2, hd2⟩⟩
  · go_simp
    exact ⟨rfl, HK1.out.trans hk2, .inl ⟨rfl, fun x r hx e => hn2 _ _ hx.1 (sym_h0 e)⟩⟩
  have HL2 : Hid (a < b1) := by have h0 : a + 0 < b1 := hl2; exact h0
  have HA2 : Hid (RdA p s b1 w2) := hA2
  have HK2 : Hid (Kp (fun q => q = p) w w2) := HK1.out.trans hk2
  have HD2 : Hid (∀ (x : SymD) (r : List UInt8), SymQ x → s.data.toList.drop a = symW x ++ r → o = x.kind ∧ b1 = a + 1 ∧ s.data.toList.drop b1 = shortW x.text ++ (shortW x.bind ++ (listW argW x.args ++ r))) := fun x r hx e => by
    obtain ⟨g1, g2⟩ := hd2 _ _ hx.1 (sym_h0 e)
    exact ⟨g1, g2, drop_next (sym_h0 e) g2⟩
  have hw1 : w.heap.size < w1.heap.size := (Array.getElem?_eq_some_iff.1 HP1.out).1
  have HP2 : Hid (w2.heap[w.heap.size]? = some (.cells #[.int .i64 0, .string ⟨#[]⟩, .slice none 0 0, .string ⟨#[]⟩] 46 (0, 0))) := (hk2.block _ hw1 (by omega)).trans HP1.out
  clear hA2 hk2 hd2 hl2 hw1 HP1 HA1
  go_wp2_with fail
  refine (rdShort_any p s b1 w2 hs hu2 HA2.out).mono ?_
  rintro e w3 ⟨hk3, ⟨rfl, hn3⟩ | ⟨v3, tx, b2, rfl, ⟨rfl, htx⟩, hA3, hl3, hu3, hd3⟩⟩
  · go_simp
    exact ⟨rfl, HK2.out.trans hk3, .inl ⟨rfl, fun x r hx e => hn3 _ _ hx.2.1 (HD2.out x r hx e).2.2⟩⟩
  have HL3 : Hid (b1 + tx.size < b2) := hl3
  have HA3 : Hid (RdA p s b2 w3) := hA3
  have HK3 : Hid (Kp (fun q => q = p) w w3) := HK2.out.trans hk3
  have HD3 : Hid (∀ (x : SymD) (r : List UInt8), SymQ x → s.data.toList.drop a = symW x ++ r → tx = x.text ∧ b2 = b1 + (shortW x.text).length ∧ s.data.toList.drop b2 = shortW x.bind ++ (listW argW x.args ++ r)) := fun x r hx e => by
    obtain ⟨g1, g2⟩ := hd3 _ _ hx.2.1 (HD2.out x r hx e).2.2
    exact ⟨g1, g2, drop_next (HD2.out x r hx e).2.2 g2⟩
  have hw2 : w.heap.size < w2.heap.size := (Array.getElem?_eq_some_iff.1 HP2.out).1
  have HP3 : Hid (w3.heap[w.heap.size]? = some (.cells #[.int .i64 0, .string ⟨#[]⟩, .slice none 0 0, .string ⟨#[]⟩] 46 (0, 0))) := (hk3.block _ hw2 (by omega)).trans HP2.out
  clear hA3 hk3 hd3 hl3 hw2 HP2 HA2
  go_wp2_with fail
  refine (rdShort_any p s b2 w3 hs hu3 HA3.out).mono ?_
  rintro e w4 ⟨hk4, ⟨rfl, hn4⟩ | ⟨v4, bd, b3, rfl, ⟨rfl, hbd⟩, hA4, hl4, hu4, hd4⟩⟩
  · go_simp
    exact ⟨rfl, HK3.out.trans hk4, .inl ⟨rfl, fun x r hx e => hn4 _ _ hx.2.2.1 (HD3.out x r hx e).2.2⟩⟩
  have HL4 : Hid (b2 + bd.size < b3) := hl4
  have HA4 : Hid (RdA p s b3 w4) := hA4
  have HK4 : Hid (Kp (fun q => q = p) w w4) := HK3.out.trans hk4
  have HD4 : Hid (∀ (x : SymD) (r : List UInt8), SymQ x → s.data.toList.drop a = symW x ++ r → bd = x.bind ∧ b3 = b2 + (shortW x.bind).length ∧ s.data.toList.drop b3 = listW argW x.args ++ r) := fun x r hx e => by
    obtain ⟨g1, g2⟩ := hd4 _ _ hx.2.2.1 (HD3.out x r hx e).2.2
    exact ⟨g1, g2, drop_next (HD3.out x r hx e).2.2 g2⟩
  have hw3 : w.heap.size < w3.heap.size := (Array.getElem?_eq_some_iff.1 HP3.out).1
  have HP4 : Hid (w4.heap[w.heap.size]? = some (.cells #[.int .i64 0, .string ⟨#[]⟩, .slice none 0 0, .string ⟨#[]⟩] 46 (0, 0))) := (hk4.block _ hw3 (by omega)).trans HP3.out
  clear hA4 hk4 hd4 hl4 hw3 HP3 HA3
  go_wp2_with fail
  refine (readArgs_any p s b3 w4 hs hu4 HA4.out).mono ?_
  rintro e w5 ⟨hk5, ⟨rfl, hn5⟩ | ⟨av, es, b4, rfl, ⟨hro, hin⟩, hA5, hl5, hu5, hd5⟩⟩
  · go_simp
    exact ⟨rfl, HK4.out.trans hk5, .inl ⟨rfl, fun x r hx e => hn5 _ _ hx.2.2.2 (HD4.out x r hx e).2.2⟩⟩
  obtain ⟨oa, oc, rfl⟩ := hro.slice
  have hw4 : w.heap.size < w4.heap.size := (Array.getElem?_eq_some_iff.1 HP4.out).1
  have HP : w5.heap[w.heap.size]? = some (.cells #[.int .i64 0, .string ⟨#[]⟩, .slice none 0 0, .string ⟨#[]⟩] 46 (0, 0)) := (hk5.block _ hw4 (by omega)).trans HP4.out
  have HK5 : Kp (fun q => q = p) w w5 := HK4.out.trans hk5
  have hw5 : w4.heap.size ≤ w5.heap.size := hk5.size
  have y0 := run_cell (j := 0) HP rfl
  have y1 := run_cell (j := 1) HP rfl
  have y2 := run_cell (j := 2) HP rfl
  have y3 := run_cell (j := 3) HP rfl
  have f0 := run_frozen (j := 0) HP
  have f1 := run_frozen (j := 1) HP
  have f2 := run_frozen (j := 2) HP
  have f3 := run_frozen (j := 3) HP
  obtain ⟨V', hV'⟩ : ∃ V', V' = ((((w5.setCell ⟨w.heap.size, 0, none⟩ (.int .i64 o)).setCell ⟨w.heap.size, 1, none⟩ (.string tx)).setCell ⟨w.heap.size, 2, none⟩ (.slice oa es.length oc)).setCell ⟨w.heap.size, 3, none⟩ (.string bd)) := ⟨_, rfl⟩
  have HVe : Hid (V' = _) := hV'
  have hz : V'.heap[w.heap.size]? = some (.cells #[.int .i64 o, .string tx, .slice oa es.length oc, .string bd] 46 (0, 0)) := by
    rw [hV', setCell_self _ (setCell_self _ (setCell_self _ (setCell_self _ HP)))]
    rfl
  have z0 : V'.cell? ⟨w.heap.size, 0, none⟩ = some (.int .i64 o) := run_cell hz rfl
  have z1 : V'.cell? ⟨w.heap.size, 1, none⟩ = some (.string tx) := run_cell hz rfl
  have z2 : V'.cell? ⟨w.heap.size, 2, none⟩ = some (.slice oa es.length oc) := run_cell hz rfl
  have z3 : V'.cell? ⟨w.heap.size, 3, none⟩ = some (.string bd) := run_cell hz rfl
  have k1 : Kp (fun q => q = w.heap.size) w5 V' := by
    have st : ∀ (U : World) (j : Nat) (u : Value), Kp (fun q => q = w.heap.size) U (U.setCell ⟨w.heap.size, j, none⟩ u) := fun U j u => Kp.store rfl
    rw [hV']
    exact (((st _ _ _).trans (st _ _ _)).trans (st _ _ _)).trans (st _ _ _)
  have hks := k1.size
  have HR9 : Hid (RowF 1 66 ExprF (Nw w.heap.size V'.heap.size) (.slice oa es.length oc) es V') :=
    (hro.ag stabExpr (k1.ag (fun q hq e => by have := hq.1; omega))).up (fun q hq => ⟨by have := hq.1; omega, by have := hq.2; omega⟩)
  have HA9 : Hid (RdA p s b4 V') := (k1.block p (by omega) (by omega)).trans hA5
  have HK9 : Hid (Kp (fun q => q = p) w V') := ⟨k1.os.trans HK5.os, k1.tape.trans HK5.tape, k1.output.trans HK5.output, by omega, fun j hj hF => (k1.block j (by omega) (by omega)).trans (HK5.block j hj hF)⟩
  have HT9 : Hid (a + symT ⟨o, tx, es, bd⟩ < b4) := by
    have g1 := HL2.out
    have g2 := HL3.out
    have g3 := HL4.out
    have g4 : b3 + listT (listT nodeT) es < b4 := hl5
    rw [Hid]
    show a + (tx.size + bd.size + listT (listT nodeT) es) < b4
    omega
  have HD9 : Hid (∀ (x0 : SymD) (r : List UInt8), SymQ x0 → s.data.toList.drop a = symW x0 ++ r → (⟨o, tx, es, bd⟩ : SymD) = x0 ∧ b4 = a + (symW x0).length) := fun x0 r hx e => by
    obtain ⟨g1, g2, _⟩ := HD2.out x0 r hx e
    obtain ⟨g3, g4, _⟩ := HD3.out x0 r hx e
    obtain ⟨g5, g6, g7⟩ := HD4.out x0 r hx e
    obtain ⟨g8, g9⟩ := hd5 _ _ hx.2.2.2 g7
    refine ⟨?_, ?_⟩
    · cases x0
      simp only at g1 g3 g5 g8
      rw [g1, g3, g5, g8]
    · rw [symW]
      simp only [List.length_cons, List.length_append]
      omega
  have HIn : Hid (∀ e ∈ es, ∀ y ∈ e, NdIn y) := hin
  clear hV' hz k1 HP HK5 hro hA5 hk5 hd5 hl5 hin
  go_wp2
  rw [← HVe.out]
  refine bodyPost_ret (by simp [results, Tryz.results65, go_sem, z0, z1, z2, z3]; try rfl) rfl ?_
  exact ⟨HK9.out, .inr ⟨_, ⟨o, tx, es, bd⟩, b4, rfl, ⟨_, rfl, HR9.out, ho, htx, hbd, HIn.out⟩, HA9.out, HT9.out, hu5, HD9.out⟩⟩

end Go.Proofs.YtokidlklkgghkaaGreatDoor

namespace Go.Proofs.YtokidlklkgghkaaGreatDoor
open Go.RowKit
set_option linter.unusedVariables false

def RdSyms (xs : List (SymD)) (v : Value) (w w' : World) : Prop := RowF 4 46 SymF (Nw w.heap.size w'.heap.size) v xs w' ∧ ∀ x ∈ xs, SyIn x

set_option maxHeartbeats 3200000 in
set_option maxRecDepth 100000 in
theorem readSyms_any (p : Nat) (s : ByteArray) (a : Nat) (w : World) (hs : s.size ≤ 1048576) (ha : a ≤ s.size) (h : RdA p s a w) :
    Calls Tryz.prog 64 #[.pointer (some ⟨p, 0, none⟩), .func (.func 65) #[.pointer (some ⟨p, 0, none⟩)] #[]] w fun e w' =>
      RdOut (listW symW) (ListP SymQ) (listT symT) RdSyms p s a w e w' := by
  obtain ⟨i0, hi, hz0, hz1, hz2⟩ := info_parts Tryz.infoSymR
  have hpw : p < w.heap.size := (Array.getElem?_eq_some_iff.1 h).1
  have bal : Below w.heap.size w (w.alloc (.cells #[] 46)) := (Below.refl _ _).alloc (Nat.le_refl _) _
  have HA1 : Hid (RdA p s a (w.alloc (.cells #[] 46))) := RdA.below h bal
  have HK1 : Hid (Kp (fun q => q = p) w (w.alloc (.cells #[] 46))) := Kp.below bal
  have HO1 : Hid (RowF 4 46 SymF (Nw w.heap.size (w.alloc (.cells #[] 46)).heap.size) (.slice (some ⟨w.heap.size, 0, none⟩) 0 0) ([] : List (SymD)) (w.alloc (.cells #[] 46))) := RowF.madeR (World.ownsRow_made (base := w.heap.size) w #[] 0 (e := 46) (size := 4) (Nat.le_refl _) (by decide) rfl) ⟨Nat.le_refl _, by simp⟩
  clear h bal
  go_enter Tryz.func64, Tryz.ntmps64
  go_wp2_with fail
  generalize w.alloc (.cells #[] 46) = w1 at *
  refine (rdNumber_any p s a w1 hs ha HA1.out).mono ?_
  rintro e w2 ⟨hk2, ⟨rfl, hn2⟩ | ⟨v2, N, a1, rfl, ⟨rfl, hN⟩, hA2, hlt2, hle2, hd2⟩⟩
  · go_simp
    exact ⟨rfl, HK1.out.trans hk2, .inl ⟨rfl, fun ys r hp e => by
      rw [listW, List.append_assoc] at e
      exact hn2 _ _ hp.1 e⟩⟩
  have HA2 : Hid (RdA p s a1 w2) := hA2
  have HK2 : Hid (Kp (fun q => q = p) w w2) := HK1.out.trans hk2
  have HD2 : Hid (∀ x0 r, x0 ≤ 1000000000 → s.data.toList.drop a = varB x0 ++ r → N = x0 ∧ a1 = a + (varB x0).length) := hd2
  have HL2 : Hid (a < a1) := by have h0 : a + 0 < a1 := hlt2; exact h0
  have HO2 : Hid (RowF 4 46 SymF (Nw w.heap.size w2.heap.size) (.slice (some ⟨w.heap.size, 0, none⟩) 0 0) ([] : List (SymD)) w2) := (HO1.out.ag stabSym (hk2.ag (fun q hq e => by have := hq.1; omega))).up (fun q hq => ⟨hq.1, Nat.lt_of_lt_of_le hq.2 hk2.size⟩)
  clear hA2 hk2 hd2 hlt2
  go_wp2
  go_loopw [5, 9] (fun ov kv wr => ∃ (ts : List (SymD)) (b : Nat), kv = .int .i64 (ts.length : Int) ∧ ts.length ≤ N ∧ RowF 4 46 SymF (Nw w.heap.size wr.heap.size) ov ts wr ∧ RdA p s b wr ∧ Kp (fun q => q = p) w wr ∧ LoopD symW SymQ symT s a1 N ts b ∧ ∀ t ∈ ts, SyIn t) (fun _ kv _ => N - (intOf kv).toNat)
  case atStart => exact ⟨[], a1, rfl, Nat.zero_le _, HO2.out, HA2.out, HK2.out, LoopD.start hle2, fun t ht => by cases ht⟩
  case round =>
    clear HO2 HA2 HK2
    obtain ⟨ts, b, rfl, hk, ho, hA, hK0, hL, hS⟩ := hrel
    obtain ⟨wk, rfl⟩ : ∃ W, W = wr := ⟨wr, rfl⟩
    obtain ⟨oa, oc, rfl⟩ := ho.slice
    have HO : Hid (RowF 4 46 SymF (Nw w.heap.size wk.heap.size) (.slice oa ts.length oc) ts wk) := ho
    have HA : Hid (RdA p s b wk) := hA
    have HK : Hid (Kp (fun q => q = p) w wk) := hK0
    have HL : Hid (LoopD symW SymQ symT s a1 N ts b) := hL
    have HS : Hid (∀ t ∈ ts, SyIn t) := hS
    have hws : w.heap.size ≤ wk.heap.size := hK0.size
    have htl : ts.length ≤ 1048576 := by
      have h1 := hL.low
      have h2 := hL.up
      have h3 : ∀ l : List (SymD), l.length ≤ (l.map fun x => symT x + 1).sum := fun l => by
        induction l with
        | nil => simp
        | cons x l ih => simp only [List.length_cons, List.map_cons, List.sum_cons]; omega
      have h4 := h3 ts
      omega
    have hbu : b ≤ s.size := hL.up
    clear ho hA hK0 hL hS
    by_cases hlt : ts.length < N
    · have i4 : (ts.length : Int) < (N : Int) := by omega
      go_wp2_with fail
      refine (rdSym_any p s b wk hs hbu HA.out).mono ?_
      rintro e w5 ⟨hk5, ⟨rfl, hn5⟩ | ⟨v5, t, b5, rfl, ⟨kv, rfl, hkz, ht5⟩, hA5, hlt5, hle5, hd5⟩⟩
      · go_simp
        exact ⟨rfl, HK.out.trans hk5, .inl ⟨rfl, fun ys r hp => HL.out.bad HD2.out hlt hn5 ys r hp⟩⟩
      have HN5 : Hid (LoopD symW SymQ symT s a1 N (ts ++ [t]) b5) := HL.out.next hlt hlt5 hle5 hd5
      have HA5 : Hid (RdA p s b5 w5) := hA5
      have HK5 : Hid (Kp (fun q => q = p) w w5) := HK.out.trans hk5
      obtain ⟨cs, hcs, hAdd⟩ := (HO.out.ag stabSym (hk5.ag (fun q hq e => by have := hq.1; omega))).add stabSym hws hk5.size
      have HCs : Hid (w5.ownsRow 0 46 4 (.slice oa ts.length oc) ts.length cs) := hcs
      have HAdd : Hid (_) := hAdd
      have hne : ∀ q, (Value.slice oa ts.length oc).ownBlock = some q → w.heap.size ≤ q := fun q hq => (HO.out.lt q hq).1.1
      obtain ⟨ka, kc, rfl⟩ := hkz.slice
      have HE5 : Hid (SymF (Nw wk.heap.size w5.heap.size) w5 [.int .i64 t.kind, .string t.text, .slice ka t.args.length kc, .string t.bind] t) := ⟨_, rfl, hkz⟩
      have HS5 : Hid (∀ x ∈ ts ++ [t], SyIn x) := fun x hx => by
        rcases List.mem_append.1 hx with hx | hx
        · exact HS.out x hx
        · rw [List.mem_singleton.1 hx]; exact ht5
      have hw5 : w.heap.size ≤ w5.heap.size := HK5.out.size
      clear hA5 hk5 hd5 hlt5 hle5 hcs hAdd hkz ht5
      go_wp2_with (at_builtin; refine wpList_append_own_at _ rfl _ _ 41 rfl 0 46 i0 _ 4 64 Tryz.underlying41 hi hz0 hz1 hz2 rfl (by decide) _ _ _ rfl (World.ownsRow.alloc HCs.out _) ⟨_, 0, none⟩ 1 1 [.int .i64 t.kind, .string t.text, .slice ka t.args.length kc, .string t.bind] rfl rfl (cellsR _ _ _) (by intro u hu; simp only [List.mem_cons, List.not_mem_nil, or_false] at hu; rcases hu with rfl | rfl | rfl | rfl <;> rfl) (by unfold maxLen; omega) (by omega) (Nat.zero_le _) ?_)
      intro v6 w6 hown6 hgr6 _ hat6
      obtain ⟨a6, k6, rfl⟩ := shapeR hown6
      have hs6 : w5.heap.size + 1 ≤ w6.heap.size := by have := hgr6.size; simpa using this
      have K6 : Hid (Kp (fun q => q = p) w w6) := ⟨hgr6.os.trans HK5.out.os, hgr6.tape.trans HK5.out.tape, hgr6.output.trans HK5.out.output, by omega, fun j hj hF => (hgr6.block j (by simp; omega) (fun e => by have := hne _ e.symm; omega)).trans ((Below.heap_alloc w5 _ j (by omega)).trans (HK5.out.block j hj hF))⟩
      have A6 : Hid (RdA p s b5 w6) := (hgr6.block p (by simp; omega) (fun e => by have := hne _ e.symm; omega)).trans ((Below.heap_alloc w5 _ p (by omega)).trans HA5.out)
      have O6 : Hid (RowF 4 46 SymF (Nw w.heap.size w6.heap.size) (.slice a6 (ts.length + 1) k6) (ts ++ [t]) w6) := HAdd.out w5 w6 _ _ _ t rfl (Below.refl _ _) HE5.out hown6 hgr6 (hatR hat6)
      clear hown6 hgr6 hat6
      go_wp2
      go_roundw
      case rel => exact ⟨ts ++ [t], b5, by rw [List.length_append, List.length_singleton]; go_num, by rw [List.length_append, List.length_singleton]; omega, O6.out, A6.out, K6.out, HN5.out, HS5.out⟩
      case measure => simp [intOf]; omega
    · obtain rfl : N = ts.length := by omega
      have i4 : ¬ (ts.length : Int) < (ts.length : Int) := by omega
      go_wp2
      go_ret
      obtain ⟨q1, q2, q3⟩ := HL.out.fin HL2.out HD2.out rfl
      exact ⟨HK.out, .inr ⟨_, ts, b, rfl, ⟨HO.out, HS.out⟩, HA.out, q1, q2, q3⟩⟩

end Go.Proofs.YtokidlklkgghkaaGreatDoor

namespace Go.Proofs.YtokidlklkgghkaaGreatDoor
open Go.RowKit
set_option linter.unusedVariables false

def RdAl (x : List SymD) (v : Value) (w w' : World) : Prop := ∃ ev : Value, v = .agg #[ev] ∧ RowF 4 46 SymF (Nw w.heap.size w'.heap.size) ev x w' ∧ ∀ y ∈ x, SyIn y

set_option maxHeartbeats 3200000 in
set_option maxRecDepth 100000 in
theorem rdAlt_any (p : Nat) (s : ByteArray) (a : Nat) (w : World) (hs : s.size ≤ 1048576) (ha : a ≤ s.size) (h : RdA p s a w) :
    Calls Tryz.prog 42 #[.pointer (some ⟨p, 0, none⟩)] w fun e w' => RdOut altW (ListP SymQ) (listT symT) RdAl p s a w e w' := by
  have hpw : p < w.heap.size := (Array.getElem?_eq_some_iff.1 h).1
  have bal : Below w.heap.size w (w.alloc (.cells #[.slice none 0 0] 43)) := (Below.refl _ _).alloc (Nat.le_refl _) _
  have HA1 : Hid (RdA p s a (w.alloc (.cells #[.slice none 0 0] 43))) := RdA.below h bal
  have HK1 : Hid (Kp (fun q => q = p) w (w.alloc (.cells #[.slice none 0 0] 43))) := Kp.below bal
  have HP1 : Hid ((w.alloc (.cells #[.slice none 0 0] 43)).heap[w.heap.size]? = some (.cells #[.slice none 0 0] 43 (0, 0))) := heap_alloc_new w _
  clear h bal
  go_enter Tryz.func42, Tryz.ntmps42
  go_wp2_with fail
  generalize w.alloc (.cells #[.slice none 0 0] 43) = w1 at *
  refine (readSyms_any p s a w1 hs ha HA1.out).mono ?_
  rintro e w4 ⟨hk4, ⟨rfl, hn4⟩ | ⟨v4, xs, b1, rfl, ⟨hro, hin⟩, hA4, hl4, hu4, hd4⟩⟩
  · go_simp
    exact ⟨rfl, HK1.out.trans hk4, .inl ⟨rfl, fun x r hx e => hn4 x r hx e⟩⟩
  obtain ⟨oa, oc, rfl⟩ := hro.slice
  have hw1 : w.heap.size < w1.heap.size := (Array.getElem?_eq_some_iff.1 HP1.out).1
  have hw4 : w1.heap.size ≤ w4.heap.size := hk4.size
  have HP4 : w4.heap[w.heap.size]? = some (.cells #[.slice none 0 0] 43 (0, 0)) := (hk4.block _ hw1 (by omega)).trans HP1.out
  have HK4 : Kp (fun q => q = p) w w4 := HK1.out.trans hk4
  have y0 := run_cell (j := 0) HP4 rfl
  have f0 := run_frozen (j := 0) HP4
  have hz : (w4.setCell ⟨w.heap.size, 0, none⟩ (.slice oa xs.length oc)).heap[w.heap.size]? = some (.cells #[.slice oa xs.length oc] 43 (0, 0)) := setCell_self _ HP4
  have z0 : (w4.setCell ⟨w.heap.size, 0, none⟩ (.slice oa xs.length oc)).cell? ⟨w.heap.size, 0, none⟩ = some (.slice oa xs.length oc) := run_cell hz rfl
  have HR9 : Hid (RowF 4 46 SymF (Nw w.heap.size (w4.setCell ⟨w.heap.size, 0, none⟩ (.slice oa xs.length oc)).heap.size) (.slice oa xs.length oc) xs (w4.setCell ⟨w.heap.size, 0, none⟩ (.slice oa xs.length oc))) := by
    have h3 := hro.ag stabSym ((Kp.store (F := fun q => q = w.heap.size) (w := w4) (o := 0) (u := .slice oa xs.length oc) rfl).ag (fun q hq e => by have := hq.1; omega))
    exact h3.up (fun q hq => ⟨by have := hq.1; omega, by have h4 := hq.2; simpa [World.setCell] using h4⟩)
  have HA9 : Hid (RdA p s b1 (w4.setCell ⟨w.heap.size, 0, none⟩ (.slice oa xs.length oc))) := (setCell_other _ (by omega)).trans hA4
  have HK9 : Hid (Kp (fun q => q = p) w (w4.setCell ⟨w.heap.size, 0, none⟩ (.slice oa xs.length oc))) := ⟨HK4.os, HK4.tape, HK4.output, by have := HK4.size; simpa [World.setCell] using this, fun j hj hF => (setCell_other _ (by omega)).trans (HK4.block j hj hF)⟩
  have HIn : Hid (∀ y ∈ xs, SyIn y) := hin
  have HT9 : Hid (a + listT symT xs < b1) := hl4
  have HD9 : Hid (∀ x r, ListP SymQ x → s.data.toList.drop a = altW x ++ r → xs = x ∧ b1 = a + (altW x).length) := fun x r hx e => hd4 x r hx e
  clear hz hro hin hd4 hk4 hl4 hA4 HK4 HP4
  go_wp2
  refine bodyPost_ret (by simp [results, Tryz.results42, go_sem, z0]; try rfl) rfl ?_
  exact ⟨HK9.out, .inr ⟨_, xs, b1, rfl, ⟨_, rfl, HR9.out, HIn.out⟩, HA9.out, HT9.out, hu4, HD9.out⟩⟩

end Go.Proofs.YtokidlklkgghkaaGreatDoor

namespace Go.Proofs.YtokidlklkgghkaaGreatDoor
open Go.RowKit
set_option linter.unusedVariables false

def RdAlts (xs : List (List SymD)) (v : Value) (w w' : World) : Prop := RowF 1 43 AltF (Nw w.heap.size w'.heap.size) v xs w' ∧ ∀ x ∈ xs, ∀ y ∈ x, SyIn y

set_option maxHeartbeats 3200000 in
set_option maxRecDepth 100000 in
theorem readAlts_any (p : Nat) (s : ByteArray) (a : Nat) (w : World) (hs : s.size ≤ 1048576) (ha : a ≤ s.size) (h : RdA p s a w) :
    Calls Tryz.prog 41 #[.pointer (some ⟨p, 0, none⟩), .func (.func 42) #[.pointer (some ⟨p, 0, none⟩)] #[]] w fun e w' =>
      RdOut (listW altW) (ListP (ListP SymQ)) (listT (listT symT)) RdAlts p s a w e w' := by
  obtain ⟨i0, hi, hz0, hz1, hz2⟩ := info_parts Tryz.infoAltR
  have hpw : p < w.heap.size := (Array.getElem?_eq_some_iff.1 h).1
  have bal : Below w.heap.size w (w.alloc (.cells #[] 43)) := (Below.refl _ _).alloc (Nat.le_refl _) _
  have HA1 : Hid (RdA p s a (w.alloc (.cells #[] 43))) := RdA.below h bal
  have HK1 : Hid (Kp (fun q => q = p) w (w.alloc (.cells #[] 43))) := Kp.below bal
  have HO1 : Hid (RowF 1 43 AltF (Nw w.heap.size (w.alloc (.cells #[] 43)).heap.size) (.slice (some ⟨w.heap.size, 0, none⟩) 0 0) ([] : List (List SymD)) (w.alloc (.cells #[] 43))) := RowF.madeR (World.ownsRow_made (base := w.heap.size) w #[] 0 (e := 43) (size := 1) (Nat.le_refl _) (by decide) rfl) ⟨Nat.le_refl _, by simp⟩
  clear h bal
  go_enter Tryz.func41, Tryz.ntmps41
  go_wp2_with fail
  generalize w.alloc (.cells #[] 43) = w1 at *
  refine (rdNumber_any p s a w1 hs ha HA1.out).mono ?_
  rintro e w2 ⟨hk2, ⟨rfl, hn2⟩ | ⟨v2, N, a1, rfl, ⟨rfl, hN⟩, hA2, hlt2, hle2, hd2⟩⟩
  · go_simp
    exact ⟨rfl, HK1.out.trans hk2, .inl ⟨rfl, fun ys r hp e => by
      rw [listW, List.append_assoc] at e
      exact hn2 _ _ hp.1 e⟩⟩
  have HA2 : Hid (RdA p s a1 w2) := hA2
  have HK2 : Hid (Kp (fun q => q = p) w w2) := HK1.out.trans hk2
  have HD2 : Hid (∀ x0 r, x0 ≤ 1000000000 → s.data.toList.drop a = varB x0 ++ r → N = x0 ∧ a1 = a + (varB x0).length) := hd2
  have HL2 : Hid (a < a1) := by have h0 : a + 0 < a1 := hlt2; exact h0
  have HO2 : Hid (RowF 1 43 AltF (Nw w.heap.size w2.heap.size) (.slice (some ⟨w.heap.size, 0, none⟩) 0 0) ([] : List (List SymD)) w2) := (HO1.out.ag stabAlt (hk2.ag (fun q hq e => by have := hq.1; omega))).up (fun q hq => ⟨hq.1, Nat.lt_of_lt_of_le hq.2 hk2.size⟩)
  clear hA2 hk2 hd2 hlt2
  go_wp2
  go_loopw [5, 9] (fun ov kv wr => ∃ (ts : List (List SymD)) (b : Nat), kv = .int .i64 (ts.length : Int) ∧ ts.length ≤ N ∧ RowF 1 43 AltF (Nw w.heap.size wr.heap.size) ov ts wr ∧ RdA p s b wr ∧ Kp (fun q => q = p) w wr ∧ LoopD altW (ListP SymQ) (listT symT) s a1 N ts b ∧ ∀ t ∈ ts, ∀ y ∈ t, SyIn y) (fun _ kv _ => N - (intOf kv).toNat)
  case atStart => exact ⟨[], a1, rfl, Nat.zero_le _, HO2.out, HA2.out, HK2.out, LoopD.start hle2, fun t ht => by cases ht⟩
  case round =>
    clear HO2 HA2 HK2
    obtain ⟨ts, b, rfl, hk, ho, hA, hK0, hL, hS⟩ := hrel
    obtain ⟨wk, rfl⟩ : ∃ W, W = wr := ⟨wr, rfl⟩
    obtain ⟨oa, oc, rfl⟩ := ho.slice
    have HO : Hid (RowF 1 43 AltF (Nw w.heap.size wk.heap.size) (.slice oa ts.length oc) ts wk) := ho
    have HA : Hid (RdA p s b wk) := hA
    have HK : Hid (Kp (fun q => q = p) w wk) := hK0
    have HL : Hid (LoopD altW (ListP SymQ) (listT symT) s a1 N ts b) := hL
    have HS : Hid (∀ t ∈ ts, ∀ y ∈ t, SyIn y) := hS
    have hws : w.heap.size ≤ wk.heap.size := hK0.size
    have htl : ts.length ≤ 1048576 := by
      have h1 := hL.low
      have h2 := hL.up
      have h3 : ∀ l : List (List SymD), l.length ≤ (l.map fun x => (listT symT) x + 1).sum := fun l => by
        induction l with
        | nil => simp
        | cons x l ih => simp only [List.length_cons, List.map_cons, List.sum_cons]; omega
      have h4 := h3 ts
      omega
    have hbu : b ≤ s.size := hL.up
    clear ho hA hK0 hL hS
    by_cases hlt : ts.length < N
    · have i4 : (ts.length : Int) < (N : Int) := by omega
      go_wp2_with fail
      refine (rdAlt_any p s b wk hs hbu HA.out).mono ?_
      rintro e w5 ⟨hk5, ⟨rfl, hn5⟩ | ⟨v5, t, b5, rfl, ⟨kv, rfl, hkz, ht5⟩, hA5, hlt5, hle5, hd5⟩⟩
      · go_simp
        exact ⟨rfl, HK.out.trans hk5, .inl ⟨rfl, fun ys r hp => HL.out.bad HD2.out hlt hn5 ys r hp⟩⟩
      have HN5 : Hid (LoopD altW (ListP SymQ) (listT symT) s a1 N (ts ++ [t]) b5) := HL.out.next hlt hlt5 hle5 hd5
      have HA5 : Hid (RdA p s b5 w5) := hA5
      have HK5 : Hid (Kp (fun q => q = p) w w5) := HK.out.trans hk5
      obtain ⟨cs, hcs, hAdd⟩ := (HO.out.ag stabAlt (hk5.ag (fun q hq e => by have := hq.1; omega))).add stabAlt hws hk5.size
      have HCs : Hid (w5.ownsRow 0 43 1 (.slice oa ts.length oc) ts.length cs) := hcs
      have HAdd : Hid (_) := hAdd
      have hne : ∀ q, (Value.slice oa ts.length oc).ownBlock = some q → w.heap.size ≤ q := fun q hq => (HO.out.lt q hq).1.1
      obtain ⟨ka, kc, rfl⟩ := hkz.slice
      have HE5 : Hid (AltF (Nw wk.heap.size w5.heap.size) w5 [.slice ka t.length kc] t) := ⟨_, rfl, hkz⟩
      have HS5 : Hid (∀ x ∈ ts ++ [t], ∀ y ∈ x, SyIn y) := fun x hx => by
        rcases List.mem_append.1 hx with hx | hx
        · exact HS.out x hx
        · rw [List.mem_singleton.1 hx]; exact ht5
      have hw5 : w.heap.size ≤ w5.heap.size := HK5.out.size
      clear hA5 hk5 hd5 hlt5 hle5 hcs hAdd hkz ht5
      go_wp2_with (at_builtin; refine wpList_append_own_at _ rfl _ _ 38 rfl 0 43 i0 _ 1 24 Tryz.underlying38 hi hz0 hz1 hz2 rfl (by decide) _ _ _ rfl (World.ownsRow.alloc HCs.out _) ⟨_, 0, none⟩ 1 1 [.slice ka t.length kc] rfl rfl (cellsR _ _ _) (by intro u hu; simp only [List.mem_cons, List.not_mem_nil, or_false] at hu; rcases hu with rfl; rfl) (by unfold maxLen; omega) (by omega) (Nat.zero_le _) ?_)
      intro v6 w6 hown6 hgr6 _ hat6
      obtain ⟨a6, k6, rfl⟩ := shapeR hown6
      have hs6 : w5.heap.size + 1 ≤ w6.heap.size := by have := hgr6.size; simpa using this
      have K6 : Hid (Kp (fun q => q = p) w w6) := ⟨hgr6.os.trans HK5.out.os, hgr6.tape.trans HK5.out.tape, hgr6.output.trans HK5.out.output, by omega, fun j hj hF => (hgr6.block j (by simp; omega) (fun e => by have := hne _ e.symm; omega)).trans ((Below.heap_alloc w5 _ j (by omega)).trans (HK5.out.block j hj hF))⟩
      have A6 : Hid (RdA p s b5 w6) := (hgr6.block p (by simp; omega) (fun e => by have := hne _ e.symm; omega)).trans ((Below.heap_alloc w5 _ p (by omega)).trans HA5.out)
      have O6 : Hid (RowF 1 43 AltF (Nw w.heap.size w6.heap.size) (.slice a6 (ts.length + 1) k6) (ts ++ [t]) w6) := HAdd.out w5 w6 _ _ _ t rfl (Below.refl _ _) HE5.out hown6 hgr6 (hatR hat6)
      clear hown6 hgr6 hat6
      go_wp2
      go_roundw
      case rel => exact ⟨ts ++ [t], b5, by rw [List.length_append, List.length_singleton]; go_num, by rw [List.length_append, List.length_singleton]; omega, O6.out, A6.out, K6.out, HN5.out, HS5.out⟩
      case measure => simp [intOf]; omega
    · obtain rfl : N = ts.length := by omega
      have i4 : ¬ (ts.length : Int) < (ts.length : Int) := by omega
      go_wp2
      go_ret
      obtain ⟨q1, q2, q3⟩ := HL.out.fin HL2.out HD2.out rfl
      exact ⟨HK.out, .inr ⟨_, ts, b, rfl, ⟨HO.out, HS.out⟩, HA.out, q1, q2, q3⟩⟩

end Go.Proofs.YtokidlklkgghkaaGreatDoor

