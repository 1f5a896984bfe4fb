/- A grammar that comes back from its bytes: what is sealed (pure). -/
/- The program reads a list (as E16SS). -/
/- The law on ShortText, walked out of contracts: it returns true at every text. -/
/- The program's byteWriter: number, short and single. -/
import Derived.Test.YtokidlklkgghkaaGreatDoorTurnPure
import Derived.Test.YtokidlklkgghkaaGreatDoorReadSpec
import Derived.Test.YtokidlklkgghkaaGreatDoorE16Q
import Derived.Test.YtokidlklkgghkaaGreatDoorEnvGet
import Derived.Lib.OthersKept
import Derived.Shelf.Strings.BuilderX
import Derived.WalkKit
namespace Go.Proofs.YtokidlklkgghkaaGreatDoor
open Go.RowKit
set_option linter.unusedVariables false

theorem gramO_len {g : List RuleD} (h : gramO g = true) : (gramW g).length + 4 ≤ 20000 := by
  rw [gramO, Bool.and_eq_true, decide_eq_true_eq] at h
  exact h.2
theorem gramT_of {g : List RuleD} (h : gramO g = true) : gramT g = sealB (gramW g) := by rw [gramT, if_pos h]; rfl
theorem gramT_un {g : List RuleD} {t : List UInt8} (h : gramO g = true) (e : gramT g = t) : unOk t = true ∧ gramW g = t.take (t.length - 4) := by
  have h1 := gramO_len h
  subst e
  rw [gramT_of h]
  refine ⟨unOk_seal _ (by omega), ?_⟩
  rw [sealB_len, show (gramW g).length + 4 - 4 = (gramW g).length by omega]
  simp [sealB]
/-- What is answered of a grammar's text. -/
def GrOut (t : List UInt8) (w : World) (e : Ending) (w' : World) : Prop := Below w.heap.size w w' ∧ ((∃ (g : List RuleD) (v : Value), gramO g = true ∧ gramT g = t ∧ listT ruleT16 g ≤ 20004 ∧ e = .returned (.tuple #[.agg #[v], .bool true]) ∧ RowF 3 40 RuleF (Nw w.heap.size w'.heap.size) v g w') ∨ ((∀ g, gramO g = true → gramT g ≠ t) ∧ e = .returned (.tuple #[.agg #[.slice none 0 0], .bool false])))
end Go.Proofs.YtokidlklkgghkaaGreatDoor

namespace Go.Proofs.YtokidlklkgghkaaGreatDoor
open Go.RowKit
set_option linter.unusedVariables false

def RdRules (xs : List (RuleD)) (v : Value) (w w' : World) : Prop := RowF 3 40 RuleF (Nw w.heap.size w'.heap.size) v xs w' ∧ ∀ x ∈ xs, RuIn x

set_option maxHeartbeats 3200000 in
set_option maxRecDepth 100000 in
theorem readRules_any (p : Nat) (s : ByteArray) (a : Nat) (w : World) (hs : s.size ≤ 1048576) (ha : a ≤ s.size) (h : RdA p s a w) :
    Calls Tryz.prog 17 #[.pointer (some ⟨p, 0, none⟩), .func (.func 18) #[.pointer (some ⟨p, 0, none⟩)] #[]] w fun e w' =>
      RdOut (listW ruleW) (ListP RuleQ) (listT ruleT16) RdRules p s a w e w' := by
  obtain ⟨i0, hi, hz0, hz1, hz2⟩ := info_parts Tryz.infoRuleR
  have hpw : p < w.heap.size := (Array.getElem?_eq_some_iff.1 h).1
  have bal : Below w.heap.size w (w.alloc (.cells #[] 40)) := (Below.refl _ _).alloc (Nat.le_refl _) _
  have HA1 : Hid (RdA p s a (w.alloc (.cells #[] 40))) := RdA.below h bal
  have HK1 : Hid (Kp (fun q => q = p) w (w.alloc (.cells #[] 40))) := Kp.below bal
  have HO1 : Hid (RowF 3 40 RuleF (Nw w.heap.size (w.alloc (.cells #[] 40)).heap.size) (.slice (some ⟨w.heap.size, 0, none⟩) 0 0) ([] : List (RuleD)) (w.alloc (.cells #[] 40))) := RowF.madeR (World.ownsRow_made (base := w.heap.size) w #[] 0 (e := 40) (size := 3) (Nat.le_refl _) (by decide) rfl) ⟨Nat.le_refl _, by simp⟩
  clear h bal
  go_enter Tryz.func17, Tryz.ntmps17
  go_wp2_with fail
  generalize w.alloc (.cells #[] 40) = w1 at *
  refine (rdNumber_any p s a w1 hs ha HA1.out).mono ?_
  rintro e w2 ⟨hk2, ⟨rfl, hn2⟩ | ⟨v2, N, a1, rfl, ⟨rfl, hN⟩, hA2, hlt2, hle2, hd2⟩⟩
  · go_simp
    exact ⟨rfl, HK1.out.trans hk2, .inl ⟨rfl, fun ys r hp e => by
      rw [listW, List.append_assoc] at e
      exact hn2 _ _ hp.1 e⟩⟩
  have HA2 : Hid (RdA p s a1 w2) := hA2
  have HK2 : Hid (Kp (fun q => q = p) w w2) := HK1.out.trans hk2
  have HD2 : Hid (∀ x0 r, x0 ≤ 1000000000 → s.data.toList.drop a = varB x0 ++ r → N = x0 ∧ a1 = a + (varB x0).length) := hd2
  have HL2 : Hid (a < a1) := by have h0 : a + 0 < a1 := hlt2; exact h0
  have HO2 : Hid (RowF 3 40 RuleF (Nw w.heap.size w2.heap.size) (.slice (some ⟨w.heap.size, 0, none⟩) 0 0) ([] : List (RuleD)) w2) := (HO1.out.ag stabRule (hk2.ag (fun q hq e => by have := hq.1; omega))).up (fun q hq => ⟨hq.1, Nat.lt_of_lt_of_le hq.2 hk2.size⟩)
  clear hA2 hk2 hd2 hlt2
  go_wp2
  go_loopw [5, 9] (fun ov kv wr => ∃ (ts : List (RuleD)) (b : Nat), kv = .int .i64 (ts.length : Int) ∧ ts.length ≤ N ∧ RowF 3 40 RuleF (Nw w.heap.size wr.heap.size) ov ts wr ∧ RdA p s b wr ∧ Kp (fun q => q = p) w wr ∧ LoopD ruleW RuleQ ruleT16 s a1 N ts b ∧ ∀ t ∈ ts, RuIn t) (fun _ kv _ => N - (intOf kv).toNat)
  case atStart => exact ⟨[], a1, rfl, Nat.zero_le _, HO2.out, HA2.out, HK2.out, LoopD.start hle2, fun t ht => by cases ht⟩
  case round =>
    clear HO2 HA2 HK2
    obtain ⟨ts, b, rfl, hk, ho, hA, hK0, hL, hS⟩ := hrel
    obtain ⟨wk, rfl⟩ : ∃ W, W = wr := ⟨wr, rfl⟩
    obtain ⟨oa, oc, rfl⟩ := ho.slice
    have HO : Hid (RowF 3 40 RuleF (Nw w.heap.size wk.heap.size) (.slice oa ts.length oc) ts wk) := ho
    have HA : Hid (RdA p s b wk) := hA
    have HK : Hid (Kp (fun q => q = p) w wk) := hK0
    have HL : Hid (LoopD ruleW RuleQ ruleT16 s a1 N ts b) := hL
    have HS : Hid (∀ t ∈ ts, RuIn t) := hS
    have hws : w.heap.size ≤ wk.heap.size := hK0.size
    have htl : ts.length ≤ 1048576 := by
      have h1 := hL.low
      have h2 := hL.up
      have h3 : ∀ l : List (RuleD), l.length ≤ (l.map fun x => ruleT16 x + 1).sum := fun l => by
        induction l with
        | nil => simp
        | cons x l ih => simp only [List.length_cons, List.map_cons, List.sum_cons]; omega
      have h4 := h3 ts
      omega
    have hbu : b ≤ s.size := hL.up
    clear ho hA hK0 hL hS
    by_cases hlt : ts.length < N
    · have i4 : (ts.length : Int) < (N : Int) := by omega
      go_wp2_with fail
      refine (rdRule_any p s b wk hs hbu HA.out).mono ?_
      rintro e w5 ⟨hk5, ⟨rfl, hn5⟩ | ⟨v5, t, b5, rfl, ⟨pv, av, rfl, hkz, ht5⟩, hA5, hlt5, hle5, hd5⟩⟩
      · go_simp
        exact ⟨rfl, HK.out.trans hk5, .inl ⟨rfl, fun ys r hp => HL.out.bad HD2.out hlt hn5 ys r hp⟩⟩
      have HN5 : Hid (LoopD ruleW RuleQ ruleT16 s a1 N (ts ++ [t]) b5) := HL.out.next hlt hlt5 hle5 hd5
      have HA5 : Hid (RdA p s b5 w5) := hA5
      have HK5 : Hid (Kp (fun q => q = p) w w5) := HK.out.trans hk5
      obtain ⟨cs, hcs, hAdd⟩ := (HO.out.ag stabRule (hk5.ag (fun q hq e => by have := hq.1; omega))).add stabRule hws hk5.size
      have HCs : Hid (w5.ownsRow 0 40 3 (.slice oa ts.length oc) ts.length cs) := hcs
      have HAdd : Hid (_) := hAdd
      have hne : ∀ q, (Value.slice oa ts.length oc).ownBlock = some q → w.heap.size ≤ q := fun q hq => (HO.out.lt q hq).1.1
      obtain ⟨u1, u2, Fp, Fa, heq, hq1, hq2, hq3, hq4, hq5, hq6⟩ := hkz
      cases heq
      obtain ⟨ka, kc, rfl⟩ := hq1.row.slice
      obtain ⟨kb, kd, rfl⟩ := hq3.slice
      have HE5 : Hid (RuleF (Nw wk.heap.size w5.heap.size) w5 [.string t.name, .slice ka t.params.length kc, .slice kb t.alts.length kd] t) := ⟨_, _, Fp, Fa, rfl, hq1, hq2, hq3, hq4, hq5, hq6⟩
      have HS5 : Hid (∀ x ∈ ts ++ [t], RuIn x) := fun x hx => by
        rcases List.mem_append.1 hx with hx | hx
        · exact HS.out x hx
        · rw [List.mem_singleton.1 hx]; exact ht5
      have hw5 : w.heap.size ≤ w5.heap.size := HK5.out.size
      clear hA5 hk5 hd5 hlt5 hle5 hcs hAdd ht5
      go_wp2_with (at_builtin; refine wpList_append_own_at _ rfl _ _ 22 rfl 0 40 i0 _ 3 64 Tryz.underlying22 hi hz0 hz1 hz2 rfl (by decide) _ _ _ rfl (World.ownsRow.alloc HCs.out _) ⟨_, 0, none⟩ 1 1 [.string t.name, .slice ka t.params.length kc, .slice kb t.alts.length kd] rfl rfl (cellsR _ _ _) (by intro u hu; simp only [List.mem_cons, List.not_mem_nil, or_false] at hu; rcases hu with rfl | rfl | rfl <;> rfl) (by unfold maxLen; omega) (by omega) (Nat.zero_le _) ?_)
      intro v6 w6 hown6 hgr6 _ hat6
      obtain ⟨a6, k6, rfl⟩ := shapeR hown6
      have hs6 : w5.heap.size + 1 ≤ w6.heap.size := by have := hgr6.size; simpa using this
      have K6 : Hid (Kp (fun q => q = p) w w6) := ⟨hgr6.os.trans HK5.out.os, hgr6.tape.trans HK5.out.tape, hgr6.output.trans HK5.out.output, by omega, fun j hj hF => (hgr6.block j (by simp; omega) (fun e => by have := hne _ e.symm; omega)).trans ((Below.heap_alloc w5 _ j (by omega)).trans (HK5.out.block j hj hF))⟩
      have A6 : Hid (RdA p s b5 w6) := (hgr6.block p (by simp; omega) (fun e => by have := hne _ e.symm; omega)).trans ((Below.heap_alloc w5 _ p (by omega)).trans HA5.out)
      have O6 : Hid (RowF 3 40 RuleF (Nw w.heap.size w6.heap.size) (.slice a6 (ts.length + 1) k6) (ts ++ [t]) w6) := HAdd.out w5 w6 _ _ _ t rfl (Below.refl _ _) HE5.out hown6 hgr6 (hatR hat6)
      clear hown6 hgr6 hat6
      go_wp2
      go_roundw
      case rel => exact ⟨ts ++ [t], b5, by rw [List.length_append, List.length_singleton]; go_num, by rw [List.length_append, List.length_singleton]; omega, O6.out, A6.out, K6.out, HN5.out, HS5.out⟩
      case measure => simp [intOf]; omega
    · obtain rfl : N = ts.length := by omega
      have i4 : ¬ (ts.length : Int) < (ts.length : Int) := by omega
      go_wp2
      go_ret
      obtain ⟨q1, q2, q3⟩ := HL.out.fin HL2.out HD2.out rfl
      exact ⟨HK.out, .inr ⟨_, ts, b, rfl, ⟨HO.out, HS.out⟩, HA.out, q1, q2, q3⟩⟩

end Go.Proofs.YtokidlklkgghkaaGreatDoor

namespace Go.Proofs.YtokidlklkgghkaaGreatDoor
open Go.RowKit

theorem implShort_yes (s : ByteArray) (w : World) (hs : s.size ≤ 20000) :
    Calls Tryz.prog 88 #[.string s] w fun e w' => e = .returned (.tuple #[.string (str (varB s.size) ++ s), .bool true]) ∧ Below w.heap.size w w' := by
  have hv := varB_len s.size
  have hz := str_size (varB s.size)
  have hadd := fun W => run_string_add_sum (P := Tryz.prog) (w := W) (str (varB s.size)) s (by omega)
  clear hz hv
  go_enter Tryz.func88, Tryz.ntmps88
  go_wp2_with (go_at_call 87; refine (implVar_yes _ _ (by omega)).mono ?_; rintro e w1 ⟨rfl, hb1⟩)
  go_ret2
  exact ⟨rfl, hb1⟩

end Go.Proofs.YtokidlklkgghkaaGreatDoor

namespace Go.Proofs.YtokidlklkgghkaaGreatDoor
open Go.RowKit
set_option linter.unusedVariables false

/-- A writer that has written l, its row above B. -/
def WrB (B b : Nat) (l : List UInt8) (w : World) : Prop :=
  B ≤ b ∧ ∃ v, w.heap[b]? = some (.cells #[v] 82 (0, 0)) ∧ w.ownsRow B 5 1 v l.length (bv l)
/-- What a call of a writer's method leaves. -/
def WrO (B b : Nat) (l : List UInt8) (w : World) (e : Ending) (w' : World) : Prop :=
  e = .returned (.tuple #[]) ∧ WrB B b l w' ∧ Below B w w' ∧ Lib.OthersKept 5 (some b) w w'

theorem wr_types : 82 ≠ 5 := by decide
theorem wrByte : (Tryz.prog.info? 5).map (fun i => (i.zero, i.size, i.bytes)) = some (some (.int .u8 0), 1, 1) := by kernel_rfl
theorem WrB.lt {B b : Nat} {l : List UInt8} {w : World} (h : WrB B b l w) : b < w.heap.size := by
  obtain ⟨_, v, hb, _⟩ := h
  exact (Array.getElem?_eq_some_iff.1 hb).1
theorem strCells_str (l : List UInt8) : Lib.strCells (str l) = bv l := by rw [Lib.strCells, str_list]; rfl
theorem WrB.put {B b : Nat} {l : List UInt8} {v v' : Value} {w : World} (hB : B ≤ b) (hb : w.heap[b]? = some (.cells #[v] 82 (0, 0))) (hown : w.ownsRow B 5 1 v' l.length (bv l)) : WrB B b l (w.setCell ⟨b, 0, none⟩ v') := by
  have hne := Lib.ownBlock_ne hown hb wr_types
  refine ⟨hB, v', ?_, ?_⟩
  · simp [World.setCell, Array.getElem?_modify, hb]
  · exact hown.kept (row := some b) ⟨rfl, rfl, rfl, by simp [World.setCell], fun k _ hk => Below.heap_setCell _ _ _ _ (fun e => hk (by simp [e]))⟩ (Or.inr hne)
theorem own_bel16 {B : Nat} {e : TypeId} {k : Nat} {v : Value} {n : Nat} {xs : List Value} {w w' : World} (h : w.ownsRow B e k v n xs) (hb : Below w.heap.size w w') : w'.ownsRow B e k v n xs := by
  refine ⟨h.1, ?_⟩
  rcases h.2 with h0 | ⟨g, cap, cur, rfl, hg, hh, hr⟩
  · exact .inl h0
  · exact .inr ⟨g, cap, cur, rfl, hg, by rw [hb.block g (Array.getElem?_eq_some_iff.1 hh).1]; exact hh, hr⟩
theorem str_add16 (a b : List UInt8) : str a ++ str b = str (a ++ b) := by
  apply ByteArray.ext
  simp [str]
theorem str_self16 (s : ByteArray) : str s.data.toList = s := by
  apply ByteArray.ext
  simp [str]
theorem WrB.below {B b : Nat} {l : List UInt8} {w w' : World} (h : WrB B b l w) (hb : Below w.heap.size w w') : WrB B b l w' := by
  obtain ⟨hB, v, hv, hown⟩ := h
  exact ⟨hB, v, by rw [hb.block b (Array.getElem?_eq_some_iff.1 hv).1]; exact hv, own_bel16 hown hb⟩
theorem okept_below {e : TypeId} {b : Option Nat} {w w' : World} (hb : Below w.heap.size w w') : Lib.OthersKept e b w w' := fun k o hk _ _ => by
  rw [hb.block k (Array.getElem?_eq_some_iff.1 hk).1]; exact hk
/-- A cell of a block that is neither the writer nor a row of bytes. -/
theorem okept_cell {b k : Nat} {cs : Array Value} {T : TypeId} {fz : Nat × Nat} {w w' : World} (h : Lib.OthersKept 5 (some b) w w') (hk : w.heap[k]? = some (.cells cs T fz)) (hkb : k ≠ b) (hT : T ≠ 5) : w'.heap[k]? = some (.cells cs T fz) :=
  h k _ hk (by simpa using hkb) fun c f he => hT (by injection he)

set_option maxHeartbeats 2000000 in
theorem wrPut_any (B b : Nat) (l m : List UInt8) (w w1 : World) (v v' : Value) (hB : B ≤ b) (hBw : B ≤ w1.heap.size) (hv : w1.heap[b]? = some (.cells #[v] 82 (0, 0))) (hown : w1.ownsRow B 5 1 v l.length (bv l))
    (w2 : World) (hown' : w2.ownsRow B 5 1 v' (l ++ m).length (bv (l ++ m))) (hgrow : w1.grownBy w2 v.ownBlock) (hb1 : Below B w w1) (hk1 : Lib.OthersKept 5 (some b) w w1) :
    w2.heap[b]? = some (.cells #[v] 82 (0, 0)) ∧ WrO B b (l ++ m) w (.returned (.tuple #[])) (w2.setCell ⟨b, 0, none⟩ v') := by
  have hlt : b < w1.heap.size := (Array.getElem?_eq_some_iff.1 hv).1
  have hne := Lib.ownBlock_ne hown hv wr_types
  have hb2 : w2.heap[b]? = some (.cells #[v] 82 (0, 0)) := by
    rw [hgrow.block b hlt (fun e => hne e.symm)]
    exact hv
  refine ⟨hb2, rfl, WrB.put hB hb2 hown', ?_, (hk1.grown hgrow (Lib.ownsRowF_kind (World.ownsRowF_of hown))).setCell ⟨b, 0, none⟩ rfl _⟩
  exact (hb1.grown hgrow hBw (fun k hk => (hown.lt k hk).1)).setCell (p := ⟨b, 0, none⟩) hB _

set_option maxHeartbeats 2000000 in
theorem wrNumber_any (B b : Nat) (l : List UInt8) (n : Nat) (w : World) (h : WrB B b l w) (hn : n ≤ 1000000000) (hlen : l.length ≤ 1000000000) (hBw : B ≤ w.heap.size) :
    Calls Tryz.prog 68 #[.pointer (some ⟨b, 0, none⟩), .int .i64 n] w fun e w' => WrO B b (l ++ varB n) w e w' := by
  obtain ⟨i0, hi, hz0, hz1, hz2⟩ := info_parts wrByte
  have hvl := varB_len n
  have HW : Hid (WrB B b l w) := h
  clear h
  go_enter Tryz.func68, Tryz.ntmps68
  go_wp2_with fail
  refine (implVar_yes n w hn).mono ?_
  rintro e w1 ⟨rfl, hb1⟩
  obtain ⟨hB, v, hv, hown⟩ := HW.out.below hb1
  have hlt : b < w1.heap.size := (Array.getElem?_eq_some_iff.1 hv).1
  have c0 : w1.cell? ⟨b, 0, none⟩ = some v := by rw [Lib.cell_of_heap hv]; rfl
  go_wp2_with (at_builtin; refine Lib.wpList_append_own_string _ rfl _ _ 72 9 rfl B 5 i0 Tryz.underlying72 Tryz.underlying9 hi hz0 hz1 hz2 _ _ _ rfl hown (str (varB n)) rfl ?c3 ?c4 ?c5 ?_)
  case c3 => rw [str_size]; unfold maxLen; omega
  case c4 => rw [str_size]; omega
  case c5 => have := hb1.size; omega
  intro v' w2 hown' hgrow _
  rw [strCells_str, str_size, ← bv_app, ← List.length_append] at hown'
  have hP := wrPut_any B b l (varB n) w w1 v v' hB (by have := hb1.size; omega) hv hown w2 hown' hgrow (hb1.mono hBw) (okept_below hb1)
  have d0 : w2.cell? ⟨b, 0, none⟩ = some v := by rw [Lib.cell_of_heap hP.1]; rfl
  have f0 : w2.frozen? ⟨b, 0, none⟩ = false := Lib.frozen_of_heap hP.1 0
  obtain ⟨ao, n', cap, rfl⟩ : ∃ ao n' cap, v' = .slice ao n' cap := by
    rcases hown'.2 with ⟨hv, _⟩ | ⟨g, cap, cur, hv, _⟩
    · exact ⟨_, _, _, hv⟩
    · exact ⟨_, _, _, hv⟩
  have HP : Hid (WrO B b (l ++ varB n) w (.returned (.tuple #[])) (w2.setCell ⟨b, 0, none⟩ (.slice ao n' cap))) := hP.2
  clear hP hown hown' hgrow hb1 hv hlt
  go_wp2
  go_end0
  exact HP.out

set_option maxHeartbeats 2000000 in
theorem wrShort_any (B b : Nat) (l : List UInt8) (s : ByteArray) (w : World) (h : WrB B b l w) (hn : s.size ≤ 20000) (hlen : l.length ≤ 1000000000) (hBw : B ≤ w.heap.size) :
    Calls Tryz.prog 69 #[.pointer (some ⟨b, 0, none⟩), .string s] w fun e w' => WrO B b (l ++ shortW s) w e w' := by
  obtain ⟨i0, hi, hz0, hz1, hz2⟩ := info_parts wrByte
  have hvl : (shortW s).length ≤ 50000 := by
    have := varB_len s.size
    rw [shortW, List.length_append]
    simp
    omega
  have HS : Hid (str (varB s.size) ++ s = str (shortW s)) := by
    rw [Hid, shortW, ← str_add16, str_self16]
  have HW : Hid (WrB B b l w) := h
  clear h
  go_enter Tryz.func69, Tryz.ntmps69
  go_wp2_with fail
  refine (implShort_yes s w hn).mono ?_
  rintro e w1 ⟨rfl, hb1⟩
  rw [HS.out]
  obtain ⟨hB, v, hv, hown⟩ := HW.out.below hb1
  have hlt : b < w1.heap.size := (Array.getElem?_eq_some_iff.1 hv).1
  have c0 : w1.cell? ⟨b, 0, none⟩ = some v := by rw [Lib.cell_of_heap hv]; rfl
  go_wp2_with (at_builtin; refine Lib.wpList_append_own_string _ rfl _ _ 72 9 rfl B 5 i0 Tryz.underlying72 Tryz.underlying9 hi hz0 hz1 hz2 _ _ _ rfl hown (str (shortW s)) rfl ?c3 ?c4 ?c5 ?_)
  case c3 => rw [str_size]; unfold maxLen; omega
  case c4 => rw [str_size]; omega
  case c5 => have := hb1.size; omega
  intro v' w2 hown' hgrow _
  rw [strCells_str, str_size, ← bv_app, ← List.length_append] at hown'
  have hP := wrPut_any B b l (shortW s) w w1 v v' hB (by have := hb1.size; omega) hv hown w2 hown' hgrow (hb1.mono hBw) (okept_below hb1)
  have d0 : w2.cell? ⟨b, 0, none⟩ = some v := by rw [Lib.cell_of_heap hP.1]; rfl
  have f0 : w2.frozen? ⟨b, 0, none⟩ = false := Lib.frozen_of_heap hP.1 0
  obtain ⟨ao, n', cap, rfl⟩ : ∃ ao n' cap, v' = .slice ao n' cap := by
    rcases hown'.2 with ⟨hv, _⟩ | ⟨g, cap, cur, hv, _⟩
    · exact ⟨_, _, _, hv⟩
    · exact ⟨_, _, _, hv⟩
  have HP : Hid (WrO B b (l ++ shortW s) w (.returned (.tuple #[])) (w2.setCell ⟨b, 0, none⟩ (.slice ao n' cap))) := hP.2
  clear hP hown hown' hgrow hb1 hv hlt HS
  go_wp2
  go_end0
  exact HP.out

set_option maxHeartbeats 2000000 in
set_option maxRecDepth 100000 in
theorem wrSingle_any (B b : Nat) (l : List UInt8) (nv : Value) (ks : List Int) (w : World) (h : WrB B b l w) (hR : ∀ W, Below B w W → Lib.OthersKept 5 (some b) w W → IRow W nv ks) (hk : ∀ k ∈ ks, 0 ≤ k ∧ k ≤ 127) (hks : ks.length ≤ 1000) (hlen : l.length ≤ 1000000000) (hBw : B ≤ w.heap.size) :
    Calls Tryz.prog 107 #[.pointer (some ⟨b, 0, none⟩), nv] w fun e w' => WrO B b (l ++ ks.map byteW) w e w' := by
  obtain ⟨i0, hi, hz0, hz1, hz2⟩ := info_parts wrByte
  have HRR : Hid (∀ W, Below B w W → Lib.OthersKept 5 (some b) w W → IRow W nv ks) := hR
  obtain ⟨na, nc, rfl⟩ := (hR w (Below.refl _ _) (Lib.OthersKept.refl _ _ _)).slice
  have HW : Hid (WrB B b l w) := h
  have HK : Hid (∀ k ∈ ks, 0 ≤ k ∧ k ≤ 127) := hk
  clear h hR hk
  go_enter Tryz.func107, Tryz.ntmps107
  go_wp2
  go_loopw [8] (fun iv wr => ∃ k : Nat, iv = .int .i64 k ∧ k ≤ ks.length ∧ WrO B b (l ++ (ks.take k).map byteW) w (.returned (.tuple #[])) wr) (fun iv _ => ks.length - (intOf iv).toNat)
  case atStart => exact ⟨0, rfl, Nat.zero_le _, rfl, by rw [List.take_zero, List.map_nil, List.append_nil]; exact HW.out, Below.refl _ _, Lib.OthersKept.refl _ _ _⟩
  case round =>
    obtain ⟨k, rfl, hkl, ho⟩ := hrel
    have HO : Hid (WrO B b (l ++ (ks.take k).map byteW) w (.returned (.tuple #[])) wr) := ho
    clear ho
    by_cases hlt : k < ks.length
    · obtain ⟨g, off, rfl, hc⟩ := (HRR.out wr HO.out.2.2.1 HO.out.2.2.2).at hlt
      have i4 : (k : Int) < (ks.length : Int) := by omega
      have hb := HK.out ks[k] (List.getElem_mem hlt)
      have HN : Hid (l ++ (ks.take (k + 1)).map byteW = (l ++ (ks.take k).map byteW) ++ [byteW ks[k]]) := by
        rw [Hid, List.take_succ_eq_append_getElem hlt, List.map_append, List.map_cons, List.map_nil, List.append_assoc]
      have hll : (l ++ (ks.take k).map byteW).length ≤ 1000001000 := by
        rw [List.length_append, List.length_map, List.length_take]
        omega
      have HBy : Hid (((byteW ks[k]).toNat : Int) = ks[k]) := byteW_int hb
      have hw8 : IntKind.u8.wrap ks[k] = ks[k] := by rw [IntKind.wrap_u8]; omega
      generalize ks[k] = y at *
      generalize l ++ (ks.take k).map byteW = pre at *
      obtain ⟨hB, v, hv, hown⟩ := HO.out.2.1
      have c0 : wr.cell? ⟨b, 0, none⟩ = some v := by rw [Lib.cell_of_heap hv]; rfl
      go_wp2_with (at_builtin; refine wpList_append_own _ rfl _ _ 72 rfl B 5 i0 (.int .u8 0) 1 1 Tryz.underlying72 hi hz0 hz1 hz2 rfl (by decide) _ _ _ rfl (hown.alloc _) ⟨wr.heap.size, 0, none⟩ 1 1 [.int .u8 y] rfl rfl (one_at _ _ _) (one_cell _ _) (by unfold maxLen; omega) (by omega) ?c5 ?_)
      case c5 => have := HO.out.2.2.1.size; simp; omega
      intro v' w2 hown' hgrow _
      have hv2 : (wr.alloc (.cells #[.int .u8 y] 5)).heap[b]? = some (.cells #[v] 82 (0, 0)) := by
        rw [Lib.alloc_old wr _ b (Array.getElem?_eq_some_iff.1 hv).1]; exact hv
      have hown2 : w2.ownsRow B 5 1 v' (pre ++ [byteW y]).length (bv (pre ++ [byteW y])) := by
        rw [bv_app, bv_one, HBy.out, List.length_append]
        simpa using hown'
      have hsz := HO.out.2.2.1.size
      have hP := wrPut_any B b pre [byteW y] w (wr.alloc (.cells #[.int .u8 y] 5)) v v' hB (by simp; omega) hv2 (hown.alloc _) w2 hown2 hgrow (HO.out.2.2.1.alloc (by omega) _) (HO.out.2.2.2.alloc _)
      have d0 : w2.cell? ⟨b, 0, none⟩ = some v := by rw [Lib.cell_of_heap hP.1]; rfl
      have f0 : w2.frozen? ⟨b, 0, none⟩ = false := Lib.frozen_of_heap hP.1 0
      obtain ⟨ao, n', cap, rfl⟩ : ∃ ao n' cap, v' = .slice ao n' cap := by
        rcases hown'.2 with ⟨hv, _⟩ | ⟨g, cap, cur, hv, _⟩
        · exact ⟨_, _, _, hv⟩
        · exact ⟨_, _, _, hv⟩
      have HP : Hid (WrO B b (pre ++ [byteW y]) w (.returned (.tuple #[])) (w2.setCell ⟨b, 0, none⟩ (.slice ao n' cap))) := hP.2
      clear hP hown hown' hown2 hgrow hv hv2 hc c0 hb
      go_wp2
      go_roundw
      case rel => exact ⟨k + 1, by go_num, by omega, by rw [HN.out]; exact HP.out⟩
      case measure => simp [intOf]; omega
    · obtain rfl : k = ks.length := by omega
      rw [List.take_length] at HO
      go_wp2
      go_end0
      exact HO.out

end Go.Proofs.YtokidlklkgghkaaGreatDoor
