/- The specification's ReadGrammar (printed by mk/s16e.py). -/
import Derived.Test.YtokidlklkgghkaaGreatDoorS16D
import Derived.Test.YtokidlklkgghkaaGreatDoorE16W
import Derived.Test.YtokidlklkgghkaaGreatDoorE16GS
import Derived.Deep.CutBlock
namespace Go.Proofs.YtokidlklkgghkaaGreatDoor
open Go.RowKit
set_option linter.unusedVariables false

def RuleC (x : RuleD) : Prop := x.name.size ≤ 20000 ∧ ListC 10 (fun t => t.size ≤ 20000) x.params ∧ ListC 10 (ListC 10 SymC) x.alts
theorem rule_fd {s : ByteArray} {a b1 b2 b3 : Nat} {nm : ByteArray} {ps : List ByteArray} {ls : List (List SymD)} {f0 g1 g2 g3 : Bool} (h1 : Fd shortW (fun t => t.size ≤ 20000) ByteArray.size 0 s a f0 nm b1 g1)
    (h2 : Fd (listW shortW) (ListC 10 (fun t => t.size ≤ 20000)) (listT ByteArray.size) 1 s b1 g1 ps b2 g2) (h3 : Fd (listW altW) (ListC 10 (ListC 10 SymC)) (listT (listT symT)) 6 s b2 g2 ls b3 g3) : Fd ruleW RuleC ruleT16 6 s a f0 ⟨nm, ps, ls⟩ b3 g3 :=
  (h1.pair (h2.pair h3)).as (by show nm.size + listT ByteArray.size ps + listT (listT symT) ls = nm.size + (listT ByteArray.size ps + listT (listT symT) ls); omega) (by decide) (fun y0 hy => ⟨(y0.name, y0.params, y0.alts), ⟨hy.1, hy.2.1, hy.2.2⟩, rfl, fun e => by
    cases y0
    cases e
    rfl⟩)
theorem gram_C {g : List RuleD} (h : gramB g = true) : ListC 40 RuleC g := by
  have hp : ∀ r ∈ g, r.params.length ≤ 6 := fun r hr => by
    have h2 := gram_rule h r hr
    rw [ruleB, Bool.and_eq_true, Bool.and_eq_true, Bool.and_eq_true] at h2
    have h3 := h2.1.1.2
    rw [paramsB, Bool.and_eq_true, decide_eq_true_eq] at h3
    exact h3.2
  refine ⟨?_, fun r hr => ?_⟩
  · rw [gramB, Bool.and_eq_true, Bool.and_eq_true, decide_eq_true_eq] at h
    have := h.1.1.2
    omega
  have hz := gram_z h r hr
  have h2 := gram_rule h r hr
  rw [ruleB, Bool.and_eq_true, Bool.and_eq_true] at h2
  have h4 := h2.1.2
  rw [decide_eq_true_eq] at h4
  have h5 := hp r hr
  refine ⟨by have := hz.name; omega, ⟨by omega, fun t ht => by have := hz.params t ht; omega⟩, by omega, fun a ha => ?_⟩
  have h3 := List.all_eq_true.1 h2.2 a ha
  rw [altB, Bool.and_eq_true, decide_eq_true_eq] at h3
  refine ⟨by omega, fun s hs => ?_⟩
  have hs1 := hz.alts a ha s hs
  have h6 := symsF_n hp a _ h3.2 s hs
  exact ⟨⟨by have := hs1.k.1; omega, by have := hs1.k.1; omega⟩, by have := hs1.text; omega, by have := hs1.bind; omega, by omega, hs1.k.2⟩
theorem us_parts (l : List UInt8) : ∃ (tx : ByteArray) (ok : Bool), usVal l = .tuple #[.string tx, .bool ok] ∧ tx.size ≤ 20000 ∧ (ok = true → ∀ g, gramO g = true → gramT g = l → tx.data.toList = listW ruleW g) ∧ (ok = false → ∀ g, gramO g = true → gramT g ≠ l) := by
  cases hu : unOk l with
  | false => exact ⟨_, _, usVal_no hu, by decide, fun e => (by cases e), fun _ g hg e => by have h1 := (gramT_un hg e).1; rw [hu] at h1; cases h1⟩
  | true =>
    refine ⟨_, _, usVal_yes hu, ?_, fun _ g hg e => ?_, fun e => (by cases e)⟩
    · have hlu := (unOk_iff _).1 hu
      rw [str_size, List.length_take]
      omega
    · rw [str_list, ← (gramT_un hg e).2]; rfl
/-- What is answered behind the reading. -/
theorem rd_answer {l : List UInt8} {tx : ByteArray} {ok : Bool} {xs : List RuleD} {b : Nat} {g : Bool} (hy : ok = true → ∀ g, gramO g = true → gramT g = l → tx.data.toList = listW ruleW g) (hn : ok = false → ∀ g, gramO g = true → gramT g ≠ l) (h : Fd (listW ruleW) (ListC 40 RuleC) (listT ruleT16) 7 tx 0 (!ok) xs b g) :
    (g = true → ∀ x, gramO x = true → gramT x ≠ l) ∧ (g = false → ∀ x, gramO x = true → gramT x = l → xs = x) := by
  refine ⟨fun e x hx e1 => ?_, fun e x hx e1 => ?_⟩
  · cases hk : ok with
    | false => exact hn hk x hx e1
    | true => exact h.no (by rw [hk]; rfl) e x [] (gram_C (gramO_b hx)) (by rw [List.drop_zero, List.append_nil]; exact hy hk x hx e1)
  · have hk : ok = true := by
      have h1 := h.flag e
      rwa [Bool.not_eq_false'] at h1
    exact (h.yes e x [] (gram_C (gramO_b hx)) (by rw [List.drop_zero, List.append_nil]; exact hy hk x hx e1)).1

set_option maxHeartbeats 12800000 in
set_option maxRecDepth 100000 in
theorem specReadGrammar_any (s : ByteArray) (w : World) (hs : s.size ≤ 1048576) : Calls Tryz.prog 4 #[.string s] w fun e w' => GrOut s.data.toList w e w' := by
  obtain ⟨i0, hi, hz0, hz1, hz2⟩ := info_parts Tryz.infoRuleR
  obtain ⟨j0, ji, jz0, jz1, jz2⟩ := info_parts Tryz.infoStrR
  obtain ⟨k0, ki, kz0, kz1, kz2⟩ := info_parts Tryz.infoAltR
  obtain ⟨l0, li, lz0, lz1, lz2⟩ := info_parts Tryz.infoSymR
  obtain ⟨tx, ok, hus, htx, hyes0, hno0⟩ := us_parts s.data.toList
  have HUn : Hid (∀ W, _) := fun W => specUnsealed_any s W hs
  rw [hus] at HUn
  have HYes : Hid (ok = true → ∀ g, gramO g = true → gramT g = s.data.toList → tx.data.toList = listW ruleW g) := hyes0
  have HNo : Hid (ok = false → ∀ g, gramO g = true → gramT g ≠ s.data.toList) := hno0
  have HTx : Hid (tx.size ≤ 20000) := htx
  have hs' : tx.size ≤ 1048576 := by omega
  have HB0 : Hid (Below w.heap.size w (w.alloc (.cells #[.slice none 0 0] 24))) := (Below.refl _ _).alloc (Nat.le_refl _) _
  have HR0 : Hid ((w.alloc (.cells #[.slice none 0 0] 24)).heap[w.heap.size]? = some (.cells #[.slice none 0 0] 24 (0, 0))) := heap_alloc_new w _
  clear hus htx hyes0 hno0
  go_enter Tryz.func4, Tryz.ntmps4
  go_wp2_with fail
  generalize w.alloc (.cells #[.slice none 0 0] 24) = w0 at *
  refine (HUn.out w0).mono ?_
  rintro e w1 ⟨rfl, hb1⟩
  have hw0 : w.heap.size < w0.heap.size := (Array.getElem?_eq_some_iff.1 HR0.out).1
  have r1 : w1.heap[w.heap.size]? = some (.cells #[.slice none 0 0] 24 (0, 0)) := (hb1.block _ hw0).trans HR0.out
  have hs1 : w.heap.size < w1.heap.size := (Array.getElem?_eq_some_iff.1 r1).1
  have HB1 : Below w.heap.size w w1 := HB0.out.trans (hb1.mono HB0.out.size)
  obtain ⟨A2, hA2⟩ : ∃ W, W = w1.alloc (.cells #[.string tx, .int .i64 0, .bool (!ok)] 34) := ⟨_, rfl⟩
  obtain ⟨A3, hA3⟩ : ∃ W, W = A2.alloc (.cells #[.slice none 0 0] 24) := ⟨_, rfl⟩
  have z2 : A2.heap.size = w1.heap.size + 1 := by rw [hA2]; simp
  have z3 : A3.heap.size = w1.heap.size + 2 := by rw [hA3]; simp [z2]
  have hA3e : A3 = (w1.alloc (.cells #[.string tx, .int .i64 0, .bool (!ok)] 34)).alloc (.cells #[.slice none 0 0] 24) := by rw [hA3, hA2]
  have b2 : ∀ j, j < w1.heap.size → A2.heap[j]? = w1.heap[j]? := fun j hj => by rw [hA2]; exact Below.heap_alloc w1 _ j hj
  have b3 : ∀ j, j < A2.heap.size → A3.heap[j]? = A2.heap[j]? := fun j hj => by rw [hA3]; exact Below.heap_alloc A2 _ j hj
  have HB3 : Hid (Below w.heap.size w A3) := by rw [hA3]; exact Below.alloc (by rw [hA2]; exact HB1.alloc (by omega) _) (by omega) _
  have HC3 : Hid (CuA w1.heap.size tx 0 (!ok) A3) := by rw [Hid, CuA, b3 _ (by omega), hA2]; exact heap_alloc_new w1 _
  have HG3 : Hid (A3.heap[w1.heap.size + 1]? = some (.cells #[.slice none 0 0] 24 (0, 0))) := by rw [Hid, hA3, ← z2]; exact heap_alloc_new A2 _
  have HR3 : Hid (A3.heap[w.heap.size]? = some (.cells #[.slice none 0 0] 24 (0, 0))) := by rw [Hid, b3 _ (by omega), b2 _ (by omega)]; exact r1
  have HAe : Hid (A3 = _) := hA3e
  have HZ3 : Hid (A3.heap.size = w1.heap.size + 2 ∧ w.heap.size < w1.heap.size) := ⟨z3, hs1⟩
  clear hA2 hA3 hA3e b2 b3 z2 z3 r1 hs1 hw0 hb1 HB1 HB0 HR0 HUn
  clear A2
  go_wp2_with fail
  rw [← HAe.out]
  clear HAe
  generalize w1.heap.size = p at *
  refine (spVar_any p tx 0 (!ok) A3 hs' (Nat.zero_le _) HC3.out).mono ?_
  rintro e w2 ⟨hk2, v2, N, a1, g1, rfl, ⟨rfl, hN⟩, hA2, hF2⟩
  obtain ⟨hz3, hzp⟩ := HZ3.out
  have HP : Hid (w.heap.size < p) := hzp
  have HA2 : Hid (CuA p tx a1 g1 w2) := hA2
  have HF2 : Hid (Fd varB (· ≤ 1000000000) (fun _ => 0) 0 tx 0 (!ok) N a1 g1) := hF2
  have HG2 : Hid (w2.heap[p + 1]? = some (.cells #[.slice none 0 0] 24 (0, 0))) := (hk2.block _ (by omega) (by omega)).trans HG3.out
  have HR2 : Hid (w2.heap[w.heap.size]? = some (.cells #[.slice none 0 0] 24 (0, 0))) := (hk2.block _ (by omega) (by omega)).trans HR3.out
  have HB2 : Hid (Below w.heap.size w w2) := ⟨hk2.os.trans HB3.out.os, hk2.tape.trans HB3.out.tape, hk2.output.trans HB3.out.output, Nat.le_trans HB3.out.size hk2.size, fun j hj => (hk2.block j (by omega) (by omega)).trans (HB3.out.block j hj)⟩
  have HS2 : Hid (p + 2 ≤ w2.heap.size) := by have := hk2.size; rw [Hid]; omega
  clear hk2 hA2 hF2 hz3 hzp HZ3 HC3 HG3 HR3 HB3
  go_wp2
  go_loopw [9] (fun iv wr => ∃ (xs : List RuleD) (gv : Value) (b : Nat) (g : Bool), iv = .int .i64 (xs.length : Int) ∧ (xs.length ≤ N ∧ xs.length ≤ 40) ∧ wr.heap[p + 1]? = some (.cells #[gv] 24 (0, 0)) ∧ wr.heap[w.heap.size]? = some (.cells #[.slice none 0 0] 24 (0, 0)) ∧ RowF 3 40 RuleF (Nw (p + 2) wr.heap.size) gv xs wr ∧ CuA p tx b g wr ∧ (Below w.heap.size w wr ∧ p + 2 ≤ wr.heap.size) ∧ LoopS ruleW RuleC ruleT16 6 tx a1 g1 N xs b g ∧ ∀ x ∈ xs, RuIn x) (fun iv _ => N - (intOf iv).toNat)
  case atStart => exact ⟨[], _, a1, g1, rfl, ⟨Nat.zero_le _, Nat.zero_le _⟩, HG2.out, HR2.out, RowF.none, HA2.out, ⟨HB2.out, HS2.out⟩, LoopS.start HF2.out.up, fun t ht => by cases ht⟩
  case round =>
    clear HG2 HR2 HA2 HB2 HS2
    obtain ⟨xs, gv, b, g, rfl, ⟨hkN, hk40⟩, hG0, hR0, ho0, hA0, ⟨hB0, hS0⟩, hL0, hIn0⟩ := hrel
    obtain ⟨wk, rfl⟩ : ∃ W, W = wr := ⟨wr, rfl⟩
    obtain ⟨oa, oc, rfl⟩ := ho0.slice
    have HGk : Hid (wk.heap[p + 1]? = some (.cells #[.slice oa xs.length oc] 24 (0, 0))) := hG0
    have HRk : Hid (wk.heap[w.heap.size]? = some (.cells #[.slice none 0 0] 24 (0, 0))) := hR0
    have HOk : Hid (RowF 3 40 RuleF (Nw (p + 2) wk.heap.size) (.slice oa xs.length oc) xs wk) := ho0
    have HAk : Hid (CuA p tx b g wk) := hA0
    have HBk : Hid (Below w.heap.size w wk) := hB0
    have HSk : Hid (p + 2 ≤ wk.heap.size) := hS0
    have HLk : Hid (LoopS ruleW RuleC ruleT16 6 tx a1 g1 N xs b g) := hL0
    have HIk : Hid (∀ x ∈ xs, RuIn x) := hIn0
    have hbu : b ≤ tx.size := hL0.up
    have cfl := run_cell (j := 2) hA0 rfl
    clear hG0 hR0 ho0 hA0 hB0 hS0 hL0 hIn0
    by_cases hgo : (xs.length < N ∧ xs.length < 40) ∧ g = false
    · obtain ⟨⟨hlt, hlt3⟩, rfl⟩ := hgo
      have i4 : (xs.length : Int) < (N : Int) := by omega
      have i5 : (xs.length : Int) < 40 := by omega
      go_wp2_with fail
      refine (spShort_any p tx b false wk hs' hbu HAk.out).mono ?_
      rintro e w5 ⟨hk5, v5, nm, b1, q1, rfl, ⟨rfl, hnm⟩, hA5, hF5⟩
      have bal5 : Below w5.heap.size w5 (w5.alloc (.cells #[.string nm, .slice none 0 0, .slice none 0 0] 40)) := (Below.refl _ _).alloc (Nat.le_refl _) _
      have HX5 : Hid ((w5.alloc (.cells #[.string nm, .slice none 0 0, .slice none 0 0] 40)).heap[w5.heap.size]? = some (.cells #[.string nm, .slice none 0 0, .slice none 0 0] 40 (0, 0))) := heap_alloc_new w5 _
      have HA5 : Hid (CuA p tx b1 q1 (w5.alloc (.cells #[.string nm, .slice none 0 0, .slice none 0 0] 40))) := CuA.below hA5 bal5
      have HK5 : Hid (Kp (fun q => q = p ∨ w5.heap.size ≤ q) wk (w5.alloc (.cells #[.string nm, .slice none 0 0, .slice none 0 0] 40))) := (hk5.trans (Kp.below bal5)).up (fun k hk => .inl hk)
      have HX : Hid (wk.heap.size ≤ w5.heap.size) := hk5.size
      have HF5 : Hid (Fd shortW (fun t => t.size ≤ 20000) ByteArray.size 0 tx b false nm b1 q1) := hF5
      have hb1u := hF5.up
      clear hk5 hA5 hF5 bal5 cfl
      go_wp2_with fail
      generalize w5.alloc (.cells #[.string nm, .slice none 0 0, .slice none 0 0] 40) = W5 at *
      generalize w5.heap.size = X at *
      refine (spVar_any p tx b1 q1 W5 hs' hb1u HA5.out).mono ?_
      rintro e w6 ⟨hk6, v6, NK, a2, q2, rfl, ⟨rfl, hK6⟩, hA6, hF6⟩
      have hXk := HX.out
      have hSk := HSk.out
      have hX5 : X < W5.heap.size := (Array.getElem?_eq_some_iff.1 HX5.out).1
      have HX6 : Hid (w6.heap[X]? = some (.cells #[.string nm, .slice none 0 0, .slice none 0 0] 40 (0, 0))) := (hk6.block _ hX5 (by omega)).trans HX5.out
      have HA6 : Hid (CuA p tx a2 q2 w6) := hA6
      have HK6 : Hid (Kp (fun q => q = p ∨ X ≤ q) wk w6) := HK5.out.trans (hk6.up (fun k hk => .inl hk))
      have HF6 : Hid (Fd varB (· ≤ 1000000000) (fun _ => 0) 0 tx b1 q1 NK a2 q2) := hF6
      clear hk6 hA6 hF6 hX5 HX5 HA5 HK5
      go_upto_block 2 with fail
      go_cut [12] from 32 to 131 (fun _ wx => ∃ (ps : List ByteArray) (pv : Value) (b2 : Nat) (q3 : Bool), wx.heap[X]? = some (.cells #[.string nm, pv, .slice none 0 0] 40 (0, 0)) ∧ OwnB (X + 1) pv ps wx ∧ CuA p tx b2 q3 wx ∧ Kp (fun q => q = p ∨ X ≤ q) wk wx ∧ Fd (listW shortW) (ListC 10 (fun t => t.size ≤ 20000)) (listT ByteArray.size) 1 tx b1 q1 ps b2 q3 ∧ ∀ t ∈ ps, t.size ≤ 20000)
      case first =>
        go_wp2_with fail
        go_loopw [12] (fun iv wq => ∃ (ps : List ByteArray) (pv : Value) (b2 : Nat) (q3 : Bool), iv = .int .i64 (ps.length : Int) ∧ (ps.length ≤ NK ∧ ps.length ≤ 10) ∧ wq.heap[X]? = some (.cells #[.string nm, pv, .slice none 0 0] 40 (0, 0)) ∧ OwnB (X + 1) pv ps wq ∧ CuA p tx b2 q3 wq ∧ Kp (fun q => q = p ∨ X ≤ q) wk wq ∧ LoopS shortW (fun t => t.size ≤ 20000) ByteArray.size 0 tx a2 q2 NK ps b2 q3 ∧ ∀ t ∈ ps, t.size ≤ 20000) (fun iv _ => NK - (intOf iv).toNat)
        case atStart => exact ⟨[], _, a2, q2, rfl, ⟨Nat.zero_le _, Nat.zero_le _⟩, HX6.out, ⟨rfl, .inl ⟨rfl, rfl⟩⟩, HA6.out, HK6.out, LoopS.start HF6.out.up, fun t ht => by cases ht⟩
        case round =>
          clear HX6 HA6 HK6
          obtain ⟨ps, pv, b2, q3, rfl, ⟨hpK, hp10⟩, hx0, ho0, hA0, hK0, hL0, hS0⟩ := hrel
          obtain ⟨wq, rfl⟩ : ∃ W, W = wr := ⟨wr, rfl⟩
          obtain ⟨pa, pc, rfl⟩ := shapeR ho0
          have HXq : Hid (wq.heap[X]? = some (.cells #[.string nm, .slice pa ps.length pc, .slice none 0 0] 40 (0, 0))) := hx0
          have HOq : Hid (OwnB (X + 1) (.slice pa ps.length pc) ps wq) := ho0
          have HAq : Hid (CuA p tx b2 q3 wq) := hA0
          have HKq : Hid (Kp (fun q => q = p ∨ X ≤ q) wk wq) := hK0
          have HLq : Hid (LoopS shortW (fun t => t.size ≤ 20000) ByteArray.size 0 tx a2 q2 NK ps b2 q3) := hL0
          have HSq : Hid (∀ t ∈ ps, t.size ≤ 20000) := hS0
          have hXq : X < wq.heap.size := (Array.getElem?_eq_some_iff.1 hx0).1
          have c3 : wq.cell? ⟨X, 1, none⟩ = some (.slice pa ps.length pc) := run_cell hx0 rfl
          have hb2u : b2 ≤ tx.size := hL0.up
          have cfl := run_cell (j := 2) hA0 rfl
          clear hx0 ho0 hA0 hK0 hL0 hS0
          by_cases hgo : (ps.length < NK ∧ ps.length < 10) ∧ q3 = false
          · obtain ⟨⟨hlt2, hlt4⟩, rfl⟩ := hgo
            have i6 : (ps.length : Int) < (NK : Int) := by omega
            have i7 : (ps.length : Int) < 10 := by omega
            go_wp2_with fail
            refine wp_region_K (k := 5) (S := fun V => V.cell? ⟨X, 1, none⟩ = some (.slice pa ps.length pc)) (by kernel_rfl) ?_ (fun hHeld hcl => ?_)
            · exact c3
            refine wpAnyK_free (i := 0) (d := some 69) (v := ?mv0) (by assumption) rfl (by kernel_rfl) (by kernel_rfl) (by kernel_rfl) (by decide) (by rfl) (fun _ _ _ h => h) (Or.inl ⟨by rfl, ?mh0⟩) (.inr (by assumption)) (fun hcl0 => ?mr0)
            case mh0 => (intro w hSw; (try dsimp only at hSw); go_simp; first | done | with_reducible rfl)
            case' mr0 => (clear hcl; simp only [Act.put, List.setIfInBounds_toArray, List.set_cons_zero, List.set_cons_succ])
            refine wpAnyK_take [1] (i := 1) (d := some 70) (v := ?mv1) (by assumption) rfl (by kernel_rfl) (by kernel_rfl) (by kernel_rfl) (by kernel_rfl) (by kernel_rfl) (by decide) (by rfl) (fun _ _ _ h => h) (Or.inl ⟨by rfl, ?mh1⟩) (by assumption) (fun hcl1 => ?mr1)
            case mh1 => (intro w hSw; (try dsimp only at hSw); go_simp; first | done | with_reducible rfl)
            case' mr1 => (clear hcl0; simp only [Act.put, List.setIfInBounds_toArray, List.set_cons_zero, List.set_cons_succ])
            refine wpAnyK_free (i := 2) (d := some 71) (v := ?mv2) (by assumption) rfl (by kernel_rfl) (by kernel_rfl) (by kernel_rfl) (by decide) (by rfl) (fun _ _ _ h => h) (Or.inl ⟨by rfl, ?mh2⟩) (.inr (by assumption)) (fun hcl2 => ?mr2)
            case mh2 => (intro w hSw; (try dsimp only at hSw); go_simp; first | done | with_reducible rfl)
            case' mr2 => (clear hcl1; simp only [Act.put, List.setIfInBounds_toArray, List.set_cons_zero, List.set_cons_succ])
            refine wpAnyK_one (i := 3) (by assumption) (by kernel_rfl) rfl (fun K hK => ?_)
            go_simp
            go_at_call 11
            have hAd : CuA p tx b2 false wq.drew := HAq.out
            refine (spShort_any p tx b2 false wq.drew hs' hb2u hAd).mono ?_
            rintro e w8 ⟨hk8, v8, t, b5, q5, rfl, ⟨rfl, ht⟩, hA8, hF8⟩
            have hk8' : Kp (fun q => q = p) wq w8 := (Kp.below ((Below.refl _ _).drew : Below wq.heap.size wq wq.drew)).trans hk8
            have d3 := kp_cellR c3 hk8' (by show ¬ X = p; omega)
            go_simp
            refine hK.out _ _ d3 (fun hcl3 => ?_)
            have bal8 : Below w8.heap.size w8 (w8.alloc (.cells #[.string t] 9)) := (Below.refl _ _).alloc (Nat.le_refl _) _
            refine wpAnyK_one (i := 4) (by assumption) (by kernel_rfl) rfl (fun K hK => ?_)
            go_simp
            refine hK.out _ _ (cell_keep d3 bal8) (fun hcl4 => ?_)
            have O8 : OwnB (X + 1) (.slice pa ps.length pc) ps w8 := own_ag HOq.out (F := fun q => X + 1 ≤ q) (hk8'.ag (fun q hq e => by omega)) (fun q hq => (World.ownsRow.lt HOq.out q hq).1)
            have hs8 : wq.heap.size ≤ w8.heap.size := hk8'.size
            refine wpAnyK_past (i := 5) (by assumption) (by kernel_rfl) rfl (by kernel_rfl) (fun K hK => ?_)
            refine step_append_lies _ (by rfl) _ _ _ (by rfl) (X + 1) 9 j0 _ 1 16 Tryz.underlying37 ji jz0 jz1 jz2 rfl (by omega) _ _ _ (by rfl) (World.ownsRow.alloc O8 _) ⟨w8.heap.size, 0, none⟩ 1 1 [.string t] (by rfl) (by rfl) (cellsR _ _ _) (by intro u hu; simp only [List.mem_cons, List.not_mem_nil, or_false] at hu; rcases hu with rfl; rfl) (by omega) (by show ps.length + 1 ≤ _; unfold maxLen; omega) (by show (ps.length + 1) * 16 ≤ _; omega) (by simp; omega) (w8.heap.size + 1) (by simp) ?_
            intro gg capg w9 hown9 hgrow hat hlt9
            have hgs : w8.heap.size ≤ w9.heap.size := Nat.le_trans bal8.size hgrow.size
            have hne : ∀ j, j ≤ X → some j ≠ (Value.slice pa ps.length pc).ownBlock := fun j hj e => by have := (World.ownsRow.lt O8 _ e.symm).1; omega
            have hgb : ∀ j, j < w8.heap.size → some j ≠ (Value.slice pa ps.length pc).ownBlock → w9.heap[j]? = w8.heap[j]? := fun j hj hn => (hgrow.block j (Nat.lt_of_lt_of_le hj bal8.size) hn).trans (bal8.block j hj)
            have X8 : w8.heap[X]? = some (.cells #[.string nm, .slice pa ps.length pc, .slice none 0 0] 40 (0, 0)) := (hk8'.block _ hXq (by omega)).trans HXq.out
            have X9 : w9.heap[X]? = some (.cells #[.string nm, .slice pa ps.length pc, .slice none 0 0] 40 (0, 0)) := (hgb _ (by omega) (hne _ (Nat.le_refl _))).trans X8
            have c9 := run_cell (j := 1) X9 rfl
            have f9 := run_frozen (j := 1) X9
            have A9 : CuA p tx b5 q5 w9 := (hgb _ (by omega) (hne _ (by omega))).trans hA8
            have hwk : wk.heap.size ≤ wq.heap.size := HKq.out.size
            have K9 : Kp (fun q => q = p ∨ X ≤ q) wk w9 := ⟨hgrow.os.trans (bal8.os.trans (hk8'.os.trans HKq.out.os)), hgrow.tape.trans (bal8.tape.trans (hk8'.tape.trans HKq.out.tape)), hgrow.output.trans (bal8.output.trans (hk8'.output.trans HKq.out.output)), by omega, fun j hj hF => (hgb j (by omega) (hne j (by omega))).trans ((hk8'.block j (by omega) (fun e => hF (.inl e))).trans (HKq.out.block j hj hF))⟩
            have HX10 : Hid ((w9.setCell ⟨X, 1, none⟩ (.slice (some ⟨gg, 0, none⟩) (ps.length + 1) capg)).heap[X]? = some (.cells #[.string nm, .slice (some ⟨gg, 0, none⟩) (ps.length + 1) capg, .slice none 0 0] 40 (0, 0))) := setCell_self (j := 1) _ X9
            have HA10 : Hid (CuA p tx b5 q5 (w9.setCell ⟨X, 1, none⟩ (.slice (some ⟨gg, 0, none⟩) (ps.length + 1) capg))) := (setCell_other _ (by omega)).trans A9
            have HK10 : Hid (Kp (fun q => q = p ∨ X ≤ q) wk (w9.setCell ⟨X, 1, none⟩ (.slice (some ⟨gg, 0, none⟩) (ps.length + 1) capg))) := K9.trans (Kp.store (.inr (Nat.le_refl _)))
            have HO10 : Hid (OwnB (X + 1) (.slice (some ⟨gg, 0, none⟩) (ps.length + 1) capg) (ps ++ [t]) (w9.setCell ⟨X, 1, none⟩ (.slice (some ⟨gg, 0, none⟩) (ps.length + 1) capg))) := by
              have h1 : OwnB (X + 1) (.slice (some ⟨gg, 0, none⟩) (ps.length + 1) capg) (ps ++ [t]) w9 := by
                rw [OwnB, List.length_append, sb, List.map_append]
                exact hown9
              exact own_ag h1 (F := fun q => X + 1 ≤ q) ((Kp.store (F := fun q => q = X) (w := w9) (o := 1) (u := .slice (some ⟨gg, 0, none⟩) (ps.length + 1) capg) rfl).ag (fun q hq e => by omega)) (fun q hq => (World.ownsRow.lt h1 q hq).1)
            have HL10 : Hid (LoopS shortW (fun t => t.size ≤ 20000) ByteArray.size 0 tx a2 q2 NK (ps ++ [t]) b5 q5) := HLq.out.next hlt2 hF8
            have HS10 : Hid (∀ x ∈ ps ++ [t], x.size ≤ 20000) := fun x hx => by
              rcases List.mem_append.1 hx with hx | hx
              · exact HSq.out x hx
              · rw [List.mem_singleton.1 hx]; exact ht
            refine hK.out _ _ (fun hcl5 => ?_)
            clear hgrow hat hown9 hgs hgb hne bal8 K9 A9 X8 X9 O8 hk8 hk8' hA8 hF8 d3 c3 cfl
            clear hcl3 hcl4 hHeld
            refine wpAnyK_past (i := 6) (by assumption) (by kernel_rfl) rfl (by kernel_rfl) (fun K hK => ?_)
            go_simp
            refine hK.out _ _ (fun hcl6 => ?_)
            refine wpAnyK_past (i := 7) (by assumption) (by kernel_rfl) rfl (by kernel_rfl) (fun K hK => ?_)
            go_simp
            refine hK.out _ _ (fun hcl7 => ?_)
            refine wpAnyK_done (by kernel_rfl) ?_
            clear hcl5 hcl6 hcl7 c9 f9
            go_wp2
            go_roundw
            case rel => exact ⟨ps ++ [t], _, b5, q5, by rw [List.length_append, List.length_singleton]; go_num, ⟨by rw [List.length_append, List.length_singleton]; omega, by rw [List.length_append, List.length_singleton]; omega⟩, HX10.out, HO10.out, HA10.out, HK10.out, HL10.out, HS10.out⟩
            case measure => simp [intOf]; omega
          · have hor : (¬ ps.length < NK) ∨ (ps.length < NK ∧ ¬ ps.length < 10) ∨ ((ps.length < NK ∧ ps.length < 10) ∧ q3 = true) := by
              by_cases h1 : ps.length < NK
              · by_cases h2 : ps.length < 10
                · exact .inr (.inr ⟨⟨h1, h2⟩, eq_true_of_ne_false (fun e => hgo ⟨⟨h1, h2⟩, e⟩)⟩)
                · exact .inr (.inl ⟨h1, h2⟩)
              · exact .inl h1
            have HEx : Hid (q3 = false → NK ≤ ps.length ∨ 10 ≤ ps.length) := fun e => by
              rcases hor with h | h | h
              · exact .inl (by omega)
              · exact .inr (by omega)
              · rw [h.2] at e; cases e
            have HFd : Hid (Fd (listW shortW) (ListC 10 (fun t => t.size ≤ 20000)) (listT ByteArray.size) 1 tx b1 q1 ps b2 q3) := HLq.out.fin (by decide) HF6.out hpK HEx.out
            clear hgo HEx HLq
            rcases hor with hno | ⟨hyes, hno⟩ | ⟨⟨hyes, hyes3⟩, rfl⟩
            · have i4 : ¬ (ps.length : Int) < (NK : Int) := by omega
              go_wp2_with fail
              go_meet
              exact ⟨ps, _, b2, q3, HXq.out, HOq.out, HAq.out, HKq.out, HFd.out, HSq.out⟩
            · have i4 : (ps.length : Int) < (NK : Int) := by omega
              have i5 : ¬ (ps.length : Int) < 10 := by omega
              go_wp2_with fail
              go_meet
              exact ⟨ps, _, b2, q3, HXq.out, HOq.out, HAq.out, HKq.out, HFd.out, HSq.out⟩
            · have i4 : (ps.length : Int) < (NK : Int) := by omega
              have i5 : (ps.length : Int) < 10 := by omega
              go_wp2_with fail
              go_meet
              exact ⟨ps, _, b2, true, HXq.out, HOq.out, HAq.out, HKq.out, HFd.out, HSq.out⟩
      case rest =>
        obtain ⟨ps, pv, b2, q3, hx0, ho0, hA0, hK0, hF0, hS0⟩ := hcut
        obtain ⟨pa, pc, rfl⟩ := shapeR ho0
        have HX7 : Hid (wc.heap[X]? = some (.cells #[.string nm, .slice pa ps.length pc, .slice none 0 0] 40 (0, 0))) := hx0
        have HP7 : Hid (OwnB (X + 1) (.slice pa ps.length pc) ps wc) := ho0
        have HA7 : Hid (CuA p tx b2 q3 wc) := hA0
        have HK7 : Hid (Kp (fun q => q = p ∨ X ≤ q) wk wc) := hK0
        have HFp : Hid (Fd (listW shortW) (ListC 10 (fun t => t.size ≤ 20000)) (listT ByteArray.size) 1 tx b1 q1 ps b2 q3) := hF0
        have HPs : Hid (∀ t ∈ ps, t.size ≤ 20000) := hS0
        have hb2u := hF0.up
        clear hx0 ho0 hA0 hK0 hF0 hS0 HX6 HA6 HK6 HF6
        go_wp2_with fail
        refine (spVar_any p tx b2 q3 wc hs' hb2u HA7.out).mono ?_
        rintro e w8 ⟨hk8, v8, M, a3, q4, rfl, ⟨rfl, hM8⟩, hA8, hF8⟩
        have hX7 : X < wc.heap.size := (Array.getElem?_eq_some_iff.1 HX7.out).1
        have HX8 : Hid (w8.heap[X]? = some (.cells #[.string nm, .slice pa ps.length pc, .slice none 0 0] 40 (0, 0))) := (hk8.block _ hX7 (by omega)).trans HX7.out
        have HP8 : Hid (OwnB (X + 1) (.slice pa ps.length pc) ps w8) := own_ag HP7.out (F := fun q => X + 1 ≤ q) (hk8.ag (fun q hq e => by omega)) (fun q hq => (World.ownsRow.lt HP7.out q hq).1)
        have HA8 : Hid (CuA p tx a3 q4 w8) := hA8
        have HK8 : Hid (Kp (fun q => q = p ∨ X ≤ q) wk w8) := HK7.out.trans (hk8.up (fun k hk => .inl hk))
        have HF8 : Hid (Fd varB (· ≤ 1000000000) (fun _ => 0) 0 tx b2 q3 M a3 q4) := hF8
        have HXZ : Hid (X < w8.heap.size) := by have := hk8.size; rw [Hid]; omega
        have HPz : Hid (∀ q, (Value.slice pa ps.length pc).ownBlock = some q → X + 1 ≤ q ∧ q < w8.heap.size) := fun q hq => World.ownsRow.lt HP8.out q hq
        clear hk8 hA8 hF8 hX7 HX7 HP7 HA7 HK7
        go_upto_block 4 with fail
        generalize hZ : w8.heap.size = Z at *
        go_cut [13, 14, 15, 16] from 32 to 131 (fun _ _ _ _ wx => ∃ (ls : List (List SymD)) (av : Value) (b3 : Nat) (q5 : Bool), wx.heap[X]? = some (.cells #[.string nm, .slice pa ps.length pc, av] 40 (0, 0)) ∧ OwnB (X + 1) (.slice pa ps.length pc) ps wx ∧ RowF 1 43 AltF (Nw Z wx.heap.size) av ls wx ∧ CuA p tx b3 q5 wx ∧ (Kp (fun q => q = p ∨ X ≤ q) wk wx ∧ Z ≤ wx.heap.size) ∧ Fd (listW altW) (ListC 10 (ListC 10 SymC)) (listT (listT symT)) 6 tx b2 q3 ls b3 q5 ∧ ∀ a ∈ ls, ∀ y ∈ a, SyIn y)
        case first =>
          go_wp2_with fail
          go_loopw [13] (fun iv wq => ∃ (ls : List (List SymD)) (av : Value) (b3 : Nat) (q5 : Bool), iv = .int .i64 (ls.length : Int) ∧ (ls.length ≤ M ∧ ls.length ≤ 10) ∧ wq.heap[X]? = some (.cells #[.string nm, .slice pa ps.length pc, av] 40 (0, 0)) ∧ OwnB (X + 1) (.slice pa ps.length pc) ps wq ∧ RowF 1 43 AltF (Nw Z wq.heap.size) av ls wq ∧ CuA p tx b3 q5 wq ∧ (Kp (fun q => q = p ∨ X ≤ q) wk wq ∧ Z ≤ wq.heap.size) ∧ LoopS altW (ListC 10 SymC) (listT symT) 5 tx a3 q4 M ls b3 q5 ∧ ∀ a ∈ ls, ∀ y ∈ a, SyIn y) (fun iv _ => M - (intOf iv).toNat)
          case atStart => exact ⟨[], _, a3, q4, rfl, ⟨Nat.zero_le _, Nat.zero_le _⟩, HX8.out, HP8.out, RowF.none, HA8.out, ⟨HK8.out, Nat.le_of_eq hZ.symm⟩, LoopS.start HF8.out.up, fun t ht => by cases ht⟩
          case round =>
            clear HX8 HP8 HA8 HK8 hZ
            obtain ⟨ls, av, b3, q5, rfl, ⟨haM, ha10⟩, hx0, hp0, ho0, hA0, ⟨hK0, hZ0⟩, hL0, hS0⟩ := hrel
            obtain ⟨wa, rfl⟩ : ∃ W, W = wr := ⟨wr, rfl⟩
            obtain ⟨ra, rc, rfl⟩ := ho0.slice
            have HXa : Hid (wa.heap[X]? = some (.cells #[.string nm, .slice pa ps.length pc, .slice ra ls.length rc] 40 (0, 0))) := hx0
            have HPa : Hid (OwnB (X + 1) (.slice pa ps.length pc) ps wa) := hp0
            have HOa : Hid (RowF 1 43 AltF (Nw Z wa.heap.size) (.slice ra ls.length rc) ls wa) := ho0
            have HAa : Hid (CuA p tx b3 q5 wa) := hA0
            have HKa : Hid (Kp (fun q => q = p ∨ X ≤ q) wk wa) := hK0
            have HZa : Hid (Z ≤ wa.heap.size) := hZ0
            have HLa : Hid (LoopS altW (ListC 10 SymC) (listT symT) 5 tx a3 q4 M ls b3 q5) := hL0
            have HSa : Hid (∀ a ∈ ls, ∀ y ∈ a, SyIn y) := hS0
            have hXa : X < wa.heap.size := (Array.getElem?_eq_some_iff.1 hx0).1
            have hb3u : b3 ≤ tx.size := hL0.up
            have cfl := run_cell (j := 2) hA0 rfl
            clear hx0 hp0 ho0 hA0 hK0 hZ0 hL0 hS0
            by_cases hgo : (ls.length < M ∧ ls.length < 10) ∧ q5 = false
            · obtain ⟨⟨hlt2, hlt4⟩, rfl⟩ := hgo
              have i6 : (ls.length : Int) < (M : Int) := by omega
              have i7 : (ls.length : Int) < 10 := by omega
              have bal9 : Below wa.heap.size wa (wa.alloc (.cells #[.slice none 0 0] 43)) := (Below.refl _ _).alloc (Nat.le_refl _) _
              have HY9 : Hid ((wa.alloc (.cells #[.slice none 0 0] 43)).heap[wa.heap.size]? = some (.cells #[.slice none 0 0] 43 (0, 0))) := heap_alloc_new wa _
              have HA9 : Hid (CuA p tx b3 false (wa.alloc (.cells #[.slice none 0 0] 43))) := CuA.below HAa.out bal9
              have HK9 : Hid (Kp (fun q => q = p ∨ wa.heap.size ≤ q) wa (wa.alloc (.cells #[.slice none 0 0] 43))) := Kp.below bal9
              clear bal9
              go_wp2_with fail
              generalize wa.alloc (.cells #[.slice none 0 0] 43) = W9 at *
              refine (spVar_any p tx b3 false W9 hs' hb3u HA9.out).mono ?_
              rintro e w10 ⟨hk10, v10, L, a5, q6, rfl, ⟨rfl, hL10⟩, hA10, hF10⟩
              have hY9 : wa.heap.size < W9.heap.size := (Array.getElem?_eq_some_iff.1 HY9.out).1
              have HY10 : Hid (w10.heap[wa.heap.size]? = some (.cells #[.slice none 0 0] 43 (0, 0))) := (hk10.block _ hY9 (by omega)).trans HY9.out
              have HA10 : Hid (CuA p tx a5 q6 w10) := hA10
              have HK10 : Hid (Kp (fun q => q = p ∨ wa.heap.size ≤ q) wa w10) := HK9.out.trans (hk10.up (fun k hk => .inl hk))
              have HF10 : Hid (Fd varB (· ≤ 1000000000) (fun _ => 0) 0 tx b3 false L a5 q6) := hF10
              have HS10 : Hid (wa.heap.size + 1 ≤ w10.heap.size) := by have := hk10.size; rw [Hid]; omega
              clear hk10 hA10 hF10 hY9 HY9 HA9 HK9 cfl
              go_upto_block 6 with fail
              go_cut [16] from 78 to 125 (fun _ wx => ∃ (ss : List SymD) (sv : Value) (b4 : Nat) (q7 : Bool), wx.heap[wa.heap.size]? = some (.cells #[sv] 43 (0, 0)) ∧ RowF 4 46 SymF (Nw (wa.heap.size + 1) wx.heap.size) sv ss wx ∧ CuA p tx b4 q7 wx ∧ (Kp (fun q => q = p ∨ wa.heap.size ≤ q) wa wx ∧ wa.heap.size + 1 ≤ wx.heap.size) ∧ Fd (listW symW) (ListC 10 SymC) (listT symT) 5 tx b3 false ss b4 q7 ∧ ∀ y ∈ ss, SyIn y)
              case first =>
                go_wp2_with fail
                go_loopw [16] (fun iv wq => ∃ (ss : List SymD) (sv : Value) (b4 : Nat) (q7 : Bool), iv = .int .i64 (ss.length : Int) ∧ (ss.length ≤ L ∧ ss.length ≤ 10) ∧ wq.heap[wa.heap.size]? = some (.cells #[sv] 43 (0, 0)) ∧ RowF 4 46 SymF (Nw (wa.heap.size + 1) wq.heap.size) sv ss wq ∧ CuA p tx b4 q7 wq ∧ (Kp (fun q => q = p ∨ wa.heap.size ≤ q) wa wq ∧ wa.heap.size + 1 ≤ wq.heap.size) ∧ LoopS symW SymC symT 4 tx a5 q6 L ss b4 q7 ∧ ∀ y ∈ ss, SyIn y) (fun iv _ => L - (intOf iv).toNat)
                case atStart => exact ⟨[], _, a5, q6, rfl, ⟨Nat.zero_le _, Nat.zero_le _⟩, HY10.out, RowF.none, HA10.out, ⟨HK10.out, HS10.out⟩, LoopS.start HF10.out.up, fun t ht => by cases ht⟩
                case round =>
                  clear HY10 HA10 HK10 HS10
                  obtain ⟨ss, sv, b4, q7, rfl, ⟨hsL, hs10⟩, hy0, ho0, hA0, ⟨hK0, hZ0⟩, hL0, hS0⟩ := hrel
                  obtain ⟨wq, rfl⟩ : ∃ W, W = wr := ⟨wr, rfl⟩
                  obtain ⟨sa, sc, rfl⟩ := ho0.slice
                  have HYq : Hid (wq.heap[wa.heap.size]? = some (.cells #[.slice sa ss.length sc] 43 (0, 0))) := hy0
                  have HOq : Hid (RowF 4 46 SymF (Nw (wa.heap.size + 1) wq.heap.size) (.slice sa ss.length sc) ss wq) := ho0
                  have HAq : Hid (CuA p tx b4 q7 wq) := hA0
                  have HKq : Hid (Kp (fun q => q = p ∨ wa.heap.size ≤ q) wa wq) := hK0
                  have HZq : Hid (wa.heap.size + 1 ≤ wq.heap.size) := hZ0
                  have HLq : Hid (LoopS symW SymC symT 4 tx a5 q6 L ss b4 q7) := hL0
                  have HSq : Hid (∀ y ∈ ss, SyIn y) := hS0
                  have c3 : wq.cell? ⟨wa.heap.size, 0, none⟩ = some (.slice sa ss.length sc) := run_cell hy0 rfl
                  have hb4u : b4 ≤ tx.size := hL0.up
                  have cfl := run_cell (j := 2) hA0 rfl
                  clear hy0 ho0 hA0 hK0 hZ0 hL0 hS0
                  by_cases hgo : (ss.length < L ∧ ss.length < 10) ∧ q7 = false
                  · obtain ⟨⟨hlt5, hlt6⟩, rfl⟩ := hgo
                    have i8 : (ss.length : Int) < (L : Int) := by omega
                    have i9 : (ss.length : Int) < 10 := by omega
                    go_wp2_with fail
                    refine wp_region_K (k := 5) (S := fun V => V.cell? ⟨wa.heap.size, 0, none⟩ = some (.slice sa ss.length sc)) (by kernel_rfl) ?_ (fun hHeld hcl => ?_)
                    · exact c3
                    refine wpAnyK_free (i := 0) (d := some 113) (v := ?yv0) (by assumption) rfl (by kernel_rfl) (by kernel_rfl) (by kernel_rfl) (by decide) (by rfl) (fun _ _ _ h => h) (Or.inl ⟨by rfl, ?yh0⟩) (.inr (by assumption)) (fun hcl0 => ?yr0)
                    case yh0 => (intro w hSw; (try dsimp only at hSw); go_simp; first | done | with_reducible rfl)
                    case' yr0 => (clear hcl; simp only [Act.put, List.setIfInBounds_toArray, List.set_cons_zero, List.set_cons_succ])
                    refine wpAnyK_take [1] (i := 1) (d := some 114) (v := ?yv1) (by assumption) rfl (by kernel_rfl) (by kernel_rfl) (by kernel_rfl) (by kernel_rfl) (by kernel_rfl) (by decide) (by rfl) (fun _ _ _ h => h) (Or.inl ⟨by rfl, ?yh1⟩) (by assumption) (fun hcl1 => ?yr1)
                    case yh1 => (intro w hSw; (try dsimp only at hSw); go_simp; first | done | with_reducible rfl)
                    case' yr1 => (clear hcl0; simp only [Act.put, List.setIfInBounds_toArray, List.set_cons_zero, List.set_cons_succ])
                    refine wpAnyK_free (i := 2) (d := some 115) (v := ?yv2) (by assumption) rfl (by kernel_rfl) (by kernel_rfl) (by kernel_rfl) (by decide) (by rfl) (fun _ _ _ h => h) (Or.inl ⟨by rfl, ?yh2⟩) (.inr (by assumption)) (fun hcl2 => ?yr2)
                    case yh2 => (intro w hSw; (try dsimp only at hSw); go_simp; first | done | with_reducible rfl)
                    case' yr2 => (clear hcl1; simp only [Act.put, List.setIfInBounds_toArray, List.set_cons_zero, List.set_cons_succ])
                    refine wpAnyK_one (i := 3) (by assumption) (by kernel_rfl) rfl (fun K hK => ?_)
                    go_simp
                    go_at_call 12
                    have hAd : CuA p tx b4 false wq.drew := HAq.out
                    refine (spSym_any p tx b4 wq.drew hs' hb4u hAd).mono ?_
                    rintro e w11 ⟨hk11, v11, t, b5, q8, rfl, ⟨tv, rfl, htv, ht⟩, hA11, hF11⟩
                    obtain ⟨ta, tc, rfl⟩ := htv.slice
                    have hk11' : Kp (fun q => q = p) wq w11 := (Kp.below ((Below.refl _ _).drew : Below wq.heap.size wq wq.drew)).trans hk11
                    have hYZ := HZq.out
                    have d3 := kp_cellR c3 hk11' (by show ¬ wa.heap.size = p; omega)
                    go_simp
                    refine hK.out _ _ d3 (fun hcl3 => ?_)
                    have bal11 : Below w11.heap.size w11 (w11.alloc (.cells #[.int .i64 t.kind, .string t.text, .slice ta t.args.length tc, .string t.bind] 46)) := (Below.refl _ _).alloc (Nat.le_refl _) _
                    refine wpAnyK_one (i := 4) (by assumption) (by kernel_rfl) rfl (fun K hK => ?_)
                    go_simp
                    refine hK.out _ _ (cell_keep d3 bal11) (fun hcl4 => ?_)
                    have hs11 : wq.heap.size ≤ w11.heap.size := hk11'.size
                    obtain ⟨cs, hcs, hAdd⟩ := (HOq.out.ag stabSym (hk11'.ag (fun q hq e => by have := hq.1; omega))).add stabSym HZq.out hs11
                    have HEn : Hid (SymF (Nw wq.heap.size w11.heap.size) w11 [.int .i64 t.kind, .string t.text, .slice ta t.args.length tc, .string t.bind] t) := ⟨_, rfl, htv⟩
                    have hlo : ∀ q, (Value.slice sa ss.length sc).ownBlock = some q → wa.heap.size + 1 ≤ q ∧ q < wq.heap.size := fun q hq => (HOq.out.lt q hq).1
                    refine wpAnyK_past (i := 5) (by assumption) (by kernel_rfl) rfl (by kernel_rfl) (fun K hK => ?_)
                    refine step_append_lies _ (by rfl) _ _ _ (by rfl) 0 46 l0 _ 4 64 Tryz.underlying41 li lz0 lz1 lz2 rfl (by omega) _ _ _ (by rfl) (World.ownsRow.alloc hcs _) ⟨w11.heap.size, 0, none⟩ 1 1 [.int .i64 t.kind, .string t.text, .slice ta t.args.length tc, .string t.bind] (by rfl) (by rfl) (cellsR _ _ _) (by intro u hu; simp only [List.mem_cons, List.not_mem_nil, or_false] at hu; rcases hu with rfl | rfl | rfl | rfl <;> rfl) (by omega) (by show ss.length + 1 ≤ _; unfold maxLen; omega) (by show (ss.length + 1) * 64 ≤ _; omega) (Nat.zero_le _) (w11.heap.size + 1) (by simp) ?_
                    intro gg capg w12 hown12 hgrow hat hlt12
                    have hgs : w11.heap.size ≤ w12.heap.size := Nat.le_trans bal11.size hgrow.size
                    have hne : ∀ j, j ≤ wa.heap.size → some j ≠ (Value.slice sa ss.length sc).ownBlock := fun j hj e => by have := (hlo _ e.symm).1; omega
                    have hgb : ∀ j, j < w11.heap.size → some j ≠ (Value.slice sa ss.length sc).ownBlock → w12.heap[j]? = w11.heap[j]? := fun j hj hn => (hgrow.block j (Nat.lt_of_lt_of_le hj bal11.size) hn).trans (bal11.block j hj)
                    have Y11 : w11.heap[wa.heap.size]? = some (.cells #[.slice sa ss.length sc] 43 (0, 0)) := (hk11'.block _ (by omega) (by omega)).trans HYq.out
                    have Y12 : w12.heap[wa.heap.size]? = some (.cells #[.slice sa ss.length sc] 43 (0, 0)) := (hgb _ (by omega) (hne _ (Nat.le_refl _))).trans Y11
                    have c9 := run_cell (j := 0) Y12 rfl
                    have f9 := run_frozen (j := 0) Y12
                    have A12 : CuA p tx b5 q8 w12 := (hgb _ (by omega) (hne _ (by omega))).trans hA11
                    have hO12 : RowF 4 46 SymF (Nw (wa.heap.size + 1) w12.heap.size) (.slice (some ⟨gg, 0, none⟩) (ss.length + 1) capg) (ss ++ [t]) w12 := hAdd w11 w12 _ _ _ t rfl (Below.refl _ _) HEn.out hown12 hgrow (hat.imp (fun e => e.symm) (fun e => by rw [e]; simp [Value.ownBlock]))
                    have K12 : Kp (fun q => q = p ∨ wa.heap.size ≤ q) wa w12 := ⟨hgrow.os.trans (bal11.os.trans (hk11'.os.trans HKq.out.os)), hgrow.tape.trans (bal11.tape.trans (hk11'.tape.trans HKq.out.tape)), hgrow.output.trans (bal11.output.trans (hk11'.output.trans HKq.out.output)), by omega, fun j hj hF => (hgb j (by omega) (hne j (by omega))).trans ((hk11'.block j (by omega) (fun e => hF (.inl e))).trans (HKq.out.block j hj hF))⟩
                    have HY13 : Hid ((w12.setCell ⟨wa.heap.size, 0, none⟩ (.slice (some ⟨gg, 0, none⟩) (ss.length + 1) capg)).heap[wa.heap.size]? = some (.cells #[.slice (some ⟨gg, 0, none⟩) (ss.length + 1) capg] 43 (0, 0))) := setCell_self (j := 0) _ Y12
                    have HA13 : Hid (CuA p tx b5 q8 (w12.setCell ⟨wa.heap.size, 0, none⟩ (.slice (some ⟨gg, 0, none⟩) (ss.length + 1) capg))) := (setCell_other _ (by omega)).trans A12
                    have HK13 : Hid (Kp (fun q => q = p ∨ wa.heap.size ≤ q) wa (w12.setCell ⟨wa.heap.size, 0, none⟩ (.slice (some ⟨gg, 0, none⟩) (ss.length + 1) capg))) := K12.trans (Kp.store (.inr (Nat.le_refl _)))
                    have HO13 : Hid (RowF 4 46 SymF (Nw (wa.heap.size + 1) (w12.setCell ⟨wa.heap.size, 0, none⟩ (.slice (some ⟨gg, 0, none⟩) (ss.length + 1) capg)).heap.size) (.slice (some ⟨gg, 0, none⟩) (ss.length + 1) capg) (ss ++ [t]) (w12.setCell ⟨wa.heap.size, 0, none⟩ (.slice (some ⟨gg, 0, none⟩) (ss.length + 1) capg))) :=
                      (hO12.ag stabSym ((Kp.store (F := fun q => q = wa.heap.size) (w := w12) (o := 0) (u := .slice (some ⟨gg, 0, none⟩) (ss.length + 1) capg) rfl).ag (fun q hq e => by have := hq.1; omega))).up (fun q hq => ⟨hq.1, by have h4 := hq.2; simpa [World.setCell] using h4⟩)
                    have HZ13 : Hid (wa.heap.size + 1 ≤ (w12.setCell ⟨wa.heap.size, 0, none⟩ (.slice (some ⟨gg, 0, none⟩) (ss.length + 1) capg)).heap.size) := by rw [Hid]; simp [World.setCell]; omega
                    have HL13 : Hid (LoopS symW SymC symT 4 tx a5 q6 L (ss ++ [t]) b5 q8) := HLq.out.next hlt5 hF11
                    have HS13 : Hid (∀ y ∈ ss ++ [t], SyIn y) := fun x hx => by
                      rcases List.mem_append.1 hx with hx | hx
                      · exact HSq.out x hx
                      · rw [List.mem_singleton.1 hx]; exact ht
                    refine hK.out _ _ (fun hcl5 => ?_)
                    clear hgrow hat hown12 hgs hgb hne bal11 K12 A12 Y11 Y12 hk11 hk11' hA11 hF11 d3 c3 cfl hcs hAdd hO12 htv
                    clear hcl3 hcl4 hHeld
                    refine wpAnyK_past (i := 6) (by assumption) (by kernel_rfl) rfl (by kernel_rfl) (fun K hK => ?_)
                    go_simp
                    refine hK.out _ _ (fun hcl6 => ?_)
                    refine wpAnyK_past (i := 7) (by assumption) (by kernel_rfl) rfl (by kernel_rfl) (fun K hK => ?_)
                    go_simp
                    refine hK.out _ _ (fun hcl7 => ?_)
                    refine wpAnyK_done (by kernel_rfl) ?_
                    clear hcl5 hcl6 hcl7 c9 f9
                    go_wp2
                    go_roundw
                    case rel => exact ⟨ss ++ [t], _, b5, q8, by rw [List.length_append, List.length_singleton]; go_num, ⟨by rw [List.length_append, List.length_singleton]; omega, by rw [List.length_append, List.length_singleton]; omega⟩, HY13.out, HO13.out, HA13.out, ⟨HK13.out, HZ13.out⟩, HL13.out, HS13.out⟩
                    case measure => simp [intOf]; omega
                  · have hor : (¬ ss.length < L) ∨ (ss.length < L ∧ ¬ ss.length < 10) ∨ ((ss.length < L ∧ ss.length < 10) ∧ q7 = true) := by
                      by_cases h1 : ss.length < L
                      · by_cases h2 : ss.length < 10
                        · exact .inr (.inr ⟨⟨h1, h2⟩, eq_true_of_ne_false (fun e => hgo ⟨⟨h1, h2⟩, e⟩)⟩)
                        · exact .inr (.inl ⟨h1, h2⟩)
                      · exact .inl h1
                    have HEx : Hid (q7 = false → L ≤ ss.length ∨ 10 ≤ ss.length) := fun e => by
                      rcases hor with h | h | h
                      · exact .inl (by omega)
                      · exact .inr (by omega)
                      · rw [h.2] at e; cases e
                    have HFd : Hid (Fd (listW symW) (ListC 10 SymC) (listT symT) 5 tx b3 false ss b4 q7) := HLq.out.fin (by decide) HF10.out hsL HEx.out
                    clear hgo HEx HLq
                    rcases hor with hno | ⟨hyes, hno⟩ | ⟨⟨hyes, hyes3⟩, rfl⟩
                    · have i4 : ¬ (ss.length : Int) < (L : Int) := by omega
                      go_wp2_with fail
                      go_meet
                      exact ⟨ss, _, b4, q7, HYq.out, HOq.out, HAq.out, ⟨HKq.out, HZq.out⟩, HFd.out, HSq.out⟩
                    · have i4 : (ss.length : Int) < (L : Int) := by omega
                      have i5 : ¬ (ss.length : Int) < 10 := by omega
                      go_wp2_with fail
                      go_meet
                      exact ⟨ss, _, b4, q7, HYq.out, HOq.out, HAq.out, ⟨HKq.out, HZq.out⟩, HFd.out, HSq.out⟩
                    · have i4 : (ss.length : Int) < (L : Int) := by omega
                      have i5 : (ss.length : Int) < 10 := by omega
                      go_wp2_with fail
                      go_meet
                      exact ⟨ss, _, b4, true, HYq.out, HOq.out, HAq.out, ⟨HKq.out, HZq.out⟩, HFd.out, HSq.out⟩
              case rest =>
                obtain ⟨ss, sv, b4, q7, hy0, ho0, hA0, ⟨hK0, hZ0⟩, hF0, hS0⟩ := hcut
                obtain ⟨sa, sc, rfl⟩ := ho0.slice
                have hXk' := HX.out
                have hSk' := HSk.out
                have hZa := HZa.out
                have hXZ := HXZ.out
                have HAc : Hid (CuA p tx b4 q7 wc) := hA0
                have HKc : Hid (Kp (fun q => q = p ∨ X ≤ q) wk wc) := HKa.out.trans (hK0.up (fun k hk => hk.imp_right (fun h => by omega)))
                have hXc : wc.heap[X]? = some (.cells #[.string nm, .slice pa ps.length pc, .slice ra ls.length rc] 40 (0, 0)) := (hK0.block _ (by omega) (by omega)).trans HXa.out
                have HXc : Hid (wc.heap[X]? = some (.cells #[.string nm, .slice pa ps.length pc, .slice ra ls.length rc] 40 (0, 0))) := hXc
                have HPc : Hid (OwnB (X + 1) (.slice pa ps.length pc) ps wc) := own_ag HPa.out (F := fun q => X + 1 ≤ q ∧ q < wa.heap.size) (hK0.ag (fun q hq e => by have := hq.1; have := hq.2; omega)) (fun q hq => World.ownsRow.lt HPa.out q hq)
                have HOc : RowF 1 43 AltF (Nw Z wa.heap.size) (.slice ra ls.length rc) ls wc := HOa.out.ag stabAlt (hK0.ag (fun q hq e => by have := hq.1; have := hq.2; omega))
                have hwc : wa.heap.size ≤ wc.heap.size := hK0.size
                obtain ⟨cs, hcs, hAdd⟩ := HOc.add stabAlt HZa.out hwc
                have HCs : Hid (wc.ownsRow 0 43 1 (.slice ra ls.length rc) ls.length cs) := hcs
                have HAdd : Hid (_) := hAdd
                have hne : ∀ q, (Value.slice ra ls.length rc).ownBlock = some q → Z ≤ q ∧ q < wa.heap.size := fun q hq => (HOa.out.lt q hq).1
                have HEn : Hid (AltF (Nw wa.heap.size wc.heap.size) wc [.slice sa ss.length sc] ss) := ⟨_, rfl, ho0.up (fun q hq => ⟨by have := hq.1; omega, hq.2⟩)⟩
                have HLn : Hid (LoopS altW (ListC 10 SymC) (listT symT) 5 tx a3 q4 M (ls ++ [ss]) b4 q7) := HLa.out.next hlt2 hF0
                have HSn : Hid (∀ a ∈ ls ++ [ss], ∀ y ∈ a, SyIn y) := fun x hx => by
                  rcases List.mem_append.1 hx with hx | hx
                  · exact HSa.out x hx
                  · rw [List.mem_singleton.1 hx]; exact hS0
                have e0 := run_cell (j := 0) hy0 rfl
                have e2 := run_cell (j := 2) hXc rfl
                clear hy0 ho0 hA0 hK0 hZ0 hF0 hS0 hXc HOc hcs hAdd HY10 HA10 HK10 HS10 HF10
                go_wp2_with (at_builtin; refine wpList_append_own_at _ rfl _ _ 38 rfl 0 43 k0 _ 1 24 Tryz.underlying38 ki kz0 kz1 kz2 rfl (by decide) _ _ _ rfl (World.ownsRow.alloc HCs.out _) ⟨_, 0, none⟩ 1 1 [.slice sa ss.length sc] rfl rfl (cellsR _ _ _) (by intro u hu; simp only [List.mem_cons, List.not_mem_nil, or_false] at hu; rcases hu with rfl; rfl) (by unfold maxLen; omega) (by omega) (Nat.zero_le _) ?_)
                intro v9 w9 hown9 hgr9 _ hat9
                obtain ⟨a9, k9, rfl⟩ := shapeR hown9
                have hs9 : wc.heap.size + 1 ≤ w9.heap.size := by have := hgr9.size; rw [World.size_alloc] at this; exact this
                have hgb : ∀ j, j < wc.heap.size → (∀ q, (Value.slice ra ls.length rc).ownBlock = some q → j ≠ q) → w9.heap[j]? = wc.heap[j]? := fun j hj hn => (hgr9.block j (by rw [World.size_alloc]; omega) (fun e => hn _ e.symm rfl)).trans (Below.heap_alloc _ _ j hj)
                have hO9 : RowF 1 43 AltF (Nw Z w9.heap.size) (.slice a9 (ls.length + 1) k9) (ls ++ [ss]) w9 := HAdd.out wc w9 _ _ _ ss rfl (Below.refl _ _) HEn.out hown9 hgr9 (hatR hat9)
                have hX9 : w9.heap[X]? = some (.cells #[.string nm, .slice pa ps.length pc, .slice ra ls.length rc] 40 (0, 0)) := (hgb _ (by omega) (fun q hq => by have := hne q hq; omega)).trans HXc.out
                have c9 := run_cell (j := 2) hX9 rfl
                have f9 := run_frozen (j := 2) hX9
                have kst : Kp (fun q => q = X) w9 (w9.setCell ⟨X, 2, none⟩ (.slice a9 (ls.length + 1) k9)) := Kp.store rfl
                have hsz9 : (w9.setCell ⟨X, 2, none⟩ (.slice a9 (ls.length + 1) k9)).heap.size = w9.heap.size := by simp [World.setCell]
                have HX10 : Hid ((w9.setCell ⟨X, 2, none⟩ (.slice a9 (ls.length + 1) k9)).heap[X]? = some (.cells #[.string nm, .slice pa ps.length pc, .slice a9 (ls.length + 1) k9] 40 (0, 0))) := setCell_self (j := 2) _ hX9
                have HA14 : Hid (CuA p tx b4 q7 (w9.setCell ⟨X, 2, none⟩ (.slice a9 (ls.length + 1) k9))) := (setCell_other _ (by omega)).trans ((hgb _ (by omega) (fun q hq => by have := hne q hq; omega)).trans HAc.out)
                have HO14 : Hid (RowF 1 43 AltF (Nw Z (w9.setCell ⟨X, 2, none⟩ (.slice a9 (ls.length + 1) k9)).heap.size) (.slice a9 (ls.length + 1) k9) (ls ++ [ss]) (w9.setCell ⟨X, 2, none⟩ (.slice a9 (ls.length + 1) k9))) :=
                  (hO9.ag stabAlt (kst.ag (fun q hq e => by have := hq.1; omega))).up (fun q hq => ⟨hq.1, by rw [hsz9]; exact hq.2⟩)
                have hP9 : OwnB (X + 1) (.slice pa ps.length pc) ps w9 := own_ag HPc.out (F := fun q => X + 1 ≤ q ∧ q < Z) ⟨by omega, fun q hq hl => hgb q hl (fun r hr e => by have := hne r hr; have := hq.2; omega)⟩ (fun q hq => HPz.out q hq)
                have HP14 : Hid (OwnB (X + 1) (.slice pa ps.length pc) ps (w9.setCell ⟨X, 2, none⟩ (.slice a9 (ls.length + 1) k9))) := own_ag hP9 (F := fun q => X + 1 ≤ q) (kst.ag (fun q hq e => by omega)) (fun q hq => (World.ownsRow.lt hP9 q hq).1)
                have HK14 : Hid (Kp (fun q => q = p ∨ X ≤ q) wk (w9.setCell ⟨X, 2, none⟩ (.slice a9 (ls.length + 1) k9))) := ⟨hgr9.os.trans HKc.out.os, hgr9.tape.trans HKc.out.tape, hgr9.output.trans HKc.out.output, by have := HKc.out.size; rw [hsz9]; omega, fun j hj hF => (setCell_other _ (fun e => hF (.inr (Nat.le_of_eq e.symm)))).trans ((hgb j (by have := HKc.out.size; omega) (fun q hq => by have := hne q hq; omega)).trans (HKc.out.block j hj hF))⟩
                have HZ14 : Hid (Z ≤ (w9.setCell ⟨X, 2, none⟩ (.slice a9 (ls.length + 1) k9)).heap.size) := by rw [Hid, hsz9]; omega
                clear hown9 hgr9 hat9 hgb hO9 hX9 hP9 kst hsz9
                go_wp2
                go_roundw
                case rel => exact ⟨ls ++ [ss], _, b4, q7, by rw [List.length_append, List.length_singleton]; go_num, ⟨by rw [List.length_append, List.length_singleton]; omega, by rw [List.length_append, List.length_singleton]; omega⟩, HX10.out, HP14.out, HO14.out, HA14.out, ⟨HK14.out, HZ14.out⟩, HLn.out, HSn.out⟩
                case measure => simp [intOf]; omega
            · have hor : (¬ ls.length < M) ∨ (ls.length < M ∧ ¬ ls.length < 10) ∨ ((ls.length < M ∧ ls.length < 10) ∧ q5 = true) := by
                by_cases h1 : ls.length < M
                · by_cases h2 : ls.length < 10
                  · exact .inr (.inr ⟨⟨h1, h2⟩, eq_true_of_ne_false (fun e => hgo ⟨⟨h1, h2⟩, e⟩)⟩)
                  · exact .inr (.inl ⟨h1, h2⟩)
                · exact .inl h1
              have HEx : Hid (q5 = false → M ≤ ls.length ∨ 10 ≤ ls.length) := fun e => by
                rcases hor with h | h | h
                · exact .inl (by omega)
                · exact .inr (by omega)
                · rw [h.2] at e; cases e
              have HFd : Hid (Fd (listW altW) (ListC 10 (ListC 10 SymC)) (listT (listT symT)) 6 tx b2 q3 ls b3 q5) := HLa.out.fin (by decide) HF8.out haM HEx.out
              clear hgo HEx HLa
              rcases hor with hno | ⟨hyes, hno⟩ | ⟨⟨hyes, hyes3⟩, rfl⟩
              · have i4 : ¬ (ls.length : Int) < (M : Int) := by omega
                go_wp2_with fail
                go_meet
                exact ⟨ls, _, b3, q5, HXa.out, HPa.out, HOa.out, HAa.out, ⟨HKa.out, HZa.out⟩, HFd.out, HSa.out⟩
              · have i4 : (ls.length : Int) < (M : Int) := by omega
                have i5 : ¬ (ls.length : Int) < 10 := by omega
                go_wp2_with fail
                go_meet
                exact ⟨ls, _, b3, q5, HXa.out, HPa.out, HOa.out, HAa.out, ⟨HKa.out, HZa.out⟩, HFd.out, HSa.out⟩
              · have i4 : (ls.length : Int) < (M : Int) := by omega
                have i5 : (ls.length : Int) < 10 := by omega
                go_wp2_with fail
                go_meet
                exact ⟨ls, _, b3, true, HXa.out, HPa.out, HOa.out, HAa.out, ⟨HKa.out, HZa.out⟩, HFd.out, HSa.out⟩
        case rest =>
          obtain ⟨ls, av, b3, q5, hx0, hp0, ho0, hA0, ⟨hK0, hZ0⟩, hF0, hS0⟩ := hcut
          obtain ⟨ra, rc, rfl⟩ := ho0.slice
          have hXk' := HX.out
          have hSk' := HSk.out
          have hXZ := HXZ.out
          have hPp := HP.out
          have HAc : Hid (CuA p tx b3 q5 wc) := hA0
          have HKc : Hid (Kp (fun q => q = p ∨ X ≤ q) wk wc) := hK0
          have hGc : wc.heap[p + 1]? = some (.cells #[.slice oa xs.length oc] 24 (0, 0)) := (hK0.block _ (by omega) (by omega)).trans HGk.out
          have HGc : Hid (wc.heap[p + 1]? = some (.cells #[.slice oa xs.length oc] 24 (0, 0))) := hGc
          have HRc : Hid (wc.heap[w.heap.size]? = some (.cells #[.slice none 0 0] 24 (0, 0))) := (hK0.block _ (by omega) (by omega)).trans HRk.out
          have HOc : RowF 3 40 RuleF (Nw (p + 2) wk.heap.size) (.slice oa xs.length oc) xs wc := HOk.out.ag stabRule (hK0.ag (fun q hq e => by have := hq.1; have := hq.2; omega))
          have hwc : wk.heap.size ≤ wc.heap.size := hK0.size
          obtain ⟨cs, hcs, hAdd⟩ := HOc.add stabRule HSk.out hwc
          have HCs : Hid (wc.ownsRow 0 40 3 (.slice oa xs.length oc) xs.length cs) := hcs
          have HAdd : Hid (_) := hAdd
          have hne : ∀ q, (Value.slice oa xs.length oc).ownBlock = some q → p + 2 ≤ q ∧ q < wk.heap.size := fun q hq => (HOk.out.lt q hq).1
          have HEn : Hid (RuleF (Nw wk.heap.size wc.heap.size) wc [.string nm, .slice pa ps.length pc, .slice ra ls.length rc] ⟨nm, ps, ls⟩) := by
            refine ⟨_, _, fun q => X + 1 ≤ q ∧ q < Z, Nw Z wc.heap.size, rfl, own_baseR hp0 (Nat.zero_le _), fun q hq => HPz.out q hq, ho0, fun q hq => ⟨by have := hq.1; omega, by have := hq.2; omega⟩, fun q hq => ⟨by have := hq.1; omega, hq.2⟩, fun q hq hq2 => by have := hq.2; have := hq2.1; omega⟩
          have HRf : Hid (Fd ruleW RuleC ruleT16 6 tx b false ⟨nm, ps, ls⟩ b3 q5) := rule_fd HF5.out HFp.out hF0
          have HLn : Hid (LoopS ruleW RuleC ruleT16 6 tx a1 g1 N (xs ++ [⟨nm, ps, ls⟩]) b3 q5) := HLk.out.next hlt HRf.out
          have HSn : Hid (∀ x ∈ xs ++ [(⟨nm, ps, ls⟩ : RuleD)], RuIn x) := fun x hx => by
            rcases List.mem_append.1 hx with hx | hx
            · exact HIk.out x hx
            · rw [List.mem_singleton.1 hx]; exact ⟨hnm, HPs.out, hS0⟩
          have e0 := run_cell (j := 0) hGc rfl
          have x0 := run_cell (j := 0) hx0 rfl
          have x1 := run_cell (j := 1) hx0 rfl
          have x2 := run_cell (j := 2) hx0 rfl
          clear hx0 hp0 ho0 hA0 hK0 hZ0 hF0 hS0 hGc HOc hcs hAdd HX8 HP8 HA8 HK8 HF8
          go_wp2_with (at_builtin; refine wpList_append_own_at _ rfl _ _ 22 rfl 0 40 i0 _ 3 64 Tryz.underlying22 hi hz0 hz1 hz2 rfl (by decide) _ _ _ rfl (World.ownsRow.alloc HCs.out _) ⟨_, 0, none⟩ 1 1 [.string nm, .slice pa ps.length pc, .slice ra ls.length rc] rfl rfl (cellsR _ _ _) (by intro u hu; simp only [List.mem_cons, List.not_mem_nil, or_false] at hu; rcases hu with rfl | rfl | rfl <;> rfl) (by unfold maxLen; omega) (by omega) (Nat.zero_le _) ?_)
          intro v9 w9 hown9 hgr9 _ hat9
          obtain ⟨a9, k9, rfl⟩ := shapeR hown9
          have hs9 : wc.heap.size + 1 ≤ w9.heap.size := by have := hgr9.size; rw [World.size_alloc] at this; exact this
          have hgb : ∀ j, j < wc.heap.size → (∀ q, (Value.slice oa xs.length oc).ownBlock = some q → j ≠ q) → w9.heap[j]? = wc.heap[j]? := fun j hj hn => (hgr9.block j (by rw [World.size_alloc]; omega) (fun e => hn _ e.symm rfl)).trans (Below.heap_alloc _ _ j hj)
          have hO9 : RowF 3 40 RuleF (Nw (p + 2) w9.heap.size) (.slice a9 (xs.length + 1) k9) (xs ++ [⟨nm, ps, ls⟩]) w9 := HAdd.out wc w9 _ _ _ ⟨nm, ps, ls⟩ rfl (Below.refl _ _) HEn.out hown9 hgr9 (hatR hat9)
          have hG9 : w9.heap[p + 1]? = some (.cells #[.slice oa xs.length oc] 24 (0, 0)) := (hgb _ (by omega) (fun q hq => by have := hne q hq; omega)).trans HGc.out
          have c9 := run_cell (j := 0) hG9 rfl
          have f9 := run_frozen (j := 0) hG9
          have kst : Kp (fun q => q = p + 1) w9 (w9.setCell ⟨p + 1, 0, none⟩ (.slice a9 (xs.length + 1) k9)) := Kp.store rfl
          have hsz9 : (w9.setCell ⟨p + 1, 0, none⟩ (.slice a9 (xs.length + 1) k9)).heap.size = w9.heap.size := by simp [World.setCell]
          have HG10 : Hid ((w9.setCell ⟨p + 1, 0, none⟩ (.slice a9 (xs.length + 1) k9)).heap[p + 1]? = some (.cells #[.slice a9 (xs.length + 1) k9] 24 (0, 0))) := setCell_self (j := 0) _ hG9
          have HR10 : Hid ((w9.setCell ⟨p + 1, 0, none⟩ (.slice a9 (xs.length + 1) k9)).heap[w.heap.size]? = some (.cells #[.slice none 0 0] 24 (0, 0))) := (setCell_other _ (by omega)).trans ((hgb _ (by omega) (fun q hq => by have := hne q hq; omega)).trans HRc.out)
          have HA14 : Hid (CuA p tx b3 q5 (w9.setCell ⟨p + 1, 0, none⟩ (.slice a9 (xs.length + 1) k9))) := (setCell_other _ (by omega)).trans ((hgb _ (by omega) (fun q hq => by have := hne q hq; omega)).trans HAc.out)
          have HO14 : Hid (RowF 3 40 RuleF (Nw (p + 2) (w9.setCell ⟨p + 1, 0, none⟩ (.slice a9 (xs.length + 1) k9)).heap.size) (.slice a9 (xs.length + 1) k9) (xs ++ [⟨nm, ps, ls⟩]) (w9.setCell ⟨p + 1, 0, none⟩ (.slice a9 (xs.length + 1) k9))) :=
            (hO9.ag stabRule (kst.ag (fun q hq e => by have := hq.1; omega))).up (fun q hq => ⟨hq.1, by rw [hsz9]; exact hq.2⟩)
          have HB14 : Hid (Below w.heap.size w (w9.setCell ⟨p + 1, 0, none⟩ (.slice a9 (xs.length + 1) k9))) := ⟨hgr9.os.trans (HKc.out.os.trans HBk.out.os), hgr9.tape.trans (HKc.out.tape.trans HBk.out.tape), hgr9.output.trans (HKc.out.output.trans HBk.out.output), by have := HBk.out.size; rw [hsz9]; omega, fun j hj => (setCell_other _ (by omega)).trans ((hgb j (by have := HBk.out.size; omega) (fun q hq => by have := hne q hq; omega)).trans ((HKc.out.block j (by have := HBk.out.size; omega) (by have := HBk.out.size; omega)).trans (HBk.out.block j hj)))⟩
          have HS14 : Hid (p + 2 ≤ (w9.setCell ⟨p + 1, 0, none⟩ (.slice a9 (xs.length + 1) k9)).heap.size) := by rw [Hid, hsz9]; omega
          clear hown9 hgr9 hat9 hgb hO9 hG9 kst hsz9
          go_wp2
          go_roundw
          case rel => exact ⟨xs ++ [⟨nm, ps, ls⟩], _, b3, q5, by rw [List.length_append, List.length_singleton]; go_num, ⟨by rw [List.length_append, List.length_singleton]; omega, by rw [List.length_append, List.length_singleton]; omega⟩, HG10.out, HR10.out, HO14.out, HA14.out, ⟨HB14.out, HS14.out⟩, HLn.out, HSn.out⟩
          case measure => simp [intOf]; omega
    · have hor : (¬ xs.length < N) ∨ (xs.length < N ∧ ¬ xs.length < 40) ∨ ((xs.length < N ∧ xs.length < 40) ∧ g = true) := by
        by_cases h1 : xs.length < N
        · by_cases h2 : xs.length < 40
          · exact .inr (.inr ⟨⟨h1, h2⟩, eq_true_of_ne_false (fun e => hgo ⟨⟨h1, h2⟩, e⟩)⟩)
          · exact .inr (.inl ⟨h1, h2⟩)
        · exact .inl h1
      have HEx : Hid (g = false → N ≤ xs.length ∨ 40 ≤ xs.length) := fun e => by
        rcases hor with h | h | h
        · exact .inl (by omega)
        · exact .inr (by omega)
        · rw [h.2] at e; cases e
      have HFd : Hid (Fd (listW ruleW) (ListC 40 RuleC) (listT ruleT16) 7 tx 0 (!ok) xs b g) := HLk.out.fin (by decide) HF2.out hkN HEx.out
      have HAn : Hid (_) := rd_answer HYes.out HNo.out HFd.out
      have HTt : Hid (listT ruleT16 xs ≤ 20007) := by have := HFd.out.tot; have := HFd.out.up; have := HTx.out; rw [Hid]; omega
      have HT2 : Hid (g = false → listT ruleT16 xs ≤ 20004) := fun e => by have := HFd.out.pos e; have := HFd.out.up; have := HTx.out; omega
      have HCl : Hid (∀ _ : Unit, _) := fun _ => specGrammarText_any (.slice oa xs.length oc) xs wk (by have h1 := gramT_tot xs; have := HTt.out; omega) (ruIns_in HIk.out (by have := HTt.out; omega)) (HOk.out.rowC (fun F w vs x h => h.e))
      have e0 := run_cell (j := 0) HGk.out rfl
      have hSk := HSk.out
      have hPp := HP.out
      clear hgo HEx HLk HFd HF2 HTt
      cases g with
      | true =>
        have HN : Hid (∀ x, gramO x = true → gramT x ≠ s.data.toList) := HAn.out.1 (by trivial)
        clear HAn
        generalize str (gramT xs) = st at *
        generalize gramO xs = gO at *
        rcases hor with hno | ⟨hyes, hno⟩ | ⟨⟨hyes, hyes3⟩, hgt⟩
        · have i4 : ¬ (xs.length : Int) < (N : Int) := by omega
          go_wp2_with fail
          refine (HCl.out ()).mono ?_
          rintro e w6 ⟨rfl, hb6⟩
          have r6 : w6.heap[w.heap.size]? = some (.cells #[.slice none 0 0] 24 (0, 0)) := (hb6.block _ (by omega)).trans HRk.out
          have g6 : w6.heap[p + 1]? = some (.cells #[.slice oa xs.length oc] 24 (0, 0)) := (hb6.block _ (by omega)).trans HGk.out
          have a6 : CuA p tx b true w6 := CuA.below HAk.out hb6
          have B6 : Below w.heap.size w w6 := HBk.out.trans (hb6.mono HBk.out.size)
          have h6 := hb6.size
          have p1 := run_cell (j := 2) a6 rfl
          have p2 := run_cell (j := 0) g6 rfl
          have p3 := run_cell (j := 0) r6 rfl
          have p4 := run_frozen (j := 0) r6
          have z0 : (w6.setCell ⟨w.heap.size, 0, none⟩ (.slice none 0 0)).cell? ⟨w.heap.size, 0, none⟩ = some (.slice none 0 0) := run_cell (setCell_self (j := 0) _ r6) rfl
          have HB9 : Hid (Below w.heap.size w (w6.setCell ⟨w.heap.size, 0, none⟩ (.slice none 0 0))) := B6.setCell (Nat.le_refl _) _
          clear r6 g6 a6 B6 hb6
          go_wp2
          refine bodyPost_ret (by simp [results, Tryz.results4, go_sem, z0]; try rfl) rfl ?_
          exact ⟨HB9.out, .inr ⟨HN.out, rfl⟩⟩
        · have i4 : (xs.length : Int) < (N : Int) := by omega
          have i5 : ¬ (xs.length : Int) < 40 := by omega
          go_wp2_with fail
          refine (HCl.out ()).mono ?_
          rintro e w6 ⟨rfl, hb6⟩
          have r6 : w6.heap[w.heap.size]? = some (.cells #[.slice none 0 0] 24 (0, 0)) := (hb6.block _ (by omega)).trans HRk.out
          have g6 : w6.heap[p + 1]? = some (.cells #[.slice oa xs.length oc] 24 (0, 0)) := (hb6.block _ (by omega)).trans HGk.out
          have a6 : CuA p tx b true w6 := CuA.below HAk.out hb6
          have B6 : Below w.heap.size w w6 := HBk.out.trans (hb6.mono HBk.out.size)
          have h6 := hb6.size
          have p1 := run_cell (j := 2) a6 rfl
          have p2 := run_cell (j := 0) g6 rfl
          have p3 := run_cell (j := 0) r6 rfl
          have p4 := run_frozen (j := 0) r6
          have z0 : (w6.setCell ⟨w.heap.size, 0, none⟩ (.slice none 0 0)).cell? ⟨w.heap.size, 0, none⟩ = some (.slice none 0 0) := run_cell (setCell_self (j := 0) _ r6) rfl
          have HB9 : Hid (Below w.heap.size w (w6.setCell ⟨w.heap.size, 0, none⟩ (.slice none 0 0))) := B6.setCell (Nat.le_refl _) _
          clear r6 g6 a6 B6 hb6
          go_wp2
          refine bodyPost_ret (by simp [results, Tryz.results4, go_sem, z0]; try rfl) rfl ?_
          exact ⟨HB9.out, .inr ⟨HN.out, rfl⟩⟩
        · have i4 : (xs.length : Int) < (N : Int) := by omega
          have i5 : (xs.length : Int) < 40 := by omega
          go_wp2_with fail
          refine (HCl.out ()).mono ?_
          rintro e w6 ⟨rfl, hb6⟩
          have r6 : w6.heap[w.heap.size]? = some (.cells #[.slice none 0 0] 24 (0, 0)) := (hb6.block _ (by omega)).trans HRk.out
          have g6 : w6.heap[p + 1]? = some (.cells #[.slice oa xs.length oc] 24 (0, 0)) := (hb6.block _ (by omega)).trans HGk.out
          have a6 : CuA p tx b true w6 := CuA.below HAk.out hb6
          have B6 : Below w.heap.size w w6 := HBk.out.trans (hb6.mono HBk.out.size)
          have h6 := hb6.size
          have p1 := run_cell (j := 2) a6 rfl
          have p2 := run_cell (j := 0) g6 rfl
          have p3 := run_cell (j := 0) r6 rfl
          have p4 := run_frozen (j := 0) r6
          have z0 : (w6.setCell ⟨w.heap.size, 0, none⟩ (.slice none 0 0)).cell? ⟨w.heap.size, 0, none⟩ = some (.slice none 0 0) := run_cell (setCell_self (j := 0) _ r6) rfl
          have HB9 : Hid (Below w.heap.size w (w6.setCell ⟨w.heap.size, 0, none⟩ (.slice none 0 0))) := B6.setCell (Nat.le_refl _) _
          clear r6 g6 a6 B6 hb6
          go_wp2
          refine bodyPost_ret (by simp [results, Tryz.results4, go_sem, z0]; try rfl) rfl ?_
          exact ⟨HB9.out, .inr ⟨HN.out, rfl⟩⟩
      | false =>
        have HDt : Hid (∀ x, gramO x = true → gramT x = s.data.toList → xs = x) := HAn.out.2 (by trivial)
        clear HAn
        cases hO : gramO xs with
        | false =>
          have HN : Hid (∀ x, gramO x = true → gramT x ≠ s.data.toList) := fun g hg e => by
            rw [HDt.out g hg e, hg] at hO
            cases hO
          rw [hO] at HCl
          clear hO
          generalize str (gramT xs) = st at *
          rcases hor with hno | ⟨hyes, hno⟩ | ⟨⟨hyes, hyes3⟩, hgt⟩
          · have i4 : ¬ (xs.length : Int) < (N : Int) := by omega
            go_wp2_with fail
            refine (HCl.out ()).mono ?_
            rintro e w6 ⟨rfl, hb6⟩
            have r6 : w6.heap[w.heap.size]? = some (.cells #[.slice none 0 0] 24 (0, 0)) := (hb6.block _ (by omega)).trans HRk.out
            have g6 : w6.heap[p + 1]? = some (.cells #[.slice oa xs.length oc] 24 (0, 0)) := (hb6.block _ (by omega)).trans HGk.out
            have a6 : CuA p tx b false w6 := CuA.below HAk.out hb6
            have B6 : Below w.heap.size w w6 := HBk.out.trans (hb6.mono HBk.out.size)
            have h6 := hb6.size
            have p1 := run_cell (j := 2) a6 rfl
            have p2 := run_cell (j := 0) g6 rfl
            have p3 := run_cell (j := 0) r6 rfl
            have p4 := run_frozen (j := 0) r6
            have z0 : (w6.setCell ⟨w.heap.size, 0, none⟩ (.slice none 0 0)).cell? ⟨w.heap.size, 0, none⟩ = some (.slice none 0 0) := run_cell (setCell_self (j := 0) _ r6) rfl
            have HB9 : Hid (Below w.heap.size w (w6.setCell ⟨w.heap.size, 0, none⟩ (.slice none 0 0))) := B6.setCell (Nat.le_refl _) _
            clear r6 g6 a6 B6 hb6
            go_wp2
            refine bodyPost_ret (by simp [results, Tryz.results4, go_sem, z0]; try rfl) rfl ?_
            exact ⟨HB9.out, .inr ⟨HN.out, rfl⟩⟩
          · have i4 : (xs.length : Int) < (N : Int) := by omega
            have i5 : ¬ (xs.length : Int) < 40 := by omega
            go_wp2_with fail
            refine (HCl.out ()).mono ?_
            rintro e w6 ⟨rfl, hb6⟩
            have r6 : w6.heap[w.heap.size]? = some (.cells #[.slice none 0 0] 24 (0, 0)) := (hb6.block _ (by omega)).trans HRk.out
            have g6 : w6.heap[p + 1]? = some (.cells #[.slice oa xs.length oc] 24 (0, 0)) := (hb6.block _ (by omega)).trans HGk.out
            have a6 : CuA p tx b false w6 := CuA.below HAk.out hb6
            have B6 : Below w.heap.size w w6 := HBk.out.trans (hb6.mono HBk.out.size)
            have h6 := hb6.size
            have p1 := run_cell (j := 2) a6 rfl
            have p2 := run_cell (j := 0) g6 rfl
            have p3 := run_cell (j := 0) r6 rfl
            have p4 := run_frozen (j := 0) r6
            have z0 : (w6.setCell ⟨w.heap.size, 0, none⟩ (.slice none 0 0)).cell? ⟨w.heap.size, 0, none⟩ = some (.slice none 0 0) := run_cell (setCell_self (j := 0) _ r6) rfl
            have HB9 : Hid (Below w.heap.size w (w6.setCell ⟨w.heap.size, 0, none⟩ (.slice none 0 0))) := B6.setCell (Nat.le_refl _) _
            clear r6 g6 a6 B6 hb6
            go_wp2
            refine bodyPost_ret (by simp [results, Tryz.results4, go_sem, z0]; try rfl) rfl ?_
            exact ⟨HB9.out, .inr ⟨HN.out, rfl⟩⟩
          · cases hgt
        | true =>
          rw [hO] at HCl
          by_cases hq : str (gramT xs) = s
          · have HE : Hid (gramO xs = true ∧ gramT xs = s.data.toList) := ⟨hO, str_bne.1 hq⟩
            have q1 : (s.toList == s.toList) = true := beq_self_eq_true _
            rw [hq] at HCl
            clear hO hq
            rcases hor with hno | ⟨hyes, hno⟩ | ⟨⟨hyes, hyes3⟩, hgt⟩
            · have i4 : ¬ (xs.length : Int) < (N : Int) := by omega
              go_wp2_with fail
              refine (HCl.out ()).mono ?_
              rintro e w6 ⟨rfl, hb6⟩
              have r6 : w6.heap[w.heap.size]? = some (.cells #[.slice none 0 0] 24 (0, 0)) := (hb6.block _ (by omega)).trans HRk.out
              have g6 : w6.heap[p + 1]? = some (.cells #[.slice oa xs.length oc] 24 (0, 0)) := (hb6.block _ (by omega)).trans HGk.out
              have a6 : CuA p tx b false w6 := CuA.below HAk.out hb6
              have B6 : Below w.heap.size w w6 := HBk.out.trans (hb6.mono HBk.out.size)
              have h6 := hb6.size
              have p1 := run_cell (j := 2) a6 rfl
              have p2 := run_cell (j := 0) g6 rfl
              have p3 := run_cell (j := 0) r6 rfl
              have p4 := run_frozen (j := 0) r6
              have z0 : (w6.setCell ⟨w.heap.size, 0, none⟩ (.slice oa xs.length oc)).cell? ⟨w.heap.size, 0, none⟩ = some (.slice oa xs.length oc) := run_cell (setCell_self (j := 0) _ r6) rfl
              have HB9 : Hid (Below w.heap.size w (w6.setCell ⟨w.heap.size, 0, none⟩ (.slice oa xs.length oc))) := B6.setCell (Nat.le_refl _) _
              have HO9 : Hid (RowF 3 40 RuleF (Nw w.heap.size (w6.setCell ⟨w.heap.size, 0, none⟩ (.slice oa xs.length oc)).heap.size) (.slice oa xs.length oc) xs (w6.setCell ⟨w.heap.size, 0, none⟩ (.slice oa xs.length oc))) := by
                have hz : (w6.setCell ⟨w.heap.size, 0, none⟩ (.slice oa xs.length oc)).heap.size = w6.heap.size := by simp [World.setCell]
                exact ((HOk.out.below stabRule hb6).ag stabRule ((Kp.store (F := fun q => q = w.heap.size) (w := w6) (o := 0) (u := .slice oa xs.length oc) rfl).ag (fun q hq e => by have := hq.1; omega))).up (fun q hq => ⟨by have := hq.1; omega, by have := hq.2; omega⟩)
              clear r6 g6 a6 B6 hb6
              go_wp2
              refine bodyPost_ret (by simp [results, Tryz.results4, go_sem, z0]; try rfl) rfl ?_
              exact ⟨HB9.out, .inl ⟨xs, _, HE.out.1, HE.out.2, HT2.out (by trivial), rfl, HO9.out⟩⟩
            · have i4 : (xs.length : Int) < (N : Int) := by omega
              have i5 : ¬ (xs.length : Int) < 40 := by omega
              go_wp2_with fail
              refine (HCl.out ()).mono ?_
              rintro e w6 ⟨rfl, hb6⟩
              have r6 : w6.heap[w.heap.size]? = some (.cells #[.slice none 0 0] 24 (0, 0)) := (hb6.block _ (by omega)).trans HRk.out
              have g6 : w6.heap[p + 1]? = some (.cells #[.slice oa xs.length oc] 24 (0, 0)) := (hb6.block _ (by omega)).trans HGk.out
              have a6 : CuA p tx b false w6 := CuA.below HAk.out hb6
              have B6 : Below w.heap.size w w6 := HBk.out.trans (hb6.mono HBk.out.size)
              have h6 := hb6.size
              have p1 := run_cell (j := 2) a6 rfl
              have p2 := run_cell (j := 0) g6 rfl
              have p3 := run_cell (j := 0) r6 rfl
              have p4 := run_frozen (j := 0) r6
              have z0 : (w6.setCell ⟨w.heap.size, 0, none⟩ (.slice oa xs.length oc)).cell? ⟨w.heap.size, 0, none⟩ = some (.slice oa xs.length oc) := run_cell (setCell_self (j := 0) _ r6) rfl
              have HB9 : Hid (Below w.heap.size w (w6.setCell ⟨w.heap.size, 0, none⟩ (.slice oa xs.length oc))) := B6.setCell (Nat.le_refl _) _
              have HO9 : Hid (RowF 3 40 RuleF (Nw w.heap.size (w6.setCell ⟨w.heap.size, 0, none⟩ (.slice oa xs.length oc)).heap.size) (.slice oa xs.length oc) xs (w6.setCell ⟨w.heap.size, 0, none⟩ (.slice oa xs.length oc))) := by
                have hz : (w6.setCell ⟨w.heap.size, 0, none⟩ (.slice oa xs.length oc)).heap.size = w6.heap.size := by simp [World.setCell]
                exact ((HOk.out.below stabRule hb6).ag stabRule ((Kp.store (F := fun q => q = w.heap.size) (w := w6) (o := 0) (u := .slice oa xs.length oc) rfl).ag (fun q hq e => by have := hq.1; omega))).up (fun q hq => ⟨by have := hq.1; omega, by have := hq.2; omega⟩)
              clear r6 g6 a6 B6 hb6
              go_wp2
              refine bodyPost_ret (by simp [results, Tryz.results4, go_sem, z0]; try rfl) rfl ?_
              exact ⟨HB9.out, .inl ⟨xs, _, HE.out.1, HE.out.2, HT2.out (by trivial), rfl, HO9.out⟩⟩
            · cases hgt
          · have HN : Hid (∀ x, gramO x = true → gramT x ≠ s.data.toList) := fun g hg e => by
              rw [← HDt.out g hg e] at e
              exact hq (str_bne.2 e)
            have q1 : ((str (gramT xs)).toList == s.toList) = false := beq_eq_false_iff_ne.2 (fun h => hq (toList_injR h))
            clear hO hq
            generalize str (gramT xs) = st at *
            rcases hor with hno | ⟨hyes, hno⟩ | ⟨⟨hyes, hyes3⟩, hgt⟩
            · have i4 : ¬ (xs.length : Int) < (N : Int) := by omega
              go_wp2_with fail
              refine (HCl.out ()).mono ?_
              rintro e w6 ⟨rfl, hb6⟩
              have r6 : w6.heap[w.heap.size]? = some (.cells #[.slice none 0 0] 24 (0, 0)) := (hb6.block _ (by omega)).trans HRk.out
              have g6 : w6.heap[p + 1]? = some (.cells #[.slice oa xs.length oc] 24 (0, 0)) := (hb6.block _ (by omega)).trans HGk.out
              have a6 : CuA p tx b false w6 := CuA.below HAk.out hb6
              have B6 : Below w.heap.size w w6 := HBk.out.trans (hb6.mono HBk.out.size)
              have h6 := hb6.size
              have p1 := run_cell (j := 2) a6 rfl
              have p2 := run_cell (j := 0) g6 rfl
              have p3 := run_cell (j := 0) r6 rfl
              have p4 := run_frozen (j := 0) r6
              have z0 : (w6.setCell ⟨w.heap.size, 0, none⟩ (.slice none 0 0)).cell? ⟨w.heap.size, 0, none⟩ = some (.slice none 0 0) := run_cell (setCell_self (j := 0) _ r6) rfl
              have HB9 : Hid (Below w.heap.size w (w6.setCell ⟨w.heap.size, 0, none⟩ (.slice none 0 0))) := B6.setCell (Nat.le_refl _) _
              clear r6 g6 a6 B6 hb6
              go_wp2
              refine bodyPost_ret (by simp [results, Tryz.results4, go_sem, z0]; try rfl) rfl ?_
              exact ⟨HB9.out, .inr ⟨HN.out, rfl⟩⟩
            · have i4 : (xs.length : Int) < (N : Int) := by omega
              have i5 : ¬ (xs.length : Int) < 40 := by omega
              go_wp2_with fail
              refine (HCl.out ()).mono ?_
              rintro e w6 ⟨rfl, hb6⟩
              have r6 : w6.heap[w.heap.size]? = some (.cells #[.slice none 0 0] 24 (0, 0)) := (hb6.block _ (by omega)).trans HRk.out
              have g6 : w6.heap[p + 1]? = some (.cells #[.slice oa xs.length oc] 24 (0, 0)) := (hb6.block _ (by omega)).trans HGk.out
              have a6 : CuA p tx b false w6 := CuA.below HAk.out hb6
              have B6 : Below w.heap.size w w6 := HBk.out.trans (hb6.mono HBk.out.size)
              have h6 := hb6.size
              have p1 := run_cell (j := 2) a6 rfl
              have p2 := run_cell (j := 0) g6 rfl
              have p3 := run_cell (j := 0) r6 rfl
              have p4 := run_frozen (j := 0) r6
              have z0 : (w6.setCell ⟨w.heap.size, 0, none⟩ (.slice none 0 0)).cell? ⟨w.heap.size, 0, none⟩ = some (.slice none 0 0) := run_cell (setCell_self (j := 0) _ r6) rfl
              have HB9 : Hid (Below w.heap.size w (w6.setCell ⟨w.heap.size, 0, none⟩ (.slice none 0 0))) := B6.setCell (Nat.le_refl _) _
              clear r6 g6 a6 B6 hb6
              go_wp2
              refine bodyPost_ret (by simp [results, Tryz.results4, go_sem, z0]; try rfl) rfl ?_
              exact ⟨HB9.out, .inr ⟨HN.out, rfl⟩⟩
            · cases hgt

end Go.Proofs.YtokidlklkgghkaaGreatDoor
