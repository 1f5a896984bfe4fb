/- The program's text and told, SetBytes, JoinSets, MeetSets and SetOf. -/
import Derived.Test.YtokgkjfgknjbbaaDoorSetTold
namespace Go.Proofs.YtokgkjfgknjbbaaDoor
open Go.RowKit

theorem three_at (w : World) (x y z : Value) (t : TypeId) : ∀ j u, [x, y, z][j]? = some u → (w.alloc (.cells #[x, y, z] t)).cell? ((⟨w.heap.size, 0, none⟩ : Addr).add j) = some u := by
  intro j u hj
  have hb : (w.alloc (.cells #[x, y, z] t)).heap[w.heap.size]? = some (.cells #[x, y, z] t) := heap_alloc_new w _
  rw [Addr.add_lit, Nat.zero_add, cell_of_row _ _ j _ _ _ hb]
  simpa using hj
theorem three_cells (k : IntKind) (a b c : Int) : ∀ u ∈ [Value.int k a, Value.int k b, Value.int k c], u.oneCell' = true := by
  intro u hu
  simp at hu
  rcases hu with rfl | rfl | rfl <;> rfl

/-- What holds at each round's head of the text's loop: no row is cut in two behind its first byte, save one of two. -/
def NoCut (m0 p : Nat) : Prop := ¬ (0 < p ∧ m0.testBit (p - 1) = true ∧ m0.testBit p = true ∧ m0.testBit (p + 1) = true)

theorem run_bytes {m0 k n : Nat} {f : Nat → Bool} (hr : Rep m0 f) (hrun : ∀ j, j ≤ n → m0.testBit (k + j) = true) : byteP (k + n) = byteP k + n ∧ rowP (byteP k) (byteP (k + n)) = 2 ^ (k + n + 1) - 2 ^ k ∧ k + n < 42 := by
  have hv : ∀ j, j ≤ n → valid (k + j) = true := fun j hj => by
    have := hrun j hj
    rw [hr, Bool.and_eq_true] at this
    exact this.1
  have h0 := (valid_iff _).1 (hv 0 (by omega))
  have hn := (valid_iff _).1 (hv n (by omega))
  rw [Nat.add_zero] at h0
  have hsame : k < 16 ↔ k + n < 16 := by
    constructor
    · intro h
      apply Classical.byContradiction
      intro h'
      have := (valid_iff _).1 (hv (10 - k) (by omega))
      omega
    · omega
  have e1 : byteP (k + n) = byteP k + n := by
    unfold byteP
    split <;> split <;> omega
  have p0 := pos_byteP (i := k) ((valid_iff _).2 h0)
  have pn := pos_byteP (i := k + n) ((valid_iff _).2 hn)
  refine ⟨e1, ?_, by omega⟩
  have hro : rowOk (byteP k) (byteP (k + n)) = true := by
    rw [rowOk, pn.2, decide_eq_true (by omega : byteP k ≤ byteP (k + n)), Bool.true_and, Bool.true_and, beq_iff_eq, decide_eq_decide]
    unfold byteP
    split <;> split <;> omega
  rw [rowP_yes p0.2 hro, rowM, pn.1, p0.1]

set_option maxHeartbeats 3200000 in
set_option maxRecDepth 100000 in
theorem text_any (m0 : Nat) (f : Nat → Bool) (hr : Rep m0 f) (hs : Sup f) (w : World) (hT : TzTab w) :
    Calls Tryd.prog 82 #[.int .u64 m0] w fun e w' => e = .returned (.string (str (textB f))) ∧ Below w.heap.size w w' := by
  obtain ⟨i0, hi, hz0, hz1, hz2⟩ := info_parts Tryd.info8
  have HR : Hid (Rep m0 f) := hr
  have HT : Hid (TzTab w) := hT
  have HE : Hid (textB f = pre (cellT ofBit m0.testBit) 64) := text_bridge hr hs
  clear hr hs hT
  go_enter Tryd.func82, Tryd.ntmps82
  go_wp2
  go_loopw [0, 3] (fun mv ov wr => ∃ (m p : Nat) (l : List UInt8), mv = .int .u64 m ∧ p ≤ 64 ∧ Left m0 m p ∧ NoCut m0 p ∧ l = pre (cellT ofBit m0.testBit) p ∧ wr.ownsRow w.heap.size 5 1 ov l.length (bv l) ∧ Below w.heap.size w wr) (fun mv _ _ => (intOf mv).toNat)
  case atStart => exact ⟨m0, 0, [], rfl, by omega, left_start _, fun h => absurd h.1 (by omega), rfl, ⟨rfl, .inl ⟨rfl, rfl⟩⟩, Below.refl _ _⟩
  case round =>
    obtain ⟨m, p, l, rfl, hp, hleft, hcut, hl, hown, hbel⟩ := hrel
    have HL : Hid (Left m0 m p) := hleft
    have HP : Hid (l = pre (cellT ofBit m0.testBit) p) := hl
    have HB : Hid (Below w.heap.size w wr) := hbel
    have hsz := hbel.size
    have hlen : l.length ≤ 128 := by
      rw [hl]
      have := pre_len 2 (cellT_len ofBit m0.testBit) p
      omega
    have hm := hleft.lt HR.out
    have HTr : Hid (TzTab wr) := HT.out.below hbel
    clear hleft hl hbel
    by_cases hz : m = 0
    · subst hz
      have HV : Hid (textB f = l) := by
        rw [Hid, HE.out, HP.out]
        exact pre_skip' _ hp fun i h1 _ => cellT_none (left_end HL.out i h1)
      have hcv := own_string (P := Tryd.prog) (dst := 9) l Tryd.underlying22 Tryd.underlying5 Tryd.underlying9 hown
      clear hcut
      go_wp2
      go_ret
      rw [HV.out]
      exact ⟨rfl, HB.out⟩
    · have hmz : ((m : Int) != 0) = true := by simpa using (by omega : (m : Int) ≠ 0)
      have hlow := ctz_low hz (by omega)
      have HF : Hid (∀ W, TzTab W → _) := fun W h => first_any m (by omega) hz W h
      have HK : Hid (∀ n W, Lib.ctz 64 (18446744073709551615 - m / 2 ^ Lib.ctz 64 m) = n + 1 → Lib.ctz 64 m + n < 64 → TzTab W → _) := fun n W h1 h2 h => lastOfRow_any m (Lib.ctz 64 m) n hm hz rfl h1 h2 W h
      generalize Lib.ctz 64 m = k at *
      obtain ⟨hk, hk64, hlo⟩ := hlow
      obtain ⟨n, hn, hn64, hrun, hend⟩ := ctz_run hm hk
      obtain ⟨hpk, hk0, hgap⟩ := left_low HL.out hk hlo
      have hrun0 : ∀ j, j ≤ n → m0.testBit (k + j) = true := fun j hj => by
        have h1 := HL.out (k + j)
        rw [hrun j hj, decide_eq_true (by omega : p ≤ k + j), Bool.true_and] at h1
        exact h1.symm
      have hend0 : m0.testBit (k + n + 1) = false := by
        have h1 := HL.out (k + (n + 1))
        rw [hend, decide_eq_true (by omega : p ≤ k + (n + 1)), Bool.true_and] at h1
        exact h1.symm
      obtain ⟨hbn, hrow, hkn⟩ := run_bytes HR.out hrun0
      obtain ⟨hval, hbit⟩ := rep_bit HR.out hk0
      have hb256 := byteP_lt k hk64
      have hb256' := byteP_lt (k + n) (by omega)
      have HLa : Hid (∀ W, TzTab W → _) := fun W h => HK.out n W hn (by omega) h
      have hskip : pre (cellT ofBit m0.testBit) k = l := by rw [HP.out]; exact pre_skip' _ hpk (fun i h1 h2 => cellT_none (hgap i h1 h2))
      clear HK hn hrun hend
      have hprev : 0 < k → m0.testBit (k - 1) = true → k = p := fun h0 h1 => by
        apply Classical.byContradiction
        intro hne
        rw [hgap (k - 1) (by omega) (by omega)] at h1
        cases h1
      have h2k : 2 ^ k < 18446744073709551616 := Nat.lt_of_lt_of_le (Nat.pow_lt_pow_right (by decide) hk64) (by decide)
      rw [hbn] at HLa hb256' hrow
      by_cases hlong : 2 ≤ n
      · have HN : Hid (Left m0 (m &&& (18446744073709551615 - (2 ^ (k + n + 1) - 2 ^ k))) (k + n + 1)) := left_step HR.out HL.out hk (by omega) hlo (Nat.lt_of_le_of_lt (Nat.sub_le _ _) (Nat.lt_of_lt_of_le (Nat.pow_lt_pow_right (by decide) (by omega : k + n + 1 < 64)) (by decide))) (fun i => testBit_span k (k + n) i (by omega))
        have hxl : 2 ^ (k + n + 1) - 2 ^ k < 18446744073709551616 := Nat.lt_of_le_of_lt (Nat.sub_le _ _) (Nat.lt_of_lt_of_le (Nat.pow_lt_pow_right (by decide) (by omega : k + n + 1 < 64)) (by decide))
        have HQ : Hid (l ++ [ofBit k, 45, ofBit (k + n)] = pre (cellT ofBit m0.testBit) (k + n + 1)) := by
          rw [Hid, pre_row ofBit m0.testBit (b := k) (e := k + n) (fun i h1 h2 => by have := hrun0 (i - k) (by omega); rwa [show k + (i - k) = i by omega] at this) (by omega) (fun h0 => by
            cases h1 : m0.testBit (k - 1) with
            | false => rfl
            | true =>
              obtain rfl := hprev h0 h1
              exact absurd ⟨h0, h1, hk0, hrun0 1 (by omega)⟩ hcut) hend0, hskip]
        have HS : Hid (m &&& (18446744073709551615 - (2 ^ (k + n + 1) - 2 ^ k)) < m) := and_less hk (by rw [comp_bit hxl, testBit_span k (k + n) k (by omega)]; simp)
        have HC : Hid (NoCut m0 (k + n + 1)) := fun h => by rw [hend0] at h; cases h.2.2.1
        have HW : Hid (∀ W, _) := fun W => without_any m (2 ^ (k + n + 1) - 2 ^ k) (by omega) hxl W
        have HRo : Hid (∀ W, _) := fun W => rowOf_any (byteP k) (byteP k + n) hb256 hb256' W
        rw [hrow] at HRo
        have HO : Hid ((ofBit k).toNat = byteP k) := ofBit_nat k hk64
        have HOn : Hid ((ofBit (k + n)).toNat = byteP k + n) := by rw [Hid, ofBit_nat (k + n) (by omega), hbn]
        clear hk hlo hgap hk0 hval hbit hpk hrun0 hend0 hskip hprev hcut hrow hbn
        generalize m &&& (18446744073709551615 - (2 ^ (k + n + 1) - 2 ^ k)) = m' at *
        generalize 2 ^ (k + n + 1) - 2 ^ k = x at *
        generalize byteP k = b at *
        go_wp2_with (first
          | (go_at_call 79; refine (HF.out _ HTr.out).mono ?_; rintro e wq ⟨rfl, hw⟩; rw [hw]; clear hw)
          | (go_at_call 108; refine (HLa.out _ HTr.out).mono ?_; rintro e wq ⟨rfl, hw⟩; rw [hw]; clear hw)
          | (at_builtin; refine wpList_append_own _ rfl _ _ 22 rfl w.heap.size 5 i0 (.int .u8 0) 1 1 Tryd.underlying22 hi hz0 hz1 hz2 rfl (by decide) _ _ _ rfl (hown.alloc _) ⟨wr.heap.size, 0, none⟩ 3 3 [.int .u8 (b : Int), .int .u8 45, .int .u8 ((b + n : Nat) : Int)] rfl rfl (three_at _ _ _ _ _) (three_cells _ _ _ _) (by unfold maxLen; omega) (by omega) (by simp; omega) ?_))
        intro v' w1 hown' hgrow _
        have HO1 : Hid (w1.ownsRow w.heap.size 5 1 v' (l ++ [ofBit k, 45, ofBit (k + n)]).length (bv (l ++ [ofBit k, 45, ofBit (k + n)]))) := by
          rw [Hid, bv_app, show bv [ofBit k, 45, ofBit (k + n)] = [.int .u8 ((ofBit k).toNat : Int), .int .u8 45, .int .u8 ((ofBit (k + n)).toNat : Int)] from rfl, HO.out, HOn.out, List.length_append]
          exact hown'
        have HB1 : Hid (Below w.heap.size w w1) := (HB.out.alloc hsz _).grown hgrow (by simp; omega) (fun j hj => (hown.lt j hj).1)
        clear hown' hgrow hown
        go_wp2_with (first
          | (go_at_call 78; refine (HRo.out _).mono ?_; rintro e wq ⟨rfl, hw⟩; rw [hw]; clear hw)
          | (go_at_call 80; refine (HW.out _).mono ?_; rintro e wq ⟨rfl, hw⟩; rw [hw]; clear hw))
        go_roundw
        case rel => exact ⟨m', k + n + 1, _, rfl, by omega, HN.out, HC.out, HQ.out, HO1.out, HB1.out⟩
        case measure => simp [intOf]; exact HS.out
      · have HN : Hid (Left m0 (m &&& (18446744073709551615 - 2 ^ k)) (k + 1)) := left_step HR.out HL.out hk (Nat.le_refl k) hlo h2k (pow_bit k)
        have h12 : (m0.testBit (k + 1) && m0.testBit (k + 2)) = false := by
          match n, hlong, hend0 with
          | 0, _, h => rw [Nat.add_zero] at h; rw [h]; rfl
          | 1, _, h => rw [show k + 2 = k + 1 + 1 by omega, h]; simp
          | n + 2, hl, _ => omega
        have HQ : Hid (l ++ [ofBit k] = pre (cellT ofBit m0.testBit) (k + 1)) := by
          rw [Hid, pre_one ofBit m0.testBit hk0 h12 (by
            cases h3 : m0.testBit (k + 1) with
            | false => simp
            | true =>
              by_cases h0 : 0 < k
              · cases h1 : m0.testBit (k - 1) with
                | false => simp
                | true =>
                  obtain rfl := hprev h0 h1
                  exact absurd ⟨h0, h1, hk0, h3⟩ hcut
              · simp [h0]), hskip]
        have HC : Hid (NoCut m0 (k + 1)) := fun h => by
          rw [show k + 1 + 1 = k + 2 by omega] at h
          rw [h.2.2.1, h.2.2.2] at h12
          cases h12
        have HS : Hid (m &&& (18446744073709551615 - 2 ^ k) < m) := and_less hk (by rw [comp_bit h2k, pow_bit]; simp)
        have HW : Hid (∀ W, _) := fun W => without_any m (2 ^ k) (by omega) h2k W
        have HBt : Hid (∀ W, _) := fun W => bit_any (byteP k) hb256 W
        rw [hbit] at HBt
        have HO : Hid ((ofBit k).toNat = byteP k) := ofBit_nat k hk64
        clear hk hlo hgap hk0 hval hbit hpk hrun0 hend0 hskip hprev hcut hrow hbn h12
        generalize m &&& (18446744073709551615 - 2 ^ k) = m' at *
        generalize 2 ^ k = x at *
        generalize byteP k = b at *
        go_wp2_with (first
          | (go_at_call 79; refine (HF.out _ HTr.out).mono ?_; rintro e wq ⟨rfl, hw⟩; rw [hw]; clear hw)
          | (go_at_call 108; refine (HLa.out _ HTr.out).mono ?_; rintro e wq ⟨rfl, hw⟩; rw [hw]; clear hw)
          | (at_builtin; refine wpList_append_own _ rfl _ _ 22 rfl w.heap.size 5 i0 (.int .u8 0) 1 1 Tryd.underlying22 hi hz0 hz1 hz2 rfl (by decide) _ _ _ rfl (hown.alloc _) ⟨wr.heap.size, 0, none⟩ 1 1 [.int .u8 (b : Int)] rfl rfl (one_at _ _ _) (one_cell _ _) (by unfold maxLen; omega) (by omega) (by simp; omega) ?_))
        intro v' w1 hown' hgrow _
        have HO1 : Hid (w1.ownsRow w.heap.size 5 1 v' (l ++ [ofBit k]).length (bv (l ++ [ofBit k]))) := by
          rw [Hid, bv_app, bv_one, HO.out, List.length_append, List.length_singleton]
          exact hown'
        have HB1 : Hid (Below w.heap.size w w1) := (HB.out.alloc hsz _).grown hgrow (by simp; omega) (fun j hj => (hown.lt j hj).1)
        clear hown' hgrow hown
        go_wp2_with (first
          | (go_at_call 54; refine (HBt.out _).mono ?_; rintro e wq ⟨rfl, hw⟩; rw [hw]; clear hw)
          | (go_at_call 80; refine (HW.out _).mono ?_; rintro e wq ⟨rfl, hw⟩; rw [hw]; clear hw))
        go_roundw
        case rel => exact ⟨m', k + 1, _, rfl, by omega, HN.out, HC.out, HQ.out, HO1.out, HB1.out⟩
        case measure => simp [intOf]; exact HS.out

theorem told_any (m : Nat) (f : Nat → Bool) (hr : Rep m f) (hs : Sup f) (w : World) (hT : TzTab w) :
    Calls Tryd.prog 56 #[.int .u64 m] w fun e w' => e = .returned (pairV (toldP f)) ∧ Below w.heap.size w w' := by
  have HX : Hid (∀ W, TzTab W → _) := fun W h => text_any m f hr hs W h
  have HT : Hid (TzTab w) := hT
  clear hT
  cases ho : okL (textB f) with
  | true =>
    have HV : Hid (pairV (toldP f) = .tuple #[.string (str (textB f)), .bool true]) := by rw [Hid, toldP, ho]; rfl
    have HO : Hid (∀ W, _) := fun W => implSetOk_any (str (textB f)) W
    rw [str_list, ho] at HO
    generalize str (textB f) = t at *
    go_enter Tryd.func56, Tryd.ntmps56
    go_wp2_with (first
      | (go_at_call 82; refine (HX.out _ HT.out).mono ?_; rintro e w1 ⟨rfl, hb1⟩)
      | (go_at_call 24; refine (HO.out _).mono ?_; rintro e w2 ⟨rfl, hb2⟩))
    go_ret2
    rw [HV.out]
    exact ⟨rfl, hb1.trans (hb2.mono hb1.size)⟩
  | false =>
    have HV : Hid (pairV (toldP f) = .tuple #[.string (str []), .bool false]) := by rw [Hid, toldP, ho]; rfl
    have HO : Hid (∀ W, _) := fun W => implSetOk_any (str (textB f)) W
    rw [str_list, ho] at HO
    generalize str (textB f) = t at *
    go_enter Tryd.func56, Tryd.ntmps56
    go_wp2_with (first
      | (go_at_call 82; refine (HX.out _ HT.out).mono ?_; rintro e w1 ⟨rfl, hb1⟩)
      | (go_at_call 24; refine (HO.out _).mono ?_; rintro e w2 ⟨rfl, hb2⟩))
    go_ret2
    rw [HV.out]
    exact ⟨rfl, hb1.trans (hb2.mono hb1.size)⟩

theorem implSetBytes_any (s : ByteArray) (w : World) (hT : TzTab w) :
    Calls Tryd.prog 20 #[.string s] w fun e w' => e = .returned (.string (str (bytesB (inL s.data.toList)))) ∧ Below w.heap.size w w' := by
  have HX : Hid (∀ W, TzTab W → _) := fun W h => bytes_any (maskL s.data.toList) (inL s.data.toList) (maskL_rep _) (inL_sup _) W h
  have HR : Hid (∀ W, _) := fun W => readSet_any s W
  have HT : Hid (TzTab w) := hT
  clear hT
  generalize maskL s.data.toList = m at *
  go_enter Tryd.func20, Tryd.ntmps20
  go_wp2_with (first
    | (go_at_call 51; refine (HR.out _).mono ?_; rintro e w1 ⟨rfl, hb1⟩)
    | (go_at_call 52; refine (HX.out _ (HT.out.below hb1)).mono ?_; rintro e w2 ⟨rfl, hb2⟩))
  go_ret
  exact ⟨rfl, hb1.trans (hb2.mono hb1.size)⟩

set_option maxRecDepth 100000 in
theorem implMeet_any (a b : ByteArray) (w : World) (hT : TzTab w) :
    Calls Tryd.prog 33 #[.string a, .string b] w fun e w' => e = .returned (pairV (meetP a.data.toList b.data.toList)) ∧ Below w.heap.size w w' := by
  have ra := maskL_rep a.data.toList
  have rb := maskL_rep b.data.toList
  have la := ra.lt
  have lb := rb.lt
  have HX : Hid (∀ W, TzTab W → _) := fun W h => told_any _ _ (ra.and rb) ((inL_sup a.data.toList).and (inL_sup b.data.toList)) W h
  have HM : Hid (∀ W, _) := fun W => met_any (maskL a.data.toList) (maskL b.data.toList) (by omega) (by omega) W
  have HA : Hid (∀ W, _) := fun W => readSet_any a W
  have HB : Hid (∀ W, _) := fun W => readSet_any b W
  have HT : Hid (TzTab w) := hT
  rw [← meet_any a.data.toList b.data.toList] at HX
  clear hT ra rb la lb
  generalize hv : pairV (meetP a.data.toList b.data.toList) = v at *
  obtain ⟨t, ok, rfl⟩ : ∃ t ok, v = .tuple #[.string t, .bool ok] := ⟨_, _, hv.symm⟩
  clear hv
  generalize maskL a.data.toList &&& maskL b.data.toList = x at *
  generalize maskL a.data.toList = ma at *
  generalize maskL b.data.toList = mb at *
  go_enter Tryd.func33, Tryd.ntmps33
  go_wp2_with fail
  refine (HA.out _).mono ?_
  rintro e w1 ⟨rfl, hb1⟩
  go_wp2_with fail
  refine (HB.out _).mono ?_
  rintro e w2 ⟨rfl, hb2⟩
  have hb12 := hb1.trans (hb2.mono hb1.size)
  go_wp2_with (first
    | (go_at_call 63; refine (HM.out _).mono ?_; rintro e wq ⟨rfl, hw⟩; rw [hw]; clear hw)
    | (go_at_call 56; refine (HX.out _ (HT.out.below hb12)).mono ?_; rintro e w3 ⟨rfl, hb3⟩))
  go_ret2
  exact ⟨rfl, hb12.trans (hb3.mono hb12.size)⟩

set_option maxRecDepth 100000 in
theorem implJoin_any (a b : ByteArray) (w : World) (hT : TzTab w) :
    Calls Tryd.prog 32 #[.string a, .string b] w fun e w' => e = .returned (pairV (joinP a.data.toList b.data.toList)) ∧ Below w.heap.size w w' := by
  have ra := maskL_rep a.data.toList
  have rb := maskL_rep b.data.toList
  have la := ra.lt
  have lb := rb.lt
  have HX : Hid (∀ W, TzTab W → _) := fun W h => told_any _ _ (ra.or rb) ((inL_sup a.data.toList).or (inL_sup b.data.toList)) W h
  have HM : Hid (∀ W, _) := fun W => joined_any (maskL a.data.toList) (maskL b.data.toList) (by omega) (by omega) W
  have HA : Hid (∀ W, _) := fun W => readSet_any a W
  have HB : Hid (∀ W, _) := fun W => readSet_any b W
  have OA : Hid (∀ W, _) := fun W => implSetOk_any a W
  have OB : Hid (∀ W, _) := fun W => implSetOk_any b W
  have HT : Hid (TzTab w) := hT
  clear hT ra rb la lb
  generalize maskL a.data.toList ||| maskL b.data.toList = x at *
  generalize maskL a.data.toList = ma at *
  generalize maskL b.data.toList = mb at *
  cases oa : okL a.data.toList with
  | false =>
    have HV : Hid (pairV (joinP a.data.toList b.data.toList) = .tuple #[.string (str []), .bool false]) := by rw [Hid, joinP, oa]; rfl
    rw [oa] at OA
    clear oa OB HX
    generalize pairV (joinP a.data.toList b.data.toList) = v at *
    go_enter Tryd.func32, Tryd.ntmps32
    go_wp2_with fail
    refine (OA.out _).mono ?_
    rintro e w1 ⟨rfl, hb1⟩
    go_wp2_with fail
    go_ret2
    rw [HV.out]
    exact ⟨rfl, hb1⟩
  | true =>
    rw [oa] at OA
    cases ob : okL b.data.toList with
    | false =>
      have HV : Hid (pairV (joinP a.data.toList b.data.toList) = .tuple #[.string (str []), .bool false]) := by rw [Hid, joinP, oa, ob]; rfl
      rw [ob] at OB
      clear oa ob HX
      generalize pairV (joinP a.data.toList b.data.toList) = v at *
      go_enter Tryd.func32, Tryd.ntmps32
      go_wp2_with fail
      refine (OA.out _).mono ?_
      rintro e w1 ⟨rfl, hb1⟩
      go_wp2_with fail
      refine (OB.out _).mono ?_
      rintro e w2 ⟨rfl, hb2⟩
      go_wp2_with fail
      go_ret2
      rw [HV.out]
      exact ⟨rfl, hb1.trans (hb2.mono hb1.size)⟩
    | true =>
      have HV : Hid (joinP a.data.toList b.data.toList = toldP (fun x => inL a.data.toList x || inL b.data.toList x)) := by rw [Hid, joinP, oa, ob]; rfl
      rw [ob] at OB
      rw [← HV.out] at HX
      clear oa ob HV
      generalize hv : pairV (joinP a.data.toList b.data.toList) = v at *
      obtain ⟨t, ok, rfl⟩ : ∃ t ok, v = .tuple #[.string t, .bool ok] := ⟨_, _, hv.symm⟩
      clear hv
      go_enter Tryd.func32, Tryd.ntmps32
      go_wp2_with fail
      refine (OA.out _).mono ?_
      rintro e w1 ⟨rfl, hb1⟩
      go_wp2_with fail
      refine (OB.out _).mono ?_
      rintro e w2 ⟨rfl, hb2⟩
      have h2 := hb1.trans (hb2.mono hb1.size)
      clear hb2 hb1
      go_wp2_with fail
      refine (HA.out _).mono ?_
      rintro e w3 ⟨rfl, hb3⟩
      have h3 := h2.trans (hb3.mono h2.size)
      clear hb3 h2
      go_wp2_with fail
      refine (HB.out _).mono ?_
      rintro e w4 ⟨rfl, hb4⟩
      have h4 := h3.trans (hb4.mono h3.size)
      clear hb4 h3
      go_wp2_with (first
        | (go_at_call 55; refine (HM.out _).mono ?_; rintro e wq ⟨rfl, hw⟩; rw [hw]; clear hw)
        | (go_at_call 56; refine (HX.out _ (HT.out.below h4)).mono ?_; rintro e w5 ⟨rfl, hb5⟩))
      go_ret2
      exact ⟨rfl, h4.trans (hb5.mono h4.size)⟩

/-- The bits of the first bytes of a text. -/
theorem bit_rep (b : Nat) (hb : okb b = true) : Rep (bitP b) (fun x => x == b) := by
  intro i
  rw [bitP, if_pos hb, pow_bit, Bool.eq_iff_iff]
  simp only [Bool.and_eq_true, decide_eq_true_eq, beq_iff_eq]
  have h1 := byteP_pos hb
  constructor
  · intro h
    obtain rfl : i = pos b := by omega
    exact ⟨h1.2, h1.1⟩
  · rintro ⟨hv, e⟩
    have h2 := (pos_byteP hv).1
    rw [e] at h2
    omega

set_option maxHeartbeats 800000 in
set_option maxRecDepth 100000 in
theorem implSetOf_any (s : ByteArray) (w : World) (hs : s.size ≤ 1048576) (hT : TzTab w) :
    Calls Tryd.prog 23 #[.string s] w fun e w' => e = .returned (pairV (setOfP s.data.toList)) ∧ Below w.heap.size w w' := by
  have HT : Hid (TzTab w) := hT
  have HLn : Hid (s.data.toList.length = s.size) := by simp [Hid]
  clear hT
  go_enter Tryd.func23, Tryd.ntmps23
  go_wp2
  go_loopw [4, 9] (fun mv iv wr => ∃ m k : Nat, mv = .int .u64 m ∧ iv = .int .i64 k ∧ k ≤ s.size ∧ Rep m (memB (s.data.toList.take k)) ∧ (s.data.toList.take k).all (fun u => okb u.toNat) = true ∧ wr = w) (fun _ iv _ => s.size - (intOf iv).toNat)
  case atStart => exact ⟨0, 0, rfl, rfl, Nat.zero_le _, fun i => by simp [memB], rfl, rfl⟩
  case round =>
    obtain ⟨m, k, rfl, rfl, hk, hrep, hall, rfl⟩ := hrel
    have HR : Hid (Rep m (memB (s.data.toList.take k))) := hrep
    have HAll : Hid ((s.data.toList.take k).all (fun u => okb u.toNat) = true) := hall
    have hm := hrep.lt
    clear hrep hall
    by_cases hlt : k < s.size
    · have hu := s[k].toNat_lt
      have hbl := bitP_lt s[k].toNat
      have htk : s.data.toList.take (k + 1) = s.data.toList.take k ++ [s[k]] := by
        rw [List.take_succ_eq_append_getElem (by rw [HLn.out]; exact hlt)]
        rfl
      cases ho : okb s[k].toNat with
      | false =>
        have HV : Hid (pairV (setOfP s.data.toList) = .tuple #[.string (str []), .bool false]) := by
          rw [Hid, setOfP, if_neg]
          · rfl
          · intro h
            have := List.all_eq_true.1 h (s.data.toList[k]'(by rw [HLn.out]; exact hlt)) (List.getElem_mem _)
            rw [show (s.data.toList[k]'(by rw [HLn.out]; exact hlt)) = s[k] from rfl, ho] at this
            cases this
        have hb0 : bitP s[k].toNat = 0 := by rw [bitP, if_neg (by rw [ho]; decide)]
        have HBt : Hid (∀ W, _) := fun W => bit_any s[k].toNat hu W
        rw [hb0] at HBt
        clear ho hb0 htk hbl
        go_wp2_with (go_at_call 54; refine (HBt.out _).mono ?_; rintro e wq ⟨rfl, hw⟩; rw [hw]; clear hw)
        go_ret2
        rw [HV.out]
        exact ⟨rfl, Below.refl _ _⟩
      | true =>
        have HN : Hid (Rep (m ||| bitP s[k].toNat) (memB (s.data.toList.take (k + 1)))) := by
          have := HR.out.or (bit_rep s[k].toNat ho)
          rw [Hid, htk, memB_app]
          intro i
          rw [this i]
          congr 1
          simp only [memB, List.any_cons, List.any_nil, Bool.or_false]
          congr 1
          rw [Bool.eq_iff_iff]
          simp only [beq_iff_eq]
          exact eq_comm
        have HA2 : Hid ((s.data.toList.take (k + 1)).all (fun u => okb u.toNat) = true) := by
          rw [Hid, htk, List.all_append, HAll.out]
          simp [ho]
        have hne : ((bitP s[k].toNat : Int) == 0) = false := by
          have h1 : bitP s[k].toNat ≠ 0 := by
            rw [bitP, if_pos ho]
            have := Nat.two_pow_pos (pos s[k].toNat)
            omega
          simpa using (by omega : (bitP s[k].toNat : Int) ≠ 0)
        have HBt : Hid (∀ W, _) := fun W => bit_any s[k].toNat hu W
        have HJ : Hid (∀ W, _) := fun W => joined_any m (bitP s[k].toNat) (by omega) hbl W
        clear ho htk
        generalize m ||| bitP s[k].toNat = m' at *
        generalize bitP s[k].toNat = x at *
        go_wp2_with (first
          | (go_at_call 54; refine (HBt.out _).mono ?_; rintro e wq ⟨rfl, hw⟩; rw [hw]; clear hw)
          | (go_at_call 55; refine (HJ.out _).mono ?_; rintro e wq ⟨rfl, hw⟩; rw [hw]; clear hw))
        go_roundw
        case rel => exact ⟨m', k + 1, rfl, by go_num, by omega, HN.out, HA2.out, (by first | rfl | trivial)⟩
        case measure => simp [intOf]; omega
    · obtain rfl : k = s.size := by omega
      have htk : s.data.toList.take s.size = s.data.toList := by rw [← HLn.out, List.take_length]
      have HX : Hid (∀ W, TzTab W → _) := fun W h => told_any m _ HR.out (memB_sup HAll.out) W h
      have HV : Hid (setOfP s.data.toList = toldP (memB (s.data.toList.take s.size))) := by
        have := HAll.out
        rw [htk] at this
        rw [Hid, setOfP, if_pos this, htk]
      rw [← HV.out] at HX
      clear htk HV
      generalize hv : pairV (setOfP s.data.toList) = v at *
      obtain ⟨t, ok, rfl⟩ : ∃ t ok, v = .tuple #[.string t, .bool ok] := ⟨_, _, hv.symm⟩
      have HVv : Hid (_ = _) := hv
      clear hv
      go_wp2_with (go_at_call 56; refine (HX.out _ HT.out).mono ?_; rintro e w3 ⟨rfl, hb3⟩)
      go_ret2
      rw [HVv.out]
      exact ⟨rfl, hb3⟩

end Go.Proofs.YtokgkjfgknjbbaaDoor
