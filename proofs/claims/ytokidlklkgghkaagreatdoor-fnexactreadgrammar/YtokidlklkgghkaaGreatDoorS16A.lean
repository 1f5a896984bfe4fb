/- The program's ReadGrammar. -/
/- A reader that keeps a flag instead of giving up (pure). -/
import Derived.Test.YtokidlklkgghkaaGreatDoorE16W
import Derived.Test.YtokidlklkgghkaaGreatDoorS16E0
import Derived.Test.YtokidlklkgghkaaGreatDoorGTo
import Derived.Defers
import Derived.Recover
namespace Go.Proofs.YtokidlklkgghkaaGreatDoor
open Go.RowKit
set_option linter.unusedVariables false

/-- The closure has read. -/
def RdY (G H : Nat) (s : ByteArray) (w' : World) : Prop := ∃ (v : Value) (xs : List RuleD), RowF 3 40 RuleF (Nw H w'.heap.size) v xs w' ∧ (∀ x ∈ xs, RuIn x) ∧ w'.heap[G]? = some (.cells #[v] 24 (0, 0)) ∧ listT ruleT16 xs < s.size ∧ ∀ ys, ListP RuleQ ys → s.data.toList = listW ruleW ys → xs = ys
def RdX (s : ByteArray) : Prop := ∀ ys, ListP RuleQ ys → s.data.toList ≠ listW ruleW ys

set_option maxHeartbeats 3200000 in
set_option maxRecDepth 100000 in
theorem rdClosure_any (R G p : Nat) (s : ByteArray) (w : World) (hs : s.size ≤ 1048576) (hR : w.heap[R]? = some (.cells #[.pointer (some ⟨p, 0, none⟩)] 49 (0, 0))) (hG : w.heap[G]? = some (.cells #[.slice none 0 0] 24 (0, 0))) (hA : RdA p s 0 w) (hpR : R ≠ p) (hpG : G ≠ p) :
    Calls Tryz.prog 16 #[.pointer (some ⟨R, 0, none⟩), .pointer (some ⟨G, 0, none⟩)] w fun e w' => Kp (fun q => q = p ∨ q = G) w w' ∧ ((e = .panicked nrC ∧ RdX s) ∨ (e = .returned (.tuple #[]) ∧ RdY G w.heap.size s w')) := by
  have hmf : ∀ (fn : Fn) (first cap : Array Value) (w : World), (Instr.makeFunc fn first cap).run Tryz.prog w = .ok (.func fn first cap) w := fun _ _ _ _ => rfl
  have HG : Hid (w.heap[G]? = some (.cells #[.slice none 0 0] 24 (0, 0))) := hG
  have HA : Hid (RdA p s 0 w) := hA
  have r0 : w.cell? ⟨R, 0, none⟩ = some (.pointer (some ⟨p, 0, none⟩)) := run_cell hR rfl
  clear hG hA hR
  go_enter Tryz.func16, Tryz.ntmps16
  go_wp2_with fail
  refine (readRules_any p s 0 w hs (Nat.zero_le _) HA.out).mono ?_
  rintro e w1 ⟨hk1, ⟨rfl, hn1⟩ | ⟨v1, xs, b, rfl, ⟨hrow, hin⟩, hA1, hl1, hu1, hd1⟩⟩
  · go_simp
    exact ⟨rfl, hk1.up (fun k hk => .inl hk), .inl ⟨rfl, fun ys hp e => hn1 ys [] hp (by rw [List.drop_zero, List.append_nil]; exact e)⟩⟩
  obtain ⟨oa, oc, rfl⟩ := hrow.slice
  have hGw : G < w.heap.size := (Array.getElem?_eq_some_iff.1 HG.out).1
  have g1 : w1.heap[G]? = some (.cells #[.slice none 0 0] 24 (0, 0)) := (hk1.block G hGw hpG).trans HG.out
  have c1 := run_cell (j := 0) g1 rfl
  have f1 := run_frozen (j := 0) g1
  have HK : Hid (Kp (fun q => q = p ∨ q = G) w (w1.setCell ⟨G, 0, none⟩ (.slice oa xs.length oc))) := (hk1.up (fun k hk => .inl hk)).trans (Kp.store (.inr rfl))
  have HY : Hid (RdY G w.heap.size s (w1.setCell ⟨G, 0, none⟩ (.slice oa xs.length oc))) := by
    refine ⟨.slice oa xs.length oc, xs, ?_, hin, ?_, ?_, fun ys hp e => (hd1 ys [] hp (by rw [List.drop_zero, List.append_nil]; exact e)).1⟩
    · have k2 : Kp (fun q => q = G) w1 (w1.setCell ⟨G, 0, none⟩ (.slice oa xs.length oc)) := Kp.store rfl
      exact (hrow.ag stabRule (k2.ag (fun q hq e => by have := hq.1; omega))).up (fun q hq => ⟨hq.1, Nat.lt_of_lt_of_le hq.2 k2.size⟩)
    · have h2 := setCell_self (j := 0) (.slice oa xs.length oc) g1
      rw [h2]
      simp
    · have h3 : 0 + listT ruleT16 xs < b := hl1
      omega
  clear hk1 hrow hin hA1 hl1 hu1 hd1 g1
  go_wp2
  go_end0
  exact ⟨HK.out, .inr ⟨rfl, HY.out⟩⟩

set_option maxHeartbeats 1600000 in
set_option maxRecDepth 100000 in
theorem passesR_any (R G : Nat) (w : World) (N : Prop) (Y M : World → Prop)
    (hC : Calls Tryz.prog 16 #[.pointer (some ⟨R, 0, none⟩), .pointer (some ⟨G, 0, none⟩)] (w.alloc (.cells #[.bool false] 4)) fun e w' => (w.heap.size < w'.heap.size ∧ w'.heap[w.heap.size]? = some (.cells #[.bool false] 4 (0, 0))) ∧ ((e = .panicked nrC ∧ N ∧ Y w') ∨ (e = .returned (.tuple #[]) ∧ Y w' ∧ M w'))) :
    Calls Tryz.prog 15 #[.func (.func 16) #[] #[.pointer (some ⟨R, 0, none⟩), .pointer (some ⟨G, 0, none⟩)]] w fun e w' => ∃ w1, Kp (fun q => q = w.heap.size) w1 w' ∧ Y w1 ∧ ((e = .returned (.bool false) ∧ N) ∨ (e = .returned (.bool true) ∧ M w1)) := by
  have hmf : ∀ (fn : Fn) (first cap : Array Value) (w : World), (Instr.makeFunc fn first cap).run Tryz.prog w = .ok (.func fn first cap) w := fun _ _ _ _ => rfl
  have HC : Hid (Calls Tryz.prog 16 #[.pointer (some ⟨R, 0, none⟩), .pointer (some ⟨G, 0, none⟩)] (w.alloc (.cells #[.bool false] 4)) fun e w' => (w.heap.size < w'.heap.size ∧ w'.heap[w.heap.size]? = some (.cells #[.bool false] 4 (0, 0))) ∧ ((e = .panicked nrC ∧ N ∧ Y w') ∨ (e = .returned (.tuple #[]) ∧ Y w' ∧ M w'))) := hC
  clear hC
  go_enter_defers Tryz.func15, Tryz.ntmps15
  go_wp2_with fail
  refine HC.out.mono ?_
  rintro e w1 ⟨⟨hs1, hb1⟩, ⟨rfl, hN, hY⟩ | ⟨rfl, hY, hM⟩⟩
  · have c1 := run_cell (j := 0) hb1 rfl
    have z1 := run_frozen (j := 0) hb1
    have HY1 : Hid (Y w1) := hY
    clear hY hs1
    go_wp2
    refine leaves_cons (f := 37) (args := #[.pointer (some ⟨w.heap.size, 0, none⟩)]) (by simp) (by simp [go_sem]) ?_
    refine (catch_panicking ⟨w.heap.size, 0, none⟩ false _ c1 z1).mono ?_
    rintro e u' w'' ⟨rfl, rfl, rfl⟩
    have cf : (w1.setCell ⟨w.heap.size, 0, none⟩ (.bool false)).cell? ⟨w.heap.size, 0, none⟩ = some (.bool false) := World.cell?_setCell_same' _ _ _ (by rw [c1]; rfl)
    simp only [Leaves, settle, List.dropWhile_nil]
    exact ⟨.bool false, by simp [results, Tryz.results15, go_sem, cf], w1, Kp.store rfl, HY1.out, .inl ⟨rfl, hN⟩⟩
  · have c1 := run_cell (j := 0) hb1 rfl
    have z1 := run_frozen (j := 0) hb1
    have HY1 : Hid (Y w1) := hY
    clear hY hs1
    go_wp2
    refine leaves_cons (f := 37) (args := #[.pointer (some ⟨w.heap.size, 0, none⟩)]) (by simp) (by simp [go_sem]) ?_
    refine (catch_idle ⟨w.heap.size, 0, none⟩ true _ ?_ ?_).mono ?_
    · exact World.cell?_setCell_same' _ _ _ (by rw [c1]; rfl)
    · simpa using z1
    rintro e u' w'' ⟨rfl, rfl, rfl⟩
    have cf : ((w1.setCell ⟨w.heap.size, 0, none⟩ (.bool true)).setCell ⟨w.heap.size, 0, none⟩ (.bool true)).cell? ⟨w.heap.size, 0, none⟩ = some (.bool true) := World.cell?_setCell_same' _ _ _ (by rw [World.cell?_setCell_same' _ _ _ (by rw [c1]; rfl)]; rfl)
    have st : ∀ (U : World) (u : Value), Kp (fun q => q = w.heap.size) U (U.setCell ⟨w.heap.size, 0, none⟩ u) := fun U u => Kp.store rfl
    simp only [Leaves, settle]
    exact ⟨.bool true, by simp [results, Tryz.results15, go_sem, cf], w1, (st _ _).trans (st _ _), HY1.out, .inr ⟨rfl, hM⟩⟩

set_option maxHeartbeats 6400000 in
set_option maxRecDepth 100000 in
theorem implReadGrammar_any (s : ByteArray) (w : World) (hErr : errTy w) (T : Turns w) (hs : s.size ≤ 1048576) :
    Calls Tryz.prog 5 #[.string s] w fun e w' => GrOut s.data.toList w e w' := by
  have hmf : ∀ (fn : Fn) (first cap : Array Value) (w : World), (Instr.makeFunc fn first cap).run Tryz.prog w = .ok (.func fn first cap) w := fun _ _ _ _ => rfl
  have HG : Hid (errTy w) := hErr
  have HT : Hid (Turns w) := T
  have HUn : Hid (∀ W, Below w.heap.size w W → _) := fun W hb => unsealed_any s W hs (tab_below T hb)
  have HB0 : Hid (Below w.heap.size w (w.alloc (.cells #[.slice none 0 0] 24))) := (Below.refl _ _).alloc (Nat.le_refl _) _
  have HR0 : Hid ((w.alloc (.cells #[.slice none 0 0] 24)).heap[w.heap.size]? = some (.cells #[.slice none 0 0] 24 (0, 0))) := heap_alloc_new w _
  clear hErr T
  cases hu : unOk s.data.toList with
  | false =>
    have HN : Hid (∀ g, gramO g = true → gramT g ≠ s.data.toList) := fun g hg e => by have h1 := (gramT_un hg e).1; rw [hu] at h1; cases h1
    rw [usVal_no hu] at HUn
    clear hu
    go_enter Tryz.func5, Tryz.ntmps5
    go_wp2_with fail
    generalize w.alloc (.cells #[.slice none 0 0] 24) = w0 at *
    refine (HUn.out _ HB0.out).mono ?_
    rintro e w1 ⟨rfl, hb1⟩
    have hw0 : w.heap.size < w0.heap.size := (Array.getElem?_eq_some_iff.1 HR0.out).1
    have r1 : w1.heap[w.heap.size]? = some (.cells #[.slice none 0 0] 24 (0, 0)) := (hb1.block _ hw0).trans HR0.out
    have f1 := run_frozen (j := 0) r1
    have c1 := run_cell (j := 0) r1 rfl
    have z0 : (w1.setCell ⟨w.heap.size, 0, none⟩ (.slice none 0 0)).cell? ⟨w.heap.size, 0, none⟩ = some (.slice none 0 0) := run_cell (setCell_self (j := 0) _ r1) rfl
    have HB1 : Hid (Below w.heap.size w (w1.setCell ⟨w.heap.size, 0, none⟩ (.slice none 0 0))) := (HB0.out.trans (hb1.mono HB0.out.size)).setCell (Nat.le_refl _) _
    clear hb1 r1 hw0
    go_wp2
    refine bodyPost_ret (by simp [results, Tryz.results5, go_sem, z0]; try rfl) rfl ?_
    exact ⟨HB1.out, .inr ⟨HN.out, rfl⟩⟩
  | true =>
    obtain ⟨tx, htx⟩ : ∃ tx, tx = str (s.data.toList.take (s.data.toList.length - 4)) := ⟨_, rfl⟩
    have htl : tx.data.toList = s.data.toList.take (s.data.toList.length - 4) := by rw [htx, str_list]
    have hlu := (unOk_iff _).1 hu
    have HZ : Hid (tx.size ≤ 20000) := by
      have h1 : tx.size = tx.data.toList.length := by rw [Array.length_toList]; rfl
      rw [Hid, h1, htl, List.length_take]
      omega
    have HW : Hid (∀ g, gramO g = true → gramT g = s.data.toList → tx.data.toList = listW ruleW g) := fun g hg e => by rw [htl, ← (gramT_un hg e).2]; rfl
    rw [usVal_yes hu, ← htx] at HUn
    clear hu htx htl hlu
    go_enter Tryz.func5, Tryz.ntmps5
    go_wp2_with fail
    generalize w.alloc (.cells #[.slice none 0 0] 24) = w0 at *
    refine (HUn.out _ HB0.out).mono ?_
    rintro e w1 ⟨rfl, hb1⟩
    have hw0 : w.heap.size < w0.heap.size := (Array.getElem?_eq_some_iff.1 HR0.out).1
    have r1 : w1.heap[w.heap.size]? = some (.cells #[.slice none 0 0] 24 (0, 0)) := (hb1.block _ hw0).trans HR0.out
    have hs1 : w.heap.size < w1.heap.size := (Array.getElem?_eq_some_iff.1 r1).1
    have HB1 : Below w.heap.size w w1 := HB0.out.trans (hb1.mono HB0.out.size)
    obtain ⟨A2, hA2⟩ : ∃ W, W = w1.alloc (.cells #[.string tx, .int .i64 0] 51) := ⟨_, rfl⟩
    obtain ⟨A3, hA3⟩ : ∃ W, W = A2.alloc (.cells #[.pointer (some ⟨w1.heap.size, 0, none⟩)] 49) := ⟨_, rfl⟩
    obtain ⟨A4, hA4⟩ : ∃ W, W = A3.alloc (.cells #[.slice none 0 0] 24) := ⟨_, rfl⟩
    obtain ⟨A5, hA5⟩ : ∃ W, W = A4.alloc (.cells #[.bool false] 4) := ⟨_, rfl⟩
    have z2 : A2.heap.size = w1.heap.size + 1 := by rw [hA2]; simp
    have z3 : A3.heap.size = w1.heap.size + 2 := by rw [hA3]; simp [z2]
    have z4 : A4.heap.size = w1.heap.size + 3 := by rw [hA4]; simp [z3]
    have z5 : A5.heap.size = w1.heap.size + 4 := by rw [hA5]; simp [z4]
    have b2 : ∀ j, j < w1.heap.size → A2.heap[j]? = w1.heap[j]? := fun j hj => by rw [hA2]; exact Below.heap_alloc w1 _ j hj
    have b3 : ∀ j, j < A2.heap.size → A3.heap[j]? = A2.heap[j]? := fun j hj => by rw [hA3]; exact Below.heap_alloc A2 _ j hj
    have b4 : ∀ j, j < A3.heap.size → A4.heap[j]? = A3.heap[j]? := fun j hj => by rw [hA4]; exact Below.heap_alloc A3 _ j hj
    have b5 : ∀ j, j < A4.heap.size → A5.heap[j]? = A4.heap[j]? := fun j hj => by rw [hA5]; exact Below.heap_alloc A4 _ j hj
    have BB4 : Hid (Below w.heap.size w A4) := by rw [hA4]; exact Below.alloc (by rw [hA3]; exact Below.alloc (by rw [hA2]; exact HB1.alloc (by omega) _) (by omega) _) (by omega) _
    have BB5 : Below w.heap.size w A5 := by rw [hA5]; exact BB4.out.alloc (by omega) _
    have cA : RdA w1.heap.size tx 0 A5 := by rw [RdA, b5 _ (by omega), b4 _ (by omega), b3 _ (by omega), hA2]; exact heap_alloc_new w1 _
    have cR : A5.heap[w1.heap.size + 1]? = some (.cells #[.pointer (some ⟨w1.heap.size, 0, none⟩)] 49 (0, 0)) := by rw [b5 _ (by omega), b4 _ (by omega), hA3, ← z2]; exact heap_alloc_new A2 _
    have cG : A5.heap[w1.heap.size + 2]? = some (.cells #[.slice none 0 0] 24 (0, 0)) := by rw [b5 _ (by omega), hA4, ← z3]; exact heap_alloc_new A3 _
    have cR0 : A5.heap[w.heap.size]? = some (.cells #[.slice none 0 0] 24 (0, 0)) := by rw [b5 _ (by omega), b4 _ (by omega), b3 _ (by omega), b2 _ (by omega)]; exact r1
    have HPs : Hid (∀ _ : Unit, _) := fun _ => passesR_any (w1.heap.size + 1) (w1.heap.size + 2) A4 (RdX tx) (fun V => Kp (fun q => q = w1.heap.size ∨ q = w1.heap.size + 2) A5 V) (fun V => RdY (w1.heap.size + 2) A5.heap.size tx V) (by
      rw [← hA5]
      refine (rdClosure_any (w1.heap.size + 1) (w1.heap.size + 2) w1.heap.size tx A5 (by have := HZ.out; omega) cR cG cA (by omega) (by omega)).mono ?_
      rintro e v ⟨hk, h | h⟩
      · exact ⟨⟨by have := hk.size; omega, by rw [hk.block _ (by omega) (by omega), hA5]; exact heap_alloc_new A4 _⟩, .inl ⟨h.1, h.2, hk⟩⟩
      · exact ⟨⟨by have := hk.size; omega, by rw [hk.block _ (by omega) (by omega), hA5]; exact heap_alloc_new A4 _⟩, .inr ⟨h.1, hk, h.2⟩⟩)
    have hA4e : A4 = ((w1.alloc (.cells #[.string tx, .int .i64 0] 51)).alloc (.cells #[.pointer (some ⟨w1.heap.size, 0, none⟩)] 49)).alloc (.cells #[.slice none 0 0] 24) := by rw [hA4, hA3, hA2]
    have HAe : Hid (A4 = _) := hA4e
    have HF : Hid (∀ V w', Kp (fun q => q = w1.heap.size ∨ q = w1.heap.size + 2) A5 V → Kp (fun q => q = A4.heap.size) V w' → Below w.heap.size w w' ∧ w'.heap[w.heap.size]? = some (.cells #[.slice none 0 0] 24 (0, 0)) ∧ w'.heap[w1.heap.size + 2]? = V.heap[w1.heap.size + 2]? ∧ (w1.heap.size + 4 ≤ V.heap.size ∧ V.heap.size ≤ w'.heap.size)) := fun V w' h1 h2 => by
      have q1 := h1.size
      have q2 := h2.size
      refine ⟨⟨h2.os.trans (h1.os.trans BB5.os), h2.tape.trans (h1.tape.trans BB5.tape), h2.output.trans (h1.output.trans BB5.output), by omega, fun j hj => (h2.block j (by omega) (by omega)).trans ((h1.block j (by omega) (by omega)).trans (BB5.block j hj))⟩, ((h2.block _ (by omega) (by omega)).trans ((h1.block _ (by omega) (by omega)).trans cR0)), h2.block _ (by omega) (by omega), by omega, q2⟩
    have HZ4 : Hid (A4.heap.size = w1.heap.size + 3 ∧ A5.heap.size = w1.heap.size + 4 ∧ w.heap.size < w1.heap.size) := ⟨z4, z5, hs1⟩
    clear hA2 hA3 hA4 hA5 hA4e b2 b3 b4 b5 cA cR cG cR0 BB5 z2 z3 z4 z5 r1 hb1 HB1 hw0 HR0 HB0 HUn
    clear A2 A3
    go_wp2_with fail
    simp only [Nat.add_assoc, Nat.reduceAdd]
    rw [← HAe.out]
    refine (HPs.out ()).mono ?_
    rintro e w5 ⟨V, hk5, hkV, hor⟩
    obtain ⟨hB5, hR5, hG5, hs5a, hs5b⟩ := HF.out V w5 hkV hk5
    obtain ⟨hz4, hz5, hz1⟩ := HZ4.out
    clear HPs HAe HF
    rcases hor with ⟨rfl, hX⟩ | ⟨rfl, v, xs, hro, hin, hGV, hlt, hdet⟩
    · have HN : Hid (∀ g, gramO g = true → gramT g ≠ s.data.toList) := fun g hg e => hX g (gramO_Q hg) (HW.out g hg e)
      have f1 := run_frozen (j := 0) hR5
      have c1 := run_cell (j := 0) hR5 rfl
      have z0 : (w5.setCell ⟨w.heap.size, 0, none⟩ (.slice none 0 0)).cell? ⟨w.heap.size, 0, none⟩ = some (.slice none 0 0) := run_cell (setCell_self (j := 0) _ hR5) rfl
      have HB9 : Hid (Below w.heap.size w (w5.setCell ⟨w.heap.size, 0, none⟩ (.slice none 0 0))) := hB5.setCell (Nat.le_refl _) _
      clear hB5 hk5 hkV hR5 hG5
      go_wp2
      refine bodyPost_ret (by simp [results, Tryz.results5, go_sem, z0]; try rfl) rfl ?_
      exact ⟨HB9.out, .inr ⟨HN.out, rfl⟩⟩
    · obtain ⟨oa, oc, rfl⟩ := hro.slice
      have g5 : w5.heap[w1.heap.size + 2]? = some (.cells #[.slice oa xs.length oc] 24 (0, 0)) := hG5.trans hGV
      have hro5 : RowF 3 40 RuleF (Nw A5.heap.size V.heap.size) (.slice oa xs.length oc) xs w5 := hro.ag stabRule (hk5.ag (fun q hq e => by have := hq.1; omega))
      have HRo : Hid (RowF 3 40 RuleF (Nw A5.heap.size V.heap.size) (.slice oa xs.length oc) xs w5) := hro5
      have HTt : Hid (grammarTot xs ≤ 1048576 ∧ listT ruleT16 xs ≤ 20004) := by have h1 := gramT_tot xs; have h2 := HZ.out; rw [Hid]; omega
      have HInn : Hid (GrammarIn xs) := ruIns_in hin (by have h2 := HZ.out; omega)
      have HG5 : Hid (w5.heap[w1.heap.size + 2]? = some (.cells #[.slice oa xs.length oc] 24 (0, 0))) := g5
      have HR5 : Hid (w5.heap[w.heap.size]? = some (.cells #[.slice none 0 0] 24 (0, 0))) := hR5
      have HB5 : Hid (Below w.heap.size w w5) := hB5
      have HDt : Hid (∀ g, gramO g = true → gramT g = s.data.toList → xs = g) := fun g hg e => hdet g (gramO_Q hg) (HW.out g hg e)
      have HS5 : Hid (w1.heap.size + 4 ≤ V.heap.size ∧ V.heap.size ≤ w5.heap.size ∧ A5.heap.size = w1.heap.size + 4 ∧ w.heap.size < w1.heap.size) := ⟨hs5a, hs5b, hz5, hz1⟩
      have HCl : Hid (∀ _ : Unit, _) := fun _ => implGrammarText_any (.slice oa xs.length oc) xs w5 (HG.out.below hB5) (tab_below HT.out hB5) HTt.out.1 HInn.out (hro5.rowC (fun F w vs x h => h.e))
      have c5 := run_cell (j := 0) g5 rfl
      clear hro hin hGV hlt hdet hG5 g5 hro5 hR5 hB5 hk5 hkV hs5a hs5b hz4 hz5 hz1 HW HZ4 HZ HG HT BB4
      go_wp2_with fail
      refine (HCl.out ()).mono ?_
      rintro e w6 ⟨rfl, hb6⟩
      have h5 := HS5.out
      have r6 : w6.heap[w.heap.size]? = some (.cells #[.slice none 0 0] 24 (0, 0)) := (hb6.block _ (by omega)).trans HR5.out
      have g6 : w6.heap[w1.heap.size + 2]? = some (.cells #[.slice oa xs.length oc] 24 (0, 0)) := (hb6.block _ (by omega)).trans HG5.out
      have HRo6 : Hid (RowF 3 40 RuleF (Nw A5.heap.size V.heap.size) (.slice oa xs.length oc) xs w6) := HRo.out.below stabRule hb6
      have HB6 : Below w.heap.size w w6 := HB5.out.trans (hb6.mono HB5.out.size)
      have f6 := run_frozen (j := 0) r6
      have c6 := run_cell (j := 0) r6 rfl
      have d6 := run_cell (j := 0) g6 rfl
      have z0 : (w6.setCell ⟨w.heap.size, 0, none⟩ (.slice none 0 0)).cell? ⟨w.heap.size, 0, none⟩ = some (.slice none 0 0) := run_cell (setCell_self (j := 0) _ r6) rfl
      have z1 : (w6.setCell ⟨w.heap.size, 0, none⟩ (.slice oa xs.length oc)).cell? ⟨w.heap.size, 0, none⟩ = some (.slice oa xs.length oc) := run_cell (setCell_self (j := 0) _ r6) rfl
      have HB7 : Hid (Below w.heap.size w (w6.setCell ⟨w.heap.size, 0, none⟩ (.slice none 0 0))) := HB6.setCell (Nat.le_refl _) _
      have HB8 : Hid (Below w.heap.size w (w6.setCell ⟨w.heap.size, 0, none⟩ (.slice oa xs.length oc))) := HB6.setCell (Nat.le_refl _) _
      have HRo8 : Hid (RowF 3 40 RuleF (Nw w.heap.size (w6.setCell ⟨w.heap.size, 0, none⟩ (.slice oa xs.length oc)).heap.size) (.slice oa xs.length oc) xs (w6.setCell ⟨w.heap.size, 0, none⟩ (.slice oa xs.length oc))) := by
        have h6 := hb6.size
        have hz : (w6.setCell ⟨w.heap.size, 0, none⟩ (.slice oa xs.length oc)).heap.size = w6.heap.size := by simp [World.setCell]
        exact (HRo6.out.ag stabRule ((Kp.store (F := fun q => q = w.heap.size) (w := w6) (o := 0) (u := .slice oa xs.length oc) rfl).ag (fun q hq e => by have := hq.1; omega))).up (fun q hq => ⟨by have := hq.1; omega, by have := hq.2; omega⟩)
      clear hb6 r6 g6 HB6 h5
      cases hO : gramO xs with
      | false =>
        have HN : Hid (∀ g, gramO g = true → gramT g ≠ s.data.toList) := fun g hg e => by
          rw [HDt.out g hg e, hg] at hO
          cases hO
        generalize str (gramT xs) = st at *
        clear hO z1
        go_wp2
        refine bodyPost_ret (by simp [results, Tryz.results5, go_sem, z0]; try rfl) rfl ?_
        exact ⟨HB7.out, .inr ⟨HN.out, rfl⟩⟩
      | true =>
        by_cases hq : str (gramT xs) = s
        · have HE : Hid (gramO xs = true ∧ gramT xs = s.data.toList) := ⟨hO, str_bne.1 hq⟩
          have q1 : (s.toList == s.toList) = true := beq_self_eq_true _
          rw [hq]
          clear hO hq z0
          go_wp2
          refine bodyPost_ret (by simp [results, Tryz.results5, go_sem, z1]; try rfl) rfl ?_
          exact ⟨HB8.out, .inl ⟨xs, _, HE.out.1, HE.out.2, HTt.out.2, rfl, HRo8.out⟩⟩
        · have HN : Hid (∀ g, gramO g = true → gramT g ≠ s.data.toList) := fun g hg e => by
            rw [← HDt.out g hg e] at e
            exact hq (str_bne.2 e)
          have q1 : ((str (gramT xs)).toList == s.toList) = false := beq_eq_false_iff_ne.2 (fun h => hq (toList_injR h))
          generalize str (gramT xs) = st at *
          clear hO hq z1
          go_wp2
          refine bodyPost_ret (by simp [results, Tryz.results5, go_sem, z0]; try rfl) rfl ?_
          exact ⟨HB7.out, .inr ⟨HN.out, rfl⟩⟩

end Go.Proofs.YtokidlklkgghkaaGreatDoor

namespace Go.Proofs.YtokidlklkgghkaaGreatDoor
open Go.RowKit
set_option linter.unusedVariables false

/-- A piece that was read from a (flag f0) to b (flag f1): c is how much greater than its bytes it may be where it is of no form. -/
structure Fd {α : Type} (f : α → List UInt8) (P : α → Prop) (T : α → Nat) (c : Nat) (s : ByteArray) (a : Nat) (f0 : Bool) (x : α) (b : Nat) (f1 : Bool) : Prop where
  lo : a ≤ b
  up : b ≤ s.size
  tot : a + T x ≤ b + c
  bad : f0 = true → f1 = true ∧ T x = 0
  no : f0 = false → f1 = true → ∀ x0 r, P x0 → s.data.toList.drop a ≠ f x0 ++ r
  pos : f1 = false → a + T x < b
  yes : f1 = false → ∀ x0 r, P x0 → s.data.toList.drop a = f x0 ++ r → x = x0 ∧ b = a + (f x0).length
theorem drop_nextS {s : ByteArray} {a b : Nat} {L R : List UInt8} (e : s.data.toList.drop a = L ++ R) (hb : b = a + L.length) : s.data.toList.drop b = R := by rw [hb, ← List.drop_drop, e, List.drop_left]
section
variable {α β : Type} {f : α → List UInt8} {P : α → Prop} {T : α → Nat} {c : Nat} {g : β → List UInt8} {Q : β → Prop} {U : β → Nat} {d : Nat} {s : ByteArray} {a b b' : Nat} {x : α} {y : β} {f0 f1 f2 : Bool}
theorem Fd.flag (h : Fd f P T c s a f0 x b f1) (h1 : f1 = false) : f0 = false := by
  cases e : f0 with
  | false => rfl
  | true => have := (h.bad e).1; rw [h1] at this; cases this
theorem Fd.pair (h : Fd f P T c s a f0 x b f1) (h' : Fd g Q U d s b f1 y b' f2) :
    Fd (fun q : α × β => f q.1 ++ g q.2) (fun q => P q.1 ∧ Q q.2) (fun q => T q.1 + U q.2) (max c d) s a f0 (x, y) b' f2 := by
  have hlo := h.lo
  have hlo' := h'.lo
  refine ⟨by omega, h'.up, ?_, fun e => ?_, fun e e2 x0 r hx ee => ?_, fun e => ?_, fun e x0 r hx ee => ?_⟩
  · show a + (T x + U y) ≤ b' + max c d
    have ht := h.tot
    have ht' := h'.tot
    cases e1 : f1 with
    | false => have := h.pos e1; omega
    | true => have := (h'.bad e1).2; omega
  · obtain ⟨e1, e2⟩ := h.bad e
    obtain ⟨e3, e4⟩ := h'.bad e1
    exact ⟨e3, by show T x + U y = 0; omega⟩
  · rw [List.append_assoc] at ee
    cases e1 : f1 with
    | true => exact h.no e e1 _ _ hx.1 ee
    | false =>
      obtain ⟨_, g2⟩ := h.yes e1 _ _ hx.1 ee
      exact h'.no e1 e2 _ _ hx.2 (drop_nextS ee g2)
  · have e1 := h'.flag e
    have := h.pos e1
    have := h'.pos e
    show a + (T x + U y) < b'
    omega
  · have e1 := h'.flag e
    rw [List.append_assoc] at ee
    obtain ⟨g1, g2⟩ := h.yes e1 _ _ hx.1 ee
    obtain ⟨g3, g4⟩ := h'.yes e _ _ hx.2 (drop_nextS ee g2)
    refine ⟨by rw [g1, g3], ?_⟩
    show b' = a + (f x0.1 ++ g x0.2).length
    rw [List.length_append]
    omega
/-- The same piece, as a struct. -/
theorem Fd.as (h : Fd f P T c s a f0 x b f1) (hU : U y = T x) (hc : c ≤ d) (hQ : ∀ y0, Q y0 → ∃ x0, P x0 ∧ g y0 = f x0 ∧ (x = x0 → y = y0)) : Fd g Q U d s a f0 y b f1 := by
  refine ⟨h.lo, h.up, by have := h.tot; omega, fun e => ⟨(h.bad e).1, by rw [hU]; exact (h.bad e).2⟩, fun e e1 y0 r hy ee => ?_, fun e => by rw [hU]; exact h.pos e, fun e y0 r hy ee => ?_⟩
  · obtain ⟨x0, hx, eg, _⟩ := hQ y0 hy
    exact h.no e e1 x0 r hx (by rw [ee, eg])
  · obtain ⟨x0, hx, eg, ex⟩ := hQ y0 hy
    obtain ⟨h1, h2⟩ := h.yes e x0 r hx (by rw [ee, eg])
    exact ⟨ex h1, by rw [eg]; exact h2⟩
end

/-- What may be written of a list that is read no further than so many. -/
def ListC {α : Type} (cut : Nat) (P : α → Prop) (xs : List α) : Prop := xs.length ≤ cut ∧ ∀ x ∈ xs, P x
/-- Behind some elements of a list of N, read from a1 (flag g1) on, now at b (flag g). -/
structure LoopS {α : Type} (f : α → List UInt8) (P : α → Prop) (T : α → Nat) (c : Nat) (s : ByteArray) (a1 : Nat) (g1 : Bool) (N : Nat) (ts : List α) (b : Nat) (g : Bool) : Prop where
  lo : a1 ≤ b
  up : b ≤ s.size
  tot : a1 + (ts.map fun x => T x + 1).sum ≤ b + c + 1
  good : g = false → LoopD f P T s a1 N ts b
  bad : g1 = true → g = true ∧ ts = []
  no : g1 = false → g = true → ∀ (ys : List α) (r : List UInt8), ys.length = N → (∀ y ∈ ys, P y) → s.data.toList.drop a1 ≠ (ys.map f).flatten ++ r
section
variable {α : Type} {f : α → List UInt8} {P : α → Prop} {T : α → Nat} {c : Nat} {s : ByteArray} {a a1 b b' N cut : Nat} {ts : List α} {x : α} {f0 g1 g g' : Bool}
theorem LoopS.start (h : a1 ≤ s.size) : LoopS f P T c s a1 g1 N [] a1 g1 :=
  ⟨Nat.le_refl _, h, by simp only [List.map_nil, List.sum_nil]; omega, fun _ => LoopD.start h, fun e => ⟨e, rfl⟩, fun e e1 => by rw [e] at e1; cases e1⟩
theorem LoopS.next (h : LoopS f P T c s a1 g1 N ts b false) (hk : ts.length < N) (hx : Fd f P T c s b false x b' g') : LoopS f P T c s a1 g1 N (ts ++ [x]) b' g' := by
  have hD := h.good rfl
  have hl := h.lo
  have hl' := hx.lo
  refine ⟨by omega, hx.up, ?_, fun e => hD.next hk (hx.pos e) hx.up (hx.yes e), fun e => (by have := (h.bad e).1; cases this), fun e e1 ys r h1 h2 => hD.no hk (hx.no rfl e1) ys r h1 h2⟩
  have h1 := hD.low
  have h2 := hx.tot
  simp only [List.map_append, List.sum_append, List.map_cons, List.map_nil, List.sum_cons, List.sum_nil]
  omega
/-- A list whose number stands ahead. -/
theorem LoopS.fin (hc1 : cut ≤ 1000000000) (hd : Fd varB (· ≤ 1000000000) (fun _ => 0) 0 s a f0 N a1 g1) (h : LoopS f P T c s a1 g1 N ts b g) (hle : ts.length ≤ N) (hex : g = false → N ≤ ts.length ∨ cut ≤ ts.length) :
    Fd (listW f) (ListC cut P) (listT T) (c + 1) s a f0 ts b g := by
  have hlo := hd.lo
  have hlo' := h.lo
  have head : g1 = false → ∀ ys r, ListC cut P ys → s.data.toList.drop a = listW f ys ++ r → N = ys.length ∧ a1 = a + (varB ys.length).length ∧ s.data.toList.drop a1 = (ys.map f).flatten ++ r := fun e ys r hy ee => by
    rw [listW, List.append_assoc] at ee
    obtain ⟨h1, h2⟩ := hd.yes e _ _ (Nat.le_trans hy.1 hc1) ee
    exact ⟨h1, h2, drop_nextS ee h2⟩
  have hg1 : g = false → g1 = false := fun e => by
    cases e1 : g1 with
    | false => rfl
    | true => have := (h.bad e1).1; rw [e] at this; cases this
  refine ⟨by omega, h.up, ?_, fun e => ?_, fun e e1 ys r hy ee => ?_, fun e => ?_, fun e ys r hy ee => ?_⟩
  · have := h.tot
    show a + (ts.map fun x => T x + 1).sum ≤ b + (c + 1)
    omega
  · obtain ⟨e1, e2⟩ := h.bad (hd.bad e).1
    exact ⟨e1, by rw [e2]; rfl⟩
  · cases e2 : g1 with
    | true =>
      rw [listW, List.append_assoc] at ee
      exact hd.no e e2 _ _ (Nat.le_trans hy.1 hc1) ee
    | false =>
      obtain ⟨h1, h2, h3⟩ := head e2 ys r hy ee
      exact h.no e2 e1 ys r h1.symm hy.2 h3
  · have h1 : a + 0 < a1 := hd.pos (hg1 e)
    have h2 := (h.good e).low
    show a + (ts.map fun x => T x + 1).sum < b
    omega
  · obtain ⟨h1, h2, h3⟩ := head (hg1 e) ys r hy ee
    obtain ⟨e1, e2⟩ := (h.good e).det ys r h1.symm hy.2 h3
    have hN : ts.length = ys.length := by
      have := hy.1
      rcases hex e with h4 | h4 <;> omega
    rw [hN, List.take_length] at e1 e2
    refine ⟨e1, ?_⟩
    rw [listW, List.length_append]
    omega
end
end Go.Proofs.YtokidlklkgghkaaGreatDoor
