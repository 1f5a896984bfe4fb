/- The specification's l12Make.group (printed by mk/flg.py). -/
import Derived.Test.YtipkbkhnaekceaaDec
import Derived.Test.YtipkbkhnaekceaaFlF0
import Derived.Test.YtipkbkhnaekceaaSfG
namespace Go.Proofs.Ytipkbkhnaekceaa
open Go.RowKit
set_option linter.unusedVariables false

theorem kp3 {W W' : World} {a b c : Addr} {x y z : Value} (h : W.cell? a = some x ∧ W.cell? b = some y ∧ W.cell? c = some z) (hb : Below W.heap.size W W') : W'.cell? a = some x ∧ W'.cell? b = some y ∧ W'.cell? c = some z := ⟨cell_keep h.1 hb, cell_keep h.2.1 hb, cell_keep h.2.2 hb⟩
theorem kp4 {W W' : World} {a b c d : Addr} {x y z u : Value} (h : W.cell? a = some x ∧ W.cell? b = some y ∧ W.cell? c = some z ∧ W.cell? d = some u) (hb : Below W.heap.size W W') : W'.cell? a = some x ∧ W'.cell? b = some y ∧ W'.cell? c = some z ∧ W'.cell? d = some u := ⟨cell_keep h.1 hb, kp3 h.2 hb⟩
theorem kp7 {W W' : World} {a b c d e f g : Addr} {x y z u v s t : Value} (h : W.cell? a = some x ∧ W.cell? b = some y ∧ W.cell? c = some z ∧ W.cell? d = some u ∧ W.cell? e = some v ∧ W.cell? f = some s ∧ W.cell? g = some t) (hb : Below W.heap.size W W') : W'.cell? a = some x ∧ W'.cell? b = some y ∧ W'.cell? c = some z ∧ W'.cell? d = some u ∧ W'.cell? e = some v ∧ W'.cell? f = some s ∧ W'.cell? g = some t := ⟨cell_keep h.1 hb, cell_keep h.2.1 hb, cell_keep h.2.2.1 hb, kp4 h.2.2.2 hb⟩
theorem rowC_one {α : Type} {sz : Nat} {E : World → List Value → α → Prop} {W : World} {b : Nat} {cs : Array Value} {T : TypeId} {fr : Nat × Nat} {x : α} (hb : W.heap[b]? = some (.cells cs T fr)) (hs : cs.toList.length = sz) (hE : E W cs.toList x) : RowC sz E W (.slice (some ⟨b, 0, none⟩) 1 1) [x] := by
  refine ⟨some ⟨b, 0, none⟩, 1, rfl, fun h => (by cases h), fun _ => ⟨b, 0, rfl, (Array.getElem?_eq_some_iff.1 hb).1, fun i hi => ⟨cs.toList, hs, fun j hj => ?_, ?_⟩⟩⟩
  · obtain rfl : i = 0 := by simpa using hi
    have := run_cell (j := j) hb (u := cs.toList[j]) (by rw [← Array.getElem?_toList, List.getElem?_eq_getElem hj])
    simpa using this
  · obtain rfl : i = 0 := by simpa using hi
    exact hE
theorem setFour {W : World} {k : Nat} {a b c d u v x y : Value} {T : TypeId} (h : W.heap[k]? = some (.cells #[a, b, c, d] T (0, 0))) : ((((W.setCell ⟨k, 0, none⟩ u).setCell ⟨k, 1, none⟩ v).setCell ⟨k, 2, none⟩ x).setCell ⟨k, 3, none⟩ y).heap[k]? = some (.cells #[u, v, x, y] T (0, 0)) := by
  rw [setCell_self _ (setCell_self _ (setCell_self _ (setCell_self _ h)))]
  rfl
theorem fieldG (a : Option Addr) (n c : Nat) (w : World) : (Instr.field 26 (.agg #[.slice a n c]) 0).run Try.prog w = .ok (.slice a n c) w := by kernel_rfl
theorem Try.infoAltG : (Try.prog.info? 48).map (fun i => (i.zero, i.size, i.bytes)) = some (some (.agg #[.slice none 0 0]), 1, 24) := by kernel_rfl
theorem one_slG (o : Option Addr) (l c : Nat) : ∀ u ∈ [Value.slice o l c], u.oneCell' = true := by
  intro u hu
  rw [List.mem_singleton.1 hu]
  rfl

set_option maxHeartbeats 25600000 in
set_option maxRecDepth 100000 in
theorem groupW_any (A : Nat → Prop) (ns : List SNodeD) (rs : List SRuleD) (hS : Shaped ns) (hL : LeafsIn ns) (hl : ns.length ≤ 100000) (an ar : Option Addr) (cn cr p : Nat) (W0 : World) (hN : SNs W0 (.slice an ns.length cn) ns) (hR : SRs W0 (.slice ar rs.length cr) rs) (m : MkD) (gv qv kv : Value) (known : List ByteArray) (w : World) (z ri : Nat) (hz : z < ns.length) (h4 : ¬ ns[z].kind ≤ 4) (h5 : ¬ ns[z].kind = 5) (hri : ri < m.rules.length) (f : Nat) (hf : 9 * z + 10 ≤ f) (hkn : known.length ≤ 6) (hkf : knF ns rs f false (nodeS ns (groupS ns (z : Int))).kids known = true)
    (hA : ∀ k, A k → k < w.heap.size) (hM : MkI A ns rs an ar cn cr W0.heap.size p W0 m gv qv w) (hK : Held (MutA A p gv qv) w (fun V => SRow V kv known)) (hb1 : m.rules.length ≤ 4000) (hb2 : m.queue.length ≤ 4000) (hb3 : m.count ≤ 4000) :
    Calls Try.prog 75 #[.pointer (some ⟨p, 0, none⟩), .agg #[.int .i64 (z : Int), .int .i64 (ri : Int), kv]] w fun e w' => ∃ gv' qv' : Value, e = .returned (.tuple #[]) ∧ MkI A ns rs an ar cn cr W0.heap.size p W0 (groupM ns m ((z : Int), ri, known)) gv' qv' w' ∧ FrA (Mut p gv qv) w w' ∧ ∀ k, k < w.heap.size → Mut p gv' qv' k → Mut p gv qv k := by
  obtain ⟨s0, hs, hs0, hs1, hs2⟩ := info_parts Try.infoSymP
  obtain ⟨a0, ha, ha0, ha1, ha2⟩ := info_parts Try.infoAltG
  obtain ⟨ak, ck0, rfl⟩ := hK.here.slice
  have HN : Hid (SNs W0 (.slice an ns.length cn) ns) := hN
  have HRs : Hid (SRs W0 (.slice ar rs.length cr) rs) := hR
  have HA0 : Hid (∀ k, A k → k < w.heap.size) := hA
  have hBw : W0.heap.size ≤ w.heap.size := hM.lt
  obtain ⟨y, hy, hyz, hyl, hy6⟩ := group_lt hS hz h4 h5
  have hkd : (nodeS ns (groupS ns (z : Int))).kids = ns[y].kids := by rw [hy, nodeS_is hyl]
  rw [hkd] at hkf
  have hGM := fun m1 alts more nm h hn hm => groupM_is ns m m1 z ri known alts more nm h hn hm
  rw [hkd, nodeS_is hz] at hGM
  have HGM : Hid (∀ m1 alts more nm, _) := hGM
  obtain ⟨g, off, aa, ca, ka, ck, hgo, m0w, m1w, m2w, m3w, m4w, _, _⟩ := sNs_at hN hz
  subst hgo
  obtain ⟨g', off', ya, yc, yk, yl, hgo, _, _, _, _, y4w, _, hYZ⟩ := sNs_at hN hyl
  obtain ⟨rfl, rfl⟩ : g = g' ∧ off = off' := by cases hgo; exact ⟨rfl, rfl⟩
  have HZ0 : Hid (IRow W0 (.slice yk ns[y].kids.length yl) ns[y].kids) := hYZ
  have HY4 : Hid (W0.cell? ⟨g, off + y * 5 + 4, none⟩ = some (.slice yk ns[y].kids.length yl)) := y4w
  have hal := (hS y hyl).alt hy6
  have HKd : Hid (∀ j (hj : j < ns[y].kids.length), ∃ x : Nat, ns[y].kids[j] = (x : Int) ∧ x < y ∧ ∃ hx : x < ns.length, ns[x].kind = 5) := fun j hj => by
    obtain ⟨x, e, hxy, hx, _, q, _⟩ := kid_lt hS hyl hj
    exact ⟨x, e, hxy, hx, q hy6⟩
  have HR8 : Hid (∀ x (hx : x < ns.length), ns[x].kind = 5 → ns[x].kids.length ≤ 8) := fun x hx h => (hS x hx).row h
  have HKF0 : Hid (knF ns rs f false ns[y].kids known = true) := hkf
  have HS0 : Hid (Shaped ns) := hS
  have HL0 : Hid (LeafsIn ns) := hL
  have hk0 : ns[z].kind ≠ 6 → 0 < ns[z].kids.length := fun h => by have := (hS z hz).one (by have := (hS z hz).kind; omega); omega
  have HG : Hid (∀ V, Below W0.heap.size W0 V → _) := fun V hV => group_any ns rs (.slice (some ⟨g, off, none⟩) ns.length cn) (.slice ar rs.length cr) V z (sNs_below HN.out hV) (sRs_below HRs.out hV) hz hk0
  rw [hy] at HG
  have B1 : Hid (Below w.heap.size w (w.alloc (.cells #[.int .i64 (z : Int), .int .i64 (ri : Int), .slice ak known.length ck0] 133))) := (Below.refl _ _).alloc (Nat.le_refl _) _
  have B2 : Hid (Below w.heap.size w ((w.alloc (.cells #[.int .i64 (z : Int), .int .i64 (ri : Int), .slice ak known.length ck0] 133)).alloc (.cells #[.int .i64 ns[z].kind, .string ns[z].text, .slice aa ns[z].args.length ca, .string ns[z].bind, .slice ka ns[z].kids.length ck] 121)).drew) := bel_drewS (B1.out.alloc B1.out.size _)
  have Q1 := heap_alloc_new w (.cells #[.int .i64 (z : Int), .int .i64 (ri : Int), .slice ak known.length ck0] 133)
  have b0 := cell_keep (run_cell (j := 0) hM.box rfl) B1.out
  have n0 := cell_keep (cell_keep m0w hM.bel) B1.out
  have n1 := cell_keep (cell_keep m1w hM.bel) B1.out
  have n2 := cell_keep (cell_keep m2w hM.bel) B1.out
  have n3 := cell_keep (cell_keep m3w hM.bel) B1.out
  have n4 := cell_keep (cell_keep m4w hM.bel) B1.out
  have q0 := run_cell (j := 0) Q1 rfl
  have i1 : (z : Int) < (ns.length : Int) := by omega
  have i2 : (y : Int) < (ns.length : Int) := by omega
  have HM : Hid (MkI A ns rs (some ⟨g, off, none⟩) ar cn cr W0.heap.size p W0 m gv qv w) := hM
  have HK : Hid (Held (MutA A p gv qv) w (fun V => SRow V (.slice ak known.length ck0) known)) := hK
  have HB0 : Hid (Below W0.heap.size W0 w) := hM.bel
  clear hN hR hM hK hA hS hL hkf h4 hgo hy hkd hGM hYZ y4w m0w m1w m2w m3w m4w hk0 hy6
  go_enter Try.func75, Try.ntmps75
  go_wp2_with fail
  obtain ⟨w1, hw1⟩ : ∃ w1, w1 = (w.alloc (.cells #[.int .i64 (z : Int), .int .i64 (ri : Int), .slice ak known.length ck0] 133)) := ⟨_, rfl⟩
  rw [← hw1] at B1 B2 Q1 b0 n0 n1 n2 n3 n4 q0 ⊢
  obtain ⟨bq, hbq⟩ : ∃ bq, bq = w.heap.size := ⟨_, rfl⟩
  have HBq : Hid (bq = w.heap.size) := hbq
  rw [← hbq] at q0 Q1 ⊢
  have hs1' : w1.heap.size = w.heap.size + 1 := by rw [hw1]; simp
  clear hw1 hbq

  go_region_held3 (fun V => V.cell? ⟨p, 0, none⟩ = some (.slice (some ⟨g, off, none⟩) ns.length cn) ∧ V.cell? ⟨bq, 0, none⟩ = some (.int .i64 (z : Int)) ∧ V.cell? ⟨g, off + z * 5, none⟩ = some (.int .i64 ns[z].kind) ∧ V.cell? ⟨g, off + z * 5 + 1, none⟩ = some (.string ns[z].text) ∧ V.cell? ⟨g, off + z * 5 + 2, none⟩ = some (.slice aa ns[z].args.length ca) ∧ V.cell? ⟨g, off + z * 5 + 3, none⟩ = some (.string ns[z].bind) ∧ V.cell? ⟨g, off + z * 5 + 4, none⟩ = some (.slice ka ns[z].kids.length ck))
    ((first | go_keep | exact kp7 (by assumption) ((Below.refl _ _).alloc (Nat.le_refl _) _)))
    (fail)

  have X2 : Hid ((w1.alloc (.cells #[.int .i64 ns[z].kind, .string ns[z].text, .slice aa ns[z].args.length ca, .string ns[z].bind, .slice ka ns[z].kids.length ck] 121)).drew.heap[w.heap.size + 1]? = some (.cells #[.int .i64 ns[z].kind, .string ns[z].text, .slice aa ns[z].args.length ca, .string ns[z].bind, .slice ka ns[z].kids.length ck] 121 (0, 0))) := by
    have := heap_alloc_new w1 (.cells #[.int .i64 ns[z].kind, .string ns[z].text, .slice aa ns[z].args.length ca, .string ns[z].bind, .slice ka ns[z].kids.length ck] 121)
    rw [hs1'] at this
    exact this
  have Q2 : Hid ((w1.alloc (.cells #[.int .i64 ns[z].kind, .string ns[z].text, .slice aa ns[z].args.length ca, .string ns[z].bind, .slice ka ns[z].kids.length ck] 121)).drew.heap[w.heap.size]? = some (.cells #[.int .i64 (z : Int), .int .i64 (ri : Int), .slice ak known.length ck0] 133 (0, 0))) := by
    have h := Q1
    rw [HBq.out] at h
    exact (Below.heap_alloc _ _ _ (by omega)).trans h
  obtain ⟨w2, hw2⟩ : ∃ w2, w2 = (w1.alloc (.cells #[.int .i64 ns[z].kind, .string ns[z].text, .slice aa ns[z].args.length ca, .string ns[z].bind, .slice ka ns[z].kids.length ck] 121)).drew := ⟨_, rfl⟩
  have hs2' : w2.heap.size = w.heap.size + 2 := by rw [hw2]; show (w1.alloc _).heap.size = _; simp [hs1']
  rw [← hw2] at B2 X2 Q2 ⊢
  obtain ⟨bx, hbx⟩ : ∃ bx, bx = w.heap.size + 1 := ⟨_, rfl⟩
  have HBx : Hid (bx = w.heap.size + 1) := hbx
  rw [← hbx] at ⊢
  have HBW2 : Hid (Below W0.heap.size W0 w2) := HB0.out.trans (B2.out.mono hBw)
  have p0 := cell_keep (run_cell (j := 0) HM.out.box rfl) B2.out
  have p1 := cell_keep (run_cell (j := 1) HM.out.box rfl) B2.out
  have q02 : w2.cell? ⟨bq, 0, none⟩ = some (.int .i64 (z : Int)) := by rw [HBq.out]; exact run_cell (j := 0) Q2.out rfl
  clear hw2 hbx b0 n0 n1 n2 n3 n4 q0 Q1 B1 hs1'
  go_wp2_with fail
  go_region_held3 (fun V => V.cell? ⟨p, 0, none⟩ = some (.slice (some ⟨g, off, none⟩) ns.length cn) ∧ V.cell? ⟨p, 1, none⟩ = some (.slice ar rs.length cr) ∧ V.cell? ⟨bq, 0, none⟩ = some (.int .i64 (z : Int)))
    ((first | exact kp3 (by assumption) hb3' | go_keep))
    ((first | (go_at_call 89; refine (HG.out _ (bel_drewS HBW2.out)).mono ?_; rintro e w3 ⟨rfl, hb3'⟩)))

  have B3 : Hid (Below w2.heap.size w2 w3) := bel_of_drew hb3'
  have hs3 := B3.out.size
  have HBW3 : Hid (Below W0.heap.size W0 w3) := HBW2.out.trans (B3.out.mono HBW2.out.size)
  have B3w : Hid (Below w.heap.size w w3) := B2.out.trans (B3.out.mono B2.out.size)
  have r0 := cell_keep p0 B3.out
  have y4 := cell_keep HY4.out HBW3.out
  have HI0 : Hid (GwI A ns rs (some ⟨g, off, none⟩) ar cn cr W0.heap.size p W0 w gv qv #[.int .i64 (z : Int), .int .i64 (ri : Int), .slice ak known.length ck0] #[.int .i64 ns[z].kind, .string ns[z].text, .slice aa ns[z].args.length ca, .string ns[z].bind, .slice ka ns[z].kids.length ck] m gv qv (.slice (some ⟨w3.heap.size, 0, none⟩) 0 0) (.slice (some ⟨w3.heap.size + 1, 0, none⟩) 0 0) (.slice ak known.length ck0) [] [] known ((w3.alloc (.cells #[] 48)).alloc (.cells #[] 48))) := by
    have b5 : Below w.heap.size w ((w3.alloc (.cells #[] 48)).alloc (.cells #[] 48)) := (B3w.out.alloc B3w.out.size _).alloc (by have := B3w.out.size; simp; omega) _
    have b35 : Below w2.heap.size w2 ((w3.alloc (.cells #[] 48)).alloc (.cells #[] 48)) := (B3.out.alloc hs3 _).alloc (by simp; omega) _
    have hag : ∀ k, k < w.heap.size → AG A (.slice (some ⟨w3.heap.size, 0, none⟩) 0 0) (.slice (some ⟨w3.heap.size + 1, 0, none⟩) 0 0) k → A k := fun k hk a => by
      rcases a with a | a | a
      · exact a
      · have : w3.heap.size = k := Option.some.inj a
        omega
      · have : w3.heap.size + 1 = k := Option.some.inj a
        omega
    refine ⟨(HM.out.away (fun k hk a => .inl (hag k hk a))).step b5, ?_, ?_, (HK.out.away (fun k hk a => a.imp (hag k hk) id)).fr (FrA.below b5), (b35.block _ (by omega)).trans Q2.out, (b35.block _ (by omega)).trans X2.out, fun a => ?_, fun k hk e => ?_, FrA.below b5, fun _ _ a => a⟩
    · exact RowH.below (RowO.made (by omega)) ((Below.refl _ _).alloc (Nat.le_refl _) _)
    · have h := RowO.made (α := List SymD) (sz := 1) (T := 48) (E := HE (MutA (AG A (.slice (some ⟨w3.heap.size, 0, none⟩) 0 0) (.slice (some ⟨w3.heap.size + 1, 0, none⟩) 0 0)) p gv qv) AltE) (w := w3.alloc (.cells #[] 48)) (B := w.heap.size) (by simp; omega)
      rwa [show (w3.alloc (.cells #[] 48)).heap.size = w3.heap.size + 1 by simp] at h
    · have := (HM.out.ge _ a).2
      omega
    · have e1 : w3.heap.size = k := Option.some.inj hk
      have e2 : w3.heap.size + 1 = k := Option.some.inj e
      omega
  clear hb3' p0 p1 q02 B2 X2 Q2
  go_wp2
  generalize (w3.alloc (.cells #[] 48)).alloc (.cells #[] 48) = W5 at *
  go_loopg [7, 8, 9] ns[y].kids.length (fun gg av mv iv wr => ∃ (i : Nat) (m1 : MkD) (gv1 qv1 : Value) (a7 a8 : Option Addr) (c7 c8 : Nat) (alts : List (List SymD)), iv = .int .i64 i ∧ av = .slice a7 i c7 ∧ mv = .slice a8 i c8 ∧ gg + i = ns[y].kids.length ∧ rowsK ns known m1 alts (ns[y].kids.drop i) = rowsK ns known m [] ns[y].kids ∧ alts.length = i ∧ Grew m m1 (8 * i) ∧ knF ns rs (f - i) false (ns[y].kids.drop i) known = true ∧ GwI A ns rs (some ⟨g, off, none⟩) ar cn cr W0.heap.size p W0 w gv qv #[.int .i64 (z : Int), .int .i64 (ri : Int), .slice ak known.length ck0] #[.int .i64 ns[z].kind, .string ns[z].text, .slice aa ns[z].args.length ca, .string ns[z].bind, .slice ka ns[z].kids.length ck] m1 gv1 qv1 (.slice a7 i c7) (.slice a8 i c8) (.slice ak known.length ck0) alts (alts.map fun s => s ++ [⟨3, m.rules[ri].name, known.map varE, em⟩]) known wr)
  case atStart => exact ⟨0, m, gv, qv, _, _, _, _, [], rfl, rfl, rfl, by omega, rfl, rfl, Grew.refl m, HKF0.out, HI0.out⟩
  case round =>
    obtain ⟨i, m1, gv1, qv1, a7, a8, c7, c8, alts, rfl, rfl, rfl, hg, hE, hal1, hGr, hkf, hI⟩ := hrel
    have HE : Hid (rowsK ns known m1 alts (ns[y].kids.drop i) = rowsK ns known m [] ns[y].kids) := hE
    have HAL : Hid (alts.length = i) := hal1
    have HGr : Hid (Grew m m1 (8 * i)) := hGr
    have HKf : Hid (knF ns rs (f - i) false (ns[y].kids.drop i) known = true) := hkf
    have HI : Hid (GwI A ns rs (some ⟨g, off, none⟩) ar cn cr W0.heap.size p W0 w gv qv #[.int .i64 (z : Int), .int .i64 (ri : Int), .slice ak known.length ck0] #[.int .i64 ns[z].kind, .string ns[z].text, .slice aa ns[z].args.length ca, .string ns[z].bind, .slice ka ns[z].kids.length ck] m1 gv1 qv1 (.slice a7 i c7) (.slice a8 i c8) (.slice ak known.length ck0) alts (alts.map fun s => s ++ [⟨3, m.rules[ri].name, known.map varE, em⟩]) known wr) := hI
    clear hE hal1 hGr hkf hI HI0
    by_cases hi : i < ns[y].kids.length
    · obtain ⟨x, hx, hxy, hxl, hx5⟩ := HKd.out i hi
      obtain ⟨kb, ko, rfl, hkc⟩ := (HZ0.out.below HI.out.mki.bel).at hi
      rw [hx] at hkc
      have j2 : (i : Int) < (ns[y].kids.length : Int) := by omega
      have d1 : decide ((i : Int) < (ns[y].kids.length : Int)) = true := decide_eq_true j2
      have q2 : wr.cell? ⟨bq, 2, none⟩ = some (.slice ak known.length ck0) := by rw [HBq.out]; exact run_cell (j := 2) HI.out.qb rfl
      have hgr1 := HGr.out.rl
      have hgr2 := HGr.out.ql
      have hgr3 := HGr.out.cl
      obtain ⟨f2, rfl⟩ : ∃ f, gk = f + 1 := ⟨gk - 1, by omega⟩
      obtain ⟨f', hf'⟩ : ∃ f', f - i = f' + 1 := ⟨f - i - 1, by omega⟩
      have HKc : Hid (knF ns rs f' true ns[x].kids known = true ∧ knF ns rs f' false (ns[y].kids.drop (i + 1)) known = true) := by
        have h := HKf.out
        rw [hf', List.drop_eq_getElem_cons hi, hx, knF_alt, nodeS_is hxl, Bool.and_eq_true] at h
        exact h
      have HRow : Hid (∀ V, Below wr.heap.size wr V → _) := fun V hV => rowM_any (AG A (.slice a7 i c7) (.slice a8 i c8)) ns rs HS0.out HL0.out hl (some ⟨g, off, none⟩) ar cn cr p W0 HN.out m1 gv1 qv1 (.slice ak known.length ck0) known V x hxl hx5 f' (by omega) hkn HKc.out.1 (fun k hk => (HI.out.step hV).ag_lt HA0.out k hk) (HI.out.step hV).mki (HI.out.step hV).kno (by omega) (by omega) (by omega)
      have HNxt : Hid (rowsK ns known (rowK ns m1 known [] ns[x].kids).1 (alts ++ [(rowK ns m1 known [] ns[x].kids).2]) (ns[y].kids.drop (i + 1)) = rowsK ns known m [] ns[y].kids) := by
        rw [Hid, ← HE.out, List.drop_eq_getElem_cons hi, hx, rowsK_cons, nodeS_is hxl]
      obtain ⟨hGk, hSl⟩ := rowK_grew ns ns[x].kids m1 known []
      have hx8 := HR8.out x hxl hx5
      have HCp : Hid (CopyIn [⟨em, [], [(rowK ns m1 known [] ns[x].kids).2]⟩]) := copy_one (by rw [hSl]; simp; omega) (rowK_cp ns HL0.out ns[x].kids m1 known [] 7 (by omega) (by
        have : 2 ^ ns[x].kids.length ≤ 2 ^ 8 := Nat.pow_le_pow_right (by decide) hx8
        omega) (fun s hs => by cases hs))
      have HSl : Hid ((rowK ns m1 known [] ns[x].kids).2.length ≤ 8) := by rw [Hid, hSl]; simpa using hx8
      have HG2 : Hid (Grew m (rowK ns m1 known [] ns[x].kids).1 (8 * (i + 1))) := HGr.out.trans hGk (by omega)
      have HKn : Hid (knF ns rs (f - (i + 1)) false (ns[y].kids.drop (i + 1)) known = true) := by
        rw [Hid, show f - (i + 1) = f' by omega]
        exact HKc.out.2
      clear hGk hSl hx8 HE HKf HGr
      generalize (rowK ns m1 known [] ns[x].kids).1 = m2 at *
      generalize (rowK ns m1 known [] ns[x].kids).2 = syms at *
      have HKeepR : Hid (∀ V, FrA (Mut p gv1 qv1) wr.drew V → V.cell? ⟨kb, ko + i, none⟩ = some (.int .i64 (x : Int)) ∧ V.cell? ⟨bq, 2, none⟩ = some (.slice ak known.length ck0)) := fun V hV => by
        obtain ⟨kb', ko', ek, hk0⟩ := HZ0.out.at hi
        obtain ⟨rfl, rfl⟩ : kb = kb' ∧ ko = ko' := by cases ek; exact ⟨rfl, rfl⟩
        have hlt := World.block_lt_of_cell? W0 _ hk0
        have hlt2 := World.block_lt_of_cell? wr _ hkc
        have hlt3 := World.block_lt_of_cell? wr _ q2
        refine ⟨(World.cell?_of_block (hV.block kb hlt2 (fun a => by have := (HI.out.mki.ge kb a).1; have : kb < W0.heap.size := hlt; omega))).trans hkc, (World.cell?_of_block (hV.block bq hlt3 (fun a => ?_))).trans q2⟩
        rw [HBq.out] at a
        exact HI.out.nq a
      go_wp2_with fail
      go_region_held3 (fun V => V.cell? ⟨kb, ko + i, none⟩ = some (.int .i64 (x : Int)) ∧ V.cell? ⟨bq, 2, none⟩ = some (.slice ak known.length ck0))
        ((first | exact HKeepR.out _ hf6 | go_keep))
        ((first | (go_at_call 74; refine (HRow.out _ (bel_drewS (Below.refl _ _))).mono ?_; rintro e w6 ⟨o6, gv6, qv6, rfl, hM6, hH6, hf6, hlk6⟩)))

      have I6 : Hid (GwI A ns rs (some ⟨g, off, none⟩) ar cn cr W0.heap.size p W0 w gv qv #[.int .i64 (z : Int), .int .i64 (ri : Int), .slice ak known.length ck0] #[.int .i64 ns[z].kind, .string ns[z].text, .slice aa ns[z].args.length ca, .string ns[z].bind, .slice ka ns[z].kids.length ck] m2 gv6 qv6 (.slice a7 i c7) (.slice a8 i c8) (.slice ak known.length ck0) alts (alts.map fun s => s ++ [⟨3, m.rules[ri].name, known.map varE, em⟩]) known w6) := HI.out.turn hM6 ⟨hf6.size, fun k hk ha => hf6.block k hk ha⟩ hlk6
      have H6 : Hid (Held (MutA (AG A (.slice a7 i c7) (.slice a8 i c8)) p gv6 qv6) w6 (fun V => RowC 4 SymE V o6 syms)) := hH6.away (fun k hk a => a.elim (fun a => .inl (HI.out.ag_lt HA0.out k a)) .inr)
      obtain ⟨ao, co, rfl⟩ := hH6.here.slice
      obtain ⟨gb, cg, vsb, rfl, hBgb, hv3, hcellb, hxb⟩ := RowO.at I6.out.mki.rul (HG2.out.at hri).1
      have hsz6 : w.heap.size ≤ w6.heap.size := I6.out.fr.size
      have hi8 : i ≤ 8 := by omega
      clear hM6 hH6 hf6 hlk6 hcellb hxb hv3 vsb hBgb HRow HKeepR HI hkc q2
      have bal6 : Below w6.heap.size w6 (w6.alloc (.cells #[(.slice ao syms.length co)] 48)) := (Below.refl _ _).alloc (Nat.le_refl _) _
      have I6a := I6.out.step bal6
      obtain ⟨cs7, ho7, hK7⟩ := I6a.addA hBw
      rw [HAL.out] at ho7 hK7
      have HK7 : Hid (∀ (g cap : Nat) (w2 : World) (vs : List Value) (x : List SymD), _) := hK7
      have HO7 : Hid _ := ho7
      have H6a : Hid _ := H6.out.fr (FrA.below bal6)
      clear bal6 I6a ho7 hK7
      go_wp2_with (at_builtin; refine wpList_append_lies _ rfl _ _ 38 rfl w.heap.size 48 a0 _ 1 24 Try.underlying38 ha ha0 ha1 ha2 rfl (by decide) _ _ _ rfl HO7.out ⟨w6.heap.size, 0, none⟩ 1 1 [(.slice ao syms.length co)] rfl rfl (cell_one_new _ _ _) (one_slG _ _ _) (by omega) (by unfold maxLen; omega) (by omega) (by simp; omega) _ rfl ?_; intro g7 cap7 w7 hown7 hgr7 hat7 hlt7)
      obtain ⟨J7a, J7b, J7c⟩ := HK7.out g7 cap7 w7 [(.slice ao syms.length co)] syms rfl (Held.imp H6a.out (fun V h => ⟨_, rfl, h⟩)) hown7 hgr7 hat7
      have J7 : Hid (GwI A ns rs (some ⟨g, off, none⟩) ar cn cr W0.heap.size p W0 w gv qv #[.int .i64 (z : Int), .int .i64 (ri : Int), .slice ak known.length ck0] #[.int .i64 ns[z].kind, .string ns[z].text, .slice aa ns[z].args.length ca, .string ns[z].bind, .slice ka ns[z].kids.length ck] m2 (.slice (some ⟨gb, 0, none⟩) m2.rules.length cg) qv6 (.slice (some ⟨g7, 0, none⟩) (i + 1) cap7) (.slice a8 i c8) (.slice ak known.length ck0) (alts ++ [syms]) (alts.map fun s => s ++ [⟨3, m.rules[ri].name, known.map varE, em⟩]) known w7) := J7a
      have H7 : Hid (Held (MutA (AG A (.slice (some ⟨g7, 0, none⟩) (i + 1) cap7) (.slice a8 i c8)) p (.slice (some ⟨gb, 0, none⟩) m2.rules.length cg) qv6) w7 (fun V => RowC 4 SymE V (.slice ao syms.length co) syms)) := Held.go H6a.out J7b J7c
      clear J7a J7b J7c hown7 hgr7 hat7 hlt7 HK7 HO7 H6a H6 I6

      obtain ⟨hri2, hnm2⟩ := HG2.out.at hri
      obtain ⟨gb', cg', vsb, eb, hBgb, hv3, hcellb, hxb⟩ := RowO.at J7.out.mki.rul hri2
      obtain ⟨rfl, rfl⟩ : gb = gb' ∧ cg = cg' := by cases eb; exact ⟨rfl, rfl⟩
      obtain ⟨r0', r1', hvs, _⟩ := Held.here hxb
      subst hvs
      have t0 : w7.cell? ⟨p, 2, none⟩ = some (.slice (some ⟨gb, 0, none⟩) m2.rules.length cg) := run_cell (j := 2) J7.out.mki.box rfl
      have t1 : w7.cell? ⟨bq, 1, none⟩ = some (.int .i64 (ri : Int)) := by rw [HBq.out]; exact run_cell (j := 1) J7.out.qb rfl
      have t2 : w7.cell? ⟨bq, 2, none⟩ = some (.slice ak known.length ck0) := by rw [HBq.out]; exact run_cell (j := 2) J7.out.qb rfl
      have t3 : w7.cell? ⟨gb, ri * 3, none⟩ = some (.string m.rules[ri].name) := by
        have := hcellb 0 (by simp)
        rw [Nat.add_zero] at this
        rw [this, ← hnm2]
        rfl
      have HKS : Hid (∀ V, Below w7.heap.size w7 V → V.cell? ⟨p, 2, none⟩ = some (.slice (some ⟨gb, 0, none⟩) m2.rules.length cg) ∧ V.cell? ⟨bq, 1, none⟩ = some (.int .i64 (ri : Int)) ∧ V.cell? ⟨gb, ri * 3, none⟩ = some (.string m.rules[ri].name) ∧ V.cell? ⟨bq, 2, none⟩ = some (.slice ak known.length ck0)) := fun V hV => ⟨cell_keep t0 hV, cell_keep t1 hV, cell_keep t3 hV, cell_keep t2 hV⟩
      have HVr : Hid (∀ V, Below w7.heap.size w7 V → _) := fun V hV => vars_any (.slice ak known.length ck0) known V (by omega) (J7.out.kno.fr (FrA.below hV)).here
      have iri : (ri : Int) < (m2.rules.length : Int) := by omega
      have hmz : ∀ k, (MutA (AG A (.slice (some ⟨g7, 0, none⟩) (i + 1) cap7) (.slice a8 i c8)) p (.slice (some ⟨gb, 0, none⟩) m2.rules.length cg) qv6) k → k < w7.heap.size := J7.out.mut_lt HA0.out
      have HMZ : Hid (∀ k, (MutA (AG A (.slice (some ⟨g7, 0, none⟩) (i + 1) cap7) (.slice a8 i c8)) p (.slice (some ⟨gb, 0, none⟩) m2.rules.length cg) qv6) k → k < w7.heap.size) := hmz
      have HNm : Hid (∃ nm, nm = m.rules[ri].name) := ⟨_, rfl⟩
      clear eb hBgb hv3 hcellb hxb hmz
      go_wp2_with fail
      go_cut [11] from 40 to 94 (fun s11 wx => ∃ (b11 : Nat) (a11 : Option Addr) (c11 : Nat), s11 = .pointer (some ⟨b11, 0, none⟩) ∧ GwI A ns rs (some ⟨g, off, none⟩) ar cn cr W0.heap.size p W0 w gv qv #[.int .i64 (z : Int), .int .i64 (ri : Int), .slice ak known.length ck0] #[.int .i64 ns[z].kind, .string ns[z].text, .slice aa ns[z].args.length ca, .string ns[z].bind, .slice ka ns[z].kids.length ck] m2 (.slice (some ⟨gb, 0, none⟩) m2.rules.length cg) qv6 (.slice (some ⟨g7, 0, none⟩) (i + 1) cap7) (.slice a8 i c8) (.slice ak known.length ck0) (alts ++ [syms]) (alts.map fun s => s ++ [⟨3, m.rules[ri].name, known.map varE, em⟩]) known wx ∧ wx.heap[b11]? = some (.cells #[.int .i64 3, .string m.rules[ri].name, .slice a11 known.length c11, .string ⟨#[]⟩] 51 (0, 0)) ∧ Held (MutA (AG A (.slice (some ⟨g7, 0, none⟩) (i + 1) cap7) (.slice a8 i c8)) p (.slice (some ⟨gb, 0, none⟩) m2.rules.length cg) qv6) wx (fun V => RowC 1 ExprE V (.slice a11 known.length c11) (known.map varE)) ∧ Held (MutA (AG A (.slice (some ⟨g7, 0, none⟩) (i + 1) cap7) (.slice a8 i c8)) p (.slice (some ⟨gb, 0, none⟩) m2.rules.length cg) qv6) wx (fun V => RowC 4 SymE V (.slice ao syms.length co) syms))
      case first =>
        go_region_held3 (fun V => V.cell? ⟨p, 2, none⟩ = some (.slice (some ⟨gb, 0, none⟩) m2.rules.length cg) ∧ V.cell? ⟨bq, 1, none⟩ = some (.int .i64 (ri : Int)) ∧ V.cell? ⟨gb, ri * 3, none⟩ = some (.string m.rules[ri].name) ∧ V.cell? ⟨bq, 2, none⟩ = some (.slice ak known.length ck0))
          ((first | go_keep | exact HKS.out _ BV8 | exact HKS.out _ (BV8.alloc BV8.size _) | exact HKS.out _ (bel_drewS ((Below.refl _ _).alloc (Nat.le_refl _) _)) | exact HKS.out _ ((((BV8.setCell (Nat.le_refl _) _).setCell (Nat.le_refl _) _).setCell (Nat.le_refl _) _).setCell (Nat.le_refl _) _)))
          ((first
            | (go_at_call 88; refine (HVr.out _ (bel_drewS (Below.refl _ _))).mono ?_; rintro e w8 ⟨o8, rfl, hF8, hb8⟩; obtain ⟨a11, c11, ho8⟩ := hF8.here.slice; rw [List.length_map] at ho8; subst ho8; have BV8 : Below w7.heap.size w7 w8 := bel_of_drew hb8)
            | (go_at_call 88; refine (HVr.out _ (bel_drewS ((Below.refl _ _).alloc (Nat.le_refl _) _))).mono ?_; rintro e w8 ⟨o8, rfl, hF8, hb8⟩; obtain ⟨a11, c11, ho8⟩ := hF8.here.slice; rw [List.length_map] at ho8; subst ho8; have BV8 : Below w7.heap.size w7 w8 := (bel_drewS ((Below.refl w7.heap.size w7).alloc (Nat.le_refl _) _)).trans (hb8.mono (by simp)); have X8 := (hb8.block w7.heap.size (by simp)).trans (heap_alloc_new w7 _); have x0 := run_cell (j := 0) X8 rfl; have x1 := run_cell (j := 1) X8 rfl; have x2 := run_cell (j := 2) X8 rfl; have x3 := run_cell (j := 3) X8 rfl; have y0 := run_frozen (j := 0) X8; have y1 := run_frozen (j := 1) X8; have y2 := run_frozen (j := 2) X8; have y3 := run_frozen (j := 3) X8)))

        all_goals
          (try go_wp2_with fail)
          go_meet
          first
            | exact ⟨w8.heap.size, a11, c11, rfl, J7.out.step (BV8.alloc BV8.size _), heap_alloc_new w8 _, Held.of_fresh (hF8.below ((Below.refl _ _).alloc (Nat.le_refl _) _)) HMZ.out, H7.out.fr (FrA.below (BV8.alloc BV8.size _))⟩
            | exact ⟨w7.heap.size, a11, c11, rfl, J7.out.step ((((BV8.setCell (Nat.le_refl _) _).setCell (Nat.le_refl _) _).setCell (Nat.le_refl _) _).setCell (Nat.le_refl _) _), setFour X8, Held.of_fresh ((((hF8.setLow (by simp) 0 _).setLow (by simp) 1 _).setLow (by simp) 2 _).setLow (by simp) 3 _) (fun k hk => Nat.lt_of_lt_of_le (HMZ.out k hk) (by simp)), H7.out.fr (FrA.below ((((BV8.setCell (Nat.le_refl _) _).setCell (Nat.le_refl _) _).setCell (Nat.le_refl _) _).setCell (Nat.le_refl _) _))⟩
      case rest =>
        obtain ⟨b11, a11, c11, rfl, hJ, hb11, hHa, hHs⟩ := hcut
        have J8 : Hid (GwI A ns rs (some ⟨g, off, none⟩) ar cn cr W0.heap.size p W0 w gv qv #[.int .i64 (z : Int), .int .i64 (ri : Int), .slice ak known.length ck0] #[.int .i64 ns[z].kind, .string ns[z].text, .slice aa ns[z].args.length ca, .string ns[z].bind, .slice ka ns[z].kids.length ck] m2 (.slice (some ⟨gb, 0, none⟩) m2.rules.length cg) qv6 (.slice (some ⟨g7, 0, none⟩) (i + 1) cap7) (.slice a8 i c8) (.slice ak known.length ck0) (alts ++ [syms]) (alts.map fun s => s ++ [⟨3, m.rules[ri].name, known.map varE, em⟩]) known wc) := hJ
        have HB11 : Hid (wc.heap[b11]? = some (.cells #[.int .i64 3, .string m.rules[ri].name, .slice a11 known.length c11, .string ⟨#[]⟩] 51 (0, 0))) := hb11
        have HHa : Hid (Held (MutA (AG A (.slice (some ⟨g7, 0, none⟩) (i + 1) cap7) (.slice a8 i c8)) p (.slice (some ⟨gb, 0, none⟩) m2.rules.length cg) qv6) wc (fun V => RowC 1 ExprE V (.slice a11 known.length c11) (known.map varE))) := hHa
        have hsc : w.heap.size ≤ wc.heap.size := hJ.fr.size
        have HMC : Hid (∀ k, (MutA (AG A (.slice (some ⟨g7, 0, none⟩) (i + 1) cap7) (.slice a8 i c8)) p (.slice (some ⟨gb, 0, none⟩) m2.rules.length cg) qv6) k → k < wc.heap.size) := hJ.mut_lt HA0.out
        have b9 : Below wc.heap.size wc ((wc.alloc (.cells #[.slice ao syms.length co] 48)).alloc (.cells #[.string ⟨#[]⟩, .slice none 0 0, .slice (some ⟨wc.heap.size, 0, none⟩) 1 1] 40)) := ((Below.refl _ _).alloc (Nat.le_refl _) _).alloc (by simp) _
        have HB9 : Hid (Below wc.heap.size wc ((wc.alloc (.cells #[.slice ao syms.length co] 48)).alloc (.cells #[.string ⟨#[]⟩, .slice none 0 0, .slice (some ⟨wc.heap.size, 0, none⟩) 1 1] 40))) := b9
        have hA9 : ((wc.alloc (.cells #[.slice ao syms.length co] 48)).alloc (.cells #[.string ⟨#[]⟩, .slice none 0 0, .slice (some ⟨wc.heap.size, 0, none⟩) 1 1] 40)).heap[wc.heap.size]? = some (.cells #[.slice ao syms.length co] 48 (0, 0)) := (Below.heap_alloc _ _ _ (by simp)).trans (heap_alloc_new wc _)
        have hR9 : ((wc.alloc (.cells #[.slice ao syms.length co] 48)).alloc (.cells #[.string ⟨#[]⟩, .slice none 0 0, .slice (some ⟨wc.heap.size, 0, none⟩) 1 1] 40)).heap[wc.heap.size + 1]? = some (.cells #[.string ⟨#[]⟩, .slice none 0 0, .slice (some ⟨wc.heap.size, 0, none⟩) 1 1] 40 (0, 0)) := by
          have := heap_alloc_new (wc.alloc (.cells #[.slice ao syms.length co] 48)) (.cells #[.string ⟨#[]⟩, .slice none 0 0, .slice (some ⟨wc.heap.size, 0, none⟩) 1 1] 40)
          rwa [show (wc.alloc (.cells #[.slice ao syms.length co] 48)).heap.size = wc.heap.size + 1 by simp] at this
        have hrow9 : RowC 3 RuleE ((wc.alloc (.cells #[.slice ao syms.length co] 48)).alloc (.cells #[.string ⟨#[]⟩, .slice none 0 0, .slice (some ⟨wc.heap.size, 0, none⟩) 1 1] 40)) (.slice (some ⟨wc.heap.size + 1, 0, none⟩) 1 1) [⟨em, [], [syms]⟩] := rowC_one hR9 rfl ⟨.slice none 0 0, .slice (some ⟨wc.heap.size, 0, none⟩) 1 1, rfl, ⟨none, 0, rfl, fun _ => rfl, fun h0 => absurd h0 (by simp)⟩, rowC_one hA9 rfl ⟨_, rfl, (hHs.fr (FrA.below b9)).here⟩⟩
        have HCpy : Hid (∀ _ : Unit, _) := fun _ => copyG_any (.slice (some ⟨wc.heap.size + 1, 0, none⟩) 1 1) [⟨em, [], [syms]⟩] ((wc.alloc (.cells #[.slice ao syms.length co] 48)).alloc (.cells #[.string ⟨#[]⟩, .slice none 0 0, .slice (some ⟨wc.heap.size, 0, none⟩) 1 1] 40)) HCp.out hrow9
        have hs9 : ((wc.alloc (.cells #[.slice ao syms.length co] 48)).alloc (.cells #[.string ⟨#[]⟩, .slice none 0 0, .slice (some ⟨wc.heap.size, 0, none⟩) 1 1] 40)).heap.size = wc.heap.size + 2 := by simp
        have HS9 : Hid (((wc.alloc (.cells #[.slice ao syms.length co] 48)).alloc (.cells #[.string ⟨#[]⟩, .slice none 0 0, .slice (some ⟨wc.heap.size, 0, none⟩) 1 1] 40)).heap.size = wc.heap.size + 2) := hs9
        have hfd := fieldG
        clear hJ hb11 hHa hHs b9 hA9 hR9 hrow9 hs9 J7 H7 HKS HVr HMZ t0 t1 t2 t3
        go_wp2_with (first
          | (at_builtin; refine wpList_append_lies _ rfl _ _ 46 rfl ((wc.alloc (.cells #[.slice ao syms.length co] 48)).alloc (.cells #[.string ⟨#[]⟩, .slice none 0 0, .slice (some ⟨wc.heap.size, 0, none⟩) 1 1] 40)).heap.size 51 s0 _ 4 64 Try.underlying46 hs hs0 hs1 hs2 rfl (by decide) _ _ _ rfl HO11.out ⟨w10.heap.size, 0, none⟩ 1 1 [.int .i64 3, .string m.rules[ri].name, .slice a11 known.length c11, .string ⟨#[]⟩] rfl rfl (World.news_of_block (cs := #[.int .i64 3, .string m.rules[ri].name, .slice a11 known.length c11, .string ⟨#[]⟩]) (t := 51) (fr := (0, 0)) (heap_alloc_new _ _)) (four_symP _ _ _ _ _ _) (by omega) (by unfold maxLen; omega) (by omega) (Nat.le_trans hb10.size (by simp)) _ rfl ?_)
          | (go_at_call 12; refine (HCpy.out ()).mono ?_; rintro e w10 ⟨o10, X10, rfl, hF10, hX10, hb10⟩; obtain ⟨gc, cc1, ac, cc2, sv, ho10, hcell1, hcell2, hFs⟩ := copied_at hF10; subst ho10; have hRH := rowH_fresh (by decide) hFs; obtain ⟨as_, cs_, hsv⟩ := RowO.slice hRH; subst hsv; have B10 : Below wc.heap.size wc w10 := HB9.out.trans (hb10.mono HB9.out.size); have hB10 := (B10.block b11 (Array.getElem?_eq_some_iff.1 HB11.out).1).trans HB11.out; have zz0 := run_cell (j := 0) hB10 rfl; have zz1 := run_cell (j := 1) hB10 rfl; have zz2 := run_cell (j := 2) hB10 rfl; have zz3 := run_cell (j := 3) hB10 rfl; have B11 : Below wc.heap.size wc (w10.alloc (.cells #[.int .i64 3, .string m.rules[ri].name, .slice a11 known.length c11, .string ⟨#[]⟩] 51)) := B10.alloc B10.size _; have hsv8 := HSl.out; have hbase := HS9.out; have hown0 : ∀ k, (Value.slice as_ syms.length cs_).ownBlock = some k → wc.heap.size ≤ k := (fun k hk => by have := (RowO.lt hRH k hk).1; omega); have hR1 : RowH 4 51 SymE (fun k => (MutA (AG A (.slice (some ⟨g7, 0, none⟩) (i + 1) cap7) (.slice a8 i c8)) p (.slice (some ⟨gb, 0, none⟩) m2.rules.length cg) qv6) k ∨ (Value.slice as_ syms.length cs_).ownBlock = some k) ((wc.alloc (.cells #[.slice ao syms.length co] 48)).alloc (.cells #[.string ⟨#[]⟩, .slice none 0 0, .slice (some ⟨wc.heap.size, 0, none⟩) 1 1] 40)).heap.size (.slice as_ syms.length cs_) syms (w10.alloc (.cells #[.int .i64 3, .string m.rules[ri].name, .slice a11 known.length c11, .string ⟨#[]⟩] 51)) := RowH.below (RowH.go hRH (FrA.refl _ _) (fun k _ a => a.imp (fun a => by have := HMC.out k a; omega) id) (fun _ _ => rfl)) ((Below.refl _ _).alloc (Nat.le_refl _) _); obtain ⟨csl, ho11, hK11⟩ := RowH.add hR1 (fun k hk => .inr hk); have HO11 : Hid _ := ho11; have HK11 : Hid (∀ (g cap : Nat) (w2 : World) (vs : List Value) (x : SymD) (A' : Nat → Prop), _) := hK11; have hx11 : Held (fun k => (MutA (AG A (.slice (some ⟨g7, 0, none⟩) (i + 1) cap7) (.slice a8 i c8)) p (.slice (some ⟨gb, 0, none⟩) m2.rules.length cg) qv6) k ∨ (Value.slice as_ syms.length cs_).ownBlock = some k) (w10.alloc (.cells #[.int .i64 3, .string m.rules[ri].name, .slice a11 known.length c11, .string ⟨#[]⟩] 51)) (fun V => SymE V [.int .i64 3, .string m.rules[ri].name, .slice a11 known.length c11, .string ⟨#[]⟩] ⟨3, m.rules[ri].name, known.map varE, em⟩) := (Held.imp (HHa.out.away (fun k hk a => a.elim id (fun e => absurd (hown0 k e) (by omega)))) (fun V h => ⟨_, rfl, h⟩)).fr (FrA.below B11); have HX11 : Hid _ := hx11; have HOW : Hid (∀ k, (Value.slice as_ syms.length cs_).ownBlock = some k → wc.heap.size ≤ k) := hown0; have HB11b : Hid (Below wc.heap.size wc (w10.alloc (.cells #[.int .i64 3, .string m.rules[ri].name, .slice a11 known.length c11, .string ⟨#[]⟩] 51))) := B11; clear hR1 ho11 hK11 hx11 hown0 B11 hRH hFs hF10 B10 hB10 hbase))

        intro g12 cap12 w12 hown12 hgr12 hat12 hlt12
        have hb12 := HB9.out.size
        have hown12' : w12.ownsRow ((wc.alloc (.cells #[.slice ao syms.length co] 48)).alloc (.cells #[.string ⟨#[]⟩, .slice none 0 0, .slice (some ⟨wc.heap.size, 0, none⟩) 1 1] 40)).heap.size 51 4 (.slice (some ⟨g12, 0, none⟩) (syms.length + 1) cap12) (syms.length + 1) (csl ++ [.int .i64 3, .string m.rules[ri].name, .slice a11 known.length c11, .string ⟨#[]⟩]) := by
          rw [HS9.out]
          exact hown12
        have R12 := HK11.out g12 cap12 w12 [.int .i64 3, .string m.rules[ri].name, .slice a11 known.length c11, .string ⟨#[]⟩] ⟨3, m.rules[ri].name, known.map varE, em⟩ (MutA (AG A (.slice (some ⟨g7, 0, none⟩) (i + 1) cap7) (.slice a8 i c8)) p (.slice (some ⟨gb, 0, none⟩) m2.rules.length cg) qv6) rfl HX11.out hown12' hgr12 (fun k _ a => .inl a)
        have T12 : Hid (Held (MutA (AG A (.slice (some ⟨g7, 0, none⟩) (i + 1) cap7) (.slice a8 i c8)) p (.slice (some ⟨gb, 0, none⟩) m2.rules.length cg) qv6) w12 (fun V => RowC 4 SymE V (.slice (some ⟨g12, 0, none⟩) (syms.length + 1) cap12) (syms ++ [⟨3, m.rules[ri].name, known.map varE, em⟩]))) := RowH.held R12 (fun k hk a => by
          have h1 := (RowO.lt R12 k hk).1
          have h2 := HMC.out k a
          have h3 := HS9.out
          omega)
        have B12 : Hid (Below wc.heap.size wc w12) := HB11b.out.grown hgr12 HB11b.out.size HOW.out
        have J12 : Hid (GwI A ns rs (some ⟨g, off, none⟩) ar cn cr W0.heap.size p W0 w gv qv #[.int .i64 (z : Int), .int .i64 (ri : Int), .slice ak known.length ck0] #[.int .i64 ns[z].kind, .string ns[z].text, .slice aa ns[z].args.length ca, .string ns[z].bind, .slice ka ns[z].kids.length ck] m2 (.slice (some ⟨gb, 0, none⟩) m2.rules.length cg) qv6 (.slice (some ⟨g7, 0, none⟩) (i + 1) cap7) (.slice a8 i c8) (.slice ak known.length ck0) (alts ++ [syms]) (alts.map fun s => s ++ [⟨3, m.rules[ri].name, known.map varE, em⟩]) known w12) := J8.out.step B12.out
        have hs12 : w.heap.size ≤ w12.heap.size := J12.out.fr.size
        have bal12 : Below w12.heap.size w12 (w12.alloc (.cells #[.slice (some ⟨g12, 0, none⟩) (syms.length + 1) cap12] 48)) := (Below.refl _ _).alloc (Nat.le_refl _) _
        obtain ⟨cs13, ho13, hK13⟩ := (J12.out.step bal12).addM hBw
        rw [List.length_map, HAL.out] at ho13 hK13
        have HO13 : Hid _ := ho13
        have HK13 : Hid (∀ (g cap : Nat) (w2 : World) (vs : List Value) (x : List SymD), _) := hK13
        have T13 : Hid _ := T12.out.fr (FrA.below bal12)
        clear R12 hown12 hown12' hgr12 hat12 hlt12 bal12 ho13 hK13 zz0 zz1 zz2 zz3 hcell1 hcell2 HX11 HK11 HO11 HB11b HOW J8 HB11 HHa HCpy HB9 HS9
        go_wp2_with (at_builtin; refine wpList_append_lies _ rfl _ _ 38 rfl w.heap.size 48 a0 _ 1 24 Try.underlying38 ha ha0 ha1 ha2 rfl (by decide) _ _ _ rfl HO13.out ⟨w12.heap.size, 0, none⟩ 1 1 [.slice (some ⟨g12, 0, none⟩) (syms.length + 1) cap12] rfl rfl (cell_one_new _ _ _) (one_slG _ _ _) (by omega) (by unfold maxLen; omega) (by omega) (by simp; omega) _ rfl ?_; intro g14 cap14 w14 hown14 hgr14 hat14 hlt14)
        have J14 := HK13.out g14 cap14 w14 [.slice (some ⟨g12, 0, none⟩) (syms.length + 1) cap12] (syms ++ [⟨3, m.rules[ri].name, known.map varE, em⟩]) rfl (Held.imp T13.out (fun V h => ⟨_, by first | rfl | simp, by simpa using h⟩)) hown14 hgr14 hat14
        have H14 : Hid _ := J14
        have HAL2 : Hid ((alts ++ [syms]).length = i + 1) := by rw [Hid, List.length_append, List.length_singleton, HAL.out]
        clear J14 hown14 hgr14 hat14 hlt14 HK13 HO13 T13 T12 J12
        go_wp2
        go_roundg f2
        case measure => omega
        case rel => exact ⟨i + 1, m2, _, _, _, _, _, _, alts ++ [syms], by go_num, rfl, rfl, by omega, HNxt.out, HAL2.out, HG2.out, HKn.out, by rw [List.map_append]; exact H14.out⟩

    · have d1 : decide ((i : Int) < (ns[y].kids.length : Int)) = false := decide_eq_false (by omega)
      have HRk : Hid (rowsK ns known m [] ns[y].kids = (m1, alts)) := by rw [Hid, ← HE.out, List.drop_of_length_le (by omega)]; rfl
      obtain ⟨hri1, hnm1⟩ := HGr.out.at hri
      have hnm : (m1.rules.getD ri default).name = m.rules[ri].name := by rw [List.getD_eq_getElem?_getD, List.getElem?_eq_getElem hri1, ← hnm1]; rfl
      have HFin : Hid (groupM ns m ((z : Int), ri, known) = _) := HGM.out m1 alts (alts.map fun s => s ++ [⟨3, m.rules[ri].name, known.map varE, em⟩]) m.rules[ri].name HRk.out hnm rfl
      have HML : Hid ((alts.map fun s => s ++ [⟨3, m.rules[ri].name, known.map varE, em⟩]).length = i) := by rw [Hid, List.length_map, HAL.out]
      obtain ⟨gb, cg, rfl⟩ : ∃ gb cg, gv1 = .slice (some ⟨gb, 0, none⟩) m1.rules.length cg := (by obtain ⟨gb, cg, _, e, _⟩ := RowO.at HI.out.mki.rul hri1; exact ⟨gb, cg, e⟩)
      have x0 : wr.cell? ⟨bx, 0, none⟩ = some (.int .i64 ns[z].kind) := by rw [HBx.out]; exact run_cell (j := 0) HI.out.xb rfl
      have iri : (ri : Int) < (m1.rules.length : Int) := by omega
      have hi8 : i ≤ 8 := by omega
      have hi1 : 0 < i := by omega
      have hszr : w.heap.size ≤ wr.heap.size := HI.out.fr.size
      generalize (alts.map fun s => s ++ [⟨3, m.rules[ri].name, known.map varE, em⟩]) = more at *
      clear HRk hnm hnm1 HE HGr HKf HGM HZ0 HKd HKF0 HS0 HL0 HY4 HG
      by_cases k9 : ns[z].kind = 9
      · have q9 : (ns[z].kind == 9) = true := by rw [beq_iff_eq]; exact k9
        have e9 : kindAlts ns[z].kind alts more = alts ++ [[]] := by rw [kindAlts, if_pos k9]
        rw [e9] at HFin
        have bal6 : Below wr.heap.size wr (wr.alloc (.cells #[.slice none 0 0] 48)) := (Below.refl _ _).alloc (Nat.le_refl _) _
        obtain ⟨cs7, ho7, hK7⟩ := (HI.out.step bal6).addA hBw
        rw [HAL.out] at ho7 hK7
        have HK7 : Hid (∀ (g cap : Nat) (w2 : World) (vs : List Value) (x : List SymD), _) := hK7
        have HO7 : Hid _ := ho7
        clear bal6 ho7 hK7 k9 e9
        go_wp2_with (at_builtin; refine wpList_append_lies _ rfl _ _ 38 rfl w.heap.size 48 a0 _ 1 24 Try.underlying38 ha ha0 ha1 ha2 rfl (by decide) _ _ _ rfl HO7.out ⟨wr.heap.size, 0, none⟩ 1 1 [.slice none 0 0] rfl rfl (cell_one_new _ _ _) (one_slG _ _ _) (by omega) (by unfold maxLen; omega) (by omega) (by simp; omega) _ rfl ?_)
        intro g7 cap7 w7 hown7 hgr7 hat7 hlt7
        obtain ⟨J7, _, _⟩ := HK7.out g7 cap7 w7 [.slice none 0 0] [] rfl (fun V _ _ => ⟨.slice none 0 0, rfl, none, 0, rfl, fun _ => rfl, fun h0 => absurd h0 (by simp)⟩) hown7 hgr7 (by simpa using hat7)
        have HF : Hid (FinI A ns rs (some ⟨g, off, none⟩) ar cn cr W0.heap.size p W0 w gv qv #[.int .i64 (z : Int), .int .i64 (ri : Int), .slice ak known.length ck0] m1 (.slice (some ⟨gb, 0, none⟩) m1.rules.length cg) qv1 (.slice (some ⟨g7, 0, none⟩) (i + 1) cap7) (alts ++ [[]]) w7) := J7.fin HA0.out
        clear J7 hown7 hgr7 hat7 hlt7 HK7 HO7
        go_wp2_with fail
        have HFn2 := HF.out
        obtain ⟨gb2, cg2, eg, ⟨cc, hcc, hcf⟩, _, hMk, hFr⟩ := HFn2.mki.alts hri1 (.slice (some ⟨g7, 0, none⟩) (i + 1) cap7) _ HFn2.alt
        obtain ⟨rfl, rfl⟩ : gb = gb2 ∧ cg = cg2 := by cases eg; exact ⟨rfl, rfl⟩
        have t0 := run_cell (j := 2) HFn2.mki.box rfl
        have t1 : w7.cell? ⟨bq, 1, none⟩ = some (.int .i64 (ri : Int)) := by rw [HBq.out]; exact run_cell (j := 1) HFn2.qb rfl
        have hne2 := (HFn2.mki.offs.1 gb rfl).1
        have hgbq : bq ≠ gb := fun e => by
          obtain ⟨cur, hc⟩ := RowO.type HFn2.mki.rul (g := gb) rfl
          have hq := HFn2.qb
          rw [← HBq.out, e, hc] at hq
          cases hq
        have s0' : (w7.setCell ⟨gb, ri * 3 + 2, none⟩ (.slice (some ⟨g7, 0, none⟩) (i + 1) cap7)).cell? ⟨p, 2, none⟩ = some (.slice (some ⟨gb, 0, none⟩) m1.rules.length cg) := (World.cell?_of_block (setCell_other _ (fun e => hne2 e.symm))).trans t0
        have s1' : (w7.setCell ⟨gb, ri * 3 + 2, none⟩ (.slice (some ⟨g7, 0, none⟩) (i + 1) cap7)).cell? ⟨bq, 1, none⟩ = some (.int .i64 (ri : Int)) := (World.cell?_of_block (setCell_other _ hgbq)).trans t1
        have HMk : Hid _ := hMk
        have HFr : Hid _ := hFr
        have HFt : Hid (FrA (Mut p gv qv) w w7) := HFn2.fr
        have HLk : Hid (∀ k, k < w.heap.size → Mut p (.slice (some ⟨gb, 0, none⟩) m1.rules.length cg) qv1 k → Mut p gv qv k) := HFn2.lk
        clear HFn2 eg hMk hFr hne2 hgbq HF
        go_region_held3 (fun V => V.cell? ⟨p, 2, none⟩ = some (.slice (some ⟨gb, 0, none⟩) m1.rules.length cg) ∧ V.cell? ⟨bq, 1, none⟩ = some (.int .i64 (ri : Int)))
          ((first | go_keep | exact ⟨s0', s1'⟩))
          (fail)
        go_wp2
        go_end0
        rw [HFin.out]
        first
          | exact ⟨_, _, rfl, HMk.out, HFt.out.trans HFr.out HLk.out, HLk.out⟩
          | exact ⟨_, _, rfl, HMk.out.step (bel_drewS (Below.refl _ _)), (HFt.out.trans HFr.out HLk.out).trans (A' := Mut p gv qv) (FrA.below (bel_drewS (Below.refl _ _))) (fun _ _ a => a), HLk.out⟩
      have q9 : (ns[z].kind == 9) = false := by rw [beq_eq_false_iff_ne]; exact k9
      by_cases k7 : ns[z].kind = 7
      · have q7 : (ns[z].kind == 7) = true := by rw [beq_iff_eq]; exact k7
        have e9 : kindAlts ns[z].kind alts more = [[]] ++ more := by rw [kindAlts, if_neg k9, if_pos k7]
        rw [e9] at HFin
        obtain ⟨cs7, ds7, ho7, hm7, hd7, h17, hK7⟩ := HI.out.star HA0.out hBw
        rw [HML.out] at hm7 hd7 hK7
        obtain ⟨gm, e8⟩ : ∃ gm, a8 = some ⟨gm, 0, none⟩ := by
          rcases hm7.2 with ⟨_, h0⟩ | ⟨gm, cap, cur, e, _⟩
          · omega
          · cases e; exact ⟨gm, rfl⟩
        subst e8
        have HK7 : Hid (∀ (g cap : Nat) (w2 : World), _) := hK7
        have HO7 : Hid _ := ho7
        have HM7 : Hid _ := hm7
        have HD7 : Hid _ := hd7
        have H17 : Hid _ := h17
        clear ho7 hm7 hd7 h17 hK7 k9 k7 e9
        go_wp2_with (at_builtin; refine wpList_append_lies _ rfl _ _ 38 rfl wr.heap.size 48 a0 _ 1 24 Try.underlying38 ha ha0 ha1 ha2 rfl (by decide) _ _ _ rfl HO7.out ⟨gm, 0, none⟩ i c8 ds7 rfl HD7.out (World.ownsRow.cells HM7.out rfl) H17.out hi1 (by unfold maxLen; omega) (by omega) (by simp) _ rfl ?_)
        intro g7 cap7 w7 hown7 hgr7 hat7 hlt7
        have HF : Hid (FinI A ns rs (some ⟨g, off, none⟩) ar cn cr W0.heap.size p W0 w gv qv #[.int .i64 (z : Int), .int .i64 (ri : Int), .slice ak known.length ck0] m1 (.slice (some ⟨gb, 0, none⟩) m1.rules.length cg) qv1 (.slice (some ⟨g7, 0, none⟩) (1 + i) cap7) ([[]] ++ more) w7) := HK7.out g7 cap7 w7 hown7 hgr7
        clear hown7 hgr7 hat7 hlt7 HK7 HO7 HM7 HD7 H17
        go_wp2_with fail
        have HFn2 := HF.out
        obtain ⟨gb2, cg2, eg, ⟨cc, hcc, hcf⟩, _, hMk, hFr⟩ := HFn2.mki.alts hri1 (.slice (some ⟨g7, 0, none⟩) (1 + i) cap7) _ HFn2.alt
        obtain ⟨rfl, rfl⟩ : gb = gb2 ∧ cg = cg2 := by cases eg; exact ⟨rfl, rfl⟩
        have t0 := run_cell (j := 2) HFn2.mki.box rfl
        have t1 : w7.cell? ⟨bq, 1, none⟩ = some (.int .i64 (ri : Int)) := by rw [HBq.out]; exact run_cell (j := 1) HFn2.qb rfl
        have hne2 := (HFn2.mki.offs.1 gb rfl).1
        have hgbq : bq ≠ gb := fun e => by
          obtain ⟨cur, hc⟩ := RowO.type HFn2.mki.rul (g := gb) rfl
          have hq := HFn2.qb
          rw [← HBq.out, e, hc] at hq
          cases hq
        have s0' : (w7.setCell ⟨gb, ri * 3 + 2, none⟩ (.slice (some ⟨g7, 0, none⟩) (1 + i) cap7)).cell? ⟨p, 2, none⟩ = some (.slice (some ⟨gb, 0, none⟩) m1.rules.length cg) := (World.cell?_of_block (setCell_other _ (fun e => hne2 e.symm))).trans t0
        have s1' : (w7.setCell ⟨gb, ri * 3 + 2, none⟩ (.slice (some ⟨g7, 0, none⟩) (1 + i) cap7)).cell? ⟨bq, 1, none⟩ = some (.int .i64 (ri : Int)) := (World.cell?_of_block (setCell_other _ hgbq)).trans t1
        have HMk : Hid _ := hMk
        have HFr : Hid _ := hFr
        have HFt : Hid (FrA (Mut p gv qv) w w7) := HFn2.fr
        have HLk : Hid (∀ k, k < w.heap.size → Mut p (.slice (some ⟨gb, 0, none⟩) m1.rules.length cg) qv1 k → Mut p gv qv k) := HFn2.lk
        clear HFn2 eg hMk hFr hne2 hgbq HF
        go_region_held3 (fun V => V.cell? ⟨p, 2, none⟩ = some (.slice (some ⟨gb, 0, none⟩) m1.rules.length cg) ∧ V.cell? ⟨bq, 1, none⟩ = some (.int .i64 (ri : Int)))
          ((first | go_keep | exact ⟨s0', s1'⟩))
          (fail)
        go_wp2
        go_end0
        rw [HFin.out]
        first
          | exact ⟨_, _, rfl, HMk.out, HFt.out.trans HFr.out HLk.out, HLk.out⟩
          | exact ⟨_, _, rfl, HMk.out.step (bel_drewS (Below.refl _ _)), (HFt.out.trans HFr.out HLk.out).trans (A' := Mut p gv qv) (FrA.below (bel_drewS (Below.refl _ _))) (fun _ _ a => a), HLk.out⟩
      have q7 : (ns[z].kind == 7) = false := by rw [beq_eq_false_iff_ne]; exact k7
      by_cases k8 : ns[z].kind = 8
      · have q8 : (ns[z].kind == 8) = true := by rw [beq_iff_eq]; exact k8
        have e9 : kindAlts ns[z].kind alts more = alts ++ more := by rw [kindAlts, if_neg k9, if_neg k7, if_pos k8]
        rw [e9] at HFin
        obtain ⟨cs7, ds7, ho7, hm7, hd7, h17, hK7⟩ := HI.out.plus HA0.out hBw
        rw [HML.out] at hm7 hd7 hK7
        rw [HAL.out] at ho7 hK7
        obtain ⟨gm, e8⟩ : ∃ gm, a8 = some ⟨gm, 0, none⟩ := by
          rcases hm7.2 with ⟨_, h0⟩ | ⟨gm, cap, cur, e, _⟩
          · omega
          · cases e; exact ⟨gm, rfl⟩
        subst e8
        have HK7 : Hid (∀ (g cap : Nat) (w2 : World), _) := hK7
        have HO7 : Hid _ := ho7
        have HM7 : Hid _ := hm7
        have HD7 : Hid _ := hd7
        have H17 : Hid _ := h17
        clear ho7 hm7 hd7 h17 hK7 k9 k7 k8 e9
        go_wp2_with (at_builtin; refine wpList_append_lies _ rfl _ _ 38 rfl w.heap.size 48 a0 _ 1 24 Try.underlying38 ha ha0 ha1 ha2 rfl (by decide) _ _ _ rfl HO7.out ⟨gm, 0, none⟩ i c8 ds7 rfl HD7.out (World.ownsRow.cells HM7.out rfl) H17.out hi1 (by unfold maxLen; omega) (by omega) hszr _ rfl ?_)
        intro g7 cap7 w7 hown7 hgr7 hat7 hlt7
        have HF : Hid (FinI A ns rs (some ⟨g, off, none⟩) ar cn cr W0.heap.size p W0 w gv qv #[.int .i64 (z : Int), .int .i64 (ri : Int), .slice ak known.length ck0] m1 (.slice (some ⟨gb, 0, none⟩) m1.rules.length cg) qv1 (.slice (some ⟨g7, 0, none⟩) (i + i) cap7) (alts ++ more) w7) := HK7.out g7 cap7 w7 hown7 hgr7
        clear hown7 hgr7 hat7 hlt7 HK7 HO7 HM7 HD7 H17
        go_wp2_with fail
        have HFn2 := HF.out
        obtain ⟨gb2, cg2, eg, ⟨cc, hcc, hcf⟩, _, hMk, hFr⟩ := HFn2.mki.alts hri1 (.slice (some ⟨g7, 0, none⟩) (i + i) cap7) _ HFn2.alt
        obtain ⟨rfl, rfl⟩ : gb = gb2 ∧ cg = cg2 := by cases eg; exact ⟨rfl, rfl⟩
        have t0 := run_cell (j := 2) HFn2.mki.box rfl
        have t1 : w7.cell? ⟨bq, 1, none⟩ = some (.int .i64 (ri : Int)) := by rw [HBq.out]; exact run_cell (j := 1) HFn2.qb rfl
        have hne2 := (HFn2.mki.offs.1 gb rfl).1
        have hgbq : bq ≠ gb := fun e => by
          obtain ⟨cur, hc⟩ := RowO.type HFn2.mki.rul (g := gb) rfl
          have hq := HFn2.qb
          rw [← HBq.out, e, hc] at hq
          cases hq
        have s0' : (w7.setCell ⟨gb, ri * 3 + 2, none⟩ (.slice (some ⟨g7, 0, none⟩) (i + i) cap7)).cell? ⟨p, 2, none⟩ = some (.slice (some ⟨gb, 0, none⟩) m1.rules.length cg) := (World.cell?_of_block (setCell_other _ (fun e => hne2 e.symm))).trans t0
        have s1' : (w7.setCell ⟨gb, ri * 3 + 2, none⟩ (.slice (some ⟨g7, 0, none⟩) (i + i) cap7)).cell? ⟨bq, 1, none⟩ = some (.int .i64 (ri : Int)) := (World.cell?_of_block (setCell_other _ hgbq)).trans t1
        have HMk : Hid _ := hMk
        have HFr : Hid _ := hFr
        have HFt : Hid (FrA (Mut p gv qv) w w7) := HFn2.fr
        have HLk : Hid (∀ k, k < w.heap.size → Mut p (.slice (some ⟨gb, 0, none⟩) m1.rules.length cg) qv1 k → Mut p gv qv k) := HFn2.lk
        clear HFn2 eg hMk hFr hne2 hgbq HF
        go_region_held3 (fun V => V.cell? ⟨p, 2, none⟩ = some (.slice (some ⟨gb, 0, none⟩) m1.rules.length cg) ∧ V.cell? ⟨bq, 1, none⟩ = some (.int .i64 (ri : Int)))
          ((first | go_keep | exact ⟨s0', s1'⟩))
          (fail)
        go_wp2
        go_end0
        rw [HFin.out]
        first
          | exact ⟨_, _, rfl, HMk.out, HFt.out.trans HFr.out HLk.out, HLk.out⟩
          | exact ⟨_, _, rfl, HMk.out.step (bel_drewS (Below.refl _ _)), (HFt.out.trans HFr.out HLk.out).trans (A' := Mut p gv qv) (FrA.below (bel_drewS (Below.refl _ _))) (fun _ _ a => a), HLk.out⟩
      · have q8 : (ns[z].kind == 8) = false := by rw [beq_eq_false_iff_ne]; exact k8
        have e9 : kindAlts ns[z].kind alts more = alts := by rw [kindAlts, if_neg k9, if_neg k7, if_neg k8]
        rw [e9] at HFin
        have HF : Hid (FinI A ns rs (some ⟨g, off, none⟩) ar cn cr W0.heap.size p W0 w gv qv #[.int .i64 (z : Int), .int .i64 (ri : Int), .slice ak known.length ck0] m1 (.slice (some ⟨gb, 0, none⟩) m1.rules.length cg) qv1 (.slice a7 i c7) alts wr) := HI.out.fin HA0.out
        clear k9 k7 k8 e9
        go_wp2_with fail
        have HFn2 := HF.out
        obtain ⟨gb2, cg2, eg, ⟨cc, hcc, hcf⟩, _, hMk, hFr⟩ := HFn2.mki.alts hri1 (.slice a7 i c7) _ HFn2.alt
        obtain ⟨rfl, rfl⟩ : gb = gb2 ∧ cg = cg2 := by cases eg; exact ⟨rfl, rfl⟩
        have t0 := run_cell (j := 2) HFn2.mki.box rfl
        have t1 : wr.cell? ⟨bq, 1, none⟩ = some (.int .i64 (ri : Int)) := by rw [HBq.out]; exact run_cell (j := 1) HFn2.qb rfl
        have hne2 := (HFn2.mki.offs.1 gb rfl).1
        have hgbq : bq ≠ gb := fun e => by
          obtain ⟨cur, hc⟩ := RowO.type HFn2.mki.rul (g := gb) rfl
          have hq := HFn2.qb
          rw [← HBq.out, e, hc] at hq
          cases hq
        have s0' : (wr.setCell ⟨gb, ri * 3 + 2, none⟩ (.slice a7 i c7)).cell? ⟨p, 2, none⟩ = some (.slice (some ⟨gb, 0, none⟩) m1.rules.length cg) := (World.cell?_of_block (setCell_other _ (fun e => hne2 e.symm))).trans t0
        have s1' : (wr.setCell ⟨gb, ri * 3 + 2, none⟩ (.slice a7 i c7)).cell? ⟨bq, 1, none⟩ = some (.int .i64 (ri : Int)) := (World.cell?_of_block (setCell_other _ hgbq)).trans t1
        have HMk : Hid _ := hMk
        have HFr : Hid _ := hFr
        have HFt : Hid (FrA (Mut p gv qv) w wr) := HFn2.fr
        have HLk : Hid (∀ k, k < w.heap.size → Mut p (.slice (some ⟨gb, 0, none⟩) m1.rules.length cg) qv1 k → Mut p gv qv k) := HFn2.lk
        clear HFn2 eg hMk hFr hne2 hgbq HF
        go_region_held3 (fun V => V.cell? ⟨p, 2, none⟩ = some (.slice (some ⟨gb, 0, none⟩) m1.rules.length cg) ∧ V.cell? ⟨bq, 1, none⟩ = some (.int .i64 (ri : Int)))
          ((first | go_keep | exact ⟨s0', s1'⟩))
          (fail)
        go_wp2
        go_end0
        rw [HFin.out]
        first
          | exact ⟨_, _, rfl, HMk.out, HFt.out.trans HFr.out HLk.out, HLk.out⟩
          | exact ⟨_, _, rfl, HMk.out.step (bel_drewS (Below.refl _ _)), (HFt.out.trans HFr.out HLk.out).trans (A' := Mut p gv qv) (FrA.below (bel_drewS (Below.refl _ _))) (fun _ _ a => a), HLk.out⟩

end Go.Proofs.Ytipkbkhnaekceaa
