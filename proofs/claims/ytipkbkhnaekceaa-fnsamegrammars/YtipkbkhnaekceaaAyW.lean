/- The verifier's l06Any: a drawn grammar, right or not (printed by mk/ayw.py). -/
import Derived.Test.YtipkbkhnaekceaaAyO
import Derived.Test.YtipkbkhnaekceaaSmP
import Derived.Test.YtipkbkhnaekceaaFlG0
import Derived.RegionTactic
import Derived.BigRegion
import Derived.Deep.RegionLaw
import Derived.Deep.CutRange
import Derived.Deep.RegionHeld3
namespace Go.Proofs.Ytipkbkhnaekceaa
open Go.RowKit
set_option linter.unusedVariables false

theorem tmod_nat (x m : Nat) : ((x : Int).tmod (m : Int)) = ((x % m : Nat) : Int) := by
  rw [Int.tmod_eq_emod_of_nonneg (by omega)]
  rfl
theorem wrap_nat {x : Nat} (h : x ≤ 1048576) : IntKind.i64.wrap (x : Int) = (x : Int) := by rw [IntKind.wrap_i64]; omega
theorem turn_store {w wa : World} {g p : Nat} {u : Value} (hb : Below w.heap.size w wa) : Turn w (wa.setCell ⟨g, p, none⟩ u) (fun k => k = g) := ⟨by simp [World.setCell]; exact hb.size, fun k hk hn => (setCell_other u hn).trans (hb.block k hk)⟩
theorem same_store {w wa : World} {g p : Nat} {u : Value} (h : wa.heap[g]? = w.heap[g]?) : (wa.setCell ⟨g, p, none⟩ u).heap[g]? = (w.setCell ⟨g, p, none⟩ u).heap[g]? := by simp [World.setCell, Array.getElem?_modify, h]
theorem went_after {W : World} {v : Value} {n g : Nat} {w w3 w' : World} (h : Went W v n g w w3) (hb : Below w3.heap.size w3 w') : Went W v n g w w' := went_below2 h hb

set_option maxHeartbeats 12800000 in
set_option maxRecDepth 100000 in
theorem any06_of (P : List RuleD → Prop) (hP : ∀ G, P G → 0 < G.length ∧ CopyIn G ∧ ∀ r ∈ G, 0 < r.alts.length) (hG : ∀ s ∈ texts11, ∃ g, P g ∧ GrC (cut11 s).1 g) : AnyC P := by
  intro W v n g w hn hcode hc
  have HC : Hid (CodeRow W v n) := hcode
  have HW : Hid (Cur W v n g w) := hc
  have HG : Hid (∀ s ∈ texts11, ∃ g, P g ∧ GrC (cut11 s).1 g) := hG
  have HP : Hid (∀ G, P G → 0 < G.length ∧ CopyIn G ∧ ∀ r ∈ G, 0 < r.alts.length) := hP
  clear hcode hc hG hP
  go_enter Try.func11, Try.ntmps11
  go_wp2_with fail
  refine (below_any W v n g 14 _ hn HC.out (went_alloc HW.out _).1 (by omega) (by omega)).mono ?_
  rintro e w1 ⟨k, rfl, ⟨k0, k1⟩, hw1⟩
  have H1 : Hid (Went W v n g _ w1) := hw1
  clear hw1
  go_wp2_with fail
  refine (below_any W v n g 90 _ hn HC.out H1.out.1 (by omega) (by omega)).mono ?_
  rintro e w2 ⟨x, rfl, ⟨x0, x1⟩, hw2⟩
  have H2 : Hid (Went W v n g _ w2) := went_trans H1.out hw2
  clear hw2 H1
  obtain ⟨xn, rfl⟩ := Int.eq_ofNat_of_zero_le x0
  go_wp2_with fail
  refine (grammar06_of P HG.out W v n g _ hn HC.out H2.out.1).mono ?_
  rintro e w3 ⟨G, o3, hPG, rfl, hh3, hw3⟩
  have H3 : Hid (Went W v n g _ w3) := went_trans H2.out hw3
  obtain ⟨hG0, hCI, hAl⟩ := HP.out G hPG
  have HPG : Hid (P G) := hPG
  have R3 : Hid (RowC 3 RuleE w3 o3 G) := hh3.here
  have hs3 : w.heap.size < w3.heap.size := by have := H3.out.2.size; simp at this; omega
  have hg3 : g < w3.heap.size := H3.out.1.lt
  clear hw3 H2 hh3 hPG HG HP
  go_wp2_with fail
  refine (copyG_any _ G w3 hCI R3.out).mono ?_
  rintro e w4 ⟨o, X, rfl, hF, hX, hb4⟩
  have hGl : G.length ≤ 1048576 := hCI.1
  have RI : Hid (RowI 3 40 RuleI (w3.heap.size + 3) X o G w4) := hF.here
  have B4 : Hid (Below w3.heap.size w3 w4) := hb4
  have hi : xn % G.length < G.length := Nat.mod_lt _ hG0
  obtain ⟨i, ei⟩ : ∃ i, xn % G.length = i := ⟨_, rfl⟩
  rw [ei] at hi
  have ham0 : 0 < G[i].alts.length := hAl _ (List.getElem_mem hi)
  have ham1 : G[i].alts.length ≤ 1048576 := (hCI.2 _ (List.getElem_mem hi)).2.1
  have hpl1 : G[i].params.length ≤ 1048576 := (hCI.2 _ (List.getElem_mem hi)).1
  have hj : xn % G[i].alts.length < G[i].alts.length := Nat.mod_lt _ ham0
  obtain ⟨j, ej⟩ : ∃ j, xn % G[i].alts.length = j := ⟨_, rfl⟩
  rw [ej] at hj
  have hsl1 : G[i].alts[j].length ≤ 1048576 := ((hCI.2 _ (List.getElem_mem hi)).2.2 _ (List.getElem_mem hj)).1
  clear hF hb4 hAl hCI R3
  obtain ⟨go, cap, ka, capa, pv, sv, rfl, hAy4⟩ := ayI_of RI.out hX hi hj
  obtain ⟨ps, cps, rfl⟩ : ∃ ps cps, pv = .slice ps G[i].params.length cps := hAy4.pvo.row.slice
  obtain ⟨sa, sc, rfl⟩ : ∃ sa sc, sv = .slice sa G[i].alts[j].length sc := by
    obtain ⟨cs, ho⟩ := hAy4.svo
    rcases ho.2 with ⟨e, h0⟩ | ⟨gg, cc, cu, e, _⟩
    · exact ⟨_, _, by rw [e, h0]⟩
    · exact ⟨_, _, e⟩
  have tm : ((xn : Int).tmod (G.length : Int)) = ((i : Nat) : Int) := by rw [tmod_nat, ei]
  have wi : IntKind.i64.wrap (i : Int) = (i : Int) := wrap_nat (by omega)
  have tj : ((xn : Int).tmod (G[i].alts.length : Int)) = ((j : Nat) : Int) := by rw [tmod_nat, ej]
  have wj : IntKind.i64.wrap (j : Int) = (j : Int) := wrap_nat (by omega)
  -- the two boxes
  have b5 : Below w4.heap.size w4 ((w4.alloc (.cells #[.slice (some ⟨go, 0, none⟩) G.length cap] 26)).alloc (.cells #[.string G[i].name, .slice ps G[i].params.length cps, .slice (some ⟨ka, 0, none⟩) G[i].alts.length capa] 40)) := ((Below.refl _ _).alloc (Nat.le_refl _) _).alloc (by simp) _
  have b5' : Below w4.heap.size w4 (w4.alloc (.cells #[.slice (some ⟨go, 0, none⟩) G.length cap] 26)) := (Below.refl _ _).alloc (Nat.le_refl _) _
  have p0 : (w4.alloc (.cells #[.slice (some ⟨go, 0, none⟩) G.length cap] 26)).cell? ⟨w4.heap.size, 0, none⟩ = some (.slice (some ⟨go, 0, none⟩) G.length cap) := box_at _ _ _ 0 _ rfl
  have p1 := cell_keep hAy4.c0 b5'
  have p2 := cell_keep hAy4.c1 b5'
  have p3 := cell_keep hAy4.c2 b5'
  have pa := cell_keep hAy4.ca b5
  have hgoL : go < w4.heap.size := by obtain ⟨c, h⟩ := hAy4.tg; exact (Array.getElem?_eq_some_iff.1 h).1
  have hkaL : ka < w4.heap.size := by obtain ⟨c, h⟩ := hAy4.ta; exact (Array.getElem?_eq_some_iff.1 h).1
  clear hAy4
  obtain ⟨go', cap', ka', capa', pv', sv', e1, hAy⟩ := ayI_of (RI.out.below hX b5) (Nat.le_trans hX b5.size) hi hj
  cases e1
  have q4 : ((w4.alloc (.cells #[.slice (some ⟨go, 0, none⟩) G.length cap] 26)).alloc (.cells #[.string G[i].name, .slice ps G[i].params.length cps, .slice (some ⟨ka, 0, none⟩) G[i].alts.length capa] 40)).cell? ⟨w4.heap.size, 0, none⟩ = some (.slice (some ⟨go, 0, none⟩) G.length cap) := box_two _ _ _ _ _ 0 _ rfl
  have bal5 : Below (w4.alloc (.cells #[.slice (some ⟨go, 0, none⟩) G.length cap] 26)).heap.size (w4.alloc (.cells #[.slice (some ⟨go, 0, none⟩) G.length cap] 26)) ((w4.alloc (.cells #[.slice (some ⟨go, 0, none⟩) G.length cap] 26)).alloc (.cells #[.string G[i].name, .slice ps G[i].params.length cps, .slice (some ⟨ka, 0, none⟩) G[i].alts.length capa] 40)) := (Below.refl _ _).alloc (Nat.le_refl _) _
  obtain ⟨rfl, rfl⟩ : ka = ka' ∧ capa = capa' := by
    have h1 := hAy.c2
    rw [cell_keep p3 bal5] at h1
    have := Option.some.inj h1
    simp only [Value.slice.injEq, Option.some.injEq, Addr.mk.injEq, and_true, true_and] at this
    exact this
  obtain rfl : Value.slice ps G[i].params.length cps = pv' := by
    have h1 := hAy.c1
    rw [cell_keep p2 bal5] at h1
    exact Option.some.inj h1
  obtain rfl : Value.slice sa G[i].alts[j].length sc = sv' := by
    have h1 := hAy.ca
    rw [pa] at h1
    exact Option.some.inj h1
  have q5 : ((w4.alloc (.cells #[.slice (some ⟨go, 0, none⟩) G.length cap] 26)).alloc (.cells #[.string G[i].name, .slice ps G[i].params.length cps, .slice (some ⟨ka, 0, none⟩) G[i].alts.length capa] 40)).cell? ⟨w4.heap.size + 1, 1, none⟩ = some (.slice ps G[i].params.length cps) := box_two' _ _ _ _ _ 1 _ rfl
  have q6 : ((w4.alloc (.cells #[.slice (some ⟨go, 0, none⟩) G.length cap] 26)).alloc (.cells #[.string G[i].name, .slice ps G[i].params.length cps, .slice (some ⟨ka, 0, none⟩) G[i].alts.length capa] 40)).cell? ⟨w4.heap.size + 1, 2, none⟩ = some (.slice (some ⟨ka, 0, none⟩) G[i].alts.length capa) := box_two' _ _ _ _ _ 2 _ rfl
  have Y0 : Hid (((w4.alloc (.cells #[.slice (some ⟨go, 0, none⟩) G.length cap] 26)).alloc (.cells #[.string G[i].name, .slice ps G[i].params.length cps, .slice (some ⟨ka, 0, none⟩) G[i].alts.length capa] 40)).heap[w4.heap.size]? = some (.cells #[.slice (some ⟨go, 0, none⟩) G.length cap] 26 (0, 0))) := (Below.heap_alloc _ _ _ (by simp)).trans (heap_alloc_new w4 _)
  have B6 : Hid (Below w3.heap.size w3 ((w4.alloc (.cells #[.slice (some ⟨go, 0, none⟩) G.length cap] 26)).alloc (.cells #[.string G[i].name, .slice ps G[i].params.length cps, .slice (some ⟨ka, 0, none⟩) G[i].alts.length capa] 40))) := B4.out.trans (b5.mono B4.out.size)
  have Y1 : Hid (((w4.alloc (.cells #[.slice (some ⟨go, 0, none⟩) G.length cap] 26)).alloc (.cells #[.string G[i].name, .slice ps G[i].params.length cps, .slice (some ⟨ka, 0, none⟩) G[i].alts.length capa] 40)).heap[w4.heap.size + 1]? = some (.cells #[.string G[i].name, .slice ps G[i].params.length cps, .slice (some ⟨ka, 0, none⟩) G[i].alts.length capa] 40 (0, 0))) := by
    have := heap_alloc_new (w4.alloc (.cells #[.slice (some ⟨go, 0, none⟩) G.length cap] 26)) (.cells #[.string G[i].name, .slice ps G[i].params.length cps, .slice (some ⟨ka, 0, none⟩) G[i].alts.length capa] 40)
    rwa [show (w4.alloc (.cells #[.slice (some ⟨go, 0, none⟩) G.length cap] 26)).heap.size = w4.heap.size + 1 by simp] at this
  have HAy : Hid (AyI (w3.heap.size + 3) X G i j hi hj go cap ka capa (.slice ps G[i].params.length cps) (.slice sa G[i].alts[j].length sc) ((w4.alloc (.cells #[.slice (some ⟨go, 0, none⟩) G.length cap] 26)).alloc (.cells #[.string G[i].name, .slice ps G[i].params.length cps, .slice (some ⟨ka, 0, none⟩) G[i].alts.length capa] 40))) := hAy
  have hs4 : w3.heap.size ≤ w4.heap.size := B4.out.size
  have hsz6 : ((w4.alloc (.cells #[.slice (some ⟨go, 0, none⟩) G.length cap] 26)).alloc (.cells #[.string G[i].name, .slice ps G[i].params.length cps, .slice (some ⟨ka, 0, none⟩) G[i].alts.length capa] 40)).heap.size = w4.heap.size + 2 := by simp
  have q7 := hAy.ca
  have i1 : (i : Int) < (G.length : Int) := by omega
  have i2 : (j : Int) < (G[i].alts.length : Int) := by omega
  have i3 : ¬ ((G.length : Int) = 0) := by omega
  have i4 : ¬ ((G[i].alts.length : Int) = 0) := by omega
  have hgo4 : go < w4.heap.size := hgoL
  have hka4 : ka < w4.heap.size := hkaL
  clear hAy RI B4 bal5 b5 b5' pa hgoL hkaL
  go_upto_region 9 with fail
  generalize (w4.alloc (.cells #[.slice (some ⟨go, 0, none⟩) G.length cap] 26)).alloc (.cells #[.string G[i].name, .slice ps G[i].params.length cps, .slice (some ⟨ka, 0, none⟩) G[i].alts.length capa] 40) = W6 at *
  clear p0 p1 p2 p3 tm wi tj wj i3 i4
  have c6 := HAy.out.c0
  have d6 := HAy.out.c1
  have e6 := HAy.out.c2
  have fz : ∀ p, W6.frozen? ⟨go, p, none⟩ = false := fun p => by obtain ⟨c, h⟩ := HAy.out.tg; exact run_frozen h
  have fza : ∀ p, W6.frozen? ⟨ka, p, none⟩ = false := fun p => by obtain ⟨c, h⟩ := HAy.out.ta; exact run_frozen h
  have hB3 : w3.heap.size ≤ w3.heap.size + 3 := by omega
  have hgB := HAy.out.bg
  have hkB := HAy.out.ba
  rcases (by omega : 7 ≤ k ∨ k = 0 ∨ k = 2 ∨ k = 6 ∨ k = 5 ∨ k = 3 ∨ k = 1 ∨ k = 4) with t | t | t | t | t | t | t | t
  · have t7 : 7 ≤ k := by omega
    have W5 := went_after H3.out B6.out
    have H5 := Held.away (HAy.out.same W6 (fun _ => False) (fun _ h => h.elim) ⟨Nat.le_refl _, fun _ _ _ => rfl⟩) (A' := fun k => k < w3.heap.size) (fun k _ hk => by omega)
    obtain ⟨z1, z2, hld, hwn, hz⟩ := box_end (.slice (some ⟨go, 0, none⟩) G.length cap) HW.out W5 hs3 H5
    have HL : Hid _ := hld
    have HN : Hid _ := hwn
    have HZ : Hid _ := hz
    have z3 : (W6).cell? ⟨w4.heap.size, 0, none⟩ = some (.slice (some ⟨go, 0, none⟩) G.length cap) := q4
    clear hld hwn hz W5 H5
    go_wp2
    have zz := HZ.out
    refine bodyPost_ret (by simp [results, Try.results11, go_sem, zz]; try rfl) rfl ?_
    exact ⟨G, HPG.out, _, .same, _, rfl, HL.out, HN.out⟩
  · subst t
    have tz : ((xn : Int).tmod (4 : Int)) = ((xn % 4 : Nat) : Int) := tmod_nat xn 4
    have wz : IntKind.i64.wrap ((xn % 4 : Nat) : Int) = ((xn % 4 : Nat) : Int) := wrap_nat (by omega)
    have hz : xn % 4 < 4 := Nat.mod_lt _ (by omega)
    generalize xn % 4 = z at *
    have hz2 : (z : Int) < 4 := by omega
    obtain ⟨s, hs, hsz⟩ : ∃ s : ByteArray, (∀ W : World, (W.alloc (.cells #[.string ⟨#[]⟩, .string ⟨#[49, 97]⟩, .string ⟨#[84, 111, 111, 108, 111, 110, 103]⟩, .string ⟨#[83]⟩] 9)).cell? ⟨W.heap.size, z, none⟩ = some (.string s)) ∧ s.size ≤ 7 := by
      obtain ⟨s, h1, h2⟩ := texts_rowN W6 #[.string ⟨#[]⟩, .string ⟨#[49, 97]⟩, .string ⟨#[84, 111, 111, 108, 111, 110, 103]⟩, .string ⟨#[83]⟩] 9 7 4 rfl (by decide +kernel) z hz
      refine ⟨s, fun W => ?_, h2⟩
      rw [cell_of_row _ _ z _ _ _ (heap_alloc_new W6 _)] at h1
      rw [cell_of_row _ _ z _ _ _ (heap_alloc_new W _)]
      exact h1
    have HS7 : Hid (s.size ≤ 7) := hsz
    have hl : ([.string ⟨#[]⟩, .string ⟨#[49, 97]⟩, .string ⟨#[84, 111, 111, 108, 111, 110, 103]⟩, .string ⟨#[83]⟩] : List Value)[z]'hz = .string s := by
      have := hs W6
      rw [cell_of_row _ _ z _ _ _ (heap_alloc_new W6 _), Array.getElem?_eq_getElem (by simpa using hz)] at this
      exact Option.some.inj this
    clear hsz hs
    have bA : Below W6.heap.size W6 (W6.alloc (.cells #[.string ⟨#[]⟩, .string ⟨#[49, 97]⟩, .string ⟨#[84, 111, 111, 108, 111, 110, 103]⟩, .string ⟨#[83]⟩] 9)) := (Below.refl _ _).alloc (Nat.le_refl _) _
    have c7 := cell_keep c6 bA
    have f7 : (W6.alloc (.cells #[.string ⟨#[]⟩, .string ⟨#[49, 97]⟩, .string ⟨#[84, 111, 111, 108, 111, 110, 103]⟩, .string ⟨#[83]⟩] 9)).frozen? ⟨go, i * 3, none⟩ = false := (World.frozen?_of_block (bA.block go (by omega))).trans (fz _)
    have BA : Hid (Below W6.heap.size W6 (W6.alloc (.cells #[.string ⟨#[]⟩, .string ⟨#[49, 97]⟩, .string ⟨#[84, 111, 111, 108, 111, 110, 103]⟩, .string ⟨#[83]⟩] 9))) := bA
    clear bA
    go_wp2
    go_region
    have hT := turn_store (g := go) (p := i * 3) (u := .string s) BA.out
    have hH := HAy.out.name ((W6.alloc (.cells #[.string ⟨#[]⟩, .string ⟨#[49, 97]⟩, .string ⟨#[84, 111, 111, 108, 111, 110, 103]⟩, .string ⟨#[83]⟩] 9)).setCell ⟨go, i * 3, none⟩ (.string s)).drew s ⟨hT.1, hT.2⟩ (same_store (BA.out.block go (by omega)))
    have hBl : Below w3.heap.size w3 ((W6.alloc (.cells #[.string ⟨#[]⟩, .string ⟨#[49, 97]⟩, .string ⟨#[84, 111, 111, 108, 111, 110, 103]⟩, .string ⟨#[83]⟩] 9)).setCell ⟨go, i * 3, none⟩ (.string s)).drew := bel_drewS (((B6.out.trans (BA.out.mono B6.out.size))).setCell (show w3.heap.size ≤ go by omega) _)
    have hY : ((W6.alloc (.cells #[.string ⟨#[]⟩, .string ⟨#[49, 97]⟩, .string ⟨#[84, 111, 111, 108, 111, 110, 103]⟩, .string ⟨#[83]⟩] 9)).setCell ⟨go, i * 3, none⟩ (.string s)).drew.cell? ⟨w4.heap.size, 0, none⟩ = some (.slice (some ⟨go, 0, none⟩) G.length cap) := by
      rw [← q4]
      exact World.cell?_of_block ((setCell_other _ (show w4.heap.size ≠ go by omega)).trans (BA.out.block w4.heap.size (by omega)))
    clear c7 f7
    generalize ((W6.alloc (.cells #[.string ⟨#[]⟩, .string ⟨#[49, 97]⟩, .string ⟨#[84, 111, 111, 108, 111, 110, 103]⟩, .string ⟨#[83]⟩] 9)).setCell ⟨go, i * 3, none⟩ (.string s)).drew = WT at *
    have W5 := went_after H3.out hBl
    have H5 := Held.away hH (A' := fun k => k < w3.heap.size) (fun k _ hk => by omega)
    obtain ⟨z1, z2, hld, hwn, hz⟩ := box_end (.slice (some ⟨go, 0, none⟩) G.length cap) HW.out W5 hs3 H5
    have HL : Hid _ := hld
    have HN : Hid _ := hwn
    have HZ : Hid _ := hz
    have z3 : (WT).cell? ⟨w4.heap.size, 0, none⟩ = some (.slice (some ⟨go, 0, none⟩) G.length cap) := hY
    clear hld hwn hz W5 H5
    go_wp2
    have zz := HZ.out
    refine bodyPost_ret (by simp [results, Try.results11, go_sem, zz]; try rfl) rfl ?_
    exact ⟨G, HPG.out, _, .name i hi s HS7.out, _, rfl, HL.out, HN.out⟩
  · subst t
    have hT := turn_store (g := go) (p := i * 3 + 2) (u := .slice (some ⟨ka, 0, none⟩) 0 capa) (Below.refl W6.heap.size W6)
    have hH := HAy.out.noAlts (W6.setCell ⟨go, i * 3 + 2, none⟩ (.slice (some ⟨ka, 0, none⟩) 0 capa)).drew ⟨hT.1, hT.2⟩ rfl
    have hBl : Below w3.heap.size w3 (W6.setCell ⟨go, i * 3 + 2, none⟩ (.slice (some ⟨ka, 0, none⟩) 0 capa)).drew := bel_drewS (B6.out.setCell (show w3.heap.size ≤ go by omega) _)
    have hY : (W6.setCell ⟨go, i * 3 + 2, none⟩ (.slice (some ⟨ka, 0, none⟩) 0 capa)).drew.cell? ⟨w4.heap.size, 0, none⟩ = some (.slice (some ⟨go, 0, none⟩) G.length cap) := by
      rw [← q4]
      exact World.cell?_of_block (setCell_other _ (show w4.heap.size ≠ go by omega))
    have HHh : Hid _ := hH
    have HBl : Hid _ := hBl
    have HY : Hid _ := hY
    have f7 := fz (i * 3 + 2)
    clear hT hH hBl hY
    go_wp2
    go_region
    have hH := HHh.out
    have hBl := HBl.out
    have hY := HY.out
    clear HHh HBl HY
    generalize (W6.setCell ⟨go, i * 3 + 2, none⟩ (.slice (some ⟨ka, 0, none⟩) 0 capa)).drew = WT at *
    have W5 := went_after H3.out hBl
    have H5 := Held.away hH (A' := fun k => k < w3.heap.size) (fun k _ hk => by omega)
    obtain ⟨z1, z2, hld, hwn, hz⟩ := box_end (.slice (some ⟨go, 0, none⟩) G.length cap) HW.out W5 hs3 H5
    have HL : Hid _ := hld
    have HN : Hid _ := hwn
    have HZ : Hid _ := hz
    have z3 : (WT).cell? ⟨w4.heap.size, 0, none⟩ = some (.slice (some ⟨go, 0, none⟩) G.length cap) := hY
    clear hld hwn hz W5 H5
    go_wp2
    have zz := HZ.out
    refine bodyPost_ret (by simp [results, Try.results11, go_sem, zz]; try rfl) rfl ?_
    exact ⟨G, HPG.out, _, .noAlts i hi, _, rfl, HL.out, HN.out⟩
  · subst t
    have fb := run_frozen (j := 0) Y0.out
    have hcl : G.length ≤ cap := HAy.out.gc
    have i5 : (1 : Int) ≤ (G.length : Int) := by omega
    have i6 : (G.length : Int) ≤ (cap : Int) := by omega
    by_cases hc1 : cap = 1
    · subst hc1
      have hBl : Below w3.heap.size w3 (W6.setCell ⟨w4.heap.size, 0, none⟩ (.slice (some ⟨go, 0, none⟩) 0 0)) := B6.out.setCell (show w3.heap.size ≤ w4.heap.size by omega) _
      have hY : (W6.setCell ⟨w4.heap.size, 0, none⟩ (.slice (some ⟨go, 0, none⟩) 0 0)).cell? ⟨w4.heap.size, 0, none⟩ = some (.slice (some ⟨go, 0, none⟩) 0 0) := World.cell?_setCell_same _ _ _ q4
      have hH : Held (fun k => k < w3.heap.size + 3) (W6.setCell ⟨w4.heap.size, 0, none⟩ (.slice (some ⟨go, 0, none⟩) 0 0)) (fun V => RowC 3 RuleE V (.slice (some ⟨go, 0, none⟩) 0 0) (G.drop 1)) := fun V _ _ => by
        rw [List.drop_eq_nil_of_le (by omega)]
        exact ⟨_, 0, rfl, fun h => (by cases h), fun h => by simp at h⟩
      go_upto_region 24 with fail
      generalize (W6.setCell ⟨w4.heap.size, 0, none⟩ (.slice (some ⟨go, 0, none⟩) 0 0)) = WT at *
      have W5 := went_after H3.out hBl
      have H5 := Held.away hH (A' := fun k => k < w3.heap.size) (fun k _ hk => by omega)
      obtain ⟨z1, z2, hld, hwn, hz⟩ := box_end (.slice (some ⟨go, 0, none⟩) 0 0) HW.out W5 hs3 H5
      have HL : Hid _ := hld
      have HN : Hid _ := hwn
      have HZ : Hid _ := hz
      have z3 : (WT).cell? ⟨w4.heap.size, 0, none⟩ = some (.slice (some ⟨go, 0, none⟩) 0 0) := hY
      clear hld hwn hz W5 H5
      go_wp2
      have zz := HZ.out
      refine bodyPost_ret (by simp [results, Try.results11, go_sem, zz]; try rfl) rfl ?_
      exact ⟨G, HPG.out, _, .rest, _, rfl, HL.out, HN.out⟩
    · have hc2 : ¬ (cap - 1 = 0) := by omega
      have hBl : Below w3.heap.size w3 (W6.setCell ⟨w4.heap.size, 0, none⟩ (.slice (some ⟨go, 3, none⟩) (G.length - 1) (cap - 1))) := B6.out.setCell (show w3.heap.size ≤ w4.heap.size by omega) _
      have hY : (W6.setCell ⟨w4.heap.size, 0, none⟩ (.slice (some ⟨go, 3, none⟩) (G.length - 1) (cap - 1))).cell? ⟨w4.heap.size, 0, none⟩ = some (.slice (some ⟨go, 3, none⟩) (G.length - 1) (cap - 1)) := World.cell?_setCell_same _ _ _ q4
      have hH : Held (fun k => k < w3.heap.size + 3) (W6.setCell ⟨w4.heap.size, 0, none⟩ (.slice (some ⟨go, 3, none⟩) (G.length - 1) (cap - 1))) (fun V => RowC 3 RuleE V (.slice (some ⟨go, 3, none⟩) (G.length - 1) (cap - 1)) (G.drop 1)) := (HAy.out.same (W6.setCell ⟨w4.heap.size, 0, none⟩ (.slice (some ⟨go, 3, none⟩) (G.length - 1) (cap - 1))) (fun k => k = w4.heap.size) (fun k hk => ⟨by omega, by omega⟩) (turn_store (Below.refl _ _))).imp fun V hV => by
        match G, hG0 with
        | x :: xs, _ => exact rowC_rest hV
      go_upto_region 24 with fail
      generalize (W6.setCell ⟨w4.heap.size, 0, none⟩ (.slice (some ⟨go, 3, none⟩) (G.length - 1) (cap - 1))) = WT at *
      have W5 := went_after H3.out hBl
      have H5 := Held.away hH (A' := fun k => k < w3.heap.size) (fun k _ hk => by omega)
      obtain ⟨z1, z2, hld, hwn, hz⟩ := box_end (.slice (some ⟨go, 3, none⟩) (G.length - 1) (cap - 1)) HW.out W5 hs3 H5
      have HL : Hid _ := hld
      have HN : Hid _ := hwn
      have HZ : Hid _ := hz
      have z3 : (WT).cell? ⟨w4.heap.size, 0, none⟩ = some (.slice (some ⟨go, 3, none⟩) (G.length - 1) (cap - 1)) := hY
      clear hld hwn hz W5 H5
      go_wp2
      have zz := HZ.out
      refine bodyPost_ret (by simp [results, Try.results11, go_sem, zz]; try rfl) rfl ?_
      exact ⟨G, HPG.out, _, .rest, _, rfl, HL.out, HN.out⟩
  · subst t
    by_cases h0 : 0 < G[i].alts[j].length
    rotate_left
    · have i5 : ¬ ((0 : Int) < (G[i].alts[j].length : Int)) := by omega
      have W5 := went_after H3.out B6.out
      have H5 := Held.away (HAy.out.same W6 (fun _ => False) (fun _ h => h.elim) ⟨Nat.le_refl _, fun _ _ _ => rfl⟩) (A' := fun k => k < w3.heap.size) (fun k _ hk => by omega)
      obtain ⟨z1, z2, hld, hwn, hz⟩ := box_end (.slice (some ⟨go, 0, none⟩) G.length cap) HW.out W5 hs3 H5
      have HL : Hid _ := hld
      have HN : Hid _ := hwn
      have HZ : Hid _ := hz
      have z3 : (W6).cell? ⟨w4.heap.size, 0, none⟩ = some (.slice (some ⟨go, 0, none⟩) G.length cap) := q4
      clear hld hwn hz W5 H5
      go_wp2
      have zz := HZ.out
      refine bodyPost_ret (by simp [results, Try.results11, go_sem, zz]; try rfl) rfl ?_
      exact ⟨G, HPG.out, _, .same, _, rfl, HL.out, HN.out⟩
    obtain ⟨ks, rfl, hks, u3, hu3, cur5, hcur5, hks6⟩ : ∃ ks, sa = some ⟨ks, 0, none⟩ ∧ w3.heap.size ≤ ks ∧ ∃ u, W6.cell? ⟨ks, 3, none⟩ = some u ∧ ∃ cur, W6.heap[ks]? = some (.cells cur 51 (0, 0)) ∧ ks < W6.heap.size := by
      obtain ⟨cs, ho⟩ := HAy.out.svo
      rcases ho.2 with ⟨e, h1⟩ | ⟨gg, cc, cu, e, hbg, hc, _⟩
      · omega
      · simp only [Value.slice.injEq] at e
        have hlen := ho.1
        have := World.ownsRow.cells ho (g := gg) (by rw [e.1]; rfl) 3 _ (List.getElem?_eq_getElem (by omega))
        rw [Addr.add_lit, Nat.zero_add] at this
        exact ⟨gg, e.1, by omega, _, this, cu, hc, (Array.getElem?_eq_some_iff.1 hc).1⟩
    have hneb : w4.heap.size ≠ ks := fun e => by
      have h1 := Y0.out
      rw [e, hcur5] at h1
      cases h1
    have i5 : (0 : Int) < (G[i].alts[j].length : Int) := by omega
    have HV5 : Hid (0 < G[i].alts[j].length) := h0
    have tz : ((xn : Int).tmod (3 : Int)) = ((xn % 3 : Nat) : Int) := tmod_nat xn 3
    have wz : IntKind.i64.wrap ((xn % 3 : Nat) : Int) = ((xn % 3 : Nat) : Int) := wrap_nat (by omega)
    have hz : xn % 3 < 3 := Nat.mod_lt _ (by omega)
    generalize xn % 3 = z at *
    have hz2 : (z : Int) < 3 := by omega
    obtain ⟨s, hs, hsz⟩ : ∃ s : ByteArray, (∀ W : World, (W.alloc (.cells #[.string ⟨#[97]⟩, .string ⟨#[110]⟩, .string ⟨#[81]⟩] 9)).cell? ⟨W.heap.size, z, none⟩ = some (.string s)) ∧ s.size ≤ 7 := by
      obtain ⟨s, h1, h2⟩ := texts_rowN W6 #[.string ⟨#[97]⟩, .string ⟨#[110]⟩, .string ⟨#[81]⟩] 9 7 3 rfl (by decide +kernel) z hz
      refine ⟨s, fun W => ?_, h2⟩
      rw [cell_of_row _ _ z _ _ _ (heap_alloc_new W6 _)] at h1
      rw [cell_of_row _ _ z _ _ _ (heap_alloc_new W _)]
      exact h1
    have HS7 : Hid (s.size ≤ 7) := hsz
    have hl : ([.string ⟨#[97]⟩, .string ⟨#[110]⟩, .string ⟨#[81]⟩] : List Value)[z]'hz = .string s := by
      have := hs W6
      rw [cell_of_row _ _ z _ _ _ (heap_alloc_new W6 _), Array.getElem?_eq_getElem (by simpa using hz)] at this
      exact Option.some.inj this
    clear hsz hs
    have BA : Hid (Below W6.heap.size W6 (W6.alloc (.cells #[.string ⟨#[97]⟩, .string ⟨#[110]⟩, .string ⟨#[81]⟩] 9))) := (Below.refl _ _).alloc (Nat.le_refl _) _
    have u7 := cell_keep hu3 BA.out
    have f7 : (W6.alloc (.cells #[.string ⟨#[97]⟩, .string ⟨#[110]⟩, .string ⟨#[81]⟩] 9)).frozen? ⟨ks, 3, none⟩ = false := (World.frozen?_of_block (BA.out.block ks (by omega))).trans (run_frozen hcur5)
    have hH := HAy.out.bind ((W6.alloc (.cells #[.string ⟨#[97]⟩, .string ⟨#[110]⟩, .string ⟨#[81]⟩] 9)).setCell ⟨ks, 3, none⟩ (.string s)) s ks HV5.out rfl (turn_store BA.out) (same_store (BA.out.block ks (by omega)))
    have hBl : Below w3.heap.size w3 ((W6.alloc (.cells #[.string ⟨#[97]⟩, .string ⟨#[110]⟩, .string ⟨#[81]⟩] 9)).setCell ⟨ks, 3, none⟩ (.string s)) := (B6.out.trans (BA.out.mono B6.out.size)).setCell hks _
    have hY : ((W6.alloc (.cells #[.string ⟨#[97]⟩, .string ⟨#[110]⟩, .string ⟨#[81]⟩] 9)).setCell ⟨ks, 3, none⟩ (.string s)).cell? ⟨w4.heap.size, 0, none⟩ = some (.slice (some ⟨go, 0, none⟩) G.length cap) := by
      rw [← q4]
      exact World.cell?_of_block ((setCell_other _ hneb).trans (BA.out.block w4.heap.size (by omega)))
    have HHh : Hid _ := hH
    clear h0 hH
    go_upto_region 24 with fail
    generalize ((W6.alloc (.cells #[.string ⟨#[97]⟩, .string ⟨#[110]⟩, .string ⟨#[81]⟩] 9)).setCell ⟨ks, 3, none⟩ (.string s)) = WT at *
    have W5 := went_after H3.out hBl
    have H5 := Held.away HHh.out (A' := fun k => k < w3.heap.size) (fun k _ hk => by omega)
    obtain ⟨z1, z2, hld, hwn, hz⟩ := box_end (.slice (some ⟨go, 0, none⟩) G.length cap) HW.out W5 hs3 H5
    have HL : Hid _ := hld
    have HN : Hid _ := hwn
    have HZ : Hid _ := hz
    have z3 : (WT).cell? ⟨w4.heap.size, 0, none⟩ = some (.slice (some ⟨go, 0, none⟩) G.length cap) := hY
    clear hld hwn hz W5 H5
    go_wp2
    have zz := HZ.out
    refine bodyPost_ret (by simp [results, Try.results11, go_sem, zz]; try rfl) rfl ?_
    exact ⟨G, HPG.out, _, .bind i j hi hj HV5.out s HS7.out, _, rfl, HL.out, HN.out⟩
  · subst t
    obtain ⟨s0, hs, hs0, hs1, hs2⟩ := info_parts Try.infoSymP
    obtain ⟨cs, hos⟩ := HAy.out.svo
    obtain ⟨cua, hcua⟩ := HAy.out.ta
    have nka : (Value.slice sa G[i].alts[j].length sc).ownBlock ≠ some ka := own_far hos hcua (by decide)
    have nbg : (Value.slice sa G[i].alts[j].length sc).ownBlock ≠ some w4.heap.size := own_far hos Y0.out (by decide)
    have nbr : (Value.slice sa G[i].alts[j].length sc).ownBlock ≠ some (w4.heap.size + 1) := own_far hos Y1.out (by decide)
    have tz : ((xn : Int).tmod (6 : Int)) = ((xn % 6 : Nat) : Int) := tmod_nat xn 6
    have wz : IntKind.i64.wrap ((xn % 6 : Nat) : Int) = ((xn % 6 : Nat) : Int) := wrap_nat (by omega)
    have hz : xn % 6 < 6 := Nat.mod_lt _ (by omega)
    generalize xn % 6 = z at *
    have HZ6 : Hid (z < 6) := hz
    have BA : Hid (Below W6.heap.size W6 (W6.alloc (.cells #[.int .i64 (z : Int), .string ⟨#[120]⟩, .slice none 0 0, .string ⟨#[]⟩] 51)).drew) := bel_drewS ((Below.refl _ _).alloc (Nat.le_refl _) _)
    have HO7 : Hid ((W6.alloc (.cells #[.int .i64 (z : Int), .string ⟨#[120]⟩, .slice none 0 0, .string ⟨#[]⟩] 51)).drew.ownsRow (w3.heap.size + 3) 51 4 (.slice sa G[i].alts[j].length sc) G[i].alts[j].length cs) := own_below hos BA.out
    have HN7 : Hid ((W6.alloc (.cells #[.int .i64 (z : Int), .string ⟨#[120]⟩, .slice none 0 0, .string ⟨#[]⟩] 51)).drew.heap[W6.heap.size]? = some (.cells #[.int .i64 (z : Int), .string ⟨#[120]⟩, .slice none 0 0, .string ⟨#[]⟩] 51 (0, 0))) := heap_alloc_new W6 _
    have HN8 : Hid (∀ u ∈ ([.int .i64 (z : Int), .string ⟨#[120]⟩, .slice none 0 0, .string ⟨#[]⟩] : List Value), u.oneCell' = true) := four_symP _ _ _ _ _ _
    have HB7 : Hid (w3.heap.size + 3 ≤ (W6.alloc (.cells #[.int .i64 (z : Int), .string ⟨#[120]⟩, .slice none 0 0, .string ⟨#[]⟩] 51)).drew.heap.size) := Nat.le_trans (show w3.heap.size + 3 ≤ W6.heap.size by omega) BA.out.size
    have HF8 : Hid (∀ w8 : World, (W6.alloc (.cells #[.int .i64 (z : Int), .string ⟨#[120]⟩, .slice none 0 0, .string ⟨#[]⟩] 51)).drew.grownBy w8 (Value.slice sa G[i].alts[j].length sc).ownBlock → ∀ a : Addr, a.block < W6.heap.size → (Value.slice sa G[i].alts[j].length sc).ownBlock ≠ some a.block → w8.cell? a = W6.cell? a) := fun w8 hg a ha hne => (hg.cell_far a (Nat.lt_of_lt_of_le ha BA.out.size) (fun e => hne e.symm)).trans (World.cell?_of_block (BA.out.block _ ha))
    have HF9 : Hid (∀ w8 : World, (W6.alloc (.cells #[.int .i64 (z : Int), .string ⟨#[120]⟩, .slice none 0 0, .string ⟨#[]⟩] 51)).drew.grownBy w8 (Value.slice sa G[i].alts[j].length sc).ownBlock → ∀ a : Addr, a.block < W6.heap.size → (Value.slice sa G[i].alts[j].length sc).ownBlock ≠ some a.block → w8.frozen? a = W6.frozen? a) := fun w8 hg a ha hne => (hg.frozen_far a (Nat.lt_of_lt_of_le ha BA.out.size) (fun e => hne e.symm)).trans (World.frozen?_of_block (BA.out.block _ ha))
    go_wp2
    go_region_law ((show ite (Region.wanted (Oper.mk (some 87) _ _ _ _ _) _ = true) _ _; refine step_append_lies _ (by rfl) _ _ _ (by rfl) (w3.heap.size + 3) 51 s0 _ 4 64 Try.underlying46 hs hs0 hs1 hs2 rfl (by decide) _ _ _ (by rfl) HO7.out ⟨W6.heap.size, 0, none⟩ 1 1 [.int .i64 (z : Int), .string ⟨#[120]⟩, .slice none 0 0, .string ⟨#[]⟩] (by simp [Act.eval]) (by rfl) (World.news_of_block (cs := #[.int .i64 (z : Int), .string ⟨#[120]⟩, .slice none 0 0, .string ⟨#[]⟩]) (t := 51) (fr := (0, 0)) HN7.out) HN8.out (by omega) (by unfold maxLen; omega) (by omega) HB7.out _ rfl ?_; intro g8 cap8 w8 hown8 hgr8 hat8 hlt8; have k8 := HF8.out w8 hgr8 ⟨ka, j, none⟩ (show ka < W6.heap.size by omega) nka; have k9 := HF8.out w8 hgr8 ⟨w4.heap.size + 1, 2, none⟩ (show w4.heap.size + 1 < W6.heap.size by omega) nbr; have k10 := HF9.out w8 hgr8 ⟨ka, j, none⟩ (show ka < W6.heap.size by omega) nka; rw [q7] at k8; rw [q6] at k9; rw [fza] at k10))
    all_goals
      obtain ⟨hH, hBl', hot⟩ := AyI.stored (y := ⟨(z : Int), ⟨#[120]⟩, [], em⟩) HAy.out (by omega) BA.out hos hown8 hgr8 rfl (fun V _ _ => ⟨_, rfl, ⟨none, 0, rfl, fun _ => rfl, fun h => absurd h (by simp)⟩⟩)
      have hBl := hBl' _ _ B6.out (by omega)
      have hY : (w8.setCell ⟨ka, j, none⟩ (.slice (some ⟨g8, 0, none⟩) (G[i].alts[j].length + 1) cap8)).cell? ⟨w4.heap.size, 0, none⟩ = some (.slice (some ⟨go, 0, none⟩) G.length cap) := by
        rw [← q4]
        exact World.cell?_of_block (hot w4.heap.size (by omega) (by omega) nbg)
      clear hBl' hot hown8 hgr8 hat8 hlt8 k8 k9 k10
      generalize (w8.setCell ⟨ka, j, none⟩ (.slice (some ⟨g8, 0, none⟩) (G[i].alts[j].length + 1) cap8)) = WT at *
      have W5 := went_after H3.out hBl
      have H5 := Held.away hH (A' := fun k => k < w3.heap.size) (fun k _ hk => by omega)
      obtain ⟨z1, z2, hld, hwn, hz⟩ := box_end (.slice (some ⟨go, 0, none⟩) G.length cap) HW.out W5 hs3 H5
      have HL : Hid _ := hld
      have HN : Hid _ := hwn
      have HZ : Hid _ := hz
      have z3 : (WT).cell? ⟨w4.heap.size, 0, none⟩ = some (.slice (some ⟨go, 0, none⟩) G.length cap) := hY
      clear hld hwn hz W5 H5
      go_wp2
      have zz := HZ.out
      refine bodyPost_ret (by simp [results, Try.results11, go_sem, zz]; try rfl) rfl ?_
      exact ⟨G, HPG.out, _, .kind i j hi hj z HZ6.out, _, rfl, HL.out, HN.out⟩
  · subst t
    have tz : ((xn : Int).tmod (3 : Int)) = ((xn % 3 : Nat) : Int) := tmod_nat xn 3
    have wz : IntKind.i64.wrap ((xn % 3 : Nat) : Int) = ((xn % 3 : Nat) : Int) := wrap_nat (by omega)
    have hz : xn % 3 < 3 := Nat.mod_lt _ (by omega)
    generalize xn % 3 = z at *
    have hz2 : (z : Int) < 3 := by omega
    obtain ⟨s, hs, hsz⟩ : ∃ s : ByteArray, (∀ W : World, (W.alloc (.cells #[.string ⟨#[97]⟩, .string ⟨#[122, 122]⟩, .string ⟨#[66]⟩] 9)).cell? ⟨W.heap.size, z, none⟩ = some (.string s)) ∧ s.size ≤ 7 := by
      obtain ⟨s, h1, h2⟩ := texts_rowN W6 #[.string ⟨#[97]⟩, .string ⟨#[122, 122]⟩, .string ⟨#[66]⟩] 9 7 3 rfl (by decide +kernel) z hz
      refine ⟨s, fun W => ?_, h2⟩
      rw [cell_of_row _ _ z _ _ _ (heap_alloc_new W6 _)] at h1
      rw [cell_of_row _ _ z _ _ _ (heap_alloc_new W _)]
      exact h1
    have HS7 : Hid (s.size ≤ 7) := hsz
    have hl : ([.string ⟨#[97]⟩, .string ⟨#[122, 122]⟩, .string ⟨#[66]⟩] : List Value)[z]'hz = .string s := by
      have := hs W6
      rw [cell_of_row _ _ z _ _ _ (heap_alloc_new W6 _), Array.getElem?_eq_getElem (by simpa using hz)] at this
      exact Option.some.inj this
    clear hsz hs
    obtain ⟨s0, ht, ht0, ht1, ht2⟩ := info_parts Try.infoStr
    have hos := HAy.out.pvo
    obtain ⟨cug, hcug⟩ := HAy.out.tg
    have nka : (Value.slice ps G[i].params.length cps).ownBlock ≠ some go := own_far hos hcug (by decide)
    have nbg : (Value.slice ps G[i].params.length cps).ownBlock ≠ some w4.heap.size := own_far hos Y0.out (by decide)
    have nbr : (Value.slice ps G[i].params.length cps).ownBlock ≠ some (w4.heap.size + 1) := own_far hos Y1.out (by decide)
    have b71 : Below W6.heap.size W6 (W6.alloc (.cells #[.string ⟨#[97]⟩, .string ⟨#[122, 122]⟩, .string ⟨#[66]⟩] 9)) := (Below.refl _ _).alloc (Nat.le_refl _) _
    have q8 := cell_keep q4 b71
    have q9 := cell_keep q5 b71
    have BA : Hid (Below W6.heap.size W6 ((W6.alloc (.cells #[.string ⟨#[97]⟩, .string ⟨#[122, 122]⟩, .string ⟨#[66]⟩] 9)).alloc (.cells #[.string s] 9)).drew) := bel_drewS (b71.alloc b71.size _)
    have q10 := cell_keep q4 (show Below W6.heap.size W6 ((W6.alloc (.cells #[.string ⟨#[97]⟩, .string ⟨#[122, 122]⟩, .string ⟨#[66]⟩] 9)).alloc (.cells #[.string s] 9)) from b71.alloc b71.size _)
    have q11 := cell_keep q5 (show Below W6.heap.size W6 ((W6.alloc (.cells #[.string ⟨#[97]⟩, .string ⟨#[122, 122]⟩, .string ⟨#[66]⟩] 9)).alloc (.cells #[.string s] 9)) from b71.alloc b71.size _)
    have HO7 : Hid (((W6.alloc (.cells #[.string ⟨#[97]⟩, .string ⟨#[122, 122]⟩, .string ⟨#[66]⟩] 9)).alloc (.cells #[.string s] 9)).drew.ownsRow (w3.heap.size + 3) 9 1 (Value.slice ps G[i].params.length cps) G[i].params.length (sb G[i].params)) := own_below hos BA.out
    have HN7 : Hid (((W6.alloc (.cells #[.string ⟨#[97]⟩, .string ⟨#[122, 122]⟩, .string ⟨#[66]⟩] 9)).alloc (.cells #[.string s] 9)).drew.heap[W6.heap.size + 1]? = some (.cells #[.string s] 9 (0, 0))) := by
      have := heap_alloc_new (W6.alloc (.cells #[.string ⟨#[97]⟩, .string ⟨#[122, 122]⟩, .string ⟨#[66]⟩] 9)) (.cells #[.string s] 9)
      rw [show (W6.alloc (.cells #[.string ⟨#[97]⟩, .string ⟨#[122, 122]⟩, .string ⟨#[66]⟩] 9)).heap.size = W6.heap.size + 1 by simp] at this
      exact this
    have HN8 : Hid (∀ u ∈ ([.string s] : List Value), u.oneCell' = true) := fun u hu => by rw [List.mem_singleton.1 hu]; rfl
    have HB7 : Hid (w3.heap.size + 3 ≤ ((W6.alloc (.cells #[.string ⟨#[97]⟩, .string ⟨#[122, 122]⟩, .string ⟨#[66]⟩] 9)).alloc (.cells #[.string s] 9)).drew.heap.size) := Nat.le_trans (show w3.heap.size + 3 ≤ W6.heap.size by omega) BA.out.size
    have HF8 : Hid (∀ w8 : World, ((W6.alloc (.cells #[.string ⟨#[97]⟩, .string ⟨#[122, 122]⟩, .string ⟨#[66]⟩] 9)).alloc (.cells #[.string s] 9)).drew.grownBy w8 (Value.slice ps G[i].params.length cps).ownBlock → ∀ a : Addr, a.block < W6.heap.size → (Value.slice ps G[i].params.length cps).ownBlock ≠ some a.block → w8.cell? a = W6.cell? a) := fun w8 hg a ha hne => (hg.cell_far a (Nat.lt_of_lt_of_le ha BA.out.size) (fun e => hne e.symm)).trans (World.cell?_of_block (BA.out.block _ ha))
    have HF9 : Hid (∀ w8 : World, ((W6.alloc (.cells #[.string ⟨#[97]⟩, .string ⟨#[122, 122]⟩, .string ⟨#[66]⟩] 9)).alloc (.cells #[.string s] 9)).drew.grownBy w8 (Value.slice ps G[i].params.length cps).ownBlock → ∀ a : Addr, a.block < W6.heap.size → (Value.slice ps G[i].params.length cps).ownBlock ≠ some a.block → w8.frozen? a = W6.frozen? a) := fun w8 hg a ha hne => (hg.frozen_far a (Nat.lt_of_lt_of_le ha BA.out.size) (fun e => hne e.symm)).trans (World.frozen?_of_block (BA.out.block _ ha))
    have hne1 : ¬ go = w4.heap.size := by omega
    have hne2 : ¬ go = w4.heap.size + 1 := by omega
    clear b71 hX hGl ei ham0 ham1 ej hsl1 q6 q7 c6 e6 fza i2 hg3 x0 x1 hB3 hG0 hcug
    go_wp2
    refine wp_region_held_drew (S := fun W => W.cell? ⟨w4.heap.size, 0, none⟩ = some (.slice (some ⟨go, 0, none⟩) G.length cap) ∧ W.cell? ⟨w4.heap.size + 1, 1, none⟩ = some (Value.slice ps G[i].params.length cps)) (by kernel_rfl) ?_ (fun hHeld => ?_)
    · (try dsimp only)
      go_keep
    refine wpAnyH_take (i := 0) (v := ?_) rfl (by kernel_rfl) (by kernel_rfl) (by kernel_rfl) (fun _ _ _ h => h) (Or.inl ⟨by rfl, ?_⟩) hHeld ?_
    rotate_left
    · intro w hSw
      (try dsimp only at hSw)
      go_simp
      (try with_reducible rfl)
    refine wpAnyH_take (i := 1) (v := ?_) rfl (by kernel_rfl) (by kernel_rfl) (by kernel_rfl) (fun _ _ _ h => h) (Or.inl ⟨by rfl, ?_⟩) hHeld ?_
    rotate_left
    · intro w hSw
      (try dsimp only at hSw)
      go_simp
      (try with_reducible rfl)
    refine wpAnyH_take (i := 2) (v := ?_) rfl (by kernel_rfl) (by kernel_rfl) (by kernel_rfl) (fun _ _ _ h => h) (Or.inl ⟨by rfl, ?_⟩) hHeld ?_
    rotate_left
    · intro w hSw
      (try dsimp only at hSw)
      go_simp
      (try with_reducible rfl)
    refine wpAnyH_take (i := 3) (v := ?_) rfl (by kernel_rfl) (by kernel_rfl) (by kernel_rfl) (fun _ _ _ h => h) (Or.inl ⟨by rfl, ?_⟩) hHeld ?_
    rotate_left
    · intro w hSw
      (try dsimp only at hSw)
      go_simp
      (try with_reducible rfl)
    refine wpAnyH_take (i := 4) (v := ?_) rfl (by kernel_rfl) (by kernel_rfl) (by kernel_rfl) (fun _ _ _ h => h) (Or.inl ⟨by rfl, ?_⟩) hHeld ?_
    rotate_left
    · intro w hSw
      (try dsimp only at hSw)
      go_simp
      (try with_reducible rfl)
    refine wpAnyH_take (i := 6) (v := ?_) rfl (by kernel_rfl) (by kernel_rfl) (by kernel_rfl) (fun _ _ _ h => h) (Or.inl ⟨by rfl, ?_⟩) hHeld ?_
    rotate_left
    · intro w hSw
      (try dsimp only at hSw)
      go_simp
      (try with_reducible rfl)
    refine wpAnyH_take (i := 7) (v := ?_) rfl (by kernel_rfl) (by kernel_rfl) (by kernel_rfl) (fun _ _ _ h => h) (Or.inl ⟨by rfl, ?_⟩) hHeld ?_
    rotate_left
    · intro w hSw
      (try dsimp only at hSw)
      go_simp
      (try with_reducible rfl)
    refine wpAnyH_ready (rs := [5]) (by kernel_rfl) (by simp) ?_
    refine AllReadyH.cons rfl (fun K hK => ?_) AllReadyH.nil
    go_simp
    refine hK.out _ _ ?_ (fun hHeld => ?_)
    · (try dsimp only)
      go_keep
    clear hK K
    refine wpAnyH_take (i := 8) (v := ?_) rfl (by kernel_rfl) (by kernel_rfl) (by kernel_rfl) (fun _ _ _ h => h) (Or.inl ⟨by rfl, ?_⟩) hHeld ?_
    rotate_left
    · intro w hSw
      (try dsimp only at hSw)
      go_simp
      (try with_reducible rfl)
    refine wpAnyH_ready (rs := [9]) (by kernel_rfl) (by simp) ?_
    refine AllReadyH.cons rfl (fun K hK => ?_) AllReadyH.nil
    go_simp
    refine hK.out _ _ ?_ (fun hHeld => ?_)
    · (try dsimp only)
      go_keep
    clear hK K
    refine wpAnyH_ready (rs := [10]) (by kernel_rfl) (by simp) ?_
    refine AllReadyH.cons rfl (fun K hK => ?_) AllReadyH.nil
    go_simp
    refine hK.out _ _ ?_ (fun hHeld => ?_)
    · (try dsimp only)
      go_keep
    clear hK K
    refine wpAnyH_ready (rs := [11]) (by kernel_rfl) (by simp) ?_
    refine AllReadyH.cons rfl (fun K hK => ?_) AllReadyH.nil
    (show ite (Region.wanted (Oper.mk (some 64) _ _ _ _ _) _ = true) _ _; refine step_append_lies _ (by rfl) _ _ _ (by rfl) (w3.heap.size + 3) 9 s0 _ 1 16 Try.underlying37 ht ht0 ht1 ht2 rfl (by decide) _ _ _ (by rfl) HO7.out ⟨W6.heap.size + 1, 0, none⟩ 1 1 [.string s] (by simp [Act.eval]) (by rfl) (World.news_of_block (cs := #[.string s]) (t := 9) (fr := (0, 0)) HN7.out) HN8.out (by omega) (by unfold maxLen; omega) (by omega) HB7.out _ rfl ?_; intro g8 cap8 w8 hown8 hgr8 hat8 hlt8; have k8 := HF8.out w8 hgr8 ⟨go, i * 3 + 1, none⟩ (show go < W6.heap.size by omega) nka; have k9 := HF8.out w8 hgr8 ⟨w4.heap.size, 0, none⟩ (show w4.heap.size < W6.heap.size by omega) nbg; have k10 := HF9.out w8 hgr8 ⟨go, i * 3 + 1, none⟩ (show go < W6.heap.size by omega) nka; rw [d6] at k8; rw [q4] at k9; rw [fz] at k10; have k11 := HF8.out w8 hgr8 ⟨w4.heap.size + 1, 1, none⟩ (show w4.heap.size + 1 < W6.heap.size by omega) nbr; rw [q5] at k11)
    refine hK.out _ _ ?_ (fun hHeld => ?_)
    · (try dsimp only)
      exact ⟨k9, k11⟩
    clear hK K
    refine wpAnyH_take (i := 12) (v := ?_) rfl (by kernel_rfl) (by kernel_rfl) (by kernel_rfl) (fun _ _ _ h => h) (Or.inl ⟨by rfl, ?_⟩) hHeld ?_
    rotate_left
    · intro w hSw
      (try dsimp only at hSw)
      go_simp
      (try with_reducible rfl)
    refine wpAnyH_take (i := 13) (v := ?_) rfl (by kernel_rfl) (by kernel_rfl) (by kernel_rfl) (fun _ _ _ h => h) (Or.inl ⟨by rfl, ?_⟩) hHeld ?_
    rotate_left
    · intro w hSw
      (try dsimp only at hSw)
      go_simp
      (try with_reducible rfl)
    refine wpAnyH_ready (rs := [14]) (by kernel_rfl) (by simp) ?_
    refine AllReadyH.cons rfl (fun K hK => ?_) AllReadyH.nil
    go_simp
    refine hK.out _ _ ?_ (fun hHeld => ?_)
    · (try dsimp only)
      go_keep
    clear hK K
    refine wpAnyH_done (by kernel_rfl) ?_ _
    all_goals
      obtain ⟨hH, hBl', hot⟩ := AyI.paramed (ps' := G[i].params ++ [s]) (pv' := .slice (some ⟨g8, 0, none⟩) (G[i].params.length + 1) cap8) HAy.out (by omega) BA.out (by have := hown8; rw [OwnB, List.length_append, show sb (G[i].params ++ [s]) = sb G[i].params ++ [.string s] from by simp [sb]]; exact this) hgr8
      have hBl := hBl' _ _ B6.out (by omega)
      have hY : (w8.setCell ⟨go, i * 3 + 1, none⟩ (.slice (some ⟨g8, 0, none⟩) (G[i].params.length + 1) cap8)).cell? ⟨w4.heap.size, 0, none⟩ = some (.slice (some ⟨go, 0, none⟩) G.length cap) := by
        rw [← q4]
        exact World.cell?_of_block (hot w4.heap.size (by omega) (by omega) nbg)
      clear hBl' hot hown8 hgr8 hat8 hlt8 k8 k9 k10 k11
      generalize (w8.setCell ⟨go, i * 3 + 1, none⟩ (.slice (some ⟨g8, 0, none⟩) (G[i].params.length + 1) cap8)) = WT at *
      have W5 := went_after H3.out hBl
      have H5 := Held.away hH (A' := fun k => k < w3.heap.size) (fun k _ hk => by omega)
      obtain ⟨z1, z2, hld, hwn, hz⟩ := box_end (.slice (some ⟨go, 0, none⟩) G.length cap) HW.out W5 hs3 H5
      have HL : Hid _ := hld
      have HN : Hid _ := hwn
      have HZ : Hid _ := hz
      have z3 : (WT).cell? ⟨w4.heap.size, 0, none⟩ = some (.slice (some ⟨go, 0, none⟩) G.length cap) := hY
      clear hld hwn hz W5 H5
      go_wp2
      have zz := HZ.out
      refine bodyPost_ret (by simp [results, Try.results11, go_sem, zz]; try rfl) rfl ?_
      exact ⟨G, HPG.out, _, .params i hi s HS7.out, _, rfl, HL.out, HN.out⟩
  · subst t
    obtain ⟨s0, hs, hs0, hs1, hs2⟩ := info_parts Try.infoSymP
    obtain ⟨cs, hos⟩ := HAy.out.svo
    obtain ⟨cua, hcua⟩ := HAy.out.ta
    have nka : (Value.slice sa G[i].alts[j].length sc).ownBlock ≠ some ka := own_far hos hcua (by decide)
    have nbg : (Value.slice sa G[i].alts[j].length sc).ownBlock ≠ some w4.heap.size := own_far hos Y0.out (by decide)
    have nbr : (Value.slice sa G[i].alts[j].length sc).ownBlock ≠ some (w4.heap.size + 1) := own_far hos Y1.out (by decide)
    have tz : ((xn : Int).tmod (3 : Int)) = ((xn % 3 : Nat) : Int) := tmod_nat xn 3
    have wz : IntKind.i64.wrap ((xn % 3 : Nat) : Int) = ((xn % 3 : Nat) : Int) := wrap_nat (by omega)
    have hz : xn % 3 < 3 := Nat.mod_lt _ (by omega)
    generalize xn % 3 = z at *
    have hz2 : (z : Int) < 3 := by omega
    obtain ⟨s, hs, hsz⟩ : ∃ s : ByteArray, (∀ W : World, (W.alloc (.cells #[.string ⟨#[97]⟩, .string ⟨#[110]⟩, .string ⟨#[113]⟩] 9)).cell? ⟨W.heap.size, z, none⟩ = some (.string s)) ∧ s.size ≤ 7 := by
      obtain ⟨s, h1, h2⟩ := texts_rowN W6 #[.string ⟨#[97]⟩, .string ⟨#[110]⟩, .string ⟨#[113]⟩] 9 7 3 rfl (by decide +kernel) z hz
      refine ⟨s, fun W => ?_, h2⟩
      rw [cell_of_row _ _ z _ _ _ (heap_alloc_new W6 _)] at h1
      rw [cell_of_row _ _ z _ _ _ (heap_alloc_new W _)]
      exact h1
    have HS7 : Hid (s.size ≤ 7) := hsz
    have hl : ([.string ⟨#[97]⟩, .string ⟨#[110]⟩, .string ⟨#[113]⟩] : List Value)[z]'hz = .string s := by
      have := hs W6
      rw [cell_of_row _ _ z _ _ _ (heap_alloc_new W6 _), Array.getElem?_eq_getElem (by simpa using hz)] at this
      exact Option.some.inj this
    clear hsz hs
    have BA0 : Hid (Below W6.heap.size W6 (W6.alloc (.cells #[.string ⟨#[97]⟩, .string ⟨#[110]⟩, .string ⟨#[113]⟩] 9)).drew) := bel_drewS ((Below.refl _ _).alloc (Nat.le_refl _) _)
    have q8 := cell_keep q6 (show Below W6.heap.size W6 (W6.alloc (.cells #[.string ⟨#[97]⟩, .string ⟨#[110]⟩, .string ⟨#[113]⟩] 9)) from (Below.refl _ _).alloc (Nat.le_refl _) _)
    have HV : Hid (∀ (s : ByteArray) (w : World), _) := var_any
    have hne1 : ¬ ka = w4.heap.size + 1 := by omega
    go_wp2
    refine wp_region_held_drew (S := fun W => W.cell? ⟨w4.heap.size + 1, 2, none⟩ = some (.slice (some ⟨ka, 0, none⟩) G[i].alts.length capa)) (by kernel_rfl) ?_ (fun hHeld => ?_)
    · (try dsimp only)
      go_keep
    refine wpAnyH_take (i := 0) (v := ?_) rfl (by kernel_rfl) (by kernel_rfl) (by kernel_rfl) (fun _ _ _ h => h) (Or.inl ⟨by rfl, ?_⟩) hHeld ?_
    rotate_left
    · intro w hSw
      (try dsimp only at hSw)
      go_simp
      (try with_reducible rfl)
    refine wpAnyH_take (i := 1) (v := ?_) rfl (by kernel_rfl) (by kernel_rfl) (by kernel_rfl) (fun _ _ _ h => h) (Or.inl ⟨by rfl, ?_⟩) hHeld ?_
    rotate_left
    · intro w hSw
      (try dsimp only at hSw)
      go_simp
      (try with_reducible rfl)
    refine wpAnyH_take (i := 2) (v := ?_) rfl (by kernel_rfl) (by kernel_rfl) (by kernel_rfl) (fun _ _ _ h => h) (Or.inl ⟨by rfl, ?_⟩) hHeld ?_
    rotate_left
    · intro w hSw
      (try dsimp only at hSw)
      go_simp
      (try with_reducible rfl)
    refine wpAnyH_take (i := 3) (v := ?_) rfl (by kernel_rfl) (by kernel_rfl) (by kernel_rfl) (fun _ _ _ h => h) (Or.inl ⟨by rfl, ?_⟩) hHeld ?_
    rotate_left
    · intro w hSw
      (try dsimp only at hSw)
      go_simp
      (try with_reducible rfl)
    refine wpAnyH_take (i := 5) (v := ?_) rfl (by kernel_rfl) (by kernel_rfl) (by kernel_rfl) (fun _ _ _ h => h) (Or.inl ⟨by rfl, ?_⟩) hHeld ?_
    rotate_left
    · intro w hSw
      (try dsimp only at hSw)
      go_simp
      (try with_reducible rfl)
    refine wpAnyH_take (i := 6) (v := ?_) rfl (by kernel_rfl) (by kernel_rfl) (by kernel_rfl) (fun _ _ _ h => h) (Or.inl ⟨by rfl, ?_⟩) hHeld ?_
    rotate_left
    · intro w hSw
      (try dsimp only at hSw)
      go_simp
      (try with_reducible rfl)
    refine wpAnyH_ready (rs := [4]) (by kernel_rfl) (by simp) ?_
    refine AllReadyH.cons rfl (fun K hK => ?_) AllReadyH.nil
    go_simp
    refine hK.out _ _ ?_ (fun hHeld => ?_)
    · (try dsimp only)
      go_keep
    clear hK K
    refine wpAnyH_take (i := 7) (v := ?_) rfl (by kernel_rfl) (by kernel_rfl) (by kernel_rfl) (fun _ _ _ h => h) (Or.inl ⟨by rfl, ?_⟩) hHeld ?_
    rotate_left
    · intro w hSw
      (try dsimp only at hSw)
      go_simp
      (try with_reducible rfl)
    refine wpAnyH_ready (rs := [8]) (by kernel_rfl) (by simp) ?_
    refine AllReadyH.cons rfl (fun K hK => ?_) AllReadyH.nil
    go_simp
    refine hK.out _ _ ?_ (fun hHeld => ?_)
    · (try dsimp only)
      go_keep
    clear hK K
    refine wpAnyH_ready (rs := [9]) (by kernel_rfl) (by simp) ?_
    refine AllReadyH.cons rfl (fun K hK => ?_) AllReadyH.nil
    (go_simp; go_at_call 24; refine (HV.out s _).mono ?_; rintro e w7 ⟨nv, rfl, hfr, hb7⟩; obtain ⟨na, nc, hnv⟩ : ∃ na nc, nv = .slice na 1 nc := hfr.here.slice; subst hnv; have HFR : Hid (Fresh _ w7 (fun V => NRow V (.slice na 1 nc) (varE s))) := hfr; have B7 : Below W6.heap.size W6 w7 := BA0.out.trans (hb7.mono BA0.out.size); have BM : Below W6.heap.size W6 (w7.alloc (.cells #[.slice na 1 nc] 55)) := B7.alloc B7.size _; have BN : Below W6.heap.size W6 ((w7.alloc (.cells #[.slice na 1 nc] 55)).alloc (.cells #[.int .i64 4, .string ⟨#[]⟩, .slice (some ⟨w7.heap.size, 0, none⟩) 1 1, .string ⟨#[]⟩] 51)) := BM.alloc BM.size _; have BA : Hid (Below W6.heap.size W6 ((w7.alloc (.cells #[.slice na 1 nc] 55)).alloc (.cells #[.int .i64 4, .string ⟨#[]⟩, .slice (some ⟨w7.heap.size, 0, none⟩) 1 1, .string ⟨#[]⟩] 51))) := BN; have q12 := cell_keep q6 B7; have q13 := cell_keep q6 BM; have q14 := cell_keep q6 BN; have HN7 : Hid (((w7.alloc (.cells #[.slice na 1 nc] 55)).alloc (.cells #[.int .i64 4, .string ⟨#[]⟩, .slice (some ⟨w7.heap.size, 0, none⟩) 1 1, .string ⟨#[]⟩] 51)).heap[w7.heap.size + 1]? = some (.cells #[.int .i64 4, .string ⟨#[]⟩, .slice (some ⟨w7.heap.size, 0, none⟩) 1 1, .string ⟨#[]⟩] 51 (0, 0))) := (by have := heap_alloc_new (w7.alloc (.cells #[.slice na 1 nc] 55)) (.cells #[.int .i64 4, .string ⟨#[]⟩, .slice (some ⟨w7.heap.size, 0, none⟩) 1 1, .string ⟨#[]⟩] 51); rw [show (w7.alloc (.cells #[.slice na 1 nc] 55)).heap.size = w7.heap.size + 1 by simp] at this; exact this); have HN9 : Hid (((w7.alloc (.cells #[.slice na 1 nc] 55)).alloc (.cells #[.int .i64 4, .string ⟨#[]⟩, .slice (some ⟨w7.heap.size, 0, none⟩) 1 1, .string ⟨#[]⟩] 51)).heap[w7.heap.size]? = some (.cells #[.slice na 1 nc] 55 (0, 0))) := (Below.heap_alloc _ _ _ (by simp)).trans (heap_alloc_new w7 _); have HB7 : Hid (w3.heap.size + 3 ≤ ((w7.alloc (.cells #[.slice na 1 nc] 55)).alloc (.cells #[.int .i64 4, .string ⟨#[]⟩, .slice (some ⟨w7.heap.size, 0, none⟩) 1 1, .string ⟨#[]⟩] 51)).heap.size) := Nat.le_trans (show w3.heap.size + 3 ≤ W6.heap.size by omega) BN.size; have HS9 : Hid (W6.heap.size ≤ (W6.alloc (.cells #[.string ⟨#[97]⟩, .string ⟨#[110]⟩, .string ⟨#[113]⟩] 9)).drew.heap.size) := BA0.out.size; clear hfr B7 BM BN)
    (try go_wp2_with fail)
    refine hK.out _ _ ?_ (fun hHeld => ?_)
    · (try dsimp only)
      exact q12
    clear hK K
    refine wpAnyH_ready (rs := [10]) (by kernel_rfl) (by simp) ?_
    refine AllReadyH.cons rfl (fun K hK => ?_) AllReadyH.nil
    go_simp
    refine hK.out _ _ ?_ (fun hHeld => ?_)
    · (try dsimp only)
      exact q13
    clear hK K
    refine wpAnyH_take (i := 11) (v := ?_) rfl (by kernel_rfl) (by kernel_rfl) (by kernel_rfl) (fun _ _ _ h => h) (Or.inl ⟨by rfl, ?_⟩) hHeld ?_
    rotate_left
    · intro w hSw
      (try dsimp only at hSw)
      go_simp
      (try with_reducible rfl)
    refine wpAnyH_ready (rs := [12]) (by kernel_rfl) (by simp) ?_
    refine AllReadyH.cons rfl (fun K hK => ?_) AllReadyH.nil
    go_simp
    refine hK.out _ _ ?_ (fun hHeld => ?_)
    · (try dsimp only)
      exact q14
    clear hK K
    refine wpAnyH_ready (rs := [13]) (by kernel_rfl) (by simp) ?_
    refine AllReadyH.cons rfl (fun K hK => ?_) AllReadyH.nil
    (show ite (Region.wanted (Oper.mk (some 105) _ _ _ _ _) _ = true) _ _; have HO7 := own_below hos BA.out; refine step_append_lies _ (by rfl) _ _ _ (by rfl) (w3.heap.size + 3) 51 s0 _ 4 64 Try.underlying46 hs hs0 hs1 hs2 rfl (by decide) _ _ _ (by rfl) HO7 ⟨w7.heap.size + 1, 0, none⟩ 1 1 [.int .i64 4, .string ⟨#[]⟩, .slice (some ⟨w7.heap.size, 0, none⟩) 1 1, .string ⟨#[]⟩] (by simp [Act.eval]) (by rfl) (World.news_of_block (cs := #[.int .i64 4, .string ⟨#[]⟩, .slice (some ⟨w7.heap.size, 0, none⟩) 1 1, .string ⟨#[]⟩]) (t := 51) (fr := (0, 0)) HN7.out) (four_symP _ _ _ _ _ _) (by omega) (by unfold maxLen; omega) (by omega) HB7.out _ rfl ?_; intro g8 cap8 w8 hown8 hgr8 hat8 hlt8; have k8 : w8.cell? ⟨ka, j, none⟩ = some (Value.slice sa G[i].alts[j].length sc) := (hgr8.cell_far ⟨ka, j, none⟩ (Nat.lt_of_lt_of_le (show ka < W6.heap.size by omega) BA.out.size) (fun e => nka e.symm)).trans (cell_keep q7 BA.out); have k9 : w8.cell? ⟨w4.heap.size + 1, 2, none⟩ = some (.slice (some ⟨ka, 0, none⟩) G[i].alts.length capa) := (hgr8.cell_far ⟨w4.heap.size + 1, 2, none⟩ (Nat.lt_of_lt_of_le (show w4.heap.size + 1 < W6.heap.size by omega) BA.out.size) (fun e => nbr e.symm)).trans (cell_keep q6 BA.out); have k10 : w8.frozen? ⟨ka, j, none⟩ = false := (hgr8.frozen_far ⟨ka, j, none⟩ (Nat.lt_of_lt_of_le (show ka < W6.heap.size by omega) BA.out.size) (fun e => nka e.symm)).trans ((World.frozen?_of_block (BA.out.block ka (by omega))).trans (fza j)))
    refine hK.out _ _ ?_ (fun hHeld => ?_)
    · (try dsimp only)
      exact k9
    clear hK K
    refine wpAnyH_take (i := 14) (v := ?_) rfl (by kernel_rfl) (by kernel_rfl) (by kernel_rfl) (fun _ _ _ h => h) (Or.inl ⟨by rfl, ?_⟩) hHeld ?_
    rotate_left
    · intro w hSw
      (try dsimp only at hSw)
      go_simp
      (try with_reducible rfl)
    refine wpAnyH_take (i := 15) (v := ?_) rfl (by kernel_rfl) (by kernel_rfl) (by kernel_rfl) (fun _ _ _ h => h) (Or.inl ⟨by rfl, ?_⟩) hHeld ?_
    rotate_left
    · intro w hSw
      (try dsimp only at hSw)
      go_simp
      (try with_reducible rfl)
    refine wpAnyH_ready (rs := [16]) (by kernel_rfl) (by simp) ?_
    refine AllReadyH.cons rfl (fun K hK => ?_) AllReadyH.nil
    go_simp
    refine hK.out _ _ ?_ (fun hHeld => ?_)
    · (try dsimp only)
      go_keep
    clear hK K
    refine wpAnyH_done (by kernel_rfl) ?_ _
    all_goals
      have HF : Hid (Fresh W6.heap.size ((w7.alloc (.cells #[.slice na 1 nc] 55)).alloc (.cells #[.int .i64 4, .string ⟨#[]⟩, .slice (some ⟨w7.heap.size, 0, none⟩) 1 1, .string ⟨#[]⟩] 51)) (fun V => SymE V [.int .i64 4, .string ⟨#[]⟩, .slice (some ⟨w7.heap.size, 0, none⟩) 1 1, .string ⟨#[]⟩] ⟨4, em, [varE s], em⟩)) := fun V h1 h2 => by
        have hl : ((w7.alloc (.cells #[.slice na 1 nc] 55)).alloc (.cells #[.int .i64 4, .string ⟨#[]⟩, .slice (some ⟨w7.heap.size, 0, none⟩) 1 1, .string ⟨#[]⟩] 51)).heap.size = w7.heap.size + 2 := by simp
        have h7 : w7.heap.size < V.heap.size := by omega
        have hb : V.heap[w7.heap.size]? = some (.cells #[.slice na 1 nc] 55 (0, 0)) := (h2 w7.heap.size (by have := BA0.out.size; have := hb7.size; omega) (by omega)).trans HN9.out
        refine ⟨_, rfl, ⟨some ⟨w7.heap.size, 0, none⟩, 1, rfl, fun h => (by cases h), fun _ => ⟨w7.heap.size, 0, rfl, h7, fun l hlt => ?_⟩⟩⟩
        obtain rfl : l = 0 := by simp at hlt; exact hlt
        refine ⟨[.slice na 1 nc], rfl, fun p hp => ?_, ⟨_, rfl, HFR.out V (by omega) (fun k k1 k2 => ?_)⟩⟩
        · obtain rfl : p = 0 := by simp at hp; exact hp
          exact run_cell (j := 0) hb rfl
        · rw [h2 k (Nat.le_trans HS9.out k1) (by omega), Below.heap_alloc _ _ _ (by simp; omega), Below.heap_alloc _ _ _ k2]
      obtain ⟨hH, hBl', hot⟩ := AyI.stored (y := ⟨4, em, [varE s], em⟩) HAy.out (by omega) BA.out hos hown8 hgr8 rfl (HF.out)
      have hBl := hBl' _ _ B6.out (by omega)
      have hY : (w8.setCell ⟨ka, j, none⟩ (.slice (some ⟨g8, 0, none⟩) (G[i].alts[j].length + 1) cap8)).cell? ⟨w4.heap.size, 0, none⟩ = some (.slice (some ⟨go, 0, none⟩) G.length cap) := by
        rw [← q4]
        exact World.cell?_of_block (hot w4.heap.size (by omega) (by omega) nbg)
      clear hb7 q12 q13 q14 HF hBl' hot hown8 hgr8 hat8 hlt8 k8 k9 k10
      generalize (w8.setCell ⟨ka, j, none⟩ (.slice (some ⟨g8, 0, none⟩) (G[i].alts[j].length + 1) cap8)) = WT at *
      have W5 := went_after H3.out hBl
      have H5 := Held.away hH (A' := fun k => k < w3.heap.size) (fun k _ hk => by omega)
      obtain ⟨z1, z2, hld, hwn, hz⟩ := box_end (.slice (some ⟨go, 0, none⟩) G.length cap) HW.out W5 hs3 H5
      have HL : Hid _ := hld
      have HN : Hid _ := hwn
      have HZ : Hid _ := hz
      have z3 : (WT).cell? ⟨w4.heap.size, 0, none⟩ = some (.slice (some ⟨go, 0, none⟩) G.length cap) := hY
      clear hld hwn hz W5 H5
      go_wp2
      have zz := HZ.out
      refine bodyPost_ret (by simp [results, Try.results11, go_sem, zz]; try rfl) rfl ?_
      exact ⟨G, HPG.out, _, .cond i j hi hj s HS7.out, _, rfl, HL.out, HN.out⟩

end Go.Proofs.Ytipkbkhnaekceaa
