/- The verifier's l04Expr and DrawExpr: drawn right expressions. -/
import Derived.Test.YtbpfapjchmignaaDoorXMade2
namespace Go.Proofs.YtbpfapjchmignaaDoor
open Go.RowKit

def names3 : List ByteArray := [⟨#[97]⟩, ⟨#[98]⟩, ⟨#[110]⟩]
theorem names3_ok : ∀ s ∈ names3, nameB s = true := by
  intro s hs
  simp only [names3, List.mem_cons, List.not_mem_nil, or_false] at hs
  rcases hs with rfl | rfl | rfl <;> decide
theorem OwnN.mono {B B' : Nat} {v : Value} {ns : List NodeD} {w : World} (h : OwnN B v ns w) (hB : B' ≤ B) : OwnN B' v ns w := by
  obtain ⟨qs, e, hr, hk⟩ := h
  exact ⟨qs, e, World.ownsRow.mono hr hB, fun q hq => World.ownsRow.mono (hk q hq) hB⟩

set_option maxHeartbeats 1600000 in
set_option maxRecDepth 100000 in
theorem expr_any (W : World) (v : Value) (n g nb cn d : Nat) (ss : List ByteArray) (w : World) (hn : n ≤ 1000000000000) (hcode : CodeRow W v n) (hss : ∀ s ∈ ss, nameB s = true) (hsl : ss.length ≤ 100) (hsl0 : 0 < ss.length) (hnb : nb ≠ g) (hd : d ≤ 5) (hc : Cur W v n g w) (hnm : NamesAt nb ss w) :
    Calls Tryd.prog 17 #[.pointer (some ⟨g, 0, none⟩), .slice (some ⟨nb, 0, none⟩) ss.length cn, .int .i64 (d : Int)] w fun e w' =>
      ∃ o ns, e = .returned (.agg #[o]) ∧ OwnN w.heap.size o ns w' ∧ GoodN ss ns ∧ 1 ≤ ns.length ∧ ns.length + 1 ≤ 2 ^ (d + 1) ∧ Went W v n g w w' := by
  obtain ⟨H, hH⟩ : ∃ H, w.heap.size = H := ⟨_, rfl⟩
  have hgw : g < H := by rw [← hH]; exact hc.lt
  have hnw : nb < H := by rw [← hH]; exact World.block_lt_of_cell? w _ (hnm 0 hsl0)
  have HCu : Hid (Cur W v n g w) := hc
  -- what the three new blocks are
  have B0 : Hid (Below w.heap.size w (((w.alloc (.cells #[.slice none 0 0] 26)).alloc (.cells #[] 32)).alloc (.cells #[.slice (some ⟨H + 1, 0, none⟩) 0 0] 24))) := (((Below.refl _ _).alloc (Nat.le_refl _) _).alloc (by simp) _).alloc (by simp; omega) _
  have s1 : (w.alloc (.cells #[.slice none 0 0] 26)).heap.size = H + 1 := by simp [hH]
  have s2 : ((w.alloc (.cells #[.slice none 0 0] 26)).alloc (.cells #[] 32)).heap.size = H + 2 := by simp [hH]
  have s3 : (((w.alloc (.cells #[.slice none 0 0] 26)).alloc (.cells #[] 32)).alloc (.cells #[.slice (some ⟨H + 1, 0, none⟩) 0 0] 24)).heap.size = H + 3 := by simp [hH]
  have hr0 : ((w.alloc (.cells #[.slice none 0 0] 26)).alloc (.cells #[] 32)).ownsRow (H + 1) 32 4 (.slice (some ⟨H + 1, 0, none⟩) 0 0) 0 [] := by
    have := World.ownsRow_made (base := H + 1) (w.alloc (.cells #[.slice none 0 0] 26)) #[] 0 (e := 32) (size := 4) (by rw [s1]; exact Nat.le_refl _) (by decide) rfl
    rw [s1] at this
    exact this
  have hbox : Box (H + 2) (.slice (some ⟨H + 1, 0, none⟩) 0 0) (((w.alloc (.cells #[.slice none 0 0] 26)).alloc (.cells #[] 32)).alloc (.cells #[.slice (some ⟨H + 1, 0, none⟩) 0 0] 24)) := by
    have := heap_alloc_new ((w.alloc (.cells #[.slice none 0 0] 26)).alloc (.cells #[] 32)) (.cells #[.slice (some ⟨H + 1, 0, none⟩) 0 0] 24)
    rw [s2] at this
    exact this
  have hres : (((w.alloc (.cells #[.slice none 0 0] 26)).alloc (.cells #[] 32)).alloc (.cells #[.slice (some ⟨H + 1, 0, none⟩) 0 0] 24)).heap[H]? = some (.cells #[.slice none 0 0] 26 (0, 0)) := by
    rw [Below.heap_alloc _ _ H (by rw [s2]; omega), Below.heap_alloc _ _ H (by rw [s1]; omega), ← hH]
    exact heap_alloc_new w _
  have M0 : Hid (MadeS W v n g (H + 2) (H + 1) nb ss (fun _ => True) (.slice (some ⟨H + 1, 0, none⟩) 0 0) [] (((w.alloc (.cells #[.slice none 0 0] 26)).alloc (.cells #[] 32)).alloc (.cells #[.slice (some ⟨H + 1, 0, none⟩) 0 0] 24))) :=
    ⟨hc.moved (hc.1.trans (B0.out.mono hc.1.size)) (B0.out.block g hc.lt), hbox, ⟨[], rfl, World.ownsRow.alloc hr0 _, (fun q hq => (by cases hq))⟩, (fun k hk => (by cases hk)), (fun i hi => cell_keep (hnm i hi) B0.out), by rw [s3]; omega⟩
  have HMd : Hid (_) := made_any W v n g (H + 2) (H + 1) nb cn ss hn hcode hss hsl hsl0 hnb (by omega) (by omega) (by omega) d hd (fun _ => True) trivial _ [] _ M0.out (by
    have : 2 ^ (d + 1) ≤ 2 ^ 6 := Nat.pow_le_pow_right (by omega) (by omega)
    simp at this ⊢
    omega)
  have HRs : Hid (_) := hres
  clear hc hnm hcode hss hr0 hbox hres
  go_enter Tryd.func17, Tryd.ntmps17
  go_wp2_with fail
  refine Calls.mono HMd.out ?_
  rintro e w4 ⟨o, ns, rfl, hM, hl1, hl2, hN, hK⟩
  have c4 := hM.box.cell
  have r4 : w4.heap[H]? = some (.cells #[.slice none 0 0] 26 (0, 0)) := (hK.block H (by rw [s3]; omega) (by omega) (by omega) (fun e => by have e2 : H + 1 = H := Option.some.inj e; omega)).trans HRs.out
  have q4 : w4.cell? ⟨H, 0, none⟩ = some (.slice none 0 0) := by rw [cell_of_row _ _ 0 _ _ _ r4]; rfl
  have f4 : w4.frozen? ⟨H, 0, none⟩ = false := by simp [World.frozen?, r4]
  obtain ⟨ao, co, rfl⟩ := hM.own.own.row.slice
  have HW : Hid (Went W v n g w (w4.setCell ⟨H, 0, none⟩ (.slice ao ns.length co))) := by
    refine went_set (w' := w4) ⟨hM.cur, ⟨hK.os.trans B0.out.os, hK.tape.trans B0.out.tape, hK.output.trans B0.out.output, Nat.le_trans B0.out.size hK.size, fun k hk hr => ?_⟩⟩ (Nat.le_of_eq hH) (by omega) HCu.out.1.size
    exact (hK.block k (by rw [s3]; omega) (fun e => hr (by rw [e])) (by omega) (fun e => by have e2 : H + 1 = k := Option.some.inj e; omega)).trans (B0.out.block k hk)
  have HO : Hid (OwnN w.heap.size (.slice ao ns.length co) ns (w4.setCell ⟨H, 0, none⟩ (.slice ao ns.length co))) := by
    obtain ⟨qs, e, hr, hk⟩ := hM.own.own
    have off : ∀ {u : Value} {ee : TypeId} {s m : Nat} {cs : List Value}, w4.ownsRow (H + 1) ee s u m cs → (w4.setCell ⟨H, 0, none⟩ (.slice ao ns.length co)).ownsRow w.heap.size ee s u m cs := fun h => World.ownsRow.mono (own_same h fun k hk => Below.heap_setCell w4 ⟨H, 0, none⟩ _ k (by have := (World.ownsRow.lt h k hk).1; show k ≠ H; omega)) (by omega)
    exact ⟨qs, e, off hr, fun q hq => off (hk q hq)⟩
  have HG : Hid (GoodN ss ns ∧ 1 ≤ ns.length ∧ ns.length + 1 ≤ 2 ^ (d + 1)) := ⟨hM.good, by simp at hl1; omega, by simpa using hl2⟩
  have r5 : (w4.setCell ⟨H, 0, none⟩ (.slice ao ns.length co)).cell? ⟨H, 0, none⟩ = some (.slice ao ns.length co) := World.cell?_setCell_same _ _ _ q4
  clear hM hl1 hl2 hN hK r4
  go_wp2
  generalize w4.setCell ⟨H, 0, none⟩ (.slice ao ns.length co) = w5 at *
  (try simp only [Exit.inBlock, Exit.then])
  refine bodyPost_ret (by simp [results, Tryd.results17, go_sem, r5]; try rfl) rfl ?_
  exact ⟨_, _, rfl, HO.out, HG.out.1, HG.out.2.1, HG.out.2.2, HW.out⟩

theorem exprB_good {ss : List ByteArray} {ns : List NodeD} (h : GoodN ss ns) (h1 : 1 ≤ ns.length) (h2 : ns.length ≤ 20) : exprB ns = true := by
  have key : ∀ k, k ≤ ns.length → nodesF 0 (ns.take k) = true := by
    intro k
    induction k with
    | zero => intro _; rfl
    | succ k ih => intro hk; rw [nodesF_next ns k (by omega), ih (by omega), (h k (by omega)).1]; rfl
  have := key ns.length (Nat.le_refl _)
  rw [List.take_of_length_le (Nat.le_refl _)] at this
  rw [exprB, this, inI, decide_eq_true (by omega)]
  rfl
theorem names3_at (w : World) : NamesAt w.heap.size names3 (w.alloc (.cells #[.string ⟨#[97]⟩, .string ⟨#[98]⟩, .string ⟨#[110]⟩] 9)) := by
  intro i hi
  have := lit_row w [.string ⟨#[97]⟩, .string ⟨#[98]⟩, .string ⟨#[110]⟩] 9 i hi
  rw [show (w.alloc (.cells #[.string ⟨#[97]⟩, .string ⟨#[98]⟩, .string ⟨#[110]⟩] 9)) = w.alloc (.cells [Value.string ⟨#[97]⟩, .string ⟨#[98]⟩, .string ⟨#[110]⟩].toArray 9) from rfl, this]
  match i, hi with
  | 0, _ => rfl
  | 1, _ => rfl
  | 2, _ => rfl

set_option maxHeartbeats 1600000 in
set_option maxRecDepth 100000 in
theorem drawExpr_any (W : World) (v : Value) (n : Nat) (w : World) (hn : n ≤ 1000000000000) (hcode : CodeRow W v n) (hb : Below W.heap.size W w) :
    Calls Tryd.prog 8 #[v] w fun e w' => ∃ o ns, e = .returned (.agg #[o]) ∧ OwnN w.heap.size o ns w' ∧ GoodN names3 ns ∧ 1 ≤ ns.length ∧ ns.length ≤ 7 ∧ Below w.heap.size w w' := by
  obtain ⟨H, hH⟩ : ∃ H, w.heap.size = H := ⟨_, rfl⟩
  have HC : Hid (CodeRow W v n) := hcode
  have B0 : Hid (Below w.heap.size w (w.alloc (.cells #[.slice none 0 0] 26))) := (Below.refl _ _).alloc (Nat.le_refl _) _
  have HN : Hid (_) := new_any W v n (w.alloc (.cells #[.slice none 0 0] 26)) hn hcode (hb.trans (B0.out.mono hb.size))
  have hr0 : (w.alloc (.cells #[.slice none 0 0] 26)).heap[H]? = some (.cells #[.slice none 0 0] 26 (0, 0)) := by rw [← hH]; exact heap_alloc_new w _
  have hs0 : (w.alloc (.cells #[.slice none 0 0] 26)).heap.size = H + 1 := by simp [hH]
  have HR0 : Hid (_) := hr0
  clear hcode hb hr0
  go_enter Tryd.func8, Tryd.ntmps8
  go_wp2_with fail
  refine Calls.mono HN.out ?_
  rintro e w1 ⟨g, rfl, hc1, hb1, hg⟩
  have r1 : w1.heap[H]? = some (.cells #[.slice none 0 0] 26 (0, 0)) := (hb1.block H (by rw [hs0]; omega)).trans HR0.out
  have hs1 := hb1.size
  rw [hs0] at hs1 hg
  have B1 : Hid (Below w.heap.size w w1) := B0.out.trans (hb1.mono B0.out.size)
  have bal : Below w1.heap.size w1 (w1.alloc (.cells #[.string ⟨#[97]⟩, .string ⟨#[98]⟩, .string ⟨#[110]⟩] 9)) := (Below.refl _ _).alloc (Nat.le_refl _) _
  have B2 : Hid (Below w.heap.size w (w1.alloc (.cells #[.string ⟨#[97]⟩, .string ⟨#[98]⟩, .string ⟨#[110]⟩] 9))) := B1.out.trans (bal.mono B1.out.size)
  have hgl := hc1.lt
  have HX : Hid (_) := expr_any W v n g w1.heap.size 3 2 names3 (w1.alloc (.cells #[.string ⟨#[97]⟩, .string ⟨#[98]⟩, .string ⟨#[110]⟩] 9)) hn HC.out names3_ok (by decide) (by decide) (by omega) (by omega) (went_below hc1 bal).1 (names3_at w1)
  have HR1 : Hid ((w1.alloc (.cells #[.string ⟨#[97]⟩, .string ⟨#[98]⟩, .string ⟨#[110]⟩] 9)).heap[H]? = some (.cells #[.slice none 0 0] 26 (0, 0))) := (bal.block H (by omega)).trans r1
  clear hc1 hb1 bal r1 HN B1 B0 HR0
  go_wp2_with fail
  refine Calls.mono HX.out ?_
  rintro e w2 ⟨o, ns, rfl, ho, hgood, hl1, hl2, hw2⟩
  have hsz2 : (w1.alloc (.cells #[.string ⟨#[97]⟩, .string ⟨#[98]⟩, .string ⟨#[110]⟩] 9)).heap.size = w1.heap.size + 1 := by simp
  have r2 : w2.heap[H]? = some (.cells #[.slice none 0 0] 26 (0, 0)) := (hw2.2.block H (by rw [hsz2]; omega) (fun e => by have := Option.some.inj e; omega)).trans HR1.out
  have q2 : w2.cell? ⟨H, 0, none⟩ = some (.slice none 0 0) := by rw [cell_of_row _ _ 0 _ _ _ r2]; rfl
  have f2 : w2.frozen? ⟨H, 0, none⟩ = false := by simp [World.frozen?, r2]
  obtain ⟨ao, co, rfl⟩ := ho.row.slice
  have HB : Hid (Below w.heap.size w (w2.setCell ⟨H, 0, none⟩ (.slice ao ns.length co))) := (B2.out.trans (went_bel hw2 B2.out.size (by omega))).setCell (by show w.heap.size ≤ H; omega) _
  have HO : Hid (OwnN w.heap.size (.slice ao ns.length co) ns (w2.setCell ⟨H, 0, none⟩ (.slice ao ns.length co))) := by
    obtain ⟨qs, e, hr, hk⟩ := ho
    have off : ∀ {u : Value} {ee : TypeId} {s m : Nat} {cs : List Value}, w2.ownsRow (w1.alloc (.cells #[.string ⟨#[97]⟩, .string ⟨#[98]⟩, .string ⟨#[110]⟩] 9)).heap.size ee s u m cs → (w2.setCell ⟨H, 0, none⟩ (.slice ao ns.length co)).ownsRow w.heap.size ee s u m cs := fun h => World.ownsRow.mono (own_same h fun k hk => Below.heap_setCell w2 ⟨H, 0, none⟩ _ k (by have := (World.ownsRow.lt h k hk).1; show k ≠ H; rw [hsz2] at this; omega)) (by rw [hsz2]; omega)
    exact ⟨qs, e, off hr, fun q hq => off (hk q hq)⟩
  have HG : Hid (GoodN names3 ns ∧ 1 ≤ ns.length ∧ ns.length ≤ 7) := ⟨hgood, hl1, by have : ns.length + 1 ≤ 8 := hl2; omega⟩
  have r5 : (w2.setCell ⟨H, 0, none⟩ (.slice ao ns.length co)).cell? ⟨H, 0, none⟩ = some (.slice ao ns.length co) := World.cell?_setCell_same _ _ _ q2
  clear ho hgood hl1 hl2 hw2 r2 HX HR1 hsz2
  go_wp2
  generalize w2.setCell ⟨H, 0, none⟩ (.slice ao ns.length co) = w5 at *
  (try simp only [Exit.inBlock, Exit.then])
  refine bodyPost_ret (by simp [results, Tryd.results8, go_sem, r5]; try rfl) rfl ?_
  exact ⟨_, _, rfl, HO.out, HG.out.1, HG.out.2.1, HG.out.2.2, HB.out⟩
end Go.Proofs.YtbpfapjchmignaaDoor
