/- The verifier's DrawExprOk and DrawFreeOf; the law's own expressions of two numbers, and what they come to. -/
import Derived.Test.YtokgkjfgknjbbaaDoorXAny
import Derived.Test.YtokgkjfgknjbbaaDoorXSub
namespace Go.Proofs.YtokgkjfgknjbbaaDoor
open Go.RowKit


set_option maxHeartbeats 1600000 in
set_option maxRecDepth 100000 in
theorem drawFreeOf_any (W : World) (v : Value) (n : Nat) (w : World) (hn : n ≤ 1000000000000) (hcode : CodeRow W v n) (hb : Below W.heap.size W w) :
    Calls Tryd.prog 15 #[v] w fun e w' => ∃ o ns, e = .returned (.agg #[o]) ∧ NRow w' o ns ∧ NIn ns ∧ Below w.heap.size w w' := by
  obtain ⟨H, hH⟩ : ∃ H, w.heap.size = H := ⟨_, rfl⟩
  have HC : Hid (CodeRow W v n) := hcode
  have B0 : Hid (Below w.heap.size w (w.alloc (.cells #[.slice none 0 0] 26))) := (Below.refl _ _).alloc (Nat.le_refl _) _
  have HN : Hid (_) := new_any W v n (w.alloc (.cells #[.slice none 0 0] 26)) hn hcode (hb.trans (B0.out.mono hb.size))
  have R0 : Hid (EBox H (.slice none 0 0) (w.alloc (.cells #[.slice none 0 0] 26))) := by have := EBox.made w (.slice none 0 0); rwa [hH] at this
  have hs0 : (w.alloc (.cells #[.slice none 0 0] 26)).heap.size = H + 1 := by simp [hH]
  clear hcode hb
  go_enter Tryd.func15, Tryd.ntmps15
  go_wp2_with fail
  refine Calls.mono HN.out ?_
  rintro e w1 ⟨g, rfl, hc1, hb1, hg⟩
  have R1 : Hid (EBox H (.slice none 0 0) w1) := R0.out.same (hb1.block H (by rw [hs0]; omega))
  have hs1 := hb1.size
  rw [hs0] at hs1 hg
  have B1 : Hid (Below w.heap.size w w1) := B0.out.trans (hb1.mono B0.out.size)
  have HX : Hid (_) := l04Any_any W v n g w1 hn HC.out hc1
  clear hc1 hb1 HN B0 R0
  go_wp2_with fail
  refine Calls.mono HX.out ?_
  rintro e w2 ⟨o, ns, rfl, ho, hin, hw2⟩
  have R2 : Hid (EBox H (.slice none 0 0) w2) := R1.out.same (hw2.2.block H R1.out.lt (fun e => by have := Option.some.inj e; omega))
  have q2 := R2.out.cell
  have f2 := R2.out.frozen
  obtain ⟨ao, co, rfl⟩ := ho.row.slice
  have HB : Hid (Below w.heap.size w (w2.setCell ⟨H, 0, none⟩ (.slice ao ns.length co))) := (B1.out.trans (went_bel hw2 B1.out.size (by omega))).setCell (by show w.heap.size ≤ H; omega) _
  have HO : Hid (NRow (w2.setCell ⟨H, 0, none⟩ (.slice ao ns.length co)) (.slice ao ns.length co) ns) := (ho.set (by omega) _).row
  have HI : Hid (NIn ns) := hin
  have r5 := (R2.out.set (.slice ao ns.length co)).cell
  clear ho hin hw2 HX R1 R2
  go_wp2
  generalize w2.setCell ⟨H, 0, none⟩ (.slice ao ns.length co) = w5 at *
  (try simp only [Exit.inBlock, Exit.then])
  refine bodyPost_ret (by simp [results, Tryd.results15, go_sem, r5]; try rfl) rfl ?_
  exact ⟨_, _, rfl, HO.out, HI.out, HB.out⟩

/-- Nodes of the call's own stay where an expression's cell is written. -/
theorem OwnN.setE {B : Nat} {v : Value} {ns : List NodeD} {w : World} (h : OwnN B v ns w) {b : Nat} {u : Value} (hb : EBox b u w) (y : Value) : OwnN B v ns (w.setCell ⟨b, 0, none⟩ y) := by
  obtain ⟨qs, e, hr, hk⟩ := h
  have keep : ∀ k, k ≠ b → (w.setCell ⟨b, 0, none⟩ y).heap[k]? = w.heap[k]? := fun k hk => Below.heap_setCell w ⟨b, 0, none⟩ y k hk
  exact ⟨qs, e, own_same hr fun k hk' => keep k (fun e => own_off hr hb (by decide) (by rw [hk', e])), fun q hq => own_same (hk q hq) fun k hk' => keep k (fun e => own_off (hk q hq) hb (by decide) (by rw [hk', e]))⟩
theorem own_lit (w : World) (B : Nat) (hB : B ≤ w.heap.size) (cs : List Value) (m s : Nat) (e : TypeId) (hl : cs.length = m * s) (hm : m ≤ 100) : (w.alloc (.cells cs.toArray e)).ownsRow B e s (.slice (some ⟨w.heap.size, 0, none⟩) m m) m cs :=
  ⟨hl, .inr ⟨_, _, _, rfl, hB, heap_alloc_new w _, Nat.le_refl _, by unfold maxLen; omega, by simpa using hl, by rw [← hl]; simp⟩⟩

def two (op a b : Int) : List NodeD := [⟨1, a, ⟨#[]⟩, []⟩, ⟨1, b, ⟨#[]⟩, []⟩, ⟨op, 0, ⟨#[]⟩, [0, 1]⟩]
def big5 : List NodeD := two 6 99 99 ++ [⟨1, 99, ⟨#[]⟩, []⟩, ⟨6, 0, ⟨#[]⟩, [2, 3]⟩]
theorem ev_two : evalB (two 6 99 99) (getB []) 0 = some 9801 := by decide
theorem ev_big : evalB big5 (getB []) 0 = none := by decide
theorem ev_name : evalB [⟨2, 0, ⟨#[97]⟩, []⟩] (getB []) 0 = none := by decide
theorem ev_here (h : Int) (h0 : 0 ≤ h) (h1 : h < 12) : evalB [⟨3, 0, ⟨#[]⟩, []⟩] (getB []) h = some h := by
  have e : exprB [⟨3, 0, ⟨#[]⟩, []⟩] = true := by decide
  have i : inI h (-9999) 9999 = true := by rw [inI]; exact decide_eq_true (by omega)
  rw [evalB, if_pos e]
  simp [evalN, allV, nodeV, capB, i]
theorem ev_div (z : Int) (h0 : 0 ≤ z) (h1 : z < 100) : evalB (two 7 z 0) (getB []) 0 = none := by
  have i : inI z (-9999) 9999 = true := by rw [inI]; exact decide_eq_true (by omega)
  have e : exprB (two 7 z 0) = true := by
    have i2 : inI z 0 99 = true := by rw [inI]; exact decide_eq_true (by omega)
    simp [exprB, two, nodesF, nodeB, fieldsB, kidsB, kidsN, i2]
    decide
  rw [evalB, if_pos e]
  have i0 : inI 0 (-9999) 9999 = true := by decide
  simp [evalN, two, allV, nodeV, capB, twoB, i, i0]

def twoQ (op a b : Int) (H : Nat) : List (NodeD × Value) := [(⟨1, a, ⟨#[]⟩, []⟩, .slice none 0 0), (⟨1, b, ⟨#[]⟩, []⟩, .slice none 0 0), (⟨op, 0, ⟨#[]⟩, [0, 1]⟩, .slice (some ⟨H, 0, none⟩) 2 2)]
end Go.Proofs.YtokgkjfgknjbbaaDoor
