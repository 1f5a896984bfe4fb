/- The program's climb behind its pointer: its box, and the operator of a byte. -/
import Derived.Test.YtkojkicfibmjdaaOpY
import Derived.Test.YtkojkicfibmjdaaOpT
import Derived.RegionTactic
import Derived.BigRegion
namespace Go.Proofs.Ytkojkicfibmjdaa
open Go.RowKit
set_option linter.unusedVariables false

def sv13 (ts : List ByteArray) : List Value := ts.map .string
/-- The climb's box: its operators, the things, what waits (the last ones first in c), whether it is behind a thing. W: the world ahead of it. -/
structure CmB (W : World) (xs : List OpD) (a : Option Addr) (cap p : Nat) (c : CmD) (tv wv : Value) (w : World) : Prop where
  bel : Below W.heap.size W w
  le : W.heap.size ≤ p
  ops : Ops W (.slice a xs.length cap) xs
  box : w.heap[p]? = some (.cells #[.slice a xs.length cap, tv, wv, .bool c.behind] 45 (0, 0))
  ths : w.ownsRow W.heap.size 9 1 tv c.ts.length (sv13 c.ts.reverse)
  wts : w.ownsRow W.heap.size 27 3 wv c.ws.length (ov c.ws.reverse)
/-- What the climb's calls may turn: rows of texts, and the climb's box. -/
abbrev FrC (B : Nat) (w w' : World) : Prop := FrT [9, 45] B w w'
section
variable {W : World} {xs : List OpD} {a : Option Addr} {cap p : Nat} {c : CmD} {tv wv : Value} {w w' : World}
theorem CmB.below (h : CmB W xs a cap p c tv wv w) (hb : Below w.heap.size w w') : CmB W xs a cap p c tv wv w' :=
  have F : FrT [] W.heap.size w w' := FrT.below hb h.bel.size
  ⟨h.bel.trans (hb.mono h.bel.size), h.le, h.ops, F.typ p _ _ _ h.box (by simp), own_frT h.ths F (by simp), own_frT h.wts F (by simp)⟩
theorem CmB.frb (h : CmB W xs a cap p c tv wv w) (hb : Below w.heap.size w w') : FrC W.heap.size w w' := FrT.below hb h.bel.size
theorem CmB.row (h : CmB W xs a cap p c tv wv w) : Ops w (.slice a xs.length cap) xs := h.ops.below h.bel
theorem CmB.drewN (h : CmB W xs a cap p c tv wv w) (q : Nat) : CmB W xs a cap p c tv wv (w.drewN q) := h.below (bel_drewN (Below.refl _ _) q)
theorem CmB.setT (h : CmB W xs a cap p c tv wv w) {tv' : Value} {ts' : List ByteArray} (ht : w.ownsRow W.heap.size 9 1 tv' ts'.length (sv13 ts'.reverse)) : CmB W xs a cap p ⟨ts', c.ws, c.behind⟩ tv' wv (w.setCell ⟨p, 1, none⟩ tv') :=
  have F : FrT [45] W.heap.size w (w.setCell ⟨p, 1, none⟩ tv') := fr_set tv' h.box (by simp) h.le
  ⟨h.bel.trans F.bel, h.le, h.ops, setCell_self (j := 1) _ h.box, own_frT ht F (by decide), own_frT h.wts F (by decide)⟩
theorem CmB.setW (h : CmB W xs a cap p c tv wv w) {wv' : Value} {ws' : List OpD} (ht : w.ownsRow W.heap.size 27 3 wv' ws'.length (ov ws'.reverse)) : CmB W xs a cap p ⟨c.ts, ws', c.behind⟩ tv wv' (w.setCell ⟨p, 2, none⟩ wv') :=
  have F : FrT [45] W.heap.size w (w.setCell ⟨p, 2, none⟩ wv') := fr_set wv' h.box (by simp) h.le
  ⟨h.bel.trans F.bel, h.le, h.ops, setCell_self (j := 2) _ h.box, own_frT h.ths F (by decide), own_frT ht F (by decide)⟩
theorem CmB.setB (h : CmB W xs a cap p c tv wv w) (b : Bool) : CmB W xs a cap p ⟨c.ts, c.ws, b⟩ tv wv (w.setCell ⟨p, 3, none⟩ (.bool b)) :=
  have F : FrT [45] W.heap.size w (w.setCell ⟨p, 3, none⟩ (.bool b)) := fr_set _ h.box (by simp) h.le
  ⟨h.bel.trans F.bel, h.le, h.ops, setCell_self (j := 3) _ h.box, own_frT h.ths F (by decide), own_frT h.wts F (by decide)⟩
theorem CmB.frs (h : CmB W xs a cap p c tv wv w) (j : Nat) (u : Value) : FrC W.heap.size w (w.setCell ⟨p, j, none⟩ u) := fr_set u h.box (by simp) h.le
end
theorem own_some13 {w : World} {B : Nat} {e : TypeId} {s n : Nat} {v : Value} {cs : List Value} (h : w.ownsRow B e s v n cs) (hn : 0 < n) : ∃ g cap, v = .slice (some ⟨g, 0, none⟩) n cap ∧ n ≤ cap ∧ B ≤ g := by
  rcases h.2 with ⟨_, h0⟩ | ⟨g, cap, cur, rfl, hB, _, hle, _⟩
  · omega
  · exact ⟨g, cap, rfl, hle, hB⟩
theorem own_at13 {w : World} {B : Nat} {e : TypeId} {s n m g cap : Nat} {cs : List Value} (h : w.ownsRow B e s (.slice (some ⟨g, 0, none⟩) m cap) n cs) (j : Nat) (u : Value) (hu : cs[j]? = some u) : w.cell? ⟨g, j, none⟩ = some u := by
  have := World.ownsRow.cells h (g := g) rfl j u hu
  rw [Addr.add_lit, Nat.zero_add] at this
  exact this
/-- Its first ones alone. -/
theorem own_take13 {w : World} {B : Nat} {e : TypeId} {s n m g cap : Nat} {cs ds : List Value} (h : w.ownsRow B e s (.slice (some ⟨g, 0, none⟩) n cap) n cs) (hm : m ≤ n) (hd : cs.take (m * s) = ds) : w.ownsRow B e s (.slice (some ⟨g, 0, none⟩) m cap) m ds := by
  obtain ⟨h1, h2⟩ := h
  rcases h2 with ⟨h0, _⟩ | ⟨g', cap', cur, hv, hg, hh, hn, hcap, hsz, htake⟩
  · cases h0
  · cases hv
    have hms : m * s ≤ n * s := Nat.mul_le_mul_right _ hm
    refine ⟨by rw [← hd, List.length_take]; omega, .inr ⟨g, cap, cur, rfl, hg, hh, by omega, hcap, hsz, ?_⟩⟩
    rw [← hd, ← htake, List.take_take, Nat.min_eq_left hms]
theorem idx_find (s : ByteArray) : ∀ (xs : List OpD) (i : Nat), idxF (fun x => decide (s = x.sign)) i xs = opI (find13 s i xs)
  | [], i => rfl
  | x :: xs, i => by
    rw [idxF, find13, idx_find s xs (i + 1)]
    by_cases h : s = x.sign
    · rw [if_pos (decide_eq_true h), if_pos h]; rfl
    · rw [if_neg (by simpa using h), if_neg h]

set_option maxHeartbeats 3200000 in
set_option maxRecDepth 100000 in
theorem opOfI_any (W : World) (xs : List OpD) (a : Option Addr) (cap p : Nat) (c : CmD) (tv wv : Value) (b : UInt8) (w : World) (ho : opsB xs = true) (h : CmB W xs a cap p c tv wv w) :
    Calls Try.prog 31 #[.pointer (some ⟨p, 0, none⟩), .int .u8 (b.toNat : Int)] w fun e w' => e = .returned (.tuple #[.agg #[.string (opAt13 xs b).1.sign, .int .i64 (opAt13 xs b).1.level, .bool (opAt13 xs b).1.right], .bool (opAt13 xs b).2]) ∧ Below w.heap.size w w' := by
  have hmf : ∀ (fn : Fn) (first cap : Array Value) (w : World), (Instr.makeFunc fn first cap).run Try.prog w = .ok (.func fn first cap) w := fun _ _ _ _ => rfl
  have ba : Below w.heap.size w ((w.alloc (.cells #[.int .u8 (b.toNat : Int)] 5)).alloc (.cells #[.string ⟨#[]⟩, .int .i64 0, .bool false] 27)) := ((Below.refl _ _).alloc (Nat.le_refl _) _).alloc (by simp) _
  have BA : Hid _ := ba
  have HA : Hid (CmB W xs a cap p c tv wv ((w.alloc (.cells #[.int .u8 (b.toNat : Int)] 5)).alloc (.cells #[.string ⟨#[]⟩, .int .i64 0, .bool false] 27))) := h.below ba
  have c0 : ((w.alloc (.cells #[.int .u8 (b.toNat : Int)] 5)).alloc (.cells #[.string ⟨#[]⟩, .int .i64 0, .bool false] 27)).cell? ⟨p, 0, none⟩ = some (.slice a xs.length cap) := run_cell HA.out.box rfl
  have HB : Hid (((w.alloc (.cells #[.int .u8 (b.toNat : Int)] 5)).alloc (.cells #[.string ⟨#[]⟩, .int .i64 0, .bool false] 27)).cell? ⟨w.heap.size, 0, none⟩ = some (.int .u8 (b.toNat : Int))) := box_two _ _ _ _ _ 0 _ rfl
  have HZ : Hid (((w.alloc (.cells #[.int .u8 (b.toNat : Int)] 5)).alloc (.cells #[.string ⟨#[]⟩, .int .i64 0, .bool false] 27)).heap[w.heap.size + 1]? = some (.cells #[.string ⟨#[]⟩, .int .i64 0, .bool false] 27 (0, 0))) := by
    have := heap_alloc_new (w.alloc (.cells #[.int .u8 (b.toNat : Int)] 5)) (.cells #[.string ⟨#[]⟩, .int .i64 0, .bool false] 27)
    simpa [Hid] using this
  have hl := (ops_len ho).2
  have HI : Hid (∀ _ : Unit, _) := fun _ => indexFuncB_any (fun x => decide ((⟨#[b]⟩ : ByteArray) = x.sign)) (.pointer (some ⟨w.heap.size, 0, none⟩)) (.slice a xs.length cap) xs _ (by omega) HA.out.row (fun x hx V hV => by
    obtain ⟨d, _, hd⟩ := sign_of ho hx
    exact opOf1_any x d b w.heap.size V hd (cell_keep HB.out hV))
  have HP : Hid (∀ V : World, _) := parenthesis_any
  have hfi := idx_find ⟨#[b]⟩ xs 0
  cases hf : find13 ⟨#[b]⟩ 0 xs with
  | none =>
    rw [hf] at hfi
    have hfi : idxI (fun x => decide ((⟨#[b]⟩ : ByteArray) = x.sign)) xs = -1 := hfi
    rw [hfi] at HI
    rw [opAt_none hf]
    clear hfi hf ba h
    go_enter Try.func31, Try.ntmps31
    go_wp2_with (go_at_call 38; refine (HI.out ()).mono ?_; rintro e w1 ⟨rfl, hb1⟩)
    have Z1 : Hid (w1.heap[w.heap.size + 1]? = some (.cells #[.string ⟨#[]⟩, .int .i64 0, .bool false] 27 (0, 0))) := (hb1.block _ (by simp)).trans HZ.out
    have B1 : Hid (Below w.heap.size w w1) := BA.out.trans (hb1.mono BA.out.size)
    clear hb1 HZ
    go_wp2_with fail
    refine (HP.out _).mono ?_
    rintro e w2 ⟨rfl, hb2⟩
    have Z2 : Hid (w2.heap[w.heap.size + 1]? = some (.cells #[.string ⟨#[]⟩, .int .i64 0, .bool false] 27 (0, 0))) := (hb2.block _ (Array.getElem?_eq_some_iff.1 Z1.out).1).trans Z1.out
    have B2 : Hid (Below w.heap.size w w2) := B1.out.trans (hb2.mono B1.out.size)
    have y0 := run_cell (j := 0) Z2.out rfl
    have y1 := run_cell (j := 1) Z2.out rfl
    have y2 := run_cell (j := 2) Z2.out rfl
    have f0 := run_frozen (j := 0) Z2.out
    have f1 := run_frozen (j := 1) Z2.out
    have f2 := run_frozen (j := 2) Z2.out
    clear hb2 Z1
    go_wp2
    have ZF := setCell_self (j := 2) (.bool par13.right) (setCell_self (j := 1) (.int .i64 par13.level) (setCell_self (j := 0) (.string par13.sign) Z2.out))
    have z0 := run_cell (j := 0) ZF rfl
    have z1 := run_cell (j := 1) ZF rfl
    have z2 := run_cell (j := 2) ZF rfl
    refine bodyPost_ret (by simp [results, Try.results31, go_sem, z0, z1, z2]; try rfl) rfl ?_
    exact ⟨rfl, ((B2.out.setCell (Nat.le_succ _) _).setCell (Nat.le_succ _) _).setCell (Nat.le_succ _) _⟩
  | some k =>
    rw [hf] at hfi
    obtain ⟨hk, -, -⟩ := find_sign ho hf
    have hfi : idxI (fun x => decide ((⟨#[b]⟩ : ByteArray) = x.sign)) xs = (k : Int) := hfi
    rw [hfi] at HI
    rw [opAt_some hf hk]
    clear hfi hf ba h
    go_enter Try.func31, Try.ntmps31
    go_wp2_with (go_at_call 38; refine (HI.out ()).mono ?_; rintro e w1 ⟨rfl, hb1⟩; have A1 := HA.out.below hb1; have q0 := run_cell (j := 0) A1.box rfl; obtain ⟨bb, off, rfl, n0, n1, n2⟩ := A1.row.at hk; have Z1 : w1.heap[w.heap.size + 1]? = some (.cells #[.string ⟨#[]⟩, .int .i64 0, .bool false] 27 (0, 0)) := (hb1.block _ (by simp)).trans HZ.out; have f0 := run_frozen (j := 0) Z1; have f1 := run_frozen (j := 1) Z1; have f2 := run_frozen (j := 2) Z1; have y0 := run_cell (j := 0) Z1 rfl; have y1 := run_cell (j := 1) Z1 rfl; have y2 := run_cell (j := 2) Z1 rfl; have i4 : (k : Int) < (xs.length : Int) := by omega)
    have ZF := setCell_self (j := 2) (.bool xs[k].right) (setCell_self (j := 1) (.int .i64 xs[k].level) (setCell_self (j := 0) (.string xs[k].sign) Z1))
    have z0 := run_cell (j := 0) ZF rfl
    have z1 := run_cell (j := 1) ZF rfl
    have z2 := run_cell (j := 2) ZF rfl
    refine bodyPost_ret (by simp [results, Try.results31, go_sem, z0, z1, z2]; try rfl) rfl ?_
    have B1 : Below w.heap.size w w1 := BA.out.trans (hb1.mono BA.out.size)
    exact ⟨rfl, ((B1.setCell (Nat.le_succ _) _).setCell (Nat.le_succ _) _).setCell (Nat.le_succ _) _⟩

end Go.Proofs.Ytkojkicfibmjdaa
