/- The verifier's drawn operators (printed by mk/opt.py). -/
import Derived.Test.YtkojkicfibmjdaaOpW
import Derived.Test.YtkojkicfibmjdaaTkE
import Derived.Test.YtkojkicfibmjdaaHld2
import Derived.Deep.AppendLies
import Derived.Deep.CutRange
namespace Go.Proofs.Ytkojkicfibmjdaa
open Go.RowKit
set_option linter.unusedVariables false

theorem bel_drewO {B : Nat} {a w : World} (h : Below B a w) : Below B a w.drew := ⟨h.os, h.tape, h.output, h.size, h.block⟩
/-- The cells of a list of operators. -/
def ov (xs : List OpD) : List Value := xs.flatMap fun x => [.string x.sign, .int .i64 x.level, .bool x.right]
theorem ov_len : ∀ xs : List OpD, (ov xs).length = xs.length * 3
  | [] => rfl
  | x :: xs => by
    have e : ov (x :: xs) = [.string x.sign, .int .i64 x.level, .bool x.right] ++ ov xs := rfl
    rw [e, List.length_append, ov_len xs]
    show 3 + xs.length * 3 = (xs.length + 1) * 3
    omega
theorem ov_app (xs ys : List OpD) : ov (xs ++ ys) = ov xs ++ ov ys := by simp [ov]
theorem ov_at : ∀ (xs : List OpD) (i : Nat) (h : i < xs.length), (ov xs)[i * 3]? = some (.string xs[i].sign) ∧ (ov xs)[i * 3 + 1]? = some (.int .i64 xs[i].level) ∧ (ov xs)[i * 3 + 2]? = some (.bool xs[i].right)
  | x :: xs, 0, _ => ⟨rfl, rfl, rfl⟩
  | x :: xs, i + 1, h => by
    have := ov_at xs i (by simpa using h)
    have e : ov (x :: xs) = .string x.sign :: .int .i64 x.level :: .bool x.right :: ov xs := rfl
    rw [e, show (i + 1) * 3 = i * 3 + 1 + 1 + 1 by omega]
    exact this
theorem ov_one : ∀ (xs : List OpD), ∀ u ∈ ov xs, u.oneCell' = true := fun xs u hu => by
  obtain ⟨x, _, hx⟩ := List.mem_flatMap.1 hu
  simp only [List.mem_cons, List.not_mem_nil, or_false] at hx
  rcases hx with rfl | rfl | rfl <;> rfl
theorem own_held {A : Nat → Prop} {B : Nat} {v : Value} {xs : List OpD} {w : World} (h : w.ownsRow B 27 3 v xs.length (ov xs)) (hA : ∀ k, A k → k < B) : Held A w (fun V => Ops V v xs) := fun V hV hbl => by
  rcases h.2 with ⟨rfl, hz⟩ | ⟨g, cap, cur, rfl, hB, hc, hle, hm, hs, ht⟩
  · exact ⟨⟨none, 0, by rw [hz], (fun _ => rfl), fun h0 => by omega⟩, fun _ _ _ e => by cases e; exact Nat.le_refl _⟩
  · have hgl := (Array.getElem?_eq_some_iff.1 hc).1
    refine ⟨⟨some ⟨g, 0, none⟩, cap, rfl, (fun h => nomatch h), fun _ => ⟨g, 0, rfl, Nat.lt_of_lt_of_le hgl hV, fun i hi => ⟨[.string xs[i].sign, .int .i64 xs[i].level, .bool xs[i].right], rfl, fun j hj => ?_, rfl⟩⟩⟩, fun _ _ _ e => by cases e; exact hle⟩
    have hblk := hbl g hgl (fun ha => by have := hA g ha; omega)
    have key : ∀ j u, (ov xs)[j]? = some u → V.cell? ⟨g, 0 + j, none⟩ = some u := fun j u hu => by
      have := World.ownsRow.cells h (g := g) rfl j u hu
      rw [Addr.add_lit] at this
      exact (World.cell?_of_block hblk).trans this
    obtain ⟨c0, c1, c2⟩ := ov_at xs i hi
    match j, hj with
    | 0, _ => exact key _ _ c0
    | 1, _ => exact (by rw [Nat.add_assoc]; exact key _ _ c1)
    | 2, _ => exact (by rw [Nat.add_assoc]; exact key _ _ c2)
theorem own_low {B : Nat} {T : TypeId} {s n : Nat} {v : Value} {cs : List Value} {w : World} {k : Nat} (h : w.ownsRow B T s v n cs) (hk : v.ownBlock = some k) : B ≤ k := by
  rcases h.2 with ⟨rfl, _⟩ | ⟨g, cap, cur, rfl, hB, _⟩
  · cases hk
  · have : g = k := Option.some.inj hk
    omega
/-- A whole list of operators appended to one that the call owns, as one step of a region that draws. -/
theorem step_append_opsF {P : Program} {w : World} {ops : Array Oper} {o : Oper} {a : Act} {K : Act → World → Prop} {Q : Exit → Act → World → Prop} {E : Prop} (hgd : o.guard = none) (s x : Operand) (t : TypeId)
    (ho : o.op = .call { callee := .builtin .append, args := #[s, x], argTypes := #[t, t] })
    (base : Nat) (i : TypeInfo) (z : Value) (ht : P.underlying t = some (.slice 27)) (hi : P.info? 27 = some i) (hz : i.zero = some z)
    (hsize : i.size = 3) (hby : i.bytes = 32) (hzs : z.cells.size = 3)
    (v : Value) (n : Nat) (cs : List Value) (hs : a.eval s = v) (hown : w.ownsRow base 27 3 v n cs) (ps : List OpD) (pa : Option Addr) (c : Nat) (hx : a.eval x = .slice pa ps.length c) (hp : Ops w (.slice pa ps.length c) ps)
    (hl : n + ps.length ≤ 4194304) (hbase : base ≤ w.heap.size)
    (h : ∀ v' w', w'.ownsRow base 27 3 v' (n + ps.length) (cs ++ ov ps) → w.grownBy w' v.ownBlock → K (a.put o.dst v') w') : if Region.wanted o (yielded ops a.tmps) = true then Oper.wp P o a w K Q else E := by
  have hw : Region.wanted o (yielded ops a.tmps) = true := by simp [Region.wanted, hgd]
  rw [if_pos hw]
  obtain ⟨⟨pa', c', e1, hcap, hh⟩, _⟩ := hp
  cases e1
  cases pa with
  | none =>
    have h0 : ps.length = 0 := by
      rcases Nat.eq_zero_or_pos ps.length with h | h
      · exact h
      · obtain ⟨_, _, e, _⟩ := hh h
        cases e
    obtain rfl : ps = [] := List.length_eq_zero_iff.1 h0
    obtain rfl := hcap rfl
    have hrun := run_append_owned_none (P := P) (w := w) base t o.type 27 i 3 ht hi v n cs hown
    have hx' : a.eval x = .slice none 0 0 := hx
    unfold Oper.wp
    simp [execOp, ho, resolve, invoke, builtin, hs, hx', hrun, Result.andThen]
    exact h v w (by simpa [ov] using hown) (World.grownBy.refl _ _)
  | some ad =>
    refine wp_append_own w s x t ho base 27 i z 3 32 ht hi hz hsize hby hzs (by decide) v n cs hs hown ad ps.length c (ov ps) hx (ov_len ps) (fun j u hj => ?_) (ov_one ps) (by unfold maxLen; omega) (by omega) hbase (fun v' w' h1 h2 _ => h v' w' h1 h2)
    have hj2 : j < ps.length * 3 := by
      have := (List.getElem?_eq_some_iff.1 hj).1
      rwa [ov_len] at this
    obtain ⟨b, off, e, _, hc⟩ := hh (by omega)
    cases e
    have hq : j / 3 < ps.length := by omega
    obtain ⟨vs, k1, k2, k3⟩ := hc (j / 3) hq
    have k3 : vs = [.string ps[j / 3].sign, .int .i64 ps[j / 3].level, .bool ps[j / 3].right] := k3
    obtain ⟨c0, c1, c2⟩ := ov_at ps (j / 3) hq
    rw [Addr.add_lit]
    have hr : j % 3 = 0 ∨ j % 3 = 1 ∨ j % 3 = 2 := by omega
    rcases hr with hr | hr | hr
    · have hk := k2 0 (by omega)
      rw [show off + j = off + j / 3 * 3 + 0 by omega, hk, ← hj]
      have e : (ov ps)[j]? = (ov ps)[j / 3 * 3]? := congrArg (fun n => (ov ps)[n]?) (by omega)
      rw [e, c0]
      subst k3; rfl
    · have hk := k2 1 (by omega)
      rw [show off + j = off + j / 3 * 3 + 1 by omega, hk, ← hj]
      have e : (ov ps)[j]? = (ov ps)[j / 3 * 3 + 1]? := congrArg (fun n => (ov ps)[n]?) (by omega)
      rw [e, c1]
      subst k3; rfl
    · have hk := k2 2 (by omega)
      rw [show off + j = off + j / 3 * 3 + 2 by omega, hk, ← hj]
      have e : (ov ps)[j]? = (ov ps)[j / 3 * 3 + 2]? := congrArg (fun n => (ov ps)[n]?) (by omega)
      rw [e, c2]
      subst k3; rfl

def alls (x : Int) (r : Bool) : List OpD := [⟨⟨#[43]⟩, 2, false⟩, ⟨⟨#[45]⟩, 2, false⟩, ⟨⟨#[42]⟩, 4, false⟩, ⟨⟨#[94]⟩, 6, true⟩, ⟨⟨#[61]⟩, 1, true⟩, ⟨⟨#[60]⟩, 1 + 2 * x, r⟩]
theorem alls_right (x : Int) (h0 : 0 ≤ x) (h1 : x < 2) (r : Bool) (j : Nat) (hj : j < 6) : opsB [(alls x r)[j]'hj] = true := by
  obtain rfl | rfl : x = 0 ∨ x = 1 := by omega
  all_goals
    cases r
    all_goals
      match j, hj with
      | 0, _ => rfl
      | 1, _ => rfl
      | 2, _ => rfl
      | 3, _ => rfl
      | 4, _ => rfl
      | 5, _ => rfl
theorem alls_cells (x : Int) (r : Bool) (j : Nat) (hj : j < 6) : (#[.string ⟨#[43]⟩, .int .i64 2, .bool false, .string ⟨#[45]⟩, .int .i64 2, .bool false, .string ⟨#[42]⟩, .int .i64 4, .bool false, .string ⟨#[94]⟩, .int .i64 6, .bool true, .string ⟨#[61]⟩, .int .i64 1, .bool true, .string ⟨#[60]⟩, .int .i64 (1 + 2 * x), .bool r] : Array Value)[j * 3]? = some (.string ((alls x r)[j]'hj).sign) ∧ (#[.string ⟨#[43]⟩, .int .i64 2, .bool false, .string ⟨#[45]⟩, .int .i64 2, .bool false, .string ⟨#[42]⟩, .int .i64 4, .bool false, .string ⟨#[94]⟩, .int .i64 6, .bool true, .string ⟨#[61]⟩, .int .i64 1, .bool true, .string ⟨#[60]⟩, .int .i64 (1 + 2 * x), .bool r] : Array Value)[j * 3 + 1]? = some (.int .i64 ((alls x r)[j]'hj).level) ∧ (#[.string ⟨#[43]⟩, .int .i64 2, .bool false, .string ⟨#[45]⟩, .int .i64 2, .bool false, .string ⟨#[42]⟩, .int .i64 4, .bool false, .string ⟨#[94]⟩, .int .i64 6, .bool true, .string ⟨#[61]⟩, .int .i64 1, .bool true, .string ⟨#[60]⟩, .int .i64 (1 + 2 * x), .bool r] : Array Value)[j * 3 + 2]? = some (.bool ((alls x r)[j]'hj).right) := by
  match j, hj with
  | 0, _ => exact ⟨rfl, rfl, rfl⟩
  | 1, _ => exact ⟨rfl, rfl, rfl⟩
  | 2, _ => exact ⟨rfl, rfl, rfl⟩
  | 3, _ => exact ⟨rfl, rfl, rfl⟩
  | 4, _ => exact ⟨rfl, rfl, rfl⟩
  | 5, _ => exact ⟨rfl, rfl, rfl⟩
theorem ops_six {xs : List OpD} (h : opsB xs = true) : xs.length ≤ 6 := (ops_len h).2

theorem Try.infoOpT : (Try.prog.info? 27).map (fun i => (i.zero, i.size, i.bytes)) = some (some (.agg #[.string ⟨#[]⟩, .int .i64 0, .bool false]), 3, 32) := by kernel_rfl
set_option maxHeartbeats 6400000 in
set_option maxRecDepth 100000 in
theorem ops13_of (W : World) (v : Value) (n g : Nat) (w : World) (hn : n ≤ 1000000000000) (hcode : CodeRow W v n) (hc : Cur W v n g w) :
    Calls Try.prog 24 #[.pointer (some ⟨g, 0, none⟩)] w fun e w' => ∃ (xs : List OpD) (oa : Option Addr) (oc : Nat), opsB xs = true ∧ e = .returned (.slice oa xs.length oc) ∧ Held (fun k => k < w.heap.size) w' (fun V => Ops V (.slice oa xs.length oc) xs) ∧ Went W v n g w w' := by
  obtain ⟨r0, hr, hr0, hr1, hr2⟩ := info_parts Try.infoOpT
  have HC : Hid (CodeRow W v n) := hcode
  have HW : Hid (Cur W v n g w) := hc
  have hgw := hc.lt
  clear hcode hc
  go_enter Try.func24, Try.ntmps24
  go_wp2_with fail
  refine (below_any W v n g 2 _ hn HC.out HW.out (by omega) (by omega)).mono ?_
  rintro e w1 ⟨x, rfl, ⟨x0, x1⟩, hw1⟩
  have H1 : Hid (Went W v n g w w1) := hw1
  have wx1 : IntKind.i64.wrap (2 * x) = 2 * x := by rw [IntKind.wrap_i64]; omega
  have wx2 : IntKind.i64.wrap (1 + 2 * x) = 1 + 2 * x := by rw [IntKind.wrap_i64]; omega
  clear hw1
  go_wp2_with fail
  refine (once_any W v n g 2 _ hn HC.out H1.out.1 (by omega) (by omega)).mono ?_
  rintro e w2 ⟨r, rfl, hw2⟩
  have H2 : Hid (Went W v n g w w2) := went_trans H1.out hw2
  clear hw2
  have hsz2 : w.heap.size ≤ w2.heap.size := H2.out.2.size
  have ba : Below w2.heap.size w2 ((w2.alloc (.cells #[.string ⟨#[43]⟩, .int .i64 2, .bool false, .string ⟨#[45]⟩, .int .i64 2, .bool false, .string ⟨#[42]⟩, .int .i64 4, .bool false, .string ⟨#[94]⟩, .int .i64 6, .bool true, .string ⟨#[61]⟩, .int .i64 1, .bool true, .string ⟨#[60]⟩, .int .i64 (1 + 2 * x), .bool r] 27)).alloc (.cells #[] 27)) := ((Below.refl _ _).alloc (Nat.le_refl _) _).alloc (by simp) _
  have XA : ((w2.alloc (.cells #[.string ⟨#[43]⟩, .int .i64 2, .bool false, .string ⟨#[45]⟩, .int .i64 2, .bool false, .string ⟨#[42]⟩, .int .i64 4, .bool false, .string ⟨#[94]⟩, .int .i64 6, .bool true, .string ⟨#[61]⟩, .int .i64 1, .bool true, .string ⟨#[60]⟩, .int .i64 (1 + 2 * x), .bool r] 27)).alloc (.cells #[] 27)).heap[w2.heap.size]? = some (.cells #[.string ⟨#[43]⟩, .int .i64 2, .bool false, .string ⟨#[45]⟩, .int .i64 2, .bool false, .string ⟨#[42]⟩, .int .i64 4, .bool false, .string ⟨#[94]⟩, .int .i64 6, .bool true, .string ⟨#[61]⟩, .int .i64 1, .bool true, .string ⟨#[60]⟩, .int .i64 (1 + 2 * x), .bool r] 27 (0, 0)) := (Below.heap_alloc _ _ _ (by simp)).trans (heap_alloc_new w2 _)
  have XE : ((w2.alloc (.cells #[.string ⟨#[43]⟩, .int .i64 2, .bool false, .string ⟨#[45]⟩, .int .i64 2, .bool false, .string ⟨#[42]⟩, .int .i64 4, .bool false, .string ⟨#[94]⟩, .int .i64 6, .bool true, .string ⟨#[61]⟩, .int .i64 1, .bool true, .string ⟨#[60]⟩, .int .i64 (1 + 2 * x), .bool r] 27)).alloc (.cells #[] 27)).heap[w2.heap.size + 1]? = some (.cells #[] 27 (0, 0)) := by
    have := heap_alloc_new (w2.alloc (.cells #[.string ⟨#[43]⟩, .int .i64 2, .bool false, .string ⟨#[45]⟩, .int .i64 2, .bool false, .string ⟨#[42]⟩, .int .i64 4, .bool false, .string ⟨#[94]⟩, .int .i64 6, .bool true, .string ⟨#[61]⟩, .int .i64 1, .bool true, .string ⟨#[60]⟩, .int .i64 (1 + 2 * x), .bool r] 27)) (.cells #[] 27)
    rwa [show (w2.alloc (.cells #[.string ⟨#[43]⟩, .int .i64 2, .bool false, .string ⟨#[45]⟩, .int .i64 2, .bool false, .string ⟨#[42]⟩, .int .i64 4, .bool false, .string ⟨#[94]⟩, .int .i64 6, .bool true, .string ⟨#[61]⟩, .int .i64 1, .bool true, .string ⟨#[60]⟩, .int .i64 (1 + 2 * x), .bool r] 27)).heap.size = w2.heap.size + 1 by simp] at this
  have HA : Hid (Went W v n g w ((w2.alloc (.cells #[.string ⟨#[43]⟩, .int .i64 2, .bool false, .string ⟨#[45]⟩, .int .i64 2, .bool false, .string ⟨#[42]⟩, .int .i64 4, .bool false, .string ⟨#[94]⟩, .int .i64 6, .bool true, .string ⟨#[61]⟩, .int .i64 1, .bool true, .string ⟨#[60]⟩, .int .i64 (1 + 2 * x), .bool r] 27)).alloc (.cells #[] 27))) := went_below2 H2.out ba
  have HXA : Hid _ := XA
  have HOE : Hid (Held (fun k => k < w.heap.size) ((w2.alloc (.cells #[.string ⟨#[43]⟩, .int .i64 2, .bool false, .string ⟨#[45]⟩, .int .i64 2, .bool false, .string ⟨#[42]⟩, .int .i64 4, .bool false, .string ⟨#[94]⟩, .int .i64 6, .bool true, .string ⟨#[61]⟩, .int .i64 1, .bool true, .string ⟨#[60]⟩, .int .i64 (1 + 2 * x), .bool r] 27)).alloc (.cells #[] 27)) (fun V => Ops V (.slice (some ⟨w2.heap.size + 1, 0, none⟩) 0 0) [])) := fun V _ _ => ⟨⟨some ⟨w2.heap.size + 1, 0, none⟩, 0, rfl, (fun h => nomatch h), fun h0 => absurd h0 (by decide)⟩, fun _ _ _ e => by cases e; exact Nat.le_refl _⟩
  clear ba XA XE
  go_wp2_with fail
  generalize (w2.alloc (.cells #[.string ⟨#[43]⟩, .int .i64 2, .bool false, .string ⟨#[45]⟩, .int .i64 2, .bool false, .string ⟨#[42]⟩, .int .i64 4, .bool false, .string ⟨#[94]⟩, .int .i64 6, .bool true, .string ⟨#[61]⟩, .int .i64 1, .bool true, .string ⟨#[60]⟩, .int .i64 (1 + 2 * x), .bool r] 27)).alloc (.cells #[] 27) = WA at *
  refine (below_any W v n g 6 _ hn HC.out HA.out.1 (by omega) (by omega)).mono ?_
  rintro e w3 ⟨k6, rfl, ⟨k0, k1⟩, hw3⟩
  obtain ⟨k, rfl⟩ := Int.eq_ofNat_of_zero_le k0
  have hk6 : k < 6 := by omega
  have H3 : Hid (Went W v n g w w3) := went_trans HA.out hw3
  have HX3 : Hid (w3.heap[w2.heap.size]? = some (.cells #[.string ⟨#[43]⟩, .int .i64 2, .bool false, .string ⟨#[45]⟩, .int .i64 2, .bool false, .string ⟨#[42]⟩, .int .i64 4, .bool false, .string ⟨#[94]⟩, .int .i64 6, .bool true, .string ⟨#[61]⟩, .int .i64 1, .bool true, .string ⟨#[60]⟩, .int .i64 (1 + 2 * x), .bool r] 27 (0, 0))) := (hw3.2.block _ (Array.getElem?_eq_some_iff.1 HXA.out).1 (fun e => by have := Option.some.inj e; omega)).trans HXA.out
  have HO3 : Hid (Held (fun k => k < w.heap.size) w3 (fun V => Ops V (.slice (some ⟨w2.heap.size + 1, 0, none⟩) 0 0) [])) := fun V _ _ => ⟨⟨some ⟨w2.heap.size + 1, 0, none⟩, 0, rfl, (fun h => nomatch h), fun h0 => absurd h0 (by decide)⟩, fun _ _ _ e => by cases e; exact Nat.le_refl _⟩
  clear hw3 HXA HOE k0 k1
  go_wp2
  go_loopw [4, 6] (fun ov4 iv wr => ∃ (i : Nat) (xs : List OpD) (oa : Option Addr) (oc : Nat), iv = .int .i64 i ∧ ov4 = .slice oa xs.length oc ∧ i ≤ 5 ∧ (i = 0 → xs = []) ∧ (0 < i → opsB xs = true) ∧ wr.heap[w2.heap.size]? = some (.cells #[.string ⟨#[43]⟩, .int .i64 2, .bool false, .string ⟨#[45]⟩, .int .i64 2, .bool false, .string ⟨#[42]⟩, .int .i64 4, .bool false, .string ⟨#[94]⟩, .int .i64 6, .bool true, .string ⟨#[61]⟩, .int .i64 1, .bool true, .string ⟨#[60]⟩, .int .i64 (1 + 2 * x), .bool r] 27 (0, 0)) ∧ Held (fun k => k < w.heap.size) wr (fun V => Ops V (.slice oa xs.length oc) xs) ∧ Went W v n g w wr) (fun _ iv _ => 6 - (intOf iv).toNat)
  case atStart => exact ⟨0, [], _, _, rfl, rfl, by omega, fun _ => rfl, fun h => absurd h (by decide), HX3.out, HO3.out, H3.out⟩
  case round =>
    obtain ⟨i, xs, oa, oc, rfl, rfl, hi5, hx0, hxr, hX, hHo, hWt⟩ := hrel
    have HXr : Hid (wr.heap[w2.heap.size]? = some (.cells #[.string ⟨#[43]⟩, .int .i64 2, .bool false, .string ⟨#[45]⟩, .int .i64 2, .bool false, .string ⟨#[42]⟩, .int .i64 4, .bool false, .string ⟨#[94]⟩, .int .i64 6, .bool true, .string ⟨#[61]⟩, .int .i64 1, .bool true, .string ⟨#[60]⟩, .int .i64 (1 + 2 * x), .bool r] 27 (0, 0))) := hX
    have HHo : Hid (Held (fun k => k < w.heap.size) wr (fun V => Ops V (.slice oa xs.length oc) xs)) := hHo
    have HWt : Hid (Went W v n g w wr) := hWt
    have H0 : Hid (i = 0 → xs = []) := hx0
    have H0r : Hid (0 < i → opsB xs = true) := hxr
    have hl6 : xs.length ≤ 6 := by
      by_cases hi0 : i = 0
      · rw [hx0 hi0]; exact Nat.zero_le _
      · exact ops_six (hxr (by omega))
    clear hX hHo hWt hx0 hxr HX3 HO3 H3 HA
    go_wp2_with fail
    refine (below_any W v n g 4 _ hn HC.out HWt.out.1 (by omega) (by omega)).mono ?_
    rintro e W5 ⟨m, rfl, ⟨m0, m1⟩, hw5⟩
    have H5 : Hid (Went W v n g w W5) := went_trans HWt.out hw5
    have X5 : W5.heap[w2.heap.size]? = some (.cells #[.string ⟨#[43]⟩, .int .i64 2, .bool false, .string ⟨#[45]⟩, .int .i64 2, .bool false, .string ⟨#[42]⟩, .int .i64 4, .bool false, .string ⟨#[94]⟩, .int .i64 6, .bool true, .string ⟨#[61]⟩, .int .i64 1, .bool true, .string ⟨#[60]⟩, .int .i64 (1 + 2 * x), .bool r] 27 (0, 0)) := (hw5.2.block _ (Array.getElem?_eq_some_iff.1 HXr.out).1 (fun e => by have := Option.some.inj e; omega)).trans HXr.out
    have HO5h : Hid (Held (fun k => k < w.heap.size) W5 (fun V => Ops V (.slice oa xs.length oc) xs)) := HHo.out.fr ⟨hw5.2.size, fun k hk hn => hw5.2.block k hk (fun e => hn (by have := Option.some.inj e; show k < w.heap.size; omega))⟩
    have HO5 : Hid (Ops W5 (.slice oa xs.length oc) xs) := HO5h.out.here
    have HX5 : Hid (W5.heap[w2.heap.size]? = some (.cells #[.string ⟨#[43]⟩, .int .i64 2, .bool false, .string ⟨#[45]⟩, .int .i64 2, .bool false, .string ⟨#[42]⟩, .int .i64 4, .bool false, .string ⟨#[94]⟩, .int .i64 6, .bool true, .string ⟨#[61]⟩, .int .i64 1, .bool true, .string ⟨#[60]⟩, .int .i64 (1 + 2 * x), .bool r] 27 (0, 0))) := X5
    have wm : IntKind.i64.wrap (1 + m) = 1 + m := by rw [IntKind.wrap_i64]; omega
    clear hw5 HXr HHo
    by_cases hlt : (i : Int) < 1 + m
    · have dl : decide ((i : Int) < 1 + m) = true := decide_eq_true hlt
      have wki : IntKind.i64.wrap ((k : Int) + (i : Int)) = ((k + i : Nat) : Int) := by rw [IntKind.wrap_i64]; omega
      have tki : ((k + i : Nat) : Int).tmod 6 = (((k + i) % 6 : Nat) : Int) := by rw [Int.tmod_eq_emod_of_nonneg (by omega)]; omega
      have tki2 : ((k : Int) + (i : Int)).tmod 6 = (((k + i) % 6 : Nat) : Int) := by rw [← tki]; congr 1
      have hj : (k + i) % 6 < 6 := Nat.mod_lt _ (by decide)
      obtain ⟨q0, q1, q2⟩ := alls_cells x r ((k + i) % 6) hj
      have HRt : Hid (opsB [(alls x r)[(k + i) % 6]'hj] = true) := alls_right x x0 x1 r _ hj
      generalize (alls x r)[(k + i) % 6]'hj = X at *
      generalize (k + i) % 6 = j at *
      have n0 := run_cell X5 q0
      have n1 := run_cell X5 q1
      have n2 := run_cell X5 q2
      have ij : (j : Int) < 6 := by omega
      obtain ⟨sg, lv, rt⟩ := X
      have n0 : W5.cell? ⟨w2.heap.size, j * 3, none⟩ = some (.string sg) := n0
      have n1 : W5.cell? ⟨w2.heap.size, j * 3 + 1, none⟩ = some (.int .i64 lv) := n1
      have n2 : W5.cell? ⟨w2.heap.size, j * 3 + 2, none⟩ = some (.bool rt) := n2
      have lB := H5.out.2.size
      clear X5 q0 q1 q2
      go_upto_region 7 with fail
      go_cut [7] from 31 to 42 (fun v7 wx => ∃ (na : Option Addr) (nc : Nat), v7 = .slice na (xs.length + 1) nc ∧ Held (fun k => k < W5.heap.size) wx (fun V => Ops V (.slice na (xs.length + 1) nc) (xs ++ [⟨sg, lv, rt⟩])) ∧ Below W5.heap.size W5 wx)
      case first =>
        refine wp_region_held_drew (S := fun V => V.cell? ⟨w2.heap.size, j * 3, none⟩ = some (.string sg) ∧ V.cell? ⟨w2.heap.size, j * 3 + 1, none⟩ = some (.int .i64 lv) ∧ V.cell? ⟨w2.heap.size, j * 3 + 2, none⟩ = some (.bool rt)) (by kernel_rfl) ?_ (fun hHeld => ?_)
        · (try dsimp only)
          go_keep
        refine wpAnyH_take (i := 1) (v := ?_) rfl (by kernel_rfl) (by kernel_rfl) (by kernel_rfl) (fun _ _ _ h => h) (Or.inl ⟨by rfl, ?_⟩) hHeld ?_
        rotate_left
        · intro w hSw
          (try dsimp only at hSw)
          go_simp
          (try with_reducible rfl)
        refine wpAnyH_take (i := 3) (v := ?_) rfl (by kernel_rfl) (by kernel_rfl) (by kernel_rfl) (fun _ _ _ h => h) (Or.inl ⟨by rfl, ?_⟩) hHeld ?_
        rotate_left
        · intro w hSw
          (try dsimp only at hSw)
          go_simp
          (try with_reducible rfl)
        refine wpAnyH_take (i := 4) (v := ?_) rfl (by kernel_rfl) (by kernel_rfl) (by kernel_rfl) (fun _ _ _ h => h) (Or.inl ⟨by rfl, ?_⟩) hHeld ?_
        rotate_left
        · intro w hSw
          (try dsimp only at hSw)
          go_simp
          (try with_reducible rfl)
        refine wpAnyH_take (i := 5) (v := ?_) rfl (by kernel_rfl) (by kernel_rfl) (by kernel_rfl) (fun _ _ _ h => h) (Or.inl ⟨by rfl, ?_⟩) hHeld ?_
        rotate_left
        · intro w hSw
          (try dsimp only at hSw)
          go_simp
          (try with_reducible rfl)
        refine wpAnyH_take (i := 6) (v := ?_) rfl (by kernel_rfl) (by kernel_rfl) (by kernel_rfl) (fun _ _ _ h => h) (Or.inl ⟨by rfl, ?_⟩) hHeld ?_
        rotate_left
        · intro w hSw
          (try dsimp only at hSw)
          go_simp
          (try with_reducible rfl)
        refine wpAnyH_take (i := 7) (v := ?_) rfl (by kernel_rfl) (by kernel_rfl) (by kernel_rfl) (fun _ _ _ h => h) (Or.inl ⟨by rfl, ?_⟩) hHeld ?_
        rotate_left
        · intro w hSw
          (try dsimp only at hSw)
          go_simp
          (try with_reducible rfl)
        refine wpAnyH_take (i := 8) (v := ?_) rfl (by kernel_rfl) (by kernel_rfl) (by kernel_rfl) (fun _ _ _ h => h) (Or.inl ⟨by rfl, ?_⟩) hHeld ?_
        rotate_left
        · intro w hSw
          (try dsimp only at hSw)
          go_simp
          (try with_reducible rfl)
        refine wpAnyH_take (i := 9) (v := ?_) rfl (by kernel_rfl) (by kernel_rfl) (by kernel_rfl) (fun _ _ _ h => h) (Or.inl ⟨by rfl, ?_⟩) hHeld ?_
        rotate_left
        · intro w hSw
          (try dsimp only at hSw)
          go_simp
          (try with_reducible rfl)
        refine wpAnyH_ready (rs := [0, 10]) (by kernel_rfl) (by simp) ?_
        refine AllReadyH.cons rfl (fun K hK => ?_) (AllReadyH.cons rfl (fun K hK => ?_) AllReadyH.nil)
        · go_simp
          refine hK.out _ _ ?_ (fun hHeld => ?_)
          · (try dsimp only)
            go_keep
          clear hK K
          refine wpAnyH_ready (rs := [2, 10]) (by kernel_rfl) (by simp) ?_
          refine AllReadyH.cons rfl (fun K hK => ?_) (AllReadyH.cons rfl (fun K hK => ?_) AllReadyH.nil)
          · have BWa : Below W5.heap.size W5 (W5.alloc (.cells #[] 27)).drew := bel_drewO ((Below.refl _ _).alloc (Nat.le_refl _) _)
            have HE0 : (W5.alloc (.cells #[] 27)).drew.heap[W5.heap.size]? = some (.cells #[] 27 (0, 0)) := heap_alloc_new W5 _
            have hown0 : (W5.alloc (.cells #[] 27)).drew.ownsRow W5.heap.size 27 3 (.slice (some ⟨W5.heap.size, 0, none⟩) 0 0) 0 [] := ⟨rfl, .inr ⟨W5.heap.size, 0, #[], rfl, by omega, HE0, Nat.le_refl _, Nat.zero_le _, rfl, rfl⟩⟩
            refine step_append_opsF rfl _ _ 28 rfl W5.heap.size r0 _ Try.underlying28 hr hr0 hr1 hr2 rfl _ 0 [] (by first | (simp [Act.eval]; done) | simp [Act.eval, Act.put]) hown0 xs oa oc (by first | (simp [Act.eval]; done) | simp [Act.eval, Act.put]) (HO5.out.below BWa) (by omega) (by have := BWa.size; omega) ?_
            intro v7 w7 hown7 hgr7
            rw [Nat.zero_add, List.nil_append] at hown7
            have B57 : Below W5.heap.size W5 w7 := BWa.grown hgr7 BWa.size (fun k hk => by have : W5.heap.size = k := Option.some.inj hk; omega)
            have l57 := B57.size
            refine hK.out _ _ ?_ (fun hHeld => ?_)
            · (try dsimp only)
              exact ⟨cell_keep n0 B57, cell_keep n1 B57, cell_keep n2 B57⟩
            clear hK K
            refine wpAnyH_ready (rs := [10]) (by kernel_rfl) (by simp) ?_
            refine AllReadyH.cons rfl (fun K hK => ?_) AllReadyH.nil
            go_simp
            refine hK.out _ _ ?_ (fun hHeld => ?_)
            · (try dsimp only)
              exact ⟨cell_keep n0 (B57.alloc l57 _), cell_keep n1 (B57.alloc l57 _), cell_keep n2 (B57.alloc l57 _)⟩
            clear hK K
            refine wpAnyH_ready (rs := [11]) (by kernel_rfl) (by simp) ?_
            refine AllReadyH.cons rfl (fun K hK => ?_) AllReadyH.nil
            have hownx := own_below hown7 ((Below.refl w7.heap.size w7).alloc (Nat.le_refl _) (.cells #[.string sg, .int .i64 lv, .bool rt] 27))
            have B5x : Below W5.heap.size W5 (w7.alloc (.cells #[.string sg, .int .i64 lv, .bool rt] 27)) := B57.alloc l57 _
            have HNx : (w7.alloc (.cells #[.string sg, .int .i64 lv, .bool rt] 27)).heap[w7.heap.size]? = some (.cells #[.string sg, .int .i64 lv, .bool rt] 27 (0, 0)) := heap_alloc_new w7 _
            have HOx : Ops (w7.alloc (.cells #[.string sg, .int .i64 lv, .bool rt] 27)) (.slice (some ⟨w7.heap.size, 0, none⟩) 1 1) [⟨sg, lv, rt⟩] := ops_block (xs := [⟨sg, lv, rt⟩]) HNx (fun i hi => by
              have hi : i < 1 := hi
              obtain rfl : i = 0 := by omega
              exact ⟨rfl, rfl, rfl⟩)
            refine step_append_opsF rfl _ _ 28 rfl W5.heap.size r0 _ Try.underlying28 hr hr0 hr1 hr2 rfl v7 xs.length (ov xs) (by first | (simp [Act.eval]; done) | simp [Act.eval, Act.put]) hownx [⟨sg, lv, rt⟩] (some ⟨w7.heap.size, 0, none⟩) 1 (by first | (simp [Act.eval]; done) | simp [Act.eval, Act.put]) HOx (by show xs.length + 1 ≤ _; omega) (by have := B5x.size; omega) ?_
            intro v8 w8 hown8 hgr8
            have B58 : Below W5.heap.size W5 w8 := B5x.grown hgr8 B5x.size (fun k hk => own_low hownx hk)
            refine hK.out _ _ ?_ (fun hHeld => ?_)
            · (try dsimp only)
              exact ⟨cell_keep n0 B58, cell_keep n1 B58, cell_keep n2 B58⟩
            clear hK K
            refine wpAnyH_take (i := 12) (v := ?_) rfl (by kernel_rfl) (by kernel_rfl) (by kernel_rfl) (fun _ _ _ h => h) (Or.inl ⟨by rfl, ?_⟩) hHeld ?_
            rotate_left
            · intro w hSw
              (try dsimp only at hSw)
              go_simp
              (try with_reducible rfl)
            refine wpAnyH_done (by kernel_rfl) ?_ _
            (try go_wp2_with fail)
            have hHn : Held (fun k => k < W5.heap.size) w8 (fun V => Ops V v8 (xs ++ [⟨sg, lv, rt⟩])) := own_held (by rw [← ov_app] at hown8; rw [List.length_append]; exact hown8) (fun k hk => hk)
            obtain ⟨na, nc, hv8⟩ := Ops.slice hHn.here
            rw [List.length_append] at hv8
            have hv8 : v8 = .slice na (xs.length + 1) nc := hv8
            rw [hv8] at hHn
            go_meet
            exact ⟨na, nc, hv8, hHn, B58⟩
          · go_simp
            refine hK.out _ _ ?_ (fun hHeld => ?_)
            · (try dsimp only)
              go_keep
            clear hK K
            refine wpAnyH_ready (rs := [2]) (by kernel_rfl) (by simp) ?_
            refine AllReadyH.cons rfl (fun K hK => ?_) AllReadyH.nil
            have BWa : Below W5.heap.size W5 ((W5.alloc (.cells #[] 27)).alloc (.cells #[.string sg, .int .i64 lv, .bool rt] 27)).drew := bel_drewO (((Below.refl _ _).alloc (Nat.le_refl _) _).alloc (by simp) _)
            have HE0 : ((W5.alloc (.cells #[] 27)).alloc (.cells #[.string sg, .int .i64 lv, .bool rt] 27)).drew.heap[W5.heap.size]? = some (.cells #[] 27 (0, 0)) := (Below.heap_alloc _ _ _ (by simp)).trans (heap_alloc_new W5 _)
            have hown0 : ((W5.alloc (.cells #[] 27)).alloc (.cells #[.string sg, .int .i64 lv, .bool rt] 27)).drew.ownsRow W5.heap.size 27 3 (.slice (some ⟨W5.heap.size, 0, none⟩) 0 0) 0 [] := ⟨rfl, .inr ⟨W5.heap.size, 0, #[], rfl, by omega, HE0, Nat.le_refl _, Nat.zero_le _, rfl, rfl⟩⟩
            refine step_append_opsF rfl _ _ 28 rfl W5.heap.size r0 _ Try.underlying28 hr hr0 hr1 hr2 rfl _ 0 [] (by first | (simp [Act.eval]; done) | simp [Act.eval, Act.put]) hown0 xs oa oc (by first | (simp [Act.eval]; done) | simp [Act.eval, Act.put]) (HO5.out.below BWa) (by omega) (by have := BWa.size; omega) ?_
            intro v7 w7 hown7 hgr7
            rw [Nat.zero_add, List.nil_append] at hown7
            have B57 : Below W5.heap.size W5 w7 := BWa.grown hgr7 BWa.size (fun k hk => by have : W5.heap.size = k := Option.some.inj hk; omega)
            have l57 := B57.size
            refine hK.out _ _ ?_ (fun hHeld => ?_)
            · (try dsimp only)
              exact ⟨cell_keep n0 B57, cell_keep n1 B57, cell_keep n2 B57⟩
            clear hK K
            refine wpAnyH_ready (rs := [11]) (by kernel_rfl) (by simp) ?_
            refine AllReadyH.cons rfl (fun K hK => ?_) AllReadyH.nil
            have hownx := hown7
            have B5x : Below W5.heap.size W5 w7 := B57
            have HNx : w7.heap[W5.heap.size + 1]? = some (.cells #[.string sg, .int .i64 lv, .bool rt] 27 (0, 0)) := (hgr7.block (W5.heap.size + 1) (by simp) (fun e => by have : W5.heap.size + 1 = W5.heap.size := Option.some.inj e; omega)).trans (by
              have := heap_alloc_new (W5.alloc (.cells #[] 27)) (.cells #[.string sg, .int .i64 lv, .bool rt] 27)
              rwa [show (W5.alloc (.cells #[] 27)).heap.size = W5.heap.size + 1 by simp] at this)
            have HOx : Ops w7 (.slice (some ⟨W5.heap.size + 1, 0, none⟩) 1 1) [⟨sg, lv, rt⟩] := ops_block (xs := [⟨sg, lv, rt⟩]) HNx (fun i hi => by
              have hi : i < 1 := hi
              obtain rfl : i = 0 := by omega
              exact ⟨rfl, rfl, rfl⟩)
            refine step_append_opsF rfl _ _ 28 rfl W5.heap.size r0 _ Try.underlying28 hr hr0 hr1 hr2 rfl v7 xs.length (ov xs) (by first | (simp [Act.eval]; done) | simp [Act.eval, Act.put]) hownx [⟨sg, lv, rt⟩] (some ⟨W5.heap.size + 1, 0, none⟩) 1 (by first | (simp [Act.eval]; done) | simp [Act.eval, Act.put]) HOx (by show xs.length + 1 ≤ _; omega) (by have := B5x.size; omega) ?_
            intro v8 w8 hown8 hgr8
            have B58 : Below W5.heap.size W5 w8 := B5x.grown hgr8 B5x.size (fun k hk => own_low hownx hk)
            refine hK.out _ _ ?_ (fun hHeld => ?_)
            · (try dsimp only)
              exact ⟨cell_keep n0 B58, cell_keep n1 B58, cell_keep n2 B58⟩
            clear hK K
            refine wpAnyH_take (i := 12) (v := ?_) rfl (by kernel_rfl) (by kernel_rfl) (by kernel_rfl) (fun _ _ _ h => h) (Or.inl ⟨by rfl, ?_⟩) hHeld ?_
            rotate_left
            · intro w hSw
              (try dsimp only at hSw)
              go_simp
              (try with_reducible rfl)
            refine wpAnyH_done (by kernel_rfl) ?_ _
            (try go_wp2_with fail)
            have hHn : Held (fun k => k < W5.heap.size) w8 (fun V => Ops V v8 (xs ++ [⟨sg, lv, rt⟩])) := own_held (by rw [← ov_app] at hown8; rw [List.length_append]; exact hown8) (fun k hk => hk)
            obtain ⟨na, nc, hv8⟩ := Ops.slice hHn.here
            rw [List.length_append] at hv8
            have hv8 : v8 = .slice na (xs.length + 1) nc := hv8
            rw [hv8] at hHn
            go_meet
            exact ⟨na, nc, hv8, hHn, B58⟩
        · go_simp
          refine hK.out _ _ ?_ (fun hHeld => ?_)
          · (try dsimp only)
            go_keep
          clear hK K
          refine wpAnyH_ready (rs := [0]) (by kernel_rfl) (by simp) ?_
          refine AllReadyH.cons rfl (fun K hK => ?_) AllReadyH.nil
          go_simp
          refine hK.out _ _ ?_ (fun hHeld => ?_)
          · (try dsimp only)
            go_keep
          clear hK K
          refine wpAnyH_ready (rs := [2]) (by kernel_rfl) (by simp) ?_
          refine AllReadyH.cons rfl (fun K hK => ?_) AllReadyH.nil
          have BWa : Below W5.heap.size W5 ((W5.alloc (.cells #[.string sg, .int .i64 lv, .bool rt] 27)).alloc (.cells #[] 27)).drew := bel_drewO (((Below.refl _ _).alloc (Nat.le_refl _) _).alloc (by simp) _)
          have HE0 : ((W5.alloc (.cells #[.string sg, .int .i64 lv, .bool rt] 27)).alloc (.cells #[] 27)).drew.heap[(W5.heap.size + 1)]? = some (.cells #[] 27 (0, 0)) := (by
            have := heap_alloc_new (W5.alloc (.cells #[.string sg, .int .i64 lv, .bool rt] 27)) (.cells #[] 27)
            rwa [show (W5.alloc (.cells #[.string sg, .int .i64 lv, .bool rt] 27)).heap.size = W5.heap.size + 1 by simp] at this)
          have hown0 : ((W5.alloc (.cells #[.string sg, .int .i64 lv, .bool rt] 27)).alloc (.cells #[] 27)).drew.ownsRow W5.heap.size 27 3 (.slice (some ⟨(W5.heap.size + 1), 0, none⟩) 0 0) 0 [] := ⟨rfl, .inr ⟨(W5.heap.size + 1), 0, #[], rfl, by omega, HE0, Nat.le_refl _, Nat.zero_le _, rfl, rfl⟩⟩
          refine step_append_opsF rfl _ _ 28 rfl W5.heap.size r0 _ Try.underlying28 hr hr0 hr1 hr2 rfl _ 0 [] (by first | (simp [Act.eval]; done) | simp [Act.eval, Act.put]) hown0 xs oa oc (by first | (simp [Act.eval]; done) | simp [Act.eval, Act.put]) (HO5.out.below BWa) (by omega) (by have := BWa.size; omega) ?_
          intro v7 w7 hown7 hgr7
          rw [Nat.zero_add, List.nil_append] at hown7
          have B57 : Below W5.heap.size W5 w7 := BWa.grown hgr7 BWa.size (fun k hk => by have : (W5.heap.size + 1) = k := Option.some.inj hk; omega)
          have l57 := B57.size
          refine hK.out _ _ ?_ (fun hHeld => ?_)
          · (try dsimp only)
            exact ⟨cell_keep n0 B57, cell_keep n1 B57, cell_keep n2 B57⟩
          clear hK K
          refine wpAnyH_ready (rs := [11]) (by kernel_rfl) (by simp) ?_
          refine AllReadyH.cons rfl (fun K hK => ?_) AllReadyH.nil
          have hownx := hown7
          have B5x : Below W5.heap.size W5 w7 := B57
          have HNx : w7.heap[W5.heap.size]? = some (.cells #[.string sg, .int .i64 lv, .bool rt] 27 (0, 0)) := (hgr7.block W5.heap.size (by simp; omega) (fun e => by have : W5.heap.size = W5.heap.size + 1 := Option.some.inj e; omega)).trans ((Below.heap_alloc _ _ _ (by simp)).trans (heap_alloc_new W5 _))
          have HOx : Ops w7 (.slice (some ⟨W5.heap.size, 0, none⟩) 1 1) [⟨sg, lv, rt⟩] := ops_block (xs := [⟨sg, lv, rt⟩]) HNx (fun i hi => by
            have hi : i < 1 := hi
            obtain rfl : i = 0 := by omega
            exact ⟨rfl, rfl, rfl⟩)
          refine step_append_opsF rfl _ _ 28 rfl W5.heap.size r0 _ Try.underlying28 hr hr0 hr1 hr2 rfl v7 xs.length (ov xs) (by first | (simp [Act.eval]; done) | simp [Act.eval, Act.put]) hownx [⟨sg, lv, rt⟩] (some ⟨W5.heap.size, 0, none⟩) 1 (by first | (simp [Act.eval]; done) | simp [Act.eval, Act.put]) HOx (by show xs.length + 1 ≤ _; omega) (by have := B5x.size; omega) ?_
          intro v8 w8 hown8 hgr8
          have B58 : Below W5.heap.size W5 w8 := B5x.grown hgr8 B5x.size (fun k hk => own_low hownx hk)
          refine hK.out _ _ ?_ (fun hHeld => ?_)
          · (try dsimp only)
            exact ⟨cell_keep n0 B58, cell_keep n1 B58, cell_keep n2 B58⟩
          clear hK K
          refine wpAnyH_take (i := 12) (v := ?_) rfl (by kernel_rfl) (by kernel_rfl) (by kernel_rfl) (fun _ _ _ h => h) (Or.inl ⟨by rfl, ?_⟩) hHeld ?_
          rotate_left
          · intro w hSw
            (try dsimp only at hSw)
            go_simp
            (try with_reducible rfl)
          refine wpAnyH_done (by kernel_rfl) ?_ _
          (try go_wp2_with fail)
          have hHn : Held (fun k => k < W5.heap.size) w8 (fun V => Ops V v8 (xs ++ [⟨sg, lv, rt⟩])) := own_held (by rw [← ov_app] at hown8; rw [List.length_append]; exact hown8) (fun k hk => hk)
          obtain ⟨na, nc, hv8⟩ := Ops.slice hHn.here
          rw [List.length_append] at hv8
          have hv8 : v8 = .slice na (xs.length + 1) nc := hv8
          rw [hv8] at hHn
          go_meet
          exact ⟨na, nc, hv8, hHn, B58⟩
      case rest =>
        obtain ⟨na, nc, rfl, hH8, hb8⟩ := hcut
        have HN : Hid (Held (fun k => k < W5.heap.size) wc (fun V => Ops V (.slice na (xs.length + 1) nc) (xs ++ [⟨sg, lv, rt⟩]))) := hH8
        have B8 : Hid (Below W5.heap.size W5 wc) := hb8
        have hyl : (xs ++ [(⟨sg, lv, rt⟩ : OpD)]).length = xs.length + 1 := by rw [List.length_append]; rfl
        have Hyl : Hid ((xs ++ [(⟨sg, lv, rt⟩ : OpD)]).length = xs.length + 1) := hyl
        have HSp : Hid (∀ V : World, Ops V (.slice na (xs.length + 1) nc) (xs ++ [(⟨sg, lv, rt⟩ : OpD)]) → Calls Try.prog 27 #[.slice na (xs.length + 1) nc] V fun e w' => e = .returned (.bool (opsB (xs ++ [(⟨sg, lv, rt⟩ : OpD)]))) ∧ Below V.heap.size V w') := fun V hV => specOpsOk_any _ _ V (by rw [Hyl.out]; omega) hV
        clear hH8 hb8 hyl
        go_wp2_with fail
        refine (HSp.out _ HN.out.here).mono ?_
        rintro e w9 ⟨rfl, hb9⟩
        have B59 : Hid (Below W5.heap.size W5 w9) := B8.out.trans (hb9.mono B8.out.size)
        have HX9 : Hid (w9.heap[w2.heap.size]? = some (.cells #[.string ⟨#[43]⟩, .int .i64 2, .bool false, .string ⟨#[45]⟩, .int .i64 2, .bool false, .string ⟨#[42]⟩, .int .i64 4, .bool false, .string ⟨#[94]⟩, .int .i64 6, .bool true, .string ⟨#[61]⟩, .int .i64 1, .bool true, .string ⟨#[60]⟩, .int .i64 (1 + 2 * x), .bool r] 27 (0, 0))) := (B59.out.block _ (Array.getElem?_eq_some_iff.1 HX5.out).1).trans HX5.out
        have HN9 : Hid (Held (fun k => k < w.heap.size) w9 (fun V => Ops V (.slice na (xs.length + 1) nc) (xs ++ [(⟨sg, lv, rt⟩ : OpD)]))) := (HN.out.away (fun k _ hk => by show k < W5.heap.size; have : k < w.heap.size := hk; omega)).fr (FrA.below hb9)
        have HO9 : Hid (Held (fun k => k < w.heap.size) w9 (fun V => Ops V (.slice oa xs.length oc) xs)) := HO5h.out.fr (FrA.below B59.out)
        have H9 : Hid (Went W v n g w w9) := went_below2 H5.out B59.out
        clear hb9
        cases hb : opsB (xs ++ [(⟨sg, lv, rt⟩ : OpD)]) with
        | true =>
          have HB : Hid (opsB (xs ++ [(⟨sg, lv, rt⟩ : OpD)]) = true) := hb
          clear hb
          generalize xs ++ [(⟨sg, lv, rt⟩ : OpD)] = ys at *
          rw [← Hyl.out] at HN9
          go_wp2
          go_roundw
          case rel => exact ⟨i + 1, ys, na, nc, by go_num, by rw [Hyl.out], by omega, (fun h => by omega), (fun _ => HB.out), HX9.out, HN9.out, H9.out⟩
          case measure => simp [intOf]; omega
        | false =>
          have hi0 : 0 < i := by
            rcases Nat.eq_zero_or_pos i with h | h
            · rw [H0.out h, List.nil_append] at hb
              have := HRt.out
              rw [hb] at this
              cases this
            · exact h
          have HB : Hid (opsB xs = true) := H0r.out hi0
          clear hb
          generalize xs ++ [(⟨sg, lv, rt⟩ : OpD)] = ys at *
          go_wp2
          go_roundw
          case rel => exact ⟨i + 1, xs, oa, oc, by go_num, rfl, by omega, (fun h => by omega), (fun _ => HB.out), HX9.out, HO9.out, H9.out⟩
          case measure => simp [intOf]; omega
    · have dl : decide ((i : Int) < 1 + m) = false := decide_eq_false hlt
      have HRt : Hid (opsB xs = true) := H0r.out (by omega)
      clear HX5 X5
      go_wp2
      go_ret
      exact ⟨xs, oa, oc, HRt.out, rfl, HO5h.out, H5.out⟩

end Go.Proofs.Ytkojkicfibmjdaa
