/- Shapes: rows in memory whose cells are of the kinds that a table gives their type, whatever they hold; a number or a text written into a cell of its kind keeps every shape. No program is named. -/
/- What marking keeps: every shape, the lists that rows hold, and all that lies outside. -/
import Derived.Test.YtofpoiccghpliaaGreatDoorRO
import Derived.Test.YtofpoiccghpliaaGreatDoorXMark
import Derived.Test.YtofpoiccghpliaaGreatDoorSKit
namespace Go.Proofs.YtofpoiccghpliaaGreatDoor
open Go.RowKit
set_option linter.unusedVariables false

inductive FK where
  | int : FK
  | str : FK
  | row : TypeId → FK
/-- v is of a kind, in w, and reaches c numbers and texts; its rows lie from B on below H. -/
def Shp (τ : TypeId → List FK) (B H : Nat) : Nat → FK → World → Value → Nat → Prop
  | _, .int, _, v, c => (∃ z, v = .int .i64 z) ∧ c = 1
  | _, .str, _, v, c => (∃ s, v = .string s) ∧ c = 1
  | 0, .row _, _, _, _ => False
  | n + 1, .row t, w, v, c => (∀ k, v.ownBlock = some k → k < H) ∧ ∃ (len : Nat) (cs : List Value) (ns : List Nat), w.ownsRow B t (τ t).length v len cs ∧ ns.length = cs.length ∧ c = ns.sum ∧
      ∀ i (h : i < cs.length) (h' : i < ns.length), ∃ k, (τ t)[i % (τ t).length]? = some k ∧ Shp τ B H n k w cs[i] ns[i]
def Keeps (τ : TypeId → List FK) (B H : Nat) (w w' : World) : Prop := ∀ n k v c, Shp τ B H n k w v c → Shp τ B H n k w' v c
section
variable {τ : TypeId → List FK} {B H : Nat} {w w' w1 w2 : World}
theorem Keeps.refl (w : World) : Keeps τ B H w w := fun _ _ _ _ h => h
theorem Keeps.trans (h : Keeps τ B H w w1) (k : Keeps τ B H w1 w2) : Keeps τ B H w w2 := fun _ _ _ _ hs => k _ _ _ _ (h _ _ _ _ hs)
theorem shp_rows (hr : ∀ t s v n cs, w.ownsRow B t s v n cs → w'.ownsRow B t s v n cs) : Keeps τ B H w w' := by
  intro n
  induction n with
  | zero => intro k v c h; cases k <;> exact h
  | succ n ih =>
    intro k v c h
    cases k with
    | int => exact h
    | str => exact h
    | row t =>
      obtain ⟨h0, len, cs, ns, h1, h2, h3, h4⟩ := h
      refine ⟨h0, len, cs, ns, hr _ _ _ _ _ h1, h2, h3, fun i hi hi' => ?_⟩
      obtain ⟨k, hk, hs⟩ := h4 i hi hi'
      exact ⟨k, hk, ih k _ _ hs⟩
theorem Keeps.below (hb : Below w.heap.size w w') : Keeps τ B H w w' := shp_rows fun t s v n cs h => own_below h hb
/-- A scalar of a kind. -/
def Sca : FK → Value → Prop
  | .int, v => ∃ z, v = .int .i64 z
  | .str, v => ∃ s, v = .string s
  | .row _, _ => False
theorem Keeps.store {g o : Nat} {cur : Array Value} {t : TypeId} {u : Value} {k0 : FK} (hg : w.heap[g]? = some (.cells cur t (0, 0))) (hk : (τ t)[o % (τ t).length]? = some k0) (hu : Sca k0 u) : Keeps τ B H w (w.setCell ⟨g, o, none⟩ u) := by
  intro n
  induction n with
  | zero => intro k v c h; cases k <;> exact h
  | succ n ih =>
    intro k v c h
    cases k with
    | int => exact h
    | str => exact h
    | row t' =>
      obtain ⟨h0, len, cs, ns, h1, h2, h3, h4⟩ := h
      by_cases hv : v.ownBlock = some g
      · rcases h1.2 with ⟨rfl, _⟩ | ⟨g', cap', cur', rfl, hB, hc, r⟩
        · cases hv
        · obtain rfl : g' = g := Option.some.inj hv
          rw [hg] at hc
          obtain ⟨rfl, rfl, _⟩ : cur = cur' ∧ t = t' ∧ True := by cases hc; exact ⟨rfl, rfl, trivial⟩
          refine ⟨h0, len, cs.set o u, ns, (World.ownsRow.stored h1 o u).1, by rw [List.length_set]; exact h2, h3, fun i hi hi' => ?_⟩
          rw [List.length_set] at hi
          obtain ⟨k, hki, hs⟩ := h4 i hi hi'
          refine ⟨k, hki, ?_⟩
          rw [List.getElem_set]
          split
          · rename_i e
            subst e
            rw [hk] at hki
            obtain rfl := Option.some.inj hki
            cases k0 with
            | int =>
              have e2 : ns[o] = 1 := by cases n <;> exact hs.2
              rw [e2]
              cases n <;> exact ⟨hu, rfl⟩
            | str =>
              have e2 : ns[o] = 1 := by cases n <;> exact hs.2
              rw [e2]
              cases n <;> exact ⟨hu, rfl⟩
            | row _ => exact absurd hu id
          · exact ih k _ _ hs
      · refine ⟨h0, len, cs, ns, ?_, h2, h3, fun i hi hi' => ?_⟩
        · refine World.ownsRow.kept h1 (row := some g) ⟨rfl, rfl, rfl, by simp [World.setCell], fun k _ hk => ?_⟩ (.inr hv)
          simp only [World.setCell]
          rw [Array.getElem?_modify, if_neg (fun e => hk (by rw [e]))]
        · obtain ⟨k, hki, hs⟩ := h4 i hi hi'
          exact ⟨k, hki, ih k _ _ hs⟩
theorem mid_store {g o : Nat} {u : Value} (hB : B ≤ g) (hH : g < H) : Mid B H w (w.setCell ⟨g, o, none⟩ u) :=
  ⟨rfl, rfl, rfl, by simp [World.setCell], fun j _ hr => by
    simp only [World.setCell]
    rw [Array.getElem?_modify, if_neg (by omega)]⟩
/-- A row opened: its elements, one by one. -/
theorem Shp.open {n c : Nat} {t : TypeId} {v : Value} (h : Shp τ B H (n + 1) (.row t) w v c) (hz : 0 < (τ t).length) : ∃ a len cap, v = .slice a len cap ∧ (0 < len → ∃ g cur, a = some ⟨g, 0, none⟩ ∧ B ≤ g ∧ g < H ∧ w.heap[g]? = some (.cells cur t (0, 0))) := by
  obtain ⟨h0, len, cs, ns, h1, h2, h3, h4⟩ := h
  rcases h1.2 with ⟨rfl, hl⟩ | ⟨g, cap, cur, rfl, hB, hc, r⟩
  · exact ⟨none, 0, 0, rfl, fun h => absurd h (by omega)⟩
  · exact ⟨_, _, _, rfl, fun _ => ⟨g, cur, rfl, hB, h0 g rfl, hc⟩⟩
theorem sum_block (ns : List Nat) (m sz : Nat) : (ns.take ((m + 1) * sz)).sum = (ns.take (m * sz)).sum + ((ns.drop (m * sz)).take sz).sum := by
  rw [Nat.succ_mul, List.take_add, List.sum_append]
/-- How many are reached by the first m elements. -/
def cnt (ns : List Nat) (sz m : Nat) : Nat := (ns.take (m * sz)).sum
theorem cnt_all (ns : List Nat) (sz len : Nat) (h : ns.length = len * sz) : cnt ns sz len = ns.sum := by
  rw [cnt, List.take_of_length_le (by omega)]
theorem cnt_le (ns : List Nat) (sz m : Nat) : cnt ns sz m ≤ ns.sum := by
  unfold cnt
  have := List.sum_append (l₁ := ns.take (m * sz)) (l₂ := ns.drop (m * sz))
  rw [List.take_append_drop] at this
  omega
end

end Go.Proofs.YtofpoiccghpliaaGreatDoor

namespace Go.Proofs.YtofpoiccghpliaaGreatDoor
open Go.RowKit
set_option linter.unusedVariables false

structure Mk (τ : TypeId → List FK) (B H : Nat) (w w' : World) : Prop where
  mid : Mid B H w w'
  kp : Keeps τ B H w w'
  rows : ∀ (t : TypeId) (v : Value) (n : Nat) (cs : List Value), w.ownsRow B t (τ t).length v n cs → ∃ cs' : List Value, w'.ownsRow B t (τ t).length v n cs' ∧ ∀ i k, (τ t)[i % (τ t).length]? = some (.row k) → cs'[i]? = cs[i]?
section
variable {τ : TypeId → List FK} {B H : Nat} {w w' w1 w2 : World}
theorem Mk.refl (w : World) : Mk τ B H w w := ⟨Mid.refl _ _ _, Keeps.refl _, fun t v n cs h => ⟨cs, h, fun _ _ _ => rfl⟩⟩
theorem Mk.trans (h : Mk τ B H w w1) (k : Mk τ B H w1 w2) : Mk τ B H w w2 :=
  ⟨h.mid.trans k.mid, h.kp.trans k.kp, fun t v n cs hr => by
    obtain ⟨c1, h1, e1⟩ := h.rows t v n cs hr
    obtain ⟨c2, h2, e2⟩ := k.rows t v n c1 h1
    exact ⟨c2, h2, fun i kk hk => (e2 i kk hk).trans (e1 i kk hk)⟩⟩
theorem Mk.below (hb : Below w.heap.size w w') : Mk τ B H w w' := ⟨mid_below hb, Keeps.below hb, fun t v n cs h => ⟨cs, own_below h hb, fun _ _ _ => rfl⟩⟩
theorem Mk.store {g o : Nat} {cur : Array Value} {t : TypeId} {u : Value} {k0 : FK} (hg : w.heap[g]? = some (.cells cur t (0, 0))) (hB : B ≤ g) (hH : g < H) (hk : (τ t)[o % (τ t).length]? = some k0) (hu : Sca k0 u) : Mk τ B H w (w.setCell ⟨g, o, none⟩ u) := by
  refine ⟨mid_store hB hH, Keeps.store hg hk hu, fun t' v n cs h => ?_⟩
  by_cases hv : v.ownBlock = some g
  · rcases h.2 with ⟨rfl, _⟩ | ⟨g', cap', cur', rfl, hB', hc, r⟩
    · cases hv
    · obtain rfl : g' = g := Option.some.inj hv
      have ht : t = t' := by rw [hg] at hc; cases hc; rfl
      subst ht
      refine ⟨cs.set o u, (World.ownsRow.stored h o u).1, fun i kk hi => ?_⟩
      rw [List.getElem?_set]
      split
      · rename_i e
        subst e
        rw [hk] at hi
        obtain rfl := Option.some.inj hi
        exact absurd hu id
      · rfl
  · refine ⟨cs, World.ownsRow.kept h (row := some g) ⟨rfl, rfl, rfl, by simp [World.setCell], fun k _ hk => ?_⟩ (.inr hv), fun _ _ _ => rfl⟩
    simp only [World.setCell]
    rw [Array.getElem?_modify, if_neg (fun e => hk (by rw [e]))]
/-- A row opened at the start of its loop. -/
theorem Shp.rows {n c : Nat} {t : TypeId} {v : Value} (h : Shp τ B H (n + 1) (.row t) w v c) : ∃ (a : Option Addr) (len cap : Nat) (cs : List Value) (ns : List Nat), v = .slice a len cap ∧ w.ownsRow B t (τ t).length v len cs ∧ cs.length = len * (τ t).length ∧ ns.length = cs.length ∧ c = ns.sum ∧ (∀ k, v.ownBlock = some k → k < H) ∧ ∀ i (h : i < cs.length) (h' : i < ns.length), ∃ k, (τ t)[i % (τ t).length]? = some k ∧ Shp τ B H n k w cs[i] ns[i] := by
  obtain ⟨h0, len, cs, ns, h1, h2, h3, h4⟩ := h
  rcases h1.2 with ⟨rfl, hl⟩ | ⟨g, cap, cur, rfl, hB, hc, r⟩
  · subst hl
    exact ⟨none, 0, 0, cs, ns, rfl, h1, h1.1, h2, h3, h0, h4⟩
  · exact ⟨_, _, _, cs, ns, rfl, h1, h1.1, h2, h3, h0, h4⟩
/-- A place in a row, in a world behind marks. -/
theorem Mk.cell {t : TypeId} {a : Option Addr} {len cap i : Nat} {cs : List Value} (hm : Mk τ B H w w') (h : w.ownsRow B t (τ t).length (.slice a len cap) len cs) (hi : i < cs.length) : ∃ g cur u, a = some ⟨g, 0, none⟩ ∧ B ≤ g ∧ w'.heap[g]? = some (.cells cur t (0, 0)) ∧ w'.cell? ⟨g, i, none⟩ = some u ∧ w'.frozen? ⟨g, i, none⟩ = false ∧ ∀ k, (τ t)[i % (τ t).length]? = some (.row k) → u = cs[i] := by
  obtain ⟨cs', h1, h2⟩ := hm.rows _ _ _ _ h
  have hl : cs'.length = cs.length := h1.1.trans h.1.symm
  rcases h1.2 with ⟨h', h0⟩ | ⟨g, cap', cur, h', hB, hc, r⟩
  · have := h.1
    rw [h0, Nat.zero_mul] at this
    omega
  · cases h'
    have hi' : i < cs'.length := by omega
    have hc1 := World.ownsRow.cells h1 (g := g) rfl i cs'[i] (List.getElem?_eq_getElem hi')
    rw [Addr.add_lit, Nat.zero_add] at hc1
    refine ⟨g, cur, cs'[i], rfl, hB, hc, hc1, by simp [World.frozen?, hc], fun k hk => ?_⟩
    have := h2 i k hk
    rw [List.getElem?_eq_getElem hi', List.getElem?_eq_getElem hi] at this
    exact Option.some.inj this
theorem tk_next (ns : List Nat) (i : Nat) (h : i < ns.length) : (ns.take (i + 1)).sum = (ns.take i).sum + ns[i] := by
  rw [List.take_succ_eq_append_getElem h, List.sum_append, List.sum_cons, List.sum_nil, Nat.add_zero]
theorem tk_le (ns : List Nat) (i : Nat) : (ns.take i).sum ≤ ns.sum := by
  have := List.sum_append (l₁ := ns.take i) (l₂ := ns.drop i)
  rw [List.take_append_drop] at this
  omega
end

/-- The table of the types. -/
def tau (t : TypeId) : List FK :=
  if t = 3 then [.int] else if t = 9 then [.str]
  else if t = 138 then [.int, .int, .str, .row 3]
  else if t = 107 then [.row 138]
  else if t = 66 then [.int, .str, .row 107, .str]
  else if t = 63 then [.row 66]
  else if t = 43 then [.str, .row 9, .row 63]
  else []

set_option maxHeartbeats 1600000 in
theorem mkIntS {B H n c : Nat} (v : Value) (k : Int) (w : World) (hk0 : 0 ≤ k) (hk : k + c ≤ 1099511627776) (h : Shp tau B H (n + 1) (.row 3) w v c) :
    Calls Tryz.prog 97 #[v, .int .i64 k] w fun e w' => e = .returned (.int .i64 (k + c)) ∧ Mk tau B H w w' := by
  obtain ⟨a, len, cap, cs, ns, rfl, h1, hcl, hnl, rfl, hH, hel⟩ := h.rows
  have e1 : (tau 3).length = 1 := rfl
  rw [e1, Nat.mul_one] at hcl
  have H1 : Hid (w.ownsRow B 3 (tau 3).length (.slice a len cap) len cs) := h1
  have HH : Hid (∀ k, (Value.slice a len cap).ownBlock = some k → k < H) := hH
  have HEl : Hid (∀ i (h : i < cs.length) (h' : i < ns.length), ns[i] = 1) := fun i hi hi' => by
    obtain ⟨k, hk, hs⟩ := hel i hi hi'
    have : k = .int := by rw [e1, Nat.mod_one] at hk; exact (Option.some.inj hk).symm
    subst this
    cases n <;> exact hs.2
  have HCl : Hid (cs.length = len) := hcl
  have HNl : Hid (ns.length = cs.length) := hnl
  have hlen : len ≤ 1099511627776 := by
    have : ∀ (l : List Nat), (∀ i (h : i < l.length), l[i] = 1) → l.sum = l.length := fun l => by
      induction l with
      | nil => intro _; rfl
      | cons x l ih =>
        intro hh
        have h0 := hh 0 (by simp)
        have h2 := ih (fun i hi => hh (i + 1) (by simpa using hi))
        simp only [List.getElem_cons_zero] at h0
        rw [List.sum_cons, List.length_cons, h2, h0]; omega
    have h3 := this ns (fun i hi => HEl.out i (by omega) hi)
    omega
  clear h h1 hH hel e1 hcl hnl
  go_enter Tryz.func97, Tryz.ntmps97
  go_wp2
  go_loopw [1, 5] (fun kv iv wr => ∃ j : Nat, iv = .int .i64 j ∧ j ≤ len ∧ kv = .int .i64 (k + ((ns.take j).sum : Nat)) ∧ Mk tau B H w wr) (fun _ iv _ => len - (intOf iv).toNat)
  case atStart => exact ⟨0, rfl, Nat.zero_le _, by simp, Mk.refl _⟩
  case round =>
    obtain ⟨j, rfl, hj, rfl, hm⟩ := hrel
    have HM : Hid (Mk tau B H w wr) := hm
    clear hm
    by_cases hlt : j < len
    · have hjc : j < cs.length := by rw [HCl.out]; exact hlt
      have hjn : j < ns.length := by rw [HNl.out]; exact hjc
      obtain ⟨g, cur, u, rfl, hB, hcur, hcell, hfz, _⟩ := HM.out.cell H1.out hjc
      have HNx : Hid ((ns.take (j + 1)).sum = (ns.take j).sum + 1) := by rw [Hid, tk_next ns j hjn, HEl.out j hjc hjn]
      have hle := tk_le ns (j + 1)
      rw [HNx.out] at hle
      have MS : Hid (Mk tau B H w (wr.setCell ⟨g, j, none⟩ (.int .i64 (k + ((ns.take j).sum : Nat))))) := HM.out.trans (Mk.store hcur hB (HH.out g rfl) (k0 := .int) (by rw [show (tau 3).length = 1 from rfl, Nat.mod_one]; rfl) ⟨_, rfl⟩)
      have i4 : (j : Int) < (len : Int) := by omega
      clear hcur
      generalize (ns.take j).sum = sj at *
      go_wp2
      go_roundw
      case rel => exact ⟨j + 1, by go_num, by omega, by rw [HNx.out]; go_num, MS.out⟩
      case measure => simp [intOf]; omega
    · obtain rfl : j = len := by omega
      have HV : Hid ((ns.take j).sum = ns.sum) := by rw [Hid, List.take_of_length_le (by rw [HNl.out, HCl.out]; exact Nat.le_refl _)]
      rw [HV.out]
      have i4 : ¬ (j : Int) < (j : Int) := by omega
      go_wp2
      go_ret
      exact ⟨rfl, HM.out⟩

end Go.Proofs.YtofpoiccghpliaaGreatDoor
