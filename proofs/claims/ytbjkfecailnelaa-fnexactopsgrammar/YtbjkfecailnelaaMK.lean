/- What marking keeps: every shape, the lists that rows hold, and all that lies outside. -/
import Derived.Test.YtbjkfecailnelaaSH
import Derived.Test.YtbjkfecailnelaaMark
namespace Go.Proofs.Ytbjkfecailnelaa
open Go.RowKit
set_option linter.unusedVariables false

structure Mk (τ : TypeId → List FK) (B H : Nat) (w w' : World) : Prop where
  mid : Mid B H w w'
  kp : Keeps τ B H w w'
  rows : ∀ (t : TypeId) (v : Value) (n : Nat) (cs : List Value), w.ownsRow B t (τ t).length v n cs → ∃ cs' : List Value, w'.ownsRow B t (τ t).length v n cs' ∧ ∀ i k, (τ t)[i % (τ t).length]? = some (.row k) → cs'[i]? = cs[i]?
section
variable {τ : TypeId → List FK} {B H : Nat} {w w' w1 w2 : World}
theorem Mk.refl (w : World) : Mk τ B H w w := ⟨Mid.refl _ _ _, Keeps.refl _, fun t v n cs h => ⟨cs, h, fun _ _ _ => rfl⟩⟩
theorem Mk.trans (h : Mk τ B H w w1) (k : Mk τ B H w1 w2) : Mk τ B H w w2 :=
  ⟨h.mid.trans k.mid, h.kp.trans k.kp, fun t v n cs hr => by
    obtain ⟨c1, h1, e1⟩ := h.rows t v n cs hr
    obtain ⟨c2, h2, e2⟩ := k.rows t v n c1 h1
    exact ⟨c2, h2, fun i kk hk => (e2 i kk hk).trans (e1 i kk hk)⟩⟩
theorem Mk.below (hb : Below w.heap.size w w') : Mk τ B H w w' := ⟨mid_below hb, Keeps.below hb, fun t v n cs h => ⟨cs, own_below h hb, fun _ _ _ => rfl⟩⟩
theorem Mk.store {g o : Nat} {cur : Array Value} {t : TypeId} {u : Value} {k0 : FK} (hg : w.heap[g]? = some (.cells cur t (0, 0))) (hB : B ≤ g) (hH : g < H) (hk : (τ t)[o % (τ t).length]? = some k0) (hu : Sca k0 u) : Mk τ B H w (w.setCell ⟨g, o, none⟩ u) := by
  refine ⟨mid_store hB hH, Keeps.store hg hk hu, fun t' v n cs h => ?_⟩
  by_cases hv : v.ownBlock = some g
  · rcases h.2 with ⟨rfl, _⟩ | ⟨g', cap', cur', rfl, hB', hc, r⟩
    · cases hv
    · obtain rfl : g' = g := Option.some.inj hv
      have ht : t = t' := by rw [hg] at hc; cases hc; rfl
      subst ht
      refine ⟨cs.set o u, (World.ownsRow.stored h o u).1, fun i kk hi => ?_⟩
      rw [List.getElem?_set]
      split
      · rename_i e
        subst e
        rw [hk] at hi
        obtain rfl := Option.some.inj hi
        exact absurd hu id
      · rfl
  · refine ⟨cs, World.ownsRow.kept h (row := some g) ⟨rfl, rfl, rfl, by simp [World.setCell], fun k _ hk => ?_⟩ (.inr hv), fun _ _ _ => rfl⟩
    simp only [World.setCell]
    rw [Array.getElem?_modify, if_neg (fun e => hk (by rw [e]))]
/-- A row opened at the start of its loop. -/
theorem Shp.rows {n c : Nat} {t : TypeId} {v : Value} (h : Shp τ B H (n + 1) (.row t) w v c) : ∃ (a : Option Addr) (len cap : Nat) (cs : List Value) (ns : List Nat), v = .slice a len cap ∧ w.ownsRow B t (τ t).length v len cs ∧ cs.length = len * (τ t).length ∧ ns.length = cs.length ∧ c = ns.sum ∧ (∀ k, v.ownBlock = some k → k < H) ∧ ∀ i (h : i < cs.length) (h' : i < ns.length), ∃ k, (τ t)[i % (τ t).length]? = some k ∧ Shp τ B H n k w cs[i] ns[i] := by
  obtain ⟨h0, len, cs, ns, h1, h2, h3, h4⟩ := h
  rcases h1.2 with ⟨rfl, hl⟩ | ⟨g, cap, cur, rfl, hB, hc, r⟩
  · subst hl
    exact ⟨none, 0, 0, cs, ns, rfl, h1, h1.1, h2, h3, h0, h4⟩
  · exact ⟨_, _, _, cs, ns, rfl, h1, h1.1, h2, h3, h0, h4⟩
/-- A place in a row, in a world behind marks. -/
theorem Mk.cell {t : TypeId} {a : Option Addr} {len cap i : Nat} {cs : List Value} (hm : Mk τ B H w w') (h : w.ownsRow B t (τ t).length (.slice a len cap) len cs) (hi : i < cs.length) : ∃ g cur u, a = some ⟨g, 0, none⟩ ∧ B ≤ g ∧ w'.heap[g]? = some (.cells cur t (0, 0)) ∧ w'.cell? ⟨g, i, none⟩ = some u ∧ w'.frozen? ⟨g, i, none⟩ = false ∧ ∀ k, (τ t)[i % (τ t).length]? = some (.row k) → u = cs[i] := by
  obtain ⟨cs', h1, h2⟩ := hm.rows _ _ _ _ h
  have hl : cs'.length = cs.length := h1.1.trans h.1.symm
  rcases h1.2 with ⟨h', h0⟩ | ⟨g, cap', cur, h', hB, hc, r⟩
  · have := h.1
    rw [h0, Nat.zero_mul] at this
    omega
  · cases h'
    have hi' : i < cs'.length := by omega
    have hc1 := World.ownsRow.cells h1 (g := g) rfl i cs'[i] (List.getElem?_eq_getElem hi')
    rw [Addr.add_lit, Nat.zero_add] at hc1
    refine ⟨g, cur, cs'[i], rfl, hB, hc, hc1, by simp [World.frozen?, hc], fun k hk => ?_⟩
    have := h2 i k hk
    rw [List.getElem?_eq_getElem hi', List.getElem?_eq_getElem hi] at this
    exact Option.some.inj this
theorem tk_next (ns : List Nat) (i : Nat) (h : i < ns.length) : (ns.take (i + 1)).sum = (ns.take i).sum + ns[i] := by
  rw [List.take_succ_eq_append_getElem h, List.sum_append, List.sum_cons, List.sum_nil, Nat.add_zero]
theorem tk_le (ns : List Nat) (i : Nat) : (ns.take i).sum ≤ ns.sum := by
  have := List.sum_append (l₁ := ns.take i) (l₂ := ns.drop i)
  rw [List.take_append_drop] at this
  omega
end

/-- The table of the types. -/
def tau (t : TypeId) : List FK :=
  if t = 3 then [.int] else if t = 9 then [.str]
  else if t = 51 then [.int, .int, .str, .row 3]
  else if t = 47 then [.row 51]
  else if t = 54 then [.int, .str, .row 47, .str]
  else if t = 58 then [.row 54]
  else if t = 43 then [.str, .row 9, .row 58]
  else []

set_option maxHeartbeats 1600000 in
theorem mkIntS {B H n c : Nat} (v : Value) (k : Int) (w : World) (hk0 : 0 ≤ k) (hk : k + c ≤ 1099511627776) (h : Shp tau B H (n + 1) (.row 3) w v c) :
    Calls Try.prog 59 #[v, .int .i64 k] w fun e w' => e = .returned (.int .i64 (k + c)) ∧ Mk tau B H w w' := by
  obtain ⟨a, len, cap, cs, ns, rfl, h1, hcl, hnl, rfl, hH, hel⟩ := h.rows
  have e1 : (tau 3).length = 1 := rfl
  rw [e1, Nat.mul_one] at hcl
  have H1 : Hid (w.ownsRow B 3 (tau 3).length (.slice a len cap) len cs) := h1
  have HH : Hid (∀ k, (Value.slice a len cap).ownBlock = some k → k < H) := hH
  have HEl : Hid (∀ i (h : i < cs.length) (h' : i < ns.length), ns[i] = 1) := fun i hi hi' => by
    obtain ⟨k, hk, hs⟩ := hel i hi hi'
    have : k = .int := by rw [e1, Nat.mod_one] at hk; exact (Option.some.inj hk).symm
    subst this
    cases n <;> exact hs.2
  have HCl : Hid (cs.length = len) := hcl
  have HNl : Hid (ns.length = cs.length) := hnl
  have hlen : len ≤ 1099511627776 := by
    have : ∀ (l : List Nat), (∀ i (h : i < l.length), l[i] = 1) → l.sum = l.length := fun l => by
      induction l with
      | nil => intro _; rfl
      | cons x l ih =>
        intro hh
        have h0 := hh 0 (by simp)
        have h2 := ih (fun i hi => hh (i + 1) (by simpa using hi))
        simp only [List.getElem_cons_zero] at h0
        rw [List.sum_cons, List.length_cons, h2, h0]; omega
    have h3 := this ns (fun i hi => HEl.out i (by omega) hi)
    omega
  clear h h1 hH hel e1 hcl hnl
  go_enter Try.func59, Try.ntmps59
  go_wp2
  go_loopw [1, 5] (fun kv iv wr => ∃ j : Nat, iv = .int .i64 j ∧ j ≤ len ∧ kv = .int .i64 (k + ((ns.take j).sum : Nat)) ∧ Mk tau B H w wr) (fun _ iv _ => len - (intOf iv).toNat)
  case atStart => exact ⟨0, rfl, Nat.zero_le _, by simp, Mk.refl _⟩
  case round =>
    obtain ⟨j, rfl, hj, rfl, hm⟩ := hrel
    have HM : Hid (Mk tau B H w wr) := hm
    clear hm
    by_cases hlt : j < len
    · have hjc : j < cs.length := by rw [HCl.out]; exact hlt
      have hjn : j < ns.length := by rw [HNl.out]; exact hjc
      obtain ⟨g, cur, u, rfl, hB, hcur, hcell, hfz, _⟩ := HM.out.cell H1.out hjc
      have HNx : Hid ((ns.take (j + 1)).sum = (ns.take j).sum + 1) := by rw [Hid, tk_next ns j hjn, HEl.out j hjc hjn]
      have hle := tk_le ns (j + 1)
      rw [HNx.out] at hle
      have MS : Hid (Mk tau B H w (wr.setCell ⟨g, j, none⟩ (.int .i64 (k + ((ns.take j).sum : Nat))))) := HM.out.trans (Mk.store hcur hB (HH.out g rfl) (k0 := .int) (by rw [show (tau 3).length = 1 from rfl, Nat.mod_one]; rfl) ⟨_, rfl⟩)
      have i4 : (j : Int) < (len : Int) := by omega
      clear hcur
      generalize (ns.take j).sum = sj at *
      go_wp2
      go_roundw
      case rel => exact ⟨j + 1, by go_num, by omega, by rw [HNx.out]; go_num, MS.out⟩
      case measure => simp [intOf]; omega
    · obtain rfl : j = len := by omega
      have HV : Hid ((ns.take j).sum = ns.sum) := by rw [Hid, List.take_of_length_le (by rw [HNl.out, HCl.out]; exact Nat.le_refl _)]
      rw [HV.out]
      have i4 : ¬ (j : Int) < (j : Int) := by omega
      go_wp2
      go_ret
      exact ⟨rfl, HM.out⟩

end Go.Proofs.Ytbjkfecailnelaa
