/- Rows of flags and of numbers that a call owns, beside one another. -/
import Derived.Test.YtpcfcheicdnogaaF14I
import Derived.Test.YtpcfcheicdnogaaF14G
import Derived.Laws.AppendOwnNone
namespace Go.Proofs.Ytpcfcheicdnogaa
open Go.RowKit
set_option linter.unusedVariables false

theorem Try.infoB14 : (Try.prog.info? 4).map (fun i => (i.zero, i.size, i.bytes)) = some (some (.bool false), 1, 1) := by kernel_rfl
def flV14 (m : List Bool) : List Value := m.map .bool
def OwnB14 (B : Nat) (v : Value) (m : List Bool) (w : World) : Prop := w.ownsRow B 4 1 v m.length (flV14 m)
theorem OwnB14.below {B : Nat} {v : Value} {m : List Bool} {w w' : World} (h : OwnB14 B v m w) (hb : Below w.heap.size w w') : OwnB14 B v m w' := own_below h hb
theorem OwnB14.base {B B' : Nat} {v : Value} {m : List Bool} {w : World} (h : OwnB14 B v m w) (hB : B' ≤ B) : OwnB14 B' v m w := by
  refine ⟨h.1, ?_⟩
  rcases h.2 with h | ⟨g, cap, cur, e, hg, r⟩
  · exact .inl h
  · exact .inr ⟨g, cap, cur, e, Nat.le_trans hB hg, r⟩
theorem OwnB14.at {B g n cap : Nat} {m : List Bool} {w : World} (h : OwnB14 B (.slice (some ⟨g, 0, none⟩) n cap) m w) {k : Nat} (hk : k < m.length) : w.cell? ⟨g, k, none⟩ = some (.bool (m.getD k false)) ∧ w.frozen? ⟨g, k, none⟩ = false := by
  have e : n = m.length := by
    rcases h.2 with ⟨h', _⟩ | ⟨g', cap', cur, h', _⟩ <;> cases h'
    rfl
  subst e
  have h1 := World.ownsRow.cells h (g := g) rfl k (.bool (m.getD k false)) (by simp [flV14, hk])
  rw [Addr.add_lit, Nat.zero_add] at h1
  exact ⟨h1, World.ownsRow.frozenAt h k⟩
theorem OwnB14.set {B g n cap : Nat} {m : List Bool} {w : World} (h : OwnB14 B (.slice (some ⟨g, 0, none⟩) n cap) m w) (k : Nat) (b : Bool) : OwnB14 B (.slice (some ⟨g, 0, none⟩) n cap) (m.set k b) (w.setCell ⟨g, k, none⟩ (.bool b)) := by
  have e : n = m.length := by
    rcases h.2 with ⟨h', _⟩ | ⟨g', cap', cur, h', _⟩ <;> cases h'
    rfl
  subst e
  have s1 := (World.ownsRow.stored h k (.bool b)).1
  have e2 : flV14 (m.set k b) = (flV14 m).set k (.bool b) := by simp [flV14]
  unfold OwnB14
  rw [List.length_set, e2]
  exact s1
theorem made_flags14 {B g n : Nat} {w : World} (h : w.ownsRow B 4 1 (.slice (some ⟨g, 0, none⟩) n n) n (madeCells (Value.bool false).cells (n * 1)).toList) : OwnB14 B (.slice (some ⟨g, 0, none⟩) n n) (List.replicate n false) w := by
  rw [Nat.mul_one, show (Value.bool false).cells = #[.bool false] from rfl, toList_madeCells_one] at h
  unfold OwnB14
  rw [flV14, List.map_replicate, List.length_replicate]
  exact h
theorem own14_ne {B B' : Nat} {e e' : TypeId} {s s' n n' : Nat} {v v' : Value} {cs cs' : List Value} {w : World} (h : w.ownsRow B e s v n cs) (h' : w.ownsRow B' e' s' v' n' cs') (hne : e ≠ e') : v.ownBlock = none ∨ v.ownBlock ≠ v'.ownBlock := by
  rcases h.2 with ⟨rfl, _⟩ | ⟨g, cap, cur, rfl, _, hc, _⟩
  · exact .inl rfl
  · refine .inr (fun eq => ?_)
    rcases h'.2 with ⟨rfl, _⟩ | ⟨g', cap', cur', rfl, _, hc', _⟩
    · cases eq
    · obtain rfl : g = g' := Option.some.inj eq
      rw [hc] at hc'
      cases Option.some.inj hc'
      exact hne rfl
theorem keepB14_grow {B B' : Nat} {v qv : Value} {m : List Bool} {q : List Int} {w w' : World} (h : OwnB14 B v m w) (hz : OwnZ B' qv q w) (hg : w.grownBy w' qv.ownBlock) : OwnB14 B v m w' :=
  World.ownsRow.kept h hg (own14_ne h hz (by decide))
theorem keepZ14_set {B B' g n cap : Nat} {qv : Value} {m : List Bool} {q : List Int} {w : World} (hz : OwnZ B' qv q w) (h : OwnB14 B (.slice (some ⟨g, 0, none⟩) n cap) m w) (k : Nat) (u : Value) : OwnZ B' qv q (w.setCell ⟨g, k, none⟩ u) :=
  World.ownsRow.kept hz (grow_set w g k u) (own14_ne hz h (by decide))
theorem below_grow14 {B B' : Nat} {w0 w w' : World} {qv : Value} {q : List Int} (hb : Below B w0 w) (hB : B ≤ w.heap.size) (hz : OwnZ B' qv q w) (hBB : B ≤ B') (hg : w.grownBy w' qv.ownBlock) : Below B w0 w' :=
  hb.grown hg hB (fun k hk => Nat.le_trans hBB (World.ownsRow.lt hz k hk).1)
theorem irow_tail14 {w : World} {n cap : Nat} {z : Int} {q : List Int} {b off : Nat} (h : IRow w (.slice (some ⟨b, off, none⟩) n cap) (z :: q)) : IRow w (.slice (some ⟨b, off + 1, none⟩) q.length (cap - 1)) q := by
  obtain ⟨a', c', e, hcap, hh⟩ := h
  cases e
  obtain ⟨b', off', e2, hb, hc⟩ := hh (by simp)
  cases e2
  refine ⟨_, _, rfl, fun h => (by cases h), fun h0 => ⟨b, off + 1, rfl, hb, fun i hi => ?_⟩⟩
  have := hc (i + 1) (by simp; omega)
  rw [show off + 1 + i = off + (i + 1) by omega]
  simpa using this
theorem app14 {P : Program} {w : World} {ops : Array Oper} {rest : List Oper} {o : Oper} {a : Act} {Q : Exit → Act → World → Prop} (hgd : o.guard = none) (s x : Operand) (t : TypeId)
    (ho : o.op = .call { callee := .builtin .append, args := #[s, x], argTypes := #[t, t] })
    (base : Nat) (e : TypeId) (i : TypeInfo) (z : Value) (ht : P.underlying t = some (.slice e)) (hi : P.info? e = some i) (hz : i.zero = some z)
    (hsize : i.size = 1) (hby : i.bytes = 8) (hzs : z.cells.size = 1)
    (v : Value) (n : Nat) (xs : List Value) (hs : a.eval s = v) (hown : w.ownsRow base e 1 v n xs) (ps : List Int) (pa : Option Addr) (c : Nat) (hx : a.eval x = .slice pa ps.length c) (hp : IRow w (.slice pa ps.length c) ps)
    (hl : n + ps.length ≤ 4194304) (hbase : base ≤ w.heap.size)
    (h : ∀ v' w', w'.ownsRow base e 1 v' (n + ps.length) (xs ++ zv ps) → w.grownBy w' v.ownBlock → wpList P ops Q rest (a.put o.dst v') w') : wpList P ops Q (o :: rest) a w := by
  obtain ⟨pa', c', e1, hcap, hh⟩ := hp
  cases e1
  cases pa with
  | none =>
    have h0 : ps.length = 0 := by
      rcases Nat.eq_zero_or_pos ps.length with h | h
      · exact h
      · obtain ⟨_, _, e, _⟩ := hh h
        cases e
    obtain rfl : ps = [] := List.length_eq_zero_iff.1 h0
    obtain rfl := hcap rfl
    refine wpList_append_own_none hgd s x t ho base e i 1 ht hi v n xs hs hown hx (h v w ?_ (World.grownBy.refl _ _))
    simpa [zv] using hown
  | some ad =>
    refine wpList_append_own w hgd s x t ho base e i z 1 8 ht hi hz hsize hby hzs (by decide) v n xs hs hown ad ps.length c (zv ps) hx (by rw [zv_len, Nat.mul_one]) (fun j u hj => ?_) (fun u hu => ?_) (by unfold maxLen; omega) (by omega) hbase (fun v' w' h1 h2 _ => h v' w' h1 h2)
    · have hj2 : j < ps.length := by
        have := (List.getElem?_eq_some_iff.1 hj).1
        rwa [zv_len] at this
      obtain ⟨b, off, e, _, hc⟩ := hh (by omega)
      cases e
      have e2 : (zv ps)[j]? = some (.int .i64 ps[j]) := by simp [zv, hj2]
      rw [e2] at hj
      rw [← Option.some.inj hj, Addr.add_lit]
      exact hc j hj2
    · obtain ⟨s, _, rfl⟩ := List.mem_map.1 hu
      rfl
theorem snocZ14 {B : Nat} {v' : Value} {q : List Int} {x : Int} {w2 : World} (hown2 : w2.ownsRow B 3 1 v' (q.length + 1) (zv q ++ [.int .i64 x])) : OwnZ B v' (q ++ [x]) w2 := by
  rw [OwnZ, List.length_append, zv, List.map_append]
  exact hown2
theorem snoc14 {B B0 : Nat} {qv v' ov : Value} {q : List Int} {x : Int} {out : List Bool} {w0 W w2 : World} {ob : Obj} (hown2 : w2.ownsRow B 3 1 v' (q.length + 1) (zv q ++ [.int .i64 x])) (hgrow : (W.alloc ob).grownBy w2 qv.ownBlock) (hz : OwnZ B qv q W) (hb : OwnB14 B ov out W) (hbw : Below B0 w0 W) (hB0 : B0 ≤ B) (hs : B0 ≤ W.heap.size) : OwnZ B v' (q ++ [x]) w2 ∧ OwnB14 B ov out w2 ∧ Below B0 w0 w2 :=
  ⟨snocZ14 hown2, keepB14_grow (World.ownsRow.alloc hb ob) (World.ownsRow.alloc hz ob : OwnZ B qv q (W.alloc ob)) hgrow, below_grow14 (hbw.alloc hs ob) (by simp; omega) (World.ownsRow.alloc hz ob : OwnZ B qv q (W.alloc ob)) hB0 hgrow⟩
theorem cell_one_set14 (wd : World) (a : Addr) (u v : Value) (t : TypeId) : ∀ (j : Nat) (x : Value), [v][j]? = some x → ((wd.setCell a u).alloc (.cells #[v] t)).cell? ((⟨wd.heap.size, 0, none⟩ : Addr).add j) = some x := by
  have h := cell_one_new (wd.setCell a u) v t
  rwa [show (wd.setCell a u).heap.size = wd.heap.size by simp [World.setCell]] at h
theorem own_cap14 {w : World} {B s m : Nat} {e : TypeId} {a : Option Addr} {n cap : Nat} {cs : List Value} (h : w.ownsRow B e s (.slice a n cap) m cs) : n ≤ cap := by
  rcases h.2 with ⟨h', _⟩ | ⟨g, cap', cur, h', _, _, h2, _⟩
  · cases h'; exact Nat.le_refl _
  · cases h'; exact h2
theorem fresh_grow14 {wa w3 : World} {o : Obj} {n c : Nat} (hg : (wa.alloc o).grownBy w3 (Value.ownBlock (.slice (some ⟨wa.heap.size, 0, none⟩) n c))) : Below wa.heap.size wa w3 :=
  ((Below.refl _ _).alloc (Nat.le_refl _) o).grown hg (by simp) (fun k h => by cases h; exact Nat.le_refl _)
theorem ways_all {xs : List PartD} (h : forestTot xs ≤ 1048576) (i : Nat) (hi : i < xs.length) : (go14 xs.length xs[i].ways).length ≤ 1048576 := by
  have h1 := rowTot_mem partTot (List.getElem_mem hi)
  have h2 : partTot xs[i] = xs[i].args.length + rowTot wayTot xs[i].ways := rfl
  have h3 : forestTot xs = rowTot partTot xs := rfl
  have h4 := go14_len xs.length xs[i].ways
  omega

end Go.Proofs.Ytpcfcheicdnogaa
