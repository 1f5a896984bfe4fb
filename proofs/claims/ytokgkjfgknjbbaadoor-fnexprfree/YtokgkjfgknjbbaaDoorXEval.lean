/- EvalExpr of the specification. -/
import Derived.Test.YtokgkjfgknjbbaaDoorXMarkW
namespace Go.Proofs.YtokgkjfgknjbbaaDoor
open Go.RowKit

theorem capB_some {o : Option Int} {z : Int} (h : capB o = some z) : small z := by
  unfold capB at h
  cases o with
  | none => cases h
  | some n =>
    simp only [Option.bind_some] at h
    split at h
    · rename_i hi
      have e : n = z := Option.some.inj h
      subst e
      simpa [inI, small] using hi
    · cases h
theorem valN_small {ns : List NodeD} (hn : ∀ k (hk : k < ns.length), nodeB k ns[k] = true) {env : ByteArray → Option Int} {here : Int} {i : Nat} {z : Int} (hi : i < ns.length) (h : valN ns env here i = some z) : small z := by
  rw [valN_eq hn env here i hi] at h
  split at h
  · cases h
  · exact capB_some h
theorem kids_two {i : Nat} {x : NodeD} (h : nodeB i x = true) (h1 : ¬ x.op = 1) (h2 : ¬ x.op = 2) (h3 : ¬ x.op = 3) (h11 : ¬ x.op = 11) : ∃ a b : Nat, x.kids = [(a : Int), (b : Int)] ∧ a < i ∧ b < i ∧ 4 ≤ x.op := by
  obtain ⟨ho, hl, _, hk⟩ := node_parts h
  rw [kidsN, if_neg (by omega), if_neg h11] at hl
  match hx : x.kids, hl with
  | [p, q], _ =>
    have hp := hk p (by rw [hx]; simp)
    have hq := hk q (by rw [hx]; simp)
    exact ⟨p.toNat, q.toNat, by rw [Int.toNat_of_nonneg hp.1, Int.toNat_of_nonneg hq.1], by omega, by omega, by omega⟩
theorem kids_one {i : Nat} {x : NodeD} (h : nodeB i x = true) (h11 : x.op = 11) : ∃ a : Nat, x.kids = [(a : Int)] ∧ a < i := by
  obtain ⟨ho, hl, _, hk⟩ := node_parts h
  rw [kidsN, if_neg (by omega), if_pos h11] at hl
  match hx : x.kids, hl with
  | [p], _ =>
    have hp := hk p (by rw [hx]; simp)
    exact ⟨p.toNat, by rw [Int.toNat_of_nonneg hp.1], by omega⟩
theorem kids_no {i : Nat} {x : NodeD} (h : nodeB i x = true) (h3 : x.op = 1 ∨ x.op = 2 ∨ x.op = 3) : x.kids = [] := by
  obtain ⟨ho, hl, _, hk⟩ := node_parts h
  rw [kidsN, if_pos h3] at hl
  exact List.eq_nil_of_length_eq_zero (by omega)
theorem num_fine {i : Nat} {x : NodeD} (h : nodeB i x = true) (h1 : x.op = 1) : 0 ≤ x.num ∧ x.num ≤ 99 := by
  obtain ⟨_, _, hf, _⟩ := node_parts h
  rw [fieldsB, if_pos h1, Bool.and_eq_true, inI, decide_eq_true_eq] at hf
  exact hf.1
theorem capB_yes {n : Int} (h : inI n (-9999) 9999 = true) : capB (some n) = some n := by simp [capB, h]
theorem capB_no {n : Int} (h : inI n (-9999) 9999 = false) : capB (some n) = none := by simp [capB, h]
theorem flag_in (b : Bool) : inI (flagI b) (-9999) 9999 = true := by cases b <;> decide

/-- What the nodes ahead are worth, as it lies in memory: those below the whole. -/
def NumsTo (ns : List NodeD) (env : ByteArray → Option Int) (here : Int) (m : List Bool) (k : Nat) (cs : List Value) : Prop :=
  cs.length = ns.length ∧ ∀ j, j < k → m[j]? = some true → ∃ z, valN ns env here j = some z ∧ cs[j]? = some (.int .i64 z)
theorem numsTo_skip {ns : List NodeD} {env : ByteArray → Option Int} {here : Int} {m : List Bool} {k : Nat} {cs : List Value} (h : NumsTo ns env here m k cs) (hm : ¬ m[k]? = some true) : NumsTo ns env here m (k + 1) cs :=
  ⟨h.1, fun j hj hjm => by
    by_cases e : j = k
    · subst e; exact absurd hjm hm
    · exact h.2 j (by omega) hjm⟩
theorem numsTo_put {ns : List NodeD} {env : ByteArray → Option Int} {here : Int} {m : List Bool} {k : Nat} {cs : List Value} {z : Int} (hk : k < ns.length) (h : NumsTo ns env here m k cs) (hv : valN ns env here k = some z) : NumsTo ns env here m (k + 1) (cs.set k (.int .i64 z)) :=
  ⟨by rw [List.length_set]; exact h.1, fun j hj hjm => by
    by_cases e : j = k
    · subst e
      exact ⟨z, hv, by rw [List.getElem?_set_self (by rw [h.1]; exact hk)]⟩
    · obtain ⟨y, h1, h2⟩ := h.2 j (by omega) hjm
      exact ⟨y, h1, by rw [List.getElem?_set_ne (fun e' => e e'.symm)]; exact h2⟩⟩

theorem Tryd.infoInt4 : (Tryd.prog.info? 3).map (fun i => (i.zero, i.size, i.bytes)) = some (some (.int .i64 0), 1, 8) := by kernel_rfl
theorem own_int {B g n cap : Nat} {cs : List Value} {w : World} {k : Nat} {z : Int} (h : w.ownsRow B 3 1 (.slice (some ⟨g, 0, none⟩) n cap) n cs) (hz : cs[k]? = some (.int .i64 z)) : w.cell? ⟨g, k, none⟩ = some (.int .i64 z) := by
  have := h.cells (g := g) rfl k _ hz
  rwa [Addr.add_lit, Nat.zero_add] at this


end Go.Proofs.YtokgkjfgknjbbaaDoor
