/- A list of names with numbers that came in as an argument. -/
import Derived.Test.YtanmhbopalchoaaDoorVRow
import Derived.Deep.SlicePairs
import Derived.OpenShut
namespace Go.Proofs.YtanmhbopalchoaaDoor
open Go.RowKit

/-- An argument: its list, within the machine's bounds. -/
def VArg (w : World) (v : Value) (xs : List VarD) : Prop := VRow w v xs ∧ xs.length ≤ maxLen ∧ ∀ x ∈ xs, x.1.size ≤ maxLen ∧ (-9223372036854775808 ≤ x.2 ∧ x.2 ≤ 9223372036854775807)

theorem vArg_of_trod {H : Type} {enc : TypeId × Value → H} {P : Program} {w : World} {base : Nat} {held : Bool} {t e : TypeId} {f0 f1 : Field} {fuel : Nat} {v : Value} {x : DataW H × List MemPlace} (ht : P.underlying t = some (.slice e)) (he : P.underlying e = some (.struct #[f0, f1]))
    (ce : P.cellsOf e = 2) (o0 : f0.offset = 0) (o1 : f1.offset = 1) (c0 : P.cellsOf f0.type = 1) (c1 : P.cellsOf f1.type = 1) (u0 : P.underlying f0.type = some .string) (u1 : P.underlying f1.type = some (.int .i64))
    (h : DataW.trod enc P w base (fun _ => true) held fuel t [v] = some x) : ∃ xs, VArg w v xs := by
  rcases Go.Deep.open_slice_pairs ht he ce o0 o1 c0 c1 h with ⟨h0, _⟩ | ⟨a, len, cap, m, n, V0, V1, D0, D1, P0, P1, hv, hb, hl, hm, hmm, _, hc⟩
  · obtain rfl : v = .slice none 0 0 := by simpa using h0
    exact ⟨[], ⟨none, 0, rfl, fun _ => rfl, fun h => absurd h (by simp)⟩, by simp, by simp⟩
  · obtain rfl : v = .slice (some a) len cap := by simpa using hv
    have hml : len ≤ m := by rw [hmm, if_pos rfl]; exact hl
    have each : ∀ i, i < len → ∃ q : VarD, w.cell? (a.add (i * 2)) = some (.string q.1) ∧ w.cell? (a.add (i * 2 + 1)) = some (.int .i64 q.2) ∧ q.1.size ≤ maxLen ∧ (-9223372036854775808 ≤ q.2 ∧ q.2 ≤ 9223372036854775807) := by
      intro i hi
      obtain ⟨h1, h2, h3, h4⟩ := hc i (by omega)
      obtain ⟨s, e1, _, hs⟩ := DataW.trod_string u0 h3
      obtain ⟨z, e2, _, hz⟩ := DataW.trod_int u1 h4
      have e1' : V0 i = .string s := by simpa using e1
      have e2' : V1 i = .int .i64 z := by simpa using e2
      exact ⟨(s, z), by rw [h1, e1'], by rw [h2, e2'], hs, bounds_i64 hz⟩
    obtain ⟨q, hq⟩ := Go.Deep.choose_lt each
    have hxl : ((List.range len).map q).length = len := by simp
    refine ⟨(List.range len).map q, ⟨some a, cap, by rw [hxl], fun h => (by cases h), fun h0 => ?_⟩, by rw [hxl]; omega, fun x hx => ?_⟩
    · obtain ⟨b, off, spot⟩ := a
      rw [hxl] at h0
      have h1 := (hq 0 h0).1
      have hspot : spot = none := by simpa [Addr.add] using World.cell?_spot h1
      subst hspot
      refine ⟨b, off, rfl, ?_, fun i hi => ?_⟩
      · have := World.block_lt_of_cell? w _ h1
        simpa [Addr.add] using this
      · rw [hxl] at hi
        have h2 := hq i hi
        rw [Addr.add_lit, Addr.add_lit] at h2
        simp only [List.getElem_map, List.getElem_range]
        exact ⟨h2.1, by rw [Nat.add_assoc]; exact h2.2.1⟩
    · obtain ⟨i, hi, rfl⟩ := List.mem_map.1 hx
      exact (hq i (List.mem_range.1 hi)).2.2

end Go.Proofs.YtanmhbopalchoaaDoor
