/- What a rule calls: names as they come, sorted, each once, are the specification's list. The plain mathematics. -/
import Derived.Test.YtgibdhpfmojnkaaF15S
import Derived.Test.YtgibdhpfmojnkaaXFreeP
namespace Go.Proofs.Ytgibdhpfmojnkaa
open Go.RowKit

/-- The names that a rule's calls tell, as they come. -/
def namesC (ys : List SymD) : List ByteArray := (ys.filter fun y => decide (y.kind = 3)).map fun y => y.text
theorem namesC_next (ys : List SymD) (k : Nat) (h : k < ys.length) : namesC (ys.take (k + 1)) = namesC (ys.take k) ++ (if ys[k].kind = 3 then [ys[k].text] else []) := by
  rw [List.take_succ_eq_append_getElem h, namesC, List.filter_append, List.map_append, ← namesC]
  congr 1
  rw [List.filter_cons, List.filter_nil]
  by_cases e : ys[k].kind = 3
  · simp [e]
  · simp [e]
theorem namesC_len (ys : List SymD) : (namesC ys).length ≤ ys.length := by
  rw [namesC, List.length_map]
  exact List.length_filter_le ..
theorem namesC_append (xs ys : List SymD) : namesC (xs ++ ys) = namesC xs ++ namesC ys := by
  rw [namesC, List.filter_append, List.map_append, ← namesC, ← namesC]
def namesA (es : List (List SymD)) : List ByteArray := namesC es.flatten
theorem namesA_next (es : List (List SymD)) (k : Nat) (h : k < es.length) : namesA (es.take (k + 1)) = namesA (es.take k) ++ namesC es[k] := by
  rw [List.take_succ_eq_append_getElem h, namesA, List.flatten_append, namesC_append, ← namesA, List.flatten_cons, List.flatten_nil, List.append_nil]
theorem namesA_len (es : List (List SymD)) : (namesA es).length ≤ (es.map List.length).sum := by
  have := namesC_len es.flatten
  rwa [List.length_flatten] at this
theorem callsS_asc : ∀ (ys : List SymD) (out : List ByteArray), AscS out → AscS (callsS out ys) ∧ ∀ x, x ∈ callsS out ys ↔ x ∈ out ∨ x ∈ namesC ys
  | [], out, h => ⟨h, fun x => by simp [callsS, namesC]⟩
  | y :: ys, out, h => by
    rw [callsS]
    have en : namesC (y :: ys) = (if y.kind = 3 then [y.text] else []) ++ namesC ys := by
      have := namesC_append [y] ys
      rw [List.singleton_append] at this
      rw [this]
      congr 1
      by_cases e : y.kind = 3
      · simp [namesC, e]
      · simp [namesC, e]
    rw [en]
    by_cases e : y.kind = 3
    · rw [if_pos e, if_pos e]
      obtain ⟨h1, h2⟩ := callsS_asc ys (putS out y.text) (ascS_put h _)
      refine ⟨h1, fun x => ?_⟩
      rw [h2 x, mem_putS, List.mem_append, List.mem_singleton, or_assoc]
    · rw [if_neg e, if_neg e]
      obtain ⟨h1, h2⟩ := callsS_asc ys out h
      exact ⟨h1, fun x => by rw [h2 x, List.nil_append]⟩
theorem callsA_asc : ∀ (es : List (List SymD)) (out : List ByteArray), AscS out → AscS (callsA out es) ∧ ∀ x, x ∈ callsA out es ↔ x ∈ out ∨ x ∈ namesA es
  | [], out, h => ⟨h, fun x => by simp [callsA, namesA, namesC]⟩
  | e :: es, out, h => by
    rw [callsA]
    obtain ⟨h1, h2⟩ := callsS_asc e out h
    obtain ⟨h3, h4⟩ := callsA_asc es _ h1
    refine ⟨h3, fun x => ?_⟩
    rw [h4 x, h2 x]
    have en : namesA (e :: es) = namesC e ++ namesA es := by rw [namesA, List.flatten_cons, namesC_append, ← namesA]
    rw [en, List.mem_append, or_assoc]
theorem calls_compact (es : List (List SymD)) : Lib.compact (((namesA es).map fun s => s.data.toList).mergeSort leL) = (callsA [] es).map fun s => s.data.toList := by
  obtain ⟨h1, h2⟩ := compact_sorted ((namesA es).map fun s => s.data.toList)
  obtain ⟨h3, h4⟩ := callsA_asc es [] List.Pairwise.nil
  refine asc_same h1 (List.pairwise_map.2 (h3.imp fun {a b} hab => (ltS_iff a b).1 hab)) fun x => ?_
  rw [h2 x, List.mem_map, List.mem_map]
  exact ⟨fun ⟨s, hs, e⟩ => ⟨s, (h4 s).2 (.inr hs), e⟩, fun ⟨s, hs, e⟩ => ⟨s, ((h4 s).1 hs).resolve_left (by simp), e⟩⟩
end Go.Proofs.Ytgibdhpfmojnkaa
