/- The names of an expression, collected, sorted, each once: the specification's list. The plain mathematics. -/
/- A text cloned; a list of texts sorted, each once. -/
import Derived.Test.YtcnkegkffmcdmaaGreatDoorXFree
import Derived.Test.YtcnkegkffmcdmaaGreatDoorEnvAsc
import Derived.Test.YtcnkegkffmcdmaaGreatDoorSumImpl
import Derived.Lib.SlicesCompact
import Derived.Sort.Walk0
import Derived.Sort.OwnSorted
namespace Go.Proofs.YtcnkegkffmcdmaaGreatDoor
open Go.RowKit

abbrev leL (x y : List UInt8) : Bool := decide (x ≤ y)
theorem lt_of_le_ne {x y : List UInt8} (h : x ≤ y) (hne : x ≠ y) : x < y := by
  rcases Decidable.em (x < y) with h1 | h1
  · exact h1
  · exact absurd (List.le_antisymm h (List.not_lt.1 h1)) hne
theorem compact_asc (d : Array (List UInt8)) (n : Nat) (hs : ∀ i j, i ≤ j → j < n → d[i]! ≤ d[j]!) : ∀ m, m ≤ n →
    (Lib.compactUpTo d m).Pairwise (fun x y => x < y) ∧ ∀ x, x ∈ Lib.compactUpTo d m ↔ ∃ j, j < m ∧ x = d[j]!
  | 0, _ => by simp [Lib.compactUpTo]
  | m + 1, hm => by
    obtain ⟨h1, h2⟩ := compact_asc d n hs m (by omega)
    rw [Lib.compactUpTo_succ]
    by_cases hk : Lib.keeps d m = true
    · rw [if_pos hk]
      refine ⟨List.pairwise_append.2 ⟨h1, by simp, fun x hx y hy => ?_⟩, fun x => ?_⟩
      · obtain rfl : y = d[m]! := by simpa using hy
        obtain ⟨j, hj, rfl⟩ := (h2 x).1 hx
        have hne : d[m]! ≠ d[m - 1]! := by
          have := of_decide_eq_true hk
          rcases this with h | h
          · omega
          · exact h
        have hlt := lt_of_le_ne (hs (m - 1) m (by omega) (by omega)) (fun e => hne e.symm)
        exact List.lt_of_le_of_lt (hs j (m - 1) (by omega) (by omega)) hlt
      · rw [List.mem_append, h2 x, List.mem_singleton]
        constructor
        · rintro (⟨j, hj, e⟩ | e)
          · exact ⟨j, by omega, e⟩
          · exact ⟨m, by omega, e⟩
        · rintro ⟨j, hj, e⟩
          by_cases h : j = m
          · subst h; exact .inr e
          · exact .inl ⟨j, by omega, e⟩
    · rw [if_neg hk, List.append_nil]
      refine ⟨h1, fun x => ?_⟩
      rw [h2 x]
      constructor
      · rintro ⟨j, hj, e⟩
        exact ⟨j, by omega, e⟩
      · rintro ⟨j, hj, e⟩
        by_cases h : j = m
        · subst h
          have hd : ¬ (j = 0 ∨ d[j]! ≠ d[j - 1]!) := fun h => hk (decide_eq_true h)
          have h0 : j ≠ 0 := fun h => hd (.inl h)
          have he : d[j]! = d[j - 1]! := Decidable.not_not.1 fun h => hd (.inr h)
          exact ⟨j - 1, by omega, by rw [e, he]⟩
        · exact ⟨j, by omega, e⟩
theorem get_toArray (zs : List (List UInt8)) (j : Nat) (h : j < zs.length) : zs.toArray[j]! = zs[j] := by
  rw [getElem!_pos _ _ (by simpa using h)]
  simp
/-- Sorted, then each once: ascending, the same elements. -/
theorem compact_sorted (zs : List (List UInt8)) : (Lib.compact (zs.mergeSort leL)).Pairwise (fun x y => x < y) ∧ ∀ x, x ∈ Lib.compact (zs.mergeSort leL) ↔ x ∈ zs := by
  have tr : ∀ a b c : List UInt8, leL a b = true → leL b c = true → leL a c = true := fun a b c h1 h2 => by simp only [leL, decide_eq_true_eq] at *; exact List.le_trans h1 h2
  have ltot : ∀ a b : List UInt8, (leL a b || leL b a) = true := fun a b => by simp only [leL, Bool.or_eq_true, decide_eq_true_eq]; exact List.le_total a b
  have hp := List.pairwise_mergeSort tr ltot zs
  have hperm := List.mergeSort_perm zs leL
  generalize zs.mergeSort leL = ys at *
  have hs : ∀ i j, i ≤ j → j < ys.length → ys.toArray[i]! ≤ ys.toArray[j]! := fun i j hij hj => by
    rw [get_toArray _ _ (by omega), get_toArray _ _ hj]
    by_cases e : i = j
    · subst e; exact List.le_refl _
    · have := List.pairwise_iff_getElem.1 hp i j (by omega) hj (by omega)
      simpa [leL] using this
  obtain ⟨h1, h2⟩ := compact_asc ys.toArray ys.length hs ys.length (Nat.le_refl _)
  refine ⟨h1, fun x => ?_⟩
  rw [Lib.compact, h2 x, ← hperm.mem_iff]
  constructor
  · rintro ⟨j, hj, rfl⟩
    rw [get_toArray _ _ hj]
    exact List.getElem_mem hj
  · intro hx
    obtain ⟨j, hj, rfl⟩ := List.getElem_of_mem hx
    exact ⟨j, hj, (get_toArray _ _ hj).symm⟩
theorem asc_same {l m : List (List UInt8)} (hl : l.Pairwise (fun x y => x < y)) (hm : m.Pairwise (fun x y => x < y)) (h : ∀ x, x ∈ l ↔ x ∈ m) : l = m := by
  have nd : ∀ {l : List (List UInt8)}, l.Pairwise (fun x y => x < y) → l.Nodup := fun h => h.imp fun {a b} hab e => by subst e; exact List.lt_irrefl _ hab
  refine List.Perm.eq_of_pairwise (le := fun a b => a < b) (fun a b _ _ h1 h2 => absurd (List.lt_trans h1 h2) (List.lt_irrefl _)) hl hm ((List.perm_ext_iff_of_nodup (nd hl) (nd hm)).2 h)
theorem ltS_iff (a b : ByteArray) : ltS a b = true ↔ a.data.toList < b.data.toList := by
  rw [ltS, bytesLess_eq, decide_eq_true_eq, ByteArray.toList_eq, ByteArray.toList_eq]
def AscS (ss : List ByteArray) : Prop := ss.Pairwise fun a b => ltS a b = true
theorem mem_putS {ss : List ByteArray} {s x : ByteArray} : x ∈ putS ss s ↔ x ∈ ss ∨ x = s := by
  rw [putS, List.mem_append, List.mem_append, List.mem_filter, List.mem_filter, List.mem_singleton]
  constructor
  · rintro ((h | h) | h)
    · exact .inl h.1
    · exact .inr h
    · exact .inl h.1
  · rintro (h | h)
    · rcases lt_tri x s with h1 | h1 | h1
      · exact .inl (.inl ⟨h, h1⟩)
      · exact .inl (.inr h1)
      · exact .inr ⟨h, by rw [gt_iff]; exact h1⟩
    · exact .inl (.inr h)
theorem ascS_put {ss : List ByteArray} (h : AscS ss) (s : ByteArray) : AscS (putS ss s) := by
  rw [putS]
  refine List.pairwise_append.2 ⟨List.pairwise_append.2 ⟨h.filter _, by simp, fun x hx y hy => ?_⟩, h.filter _, fun x hx y hy => ?_⟩
  · obtain rfl : y = s := by simpa using hy
    exact (List.mem_filter.1 hx).2
  · have hy2 : ltS s y = true := by rw [← gt_iff]; exact (List.mem_filter.1 hy).2
    rcases List.mem_append.1 hx with hx | hx
    · exact lt_trans' (List.mem_filter.1 hx).2 hy2
    · obtain rfl : x = s := by simpa using hx
      exact hy2
/-- The names of the nodes, as they come. -/
def namesF (ns : List NodeD) : List ByteArray := (ns.filter fun x => decide (x.op = 2)).map fun x => x.name
theorem namesF_next (ns : List NodeD) (k : Nat) (h : k < ns.length) : namesF (ns.take (k + 1)) = namesF (ns.take k) ++ (if ns[k].op = 2 then [ns[k].name] else []) := by
  rw [List.take_succ_eq_append_getElem h, namesF, List.filter_append, List.map_append, ← namesF]
  congr 1
  rw [List.filter_cons, List.filter_nil]
  by_cases e : ns[k].op = 2
  · simp [e]
  · simp [e]
theorem namesF_len (ns : List NodeD) : (namesF ns).length ≤ ns.length := by
  rw [namesF, List.length_map]
  exact List.length_filter_le ..
theorem freeF_asc (ns : List NodeD) : ∀ k, k ≤ ns.length → AscS (freeF (ns.take k)) ∧ ∀ x, x ∈ freeF (ns.take k) ↔ x ∈ namesF (ns.take k)
  | 0, _ => ⟨List.Pairwise.nil, fun x => by simp [freeF, namesF]⟩
  | k + 1, h => by
    obtain ⟨h1, h2⟩ := freeF_asc ns k (by omega)
    rw [freeF_next ns k (by omega), namesF_next ns k (by omega)]
    by_cases e : ns[k].op = 2
    · rw [if_pos e, if_pos e]
      exact ⟨ascS_put h1 _, fun x => by rw [mem_putS, h2 x, List.mem_append, List.mem_singleton]⟩
    · rw [if_neg e, if_neg e, List.append_nil]
      exact ⟨h1, h2⟩
theorem free_compact (ns : List NodeD) : Lib.compact (((namesF ns).map fun s => s.data.toList).mergeSort leL) = (freeF ns).map fun s => s.data.toList := by
  obtain ⟨h1, h2⟩ := compact_sorted ((namesF ns).map fun s => s.data.toList)
  obtain ⟨h3, h4⟩ := freeF_asc ns ns.length (Nat.le_refl _)
  rw [List.take_of_length_le (Nat.le_refl _)] at h3 h4
  refine asc_same h1 (List.pairwise_map.2 (h3.imp fun {a b} hab => (ltS_iff a b).1 hab)) fun x => ?_
  rw [h2 x, List.mem_map, List.mem_map]
  exact ⟨fun ⟨s, hs, e⟩ => ⟨s, (h4 s).2 hs, e⟩, fun ⟨s, hs, e⟩ => ⟨s, (h4 s).1 hs, e⟩⟩
end Go.Proofs.YtcnkegkffmcdmaaGreatDoor

namespace Go.Proofs.YtcnkegkffmcdmaaGreatDoor
open Go.RowKit

theorem cloneS (s : ByteArray) (w : World) (hz : s.size ≤ 1048576) :
    Calls Tryz.prog 124 #[.string s] w fun e w' => e = .returned (.string s) ∧ Below w.heap.size w w' := by
  have HC : Hid (∀ W, _) := fun W => Tryz.stringslite_Clone s W (by omega)
  go_enter Tryz.func124, Tryz.ntmps124
  go_wp2_with (go_at_call 135; refine (HC.out _).mono ?_; rintro e w1 ⟨rfl, hb1⟩)
  go_ret
  exact ⟨rfl, hb1⟩

/-! ### sorted, each once: what the row is then -/
open Go.Sort
theorem grow_none (w : World) : grow w #[] = w := by simp [grow]
theorem compact_len (zs : List (List UInt8)) : (Lib.compact zs).length ≤ zs.length := by
  rw [Lib.compact, Lib.compactUpTo, List.length_map]
  exact Nat.le_trans (List.length_filter_le ..) (by simp)
theorem own_compact {w : World} {base g cap q : Nat} {e : TypeId} {cur : Array Value} {zs : List (List UInt8)} (hbase : base ≤ g) (hb : w.heap[g]? = some (.cells cur e (0, 0))) (h1 : zs.length ≤ cap) (h2 : cap ≤ maxLen) (h3 : cur.size = cap * 1) :
    (putRow encStr (Sort.ahead w q) g 0 (Lib.compact zs ++ List.replicate (zs.length - (Lib.compact zs).length) []).toArray).ownsRow base e 1 (.slice (some ⟨g, 0, none⟩) (Lib.compact zs).length cap) (Lib.compact zs).length ((Lib.compact zs).map encStr) := by
  have hl := compact_len zs
  have hh := heap_sorted (n := q) (os := #[]) (Lib.compact zs ++ List.replicate (zs.length - (Lib.compact zs).length) []).toArray hb
  rw [grow_none] at hh
  refine ⟨by simp, .inr ⟨g, cap, _, rfl, hbase, hh, by omega, h2, by simp [putCells, h3], ?_⟩⟩
  have ht := take_putCells cur (Lib.compact zs ++ List.replicate (zs.length - (Lib.compact zs).length) []) (by simp; omega)
  have ht2 := congrArg (List.take (Lib.compact zs).length) ht
  rw [List.take_take, List.map_append, List.take_append_of_le_length (by simp), List.take_of_length_le (by simp : (List.map encStr (Lib.compact zs)).length ≤ (Lib.compact zs).length), List.length_append, List.length_replicate, Nat.min_eq_left (by omega)] at ht2
  rw [Nat.mul_one]
  exact ht2
theorem sb_enc (ss : List ByteArray) : sb ss = (ss.map fun s => s.data.toList).map encStr := by
  rw [sb, List.map_map]
  apply List.map_congr_left
  intro s _
  simp [encStr]
theorem own_names {B : Nat} {v : Value} {ss : List ByteArray} {n : Nat} {ts : List (List UInt8)} {w : World} (h : w.ownsRow B 9 1 v n (ts.map encStr)) (hn : n = ts.length) (ht : ts = ss.map fun s => s.data.toList) : OwnB B v ss w := by
  subst hn
  subst ht
  rw [OwnB, sb_enc]
  rw [List.length_map] at h
  exact h

end Go.Proofs.YtcnkegkffmcdmaaGreatDoor
