/- A text cloned; a list of texts sorted, each once. -/
import Derived.Test.YtgibdhpfmojnkaaXFreeP
import Derived.Test.YtgibdhpfmojnkaaShelf
import Derived.Sort.OwnSorted
namespace Go.Proofs.Ytgibdhpfmojnkaa
open Go.RowKit

theorem cloneS (s : ByteArray) (w : World) (hz : s.size ≤ 1048576) :
    Calls Try.prog 18 #[.string s] w fun e w' => e = .returned (.string s) ∧ Below w.heap.size w w' := by
  have HC : Hid (∀ W, _) := fun W => Try.stringslite_Clone s W (by omega)
  go_enter Try.func18, Try.ntmps18
  go_wp2_with (go_at_call 26; refine (HC.out _).mono ?_; rintro e w1 ⟨rfl, hb1⟩)
  go_ret
  exact ⟨rfl, hb1⟩

/-! ### sorted, each once: what the row is then -/
open Go.Sort
theorem grow_none (w : World) : grow w #[] = w := by simp [grow]
theorem compact_len (zs : List (List UInt8)) : (Lib.compact zs).length ≤ zs.length := by
  rw [Lib.compact, Lib.compactUpTo, List.length_map]
  exact Nat.le_trans (List.length_filter_le ..) (by simp)
theorem own_compact {w : World} {base g cap q : Nat} {e : TypeId} {cur : Array Value} {zs : List (List UInt8)} (hbase : base ≤ g) (hb : w.heap[g]? = some (.cells cur e (0, 0))) (h1 : zs.length ≤ cap) (h2 : cap ≤ maxLen) (h3 : cur.size = cap * 1) :
    (putRow encStr (Sort.ahead w q) g 0 (Lib.compact zs ++ List.replicate (zs.length - (Lib.compact zs).length) []).toArray).ownsRow base e 1 (.slice (some ⟨g, 0, none⟩) (Lib.compact zs).length cap) (Lib.compact zs).length ((Lib.compact zs).map encStr) := by
  have hl := compact_len zs
  have hh := heap_sorted (n := q) (os := #[]) (Lib.compact zs ++ List.replicate (zs.length - (Lib.compact zs).length) []).toArray hb
  rw [grow_none] at hh
  refine ⟨by simp, .inr ⟨g, cap, _, rfl, hbase, hh, by omega, h2, by simp [putCells, h3], ?_⟩⟩
  have ht := take_putCells cur (Lib.compact zs ++ List.replicate (zs.length - (Lib.compact zs).length) []) (by simp; omega)
  have ht2 := congrArg (List.take (Lib.compact zs).length) ht
  rw [List.take_take, List.map_append, List.take_append_of_le_length (by simp), List.take_of_length_le (by simp : (List.map encStr (Lib.compact zs)).length ≤ (Lib.compact zs).length), List.length_append, List.length_replicate, Nat.min_eq_left (by omega)] at ht2
  rw [Nat.mul_one]
  exact ht2
theorem sb_enc (ss : List ByteArray) : sb ss = (ss.map fun s => s.data.toList).map encStr := by
  rw [sb, List.map_map]
  apply List.map_congr_left
  intro s _
  simp [encStr]
theorem own_names {B : Nat} {v : Value} {ss : List ByteArray} {n : Nat} {ts : List (List UInt8)} {w : World} (h : w.ownsRow B 9 1 v n (ts.map encStr)) (hn : n = ts.length) (ht : ts = ss.map fun s => s.data.toList) : OwnB B v ss w := by
  subst hn
  subst ht
  rw [OwnB, sb_enc]
  rw [List.length_map] at h
  exact h

end Go.Proofs.Ytgibdhpfmojnkaa
