/- The names of an expression, collected, sorted, each once: the specification's list. The plain mathematics. -/
/- Contracts of the library's functions that this program calls, each by one application of a theorem of the library. -/
/- A text cloned; a list of texts sorted, each once. -/
/- The program's namesOf and FreeOf: names collected, sorted, each once. -/
import Derived.Test.YtokidlklkgghkaaGreatDoorSetPure
import Derived.Test.YtokidlklkgghkaaGreatDoorEnvImpl
import Derived.Test.YtokidlklkgghkaaGreatDoorProg
import Derived.Test.YtokidlklkgghkaaGreatDoorXAssert
import Derived.Lib.SlicesCompact
import Derived.Sort.Walk0
import Derived.Shelf.Small.Strs
import Derived.Shelf.Strconv.Itoa0
import Derived.Shelf.LaysM
import Derived.Shelf.Strconv.Clone
import Derived.Shelf.Strings.Search1
import Derived.Shelf.Slices.CompactS
import Derived.Ground.SlgmProg
import Derived.Shelf.SortM.Plain
import Derived.Shelf.SortM.SortNone
import Derived.Sort.OwnSorted
namespace Go.Proofs.YtokidlklkgghkaaGreatDoor
open Go.RowKit

abbrev leL (x y : List UInt8) : Bool := decide (x ≤ y)
theorem lt_of_le_ne {x y : List UInt8} (h : x ≤ y) (hne : x ≠ y) : x < y := by
  rcases Decidable.em (x < y) with h1 | h1
  · exact h1
  · exact absurd (List.le_antisymm h (List.not_lt.1 h1)) hne
theorem compact_asc (d : Array (List UInt8)) (n : Nat) (hs : ∀ i j, i ≤ j → j < n → d[i]! ≤ d[j]!) : ∀ m, m ≤ n →
    (Lib.compactUpTo d m).Pairwise (fun x y => x < y) ∧ ∀ x, x ∈ Lib.compactUpTo d m ↔ ∃ j, j < m ∧ x = d[j]!
  | 0, _ => by simp [Lib.compactUpTo]
  | m + 1, hm => by
    obtain ⟨h1, h2⟩ := compact_asc d n hs m (by omega)
    rw [Lib.compactUpTo_succ]
    by_cases hk : Lib.keeps d m = true
    · rw [if_pos hk]
      refine ⟨List.pairwise_append.2 ⟨h1, by simp, fun x hx y hy => ?_⟩, fun x => ?_⟩
      · obtain rfl : y = d[m]! := by simpa using hy
        obtain ⟨j, hj, rfl⟩ := (h2 x).1 hx
        have hne : d[m]! ≠ d[m - 1]! := by
          have := of_decide_eq_true hk
          rcases this with h | h
          · omega
          · exact h
        have hlt := lt_of_le_ne (hs (m - 1) m (by omega) (by omega)) (fun e => hne e.symm)
        exact List.lt_of_le_of_lt (hs j (m - 1) (by omega) (by omega)) hlt
      · rw [List.mem_append, h2 x, List.mem_singleton]
        constructor
        · rintro (⟨j, hj, e⟩ | e)
          · exact ⟨j, by omega, e⟩
          · exact ⟨m, by omega, e⟩
        · rintro ⟨j, hj, e⟩
          by_cases h : j = m
          · subst h; exact .inr e
          · exact .inl ⟨j, by omega, e⟩
    · rw [if_neg hk, List.append_nil]
      refine ⟨h1, fun x => ?_⟩
      rw [h2 x]
      constructor
      · rintro ⟨j, hj, e⟩
        exact ⟨j, by omega, e⟩
      · rintro ⟨j, hj, e⟩
        by_cases h : j = m
        · subst h
          have hd : ¬ (j = 0 ∨ d[j]! ≠ d[j - 1]!) := fun h => hk (decide_eq_true h)
          have h0 : j ≠ 0 := fun h => hd (.inl h)
          have he : d[j]! = d[j - 1]! := Decidable.not_not.1 fun h => hd (.inr h)
          exact ⟨j - 1, by omega, by rw [e, he]⟩
        · exact ⟨j, by omega, e⟩
theorem get_toArray (zs : List (List UInt8)) (j : Nat) (h : j < zs.length) : zs.toArray[j]! = zs[j] := by
  rw [getElem!_pos _ _ (by simpa using h)]
  simp
/-- Sorted, then each once: ascending, the same elements. -/
theorem compact_sorted (zs : List (List UInt8)) : (Lib.compact (zs.mergeSort leL)).Pairwise (fun x y => x < y) ∧ ∀ x, x ∈ Lib.compact (zs.mergeSort leL) ↔ x ∈ zs := by
  have tr : ∀ a b c : List UInt8, leL a b = true → leL b c = true → leL a c = true := fun a b c h1 h2 => by simp only [leL, decide_eq_true_eq] at *; exact List.le_trans h1 h2
  have ltot : ∀ a b : List UInt8, (leL a b || leL b a) = true := fun a b => by simp only [leL, Bool.or_eq_true, decide_eq_true_eq]; exact List.le_total a b
  have hp := List.pairwise_mergeSort tr ltot zs
  have hperm := List.mergeSort_perm zs leL
  generalize zs.mergeSort leL = ys at *
  have hs : ∀ i j, i ≤ j → j < ys.length → ys.toArray[i]! ≤ ys.toArray[j]! := fun i j hij hj => by
    rw [get_toArray _ _ (by omega), get_toArray _ _ hj]
    by_cases e : i = j
    · subst e; exact List.le_refl _
    · have := List.pairwise_iff_getElem.1 hp i j (by omega) hj (by omega)
      simpa [leL] using this
  obtain ⟨h1, h2⟩ := compact_asc ys.toArray ys.length hs ys.length (Nat.le_refl _)
  refine ⟨h1, fun x => ?_⟩
  rw [Lib.compact, h2 x, ← hperm.mem_iff]
  constructor
  · rintro ⟨j, hj, rfl⟩
    rw [get_toArray _ _ hj]
    exact List.getElem_mem hj
  · intro hx
    obtain ⟨j, hj, rfl⟩ := List.getElem_of_mem hx
    exact ⟨j, hj, (get_toArray _ _ hj).symm⟩
theorem asc_same {l m : List (List UInt8)} (hl : l.Pairwise (fun x y => x < y)) (hm : m.Pairwise (fun x y => x < y)) (h : ∀ x, x ∈ l ↔ x ∈ m) : l = m := by
  have nd : ∀ {l : List (List UInt8)}, l.Pairwise (fun x y => x < y) → l.Nodup := fun h => h.imp fun {a b} hab e => by subst e; exact List.lt_irrefl _ hab
  refine List.Perm.eq_of_pairwise (le := fun a b => a < b) (fun a b _ _ h1 h2 => absurd (List.lt_trans h1 h2) (List.lt_irrefl _)) hl hm ((List.perm_ext_iff_of_nodup (nd hl) (nd hm)).2 h)
theorem ltS_iff (a b : ByteArray) : ltS a b = true ↔ a.data.toList < b.data.toList := by
  rw [ltS, bytesLess_eq, decide_eq_true_eq, ByteArray.toList_eq, ByteArray.toList_eq]
def AscS (ss : List ByteArray) : Prop := ss.Pairwise fun a b => ltS a b = true
theorem mem_putS {ss : List ByteArray} {s x : ByteArray} : x ∈ putS ss s ↔ x ∈ ss ∨ x = s := by
  rw [putS, List.mem_append, List.mem_append, List.mem_filter, List.mem_filter, List.mem_singleton]
  constructor
  · rintro ((h | h) | h)
    · exact .inl h.1
    · exact .inr h
    · exact .inl h.1
  · rintro (h | h)
    · rcases lt_tri x s with h1 | h1 | h1
      · exact .inl (.inl ⟨h, h1⟩)
      · exact .inl (.inr h1)
      · exact .inr ⟨h, by rw [gt_iff]; exact h1⟩
    · exact .inl (.inr h)
theorem ascS_put {ss : List ByteArray} (h : AscS ss) (s : ByteArray) : AscS (putS ss s) := by
  rw [putS]
  refine List.pairwise_append.2 ⟨List.pairwise_append.2 ⟨h.filter _, by simp, fun x hx y hy => ?_⟩, h.filter _, fun x hx y hy => ?_⟩
  · obtain rfl : y = s := by simpa using hy
    exact (List.mem_filter.1 hx).2
  · have hy2 : ltS s y = true := by rw [← gt_iff]; exact (List.mem_filter.1 hy).2
    rcases List.mem_append.1 hx with hx | hx
    · exact lt_trans' (List.mem_filter.1 hx).2 hy2
    · obtain rfl : x = s := by simpa using hx
      exact hy2
/-- The names of the nodes, as they come. -/
def namesF (ns : List NodeD) : List ByteArray := (ns.filter fun x => decide (x.op = 2)).map fun x => x.name
theorem namesF_next (ns : List NodeD) (k : Nat) (h : k < ns.length) : namesF (ns.take (k + 1)) = namesF (ns.take k) ++ (if ns[k].op = 2 then [ns[k].name] else []) := by
  rw [List.take_succ_eq_append_getElem h, namesF, List.filter_append, List.map_append, ← namesF]
  congr 1
  rw [List.filter_cons, List.filter_nil]
  by_cases e : ns[k].op = 2
  · simp [e]
  · simp [e]
theorem namesF_len (ns : List NodeD) : (namesF ns).length ≤ ns.length := by
  rw [namesF, List.length_map]
  exact List.length_filter_le ..
theorem freeF_asc (ns : List NodeD) : ∀ k, k ≤ ns.length → AscS (freeF (ns.take k)) ∧ ∀ x, x ∈ freeF (ns.take k) ↔ x ∈ namesF (ns.take k)
  | 0, _ => ⟨List.Pairwise.nil, fun x => by simp [freeF, namesF]⟩
  | k + 1, h => by
    obtain ⟨h1, h2⟩ := freeF_asc ns k (by omega)
    rw [freeF_next ns k (by omega), namesF_next ns k (by omega)]
    by_cases e : ns[k].op = 2
    · rw [if_pos e, if_pos e]
      exact ⟨ascS_put h1 _, fun x => by rw [mem_putS, h2 x, List.mem_append, List.mem_singleton]⟩
    · rw [if_neg e, if_neg e, List.append_nil]
      exact ⟨h1, h2⟩
theorem free_compact (ns : List NodeD) : Lib.compact (((namesF ns).map fun s => s.data.toList).mergeSort leL) = (freeF ns).map fun s => s.data.toList := by
  obtain ⟨h1, h2⟩ := compact_sorted ((namesF ns).map fun s => s.data.toList)
  obtain ⟨h3, h4⟩ := freeF_asc ns ns.length (Nat.le_refl _)
  rw [List.take_of_length_le (Nat.le_refl _)] at h3 h4
  refine asc_same h1 (List.pairwise_map.2 (h3.imp fun {a b} hab => (ltS_iff a b).1 hab)) fun x => ?_
  rw [h2 x, List.mem_map, List.mem_map]
  exact ⟨fun ⟨s, hs, e⟩ => ⟨s, (h4 s).2 hs, e⟩, fun ⟨s, hs, e⟩ => ⟨s, (h4 s).1 hs, e⟩⟩
end Go.Proofs.YtokidlklkgghkaaGreatDoor

namespace Go.Proofs
open Go.Shelf
def Tryz.lays137_ren : Go.Shelf.Ren := ⟨fun | 137 => 131 | 217 => 139 | 266 => 149 | n => n, fun | 9 => 9 | 5 => 5 | 3 => 3 | n => n, fun | n => n⟩
theorem Tryz.lays137 : Go.Proofs.Lays.n137 Tryz.prog Tryz.lays137_ren := {
  mixed := by kernel_rfl
  f137 := Tryz.func131.trans (congrArg some (by kernel_rfl))
  f217 := Tryz.func139.trans (congrArg some (by kernel_rfl))
  f266 := Tryz.func149.trans (congrArg some (by kernel_rfl))
  t3 := Tryz.underlying3
  a3 := Tryz.isAgg3
  z3 := Tryz.sizeOf3
  v3 := Tryz.zeroValue3
  t5 := Tryz.underlying5
  a5 := Tryz.isAgg5
  z5 := Tryz.sizeOf5
  v5 := Tryz.zeroValue5
  t9 := Tryz.underlying9
  a9 := Tryz.isAgg9
  z9 := Tryz.sizeOf9
  v9 := Tryz.zeroValue9 }
open Go.RowKit in
theorem Tryz.strings_IndexByte (s : ByteArray) (c : Int) (w : World) :
    Calls Tryz.prog 131 #[.string s, .int .u8 c] w fun e w' => e = .returned (.int .i64 (Lib.indexByte s.data.toList c.toNat.toUInt8)) ∧ w' = w := Any.strings_IndexByte Tryz.lays137 s c w
def Tryz.laysM316_ren : Go.Shelf.Ren := ⟨fun | 316 => 60 | n => n, fun | 9 => 9 | 3 => 3 | 4 => 4 | 37 => 72 | 0 => 0 | 127 => 114 | 5 => 5 | n => n, fun | n => n⟩
theorem Tryz.laysM316 : Go.Proofs.LaysM.n316 Tryz.prog Tryz.laysM316_ren := {
  mixed := by kernel_rfl
  f316 := Tryz.func60.trans (congrArg some (by kernel_rfl))
  t0 := Tryz.underlying0
  a0 := Tryz.isAgg0
  z0 := Tryz.sizeOf0
  v0 := Tryz.zeroValue0
  t3 := Tryz.underlying3
  a3 := Tryz.isAgg3
  z3 := Tryz.sizeOf3
  v3 := Tryz.zeroValue3
  t4 := Tryz.underlying4
  a4 := Tryz.isAgg4
  z4 := Tryz.sizeOf4
  v4 := Tryz.zeroValue4
  t9 := Tryz.underlying9
  a9 := Tryz.isAgg9
  z9 := Tryz.sizeOf9
  v9 := Tryz.zeroValue9
  t37 := Tryz.underlying72
  a37 := Tryz.isAgg72
  z37 := Tryz.sizeOf72
  v37 := Tryz.zeroValue72
  t127 := Tryz.underlying114
  a127 := Tryz.isAgg114
  z127 := Tryz.sizeOf114
  v127 := Tryz.zeroValue114
  t5 := Tryz.underlying5
  a5 := Tryz.isAgg5
  z5 := Tryz.sizeOf5
  v5 := Tryz.zeroValue5
  i0 := by kernel_rfl
  i3 := by kernel_rfl
  i4 := by kernel_rfl
  i5 := by kernel_rfl
  i9 := by kernel_rfl
  i37 := by kernel_rfl
  i127 := by kernel_rfl }
open Go.RowKit in
theorem Tryz.stringslite_Clone (s : ByteArray) (w : World) (hlim : s.size ≤ 281474976710656) :
    Calls Tryz.prog 60 #[.string s] w fun e w' => e = .returned (.string s) ∧ Below w.heap.size w w' := Any.stringslite_Clone Tryz.laysM316 s w hlim
def Tryz.lays194_ren : Go.Shelf.Ren := ⟨fun | 194 => 147 | n => n, fun | 31 => 37 | 9 => 9 | 3 => 3 | 4 => 4 | 0 => 0 | n => n, fun | n => n⟩
theorem Tryz.lays194 : Go.Proofs.Lays.n194 Tryz.prog Tryz.lays194_ren := {
  mixed := by kernel_rfl
  f194 := Tryz.func147.trans (congrArg some (by kernel_rfl))
  t0 := Tryz.underlying0
  a0 := Tryz.isAgg0
  z0 := Tryz.sizeOf0
  v0 := Tryz.zeroValue0
  t3 := Tryz.underlying3
  a3 := Tryz.isAgg3
  z3 := Tryz.sizeOf3
  v3 := Tryz.zeroValue3
  t4 := Tryz.underlying4
  a4 := Tryz.isAgg4
  z4 := Tryz.sizeOf4
  v4 := Tryz.zeroValue4
  t9 := Tryz.underlying9
  a9 := Tryz.isAgg9
  z9 := Tryz.sizeOf9
  v9 := Tryz.zeroValue9
  t31 := Tryz.underlying37
  a31 := Tryz.isAgg37
  z31 := Tryz.sizeOf37
  v31 := Tryz.zeroValue37 }
open Go.RowKit Go.Lib Go.Sort in
theorem Tryz.slices_Compact_string (blk off cap : Nat) (zs : List (List UInt8)) (w : World) (hH : Holds encStr w blk off zs.toArray) (hsz : zs.length ≤ 9223372036854775807) (hcap : zs.length ≤ cap) :
    Calls Tryz.prog 147 #[.slice (some ⟨blk, off, none⟩) zs.length cap] w fun e w' => e = .returned (.slice (some ⟨blk, off, none⟩) (Lib.compact zs).length cap) ∧ ∃ q, w' = putRow encStr (Sort.ahead w q) blk off (Lib.compact zs ++ List.replicate (zs.length - (Lib.compact zs).length) []).toArray := Any.slices_Compact_string Tryz.lays194 blk off cap zs w hH hsz hcap
open Go.RowKit Go.Lib Go.Sort in
theorem Tryz.slices_Compact_string_empty (a : Option Addr) (cap : Nat) (w : World) :
    Calls Tryz.prog 147 #[.slice a 0 cap] w fun e w' => e = .returned (.slice a 0 cap) ∧ w' = w := Any.slices_Compact_string_empty Tryz.lays194 a cap w
def Tryz.laysSlM6_f146_ren : Go.Shelf.Ren := ⟨fun | 6 => 146 | 8 => 154 | 9 => 153 | 19 => 170 | 20 => 171 | 21 => 161 | 22 => 162 | 23 => 163 | 24 => 164 | 25 => 165 | 26 => 166 | 27 => 167 | 28 => 168 | 29 => 169 | 36 => 176 | 31 => 177 | 32 => 178 | 37 => 179 | 38 => 180 | 39 => 181 | 41 => 183 | n => n, fun | 27 => 37 | 29 => 9 | 3 => 3 | 32 => 88 | 26 => 37 | 0 => 0 | 44 => 58 | 46 => 151 | 4 => 4 | 36 => 206 | 35 => 205 | 41 => 211 | 5 => 5 | 9 => 9 | 53 => 230 | 57 => 234 | 63 => 237 | 64 => 238 | n => n, fun | n => n⟩
theorem Tryz.laysSlM6_f146 : Go.Proofs.SlLaysM.n6 Tryz.prog Tryz.laysSlM6_f146_ren := {
  mixed := by kernel_rfl
  f6 := ⟨Tryz.f146.name, by decide, Tryz.func146.trans (congrArg some (by kernel_rfl))⟩
  f8 := Tryz.func154.trans (congrArg some (by kernel_rfl))
  f9 := ⟨Tryz.f153.name, by decide, Tryz.func153.trans (congrArg some (by kernel_rfl))⟩
  f19 := Tryz.func170.trans (congrArg some (by kernel_rfl))
  f20 := Tryz.func171.trans (congrArg some (by kernel_rfl))
  f21 := ⟨Tryz.f161.name, by decide, Tryz.func161.trans (congrArg some (by kernel_rfl))⟩
  f22 := ⟨Tryz.f162.name, by decide, Tryz.func162.trans (congrArg some (by kernel_rfl))⟩
  f23 := ⟨Tryz.f163.name, by decide, Tryz.func163.trans (congrArg some (by kernel_rfl))⟩
  f24 := ⟨Tryz.f164.name, by decide, Tryz.func164.trans (congrArg some (by kernel_rfl))⟩
  f25 := ⟨Tryz.f165.name, by decide, Tryz.func165.trans (congrArg some (by kernel_rfl))⟩
  f26 := ⟨Tryz.f166.name, by decide, Tryz.func166.trans (congrArg some (by kernel_rfl))⟩
  f27 := ⟨Tryz.f167.name, by decide, Tryz.func167.trans (congrArg some (by kernel_rfl))⟩
  f28 := ⟨Tryz.f168.name, by decide, Tryz.func168.trans (congrArg some (by kernel_rfl))⟩
  f29 := ⟨Tryz.f169.name, by decide, Tryz.func169.trans (congrArg some (by kernel_rfl))⟩
  f31 := Tryz.func177.trans (congrArg some (by kernel_rfl))
  f32 := Tryz.func178.trans (congrArg some (by kernel_rfl))
  f36 := ⟨Tryz.f176.name, by decide, Tryz.func176.trans (congrArg some (by kernel_rfl))⟩
  f37 := ⟨Tryz.f179.name, by decide, Tryz.func179.trans (congrArg some (by kernel_rfl))⟩
  f38 := ⟨Tryz.f180.name, by decide, Tryz.func180.trans (congrArg some (by kernel_rfl))⟩
  f39 := ⟨Tryz.f181.name, by decide, Tryz.func181.trans (congrArg some (by kernel_rfl))⟩
  f41 := ⟨Tryz.f183.name, by decide, Tryz.func183.trans (congrArg some (by kernel_rfl))⟩
  t0 := Tryz.underlying0
  a0 := Tryz.isAgg0
  z0 := Tryz.sizeOf0
  v0 := Tryz.zeroValue0
  t3 := Tryz.underlying3
  a3 := Tryz.isAgg3
  z3 := Tryz.sizeOf3
  v3 := Tryz.zeroValue3
  t4 := Tryz.underlying4
  a4 := Tryz.isAgg4
  z4 := Tryz.sizeOf4
  v4 := Tryz.zeroValue4
  t5 := Tryz.underlying5
  a5 := Tryz.isAgg5
  z5 := Tryz.sizeOf5
  v5 := Tryz.zeroValue5
  t9 := Tryz.underlying9
  a9 := Tryz.isAgg9
  z9 := Tryz.sizeOf9
  v9 := Tryz.zeroValue9
  t26 := Tryz.underlying37
  a26 := Tryz.isAgg37
  z26 := Tryz.sizeOf37
  v26 := Tryz.zeroValue37
  t27 := Tryz.underlying37
  a27 := Tryz.isAgg37
  z27 := Tryz.sizeOf37
  v27 := Tryz.zeroValue37
  t29 := Tryz.underlying9
  a29 := Tryz.isAgg9
  z29 := Tryz.sizeOf9
  v29 := Tryz.zeroValue9
  t32 := Tryz.underlying88
  a32 := Tryz.isAgg88
  z32 := Tryz.sizeOf88
  v32 := Tryz.zeroValue88
  t35 := Tryz.underlying205
  a35 := Tryz.isAgg205
  z35 := Tryz.sizeOf205
  v35 := Tryz.zeroValue205
  t36 := Tryz.underlying206
  a36 := Tryz.isAgg206
  z36 := Tryz.sizeOf206
  v36 := Tryz.zeroValue206
  t41 := Tryz.underlying211
  a41 := Tryz.isAgg211
  z41 := Tryz.sizeOf211
  v41 := Tryz.zeroValue211
  t44 := Tryz.underlying58
  a44 := Tryz.isAgg58
  z44 := Tryz.sizeOf58
  v44 := Tryz.zeroValue58
  t46 := Tryz.underlying151
  a46 := Tryz.isAgg151
  z46 := Tryz.sizeOf151
  v46 := Tryz.zeroValue151
  t53 := Tryz.underlying230
  a53 := Tryz.isAgg230
  z53 := Tryz.sizeOf230
  v53 := Tryz.zeroValue230
  t57 := Tryz.underlying234
  a57 := Tryz.isAgg234
  z57 := Tryz.sizeOf234
  v57 := Tryz.zeroValue234
  t63 := Tryz.underlying237
  a63 := Tryz.isAgg237
  z63 := Tryz.sizeOf237
  v63 := Tryz.zeroValue237
  t64 := Tryz.underlying238
  a64 := Tryz.isAgg238
  z64 := Tryz.sizeOf238
  v64 := Tryz.zeroValue238 }
open Go.Sort Go.RowKit in
theorem Tryz.slices_Sort_string (blk off cap : Nat) (ss : List (List UInt8)) (w : World) (hH : Holds encStr w blk off ss.toArray) (hblk : blk < w.heap.size) (hsz : ss.length < 4611686018427387904) :
    Calls Tryz.prog 146 #[.slice (some ⟨blk, off, none⟩) ss.length cap] w fun e w' =>
      e = .returned (.tuple #[]) ∧ ∃ n os, w' = grow (putRow encStr (Sort.ahead w n) blk off (ss.mergeSort fun x y => decide (x ≤ y)).toArray) os := AnyM.slices_Sort_string Tryz.laysSlM6_f146 blk off cap ss w hH hblk hsz
open Go.RowKit Go.Sort in
theorem Tryz.slices_Sort_string_none (p : Option Addr) (cap : Nat) (w : World) :
    Calls Tryz.prog 146 #[.slice p 0 cap] w fun e w' => e = .returned (.tuple #[]) ∧ w' = w := AnyM.slices_Sort_string_none Tryz.laysSlM6_f146 p cap w
end Go.Proofs

namespace Go.Proofs.YtokidlklkgghkaaGreatDoor
open Go.RowKit

theorem cloneS (s : ByteArray) (w : World) (hz : s.size ≤ 1048576) :
    Calls Tryz.prog 36 #[.string s] w fun e w' => e = .returned (.string s) ∧ Below w.heap.size w w' := by
  have HC : Hid (∀ W, _) := fun W => Tryz.stringslite_Clone s W (by omega)
  go_enter Tryz.func36, Tryz.ntmps36
  go_wp2_with (go_at_call 60; refine (HC.out _).mono ?_; rintro e w1 ⟨rfl, hb1⟩)
  go_ret
  exact ⟨rfl, hb1⟩

/-! ### sorted, each once: what the row is then -/
open Go.Sort
theorem grow_none (w : World) : grow w #[] = w := by simp [grow]
theorem compact_len (zs : List (List UInt8)) : (Lib.compact zs).length ≤ zs.length := by
  rw [Lib.compact, Lib.compactUpTo, List.length_map]
  exact Nat.le_trans (List.length_filter_le ..) (by simp)
theorem own_compact {w : World} {base g cap q : Nat} {e : TypeId} {cur : Array Value} {zs : List (List UInt8)} (hbase : base ≤ g) (hb : w.heap[g]? = some (.cells cur e (0, 0))) (h1 : zs.length ≤ cap) (h2 : cap ≤ maxLen) (h3 : cur.size = cap * 1) :
    (putRow encStr (Sort.ahead w q) g 0 (Lib.compact zs ++ List.replicate (zs.length - (Lib.compact zs).length) []).toArray).ownsRow base e 1 (.slice (some ⟨g, 0, none⟩) (Lib.compact zs).length cap) (Lib.compact zs).length ((Lib.compact zs).map encStr) := by
  have hl := compact_len zs
  have hh := heap_sorted (n := q) (os := #[]) (Lib.compact zs ++ List.replicate (zs.length - (Lib.compact zs).length) []).toArray hb
  rw [grow_none] at hh
  refine ⟨by simp, .inr ⟨g, cap, _, rfl, hbase, hh, by omega, h2, by simp [putCells, h3], ?_⟩⟩
  have ht := take_putCells cur (Lib.compact zs ++ List.replicate (zs.length - (Lib.compact zs).length) []) (by simp; omega)
  have ht2 := congrArg (List.take (Lib.compact zs).length) ht
  rw [List.take_take, List.map_append, List.take_append_of_le_length (by simp), List.take_of_length_le (by simp : (List.map encStr (Lib.compact zs)).length ≤ (Lib.compact zs).length), List.length_append, List.length_replicate, Nat.min_eq_left (by omega)] at ht2
  rw [Nat.mul_one]
  exact ht2
theorem sb_enc (ss : List ByteArray) : sb ss = (ss.map fun s => s.data.toList).map encStr := by
  rw [sb, List.map_map]
  apply List.map_congr_left
  intro s _
  simp [encStr]
theorem own_names {B : Nat} {v : Value} {ss : List ByteArray} {n : Nat} {ts : List (List UInt8)} {w : World} (h : w.ownsRow B 9 1 v n (ts.map encStr)) (hn : n = ts.length) (ht : ts = ss.map fun s => s.data.toList) : OwnB B v ss w := by
  subst hn
  subst ht
  rw [OwnB, sb_enc]
  rw [List.length_map] at h
  exact h

end Go.Proofs.YtokidlklkgghkaaGreatDoor

namespace Go.Proofs.YtokidlklkgghkaaGreatDoor
open Go.RowKit

/-- A part that is no name is told so. -/
theorem part_noVar {x : NodeD} (h2 : ¬ x.op = 2) : ∃ (t : TypeId) (pv : Value), partV x = .iface t pv ∧ ∀ W, (Instr.typeAssert (.iface t pv) 172 178 true).run Tryz.prog W = .ok (.tuple #[.agg #[.string ⟨#[]⟩], .bool false]) W := by
  by_cases o1 : x.op = 1
  · exact ⟨_, _, by rw [partV, if_pos o1], fun W => Tryz.ta_num_var _ W⟩
  by_cases o3 : x.op = 3
  · exact ⟨_, _, by rw [partV, if_neg o1, if_neg h2, if_pos o3], fun W => Tryz.ta_here_var _ W⟩
  by_cases o11 : x.op = 11
  · exact ⟨_, _, by rw [partV, if_neg o1, if_neg h2, if_neg o3, if_pos o11], fun W => Tryz.ta_not_var _ W⟩
  · exact ⟨_, _, by rw [partV, if_neg o1, if_neg h2, if_neg o3, if_neg o11], fun W => Tryz.ta_pair_var _ W⟩
theorem name_size {i : Nat} {x : NodeD} (h : nodeB i x = true) (h2 : x.op = 2) : x.name.size ≤ 4 := by
  obtain ⟨_, _, hf, _⟩ := node_parts h
  rw [fieldsB, Bool.and_eq_true, if_pos h2, nameB, Bool.and_eq_true, decide_eq_true_eq] at hf
  exact hf.2.2.2

set_option maxHeartbeats 1600000 in
set_option maxRecDepth 100000 in
theorem namesOf_any (v : Value) (ns : List NodeD) (w : World) (hx : exprB ns = true) (h : PRow w v ns) :
    Calls Tryz.prog 145 #[v] w fun e w' => ∃ o, e = .returned o ∧ OwnB w.heap.size o (namesF ns) w' ∧ Below w.heap.size w w' := by
  obtain ⟨i0, hi, hz0, hz1, hz2⟩ := info_parts Tryz.infoStr
  obtain ⟨⟨hl1, hl2⟩, hnode⟩ := exprB_at hx
  have HNd : Hid (∀ k (hk : k < ns.length), nodeB k ns[k] = true) := hnode
  have HR : Hid (PRow w v ns) := h
  obtain ⟨a, cap, rfl⟩ := h.slice
  clear h hnode hx
  have O0 : Hid (OwnB w.heap.size (.slice (some ⟨w.heap.size, 0, none⟩) 0 0) (namesF (ns.take 0)) (w.alloc (.cells #[] 9))) := World.ownsRow_made (base := w.heap.size) w #[] 0 (e := 9) (size := 1) (Nat.le_refl _) (by decide) rfl
  go_enter Tryz.func145, Tryz.ntmps145
  go_wp2
  go_loopw [3, 11] (fun ov iv wr => ∃ k : Nat, iv = .int .i64 k ∧ k ≤ ns.length ∧ OwnB w.heap.size ov (namesF (ns.take k)) wr ∧ Below w.heap.size w wr) (fun _ iv _ => ns.length - (intOf iv).toNat)
  case atStart => exact ⟨0, rfl, Nat.zero_le _, O0.out, (Below.refl _ _).alloc (Nat.le_refl _) _⟩
  case round =>
    obtain ⟨k, rfl, hk, hown, hbw⟩ := hrel
    have HO : Hid (OwnB w.heap.size u3 (namesF (ns.take k)) wr) := hown
    have HB : Hid (Below w.heap.size w wr) := hbw
    clear hown hbw
    by_cases hlt : k < ns.length
    · obtain ⟨b, off, rfl, hpc⟩ := (HR.out.below HB.out).at hlt
      have HNx : Hid (_ = _) := namesF_next ns k hlt
      have hnl : (namesF (ns.take k)).length ≤ 20 := by
        have h1 := namesF_len (ns.take k)
        rw [List.length_take] at h1
        omega
      have i4 : (k : Int) < (ns.length : Int) := by omega
      generalize namesF (ns.take k) = zs at *
      by_cases o2 : ns[k].op = 2
      · have HNx2 : Hid (namesF (ns.take (k + 1)) = zs ++ [ns[k].name]) := by have := HNx.out; rwa [if_pos o2] at this
        have hp : partV ns[k] = .iface 178 (.agg #[.string ns[k].name]) := by rw [partV, if_neg (by omega), if_pos o2]
        rw [hp] at hpc
        have a1 := Tryz.ta_var_var
        have hsz := name_size (HNd.out k hlt) o2
        have HC : Hid (∀ W, _) := fun W => cloneS ns[k].name W (by omega)
        have B0 : Hid (Below w.heap.size w (wr.alloc (.cells #[.string ns[k].name] 178))) := HB.out.alloc HB.out.size _
        have HO0 : Hid (OwnB w.heap.size u3 zs (wr.alloc (.cells #[.string ns[k].name] 178))) := World.ownsRow.alloc HO.out _
        clear hp o2 HNx
        go_wp2_with fail
        refine (HC.out _).mono ?_
        rintro e w2 ⟨rfl, hb2⟩
        have HO2 : Hid (OwnB w.heap.size u3 zs w2) := HO0.out.below hb2
        have HB2 : Hid (Below w.heap.size w w2) := B0.out.trans (hb2.mono B0.out.size)
        clear hb2
        go_wp2_with (at_builtin; refine wpList_append_own _ rfl _ _ 37 rfl w.heap.size 9 i0 _ 1 16 Tryz.underlying37 hi hz0 hz1 hz2 rfl (by decide) _ _ _ rfl (World.ownsRow.alloc HO2.out _) ⟨_, 0, none⟩ 1 1 [.string ns[k].name] rfl rfl (cell_one_new _ _ _) (one_cellF _) (by unfold maxLen; omega) (by omega) (by have h8 := HB2.out.size; simp; omega) ?_)
        intro v' w3 hown3 hgrow _
        have R := ownB_snoc hown3 HO2.out hgrow rfl HB2.out
        clear hown3 hgrow
        go_wp2
        go_roundw
        case rel => exact ⟨k + 1, by go_num, by omega, by rw [HNx2.out]; exact R.1, R.2⟩
        case measure => simp [intOf]; omega
      · have HNx2 : Hid (namesF (ns.take (k + 1)) = zs) := by have := HNx.out; rwa [if_neg o2, List.append_nil] at this
        obtain ⟨t, pv, hp, hta⟩ := part_noVar o2
        rw [hp] at hpc
        have B0 : Hid (Below w.heap.size w (wr.alloc (.cells #[.string ⟨#[]⟩] 178))) := HB.out.alloc HB.out.size _
        have HO0 : Hid (OwnB w.heap.size u3 zs (wr.alloc (.cells #[.string ⟨#[]⟩] 178))) := World.ownsRow.alloc HO.out _
        clear hp o2 HNx
        go_wp2
        go_roundw
        case rel => exact ⟨k + 1, by go_num, by omega, by rw [HNx2.out]; exact HO0.out, B0.out⟩
        case measure => simp [intOf]; omega
    · obtain rfl : k = ns.length := by omega
      rw [List.take_of_length_le (Nat.le_refl _)] at HO
      have i4 : ¬ (ns.length : Int) < (ns.length : Int) := by omega
      go_wp2
      go_ret
      exact ⟨_, rfl, HO.out, HB.out⟩

end Go.Proofs.YtokidlklkgghkaaGreatDoor
