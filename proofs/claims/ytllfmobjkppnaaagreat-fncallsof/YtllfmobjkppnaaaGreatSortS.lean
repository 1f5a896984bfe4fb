/- A drawn grammar, turned in one place: how great it is. -/
/- Contracts of the library's functions that this program calls, each by one application of a theorem of the library. -/
/- A text cloned; a list of texts sorted, each once. -/
import Derived.Test.YtllfmobjkppnaaaGreatDrQ
import Derived.Test.YtllfmobjkppnaaaGreatProg
import Derived.Test.YtllfmobjkppnaaaGreatF15P
import Derived.Shelf.Small.Bits
import Derived.Shelf.Strconv.Itoa0
import Derived.Shelf.LaysM
import Derived.Shelf.Strconv.Clone
import Derived.Shelf.Slices.CompactS
import Derived.Shelf.Slices.Cells
import Derived.Ground.SlgmProg
import Derived.Shelf.SortM.Plain
import Derived.Shelf.SortM.SortNone
import Derived.Sort.OwnSorted
namespace Go.Proofs.YtllfmobjkppnaaaGreat
open Go.RowKit
set_option linter.unusedVariables false

theorem sum_set {α : Type} (f : α → Nat) : ∀ (xs : List α) (i : Nat) (h : i < xs.length) (y : α), ((xs.set i y).map f).sum + f xs[i] = (xs.map f).sum + f y
  | x :: xs, 0, h, y => by simp; omega
  | x :: xs, i + 1, h, y => by
    have := sum_set f xs i (by simpa using h) y
    simp only [List.set_cons_succ, List.map_cons, List.sum_cons, List.getElem_cons_succ]
    omega
theorem rowTot_set {α : Type} (f : α → Nat) (xs : List α) (i : Nat) (h : i < xs.length) (y : α) : rowTot f (xs.set i y) + f xs[i] = rowTot f xs + f y := by
  unfold rowTot
  have := sum_set f xs i h y
  rw [List.length_set]
  omega
theorem rowTot_snoc {α : Type} (f : α → Nat) (xs : List α) (y : α) : rowTot f (xs ++ [y]) = rowTot f xs + 1 + f y := by
  unfold rowTot
  simp
  omega
theorem rowInn_set {α : Type} {P : α → Prop} {xs : List α} (h : RowInn P xs) (i : Nat) {y : α} (hy : P y) : RowInn P (xs.set i y) := ⟨by rw [List.length_set]; exact h.1, fun x hx => by
  rcases List.mem_or_eq_of_mem_set hx with hx | rfl
  · exact h.2 x hx
  · exact hy⟩
theorem rowInn_snoc {α : Type} {P : α → Prop} {xs : List α} (h : RowInn P xs) (hl : xs.length + 1 ≤ maxLen) {y : α} (hy : P y) : RowInn P (xs ++ [y]) := ⟨by rw [List.length_append]; exact hl, fun x hx => by
  rcases List.mem_append.1 hx with hx | hx
  · exact h.2 x hx
  · rw [List.mem_singleton.1 hx]; exact hy⟩
theorem strIn_small {s : ByteArray} (h : s.size ≤ 7) : StrIn s := by unfold StrIn maxLen; omega
theorem varE_in {s : ByteArray} (h : s.size ≤ 7) : ExprIn (varE s) := by
  refine ⟨by unfold maxLen; simp [varE], fun x hx => ?_⟩
  rw [List.mem_singleton.1 hx]
  refine ⟨by unfold i64; simp, by unfold i64; simp, strIn_small h, by unfold maxLen; simp, fun k hk => by cases hk⟩

theorem ay_tot {G G' : List RuleD} (h : AyOut G G') : grammarTot G' ≤ grammarTot G + 64 := by
  have e : ∀ (i : Nat) (hi : i < G.length) (r : RuleD), grammarTot (G.set i r) + ruleTot G[i] = grammarTot G + ruleTot r := fun i hi r => rowTot_set ruleTot G i hi r
  have er : ∀ r : RuleD, ruleTot r = r.name.size + rowTot ByteArray.size r.params + rowTot altTot r.alts := fun _ => rfl
  cases h with
  | same => omega
  | name i hi s hs =>
    have := e i hi { G[i] with name := s }
    have ho := er G[i]
    have hn : ruleTot { G[i] with name := s } = s.size + rowTot ByteArray.size G[i].params + rowTot altTot G[i].alts := rfl
    omega
  | params i hi s hs =>
    have := e i hi { G[i] with params := G[i].params ++ [s] }
    have ho := er G[i]
    have hn : ruleTot { G[i] with params := G[i].params ++ [s] } = G[i].name.size + rowTot ByteArray.size (G[i].params ++ [s]) + rowTot altTot G[i].alts := rfl
    rw [rowTot_snoc] at hn
    omega
  | noAlts i hi =>
    have := e i hi { G[i] with alts := [] }
    have ho := er G[i]
    have hn : ruleTot { G[i] with alts := [] } = G[i].name.size + rowTot ByteArray.size G[i].params + rowTot altTot ([]) := rfl
    have h0 : rowTot altTot ([] : List (List SymD)) = 0 := rfl
    omega
  | kind i j hi hj z hz =>
    have := e i hi { G[i] with alts := G[i].alts.set j (G[i].alts[j] ++ [⟨z, ⟨#[120]⟩, [], em⟩]) }
    have ho := er G[i]
    have hn : ruleTot { G[i] with alts := G[i].alts.set j (G[i].alts[j] ++ [⟨z, ⟨#[120]⟩, [], em⟩]) } = G[i].name.size + rowTot ByteArray.size G[i].params + rowTot altTot (G[i].alts.set j (G[i].alts[j] ++ [⟨z, ⟨#[120]⟩, [], em⟩])) := rfl
    have h1 := rowTot_set altTot G[i].alts j hj (G[i].alts[j] ++ [⟨z, ⟨#[120]⟩, [], em⟩])
    have h2 : altTot (G[i].alts[j] ++ [⟨z, ⟨#[120]⟩, [], em⟩]) = altTot G[i].alts[j] + 1 + symTot ⟨z, ⟨#[120]⟩, [], em⟩ := rowTot_snoc symTot _ _
    have h3 : symTot ⟨z, ⟨#[120]⟩, [], em⟩ = 1 := rfl
    omega
  | cond i j hi hj s hs =>
    have := e i hi { G[i] with alts := G[i].alts.set j (G[i].alts[j] ++ [⟨4, em, [varE s], em⟩]) }
    have ho := er G[i]
    have hn : ruleTot { G[i] with alts := G[i].alts.set j (G[i].alts[j] ++ [⟨4, em, [varE s], em⟩]) } = G[i].name.size + rowTot ByteArray.size G[i].params + rowTot altTot (G[i].alts.set j (G[i].alts[j] ++ [⟨4, em, [varE s], em⟩])) := rfl
    have h1 := rowTot_set altTot G[i].alts j hj (G[i].alts[j] ++ [⟨4, em, [varE s], em⟩])
    have h2 : altTot (G[i].alts[j] ++ [⟨4, em, [varE s], em⟩]) = altTot G[i].alts[j] + 1 + symTot ⟨4, em, [varE s], em⟩ := rowTot_snoc symTot _ _
    have h3 : symTot ⟨4, em, [varE s], em⟩ = 2 + s.size := by
      show 0 + (1 + (exprTot (varE s) + 0)) + 0 = _
      have : exprTot (varE s) = 1 + (s.size + 0 + 0) := rfl
      omega
    omega
  | bind i j hi hj h0 s hs =>
    have := e i hi { G[i] with alts := G[i].alts.set j (G[i].alts[j].set 0 { G[i].alts[j][0] with bind := s }) }
    have ho := er G[i]
    have hn : ruleTot { G[i] with alts := G[i].alts.set j (G[i].alts[j].set 0 { G[i].alts[j][0] with bind := s }) } = G[i].name.size + rowTot ByteArray.size G[i].params + rowTot altTot (G[i].alts.set j (G[i].alts[j].set 0 { G[i].alts[j][0] with bind := s })) := rfl
    have h1 := rowTot_set altTot G[i].alts j hj (G[i].alts[j].set 0 { G[i].alts[j][0] with bind := s })
    have h2 : altTot (G[i].alts[j].set 0 { G[i].alts[j][0] with bind := s }) + symTot G[i].alts[j][0] = altTot G[i].alts[j] + symTot { G[i].alts[j][0] with bind := s } := rowTot_set symTot _ 0 h0 _
    have h3 : ∀ y : SymD, symTot y = y.text.size + rowTot exprTot y.args + y.bind.size := fun _ => rfl
    have h4 := h3 G[i].alts[j][0]
    have h5 : symTot { G[i].alts[j][0] with bind := s } = G[i].alts[j][0].text.size + rowTot exprTot G[i].alts[j][0].args + s.size := rfl
    omega
  | rest =>
    cases G with
    | nil => simp [grammarTot, rowTot]
    | cons x xs => simp [grammarTot, rowTot]; omega
theorem ay_in {G G' : List RuleD} (h : AyOut G G') (hG : GrammarIn G) (ht : grammarTot G ≤ 1048000) : GrammarIn G' := by
  have hr : ∀ i (hi : i < G.length), RuleIn G[i] ∧ ruleTot G[i] ≤ 1048000 := fun i hi => ⟨hG.2 _ (List.getElem_mem hi), Nat.le_trans (rowTot_mem ruleTot (List.getElem_mem hi)) ht⟩
  have er : ∀ r : RuleD, ruleTot r = r.name.size + rowTot ByteArray.size r.params + rowTot altTot r.alts := fun _ => rfl
  cases h with
  | same => exact hG
  | name i hi s hs => exact rowInn_set hG i ⟨strIn_small hs, (hr i hi).1.2⟩
  | params i hi s hs =>
    refine rowInn_set hG i ⟨(hr i hi).1.1, rowInn_snoc (hr i hi).1.2.1 ?_ (strIn_small hs), (hr i hi).1.2.2⟩
    have h1 := (hr i hi).2
    rw [er] at h1
    have h2 := rowTot_len ByteArray.size G[i].params
    unfold maxLen
    omega
  | noAlts i hi => exact rowInn_set hG i ⟨(hr i hi).1.1, (hr i hi).1.2.1, by unfold maxLen; simp, fun x hx => by cases hx⟩
  | kind i j hi hj z hz =>
    have ha := (hr i hi).1.2.2
    refine rowInn_set hG i ⟨(hr i hi).1.1, (hr i hi).1.2.1, rowInn_set ha j (rowInn_snoc (ha.2 _ (List.getElem_mem hj)) ?_ ⟨show i64 (z : Int) by unfold i64; omega, show StrIn ⟨#[120]⟩ from strIn_small (by decide), ⟨by unfold maxLen; simp, fun x hx => by cases hx⟩, show StrIn em from strIn_small (by decide)⟩)⟩
    have h1 := (hr i hi).2
    rw [er] at h1
    have h2 := rowTot_mem altTot (List.getElem_mem hj)
    have h3 : G[i].alts[j].length ≤ altTot G[i].alts[j] := rowTot_len symTot _
    unfold maxLen
    omega
  | cond i j hi hj s hs =>
    have ha := (hr i hi).1.2.2
    refine rowInn_set hG i ⟨(hr i hi).1.1, (hr i hi).1.2.1, rowInn_set ha j (rowInn_snoc (ha.2 _ (List.getElem_mem hj)) ?_ ⟨by unfold i64; simp, show StrIn em from strIn_small (by decide), ⟨by unfold maxLen; simp, fun x hx => by rw [List.mem_singleton.1 hx]; exact varE_in hs⟩, show StrIn em from strIn_small (by decide)⟩)⟩
    have h1 := (hr i hi).2
    rw [er] at h1
    have h2 := rowTot_mem altTot (List.getElem_mem hj)
    have h3 : G[i].alts[j].length ≤ altTot G[i].alts[j] := rowTot_len symTot _
    unfold maxLen
    omega
  | bind i j hi hj h0 s hs =>
    have ha := (hr i hi).1.2.2
    have hs0 := (ha.2 _ (List.getElem_mem hj)).2 _ (List.getElem_mem h0)
    exact rowInn_set hG i ⟨(hr i hi).1.1, (hr i hi).1.2.1, rowInn_set ha j (rowInn_set (ha.2 _ (List.getElem_mem hj)) 0 ⟨hs0.1, hs0.2.1, hs0.2.2.1, strIn_small hs⟩)⟩
  | rest => exact ⟨by rw [List.length_drop]; have := hG.1; omega, fun x hx => hG.2 x (List.mem_of_mem_drop hx)⟩

end Go.Proofs.YtllfmobjkppnaaaGreat

namespace Go.Proofs
open Go.Shelf
def Tryz.lays128_ren : Go.Shelf.Ren := ⟨fun | 128 => 55 | n => n, fun | 51 => 110 | 3 => 3 | 4 => 4 | 46 => 72 | 5 => 5 | 9 => 9 | n => n, fun | n => n⟩
theorem Tryz.lays128 : Go.Proofs.Lays.n128 Tryz.prog Tryz.lays128_ren := {
  mixed := by kernel_rfl
  f128 := Tryz.func55.trans (congrArg some (by kernel_rfl))
  t3 := Tryz.underlying3
  a3 := Tryz.isAgg3
  z3 := Tryz.sizeOf3
  v3 := Tryz.zeroValue3
  t4 := Tryz.underlying4
  a4 := Tryz.isAgg4
  z4 := Tryz.sizeOf4
  v4 := Tryz.zeroValue4
  t5 := Tryz.underlying5
  a5 := Tryz.isAgg5
  z5 := Tryz.sizeOf5
  v5 := Tryz.zeroValue5
  t9 := Tryz.underlying9
  a9 := Tryz.isAgg9
  z9 := Tryz.sizeOf9
  v9 := Tryz.zeroValue9
  t46 := Tryz.underlying72
  a46 := Tryz.isAgg72
  z46 := Tryz.sizeOf72
  v46 := Tryz.zeroValue72
  t51 := Tryz.underlying110
  a51 := Tryz.isAgg110
  z51 := Tryz.sizeOf110
  v51 := Tryz.zeroValue110 }
theorem Tryz.bits_Len32 (x : Int) (w : World) (h0 : 0 ≤ x) (h1 : x ≤ 4294967295) :
    Calls Tryz.prog 55 #[.int .u32 x] w fun e w' => e = .returned (.int .i64 (Lib.bitLen x.toNat)) ∧ w' = w := Any.bits_Len32 Tryz.lays128 x w h0 h1
def Tryz.lays125_ren : Go.Shelf.Ren := ⟨fun | 125 => 30 | 128 => 55 | 129 => 56 | n => n, fun | 46 => 72 | 3 => 3 | 51 => 110 | 53 => 112 | 4 => 4 | 5 => 5 | 9 => 9 | n => n, fun | n => n⟩
theorem Tryz.lays125 : Go.Proofs.Lays.n125 Tryz.prog Tryz.lays125_ren := {
  mixed := by kernel_rfl
  f125 := Tryz.func30.trans (congrArg some (by kernel_rfl))
  f128 := Tryz.func55.trans (congrArg some (by kernel_rfl))
  f129 := Tryz.func56.trans (congrArg some (by kernel_rfl))
  t3 := Tryz.underlying3
  a3 := Tryz.isAgg3
  z3 := Tryz.sizeOf3
  v3 := Tryz.zeroValue3
  t4 := Tryz.underlying4
  a4 := Tryz.isAgg4
  z4 := Tryz.sizeOf4
  v4 := Tryz.zeroValue4
  t5 := Tryz.underlying5
  a5 := Tryz.isAgg5
  z5 := Tryz.sizeOf5
  v5 := Tryz.zeroValue5
  t9 := Tryz.underlying9
  a9 := Tryz.isAgg9
  z9 := Tryz.sizeOf9
  v9 := Tryz.zeroValue9
  t46 := Tryz.underlying72
  a46 := Tryz.isAgg72
  z46 := Tryz.sizeOf72
  v46 := Tryz.zeroValue72
  t51 := Tryz.underlying110
  a51 := Tryz.isAgg110
  z51 := Tryz.sizeOf110
  v51 := Tryz.zeroValue110
  t53 := Tryz.underlying112
  a53 := Tryz.isAgg112
  z53 := Tryz.sizeOf112
  v53 := Tryz.zeroValue112 }
theorem Tryz.bits_Len (x : Int) (w : World) (h0 : 0 ≤ x) (h1 : x ≤ 18446744073709551615) :
    Calls Tryz.prog 30 #[.int .u64 x] w fun e w' => e = .returned (.int .i64 (Lib.bitLen x.toNat)) ∧ w' = w := Any.bits_Len Tryz.lays125 x w h0 h1
def Tryz.lays129_ren : Go.Shelf.Ren := ⟨fun | 129 => 56 | n => n, fun | 53 => 112 | 3 => 3 | 4 => 4 | 46 => 72 | 5 => 5 | 9 => 9 | n => n, fun | n => n⟩
theorem Tryz.lays129 : Go.Proofs.Lays.n129 Tryz.prog Tryz.lays129_ren := {
  mixed := by kernel_rfl
  f129 := Tryz.func56.trans (congrArg some (by kernel_rfl))
  t3 := Tryz.underlying3
  a3 := Tryz.isAgg3
  z3 := Tryz.sizeOf3
  v3 := Tryz.zeroValue3
  t4 := Tryz.underlying4
  a4 := Tryz.isAgg4
  z4 := Tryz.sizeOf4
  v4 := Tryz.zeroValue4
  t5 := Tryz.underlying5
  a5 := Tryz.isAgg5
  z5 := Tryz.sizeOf5
  v5 := Tryz.zeroValue5
  t9 := Tryz.underlying9
  a9 := Tryz.isAgg9
  z9 := Tryz.sizeOf9
  v9 := Tryz.zeroValue9
  t46 := Tryz.underlying72
  a46 := Tryz.isAgg72
  z46 := Tryz.sizeOf72
  v46 := Tryz.zeroValue72
  t53 := Tryz.underlying112
  a53 := Tryz.isAgg112
  z53 := Tryz.sizeOf112
  v53 := Tryz.zeroValue112 }
theorem Tryz.bits_Len64 (x : Int) (w : World) (h0 : 0 ≤ x) (h1 : x ≤ 18446744073709551615) :
    Calls Tryz.prog 56 #[.int .u64 x] w fun e w' => e = .returned (.int .i64 (Lib.bitLen x.toNat)) ∧ w' = w := Any.bits_Len64 Tryz.lays129 x w h0 h1
def Tryz.laysM316_ren : Go.Shelf.Ren := ⟨fun | 316 => 28 | n => n, fun | 9 => 9 | 3 => 3 | 4 => 4 | 37 => 22 | 0 => 0 | 127 => 99 | 5 => 5 | n => n, fun | n => n⟩
theorem Tryz.laysM316 : Go.Proofs.LaysM.n316 Tryz.prog Tryz.laysM316_ren := {
  mixed := by kernel_rfl
  f316 := Tryz.func28.trans (congrArg some (by kernel_rfl))
  t0 := Tryz.underlying0
  a0 := Tryz.isAgg0
  z0 := Tryz.sizeOf0
  v0 := Tryz.zeroValue0
  t3 := Tryz.underlying3
  a3 := Tryz.isAgg3
  z3 := Tryz.sizeOf3
  v3 := Tryz.zeroValue3
  t4 := Tryz.underlying4
  a4 := Tryz.isAgg4
  z4 := Tryz.sizeOf4
  v4 := Tryz.zeroValue4
  t9 := Tryz.underlying9
  a9 := Tryz.isAgg9
  z9 := Tryz.sizeOf9
  v9 := Tryz.zeroValue9
  t37 := Tryz.underlying22
  a37 := Tryz.isAgg22
  z37 := Tryz.sizeOf22
  v37 := Tryz.zeroValue22
  t127 := Tryz.underlying99
  a127 := Tryz.isAgg99
  z127 := Tryz.sizeOf99
  v127 := Tryz.zeroValue99
  t5 := Tryz.underlying5
  a5 := Tryz.isAgg5
  z5 := Tryz.sizeOf5
  v5 := Tryz.zeroValue5
  i0 := by kernel_rfl
  i3 := by kernel_rfl
  i4 := by kernel_rfl
  i5 := by kernel_rfl
  i9 := by kernel_rfl
  i37 := by kernel_rfl
  i127 := by kernel_rfl }
open Go.RowKit in
theorem Tryz.stringslite_Clone (s : ByteArray) (w : World) (hlim : s.size ≤ 281474976710656) :
    Calls Tryz.prog 28 #[.string s] w fun e w' => e = .returned (.string s) ∧ Below w.heap.size w w' := Any.stringslite_Clone Tryz.laysM316 s w hlim
def Tryz.lays194_ren : Go.Shelf.Ren := ⟨fun | 194 => 17 | n => n, fun | 31 => 29 | 9 => 9 | 3 => 3 | 4 => 4 | 0 => 0 | n => n, fun | n => n⟩
theorem Tryz.lays194 : Go.Proofs.Lays.n194 Tryz.prog Tryz.lays194_ren := {
  mixed := by kernel_rfl
  f194 := Tryz.func17.trans (congrArg some (by kernel_rfl))
  t0 := Tryz.underlying0
  a0 := Tryz.isAgg0
  z0 := Tryz.sizeOf0
  v0 := Tryz.zeroValue0
  t3 := Tryz.underlying3
  a3 := Tryz.isAgg3
  z3 := Tryz.sizeOf3
  v3 := Tryz.zeroValue3
  t4 := Tryz.underlying4
  a4 := Tryz.isAgg4
  z4 := Tryz.sizeOf4
  v4 := Tryz.zeroValue4
  t9 := Tryz.underlying9
  a9 := Tryz.isAgg9
  z9 := Tryz.sizeOf9
  v9 := Tryz.zeroValue9
  t31 := Tryz.underlying29
  a31 := Tryz.isAgg29
  z31 := Tryz.sizeOf29
  v31 := Tryz.zeroValue29 }
open Go.RowKit Go.Lib Go.Sort in
theorem Tryz.slices_Compact_string_arr (blk off cap : Nat) (d : Array (List UInt8)) (w : World) (hH : Holds encStr w blk off d) (hsz : d.size ≤ 9223372036854775807) (hcap : d.size ≤ cap) :
    Calls Tryz.prog 17 #[.slice (some ⟨blk, off, none⟩) d.size cap] w fun e w' => e = .returned (.slice (some ⟨blk, off, none⟩) (compactUpTo d d.size).length cap) ∧ ∃ q, w' = putRow encStr (Sort.ahead w q) blk off (compactUpTo d d.size ++ List.replicate (d.size - (compactUpTo d d.size).length) []).toArray := Any.slices_Compact_string_arr Tryz.lays194 blk off cap d w hH hsz hcap
open Go.RowKit Go.Lib Go.Sort in
theorem Tryz.slices_Compact_string (blk off cap : Nat) (zs : List (List UInt8)) (w : World) (hH : Holds encStr w blk off zs.toArray) (hsz : zs.length ≤ 9223372036854775807) (hcap : zs.length ≤ cap) :
    Calls Tryz.prog 17 #[.slice (some ⟨blk, off, none⟩) zs.length cap] w fun e w' => e = .returned (.slice (some ⟨blk, off, none⟩) (Lib.compact zs).length cap) ∧ ∃ q, w' = putRow encStr (Sort.ahead w q) blk off (Lib.compact zs ++ List.replicate (zs.length - (Lib.compact zs).length) []).toArray := Any.slices_Compact_string Tryz.lays194 blk off cap zs w hH hsz hcap
open Go.RowKit Go.Lib Go.Sort in
theorem Tryz.slices_Compact_string_empty (a : Option Addr) (cap : Nat) (w : World) :
    Calls Tryz.prog 17 #[.slice a 0 cap] w fun e w' => e = .returned (.slice a 0 cap) ∧ w' = w := Any.slices_Compact_string_empty Tryz.lays194 a cap w
open Go.RowKit Go.Lib Go.Sort in
theorem Tryz.slices_Compact_string_cells (b off n c : Nat) (Sx : Nat → ByteArray) (w : World) (hbig : n ≤ 9223372036854775807) (hcap : n ≤ c) (hc : ∀ i, i < n → w.cell? ⟨b, off + i, none⟩ = some (.string (Sx i))) (hf : ∀ j, j < n → w.frozen? ⟨b, off + j, none⟩ = false) :
    Calls Tryz.prog 17 #[.slice (some ⟨b, off, none⟩) n c] w fun e w' => e = .returned (.slice (some ⟨b, off, none⟩) (Lib.compact (Lib.strsOf Sx n)).length c) ∧ ∃ q, w' = (w.drewN q).setCells b off ((Lib.compact (Lib.strsOf Sx n) ++ List.replicate (n - (Lib.compact (Lib.strsOf Sx n)).length) []).map encStr) := Any.slices_Compact_string_cells Tryz.lays194 b off n c Sx w hbig hcap hc hf
def Tryz.laysSlM6_f16_ren : Go.Shelf.Ren := ⟨fun | 6 => 16 | 8 => 30 | 9 => 29 | 19 => 55 | 20 => 56 | 21 => 46 | 22 => 47 | 23 => 48 | 24 => 49 | 25 => 50 | 26 => 51 | 27 => 52 | 28 => 53 | 29 => 54 | 36 => 74 | 31 => 75 | 32 => 76 | 37 => 77 | 38 => 78 | 39 => 79 | 41 => 91 | n => n, fun | 27 => 29 | 29 => 9 | 3 => 3 | 32 => 72 | 26 => 29 | 0 => 0 | 44 => 110 | 46 => 112 | 4 => 4 | 36 => 102 | 35 => 101 | 41 => 107 | 5 => 5 | 9 => 9 | 53 => 135 | 57 => 139 | 63 => 148 | 64 => 149 | n => n, fun | n => n⟩
theorem Tryz.laysSlM6_f16 : Go.Proofs.SlLaysM.n6 Tryz.prog Tryz.laysSlM6_f16_ren := {
  mixed := by kernel_rfl
  f6 := ⟨Tryz.f16.name, by decide, Tryz.func16.trans (congrArg some (by kernel_rfl))⟩
  f8 := Tryz.func30.trans (congrArg some (by kernel_rfl))
  f9 := ⟨Tryz.f29.name, by decide, Tryz.func29.trans (congrArg some (by kernel_rfl))⟩
  f19 := Tryz.func55.trans (congrArg some (by kernel_rfl))
  f20 := Tryz.func56.trans (congrArg some (by kernel_rfl))
  f21 := ⟨Tryz.f46.name, by decide, Tryz.func46.trans (congrArg some (by kernel_rfl))⟩
  f22 := ⟨Tryz.f47.name, by decide, Tryz.func47.trans (congrArg some (by kernel_rfl))⟩
  f23 := ⟨Tryz.f48.name, by decide, Tryz.func48.trans (congrArg some (by kernel_rfl))⟩
  f24 := ⟨Tryz.f49.name, by decide, Tryz.func49.trans (congrArg some (by kernel_rfl))⟩
  f25 := ⟨Tryz.f50.name, by decide, Tryz.func50.trans (congrArg some (by kernel_rfl))⟩
  f26 := ⟨Tryz.f51.name, by decide, Tryz.func51.trans (congrArg some (by kernel_rfl))⟩
  f27 := ⟨Tryz.f52.name, by decide, Tryz.func52.trans (congrArg some (by kernel_rfl))⟩
  f28 := ⟨Tryz.f53.name, by decide, Tryz.func53.trans (congrArg some (by kernel_rfl))⟩
  f29 := ⟨Tryz.f54.name, by decide, Tryz.func54.trans (congrArg some (by kernel_rfl))⟩
  f31 := Tryz.func75.trans (congrArg some (by kernel_rfl))
  f32 := Tryz.func76.trans (congrArg some (by kernel_rfl))
  f36 := ⟨Tryz.f74.name, by decide, Tryz.func74.trans (congrArg some (by kernel_rfl))⟩
  f37 := ⟨Tryz.f77.name, by decide, Tryz.func77.trans (congrArg some (by kernel_rfl))⟩
  f38 := ⟨Tryz.f78.name, by decide, Tryz.func78.trans (congrArg some (by kernel_rfl))⟩
  f39 := ⟨Tryz.f79.name, by decide, Tryz.func79.trans (congrArg some (by kernel_rfl))⟩
  f41 := ⟨Tryz.f91.name, by decide, Tryz.func91.trans (congrArg some (by kernel_rfl))⟩
  t0 := Tryz.underlying0
  a0 := Tryz.isAgg0
  z0 := Tryz.sizeOf0
  v0 := Tryz.zeroValue0
  t3 := Tryz.underlying3
  a3 := Tryz.isAgg3
  z3 := Tryz.sizeOf3
  v3 := Tryz.zeroValue3
  t4 := Tryz.underlying4
  a4 := Tryz.isAgg4
  z4 := Tryz.sizeOf4
  v4 := Tryz.zeroValue4
  t5 := Tryz.underlying5
  a5 := Tryz.isAgg5
  z5 := Tryz.sizeOf5
  v5 := Tryz.zeroValue5
  t9 := Tryz.underlying9
  a9 := Tryz.isAgg9
  z9 := Tryz.sizeOf9
  v9 := Tryz.zeroValue9
  t26 := Tryz.underlying29
  a26 := Tryz.isAgg29
  z26 := Tryz.sizeOf29
  v26 := Tryz.zeroValue29
  t27 := Tryz.underlying29
  a27 := Tryz.isAgg29
  z27 := Tryz.sizeOf29
  v27 := Tryz.zeroValue29
  t29 := Tryz.underlying9
  a29 := Tryz.isAgg9
  z29 := Tryz.sizeOf9
  v29 := Tryz.zeroValue9
  t32 := Tryz.underlying72
  a32 := Tryz.isAgg72
  z32 := Tryz.sizeOf72
  v32 := Tryz.zeroValue72
  t35 := Tryz.underlying101
  a35 := Tryz.isAgg101
  z35 := Tryz.sizeOf101
  v35 := Tryz.zeroValue101
  t36 := Tryz.underlying102
  a36 := Tryz.isAgg102
  z36 := Tryz.sizeOf102
  v36 := Tryz.zeroValue102
  t41 := Tryz.underlying107
  a41 := Tryz.isAgg107
  z41 := Tryz.sizeOf107
  v41 := Tryz.zeroValue107
  t44 := Tryz.underlying110
  a44 := Tryz.isAgg110
  z44 := Tryz.sizeOf110
  v44 := Tryz.zeroValue110
  t46 := Tryz.underlying112
  a46 := Tryz.isAgg112
  z46 := Tryz.sizeOf112
  v46 := Tryz.zeroValue112
  t53 := Tryz.underlying135
  a53 := Tryz.isAgg135
  z53 := Tryz.sizeOf135
  v53 := Tryz.zeroValue135
  t57 := Tryz.underlying139
  a57 := Tryz.isAgg139
  z57 := Tryz.sizeOf139
  v57 := Tryz.zeroValue139
  t63 := Tryz.underlying148
  a63 := Tryz.isAgg148
  z63 := Tryz.sizeOf148
  v63 := Tryz.zeroValue148
  t64 := Tryz.underlying149
  a64 := Tryz.isAgg149
  z64 := Tryz.sizeOf149
  v64 := Tryz.zeroValue149 }
open Go.Sort Go.RowKit in
theorem Tryz.slices_Sort_string (blk off cap : Nat) (ss : List (List UInt8)) (w : World) (hH : Holds encStr w blk off ss.toArray) (hblk : blk < w.heap.size) (hsz : ss.length < 4611686018427387904) :
    Calls Tryz.prog 16 #[.slice (some ⟨blk, off, none⟩) ss.length cap] w fun e w' =>
      e = .returned (.tuple #[]) ∧ ∃ n os, w' = grow (putRow encStr (Sort.ahead w n) blk off (ss.mergeSort fun x y => decide (x ≤ y)).toArray) os := AnyM.slices_Sort_string Tryz.laysSlM6_f16 blk off cap ss w hH hblk hsz
open Go.RowKit Go.Sort in
theorem Tryz.slices_Sort_string_none (p : Option Addr) (cap : Nat) (w : World) :
    Calls Tryz.prog 16 #[.slice p 0 cap] w fun e w' => e = .returned (.tuple #[]) ∧ w' = w := AnyM.slices_Sort_string_none Tryz.laysSlM6_f16 p cap w
end Go.Proofs

namespace Go.Proofs.YtllfmobjkppnaaaGreat
open Go.RowKit

theorem cloneS (s : ByteArray) (w : World) (hz : s.size ≤ 1048576) :
    Calls Tryz.prog 15 #[.string s] w fun e w' => e = .returned (.string s) ∧ Below w.heap.size w w' := by
  have HC : Hid (∀ W, _) := fun W => Tryz.stringslite_Clone s W (by omega)
  go_enter Tryz.func15, Tryz.ntmps15
  go_wp2_with (go_at_call 28; refine (HC.out _).mono ?_; rintro e w1 ⟨rfl, hb1⟩)
  go_ret
  exact ⟨rfl, hb1⟩

/-! ### sorted, each once: what the row is then -/
open Go.Sort
theorem grow_none (w : World) : grow w #[] = w := by simp [grow]
theorem compact_len (zs : List (List UInt8)) : (Lib.compact zs).length ≤ zs.length := by
  rw [Lib.compact, Lib.compactUpTo, List.length_map]
  exact Nat.le_trans (List.length_filter_le ..) (by simp)
theorem own_compact {w : World} {base g cap q : Nat} {e : TypeId} {cur : Array Value} {zs : List (List UInt8)} (hbase : base ≤ g) (hb : w.heap[g]? = some (.cells cur e (0, 0))) (h1 : zs.length ≤ cap) (h2 : cap ≤ maxLen) (h3 : cur.size = cap * 1) :
    (putRow encStr (Sort.ahead w q) g 0 (Lib.compact zs ++ List.replicate (zs.length - (Lib.compact zs).length) []).toArray).ownsRow base e 1 (.slice (some ⟨g, 0, none⟩) (Lib.compact zs).length cap) (Lib.compact zs).length ((Lib.compact zs).map encStr) := by
  have hl := compact_len zs
  have hh := heap_sorted (n := q) (os := #[]) (Lib.compact zs ++ List.replicate (zs.length - (Lib.compact zs).length) []).toArray hb
  rw [grow_none] at hh
  refine ⟨by simp, .inr ⟨g, cap, _, rfl, hbase, hh, by omega, h2, by simp [putCells, h3], ?_⟩⟩
  have ht := take_putCells cur (Lib.compact zs ++ List.replicate (zs.length - (Lib.compact zs).length) []) (by simp; omega)
  have ht2 := congrArg (List.take (Lib.compact zs).length) ht
  rw [List.take_take, List.map_append, List.take_append_of_le_length (by simp), List.take_of_length_le (by simp : (List.map encStr (Lib.compact zs)).length ≤ (Lib.compact zs).length), List.length_append, List.length_replicate, Nat.min_eq_left (by omega)] at ht2
  rw [Nat.mul_one]
  exact ht2
theorem sb_enc (ss : List ByteArray) : sb ss = (ss.map fun s => s.data.toList).map encStr := by
  rw [sb, List.map_map]
  apply List.map_congr_left
  intro s _
  simp [encStr]
theorem own_names {B : Nat} {v : Value} {ss : List ByteArray} {n : Nat} {ts : List (List UInt8)} {w : World} (h : w.ownsRow B 9 1 v n (ts.map encStr)) (hn : n = ts.length) (ht : ts = ss.map fun s => s.data.toList) : OwnB B v ss w := by
  subst hn
  subst ht
  rw [OwnB, sb_enc]
  rw [List.length_map] at h
  exact h

end Go.Proofs.YtllfmobjkppnaaaGreat
