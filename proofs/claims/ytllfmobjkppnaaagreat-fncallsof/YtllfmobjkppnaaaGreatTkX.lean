/- The verifier's draws, second part: a cursor made anew, a number out of a list, texts. -/
/- The verifier's draws for the first chapter. -/
/- The verifier's texts of grammars: one of thirteen, parted into the grammar's text and its letters. -/
/- The verifier's thirteen texts, exactly: read out of the translation itself, and how l11Split parts them. -/
import Derived.Test.YtllfmobjkppnaaaGreatDraw
import Derived.Test.YtllfmobjkppnaaaGreatS10O
import Derived.OpenShut
namespace Go.Proofs.YtllfmobjkppnaaaGreat
open Go.RowKit

theorem Tryz.info5d : (Tryz.prog.info? 5).map (fun i => (i.zero, i.size, i.bytes)) = some (some (.int .u8 0), 1, 1) := by kernel_rfl

theorem CodeRow.slice {W : World} {v : Value} {n : Nat} (h : CodeRow W v n) : ∃ a cap, v = .slice a n cap := by
  obtain ⟨a, cap, h, _⟩ := h
  exact ⟨a, cap, h⟩

theorem CodeRow.at {W w : World} {a : Option Addr} {n cap k : Nat} (h : CodeRow W (.slice a n cap) n) (hb : Below W.heap.size W w) (hk : k < n) :
    ∃ b off, ∃ z : Int, a = some ⟨b, off, none⟩ ∧ 0 ≤ z ∧ z < 256 ∧ w.cell? ⟨b, off + k, none⟩ = some (.int .u8 z) := by
  obtain ⟨a', cap', h1, h2⟩ := h
  simp only [Value.slice.injEq] at h1
  obtain ⟨rfl, _, rfl⟩ := h1
  obtain ⟨b, off, rfl, hbl, hc⟩ := h2 (by omega)
  obtain ⟨z, z0, z1, hz⟩ := hc k hk
  exact ⟨b, off, z, rfl, z0, z1, (hb.cell hbl).trans hz⟩

theorem codeRow_of {W : World} {x : Addr} {len cap : Nat} {zs : List Int} (hl : len ≤ cap) (hz : zs.length = cap) (hcell : ∀ i, i < zs.length → W.cell? (x.add i) = some (.int .u8 (zs.getD i 0))) (hw : ∀ n ∈ zs, (Lit.int .u8 n).wf = true) :
    CodeRow W (.slice (some x) len cap) len := by
  refine ⟨_, _, rfl, fun hpos => ?_⟩
  obtain ⟨b, off, spot⟩ := x
  have h0 := hcell 0 (by omega)
  have hspot : spot = none := by simpa [Addr.add] using World.cell?_spot h0
  subst hspot
  refine ⟨b, off, rfl, ?_, fun i hi => ?_⟩
  · have := World.block_lt_of_cell? W _ h0
    simpa [Addr.add] using this
  · have h1 := hcell i (by omega)
    rw [Addr.add_lit] at h1
    have hb := bounds_u8 (hw (zs.getD i 0) (by rw [List.getD_eq_getElem?_getD, List.getElem?_eq_getElem (by omega)]; exact List.getElem_mem _))
    exact ⟨_, by omega, by omega, h1⟩

set_option maxHeartbeats 800000 in
set_option maxRecDepth 100000 in
theorem new_any (W : World) (v : Value) (n : Nat) (w : World) (hn : n ≤ 1000000000000) (hcode : CodeRow W v n) (hb : Below W.heap.size W w) :
    Calls Tryz.prog 12 #[v] w fun e w' => ∃ g, e = .returned (.pointer (some ⟨g, 0, none⟩)) ∧ Cur W v n g w' ∧ Below w.heap.size w w' ∧ w.heap.size ≤ g := by
  have HC : Hid (CodeRow W v n) := hcode
  have HB : Hid (Below W.heap.size W w) := hb
  obtain ⟨a, cap, rfl⟩ := hcode.slice
  clear hcode hb
  have e30 := i64_and30
  go_enter Tryz.func12, Tryz.ntmps12
  go_wp2
  go_loop [3, 4] (fun hv iv => ∃ (h : Int) (i : Nat), hv = .int .i64 h ∧ iv = .int .i64 i ∧ 0 ≤ h ∧ h ≤ 1000000034601 ∧ i ≤ n) (fun _ iv => n - (intOf iv).toNat)
  case atStart => exact ⟨_, 0, rfl, rfl, by omega, by omega, Nat.zero_le _⟩
  case round =>
    obtain ⟨h, i, rfl, rfl, h0, h1, hi⟩ := hrel
    by_cases hlt : i < n
    · obtain ⟨b, off, z, rfl, z0, z1, hz⟩ := HC.out.at HB.out hlt
      by_cases h4 : i < 4000
      · go_wp2
        go_round
        case rel => exact ⟨_, i + 1, rfl, by go_num, by omega, by omega, by omega⟩
        case measure => simp [intOf]; omega
      · go_wp2
        go_ret
        exact ⟨_, rfl, ⟨HB.out.alloc HB.out.size _, HB.out.size, 0, h, by omega, by omega, by omega, by omega, heap_alloc_new w _⟩, (Below.refl _ _).alloc (Nat.le_refl _) _, Nat.le_refl _⟩
    · go_wp2
      go_ret
      exact ⟨_, rfl, ⟨HB.out.alloc HB.out.size _, HB.out.size, 0, h, by omega, by omega, by omega, by omega, heap_alloc_new w _⟩, (Below.refl _ _).alloc (Nat.le_refl _) _, Nat.le_refl _⟩

set_option maxHeartbeats 800000 in
theorem pickInt_any (W : World) (v : Value) (n g m gl cap : Nat) (w : World) (hn : n ≤ 1000000000000) (hcode : CodeRow W v n) (hc : Cur W v n g w) (hm : 0 < m) (hm1 : m ≤ 4294967296) (hne : gl ≠ g)
    (hl : ∀ i, i < m → ∃ y : Int, w.cell? ⟨gl, i, none⟩ = some (.int .i64 y) ∧ -9223372036854775808 ≤ y ∧ y ≤ 9223372036854775807) :
    Calls Tryz.prog 31 #[.pointer (some ⟨g, 0, none⟩), .slice (some ⟨gl, 0, none⟩) m cap] w fun e w' =>
      ∃ y : Int, e = .returned (.int .i64 y) ∧ (-9223372036854775808 ≤ y ∧ y ≤ 9223372036854775807) ∧ Went W v n g w w' := by
  have HC : Hid (CodeRow W v n) := hcode
  have HW : Hid (Cur W v n g w) := hc
  have HL : Hid (∀ i, i < m → ∃ y : Int, w.cell? ⟨gl, i, none⟩ = some (.int .i64 y) ∧ -9223372036854775808 ≤ y ∧ y ≤ 9223372036854775807) := hl
  clear hcode hc hl
  go_enter Tryz.func31, Tryz.ntmps31
  go_wp2_with fail
  refine (below_any W v n g m _ hn HC.out HW.out (by omega) (by omega)).mono ?_
  rintro e w1 ⟨x, rfl, ⟨x0, x1⟩, hw1⟩
  have H1 : Hid (Went W v n g w w1) := hw1
  clear hw1
  obtain ⟨k, rfl⟩ := Int.eq_ofNat_of_zero_le x0
  obtain ⟨y, hy, y0, y1⟩ := HL.out k (by omega)
  have hy1 : w1.cell? ⟨gl, k, none⟩ = some (.int .i64 y) := H1.out.2.cell hy (fun e => hne (Option.some.inj e))
  clear hy
  go_wp2
  go_ret
  exact ⟨_, rfl, ⟨y0, y1⟩, H1.out⟩

end Go.Proofs.YtllfmobjkppnaaaGreat

namespace Go.Proofs.YtllfmobjkppnaaaGreat
open Go.RowKit

theorem went_alloc {W : World} {v : Value} {n g : Nat} {w : World} (h : Cur W v n g w) (o : Obj) : Went W v n g w (w.alloc o) :=
  ⟨h.moved (h.1.alloc h.1.size o) (Below.heap_alloc w o g h.lt), World.grownBy_alloc w o _⟩

theorem went_below {W : World} {v : Value} {n g : Nat} {w w' : World} (h : Cur W v n g w) (hb : Below w.heap.size w w') : Went W v n g w w' :=
  ⟨h.moved (h.1.trans (hb.mono h.1.size)) (hb.block g h.lt), ⟨hb.os, hb.tape, hb.output, hb.size, fun k hk _ => hb.block k hk⟩⟩

theorem went_bel {W : World} {v : Value} {n g : Nat} {w w' : World} {B : Nat} (h : Went W v n g w w') (hB : B ≤ w.heap.size) (hg : B ≤ g) : Below B w w' :=
  ⟨h.2.os, h.2.tape, h.2.output, h.2.size, fun k hk => h.2.block k (by omega) (fun e => by have := Option.some.inj e; omega)⟩

theorem ints_row (w : World) (ys : List Int) (t : TypeId) (hy : ∀ y ∈ ys, -9223372036854775808 ≤ y ∧ y ≤ 9223372036854775807) :
    ∀ i, i < ys.length → ∃ y : Int, (w.alloc (.cells (ys.map (Value.int .i64)).toArray t)).cell? ⟨w.heap.size, i, none⟩ = some (.int .i64 y) ∧ -9223372036854775808 ≤ y ∧ y ≤ 9223372036854775807 := by
  intro i hi
  refine ⟨ys[i], ?_, hy _ (List.getElem_mem hi)⟩
  have := World.news_of_block (heap_alloc_new w (.cells (ys.map (Value.int .i64)).toArray t)) i (.int .i64 ys[i]) (by simp [hi])
  rw [Addr.add_lit, Nat.zero_add] at this
  exact this

end Go.Proofs.YtllfmobjkppnaaaGreat

namespace Go.Proofs.YtllfmobjkppnaaaGreat
open Go.RowKit
set_option linter.unusedVariables false

/-- Each cell a text that is not empty and no longer than m. -/
def textsIn (m : Nat) (cs : Array Value) : Bool := cs.toList.all fun v => match v with | .string s => decide (s.size ≤ m) | _ => false
theorem textsIn_at {m : Nat} {cs : Array Value} (h : textsIn m cs = true) {i : Nat} (hi : i < cs.size) : ∃ s : ByteArray, cs[i]? = some (.string s) ∧ s.size ≤ m := by
  unfold textsIn at h
  rw [List.all_eq_true] at h
  have := h cs[i] (Array.getElem_mem_toList hi)
  rw [Array.getElem?_eq_getElem hi]
  generalize cs[i] = v at *
  cases v <;> simp at this ⊢
  exact this
theorem texts_row (w : World) (cs : Array Value) (t : TypeId) (m : Nat) (h : textsIn m cs = true) : ∀ i, i < cs.size → ∃ y : ByteArray, (w.alloc (.cells cs t)).cell? ⟨w.heap.size, i, none⟩ = some (.string y) ∧ y.size ≤ m := by
  intro i hi
  obtain ⟨s, h1, h2⟩ := textsIn_at h hi
  refine ⟨s, ?_, h2⟩
  have := World.news_of_block (heap_alloc_new w (.cells cs t)) i (.string s) (by simpa using h1)
  rw [Addr.add_lit, Nat.zero_add] at this
  exact this

set_option maxRecDepth 100000 in
theorem list11_any (w : World) :
    Calls Tryz.prog 43 #[] w fun e w' => ∃ cs : Array Value, e = .returned (.slice (some ⟨w.heap.size, 0, none⟩) 13 13) ∧ cs.size = 13 ∧ textsIn 200 cs = true ∧ w' = w.alloc (.cells cs 9) := by
  go_enter Tryz.func43, Tryz.ntmps43
  go_wp2
  go_ret
  exact ⟨_, rfl, rfl, by decide +kernel, rfl⟩

set_option maxHeartbeats 800000 in
set_option maxRecDepth 100000 in
theorem split11_any (k : Int) (w : World) (h0 : 0 ≤ k) (h1 : k < 13) :
    Calls Tryz.prog 24 #[.int .i64 k] w fun e w' => ∃ s t : ByteArray, e = .returned (.tuple #[.string s, .string t]) ∧ s.size ≤ 200 ∧ t.size ≤ 200 ∧ Below w.heap.size w w' := by
  go_enter Tryz.func24, Tryz.ntmps24
  go_wp2_with fail
  refine (list11_any _).mono ?_
  rintro e w1 ⟨cs, rfl, hn, ht, rfl⟩
  obtain ⟨m, rfl⟩ := Int.eq_ofNat_of_zero_le h0
  obtain ⟨s, hs, hz⟩ := texts_row w cs 9 200 ht m (by omega)
  have HB : Hid (Below w.heap.size w (w.alloc (.cells cs 9))) := (Below.refl _ _).alloc (Nat.le_refl _) _
  generalize w.alloc (.cells cs 9) = w1 at *
  have hk : (m : Int).tmod 13 = (m : Int) := by rw [Int.tmod_eq_emod_of_nonneg (by omega)]; omega
  clear ht hn
  go_wp2
  go_loop [6] (fun iv => ∃ i : Int, iv = .int .i64 i ∧ -1 ≤ i ∧ i < s.size) (fun iv => (intOf iv + 1).toNat)
  case atStart => exact ⟨_, rfl, by omega, by omega⟩
  case round =>
    obtain ⟨i, rfl, hi0, hi1⟩ := hrel
    by_cases hneg : 0 ≤ i
    · obtain ⟨j, rfl⟩ := Int.eq_ofNat_of_zero_le hneg
      have hj : j < s.size := by omega
      have hu := s[j].toNat_lt
      by_cases hb : s[j].toNat = 124
      · have q : ((s[j].toNat : Int) == 124) = true := by rw [beq_iff_eq]; omega
        go_wp2
        go_region
        go_wp2
        go_ret2
        exact ⟨_, _, rfl, by simp [ByteArray.size_extract]; omega, by simp [ByteArray.size_extract]; omega, ⟨HB.out.os, HB.out.tape, HB.out.output, HB.out.size, HB.out.block⟩⟩
      · have q : ((s[j].toNat : Int) == 124) = false := by rw [beq_eq_false_iff_ne]; omega
        go_wp2
        go_round
        case rel => exact ⟨(j : Int) - 1, rfl, by omega, by omega⟩
        case measure => simp [intOf]
    · obtain rfl : i = -1 := by omega
      go_wp2
      go_ret2
      exact ⟨_, _, rfl, hz, by decide, HB.out⟩

end Go.Proofs.YtllfmobjkppnaaaGreat

namespace Go.Proofs.YtllfmobjkppnaaaGreat
open Go.RowKit
set_option linter.unusedVariables false

/-- The texts that one operation lays in a row. -/
def opTexts : Op → List ByteArray
  | .buildSlice _ _ parts => parts.toList.filterMap fun p => match p.2 with | .const (.string s) => some s | _ => none
  | _ => []
def codeTexts : Code → List ByteArray
  | .seq a b => codeTexts a ++ codeTexts b
  | .region _ is _ => is.toList.flatMap fun i => opTexts i.op
  | _ => []
/-- The texts that the translation of l11List lays. -/
noncomputable def texts11 : List ByteArray := match Tryz.f43.body with | some c => codeTexts c | none => []
theorem texts11_len : texts11.length = 13 := by kernel_rfl
/-- The last place of the sign that parts a text; its length where there is none. -/
def bar11 (s : ByteArray) : Nat := (List.range s.size).foldl (fun m i => if s.data.toList[i]? = some 124 then i else m) s.size
def cut11 (s : ByteArray) : ByteArray × ByteArray := if bar11 s < s.size then (s.extract 0 (bar11 s), s.extract (bar11 s + 1) s.size) else (s, ⟨#[97]⟩)
theorem bar_of {s : ByteArray} {j : Nat} (hj : j < s.size) (h : s[j] = 124) (hn : ∀ m (hm : m < s.size), j < m → ¬ s[m] = 124) : bar11 s = j := by
  have key : ∀ k, k ≤ s.size → j < k → (List.range k).foldl (fun m i => if s.data.toList[i]? = some 124 then i else m) s.size = j := by
    intro k
    induction k with
    | zero => intro _ h0; omega
    | succ k ih =>
      intro hk hjk
      have hl : k < s.data.toList.length := by rw [toList_size s]; omega
      rw [List.range_succ, List.foldl_append, List.foldl_cons, List.foldl_nil]
      have eg : s.data.toList[k]? = some s[k] := by rw [List.getElem?_eq_getElem hl]; rfl
      by_cases c : j = k
      · subst c
        rw [if_pos (eg.trans (congrArg some h))]
      · rw [if_neg (fun h' => hn k (by omega) (by omega) (Option.some.inj (eg.symm.trans h'))), ih (by omega) (by omega)]
  exact key s.size (Nat.le_refl _) hj
theorem bar_none {s : ByteArray} (hn : ∀ m (hm : m < s.size), ¬ s[m] = 124) : bar11 s = s.size := by
  have key : ∀ k, k ≤ s.size → (List.range k).foldl (fun m i => if s.data.toList[i]? = some 124 then i else m) s.size = s.size := by
    intro k
    induction k with
    | zero => intro _; rfl
    | succ k ih =>
      intro hk
      have hl : k < s.data.toList.length := by rw [toList_size s]; omega
      rw [List.range_succ, List.foldl_append, List.foldl_cons, List.foldl_nil, ih (by omega)]
      have eg : s.data.toList[k]? = some s[k] := by rw [List.getElem?_eq_getElem hl]; rfl
      rw [if_neg (fun h' => hn k (by omega) (Option.some.inj (eg.symm.trans h')))]
  exact key s.size (Nat.le_refl _)

set_option maxRecDepth 100000 in
theorem list11_is (w : World) :
    Calls Tryz.prog 43 #[] w fun e w' => e = .returned (.slice (some ⟨w.heap.size, 0, none⟩) 13 13) ∧ w' = w.alloc (.cells (texts11.map Value.string).toArray 9) := by
  go_enter Tryz.func43, Tryz.ntmps43
  go_wp2
  go_ret
  refine ⟨rfl, ?_⟩
  refine congrArg (fun c => w.alloc (Obj.cells c 9)) ?_
  kernel_rfl
theorem texts11_row (w : World) (t : TypeId) (i : Nat) (h : i < texts11.length) : (w.alloc (.cells (texts11.map Value.string).toArray t)).cell? ⟨w.heap.size, i, none⟩ = some (.string texts11[i]) := by
  have := World.news_of_block (heap_alloc_new w (.cells (texts11.map Value.string).toArray t)) i (.string texts11[i]) (by simp [h])
  rw [Addr.add_lit, Nat.zero_add] at this
  exact this
theorem texts11_size : ∀ s ∈ texts11, s.size ≤ 200 := by
  have : texts11.all (fun s => decide (s.size ≤ 200)) = true := by kernel_rfl
  intro s hs
  simpa using List.all_eq_true.1 this s hs

set_option maxHeartbeats 800000 in
set_option maxRecDepth 100000 in
theorem split11_is (m : Nat) (w : World) (h1 : m < texts11.length) :
    Calls Tryz.prog 24 #[.int .i64 m] w fun e w' => e = .returned (.tuple #[.string (cut11 texts11[m]).1, .string (cut11 texts11[m]).2]) ∧ Below w.heap.size w w' := by
  have hs := texts11_row w 9 m h1
  have hz := texts11_size texts11[m] (List.getElem_mem _)
  have hm : m < 13 := by rw [← texts11_len]; exact h1
  generalize texts11[m] = s at *
  have HB : Hid (Below w.heap.size w (w.alloc (.cells (texts11.map Value.string).toArray 9))) := (Below.refl _ _).alloc (Nat.le_refl _) _
  go_enter Tryz.func24, Tryz.ntmps24
  go_wp2_with fail
  refine (list11_is _).mono ?_
  rintro e w1 ⟨rfl, rfl⟩
  generalize w.alloc (.cells (texts11.map Value.string).toArray 9) = w1 at *
  have hk : (m : Int).tmod 13 = (m : Int) := by rw [Int.tmod_eq_emod_of_nonneg (by omega)]; omega
  go_wp2
  go_loop [6] (fun iv => ∃ i : Int, iv = .int .i64 i ∧ -1 ≤ i ∧ i < s.size ∧ ∀ q (hq : q < s.size), i < (q : Int) → ¬ s[q] = 124) (fun iv => (intOf iv + 1).toNat)
  case atStart => exact ⟨_, rfl, by omega, by omega, fun q hq h => by omega⟩
  case round =>
    obtain ⟨i, rfl, hi0, hi1, hnone⟩ := hrel
    have HN : Hid (∀ q (hq : q < s.size), i < (q : Int) → ¬ s[q] = 124) := hnone
    clear hnone
    by_cases hneg : 0 ≤ i
    · obtain ⟨j, rfl⟩ := Int.eq_ofNat_of_zero_le hneg
      have hj : j < s.size := by omega
      have hu := s[j].toNat_lt
      by_cases hb : s[j].toNat = 124
      · have HE : Hid (cut11 s = (s.extract 0 j, s.extract (j + 1) s.size)) := by
          have e := bar_of hj (u8_is hb (by decide)) (fun q hq hjq => HN.out q hq (by omega))
          rw [Hid, cut11, e, if_pos hj]
        have q : ((s[j].toNat : Int) == 124) = true := by rw [beq_iff_eq]; omega
        go_wp2
        go_region
        go_wp2
        go_ret2
        rw [HE.out]
        exact ⟨by simp, ⟨HB.out.os, HB.out.tape, HB.out.output, HB.out.size, HB.out.block⟩⟩
      · have q : ((s[j].toNat : Int) == 124) = false := by rw [beq_eq_false_iff_ne]; omega
        have HX : Hid (¬ s[j] = 124) := fun h => hb (by rw [h]; rfl)
        go_wp2
        go_round
        case rel =>
          refine ⟨(j : Int) - 1, rfl, by omega, by omega, fun q hq hjq => ?_⟩
          by_cases c : q = j
          · subst c; exact HX.out
          · exact HN.out q hq (by omega)
        case measure => simp [intOf]
    · obtain rfl : i = -1 := by omega
      have HE : Hid (cut11 s = (s, ⟨#[97]⟩)) := by
        have e := bar_none (s := s) (fun q hq => HN.out q hq (by omega))
        rw [Hid, cut11, e, if_neg (Nat.lt_irrefl _)]
      go_wp2
      go_ret2
      rw [HE.out]
      exact ⟨rfl, HB.out⟩

end Go.Proofs.YtllfmobjkppnaaaGreat
