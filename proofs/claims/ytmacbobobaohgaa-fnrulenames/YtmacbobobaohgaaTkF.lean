/- The verifier's draws, second part: a cursor made anew, a number out of a list, texts. -/
/- The verifier's draws for the first chapter. -/
/- The verifier's texts of grammars: one of thirteen, parted into the grammar's text and its letters. -/
/- The verifier's drawn texts of tokens. -/
/- Lists of tokens in memory: read, and owned. -/
/- FnTokenFaults, walked out of a contract on the program's Tokens. -/
import Derived.Test.YtmacbobobaohgaaDraw
import Derived.Test.YtmacbobobaohgaaGData
import Derived.Test.YtmacbobobaohgaaSuD
import Derived.OpenShut
import Derived.Deep.RegionHeld3
namespace Go.Proofs.Ytmacbobobaohgaa
open Go.RowKit

theorem Try.info5d : (Try.prog.info? 5).map (fun i => (i.zero, i.size, i.bytes)) = some (some (.int .u8 0), 1, 1) := by kernel_rfl

theorem CodeRow.slice {W : World} {v : Value} {n : Nat} (h : CodeRow W v n) : ∃ a cap, v = .slice a n cap := by
  obtain ⟨a, cap, h, _⟩ := h
  exact ⟨a, cap, h⟩

theorem CodeRow.at {W w : World} {a : Option Addr} {n cap k : Nat} (h : CodeRow W (.slice a n cap) n) (hb : Below W.heap.size W w) (hk : k < n) :
    ∃ b off, ∃ z : Int, a = some ⟨b, off, none⟩ ∧ 0 ≤ z ∧ z < 256 ∧ w.cell? ⟨b, off + k, none⟩ = some (.int .u8 z) := by
  obtain ⟨a', cap', h1, h2⟩ := h
  simp only [Value.slice.injEq] at h1
  obtain ⟨rfl, _, rfl⟩ := h1
  obtain ⟨b, off, rfl, hbl, hc⟩ := h2 (by omega)
  obtain ⟨z, z0, z1, hz⟩ := hc k hk
  exact ⟨b, off, z, rfl, z0, z1, (hb.cell hbl).trans hz⟩

theorem codeRow_of {W : World} {x : Addr} {len cap : Nat} {zs : List Int} (hl : len ≤ cap) (hz : zs.length = cap) (hcell : ∀ i, i < zs.length → W.cell? (x.add i) = some (.int .u8 (zs.getD i 0))) (hw : ∀ n ∈ zs, (Lit.int .u8 n).wf = true) :
    CodeRow W (.slice (some x) len cap) len := by
  refine ⟨_, _, rfl, fun hpos => ?_⟩
  obtain ⟨b, off, spot⟩ := x
  have h0 := hcell 0 (by omega)
  have hspot : spot = none := by simpa [Addr.add] using World.cell?_spot h0
  subst hspot
  refine ⟨b, off, rfl, ?_, fun i hi => ?_⟩
  · have := World.block_lt_of_cell? W _ h0
    simpa [Addr.add] using this
  · have h1 := hcell i (by omega)
    rw [Addr.add_lit] at h1
    have hb := bounds_u8 (hw (zs.getD i 0) (by rw [List.getD_eq_getElem?_getD, List.getElem?_eq_getElem (by omega)]; exact List.getElem_mem _))
    exact ⟨_, by omega, by omega, h1⟩

set_option maxHeartbeats 800000 in
set_option maxRecDepth 100000 in
theorem new_any (W : World) (v : Value) (n : Nat) (w : World) (hn : n ≤ 1000000000000) (hcode : CodeRow W v n) (hb : Below W.heap.size W w) :
    Calls Try.prog 12 #[v] w fun e w' => ∃ g, e = .returned (.pointer (some ⟨g, 0, none⟩)) ∧ Cur W v n g w' ∧ Below w.heap.size w w' ∧ w.heap.size ≤ g := by
  have HC : Hid (CodeRow W v n) := hcode
  have HB : Hid (Below W.heap.size W w) := hb
  obtain ⟨a, cap, rfl⟩ := hcode.slice
  clear hcode hb
  have e30 := i64_and30
  go_enter Try.func12, Try.ntmps12
  go_wp2
  go_loop [3, 4] (fun hv iv => ∃ (h : Int) (i : Nat), hv = .int .i64 h ∧ iv = .int .i64 i ∧ 0 ≤ h ∧ h ≤ 1000000034601 ∧ i ≤ n) (fun _ iv => n - (intOf iv).toNat)
  case atStart => exact ⟨_, 0, rfl, rfl, by omega, by omega, Nat.zero_le _⟩
  case round =>
    obtain ⟨h, i, rfl, rfl, h0, h1, hi⟩ := hrel
    by_cases hlt : i < n
    · obtain ⟨b, off, z, rfl, z0, z1, hz⟩ := HC.out.at HB.out hlt
      by_cases h4 : i < 4000
      · go_wp2
        go_round
        case rel => exact ⟨_, i + 1, rfl, by go_num, by omega, by omega, by omega⟩
        case measure => simp [intOf]; omega
      · go_wp2
        go_ret
        exact ⟨_, rfl, ⟨HB.out.alloc HB.out.size _, HB.out.size, 0, h, by omega, by omega, by omega, by omega, heap_alloc_new w _⟩, (Below.refl _ _).alloc (Nat.le_refl _) _, Nat.le_refl _⟩
    · go_wp2
      go_ret
      exact ⟨_, rfl, ⟨HB.out.alloc HB.out.size _, HB.out.size, 0, h, by omega, by omega, by omega, by omega, heap_alloc_new w _⟩, (Below.refl _ _).alloc (Nat.le_refl _) _, Nat.le_refl _⟩

end Go.Proofs.Ytmacbobobaohgaa

namespace Go.Proofs.Ytmacbobobaohgaa
open Go.RowKit

theorem went_alloc {W : World} {v : Value} {n g : Nat} {w : World} (h : Cur W v n g w) (o : Obj) : Went W v n g w (w.alloc o) :=
  ⟨h.moved (h.1.alloc h.1.size o) (Below.heap_alloc w o g h.lt), World.grownBy_alloc w o _⟩

theorem went_below {W : World} {v : Value} {n g : Nat} {w w' : World} (h : Cur W v n g w) (hb : Below w.heap.size w w') : Went W v n g w w' :=
  ⟨h.moved (h.1.trans (hb.mono h.1.size)) (hb.block g h.lt), ⟨hb.os, hb.tape, hb.output, hb.size, fun k hk _ => hb.block k hk⟩⟩

theorem went_bel {W : World} {v : Value} {n g : Nat} {w w' : World} {B : Nat} (h : Went W v n g w w') (hB : B ≤ w.heap.size) (hg : B ≤ g) : Below B w w' :=
  ⟨h.2.os, h.2.tape, h.2.output, h.2.size, fun k hk => h.2.block k (by omega) (fun e => by have := Option.some.inj e; omega)⟩

theorem ints_row (w : World) (ys : List Int) (t : TypeId) (hy : ∀ y ∈ ys, -9223372036854775808 ≤ y ∧ y ≤ 9223372036854775807) :
    ∀ i, i < ys.length → ∃ y : Int, (w.alloc (.cells (ys.map (Value.int .i64)).toArray t)).cell? ⟨w.heap.size, i, none⟩ = some (.int .i64 y) ∧ -9223372036854775808 ≤ y ∧ y ≤ 9223372036854775807 := by
  intro i hi
  refine ⟨ys[i], ?_, hy _ (List.getElem_mem hi)⟩
  have := World.news_of_block (heap_alloc_new w (.cells (ys.map (Value.int .i64)).toArray t)) i (.int .i64 ys[i]) (by simp [hi])
  rw [Addr.add_lit, Nat.zero_add] at this
  exact this

end Go.Proofs.Ytmacbobobaohgaa

namespace Go.Proofs.Ytmacbobobaohgaa
open Go.RowKit
set_option linter.unusedVariables false

/-- Each cell a text that is not empty and no longer than m. -/
def textsIn (m : Nat) (cs : Array Value) : Bool := cs.toList.all fun v => match v with | .string s => decide (s.size ≤ m) | _ => false
theorem textsIn_at {m : Nat} {cs : Array Value} (h : textsIn m cs = true) {i : Nat} (hi : i < cs.size) : ∃ s : ByteArray, cs[i]? = some (.string s) ∧ s.size ≤ m := by
  unfold textsIn at h
  rw [List.all_eq_true] at h
  have := h cs[i] (Array.getElem_mem_toList hi)
  rw [Array.getElem?_eq_getElem hi]
  generalize cs[i] = v at *
  cases v <;> simp at this ⊢
  exact this
theorem texts_row (w : World) (cs : Array Value) (t : TypeId) (m : Nat) (h : textsIn m cs = true) : ∀ i, i < cs.size → ∃ y : ByteArray, (w.alloc (.cells cs t)).cell? ⟨w.heap.size, i, none⟩ = some (.string y) ∧ y.size ≤ m := by
  intro i hi
  obtain ⟨s, h1, h2⟩ := textsIn_at h hi
  refine ⟨s, ?_, h2⟩
  have := World.news_of_block (heap_alloc_new w (.cells cs t)) i (.string s) (by simpa using h1)
  rw [Addr.add_lit, Nat.zero_add] at this
  exact this

set_option maxRecDepth 100000 in
theorem list11_any (w : World) :
    Calls Try.prog 30 #[] w fun e w' => ∃ cs : Array Value, e = .returned (.slice (some ⟨w.heap.size, 0, none⟩) 13 13) ∧ cs.size = 13 ∧ textsIn 200 cs = true ∧ w' = w.alloc (.cells cs 9) := by
  go_enter Try.func30, Try.ntmps30
  go_wp2
  go_ret
  exact ⟨_, rfl, rfl, by decide +kernel, rfl⟩

set_option maxHeartbeats 800000 in
set_option maxRecDepth 100000 in
theorem split11_any (k : Int) (w : World) (h0 : 0 ≤ k) (h1 : k < 13) :
    Calls Try.prog 21 #[.int .i64 k] w fun e w' => ∃ s t : ByteArray, e = .returned (.tuple #[.string s, .string t]) ∧ s.size ≤ 200 ∧ t.size ≤ 200 ∧ Below w.heap.size w w' := by
  go_enter Try.func21, Try.ntmps21
  go_wp2_with fail
  refine (list11_any _).mono ?_
  rintro e w1 ⟨cs, rfl, hn, ht, rfl⟩
  obtain ⟨m, rfl⟩ := Int.eq_ofNat_of_zero_le h0
  obtain ⟨s, hs, hz⟩ := texts_row w cs 9 200 ht m (by omega)
  have HB : Hid (Below w.heap.size w (w.alloc (.cells cs 9))) := (Below.refl _ _).alloc (Nat.le_refl _) _
  generalize w.alloc (.cells cs 9) = w1 at *
  have hk : (m : Int).tmod 13 = (m : Int) := by rw [Int.tmod_eq_emod_of_nonneg (by omega)]; omega
  clear ht hn
  go_wp2
  go_loop [6] (fun iv => ∃ i : Int, iv = .int .i64 i ∧ -1 ≤ i ∧ i < s.size) (fun iv => (intOf iv + 1).toNat)
  case atStart => exact ⟨_, rfl, by omega, by omega⟩
  case round =>
    obtain ⟨i, rfl, hi0, hi1⟩ := hrel
    by_cases hneg : 0 ≤ i
    · obtain ⟨j, rfl⟩ := Int.eq_ofNat_of_zero_le hneg
      have hj : j < s.size := by omega
      have hu := s[j].toNat_lt
      by_cases hb : s[j].toNat = 124
      · have q : ((s[j].toNat : Int) == 124) = true := by rw [beq_iff_eq]; omega
        go_wp2
        go_region
        go_wp2
        go_ret2
        exact ⟨_, _, rfl, by simp [ByteArray.size_extract]; omega, by simp [ByteArray.size_extract]; omega, ⟨HB.out.os, HB.out.tape, HB.out.output, HB.out.size, HB.out.block⟩⟩
      · have q : ((s[j].toNat : Int) == 124) = false := by rw [beq_eq_false_iff_ne]; omega
        go_wp2
        go_round
        case rel => exact ⟨(j : Int) - 1, rfl, by omega, by omega⟩
        case measure => simp [intOf]
    · obtain rfl : i = -1 := by omega
      go_wp2
      go_ret2
      exact ⟨_, _, rfl, hz, by decide, HB.out⟩

end Go.Proofs.Ytmacbobobaohgaa

namespace Go.Proofs.Ytmacbobobaohgaa
open Go.RowKit
set_option linter.unusedVariables false

theorem went_below2 {W : World} {v : Value} {n g : Nat} {w w1 w2 : World} (h : Went W v n g w w1) (hb : Below w1.heap.size w1 w2) : Went W v n g w w2 := went_trans h (went_below h.1 hb)
theorem cur_drew {W : World} {v : Value} {n g : Nat} {w : World} (h : Cur W v n g w) : Cur W v n g w.drew := ⟨⟨h.1.os, h.1.tape, h.1.output, h.1.size, h.1.block⟩, h.2⟩
theorem went_drew {W : World} {v : Value} {n g : Nat} {w w' : World} (h : Went W v n g w.drew w') : Went W v n g w w' := ⟨h.1, ⟨h.2.os, h.2.tape, h.2.output, h.2.size, h.2.block⟩⟩

set_option maxRecDepth 100000 in
theorem text11_any (W : World) (v : Value) (n g : Nat) (w : World) (hn : n ≤ 1000000000000) (hcode : CodeRow W v n) (hc : Cur W v n g w) :
    Calls Try.prog 41 #[.pointer (some ⟨g, 0, none⟩)] w fun e w' => ∃ s : ByteArray, e = .returned (.string s) ∧ s.size ≤ 200 ∧ Went W v n g w w' := by
  have HC : Hid (CodeRow W v n) := hcode
  have HW : Hid (Cur W v n g w) := hc
  clear hcode hc
  go_enter Try.func41, Try.ntmps41
  go_wp2_with fail
  refine (below_any W v n g 13 _ hn HC.out HW.out (by omega) (by omega)).mono ?_
  rintro e w1 ⟨x, rfl, ⟨x0, x1⟩, hw1⟩
  have H1 : Hid (Went W v n g w w1) := hw1
  clear hw1
  go_wp2_with fail
  refine (split11_any x _ x0 x1).mono ?_
  rintro e w2 ⟨s, t, rfl, hs, ht, hb2⟩
  have H2 : Hid (Went W v n g w w2) := went_below2 H1.out hb2
  clear hb2
  go_wp2
  go_ret
  exact ⟨_, rfl, hs, H2.out⟩

end Go.Proofs.Ytmacbobobaohgaa

namespace Go.Proofs.Ytmacbobobaohgaa
open Go.RowKit
set_option linter.unusedVariables false

/-- The cells of a list of tokens. -/
def tv (xs : List TokD) : List Value := xs.flatMap fun x => [.int .i64 x.kind, .string x.text]
theorem tv_set : ∀ (ys : List TokD) (i : Nat) (x : TokD), i < ys.length → tv (ys.set i x) = ((tv ys).set (i * 2) (.int .i64 x.kind)).set (i * 2 + 1) (.string x.text)
  | y :: ys, 0, x, _ => rfl
  | y :: ys, i + 1, x, h => by
    have e : tv (y :: ys) = .int .i64 y.kind :: .string y.text :: tv ys := rfl
    have e2 : tv ((y :: ys).set (i + 1) x) = .int .i64 y.kind :: .string y.text :: tv (ys.set i x) := rfl
    rw [e, e2, tv_set ys i x (by simpa using h), show (i + 1) * 2 = i * 2 + 1 + 1 by omega]
    rfl
def OwnT (B : Nat) (v : Value) (xs : List TokD) (w : World) : Prop := w.ownsRow B 86 2 v xs.length (tv xs)
theorem vss_tv : ∀ (vss : List (List Value)) (xs : List TokD), vss.length = xs.length → (∀ i (h : i < vss.length) (h' : i < xs.length), vss[i] = [.int .i64 xs[i].kind, .string xs[i].text]) → vss.flatten = tv xs
  | [], [], _, _ => rfl
  | [], _ :: _, h, _ => by cases h
  | _ :: _, [], h, _ => by cases h
  | vs :: vss, x :: xs, h, hh => by
    have h0 := hh 0 (by simp) (by simp)
    have h1 := vss_tv vss xs (by simpa using h) (fun i hi hi' => hh (i + 1) (by simpa using hi) (by simpa using hi'))
    have h0' : vs = [.int .i64 x.kind, .string x.text] := h0
    have e : tv (x :: xs) = [.int .i64 x.kind, .string x.text] ++ tv xs := rfl
    rw [List.flatten_cons, h1, h0', e]
theorem ownT_of {B : Nat} {v : Value} {xs : List TokD} {w : World} (h : TokO B v xs w) : OwnT B v xs w := by
  obtain ⟨vss, h1, h2, h3, h4⟩ := h
  rw [vss_tv vss xs h1 (fun i hi hi' => h4 i hi hi')] at h3
  exact h3
theorem tokO_of {B : Nat} {v : Value} {xs : List TokD} {w : World} (h : OwnT B v xs w) : TokO B v xs w := by
  refine ⟨xs.map fun x => [.int .i64 x.kind, .string x.text], by simp, fun vs hvs => ?_, ?_, fun i hi hi' => ?_⟩
  · obtain ⟨x, _, rfl⟩ := List.mem_map.1 hvs
    rfl
  · rw [vss_tv _ xs (by simp) (fun i hi hi' => by simp)]
    exact h
  · simp [TokV]
theorem OwnT.below {B : Nat} {v : Value} {xs : List TokD} {w w' : World} (h : OwnT B v xs w) (hb : Below w.heap.size w w') : OwnT B v xs w' := own_below h hb
/-- A list of tokens, read. -/
def TokR (w : World) (v : Value) (xs : List TokD) : Prop := RowC 2 TokV w v xs
theorem TokR.below {w w' : World} {v : Value} {xs : List TokD} (h : TokR w v xs) (hb : Below w.heap.size w w') : TokR w' v xs := RowC.below (fun _ _ _ _ hx _ => hx) h hb
theorem OwnT.row {B : Nat} {v : Value} {xs : List TokD} {w : World} (h : OwnT B v xs w) : TokR w v xs := (tokO_of h).row
theorem TokR.at {w : World} {a : Option Addr} {n cap k : Nat} {xs : List TokD} (h : TokR w (.slice a n cap) xs) (hk : k < xs.length) :
    ∃ b off, a = some ⟨b, off, none⟩ ∧ w.cell? ⟨b, off + k * 2, none⟩ = some (.int .i64 xs[k].kind) ∧ w.cell? ⟨b, off + k * 2 + 1, none⟩ = some (.string xs[k].text) := by
  obtain ⟨b, off, vs, rfl, _, hc, hv⟩ := RowC.at h hk
  have hv' : vs = [.int .i64 xs[k].kind, .string xs[k].text] := hv
  subst hv'
  exact ⟨b, off, rfl, hc 0 (by simp), hc 1 (by simp)⟩

/-- What Tokens answers: the specification's, and the program's. -/
def TokensC (f : Nat) (s : ByteArray) : Prop := ∀ w : World, Calls Try.prog f #[.string s] w fun e w' => ∃ o, e = .returned (.tuple #[o, .int .i64 (tokensB s).2]) ∧ TokO w.heap.size o (tokensB s).1 w' ∧ Below w.heap.size w w'

end Go.Proofs.Ytmacbobobaohgaa

namespace Go.Proofs.Ytmacbobobaohgaa
open Go.RowKit
set_option linter.unusedVariables false

set_option maxHeartbeats 800000 in
set_option maxRecDepth 100000 in
theorem pickT_any (P : ByteArray → Prop) (W : World) (v : Value) (n g m gl cap : Nat) (w : World) (hn : n ≤ 1000000000000) (hcode : CodeRow W v n) (hc : Cur W v n g w) (hm : 0 < m) (hm1 : m ≤ 4294967296) (hne : gl ≠ g)
    (hl : ∀ i, i < m → ∃ y : ByteArray, w.cell? ⟨gl, i, none⟩ = some (.string y) ∧ P y) :
    Calls Try.prog 18 #[.pointer (some ⟨g, 0, none⟩), .slice (some ⟨gl, 0, none⟩) m cap] w fun e w' =>
      ∃ y : ByteArray, e = .returned (.string y) ∧ P y ∧ Went W v n g w w' := by
  have HC : Hid (CodeRow W v n) := hcode
  have HW : Hid (Cur W v n g w) := hc
  have HL : Hid (∀ i, i < m → ∃ y : ByteArray, w.cell? ⟨gl, i, none⟩ = some (.string y) ∧ P y) := hl
  clear hcode hc hl
  go_enter Try.func18, Try.ntmps18
  go_wp2_with fail
  refine (below_any W v n g m _ hn HC.out HW.out (by omega) (by omega)).mono ?_
  rintro e w1 ⟨x, rfl, ⟨x0, x1⟩, hw1⟩
  have H1 : Hid (Went W v n g w w1) := hw1
  clear hw1
  obtain ⟨k, rfl⟩ := Int.eq_ofNat_of_zero_le x0
  obtain ⟨y, hy, hp⟩ := HL.out k (by omega)
  have HP : Hid (P y) := hp
  have hy1 : w1.cell? ⟨gl, k, none⟩ = some (.string y) := H1.out.2.cell hy (fun e => hne (Option.some.inj e))
  clear hy hp
  go_wp2
  go_ret
  exact ⟨_, rfl, HP.out, H1.out⟩

theorem texts_rowN (w : World) (cs : Array Value) (t : TypeId) (m k : Nat) (hk : k = cs.size) (h : textsIn m cs = true) : ∀ i, i < k → ∃ y : ByteArray, (w.alloc (.cells cs t)).cell? ⟨w.heap.size, i, none⟩ = some (.string y) ∧ y.size ≤ m := fun i hi => texts_row w cs t m h i (by omega)

end Go.Proofs.Ytmacbobobaohgaa
