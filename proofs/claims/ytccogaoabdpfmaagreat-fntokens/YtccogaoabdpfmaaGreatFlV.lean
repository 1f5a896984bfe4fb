/- Rows that a call builds out of new memory alone, one element behind the other. No program is named. -/
/- The verifier's drawn text of a grammar, exactly. -/
/- Lists of tokens in memory: read, and owned. -/
/- FnTokenFaults, walked out of a contract on the program's Tokens. -/
/- The verifier's drawn grammar with groups: its text, exactly; and the surface, out of a contract on ReadSurface. -/
/- The specification's l04Of, l04Var, l12Vars: names as expressions. -/
import Derived.Test.YtccogaoabdpfmaaGreatHld
import Derived.Test.YtccogaoabdpfmaaGreatSetBits
import Derived.Test.YtccogaoabdpfmaaGreatXPure
import Derived.Test.YtccogaoabdpfmaaGreatSuD
import Derived.Test.YtccogaoabdpfmaaGreatSfG
import Derived.Deep.AppendLies
import Derived.Laws.AppendOwnNone
namespace Go.Proofs.YtccogaoabdpfmaaGreat
open Go.RowKit
set_option linter.unusedVariables false
variable {α : Type}
def Own0 (B : Nat) (v : Value) : Nat → Prop := fun k => k < B ∨ v.ownBlock = some k
section
variable {sz : Nat} {T : TypeId} {E : World → List Value → α → Prop} {A A' : Nat → Prop} {B : Nat} {v : Value} {xs : List α} {w w' : World}
theorem RowH.add (h : RowH sz T E A B v xs w) (hvA : ∀ k, v.ownBlock = some k → A k) : ∃ cs, w.ownsRow B T sz v xs.length cs ∧ ∀ (g cap : Nat) (w2 : World) (vs : List Value) (x : α) (A' : Nat → Prop), vs.length = sz → Held A w (fun W => E W vs x) → w2.ownsRow B T sz (.slice (some ⟨g, 0, none⟩) (xs.length + 1) cap) (xs.length + 1) (cs ++ vs) → w.grownBy w2 v.ownBlock → (∀ k, k < w.heap.size → A' k → A k) → RowH sz T E A' B (.slice (some ⟨g, 0, none⟩) (xs.length + 1) cap) (xs ++ [x]) w2 := by
 obtain ⟨vss, h1, h2, h3, h4⟩ := h
 refine ⟨vss.flatten, h3, fun g cap w2 vs x A' hl hx ho2 hg hA => ?_⟩
 have hfr : FrA A w w2 := FrA.grown hg hvA
 have e : (xs ++ [x]).length = xs.length + 1 := by simp
 refine ⟨vss ++ [vs], by simp [h1], fun u hu => ?_, by rw [e]; simpa using ho2, fun i hi hi' => ?_⟩
 ·rcases List.mem_append.1 hu with hu | hu
  ·exact h2 u hu
  ·rw [List.mem_singleton.1 hu]; exact hl
 ·by_cases hlt : i < vss.length
  ·rw [List.getElem_append_left hlt, List.getElem_append_left (by omega)]
   exact Held.go (h4 i hlt (by omega)) hfr hA
  ·have e : i = vss.length := by simp at hi; omega
   subst e
   rw [List.getElem_append_right (Nat.le_refl _), List.getElem_append_right (by omega)]
   simp only [Nat.sub_self, h1]
   exact Held.go hx hfr hA
theorem own_next {g n c H B : Nat} (hat : v.ownBlock = some g ∨ g = H) (hH : w.heap.size = H) : ∀ k, k < w.heap.size → Own0 B (.slice (some ⟨g, 0, none⟩) n c) k → Own0 B v k := fun k hk h => by
 rcases h with h | h
 ·exact .inl h
 ·have e : g = k := Option.some.inj h
  rcases hat with h2 | h2
  ·exact .inr (by rw [← e]; exact h2)
  ·omega
theorem own0_lt (h : RowH sz T E A B v xs w) (hB : B ≤ w.heap.size) : ∀ k, Own0 B v k → k < w.heap.size := fun k hk => by
 rcases hk with hk | hk
 ·omega
 ·exact (RowO.lt h k hk).2
theorem RowH.fresh (h : RowH sz T E (Own0 B v) B v xs w) : Fresh B w fun W => RowC sz E W v xs := by
 have h2 : RowH sz T E (fun k => k < B) B v xs w := RowH.go h (FrA.refl _ _) (fun k _ hk => .inl hk) (fun _ _ => rfl)
 have h3 := RowH.held h2 (fun k hk hlt => by have := (RowO.lt h k hk).1; omega)
 exact fun W h4 h5 => h3 W h4 (fun k hk hn => h5 k (Nat.le_of_not_lt hn) hk)
theorem RowH.made0 (w : World) : RowH sz T E (Own0 w.heap.size (.slice (some ⟨w.heap.size, 0, none⟩) 0 0)) w.heap.size (.slice (some ⟨w.heap.size, 0, none⟩) 0 0) ([] : List α) (w.alloc (.cells #[] T)) := RowO.made (Nat.le_refl _)
end
def NodE (w : World) (vs : List Value) (x : NodeD) : Prop := ∃ kv : Value, vs = [.int .i64 x.op, .int .i64 x.num, .string x.name, kv] ∧ IRow w kv x.kids
theorem nRow_ofC {w : World} {v : Value} {ns : List NodeD} (h : RowC 4 NodE w v ns) : NRow w v ns := by
 obtain ⟨a, cap, rfl, hcap, hh⟩ := h
 refine ⟨a, cap, rfl, hcap, fun h0 => ?_⟩
 obtain ⟨b, off, rfl, hlt, hc⟩ := hh h0
 refine ⟨b, off, rfl, hlt, fun i hi => ?_⟩
 obtain ⟨vs, h1, h2, kv, rfl, hz⟩ := hc i hi
 exact ⟨kv, h2 0 (by simp), h2 1 (by simp), h2 2 (by simp), h2 3 (by simp), hz⟩
theorem append_intsF {P : Program} {w : World} {ops : Array Oper} {rest : List Oper} {o : Oper} {a : Act} {Q : Exit → Act → World → Prop} (hgd : o.guard = none) (s x : Operand) (t : TypeId)
  (ho : o.op = .call { callee := .builtin .append, args := #[s, x], argTypes := #[t, t] })
  (base : Nat) (e : TypeId) (i : TypeInfo) (z : Value) (ht : P.underlying t = some (.slice e)) (hi : P.info? e = some i) (hz : i.zero = some z)
  (hsize : i.size = 1) (hby : i.bytes = 8) (hzs : z.cells.size = 1)
  (v : Value) (n : Nat) (xs : List Value) (hs : a.eval s = v) (hown : w.ownsRow base e 1 v n xs) (ps : List Int) (pa : Option Addr) (c : Nat) (hx : a.eval x = .slice pa ps.length c) (hp : IRow w (.slice pa ps.length c) ps)
  (hl : n + ps.length ≤ 4194304) (hbase : base ≤ w.heap.size)
  (h : ∀ v' w', w'.ownsRow base e 1 v' (n + ps.length) (xs ++ zv ps) → w.grownBy w' v.ownBlock → wpList P ops Q rest (a.put o.dst v') w') : wpList P ops Q (o :: rest) a w := by
 obtain ⟨pa', c', e1, hcap, hh⟩ := hp
 cases e1
 cases pa with
 | none =>
  have h0 : ps.length = 0 := by
   rcases Nat.eq_zero_or_pos ps.length with h | h
   ·exact h
   ·obtain ⟨_, _, e, _⟩ := hh h
    cases e
  obtain rfl : ps = [] := List.length_eq_zero_iff.1 h0
  obtain rfl := hcap rfl
  refine wpList_append_own_none hgd s x t ho base e i 1 ht hi v n xs hs hown hx (h v w ?_ (World.grownBy.refl _ _))
  simpa [zv] using hown
 | some ad =>
  refine wpList_append_own w hgd s x t ho base e i z 1 8 ht hi hz hsize hby hzs (by decide) v n xs hs hown ad ps.length c (zv ps) hx (by rw [zv_len, Nat.mul_one]) (fun j u hj => ?_) (fun u hu => ?_) (by unfold maxLen; omega) (by omega) hbase (fun v' w' h1 h2 _ => h v' w' h1 h2)
  ·have hj2 : j < ps.length := by
    have := (List.getElem?_eq_some_iff.1 hj).1
    rwa [zv_len] at this
   obtain ⟨b, off, e, _, hc⟩ := hh (by omega)
   cases e
   have e2 : (zv ps)[j]? = some (.int .i64 ps[j]) := by simp [zv, hj2]
   rw [e2] at hj
   rw [← Option.some.inj hj, Addr.add_lit]
   exact hc j hj2
  ·obtain ⟨s, _, rfl⟩ := List.mem_map.1 hu
   rfl
theorem step_append_textsF {P : Program} {w : World} {ops : Array Oper} {o : Oper} {a : Act} {K : Act → World → Prop} {Q : Exit → Act → World → Prop} {E : Prop} (hgd : o.guard = none) (s x : Operand) (t : TypeId)
  (ho : o.op = .call { callee := .builtin .append, args := #[s, x], argTypes := #[t, t] })
  (base : Nat) (e : TypeId) (i : TypeInfo) (z : Value) (ht : P.underlying t = some (.slice e)) (hi : P.info? e = some i) (hz : i.zero = some z)
  (hsize : i.size = 1) (hby : i.bytes = 16) (hzs : z.cells.size = 1)
  (v : Value) (n : Nat) (xs : List Value) (hs : a.eval s = v) (hown : w.ownsRow base e 1 v n xs) (ps : List ByteArray) (pa : Option Addr) (c : Nat) (hx : a.eval x = .slice pa ps.length c) (hp : SRow w (.slice pa ps.length c) ps)
  (hl : n + ps.length ≤ 4194304) (hbase : base ≤ w.heap.size)
  (h : ∀ v' w', w'.ownsRow base e 1 v' (n + ps.length) (xs ++ sb ps) → w.grownBy w' v.ownBlock → K (a.put o.dst v') w') : if Region.wanted o (yielded ops a.tmps) = true then Oper.wp P o a w K Q else E := by
 have hw : Region.wanted o (yielded ops a.tmps) = true := by simp [Region.wanted, hgd]
 rw [if_pos hw]
 obtain ⟨pa', c', e1, hcap, hh⟩ := hp
 cases e1
 cases pa with
 | none =>
  have h0 : ps.length = 0 := by
   rcases Nat.eq_zero_or_pos ps.length with h | h
   ·exact h
   ·obtain ⟨_, _, e, _⟩ := hh h
    cases e
  obtain rfl : ps = [] := List.length_eq_zero_iff.1 h0
  obtain rfl := hcap rfl
  have hrun := run_append_owned_none (P := P) (w := w) base t o.type e i 1 ht hi v n xs hown
  have hx' : a.eval x = .slice none 0 0 := hx
  unfold Oper.wp
  simp [execOp, ho, resolve, invoke, builtin, hs, hx', hrun, Result.andThen]
  exact h v w (by simpa [sb] using hown) (World.grownBy.refl _ _)
 | some ad =>
  refine wp_append_own w s x t ho base e i z 1 16 ht hi hz hsize hby hzs (by decide) v n xs hs hown ad ps.length c (sb ps) hx (by rw [sb_len, Nat.mul_one]) (fun j u hj => ?_) (fun u hu => ?_) (by unfold maxLen; omega) (by omega) hbase (fun v' w' h1 h2 _ => h v' w' h1 h2)
  ·have hj2 : j < ps.length := by
    have := (List.getElem?_eq_some_iff.1 hj).1
    rwa [sb_len] at this
   obtain ⟨b, off, e, _, hc⟩ := hh (by omega)
   cases e
   rw [sb_at ps j hj2] at hj
   rw [← Option.some.inj hj, Addr.add_lit]
   exact hc j hj2
  ·obtain ⟨s, _, rfl⟩ := List.mem_map.1 hu
   rfl
theorem own_fresh {B : Nat} {e : TypeId} {s n : Nat} {v : Value} {cs : List Value} {w : World} (h : w.ownsRow B e s v n cs) : Fresh B w fun V => V.ownsRow B e s v n cs := fun V h1 h2 => by
 refine ⟨h.1, ?_⟩
 rcases h.2 with hn | ⟨g, cap, cur, rfl, hB, hc, r⟩
 ·exact .inl hn
 ·exact .inr ⟨g, cap, cur, rfl, hB, (h2 g hB (Array.getElem?_eq_some_iff.1 hc).1).trans hc, r⟩
theorem IRow.nilv (w : World) : IRow w (.slice none 0 0) [] := ⟨none, 0, rfl, fun _ => rfl, fun h => absurd h (by simp)⟩
end Go.Proofs.YtccogaoabdpfmaaGreat

namespace Go.Proofs.YtccogaoabdpfmaaGreat
open Go.RowKit
set_option linter.unusedVariables false
theorem text11_is (W : World) (v : Value) (n g : Nat) (w : World) (hn : n ≤ 1000000000000) (hcode : CodeRow W v n) (hc : Cur W v n g w) :
  Calls Tryz.prog 32 #[.pointer (some ⟨g, 0, none⟩)] w fun e w' => ∃ s ∈ texts11, e = .returned (.string (cut11 s).1) ∧ Went W v n g w w' := by
 have HC : Hid (CodeRow W v n) := hcode
 have HW : Hid (Cur W v n g w) := hc
 clear hcode hc
 go_enter Tryz.func32, Tryz.ntmps32
 go_wp2_with fail
 refine (below_any W v n g 13 _ hn HC.out HW.out (by omega) (by omega)).mono ?_
 rintro e w1 ⟨x, rfl, ⟨x0, x1⟩, hw1⟩
 have H1 : Hid (Went W v n g w w1) := hw1
 clear hw1
 obtain ⟨k, rfl⟩ := Int.eq_ofNat_of_zero_le x0
 have hk : k < texts11.length := by rw [texts11_len]; omega
 go_wp2_with fail
 refine (split11_is k _ hk).mono ?_
 rintro e w2 ⟨rfl, hb2⟩
 have H2 : Hid (Went W v n g w w2) := went_below2 H1.out hb2
 have HM : Hid (texts11[k] ∈ texts11) := List.getElem_mem _
 clear hb2
 generalize texts11[k] = s at *
 go_wp2
 go_ret
 exact ⟨s, HM.out, rfl, H2.out⟩
end Go.Proofs.YtccogaoabdpfmaaGreat

namespace Go.Proofs.YtccogaoabdpfmaaGreat
open Go.RowKit
set_option linter.unusedVariables false
def tv (xs : List TokD) : List Value := xs.flatMap fun x => [.int .i64 x.kind, .string x.text]
def OwnT (B : Nat) (v : Value) (xs : List TokD) (w : World) : Prop := w.ownsRow B 35 2 v xs.length (tv xs)
theorem vss_tv : ∀ (vss : List (List Value)) (xs : List TokD), vss.length = xs.length → (∀ i (h : i < vss.length) (h' : i < xs.length), vss[i] = [.int .i64 xs[i].kind, .string xs[i].text]) → vss.flatten = tv xs
 | [], [], _, _ => rfl
 | [], _ :: _, h, _ => by cases h
 | _ :: _, [], h, _ => by cases h
 | vs :: vss, x :: xs, h, hh => by
  have h0 := hh 0 (by simp) (by simp)
  have h1 := vss_tv vss xs (by simpa using h) (fun i hi hi' => hh (i + 1) (by simpa using hi) (by simpa using hi'))
  have h0' : vs = [.int .i64 x.kind, .string x.text] := h0
  have e : tv (x :: xs) = [.int .i64 x.kind, .string x.text] ++ tv xs := rfl
  rw [List.flatten_cons, h1, h0', e]
theorem ownT_of {B : Nat} {v : Value} {xs : List TokD} {w : World} (h : TokO B v xs w) : OwnT B v xs w := by
 obtain ⟨vss, h1, h2, h3, h4⟩ := h
 rw [vss_tv vss xs h1 (fun i hi hi' => h4 i hi hi')] at h3
 exact h3
theorem tokO_of {B : Nat} {v : Value} {xs : List TokD} {w : World} (h : OwnT B v xs w) : TokO B v xs w := by
 refine ⟨xs.map fun x => [.int .i64 x.kind, .string x.text], by simp, fun vs hvs => ?_, ?_, fun i hi hi' => ?_⟩
 ·obtain ⟨x, _, rfl⟩ := List.mem_map.1 hvs
  rfl
 ·rw [vss_tv _ xs (by simp) (fun i hi hi' => by simp)]
  exact h
 ·simp [TokV]
def TokR (w : World) (v : Value) (xs : List TokD) : Prop := RowC 2 TokV w v xs
theorem TokR.below {w w' : World} {v : Value} {xs : List TokD} (h : TokR w v xs) (hb : Below w.heap.size w w') : TokR w' v xs := RowC.below (fun _ _ _ _ hx _ => hx) h hb
theorem OwnT.row {B : Nat} {v : Value} {xs : List TokD} {w : World} (h : OwnT B v xs w) : TokR w v xs := (tokO_of h).row
theorem TokR.at {w : World} {a : Option Addr} {n cap k : Nat} {xs : List TokD} (h : TokR w (.slice a n cap) xs) (hk : k < xs.length) :
  ∃ b off, a = some ⟨b, off, none⟩ ∧ w.cell? ⟨b, off + k * 2, none⟩ = some (.int .i64 xs[k].kind) ∧ w.cell? ⟨b, off + k * 2 + 1, none⟩ = some (.string xs[k].text) := by
 obtain ⟨b, off, vs, rfl, _, hc, hv⟩ := RowC.at h hk
 have hv' : vs = [.int .i64 xs[k].kind, .string xs[k].text] := hv
 subst hv'
 exact ⟨b, off, rfl, hc 0 (by simp), hc 1 (by simp)⟩
def TokensC (f : Nat) (s : ByteArray) : Prop := ∀ w : World, Calls Tryz.prog f #[.string s] w fun e w' => ∃ o, e = .returned (.tuple #[o, .int .i64 (tokensB s).2]) ∧ TokO w.heap.size o (tokensB s).1 w' ∧ Below w.heap.size w w'
end Go.Proofs.YtccogaoabdpfmaaGreat

namespace Go.Proofs.YtccogaoabdpfmaaGreat
open Go.RowKit
set_option maxHeartbeats 800000
set_option maxRecDepth 100000
set_option linter.unusedVariables false
theorem pickT_any (P : ByteArray → Prop) (W : World) (v : Value) (n g m gl cap : Nat) (w : World) (hn : n ≤ 1000000000000) (hcode : CodeRow W v n) (hc : Cur W v n g w) (hm : 0 < m) (hm1 : m ≤ 4294967296) (hne : gl ≠ g)
  (hl : ∀ i, i < m → ∃ y : ByteArray, w.cell? ⟨gl, i, none⟩ = some (.string y) ∧ P y) :
  Calls Tryz.prog 33 #[.pointer (some ⟨g, 0, none⟩), .slice (some ⟨gl, 0, none⟩) m cap] w fun e w' =>
   ∃ y : ByteArray, e = .returned (.string y) ∧ P y ∧ Went W v n g w w' := by
 have HC : Hid (CodeRow W v n) := hcode
 have HW : Hid (Cur W v n g w) := hc
 have HL : Hid (∀ i, i < m → ∃ y : ByteArray, w.cell? ⟨gl, i, none⟩ = some (.string y) ∧ P y) := hl
 clear hcode hc hl
 go_enter Tryz.func33, Tryz.ntmps33
 go_wp2_with fail
 refine (below_any W v n g m _ hn HC.out HW.out (by omega) (by omega)).mono ?_
 rintro e w1 ⟨x, rfl, ⟨x0, x1⟩, hw1⟩
 have H1 : Hid (Went W v n g w w1) := hw1
 clear hw1
 obtain ⟨k, rfl⟩ := Int.eq_ofNat_of_zero_le x0
 obtain ⟨y, hy, hp⟩ := HL.out k (by omega)
 have HP : Hid (P y) := hp
 have hy1 : w1.cell? ⟨gl, k, none⟩ = some (.string y) := H1.out.2.cell hy (fun e => hne (Option.some.inj e))
 clear hy hp
 go_wp2
 go_ret
 exact ⟨_, rfl, HP.out, H1.out⟩
end Go.Proofs.YtccogaoabdpfmaaGreat

namespace Go.Proofs.YtccogaoabdpfmaaGreat
open Go.RowKit
set_option maxHeartbeats 1600000
set_option maxRecDepth 100000
set_option linter.unusedVariables false
noncomputable def mores : List ByteArray := match Tryz.f15.body with | some c => codeTexts c | none => []
theorem mores_len : mores.length = 6 := by kernel_rfl
theorem mores_size : ∀ m ∈ mores, m.size ≤ 200 := by
 have : mores.all (fun s => decide (s.size ≤ 200)) = true := by kernel_rfl
 intro s hs
 simpa using List.all_eq_true.1 this s hs
theorem mores_row (w : World) (cs : Array Value) (t : TypeId) (h : cs = (mores.map Value.string).toArray) : ∀ i, i < 6 → ∃ y : ByteArray, (w.alloc (.cells cs t)).cell? ⟨w.heap.size, i, none⟩ = some (.string y) ∧ y ∈ mores := fun i hi => by
 subst h
 have hi' : i < mores.length := by rw [mores_len]; exact hi
 have := World.news_of_block (heap_alloc_new w (.cells (mores.map Value.string).toArray t)) i (.string mores[i]) (by simp [hi'])
 rw [Addr.add_lit, Nat.zero_add] at this
 exact ⟨_, this, List.getElem_mem _⟩
theorem cut11_size : ∀ s ∈ texts11, (cut11 s).1.size ≤ 200 := by
 have : texts11.all (fun s => decide ((cut11 s).1.size ≤ 200)) = true := by kernel_rfl
 intro s hs
 simpa using List.all_eq_true.1 this s hs
theorem more11_is (W : World) (v : Value) (n g : Nat) (w : World) (hn : n ≤ 1000000000000) (hcode : CodeRow W v n) (hc : Cur W v n g w) :
  Calls Tryz.prog 15 #[.pointer (some ⟨g, 0, none⟩)] w fun e w' => ∃ s ∈ texts11, ∃ m ∈ mores, e = .returned (.string ((cut11 s).1 ++ m)) ∧ Went W v n g w w' := by
 have HC : Hid (CodeRow W v n) := hcode
 have HW : Hid (Cur W v n g w) := hc
 clear hcode hc
 go_enter Tryz.func15, Tryz.ntmps15
 go_wp2_with fail
 refine (text11_is W v n g _ hn HC.out HW.out).mono ?_
 rintro e w1 ⟨s, hs, rfl, hw1⟩
 have HS : Hid (s ∈ texts11) := hs
 have hz := cut11_size s hs
 have H1 : Hid (Went W v n g w w1) := hw1
 clear hw1 hs
 generalize hT : (cut11 s).1 = T at *
 have HT : Hid ((cut11 s).1 = T) := hT
 clear hT
 go_wp2_with fail
 refine (pickT_any (fun y => y ∈ mores) W v n g 6 w1.heap.size 6 _ hn HC.out (went_alloc H1.out.1 _).1 (by omega) (by omega) (by have := H1.out.1.lt; omega) (mores_row w1 _ _ (by kernel_rfl))).mono ?_
 rintro e w2 ⟨m, rfl, hm, hw2⟩
 have HM : Hid (m ∈ mores) := hm
 have hmz := mores_size m hm
 have H2 : Hid (Went W v n g w w2) := went_trans H1.out (went_trans (went_alloc H1.out.1 _) hw2)
 clear hm hw2
 go_wp2
 go_ret
 exact ⟨s, HS.out, m, HM.out, by rw [HT.out]; rfl, H2.out⟩
end Go.Proofs.YtccogaoabdpfmaaGreat

namespace Go.Proofs.YtccogaoabdpfmaaGreat
open Go.RowKit
set_option maxHeartbeats 3200000
set_option linter.unusedVariables false
theorem of_any (o : Option Addr) (l c : Nat) (w : World) : Calls Tryz.prog 101 #[.slice o l c] w fun e w' => e = .returned (.agg #[.slice o l c]) ∧ Below w.heap.size w w' := by
 have bal : Hid (Below w.heap.size w (w.alloc (.cells #[.slice o l c] 95))) := (Below.refl _ _).alloc (Nat.le_refl _) _
 go_enter Tryz.func101, Tryz.ntmps101
 go_wp2
 refine bodyPost_ret (by simp [results, Tryz.results101, go_sem]; try rfl) rfl ?_
 exact ⟨rfl, bal.out⟩
theorem nRow_one {V : World} {b : Nat} {s : ByteArray} {t : TypeId} {fr : Nat × Nat} (h : V.heap[b]? = some (.cells #[.int .i64 2, .int .i64 0, .string s, .slice none 0 0] t fr)) : NRow V (.slice (some ⟨b, 0, none⟩) 1 1) (varE s) := by
 refine ⟨some ⟨b, 0, none⟩, 1, rfl, fun h => (by cases h), fun _ => ⟨b, 0, rfl, (Array.getElem?_eq_some_iff.1 h).1, fun i hi => ⟨.slice none 0 0, ?_⟩⟩⟩
 have e : i = 0 := by simp [varE] at hi; exact hi
 subst e
 exact ⟨run_cell (j := 0) h rfl, run_cell (j := 1) h rfl, run_cell (j := 2) h rfl, run_cell (j := 3) h rfl, IRow.nilv V⟩
theorem var_any (s : ByteArray) (w : World) : Calls Tryz.prog 87 #[.string s] w fun e w' => ∃ nv : Value, e = .returned (.agg #[nv]) ∧ Fresh w.heap.size w' (fun V => NRow V nv (varE s)) ∧ Below w.heap.size w w' := by
 have HOf : Hid (∀ (o : Option Addr) (l c : Nat) (w : World), _) := of_any
 go_enter Tryz.func87, Tryz.ntmps87
 go_wp2_with fail
 refine (HOf.out _ _ _ _).mono ?_
 rintro e w2 ⟨rfl, hb2⟩
 have X : w2.heap[w.heap.size]? = some (.cells #[.slice none 0 0] 95 (0, 0)) := (hb2.block _ (by simp; omega)).trans ((Below.heap_alloc _ _ _ (by simp)).trans (heap_alloc_new w _))
 have Y : w2.heap[w.heap.size + 1]? = some (.cells #[.int .i64 2, .int .i64 0, .string s, .slice none 0 0] 133 (0, 0)) := (hb2.block _ (by simp)).trans (by
  have h := heap_alloc_new (w.alloc (.cells #[.slice none 0 0] 95)) (.cells #[.int .i64 2, .int .i64 0, .string s, .slice none 0 0] 133)
  rwa [show (w.alloc (.cells #[.slice none 0 0] 95)).heap.size = w.heap.size + 1 by simp] at h)
 have c0 := run_cell (j := 0) X rfl
 have f0 := run_frozen (j := 0) X
 have HB : Hid (Below w.heap.size w w2) := (((Below.refl w.heap.size w).alloc (Nat.le_refl _) (.cells #[.slice none 0 0] 95)).alloc (by simp) (.cells #[.int .i64 2, .int .i64 0, .string s, .slice none 0 0] 133)).trans (hb2.mono (by simp; omega))
 have HX : Hid _ := X
 have HY : Hid _ := Y
 clear hb2 X Y
 go_wp2
 have Z := setCell_self (j := 0) (.slice (some ⟨w.heap.size + 1, 0, none⟩) 1 1) HX.out
 have z0 := run_cell (j := 0) (u := .slice (some ⟨w.heap.size + 1, 0, none⟩) 1 1) Z rfl
 refine bodyPost_ret (by simp [results, Tryz.results87, go_sem, z0]; try rfl) rfl ?_
 refine ⟨_, rfl, fun V h1 h2 => nRow_one (t := 133) (fr := (0, 0)) ((h2 _ (by omega) ?_).trans ((setCell_other _ (by omega)).trans HY.out)), HB.out.setCell (Nat.le_refl _) _⟩
 have := (Array.getElem?_eq_some_iff.1 HY.out).1
 simpa [World.setCell] using this
theorem Tryz.infoExprF : (Tryz.prog.info? 95).map (fun i => (i.zero, i.size, i.bytes)) = some (some (.agg #[.slice none 0 0]), 1, 24) := by kernel_rfl
theorem one_sliceF (o : Option Addr) (l c : Nat) : ∀ u ∈ [Value.slice o l c], u.oneCell' = true := by
 intro u hu
 obtain rfl : u = .slice o l c := by simpa using hu
 rfl
theorem vars_any (v : Value) (ss : List ByteArray) (w : World) (hl : ss.length ≤ 100000) (h : SRow w v ss) : Calls Tryz.prog 67 #[v] w fun e w' => ∃ o : Value, e = .returned o ∧ Fresh w.heap.size w' (fun V => RowC 1 ExprE V o (ss.map varE)) ∧ Below w.heap.size w w' := by
 obtain ⟨i0, hi, hz0, hz1, hz2⟩ := info_parts Tryz.infoExprF
 have HV : Hid (∀ (s : ByteArray) (w : World), _) := var_any
 have HS : Hid (SRow w v ss) := h
 obtain ⟨a, cap, rfl⟩ := h.slice
 have B0 : Hid (Below w.heap.size w (w.alloc (.cells #[] 95))) := (Below.refl _ _).alloc (Nat.le_refl _) _
 have R0 : Hid (RowH 1 95 ExprE (Own0 w.heap.size (.slice (some ⟨w.heap.size, 0, none⟩) 0 0)) w.heap.size (.slice (some ⟨w.heap.size, 0, none⟩) 0 0) ([] : List (List NodeD)) (w.alloc (.cells #[] 95))) := RowH.made0 w
 clear h
 go_enter Tryz.func67, Tryz.ntmps67
 go_wp2
 go_loopg [3, 4] ss.length (fun gg ov kv wr => ∃ k : Nat, kv = .int .i64 k ∧ gg + k = ss.length ∧ RowH 1 95 ExprE (Own0 w.heap.size ov) w.heap.size ov ((ss.take k).map varE) wr ∧ Below w.heap.size w wr)
 case atStart => exact ⟨0, rfl, by omega, R0.out, B0.out⟩
 case round =>
  obtain ⟨k, rfl, hg, hR, hB⟩ := hrel
  have HR : Hid (RowH 1 95 ExprE (Own0 w.heap.size u3) w.heap.size u3 ((ss.take k).map varE) wr) := hR
  have HB : Hid (Below w.heap.size w wr) := hB
  clear hR hB R0 B0
  obtain ⟨ao, co, rfl⟩ := RowO.slice HR.out
  by_cases hk : k < ss.length
  ·have dk : decide ((k : Int) < (ss.length : Int)) = true := decide_eq_true (by omega)
   have ik : (k : Int) < (ss.length : Int) := by omega
   obtain ⟨b, off, rfl, hc⟩ := (HS.out.below HB.out).at hk
   have hsz := HB.out.size
   have HL : Hid (((ss.take k).map varE).length = k) := by rw [Hid, List.length_map, List.length_take]; omega
   have w1 : IntKind.i64.wrap ((k : Int) + 1) = ((k + 1 : Nat) : Int) := by rw [IntKind.wrap_i64]; omega
   obtain ⟨f2, rfl⟩ : ∃ f, gk = f + 1 := ⟨gk - 1, by omega⟩
   go_wp2_with fail
   refine (HV.out _ _).mono ?_
   rintro e w2 ⟨nv, rfl, hF, hb2⟩
   obtain ⟨an, cn, rfl⟩ := hF.here.slice
   have hal : Below w2.heap.size w2 (w2.alloc (.cells #[.slice an (varE ss[k]).length cn] 95)) := (Below.refl _ _).alloc (Nat.le_refl _) _
   have R3 : RowH 1 95 ExprE (Own0 w.heap.size (.slice ao ((ss.take k).map varE).length co)) w.heap.size (.slice ao ((ss.take k).map varE).length co) ((ss.take k).map varE) (w2.alloc (.cells #[.slice an (varE ss[k]).length cn] 95)) := (HR.out.below hb2).below hal
   have hlt3 := own0_lt HR.out hsz
   obtain ⟨cs, ho3, hK⟩ := RowH.add R3 (fun k hk => .inr hk)
   have HH : Hid (Held (Own0 w.heap.size (.slice ao ((ss.take k).map varE).length co)) (w2.alloc (.cells #[.slice an (varE ss[k]).length cn] 95)) (fun V => ExprE V [.slice an (varE ss[k]).length cn] (varE ss[k]))) := Held.of_fresh (Fresh.imp (hF.below hal) (fun V h => ⟨_, rfl, h⟩)) hlt3
   have HK : Hid (∀ (g cap : Nat) (w2 : World) (vs : List Value) (x : List NodeD) (A' : Nat → Prop), _) := hK
   have HB2 : Hid (Below w.heap.size w w2) := HB.out.trans (hb2.mono hsz)
   have hs2 : w.heap.size ≤ w2.heap.size := HB2.out.size
   have hk6 : k ≤ 100000 := by omega
   have HO3 : Hid _ := ho3
   clear hF hb2 hal R3 hlt3 ho3 hK
   rw [HL.out] at *
   generalize (varE ss[k]).length = ln at *
   go_wp2_with (at_builtin; refine wpList_append_lies _ rfl _ _ 57 rfl w.heap.size 95 i0 _ 1 24 Tryz.underlying57 hi hz0 hz1 hz2 rfl (by decide) _ _ _ rfl HO3.out ⟨w2.heap.size, 0, none⟩ 1 1 [.slice an ln cn] rfl rfl (cell_one_new _ _ _) (one_sliceF _ _ _) (by omega) (by unfold maxLen; omega) (by omega) (by simp; omega) (w2.heap.size + 1) (by simp) ?_; intro gg cap w4 hown hgrow hat hlt)
   have R4 := HK.out gg cap w4 [.slice an ln cn] (varE ss[k]) (Own0 w.heap.size (.slice (some ⟨gg, 0, none⟩) (k + 1) cap)) rfl HH.out hown hgrow (own_next hat (by simp))
   rw [show (ss.take k).map varE ++ [varE ss[k]] = (ss.take (k + 1)).map varE by rw [List.take_succ_eq_append_getElem hk, List.map_append]; rfl] at R4
   have HR4 : Hid _ := R4
   have B4 : Hid (Below w.heap.size w w4) := (HB2.out.alloc hs2 _).grown hgrow (by simp; omega) (fun k hk => (World.ownsRow.lt HO3.out k hk).1)
   clear R4 hown hgrow hat hlt HH HK HO3
   go_wp2
   go_roundg f2
   case measure => omega
   case rel => exact ⟨k + 1, by go_num, by omega, HR4.out, B4.out⟩
  ·have dk : decide ((k : Int) < (ss.length : Int)) = false := decide_eq_false (by omega)
   have HF : Hid (Fresh w.heap.size wr (fun V => RowC 1 ExprE V (.slice ao ((ss.take k).map varE).length co) (ss.map varE))) := by
    have h := RowH.fresh HR.out
    rw [List.take_of_length_le (by omega)] at h ⊢
    exact h
   clear HR
   go_wp2
   go_ret
   exact ⟨_, rfl, HF.out, HB.out⟩
end Go.Proofs.YtccogaoabdpfmaaGreat
