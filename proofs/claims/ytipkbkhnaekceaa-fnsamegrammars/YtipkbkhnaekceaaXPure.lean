/- The specification's Tokens. -/
/- Lists of texts: as they lie in memory, as arguments, and the laws' helpers on them. -/
/- Grammars as they lie in memory, and opened as arguments (printed by mk/gkit.py). -/
/- What BindNum answers, in pure terms. -/
/- Grammars with groups, read: in pure terms, by fuel. No program is named. -/
/- Expressions: the plain mathematics: which are right, what they are worth. -/
import Derived.Test.YtipkbkhnaekceaaVRow
import Derived.Test.YtipkbkhnaekceaaRO
import Derived.Test.YtipkbkhnaekceaaDecPure
import Derived.Laws.OwnMore
import Derived.Maps.AppendAt
import Derived.Deep.Strs
import Derived.OpenShut
namespace Go.Proofs.Ytipkbkhnaekceaa
open Go.RowKit
set_option linter.unusedVariables false

def TokV (_ : World) (vs : List Value) (x : TokD) : Prop := vs = [.int .i64 x.kind, .string x.text]
def TokO (B : Nat) (v : Value) (ts : List TokD) (w : World) : Prop := RowO 2 106 TokV B v ts w
theorem TokO.below {B : Nat} {v : Value} {ts : List TokD} {w w' : World} (h : TokO B v ts w) (hb : Below w.heap.size w w') : TokO B v ts w' := RowO.below (fun _ _ _ _ hx _ => hx) h hb
theorem Try.infoTok : (Try.prog.info? 106).map (fun i => (i.zero, i.size, i.bytes)) = some (some (.agg #[.int .i64 0, .string ⟨#[]⟩]), 2, 24) := by kernel_rfl
theorem tok_at (w : World) (u v : Value) (t : TypeId) : ∀ (j : Nat) (x : Value), [u, v][j]? = some x → (w.alloc (.cells #[u, v] t)).cell? ((⟨w.heap.size, 0, none⟩ : Addr).add j) = some x := fun j x h => by
  rw [Addr.add_lit, Nat.zero_add]
  refine box10 _ _ _ j _ ?_
  simpa using h
theorem tok_at2 (w : World) (o : Obj) (u v : Value) (t : TypeId) : ∀ (j : Nat) (x : Value), [u, v][j]? = some x → ((w.alloc o).alloc (.cells #[u, v] t)).cell? ((⟨w.heap.size + 1, 0, none⟩ : Addr).add j) = some x := fun j x h => by
  have := tok_at (w.alloc o) u v t j x h
  rwa [show (w.alloc o).heap.size = w.heap.size + 1 by simp] at this
theorem tok_cells (p : Int) (s : ByteArray) : ∀ u ∈ [Value.int .i64 p, Value.string s], u.oneCell' = true := by
  intro u hu
  rcases List.mem_cons.1 hu with rfl | hu
  · rfl
  · rw [List.mem_singleton.1 hu]; rfl

theorem tok_made (w1 : World) (o : Obj) {B : Nat} (hB : B ≤ w1.heap.size) : TokO B (.slice (some ⟨w1.heap.size + 1, 0, none⟩) 0 0) [] ((w1.alloc o).alloc (.cells #[] 106)) := by
  have := RowO.made (α := TokD) (sz := 2) (T := 106) (E := TokV) (w := w1.alloc o) (B := B) (by simp; omega)
  rwa [show (w1.alloc o).heap.size = w1.heap.size + 1 by simp] at this
theorem span_from {s : ByteArray} {p k : Nat} {q : UInt8 → Bool} (h1 : p ≤ k) (h2 : k ≤ s.size) (h : ∀ m (hm : m < s.size), p ≤ m → m < k → q s[m] = true) (he : ∀ hk : k < s.size, q s[k] = false) : spanN q (s.data.toList.drop p) = k - p := by
  have hl := toList_size s
  refine spanN_at q _ _ (by rw [List.length_drop]; omega) (fun i hi hlt => ?_) (fun hlt => ?_)
  · rw [List.getElem_drop]
    exact h (p + i) (by omega) (by omega) (by omega)
  · rw [List.length_drop] at hlt
    rw [List.getElem_drop]
    have := he (by omega)
    have e : p + (k - p) = k := by omega
    simp only [e]
    exact this
theorem toks_nil (n f : Nat) (out : List TokD) : toks10 n f out [] = (out, 0) := by cases f <;> rfl
theorem toks_at {s : ByteArray} {p f : Nat} {out : List TokD} (h : p < s.size) : toks10 s.size (f + 1) out (s.data.toList.drop p) =
    if s[p] = 32 ∨ s[p] = 10 then toks10 s.size f out (s.data.toList.drop (p + 1))
    else if s[p] = 35 then toks10 s.size f out (s.data.toList.drop (p + spanN inLine (s.data.toList.drop p)))
    else match one10 (s.data.toList.drop p) with
      | none => ([], (p : Int) + 1)
      | some (t, k) => if out.length = 200 then ([], (p : Int) + 1) else toks10 s.size f (out ++ [t]) (s.data.toList.drop (p + k)) := by
  have hl := toList_size s
  have e1 : ((s.size - ((s.data.toList.drop (p + 1)).length + 1) : Nat) : Int) = (p : Int) := by rw [List.length_drop]; omega
  rw [drop_at h, toks10]
  rw [e1]
  by_cases c1 : s[p] = 32 ∨ s[p] = 10
  · rw [if_pos c1, if_pos c1]
  · rw [if_neg c1, if_neg c1]
    by_cases c2 : s[p] = 35
    · rw [if_pos c2, if_pos c2, ← drop_at h, List.drop_drop]
    · rw [if_neg c2, if_neg c2]
      cases ho : one10 (s[p] :: s.data.toList.drop (p + 1)) with
      | none => rfl
      | some q =>
        obtain ⟨t, k⟩ := q
        simp only []
        by_cases c3 : out.length = 200
        · rw [if_pos c3, if_pos c3]
        · rw [if_neg c3, if_neg c3, ← drop_at h, List.drop_drop]

set_option maxHeartbeats 6400000 in
set_option maxRecDepth 100000 in
theorem tokens_any (s : ByteArray) (w : World) (hs : s.size ≤ 1048576) :
    Calls Try.prog 48 #[.string s] w fun e w' => ∃ o, e = .returned (.tuple #[o, .int .i64 (tokensB s).2]) ∧ TokO w.heap.size o (tokensB s).1 w' ∧ Below w.heap.size w w' := by
  obtain ⟨i0, hi, hz0, hz1, hz2⟩ := info_parts Try.infoTok
  have B0 : Hid (Below w.heap.size w (w.alloc (.cells #[] 106))) := (Below.refl _ _).alloc (Nat.le_refl _) _
  have O0 : Hid (TokO w.heap.size (.slice (some ⟨w.heap.size, 0, none⟩) 0 0) [] (w.alloc (.cells #[] 106))) := RowO.made (Nat.le_refl _)
  by_cases h600 : 600 < s.size
  · have HV : Hid (tokensB s = ([], 601)) := by rw [Hid, tokensB, if_pos h600]
    have d1 : (600 : Int) < (s.size : Int) := by omega
    go_enter Try.func48, Try.ntmps48
    go_wp2
    go_ret2
    rw [HV.out]
    exact ⟨_, rfl, O0.out, B0.out⟩
  have HT : Hid (tokensB s = toks10 s.size (s.size + 1) [] s.data.toList) := by rw [Hid, tokensB, if_neg h600]
  have d1 : ¬ (600 : Int) < (s.size : Int) := by omega
  go_enter Try.func48, Try.ntmps48
  go_wp2
  go_loopw [4, 5] (fun ov iv wr => ∃ (p f : Nat) (ts : List TokD), iv = .int .i64 p ∧ p ≤ s.size ∧ s.size < f + p ∧ ts.length ≤ 200 ∧ toks10 s.size f ts (s.data.toList.drop p) = toks10 s.size (s.size + 1) [] s.data.toList ∧ TokO w.heap.size ov ts wr ∧ Below w.heap.size w wr) (fun _ iv _ => s.size - (intOf iv).toNat)
  case atStart => exact ⟨0, s.size + 1, [], rfl, Nat.zero_le _, by omega, by simp, rfl, O0.out, B0.out⟩
  case round =>
    obtain ⟨p, f, ts, rfl, hp, hf, hl2, hF, hO, hb⟩ := hrel
    have HF : Hid (toks10 s.size f ts (s.data.toList.drop p) = toks10 s.size (s.size + 1) [] s.data.toList) := hF
    have HO : Hid (TokO w.heap.size u4 ts wr) := hO
    have HB : Hid (Below w.heap.size w wr) := hb
    obtain ⟨ao, co, rfl⟩ := RowO.slice hO
    clear hF hO hb O0 B0
    by_cases hlt : p < s.size
    · obtain ⟨f, rfl⟩ : ∃ f', f = f' + 1 := ⟨f - 1, by omega⟩
      have HA : Hid (_ = _) := toks_at (f := f) (out := ts) hlt
      have hu := s[p].toNat_lt
      have i4 : (p : Int) < (s.size : Int) := by omega
      by_cases c1 : s[p].toNat = 32 ∨ s[p].toNat = 10
      · have HN : Hid (toks10 s.size f ts (s.data.toList.drop (p + 1)) = toks10 s.size (s.size + 1) [] s.data.toList) := by
          rw [Hid, ← HF.out, HA.out, if_pos (c1.imp (fun h => u8_is h (by decide)) (fun h => u8_is h (by decide)))]
        by_cases c2 : s[p].toNat = 32
        · have q32 : ((s[p].toNat : Int) == 32) = true := by rw [beq_iff_eq]; omega
          clear c1 c2
          go_wp2
          go_roundw
          case rel => exact ⟨p + 1, f, ts, by go_num, by omega, by omega, hl2, HN.out, HO.out, HB.out⟩
          case measure => simp [intOf]; omega
        · have q32 : ((s[p].toNat : Int) == 32) = false := by rw [beq_eq_false_iff_ne]; omega
          have q10 : ((s[p].toNat : Int) == 10) = true := by rw [beq_iff_eq]; omega
          clear c1 c2
          go_wp2
          go_roundw
          case rel => exact ⟨p + 1, f, ts, by go_num, by omega, by omega, hl2, HN.out, HO.out, HB.out⟩
          case measure => simp [intOf]; omega
      have q32 : ((s[p].toNat : Int) == 32) = false := by rw [beq_eq_false_iff_ne]; omega
      have q10 : ((s[p].toNat : Int) == 10) = false := by rw [beq_eq_false_iff_ne]; omega
      rw [if_neg (fun c => c1 (c.imp (fun h => by rw [h]; rfl) (fun h => by rw [h]; rfl)))] at HA
      have c10 : ¬ s[p].toNat = 10 := fun h => c1 (.inr h)
      clear c1
      by_cases c3 : s[p].toNat = 35
      · have q35 : ((s[p].toNat : Int) == 35) = true := by rw [beq_iff_eq]; omega
        rw [if_pos (u8_is c3 (by decide)), HF.out] at HA
        have HC10 : Hid (¬ s[p].toNat = 10) := c10
        clear c3 c10
        go_wp2
        go_loopw [5] (fun iv ww => ∃ k : Nat, iv = .int .i64 k ∧ p ≤ k ∧ k ≤ s.size ∧ (∀ m (hm : m < s.size), p ≤ m → m < k → inLine s[m] = true) ∧ ww = wr) (fun iv _ => s.size - (intOf iv).toNat)
        case atStart => exact ⟨p, rfl, Nat.le_refl _, by omega, fun m hm h1 h2 => by omega, rfl⟩
        case round =>
          obtain ⟨k, rfl, hk1, hk2, hto, hww⟩ := hrel
          rw [hww]
          clear hww
          have HTo : Hid (∀ m (hm : m < s.size), p ≤ m → m < k → inLine s[m] = true) := hto
          clear hto
          by_cases hkl : k < s.size
          · have hu2 := s[k].toNat_lt
            have i6 : (k : Int) < (s.size : Int) := by omega
            by_cases hq : s[k].toNat = 10
            · have m10 : ((s[k].toNat : Int) != 10) = false := by simp; omega
              have HSp : Hid (spanN inLine (s.data.toList.drop p) = k - p) := span_from hk1 hk2 HTo.out (fun _ => by unfold inLine; simp [hq])
              have hkp : p < k := by
                rcases Nat.lt_or_ge p k with h | h
                · exact h
                · obtain rfl : k = p := by omega
                  exact absurd hq HC10.out
              have HN : Hid (toks10 s.size f ts (s.data.toList.drop k) = toks10 s.size (s.size + 1) [] s.data.toList) := by
                have := HA.out
                rw [HSp.out, show p + (k - p) = k by omega] at this
                exact this.symm
              clear hq
              go_wp2
              go_roundw
              case rel => exact ⟨k, f, ts, rfl, by omega, by omega, hl2, HN.out, HO.out, HB.out⟩
              case measure => simp [intOf]; omega
            · have m10 : ((s[k].toNat : Int) != 10) = true := by simp; omega
              have HNx : Hid (∀ m (hm : m < s.size), p ≤ m → m < k + 1 → inLine s[m] = true) := fun m hm h1 h2 => by
                by_cases e : m = k
                · subst e; unfold inLine; simp [hq]
                · exact HTo.out m hm h1 (by omega)
              clear hq
              go_wp2
              go_roundw
              case rel => exact ⟨k + 1, by go_num, by omega, by omega, HNx.out, by first | trivial | rfl⟩
              case measure => simp [intOf]; omega
          · obtain rfl : k = s.size := by omega
            have HSp : Hid (spanN inLine (s.data.toList.drop p) = s.size - p) := span_from hk1 hk2 HTo.out (fun h => absurd h (Nat.lt_irrefl _))
            have HN : Hid (toks10 s.size f ts (s.data.toList.drop s.size) = toks10 s.size (s.size + 1) [] s.data.toList) := by
              have := HA.out
              rw [HSp.out, show p + (s.size - p) = s.size by omega] at this
              exact this.symm
            have i6 : ¬ (s.size : Int) < (s.size : Int) := by omega
            go_wp2
            go_roundw
            case rel => exact ⟨s.size, f, ts, rfl, by omega, by omega, hl2, HN.out, HO.out, HB.out⟩
            case measure => simp [intOf]; omega
      have q35 : ((s[p].toNat : Int) == 35) = false := by rw [beq_eq_false_iff_ne]; omega
      rw [if_neg (fun c => c3 (by rw [c]; rfl)), HF.out] at HA
      clear c3 c10
      obtain ⟨r, hr⟩ : ∃ r, r = res10 (s.data.toList.drop p) p := ⟨_, rfl⟩
      have HOne : Hid (∀ W, _) := fun W => one10_any s p W hlt hs r hr
      have HRr : Hid (r = res10 (s.data.toList.drop p) p) := hr
      have wp1 : IntKind.i64.wrap ((p : Int) + 1) = (p : Int) + 1 := by rw [IntKind.wrap_i64]; omega
      clear hr
      cases ho : one10 (s.data.toList.drop p) with
      | none =>
        rw [ho] at HA
        have hr2 : r.2 = 0 := by rw [HRr.out, res10, ho]
        have HV : Hid (tokensB s = ([], (p : Int) + 1)) := by rw [Hid, HT.out]; exact HA.out
        have q0 : (r.2 == 0) = true := by rw [beq_iff_eq]; exact hr2
        clear ho hr2
        go_wp2_with (go_at_call 64; refine (HOne.out _).mono ?_; rintro e w1 ⟨rfl, hb1⟩)
        have B1 : Hid (Below w.heap.size w w1) := HB.out.trans (hb1.mono HB.out.size)
        (try go_wp2)
        go_ret2
        rw [HV.out]
        exact ⟨_, rfl, tok_made w1 _ B1.out.size, (B1.out.alloc B1.out.size _).alloc (by have := B1.out.size; simp; omega) _⟩
      | some tk =>
        obtain ⟨t, n⟩ := tk
        rw [ho] at HA
        have hn := one10_pos ho
        rw [List.length_drop, toList_size] at hn
        obtain rfl : r = (t, ((p + n : Nat) : Int)) := by rw [HRr.out, res10, ho]
        have q0 : (((p + n : Nat) : Int) == 0) = false := by rw [beq_eq_false_iff_ne]; omega
        clear ho
        by_cases hfull : ts.length = 200
        · have HV : Hid (tokensB s = ([], (p : Int) + 1)) := by
            rw [Hid, HT.out, HA.out]
            simp only [if_pos hfull]
          have q200 : ((ts.length : Int) == 200) = true := by rw [beq_iff_eq]; omega
          clear hfull
          go_wp2_with (go_at_call 64; refine (HOne.out _).mono ?_; rintro e w1 ⟨rfl, hb1⟩)
          have B1 : Hid (Below w.heap.size w w1) := HB.out.trans (hb1.mono HB.out.size)
          (try go_wp2)
          go_ret2
          rw [HV.out]
          exact ⟨_, rfl, tok_made w1 _ B1.out.size, (B1.out.alloc B1.out.size _).alloc (by have := B1.out.size; simp; omega) _⟩
        · have HN : Hid (toks10 s.size f (ts ++ [t]) (s.data.toList.drop (p + n)) = toks10 s.size (s.size + 1) [] s.data.toList) := by
            rw [Hid, HA.out]
            simp only [if_neg hfull]
          have q200 : ((ts.length : Int) == 200) = false := by rw [beq_eq_false_iff_ne]; omega
          have hnk : IntKind.i64.wrap ((p + n : Nat) : Int) = ((p + n : Nat) : Int) := by rw [IntKind.wrap_i64]; omega
          have hl3 : ts.length < 200 := by omega
          clear hfull
          go_wp2_with fail
          refine (HOne.out _).mono ?_
          rintro e w1 ⟨rfl, hb1⟩
          have b0 := box10 w1 #[.int .i64 t.kind, .string t.text] 106 0 _ rfl
          have b1 := box10 w1 #[.int .i64 t.kind, .string t.text] 106 1 _ rfl
          have bal : Hid (Below w1.heap.size w1 (w1.alloc (.cells #[.int .i64 t.kind, .string t.text] 106))) := (Below.refl _ _).alloc (Nat.le_refl _) _
          have B1 : Hid (Below w.heap.size w w1) := HB.out.trans (hb1.mono HB.out.size)
          have B2 : Hid (Below w.heap.size w (w1.alloc (.cells #[.int .i64 t.kind, .string t.text] 106))) := B1.out.trans (bal.out.mono B1.out.size)
          have O2 : Hid (TokO w.heap.size (.slice ao ts.length co) ts (w1.alloc (.cells #[.int .i64 t.kind, .string t.text] 106))) := TokO.below (TokO.below HO.out hb1) bal.out
          have HLt : Hid (∀ k, (Value.slice ao ts.length co).ownBlock = some k → w.heap.size ≤ k) := fun k hk => (RowO.lt O2.out k hk).1
          obtain ⟨cs, hcs, hsn⟩ := RowO.snoc O2.out
          have HC : Hid _ := hcs
          have HSn : Hid _ := hsn
          have hsz2 := B2.out.size
          clear hcs hsn hb1 bal HO HB B1
          go_wp2_with (at_builtin; refine wpList_append_own _ rfl _ _ 96 rfl w.heap.size 106 i0 _ 2 24 Try.underlying96 hi hz0 hz1 hz2 rfl (by decide) _ _ _ rfl (World.ownsRow.alloc HC.out _) ⟨_, 0, none⟩ 1 1 [.int .i64 t.kind, .string t.text] rfl rfl (tok_at2 _ _ _ _ _) (tok_cells _ _) (by unfold maxLen; omega) (by omega) (by have h8 := B2.out.size; simp at h8 ⊢; omega) ?_)
          intro v' w3 hown3 hgrow _
          have R1 : Hid (TokO w.heap.size v' (ts ++ [t]) w3) := HSn.out v' w3 _ t rfl hown3 (fun _ _ h => h) rfl
          have R2 : Hid (Below w.heap.size w w3) := (B2.out.alloc B2.out.size _).grown hgrow (by have := B2.out.size; simp at this ⊢; omega) HLt.out
          clear hown3 hgrow
          go_wp2
          go_roundw
          case rel => exact ⟨p + n, f, ts ++ [t], by first | rfl | go_num, by omega, by omega, by simp; omega, HN.out, R1.out, R2.out⟩
          case measure => simp [intOf]; omega
    · obtain rfl : p = s.size := by omega
      have HV : Hid (tokensB s = (ts, 0)) := by
        rw [Hid, HT.out, ← HF.out, List.drop_of_length_le (by rw [toList_size]; exact Nat.le_refl _), toks_nil]
      have i4 : ¬ (s.size : Int) < (s.size : Int) := by omega
      go_wp2
      go_ret2
      rw [HV.out]
      exact ⟨_, rfl, HO.out, HB.out⟩

end Go.Proofs.Ytipkbkhnaekceaa

namespace Go.Proofs.Ytipkbkhnaekceaa
open Go.RowKit

def SRow (w : World) (v : Value) (ss : List ByteArray) : Prop :=
  ∃ a cap, v = .slice a ss.length cap ∧ (a = none → cap = 0) ∧ (0 < ss.length → ∃ b off, a = some ⟨b, off, none⟩ ∧ b < w.heap.size ∧
    ∀ i (h : i < ss.length), w.cell? ⟨b, off + i, none⟩ = some (.string ss[i]))
theorem SRow.slice {w : World} {v : Value} {ss : List ByteArray} (h : SRow w v ss) : ∃ a cap, v = .slice a ss.length cap := by
  obtain ⟨a, cap, rfl, _⟩ := h
  exact ⟨a, cap, rfl⟩
theorem SRow.below {w w' : World} {v : Value} {ss : List ByteArray} (h : SRow w v ss) (hb : Below w.heap.size w w') : SRow w' v ss := by
  obtain ⟨a, cap, rfl, hcap, hh⟩ := h
  refine ⟨a, cap, rfl, hcap, fun h0 => ?_⟩
  obtain ⟨b, off, rfl, hlt, hc⟩ := hh h0
  exact ⟨b, off, rfl, Nat.lt_of_lt_of_le hlt hb.size, fun i hi => (World.cell?_of_block (hb.block b hlt)).trans (hc i hi)⟩
theorem SRow.at {w : World} {a : Option Addr} {n cap k : Nat} {ss : List ByteArray} (h : SRow w (.slice a n cap) ss) (hk : k < ss.length) :
    ∃ b off, a = some ⟨b, off, none⟩ ∧ w.cell? ⟨b, off + k, none⟩ = some (.string ss[k]) := by
  obtain ⟨a', cap', e, _, hh⟩ := h
  cases e
  obtain ⟨b, off, rfl, _, hc⟩ := hh (by omega)
  exact ⟨b, off, rfl, hc k hk⟩

def sb (ss : List ByteArray) : List Value := ss.map .string
theorem sb_len (ss : List ByteArray) : (sb ss).length = ss.length := by simp [sb]
theorem sb_at (ss : List ByteArray) (i : Nat) (h : i < ss.length) : (sb ss)[i]? = some (.string ss[i]) := by simp [sb, h]
def OwnB (B : Nat) (v : Value) (ss : List ByteArray) (w : World) : Prop := w.ownsRow B 9 1 v ss.length (sb ss)
theorem OwnB.row {B : Nat} {v : Value} {ss : List ByteArray} {w : World} (h : OwnB B v ss w) : SRow w v ss := by
  rcases h.2 with ⟨rfl, hz⟩ | ⟨g, cap, cur, rfl, hB, hc, hle, hm, hs, ht⟩
  · exact ⟨none, 0, by rw [hz], fun _ => rfl, fun h0 => by omega⟩
  · refine ⟨some ⟨g, 0, none⟩, cap, rfl, fun h => (by cases h), fun _ => ⟨g, 0, rfl, (Array.getElem?_eq_some_iff.1 hc).1, fun i hi => ?_⟩⟩
    have := World.ownsRow.cells h (g := g) rfl i _ (sb_at ss i hi)
    rwa [Addr.add_lit] at this
theorem OwnB.below {B : Nat} {v : Value} {ss : List ByteArray} {w w' : World} (h : OwnB B v ss w) (hb : Below w.heap.size w w') : OwnB B v ss w' := own_below h hb
theorem OwnB.kept {B : Nat} {v : Value} {ss : List ByteArray} {w w' : World} {row : Option Nat} (h : OwnB B v ss w) (hg : w.grownBy w' row) (hne : ∀ k, v.ownBlock = some k → row ≠ some k) : OwnB B v ss w' :=
  World.ownsRow.kept h hg (by
    cases hv : v.ownBlock with
    | none => exact .inl rfl
    | some k => exact .inr (fun e => hne k hv e.symm))

theorem Try.infoStr : (Try.prog.info? 9).map (fun i => (i.zero, i.size, i.bytes)) = some (some (.string ⟨#[]⟩), 1, 16) := by kernel_rfl

end Go.Proofs.Ytipkbkhnaekceaa

namespace Go.Proofs.Ytipkbkhnaekceaa
open Go.RowKit

def rowTot {α : Type} (f : α → Nat) (xs : List α) : Nat := xs.length + (xs.map f).sum
theorem rowTot_len {α : Type} (f : α → Nat) (xs : List α) : xs.length ≤ rowTot f xs := Nat.le_add_right _ _
theorem sum_mem {α : Type} (f : α → Nat) {xs : List α} {x : α} (h : x ∈ xs) : f x ≤ (xs.map f).sum := by
  induction xs with
  | nil => cases h
  | cons y xs ih =>
    rw [List.map_cons, List.sum_cons]
    rcases List.mem_cons.1 h with rfl | h
    · omega
    · have := ih h; omega
theorem rowTot_mem {α : Type} (f : α → Nat) {xs : List α} {x : α} (h : x ∈ xs) : f x ≤ rowTot f xs := Nat.le_trans (sum_mem f h) (Nat.le_add_left _ _)
def RowInn {α : Type} (P : α → Prop) (xs : List α) : Prop := xs.length ≤ maxLen ∧ ∀ x ∈ xs, P x
def StrIn (s : ByteArray) : Prop := s.size ≤ maxLen
theorem box_at (w : World) (vs : Array Value) (t : TypeId) (j : Nat) (u : Value) (h : vs[j]? = some u) : (w.alloc (.cells vs t)).cell? ⟨w.heap.size, j, none⟩ = some u := by
  have hb : (w.alloc (.cells vs t)).heap[w.heap.size]? = some (.cells vs t) := heap_alloc_new w _
  rw [cell_of_row _ _ j _ _ _ hb]
  exact h
theorem box_two (w : World) (vs us : Array Value) (t t' : TypeId) (j : Nat) (u : Value) (h : vs[j]? = some u) : ((w.alloc (.cells vs t)).alloc (.cells us t')).cell? ⟨w.heap.size, j, none⟩ = some u := by
  have hb : ((w.alloc (.cells vs t)).alloc (.cells us t')).heap[w.heap.size]? = some (.cells vs t) := by
    rw [Below.heap_alloc _ _ _ (by simp)]
    exact heap_alloc_new w _
  rw [cell_of_row _ _ j _ _ _ hb]
  exact h
theorem box_two' (w : World) (vs us : Array Value) (t t' : TypeId) (j : Nat) (u : Value) (h : us[j]? = some u) : ((w.alloc (.cells vs t)).alloc (.cells us t')).cell? ⟨w.heap.size + 1, j, none⟩ = some u := by
  have hb : ((w.alloc (.cells vs t)).alloc (.cells us t')).heap[w.heap.size + 1]? = some (.cells us t') := by
    have := heap_alloc_new (w.alloc (.cells vs t)) (.cells us t')
    rwa [show (w.alloc (.cells vs t)).heap.size = w.heap.size + 1 by simp] at this
  rw [cell_of_row _ _ j _ _ _ hb]
  exact h
def nodesTot (ns : List NodeD) : Nat := ns.length + (ns.map fun x => x.name.size + x.kids.length).sum

structure SymD where
  kind : Int
  text : ByteArray
  args : List (List NodeD)
  bind : ByteArray
structure RuleD where
  name : ByteArray
  params : List ByteArray
  alts : List (List SymD)
instance : Inhabited SymD := ⟨⟨0, ⟨#[]⟩, [], ⟨#[]⟩⟩⟩
instance : Inhabited RuleD := ⟨⟨⟨#[]⟩, [], []⟩⟩

/-- Expr: its cells. -/
def ExprE (w : World) (vs : List Value) (x : List NodeD) : Prop := ∃ r0 : Value, vs = [r0] ∧ NRow w r0 x
def ExprIn (x : List NodeD) : Prop := RowInn NodeIn x
def exprTot (x : List NodeD) : Nat := nodesTot x
theorem ExprE_stable : StableE ExprE := fun w w' vs x h hb => by
  obtain ⟨r0, e, h0⟩ := h
  exact ⟨r0, e, h0.below hb⟩

/-- Sym: its cells. -/
def SymE (w : World) (vs : List Value) (x : SymD) : Prop := ∃ r0 : Value, vs = [.int .i64 x.kind, .string x.text, r0, .string x.bind] ∧ RowC 1 ExprE w r0 x.args
def SymIn (x : SymD) : Prop := i64 x.kind ∧ StrIn x.text ∧ RowInn ExprIn x.args ∧ StrIn x.bind
def symTot (x : SymD) : Nat := x.text.size + rowTot exprTot x.args + x.bind.size
theorem SymE_stable : StableE SymE := fun w w' vs x h hb => by
  obtain ⟨r0, e, h0⟩ := h
  exact ⟨r0, e, RowC.below ExprE_stable h0 hb⟩

/-- Alt: its cells. -/
def AltE (w : World) (vs : List Value) (x : List SymD) : Prop := ∃ r0 : Value, vs = [r0] ∧ RowC 4 SymE w r0 x
def AltIn (x : List SymD) : Prop := RowInn SymIn x
def altTot (x : List SymD) : Nat := rowTot symTot x
theorem AltE_stable : StableE AltE := fun w w' vs x h hb => by
  obtain ⟨r0, e, h0⟩ := h
  exact ⟨r0, e, RowC.below SymE_stable h0 hb⟩

/-- Rule: its cells. -/
def RuleE (w : World) (vs : List Value) (x : RuleD) : Prop := ∃ r0 r1 : Value, vs = [.string x.name, r0, r1] ∧ SRow w r0 x.params ∧ RowC 1 AltE w r1 x.alts
def RuleIn (x : RuleD) : Prop := StrIn x.name ∧ RowInn StrIn x.params ∧ RowInn AltIn x.alts
def ruleTot (x : RuleD) : Nat := x.name.size + rowTot ByteArray.size x.params + rowTot altTot x.alts
theorem RuleE_stable : StableE RuleE := fun w w' vs x h hb => by
  obtain ⟨r0, r1, e, h0, h1⟩ := h
  exact ⟨r0, r1, e, h0.below hb, RowC.below AltE_stable h1 hb⟩

def GrammarIn (x : List RuleD) : Prop := RowInn RuleIn x
def grammarTot (x : List RuleD) : Nat := rowTot ruleTot x

end Go.Proofs.Ytipkbkhnaekceaa

namespace Go.Proofs.Ytipkbkhnaekceaa
open Go.RowKit

def numI (n : Int) : List UInt8 → Int
  | [] => n
  | u :: l => numI (10 * n + (u.toNat : Int) - 48) l

end Go.Proofs.Ytipkbkhnaekceaa

namespace Go.Proofs.Ytipkbkhnaekceaa
open Go.RowKit

structure SNodeD where
  kind : Int
  text : ByteArray
  args : List (List NodeD)
  bind : ByteArray
  kids : List Int
instance : Inhabited SNodeD := ⟨⟨0, ⟨#[]⟩, [], ⟨#[]⟩, []⟩⟩
structure SRuleD where
  name : ByteArray
  params : List ByteArray
  body : Int
instance : Inhabited SRuleD := ⟨⟨⟨#[]⟩, [], 0⟩⟩
/-- A reader: its place, how deep it is, whether it went wrong, the nodes. -/
structure RdD where
  at_ : Nat
  deep : Int
  bad : Bool
  out : List SNodeD
def em : ByteArray := ⟨#[]⟩
def isT (tk : List TokD) (r : RdD) (s : ByteArray) : Bool := !r.bad && match tk[r.at_]? with | some t => decide (t.kind = 5) && decide (t.text = s) | none => false
def onR (r : RdD) : RdD := { r with at_ := r.at_ + 1 }
def badR (r : RdD) : RdD := { r with bad := true }
def wantR (tk : List TokD) (r : RdD) (s : ByteArray) : RdD := if isT tk r s = true then onR r else badR r
def kindR (tk : List TokD) (r : RdD) (k : Int) : Option ByteArray := if r.bad = true then none else match tk[r.at_]? with | some t => if t.kind = k then some t.text else none | none => none
def downR (r : RdD) : RdD := { r with deep := r.deep + 1, bad := r.bad || decide (20 < r.deep + 1) }
def upR (r : RdD) : RdD := { r with deep := r.deep - 1 }
def putR (r : RdD) (x : SNodeD) : RdD := { r with out := r.out ++ [x], bad := r.bad || decide (120 < r.out.length + 1) }

inductive Md where
  | simple | one | product | prodL | sum | sumL | cmp | expr | exprL
def s1 (b : UInt8) : ByteArray := ⟨#[b]⟩
def two (op : Int) (a b : Int) : NodeD := ⟨op, 0, em, [a, b]⟩
/-- An expression's readers, by fuel: what is left of the reader, the nodes, the place. -/
def exF (tk : List TokD) : Nat → Md → RdD → List NodeD → Int → RdD × List NodeD × Int
  | 0, m, r, ns, k => (match m with | .exprL => upR r | _ => r, ns, k)
  | f + 1, .simple, r, ns, _ => match exF tk f .one (downR r) ns 0 with | (r, ns, k) => (upR r, ns, k)
  | f + 1, .one, r, ns, _ =>
    if isT tk r (s1 33) = true then match exF tk f .simple (onR r) ns 0 with | (r, ns, k) => (r, ns ++ [⟨11, 0, em, [k]⟩], ns.length)
    else if isT tk r (s1 64) = true then (onR r, ns ++ [⟨3, 0, em, []⟩], ns.length)
    else if isT tk r (s1 40) = true then match exF tk f .expr (onR r) ns 0 with | (r, ns, k) => (wantR tk r (s1 41), ns, k)
    else match kindR tk r 2 with
      | some t => (onR r, ns ++ [⟨1, numI 0 t.data.toList, em, []⟩], ns.length)
      | none => match kindR tk r 1 with
        | some t => (onR r, ns ++ [⟨2, 0, t, []⟩], ns.length)
        | none => (badR r, ns ++ [⟨2, 0, em, []⟩], ns.length)
  | f + 1, .product, r, ns, _ => match exF tk f .simple r ns 0 with | (r, ns, k) => exF tk f .prodL r ns k
  | f + 1, .prodL, r, ns, k =>
    if isT tk r (s1 42) = true then match exF tk f .simple (onR r) ns 0 with | (r, ns, b) => exF tk f .prodL r (ns ++ [two 6 k b]) ns.length
    else if isT tk r (s1 47) = true then match exF tk f .simple (onR r) ns 0 with | (r, ns, b) => exF tk f .prodL r (ns ++ [two 7 k b]) ns.length
    else (r, ns, k)
  | f + 1, .sum, r, ns, _ => match exF tk f .product r ns 0 with | (r, ns, k) => exF tk f .sumL r ns k
  | f + 1, .sumL, r, ns, k =>
    if isT tk r (s1 43) = true then match exF tk f .product (onR r) ns 0 with | (r, ns, b) => exF tk f .sumL r (ns ++ [two 4 k b]) ns.length
    else if isT tk r (s1 45) = true then match exF tk f .product (onR r) ns 0 with | (r, ns, b) => exF tk f .sumL r (ns ++ [two 5 k b]) ns.length
    else (r, ns, k)
  | f + 1, .cmp, r, ns, _ => match exF tk f .sum r ns 0 with
    | (r, ns, k) =>
      if isT tk r (s1 60) = true then match exF tk f .sum (onR r) ns 0 with | (r, ns, b) => (r, ns ++ [two 8 k b], ns.length)
      else if isT tk r (s1 61) = true then match exF tk f .sum (onR r) ns 0 with | (r, ns, b) => (r, ns ++ [two 9 k b], ns.length)
      else (r, ns, k)
  | f + 1, .expr, r, ns, _ => match exF tk f .cmp (downR r) ns 0 with | (r, ns, k) => exF tk f .exprL r ns k
  | f + 1, .exprL, r, ns, k =>
    if isT tk r (s1 38) = true then match exF tk f .cmp (onR r) ns 0 with | (r, ns, b) => exF tk f .exprL r (ns ++ [two 10 k b]) ns.length
    else (upR r, ns, k)
def fuelE : Nat := 4000
def wholeR (tk : List TokD) (r : RdD) : RdD × List NodeD := match exF tk fuelE .expr r [] 0 with | (r, ns, _) => (r, ns)
def argsR (tk : List TokD) : Nat → RdD → List (List NodeD) → RdD × List (List NodeD)
  | 0, r, es => (r, es)
  | f + 1, r, es => if isT tk r (s1 44) = true then argsR tk f (wholeR tk (onR r)).1 (es ++ [(wholeR tk (onR r)).2]) else (r, es)
def callArgs (tk : List TokD) (r : RdD) : RdD × List (List NodeD) :=
  match argsR tk 250 (wholeR tk r).1 [(wholeR tk r).2] with | (r, es) => (wantR tk r (s1 41), es)
def callR (tk : List TokD) (r : RdD) (name : ByteArray) (opn : Bool) : RdD :=
  if opn = true then match callArgs tk r with | (r, es) => putR r ⟨3, name, es, em, []⟩
  else if isT tk r (s1 58) = true then
    match kindR tk (onR r) 1 with
    | some t => putR (onR (onR r)) ⟨3, t, [], name, []⟩
    | none => match kindR tk (onR r) 6 with
      | some t => match callArgs tk (onR (onR r)) with | (r, es) => putR r ⟨3, t, es, name, []⟩
      | none => putR (badR (onR r)) ⟨3, em, [], name, []⟩
  else putR r ⟨3, name, [], em, []⟩
inductive Ms where
  | thing | row | alts | altsL
/-- Things, rows and alternatives: the reader, and (of a thing) the place, if there is one; kids: what was read of a row, or of alternatives. -/
def suF (tk : List TokD) : Nat → Ms → RdD → List Int → RdD × Option Int
  | 0, _, r, _ => (r, none)
  | f + 1, .thing, r, _ => match kindR tk r 3 with
    | some t => (putR (onR r) ⟨1, t, [], em, []⟩, some r.out.length)
    | none => match kindR tk r 4 with
      | some t => (putR (onR r) ⟨2, t, [], em, []⟩, some r.out.length)
      | none => match kindR tk r 1 with
        | some t => (callR tk (onR r) t false, some (((callR tk (onR r) t false).out.length : Int) - 1))
        | none => match kindR tk r 6 with
          | some t => (callR tk (onR r) t true, some (((callR tk (onR r) t true).out.length : Int) - 1))
          | none =>
            if isT tk r (s1 123) = true then match wholeR tk (onR r) with | (r, e) => (putR (wantR tk r (s1 125)) ⟨4, em, [e], em, []⟩, some r.out.length)
            else if isT tk r (s1 40) = true then
              match suF tk f .alts (onR r) [] with
              | (r, k) => match wantR tk r (s1 41) with
                | r => if isT tk r (s1 42) = true then (putR (onR r) ⟨7, em, [], em, [k.getD 0]⟩, some r.out.length)
                  else if isT tk r (s1 43) = true then (putR (onR r) ⟨8, em, [], em, [k.getD 0]⟩, some r.out.length)
                  else if isT tk r (s1 63) = true then (putR (onR r) ⟨9, em, [], em, [k.getD 0]⟩, some r.out.length)
                  else (r, k)
            else (r, none)
  | f + 1, .row, r, kids =>
    if r.bad = true then (putR r ⟨5, em, [], em, kids⟩, some r.out.length)
    else match suF tk f .thing r [] with
      | (r, some k) => suF tk f .row r (kids ++ [k])
      | (r, none) => (putR r ⟨5, em, [], em, kids⟩, some r.out.length)
  | f + 1, .alts, r, _ => match suF tk f .row (downR r) [] with | (r, k) => suF tk f .altsL r [k.getD 0]
  | f + 1, .altsL, r, kids =>
    if isT tk r (s1 124) = true then match suF tk f .row (onR r) [] with | (r, k) => suF tk f .altsL r (kids ++ [k.getD 0])
    else (putR (upR r) ⟨6, em, [], em, kids⟩, some r.out.length)
/-- Params of a rule: names with commas between; false: one is none. -/
def parsR (tk : List TokD) : Nat → RdD → List ByteArray → Bool → RdD × List ByteArray × Bool
  | 0, r, ps, ok => (r, ps, ok)
  | f + 1, r, ps, ok => match kindR tk r 1 with
    | some t => if isT tk (onR r) (s1 44) = true then parsR tk f (onR (onR r)) (ps ++ [t]) ok else (onR r, ps ++ [t], ok)
    | none => if isT tk r (s1 44) = true then parsR tk f (onR r) (ps ++ [em]) false else (r, ps ++ [em], false)
def arrow : ByteArray := ⟨#[45, 62]⟩
/-- The rules, by fuel; none: it is none. -/
def rulesR (F P : Nat) (tk : List TokD) : Nat → RdD → List SRuleD → Option (List SNodeD × List SRuleD)
  | 0, _, _ => none
  | f + 1, r, rs =>
    if r.bad = true then none
    else if r.at_ < tk.length then
      match kindR tk r 1 with
      | some t => match suF tk F .alts (wantR tk (onR r) arrow) [] with
        | (q, k) => if (wantR tk (onR r) arrow).bad = true then none else rulesR F P tk f (wantR tk q (s1 59)) (rs ++ [⟨t, [], k.getD 0⟩])
      | none => match kindR tk r 6 with
        | some t => match parsR tk P (onR r) [] true with
          | (q, ps, ok) => match wantR tk (wantR tk q (s1 41)) arrow with
            | q => if ok = false ∨ q.bad = true then none else match suF tk F .alts q [] with
              | (q, k) => rulesR F P tk f (wantR tk q (s1 59)) (rs ++ [⟨t, ps, k.getD 0⟩])
        | none => none
    else some (r.out, rs)
/-- What is read, but for whether it is right. -/
def parseB (s : ByteArray) : Option (List SNodeD × List SRuleD) := if (tokensB s).2 = 0 then rulesR fuelE 250 (tokensB s).1 250 ⟨0, 0, false, []⟩ [] else none

end Go.Proofs.Ytipkbkhnaekceaa

namespace Go.Proofs.Ytipkbkhnaekceaa
open Go.RowKit

def inI (n lo hi : Int) : Bool := decide (lo ≤ n ∧ n ≤ hi)
/-- How many kids an Op has. -/
def kidsN (op : Int) : Int := if op = 1 ∨ op = 2 ∨ op = 3 then 0 else if op = 11 then 1 else 2
/-- Num and Name are as the Op wants them. -/
def fieldsB (x : NodeD) : Bool := (if x.op = 1 then inI x.num 0 99 else decide (x.num = 0)) && (if x.op = 2 then nameB x.name else decide (x.name = ⟨#[]⟩))
def kidsB (i : Nat) (ks : List Int) : Bool := ks.all (fun k => inI k 0 ((i : Int) - 1))
def nodeB (i : Nat) (x : NodeD) : Bool := inI x.op 1 11 && decide ((x.kids.length : Int) = kidsN x.op) && fieldsB x && kidsB i x.kids
def nodesF : Nat → List NodeD → Bool
  | _, [] => true
  | i, x :: xs => nodeB i x && nodesF (i + 1) xs
/-- A right expression. -/
def exprB (ns : List NodeD) : Bool := nodesF 0 ns && inI (ns.length : Int) 1 20

theorem nodesF_app (l m : List NodeD) : ∀ i, nodesF i (l ++ m) = (nodesF i l && nodesF (i + l.length) m) := by
  induction l with
  | nil => intro i; simp [nodesF]
  | cons x l ih => intro i; rw [List.cons_append, nodesF, nodesF, ih, List.length_cons, Bool.and_assoc, show i + 1 + l.length = i + (l.length + 1) by omega]
theorem nodesF_next (ns : List NodeD) (k : Nat) (h : k < ns.length) : nodesF 0 (ns.take (k + 1)) = (nodesF 0 (ns.take k) && nodeB k ns[k]) := by
  rw [List.take_succ_eq_append_getElem h, nodesF_app]
  simp [nodesF, Nat.min_eq_left (Nat.le_of_lt h)]
theorem exprB_no {ns : List NodeD} {k : Nat} (h : k < ns.length) (hn : nodeB k ns[k] = false) : exprB ns = false := by
  have : nodesF 0 ns = false := by
    rw [← List.take_append_drop (k + 1) ns, nodesF_app, nodesF_next ns k h, hn]
    simp
  rw [exprB, this, Bool.false_and]
theorem nodesF_at : ∀ (ns : List NodeD) (i : Nat), nodesF i ns = true → ∀ k (h : k < ns.length), nodeB (i + k) ns[k] = true
  | [], _, _, _, h => by simp at h
  | x :: xs, i, hn, k, h => by
    rw [nodesF, Bool.and_eq_true] at hn
    cases k with
    | zero => exact hn.1
    | succ k =>
      have := nodesF_at xs (i + 1) hn.2 k (by simpa using h)
      rw [show i + (k + 1) = i + 1 + k by omega]
      simpa using this
/-- What a right expression's nodes are. -/
theorem exprB_at {ns : List NodeD} (h : exprB ns = true) : (1 ≤ ns.length ∧ ns.length ≤ 20) ∧ ∀ k (hk : k < ns.length), nodeB k ns[k] = true := by
  rw [exprB, Bool.and_eq_true, inI, decide_eq_true_eq] at h
  refine ⟨by omega, fun k hk => ?_⟩
  have := nodesF_at ns 0 h.1 k hk
  rwa [Nat.zero_add] at this
theorem node_parts {i : Nat} {x : NodeD} (h : nodeB i x = true) : (1 ≤ x.op ∧ x.op ≤ 11) ∧ (x.kids.length : Int) = kidsN x.op ∧ fieldsB x = true ∧ ∀ k ∈ x.kids, 0 ≤ k ∧ k < i := by
  rw [nodeB, Bool.and_eq_true, Bool.and_eq_true, Bool.and_eq_true, inI, decide_eq_true_eq, decide_eq_true_eq, kidsB, List.all_eq_true] at h
  refine ⟨h.1.1.1, h.1.1.2, h.1.2, fun k hk => ?_⟩
  have := h.2 k hk
  rw [inI, decide_eq_true_eq] at this
  omega

end Go.Proofs.Ytipkbkhnaekceaa
