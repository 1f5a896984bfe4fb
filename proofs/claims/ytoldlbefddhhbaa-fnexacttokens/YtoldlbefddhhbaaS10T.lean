/- The specification's Tokens. -/
import Derived.Test.YtoldlbefddhhbaaS10O5
import Derived.Test.YtoldlbefddhhbaaRO
import Derived.Laws.OwnMore
import Derived.Maps.AppendAt
namespace Go.Proofs.Ytoldlbefddhhbaa
open Go.RowKit
set_option linter.unusedVariables false

def TokV (_ : World) (vs : List Value) (x : TokD) : Prop := vs = [.int .i64 x.kind, .string x.text]
def TokO (B : Nat) (v : Value) (ts : List TokD) (w : World) : Prop := RowO 2 32 TokV B v ts w
theorem TokO.below {B : Nat} {v : Value} {ts : List TokD} {w w' : World} (h : TokO B v ts w) (hb : Below w.heap.size w w') : TokO B v ts w' := RowO.below (fun _ _ _ _ hx _ => hx) h hb
theorem Try.infoTok : (Try.prog.info? 32).map (fun i => (i.zero, i.size, i.bytes)) = some (some (.agg #[.int .i64 0, .string ⟨#[]⟩]), 2, 24) := by kernel_rfl
theorem tok_at (w : World) (u v : Value) (t : TypeId) : ∀ (j : Nat) (x : Value), [u, v][j]? = some x → (w.alloc (.cells #[u, v] t)).cell? ((⟨w.heap.size, 0, none⟩ : Addr).add j) = some x := fun j x h => by
  rw [Addr.add_lit, Nat.zero_add]
  refine box10 _ _ _ j _ ?_
  simpa using h
theorem tok_at2 (w : World) (o : Obj) (u v : Value) (t : TypeId) : ∀ (j : Nat) (x : Value), [u, v][j]? = some x → ((w.alloc o).alloc (.cells #[u, v] t)).cell? ((⟨w.heap.size + 1, 0, none⟩ : Addr).add j) = some x := fun j x h => by
  have := tok_at (w.alloc o) u v t j x h
  rwa [show (w.alloc o).heap.size = w.heap.size + 1 by simp] at this
theorem tok_cells (p : Int) (s : ByteArray) : ∀ u ∈ [Value.int .i64 p, Value.string s], u.oneCell' = true := by
  intro u hu
  rcases List.mem_cons.1 hu with rfl | hu
  · rfl
  · rw [List.mem_singleton.1 hu]; rfl

theorem tok_made (w1 : World) (o : Obj) {B : Nat} (hB : B ≤ w1.heap.size) : TokO B (.slice (some ⟨w1.heap.size + 1, 0, none⟩) 0 0) [] ((w1.alloc o).alloc (.cells #[] 32)) := by
  have := RowO.made (α := TokD) (sz := 2) (T := 32) (E := TokV) (w := w1.alloc o) (B := B) (by simp; omega)
  rwa [show (w1.alloc o).heap.size = w1.heap.size + 1 by simp] at this
theorem span_from {s : ByteArray} {p k : Nat} {q : UInt8 → Bool} (h1 : p ≤ k) (h2 : k ≤ s.size) (h : ∀ m (hm : m < s.size), p ≤ m → m < k → q s[m] = true) (he : ∀ hk : k < s.size, q s[k] = false) : spanN q (s.data.toList.drop p) = k - p := by
  have hl := toList_size s
  refine spanN_at q _ _ (by rw [List.length_drop]; omega) (fun i hi hlt => ?_) (fun hlt => ?_)
  · rw [List.getElem_drop]
    exact h (p + i) (by omega) (by omega) (by omega)
  · rw [List.length_drop] at hlt
    rw [List.getElem_drop]
    have := he (by omega)
    have e : p + (k - p) = k := by omega
    simp only [e]
    exact this
theorem toks_nil (n f : Nat) (out : List TokD) : toks10 n f out [] = (out, 0) := by cases f <;> rfl
theorem toks_at {s : ByteArray} {p f : Nat} {out : List TokD} (h : p < s.size) : toks10 s.size (f + 1) out (s.data.toList.drop p) =
    if s[p] = 32 ∨ s[p] = 10 then toks10 s.size f out (s.data.toList.drop (p + 1))
    else if s[p] = 35 then toks10 s.size f out (s.data.toList.drop (p + spanN inLine (s.data.toList.drop p)))
    else match one10 (s.data.toList.drop p) with
      | none => ([], (p : Int) + 1)
      | some (t, k) => if out.length = 200 then ([], (p : Int) + 1) else toks10 s.size f (out ++ [t]) (s.data.toList.drop (p + k)) := by
  have hl := toList_size s
  have e1 : ((s.size - ((s.data.toList.drop (p + 1)).length + 1) : Nat) : Int) = (p : Int) := by rw [List.length_drop]; omega
  rw [drop_at h, toks10]
  rw [e1]
  by_cases c1 : s[p] = 32 ∨ s[p] = 10
  · rw [if_pos c1, if_pos c1]
  · rw [if_neg c1, if_neg c1]
    by_cases c2 : s[p] = 35
    · rw [if_pos c2, if_pos c2, ← drop_at h, List.drop_drop]
    · rw [if_neg c2, if_neg c2]
      cases ho : one10 (s[p] :: s.data.toList.drop (p + 1)) with
      | none => rfl
      | some q =>
        obtain ⟨t, k⟩ := q
        simp only []
        by_cases c3 : out.length = 200
        · rw [if_pos c3, if_pos c3]
        · rw [if_neg c3, if_neg c3, ← drop_at h, List.drop_drop]

set_option maxHeartbeats 6400000 in
set_option maxRecDepth 100000 in
theorem tokens_any (s : ByteArray) (w : World) (hs : s.size ≤ 1048576) :
    Calls Try.prog 5 #[.string s] w fun e w' => ∃ o, e = .returned (.tuple #[o, .int .i64 (tokensB s).2]) ∧ TokO w.heap.size o (tokensB s).1 w' ∧ Below w.heap.size w w' := by
  obtain ⟨i0, hi, hz0, hz1, hz2⟩ := info_parts Try.infoTok
  have B0 : Hid (Below w.heap.size w (w.alloc (.cells #[] 32))) := (Below.refl _ _).alloc (Nat.le_refl _) _
  have O0 : Hid (TokO w.heap.size (.slice (some ⟨w.heap.size, 0, none⟩) 0 0) [] (w.alloc (.cells #[] 32))) := RowO.made (Nat.le_refl _)
  by_cases h600 : 600 < s.size
  · have HV : Hid (tokensB s = ([], 601)) := by rw [Hid, tokensB, if_pos h600]
    have d1 : (600 : Int) < (s.size : Int) := by omega
    go_enter Try.func5, Try.ntmps5
    go_wp2
    go_ret2
    rw [HV.out]
    exact ⟨_, rfl, O0.out, B0.out⟩
  have HT : Hid (tokensB s = toks10 s.size (s.size + 1) [] s.data.toList) := by rw [Hid, tokensB, if_neg h600]
  have d1 : ¬ (600 : Int) < (s.size : Int) := by omega
  go_enter Try.func5, Try.ntmps5
  go_wp2
  go_loopw [4, 5] (fun ov iv wr => ∃ (p f : Nat) (ts : List TokD), iv = .int .i64 p ∧ p ≤ s.size ∧ s.size < f + p ∧ ts.length ≤ 200 ∧ toks10 s.size f ts (s.data.toList.drop p) = toks10 s.size (s.size + 1) [] s.data.toList ∧ TokO w.heap.size ov ts wr ∧ Below w.heap.size w wr) (fun _ iv _ => s.size - (intOf iv).toNat)
  case atStart => exact ⟨0, s.size + 1, [], rfl, Nat.zero_le _, by omega, by simp, rfl, O0.out, B0.out⟩
  case round =>
    obtain ⟨p, f, ts, rfl, hp, hf, hl2, hF, hO, hb⟩ := hrel
    have HF : Hid (toks10 s.size f ts (s.data.toList.drop p) = toks10 s.size (s.size + 1) [] s.data.toList) := hF
    have HO : Hid (TokO w.heap.size u4 ts wr) := hO
    have HB : Hid (Below w.heap.size w wr) := hb
    obtain ⟨ao, co, rfl⟩ := RowO.slice hO
    clear hF hO hb O0 B0
    by_cases hlt : p < s.size
    · obtain ⟨f, rfl⟩ : ∃ f', f = f' + 1 := ⟨f - 1, by omega⟩
      have HA : Hid (_ = _) := toks_at (f := f) (out := ts) hlt
      have hu := s[p].toNat_lt
      have i4 : (p : Int) < (s.size : Int) := by omega
      by_cases c1 : s[p].toNat = 32 ∨ s[p].toNat = 10
      · have HN : Hid (toks10 s.size f ts (s.data.toList.drop (p + 1)) = toks10 s.size (s.size + 1) [] s.data.toList) := by
          rw [Hid, ← HF.out, HA.out, if_pos (c1.imp (fun h => u8_is h (by decide)) (fun h => u8_is h (by decide)))]
        by_cases c2 : s[p].toNat = 32
        · have q32 : ((s[p].toNat : Int) == 32) = true := by rw [beq_iff_eq]; omega
          clear c1 c2
          go_wp2
          go_roundw
          case rel => exact ⟨p + 1, f, ts, by go_num, by omega, by omega, hl2, HN.out, HO.out, HB.out⟩
          case measure => simp [intOf]; omega
        · have q32 : ((s[p].toNat : Int) == 32) = false := by rw [beq_eq_false_iff_ne]; omega
          have q10 : ((s[p].toNat : Int) == 10) = true := by rw [beq_iff_eq]; omega
          clear c1 c2
          go_wp2
          go_roundw
          case rel => exact ⟨p + 1, f, ts, by go_num, by omega, by omega, hl2, HN.out, HO.out, HB.out⟩
          case measure => simp [intOf]; omega
      have q32 : ((s[p].toNat : Int) == 32) = false := by rw [beq_eq_false_iff_ne]; omega
      have q10 : ((s[p].toNat : Int) == 10) = false := by rw [beq_eq_false_iff_ne]; omega
      rw [if_neg (fun c => c1 (c.imp (fun h => by rw [h]; rfl) (fun h => by rw [h]; rfl)))] at HA
      have c10 : ¬ s[p].toNat = 10 := fun h => c1 (.inr h)
      clear c1
      by_cases c3 : s[p].toNat = 35
      · have q35 : ((s[p].toNat : Int) == 35) = true := by rw [beq_iff_eq]; omega
        rw [if_pos (u8_is c3 (by decide)), HF.out] at HA
        have HC10 : Hid (¬ s[p].toNat = 10) := c10
        clear c3 c10
        go_wp2
        go_loopw [5] (fun iv ww => ∃ k : Nat, iv = .int .i64 k ∧ p ≤ k ∧ k ≤ s.size ∧ (∀ m (hm : m < s.size), p ≤ m → m < k → inLine s[m] = true) ∧ ww = wr) (fun iv _ => s.size - (intOf iv).toNat)
        case atStart => exact ⟨p, rfl, Nat.le_refl _, by omega, fun m hm h1 h2 => by omega, rfl⟩
        case round =>
          obtain ⟨k, rfl, hk1, hk2, hto, hww⟩ := hrel
          rw [hww]
          clear hww
          have HTo : Hid (∀ m (hm : m < s.size), p ≤ m → m < k → inLine s[m] = true) := hto
          clear hto
          by_cases hkl : k < s.size
          · have hu2 := s[k].toNat_lt
            have i6 : (k : Int) < (s.size : Int) := by omega
            by_cases hq : s[k].toNat = 10
            · have m10 : ((s[k].toNat : Int) != 10) = false := by simp; omega
              have HSp : Hid (spanN inLine (s.data.toList.drop p) = k - p) := span_from hk1 hk2 HTo.out (fun _ => by unfold inLine; simp [hq])
              have hkp : p < k := by
                rcases Nat.lt_or_ge p k with h | h
                · exact h
                · obtain rfl : k = p := by omega
                  exact absurd hq HC10.out
              have HN : Hid (toks10 s.size f ts (s.data.toList.drop k) = toks10 s.size (s.size + 1) [] s.data.toList) := by
                have := HA.out
                rw [HSp.out, show p + (k - p) = k by omega] at this
                exact this.symm
              clear hq
              go_wp2
              go_roundw
              case rel => exact ⟨k, f, ts, rfl, by omega, by omega, hl2, HN.out, HO.out, HB.out⟩
              case measure => simp [intOf]; omega
            · have m10 : ((s[k].toNat : Int) != 10) = true := by simp; omega
              have HNx : Hid (∀ m (hm : m < s.size), p ≤ m → m < k + 1 → inLine s[m] = true) := fun m hm h1 h2 => by
                by_cases e : m = k
                · subst e; unfold inLine; simp [hq]
                · exact HTo.out m hm h1 (by omega)
              clear hq
              go_wp2
              go_roundw
              case rel => exact ⟨k + 1, by go_num, by omega, by omega, HNx.out, by first | trivial | rfl⟩
              case measure => simp [intOf]; omega
          · obtain rfl : k = s.size := by omega
            have HSp : Hid (spanN inLine (s.data.toList.drop p) = s.size - p) := span_from hk1 hk2 HTo.out (fun h => absurd h (Nat.lt_irrefl _))
            have HN : Hid (toks10 s.size f ts (s.data.toList.drop s.size) = toks10 s.size (s.size + 1) [] s.data.toList) := by
              have := HA.out
              rw [HSp.out, show p + (s.size - p) = s.size by omega] at this
              exact this.symm
            have i6 : ¬ (s.size : Int) < (s.size : Int) := by omega
            go_wp2
            go_roundw
            case rel => exact ⟨s.size, f, ts, rfl, by omega, by omega, hl2, HN.out, HO.out, HB.out⟩
            case measure => simp [intOf]; omega
      have q35 : ((s[p].toNat : Int) == 35) = false := by rw [beq_eq_false_iff_ne]; omega
      rw [if_neg (fun c => c3 (by rw [c]; rfl)), HF.out] at HA
      clear c3 c10
      obtain ⟨r, hr⟩ : ∃ r, r = res10 (s.data.toList.drop p) p := ⟨_, rfl⟩
      have HOne : Hid (∀ W, _) := fun W => one10_any s p W hlt hs r hr
      have HRr : Hid (r = res10 (s.data.toList.drop p) p) := hr
      have wp1 : IntKind.i64.wrap ((p : Int) + 1) = (p : Int) + 1 := by rw [IntKind.wrap_i64]; omega
      clear hr
      cases ho : one10 (s.data.toList.drop p) with
      | none =>
        rw [ho] at HA
        have hr2 : r.2 = 0 := by rw [HRr.out, res10, ho]
        have HV : Hid (tokensB s = ([], (p : Int) + 1)) := by rw [Hid, HT.out]; exact HA.out
        have q0 : (r.2 == 0) = true := by rw [beq_iff_eq]; exact hr2
        clear ho hr2
        go_wp2_with (go_at_call 12; refine (HOne.out _).mono ?_; rintro e w1 ⟨rfl, hb1⟩)
        have B1 : Hid (Below w.heap.size w w1) := HB.out.trans (hb1.mono HB.out.size)
        (try go_wp2)
        go_ret2
        rw [HV.out]
        exact ⟨_, rfl, tok_made w1 _ B1.out.size, (B1.out.alloc B1.out.size _).alloc (by have := B1.out.size; simp; omega) _⟩
      | some tk =>
        obtain ⟨t, n⟩ := tk
        rw [ho] at HA
        have hn := one10_pos ho
        rw [List.length_drop, toList_size] at hn
        obtain rfl : r = (t, ((p + n : Nat) : Int)) := by rw [HRr.out, res10, ho]
        have q0 : (((p + n : Nat) : Int) == 0) = false := by rw [beq_eq_false_iff_ne]; omega
        clear ho
        by_cases hfull : ts.length = 200
        · have HV : Hid (tokensB s = ([], (p : Int) + 1)) := by
            rw [Hid, HT.out, HA.out]
            simp only [if_pos hfull]
          have q200 : ((ts.length : Int) == 200) = true := by rw [beq_iff_eq]; omega
          clear hfull
          go_wp2_with (go_at_call 12; refine (HOne.out _).mono ?_; rintro e w1 ⟨rfl, hb1⟩)
          have B1 : Hid (Below w.heap.size w w1) := HB.out.trans (hb1.mono HB.out.size)
          (try go_wp2)
          go_ret2
          rw [HV.out]
          exact ⟨_, rfl, tok_made w1 _ B1.out.size, (B1.out.alloc B1.out.size _).alloc (by have := B1.out.size; simp; omega) _⟩
        · have HN : Hid (toks10 s.size f (ts ++ [t]) (s.data.toList.drop (p + n)) = toks10 s.size (s.size + 1) [] s.data.toList) := by
            rw [Hid, HA.out]
            simp only [if_neg hfull]
          have q200 : ((ts.length : Int) == 200) = false := by rw [beq_eq_false_iff_ne]; omega
          have hnk : IntKind.i64.wrap ((p + n : Nat) : Int) = ((p + n : Nat) : Int) := by rw [IntKind.wrap_i64]; omega
          have hl3 : ts.length < 200 := by omega
          clear hfull
          go_wp2_with fail
          refine (HOne.out _).mono ?_
          rintro e w1 ⟨rfl, hb1⟩
          have b0 := box10 w1 #[.int .i64 t.kind, .string t.text] 32 0 _ rfl
          have b1 := box10 w1 #[.int .i64 t.kind, .string t.text] 32 1 _ rfl
          have bal : Hid (Below w1.heap.size w1 (w1.alloc (.cells #[.int .i64 t.kind, .string t.text] 32))) := (Below.refl _ _).alloc (Nat.le_refl _) _
          have B1 : Hid (Below w.heap.size w w1) := HB.out.trans (hb1.mono HB.out.size)
          have B2 : Hid (Below w.heap.size w (w1.alloc (.cells #[.int .i64 t.kind, .string t.text] 32))) := B1.out.trans (bal.out.mono B1.out.size)
          have O2 : Hid (TokO w.heap.size (.slice ao ts.length co) ts (w1.alloc (.cells #[.int .i64 t.kind, .string t.text] 32))) := TokO.below (TokO.below HO.out hb1) bal.out
          have HLt : Hid (∀ k, (Value.slice ao ts.length co).ownBlock = some k → w.heap.size ≤ k) := fun k hk => (RowO.lt O2.out k hk).1
          obtain ⟨cs, hcs, hsn⟩ := RowO.snoc O2.out
          have HC : Hid _ := hcs
          have HSn : Hid _ := hsn
          have hsz2 := B2.out.size
          clear hcs hsn hb1 bal HO HB B1
          go_wp2_with (at_builtin; refine wpList_append_own _ rfl _ _ 22 rfl w.heap.size 32 i0 _ 2 24 Try.underlying22 hi hz0 hz1 hz2 rfl (by decide) _ _ _ rfl (World.ownsRow.alloc HC.out _) ⟨_, 0, none⟩ 1 1 [.int .i64 t.kind, .string t.text] rfl rfl (tok_at2 _ _ _ _ _) (tok_cells _ _) (by unfold maxLen; omega) (by omega) (by have h8 := B2.out.size; simp at h8 ⊢; omega) ?_)
          intro v' w3 hown3 hgrow _
          have R1 : Hid (TokO w.heap.size v' (ts ++ [t]) w3) := HSn.out v' w3 _ t rfl hown3 (fun _ _ h => h) rfl
          have R2 : Hid (Below w.heap.size w w3) := (B2.out.alloc B2.out.size _).grown hgrow (by have := B2.out.size; simp at this ⊢; omega) HLt.out
          clear hown3 hgrow
          go_wp2
          go_roundw
          case rel => exact ⟨p + n, f, ts ++ [t], by first | rfl | go_num, by omega, by omega, by simp; omega, HN.out, R1.out, R2.out⟩
          case measure => simp [intOf]; omega
    · obtain rfl : p = s.size := by omega
      have HV : Hid (tokensB s = (ts, 0)) := by
        rw [Hid, HT.out, ← HF.out, List.drop_of_length_le (by rw [toList_size]; exact Nat.le_refl _), toks_nil]
      have i4 : ¬ (s.size : Int) < (s.size : Int) := by omega
      go_wp2
      go_ret2
      rw [HV.out]
      exact ⟨_, rfl, HO.out, HB.out⟩

end Go.Proofs.Ytoldlbefddhhbaa
