/- The specification's l10One: figures, texts (printed by mk/s10o.py). -/
import Derived.Test.YtipkbkhnaekceaaS10O
namespace Go.Proofs.Ytipkbkhnaekceaa
open Go.RowKit
set_option linter.unusedVariables false

set_option maxHeartbeats 6400000 in
set_option maxRecDepth 100000 in
theorem one10_fig (s : ByteArray) (p : Nat) (w : World) (hp : p < s.size) (hs : s.size ≤ 1048576) (hlb : Hid (letT s[p].toNat = false)) (hfb : Hid (figT s[p].toNat = true)) (r : TokD × Int) (hr : r = res10 (s.data.toList.drop p) p) :
    Calls Try.prog 64 #[.string s, .int .i64 p] w fun e w' => e = .returned (.tuple #[.agg #[.int .i64 r.1.kind, .string r.1.text], .int .i64 r.2]) ∧ Below w.heap.size w w' := by
  have HR : Hid (r = res10 (s.data.toList.drop p) p) := hr
  clear hr
  have hpu := s[p].toNat_lt
  have i1 : (p : Int) < (s.size : Int) := by omega
  have wp1 : IntKind.i64.wrap ((p : Int) + 1) = (p : Int) + 1 := by rw [IntKind.wrap_i64]; omega
  have B0 : Hid (Below w.heap.size w (w.alloc (.cells #[.int .i64 0, .string ⟨#[]⟩] 106))) := (Below.refl _ _).alloc (Nat.le_refl _) _
  have c0 : (w.alloc (.cells #[.int .i64 0, .string ⟨#[]⟩] 106)).cell? ⟨w.heap.size, 0, none⟩ = some (.int .i64 0) := box10 _ _ _ 0 _ rfl
  have c1 : (w.alloc (.cells #[.int .i64 0, .string ⟨#[]⟩] 106)).cell? ⟨w.heap.size, 1, none⟩ = some (.string ⟨#[]⟩) := box10 _ _ _ 1 _ rfl
  have g0 : (w.alloc (.cells #[.int .i64 0, .string ⟨#[]⟩] 106)).frozen? ⟨w.heap.size, 0, none⟩ = false := froz10 _ _ _ 0
  have g1 : (w.alloc (.cells #[.int .i64 0, .string ⟨#[]⟩] 106)).frozen? ⟨w.heap.size, 1, none⟩ = false := froz10 _ _ _ 1
  have HLp : Hid (∀ W, _) := fun W => let10_any s[p].toNat W
  rw [hlb.out] at HLp
  have HFp : Hid (∀ W, _) := fun W => fig10_any s[p].toNat W
  rw [hfb.out] at HFp
  go_enter Try.func64, Try.ntmps64
  go_wp2_with (first | (go_at_call 82; refine (HLp.out _).mono ?_; rintro e wq ⟨rfl, hw⟩; rw [hw]; clear hw) | (go_at_call 73; refine (HFp.out _).mono ?_; rintro e wq ⟨rfl, hw⟩; rw [hw]; clear hw))
  generalize w.alloc (.cells #[.int .i64 0, .string ⟨#[]⟩] 106) = w0 at *
  go_loopw [7] (fun iv wr => ∃ k : Nat, iv = .int .i64 k ∧ p + 1 ≤ k ∧ k ≤ s.size ∧ (∀ m (hm : m < s.size), p + 1 ≤ m → m < k → figU s[m] = true) ∧ wr = w0) (fun iv _ => s.size - (intOf iv).toNat)
  case atStart => exact ⟨p + 1, by go_num, Nat.le_refl _, by omega, fun m hm h1 h2 => by omega, rfl⟩
  case round =>
    obtain ⟨k, rfl, hk1, hk2, hto, hwr⟩ := hrel
    rw [hwr]
    clear hwr
    have HTo : Hid (∀ m (hm : m < s.size), p + 1 ≤ m → m < k → figU s[m] = true) := hto
    clear hto
    have wkp : IntKind.i64.wrap ((k : Int) - (p : Int)) = (k : Int) - (p : Int) := by rw [IntKind.wrap_i64]; omega
    have j1 : (p : Int) ≤ (k : Int) := by omega
    have j2 : (k : Int) ≤ (s.size : Int) := by omega
    by_cases hlt : k < s.size
    · have hu := s[k].toNat_lt
      have i4 : (k : Int) < (s.size : Int) := by omega
      have i5 : ((k : Int) == (s.size : Int)) = false := by rw [beq_eq_false_iff_ne]; omega
      cases hq : figU s[k] with
      | true =>
        have HNx : Hid (∀ m (hm : m < s.size), p + 1 ≤ m → m < k + 1 → figU s[m] = true) := fun m hm h1 h2 => by
          by_cases e : m = k
          · subst e; exact hq
          · exact HTo.out m hm h1 (by omega)
        unfold figU at hq
        have HFk : Hid (∀ W, _) := fun W => fig10_any s[k].toNat W
        rw [hq] at HFk
        clear hq
        go_wp2_with (go_at_call 73; refine (HFk.out _).mono ?_; rintro e wq ⟨rfl, hw⟩; rw [hw]; clear hw)
        go_roundw
        case rel => exact ⟨k + 1, by go_num, by omega, by omega, HNx.out, by first | trivial | rfl⟩
        case measure => simp [intOf]; omega
      | false =>
        have HSp : Hid (spanN figU (s.data.toList.drop (p + 1)) = k - (p + 1)) := span_of hk1 hk2 HTo.out (fun _ => hq)
        have HAt : Hid (s.data.toList[k]? = some s[k]) := at_some hlt
        unfold figU at hq
        have HFk : Hid (∀ W, _) := fun W => fig10_any s[k].toNat W
        rw [hq] at HFk
        clear hq HTo
        by_cases h6 : 2 < k - p
        · have HV : Hid (res10 (s.data.toList.drop p) p = (⟨0, noS10⟩, 0)) := by rw [Hid, res_fig hp hlb.out hfb.out hk1 HSp.out, if_pos h6]
          have d6 : decide ((2 : Int) < (k : Int) - (p : Int)) = true := by rw [decide_eq_true]; omega
          go_wp2_with ((go_at_call 73; refine (HFk.out _).mono ?_; rintro e wq ⟨rfl, hw⟩; rw [hw]; clear hw))
          refine bodyPost_ret (by simp [results, Try.results64, go_sem, c0, c1]; try rfl) rfl ?_
          have hr2 := HR.out.trans HV.out
          rw [hr2]
          exact ⟨rfl, (B0.out.setCell (Nat.le_refl _) _).setCell (Nat.le_refl _) _⟩

        have d6 : decide ((2 : Int) < (k : Int) - (p : Int)) = false := by rw [decide_eq_false]; omega
        have HV : Hid (res10 (s.data.toList.drop p) p = (⟨2, s.extract p k⟩, (k : Int))) := by rw [Hid, res_fig hp hlb.out hfb.out hk1 HSp.out, if_neg h6]
        go_wp2_with ((go_at_call 73; refine (HFk.out _).mono ?_; rintro e wq ⟨rfl, hw⟩; rw [hw]; clear hw))
        refine bodyPost_ret (by simp [results, Try.results64, go_sem, c0, c1]; try rfl) rfl ?_
        have hr2 := HR.out.trans HV.out
        rw [hr2]
        exact ⟨rfl, (B0.out.setCell (Nat.le_refl _) _).setCell (Nat.le_refl _) _⟩

    · obtain rfl : k = s.size := by omega
      have HSp : Hid (spanN figU (s.data.toList.drop (p + 1)) = s.size - (p + 1)) := span_of hk1 hk2 HTo.out (fun h => absurd h (Nat.lt_irrefl _))
      have HAt : Hid (s.data.toList[s.size]? = none) := at_none
      have i4 : ¬ (s.size : Int) < (s.size : Int) := by omega
      have i5 : ((s.size : Int) == (s.size : Int)) = true := beq_self_eq_true _
      clear HTo
      by_cases h6 : 2 < s.size - p
      · have HV : Hid (res10 (s.data.toList.drop p) p = (⟨0, noS10⟩, 0)) := by rw [Hid, res_fig hp hlb.out hfb.out hk1 HSp.out, if_pos h6]
        have d6 : decide ((2 : Int) < (s.size : Int) - (p : Int)) = true := by rw [decide_eq_true]; omega
        go_wp2_with (fail)
        refine bodyPost_ret (by simp [results, Try.results64, go_sem, c0, c1]; try rfl) rfl ?_
        have hr2 := HR.out.trans HV.out
        rw [hr2]
        exact ⟨rfl, (B0.out.setCell (Nat.le_refl _) _).setCell (Nat.le_refl _) _⟩

      have d6 : decide ((2 : Int) < (s.size : Int) - (p : Int)) = false := by rw [decide_eq_false]; omega
      have HV : Hid (res10 (s.data.toList.drop p) p = (⟨2, s.extract p s.size⟩, (s.size : Int))) := by rw [Hid, res_fig hp hlb.out hfb.out hk1 HSp.out, if_neg h6]
      go_wp2_with (fail)
      refine bodyPost_ret (by simp [results, Try.results64, go_sem, c0, c1]; try rfl) rfl ?_
      have hr2 := HR.out.trans HV.out
      rw [hr2]
      exact ⟨rfl, (B0.out.setCell (Nat.le_refl _) _).setCell (Nat.le_refl _) _⟩

set_option maxHeartbeats 6400000 in
set_option maxRecDepth 100000 in
theorem one10_text (s : ByteArray) (p : Nat) (w : World) (hp : p < s.size) (hs : s.size ≤ 1048576) (hlb : Hid (letT s[p].toNat = false)) (hfb : Hid (figT s[p].toNat = false)) (hb : Hid (s[p] = 34)) (r : TokD × Int) (hr : r = res10 (s.data.toList.drop p) p) :
    Calls Try.prog 64 #[.string s, .int .i64 p] w fun e w' => e = .returned (.tuple #[.agg #[.int .i64 r.1.kind, .string r.1.text], .int .i64 r.2]) ∧ Below w.heap.size w w' := by
  have HR : Hid (r = res10 (s.data.toList.drop p) p) := hr
  clear hr
  have hpu := s[p].toNat_lt
  have i1 : (p : Int) < (s.size : Int) := by omega
  have wp1 : IntKind.i64.wrap ((p : Int) + 1) = (p : Int) + 1 := by rw [IntKind.wrap_i64]; omega
  have B0 : Hid (Below w.heap.size w (w.alloc (.cells #[.int .i64 0, .string ⟨#[]⟩] 106))) := (Below.refl _ _).alloc (Nat.le_refl _) _
  have c0 : (w.alloc (.cells #[.int .i64 0, .string ⟨#[]⟩] 106)).cell? ⟨w.heap.size, 0, none⟩ = some (.int .i64 0) := box10 _ _ _ 0 _ rfl
  have c1 : (w.alloc (.cells #[.int .i64 0, .string ⟨#[]⟩] 106)).cell? ⟨w.heap.size, 1, none⟩ = some (.string ⟨#[]⟩) := box10 _ _ _ 1 _ rfl
  have g0 : (w.alloc (.cells #[.int .i64 0, .string ⟨#[]⟩] 106)).frozen? ⟨w.heap.size, 0, none⟩ = false := froz10 _ _ _ 0
  have g1 : (w.alloc (.cells #[.int .i64 0, .string ⟨#[]⟩] 106)).frozen? ⟨w.heap.size, 1, none⟩ = false := froz10 _ _ _ 1
  have HLp : Hid (∀ W, _) := fun W => let10_any s[p].toNat W
  rw [hlb.out] at HLp
  have HFp : Hid (∀ W, _) := fun W => fig10_any s[p].toNat W
  rw [hfb.out] at HFp
  have q34 : ((s[p].toNat : Int) == 34) = true := by rw [hb.out]; rfl
  go_enter Try.func64, Try.ntmps64
  go_wp2_with (first | (go_at_call 82; refine (HLp.out _).mono ?_; rintro e wq ⟨rfl, hw⟩; rw [hw]; clear hw) | (go_at_call 73; refine (HFp.out _).mono ?_; rintro e wq ⟨rfl, hw⟩; rw [hw]; clear hw))
  generalize w.alloc (.cells #[.int .i64 0, .string ⟨#[]⟩] 106) = w0 at *
  go_loopw [7] (fun iv wr => ∃ k : Nat, iv = .int .i64 k ∧ p + 1 ≤ k ∧ k ≤ s.size ∧ (∀ m (hm : m < s.size), p + 1 ≤ m → m < k → inText s[m] = true) ∧ wr = w0) (fun iv _ => s.size - (intOf iv).toNat)
  case atStart => exact ⟨p + 1, by go_num, Nat.le_refl _, by omega, fun m hm h1 h2 => by omega, rfl⟩
  case round =>
    obtain ⟨k, rfl, hk1, hk2, hto, hwr⟩ := hrel
    rw [hwr]
    clear hwr
    have HTo : Hid (∀ m (hm : m < s.size), p + 1 ≤ m → m < k → inText s[m] = true) := hto
    clear hto
    have wkp : IntKind.i64.wrap ((k : Int) - (p : Int)) = (k : Int) - (p : Int) := by rw [IntKind.wrap_i64]; omega
    have j1 : (p : Int) ≤ (k : Int) := by omega
    have j2 : (k : Int) ≤ (s.size : Int) := by omega
    by_cases hlt : k < s.size
    · have hu := s[k].toNat_lt
      have i4 : (k : Int) < (s.size : Int) := by omega
      have i5 : ((k : Int) == (s.size : Int)) = false := by rw [beq_eq_false_iff_ne]; omega
      cases hq : inText s[k] with
      | true =>
        have HNx : Hid (∀ m (hm : m < s.size), p + 1 ≤ m → m < k + 1 → inText s[m] = true) := fun m hm h1 h2 => by
          by_cases e : m = k
          · subst e; exact hq
          · exact HTo.out m hm h1 (by omega)
        unfold inText at hq
        have m34 : ((s[k].toNat : Int) != 34) = true := by rw [Bool.and_eq_true] at hq; simp at hq ⊢; omega
        have m10 : ((s[k].toNat : Int) != 10) = true := by rw [Bool.and_eq_true] at hq; simp at hq ⊢; omega
        clear hq
        go_wp2
        go_roundw
        case rel => exact ⟨k + 1, by go_num, by omega, by omega, HNx.out, by first | trivial | rfl⟩
        case measure => simp [intOf]; omega
      | false =>
        have HSp : Hid (spanN inText (s.data.toList.drop (p + 1)) = k - (p + 1)) := span_of hk1 hk2 HTo.out (fun _ => hq)
        have HAt : Hid (s.data.toList[k]? = some s[k]) := at_some hlt
        unfold inText at hq

        clear HTo
        have wkp1 : IntKind.i64.wrap ((k : Int) - (p : Int) - 1) = (k : Int) - (p : Int) - 1 := by rw [IntKind.wrap_i64]; omega
        have j0 : (0 : Int) ≤ (p : Int) + 1 := by omega
        have j3 : (p : Int) + 1 ≤ (k : Int) := by omega
        by_cases h34 : s[k].toNat = 34
        · have m34 : ((s[k].toNat : Int) != 34) = false := by simp; omega
          have e34 : s.data.toList[k]? = some 34 := HAt.out.trans (congrArg some (u8_is h34 (by decide)))
          have HIn : Hid (∀ W, _) := fun W => in5_any ((k : Int) - (p : Int) - 1) 1 8 W
          by_cases h8 : 1 ≤ k - p - 1 ∧ k - p - 1 ≤ 8
          · rw [show (decide ((1 : Int) ≤ (k : Int) - (p : Int) - 1) && decide ((k : Int) - (p : Int) - 1 ≤ 8)) = true by simp; omega] at HIn
            have HV : Hid (res10 (s.data.toList.drop p) p = (⟨3, s.extract (p + 1) k⟩, ((k + 1 : Nat) : Int))) := by rw [Hid, res_text hp hb.out hk1 HSp.out, if_pos ⟨e34, h8⟩]
            clear h34 e34 h8 HAt
            go_wp2_with ((go_at_call 29; refine (HIn.out _).mono ?_; rintro e wq ⟨rfl, hw⟩; rw [hw]; clear hw))
            refine bodyPost_ret (by simp [results, Try.results64, go_sem, c0, c1]; try rfl) rfl ?_
            have hr2 := HR.out.trans HV.out
            rw [hr2]
            exact ⟨rfl, (B0.out.setCell (Nat.le_refl _) _).setCell (Nat.le_refl _) _⟩

          · rw [show (decide ((1 : Int) ≤ (k : Int) - (p : Int) - 1) && decide ((k : Int) - (p : Int) - 1 ≤ 8)) = false by simp; omega] at HIn
            have HV : Hid (res10 (s.data.toList.drop p) p = (⟨0, noS10⟩, 0)) := by rw [Hid, res_text hp hb.out hk1 HSp.out, if_neg (fun c => h8 c.2)]
            clear h34 e34 h8 HAt
            go_wp2_with ((go_at_call 29; refine (HIn.out _).mono ?_; rintro e wq ⟨rfl, hw⟩; rw [hw]; clear hw))
            refine bodyPost_ret (by simp [results, Try.results64, go_sem, c0, c1]; try rfl) rfl ?_
            have hr2 := HR.out.trans HV.out
            rw [hr2]
            exact ⟨rfl, (B0.out.setCell (Nat.le_refl _) _).setCell (Nat.le_refl _) _⟩

        · have m34 : ((s[k].toNat : Int) != 34) = true := by simp; omega
          have m10 : ((s[k].toNat : Int) != 10) = false := by
            rw [Bool.and_eq_false_iff] at hq
            simp at hq ⊢
            omega
          have HV : Hid (res10 (s.data.toList.drop p) p = (⟨0, noS10⟩, 0)) := by rw [Hid, res_text hp hb.out hk1 HSp.out, if_neg (fun c => u8_isnt h34 (by decide) (Option.some.inj (HAt.out.symm.trans c.1)))]
          clear h34 HAt hq
          go_wp2
          refine bodyPost_ret (by simp [results, Try.results64, go_sem, c0, c1]; try rfl) rfl ?_
          have hr2 := HR.out.trans HV.out
          rw [hr2]
          exact ⟨rfl, (B0.out.setCell (Nat.le_refl _) _).setCell (Nat.le_refl _) _⟩

    · obtain rfl : k = s.size := by omega
      have HSp : Hid (spanN inText (s.data.toList.drop (p + 1)) = s.size - (p + 1)) := span_of hk1 hk2 HTo.out (fun h => absurd h (Nat.lt_irrefl _))
      have HAt : Hid (s.data.toList[s.size]? = none) := at_none
      have i4 : ¬ (s.size : Int) < (s.size : Int) := by omega
      have i5 : ((s.size : Int) == (s.size : Int)) = true := beq_self_eq_true _
      clear HTo
      have HV : Hid (res10 (s.data.toList.drop p) p = (⟨0, noS10⟩, 0)) := by rw [Hid, res_text hp hb.out hk1 HSp.out, if_neg (fun c => by rw [HAt.out] at c; cases c.1)]
      go_wp2
      refine bodyPost_ret (by simp [results, Try.results64, go_sem, c0, c1]; try rfl) rfl ?_
      have hr2 := HR.out.trans HV.out
      rw [hr2]
      exact ⟨rfl, (B0.out.setCell (Nat.le_refl _) _).setCell (Nat.le_refl _) _⟩

end Go.Proofs.Ytipkbkhnaekceaa
