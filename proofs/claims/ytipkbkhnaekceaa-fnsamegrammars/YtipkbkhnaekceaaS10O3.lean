/- The specification's l10One: sets, arrows (printed by mk/s10o.py). -/
import Derived.Test.YtipkbkhnaekceaaS10O
namespace Go.Proofs.Ytipkbkhnaekceaa
open Go.RowKit
set_option linter.unusedVariables false

set_option maxHeartbeats 6400000 in
set_option maxRecDepth 100000 in
theorem one10_set (s : ByteArray) (p : Nat) (w : World) (hp : p < s.size) (hs : s.size ≤ 1048576) (hlb : Hid (letT s[p].toNat = false)) (hfb : Hid (figT s[p].toNat = false)) (hb : Hid (s[p] = 91)) (r : TokD × Int) (hr : r = res10 (s.data.toList.drop p) p) :
    Calls Try.prog 64 #[.string s, .int .i64 p] w fun e w' => e = .returned (.tuple #[.agg #[.int .i64 r.1.kind, .string r.1.text], .int .i64 r.2]) ∧ Below w.heap.size w w' := by
  have HR : Hid (r = res10 (s.data.toList.drop p) p) := hr
  clear hr
  have hpu := s[p].toNat_lt
  have i1 : (p : Int) < (s.size : Int) := by omega
  have wp1 : IntKind.i64.wrap ((p : Int) + 1) = (p : Int) + 1 := by rw [IntKind.wrap_i64]; omega
  have B0 : Hid (Below w.heap.size w (w.alloc (.cells #[.int .i64 0, .string ⟨#[]⟩] 106))) := (Below.refl _ _).alloc (Nat.le_refl _) _
  have c0 : (w.alloc (.cells #[.int .i64 0, .string ⟨#[]⟩] 106)).cell? ⟨w.heap.size, 0, none⟩ = some (.int .i64 0) := box10 _ _ _ 0 _ rfl
  have c1 : (w.alloc (.cells #[.int .i64 0, .string ⟨#[]⟩] 106)).cell? ⟨w.heap.size, 1, none⟩ = some (.string ⟨#[]⟩) := box10 _ _ _ 1 _ rfl
  have g0 : (w.alloc (.cells #[.int .i64 0, .string ⟨#[]⟩] 106)).frozen? ⟨w.heap.size, 0, none⟩ = false := froz10 _ _ _ 0
  have g1 : (w.alloc (.cells #[.int .i64 0, .string ⟨#[]⟩] 106)).frozen? ⟨w.heap.size, 1, none⟩ = false := froz10 _ _ _ 1
  have HLp : Hid (∀ W, _) := fun W => let10_any s[p].toNat W
  rw [hlb.out] at HLp
  have HFp : Hid (∀ W, _) := fun W => fig10_any s[p].toNat W
  rw [hfb.out] at HFp
  have q34 : ((s[p].toNat : Int) == 34) = false := by rw [hb.out]; rfl
  have q91 : ((s[p].toNat : Int) == 91) = true := by rw [hb.out]; rfl
  go_enter Try.func64, Try.ntmps64
  go_wp2_with (first | (go_at_call 82; refine (HLp.out _).mono ?_; rintro e wq ⟨rfl, hw⟩; rw [hw]; clear hw) | (go_at_call 73; refine (HFp.out _).mono ?_; rintro e wq ⟨rfl, hw⟩; rw [hw]; clear hw))
  generalize w.alloc (.cells #[.int .i64 0, .string ⟨#[]⟩] 106) = w0 at *
  go_loopw [7] (fun iv wr => ∃ k : Nat, iv = .int .i64 k ∧ p + 1 ≤ k ∧ k ≤ s.size ∧ (∀ m (hm : m < s.size), p + 1 ≤ m → m < k → inSetB s[m] = true) ∧ wr = w0) (fun iv _ => s.size - (intOf iv).toNat)
  case atStart => exact ⟨p + 1, by go_num, Nat.le_refl _, by omega, fun m hm h1 h2 => by omega, rfl⟩
  case round =>
    obtain ⟨k, rfl, hk1, hk2, hto, hwr⟩ := hrel
    rw [hwr]
    clear hwr
    have HTo : Hid (∀ m (hm : m < s.size), p + 1 ≤ m → m < k → inSetB s[m] = true) := hto
    clear hto
    have wkp : IntKind.i64.wrap ((k : Int) - (p : Int)) = (k : Int) - (p : Int) := by rw [IntKind.wrap_i64]; omega
    have j1 : (p : Int) ≤ (k : Int) := by omega
    have j2 : (k : Int) ≤ (s.size : Int) := by omega
    by_cases hlt : k < s.size
    · have hu := s[k].toNat_lt
      have i4 : (k : Int) < (s.size : Int) := by omega
      have i5 : ((k : Int) == (s.size : Int)) = false := by rw [beq_eq_false_iff_ne]; omega
      cases hq : inSetB s[k] with
      | true =>
        have HNx : Hid (∀ m (hm : m < s.size), p + 1 ≤ m → m < k + 1 → inSetB s[m] = true) := fun m hm h1 h2 => by
          by_cases e : m = k
          · subst e; exact hq
          · exact HTo.out m hm h1 (by omega)
        unfold inSetB at hq
        have m93 : ((s[k].toNat : Int) != 93) = true := by simp at hq ⊢; omega
        clear hq
        go_wp2
        go_roundw
        case rel => exact ⟨k + 1, by go_num, by omega, by omega, HNx.out, by first | trivial | rfl⟩
        case measure => simp [intOf]; omega
      | false =>
        have HSp : Hid (spanN inSetB (s.data.toList.drop (p + 1)) = k - (p + 1)) := span_of hk1 hk2 HTo.out (fun _ => hq)
        have HAt : Hid (s.data.toList[k]? = some s[k]) := at_some hlt
        unfold inSetB at hq

        clear HTo
        have m93 : ((s[k].toNat : Int) != 93) = false := by simp at hq ⊢; omega
        have j0 : (0 : Int) ≤ (p : Int) + 1 := by omega
        have j3 : (p : Int) + 1 ≤ (k : Int) := by omega
        have HSo : Hid (∀ W, _) := fun W => specSetOk_any (s.extract (p + 1) k) W (by rw [ByteArray.size_extract]; omega)
        have HRs := res_set hp hb.out hk1 hk2 HSp.out
        clear hq HAt
        cases hok : okL (s.extract (p + 1) k).data.toList with
        | true =>
          have HV : Hid (res10 (s.data.toList.drop p) p = (⟨4, s.extract (p + 1) k⟩, ((k + 1 : Nat) : Int))) := by rw [Hid, HRs, if_pos ⟨hlt, hok⟩]
          rw [hok] at HSo
          clear hok HRs
          go_wp2_with (go_at_call 60; refine (HSo.out _).mono ?_; rintro e w1 ⟨rfl, hb1⟩; have c0' := kept10 c0 hb1; have c1' := kept10 c1 hb1; have g0' := frozk10 c0 g0 hb1; have g1' := frozk10 c1 g1 hb1)
          have B1 : Hid (Below w.heap.size w w1) := B0.out.trans (hb1.mono B0.out.size)
          (try go_wp2)
          refine bodyPost_ret (by simp [results, Try.results64, go_sem, c0', c1']; try rfl) rfl ?_
          have hr2 := HR.out.trans HV.out
          rw [hr2]
          exact ⟨rfl, (B1.out.setCell (Nat.le_refl _) _).setCell (Nat.le_refl _) _⟩

        | false =>
          have HV : Hid (res10 (s.data.toList.drop p) p = (⟨0, noS10⟩, 0)) := by rw [Hid, HRs, if_neg (fun c => by rw [hok] at c; cases c.2)]
          rw [hok] at HSo
          clear hok HRs
          go_wp2_with (go_at_call 60; refine (HSo.out _).mono ?_; rintro e w1 ⟨rfl, hb1⟩; have c0' := kept10 c0 hb1; have c1' := kept10 c1 hb1; have g0' := frozk10 c0 g0 hb1; have g1' := frozk10 c1 g1 hb1)
          have B1 : Hid (Below w.heap.size w w1) := B0.out.trans (hb1.mono B0.out.size)
          (try go_wp2)
          refine bodyPost_ret (by simp [results, Try.results64, go_sem, c0', c1']; try rfl) rfl ?_
          have hr2 := HR.out.trans HV.out
          rw [hr2]
          exact ⟨rfl, (B1.out.setCell (Nat.le_refl _) _).setCell (Nat.le_refl _) _⟩

    · obtain rfl : k = s.size := by omega
      have HSp : Hid (spanN inSetB (s.data.toList.drop (p + 1)) = s.size - (p + 1)) := span_of hk1 hk2 HTo.out (fun h => absurd h (Nat.lt_irrefl _))
      have HAt : Hid (s.data.toList[s.size]? = none) := at_none
      have i4 : ¬ (s.size : Int) < (s.size : Int) := by omega
      have i5 : ((s.size : Int) == (s.size : Int)) = true := beq_self_eq_true _
      clear HTo
      have HV : Hid (res10 (s.data.toList.drop p) p = (⟨0, noS10⟩, 0)) := by rw [Hid, res_set hp hb.out hk1 hk2 HSp.out, if_neg (fun c => Nat.lt_irrefl _ c.1)]
      go_wp2
      refine bodyPost_ret (by simp [results, Try.results64, go_sem, c0, c1]; try rfl) rfl ?_
      have hr2 := HR.out.trans HV.out
      rw [hr2]
      exact ⟨rfl, (B0.out.setCell (Nat.le_refl _) _).setCell (Nat.le_refl _) _⟩

set_option maxHeartbeats 6400000 in
set_option maxRecDepth 100000 in
theorem one10_arrow (s : ByteArray) (p : Nat) (w : World) (hp : p < s.size) (hs : s.size ≤ 1048576) (hlb : Hid (letT s[p].toNat = false)) (hfb : Hid (figT s[p].toNat = false)) (hb : Hid (s[p] = 45)) (hp1 : p + 1 < s.size) (hb2 : Hid (s[p + 1] = 62)) (r : TokD × Int) (hr : r = res10 (s.data.toList.drop p) p) :
    Calls Try.prog 64 #[.string s, .int .i64 p] w fun e w' => e = .returned (.tuple #[.agg #[.int .i64 r.1.kind, .string r.1.text], .int .i64 r.2]) ∧ Below w.heap.size w w' := by
  have HR : Hid (r = res10 (s.data.toList.drop p) p) := hr
  clear hr
  have hpu := s[p].toNat_lt
  have i1 : (p : Int) < (s.size : Int) := by omega
  have wp1 : IntKind.i64.wrap ((p : Int) + 1) = (p : Int) + 1 := by rw [IntKind.wrap_i64]; omega
  have B0 : Hid (Below w.heap.size w (w.alloc (.cells #[.int .i64 0, .string ⟨#[]⟩] 106))) := (Below.refl _ _).alloc (Nat.le_refl _) _
  have c0 : (w.alloc (.cells #[.int .i64 0, .string ⟨#[]⟩] 106)).cell? ⟨w.heap.size, 0, none⟩ = some (.int .i64 0) := box10 _ _ _ 0 _ rfl
  have c1 : (w.alloc (.cells #[.int .i64 0, .string ⟨#[]⟩] 106)).cell? ⟨w.heap.size, 1, none⟩ = some (.string ⟨#[]⟩) := box10 _ _ _ 1 _ rfl
  have g0 : (w.alloc (.cells #[.int .i64 0, .string ⟨#[]⟩] 106)).frozen? ⟨w.heap.size, 0, none⟩ = false := froz10 _ _ _ 0
  have g1 : (w.alloc (.cells #[.int .i64 0, .string ⟨#[]⟩] 106)).frozen? ⟨w.heap.size, 1, none⟩ = false := froz10 _ _ _ 1
  have HLp : Hid (∀ W, _) := fun W => let10_any s[p].toNat W
  rw [hlb.out] at HLp
  have HFp : Hid (∀ W, _) := fun W => fig10_any s[p].toNat W
  rw [hfb.out] at HFp
  have q34 : ((s[p].toNat : Int) == 34) = false := by rw [hb.out]; rfl
  have q91 : ((s[p].toNat : Int) == 91) = false := by rw [hb.out]; rfl
  have q45 : ((s[p].toNat : Int) == 45) = true := by rw [hb.out]; rfl
  have q62 : ((s[p + 1].toNat : Int) == 62) = true := by rw [hb2.out]; rfl
  have i2 : (p : Int) + 1 < (s.size : Int) := by omega
  have wp2 : IntKind.i64.wrap ((p : Int) + 2) = (p : Int) + 2 := by rw [IntKind.wrap_i64]; omega
  have HV : Hid (res10 (s.data.toList.drop p) p = (⟨5, ⟨#[45, 62]⟩⟩, ((p + 2 : Nat) : Int))) := res_arrow hp1 hb.out hb2.out
  go_enter Try.func64, Try.ntmps64
  go_wp2_with (first | (go_at_call 82; refine (HLp.out _).mono ?_; rintro e wq ⟨rfl, hw⟩; rw [hw]; clear hw) | (go_at_call 73; refine (HFp.out _).mono ?_; rintro e wq ⟨rfl, hw⟩; rw [hw]; clear hw))
  refine bodyPost_ret (by simp [results, Try.results64, go_sem]; try rfl) rfl ?_
  have hr2 := HR.out.trans HV.out
  rw [hr2]
  exact ⟨rfl, (Below.refl _ _).alloc (Nat.le_refl _) _⟩

end Go.Proofs.Ytipkbkhnaekceaa
