/- The specification's l10One (printed by mk/s10o.py). -/
import Derived.Test.YtoldlbefddhhbaaS10R
namespace Go.Proofs.Ytoldlbefddhhbaa
open Go.RowKit
set_option linter.unusedVariables false

theorem box10 (w : World) (vs : Array Value) (t : TypeId) (j : Nat) (u : Value) (h : vs[j]? = some u) : (w.alloc (.cells vs t)).cell? ⟨w.heap.size, j, none⟩ = some u := by
  have hb : (w.alloc (.cells vs t)).heap[w.heap.size]? = some (.cells vs t) := heap_alloc_new w _
  rw [cell_of_row _ _ j _ _ _ hb]
  exact h
theorem froz10 (w : World) (vs : Array Value) (t : TypeId) (j : Nat) : (w.alloc (.cells vs t)).frozen? ⟨w.heap.size, j, none⟩ = false := by
  unfold World.frozen?
  rw [show (w.alloc (.cells vs t)).heap[w.heap.size]? = some (.cells vs t) from heap_alloc_new w _]
  rfl
theorem kept10 {W W' : World} {a : Addr} {v : Value} (h : W.cell? a = some v) (hb : Below W.heap.size W W') : W'.cell? a = some v :=
  (World.cell?_of_block (hb.block a.block (World.block_lt_of_cell? W a h))).trans h
theorem frozk10 {W W' : World} {a : Addr} {v : Value} (hc : W.cell? a = some v) (h : W.frozen? a = false) (hb : Below W.heap.size W W') : W'.frozen? a = false := by
  unfold World.frozen? at h ⊢
  rw [hb.block a.block (World.block_lt_of_cell? W a hc)]
  exact h
theorem u8_is {b c : UInt8} {n : Nat} (h : b.toNat = n) (hc : c.toNat = n) : b = c := UInt8.toNat_inj.1 (h.trans hc.symm)
theorem u8_isnt {b c : UInt8} {n : Nat} (h : ¬ b.toNat = n) (hc : c.toNat = n) : ¬ b = c := fun e => h (by rw [e]; exact hc)

set_option maxHeartbeats 6400000 in
set_option maxRecDepth 100000 in
theorem one10_word (s : ByteArray) (p : Nat) (w : World) (hp : p < s.size) (hs : s.size ≤ 1048576) (hlb : letT s[p].toNat = true) (r : TokD × Int) (hr : r = res10 (s.data.toList.drop p) p) :
    Calls Try.prog 12 #[.string s, .int .i64 p] w fun e w' => e = .returned (.tuple #[.agg #[.int .i64 r.1.kind, .string r.1.text], .int .i64 r.2]) ∧ Below w.heap.size w w' := by
  have HR : Hid (r = res10 (s.data.toList.drop p) p) := hr
  clear hr
  have hpu := s[p].toNat_lt
  have i1 : (p : Int) < (s.size : Int) := by omega
  have wp1 : IntKind.i64.wrap ((p : Int) + 1) = (p : Int) + 1 := by rw [IntKind.wrap_i64]; omega
  have B0 : Hid (Below w.heap.size w (w.alloc (.cells #[.int .i64 0, .string ⟨#[]⟩] 32))) := (Below.refl _ _).alloc (Nat.le_refl _) _
  have c0 : (w.alloc (.cells #[.int .i64 0, .string ⟨#[]⟩] 32)).cell? ⟨w.heap.size, 0, none⟩ = some (.int .i64 0) := box10 _ _ _ 0 _ rfl
  have c1 : (w.alloc (.cells #[.int .i64 0, .string ⟨#[]⟩] 32)).cell? ⟨w.heap.size, 1, none⟩ = some (.string ⟨#[]⟩) := box10 _ _ _ 1 _ rfl
  have g0 : (w.alloc (.cells #[.int .i64 0, .string ⟨#[]⟩] 32)).frozen? ⟨w.heap.size, 0, none⟩ = false := froz10 _ _ _ 0
  have g1 : (w.alloc (.cells #[.int .i64 0, .string ⟨#[]⟩] 32)).frozen? ⟨w.heap.size, 1, none⟩ = false := froz10 _ _ _ 1
  have HLp : Hid (∀ W, _) := fun W => let10_any s[p].toNat W
  rw [hlb] at HLp
  go_enter Try.func12, Try.ntmps12
  go_wp2_with (go_at_call 23; refine (HLp.out _).mono ?_; rintro e wq ⟨rfl, hw⟩; rw [hw]; clear hw)
  generalize w.alloc (.cells #[.int .i64 0, .string ⟨#[]⟩] 32) = w0 at *
  go_loopw [7] (fun iv wr => ∃ k : Nat, iv = .int .i64 k ∧ p + 1 ≤ k ∧ k ≤ s.size ∧ (∀ m (hm : m < s.size), p + 1 ≤ m → m < k → wordT s[m] = true) ∧ wr = w0) (fun iv _ => s.size - (intOf iv).toNat)
  case atStart => exact ⟨p + 1, by go_num, Nat.le_refl _, by omega, fun m hm h1 h2 => by omega, rfl⟩
  case round =>
    obtain ⟨k, rfl, hk1, hk2, hto, hwr⟩ := hrel
    rw [hwr]
    clear hwr
    have HTo : Hid (∀ m (hm : m < s.size), p + 1 ≤ m → m < k → wordT s[m] = true) := hto
    clear hto
    have wkp : IntKind.i64.wrap ((k : Int) - (p : Int)) = (k : Int) - (p : Int) := by rw [IntKind.wrap_i64]; omega
    have j1 : (p : Int) ≤ (k : Int) := by omega
    have j2 : (k : Int) ≤ (s.size : Int) := by omega
    by_cases hlt : k < s.size
    · have hu := s[k].toNat_lt
      have i4 : (k : Int) < (s.size : Int) := by omega
      have i5 : ((k : Int) == (s.size : Int)) = false := by rw [beq_eq_false_iff_ne]; omega
      cases hq : wordT s[k] with
      | true =>
        have HNx : Hid (∀ m (hm : m < s.size), p + 1 ≤ m → m < k + 1 → wordT s[m] = true) := fun m hm h1 h2 => by
          by_cases e : m = k
          · subst e; exact hq
          · exact HTo.out m hm h1 (by omega)
        unfold wordT at hq
        have HLk : Hid (∀ W, _) := fun W => let10_any s[k].toNat W
        have HFk : Hid (∀ W, _) := fun W => fig10_any s[k].toNat W
        cases hl2 : letT s[k].toNat with
        | true =>
          rw [hl2] at HLk
          clear hq
          go_wp2_with (go_at_call 23; refine (HLk.out _).mono ?_; rintro e wq ⟨rfl, hw⟩; rw [hw]; clear hw)
          go_roundw
          case rel => exact ⟨k + 1, by go_num, by omega, by omega, HNx.out, by first | trivial | rfl⟩
          case measure => simp [intOf]; omega
        | false =>
          rw [hl2, Bool.false_or] at hq
          rw [hl2] at HLk
          rw [hq] at HFk
          clear hq
          go_wp2_with (first | (go_at_call 23; refine (HLk.out _).mono ?_; rintro e wq ⟨rfl, hw⟩; rw [hw]; clear hw) | (go_at_call 24; refine (HFk.out _).mono ?_; rintro e wq ⟨rfl, hw⟩; rw [hw]; clear hw))
          go_roundw
          case rel => exact ⟨k + 1, by go_num, by omega, by omega, HNx.out, by first | trivial | rfl⟩
          case measure => simp [intOf]; omega
      | false =>
        have HSp : Hid (spanN wordT (s.data.toList.drop (p + 1)) = k - (p + 1)) := span_of hk1 hk2 HTo.out (fun _ => hq)
        have HAt : Hid (s.data.toList[k]? = some s[k]) := at_some hlt
        unfold wordT at hq
        have HLk : Hid (∀ W, _) := fun W => let10_any s[k].toNat W
        have HFk : Hid (∀ W, _) := fun W => fig10_any s[k].toNat W
        rw [Bool.or_eq_false_iff] at hq
        rw [hq.1] at HLk
        rw [hq.2] at HFk
        clear hq HTo
        by_cases h6 : 6 < k - p
        · have HV : Hid (res10 (s.data.toList.drop p) p = (⟨0, noS10⟩, 0)) := by rw [Hid, res_word hp hlb hk1 HSp.out, if_pos h6]
          have d6 : decide ((6 : Int) < (k : Int) - (p : Int)) = true := by rw [decide_eq_true]; omega
          go_wp2_with (first | (go_at_call 23; refine (HLk.out _).mono ?_; rintro e wq ⟨rfl, hw⟩; rw [hw]; clear hw) | (go_at_call 24; refine (HFk.out _).mono ?_; rintro e wq ⟨rfl, hw⟩; rw [hw]; clear hw))
          refine bodyPost_ret (by simp [results, Try.results12, go_sem, c0, c1]; try rfl) rfl ?_
          have hr2 := HR.out.trans HV.out
          rw [hr2]
          exact ⟨rfl, (B0.out.setCell (Nat.le_refl _) _).setCell (Nat.le_refl _) _⟩

        have d6 : decide ((6 : Int) < (k : Int) - (p : Int)) = false := by rw [decide_eq_false]; omega
        by_cases h40 : s[k].toNat = 40
        · have q40 : ((s[k].toNat : Int) == 40) = true := by rw [beq_iff_eq]; omega
          have HV : Hid (res10 (s.data.toList.drop p) p = (⟨6, s.extract p k⟩, ((k + 1 : Nat) : Int))) := by rw [Hid, res_word hp hlb hk1 HSp.out, if_neg h6, if_pos (HAt.out.trans (congrArg some (u8_is h40 (by decide))))]
          clear h40
          go_wp2_with (first | (go_at_call 23; refine (HLk.out _).mono ?_; rintro e wq ⟨rfl, hw⟩; rw [hw]; clear hw) | (go_at_call 24; refine (HFk.out _).mono ?_; rintro e wq ⟨rfl, hw⟩; rw [hw]; clear hw))
          refine bodyPost_ret (by simp [results, Try.results12, go_sem, c0, c1]; try rfl) rfl ?_
          have hr2 := HR.out.trans HV.out
          rw [hr2]
          exact ⟨by first | rfl | (simp; try omega), (B0.out.setCell (Nat.le_refl _) _).setCell (Nat.le_refl _) _⟩

        · have q40 : ((s[k].toNat : Int) == 40) = false := by rw [beq_eq_false_iff_ne]; omega
          have HV : Hid (res10 (s.data.toList.drop p) p = (⟨1, s.extract p k⟩, (k : Int))) := by rw [Hid, res_word hp hlb hk1 HSp.out, if_neg h6, if_neg (fun c => u8_isnt h40 (by decide) (Option.some.inj (HAt.out.symm.trans c)))]
          clear h40
          go_wp2_with (first | (go_at_call 23; refine (HLk.out _).mono ?_; rintro e wq ⟨rfl, hw⟩; rw [hw]; clear hw) | (go_at_call 24; refine (HFk.out _).mono ?_; rintro e wq ⟨rfl, hw⟩; rw [hw]; clear hw))
          refine bodyPost_ret (by simp [results, Try.results12, go_sem, c0, c1]; try rfl) rfl ?_
          have hr2 := HR.out.trans HV.out
          rw [hr2]
          exact ⟨rfl, (B0.out.setCell (Nat.le_refl _) _).setCell (Nat.le_refl _) _⟩

    · obtain rfl : k = s.size := by omega
      have HSp : Hid (spanN wordT (s.data.toList.drop (p + 1)) = s.size - (p + 1)) := span_of hk1 hk2 HTo.out (fun h => absurd h (Nat.lt_irrefl _))
      have HAt : Hid (s.data.toList[s.size]? = none) := at_none
      have i4 : ¬ (s.size : Int) < (s.size : Int) := by omega
      have i5 : ((s.size : Int) == (s.size : Int)) = true := beq_self_eq_true _
      clear HTo
      by_cases h6 : 6 < s.size - p
      · have HV : Hid (res10 (s.data.toList.drop p) p = (⟨0, noS10⟩, 0)) := by rw [Hid, res_word hp hlb hk1 HSp.out, if_pos h6]
        have d6 : decide ((6 : Int) < (s.size : Int) - (p : Int)) = true := by rw [decide_eq_true]; omega
        go_wp2_with (fail)
        refine bodyPost_ret (by simp [results, Try.results12, go_sem, c0, c1]; try rfl) rfl ?_
        have hr2 := HR.out.trans HV.out
        rw [hr2]
        exact ⟨rfl, (B0.out.setCell (Nat.le_refl _) _).setCell (Nat.le_refl _) _⟩

      have d6 : decide ((6 : Int) < (s.size : Int) - (p : Int)) = false := by rw [decide_eq_false]; omega
      have HV : Hid (res10 (s.data.toList.drop p) p = (⟨1, s.extract p s.size⟩, (s.size : Int))) := by rw [Hid, res_word hp hlb hk1 HSp.out, if_neg h6, if_neg (by rw [HAt.out]; exact fun c => by cases c)]
      go_wp2_with (fail)
      refine bodyPost_ret (by simp [results, Try.results12, go_sem, c0, c1]; try rfl) rfl ?_
      have hr2 := HR.out.trans HV.out
      rw [hr2]
      exact ⟨rfl, (B0.out.setCell (Nat.le_refl _) _).setCell (Nat.le_refl _) _⟩


end Go.Proofs.Ytoldlbefddhhbaa
