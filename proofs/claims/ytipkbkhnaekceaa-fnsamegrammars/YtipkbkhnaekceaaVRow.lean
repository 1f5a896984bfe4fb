/- The specification's l10One: signs (printed by mk/s10o.py). -/
/- The specification's l10One, whole (printed by mk/s10o.py). -/
/- Lists of names with numbers, as they lie in memory. -/
import Derived.Test.YtipkbkhnaekceaaS10O
import Derived.Test.YtipkbkhnaekceaaS10O2
import Derived.Test.YtipkbkhnaekceaaS10O3
import Derived.Test.YtipkbkhnaekceaaRows
import Derived.Test.YtipkbkhnaekceaaDecPure
import Derived.Deep.RegionHeld3
import Derived.Deep.AppendLies
namespace Go.Proofs.Ytipkbkhnaekceaa
open Go.RowKit
set_option linter.unusedVariables false

set_option maxHeartbeats 6400000 in
set_option maxRecDepth 100000 in
theorem one10_s1 (s : ByteArray) (p : Nat) (w : World) (hp : p < s.size) (hs : s.size ≤ 1048576) (hlb : Hid (letT s[p].toNat = false)) (hfb : Hid (figT s[p].toNat = false)) (h34 : Hid (¬ s[p] = 34)) (h91 : Hid (¬ s[p] = 91)) (h45 : Hid (¬ (s[p] = 45 ∧ s.data.toList[p + 1]? = some 62))) (hn : Hid (¬ s[p] = 45)) (r : TokD × Int) (hr : r = res10 (s.data.toList.drop p) p) :
    Calls Try.prog 64 #[.string s, .int .i64 p] w fun e w' => e = .returned (.tuple #[.agg #[.int .i64 r.1.kind, .string r.1.text], .int .i64 r.2]) ∧ Below w.heap.size w w' := by
  have HR : Hid (r = res10 (s.data.toList.drop p) p) := hr
  clear hr
  have hpu := s[p].toNat_lt
  have i1 : (p : Int) < (s.size : Int) := by omega
  have wp1 : IntKind.i64.wrap ((p : Int) + 1) = (p : Int) + 1 := by rw [IntKind.wrap_i64]; omega
  have B0 : Hid (Below w.heap.size w (w.alloc (.cells #[.int .i64 0, .string ⟨#[]⟩] 106))) := (Below.refl _ _).alloc (Nat.le_refl _) _
  have c0 : (w.alloc (.cells #[.int .i64 0, .string ⟨#[]⟩] 106)).cell? ⟨w.heap.size, 0, none⟩ = some (.int .i64 0) := box10 _ _ _ 0 _ rfl
  have c1 : (w.alloc (.cells #[.int .i64 0, .string ⟨#[]⟩] 106)).cell? ⟨w.heap.size, 1, none⟩ = some (.string ⟨#[]⟩) := box10 _ _ _ 1 _ rfl
  have g0 : (w.alloc (.cells #[.int .i64 0, .string ⟨#[]⟩] 106)).frozen? ⟨w.heap.size, 0, none⟩ = false := froz10 _ _ _ 0
  have g1 : (w.alloc (.cells #[.int .i64 0, .string ⟨#[]⟩] 106)).frozen? ⟨w.heap.size, 1, none⟩ = false := froz10 _ _ _ 1
  have HLp : Hid (∀ W, _) := fun W => let10_any s[p].toNat W
  rw [hlb.out] at HLp
  have HFp : Hid (∀ W, _) := fun W => fig10_any s[p].toNat W
  rw [hfb.out] at HFp
  have q34 : ((s[p].toNat : Int) == 34) = false := by rw [beq_eq_false_iff_ne]; exact fun c => h34.out (u8_is (n := 34) (by omega) (by decide))
  have q91 : ((s[p].toNat : Int) == 91) = false := by rw [beq_eq_false_iff_ne]; exact fun c => h91.out (u8_is (n := 91) (by omega) (by decide))
  have HRs : Hid (res10 (s.data.toList.drop p) p = if signsL.contains s[p] = true then (⟨5, s.extract p (p + 1)⟩, ((p + 1 : Nat) : Int)) else (⟨0, noS10⟩, 0)) := res_sign hp hlb.out hfb.out h34.out h91.out h45.out
  have j1 : (p : Int) ≤ (p : Int) + 1 := by omega
  have j2 : (p : Int) + 1 ≤ (s.size : Int) := by omega
  have q45 : ((s[p].toNat : Int) == 45) = false := by rw [beq_eq_false_iff_ne]; exact fun c => hn.out (u8_is (n := 45) (by omega) (by decide))
  go_enter Try.func64, Try.ntmps64
  go_wp2_with (first | (go_at_call 82; refine (HLp.out _).mono ?_; rintro e wq ⟨rfl, hw⟩; rw [hw]; clear hw) | (go_at_call 73; refine (HFp.out _).mono ?_; rintro e wq ⟨rfl, hw⟩; rw [hw]; clear hw))
  generalize w.alloc (.cells #[.int .i64 0, .string ⟨#[]⟩] 106) = w0 at *
  obtain ⟨sg, hsg⟩ : ∃ sg : ByteArray, sg = ⟨#[40, 41, 123, 125, 124, 42, 43, 63, 58, 44, 59, 61, 64, 45, 47, 60, 38, 33]⟩ := ⟨_, rfl⟩
  have HSl : Hid (sg.data.toList = signsL) := by rw [Hid, hsg]; rfl
  have hss : sg.size = 18 := by rw [hsg]; rfl
  rw [← hsg]
  have hss1 : (sg.size : Int) ≤ 18 := by omega
  have HSg : Hid (sg.size = 18) := hss
  clear hsg hss
  go_loopw [9] (fun iv wr => ∃ k : Nat, iv = .int .i64 k ∧ k ≤ sg.size ∧ (∀ m (hm : m < sg.size), m < k → ¬ sg[m] = s[p]) ∧ wr = w0) (fun iv _ => sg.size - (intOf iv).toNat)
  case atStart => exact ⟨0, rfl, Nat.zero_le _, fun m hm h => by omega, rfl⟩
  case round =>
    obtain ⟨k, rfl, hk, hto, hwr⟩ := hrel
    rw [hwr]
    clear hwr
    have HTo : Hid (∀ m (hm : m < sg.size), m < k → ¬ sg[m] = s[p]) := hto
    clear hto
    by_cases hlt : k < sg.size
    · have hu := sg[k].toNat_lt
      have i4 : (k : Int) < (sg.size : Int) := by omega
      by_cases hq : sg[k].toNat = s[p].toNat
      · have HV : Hid (res10 (s.data.toList.drop p) p = (⟨5, s.extract p (p + 1)⟩, ((p + 1 : Nat) : Int))) := by
          rw [Hid, HRs.out, if_pos]
          rw [List.contains_iff_mem, ← HSl.out, ← UInt8.toNat_inj.1 hq]
          exact List.getElem_mem (by rw [toList_size]; exact hlt)
        have q5 : ((sg[k].toNat : Int) == (s[p].toNat : Int)) = true := by rw [beq_iff_eq]; omega
        clear hq
        go_wp2
        refine bodyPost_ret (by simp [results, Try.results64, go_sem, c0, c1]; try rfl) rfl ?_
        have hr2 := HR.out.trans HV.out
        rw [hr2]
        exact ⟨rfl, (B0.out.setCell (Nat.le_refl _) _).setCell (Nat.le_refl _) _⟩

      · have q5 : ((sg[k].toNat : Int) == (s[p].toNat : Int)) = false := by rw [beq_eq_false_iff_ne]; omega
        have HNx : Hid (∀ m (hm : m < sg.size), m < k + 1 → ¬ sg[m] = s[p]) := fun m hm h2 => by
          by_cases e : m = k
          · subst e; exact fun c => hq (by rw [c])
          · exact HTo.out m hm (by omega)
        clear hq
        go_wp2
        go_roundw
        case rel => exact ⟨k + 1, by go_num, by omega, HNx.out, by first | trivial | rfl⟩
        case measure => simp [intOf]; omega
    · have HV : Hid (res10 (s.data.toList.drop p) p = (⟨0, noS10⟩, 0)) := by
        rw [Hid, HRs.out, if_neg]
        rw [List.contains_iff_mem, ← HSl.out]
        intro c
        obtain ⟨m, hm, e⟩ := List.getElem_of_mem c
        rw [toList_size] at hm
        exact HTo.out m hm (by omega) e
      have i4 : ¬ (k : Int) < (sg.size : Int) := by omega
      go_wp2
      refine bodyPost_ret (by simp [results, Try.results64, go_sem, c0, c1]; try rfl) rfl ?_
      have hr2 := HR.out.trans HV.out
      rw [hr2]
      exact ⟨rfl, (B0.out.setCell (Nat.le_refl _) _).setCell (Nat.le_refl _) _⟩

set_option maxHeartbeats 6400000 in
set_option maxRecDepth 100000 in
theorem one10_s2 (s : ByteArray) (p : Nat) (w : World) (hp : p < s.size) (hs : s.size ≤ 1048576) (hlb : Hid (letT s[p].toNat = false)) (hfb : Hid (figT s[p].toNat = false)) (h34 : Hid (¬ s[p] = 34)) (h91 : Hid (¬ s[p] = 91)) (h45 : Hid (¬ (s[p] = 45 ∧ s.data.toList[p + 1]? = some 62))) (hn : Hid (s[p] = 45)) (he : Hid (p + 1 = s.size)) (r : TokD × Int) (hr : r = res10 (s.data.toList.drop p) p) :
    Calls Try.prog 64 #[.string s, .int .i64 p] w fun e w' => e = .returned (.tuple #[.agg #[.int .i64 r.1.kind, .string r.1.text], .int .i64 r.2]) ∧ Below w.heap.size w w' := by
  have HR : Hid (r = res10 (s.data.toList.drop p) p) := hr
  clear hr
  have hpu := s[p].toNat_lt
  have i1 : (p : Int) < (s.size : Int) := by omega
  have wp1 : IntKind.i64.wrap ((p : Int) + 1) = (p : Int) + 1 := by rw [IntKind.wrap_i64]; omega
  have B0 : Hid (Below w.heap.size w (w.alloc (.cells #[.int .i64 0, .string ⟨#[]⟩] 106))) := (Below.refl _ _).alloc (Nat.le_refl _) _
  have c0 : (w.alloc (.cells #[.int .i64 0, .string ⟨#[]⟩] 106)).cell? ⟨w.heap.size, 0, none⟩ = some (.int .i64 0) := box10 _ _ _ 0 _ rfl
  have c1 : (w.alloc (.cells #[.int .i64 0, .string ⟨#[]⟩] 106)).cell? ⟨w.heap.size, 1, none⟩ = some (.string ⟨#[]⟩) := box10 _ _ _ 1 _ rfl
  have g0 : (w.alloc (.cells #[.int .i64 0, .string ⟨#[]⟩] 106)).frozen? ⟨w.heap.size, 0, none⟩ = false := froz10 _ _ _ 0
  have g1 : (w.alloc (.cells #[.int .i64 0, .string ⟨#[]⟩] 106)).frozen? ⟨w.heap.size, 1, none⟩ = false := froz10 _ _ _ 1
  have HLp : Hid (∀ W, _) := fun W => let10_any s[p].toNat W
  rw [hlb.out] at HLp
  have HFp : Hid (∀ W, _) := fun W => fig10_any s[p].toNat W
  rw [hfb.out] at HFp
  have q34 : ((s[p].toNat : Int) == 34) = false := by rw [beq_eq_false_iff_ne]; exact fun c => h34.out (u8_is (n := 34) (by omega) (by decide))
  have q91 : ((s[p].toNat : Int) == 91) = false := by rw [beq_eq_false_iff_ne]; exact fun c => h91.out (u8_is (n := 91) (by omega) (by decide))
  have HRs : Hid (res10 (s.data.toList.drop p) p = if signsL.contains s[p] = true then (⟨5, s.extract p (p + 1)⟩, ((p + 1 : Nat) : Int)) else (⟨0, noS10⟩, 0)) := res_sign hp hlb.out hfb.out h34.out h91.out h45.out
  have j1 : (p : Int) ≤ (p : Int) + 1 := by omega
  have j2 : (p : Int) + 1 ≤ (s.size : Int) := by omega
  have q45 : ((s[p].toNat : Int) == 45) = true := by rw [hn.out]; rfl
  have i2 : ¬ (p : Int) + 1 < (s.size : Int) := by have := he.out; omega
  go_enter Try.func64, Try.ntmps64
  go_wp2_with (first | (go_at_call 82; refine (HLp.out _).mono ?_; rintro e wq ⟨rfl, hw⟩; rw [hw]; clear hw) | (go_at_call 73; refine (HFp.out _).mono ?_; rintro e wq ⟨rfl, hw⟩; rw [hw]; clear hw))
  generalize w.alloc (.cells #[.int .i64 0, .string ⟨#[]⟩] 106) = w0 at *
  obtain ⟨sg, hsg⟩ : ∃ sg : ByteArray, sg = ⟨#[40, 41, 123, 125, 124, 42, 43, 63, 58, 44, 59, 61, 64, 45, 47, 60, 38, 33]⟩ := ⟨_, rfl⟩
  have HSl : Hid (sg.data.toList = signsL) := by rw [Hid, hsg]; rfl
  have hss : sg.size = 18 := by rw [hsg]; rfl
  rw [← hsg]
  have hss1 : (sg.size : Int) ≤ 18 := by omega
  have HSg : Hid (sg.size = 18) := hss
  clear hsg hss
  go_loopw [9] (fun iv wr => ∃ k : Nat, iv = .int .i64 k ∧ k ≤ sg.size ∧ (∀ m (hm : m < sg.size), m < k → ¬ sg[m] = s[p]) ∧ wr = w0) (fun iv _ => sg.size - (intOf iv).toNat)
  case atStart => exact ⟨0, rfl, Nat.zero_le _, fun m hm h => by omega, rfl⟩
  case round =>
    obtain ⟨k, rfl, hk, hto, hwr⟩ := hrel
    rw [hwr]
    clear hwr
    have HTo : Hid (∀ m (hm : m < sg.size), m < k → ¬ sg[m] = s[p]) := hto
    clear hto
    by_cases hlt : k < sg.size
    · have hu := sg[k].toNat_lt
      have i4 : (k : Int) < (sg.size : Int) := by omega
      by_cases hq : sg[k].toNat = s[p].toNat
      · have HV : Hid (res10 (s.data.toList.drop p) p = (⟨5, s.extract p (p + 1)⟩, ((p + 1 : Nat) : Int))) := by
          rw [Hid, HRs.out, if_pos]
          rw [List.contains_iff_mem, ← HSl.out, ← UInt8.toNat_inj.1 hq]
          exact List.getElem_mem (by rw [toList_size]; exact hlt)
        have q5 : ((sg[k].toNat : Int) == (s[p].toNat : Int)) = true := by rw [beq_iff_eq]; omega
        clear hq
        go_wp2
        refine bodyPost_ret (by simp [results, Try.results64, go_sem, c0, c1]; try rfl) rfl ?_
        have hr2 := HR.out.trans HV.out
        rw [hr2]
        exact ⟨rfl, (B0.out.setCell (Nat.le_refl _) _).setCell (Nat.le_refl _) _⟩

      · have q5 : ((sg[k].toNat : Int) == (s[p].toNat : Int)) = false := by rw [beq_eq_false_iff_ne]; omega
        have HNx : Hid (∀ m (hm : m < sg.size), m < k + 1 → ¬ sg[m] = s[p]) := fun m hm h2 => by
          by_cases e : m = k
          · subst e; exact fun c => hq (by rw [c])
          · exact HTo.out m hm (by omega)
        clear hq
        go_wp2
        go_roundw
        case rel => exact ⟨k + 1, by go_num, by omega, HNx.out, by first | trivial | rfl⟩
        case measure => simp [intOf]; omega
    · have HV : Hid (res10 (s.data.toList.drop p) p = (⟨0, noS10⟩, 0)) := by
        rw [Hid, HRs.out, if_neg]
        rw [List.contains_iff_mem, ← HSl.out]
        intro c
        obtain ⟨m, hm, e⟩ := List.getElem_of_mem c
        rw [toList_size] at hm
        exact HTo.out m hm (by omega) e
      have i4 : ¬ (k : Int) < (sg.size : Int) := by omega
      go_wp2
      refine bodyPost_ret (by simp [results, Try.results64, go_sem, c0, c1]; try rfl) rfl ?_
      have hr2 := HR.out.trans HV.out
      rw [hr2]
      exact ⟨rfl, (B0.out.setCell (Nat.le_refl _) _).setCell (Nat.le_refl _) _⟩

set_option maxHeartbeats 6400000 in
set_option maxRecDepth 100000 in
theorem one10_s3 (s : ByteArray) (p : Nat) (w : World) (hp : p < s.size) (hs : s.size ≤ 1048576) (hlb : Hid (letT s[p].toNat = false)) (hfb : Hid (figT s[p].toNat = false)) (h34 : Hid (¬ s[p] = 34)) (h91 : Hid (¬ s[p] = 91)) (h45 : Hid (¬ (s[p] = 45 ∧ s.data.toList[p + 1]? = some 62))) (hn : Hid (s[p] = 45)) (he : p + 1 < s.size) (r : TokD × Int) (hr : r = res10 (s.data.toList.drop p) p) :
    Calls Try.prog 64 #[.string s, .int .i64 p] w fun e w' => e = .returned (.tuple #[.agg #[.int .i64 r.1.kind, .string r.1.text], .int .i64 r.2]) ∧ Below w.heap.size w w' := by
  have HR : Hid (r = res10 (s.data.toList.drop p) p) := hr
  clear hr
  have hpu := s[p].toNat_lt
  have i1 : (p : Int) < (s.size : Int) := by omega
  have wp1 : IntKind.i64.wrap ((p : Int) + 1) = (p : Int) + 1 := by rw [IntKind.wrap_i64]; omega
  have B0 : Hid (Below w.heap.size w (w.alloc (.cells #[.int .i64 0, .string ⟨#[]⟩] 106))) := (Below.refl _ _).alloc (Nat.le_refl _) _
  have c0 : (w.alloc (.cells #[.int .i64 0, .string ⟨#[]⟩] 106)).cell? ⟨w.heap.size, 0, none⟩ = some (.int .i64 0) := box10 _ _ _ 0 _ rfl
  have c1 : (w.alloc (.cells #[.int .i64 0, .string ⟨#[]⟩] 106)).cell? ⟨w.heap.size, 1, none⟩ = some (.string ⟨#[]⟩) := box10 _ _ _ 1 _ rfl
  have g0 : (w.alloc (.cells #[.int .i64 0, .string ⟨#[]⟩] 106)).frozen? ⟨w.heap.size, 0, none⟩ = false := froz10 _ _ _ 0
  have g1 : (w.alloc (.cells #[.int .i64 0, .string ⟨#[]⟩] 106)).frozen? ⟨w.heap.size, 1, none⟩ = false := froz10 _ _ _ 1
  have HLp : Hid (∀ W, _) := fun W => let10_any s[p].toNat W
  rw [hlb.out] at HLp
  have HFp : Hid (∀ W, _) := fun W => fig10_any s[p].toNat W
  rw [hfb.out] at HFp
  have q34 : ((s[p].toNat : Int) == 34) = false := by rw [beq_eq_false_iff_ne]; exact fun c => h34.out (u8_is (n := 34) (by omega) (by decide))
  have q91 : ((s[p].toNat : Int) == 91) = false := by rw [beq_eq_false_iff_ne]; exact fun c => h91.out (u8_is (n := 91) (by omega) (by decide))
  have HRs : Hid (res10 (s.data.toList.drop p) p = if signsL.contains s[p] = true then (⟨5, s.extract p (p + 1)⟩, ((p + 1 : Nat) : Int)) else (⟨0, noS10⟩, 0)) := res_sign hp hlb.out hfb.out h34.out h91.out h45.out
  have j1 : (p : Int) ≤ (p : Int) + 1 := by omega
  have j2 : (p : Int) + 1 ≤ (s.size : Int) := by omega
  have q45 : ((s[p].toNat : Int) == 45) = true := by rw [hn.out]; rfl
  have i2 : (p : Int) + 1 < (s.size : Int) := by omega
  have hpu1 := s[p + 1].toNat_lt
  have q62 : ((s[p + 1].toNat : Int) == 62) = false := by rw [beq_eq_false_iff_ne]; exact fun c => h45.out ⟨hn.out, (at_some he).trans (congrArg some (u8_is (n := 62) (by omega) (by decide)))⟩
  go_enter Try.func64, Try.ntmps64
  go_wp2_with (first | (go_at_call 82; refine (HLp.out _).mono ?_; rintro e wq ⟨rfl, hw⟩; rw [hw]; clear hw) | (go_at_call 73; refine (HFp.out _).mono ?_; rintro e wq ⟨rfl, hw⟩; rw [hw]; clear hw))
  generalize w.alloc (.cells #[.int .i64 0, .string ⟨#[]⟩] 106) = w0 at *
  obtain ⟨sg, hsg⟩ : ∃ sg : ByteArray, sg = ⟨#[40, 41, 123, 125, 124, 42, 43, 63, 58, 44, 59, 61, 64, 45, 47, 60, 38, 33]⟩ := ⟨_, rfl⟩
  have HSl : Hid (sg.data.toList = signsL) := by rw [Hid, hsg]; rfl
  have hss : sg.size = 18 := by rw [hsg]; rfl
  rw [← hsg]
  have hss1 : (sg.size : Int) ≤ 18 := by omega
  have HSg : Hid (sg.size = 18) := hss
  clear hsg hss
  go_loopw [9] (fun iv wr => ∃ k : Nat, iv = .int .i64 k ∧ k ≤ sg.size ∧ (∀ m (hm : m < sg.size), m < k → ¬ sg[m] = s[p]) ∧ wr = w0) (fun iv _ => sg.size - (intOf iv).toNat)
  case atStart => exact ⟨0, rfl, Nat.zero_le _, fun m hm h => by omega, rfl⟩
  case round =>
    obtain ⟨k, rfl, hk, hto, hwr⟩ := hrel
    rw [hwr]
    clear hwr
    have HTo : Hid (∀ m (hm : m < sg.size), m < k → ¬ sg[m] = s[p]) := hto
    clear hto
    by_cases hlt : k < sg.size
    · have hu := sg[k].toNat_lt
      have i4 : (k : Int) < (sg.size : Int) := by omega
      by_cases hq : sg[k].toNat = s[p].toNat
      · have HV : Hid (res10 (s.data.toList.drop p) p = (⟨5, s.extract p (p + 1)⟩, ((p + 1 : Nat) : Int))) := by
          rw [Hid, HRs.out, if_pos]
          rw [List.contains_iff_mem, ← HSl.out, ← UInt8.toNat_inj.1 hq]
          exact List.getElem_mem (by rw [toList_size]; exact hlt)
        have q5 : ((sg[k].toNat : Int) == (s[p].toNat : Int)) = true := by rw [beq_iff_eq]; omega
        clear hq
        go_wp2
        refine bodyPost_ret (by simp [results, Try.results64, go_sem, c0, c1]; try rfl) rfl ?_
        have hr2 := HR.out.trans HV.out
        rw [hr2]
        exact ⟨rfl, (B0.out.setCell (Nat.le_refl _) _).setCell (Nat.le_refl _) _⟩

      · have q5 : ((sg[k].toNat : Int) == (s[p].toNat : Int)) = false := by rw [beq_eq_false_iff_ne]; omega
        have HNx : Hid (∀ m (hm : m < sg.size), m < k + 1 → ¬ sg[m] = s[p]) := fun m hm h2 => by
          by_cases e : m = k
          · subst e; exact fun c => hq (by rw [c])
          · exact HTo.out m hm (by omega)
        clear hq
        go_wp2
        go_roundw
        case rel => exact ⟨k + 1, by go_num, by omega, HNx.out, by first | trivial | rfl⟩
        case measure => simp [intOf]; omega
    · have HV : Hid (res10 (s.data.toList.drop p) p = (⟨0, noS10⟩, 0)) := by
        rw [Hid, HRs.out, if_neg]
        rw [List.contains_iff_mem, ← HSl.out]
        intro c
        obtain ⟨m, hm, e⟩ := List.getElem_of_mem c
        rw [toList_size] at hm
        exact HTo.out m hm (by omega) e
      have i4 : ¬ (k : Int) < (sg.size : Int) := by omega
      go_wp2
      refine bodyPost_ret (by simp [results, Try.results64, go_sem, c0, c1]; try rfl) rfl ?_
      have hr2 := HR.out.trans HV.out
      rw [hr2]
      exact ⟨rfl, (B0.out.setCell (Nat.le_refl _) _).setCell (Nat.le_refl _) _⟩

end Go.Proofs.Ytipkbkhnaekceaa

namespace Go.Proofs.Ytipkbkhnaekceaa
open Go.RowKit
set_option linter.unusedVariables false

theorem one10_any (s : ByteArray) (p : Nat) (w : World) (hp : p < s.size) (hs : s.size ≤ 1048576) (r : TokD × Int) (hr : r = res10 (s.data.toList.drop p) p) :
    Calls Try.prog 64 #[.string s, .int .i64 p] w fun e w' => e = .returned (.tuple #[.agg #[.int .i64 r.1.kind, .string r.1.text], .int .i64 r.2]) ∧ Below w.heap.size w w' := by
  cases hl : letT s[p].toNat with
  | true => exact one10_word s p w hp hs hl r hr
  | false =>
    cases hf : figT s[p].toNat with
    | true => exact one10_fig s p w hp hs hl hf r hr
    | false =>
      by_cases h34 : s[p] = 34
      · exact one10_text s p w hp hs hl hf h34 r hr
      by_cases h91 : s[p] = 91
      · exact one10_set s p w hp hs hl hf h91 r hr
      by_cases h45 : s[p] = 45 ∧ s.data.toList[p + 1]? = some 62
      · rcases Nat.lt_or_ge (p + 1) s.size with h1 | h1
        · have h2 := h45.2
          rw [at_some h1] at h2
          exact one10_arrow s p w hp hs hl hf h45.1 h1 (Option.some.inj h2) r hr
        · have h2 := h45.2
          rw [List.getElem?_eq_none (by rw [toList_size]; exact h1)] at h2
          cases h2
      · by_cases hn : s[p] = 45
        · rcases Nat.lt_or_ge (p + 1) s.size with h1 | h1
          · exact one10_s3 s p w hp hs hl hf h34 h91 h45 hn h1 r hr
          · exact one10_s2 s p w hp hs hl hf h34 h91 h45 hn (show p + 1 = s.size by omega) r hr
        · exact one10_s1 s p w hp hs hl hf h34 h91 h45 hn r hr

end Go.Proofs.Ytipkbkhnaekceaa

namespace Go.Proofs.Ytipkbkhnaekceaa
open Go.RowKit

end Go.Proofs.Ytipkbkhnaekceaa
