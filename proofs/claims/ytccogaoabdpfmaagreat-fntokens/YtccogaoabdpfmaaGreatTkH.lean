/- The program's readText, readSetToken (printed by mk/tkh.py). -/
import Derived.Test.YtccogaoabdpfmaaGreatTkC
namespace Go.Proofs.YtccogaoabdpfmaaGreat
open Go.RowKit
set_option maxHeartbeats 3200000
set_option maxRecDepth 100000
set_option linter.unusedVariables false
theorem readText_any (t : ByteArray) (w : World) (h0 : 0 < t.size) (hs : t.size ≤ 1048576) (hb : t[0] = 34) (r : TokD × Int) (hr : r = resT t) :
  Calls Tryz.prog 24 #[.string t] w fun e w' => e = .returned (.tuple #[.agg #[.int .i64 r.1.kind, .string r.1.text], .int .i64 r.2]) ∧ Below w.heap.size w w' := by
 have HR : Hid (_ = _) := hr.trans (resT_text h0 hb)
 have hle : spanN (notB 34) (behT t).data.toList ≤ (behT t).size := by have := spanN_le (notB 34) (behT t).data.toList; rwa [toList_size] at this
 have HI : Hid (∀ W, _) := fun W => inner_any 34 (by decide) t W h0 hs
 have hz : (behT t).size ≤ 1048576 := by rw [behT_size h0]; omega
 generalize spanN (notB 34) (behT t).data.toList = n at *
 generalize behT t = u at *
 have hus : (u.extract 0 n).size = n := by simp; omega
 have HU : Hid (∀ W, _) := fun W => upTo_any 10 (by decide) (u.extract 0 n) W (by omega)
 have HC : Hid (∀ W, _) := fun W => clone_any (u.extract 0 n) W (by omega)
 have hle2 : spanN (notB 10) (u.extract 0 n).data.toList ≤ n := by have := spanN_le (notB 10) (u.extract 0 n).data.toList; rwa [toList_size, hus] at this
 generalize spanN (notB 10) (u.extract 0 n).data.toList = m at *
 generalize u.extract 0 n = x at *
 clear hr hb
 have wn2 : IntKind.i64.wrap ((n : Int) + 2) = (n : Int) + 2 := by rw [IntKind.wrap_i64]; omega
 have B0 : Hid (Below w.heap.size w (w.alloc (.cells #[.int .i64 0, .string ⟨#[]⟩] 35))) := (Below.refl _ _).alloc (Nat.le_refl _) _
 have c0 : (w.alloc (.cells #[.int .i64 0, .string ⟨#[]⟩] 35)).cell? ⟨w.heap.size, 0, none⟩ = some (.int .i64 0) := box10 _ _ _ 0 _ rfl
 have c1 : (w.alloc (.cells #[.int .i64 0, .string ⟨#[]⟩] 35)).cell? ⟨w.heap.size, 1, none⟩ = some (.string ⟨#[]⟩) := box10 _ _ _ 1 _ rfl
 have g0 : (w.alloc (.cells #[.int .i64 0, .string ⟨#[]⟩] 35)).frozen? ⟨w.heap.size, 0, none⟩ = false := froz10 _ _ _ 0
 have g1 : (w.alloc (.cells #[.int .i64 0, .string ⟨#[]⟩] 35)).frozen? ⟨w.heap.size, 1, none⟩ = false := froz10 _ _ _ 1
 by_cases h1 : n < u.size
 ·have HD : Hid (decide (n < u.size) = true) := decide_eq_true h1
  rw [HD.out] at HI
  by_cases h2 : 1 ≤ n
  ·have d2 : decide ((n : Int) < 1) = false := by rw [decide_eq_false]; omega
   have d2' : decide ((x.size : Int) < 1) = false := by rw [decide_eq_false]; omega
   by_cases h3 : n ≤ 8
   ·have d3 : decide ((8 : Int) < (n : Int)) = false := by rw [decide_eq_false]; omega
    have d3' : decide ((8 : Int) < (x.size : Int)) = false := by rw [decide_eq_false]; omega
    by_cases h4 : m < n
    ·have d4 : decide ((m : Int) < (x.size : Int)) = true := by rw [decide_eq_true]; omega
     have n4 : m < x.size := by omega
     have d4' : decide ((m : Int) < (n : Int)) = true := by rw [decide_eq_true]; omega
     have HV : Hid (r = noneT) := by rw [Hid, HR.out, if_neg (fun c => c.2.2.2 h4)]
     clear h1 h2 h3 h4 hle hle2 hus
     clear HR
     go_enter Tryz.func24, Tryz.ntmps24
     go_wp2_with (first | (go_at_call 48; refine (HI.out _).mono ?_; rintro e w1 ⟨rfl, hb1⟩; have x0 := kept10 c0 hb1; have x1 := kept10 c1 hb1; have y0 := frozk10 c0 g0 hb1; have y1 := frozk10 c1 g1 hb1; have BB : Hid (Below w.heap.size w w1) := B0.out.trans (hb1.mono B0.out.size)) | (go_at_call 19; refine (HU.out _).mono ?_; rintro e w2 ⟨rfl, hb2⟩; have x2 := kept10 x0 hb2; have x3 := kept10 x1 hb2; have y2 := frozk10 x0 y0 hb2; have y3 := frozk10 x1 y1 hb2; have BC : Hid (Below w.heap.size w w2) := BB.out.trans (hb2.mono BB.out.size)))
     refine bodyPost_ret (by simp [results, Tryz.results24, go_sem, x2, x3]; try rfl) rfl ?_
     have hr2 := HV.out
     rw [hr2]
     exact ⟨rfl, (BC.out.setCell (Nat.le_refl _) _).setCell (Nat.le_refl _) _⟩
    ·have d4 : decide ((m : Int) < (x.size : Int)) = false := by rw [decide_eq_false]; omega
     have n4 : ¬ m < x.size := by omega
     have d4' : decide ((m : Int) < (n : Int)) = false := by rw [decide_eq_false]; omega
     have wn3 : IntKind.i64.wrap ((x.size : Int) + 2) = (n : Int) + 2 := by rw [IntKind.wrap_i64]; omega
     have HV : Hid (r = (⟨3, x⟩, (n : Int) + 2)) := by rw [Hid, HR.out, if_pos ⟨h1, h2, h3, h4⟩]; rfl
     clear HR h1 h2 h3 h4 hle hle2 hus
     go_enter Tryz.func24, Tryz.ntmps24
     go_wp2_with (first | (go_at_call 48; refine (HI.out _).mono ?_; rintro e w1 ⟨rfl, hb1⟩; have x0 := kept10 c0 hb1; have x1 := kept10 c1 hb1; have y0 := frozk10 c0 g0 hb1; have y1 := frozk10 c1 g1 hb1; have BB : Hid (Below w.heap.size w w1) := B0.out.trans (hb1.mono B0.out.size)) | (go_at_call 19; refine (HU.out _).mono ?_; rintro e w2 ⟨rfl, hb2⟩; have x2 := kept10 x0 hb2; have x3 := kept10 x1 hb2; have y2 := frozk10 x0 y0 hb2; have y3 := frozk10 x1 y1 hb2; have BC : Hid (Below w.heap.size w w2) := BB.out.trans (hb2.mono BB.out.size)) | (go_at_call 47; refine (HC.out _).mono ?_; rintro e w3 ⟨rfl, hb3⟩; have x4 := kept10 x2 hb3; have x5 := kept10 x3 hb3; have y4 := frozk10 x2 y2 hb3; have y5 := frozk10 x3 y3 hb3; have BD : Hid (Below w.heap.size w w3) := BC.out.trans (hb3.mono BC.out.size)))
     refine bodyPost_ret (by simp [results, Tryz.results24, go_sem, x4, x5]; try rfl) rfl ?_
     have hr2 := HV.out
     rw [hr2]
     exact ⟨rfl, (BD.out.setCell (Nat.le_refl _) _).setCell (Nat.le_refl _) _⟩
   ·have d3 : decide ((8 : Int) < (n : Int)) = true := by rw [decide_eq_true]; omega
    have d3' : decide ((8 : Int) < (x.size : Int)) = true := by rw [decide_eq_true]; omega
    have HV : Hid (r = noneT) := by rw [Hid, HR.out, if_neg (fun c => h3 c.2.2.1)]
    clear h1 h2 h3 hle hle2 hus
    clear HR
    go_enter Tryz.func24, Tryz.ntmps24
    go_wp2_with (go_at_call 48; refine (HI.out _).mono ?_; rintro e w1 ⟨rfl, hb1⟩; have x0 := kept10 c0 hb1; have x1 := kept10 c1 hb1; have y0 := frozk10 c0 g0 hb1; have y1 := frozk10 c1 g1 hb1; have BB : Hid (Below w.heap.size w w1) := B0.out.trans (hb1.mono B0.out.size))
    refine bodyPost_ret (by simp [results, Tryz.results24, go_sem, x0, x1]; try rfl) rfl ?_
    have hr2 := HV.out
    rw [hr2]
    exact ⟨rfl, (BB.out.setCell (Nat.le_refl _) _).setCell (Nat.le_refl _) _⟩
  ·have d2 : decide ((n : Int) < 1) = true := by rw [decide_eq_true]; omega
   have d2' : decide ((x.size : Int) < 1) = true := by rw [decide_eq_true]; omega
   have HV : Hid (r = noneT) := by rw [Hid, HR.out, if_neg (fun c => h2 c.2.1)]
   clear h1 h2 hle hle2 hus
   clear HR
   go_enter Tryz.func24, Tryz.ntmps24
   go_wp2_with (go_at_call 48; refine (HI.out _).mono ?_; rintro e w1 ⟨rfl, hb1⟩; have x0 := kept10 c0 hb1; have x1 := kept10 c1 hb1; have y0 := frozk10 c0 g0 hb1; have y1 := frozk10 c1 g1 hb1; have BB : Hid (Below w.heap.size w w1) := B0.out.trans (hb1.mono B0.out.size))
   refine bodyPost_ret (by simp [results, Tryz.results24, go_sem, x0, x1]; try rfl) rfl ?_
   have hr2 := HV.out
   rw [hr2]
   exact ⟨rfl, (BB.out.setCell (Nat.le_refl _) _).setCell (Nat.le_refl _) _⟩
 ·have HD : Hid (decide (n < u.size) = false) := decide_eq_false h1
  rw [HD.out] at HI
  have HV : Hid (r = noneT) := by rw [Hid, HR.out, if_neg (fun c => h1 c.1)]
  clear h1 hle hle2 hus
  clear HR
  go_enter Tryz.func24, Tryz.ntmps24
  go_wp2_with (go_at_call 48; refine (HI.out _).mono ?_; rintro e w1 ⟨rfl, hb1⟩; have x0 := kept10 c0 hb1; have x1 := kept10 c1 hb1; have y0 := frozk10 c0 g0 hb1; have y1 := frozk10 c1 g1 hb1; have BB : Hid (Below w.heap.size w w1) := B0.out.trans (hb1.mono B0.out.size))
  refine bodyPost_ret (by simp [results, Tryz.results24, go_sem, x0, x1]; try rfl) rfl ?_
  have hr2 := HV.out
  rw [hr2]
  exact ⟨rfl, (BB.out.setCell (Nat.le_refl _) _).setCell (Nat.le_refl _) _⟩
theorem readSetT_any (t : ByteArray) (w : World) (h0 : 0 < t.size) (hs : t.size ≤ 1048576) (hb : t[0] = 91) (r : TokD × Int) (hr : r = resT t) :
  Calls Tryz.prog 25 #[.string t] w fun e w' => e = .returned (.tuple #[.agg #[.int .i64 r.1.kind, .string r.1.text], .int .i64 r.2]) ∧ Below w.heap.size w w' := by
 have HR : Hid (_ = _) := hr.trans (resT_set h0 hb)
 have hle : spanN (notB 93) (behT t).data.toList ≤ (behT t).size := by have := spanN_le (notB 93) (behT t).data.toList; rwa [toList_size] at this
 have HI : Hid (∀ W, _) := fun W => inner_any 93 (by decide) t W h0 hs
 have hz : (behT t).size ≤ 1048576 := by rw [behT_size h0]; omega
 generalize spanN (notB 93) (behT t).data.toList = n at *
 generalize behT t = u at *
 have hus : (u.extract 0 n).size = n := by simp; omega
 have HU : Hid (∀ W, _) := fun W => implSetOk_any (u.extract 0 n) W
 have HC : Hid (∀ W, _) := fun W => clone_any (u.extract 0 n) W (by omega)
 generalize hok : okL (u.extract 0 n).data.toList = ok at *
 generalize u.extract 0 n = x at *
 clear hr hb hok
 have wn2 : IntKind.i64.wrap ((n : Int) + 2) = (n : Int) + 2 := by rw [IntKind.wrap_i64]; omega
 have wn3 : IntKind.i64.wrap ((x.size : Int) + 2) = (n : Int) + 2 := by rw [IntKind.wrap_i64]; omega
 have B0 : Hid (Below w.heap.size w (w.alloc (.cells #[.int .i64 0, .string ⟨#[]⟩] 35))) := (Below.refl _ _).alloc (Nat.le_refl _) _
 have c0 : (w.alloc (.cells #[.int .i64 0, .string ⟨#[]⟩] 35)).cell? ⟨w.heap.size, 0, none⟩ = some (.int .i64 0) := box10 _ _ _ 0 _ rfl
 have c1 : (w.alloc (.cells #[.int .i64 0, .string ⟨#[]⟩] 35)).cell? ⟨w.heap.size, 1, none⟩ = some (.string ⟨#[]⟩) := box10 _ _ _ 1 _ rfl
 have g0 : (w.alloc (.cells #[.int .i64 0, .string ⟨#[]⟩] 35)).frozen? ⟨w.heap.size, 0, none⟩ = false := froz10 _ _ _ 0
 have g1 : (w.alloc (.cells #[.int .i64 0, .string ⟨#[]⟩] 35)).frozen? ⟨w.heap.size, 1, none⟩ = false := froz10 _ _ _ 1
 by_cases h1 : n < u.size
 ·have HD : Hid (decide (n < u.size) = true) := decide_eq_true h1
  rw [HD.out] at HI
  cases ok with
  | true =>
   have HV : Hid (r = (⟨4, x⟩, (n : Int) + 2)) := by rw [Hid, HR.out, if_pos ⟨h1, rfl⟩]; rfl
   clear HR h1 hle hus
   go_enter Tryz.func25, Tryz.ntmps25
   go_wp2_with (first | (go_at_call 48; refine (HI.out _).mono ?_; rintro e w1 ⟨rfl, hb1⟩; have x0 := kept10 c0 hb1; have x1 := kept10 c1 hb1; have y0 := frozk10 c0 g0 hb1; have y1 := frozk10 c1 g1 hb1; have BB : Hid (Below w.heap.size w w1) := B0.out.trans (hb1.mono B0.out.size)) | (go_at_call 49; refine (HU.out _).mono ?_; rintro e w2 ⟨rfl, hb2⟩; have x2 := kept10 x0 hb2; have x3 := kept10 x1 hb2; have y2 := frozk10 x0 y0 hb2; have y3 := frozk10 x1 y1 hb2; have BC : Hid (Below w.heap.size w w2) := BB.out.trans (hb2.mono BB.out.size)) | (go_at_call 47; refine (HC.out _).mono ?_; rintro e w3 ⟨rfl, hb3⟩; have x4 := kept10 x2 hb3; have x5 := kept10 x3 hb3; have y4 := frozk10 x2 y2 hb3; have y5 := frozk10 x3 y3 hb3; have BD : Hid (Below w.heap.size w w3) := BC.out.trans (hb3.mono BC.out.size)))
   refine bodyPost_ret (by simp [results, Tryz.results25, go_sem, x4, x5]; try rfl) rfl ?_
   have hr2 := HV.out
   rw [hr2]
   exact ⟨rfl, (BD.out.setCell (Nat.le_refl _) _).setCell (Nat.le_refl _) _⟩
  | false =>
   have HV : Hid (r = noneT) := by rw [Hid, HR.out, if_neg (fun c => by cases c.2)]
   clear h1 hle hus
   clear HR
   go_enter Tryz.func25, Tryz.ntmps25
   go_wp2_with (first | (go_at_call 48; refine (HI.out _).mono ?_; rintro e w1 ⟨rfl, hb1⟩; have x0 := kept10 c0 hb1; have x1 := kept10 c1 hb1; have y0 := frozk10 c0 g0 hb1; have y1 := frozk10 c1 g1 hb1; have BB : Hid (Below w.heap.size w w1) := B0.out.trans (hb1.mono B0.out.size)) | (go_at_call 49; refine (HU.out _).mono ?_; rintro e w2 ⟨rfl, hb2⟩; have x2 := kept10 x0 hb2; have x3 := kept10 x1 hb2; have y2 := frozk10 x0 y0 hb2; have y3 := frozk10 x1 y1 hb2; have BC : Hid (Below w.heap.size w w2) := BB.out.trans (hb2.mono BB.out.size)))
   refine bodyPost_ret (by simp [results, Tryz.results25, go_sem, x2, x3]; try rfl) rfl ?_
   have hr2 := HV.out
   rw [hr2]
   exact ⟨rfl, (BC.out.setCell (Nat.le_refl _) _).setCell (Nat.le_refl _) _⟩
 ·have HD : Hid (decide (n < u.size) = false) := decide_eq_false h1
  rw [HD.out] at HI
  have HV : Hid (r = noneT) := by rw [Hid, HR.out, if_neg (fun c => h1 c.1)]
  clear h1 hle hus
  clear HR
  go_enter Tryz.func25, Tryz.ntmps25
  go_wp2_with (go_at_call 48; refine (HI.out _).mono ?_; rintro e w1 ⟨rfl, hb1⟩; have x0 := kept10 c0 hb1; have x1 := kept10 c1 hb1; have y0 := frozk10 c0 g0 hb1; have y1 := frozk10 c1 g1 hb1; have BB : Hid (Below w.heap.size w w1) := B0.out.trans (hb1.mono B0.out.size))
  refine bodyPost_ret (by simp [results, Tryz.results25, go_sem, x0, x1]; try rfl) rfl ?_
  have hr2 := HV.out
  rw [hr2]
  exact ⟨rfl, (BB.out.setCell (Nat.le_refl _) _).setCell (Nat.le_refl _) _⟩
end Go.Proofs.YtccogaoabdpfmaaGreat
