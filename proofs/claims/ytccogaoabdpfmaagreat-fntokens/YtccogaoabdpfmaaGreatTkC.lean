/- The program's readers of one token (printed by mk/tkc.py). -/
import Derived.Test.YtccogaoabdpfmaaGreatShelf
import Derived.Test.YtccogaoabdpfmaaGreatDecPure
import Derived.Laws.Runes
import Derived.BigQuiet
import Derived.Deep.QuietTactic
namespace Go.Proofs.YtccogaoabdpfmaaGreat
open Go.RowKit
set_option maxHeartbeats 3200000
set_option maxRecDepth 100000
set_option linter.unusedVariables false
theorem clone_any (s : ByteArray) (w : World) (hs : s.size ≤ 1048576) : Calls Tryz.prog 47 #[.string s] w fun e w' => e = .returned (.string s) ∧ Below w.heap.size w w' := by
 have HC : Hid (∀ W, _) := fun W => Tryz.stringslite_Clone s W (by omega)
 go_enter Tryz.func47, Tryz.ntmps47
 go_wp2_with (go_at_call 75; refine (HC.out _).mono ?_; rintro e w1 ⟨rfl, hb1⟩)
 go_ret
 exact ⟨rfl, hb1⟩
theorem ext_size_le (s : ByteArray) (i j : Nat) : (s.extract i j).size ≤ s.size := by simp; omega
theorem readName_any (t : ByteArray) (w : World) (h0 : 0 < t.size) (hs : t.size ≤ 1048576) (hl : letT t[0].toNat = true) (r : TokD × Int) (hr : r = resT t) :
  Calls Tryz.prog 21 #[.string t] w fun e w' => e = .returned (.tuple #[.agg #[.int .i64 r.1.kind, .string r.1.text], .int .i64 r.2]) ∧ Below w.heap.size w w' := by
 have HR : Hid (_ = _) := hr.trans (resT_word h0 hl)
 have hle : spanN wordT t.data.toList ≤ t.size := by have := spanN_le wordT t.data.toList; rwa [toList_size] at this
 have HI : Hid (∀ W, _) := fun W => areWord t W hs
 have HAt : Hid (∀ k (hk : k < t.size), t.data.toList[k]? = some t[k]) := fun k hk => at_some hk
 have HAn : Hid (t.data.toList[t.size]? = none) := at_none
 generalize spanN wordT t.data.toList = n at *
 have HC : Hid (∀ W, _) := fun W => clone_any (t.extract 0 n) W (Nat.le_trans (ext_size_le _ _ _) hs)
 clear hr hl
 have hle' : (n : Int) ≤ (t.size : Int) := by omega
 have wn1 : IntKind.i64.wrap ((n : Int) + 1) = (n : Int) + 1 := by rw [IntKind.wrap_i64]; omega
 have B0 : Hid (Below w.heap.size w (w.alloc (.cells #[.int .i64 0, .string ⟨#[]⟩] 35))) := (Below.refl _ _).alloc (Nat.le_refl _) _
 have c0 : (w.alloc (.cells #[.int .i64 0, .string ⟨#[]⟩] 35)).cell? ⟨w.heap.size, 0, none⟩ = some (.int .i64 0) := box10 _ _ _ 0 _ rfl
 have c1 : (w.alloc (.cells #[.int .i64 0, .string ⟨#[]⟩] 35)).cell? ⟨w.heap.size, 1, none⟩ = some (.string ⟨#[]⟩) := box10 _ _ _ 1 _ rfl
 have g0 : (w.alloc (.cells #[.int .i64 0, .string ⟨#[]⟩] 35)).frozen? ⟨w.heap.size, 0, none⟩ = false := froz10 _ _ _ 0
 have g1 : (w.alloc (.cells #[.int .i64 0, .string ⟨#[]⟩] 35)).frozen? ⟨w.heap.size, 1, none⟩ = false := froz10 _ _ _ 1
 by_cases h6 : 6 < n
 ·have HV : Hid (r = noneT) := by rw [Hid, HR.out, if_pos h6]
  have d6 : (6 : Int) < (n : Int) := by omega
  clear HR h6
  go_enter Tryz.func21, Tryz.ntmps21
  go_wp2_with (go_at_call 44; refine (HI.out _).mono ?_; rintro e w1 ⟨rfl, hb1⟩; have x0 := kept10 c0 hb1; have x1 := kept10 c1 hb1; have y0 := frozk10 c0 g0 hb1; have y1 := frozk10 c1 g1 hb1; have BB : Hid (Below w.heap.size w w1) := B0.out.trans (hb1.mono B0.out.size))
  refine bodyPost_ret (by simp [results, Tryz.results21, go_sem, x0, x1]; try rfl) rfl ?_
  have hr2 := HV.out
  rw [hr2]
  exact ⟨rfl, (BB.out.setCell (Nat.le_refl _) _).setCell (Nat.le_refl _) _⟩
 have d6 : ¬ (6 : Int) < (n : Int) := by omega
 by_cases hn : n < t.size
 ·have i4 : (n : Int) < (t.size : Int) := by omega
  have hu := t[n].toNat_lt
  by_cases h40 : t[n].toNat = 40
  ·have q40 : ((t[n].toNat : Int) == 40) = true := by rw [beq_iff_eq]; omega
   have HV : Hid (r = (⟨6, t.extract 0 n⟩, (n : Int) + 1)) := by rw [Hid, HR.out, if_neg h6, if_pos ((HAt.out n hn).trans (congrArg some (u8_is h40 (by decide))))]; rfl
   clear HR h6 h40
   go_enter Tryz.func21, Tryz.ntmps21
   go_wp2_with (first | (go_at_call 44; refine (HI.out _).mono ?_; rintro e w1 ⟨rfl, hb1⟩; have x0 := kept10 c0 hb1; have x1 := kept10 c1 hb1; have y0 := frozk10 c0 g0 hb1; have y1 := frozk10 c1 g1 hb1; have BB : Hid (Below w.heap.size w w1) := B0.out.trans (hb1.mono B0.out.size)) | (go_at_call 47; refine (HC.out _).mono ?_; rintro e w2 ⟨rfl, hb2⟩; have x2 := kept10 x0 hb2; have x3 := kept10 x1 hb2; have y2 := frozk10 x0 y0 hb2; have y3 := frozk10 x1 y1 hb2; have BC : Hid (Below w.heap.size w w2) := BB.out.trans (hb2.mono BB.out.size)))
   refine bodyPost_ret (by simp [results, Tryz.results21, go_sem, x2, x3]; try rfl) rfl ?_
   have hr2 := HV.out
   rw [hr2]
   exact ⟨rfl, (BC.out.setCell (Nat.le_refl _) _).setCell (Nat.le_refl _) _⟩
  ·have q40 : ((t[n].toNat : Int) == 40) = false := by rw [beq_eq_false_iff_ne]; omega
   have HV : Hid (r = (⟨1, t.extract 0 n⟩, (n : Int))) := by rw [Hid, HR.out, if_neg h6, if_neg (fun c => u8_isnt h40 (by decide) (Option.some.inj ((HAt.out n hn).symm.trans c)))]
   clear HR h6 h40
   go_enter Tryz.func21, Tryz.ntmps21
   go_wp2_with (first | (go_at_call 44; refine (HI.out _).mono ?_; rintro e w1 ⟨rfl, hb1⟩; have x0 := kept10 c0 hb1; have x1 := kept10 c1 hb1; have y0 := frozk10 c0 g0 hb1; have y1 := frozk10 c1 g1 hb1; have BB : Hid (Below w.heap.size w w1) := B0.out.trans (hb1.mono B0.out.size)) | (go_at_call 47; refine (HC.out _).mono ?_; rintro e w2 ⟨rfl, hb2⟩; have x2 := kept10 x0 hb2; have x3 := kept10 x1 hb2; have y2 := frozk10 x0 y0 hb2; have y3 := frozk10 x1 y1 hb2; have BC : Hid (Below w.heap.size w w2) := BB.out.trans (hb2.mono BB.out.size)))
   refine bodyPost_ret (by simp [results, Tryz.results21, go_sem, x2, x3]; try rfl) rfl ?_
   have hr2 := HV.out
   rw [hr2]
   exact ⟨rfl, (BC.out.setCell (Nat.le_refl _) _).setCell (Nat.le_refl _) _⟩
 ·have i4 : ¬ (n : Int) < (t.size : Int) := by omega
  have HV : Hid (r = (⟨1, t.extract 0 n⟩, (n : Int))) := by
   obtain rfl : n = t.size := by omega
   rw [Hid, HR.out, if_neg h6, if_neg (by rw [HAn.out]; exact fun c => by cases c)]
  clear HR h6
  go_enter Tryz.func21, Tryz.ntmps21
  go_wp2_with (first | (go_at_call 44; refine (HI.out _).mono ?_; rintro e w1 ⟨rfl, hb1⟩; have x0 := kept10 c0 hb1; have x1 := kept10 c1 hb1; have y0 := frozk10 c0 g0 hb1; have y1 := frozk10 c1 g1 hb1; have BB : Hid (Below w.heap.size w w1) := B0.out.trans (hb1.mono B0.out.size)) | (go_at_call 47; refine (HC.out _).mono ?_; rintro e w2 ⟨rfl, hb2⟩; have x2 := kept10 x0 hb2; have x3 := kept10 x1 hb2; have y2 := frozk10 x0 y0 hb2; have y3 := frozk10 x1 y1 hb2; have BC : Hid (Below w.heap.size w w2) := BB.out.trans (hb2.mono BB.out.size)))
  refine bodyPost_ret (by simp [results, Tryz.results21, go_sem, x2, x3]; try rfl) rfl ?_
  have hr2 := HV.out
  rw [hr2]
  exact ⟨rfl, (BC.out.setCell (Nat.le_refl _) _).setCell (Nat.le_refl _) _⟩
theorem readNum_any (t : ByteArray) (w : World) (h0 : 0 < t.size) (hs : t.size ≤ 1048576) (hl : letT t[0].toNat = false) (hf : figT t[0].toNat = true) (r : TokD × Int) (hr : r = resT t) :
  Calls Tryz.prog 23 #[.string t] w fun e w' => e = .returned (.tuple #[.agg #[.int .i64 r.1.kind, .string r.1.text], .int .i64 r.2]) ∧ Below w.heap.size w w' := by
 have HR : Hid (_ = _) := hr.trans (resT_fig h0 hl hf)
 have hle : spanN figU t.data.toList ≤ t.size := by have := spanN_le figU t.data.toList; rwa [toList_size] at this
 have HI : Hid (∀ W, _) := fun W => areFig t W hs
 generalize spanN figU t.data.toList = n at *
 have HC : Hid (∀ W, _) := fun W => clone_any (t.extract 0 n) W (Nat.le_trans (ext_size_le _ _ _) hs)
 clear hr hl hf
 have hle' : (n : Int) ≤ (t.size : Int) := by omega
 have B0 : Hid (Below w.heap.size w (w.alloc (.cells #[.int .i64 0, .string ⟨#[]⟩] 35))) := (Below.refl _ _).alloc (Nat.le_refl _) _
 have c0 : (w.alloc (.cells #[.int .i64 0, .string ⟨#[]⟩] 35)).cell? ⟨w.heap.size, 0, none⟩ = some (.int .i64 0) := box10 _ _ _ 0 _ rfl
 have c1 : (w.alloc (.cells #[.int .i64 0, .string ⟨#[]⟩] 35)).cell? ⟨w.heap.size, 1, none⟩ = some (.string ⟨#[]⟩) := box10 _ _ _ 1 _ rfl
 have g0 : (w.alloc (.cells #[.int .i64 0, .string ⟨#[]⟩] 35)).frozen? ⟨w.heap.size, 0, none⟩ = false := froz10 _ _ _ 0
 have g1 : (w.alloc (.cells #[.int .i64 0, .string ⟨#[]⟩] 35)).frozen? ⟨w.heap.size, 1, none⟩ = false := froz10 _ _ _ 1
 by_cases h6 : 2 < n
 ·have HV : Hid (r = noneT) := by rw [Hid, HR.out, if_pos h6]
  have d6 : (2 : Int) < (n : Int) := by omega
  clear HR h6
  go_enter Tryz.func23, Tryz.ntmps23
  go_wp2_with (go_at_call 44; refine (HI.out _).mono ?_; rintro e w1 ⟨rfl, hb1⟩; have x0 := kept10 c0 hb1; have x1 := kept10 c1 hb1; have y0 := frozk10 c0 g0 hb1; have y1 := frozk10 c1 g1 hb1; have BB : Hid (Below w.heap.size w w1) := B0.out.trans (hb1.mono B0.out.size))
  refine bodyPost_ret (by simp [results, Tryz.results23, go_sem, x0, x1]; try rfl) rfl ?_
  have hr2 := HV.out
  rw [hr2]
  exact ⟨rfl, (BB.out.setCell (Nat.le_refl _) _).setCell (Nat.le_refl _) _⟩
 ·have d6 : ¬ (2 : Int) < (n : Int) := by omega
  have HV : Hid (r = (⟨2, t.extract 0 n⟩, (n : Int))) := by rw [Hid, HR.out, if_neg h6]
  clear HR h6
  go_enter Tryz.func23, Tryz.ntmps23
  go_wp2_with (first | (go_at_call 44; refine (HI.out _).mono ?_; rintro e w1 ⟨rfl, hb1⟩; have x0 := kept10 c0 hb1; have x1 := kept10 c1 hb1; have y0 := frozk10 c0 g0 hb1; have y1 := frozk10 c1 g1 hb1; have BB : Hid (Below w.heap.size w w1) := B0.out.trans (hb1.mono B0.out.size)) | (go_at_call 47; refine (HC.out _).mono ?_; rintro e w2 ⟨rfl, hb2⟩; have x2 := kept10 x0 hb2; have x3 := kept10 x1 hb2; have y2 := frozk10 x0 y0 hb2; have y3 := frozk10 x1 y1 hb2; have BC : Hid (Below w.heap.size w w2) := BB.out.trans (hb2.mono BB.out.size)))
  refine bodyPost_ret (by simp [results, Tryz.results23, go_sem, x2, x3]; try rfl) rfl ?_
  have hr2 := HV.out
  rw [hr2]
  exact ⟨rfl, (BC.out.setCell (Nat.le_refl _) _).setCell (Nat.le_refl _) _⟩
end Go.Proofs.YtccogaoabdpfmaaGreat
