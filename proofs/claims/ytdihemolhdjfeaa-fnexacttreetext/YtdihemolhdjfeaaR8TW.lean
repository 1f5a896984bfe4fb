/- The program's TreeText. -/
import Derived.Test.YtdihemolhdjfeaaR8TI
import Derived.Laws.EntriesVeiled
namespace Go.Proofs.Ytdihemolhdjfeaa
open Go.RowKit
set_option linter.unusedVariables false

set_option maxHeartbeats 6400000 in
set_option maxRecDepth 100000 in
theorem implTreeText_any (gv v : Value) (g : List RuleD) (xs : List TNodeD) (w : World) (hg : grammarTot g ≤ 1048576) (hn : treeTot xs ≤ 1048576) (h' : RowC 3 RuleE w gv g) (h : RowC 6 TreeNodeE w v xs) :
    Calls Try.prog 10 #[.agg #[gv], .agg #[v]] w fun e w' => e = .returned (.string (treeTextB g xs)) ∧ Below w.heap.size w w' := by
  have hnl : xs.length ≤ 1048576 := Nat.le_trans (rowTot_len treeNodeTot xs) hn
  have hgl : g.length ≤ 1048576 := Nat.le_trans (rowTot_len ruleTot g) hg
  have HKn : Hid (∀ i (h : i < xs.length), xs[i].kids.length ≤ 1048576) := fun i h => by
    have h1 := rowTot_mem treeNodeTot (List.getElem_mem h)
    have h2 : treeNodeTot xs[i] = xs[i].args.length + xs[i].kids.length := rfl
    have h3 : treeTot xs = rowTot treeNodeTot xs := rfl
    omega
  obtain ⟨a, cap, rfl⟩ := h.slice
  obtain ⟨ag, cg, rfl⟩ := h'.slice
  have B0 : Hid (Below w.heap.size w ((w.alloc (.cells #[.slice ag g.length cg] 33)).alloc (.cells #[.slice a xs.length cap] 37))) := ((Below.refl _ _).alloc (Nat.le_refl _) _).alloc (by simp) _
  have HR : Hid (RowC 6 TreeNodeE ((w.alloc (.cells #[.slice ag g.length cg] 33)).alloc (.cells #[.slice a xs.length cap] 37)) (.slice a xs.length cap) xs) := RowC.below TreeNodeE_stable h B0.out
  have HG : Hid (RowC 3 RuleE ((w.alloc (.cells #[.slice ag g.length cg] 33)).alloc (.cells #[.slice a xs.length cap] 37)) (.slice ag g.length cg) g) := RowC.below RuleE_stable h' B0.out
  have e0 : ((w.alloc (.cells #[.slice ag g.length cg] 33)).alloc (.cells #[.slice a xs.length cap] 37)).cell? ⟨w.heap.size, 0, none⟩ = some (.slice ag g.length cg) := box_two _ _ _ _ _ 0 _ rfl
  have e1 : ((w.alloc (.cells #[.slice ag g.length cg] 33)).alloc (.cells #[.slice a xs.length cap] 37)).cell? ⟨w.heap.size + 1, 0, none⟩ = some (.slice a xs.length cap) := box_two' _ _ _ _ _ 0 _ rfl
  have HZg : Hid (grammarTot g ≤ 1048576) := hg
  have HZ : Hid (treeTot xs ≤ 1048576) := hn
  clear h h' hn hg
  go_enter Try.func10, Try.ntmps10
  go_wp2_with fail
  generalize (w.alloc (.cells #[.slice ag g.length cg] 33)).alloc (.cells #[.slice a xs.length cap] 37) = w0 at *
  refine (mayTold_any _ _ g xs _ HZg.out HZ.out HG.out HR.out).mono ?_
  rintro e w1 ⟨rfl, hb1⟩
  have B1 : Hid (Below w.heap.size w w1) := B0.out.trans (hb1.mono B0.out.size)
  have f0 := cell_keep e0 hb1
  have f1 := cell_keep e1 hb1
  have HR1 : Hid (RowC 6 TreeNodeE w1 (.slice a xs.length cap) xs) := RowC.below TreeNodeE_stable HR.out hb1
  have HG1 : Hid (RowC 3 RuleE w1 (.slice ag g.length cg) g) := RowC.below RuleE_stable HG.out hb1
  clear hb1 e0 e1 B0 HR HG
  cases hm : mayB g xs with
  | false =>
    have HTe : Hid (treeTextB g xs = ⟨#[]⟩) := treeTextB_no hm
    clear hm
    go_wp2
    go_ret
    exact ⟨by rw [HTe.out]; rfl, B1.out⟩
  | true =>
    obtain ⟨zs, hT, hx0, hte⟩ := treeTextB_yes hm
    have HT : Hid (Told g zs xs) := hT
    have HTe : Hid (treeTextB g xs = zs.getD (xs.length - 1) ⟨#[]⟩) := hte
    have hz2 := (hT.2 (xs.length - 1) (by omega)).2.2.2
    have hwx : IntKind.i64.wrap ((xs.length : Int) - 1) = ((xs.length - 1 : Nat) : Int) := by rw [IntKind.wrap_i64]; omega
    clear hm hT hte
    have B2 : Hid (Below w1.heap.size w1 ((w1.alloc (.cells #[.pointer none, .slice none 0 0] 60)).alloc (.cells #[.func (.func 21) #[] #[.pointer (some ⟨w.heap.size + 1, 0, none⟩), .pointer (some ⟨w1.heap.size, 0, none⟩), .pointer (some ⟨w.heap.size, 0, none⟩), .pointer (some ⟨w1.heap.size + 1, 0, none⟩)]] 61))) := ((Below.refl _ _).alloc (Nat.le_refl _) _).alloc (by simp) _
    have f2 := cell_keep f1 B2.out
    have HIB : Hid (Lib.IsBuilder 60 5 w1.heap.size w1.heap.size (Lib.strCells ⟨#[]⟩) ((w1.alloc (.cells #[.pointer none, .slice none 0 0] 60)).alloc (.cells #[.func (.func 21) #[] #[.pointer (some ⟨w.heap.size + 1, 0, none⟩), .pointer (some ⟨w1.heap.size, 0, none⟩), .pointer (some ⟨w.heap.size, 0, none⟩), .pointer (some ⟨w1.heap.size + 1, 0, none⟩)]] 61))) := isB_alloc (Lib.fresh_isBuilder _ _ w1) _
    have HFn : Hid (((w1.alloc (.cells #[.pointer none, .slice none 0 0] 60)).alloc (.cells #[.func (.func 21) #[] #[.pointer (some ⟨w.heap.size + 1, 0, none⟩), .pointer (some ⟨w1.heap.size, 0, none⟩), .pointer (some ⟨w.heap.size, 0, none⟩), .pointer (some ⟨w1.heap.size + 1, 0, none⟩)]] 61)).heap[w1.heap.size + 1]? = some (.cells #[tellV (w.heap.size + 1) w1.heap.size w.heap.size (w1.heap.size + 1)] 61)) := by
      have hsz2 : (w1.alloc (.cells #[.pointer none, .slice none 0 0] 60)).heap.size = w1.heap.size + 1 := by simp
      rw [Hid, ← hsz2]
      exact heap_alloc_new _ _
    go_wp2_with fail
    generalize ((w1.alloc (.cells #[.pointer none, .slice none 0 0] 60)).alloc (.cells #[.func (.func 21) #[] #[.pointer (some ⟨w.heap.size + 1, 0, none⟩), .pointer (some ⟨w1.heap.size, 0, none⟩), .pointer (some ⟨w.heap.size, 0, none⟩), .pointer (some ⟨w1.heap.size + 1, 0, none⟩)]] 61)) = W2 at *
    refine (tell_any HT.out hnl hgl HKn rfl f1 f0 HR1.out HG1.out (xs.length - 1) (by omega) ⟨#[]⟩ _ (by rw [show (⟨#[]⟩ : ByteArray).size = 0 from rfl]; omega) HIB.out HFn.out B2.out).mono ?_
    rintro e w3 ⟨rfl, hB3, hb3, _⟩
    rw [nil_ba, ← HTe.out, Lib.strCells_eq] at hB3
    have HB3 : Hid (Lib.IsBuilder 60 5 w1.heap.size w1.heap.size (Lib.byteCells (treeTextB g xs).data.toList) w3) := hB3
    have BB3 : Hid (Below w1.heap.size w1 w3) := B2.out.trans hb3
    clear hB3 hb3 f2
    go_wp2_with fail
    refine (Try.Builder_String_any w1.heap.size w1.heap.size _ w3 HB3.out BB3.out.size).mono ?_
    rintro e w4 ⟨rfl, hb4⟩
    have B4 : Hid (Below w.heap.size w w4) := B1.out.trans ((BB3.out.trans hb4).mono B1.out.size)
    have HS : Hid ((⟨(treeTextB g xs).data.toList.toArray⟩ : ByteArray) = treeTextB g xs) := rfl
    rw [HS.out]
    clear hb4
    go_wp2
    go_ret
    exact ⟨rfl, B4.out⟩

end Go.Proofs.Ytdihemolhdjfeaa
