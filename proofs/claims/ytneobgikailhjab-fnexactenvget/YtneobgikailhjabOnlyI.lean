/- The program's EnvOnly: the names that are asked for, counted in a map. -/
import Derived.Test.YtneobgikailhjabEnvClone
import Derived.Test.YtneobgikailhjabEnvOnly
import Derived.Maps.OwnSet
namespace Go.Proofs.Ytneobgikailhjab
open Go.RowKit Go.Maps

/-- How often each name is asked for: above 0 just where it is one of these. -/
def AskIs (D : DataW Unit) (ss : List ByteArray) : Prop :=
  IsMap D ∧ ∀ s : ByteArray, ∃ c : Int, D.atKey (.string s.data.toList) (.lit (.int .i64 0)) = .lit (.int .i64 c) ∧ 0 ≤ c ∧ c ≤ ss.length ∧ (0 < c ↔ s ∈ ss)
theorem askIs_nil : AskIs (.map []) [] := ⟨isMap_empty, fun s => ⟨0, rfl, by omega, by simp, by simp⟩⟩
theorem askIs_next {D : DataW Unit} {ss : List ByteArray} {s : ByteArray} {c : Int} (h : AskIs D ss) (hc : D.atKey (.string s.data.toList) (.lit (.int .i64 0)) = .lit (.int .i64 c)) : AskIs (D.put (.string s.data.toList) (.lit (.int .i64 (c + 1)))) (ss ++ [s]) := by
  refine ⟨h.1.put _ _, fun t => ?_⟩
  by_cases e : t = s
  · subst e
    obtain ⟨c', h1, h2, h3, h4⟩ := h.2 t
    have hcc : c' = c := by rw [hc] at h1; simpa using h1.symm
    subst hcc
    refine ⟨c' + 1, atKey_put_same h.1 (by simp [WideAt.IsKeyLit]) _ _, by omega, by simp; omega, ?_⟩
    simp
    omega
  · obtain ⟨c', h1, h2, h3, h4⟩ := h.2 t
    refine ⟨c', ?_, h2, by simp; omega, ?_⟩
    · rw [atKey_put_other (by simpa using fun e' => e (dl_inj e'))]
      exact h1
    · rw [h4]
      simp [e]

set_option maxHeartbeats 1600000 in
set_option maxRecDepth 100000 in
theorem implEnvOnly_any (v u : Value) (xs : List VarD) (ss : List ByteArray) (w : World) (hn : xs.length ≤ 1048576) (hz : ∀ x ∈ xs, x.1.size ≤ 1048576) (hs : ss.length ≤ 1048576) (hsz : ∀ s ∈ ss, s.size ≤ 1048576) (h : VRow w v xs) (h' : SRow w u ss) :
    Calls Try.prog 13 #[v, u] w fun e w' => ∃ o, e = .returned o ∧ OwnV w.heap.size o (onlyB xs ss) w' ∧ Below w.heap.size w w' := by
  obtain ⟨i0, hi, hz0, hz1, hz2⟩ := info_parts Try.infoVar
  have HR : Hid (VRow w v xs) := h
  have HN : Hid (SRow w u ss) := h'
  have HZ : Hid (∀ x ∈ xs, x.1.size ≤ 1048576) := hz
  have HSz : Hid (∀ s ∈ ss, s.size ≤ 1048576) := hsz
  obtain ⟨a, cap, rfl⟩ := h.slice
  obtain ⟨a', cap', rfl⟩ := h'.slice
  clear h h' hz hsz
  have hmm := fun n W => run_makeMap_hint (P := Try.prog) (q := .i64) (n := n) (w := W) Try.underlying44
  go_enter Try.func13, Try.ntmps13
  go_wp2
  clear hmm
  go_loopw [16] (fun iv wr => ∃ (k : Nat) (D : DataW Unit), iv = .int .i64 k ∧ k ≤ ss.length ∧ OwnM w.heap.size k D wr ∧ AskIs D (ss.take k) ∧ Below w.heap.size w wr) (fun iv _ => ss.length - (intOf iv).toNat)
  case atStart => exact ⟨0, _, rfl, Nat.zero_le _, World.ownsMap_made _ _ _ _, askIs_nil, (Below.refl _ _).alloc (Nat.le_refl _) _⟩
  case round =>
    obtain ⟨k, D, rfl, hk, hown, hD, hb⟩ := hrel
    have HO : Hid (OwnM w.heap.size k D wr) := hown
    have HD : Hid (AskIs D (ss.take k)) := hD
    have HB : Hid (Below w.heap.size w wr) := hb
    have HNr : Hid (SRow wr (.slice a' ss.length cap') ss) := HN.out.below hb
    clear hb hown hD
    by_cases hlt : k < ss.length
    · obtain ⟨b, off, rfl, hc1⟩ := HNr.out.at hlt
      have hx := HSz.out _ (List.getElem_mem hlt)
      have hkey : keyOf Try.prog 9 (.string ss[k]) = some (.string ss[k].data.toList) := Go.WideMaps.keyOf_string_mk Try.underlying9 (by unfold maxLen; omega)
      obtain ⟨c, hrun, hat, _⟩ := World.ownsMap.lookup_int HO.out Try.law Try.underlying44 Try.underlying3 (Try.zeroInt _) hkey
      obtain ⟨c', g1, g2, g3, g4⟩ := HD.out.2 ss[k]
      have hcc : c' = c := by rw [hat] at g1; simpa using g1.symm
      subst hcc
      have hc3 : c' ≤ 1048576 := by rw [List.length_take] at g3; omega
      have HNx : Hid (AskIs (D.put (.string ss[k].data.toList) (.lit (.int .i64 (c' + 1)))) (ss.take (k + 1))) := by rw [Hid, List.take_succ_eq_append_getElem hlt]; exact askIs_next HD.out hat
      have HKey : Hid (_) := hkey
      have HWf : Hid ((Lit.int .i64 (c' + 1)).wf = true) := WalkArith.wf_i64 (by omega)
      clear hx hkey hat g1 g3 g4 HD
      go_wp2_with (at_mapUpdate; refine wpList_mapUpdate_own _ rfl _ _ _ 44 rfl 9 3 Try.law Try.underlying44 _ w.heap.size k D rfl HO.out (by unfold maxLen; omega) _ _ _ rfl rfl HKey.out _ [] (plainElem_int Try.underlying3 HWf.out) ?_)
      intro w1 hown1 hgrow1
      have R1 : Hid (OwnM w.heap.size (k + 1) (D.put (.string ss[k].data.toList) (.lit (.int .i64 (c' + 1)))) w1) := hown1
      have R2 : Hid (Below w.heap.size w w1) := HB.out.grown hgrow1 HB.out.size (fun j hj => by cases hj; exact Nat.le_refl _)
      clear hown1 hgrow1 hrun
      go_wp2
      go_roundw
      case rel => exact ⟨k + 1, _, by go_num, by omega, R1.out, HNx.out, R2.out⟩
      case measure => simp [intOf]; omega
    · obtain rfl : k = ss.length := by omega
      rw [List.take_of_length_le (Nat.le_refl _)] at HD
      have HLt : Hid (w.heap.size + 1 ≤ wr.heap.size) := World.ownsMap.lt HO.out
      go_wp2
      go_loopw [8, 28] (fun ov iv ww => ∃ j : Nat, iv = .int .i64 j ∧ j ≤ xs.length ∧ OwnV (w.heap.size + 1) ov ((xs.take j).filter (fun x => inB ss x.1)) ww ∧ OwnM w.heap.size ss.length D ww ∧ Below w.heap.size w ww) (fun _ iv _ => xs.length - (intOf iv).toNat)
      case atStart => exact ⟨0, rfl, Nat.zero_le _, World.ownsRow_made _ _ _ HLt.out (by decide) rfl, World.ownsMap.alloc HO.out _, HB.out.alloc HB.out.size _⟩
      case round =>
        obtain ⟨j, rfl, hj, hownj, hMj, hbj⟩ := hrel
        have HOj : Hid (OwnV (w.heap.size + 1) u8 ((xs.take j).filter (fun x => inB ss x.1)) wr) := hownj
        have HMj : Hid (OwnM w.heap.size ss.length D wr) := hMj
        have HBj : Hid (Below w.heap.size w wr) := hbj
        have HRj : Hid (VRow wr (.slice a xs.length cap) xs) := HR.out.below hbj
        have HLj : Hid (w.heap.size + 1 ≤ wr.heap.size) := World.ownsMap.lt hMj
        clear hownj hMj hbj HLt HO HB HNr
        by_cases hlt : j < xs.length
        · obtain ⟨b, off, rfl, hc1, hc2⟩ := HRj.out.at hlt
          have hx := HZ.out _ (List.getElem_mem hlt)
          have hkey : keyOf Try.prog 9 (.string xs[j].1) = some (.string xs[j].1.data.toList) := Go.WideMaps.keyOf_string_mk Try.underlying9 (by unfold maxLen; omega)
          have hrun0 := fun W (hM : OwnM w.heap.size ss.length D W) => World.ownsMap.lookup_int hM Try.law Try.underlying44 Try.underlying3 (Try.zeroInt _) hkey
          obtain ⟨c, hrun, hat, _⟩ := hrun0 _ (World.ownsMap.alloc HMj.out (.cells #[.string xs[j].1, .int .i64 xs[j].2] 40))
          obtain ⟨c', g1, g2, g3, g4⟩ := HD.out.2 xs[j].1
          have hcc : c' = c := by rw [hat] at g1; simpa using g1.symm
          subst hcc
          have hfl : ((xs.take j).filter (fun x => inB ss x.1)).length ≤ j := Nat.le_trans (List.length_filter_le _ _) (by rw [List.length_take]; exact Nat.min_le_left _ _)
          have HF : Hid (_ = _) := filt_next (fun x => inB ss x.1) xs j hlt
          have HC : Hid (∀ W, _) := fun W => clonedVar_any xs[j].1 xs[j].2 W hx
          generalize (xs.take j).filter (fun x => inB ss x.1) = ys at *
          cases hls : inB ss xs[j].1 with
          | true =>
            have hc0 : 0 < c' := g4.2 ((inB_iff _ _).1 hls)
            have HF2 : Hid ((xs.take (j + 1)).filter (fun x => inB ss x.1) = ys ++ [xs[j]]) := by have := HF.out; rwa [hls, if_pos rfl] at this
            clear hls HF g1 g3 g4 hat hx hkey hrun0
            go_wp2_with fail
            refine (HC.out _).mono ?_
            rintro e w3 ⟨rfl, hb3⟩
            have HB3 : Hid (Below w.heap.size w w3) := (HBj.out.alloc HBj.out.size _).trans (hb3.mono (by have := HBj.out.size; simp; omega))
            have HO3 : Hid (OwnV (w.heap.size + 1) u8 ys w3) := (OwnV.alloc HOj.out _).below hb3
            have HM3 : Hid (OwnM w.heap.size ss.length D w3) := OwnM.below (World.ownsMap.alloc HMj.out _) hb3
            have HL3 : Hid (w.heap.size + 1 ≤ w3.heap.size) := World.ownsMap.lt HM3.out
            clear hb3 hrun hc1 hc2
            go_wp2_with (at_builtin; refine wpList_append_own _ rfl _ _ 26 rfl (w.heap.size + 1) 40 i0 _ 2 24 Try.underlying26 hi hz0 hz1 hz2 rfl (by decide) _ _ _ rfl (World.ownsRow.alloc HO3.out _) ⟨w3.heap.size, 0, none⟩ 1 1 [.string xs[j].1, .int .i64 xs[j].2] rfl rfl (two_at _ _ _ _) (two_cell _ _) (by unfold maxLen; omega) (by omega) (by have h8 := HL3.out; simp; omega) ?_)
            intro v' w4 hown4 hgrow _
            have HO4 : Hid (OwnV (w.heap.size + 1) v' (ys ++ [xs[j]]) w4) := by
              rw [Hid, OwnV, vv_app, vv_one, List.length_append]
              exact hown4
            have HM4 : Hid (OwnM w.heap.size ss.length D w4) := World.ownsMap.kept (World.ownsMap.alloc HM3.out _) hgrow (fun e => by have := (HO3.out.lt _ e.symm).1; omega)
            have HB4 : Hid (Below w.heap.size w w4) := (HB3.out.alloc HB3.out.size _).grown hgrow (by have := HB3.out.size; simp; omega) (fun g hg => by have := (HO3.out.lt g hg).1; omega)
            clear hown4 hgrow
            go_wp2
            go_roundw
            case rel => exact ⟨j + 1, by go_num, by omega, by rw [HF2.out]; exact HO4.out, HM4.out, HB4.out⟩
            case measure => simp [intOf]; omega
          | false =>
            have hc0 : ¬ 0 < c' := fun h => by rw [(inB_iff _ _).2 (g4.1 h)] at hls; cases hls
            have HF2 : Hid ((xs.take (j + 1)).filter (fun x => inB ss x.1) = ys) := by have := HF.out; rwa [hls, if_neg (by simp), List.append_nil] at this
            clear hls HF g1 g3 g4 hat hx hkey hrun0
            go_wp2
            go_roundw
            case rel => exact ⟨j + 1, by go_num, by omega, by rw [HF2.out]; exact OwnV.alloc HOj.out _, World.ownsMap.alloc HMj.out _, HBj.out.alloc HBj.out.size _⟩
            case measure => simp [intOf]; omega
        · obtain rfl : j = xs.length := by omega
          rw [List.take_of_length_le (Nat.le_refl _)] at HOj
          have HOf : Hid (OwnV w.heap.size u8 (onlyB xs ss) wr) := OwnV.base HOj.out (Nat.le_succ _)
          go_wp2
          go_ret
          exact ⟨_, rfl, HOf.out, HBj.out⟩

end Go.Proofs.Ytneobgikailhjab
