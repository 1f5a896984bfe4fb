/- The specification's search from a part on. -/
import Derived.Test.YtpcfcheicdnogaaF14B
import Derived.Deep.LoopGhost
namespace Go.Proofs.Ytpcfcheicdnogaa
open Go.RowKit
set_option linter.unusedVariables false

def From14 (xs : List PartD) (at0 B : Nat) (r : Value) (w : World) : Prop := ∃ out, OwnB14 B r out w ∧ out.length = xs.length ∧ ∀ j, out.getD j false = true ↔ Pl xs at0 j

set_option maxHeartbeats 6400000 in
set_option maxRecDepth 100000 in
theorem specFrom14 (v : Value) (xs : List PartD) (at0 : Nat) (w : World) (hn : forestTot xs ≤ 1048576) (hat : at0 < xs.length) (h : RowC 5 PartE w v xs) :
    Calls Try.prog 24 #[.agg #[v], .int .i64 (at0 : Int)] w fun e w' => ∃ r, e = .returned r ∧ From14 xs at0 w.heap.size r w' ∧ Below w.heap.size w w' := by
  obtain ⟨i0, hi, hz0, hz1, hz2⟩ := info_parts Try.infoInt5
  obtain ⟨ib, hib, hb0, hb1, hb2⟩ := info_parts Try.infoB14
  have hnl : xs.length ≤ 1048576 := Nat.le_trans (rowTot_len partTot xs) hn
  have HLn : Hid (∀ i (hi : i < xs.length), _) := fun i hi => ways_len hn i hi
  have HAt : Hid (at0 < xs.length) := hat
  obtain ⟨a, cap, rfl⟩ := h.slice
  have B0 : Hid (Below w.heap.size w (w.alloc (.cells #[.slice a xs.length cap] 29))) := (Below.refl _ _).alloc (Nat.le_refl _) _
  have HR : Hid (RowC 5 PartE (w.alloc (.cells #[.slice a xs.length cap] 29)) (.slice a xs.length cap) xs) := RowC.below PartE_stable h B0.out
  have hE0 : (w.alloc (.cells #[.slice a xs.length cap] 29)).cell? ⟨w.heap.size, 0, none⟩ = some (.slice a xs.length cap) := box_at _ _ _ 0 _ rfl
  have HS0 : Hid ((w.alloc (.cells #[.slice a xs.length cap] 29)).heap.size = w.heap.size + 1) := by rw [Hid]; simp
  clear h hn hat
  go_enter Try.func24, Try.ntmps24
  go_wp2_with (at_make; refine wpList_make_full _ rfl _ _ 47 rfl (w.alloc (.cells #[.slice a xs.length cap] 29)).heap.size 4 ib _ 1 Try.underlying47 hib hb0 hb1 .i64 .i64 _ _ xs.length rfl rfl rfl rfl (by rw [hb2]; omega) (by unfold maxLen; omega) (Nat.le_refl _) ?_; intro w1 hown hg1; have HB1 : Hid (Below _ _ w1) := (Below.refl _ _).grown hg1 (Nat.le_refl _) (fun k h => by cases h); have hE1 := cell_keep hE0 HB1.out)
  rw [HS0.out] at hown
  generalize (w.alloc (.cells #[.slice a xs.length cap] 29)) = w0 at *
  have HO1 : Hid (OwnB14 w0.heap.size (.slice (some ⟨w.heap.size + 1, 0, none⟩) xs.length xs.length) (List.replicate xs.length false) w1) := by rw [Hid, HS0.out]; exact made_flags14 hown
  clear hown hg1
  have HQ1 : Hid (OwnZ w0.heap.size (.slice (some ⟨w1.heap.size, 0, none⟩) 1 1) [(at0 : Int)] (w1.alloc (.cells #[.int .i64 (at0 : Int)] 3))) := World.ownsRow_lit w1 #[.int .i64 (at0 : Int)] 1 HB1.out.size (by decide) rfl
  have HB2 : Hid (Below w0.heap.size w0 (w1.alloc (.cells #[.int .i64 (at0 : Int)] 3))) := HB1.out.alloc HB1.out.size _
  have HO2 : Hid (OwnB14 w0.heap.size (.slice (some ⟨w.heap.size + 1, 0, none⟩) xs.length xs.length) (List.replicate xs.length false) (w1.alloc (.cells #[.int .i64 (at0 : Int)] 3))) := World.ownsRow.alloc HO1.out _
  clear HO1
  go_wp2
  go_loopg [6] (2 * xs.length + 1) (fun gg qv wr => ∃ (out : List Bool) (q : List Int), meas14 out q ≤ gg ∧ gg ≤ 2 * xs.length + 1 ∧ FS xs at0 out q (fun _ => False) ∧ OwnB14 w0.heap.size (.slice (some ⟨w.heap.size + 1, 0, none⟩) xs.length xs.length) out wr ∧ OwnZ w0.heap.size qv q wr ∧ Below w0.heap.size w0 wr)
  case atStart => exact ⟨_, _, Nat.le_of_eq (meas14_start _ _), Nat.le_refl _, FS.start xs at0 HAt.out, HO2.out, HQ1.out, HB2.out⟩
  case round =>
    obtain ⟨out, q, hM, hG, hF, hob, hoz, hbw⟩ := hrel
    obtain ⟨wa, rfl⟩ : ∃ W, W = wr := ⟨wr, rfl⟩
    have HM : Hid (meas14 out q ≤ gk) := hM
    have HG : Hid (gk ≤ 2 * xs.length + 1) := hG
    have HF : Hid (FS xs at0 out q (fun _ => False)) := hF
    have HOb : Hid (OwnB14 w0.heap.size (.slice (some ⟨w.heap.size + 1, 0, none⟩) xs.length xs.length) out wa) := hob
    have HOz : Hid (OwnZ w0.heap.size u6 q wa) := hoz
    have HB : Hid (Below w0.heap.size w0 wa) := hbw
    have hE := cell_keep hE0 hbw
    clear hM hG hF hob hoz hbw
    cases q with
    | nil =>
      obtain ⟨az, cz, rfl⟩ := HOz.out.row.slice
      have i0' : ¬ (0 : Int) < ((([] : List Int).length : Nat) : Int) := by simp
      have HBf : Hid (Below w.heap.size w wa) := B0.out.trans (HB.out.mono B0.out.size)
      have HOf : Hid (OwnB14 w.heap.size (.slice (some ⟨w.heap.size + 1, 0, none⟩) xs.length xs.length) out wa) := HOb.out.base B0.out.size
      have HFf : Hid (∀ j, out.getD j false = true ↔ Pl xs at0 j) := fun j => HF.out.fin j
      have HLf : Hid (out.length = xs.length) := HF.out.len
      go_wp2
      go_ret
      exact ⟨_, rfl, ⟨out, HOf.out, HLf.out, HFf.out⟩, HBf.out⟩
    | cons z q =>
      obtain ⟨x, rfl, hx, hp, hF2⟩ := HF.out.pop
      have HX : Hid (x = at0 ∨ Pl xs at0 x) := hp
      have HF2 : Hid (FS xs at0 out q (fun i => i = x)) := hF2
      have HM2 : Hid (meas14 out q + 1 ≤ gk) := by have := HM.out; rw [Hid]; simp only [meas14, List.length_cons] at this ⊢; omega
      have hql : q.length ≤ 2097153 := by have h1 := HM.out; have h2 := HG.out; simp only [meas14, List.length_cons] at h1; omega
      obtain ⟨az, cz, rfl⟩ := HOz.out.row.slice
      obtain ⟨bz, oz, rfl, hcz⟩ := HOz.out.row.at (k := 0) (by simp)
      rw [Nat.add_zero] at hcz
      simp only [List.getElem_cons_zero] at hcz
      have i1 : (0 : Int) < ((((x : Int) :: q).length : Nat) : Int) := by simp
      obtain ⟨b, off, vs, rfl, _, hc, hEl⟩ := HR.out.at hx
      obtain ⟨r0, r1, rfl, hA, hI⟩ := hEl
      have n4 : w0.cell? ⟨b, off + x * 5 + 4, none⟩ = some r1 := hc 4 (by simp)
      have hkl := (HLn.out x hx).1
      have HKl : Hid (∀ j (hj : j < xs[x].ways.length), xs[x].ways[j].kids.length ≤ 1048576) := (HLn.out x hx).2.2
      obtain ⟨aw, cw, rfl⟩ := hI.slice
      have HI : Hid (RowC 2 WayE w0 (.slice aw xs[x].ways.length cw) xs[x].ways) := hI
      have HIn : Hid (∀ W, _) := fun W => in14_any xs.length x W
      rw [place14_nat _ _ hx] at HIn
      have hsz : w0.heap.size ≤ wa.heap.size := HB.out.size
      have hcap : q.length + 1 ≤ cz := by have := own_cap14 HOz.out; simpa using this
      have i2 : (x : Int) < (xs.length : Int) := by omega
      have wk1 : IntKind.i64.wrap ((xs.length : Int) - 1) = (xs.length : Int) - 1 := by rw [IntKind.wrap_i64]; omega
      clear hI hc hA hp hF2
      have key : ∃ tv : Value, ∀ o, IRow (wa.alloc o) tv q := ⟨_, fun o => irow_tail14 (HOz.out.row.below ((Below.refl _ _).alloc (Nat.le_refl _) o))⟩
      have HT : Hid (∀ o, IRow (wa.alloc o) (.slice (some ⟨bz, oz + 1, none⟩) q.length (cz - 1)) q) := fun o => irow_tail14 (HOz.out.row.below ((Below.refl _ _).alloc (Nat.le_refl _) o))
      have HT0 : Hid (∀ o, IRow (wa.alloc o) (.slice (some ⟨bz, oz, none⟩) ([] : List Int).length 0) []) := fun o => ⟨_, _, rfl, fun h => (by cases h), fun h => absurd h (by simp)⟩
      clear key
      rcases Nat.lt_or_ge 1 cz with hc1 | hc1
      case' inl =>
        have c1 : ¬ cz = 1 := by omega
        clear hcap hc1 HT0
        go_wp2_with (at_builtin; refine app14 rfl _ _ 36 rfl w0.heap.size 3 i0 _ Try.underlying36 hi hz0 hz1 hz2 rfl _ 0 [] rfl (World.ownsRow_made wa #[] 0 hsz (by decide) rfl) q _ _ rfl (HT.out _) (by omega) (by simp; omega) ?_; intro v3 w3 hown3 hgrow3; have HB3 : Hid (Below wa.heap.size wa w3) := fresh_grow14 hgrow3; have O3 : Hid (OwnZ w0.heap.size v3 q w3) := (by rw [Hid, OwnZ]; simpa using hown3); have hE3 := cell_keep hE HB3.out; clear hown3 hgrow3)
      case' inr =>
        have c1 : cz = 1 := by omega
        have hq0 : q = [] := List.length_eq_zero_iff.1 (by omega)
        have HQ0 : Hid (q = []) := hq0
        clear hcap hc1 HT
        go_wp2_with (at_builtin; refine app14 rfl _ _ 36 rfl w0.heap.size 3 i0 _ Try.underlying36 hi hz0 hz1 hz2 rfl _ 0 [] rfl (World.ownsRow_made wa #[] 0 hsz (by decide) rfl) ([] : List Int) _ _ rfl (HT0.out _) (by simp) (by simp; omega) ?_; intro v3 w3 hown3 hgrow3; have HB3 : Hid (Below wa.heap.size wa w3) := fresh_grow14 hgrow3; have O3 : Hid (OwnZ w0.heap.size v3 q w3) := (by rw [Hid, OwnZ]; simpa [HQ0.out] using hown3); have hE3 := cell_keep hE HB3.out; clear hown3 hgrow3)
        clear hq0 HQ0
      all_goals
        have HO3 : Hid (OwnB14 w0.heap.size (.slice (some ⟨w.heap.size + 1, 0, none⟩) xs.length xs.length) out w3) := HOb.out.below HB3.out
        have HB4 : Hid (Below w0.heap.size w0 w3) := HB.out.trans (HB3.out.mono HB.out.size)
        clear HOb HOz HB HB3 hE hcz
        refine (HIn.out _).mono ?_
        rintro e wq ⟨rfl, hw⟩
        rw [hw]
        clear hw
        go_wp2
        go_loopw [6, 8] (fun qv jv wr => ∃ (j : Nat) (out : List Bool) (q : List Int), jv = .int .i64 j ∧ j ≤ xs[x].ways.length ∧ FS xs at0 out q (fun i => i = x) ∧ meas14 out q + 1 ≤ gk ∧ Seen xs.length out (flat14 (xs[x].ways.take j)) ∧ OwnB14 w0.heap.size (.slice (some ⟨w.heap.size + 1, 0, none⟩) xs.length xs.length) out wr ∧ OwnZ w0.heap.size qv q wr ∧ Below w0.heap.size w0 wr) (fun _ jv _ => xs[x].ways.length - (intOf jv).toNat)
        case atStart => exact ⟨0, out, q, rfl, Nat.zero_le _, HF2.out, HM2.out, Seen.nil _ _, HO3.out, O3.out, HB4.out⟩
        case round =>
          clear HF2 HM2 HO3 O3 HB4 hE3 HM HF
          obtain ⟨j, out, q, rfl, hj, hF, hM, hS, hob, hoz, hbw⟩ := hrel
          obtain ⟨wb, rfl⟩ : ∃ W, W = wr := ⟨wr, rfl⟩
          have HF : Hid (FS xs at0 out q (fun i => i = x)) := hF
          have HM : Hid (meas14 out q + 1 ≤ gk) := hM
          have HS : Hid (Seen xs.length out (flat14 (xs[x].ways.take j))) := hS
          have HOb : Hid (OwnB14 w0.heap.size (.slice (some ⟨w.heap.size + 1, 0, none⟩) xs.length xs.length) out wb) := hob
          have HOz : Hid (OwnZ w0.heap.size u6 q wb) := hoz
          have HB : Hid (Below w0.heap.size w0 wb) := hbw
          have hE := cell_keep hE0 hbw
          have n4b := cell_keep n4 hbw
          clear hF hM hS hob hoz hbw
          by_cases hjl : j < xs[x].ways.length
          · obtain ⟨bk, offk, vsk, rfl, _, hck, hEk⟩ := HI.out.at hjl
            obtain ⟨rk, rfl, hIk⟩ := hEk
            have m1 : w0.cell? ⟨bk, offk + j * 2 + 1, none⟩ = some rk := hck 1 (by simp)
            have m1b := cell_keep m1 HB.out
            have hkk := HKl.out j hjl
            have HFn : Hid (flat14 (xs[x].ways.take (j + 1)) = flat14 (xs[x].ways.take j) ++ xs[x].ways[j].kids) := flat14_next _ j hjl
            have HEd : Hid (∀ z ∈ xs[x].ways[j].kids, ∀ y : Nat, z = (y : Int) → y < xs.length → Ed xs x y) := fun z hz y hy hl => ⟨hx, hl, by rw [← hy]; exact List.mem_flatten.2 ⟨_, List.mem_map.2 ⟨_, List.getElem_mem hjl, rfl⟩, hz⟩⟩
            obtain ⟨ak, ck, rfl⟩ := hIk.slice
            have HIk : Hid (IRow w0 (.slice ak xs[x].ways[j].kids.length ck) xs[x].ways[j].kids) := hIk
            have i5 : (j : Int) < (xs[x].ways.length : Int) := by omega
            clear hIk hck
            generalize xs[x].ways[j].kids = ks at *
            go_wp2
            go_loopw [6, 10] (fun qv tv wr => ∃ (t : Nat) (out : List Bool) (q : List Int), tv = .int .i64 t ∧ t ≤ ks.length ∧ FS xs at0 out q (fun i => i = x) ∧ meas14 out q + 1 ≤ gk ∧ Seen xs.length out (flat14 (xs[x].ways.take j)) ∧ Seen xs.length out (ks.take t) ∧ OwnB14 w0.heap.size (.slice (some ⟨w.heap.size + 1, 0, none⟩) xs.length xs.length) out wr ∧ OwnZ w0.heap.size qv q wr ∧ Below w0.heap.size w0 wr) (fun _ tv _ => ks.length - (intOf tv).toNat)
            case atStart => exact ⟨0, out, q, rfl, Nat.zero_le _, HF.out, HM.out, HS.out, Seen.nil _ _, HOb.out, HOz.out, HB.out⟩
            case round =>
              clear HF HM HS HOb HOz HB hE n4b m1b
              obtain ⟨t, out, q, rfl, ht, hF, hM, hS, hK, hob, hoz, hbw⟩ := hrel
              obtain ⟨wc, rfl⟩ : ∃ W, W = wr := ⟨wr, rfl⟩
              have HF : Hid (FS xs at0 out q (fun i => i = x)) := hF
              have HM : Hid (meas14 out q + 1 ≤ gk) := hM
              have HS : Hid (Seen xs.length out (flat14 (xs[x].ways.take j))) := hS
              have HK : Hid (Seen xs.length out (ks.take t)) := hK
              have HOb : Hid (OwnB14 w0.heap.size (.slice (some ⟨w.heap.size + 1, 0, none⟩) xs.length xs.length) out wc) := hob
              have HOz : Hid (OwnZ w0.heap.size u6 q wc) := hoz
              have HB : Hid (Below w0.heap.size w0 wc) := hbw
              have hE := cell_keep hE0 hbw
              clear hF hM hS hK hob hoz hbw
              by_cases htl : t < ks.length
              · obtain ⟨bz2, offz, rfl, hcz0⟩ := HIk.out.at htl
                have hcz2 := cell_keep hcz0 HB.out
                have HI1 : Hid (∀ W, _) := fun W => in14_any xs.length ks[t] W
                have HEt : Hid (∀ y : Nat, ks[t] = (y : Int) → y < xs.length → Ed xs x y) := HEd.out _ (List.getElem_mem htl)
                have HKn : Hid (∀ o2 : List Bool, Seen xs.length o2 (ks.take t) → (place14 xs.length ks[t] = true → o2.getD (ks[t]).toNat false = true) → Seen xs.length o2 (ks.take (t + 1))) := fun o2 h1 h2 => by
                  rw [List.take_succ_eq_append_getElem htl]
                  exact h1.add (fun z hz => by rw [List.mem_singleton.1 hz]; exact h2)
                have i6 : (t : Int) < (ks.length : Int) := by omega
                generalize ks[t] = z at *
                cases hz : place14 xs.length z with
                | false =>
                  have HKs : Hid (Seen xs.length out (ks.take (t + 1))) := HKn.out _ HK.out (fun h => by rw [hz] at h; cases h)
                  rw [hz] at HI1
                  clear hz HKn HEt
                  go_wp2
                  go_quiet ((go_at_call 30; refine Calls.quiet_of_same (HI1.out _)))
                  go_wp2
                  go_roundw
                  case rel => exact ⟨t + 1, out, q, by go_num, by omega, HF.out, HM.out, HS.out, HKs.out, HOb.out, HOz.out, bel_drewN HB.out _⟩
                  case measure => simp [intOf]; omega
                | true =>
                  obtain ⟨y, rfl, hy⟩ := place14_of hz
                  have HEy : Hid (Ed xs x y) := HEt.out y rfl hy
                  have hyl : y < out.length := by rw [HF.out.len]; exact hy
                  obtain ⟨c1, c2⟩ := HOb.out.at hyl
                  rw [hz] at HI1
                  have i7 : (y : Int) < (xs.length : Int) := by omega
                  have HKn2 : Hid (∀ o2 : List Bool, Seen xs.length o2 (ks.take t) → o2.getD y false = true → Seen xs.length o2 (ks.take (t + 1))) := fun o2 h1 h2 => HKn.out o2 h1 (fun _ => by rw [Int.toNat_natCast]; exact h2)
                  clear hz HKn HEt hyl
                  cases hb : out.getD y false with
                  | true =>
                    rw [hb] at c1
                    have HKs : Hid (Seen xs.length out (ks.take (t + 1))) := HKn2.out _ HK.out hb
                    clear HKn2 hb
                    go_wp2
                    go_quiet ((go_at_call 30; refine Calls.quiet_of_same (HI1.out _)))
                    go_wp2
                    go_roundw
                    case rel => exact ⟨t + 1, out, q, by go_num, by omega, HF.out, HM.out, HS.out, HKs.out, HOb.out, HOz.out, bel_drewN HB.out _⟩
                    case measure => simp [intOf]; omega
                  | false =>
                    rw [hb] at c1
                    have HBb : Hid (out.getD y false = false) := hb
                    obtain ⟨a6, c6, rfl⟩ := HOz.out.row.slice
                    clear hb
                    go_wp2
                    go_quiet ((go_at_call 30; refine Calls.quiet_of_same (HI1.out _)))
                    have bd := bel_drewN (Below.refl wc.heap.size wc) nq
                    have HOd : Hid (OwnB14 w0.heap.size (.slice (some ⟨w.heap.size + 1, 0, none⟩) xs.length xs.length) out (wc.drewN nq)) := HOb.out.below bd
                    have HZd : Hid (OwnZ w0.heap.size (.slice a6 q.length c6) q (wc.drewN nq)) := HOz.out.below bd
                    have HBd : Hid (Below w0.heap.size w0 (wc.drewN nq)) := bel_drewN HB.out nq
                    clear bd hE hcz2 c1 c2 HI1 HOb HOz HB n4
                    generalize wc.drewN nq = wd at *
                    have hcz3 := cell_keep hcz0 HBd.out
                    have hyl : y < out.length := by rw [HF.out.len]; exact hy
                    obtain ⟨c1, c2⟩ := HOd.out.at hyl
                    have HO2 : Hid (OwnB14 w0.heap.size (.slice (some ⟨w.heap.size + 1, 0, none⟩) xs.length xs.length) (out.set y true) (wd.setCell ⟨w.heap.size + 1, y, none⟩ (.bool true))) := HOd.out.set y true
                    have HZ2 : Hid (OwnZ w0.heap.size (.slice a6 q.length c6) q (wd.setCell ⟨w.heap.size + 1, y, none⟩ (.bool true))) := keepZ14_set HZd.out HOd.out y _
                    have HB2 : Hid (Below w0.heap.size w0 (wd.setCell ⟨w.heap.size + 1, y, none⟩ (.bool true))) := HBd.out.setCell (by rw [HS0.out]; exact Nat.le_refl _) _
                    have hcz4 := cell_keep hcz0 HB2.out
                    have hq2 : q.length ≤ 2097153 := by have h1 := HM.out; have h2 := HG.out; simp only [meas14] at h1; omega
                    have HF2 : Hid (FS xs at0 (out.set y true) (q ++ [(y : Int)]) (fun i => i = x)) := HF.out.put HX.out HEy.out
                    have HM2 : Hid (meas14 (out.set y true) (q ++ [(y : Int)]) + 1 ≤ gk) := by have h1 := meas14_put (q := q) hyl HBb.out (y : Int); have h2 := HM.out; rw [Hid]; omega
                    have HS2 : Hid (Seen xs.length (out.set y true) (flat14 (xs[x].ways.take j))) := HS.out.set hyl
                    have HK2 : Hid (Seen xs.length (out.set y true) (ks.take (t + 1))) := HKn2.out _ (HK.out.set hyl) (by rw [getD_set14 _ _ _ hyl, if_pos rfl])
                    clear HF HM HS HK HKn2 HBb HEy hcz0
                    go_wp2_with (at_builtin; refine wpList_append_own _ rfl _ _ 36 rfl w0.heap.size 3 i0 _ 1 8 Try.underlying36 hi hz0 hz1 hz2 rfl (by decide) _ _ _ rfl (World.ownsRow.alloc HZ2.out _) ⟨_, 0, none⟩ 1 1 [.int .i64 (y : Int)] rfl rfl (cell_one_set14 _ _ _ _ _) (one_cell14 _) (by unfold maxLen; omega) (by omega) (by have h8 := HB2.out.size; simp at h8 ⊢; omega) ?_)
                    intro v' w2 hown2 hgrow _
                    have R := snoc14 hown2 hgrow HZ2.out HO2.out HB2.out (Nat.le_refl _) (by have h8 := HB2.out.size; exact h8)
                    clear hown2 hgrow HZ2 HO2 HB2 HOd HZd HBd hcz3 hcz4 c1 c2
                    go_wp2
                    go_roundw
                    case rel => exact ⟨t + 1, _, _, by go_num, by omega, HF2.out, HM2.out, HS2.out, HK2.out, R.2.1, R.1, R.2.2⟩
                    case measure => simp [intOf]; omega
              · obtain rfl : t = ks.length := by omega
                have HKe : Hid (Seen xs.length out (flat14 (xs[x].ways.take (j + 1)))) := by
                  have := HK.out
                  rw [List.take_length] at this
                  rw [Hid, HFn.out]
                  exact HS.out.add this
                have i6 : ¬ (ks.length : Int) < (ks.length : Int) := by omega
                go_wp2
                go_roundw
                case rel => exact ⟨j + 1, out, q, by go_num, by omega, HF.out, HM.out, HKe.out, HOb.out, HOz.out, HB.out⟩
                case measure => simp [intOf]; omega
          · obtain rfl : j = xs[x].ways.length := by omega
            have HSe : Hid (Seen xs.length out (flat14 xs[x].ways)) := by
              have := HS.out
              rwa [List.take_length] at this
            have HFe : Hid (FS xs at0 out q (fun _ => False)) := HF.out.done hx HSe.out
            have hgk : gk - 1 < gk := by have := HM.out; omega
            have i5 : ¬ (xs[x].ways.length : Int) < (xs[x].ways.length : Int) := by omega
            go_wp2
            go_roundg (gk - 1)
            case rel => exact ⟨out, q, by have := HM.out; omega, by have := HG.out; omega, HFe.out, HOb.out, HOz.out, HB.out⟩
            case measure => exact hgk

end Go.Proofs.Ytpcfcheicdnogaa
