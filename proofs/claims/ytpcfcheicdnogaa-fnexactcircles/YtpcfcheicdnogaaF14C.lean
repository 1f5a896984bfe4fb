/- The program's comeTo and Ambiguous. -/
import Derived.Test.YtpcfcheicdnogaaF14K
import Derived.Maps.AppendAt
namespace Go.Proofs.Ytpcfcheicdnogaa
open Go.RowKit
set_option linter.unusedVariables false

def Come14 (xs : List PartD) (pl : List Int) : Prop := pl.length ≤ xs.length ∧ (∀ z ∈ pl, ∃ k : Nat, z = (k : Int) ∧ k < xs.length ∧ (k = 0 ∨ Pl xs 0 k)) ∧ ∀ k : Nat, 0 < xs.length → (k = 0 ∨ Pl xs 0 k) → (k : Int) ∈ pl
def ComeP (xs : List PartD) (B : Nat) (r : Value) (w : World) : Prop := ∃ pl, OwnZ B r pl w ∧ Come14 xs pl
theorem keep7 {W W' : World} {a0 a1 a2 a3 a4 a5 a6 : Addr} {v0 v1 v2 v3 v4 v5 v6 : Value} (h : W.cell? a0 = some v0 ∧ W.cell? a1 = some v1 ∧ W.cell? a2 = some v2 ∧ W.cell? a3 = some v3 ∧ W.cell? a4 = some v4 ∧ W.cell? a5 = some v5 ∧ W.cell? a6 = some v6) (hb : Below W.heap.size W W') : W'.cell? a0 = some v0 ∧ W'.cell? a1 = some v1 ∧ W'.cell? a2 = some v2 ∧ W'.cell? a3 = some v3 ∧ W'.cell? a4 = some v4 ∧ W'.cell? a5 = some v5 ∧ W'.cell? a6 = some v6 :=
  ⟨cell_keep h.1 hb, cell_keep h.2.1 hb, cell_keep h.2.2.1 hb, cell_keep h.2.2.2.1 hb, cell_keep h.2.2.2.2.1 hb, cell_keep h.2.2.2.2.2.1 hb, cell_keep h.2.2.2.2.2.2 hb⟩
theorem apart14 {B B' : Nat} {kv pv v' : Value} {ks pl : List Int} {W w2 : World} {ob : Obj} {m : Nat} (hm : W.heap.size ≤ m) (hk : OwnZ B kv ks W) (hne : kv.ownBlock = none ∨ kv.ownBlock ≠ pv.ownBlock) (hg : (W.alloc ob).grownBy w2 pv.ownBlock) (hat : v'.ownBlock = pv.ownBlock ∨ v'.ownBlock = some m) : OwnZ B kv ks w2 ∧ (kv.ownBlock = none ∨ kv.ownBlock ≠ v'.ownBlock) := by
  refine ⟨World.ownsRow.kept (World.ownsRow.alloc hk ob) hg hne, ?_⟩
  rcases hne with hne | hne
  · exact .inl hne
  · rcases hat with hat | hat
    · rw [hat]; exact .inr hne
    · cases hv : kv.ownBlock with
      | none => exact .inl rfl
      | some k =>
        have h1 := (World.ownsRow.lt hk k hv).2
        rw [hat]
        refine .inr (fun e => ?_)
        have e2 : k = m := Option.some.inj e
        omega
theorem apart14_new {B B' : Nat} {kv pv : Value} {ks pl : List Int} {wa w3 : World} (hk : OwnZ B kv ks w3) (hp : OwnZ B' pv pl wa) (hB : wa.heap.size ≤ B) : kv.ownBlock = none ∨ kv.ownBlock ≠ pv.ownBlock := by
  cases hv : kv.ownBlock with
  | none => exact .inl rfl
  | some k =>
    have h1 := (World.ownsRow.lt hk k hv).1
    refine .inr (fun e => ?_)
    have h2 := (World.ownsRow.lt hp k e.symm).2
    omega

set_option maxHeartbeats 6400000 in
set_option maxRecDepth 100000 in
theorem comeTo14 (v : Value) (xs : List PartD) (w : World) (hn : forestTot xs ≤ 1048576) (h : RowC 5 PartE w v xs) :
    Calls Try.prog 27 #[.agg #[v]] w fun e w' => ∃ r, e = .returned r ∧ ComeP xs w.heap.size r w' ∧ Below w.heap.size w w' := by
  obtain ⟨i0, hi, hz0, hz1, hz2⟩ := info_parts Try.infoInt5
  obtain ⟨ib, hib, hb0, hb1, hb2⟩ := info_parts Try.infoB14
  have HN : Hid (forestTot xs ≤ 1048576) := hn
  have hnl : xs.length ≤ 1048576 := Nat.le_trans (rowTot_len partTot xs) hn
  obtain ⟨a, cap, rfl⟩ := h.slice
  have B0 : Hid (Below w.heap.size w (w.alloc (.cells #[.slice a xs.length cap] 29))) := (Below.refl _ _).alloc (Nat.le_refl _) _
  have HR : Hid (RowC 5 PartE (w.alloc (.cells #[.slice a xs.length cap] 29)) (.slice a xs.length cap) xs) := RowC.below PartE_stable h B0.out
  have hE0 : (w.alloc (.cells #[.slice a xs.length cap] 29)).cell? ⟨w.heap.size, 0, none⟩ = some (.slice a xs.length cap) := box_at _ _ _ 0 _ rfl
  have HS0 : Hid ((w.alloc (.cells #[.slice a xs.length cap] 29)).heap.size = w.heap.size + 1) := by rw [Hid]; simp
  clear h hn
  by_cases hz : xs.length = 0
  · have HV : Hid (Come14 xs []) := ⟨Nat.zero_le _, fun z hz => (by cases hz), fun k h0 => (by omega)⟩
    have b0 : ((xs.length : Int) == 0) = true := by simp [hz]
    clear hz
    go_enter Try.func27, Try.ntmps27
    go_wp2
    go_ret
    exact ⟨_, rfl, ⟨[], World.ownsRow_nil _ _ _ _, HV.out⟩, B0.out⟩
  · have b0 : ((xs.length : Int) == 0) = false := by rw [beq_eq_false_iff_ne]; omega
    have hpos : 0 < xs.length := by omega
    have ipos : (0 : Int) < (xs.length : Int) := by omega
    clear hz
    go_enter Try.func27, Try.ntmps27
    have HSX : Hid (((w.alloc (.cells #[.slice a xs.length cap] 29)).alloc (.cells #[.int .i64 0] 3)).heap.size = w.heap.size + 1 + 1) := by rw [Hid]; simp
    have HQ0 : Hid (OwnZ (w.alloc (.cells #[.slice a xs.length cap] 29)).heap.size (.slice (some ⟨w.heap.size + 1, 0, none⟩) 1 1) [0] ((w.alloc (.cells #[.slice a xs.length cap] 29)).alloc (.cells #[.int .i64 0] 3))) := by
      have := World.ownsRow_lit (base := (w.alloc (.cells #[.slice a xs.length cap] 29)).heap.size) (e := 3) (size := 1) (w.alloc (.cells #[.slice a xs.length cap] 29)) #[.int .i64 0] 1 (Nat.le_refl _) (by decide) rfl
      rw [show (w.alloc (.cells #[.slice a xs.length cap] 29)).heap.size = w.heap.size + 1 from HS0.out] at this
      rw [HS0.out]
      exact this
    have HBX : Hid (Below (w.alloc (.cells #[.slice a xs.length cap] 29)).heap.size (w.alloc (.cells #[.slice a xs.length cap] 29)) ((w.alloc (.cells #[.slice a xs.length cap] 29)).alloc (.cells #[.int .i64 0] 3))) := (Below.refl _ _).alloc (Nat.le_refl _) _
    have HEX : Hid (((w.alloc (.cells #[.slice a xs.length cap] 29)).alloc (.cells #[.int .i64 0] 3)).cell? ⟨w.heap.size, 0, none⟩ = some (.slice a xs.length cap)) := cell_keep hE0 HBX.out
    go_wp2_with (at_make; refine wpList_make_full _ rfl _ _ 47 rfl ((w.alloc (.cells #[.slice a xs.length cap] 29)).alloc (.cells #[.int .i64 0] 3)).heap.size 4 ib _ 1 Try.underlying47 hib hb0 hb1 .i64 .i64 _ _ xs.length rfl rfl rfl rfl (by rw [hb2]; omega) (by unfold maxLen; omega) (Nat.le_refl _) ?_; intro w1 hown hg1; rw [HSX.out] at hown; have HO1 : Hid (OwnB14 (w.heap.size + 1 + 1) (.slice (some ⟨w.heap.size + 1 + 1, 0, none⟩) xs.length xs.length) (List.replicate xs.length false) w1) := made_flags14 hown; obtain ⟨c1, c2⟩ := HO1.out.at (k := 0) (by simp; omega); rw [getD_rep14] at c1; have HB1 : Hid (Below ((w.alloc (.cells #[.slice a xs.length cap] 29)).alloc (.cells #[.int .i64 0] 3)).heap.size ((w.alloc (.cells #[.slice a xs.length cap] 29)).alloc (.cells #[.int .i64 0] 3)) w1) := (Below.refl _ _).grown hg1 (Nat.le_refl _) (fun k h => by cases h); clear hown hg1)
    have HQ1 : Hid (OwnZ (w.alloc (.cells #[.slice a xs.length cap] 29)).heap.size (.slice (some ⟨w.heap.size + 1, 0, none⟩) 1 1) [0] w1) := HQ0.out.below HB1.out
    have HB2 : Hid (Below (w.alloc (.cells #[.slice a xs.length cap] 29)).heap.size (w.alloc (.cells #[.slice a xs.length cap] 29)) (w1.setCell ⟨w.heap.size + 1 + 1, 0, none⟩ (.bool true))) := (HBX.out.trans (HB1.out.mono HBX.out.size)).setCell (by rw [HS0.out]; exact Nat.le_succ _) _
    have HQ2 : Hid (OwnZ (w.alloc (.cells #[.slice a xs.length cap] 29)).heap.size (.slice (some ⟨w.heap.size + 1, 0, none⟩) 1 1) [0] (w1.setCell ⟨w.heap.size + 1 + 1, 0, none⟩ (.bool true))) := keepZ14_set HQ1.out HO1.out 0 _
    have HO2 : Hid (OwnB14 (w.alloc (.cells #[.slice a xs.length cap] 29)).heap.size (.slice (some ⟨w.heap.size + 1 + 1, 0, none⟩) xs.length xs.length) ((List.replicate xs.length false).set 0 true) (w1.setCell ⟨w.heap.size + 1 + 1, 0, none⟩ (.bool true))) := (HO1.out.set 0 true).base (by rw [HS0.out]; exact Nat.le_succ _)
    clear HQ0 HQ1 HO1 HB1 HBX HEX c1 c2 HSX
    generalize (w.alloc (.cells #[.slice a xs.length cap] 29)) = w0 at *
    generalize w1.setCell ⟨w.heap.size + 1 + 1, 0, none⟩ (.bool true) = w2 at *
    go_wp2
    go_loopw [3, 5] (fun pv iv wr => ∃ (i : Nat) (th : List Bool) (pl : List Int), iv = .int .i64 i ∧ i ≤ pl.length ∧ FC xs th pl i ∧ OwnB14 w0.heap.size (.slice (some ⟨w.heap.size + 1 + 1, 0, none⟩) xs.length xs.length) th wr ∧ OwnZ w0.heap.size pv pl wr ∧ Below w0.heap.size w0 wr) (fun _ iv _ => xs.length - (intOf iv).toNat)
    case atStart => exact ⟨0, _, _, rfl, Nat.zero_le _, FC.start xs hpos, HO2.out, HQ2.out, HB2.out⟩
    case round =>
      clear HO2 HQ2 HB2
      obtain ⟨i, th, pl, rfl, hil, hF, hob, hoz, hbw⟩ := hrel
      obtain ⟨wa, rfl⟩ : ∃ W, W = wr := ⟨wr, rfl⟩
      have HF : Hid (FC xs th pl i) := hF
      have HOb : Hid (OwnB14 w0.heap.size (.slice (some ⟨w.heap.size + 1 + 1, 0, none⟩) xs.length xs.length) th wa) := hob
      have HOz : Hid (OwnZ w0.heap.size u3 pl wa) := hoz
      have HB : Hid (Below w0.heap.size w0 wa) := hbw
      have hE := cell_keep hE0 hbw
      have hpl : pl.length ≤ xs.length := by have := hF.sz; omega
      clear hF hob hoz hbw
      by_cases hlt : i < pl.length
      · obtain ⟨x, hx0, hx, hxp⟩ := HF.out.snd pl[i] (List.getElem_mem hlt)
        have HXi : Hid (pl[i]? = some (x : Int)) := by rw [Hid, List.getElem?_eq_getElem hlt, hx0]
        obtain ⟨az, cz, rfl⟩ := HOz.out.row.slice
        obtain ⟨bz, oz, rfl, hcz⟩ := HOz.out.row.at hlt
        rw [hx0] at hcz
        obtain ⟨b, off, vs, rfl, _, hc, hEl⟩ := (RowC.below PartE_stable HR.out HB.out).at hx
        obtain ⟨r0, r1, rfl, hA, hI⟩ := hEl
        have n0 : wa.cell? ⟨b, off + x * 5, none⟩ = some (.int .i64 xs[x].rule) := hc 0 (by simp)
        have n1 : wa.cell? ⟨b, off + x * 5 + 1, none⟩ = some r0 := hc 1 (by simp)
        have n2 : wa.cell? ⟨b, off + x * 5 + 2, none⟩ = some (.int .i64 xs[x].frm) := hc 2 (by simp)
        have n3 : wa.cell? ⟨b, off + x * 5 + 3, none⟩ = some (.int .i64 xs[x].upto) := hc 3 (by simp)
        have n4 : wa.cell? ⟨b, off + x * 5 + 4, none⟩ = some r1 := hc 4 (by simp)
        have hyt : rowTot wayTot xs[x].ways ≤ 1048576 := by
          have h1 := rowTot_mem partTot (List.getElem_mem hx)
          have h2 : partTot xs[x] = xs[x].args.length + rowTot wayTot xs[x].ways := rfl
          have h3 : forestTot xs = rowTot partTot xs := rfl
          have h4 := HN.out
          omega
        have HK : Hid (∀ W, RowC 2 WayE W r1 xs[x].ways → _) := fun W h => kidsOf14 (some ⟨b, off, none⟩) xs.length cap xs[x].rule xs[x].frm xs[x].upto r0 r1 xs[x].ways W hyt h
        have hgl : (go14 xs.length xs[x].ways).length ≤ 1048576 := Nat.le_trans (go14_len _ _) hyt
        have HEx : Hid (∀ y : Nat, Ed xs x y ↔ (y : Int) ∈ go14 xs.length xs[x].ways) := fun y => ed_go hx
        have HGi : Hid (∀ z ∈ go14 xs.length xs[x].ways, ∃ k : Nat, z = k ∧ k < xs.length) := go14_in
        have bd : Below wa.heap.size wa wa.drew := bel_drewN (Below.refl _ _) 1
        have HRw : Hid (RowC 2 WayE wa.drew r1 xs[x].ways) := RowC.below WayE_stable hI bd
        have i2 : (x : Int) < (xs.length : Int) := by omega
        have i3 : (i : Int) < (pl.length : Int) := by omega
        clear hc hA hI bd hyt
        generalize go14 xs.length xs[x].ways = ks at *
        generalize xs[x].rule = xru at *
        generalize xs[x].frm = xfr at *
        generalize xs[x].upto = xup at *
        go_wp2
        go_region_held3 (fun W => W.cell? ⟨w.heap.size, 0, none⟩ = some (.slice (some ⟨b, off, none⟩) xs.length cap) ∧ W.cell? ⟨bz, oz + i, none⟩ = some (.int .i64 (x : Int)) ∧ W.cell? ⟨b, off + x * 5, none⟩ = some (.int .i64 xru) ∧ W.cell? ⟨b, off + x * 5 + 1, none⟩ = some r0 ∧ W.cell? ⟨b, off + x * 5 + 2, none⟩ = some (.int .i64 xfr) ∧ W.cell? ⟨b, off + x * 5 + 3, none⟩ = some (.int .i64 xup) ∧ W.cell? ⟨b, off + x * 5 + 4, none⟩ = some r1) ((first | exact keep7 (by assumption) hb3 | go_keep)) ((go_at_call 25; refine (HK.out _ HRw.out).mono ?_; rintro e w3 ⟨kv, rfl, hok, hb3⟩; have HOk : Hid (OwnZ wa.heap.size kv ks w3) := hok; clear hok; obtain ⟨ak, ck, rfl⟩ := HOk.out.row.slice))
        have HB3 : Hid (Below wa.heap.size wa w3) := (bel_drewN (Below.refl wa.heap.size wa) 1).trans hb3
        have HNe : Hid (Value.ownBlock (.slice ak ks.length ck) = none ∨ Value.ownBlock (.slice ak ks.length ck) ≠ Value.ownBlock (.slice (some ⟨bz, oz, none⟩) pl.length cz)) := apart14_new (B' := w0.heap.size) (pl := pl) HOk.out HOz.out (Nat.le_refl _)
        have HOb3 : Hid (OwnB14 w0.heap.size (.slice (some ⟨w.heap.size + 1 + 1, 0, none⟩) xs.length xs.length) th w3) := HOb.out.below HB3.out
        have HOz3 : Hid (OwnZ w0.heap.size (.slice (some ⟨bz, oz, none⟩) pl.length cz) pl w3) := HOz.out.below HB3.out
        have HB4 : Hid (Below w0.heap.size w0 w3) := HB.out.trans (HB3.out.mono HB.out.size)
        have hF3 := HF.out
        have HF3 : Hid (FC xs th pl i) := hF3
        clear hb3 hF3 HF HOb HOz HB HB3 hE hcz n0 n1 n2 n3 n4 HK HRw hx0
        rename_i hHeld
        clear hHeld
        go_wp2
        go_loopw [3, 36] (fun pv tv wr => ∃ (t : Nat) (th : List Bool) (pl : List Int), tv = .int .i64 t ∧ t ≤ ks.length ∧ FC xs th pl i ∧ i < pl.length ∧ pl[i]? = some (x : Int) ∧ (∀ z ∈ ks.take t, th.getD z.toNat false = true) ∧ OwnB14 w0.heap.size (.slice (some ⟨w.heap.size + 1 + 1, 0, none⟩) xs.length xs.length) th wr ∧ OwnZ w0.heap.size pv pl wr ∧ OwnZ wa.heap.size (.slice ak ks.length ck) ks wr ∧ (Value.ownBlock (.slice ak ks.length ck) = none ∨ Value.ownBlock (.slice ak ks.length ck) ≠ pv.ownBlock) ∧ Below w0.heap.size w0 wr) (fun _ tv _ => ks.length - (intOf tv).toNat)
        case atStart => exact ⟨0, th, pl, rfl, Nat.zero_le _, HF3.out, hlt, HXi.out, fun z hz => by simp at hz, HOb3.out, HOz3.out, HOk.out, HNe.out, HB4.out⟩
        case round =>
          clear HF3 HXi HOb3 HOz3 HOk HNe HB4
          obtain ⟨t, th, pl, rfl, ht, hF, hil2, hxi, hK, hob, hoz, hok, hne, hbw⟩ := hrel
          obtain ⟨wb, rfl⟩ : ∃ W, W = wr := ⟨wr, rfl⟩
          have HF : Hid (FC xs th pl i) := hF
          have HXi : Hid (pl[i]? = some (x : Int)) := hxi
          have HK : Hid (∀ z ∈ ks.take t, th.getD z.toNat false = true) := hK
          have HOb : Hid (OwnB14 w0.heap.size (.slice (some ⟨w.heap.size + 1 + 1, 0, none⟩) xs.length xs.length) th wb) := hob
          have HOz : Hid (OwnZ w0.heap.size u3 pl wb) := hoz
          have HOk : Hid (OwnZ wa.heap.size (.slice ak ks.length ck) ks wb) := hok
          have HNe : Hid (Value.ownBlock (.slice ak ks.length ck) = none ∨ Value.ownBlock (.slice ak ks.length ck) ≠ u3.ownBlock) := hne
          have HB : Hid (Below w0.heap.size w0 wb) := hbw
          have hpl2 : pl.length ≤ xs.length := by have := hF.sz; omega
          have hxe : pl[i] = (x : Int) := by
            rw [List.getElem?_eq_getElem hil2] at hxi
            exact Option.some.inj hxi
          have HXe : Hid (pl[i].toNat = x) := by rw [Hid, hxe, Int.toNat_natCast]
          clear hF hxi hK hob hoz hok hne hbw hxe
          by_cases htl : t < ks.length
          · obtain ⟨y, hy0, hy⟩ := HGi.out ks[t] (List.getElem_mem htl)
            obtain ⟨bk, ok, rfl, hck⟩ := HOk.out.row.at htl
            rw [hy0] at hck
            have HEd : Hid (Ed xs x y) := (HEx.out y).2 (by rw [← hy0]; exact List.getElem_mem htl)
            have HKn : Hid (∀ o2 : List Bool, (∀ z ∈ ks.take t, o2.getD z.toNat false = true) → o2.getD y false = true → ∀ z ∈ ks.take (t + 1), o2.getD z.toNat false = true) := fun o2 h1 h2 z hz => by
              rw [List.take_succ_eq_append_getElem htl] at hz
              rcases List.mem_append.1 hz with hz | hz
              · exact h1 z hz
              · rw [List.mem_singleton.1 hz, hy0, Int.toNat_natCast]; exact h2
            have hyl : y < th.length := by rw [HF.out.len]; exact hy
            obtain ⟨c1, c2⟩ := HOb.out.at hyl
            have HYl : Hid (y < th.length) := hyl
            have i6 : (t : Int) < (ks.length : Int) := by omega
            have i7 : (y : Int) < (xs.length : Int) := by omega
            clear hy0 hyl
            cases hb : th.getD y false with
            | true =>
              have HKs : Hid (∀ z ∈ ks.take (t + 1), th.getD z.toNat false = true) := HKn.out th HK.out hb
              rw [hb] at c1
              clear hb HKn
              go_wp2
              go_roundw
              case rel => exact ⟨t + 1, th, pl, by go_num, by omega, HF.out, hil2, HXi.out, HKs.out, HOb.out, HOz.out, HOk.out, HNe.out, HB.out⟩
              case measure => simp [intOf]; omega
            | false =>
              have HBb : Hid (th.getD y false = false) := hb
              rw [hb] at c1
              clear hb
              obtain ⟨a6, c6, rfl⟩ := HOz.out.row.slice
              have HO2 : Hid (OwnB14 w0.heap.size (.slice (some ⟨w.heap.size + 1 + 1, 0, none⟩) xs.length xs.length) (th.set y true) (wb.setCell ⟨w.heap.size + 1 + 1, y, none⟩ (.bool true))) := HOb.out.set y true
              have HZ2 : Hid (OwnZ w0.heap.size (.slice a6 pl.length c6) pl (wb.setCell ⟨w.heap.size + 1 + 1, y, none⟩ (.bool true))) := keepZ14_set HOz.out HOb.out y _
              have HK2 : Hid (OwnZ wa.heap.size (.slice (some ⟨bk, ok, none⟩) ks.length ck) ks (wb.setCell ⟨w.heap.size + 1 + 1, y, none⟩ (.bool true))) := keepZ14_set HOk.out HOb.out y _
              have HB2 : Hid (Below w0.heap.size w0 (wb.setCell ⟨w.heap.size + 1 + 1, y, none⟩ (.bool true))) := HB.out.setCell (by rw [HS0.out]; exact Nat.le_succ _) _
              have HF2 : Hid (FC xs (th.set y true) (pl ++ [(y : Int)]) i) := HF.out.put hil2 (by rw [HXe.out]; exact HEd.out) HBb.out
              have HX2 : Hid ((pl ++ [(y : Int)])[i]? = some (x : Int)) := by rw [Hid, List.getElem?_append_left hil2]; exact HXi.out
              have hil3 : i < (pl ++ [(y : Int)]).length := by rw [List.length_append]; omega
              have HKs : Hid (∀ z ∈ ks.take (t + 1), (th.set y true).getD z.toNat false = true) := HKn.out _ (fun z hz => by
                rw [getD_set14 _ _ _ HYl.out]
                split
                · rfl
                · exact HK.out z hz) (by rw [getD_set14 _ _ _ HYl.out, if_pos rfl])
              clear HF HXi HK HKn HBb HEd HOb HOz HOk
              go_wp2_with (at_builtin; refine wpList_append_own_at _ rfl _ _ 36 rfl w0.heap.size 3 i0 _ 1 8 Try.underlying36 hi hz0 hz1 hz2 rfl (by decide) _ _ _ rfl (World.ownsRow.alloc HZ2.out _) ⟨_, 0, none⟩ 1 1 [.int .i64 (y : Int)] rfl rfl (cell_one_set14 _ _ _ _ _) (one_cell14 _) (by unfold maxLen; omega) (by omega) (by have h8 := HB2.out.size; simp at h8 ⊢; omega) ?_)
              intro v' w5 hown2 hgrow _ hat
              have R := snoc14 hown2 hgrow HZ2.out HO2.out HB2.out (Nat.le_refl _) HB2.out.size
              have R2 := apart14 (B' := w0.heap.size) (pl := pl) (m := wb.heap.size + 1) (by simp [World.setCell]) HK2.out HNe.out hgrow hat
              clear hown2 hgrow hat HZ2 HO2 HB2 HK2 HNe HB c1 c2 hck
              go_wp2
              go_roundw
              case rel => exact ⟨t + 1, _, _, by go_num, by omega, HF2.out, hil3, HX2.out, HKs.out, R.2.1, R.1, R2.1, R2.2, R.2.2⟩
              case measure => simp [intOf]; omega
          · obtain rfl : t = ks.length := by omega
            have HFn : Hid (FC xs th pl (i + 1)) := HF.out.next hil2 (fun j hj => by
              rw [HXe.out] at hj
              have h1 := HK.out (j : Int) (by rw [List.take_length]; exact (HEx.out j).1 hj)
              rwa [Int.toNat_natCast] at h1)
            have i6 : ¬ (ks.length : Int) < (ks.length : Int) := by omega
            go_wp2
            go_roundw
            case rel => exact ⟨i + 1, th, pl, by go_num, by omega, HFn.out, HOb.out, HOz.out, HB.out⟩
            case measure => simp [intOf]; omega
      · obtain rfl : i = pl.length := by omega
        have HV : Hid (Come14 xs pl) := ⟨hpl, HF.out.snd, fun k _ hk => HF.out.fin k hk⟩
        obtain ⟨az, cz, rfl⟩ := HOz.out.row.slice
        have HBf : Hid (Below w.heap.size w wa) := B0.out.trans (HB.out.mono B0.out.size)
        have HOf : Hid (OwnZ w.heap.size (.slice az pl.length cz) pl wa) := HOz.out.base B0.out.size
        have i4 : ¬ (pl.length : Int) < (pl.length : Int) := by omega
        go_wp2
        go_ret
        exact ⟨_, rfl, ⟨pl, HOf.out, HV.out⟩, HBf.out⟩

end Go.Proofs.Ytpcfcheicdnogaa
