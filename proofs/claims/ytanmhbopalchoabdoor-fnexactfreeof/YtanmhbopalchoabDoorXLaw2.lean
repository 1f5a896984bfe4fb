/- The exact law on FreeOf, walked out of contracts, the program's own contract handed in. -/
import Derived.Test.YtanmhbopalchoabDoorXLaw
import Derived.Test.YtanmhbopalchoabDoorXMark
import Derived.Test.YtanmhbopalchoabDoorSMark
import Derived.Test.YtanmhbopalchoabDoorXFree
namespace Go.Proofs.YtanmhbopalchoabDoor
open Go.RowKit

theorem freeB_len (ns : List NodeD) : (freeB ns).length ≤ 1048576 := by
  unfold freeB
  split
  · rename_i h
    have hl := (exprB_at h).1
    have h1 := freeF_len ns ns.length (Nat.le_refl _)
    rw [List.take_of_length_le (Nat.le_refl _)] at h1
    have h2 := two_pow_20 (k := ns.length) (by omega)
    omega
  · simp

/-- The room that an expression's nodes and kids take. -/
theorem room_of {ns : List NodeD} {r left : Int} (hl : left ≤ 1048576) (h : 0 ≤ r ∧ r + ns.length + totN ns = left) : ∃ K, K ≤ 1048576 ∧ ns.length * (K + 3) ≤ 800000000000 ∧ ∀ x ∈ ns, x.kids.length ≤ K := by
  refine ⟨totN ns, by omega, ?_, fun x hx => by have := totN_mem hx; omega⟩
  by_cases hh : ns.length ≤ 524288
  · have h1 : ns.length * (totN ns + 3) ≤ 524288 * 1048579 := Nat.mul_le_mul hh (by omega)
    omega
  · have h1 : ns.length * (totN ns + 3) ≤ 1048576 * 524291 := Nat.mul_le_mul (by omega) (by omega)
    omega

theorem cell_mid {B H b o : Nat} {w w' : World} {x : Value} (h : w.cell? ⟨b, o, none⟩ = some x) (hm : Mid B H w w') (hb : b < B ∨ H ≤ b) : w'.cell? ⟨b, o, none⟩ = some x :=
  (World.cell?_of_block (hm.block b (World.block_lt_of_cell? w _ h) hb)).trans h

theorem eqStringS_keep (u v : Value) (ss : List ByteArray) (w : World) (hx : ss.length ≤ 2097153) (h : SRow w u ss) (h' : SRow w v ss) :
    Calls Tryd.prog 9 #[u, v] w fun e w' => e = .returned (.bool true) ∧ Below w.heap.size w w' := by
  refine (eqStringS_same u v ss w hx h h').mono ?_
  rintro e w' ⟨rfl, q, rfl⟩
  exact ⟨rfl, bel_drewN (Below.refl _ _) q⟩

set_option maxHeartbeats 3200000 in
set_option maxRecDepth 100000 in
theorem fnExactFreeOf_of (v : Value) (ns : List NodeD) (w : World) (hI : ∀ (v : Value) (ns : List NodeD) (W : World), Below w.heap.size w W → NIn ns → NRow W v ns → Calls Tryd.prog 8 #[.agg #[v]] W fun e w' => ∃ o, e = .returned o ∧ OwnB W.heap.size o (freeB ns) w' ∧ Below W.heap.size W w') (h : NArg w v ns) :
    Calls Tryd.prog 3 #[.agg #[v]] w fun e w' => e = .returned (.bool true) ∧ Below w.heap.size w w' := by
  have HA : Hid (NArg w v ns) := h
  have HI0 : Hid (∀ (v : Value) (ns : List NodeD) (W : World), Below w.heap.size w W → NIn ns → NRow W v ns → Calls Tryd.prog 8 #[.agg #[v]] W fun e w' => ∃ o, e = .returned o ∧ OwnB W.heap.size o (freeB ns) w' ∧ Below W.heap.size W w') := hI
  obtain ⟨a, cap, rfl⟩ := h.1.slice
  clear h hI
  have B0 : Hid (Below w.heap.size w (w.alloc (.cells #[.slice a ns.length cap] 24))) := (Below.refl _ _).alloc (Nat.le_refl _) _
  have E0 : Hid ((w.alloc (.cells #[.slice a ns.length cap] 24)).cell? ⟨w.heap.size, 0, none⟩ = some (.slice a ns.length cap)) := lit_one _ _ _
  go_enter Tryd.func3, Tryd.ntmps3
  go_wp2_with fail
  refine (szExpr_any _ ns 1048576 _ (by omega) (by omega) ⟨HA.out.1.below B0.out, HA.out.2⟩).mono ?_
  rintro e w1 ⟨r, rfl, hr, hb1⟩
  have B1 : Hid (Below w.heap.size w w1) := B0.out.trans (hb1.mono B0.out.size)
  have hE1 := cell_keep E0.out hb1
  clear hb1 E0 B0
  rcases hr with rfl | hr
  · go_wp2
    go_ret
    exact ⟨rfl, B1.out⟩
  have HV : Hid (NIn ns) := nIn_of (by omega) hr HA.out.2.2
  obtain ⟨K, hK, hKn, hKx⟩ := room_of (by omega) hr
  have HKn : Hid (ns.length * (K + 3) ≤ 800000000000) := hKn
  have HKx : Hid (∀ x ∈ ns, x.kids.length ≤ K) := hKx
  have hr2 : ¬ r < 0 := by omega
  have hxl : ns.length ≤ 1048576 := HV.out.1
  clear hr hKn hKx
  have hLl := freeB_len ns
  have HI : Hid (∀ (v : Value) (W : World), Below w.heap.size w W → NRow W v ns → Calls Tryd.prog 8 #[.agg #[v]] W fun e w' => ∃ o, e = .returned o ∧ OwnB W.heap.size o (freeB ns) w' ∧ Below W.heap.size W w') := fun v W hb hv => HI0.out v ns W hb HV.out hv
  have HSp : Hid (∀ (v : Value) (w : World), NRow w v ns → Calls Tryd.prog 6 #[.agg #[v]] w fun e w' => ∃ o, e = .returned o ∧ OwnB w.heap.size o (freeB ns) w' ∧ Below w.heap.size w w') := fun v w hv => specFreeOf_any v ns w HV.out hv
  clear HI0
  generalize freeB ns = L at *
  go_wp2_with fail
  refine (toExpr_any _ ns _ hxl HV.out.kids (HA.out.1.below B1.out)).mono ?_
  rintro e w2 ⟨o2, rfl, ho2, hb2⟩
  have O2 : Hid (NRow w2 o2 ns) := ho2.row
  have B2 : Hid (Below w.heap.size w w2) := B1.out.trans (hb2.mono B1.out.size)
  have hE2 := cell_keep hE1 hb2
  clear hb2 ho2 hE1
  go_wp2_with fail
  refine (HSp.out _ _ O2.out).mono ?_
  rintro e w3 ⟨s0, rfl, hs0, hb3⟩
  have S3 : Hid (OwnB w2.heap.size s0 L w3) := hs0
  have B3 : Hid (Below w.heap.size w w3) := B2.out.trans (hb3.mono B2.out.size)
  have hE3 := cell_keep hE2 hb3
  clear hb3 hs0 hE2
  go_wp2_with fail
  refine (toExpr_any _ ns _ hxl HV.out.kids (HA.out.1.below B3.out)).mono ?_
  rintro e w4 ⟨x0, rfl, hx0, hb4⟩
  obtain ⟨cm, hcm⟩ := hx0.mk K HKx.out
  obtain ⟨a4, c4, rfl⟩ := hx0.row.slice
  have bal := (Below.refl w4.heap.size w4).alloc (Nat.le_refl _) (.cells #[.slice a4 ns.length c4] 30)
  have X5 : Hid (NRow (w4.alloc (.cells #[.slice a4 ns.length c4] 30)) (.slice a4 ns.length c4) ns) := hx0.row.below bal
  have C5 : Hid (MkC w3.heap.size w4.heap.size K (.slice a4 ns.length c4) ns.length cm (w4.alloc (.cells #[.slice a4 ns.length c4] 30))) := hcm.below bal
  have S5 : Hid (OwnB w2.heap.size s0 L (w4.alloc (.cells #[.slice a4 ns.length c4] 30))) := (S3.out.below hb4).below bal
  have B4 : Hid (Below w.heap.size w w4) := B3.out.trans (hb4.mono B3.out.size)
  have B5 : Hid (Below w.heap.size w (w4.alloc (.cells #[.slice a4 ns.length c4] 30))) := B4.out.trans (bal.mono B4.out.size)
  have hE5 := cell_keep (cell_keep hE3 hb4) bal
  have hX5 := lit_one w4 (.slice a4 ns.length c4) 30
  have Z34 : Hid (w3.heap.size ≤ w4.heap.size) := hb4.size
  have Z3 : Hid (w.heap.size < w3.heap.size) := World.block_lt_of_cell? w3 _ hE3
  have Z45 : Hid (w4.heap.size < (w4.alloc (.cells #[.slice a4 ns.length c4] 30)).heap.size) := by rw [Hid]; simp
  have HS : Hid (∀ k, s0.ownBlock = some k → k < w3.heap.size) := fun k hk => (World.ownsRow.lt S3.out k hk).2
  clear hb4 hx0 hcm bal hE3 S3
  go_wp2_with fail
  generalize w4.alloc (.cells #[.slice a4 ns.length c4] 30) = w5 at *
  generalize w4.heap.size = H4 at *
  refine (HI.out _ _ B5.out X5.out).mono ?_
  rintro e w6 ⟨g0, rfl, hg0, hb6⟩
  have G6 : Hid (OwnB w5.heap.size g0 L w6) := hg0
  have HG : Hid (∀ k, g0.ownBlock = some k → w5.heap.size ≤ k) := fun k hk => (World.ownsRow.lt hg0 k hk).1
  have X6 : Hid (NRow w6 (.slice a4 ns.length c4) ns) := X5.out.below hb6
  have C6 : Hid (MkC w3.heap.size H4 K (.slice a4 ns.length c4) ns.length cm w6) := C5.out.below hb6
  have S6 : Hid (OwnB w2.heap.size s0 L w6) := S5.out.below hb6
  have B6 : Hid (Below w.heap.size w w6) := B5.out.trans (hb6.mono B5.out.size)
  have hE6 := cell_keep hE5 hb6
  have hX6 := cell_keep hX5 hb6
  clear hb6 hg0 hE5 hX5 X5 C5 S5
  go_wp2_with fail
  refine (eqStringS_keep _ _ L _ (by omega) G6.out.row S6.out.row).mono ?_
  rintro e w7 ⟨rfl, hb7⟩
  have G7 : Hid (OwnB w5.heap.size g0 L w7) := G6.out.below hb7
  have X7 : Hid (NRow w7 (.slice a4 ns.length c4) ns) := X6.out.below hb7
  have C7 : Hid (MkC w3.heap.size H4 K (.slice a4 ns.length c4) ns.length cm w7) := C6.out.below hb7
  have S7 : Hid (OwnB w2.heap.size s0 L w7) := S6.out.below hb7
  have B7 : Hid (Below w.heap.size w w7) := B6.out.trans (hb7.mono B6.out.size)
  have hE7 := cell_keep hE6 hb7
  have hX7 := cell_keep hX6 hb7
  clear hb7 hE6 hX6 X6 C6 S6 G6
  have HT : Hid (_) := toExpr_any (.slice a ns.length cap) ns w7.drew hxl HV.out.kids (HA.out.1.below (bel_drewN B7.out 1))
  have X7d : Hid (NRow w7.drew (.slice a4 ns.length c4) ns) := X7.out.below (bel_drewN (Below.refl _ _) 1)
  have D7 : Hid (Below w7.heap.size w7 w7.drew) := bel_drewN (Below.refl _ _) 1
  go_wp2
  go_region_held3 (fun W => W.cell? ⟨w.heap.size, 0, none⟩ = some (.slice a ns.length cap) ∧ W.cell? ⟨H4, 0, none⟩ = some (.slice a4 ns.length c4))
    ((first | exact keep2 (by assumption) hb9 | exact keep2 (by assumption) hb8 | go_keep))
    ((first
      | (go_at_call 7; refine Calls.mono HT.out ?_; rintro e w8 ⟨o8, rfl, ho8, hb8⟩)
      | (go_at_call 10; refine (eqExpr_same _ _ ns _ hxl HV.out.kids (X7d.out.below hb8) ho8.row).mono ?_; rintro e w9 ⟨rfl, hb9⟩)))
  have h78 : Below w7.heap.size w7 w8 := bel_of_drew hb8
  have h79 : Below w7.heap.size w7 w9 := h78.trans (hb9.mono h78.size)
  have G9 : Hid (OwnB w5.heap.size g0 L w9) := G7.out.below h79
  have C9 : Hid (MkC w3.heap.size H4 K (.slice a4 ns.length c4) ns.length cm w9) := C7.out.below h79
  have S9 : Hid (OwnB w2.heap.size s0 L w9) := S7.out.below h79
  have B9 : Hid (Below w.heap.size w w9) := B7.out.trans (h79.mono B7.out.size)
  have hE9 := cell_keep hE7 h79
  have hX9 := cell_keep hX7 h79
  clear hb8 hb9 ho8 h78 h79 HT X7d D7 X7 C7 S7 G7 hE7 hX7
  go_wp2_with fail
  refine (markExpr_any _ _ K _ _ cm _ hK hxl HKn.out C9.out).mono ?_
  rintro e w10 ⟨rk, rfl, hrk, hm10⟩
  have hrk2 : ¬ rk < 0 := by omega
  have hE10 := cell_mid hE9 hm10 (.inl Z3.out)
  have G10 : Hid (OwnB w5.heap.size g0 L w10) := own_mid G9.out hm10 (fun k hk => .inr (by have h1 := HG.out k hk; have h2 := Z45.out; omega))
  have S10 : Hid (OwnB w2.heap.size s0 L w10) := own_mid S9.out hm10 (fun k hk => .inl (HS.out k hk))
  have B10 : Hid (Below w.heap.size w w10) := Mid.onto B9.out (Nat.le_refl _) (Nat.le_of_lt Z3.out) hm10
  clear hm10 hE9 hX9 C9 G9 S9
  go_wp2_with fail
  refine (eqStringS_keep _ _ L _ (by omega) G10.out.row S10.out.row).mono ?_
  rintro e w11 ⟨rfl, hb11⟩
  have hE11 := cell_keep hE10 hb11
  have G11 : Hid (OwnB w5.heap.size g0 L w11) := G10.out.below hb11
  have S11 : Hid (OwnB w2.heap.size s0 L w11) := S10.out.below hb11
  have B11 : Hid (Below w.heap.size w w11) := B10.out.trans (hb11.mono B10.out.size)
  clear hb11 hE10 G10 S10
  go_wp2_with fail
  refine (markStringS_held _ _ L 1 _ (by omega) (by omega) (by omega) G11.out).mono ?_
  rintro e w12 ⟨rfl, hg12, hgr12⟩
  have G12 : Hid (OwnB w5.heap.size g0 (smarks 1 L.length) w12) := hg12
  have M12 : Mid w5.heap.size (w11.heap.size) w11 w12 := mid_grown hgr12 (fun k hk => World.ownsRow.lt G11.out k hk)
  have Z5 : w3.heap.size ≤ w5.heap.size := by have h1 := Z34.out; have h2 := Z45.out; omega
  have hE12 := cell_mid hE11 M12 (.inl (by have := Z3.out; omega))
  have S12 : Hid (OwnB w2.heap.size s0 L w12) := own_mid S11.out M12 (fun k hk => .inl (by have := HS.out k hk; omega))
  have B12 : Hid (Below w.heap.size w w12) := Mid.onto B11.out (Nat.le_refl _) (by have := Z3.out; omega) M12
  clear hgr12 hg12 M12 hE11 G11 S11 Z5
  go_wp2_with fail
  refine (heldStringS_any _ L.length 1 _ (by omega) (by omega) (by omega) G12.out.row).mono ?_
  rintro e w13 ⟨rfl, hb13⟩
  have hE13 := cell_keep hE12 hb13
  have G13 : Hid (OwnB w5.heap.size g0 (smarks 1 L.length) w13) := G12.out.below hb13
  have S13 : Hid (OwnB w2.heap.size s0 L w13) := S12.out.below hb13
  have B13 : Hid (Below w.heap.size w w13) := B12.out.trans (hb13.mono B12.out.size)
  clear hb13 hE12 G12 S12
  go_wp2_with fail
  refine (toExpr_any _ ns _ hxl HV.out.kids (HA.out.1.below B13.out)).mono ?_
  rintro e w14 ⟨o14, rfl, ho14, hb14⟩
  have O14 : Hid (NRow w14 o14 ns) := ho14.row
  have G14 : Hid (OwnB w5.heap.size g0 (smarks 1 L.length) w14) := G13.out.below hb14
  have S14 : Hid (OwnB w2.heap.size s0 L w14) := S13.out.below hb14
  have B14 : Hid (Below w.heap.size w w14) := B13.out.trans (hb14.mono B13.out.size)
  clear hb14 ho14 hE13 G13 S13
  go_wp2_with fail
  refine (HI.out _ _ B14.out O14.out).mono ?_
  rintro e w15 ⟨h0, rfl, hh0, hb15⟩
  have Q15 : Hid (SRow w15 h0 L) := hh0.row
  have G15 : Hid (OwnB w5.heap.size g0 (smarks 1 L.length) w15) := G14.out.below hb15
  have S15 : Hid (OwnB w2.heap.size s0 L w15) := S14.out.below hb15
  have B15 : Hid (Below w.heap.size w w15) := B14.out.trans (hb15.mono B14.out.size)
  clear hb15 hh0 G14 S14
  go_wp2_with fail
  refine (eqStringS_keep _ _ L _ (by omega) Q15.out S15.out.row).mono ?_
  rintro e w16 ⟨rfl, hb16⟩
  have G16 : Hid (OwnB w5.heap.size g0 (smarks 1 L.length) w16) := G15.out.below hb16
  have B16 : Hid (Below w.heap.size w w16) := B15.out.trans (hb16.mono B15.out.size)
  clear hb16 G15 S15
  go_wp2_with fail
  refine (heldStringS_any _ L.length 1 _ (by omega) (by omega) (by omega) G16.out.row).mono ?_
  rintro e w17 ⟨rfl, hb17⟩
  have B17 : Hid (Below w.heap.size w w17) := B16.out.trans (hb17.mono B16.out.size)
  clear hb17
  go_wp2
  go_ret
  exact ⟨rfl, B17.out⟩

end Go.Proofs.YtanmhbopalchoabDoor
