/- FnGrammars, walked out of a contract on l06Any. -/
import Derived.Test.YtpbicppcehhphaaGreatDoorDec
import Derived.Test.YtpbicppcehhphaaGreatDoorDrR
import Derived.Test.YtpbicppcehhphaaGreatDoorIGram
namespace Go.Proofs.YtpbicppcehhphaaGreatDoor
open Go.RowKit
set_option maxHeartbeats 12800000
set_option maxRecDepth 100000
set_option linter.unusedVariables false
theorem bigG_any (a : Option Addr) (n cap : Nat) (w : World) :
  Calls Tryz.prog 4 #[.slice a n cap] w fun e w' => e = .returned (.bool (decide (1048576 < (n : Int)))) ∧ w' = w := by
 go_enter Tryz.func4, Tryz.ntmps4
 go_wp2
 go_ret
 exact ⟨rfl, rfl⟩
theorem keepFiveG {W W' : World} {a b c d f : Addr} {x y z u t : Value} (h : W.cell? a = some x ∧ W.cell? b = some y ∧ W.cell? c = some z ∧ W.cell? d = some u ∧ W.cell? f = some t) (hb : Below W.heap.size W W') : W'.cell? a = some x ∧ W'.cell? b = some y ∧ W'.cell? c = some z ∧ W'.cell? d = some u ∧ W'.cell? f = some t := ⟨cell_keep h.1 hb, cell_keep h.2.1 hb, cell_keep h.2.2.1 hb, cell_keep h.2.2.2.1 hb, cell_keep h.2.2.2.2 hb⟩
theorem held_old {A : Nat → Prop} {w W : World} {P : World → Prop} (h : Held A w P) (hb : Below w.heap.size w W) : Held (fun k => w.heap.size ≤ k) W P := fun V hV hbl => h V (Nat.le_trans hb.size hV) (fun k hk _ => (hbl k (Nat.lt_of_lt_of_le hk hb.size) (by omega)).trans (hb.block k hk))
theorem three_rule9 (s : ByteArray) (o o' : Option Addr) (l c l' c' : Nat) : ∀ u ∈ [Value.string s, .slice o l c, .slice o' l' c'], u.oneCell' = true := three_ruleP s o o' l c l' c'
theorem more1_held (w7 : World) (b g : Nat) (hb : b < w7.heap.size) (hg : g < w7.heap.size) : Held (fun k => k = b ∨ k = g) ((w7.alloc (.cells #[.slice none 0 0] 32)).alloc (.cells #[.string moreN, .slice none 0 0, .slice (some ⟨w7.heap.size, 0, none⟩) 1 1] 36)) (fun V => RuleE V [.string moreN, .slice none 0 0, .slice (some ⟨w7.heap.size, 0, none⟩) 1 1] more1) := fun V hV hbl => by
 have hs : ((w7.alloc (.cells #[.slice none 0 0] 32)).alloc (.cells #[.string moreN, .slice none 0 0, .slice (some ⟨w7.heap.size, 0, none⟩) 1 1] 36)).heap.size = w7.heap.size + 2 := by simp
 have hc : V.heap[w7.heap.size]? = some (.cells #[.slice none 0 0] 32 (0, 0)) := (hbl w7.heap.size (by omega) (by omega)).trans ((Below.heap_alloc _ _ _ (by simp)).trans (heap_alloc_new w7 _))
 refine ⟨_, _, rfl, ⟨none, 0, rfl, fun _ => rfl, fun h => absurd h (by simp [more1])⟩, ⟨_, 1, rfl, fun h => (by cases h), fun _ => ⟨w7.heap.size, 0, rfl, by omega, fun l hl => ?_⟩⟩⟩
 obtain rfl : l = 0 := by simp [more1] at hl; exact hl
 refine ⟨[.slice none 0 0], rfl, fun p hp => ?_, ⟨_, rfl, ⟨none, 0, rfl, fun _ => rfl, fun h => absurd h (by simp [more1])⟩⟩⟩
 obtain rfl : p = 0 := by simp at hp; exact hp
 exact run_cell (j := 0) hc rfl
theorem more2_held (w7 : World) (b g : Nat) (hb : b < w7.heap.size) (hg : g < w7.heap.size) : Held (fun k => k = b ∨ k = g) (((w7.alloc (.cells #[.int .i64 3, .string none4, .slice none 0 0, .string ⟨#[]⟩] 39)).alloc (.cells #[.slice (some ⟨w7.heap.size, 0, none⟩) 1 1] 32)).alloc (.cells #[.string moreN, .slice none 0 0, .slice (some ⟨w7.heap.size + 1, 0, none⟩) 1 1] 36)) (fun V => RuleE V [.string moreN, .slice none 0 0, .slice (some ⟨w7.heap.size + 1, 0, none⟩) 1 1] more2) := fun V hV hbl => by
 have hs : (((w7.alloc (.cells #[.int .i64 3, .string none4, .slice none 0 0, .string ⟨#[]⟩] 39)).alloc (.cells #[.slice (some ⟨w7.heap.size, 0, none⟩) 1 1] 32)).alloc (.cells #[.string moreN, .slice none 0 0, .slice (some ⟨w7.heap.size + 1, 0, none⟩) 1 1] 36)).heap.size = w7.heap.size + 3 := by simp
 have hc : V.heap[w7.heap.size]? = some (.cells #[.int .i64 3, .string none4, .slice none 0 0, .string ⟨#[]⟩] 39 (0, 0)) := (hbl w7.heap.size (by omega) (by omega)).trans ((Below.heap_alloc _ _ _ (by simp; omega)).trans ((Below.heap_alloc _ _ _ (by simp)).trans (heap_alloc_new w7 _)))
 have hd : V.heap[w7.heap.size + 1]? = some (.cells #[.slice (some ⟨w7.heap.size, 0, none⟩) 1 1] 32 (0, 0)) := (hbl (w7.heap.size + 1) (by omega) (by omega)).trans ((Below.heap_alloc _ _ _ (by simp)).trans (by
  have := heap_alloc_new (w7.alloc (.cells #[.int .i64 3, .string none4, .slice none 0 0, .string ⟨#[]⟩] 39)) (.cells #[.slice (some ⟨w7.heap.size, 0, none⟩) 1 1] 32)
  rwa [show (w7.alloc (.cells #[.int .i64 3, .string none4, .slice none 0 0, .string ⟨#[]⟩] 39)).heap.size = w7.heap.size + 1 by simp] at this))
 refine ⟨_, _, rfl, ⟨none, 0, rfl, fun _ => rfl, fun h => absurd h (by simp [more2])⟩, ⟨_, 1, rfl, fun h => (by cases h), fun _ => ⟨w7.heap.size + 1, 0, rfl, by omega, fun l hl => ?_⟩⟩⟩
 obtain rfl : l = 0 := by simp [more2] at hl; exact hl
 refine ⟨[.slice (some ⟨w7.heap.size, 0, none⟩) 1 1], rfl, fun p hp => ?_, ⟨_, rfl, ⟨_, 1, rfl, fun h => (by cases h), fun _ => ⟨w7.heap.size, 0, rfl, by omega, fun l hl => ?_⟩⟩⟩⟩
 ·obtain rfl : p = 0 := by simp at hp; exact hp
  exact run_cell (j := 0) hd rfl
 ·obtain rfl : l = 0 := by simp [more2] at hl; exact hl
  refine ⟨[.int .i64 3, .string none4, .slice none 0 0, .string ⟨#[]⟩], rfl, fun p hp => ?_, ⟨_, rfl, ⟨none, 0, rfl, fun _ => rfl, fun h => absurd h (by simp [more2])⟩⟩⟩
  match p, hp with
  | 0, _ => exact run_cell (j := 0) hc rfl
  | 1, _ => exact run_cell (j := 1) hc rfl
  | 2, _ => exact run_cell (j := 2) hc rfl
  | 3, _ => exact run_cell (j := 3) hc rfl
theorem fnGrammars_of (hA : AnyC (fun G => grB G = true)) (a : Option Addr) (n cap : Nat) (w : World) (hcode : CodeRow w (.slice a n cap) n) (hErr : errTy w) :
  Calls Tryz.prog 3 #[.slice a n cap] w fun e w' => e = .returned (.bool true) ∧ Below w.heap.size w w' := by
 obtain ⟨r0, hr, hr0, hr1, hr2⟩ := info_parts Tryz.infoRuleP
 have HC : Hid (CodeRow w (.slice a n cap) n) := hcode
 have HEr : Hid (errTy w) := hErr
 have HAn : Hid (AnyC (fun G => grB G = true)) := hA
 have HBig : Hid (∀ _ : Unit, _) := fun _ => bigG_any a n cap w
 clear hcode hA hErr
 by_cases hbig : (1048576 : Int) < (n : Int)
 ·have hd : decide ((1048576 : Int) < (n : Int)) = true := decide_eq_true hbig
  go_enter Tryz.func3, Tryz.ntmps3
  go_wp2_with fail
  refine (HBig.out ()).mono ?_
  rintro e w1 ⟨rfl, rfl⟩
  rw [hd]
  go_wp2
  go_ret
  exact ⟨rfl, Below.refl _ _⟩
 have hd : decide ((1048576 : Int) < (n : Int)) = false := decide_eq_false hbig
 have hn : n ≤ 1000000000000 := by omega
 go_enter Tryz.func3, Tryz.ntmps3
 go_wp2_with fail
 refine (HBig.out ()).mono ?_
 rintro e w1 ⟨rfl, rfl⟩
 rw [hd]
 go_wp2_with fail
 refine (drawGrammarOk_of (fun G => grB G = true) HAn.out w1 (.slice a n cap) n w1 hn HC.out (Below.refl _ _)).mono ?_
 rintro e w2 ⟨G1, hP1, G2, hO, o2, rfl, hh2, hb2⟩
 obtain ⟨a2, c2, rfl⟩ := RowC.slice hh2.here
 have HT2 : Hid (grammarTot G2 ≤ 1048576 ∧ GrammarIn G2) := by
  obtain ⟨_, h1, h2, _⟩ := gr_of hP1
  have h3 := ay_tot hO
  exact ⟨by omega, ay_in hO h2 (by omega)⟩
 have R2 : Hid (RowC 3 RuleE w2 (.slice a2 G2.length c2) G2) := hh2.here
 have B2 : Hid (Below w1.heap.size w1 w2) := hb2
 have bal3 : Below w2.heap.size w2 (w2.alloc (.cells #[.slice a2 G2.length c2] 26)) := (Below.refl _ _).alloc (Nat.le_refl _) _
 have c3 : (w2.alloc (.cells #[.slice a2 G2.length c2] 26)).cell? ⟨w2.heap.size, 0, none⟩ = some (.slice a2 G2.length c2) := box_at _ _ _ 0 _ rfl
 have R3 : Hid (RowC 3 RuleE (w2.alloc (.cells #[.slice a2 G2.length c2] 26)) (.slice a2 G2.length c2) G2) := RowC.below RuleE_stable R2.out bal3
 have B3 : Hid (Below w1.heap.size w1 (w2.alloc (.cells #[.slice a2 G2.length c2] 26))) := B2.out.trans (bal3.mono B2.out.size)
 clear hP1 hO hh2 hb2 bal3 R2 B2
 go_wp2_with fail
 generalize w2.alloc (.cells #[.slice a2 G2.length c2] 26) = W3 at *
 generalize w2.heap.size = b3 at *
 refine (drawPair_of (fun G => grB G = true) hG13g w1 (.slice a n cap) n W3 hn HC.out B3.out).mono ?_
 rintro e w4 ⟨G, o4, t4, hP, rfl, ht4, hh4, hb4⟩
 obtain ⟨a4, c4, rfl⟩ := RowC.slice hh4.here
 obtain ⟨hcp, htot, hGin, g1, g2, g3, g4⟩ := gr_of hP
 have hG0 : 0 < G.length := (cp_of hcp).1
 have hGl : G.length ≤ 1048576 := (cp_of hcp).2.1.1
 have HG : Hid (gramB G = true ∧ gramB (G ++ [more1]) = true ∧ gramB (G ++ [G[0]]) = false ∧ gramB (G ++ [more2]) = false ∧ grammarTot G ≤ 100000) := ⟨g1, g2, g3 hG0, g4, htot⟩
 have c4' := cell_keep c3 hb4
 have R4 : Hid (RowC 3 RuleE w4 (.slice a2 G2.length c2) G2) := RowC.below RuleE_stable R3.out hb4
 have B4 : Hid (Below w1.heap.size w1 w4) := B3.out.trans (hb4.mono B3.out.size)
 have HX4 : Hid (∀ W, Below w4.heap.size w4 W → Held (fun k => w4.heap.size ≤ k) W (fun V => RowC 3 RuleE V (.slice a4 G.length c4) G)) := fun W hW => held_old hh4 hW
 clear hP hh4 hb4 hcp htot hGin g1 g2 g3 g4 c3 B3 R3
 have hb3l : b3 < w4.heap.size := World.block_lt_of_cell? w4 _ c4'
 have b5 : Below w4.heap.size w4 (w4.alloc (.cells #[.slice a4 G.length c4] 26)) := (Below.refl _ _).alloc (Nat.le_refl _) _
 have c5 : (w4.alloc (.cells #[.slice a4 G.length c4] 26)).cell? ⟨w4.heap.size, 0, none⟩ = some (.slice a4 G.length c4) := box_at _ _ _ 0 _ rfl
 have s5 : (w4.alloc (.cells #[.slice a4 G.length c4] 26)).heap.size = w4.heap.size + 1 := by simp
 go_upto_region 6 with fail
 have b6 : Below w4.heap.size w4 ((w4.alloc (.cells #[.slice a4 G.length c4] 26)).alloc (.cells #[.slice a4 G.length c4] 26)) := b5.alloc b5.size _
 have q4 : ((w4.alloc (.cells #[.slice a4 G.length c4] 26)).alloc (.cells #[.slice a4 G.length c4] 26)).cell? ⟨w4.heap.size, 0, none⟩ = some (.slice a4 G.length c4) := box_two _ _ _ _ _ 0 _ rfl
 have X6 : ((w4.alloc (.cells #[.slice a4 G.length c4] 26)).alloc (.cells #[.slice a4 G.length c4] 26)).heap[w4.heap.size + 1]? = some (.cells #[.slice a4 G.length c4] 26 (0, 0)) := by
  have := heap_alloc_new (w4.alloc (.cells #[.slice a4 G.length c4] 26)) (.cells #[.slice a4 G.length c4] 26)
  rwa [s5] at this
 have s6 : ((w4.alloc (.cells #[.slice a4 G.length c4] 26)).alloc (.cells #[.slice a4 G.length c4] 26)).heap.size = w4.heap.size + 2 := by simp
 clear c5 s5 b5
 generalize (w4.alloc (.cells #[.slice a4 G.length c4] 26)).alloc (.cells #[.slice a4 G.length c4] 26) = W6 at *
 have B46 : Hid (Below w4.heap.size w4 W6) := b6
 have HX6 : Hid (W6.heap[w4.heap.size + 1]? = some (.cells #[.slice a4 G.length c4] 26 (0, 0))) := X6
 have HS6 : Hid (W6.heap.size = w4.heap.size + 2) := s6
 have be : Below W6.heap.size W6 (W6.alloc (.cells #[] 36)) := (Below.refl _ _).alloc (Nat.le_refl _) _
 have q5 := cell_keep q4 be
 have HE0 : Hid ((W6.alloc (.cells #[] 36)).heap[W6.heap.size]? = some (.cells #[] 36 (0, 0))) := heap_alloc_new _ _
 have HXe : Hid (Held (fun k => w4.heap.size ≤ k) (W6.alloc (.cells #[] 36)) (fun V => RowC 3 RuleE V (.slice a4 G.length c4) G)) := HX4.out _ (b6.trans (be.mono b6.size))
 have BE : Hid (Below W6.heap.size W6 (W6.alloc (.cells #[] 36))) := be
 have hle : w4.heap.size ≤ W6.heap.size := b6.size
 clear b6 X6 s6 be
 have l1 : w4.heap.size + 1 < W6.heap.size := by have := HS6.out; omega
 go_wp2_with (at_builtin; refine append_rulesF rfl _ _ 24 rfl W6.heap.size W6.heap.size r0 _ Tryz.underlying24 hr hr0 hr1 hr2 rfl rfl HE0.out (Nat.le_refl _) G a4 c4 rfl (fun k => w4.heap.size ≤ k) hle HXe.out hG0 hGl ?_)
 intro g7 cap7 w7 hR7 hgr7 hat7
 have B67 : Hid (Below W6.heap.size W6 w7) := BE.out.grown hgr7 (BE.out.size) (fun k hk => by have := Option.some.inj hk; omega)
 have HG7 := RowO.lt hR7 g7 rfl
 have l7 : W6.heap.size ≤ w7.heap.size := B67.out.size
 have B7b : Hid (Below w7.heap.size w7 ((w7.alloc (.cells #[.slice none 0 0] 32)).alloc (.cells #[.string moreN, .slice none 0 0, .slice (some ⟨w7.heap.size, 0, none⟩) 1 1] 36))) := ((Below.refl _ _).alloc (Nat.le_refl _) _).alloc (by simp) _
 have HN7 : Hid (((w7.alloc (.cells #[.slice none 0 0] 32)).alloc (.cells #[.string moreN, .slice none 0 0, .slice (some ⟨w7.heap.size, 0, none⟩) 1 1] 36)).heap[w7.heap.size + 1]? = some (.cells #[.string moreN, .slice none 0 0, .slice (some ⟨w7.heap.size, 0, none⟩) 1 1] 36 (0, 0))) := by
  have := heap_alloc_new (w7.alloc (.cells #[.slice none 0 0] 32)) (.cells #[.string moreN, .slice none 0 0, .slice (some ⟨w7.heap.size, 0, none⟩) 1 1] 36)
  rw [show (w7.alloc (.cells #[.slice none 0 0] 32)).heap.size = w7.heap.size + 1 by simp] at this
  exact this
 have HM : Held (fun k => k = w4.heap.size + 1 ∨ k = g7) ((w7.alloc (.cells #[.slice none 0 0] 32)).alloc (.cells #[.string moreN, .slice none 0 0, .slice (some ⟨w7.heap.size, 0, none⟩) 1 1] 36)) (fun V => RuleE V [.string moreN, .slice none 0 0, .slice (some ⟨w7.heap.size, 0, none⟩) 1 1] more1) := more1_held w7 _ _ (by omega) HG7.2
 obtain ⟨cs, ho, hK⟩ := grow_one (N := w4.heap.size) (base := W6.heap.size) (b := w4.heap.size + 1) (r := more1) (vs := [.string moreN, .slice none 0 0, .slice (some ⟨w7.heap.size, 0, none⟩) 1 1]) hle (by omega) hR7 B7b.out rfl (by omega) (by omega) HM
 have HO : Hid (((w7.alloc (.cells #[.slice none 0 0] 32)).alloc (.cells #[.string moreN, .slice none 0 0, .slice (some ⟨w7.heap.size, 0, none⟩) 1 1] 36)).ownsRow W6.heap.size 36 3 (.slice (some ⟨g7, 0, none⟩) G.length cap7) G.length cs) := ho
 have HK : Hid (∀ (g8 cap8 : Nat) (w8 : World) (u : Value), w8.ownsRow W6.heap.size 36 3 (.slice (some ⟨g8, 0, none⟩) (G.length + 1) cap8) (G.length + 1) (cs ++ [.string moreN, .slice none 0 0, .slice (some ⟨w7.heap.size, 0, none⟩) 1 1]) → ((w7.alloc (.cells #[.slice none 0 0] 32)).alloc (.cells #[.string moreN, .slice none 0 0, .slice (some ⟨w7.heap.size, 0, none⟩) 1 1] 36)).grownBy w8 (some g7) → RowC 3 RuleE (w8.setCell ⟨w4.heap.size + 1, 0, none⟩ u) (.slice (some ⟨g8, 0, none⟩) (G.length + 1) cap8) (G ++ [more1])) := hK
 have HB9 : Hid (W6.heap.size ≤ ((w7.alloc (.cells #[.slice none 0 0] 32)).alloc (.cells #[.string moreN, .slice none 0 0, .slice (some ⟨w7.heap.size, 0, none⟩) 1 1] 36)).heap.size) := Nat.le_trans l7 B7b.out.size
 clear hR7 hgr7 hat7 HM ho hK
 go_wp2_with (at_builtin; refine wpList_append_lies _ rfl _ _ 24 rfl W6.heap.size 36 r0 _ 3 64 Tryz.underlying24 hr hr0 hr1 hr2 rfl (by decide) _ _ _ rfl HO.out ⟨w7.heap.size + 1, 0, none⟩ 1 1 [.string moreN, .slice none 0 0, .slice (some ⟨w7.heap.size, 0, none⟩) 1 1] rfl rfl (World.news_of_block (cs := #[.string moreN, .slice none 0 0, .slice (some ⟨w7.heap.size, 0, none⟩) 1 1]) (t := 36) (fr := (0, 0)) HN7.out) (three_rule9 _ _ _ _ _ _ _) (by omega) (by unfold maxLen; omega) (by omega) HB9.out _ rfl ?_)
 intro g8 cap8 w8 hown8 hgr8 hat8 hlt8
 have B68 : Hid (Below W6.heap.size W6 w8) := (B67.out.trans (B7b.out.mono l7)).grown hgr8 HB9.out (fun k hk => by have : g7 = k := Option.some.inj hk; omega)
 have X8 := (B68.out.block (w4.heap.size + 1) l1).trans HX6.out
 have k1 := run_cell (j := 0) X8 rfl
 have k2 := run_frozen (j := 0) X8
 have k3 := cell_keep q4 B68.out
 have RY : Hid (RowC 3 RuleE (w8.setCell ⟨w4.heap.size + 1, 0, none⟩ (.slice (some ⟨g8, 0, none⟩) (G.length + 1) cap8)) (.slice (some ⟨g8, 0, none⟩) (G.length + 1) cap8) (G ++ [more1])) := HK.out g8 cap8 w8 _ hown8 hgr8
 clear X8 hown8 hgr8 hat8 hlt8
 go_upto_region 7 with fail
 have B48 : Hid (Below w4.heap.size w4 (w8.setCell ⟨w4.heap.size + 1, 0, none⟩ (.slice (some ⟨g8, 0, none⟩) (G.length + 1) cap8))) := (B46.out.trans (B68.out.mono hle)).setCell (show w4.heap.size ≤ w4.heap.size + 1 by omega) _
 have y4 : (w8.setCell ⟨w4.heap.size + 1, 0, none⟩ (.slice (some ⟨g8, 0, none⟩) (G.length + 1) cap8)).cell? ⟨w4.heap.size, 0, none⟩ = some (.slice a4 G.length c4) := (World.cell?_of_block (setCell_other _ (show w4.heap.size ≠ w4.heap.size + 1 by omega))).trans k3
 have y6 : (w8.setCell ⟨w4.heap.size + 1, 0, none⟩ (.slice (some ⟨g8, 0, none⟩) (G.length + 1) cap8)).cell? ⟨w4.heap.size + 1, 0, none⟩ = some (.slice (some ⟨g8, 0, none⟩) (G.length + 1) cap8) := World.cell?_setCell_same _ _ _ k1
 have s8 : (w8.setCell ⟨w4.heap.size + 1, 0, none⟩ (.slice (some ⟨g8, 0, none⟩) (G.length + 1) cap8)).heap.size = w8.heap.size := by simp [World.setCell]
 have l8 : w4.heap.size + 1 < (w8.setCell ⟨w4.heap.size + 1, 0, none⟩ (.slice (some ⟨g8, 0, none⟩) (G.length + 1) cap8)).heap.size := by rw [s8]; have := B68.out.size; omega
 clear k1 k2 k3 s8 B68 B67 B7b HN7 HO HK HB9 l7 HG7 BE HXe HE0 q5 q4 HX6 HS6 l1
 generalize (w8.setCell ⟨w4.heap.size + 1, 0, none⟩ (.slice (some ⟨g8, 0, none⟩) (G.length + 1) cap8)) = W8 at *
 have b9 : Below W8.heap.size W8 (W8.alloc (.cells #[(.slice a4 G.length c4)] 26)) := (Below.refl _ _).alloc (Nat.le_refl _) _
 have z4 := cell_keep y4 b9
 have z6 := cell_keep y6 b9
 have X9 : (W8.alloc (.cells #[(.slice a4 G.length c4)] 26)).heap[W8.heap.size]? = some (.cells #[(.slice a4 G.length c4)] 26 (0, 0)) := heap_alloc_new _ _
 have RY9 : Hid (RowC 3 RuleE (W8.alloc (.cells #[(.slice a4 G.length c4)] 26)) (.slice (some ⟨g8, 0, none⟩) (G.length + 1) cap8) (G ++ [more1])) := RowC.below RuleE_stable RY.out b9
 have B49 : Hid (Below w4.heap.size w4 (W8.alloc (.cells #[(.slice a4 G.length c4)] 26))) := B48.out.trans (b9.mono (by omega))
 have s9 : W8.heap.size < (W8.alloc (.cells #[(.slice a4 G.length c4)] 26)).heap.size := by simp
 have HYW : Hid (∀ W, Below W8.heap.size W8 W → RowC 3 RuleE W (.slice (some ⟨g8, 0, none⟩) (G.length + 1) cap8) (G ++ [more1])) := fun W h => RowC.below RuleE_stable RY.out h
 have B89 : Hid (Below W8.heap.size W8 (W8.alloc (.cells #[(.slice a4 G.length c4)] 26))) := b9
 go_upto_region 8 with fail
 generalize W8.alloc (.cells #[(.slice a4 G.length c4)] 26) = W9 at *
 generalize hp7 : W8.heap.size = p7 at *
 clear hp7
 have HX9 : Hid (W9.heap[p7]? = some (.cells #[(.slice a4 G.length c4)] 26 (0, 0))) := X9
 clear X9 b9 y4 y6 RY B48
 obtain ⟨b, off, vs, rfl, hbl, hbA, hvl, hvc, hvH⟩ := held_first (HX4.out _ B49.out) hG0
 obtain ⟨r0', r1', rfl, hs0, hs1⟩ := hvH.here
 obtain ⟨pp, pc, rfl⟩ := hs0.slice
 obtain ⟨al, ac, rfl⟩ := hs1.slice
 generalize hnm : G[0].name = nm at *
 generalize hpl : G[0].params.length = pl at *
 generalize han : G[0].alts.length = an at *
 have n0 : W9.cell? ⟨b, off, none⟩ = some (.string nm) := hvc 0 (by simp)
 have n1 : W9.cell? ⟨b, off + 1, none⟩ = some (.slice pp pl pc) := hvc 1 (by simp)
 have n2 : W9.cell? ⟨b, off + 2, none⟩ = some (.slice al an ac) := hvc 2 (by simp)
 clear hs0 hs1 hvc
 have l49 : w4.heap.size ≤ W9.heap.size := B49.out.size
 have hne1 : ¬ p7 = w4.heap.size := by omega
 have hne2 : ¬ p7 = b := by omega
 go_cut [] from 30 to 40 (fun wx => ∃ gz capz : Nat, (RowC 3 RuleE wx (.slice (some ⟨gz, 0, none⟩) (G.length + 1) capz) (G ++ [G[0]]) ∧ wx.cell? ⟨p7, 0, none⟩ = some (.slice (some ⟨gz, 0, none⟩) (G.length + 1) capz)) ∧ Below p7 W9 wx)
 case first =>
  refine wp_region_held_drew (S := fun W => W.cell? ⟨w4.heap.size, 0, none⟩ = some (.slice (some ⟨b, off, none⟩) G.length c4) ∧ W.cell? ⟨b, off, none⟩ = some (.string nm) ∧ W.cell? ⟨b, off + 1, none⟩ = some (.slice pp pl pc) ∧ W.cell? ⟨b, off + 2, none⟩ = some (.slice al an ac)) (by kernel_rfl) ?_ (fun hHeld => ?_)
  ·(try dsimp only)
   go_keep
  refine wpAnyH_take (i := 1) (v := ?_) rfl (by kernel_rfl) (by kernel_rfl) (by kernel_rfl) (fun _ _ _ h => h) (Or.inl ⟨by rfl, ?_⟩) hHeld ?_
  rotate_left
  ·intro w hSw
   (try dsimp only at hSw)
   go_simp
   (try with_reducible rfl)
  refine wpAnyH_take (i := 2) (v := ?_) rfl (by kernel_rfl) (by kernel_rfl) (by kernel_rfl) (fun _ _ _ h => h) (Or.inl ⟨by rfl, ?_⟩) hHeld ?_
  rotate_left
  ·intro w hSw
   (try dsimp only at hSw)
   go_simp
   (try with_reducible rfl)
  refine wpAnyH_take (i := 4) (v := ?_) rfl (by kernel_rfl) (by kernel_rfl) (by kernel_rfl) (fun _ _ _ h => h) (Or.inl ⟨by rfl, ?_⟩) hHeld ?_
  rotate_left
  ·intro w hSw
   (try dsimp only at hSw)
   go_simp
   (try with_reducible rfl)
  refine wpAnyH_take (i := 5) (v := ?_) rfl (by kernel_rfl) (by kernel_rfl) (by kernel_rfl) (fun _ _ _ h => h) (Or.inl ⟨by rfl, ?_⟩) hHeld ?_
  rotate_left
  ·intro w hSw
   (try dsimp only at hSw)
   go_simp
   (try with_reducible rfl)
  refine wpAnyH_take (i := 6) (v := ?_) rfl (by kernel_rfl) (by kernel_rfl) (by kernel_rfl) (fun _ _ _ h => h) (Or.inl ⟨by rfl, ?_⟩) hHeld ?_
  rotate_left
  ·intro w hSw
   (try dsimp only at hSw)
   go_simp
   (try with_reducible rfl)
  refine wpAnyH_take (i := 7) (v := ?_) rfl (by kernel_rfl) (by kernel_rfl) (by kernel_rfl) (fun _ _ _ h => h) (Or.inl ⟨by rfl, ?_⟩) hHeld ?_
  rotate_left
  ·intro w hSw
   (try dsimp only at hSw)
   go_simp
   (try with_reducible rfl)
  refine wpAnyH_ready (rs := [0, 8]) (by kernel_rfl) (by simp) ?_
  refine AllReadyH.cons rfl (fun K hK => ?_) (AllReadyH.cons rfl (fun K hK => ?_) AllReadyH.nil)
  ·go_simp
   refine hK.out _ _ ?_ (fun hHeld => ?_)
   ·(try dsimp only)
    go_keep
   clear hK K
   refine wpAnyH_ready (rs := [3, 8]) (by kernel_rfl) (by simp) ?_
   refine AllReadyH.cons rfl (fun K hK => ?_) (AllReadyH.cons rfl (fun K hK => ?_) AllReadyH.nil)
   ·have BWa : Below W9.heap.size W9 (W9.alloc (.cells #[] 36)).drew := bel_drewS ((Below.refl _ _).alloc (Nat.le_refl _) _)
    have HE0 : (W9.alloc (.cells #[] 36)).drew.heap[W9.heap.size]? = some (.cells #[] 36 (0, 0)) := heap_alloc_new W9 _
    have HXa := HX4.out _ (B49.out.trans (BWa.mono l49))
    refine step_append_rulesF rfl _ _ 24 rfl W9.heap.size (W9.heap.size) r0 _ Tryz.underlying24 hr hr0 hr1 hr2 rfl (by first | (simp [Act.eval]; done) | simp [Act.eval, Act.put]) HE0 (by omega) G (some ⟨b, off, none⟩) c4 (by rfl) (fun k => w4.heap.size ≤ k) (by omega) HXa hG0 hGl ?_
    intro g7 cap7 w7 hR7 hgr7 hat7
    have B97 : Below W9.heap.size W9 w7 := BWa.grown hgr7 BWa.size (fun k hk => by have : W9.heap.size = k := Option.some.inj hk; omega)
    have HG7 := RowO.lt hR7 g7 rfl
    have l97 := B97.size
    refine hK.out _ _ ?_ (fun hHeld => ?_)
    ·(try dsimp only)
     exact ⟨cell_keep z4 B97, cell_keep n0 B97, cell_keep n1 B97, cell_keep n2 B97⟩
    clear hK K
    refine wpAnyH_ready (rs := [8]) (by kernel_rfl) (by simp) ?_
    refine AllReadyH.cons rfl (fun K hK => ?_) AllReadyH.nil
    go_simp
    refine hK.out _ _ ?_ (fun hHeld => ?_)
    ·(try dsimp only)
     exact ⟨cell_keep z4 (B97.alloc l97 _), cell_keep n0 (B97.alloc l97 _), cell_keep n1 (B97.alloc l97 _), cell_keep n2 (B97.alloc l97 _)⟩
    clear hK K
    refine wpAnyH_ready (rs := [9]) (by kernel_rfl) (by simp) ?_
    refine AllReadyH.cons rfl (fun K hK => ?_) AllReadyH.nil
    have B7b : Below w7.heap.size w7 (w7.alloc (.cells #[.string nm, .slice pp pl pc, .slice al an ac] 36)) := (Below.refl _ _).alloc (Nat.le_refl _) _
    have HN7 : (w7.alloc (.cells #[.string nm, .slice pp pl pc, .slice al an ac] 36)).heap[w7.heap.size]? = some (.cells #[.string nm, .slice pp pl pc, .slice al an ac] 36 (0, 0)) := heap_alloc_new w7 _
    have HM : Held (fun k => k = p7 ∨ k = g7) (w7.alloc (.cells #[.string nm, .slice pp pl pc, .slice al an ac] 36)) (fun V => RuleE V [.string nm, .slice pp pl pc, .slice al an ac] G[0]) := fun V hV hbl2 => hvH V (Nat.le_trans l97 (Nat.le_trans B7b.size hV)) (fun k hk hn => (hbl2 k (Nat.lt_of_lt_of_le (Nat.lt_of_lt_of_le hk l97) B7b.size) (by omega)).trans ((B7b.block k (Nat.lt_of_lt_of_le hk l97)).trans (B97.block k hk)))
    obtain ⟨cs, ho, hK9⟩ := grow_one (N := w4.heap.size) (base := W9.heap.size) (b := p7) (r := G[0]) (vs := [.string nm, .slice pp pl pc, .slice al an ac]) (by omega) (by omega) hR7 B7b rfl (by omega) s9 HM
    refine step_append_lies _ (by rfl) _ _ _ (by rfl) W9.heap.size 36 r0 _ 3 64 Tryz.underlying24 hr hr0 hr1 hr2 rfl (by decide) _ _ _ (by rfl) ho ⟨w7.heap.size, 0, none⟩ 1 1 [.string nm, .slice pp pl pc, .slice al an ac] (by first | (simp [Act.eval]; done) | simp [Act.eval, Act.put]) (by rfl) (World.news_of_block (cs := #[.string nm, .slice pp pl pc, .slice al an ac]) (t := 36) (fr := (0, 0)) HN7) (three_rule9 _ _ _ _ _ _ _) (by omega) (by unfold maxLen; omega) (by omega) (Nat.le_trans l97 B7b.size) _ rfl ?_
    intro g8' cap8' w8' hown8 hgr8 hat8 hlt8
    have B98 : Below W9.heap.size W9 w8' := (B97.trans (B7b.mono l97)).grown hgr8 (Nat.le_trans l97 B7b.size) (fun k hk => by have : g7 = k := Option.some.inj hk; omega)
    have X8 := (B98.block p7 s9).trans HX9.out
    have k1 := run_cell (j := 0) X8 rfl
    have k2 := run_frozen (j := 0) X8
    have RZ := hK9 g8' cap8' w8' (.slice (some ⟨g8', 0, none⟩) (G.length + 1) cap8') hown8 hgr8
    refine hK.out _ _ ?_ (fun hHeld => ?_)
    ·(try dsimp only)
     exact ⟨cell_keep z4 B98, cell_keep n0 B98, cell_keep n1 B98, cell_keep n2 B98⟩
    clear hK K
    refine wpAnyH_take (i := 10) (v := ?_) rfl (by kernel_rfl) (by kernel_rfl) (by kernel_rfl) (fun _ _ _ h => h) (Or.inl ⟨by rfl, ?_⟩) hHeld ?_
    rotate_left
    ·intro w hSw
     (try dsimp only at hSw)
     go_simp
     (try with_reducible rfl)
    refine wpAnyH_ready (rs := [11]) (by kernel_rfl) (by simp) ?_
    refine AllReadyH.cons rfl (fun K hK => ?_) AllReadyH.nil
    go_simp
    refine hK.out _ _ ?_ (fun hHeld => ?_)
    ·(try dsimp only)
     go_keep
    clear hK K
    refine wpAnyH_done (by kernel_rfl) ?_ _
    (try go_wp2_with fail)
    go_meet
    exact ⟨g8', cap8', ⟨RZ, World.cell?_setCell_same _ _ _ k1⟩, (B98.mono (show p7 ≤ W9.heap.size by omega)).setCell (show p7 ≤ p7 from Nat.le_refl _) _⟩
   ·go_simp
    refine hK.out _ _ ?_ (fun hHeld => ?_)
    ·(try dsimp only)
     go_keep
    clear hK K
    refine wpAnyH_ready (rs := [3]) (by kernel_rfl) (by simp) ?_
    refine AllReadyH.cons rfl (fun K hK => ?_) AllReadyH.nil
    have BWa : Below W9.heap.size W9 ((W9.alloc (.cells #[] 36)).alloc (.cells #[.string nm, .slice pp pl pc, .slice al an ac] 36)).drew := bel_drewS (((Below.refl _ _).alloc (Nat.le_refl _) _).alloc (by simp) _)
    have HE0 : ((W9.alloc (.cells #[] 36)).alloc (.cells #[.string nm, .slice pp pl pc, .slice al an ac] 36)).drew.heap[W9.heap.size]? = some (.cells #[] 36 (0, 0)) := (Below.heap_alloc _ _ _ (by simp)).trans (heap_alloc_new W9 _)
    have HXa := HX4.out _ (B49.out.trans (BWa.mono l49))
    refine step_append_rulesF rfl _ _ 24 rfl W9.heap.size (W9.heap.size) r0 _ Tryz.underlying24 hr hr0 hr1 hr2 rfl (by first | (simp [Act.eval]; done) | simp [Act.eval, Act.put]) HE0 (by omega) G (some ⟨b, off, none⟩) c4 (by rfl) (fun k => w4.heap.size ≤ k) (by omega) HXa hG0 hGl ?_
    intro g7 cap7 w7 hR7 hgr7 hat7
    have B97 : Below W9.heap.size W9 w7 := BWa.grown hgr7 BWa.size (fun k hk => by have : W9.heap.size = k := Option.some.inj hk; omega)
    have HG7 := RowO.lt hR7 g7 rfl
    have l97 := B97.size
    refine hK.out _ _ ?_ (fun hHeld => ?_)
    ·(try dsimp only)
     exact ⟨cell_keep z4 B97, cell_keep n0 B97, cell_keep n1 B97, cell_keep n2 B97⟩
    clear hK K
    refine wpAnyH_ready (rs := [9]) (by kernel_rfl) (by simp) ?_
    refine AllReadyH.cons rfl (fun K hK => ?_) AllReadyH.nil
    have B7b : Below w7.heap.size w7 w7 := Below.refl _ _
    have HN7 : w7.heap[W9.heap.size + 1]? = some (.cells #[.string nm, .slice pp pl pc, .slice al an ac] 36 (0, 0)) := (hgr7.block (W9.heap.size + 1) (by simp) (fun e => by have := Option.some.inj e; omega)).trans (by
     have := heap_alloc_new (W9.alloc (.cells #[] 36)) (.cells #[.string nm, .slice pp pl pc, .slice al an ac] 36)
     rwa [show (W9.alloc (.cells #[] 36)).heap.size = W9.heap.size + 1 by simp] at this)
    have HM : Held (fun k => k = p7 ∨ k = g7) w7 (fun V => RuleE V [.string nm, .slice pp pl pc, .slice al an ac] G[0]) := fun V hV hbl2 => hvH V (Nat.le_trans l97 (Nat.le_trans B7b.size hV)) (fun k hk hn => (hbl2 k (Nat.lt_of_lt_of_le (Nat.lt_of_lt_of_le hk l97) B7b.size) (by omega)).trans ((B7b.block k (Nat.lt_of_lt_of_le hk l97)).trans (B97.block k hk)))
    obtain ⟨cs, ho, hK9⟩ := grow_one (N := w4.heap.size) (base := W9.heap.size) (b := p7) (r := G[0]) (vs := [.string nm, .slice pp pl pc, .slice al an ac]) (by omega) (by omega) hR7 B7b rfl (by omega) s9 HM
    refine step_append_lies _ (by rfl) _ _ _ (by rfl) W9.heap.size 36 r0 _ 3 64 Tryz.underlying24 hr hr0 hr1 hr2 rfl (by decide) _ _ _ (by rfl) ho ⟨W9.heap.size + 1, 0, none⟩ 1 1 [.string nm, .slice pp pl pc, .slice al an ac] (by first | (simp [Act.eval]; done) | simp [Act.eval, Act.put]) (by rfl) (World.news_of_block (cs := #[.string nm, .slice pp pl pc, .slice al an ac]) (t := 36) (fr := (0, 0)) HN7) (three_rule9 _ _ _ _ _ _ _) (by omega) (by unfold maxLen; omega) (by omega) (Nat.le_trans l97 B7b.size) _ rfl ?_
    intro g8' cap8' w8' hown8 hgr8 hat8 hlt8
    have B98 : Below W9.heap.size W9 w8' := (B97.trans (B7b.mono l97)).grown hgr8 (Nat.le_trans l97 B7b.size) (fun k hk => by have : g7 = k := Option.some.inj hk; omega)
    have X8 := (B98.block p7 s9).trans HX9.out
    have k1 := run_cell (j := 0) X8 rfl
    have k2 := run_frozen (j := 0) X8
    have RZ := hK9 g8' cap8' w8' (.slice (some ⟨g8', 0, none⟩) (G.length + 1) cap8') hown8 hgr8
    refine hK.out _ _ ?_ (fun hHeld => ?_)
    ·(try dsimp only)
     exact ⟨cell_keep z4 B98, cell_keep n0 B98, cell_keep n1 B98, cell_keep n2 B98⟩
    clear hK K
    refine wpAnyH_take (i := 10) (v := ?_) rfl (by kernel_rfl) (by kernel_rfl) (by kernel_rfl) (fun _ _ _ h => h) (Or.inl ⟨by rfl, ?_⟩) hHeld ?_
    rotate_left
    ·intro w hSw
     (try dsimp only at hSw)
     go_simp
     (try with_reducible rfl)
    refine wpAnyH_ready (rs := [11]) (by kernel_rfl) (by simp) ?_
    refine AllReadyH.cons rfl (fun K hK => ?_) AllReadyH.nil
    go_simp
    refine hK.out _ _ ?_ (fun hHeld => ?_)
    ·(try dsimp only)
     go_keep
    clear hK K
    refine wpAnyH_done (by kernel_rfl) ?_ _
    (try go_wp2_with fail)
    go_meet
    exact ⟨g8', cap8', ⟨RZ, World.cell?_setCell_same _ _ _ k1⟩, (B98.mono (show p7 ≤ W9.heap.size by omega)).setCell (show p7 ≤ p7 from Nat.le_refl _) _⟩
  ·go_simp
   refine hK.out _ _ ?_ (fun hHeld => ?_)
   ·(try dsimp only)
    go_keep
   clear hK K
   refine wpAnyH_ready (rs := [0]) (by kernel_rfl) (by simp) ?_
   refine AllReadyH.cons rfl (fun K hK => ?_) AllReadyH.nil
   go_simp
   refine hK.out _ _ ?_ (fun hHeld => ?_)
   ·(try dsimp only)
    go_keep
   clear hK K
   refine wpAnyH_ready (rs := [3]) (by kernel_rfl) (by simp) ?_
   refine AllReadyH.cons rfl (fun K hK => ?_) AllReadyH.nil
   have BWa : Below W9.heap.size W9 ((W9.alloc (.cells #[.string nm, .slice pp pl pc, .slice al an ac] 36)).alloc (.cells #[] 36)).drew := bel_drewS (((Below.refl _ _).alloc (Nat.le_refl _) _).alloc (by simp) _)
   have HE0 : ((W9.alloc (.cells #[.string nm, .slice pp pl pc, .slice al an ac] 36)).alloc (.cells #[] 36)).drew.heap[W9.heap.size + 1]? = some (.cells #[] 36 (0, 0)) := by
    have := heap_alloc_new (W9.alloc (.cells #[.string nm, .slice pp pl pc, .slice al an ac] 36)) (.cells #[] 36)
    rwa [show (W9.alloc (.cells #[.string nm, .slice pp pl pc, .slice al an ac] 36)).heap.size = W9.heap.size + 1 by simp] at this
   have HXa := HX4.out _ (B49.out.trans (BWa.mono l49))
   refine step_append_rulesF rfl _ _ 24 rfl W9.heap.size (W9.heap.size + 1) r0 _ Tryz.underlying24 hr hr0 hr1 hr2 rfl (by first | (simp [Act.eval]; done) | simp [Act.eval, Act.put]) HE0 (by omega) G (some ⟨b, off, none⟩) c4 (by rfl) (fun k => w4.heap.size ≤ k) (by omega) HXa hG0 hGl ?_
   intro g7 cap7 w7 hR7 hgr7 hat7
   have B97 : Below W9.heap.size W9 w7 := BWa.grown hgr7 BWa.size (fun k hk => by have : W9.heap.size + 1 = k := Option.some.inj hk; omega)
   have HG7 := RowO.lt hR7 g7 rfl
   have l97 := B97.size
   refine hK.out _ _ ?_ (fun hHeld => ?_)
   ·(try dsimp only)
    exact ⟨cell_keep z4 B97, cell_keep n0 B97, cell_keep n1 B97, cell_keep n2 B97⟩
   clear hK K
   refine wpAnyH_ready (rs := [9]) (by kernel_rfl) (by simp) ?_
   refine AllReadyH.cons rfl (fun K hK => ?_) AllReadyH.nil
   have B7b : Below w7.heap.size w7 w7 := Below.refl _ _
   have HN7 : w7.heap[W9.heap.size]? = some (.cells #[.string nm, .slice pp pl pc, .slice al an ac] 36 (0, 0)) := (hgr7.block W9.heap.size (by simp; omega) (fun e => by have := Option.some.inj e; omega)).trans ((Below.heap_alloc _ _ _ (by simp)).trans (heap_alloc_new W9 _))
   have HM : Held (fun k => k = p7 ∨ k = g7) w7 (fun V => RuleE V [.string nm, .slice pp pl pc, .slice al an ac] G[0]) := fun V hV hbl2 => hvH V (Nat.le_trans l97 (Nat.le_trans B7b.size hV)) (fun k hk hn => (hbl2 k (Nat.lt_of_lt_of_le (Nat.lt_of_lt_of_le hk l97) B7b.size) (by omega)).trans ((B7b.block k (Nat.lt_of_lt_of_le hk l97)).trans (B97.block k hk)))
   obtain ⟨cs, ho, hK9⟩ := grow_one (N := w4.heap.size) (base := W9.heap.size) (b := p7) (r := G[0]) (vs := [.string nm, .slice pp pl pc, .slice al an ac]) (by omega) (by omega) hR7 B7b rfl (by omega) s9 HM
   refine step_append_lies _ (by rfl) _ _ _ (by rfl) W9.heap.size 36 r0 _ 3 64 Tryz.underlying24 hr hr0 hr1 hr2 rfl (by decide) _ _ _ (by rfl) ho ⟨W9.heap.size, 0, none⟩ 1 1 [.string nm, .slice pp pl pc, .slice al an ac] (by first | (simp [Act.eval]; done) | simp [Act.eval, Act.put]) (by rfl) (World.news_of_block (cs := #[.string nm, .slice pp pl pc, .slice al an ac]) (t := 36) (fr := (0, 0)) HN7) (three_rule9 _ _ _ _ _ _ _) (by omega) (by unfold maxLen; omega) (by omega) (Nat.le_trans l97 B7b.size) _ rfl ?_
   intro g8' cap8' w8' hown8 hgr8 hat8 hlt8
   have B98 : Below W9.heap.size W9 w8' := (B97.trans (B7b.mono l97)).grown hgr8 (Nat.le_trans l97 B7b.size) (fun k hk => by have : g7 = k := Option.some.inj hk; omega)
   have X8 := (B98.block p7 s9).trans HX9.out
   have k1 := run_cell (j := 0) X8 rfl
   have k2 := run_frozen (j := 0) X8
   have RZ := hK9 g8' cap8' w8' (.slice (some ⟨g8', 0, none⟩) (G.length + 1) cap8') hown8 hgr8
   refine hK.out _ _ ?_ (fun hHeld => ?_)
   ·(try dsimp only)
    exact ⟨cell_keep z4 B98, cell_keep n0 B98, cell_keep n1 B98, cell_keep n2 B98⟩
   clear hK K
   refine wpAnyH_take (i := 10) (v := ?_) rfl (by kernel_rfl) (by kernel_rfl) (by kernel_rfl) (fun _ _ _ h => h) (Or.inl ⟨by rfl, ?_⟩) hHeld ?_
   rotate_left
   ·intro w hSw
    (try dsimp only at hSw)
    go_simp
    (try with_reducible rfl)
   refine wpAnyH_ready (rs := [11]) (by kernel_rfl) (by simp) ?_
   refine AllReadyH.cons rfl (fun K hK => ?_) AllReadyH.nil
   go_simp
   refine hK.out _ _ ?_ (fun hHeld => ?_)
   ·(try dsimp only)
    go_keep
   clear hK K
   refine wpAnyH_done (by kernel_rfl) ?_ _
   (try go_wp2_with fail)
   go_meet
   exact ⟨g8', cap8', ⟨RZ, World.cell?_setCell_same _ _ _ k1⟩, (B98.mono (show p7 ≤ W9.heap.size by omega)).setCell (show p7 ≤ p7 from Nat.le_refl _) _⟩
 case rest =>
  obtain ⟨gz, capz, ⟨hRZ, hcz⟩, hBz⟩ := hcut
  have B4c : Hid (Below w4.heap.size w4 wc) := B49.out.trans (hBz.mono (by omega))
  have x4 : wc.cell? ⟨w4.heap.size, 0, none⟩ = some (.slice (some ⟨b, off, none⟩) G.length c4) := (World.cell?_of_block (hBz.block w4.heap.size (by omega))).trans z4
  have x6 : wc.cell? ⟨w4.heap.size + 1, 0, none⟩ = some (.slice (some ⟨g8, 0, none⟩) (G.length + 1) cap8) := (World.cell?_of_block (hBz.block (w4.heap.size + 1) (by omega))).trans z6
  have RYc : Hid (RowC 3 RuleE wc (.slice (some ⟨g8, 0, none⟩) (G.length + 1) cap8) (G ++ [more1])) := HYW.out _ (B89.out.trans hBz)
  have RZc : Hid (RowC 3 RuleE wc (.slice (some ⟨gz, 0, none⟩) (G.length + 1) capz) (G ++ [G[0]])) := hRZ
  have lpc : p7 < wc.heap.size := World.block_lt_of_cell? wc _ hcz
  clear hRZ hBz z4 z6 n0 n1 n2 HX9 RY9 HYW B89 hvH hne1 hne2 hbA B49
  have b10 : Below wc.heap.size wc (wc.alloc (.cells #[(.slice (some ⟨b, off, none⟩) G.length c4)] 26)) := (Below.refl _ _).alloc (Nat.le_refl _) _
  have v4 := cell_keep x4 b10
  have v6 := cell_keep x6 b10
  have v7 := cell_keep hcz b10
  have X10 : (wc.alloc (.cells #[(.slice (some ⟨b, off, none⟩) G.length c4)] 26)).heap[wc.heap.size]? = some (.cells #[(.slice (some ⟨b, off, none⟩) G.length c4)] 26 (0, 0)) := heap_alloc_new _ _
  have HW10 : Hid (∀ W, Below wc.heap.size wc W → RowC 3 RuleE W (.slice (some ⟨g8, 0, none⟩) (G.length + 1) cap8) (G ++ [more1]) ∧ RowC 3 RuleE W (.slice (some ⟨gz, 0, none⟩) (G.length + 1) capz) (G ++ [G[0]])) := fun W h => ⟨RowC.below RuleE_stable RYc.out h, RowC.below RuleE_stable RZc.out h⟩
  have BC10 : Hid (Below wc.heap.size wc (wc.alloc (.cells #[(.slice (some ⟨b, off, none⟩) G.length c4)] 26))) := b10
  have s10 : wc.heap.size < (wc.alloc (.cells #[(.slice (some ⟨b, off, none⟩) G.length c4)] 26)).heap.size := by simp
  have l4c : w4.heap.size ≤ wc.heap.size := B4c.out.size
  go_upto_region 10 with fail
  generalize wc.alloc (.cells #[(.slice (some ⟨b, off, none⟩) G.length c4)] 26) = W10 at *
  have HX10 : Hid (W10.heap[wc.heap.size]? = some (.cells #[(.slice (some ⟨b, off, none⟩) G.length c4)] 26 (0, 0))) := X10
  have BE : Hid (Below W10.heap.size W10 (W10.alloc (.cells #[] 36))) := (Below.refl _ _).alloc (Nat.le_refl _) _
  have v5 := cell_keep v4 BE.out
  have HE0 : Hid ((W10.alloc (.cells #[] 36)).heap[W10.heap.size]? = some (.cells #[] 36 (0, 0))) := heap_alloc_new _ _
  have B410 : Hid (Below w4.heap.size w4 W10) := B4c.out.trans (BC10.out.mono l4c)
  have l10 : w4.heap.size ≤ W10.heap.size := B410.out.size
  have HXe : Hid (Held (fun k => w4.heap.size ≤ k) (W10.alloc (.cells #[] 36)) (fun V => RowC 3 RuleE V (.slice (some ⟨b, off, none⟩) G.length c4) G)) := HX4.out _ (B410.out.trans (BE.out.mono l10))
  clear X10 b10 x4 x6 hcz
  go_wp2_with (at_builtin; refine append_rulesF rfl _ _ 24 rfl W10.heap.size W10.heap.size r0 _ Tryz.underlying24 hr hr0 hr1 hr2 rfl rfl HE0.out (Nat.le_refl _) G (some ⟨b, off, none⟩) c4 rfl (fun k => w4.heap.size ≤ k) l10 HXe.out hG0 hGl ?_)
  intro g7 cap7 w7 hR7 hgr7 hat7
  have B67 : Hid (Below W10.heap.size W10 w7) := BE.out.grown hgr7 (BE.out.size) (fun k hk => by have := Option.some.inj hk; omega)
  have HG7 := RowO.lt hR7 g7 rfl
  have l7 : W10.heap.size ≤ w7.heap.size := B67.out.size
  have B7b : Hid (Below w7.heap.size w7 (((w7.alloc (.cells #[.int .i64 3, .string none4, .slice none 0 0, .string ⟨#[]⟩] 39)).alloc (.cells #[.slice (some ⟨w7.heap.size, 0, none⟩) 1 1] 32)).alloc (.cells #[.string moreN, .slice none 0 0, .slice (some ⟨w7.heap.size + 1, 0, none⟩) 1 1] 36))) := (((Below.refl _ _).alloc (Nat.le_refl _) _).alloc (by simp) _).alloc (by simp; omega) _
  have HN7 : Hid ((((w7.alloc (.cells #[.int .i64 3, .string none4, .slice none 0 0, .string ⟨#[]⟩] 39)).alloc (.cells #[.slice (some ⟨w7.heap.size, 0, none⟩) 1 1] 32)).alloc (.cells #[.string moreN, .slice none 0 0, .slice (some ⟨w7.heap.size + 1, 0, none⟩) 1 1] 36)).heap[w7.heap.size + 2]? = some (.cells #[.string moreN, .slice none 0 0, .slice (some ⟨w7.heap.size + 1, 0, none⟩) 1 1] 36 (0, 0))) := by
   have := heap_alloc_new ((w7.alloc (.cells #[.int .i64 3, .string none4, .slice none 0 0, .string ⟨#[]⟩] 39)).alloc (.cells #[.slice (some ⟨w7.heap.size, 0, none⟩) 1 1] 32)) (.cells #[.string moreN, .slice none 0 0, .slice (some ⟨w7.heap.size + 1, 0, none⟩) 1 1] 36)
   rw [show ((w7.alloc (.cells #[.int .i64 3, .string none4, .slice none 0 0, .string ⟨#[]⟩] 39)).alloc (.cells #[.slice (some ⟨w7.heap.size, 0, none⟩) 1 1] 32)).heap.size = w7.heap.size + 2 by simp] at this
   exact this
  have HM : Held (fun k => k = wc.heap.size ∨ k = g7) (((w7.alloc (.cells #[.int .i64 3, .string none4, .slice none 0 0, .string ⟨#[]⟩] 39)).alloc (.cells #[.slice (some ⟨w7.heap.size, 0, none⟩) 1 1] 32)).alloc (.cells #[.string moreN, .slice none 0 0, .slice (some ⟨w7.heap.size + 1, 0, none⟩) 1 1] 36)) (fun V => RuleE V [.string moreN, .slice none 0 0, .slice (some ⟨w7.heap.size + 1, 0, none⟩) 1 1] more2) := more2_held w7 _ _ (by omega) HG7.2
  obtain ⟨cs, ho, hK⟩ := grow_one (N := w4.heap.size) (base := W10.heap.size) (b := wc.heap.size) (r := more2) (vs := [.string moreN, .slice none 0 0, .slice (some ⟨w7.heap.size + 1, 0, none⟩) 1 1]) l10 (by omega) hR7 B7b.out rfl (by omega) (by omega) HM
  have HO : Hid ((((w7.alloc (.cells #[.int .i64 3, .string none4, .slice none 0 0, .string ⟨#[]⟩] 39)).alloc (.cells #[.slice (some ⟨w7.heap.size, 0, none⟩) 1 1] 32)).alloc (.cells #[.string moreN, .slice none 0 0, .slice (some ⟨w7.heap.size + 1, 0, none⟩) 1 1] 36)).ownsRow W10.heap.size 36 3 (.slice (some ⟨g7, 0, none⟩) G.length cap7) G.length cs) := ho
  have HK : Hid (∀ (g8 cap8 : Nat) (w8 : World) (u : Value), w8.ownsRow W10.heap.size 36 3 (.slice (some ⟨g8, 0, none⟩) (G.length + 1) cap8) (G.length + 1) (cs ++ [.string moreN, .slice none 0 0, .slice (some ⟨w7.heap.size + 1, 0, none⟩) 1 1]) → (((w7.alloc (.cells #[.int .i64 3, .string none4, .slice none 0 0, .string ⟨#[]⟩] 39)).alloc (.cells #[.slice (some ⟨w7.heap.size, 0, none⟩) 1 1] 32)).alloc (.cells #[.string moreN, .slice none 0 0, .slice (some ⟨w7.heap.size + 1, 0, none⟩) 1 1] 36)).grownBy w8 (some g7) → RowC 3 RuleE (w8.setCell ⟨wc.heap.size, 0, none⟩ u) (.slice (some ⟨g8, 0, none⟩) (G.length + 1) cap8) (G ++ [more2])) := hK
  have HB9 : Hid (W10.heap.size ≤ (((w7.alloc (.cells #[.int .i64 3, .string none4, .slice none 0 0, .string ⟨#[]⟩] 39)).alloc (.cells #[.slice (some ⟨w7.heap.size, 0, none⟩) 1 1] 32)).alloc (.cells #[.string moreN, .slice none 0 0, .slice (some ⟨w7.heap.size + 1, 0, none⟩) 1 1] 36)).heap.size) := Nat.le_trans l7 B7b.out.size
  clear hR7 hgr7 hat7 HM ho hK
  go_wp2_with (at_builtin; refine wpList_append_lies _ rfl _ _ 24 rfl W10.heap.size 36 r0 _ 3 64 Tryz.underlying24 hr hr0 hr1 hr2 rfl (by decide) _ _ _ rfl HO.out ⟨w7.heap.size + 2, 0, none⟩ 1 1 [.string moreN, .slice none 0 0, .slice (some ⟨w7.heap.size + 1, 0, none⟩) 1 1] rfl rfl (World.news_of_block (cs := #[.string moreN, .slice none 0 0, .slice (some ⟨w7.heap.size + 1, 0, none⟩) 1 1]) (t := 36) (fr := (0, 0)) HN7.out) (three_rule9 _ _ _ _ _ _ _) (by omega) (by unfold maxLen; omega) (by omega) HB9.out _ rfl ?_)
  intro gw capw w9 hown9 hgr9 hat9 hlt9
  have B69 : Hid (Below W10.heap.size W10 w9) := (B67.out.trans (B7b.out.mono l7)).grown hgr9 HB9.out (fun k hk => by have : g7 = k := Option.some.inj hk; omega)
  have X9' := (B69.out.block wc.heap.size s10).trans HX10.out
  have k1 := run_cell (j := 0) X9' rfl
  have k2 := run_frozen (j := 0) X9'
  have RWc : Hid (RowC 3 RuleE (w9.setCell ⟨wc.heap.size, 0, none⟩ (.slice (some ⟨gw, 0, none⟩) (G.length + 1) capw)) (.slice (some ⟨gw, 0, none⟩) (G.length + 1) capw) (G ++ [more2])) := HK.out gw capw w9 _ hown9 hgr9
  clear X9' hown9 hgr9 hat9 hlt9
  go_upto_region 11 with fail
  have BWF : Hid (Below wc.heap.size wc (w9.setCell ⟨wc.heap.size, 0, none⟩ (.slice (some ⟨gw, 0, none⟩) (G.length + 1) capw))) := (BC10.out.trans (B69.out.mono (by omega))).setCell (Nat.le_refl _) _
  have p3 : wc.cell? ⟨b3, 0, none⟩ = some (.slice a2 G2.length c2) := cell_keep c4' B4c.out
  have f3 := cell_keep p3 BWF.out
  have f4 : (w9.setCell ⟨wc.heap.size, 0, none⟩ (.slice (some ⟨gw, 0, none⟩) (G.length + 1) capw)).cell? ⟨w4.heap.size, 0, none⟩ = some (.slice (some ⟨b, off, none⟩) G.length c4) := (World.cell?_of_block (setCell_other _ (show w4.heap.size ≠ wc.heap.size by omega))).trans (cell_keep v4 B69.out)
  have f6 : (w9.setCell ⟨wc.heap.size, 0, none⟩ (.slice (some ⟨gw, 0, none⟩) (G.length + 1) capw)).cell? ⟨w4.heap.size + 1, 0, none⟩ = some (.slice (some ⟨g8, 0, none⟩) (G.length + 1) cap8) := (World.cell?_of_block (setCell_other _ (show w4.heap.size + 1 ≠ wc.heap.size by omega))).trans (cell_keep v6 B69.out)
  have f7 : (w9.setCell ⟨wc.heap.size, 0, none⟩ (.slice (some ⟨gw, 0, none⟩) (G.length + 1) capw)).cell? ⟨p7, 0, none⟩ = some (.slice (some ⟨gz, 0, none⟩) (G.length + 1) capz) := (World.cell?_of_block (setCell_other _ (show p7 ≠ wc.heap.size by omega))).trans (cell_keep v7 B69.out)
  have f8 : (w9.setCell ⟨wc.heap.size, 0, none⟩ (.slice (some ⟨gw, 0, none⟩) (G.length + 1) capw)).cell? ⟨wc.heap.size, 0, none⟩ = some (.slice (some ⟨gw, 0, none⟩) (G.length + 1) capw) := World.cell?_setCell_same _ _ _ k1
  have BF : Hid (Below w1.heap.size w1 (w9.setCell ⟨wc.heap.size, 0, none⟩ (.slice (some ⟨gw, 0, none⟩) (G.length + 1) capw))) := (B4.out.trans (B4c.out.mono B4.out.size)).trans (BWF.out.mono (Nat.le_trans B4.out.size l4c))
  have RG : Hid (RowC 3 RuleE (w9.setCell ⟨wc.heap.size, 0, none⟩ (.slice (some ⟨gw, 0, none⟩) (G.length + 1) capw)) (.slice a2 G2.length c2) G2) := RowC.below RuleE_stable (RowC.below RuleE_stable R4.out B4c.out) BWF.out
  have RX : Hid (RowC 3 RuleE (w9.setCell ⟨wc.heap.size, 0, none⟩ (.slice (some ⟨gw, 0, none⟩) (G.length + 1) capw)) (.slice (some ⟨b, off, none⟩) G.length c4) G) := (HX4.out _ (B4c.out.trans (BWF.out.mono l4c))).here
  have RYZ := HW10.out _ BWF.out
  have RY : Hid (RowC 3 RuleE (w9.setCell ⟨wc.heap.size, 0, none⟩ (.slice (some ⟨gw, 0, none⟩) (G.length + 1) capw)) (.slice (some ⟨g8, 0, none⟩) (G.length + 1) cap8) (G ++ [more1])) := RYZ.1
  have RZ : Hid (RowC 3 RuleE (w9.setCell ⟨wc.heap.size, 0, none⟩ (.slice (some ⟨gw, 0, none⟩) (G.length + 1) capw)) (.slice (some ⟨gz, 0, none⟩) (G.length + 1) capz) (G ++ [G[0]])) := RYZ.2
  have EF : Hid (errTy (w9.setCell ⟨wc.heap.size, 0, none⟩ (.slice (some ⟨gw, 0, none⟩) (G.length + 1) capw))) := HEr.out.below BF.out
  clear k1 k2 RYZ p3 v4 v5 v6 v7 c4'
  generalize (w9.setCell ⟨wc.heap.size, 0, none⟩ (.slice (some ⟨gw, 0, none⟩) (G.length + 1) capw)) = Wf at *
  generalize wc.heap.size = p8 at *
  obtain ⟨hg1, hg2, hg3, hg4, htot⟩ := HG.out
  have tt : ∀ r : RuleD, ruleTot r ≤ 100000 → grammarTot (G ++ [r]) ≤ 1048576 := fun r hr => by
   have : grammarTot (G ++ [r]) = grammarTot G + 1 + ruleTot r := rowTot_snoc ruleTot G r
   omega
  have t0 : ruleTot G[0] ≤ 100000 := Nat.le_trans (rowTot_mem ruleTot (List.getElem_mem hG0)) htot
  have HI : Hid (∀ (gv : Value) (g : List RuleD) (bb : Bool), gramB g = bb → grammarTot g ≤ 1048576 → RowC 3 RuleE Wf gv g → ∀ W, Below Wf.heap.size Wf W → Calls Tryz.prog 7 #[.agg #[gv]] W fun e w' => e = .returned (.bool bb) ∧ Below W.heap.size W w') := fun gv g bb hbb ht hR W hW => by
   rw [← hbb]
   exact implGrammarOk_any gv g W (EF.out.below hW) ht (RowC.below RuleE_stable hR hW)
  have H1 : Hid (∀ W, Below Wf.heap.size Wf W → _) := HI.out _ G2 (gramB G2) rfl HT2.out.1 RG.out
  have H2 : Hid (∀ W, Below Wf.heap.size Wf W → Calls Tryz.prog 8 #[.agg #[.slice a2 G2.length c2]] W fun e w' => e = .returned (.bool (gramB G2)) ∧ Below W.heap.size W w') := fun W hW => specGrammarOk_any _ G2 W HT2.out.1 HT2.out.2 (RowC.below RuleE_stable RG.out hW)
  have H3 : Hid (∀ W, Below Wf.heap.size Wf W → _) := HI.out _ G true hg1 (by omega) RX.out
  have H4 : Hid (∀ W, Below Wf.heap.size Wf W → _) := HI.out _ (G ++ [more1]) true hg2 (tt _ (by decide)) RY.out
  have H5 : Hid (∀ W, Below Wf.heap.size Wf W → _) := HI.out _ (G ++ [G[0]]) false hg3 (tt _ t0) RZ.out
  have H6 : Hid (∀ W, Below Wf.heap.size Wf W → _) := HI.out _ (G ++ [more2]) false hg4 (tt _ (by decide)) RWc.out
  have H7 : Hid (∀ W, Below Wf.heap.size Wf W → _) := HI.out (.slice none 0 0) [] false gr_none (by decide) ⟨none, 0, rfl, fun _ => rfl, fun h => absurd h (by simp)⟩
  clear HI hg1 hg2 hg3 hg4 htot tt t0 HG HT2 RG RX RY RZ RWc EF HX4 HW10
  generalize gramB G2 = bg at *
  have qb : (bg == bg) = true := by cases bg <;> rfl
  have BD : Below Wf.heap.size Wf Wf.drew := bel_drewS (Below.refl _ _)
  go_wp2
  go_region_held3 (fun W => W.cell? ⟨b3, 0, none⟩ = some (.slice a2 G2.length c2) ∧ W.cell? ⟨w4.heap.size, 0, none⟩ = some (.slice (some ⟨b, off, none⟩) G.length c4) ∧ W.cell? ⟨w4.heap.size + 1, 0, none⟩ = some (.slice (some ⟨g8, 0, none⟩) (G.length + 1) cap8) ∧ W.cell? ⟨p7, 0, none⟩ = some (.slice (some ⟨gz, 0, none⟩) (G.length + 1) capz) ∧ W.cell? ⟨p8, 0, none⟩ = some (.slice (some ⟨gw, 0, none⟩) (G.length + 1) capw))
   ((first | exact keepFiveG (by assumption) hb7 | exact keepFiveG (by assumption) hb6 | exact keepFiveG (by assumption) hb5 | exact keepFiveG (by assumption) hb4 | exact keepFiveG (by assumption) hb3 | exact keepFiveG (by assumption) hb2 | exact keepFiveG (by assumption) hb1 | go_keep))
   ((first
    | (go_at_call 7; refine (H7.out _ ((((((BD.trans (hb1.mono (Nat.le_trans BD.size (Nat.le_refl _)))).trans (hb2.mono (Nat.le_trans BD.size (Nat.le_trans (Nat.le_refl _) hb1.size)))).trans (hb3.mono (Nat.le_trans BD.size (Nat.le_trans (Nat.le_trans (Nat.le_refl _) hb1.size) hb2.size)))).trans (hb4.mono (Nat.le_trans BD.size (Nat.le_trans (Nat.le_trans (Nat.le_trans (Nat.le_refl _) hb1.size) hb2.size) hb3.size)))).trans (hb5.mono (Nat.le_trans BD.size (Nat.le_trans (Nat.le_trans (Nat.le_trans (Nat.le_trans (Nat.le_refl _) hb1.size) hb2.size) hb3.size) hb4.size)))).trans (hb6.mono (Nat.le_trans BD.size (Nat.le_trans (Nat.le_trans (Nat.le_trans (Nat.le_trans (Nat.le_trans (Nat.le_refl _) hb1.size) hb2.size) hb3.size) hb4.size) hb5.size))))).mono ?_; rintro e u7 ⟨rfl, hb7⟩)
    | (go_at_call 7; refine (H6.out _ (((((BD.trans (hb1.mono (Nat.le_trans BD.size (Nat.le_refl _)))).trans (hb2.mono (Nat.le_trans BD.size (Nat.le_trans (Nat.le_refl _) hb1.size)))).trans (hb3.mono (Nat.le_trans BD.size (Nat.le_trans (Nat.le_trans (Nat.le_refl _) hb1.size) hb2.size)))).trans (hb4.mono (Nat.le_trans BD.size (Nat.le_trans (Nat.le_trans (Nat.le_trans (Nat.le_refl _) hb1.size) hb2.size) hb3.size)))).trans (hb5.mono (Nat.le_trans BD.size (Nat.le_trans (Nat.le_trans (Nat.le_trans (Nat.le_trans (Nat.le_refl _) hb1.size) hb2.size) hb3.size) hb4.size))))).mono ?_; rintro e u6 ⟨rfl, hb6⟩)
    | (go_at_call 7; refine (H5.out _ ((((BD.trans (hb1.mono (Nat.le_trans BD.size (Nat.le_refl _)))).trans (hb2.mono (Nat.le_trans BD.size (Nat.le_trans (Nat.le_refl _) hb1.size)))).trans (hb3.mono (Nat.le_trans BD.size (Nat.le_trans (Nat.le_trans (Nat.le_refl _) hb1.size) hb2.size)))).trans (hb4.mono (Nat.le_trans BD.size (Nat.le_trans (Nat.le_trans (Nat.le_trans (Nat.le_refl _) hb1.size) hb2.size) hb3.size))))).mono ?_; rintro e u5 ⟨rfl, hb5⟩)
    | (go_at_call 7; refine (H4.out _ (((BD.trans (hb1.mono (Nat.le_trans BD.size (Nat.le_refl _)))).trans (hb2.mono (Nat.le_trans BD.size (Nat.le_trans (Nat.le_refl _) hb1.size)))).trans (hb3.mono (Nat.le_trans BD.size (Nat.le_trans (Nat.le_trans (Nat.le_refl _) hb1.size) hb2.size))))).mono ?_; rintro e u4 ⟨rfl, hb4⟩)
    | (go_at_call 7; refine (H3.out _ ((BD.trans (hb1.mono (Nat.le_trans BD.size (Nat.le_refl _)))).trans (hb2.mono (Nat.le_trans BD.size (Nat.le_trans (Nat.le_refl _) hb1.size))))).mono ?_; rintro e u3 ⟨rfl, hb3⟩)
    | (go_at_call 8; refine (H2.out _ (BD.trans (hb1.mono (Nat.le_trans BD.size (Nat.le_refl _))))).mono ?_; rintro e u2 ⟨rfl, hb2⟩)
    | (go_at_call 7; refine (H1.out _ BD).mono ?_; rintro e u1 ⟨rfl, hb1⟩)))
  have BU : Hid (Below w1.heap.size w1 u7) := by
   have h := (((((((BD.trans (hb1.mono (Nat.le_trans BD.size (Nat.le_refl _)))).trans (hb2.mono (Nat.le_trans BD.size (Nat.le_trans (Nat.le_refl _) hb1.size)))).trans (hb3.mono (Nat.le_trans BD.size (Nat.le_trans (Nat.le_trans (Nat.le_refl _) hb1.size) hb2.size)))).trans (hb4.mono (Nat.le_trans BD.size (Nat.le_trans (Nat.le_trans (Nat.le_trans (Nat.le_refl _) hb1.size) hb2.size) hb3.size)))).trans (hb5.mono (Nat.le_trans BD.size (Nat.le_trans (Nat.le_trans (Nat.le_trans (Nat.le_trans (Nat.le_refl _) hb1.size) hb2.size) hb3.size) hb4.size)))).trans (hb6.mono (Nat.le_trans BD.size (Nat.le_trans (Nat.le_trans (Nat.le_trans (Nat.le_trans (Nat.le_trans (Nat.le_refl _) hb1.size) hb2.size) hb3.size) hb4.size) hb5.size)))).trans (hb7.mono (Nat.le_trans BD.size (Nat.le_trans (Nat.le_trans (Nat.le_trans (Nat.le_trans (Nat.le_trans (Nat.le_trans (Nat.le_refl _) hb1.size) hb2.size) hb3.size) hb4.size) hb5.size) hb6.size))))
   exact BF.out.trans (h.mono BF.out.size)
  clear hb1 hb2 hb3 hb4 hb5 hb6 hb7
  go_wp2
  go_ret
  exact ⟨rfl, BU.out⟩
end Go.Proofs.YtpbicppcehhphaaGreatDoor
