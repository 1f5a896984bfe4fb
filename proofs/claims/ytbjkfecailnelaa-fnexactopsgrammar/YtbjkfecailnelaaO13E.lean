/- Operators' grammar: the program's OpsGrammar. -/
import Derived.Test.YtbjkfecailnelaaO13D
namespace Go.Proofs.Ytbjkfecailnelaa
open Go.RowKit
set_option linter.unusedVariables false

theorem Try.infoAltO : (Try.prog.info? 58).map (fun i => (i.zero, i.size, i.bytes)) = some (some (.agg #[.slice none 0 0]), 1, 24) := by kernel_rfl
theorem cellsO (w : World) (vs : List Value) (t : TypeId) : ∀ j u, vs[j]? = some u → (w.alloc (.cells vs.toArray t)).cell? ((⟨w.heap.size, 0, none⟩ : Addr).add j) = some u := by
  intro j u h
  rw [Addr.add_lit, Nat.zero_add]
  exact run_cell (heap_alloc_new w _) (by simpa using h)
theorem shapeO {w : World} {B s n : Nat} {e : TypeId} {v : Value} {cs : List Value} (h : w.ownsRow B e s v n cs) : ∃ a c, v = .slice a n c := by
  rcases h.2 with ⟨rfl, rfl⟩ | ⟨g, cap, cur, rfl, _⟩
  · exact ⟨_, _, rfl⟩
  · exact ⟨_, _, rfl⟩
theorem RowF.madeO {α : Type} {sz : Nat} {T : TypeId} {E : (Nat → Prop) → World → List Value → α → Prop} {F : Nat → Prop} {B g cap : Nat} {w : World} (h : w.ownsRow B T sz (.slice (some ⟨g, 0, none⟩) 0 cap) 0 []) (hg : F g) : RowF sz T E F (.slice (some ⟨g, 0, none⟩) 0 cap) ([] : List α) w :=
  ⟨[], fun _ _ => False, rfl, fun _ h => (by cases h), own_baseO h, ⟨fun k hk => by cases hk; exact hg, fun _ _ _ h => h, fun _ _ h => h.elim, fun _ _ _ _ h => h.elim⟩, fun i h => by cases h⟩

set_option maxHeartbeats 6400000 in
set_option maxRecDepth 100000 in
theorem implOpsGrammar_any (v : Value) (xs : List OpD) (w : World) (hl : xs.length ≤ 1048576) (hin : ∀ x ∈ xs, x.sign.size ≤ maxLen) (h : Ops w v xs) :
    Calls Try.prog 7 #[v] w fun e w' => GoO xs w e w' := by
  obtain ⟨k0, ki, kz0, kz1, kz2⟩ := info_parts Try.infoAltO
  have HR : Hid (Ops w v xs) := h
  have HOk : Hid (∀ W, Below w.heap.size w W → _) := fun W hb => implOpsOk_any v xs W hl hin (h.below hb)
  obtain ⟨a, cap, rfl⟩ := h.slice
  have HB0 : Hid (Below w.heap.size w (w.alloc (.cells #[.slice none 0 0] 26))) := (Below.refl _ _).alloc (Nat.le_refl _) _
  have HG0 : Hid ((w.alloc (.cells #[.slice none 0 0] 26)).heap[w.heap.size]? = some (.cells #[.slice none 0 0] 26 (0, 0))) := heap_alloc_new w _
  clear h hin
  cases hb : opsB xs with
  | false =>
    have HE : Hid (opsR xs = []) := by rw [Hid, opsR, hb]; rfl
    have HN : Hid (opsB xs = false) := hb
    rw [hb] at HOk
    clear hb
    go_enter Try.func7, Try.ntmps7
    go_wp2_with fail
    generalize w.alloc (.cells #[.slice none 0 0] 26) = w0 at *
    refine (HOk.out _ HB0.out).mono ?_
    rintro e w1 ⟨rfl, hb1⟩
    have r1 : w1.heap[w.heap.size]? = some (.cells #[.slice none 0 0] 26 (0, 0)) := (hb1.block _ (Array.getElem?_eq_some_iff.1 HG0.out).1).trans HG0.out
    have f1 := run_frozen (j := 0) r1
    have c1 := run_cell (j := 0) r1 rfl
    have z0 : (w1.setCell ⟨w.heap.size, 0, none⟩ (.slice none 0 0)).cell? ⟨w.heap.size, 0, none⟩ = some (.slice none 0 0) := run_cell (setCell_self (j := 0) _ r1) rfl
    have HB1 : Hid (Below w.heap.size w (w1.setCell ⟨w.heap.size, 0, none⟩ (.slice none 0 0))) := (HB0.out.trans (hb1.mono HB0.out.size)).setCell (Nat.le_refl _) _
    clear hb1 r1
    go_wp2
    refine bodyPost_ret (by simp [results, Try.results7, go_sem, z0]; try rfl) rfl ?_
    exact ⟨HB1.out, _, by rw [HN.out], by rw [HE.out]; exact RowF.nil⟩
  | true =>
    obtain ⟨⟨hl1, hl6⟩, hat⟩ := opsB_in hb
    have HAt : Hid (∀ i (hi : i < xs.length), (1 ≤ xs[i].level ∧ xs[i].level ≤ 9) ∧ xs[i].sign.size ≤ 1048576) := hat
    have HE : Hid (opsR xs = opsG xs) := by rw [Hid, opsR, if_pos hb]
    have HN : Hid (opsB xs = true) := hb
    rw [hb] at HOk
    clear hb hat
    go_enter Try.func7, Try.ntmps7
    go_wp2_with fail
    generalize w.alloc (.cells #[.slice none 0 0] 26) = w0 at *
    refine (HOk.out _ HB0.out).mono ?_
    rintro e w1 ⟨rfl, hb1⟩
    have HG1 : Hid (w1.heap[w.heap.size]? = some (.cells #[.slice none 0 0] 26 (0, 0))) := (hb1.block _ (Array.getElem?_eq_some_iff.1 HG0.out).1).trans HG0.out
    have HB1 : Hid (Below w.heap.size w w1) := HB0.out.trans (hb1.mono HB0.out.size)
    have HS1 : Hid (w.heap.size < w1.heap.size) := (Array.getElem?_eq_some_iff.1 HG1.out).1
    clear hb1 HOk HB0 HG0
    go_wp2_with (at_make; refine wpList_make_own _ rfl _ _ 41 rfl w1.heap.size 58 k0 _ 1 Try.underlying41 ki kz0 kz1 .i64 .i64 _ (xs.length + 1) rfl rfl (by omega) (by rw [kz2]; omega) (by unfold maxLen; omega) (Nat.le_refl _) ?_; intro w2 hown hg1)
    have O2 : Hid (RowF 1 58 AltF (Nw w1.heap.size w2.heap.size) (.slice (some ⟨w1.heap.size, 0, none⟩) 0 (xs.length + 1)) ((xs.take 0).map opAltD) w2) := RowF.madeO hown ⟨Nat.le_refl _, (World.ownsRow.lt hown _ rfl).2⟩
    have B2 : Hid (Below w1.heap.size w1 w2) := (Below.refl _ _).grown hg1 (Nat.le_refl _) (fun k h => by cases h)
    clear hown hg1
    go_loopw [4, 17] (fun ov iv wr => ∃ k : Nat, iv = .int .i64 (k : Int) ∧ k ≤ xs.length ∧ RowF 1 58 AltF (Nw w1.heap.size wr.heap.size) ov ((xs.take k).map opAltD) wr ∧ Below w1.heap.size w1 wr) (fun _ iv _ => xs.length - (intOf iv).toNat)
    case atStart => exact ⟨0, rfl, Nat.zero_le _, O2.out, B2.out⟩
    case round =>
      clear O2 B2
      obtain ⟨k, rfl, hk, hrow, hbk⟩ := hrel
      have hkl : ((xs.take k).map opAltD).length = k := by rw [List.length_map, List.length_take]; omega
      obtain ⟨oa, oc, rfl⟩ : ∃ oa oc, u4 = .slice oa k oc := by
        obtain ⟨oa, oc, e⟩ := hrow.slice
        exact ⟨oa, oc, by rw [e, hkl]⟩
      have HW : Hid (RowF 1 58 AltF (Nw w1.heap.size wr.heap.size) (.slice oa k oc) ((xs.take k).map opAltD) wr) := hrow
      have HBk : Hid (Below w1.heap.size w1 wr) := hbk
      have HKl : Hid (((xs.take k).map opAltD).length = k) := hkl
      have hne : ∀ q, (Value.slice oa k oc).ownBlock = some q → w1.heap.size ≤ q ∧ q < wr.heap.size := fun q hq => (HW.out.lt q hq).1
      have hws : w1.heap.size ≤ wr.heap.size := hbk.size
      clear hrow hbk hkl
      by_cases hlt : k < xs.length
      · have HRr : Hid (Ops wr (.slice a xs.length cap) xs) := HR.out.below (HB1.out.trans (HBk.out.mono HB1.out.size))
        obtain ⟨b, off, rfl, n0, n1, n2⟩ := HRr.out.at hlt
        have i4 : (k : Int) < (xs.length : Int) := by omega
        obtain ⟨hlv, hsz⟩ := HAt.out k hlt
        have BX : Hid (Below wr.heap.size wr (wr.alloc (.cells #[.string xs[k].sign, .int .i64 xs[k].level, .bool xs[k].right] 44))) := (Below.refl _ _).alloc (Nat.le_refl _) _
        have HX : Hid (∀ W, _) := fun W => opAlt_any xs[k] W hlv hsz
        have HNx : Hid ((xs.take (k + 1)).map opAltD = (xs.take k).map opAltD ++ [opAltD xs[k]]) := by rw [Hid, List.take_succ_eq_append_getElem hlt, List.map_append]; rfl
        clear hlv hsz
        go_wp2_with fail
        refine (HX.out _).mono ?_
        rintro e w5 ⟨hb5, a5, c5, rfl, ho5⟩
        have hb5' : Below wr.heap.size wr w5 := BX.out.trans (hb5.mono BX.out.size)
        have hO5 : RowF 1 58 AltF (Nw w1.heap.size wr.heap.size) (.slice oa k oc) ((xs.take k).map opAltD) w5 := HW.out.below stabAlt hb5'
        obtain ⟨cs, hcs, hAdd⟩ := hO5.add stabAlt hws hb5'.size
        rw [HKl.out] at hcs hAdd
        have HCs : Hid (w5.ownsRow 0 58 1 (.slice oa k oc) k cs) := hcs
        have HAdd : Hid (_) := hAdd
        have hx : wr.heap.size < (wr.alloc (.cells #[.string xs[k].sign, .int .i64 xs[k].level, .bool xs[k].right] 44)).heap.size := by simp
        have HEn : Hid (AltF (Nw wr.heap.size w5.heap.size) w5 [.slice a5 (opAltD xs[k]).length c5] (opAltD xs[k])) := ⟨_, rfl, ho5.up (fun q hq => ⟨by have := hq.1; omega, hq.2⟩)⟩
        have HB5 : Hid (Below w1.heap.size w1 w5) := HBk.out.trans (hb5'.mono hws)
        have hs5 := hb5'.size
        clear hcs hAdd hb5 hb5' ho5 hO5 hx HX BX
        go_wp2_with (at_builtin; refine wpList_append_own_at _ rfl _ _ 41 rfl 0 58 k0 _ 1 24 Try.underlying41 ki kz0 kz1 kz2 rfl (by decide) _ _ _ rfl (World.ownsRow.alloc HCs.out _) ⟨_, 0, none⟩ 1 1 [.slice a5 (opAltD xs[k]).length c5] rfl rfl (cellsO _ _ _) (by intro u hu; simp only [List.mem_cons, List.not_mem_nil, or_false] at hu; rcases hu with rfl; rfl) (by unfold maxLen; omega) (by omega) (Nat.zero_le _) ?_)
        intro v6 w6 hown6 hgr6 _ hat6
        obtain ⟨a6, k6, rfl⟩ := shapeO hown6
        have O6 : Hid (RowF 1 58 AltF (Nw w1.heap.size w6.heap.size) (.slice a6 (k + 1) k6) ((xs.take (k + 1)).map opAltD) w6) := by
          rw [HNx.out]
          exact HAdd.out w5 w6 _ _ _ (opAltD xs[k]) rfl (Below.refl _ _) HEn.out hown6 hgr6 (by simpa using hat6)
        have B6 : Hid (Below w1.heap.size w1 w6) := HB5.out.trans (((Below.refl w5.heap.size w5).alloc (Nat.le_refl _) _).mono HB5.out.size |>.grown hgr6 (by have := HB5.out.size; simp; omega) (fun q hq => (hne q hq).1))
        clear hown6 hgr6 hat6
        go_wp2
        go_roundw
        case rel => exact ⟨k + 1, by go_num, by omega, O6.out, B6.out⟩
        case measure => simp [intOf]; omega
      · obtain rfl : k = xs.length := by omega
        have i4 : ¬ (xs.length : Int) < (xs.length : Int) := by omega
        have HTk : Hid ((xs.take xs.length).map opAltD = xs.map opAltD) := by rw [Hid, List.take_length]
        have bal1 : Below wr.heap.size wr (wr.alloc (.cells #[.int .i64 3, .string ⟨#[65]⟩, .slice none 0 0, .string ⟨#[]⟩] 54)) := (Below.refl _ _).alloc (Nat.le_refl _) _
        have hz7 : (wr.alloc (.cells #[.int .i64 3, .string ⟨#[65]⟩, .slice none 0 0, .string ⟨#[]⟩] 54)).heap.size = wr.heap.size + 1 := by simp
        have HEn : Hid (AltF (Nw wr.heap.size (wr.alloc (.cells #[.int .i64 3, .string ⟨#[65]⟩, .slice none 0 0, .string ⟨#[]⟩] 54)).heap.size) (wr.alloc (.cells #[.int .i64 3, .string ⟨#[65]⟩, .slice none 0 0, .string ⟨#[]⟩] 54)) [.slice (some ⟨wr.heap.size, 0, none⟩) 1 1] [⟨3, aD, [], ⟨#[]⟩⟩]) := by
          refine ⟨_, rfl, ?_⟩
          rw [hz7]
          exact RowF.one [.int .i64 3, .string ⟨#[65]⟩, .slice none 0 0, .string ⟨#[]⟩] _ (Nat.le_refl _) rfl stabSym rfl (SymF.bare ⟨3, aD, [], ⟨#[]⟩⟩ rfl)
        have hO5 : RowF 1 58 AltF (Nw w1.heap.size wr.heap.size) (.slice oa xs.length oc) ((xs.take xs.length).map opAltD) (wr.alloc (.cells #[.int .i64 3, .string ⟨#[65]⟩, .slice none 0 0, .string ⟨#[]⟩] 54)) := HW.out.below stabAlt bal1
        obtain ⟨cs, hcs, hAdd⟩ := hO5.add stabAlt hws bal1.size
        rw [HKl.out] at hcs hAdd
        have HCs : Hid ((wr.alloc (.cells #[.int .i64 3, .string ⟨#[65]⟩, .slice none 0 0, .string ⟨#[]⟩] 54)).ownsRow 0 58 1 (.slice oa xs.length oc) xs.length cs) := hcs
        have HAdd : Hid (_) := hAdd
        have HB5 : Hid (Below w1.heap.size w1 (wr.alloc (.cells #[.int .i64 3, .string ⟨#[65]⟩, .slice none 0 0, .string ⟨#[]⟩] 54))) := HBk.out.trans (bal1.mono hws)
        clear hcs hAdd hO5 bal1 HW
        go_wp2_with (at_builtin; refine wpList_append_own_at _ rfl _ _ 41 rfl 0 58 k0 _ 1 24 Try.underlying41 ki kz0 kz1 kz2 rfl (by decide) _ _ _ rfl (World.ownsRow.alloc HCs.out _) ⟨_, 0, none⟩ 1 1 [.slice (some ⟨wr.heap.size, 0, none⟩) 1 1] rfl rfl (by intro j u h; have h7 := cellsO (wr.alloc (.cells #[.int .i64 3, .string ⟨#[65]⟩, .slice none 0 0, .string ⟨#[]⟩] 54)) [.slice (some ⟨wr.heap.size, 0, none⟩) 1 1] 58 j u h; rw [hz7] at h7; exact h7) (by intro u hu; simp only [List.mem_cons, List.not_mem_nil, or_false] at hu; rcases hu with rfl; rfl) (by unfold maxLen; omega) (by omega) (Nat.zero_le _) ?_)
        intro v6 w6 hown6 hgr6 _ hat6
        obtain ⟨a6, k6, rfl⟩ := shapeO hown6
        have O6 : Hid (RowF 1 58 AltF (Nw w1.heap.size w6.heap.size) (.slice a6 (xs.length + 1) k6) (altsE xs) w6) := by
          have h := HAdd.out _ w6 _ _ _ [⟨3, aD, [], ⟨#[]⟩⟩] rfl (Below.refl _ _) HEn.out hown6 hgr6 (by simpa using hat6)
          rw [HTk.out] at h
          exact h
        have B6 : Hid (Below w1.heap.size w1 w6) := HB5.out.trans (((Below.refl (wr.alloc (.cells #[.int .i64 3, .string ⟨#[65]⟩, .slice none 0 0, .string ⟨#[]⟩] 54)).heap.size _).alloc (Nat.le_refl _) _).mono HB5.out.size |>.grown hgr6 (by have := HB5.out.size; rw [World.size_alloc]; omega) (fun q hq => (hne q hq).1))
        have HG6 : Hid (w6.heap[w.heap.size]? = some (.cells #[.slice none 0 0] 26 (0, 0))) := (B6.out.block _ HS1.out).trans HG1.out
        clear hown6 hgr6 hat6 hz7 HEn HCs HAdd HB5 HBk HKl HTk hne hws
        go_wp2_with fail
        refine (levelCall_any 0 w6).mono ?_
        rintro e w7 ⟨hb7, a7, c7, rfl, ho7⟩
        have HG7 : Hid (w7.heap[w.heap.size]? = some (.cells #[.slice none 0 0] 26 (0, 0))) := (hb7.block _ (Array.getElem?_eq_some_iff.1 HG6.out).1).trans HG6.out
        have HB7 : Hid (Below w1.heap.size w1 w7) := B6.out.trans (hb7.mono B6.out.size)
        have HZ6 : Hid (w1.heap.size ≤ w6.heap.size ∧ w6.heap.size ≤ w7.heap.size) := ⟨B6.out.size, hb7.size⟩
        have O7 : Hid (RowF 1 58 AltF (Nw w1.heap.size w6.heap.size) (.slice a6 (xs.length + 1) k6) (altsE xs) w7) := O6.out.below stabAlt hb7
        have HC7 : Hid (RowF 1 47 ExprF (Nw w6.heap.size w7.heap.size) (.slice a7 (callD 0).args.length c7) (callD 0).args w7) := ho7
        clear hb7 ho7 O6 B6 HG6
        obtain ⟨D1, e1⟩ : ∃ W, W = w7.alloc (.cells #[.int .i64 (callD 0).kind, .string (callD 0).text, .slice a7 (callD 0).args.length c7, .string (callD 0).bind] 54) := ⟨_, rfl⟩
        obtain ⟨D2, e2⟩ : ∃ W, W = D1.alloc (.cells #[.slice (some ⟨w7.heap.size, 0, none⟩) 1 1] 58) := ⟨_, rfl⟩
        obtain ⟨D3, e3⟩ : ∃ W, W = D2.alloc (.cells #[.string ⟨#[112]⟩] 9) := ⟨_, rfl⟩
        obtain ⟨D4, e4⟩ : ∃ W, W = D3.alloc (.cells #[.int .i64 2, .string ⟨#[48, 45, 57]⟩, .slice none 0 0, .string ⟨#[]⟩] 54) := ⟨_, rfl⟩
        have y1 : D1.heap.size = w7.heap.size + 1 := by rw [e1]; simp
        have y2 : D2.heap.size = w7.heap.size + 2 := by rw [e2]; simp [y1]
        have y3 : D3.heap.size = w7.heap.size + 3 := by rw [e3]; simp [y2]
        have y4 : D4.heap.size = w7.heap.size + 4 := by rw [e4]; simp [y3]
        obtain ⟨hz6, hz67⟩ := HZ6.out
        have b1 : Below w7.heap.size w7 D1 := by rw [e1]; exact (Below.refl _ _).alloc (Nat.le_refl _) _
        have b2 : Below D1.heap.size D1 D2 := by rw [e2]; exact (Below.refl _ _).alloc (Nat.le_refl _) _
        have b3 : Below D2.heap.size D2 D3 := by rw [e3]; exact (Below.refl _ _).alloc (Nat.le_refl _) _
        have b4 : Below D3.heap.size D3 D4 := by rw [e4]; exact (Below.refl _ _).alloc (Nat.le_refl _) _
        have b24 : Below D2.heap.size D2 D4 := b3.trans (b4.mono b3.size)
        have b14 : Below D1.heap.size D1 D4 := b2.trans (b24.mono b2.size)
        have b74 : Below w7.heap.size w7 D4 := b1.trans (b14.mono b1.size)
        have r1 : RowF 4 54 SymF (Nw w6.heap.size (w7.heap.size + 1)) (.slice (some ⟨w7.heap.size, 0, none⟩) 1 1) [callD 0] D1 := by
          rw [e1]
          exact RowF.one [.int .i64 (callD 0).kind, .string (callD 0).text, .slice a7 (callD 0).args.length c7, .string (callD 0).bind] _ hz67 rfl stabSym rfl ⟨_, rfl, HC7.out⟩
        have r2 : RowF 1 58 AltF (Nw w6.heap.size (w7.heap.size + 2)) (.slice (some ⟨w7.heap.size + 1, 0, none⟩) 1 1) [[callD 0]] D2 := by
          have h := RowF.one (a := w6.heap.size) (w := D1) (T := 58) (x := [callD 0]) (E := AltF) (sz := 1) [.slice (some ⟨w7.heap.size, 0, none⟩) 1 1] #[.slice (some ⟨w7.heap.size, 0, none⟩) 1 1] (by omega) rfl stabAlt rfl ⟨_, rfl, by rw [y1]; exact r1⟩
          rw [← e2, y1] at h
          exact h
        have r3 : OwnB 0 (.slice (some ⟨w7.heap.size + 2, 0, none⟩) 1 1) [pD] D3 := by
          have h := World.ownsRow_lit (base := 0) (e := 9) (size := 1) D2 #[.string ⟨#[112]⟩] 1 (Nat.zero_le _) (by decide) rfl
          rw [← e3, y2] at h
          exact h
        have r4 : RowF 4 54 SymF (Nw (w7.heap.size + 3) (w7.heap.size + 4)) (.slice (some ⟨w7.heap.size + 3, 0, none⟩) 1 1) [⟨2, ⟨#[48, 45, 57]⟩, [], ⟨#[]⟩⟩] D4 := by
          have h := RowF.one (a := D3.heap.size) (w := D3) (T := 54) (x := (⟨2, ⟨#[48, 45, 57]⟩, [], ⟨#[]⟩⟩ : SymD)) (E := SymF) (sz := 4) [.int .i64 2, .string ⟨#[48, 45, 57]⟩, .slice none 0 0, .string ⟨#[]⟩] #[.int .i64 2, .string ⟨#[48, 45, 57]⟩, .slice none 0 0, .string ⟨#[]⟩] (Nat.le_refl _) rfl stabSym rfl (SymF.bare ⟨2, ⟨#[48, 45, 57]⟩, [], ⟨#[]⟩⟩ rfl)
          rw [← e4, y3] at h
          exact h
        have HA4 : Hid (D4 = (((w7.alloc (.cells #[.int .i64 (callD 0).kind, .string (callD 0).text, .slice a7 (callD 0).args.length c7, .string (callD 0).bind] 54)).alloc (.cells #[.slice (some ⟨w7.heap.size, 0, none⟩) 1 1] 58)).alloc (.cells #[.string ⟨#[112]⟩] 9)).alloc (.cells #[.int .i64 2, .string ⟨#[48, 45, 57]⟩, .slice none 0 0, .string ⟨#[]⟩] 54)) := by rw [Hid, e4, e3, e2, e1]
        have HD4 : Hid (D4.heap.size = w7.heap.size + 4) := y4
        have Q1 : Hid (RowF 1 58 AltF (Nw w1.heap.size w6.heap.size) (.slice a6 (xs.length + 1) k6) (altsE xs) D4) := O7.out.below stabAlt b74
        have Q2 : Hid (RowF 1 58 AltF (Nw w6.heap.size (w7.heap.size + 2)) (.slice (some ⟨w7.heap.size + 1, 0, none⟩) 1 1) [[callD 0]] D4) := r2.below stabAlt b24
        have Q3 : Hid (OwnB 0 (.slice (some ⟨w7.heap.size + 2, 0, none⟩) 1 1) [pD] D4) := by rw [e4]; exact World.ownsRow.alloc r3 _
        have Q4 : Hid (RowF 4 54 SymF (Nw (w7.heap.size + 3) (w7.heap.size + 4)) (.slice (some ⟨w7.heap.size + 3, 0, none⟩) 1 1) [⟨2, ⟨#[48, 45, 57]⟩, [], ⟨#[]⟩⟩] D4) := r4
        have HG4 : Hid (D4.heap[w.heap.size]? = some (.cells #[.slice none 0 0] 26 (0, 0))) := (b74.block _ (Array.getElem?_eq_some_iff.1 HG7.out).1).trans HG7.out
        have HB4 : Hid (Below w1.heap.size w1 D4) := HB7.out.trans (b74.mono HB7.out.size)
        clear b1 b2 b3 b4 b24 b14 b74 r1 r2 r3 r4 y1 y2 y3 y4 e1 e2 e3 e4 O7 HC7 HG7 HB7 hz6 hz67
        clear D1 D2 D3
        go_wp2_with fail
        rw [← HA4.out]
        refine (levelCall_any 0 D4).mono ?_
        rintro e w8 ⟨hb8, a8, c8, rfl, ho8⟩
        have hd4 := HD4.out
        obtain ⟨hz6, hz67⟩ := HZ6.out
        have hs8 := hb8.size
        obtain ⟨D5, e5⟩ : ∃ W, W = w8.alloc (.cells #[.int .i64 1, .string ⟨#[40]⟩, .slice none 0 0, .string ⟨#[]⟩, .int .i64 (callD 0).kind, .string (callD 0).text, .slice a8 (callD 0).args.length c8, .string (callD 0).bind, .int .i64 1, .string ⟨#[41]⟩, .slice none 0 0, .string ⟨#[]⟩] 54) := ⟨_, rfl⟩
        obtain ⟨D6, e6⟩ : ∃ W, W = D5.alloc (.cells #[.slice (some ⟨w7.heap.size + 3, 0, none⟩) 1 1, .slice (some ⟨w8.heap.size, 0, none⟩) 3 3] 58) := ⟨_, rfl⟩
        obtain ⟨D7, e7⟩ : ∃ W, W = D6.alloc (.cells #[.string ⟨#[83]⟩, .slice none 0 0, .slice (some ⟨w7.heap.size + 1, 0, none⟩) 1 1, .string ⟨#[69]⟩, .slice (some ⟨w7.heap.size + 2, 0, none⟩) 1 1, .slice a6 (xs.length + 1) k6, .string ⟨#[65]⟩, .slice none 0 0, .slice (some ⟨w8.heap.size + 1, 0, none⟩) 2 2] 43) := ⟨_, rfl⟩
        have y5 : D5.heap.size = w8.heap.size + 1 := by rw [e5]; simp
        have y6 : D6.heap.size = w8.heap.size + 2 := by rw [e6]; simp [y5]
        have y7 : D7.heap.size = w8.heap.size + 3 := by rw [e7]; simp [y6]
        have b5 : Below w8.heap.size w8 D5 := by rw [e5]; exact (Below.refl _ _).alloc (Nat.le_refl _) _
        have b6 : Below D5.heap.size D5 D6 := by rw [e6]; exact (Below.refl _ _).alloc (Nat.le_refl _) _
        have b7 : Below D6.heap.size D6 D7 := by rw [e7]; exact (Below.refl _ _).alloc (Nat.le_refl _) _
        have b86 : Below w8.heap.size w8 D6 := b5.trans (b6.mono b5.size)
        have b46 : Below D4.heap.size D4 D6 := hb8.trans (b86.mono hb8.size)
        have b47 : Below D4.heap.size D4 D7 := b46.trans (b7.mono b46.size)
        have r5 : RowF 4 54 SymF (Nw (w7.heap.size + 4) (w8.heap.size + 1)) (.slice (some ⟨w8.heap.size, 0, none⟩) 3 3) [⟨1, ⟨#[40]⟩, [], ⟨#[]⟩⟩, callD 0, ⟨1, ⟨#[41]⟩, [], ⟨#[]⟩⟩] D5 := by
          rw [e5]
          exact RowF.seq (w := w8) (xs := [⟨1, ⟨#[40]⟩, [], ⟨#[]⟩⟩, callD 0, ⟨1, ⟨#[41]⟩, [], ⟨#[]⟩⟩]) (fun i => if i ≤ 1 then w7.heap.size + 4 else w8.heap.size)
            [[.int .i64 1, .string ⟨#[40]⟩, .slice none 0 0, .string ⟨#[]⟩], [.int .i64 (callD 0).kind, .string (callD 0).text, .slice a8 (callD 0).args.length c8, .string (callD 0).bind], [.int .i64 1, .string ⟨#[41]⟩, .slice none 0 0, .string ⟨#[]⟩]] _
            (fun i j hij => by repeat' split
                               all_goals omega) (by simp) (fun i => by split <;> omega) rfl (by intro vs hvs; simp only [List.mem_cons, List.not_mem_nil, or_false] at hvs; rcases hvs with rfl | rfl | rfl <;> rfl) (by simp [maxLen]) stabSym rfl (fun i hi hi' => by
              match i, hi with
              | 0, _ => exact SymF.bare ⟨1, ⟨#[40]⟩, [], ⟨#[]⟩⟩ rfl
              | 1, _ => exact ⟨_, rfl, by rw [← hd4]; exact ho8⟩
              | 2, _ => exact SymF.bare ⟨1, ⟨#[41]⟩, [], ⟨#[]⟩⟩ rfl)
        have r45 : RowF 4 54 SymF (Nw (w7.heap.size + 3) (w7.heap.size + 4)) (.slice (some ⟨w7.heap.size + 3, 0, none⟩) 1 1) [⟨2, ⟨#[48, 45, 57]⟩, [], ⟨#[]⟩⟩] D5 := (Q4.out.below stabSym hb8).below stabSym b5
        have r6 : RowF 1 58 AltF (Nw (w7.heap.size + 3) (w8.heap.size + 2)) (.slice (some ⟨w8.heap.size + 1, 0, none⟩) 2 2) altsA D6 := by
          have h := RowF.seq (w := D5) (T := 58) (xs := altsA) (E := AltF) (sz := 1) (a := w7.heap.size + 3) (fun i => if i = 0 then w7.heap.size + 3 else if i = 1 then w7.heap.size + 4 else w8.heap.size + 1)
            [[.slice (some ⟨w7.heap.size + 3, 0, none⟩) 1 1], [.slice (some ⟨w8.heap.size, 0, none⟩) 3 3]] #[.slice (some ⟨w7.heap.size + 3, 0, none⟩) 1 1, .slice (some ⟨w8.heap.size, 0, none⟩) 3 3]
            (fun i j hij => by repeat' split
                               all_goals omega) (by simp) (fun i => by rw [y5]; repeat' split
                                                                       all_goals omega) rfl (by intro vs hvs; simp only [List.mem_cons, List.not_mem_nil, or_false] at hvs; rcases hvs with rfl | rfl <;> rfl) (by simp [maxLen, altsA]) stabAlt rfl (fun i hi hi' => by
              match i, hi with
              | 0, _ => exact ⟨_, rfl, r45⟩
              | 1, _ => exact ⟨_, rfl, r5⟩)
          rw [← e6, y5] at h
          exact h
        have r7 : RowF 3 43 RuleF (Nw w1.heap.size (w8.heap.size + 3)) (.slice (some ⟨w8.heap.size + 2, 0, none⟩) 3 3) (opsG xs) D7 := by
          have h := rules_three (a := w1.heap.size) (s0 := w6.heap.size) (s1 := w7.heap.size + 2) (s2 := w7.heap.size + 3) (s3 := w8.heap.size + 2) (g := w7.heap.size + 2) (V := D6) (xs := xs) (us := .slice (some ⟨w7.heap.size + 1, 0, none⟩) 1 1) (ue := .slice a6 (xs.length + 1) k6) (ua := .slice (some ⟨w8.heap.size + 1, 0, none⟩) 2 2) hz6 (by omega) (Nat.le_refl _) (by omega) (by omega) (by omega)
            (Q1.out.below stabAlt b46) (Q2.out.below stabAlt b46) (own_below Q3.out b46) r6 #[.string ⟨#[83]⟩, .slice none 0 0, .slice (some ⟨w7.heap.size + 1, 0, none⟩) 1 1, .string ⟨#[69]⟩, .slice (some ⟨w7.heap.size + 2, 0, none⟩) 1 1, .slice a6 (xs.length + 1) k6, .string ⟨#[65]⟩, .slice none 0 0, .slice (some ⟨w8.heap.size + 1, 0, none⟩) 2 2] rfl
          rw [← e7, y6] at h
          exact h
        have g7 : D7.heap[w.heap.size]? = some (.cells #[.slice none 0 0] 26 (0, 0)) := (b47.block _ (Array.getElem?_eq_some_iff.1 HG4.out).1).trans HG4.out
        have HA7 : Hid (D7 = ((w8.alloc (.cells #[.int .i64 1, .string ⟨#[40]⟩, .slice none 0 0, .string ⟨#[]⟩, .int .i64 (callD 0).kind, .string (callD 0).text, .slice a8 (callD 0).args.length c8, .string (callD 0).bind, .int .i64 1, .string ⟨#[41]⟩, .slice none 0 0, .string ⟨#[]⟩] 54)).alloc (.cells #[.slice (some ⟨w7.heap.size + 3, 0, none⟩) 1 1, .slice (some ⟨w8.heap.size, 0, none⟩) 3 3] 58)).alloc (.cells #[.string ⟨#[83]⟩, .slice none 0 0, .slice (some ⟨w7.heap.size + 1, 0, none⟩) 1 1, .string ⟨#[69]⟩, .slice (some ⟨w7.heap.size + 2, 0, none⟩) 1 1, .slice a6 (xs.length + 1) k6, .string ⟨#[65]⟩, .slice none 0 0, .slice (some ⟨w8.heap.size + 1, 0, none⟩) 2 2] 43)) := by rw [Hid, e7, e6, e5]
        have t0 := run_cell (j := 0) g7 rfl
        have tf := run_frozen (j := 0) g7
        have hw1 := HS1.out
        have z0 : (D7.setCell ⟨w.heap.size, 0, none⟩ (.slice (some ⟨w8.heap.size + 2, 0, none⟩) 3 3)).cell? ⟨w.heap.size, 0, none⟩ = some (.slice (some ⟨w8.heap.size + 2, 0, none⟩) 3 3) := run_cell (setCell_self (j := 0) _ g7) rfl
        have HBf : Hid (Below w.heap.size w (D7.setCell ⟨w.heap.size, 0, none⟩ (.slice (some ⟨w8.heap.size + 2, 0, none⟩) 3 3))) := by
          have h1 : Below w1.heap.size w1 D7 := HB4.out.trans (b47.mono HB4.out.size)
          exact (HB1.out.trans (h1.mono HB1.out.size)).setCell (Nat.le_refl _) _
        have HRf : Hid (RowF 3 43 RuleF (Nw w.heap.size (D7.setCell ⟨w.heap.size, 0, none⟩ (.slice (some ⟨w8.heap.size + 2, 0, none⟩) 3 3)).heap.size) (.slice (some ⟨w8.heap.size + 2, 0, none⟩) 3 3) (opsR xs) (D7.setCell ⟨w.heap.size, 0, none⟩ (.slice (some ⟨w8.heap.size + 2, 0, none⟩) 3 3))) := by
          rw [HE.out]
          have hz9 : (D7.setCell ⟨w.heap.size, 0, none⟩ (.slice (some ⟨w8.heap.size + 2, 0, none⟩) 3 3)).heap.size = D7.heap.size := by simp [World.setCell]
          exact (r7.ag stabRule ((Kp.store (F := fun q => q = w.heap.size) (w := D7) (o := 0) (u := .slice (some ⟨w8.heap.size + 2, 0, none⟩) 3 3) rfl).ag (fun q hq e => by have := hq.1; omega))).up (fun q hq => ⟨by have := hq.1; omega, by have := hq.2; omega⟩)
        rw [HA7.out] at t0 tf
        clear hb8 ho8 r5 r45 r6 r7 g7 b5 b6 b7 b86 b46 b47 y5 y6 y7 e5 e6 e7 Q1 Q2 Q3 Q4 HG4 HB4 hd4 hs8
        go_wp2
        simp only [Nat.add_assoc, Nat.reduceAdd]
        rw [← HA7.out]
        refine bodyPost_ret (by simp [results, Try.results7, go_sem, z0]; try rfl) rfl ?_
        exact ⟨HBf.out, _, by rw [HN.out], HRf.out⟩

end Go.Proofs.Ytbjkfecailnelaa
