/- The specification's l16Short and ExprText. -/
import Derived.Test.YtokidlklkgghkaaGreatDoorE16Q
import Derived.Test.YtokidlklkgghkaaGreatDoorReadSpec
import Derived.Test.YtokidlklkgghkaaGreatDoorXOk
import Derived.Test.YtokidlklkgghkaaGreatDoorMark
import Derived.Deep.RegionHeld3
import Derived.Deep.CutRange
import Derived.Deep.QuietTactic
import Derived.BigQuiet
namespace Go.Proofs.YtokidlklkgghkaaGreatDoor
open Go.RowKit
set_option linter.unusedVariables false

theorem str_add16s (a b : List UInt8) : str a ++ str b = str (a ++ b) := by
  apply ByteArray.ext
  simp [str]
theorem str_self16s (s : ByteArray) : str s.data.toList = s := by
  apply ByteArray.ext
  simp [str]
theorem cell_new16 (w : World) (v : Value) (t : TypeId) : (w.alloc (.cells #[v] t)).cell? ⟨w.heap.size, 0, none⟩ = some v := by
  rw [cell_of_row _ _ 0 _ _ _ (heap_alloc_new w (.cells #[v] t))]; rfl
theorem gkeep3 {W W' : World} {a0 a1 a2 : Addr} {x0 x1 x2 : Value} (h : W.cell? a0 = some x0 ∧ W.cell? a1 = some x1 ∧ W.cell? a2 = some x2) (hb : Below W.heap.size W W') : W'.cell? a0 = some x0 ∧ W'.cell? a1 = some x1 ∧ W'.cell? a2 = some x2 :=
  ⟨cell_keep h.1 hb, cell_keep h.2.1 hb, cell_keep h.2.2 hb⟩
theorem bl_alloc {B : Nat} {a w : World} (h : Below B a w) (o : Obj) (hB : B ≤ a.heap.size := by omega) : Below B a (w.alloc o) := h.alloc (Nat.le_trans hB h.size) o
theorem bl_call {B : Nat} {a w w' : World} (h : Below B a w) (k : Below w.heap.size w w') (hB : B ≤ a.heap.size := by omega) : Below B a w' := h.trans (k.mono (Nat.le_trans hB h.size))
theorem bl_callD {B : Nat} {a w w' : World} (h : Below B a w) (k : Below w.drew.heap.size w.drew w') (hB : B ≤ a.heap.size := by omega) : Below B a w' := h.trans ((bel_of_drew k).mono (Nat.le_trans hB h.size))
theorem wpAnyH_weaken {P : Program} {md : Region.Mode} {ops : Array Oper} {Q : Exit → Act → World → Prop} {S S' : World → Prop} (hS : ∀ w, S' w → S w) :
    ∀ {fuel : Nat} {listed : Array Bool} {a : Act} {w : World}, wpAnyH P md ops Q S' fuel listed a w → wpAnyH P md ops Q S fuel listed a w
  | 0, _, _, _, h => h
  | fuel + 1, _, _, _, h => ⟨h.1, fun i hi => wpOp_mono (fun a' w' h' => ⟨hS _ h'.1, wpAnyH_weaken hS h'.2⟩) (h.2 i hi)⟩
theorem cell_keepD {W W' : World} {a : Addr} {v : Value} (h : W.cell? a = some v) (hb : Below W.drew.heap.size W.drew W') : W'.cell? a = some v := cell_keep (W := W.drew) h hb
theorem wpAnyH_takeD {P : Program} {md : Region.Mode} {ops : Array Oper} {Q : Exit → Act → World → Prop} {S : World → Prop} {i : Nat} {oi : Oper} {v : Value} {d : Option Nat} {fuel : Nat} {listed : Array Bool} {a : Act} {w : World} (hi : ops[i]? = some oi) (hd : oi.dst = d)
    (hs : Region.noSelect ops = true) (hf : Region.free md ops listed i = true) (hr : (Region.ready md ops listed).contains i = true)
    (hQ : ∀ c a w, Q (.panic c) (a.put d v) w → Q (.panic c) a w) (hy : YieldsIf P ops S oi v a) (hS : S w)
    (h : wpAnyH P md ops Q S fuel (listed.setIfInBounds i true) (a.put d v) w) : wpAnyH P md ops Q S (fuel + 1) listed a w := by
  subst hd
  exact wpAnyH_take hi hs hf hr hQ hy hS h
/-- One byte in a block, made a string. -/
theorem conv16 (W : World) (g : Nat) (z : Int) (h0 : 0 ≤ z ∧ z ≤ 127) (h : W.cell? ⟨g, 0, none⟩ = some (.int .u8 z)) :
    (convert 72 9 (.slice (some ⟨g, 0, none⟩) 1 1)).run Tryz.prog W = .ok (.string (str [byteW z])) W := by
  have := run_convert_bytes_back (P := Tryz.prog) W 72 9 5 ⟨g, 0, none⟩ 1 [byteW z] Tryz.underlying72 Tryz.underlying5 Tryz.underlying9 (fun j hj => by
    have hj0 : j = 0 := by simpa using hj
    subst hj0
    rw [List.getElem_cons_zero, byteW_int h0]
    exact h)
  exact this

set_option maxHeartbeats 1000000 in
theorem l16Short_any (s : ByteArray) (w : World) (hs : s.size ≤ 1048576) :
    Calls Tryz.prog 31 #[.string s] w fun e w' => e = .returned (.string (str (shortW s))) ∧ Below w.heap.size w w' := by
  have hv := varB_len s.size
  have hz := str_size (varB s.size)
  have hadd := fun W => run_string_add_sum (P := Tryz.prog) (w := W) (str (varB s.size)) s (by omega)
  have HS : Hid (str (varB s.size) ++ s = str (shortW s)) := by
    rw [Hid, shortW, ← str_add16s, str_self16s]
  clear hz hv
  go_enter Tryz.func31, Tryz.ntmps31
  go_wp2_with (go_at_call 30; refine (l01Var_any _ _ (by omega)).mono ?_; rintro e w1 ⟨rfl, hb1⟩)
  go_ret
  rw [HS.out]
  exact ⟨rfl, hb1⟩

set_option maxHeartbeats 4000000 in
set_option maxRecDepth 100000 in
theorem specExprText_any (v : Value) (ns : List NodeD) (w : World) (hz : NIn ns) (h : NRow w v ns) :
    Calls Tryz.prog 32 #[.agg #[v]] w fun e w' => e = .returned (.tuple #[.string (str (exprT ns)), .bool (exprB ns)]) ∧ Below w.heap.size w w' := by
  have HR : Hid (NRow w v ns) := h
  have HZ : Hid (NIn ns) := hz
  obtain ⟨a, cap, rfl⟩ := h.slice
  clear h hz
  have B0 : Hid (Below w.heap.size w (w.alloc (.cells #[.slice a ns.length cap] 66))) := (Below.refl _ _).alloc (Nat.le_refl _) _
  have E0 : (w.alloc (.cells #[.slice a ns.length cap] 66)).cell? ⟨w.heap.size, 0, none⟩ = some (.slice a ns.length cap) := cell_new16 _ _ _
  go_enter Tryz.func32, Tryz.ntmps32
  go_wp2_with fail
  generalize w.alloc (.cells #[.slice a ns.length cap] 66) = w0 at *
  refine (specExprOk_any _ ns _ HZ.out (HR.out.below B0.out)).mono ?_
  rintro e w1 ⟨rfl, hb1⟩
  have B1 : Hid (Below w.heap.size w w1) := B0.out.trans (hb1.mono B0.out.size)
  by_cases hb : exprB ns = true
  rotate_left
  · have hb' : exprB ns = false := by simpa using hb
    have HT : Hid (exprT ns = []) := by rw [Hid, exprT, if_neg hb]
    have HBt : Hid (exprB ns = false) := hb'
    rw [hb']
    clear hb hb' E0
    go_wp2
    go_ret2
    rw [HT.out, HBt.out]
    exact ⟨rfl, B1.out⟩
  obtain ⟨⟨hl, hl'⟩, hS⟩ := exprS_of hb
  have HT : Hid (exprT ns = exprW ns) := by rw [Hid, exprT, if_pos hb]
  have HBt : Hid (exprB ns = true) := hb
  have e1 := cell_keep E0 hb1
  rw [hb]
  have HSS : Hid (∀ k (hk : k < ns.length), NodeS ns[k]) := hS
  have HFl : Hid (∀ k, (((ns.take k).map nodeW).flatten).length ≤ 180) := fun k => by
    have := flat_take_len nodeW 9 ns k fun x hx => by
      obtain ⟨i, hi, rfl⟩ := List.getElem_of_mem hx
      exact (nodeW_len (hS i hi)).2
    omega
  clear hb E0 hS
  have hvl := varB_small (n := ns.length) (by omega)
  go_wp2_with (go_at_call 30; refine (l01Var_any _ _ (by omega)).mono ?_; rintro e w2 ⟨rfl, hb2⟩)
  have B2 : Hid (Below w.heap.size w w2) := B1.out.trans (hb2.mono B1.out.size)
  have e2 := cell_keep e1 hb2
  clear hb2 e1
  go_wp2
  go_loopw [4, 5] (fun sv iv wr => ∃ k : Nat, sv = .string (str (varB ns.length ++ ((ns.take k).map nodeW).flatten)) ∧ iv = .int .i64 k ∧ k ≤ ns.length ∧ Below w2.heap.size w2 wr) (fun _ iv _ => ns.length - (intOf iv).toNat)
  case atStart => exact ⟨0, by rw [List.take_zero, List.map_nil, List.flatten_nil, List.append_nil], rfl, Nat.zero_le _, Below.refl _ _⟩
  case round =>
    obtain ⟨k, rfl, rfl, hkl, hbr⟩ := hrel
    have BR : Hid (Below w2.heap.size w2 wr) := hbr
    have B3 : Hid (Below w.heap.size w wr) := B2.out.trans (hbr.mono B2.out.size)
    have e3 := cell_keep e2 hbr
    clear hbr
    by_cases hlt : k < ns.length
    rotate_left
    · obtain rfl : k = ns.length := by omega
      have HE : Hid (varB ns.length ++ ((ns.take ns.length).map nodeW).flatten = exprT ns) := by rw [Hid, HT.out, exprW, List.take_length]
      rw [HE.out]
      go_wp2
      go_ret2
      rw [HBt.out]
      exact ⟨rfl, B3.out⟩
    obtain ⟨g, off, kv, rfl, n0, n1, n2, n3, hkr⟩ := (HR.out.below B3.out).at hlt
    have i4 : (k : Int) < (ns.length : Int) := by omega
    have HKr : Hid (IRow wr kv ns[k].kids) := hkr
    have HXs : Hid (NodeS ns[k]) := HSS.out k hlt
    have HN : Hid (varB ns.length ++ ((ns.take (k + 1)).map nodeW).flatten = (varB ns.length ++ ((ns.take k).map nodeW).flatten) ++ nodeW ns[k]) := by
      rw [Hid, flat_next nodeW ns k hlt, List.append_assoc]
    have hpl : (varB ns.length ++ ((ns.take k).map nodeW).flatten).length ≤ 200 := by
      have := HFl.out k
      rw [List.length_append]
      omega
    clear hkr
    generalize ns[k] = x at *
    generalize varB ns.length ++ ((ns.take k).map nodeW).flatten = pre at *
    obtain ⟨ka, kc, rfl⟩ := HKr.out.slice
    have hop := HXs.out.op
    have hnum := HXs.out.num
    have hname := HXs.out.name
    have hkids := HXs.out.kids
    obtain ⟨nn, hnn⟩ := Int.eq_ofNat_of_zero_le hnum.1
    have hnn2 : nn ≤ 127 := by omega
    have HWd : Hid (nodeW x = byteW x.op :: (varB nn ++ (shortW x.name ++ x.kids.map byteW))) := by rw [Hid, nodeW, hnn]; rfl
    rw [hnn] at n1
    clear hnn hnum
    have hw8 : IntKind.u8.wrap x.op = x.op := by rw [IntKind.wrap_u8]; omega
    have HB : Hid (Below wr.heap.size wr (wr.alloc (.cells #[.int .i64 x.op, .int .i64 nn, .string x.name, .slice ka x.kids.length kc] 93))) := (Below.refl _ _).alloc (Nat.le_refl _) _
    have bx := heap_alloc_new wr (.cells #[.int .i64 x.op, .int .i64 nn, .string x.name, .slice ka x.kids.length kc] 93)
    have x0 : (wr.alloc (.cells #[.int .i64 x.op, .int .i64 nn, .string x.name, .slice ka x.kids.length kc] 93)).cell? ⟨wr.heap.size, 0, none⟩ = some (.int .i64 x.op) := by rw [cell_of_row _ _ 0 _ _ _ bx]; rfl
    have x1 : (wr.alloc (.cells #[.int .i64 x.op, .int .i64 nn, .string x.name, .slice ka x.kids.length kc] 93)).cell? ⟨wr.heap.size, 1, none⟩ = some (.int .i64 nn) := by rw [cell_of_row _ _ 1 _ _ _ bx]; rfl
    have x2 : (wr.alloc (.cells #[.int .i64 x.op, .int .i64 nn, .string x.name, .slice ka x.kids.length kc] 93)).cell? ⟨wr.heap.size, 2, none⟩ = some (.string x.name) := by rw [cell_of_row _ _ 2 _ _ _ bx]; rfl
    have x3 : (wr.alloc (.cells #[.int .i64 x.op, .int .i64 nn, .string x.name, .slice ka x.kids.length kc] 93)).cell? ⟨wr.heap.size, 3, none⟩ = some (.slice ka x.kids.length kc) := by rw [cell_of_row _ _ 3 _ _ _ bx]; rfl
    have e4 := cell_keep e3 HB.out
    have hv1 := varB_small hnn2
    have hv2 := shortW_len (s := x.name) (by omega)
    have hv3 := shortW_len (s := x.name) (by omega)
    obtain ⟨L1, hL1, a1⟩ : ∃ L1, L1 = pre ++ [byteW x.op] ∧ ∀ W, (Op.stringOp .add (str pre) (str [byteW x.op])).run Tryz.prog W = .ok (.string (str L1)) W := ⟨_, rfl, fun W => run_add_str (P := Tryz.prog) W pre [byteW x.op] (by simp; omega)⟩
    obtain ⟨L2, hL2, a2⟩ : ∃ L2, L2 = L1 ++ varB nn ∧ ∀ W, (Op.stringOp .add (str L1) (str (varB nn))).run Tryz.prog W = .ok (.string (str L2)) W := ⟨_, rfl, fun W => run_add_str (P := Tryz.prog) W L1 (varB nn) (by rw [hL1]; simp; omega)⟩
    obtain ⟨L3, hL3, a3⟩ : ∃ L3, L3 = L2 ++ shortW x.name ∧ ∀ W, (Op.stringOp .add (str L2) (str (shortW x.name))).run Tryz.prog W = .ok (.string (str L3)) W := ⟨_, rfl, fun W => run_add_str (P := Tryz.prog) W L2 (shortW x.name) (by rw [hL2, hL1]; simp; omega)⟩
    have HL3 : Hid (L3 = (pre ++ [byteW x.op]) ++ varB nn ++ shortW x.name) := by rw [Hid, hL3, hL2, hL1]
    clear bx hv1 hv2 hv3 hL1 hL2 hL3
    go_wp2_with fail
    generalize wr.alloc (.cells #[.int .i64 x.op, .int .i64 nn, .string x.name, .slice ka x.kids.length kc] 93) = wb at *
    go_cut [4] from 27 to 41 (fun sv wx => sv = .string (str L3) ∧ Below wb.heap.size wb wx)
    case first =>
      refine wp_region_held_drew (S := fun W => W.cell? ⟨wr.heap.size, 0, none⟩ = some (.int .i64 x.op) ∧ W.cell? ⟨wr.heap.size, 1, none⟩ = some (.int .i64 nn) ∧ W.cell? ⟨wr.heap.size, 2, none⟩ = some (.string x.name)) (by kernel_rfl) ?_ (fun hHeld => ?_)
      · (try dsimp only)
        go_keep
      refine wpAnyH_takeD (i := 0) (v := ?_) (d := some 27) rfl rfl (by kernel_rfl) (by kernel_rfl) (by kernel_rfl) (fun _ _ _ h => h) (Or.inl ⟨by rfl, ?_⟩) hHeld ?_
      rotate_left
      · intro w hSw
        (try dsimp only at hSw)
        go_simp
        (try with_reducible rfl)
      refine wpAnyH_takeD (i := 1) (v := ?_) (d := some 28) rfl rfl (by kernel_rfl) (by kernel_rfl) (by kernel_rfl) (fun _ _ _ h => h) (Or.inl ⟨by rfl, ?_⟩) hHeld ?_
      rotate_left
      · intro w hSw
        (try dsimp only at hSw)
        go_simp
        (try with_reducible rfl)
      refine wpAnyH_takeD (i := 2) (v := ?_) (d := some 29) rfl rfl (by kernel_rfl) (by kernel_rfl) (by kernel_rfl) (fun _ _ _ h => h) (Or.inl ⟨by rfl, ?_⟩) hHeld ?_
      rotate_left
      · intro w hSw
        (try dsimp only at hSw)
        go_simp
        (try with_reducible rfl)
      refine wpAnyH_takeD (i := 3) (v := ?_) (d := some 30) rfl rfl (by kernel_rfl) (by kernel_rfl) (by kernel_rfl) (fun _ _ _ h => h) (Or.inl ⟨by rfl, ?_⟩) hHeld ?_
      rotate_left
      · intro w hSw
        (try dsimp only at hSw)
        go_simp
        (try with_reducible rfl)
      refine wpAnyH_takeD (i := 7) (v := ?_) (d := some 34) rfl rfl (by kernel_rfl) (by kernel_rfl) (by kernel_rfl) (fun _ _ _ h => h) (Or.inl ⟨by rfl, ?_⟩) hHeld ?_
      rotate_left
      · intro w hSw
        (try dsimp only at hSw)
        go_simp
        (try with_reducible rfl)
      refine wpAnyH_takeD (i := 8) (v := ?_) (d := some 35) rfl rfl (by kernel_rfl) (by kernel_rfl) (by kernel_rfl) (fun _ _ _ h => h) (Or.inl ⟨by rfl, ?_⟩) hHeld ?_
      rotate_left
      · intro w hSw
        (try dsimp only at hSw)
        go_simp
        (try with_reducible rfl)
      refine wpAnyH_takeD (i := 11) (v := ?_) (d := some 38) rfl rfl (by kernel_rfl) (by kernel_rfl) (by kernel_rfl) (fun _ _ _ h => h) (Or.inl ⟨by rfl, ?_⟩) hHeld ?_
      rotate_left
      · intro w hSw
        (try dsimp only at hSw)
        go_simp
        (try with_reducible rfl)
      refine wpAnyH_takeD (i := 12) (v := ?_) (d := some 39) rfl rfl (by kernel_rfl) (by kernel_rfl) (by kernel_rfl) (fun _ _ _ h => h) (Or.inl ⟨by rfl, ?_⟩) hHeld ?_
      rotate_left
      · intro w hSw
        (try dsimp only at hSw)
        go_simp
        (try with_reducible rfl)
      refine wpAnyH_ready (rs := [4, 9]) (by kernel_rfl) (by simp) ?_
      refine AllReadyH.cons rfl (fun K hK => ?_) (AllReadyH.cons rfl (fun K hK => ?_) (AllReadyH.nil))
      · go_simp
        refine hK.out _ _ ?_ (fun hHeld => ?_)
        · (try dsimp only)
          go_keep
        clear hK K
        refine wpAnyH_weaken (S' := fun W => (W.cell? ⟨wr.heap.size, 0, none⟩ = some (.int .i64 x.op) ∧ W.cell? ⟨wr.heap.size, 1, none⟩ = some (.int .i64 nn) ∧ W.cell? ⟨wr.heap.size, 2, none⟩ = some (.string x.name)) ∧ W.cell? ⟨wb.heap.size, 0, none⟩ = some (.int .u8 x.op)) (fun W h => h.1) ?_
        have hHeld := And.intro hHeld (cell_new16 wb (.int .u8 x.op) 5)
        refine wpAnyH_takeD (i := 5) (v := ?_) (d := some 32) rfl rfl (by kernel_rfl) (by kernel_rfl) (by kernel_rfl) (fun _ _ _ h => h) (Or.inl ⟨by rfl, ?_⟩) hHeld ?_
        rotate_left
        · intro w hSw
          (try dsimp only at hSw)
          have hq := conv16 w _ _ hop hSw.2
          go_simp
          (try with_reducible rfl)
        refine wpAnyH_takeD (i := 6) (v := ?_) (d := some 33) rfl rfl (by kernel_rfl) (by kernel_rfl) (by kernel_rfl) (fun _ _ _ h => h) (Or.inl ⟨by rfl, ?_⟩) hHeld ?_
        rotate_left
        · intro w hSw
          (try dsimp only at hSw)
          go_simp
          (try with_reducible rfl)
        refine wpAnyH_ready (rs := [9]) (by kernel_rfl) (by simp) ?_
        refine AllReadyH.cons rfl (fun K hK => ?_) (AllReadyH.nil)
        go_simp
        refine Calls.mono (l01Var_any nn _ (by omega)) ?_
        rintro e wv ⟨rfl, hbv⟩
        (try dsimp only)
        refine hK.out _ _ ?_ (fun hHeld => ?_)
        · (try dsimp only)
          exact ⟨gkeep3 hHeld.1 hbv, by first | exact cell_keep hHeld.2 hbv | exact cell_keepD hHeld.2 hbv⟩
        clear hK K
        refine wpAnyH_takeD (i := 10) (v := ?_) (d := some 37) rfl rfl (by kernel_rfl) (by kernel_rfl) (by kernel_rfl) (fun _ _ _ h => h) (Or.inl ⟨by rfl, ?_⟩) hHeld ?_
        rotate_left
        · intro w hSw
          (try dsimp only at hSw)
          go_simp
          (try with_reducible rfl)
        refine wpAnyH_ready (rs := [13]) (by kernel_rfl) (by simp) ?_
        refine AllReadyH.cons rfl (fun K hK => ?_) (AllReadyH.nil)
        go_simp
        refine Calls.mono (l16Short_any x.name _ (by omega)) ?_
        rintro e ws ⟨rfl, hbs⟩
        (try dsimp only)
        refine hK.out _ _ ?_ (fun hHeld => ?_)
        · (try dsimp only)
          exact ⟨gkeep3 hHeld.1 hbs, by first | exact cell_keep hHeld.2 hbs | exact cell_keepD hHeld.2 hbs⟩
        clear hK K
        refine wpAnyH_takeD (i := 14) (v := ?_) (d := some 41) rfl rfl (by kernel_rfl) (by kernel_rfl) (by kernel_rfl) (fun _ _ _ h => h) (Or.inl ⟨by rfl, ?_⟩) hHeld ?_
        rotate_left
        · intro w hSw
          (try dsimp only at hSw)
          go_simp
          (try with_reducible rfl)
        refine wpAnyH_takeD (i := 15) (v := ?_) (d := some 4) rfl rfl (by kernel_rfl) (by kernel_rfl) (by kernel_rfl) (fun _ _ _ h => h) (Or.inl ⟨by rfl, ?_⟩) hHeld ?_
        rotate_left
        · intro w hSw
          (try dsimp only at hSw)
          go_simp
          (try with_reducible rfl)
        refine wpAnyH_done (by kernel_rfl) ?_ _
        (try go_wp2_with fail)
        go_meet
        exact ⟨rfl, (bl_call (bl_callD (bl_alloc (Below.refl wb.heap.size wb) (.cells #[.int .u8 x.op] 5)) hbv) hbs)⟩
      · go_simp
        refine Calls.mono (l01Var_any nn _ (by omega)) ?_
        rintro e wv ⟨rfl, hbv⟩
        (try dsimp only)
        refine hK.out _ _ ?_ (fun hHeld => ?_)
        · (try dsimp only)
          exact gkeep3 hHeld hbv
        clear hK K
        refine wpAnyH_ready (rs := [4, 13]) (by kernel_rfl) (by simp) ?_
        refine AllReadyH.cons rfl (fun K hK => ?_) (AllReadyH.cons rfl (fun K hK => ?_) (AllReadyH.nil))
        · go_simp
          refine hK.out _ _ ?_ (fun hHeld => ?_)
          · (try dsimp only)
            go_keep
          clear hK K
          refine wpAnyH_weaken (S' := fun W => (W.cell? ⟨wr.heap.size, 0, none⟩ = some (.int .i64 x.op) ∧ W.cell? ⟨wr.heap.size, 1, none⟩ = some (.int .i64 nn) ∧ W.cell? ⟨wr.heap.size, 2, none⟩ = some (.string x.name)) ∧ W.cell? ⟨wv.heap.size, 0, none⟩ = some (.int .u8 x.op)) (fun W h => h.1) ?_
          have hHeld := And.intro hHeld (cell_new16 wv (.int .u8 x.op) 5)
          refine wpAnyH_takeD (i := 5) (v := ?_) (d := some 32) rfl rfl (by kernel_rfl) (by kernel_rfl) (by kernel_rfl) (fun _ _ _ h => h) (Or.inl ⟨by rfl, ?_⟩) hHeld ?_
          rotate_left
          · intro w hSw
            (try dsimp only at hSw)
            have hq := conv16 w _ _ hop hSw.2
            go_simp
            (try with_reducible rfl)
          refine wpAnyH_takeD (i := 6) (v := ?_) (d := some 33) rfl rfl (by kernel_rfl) (by kernel_rfl) (by kernel_rfl) (fun _ _ _ h => h) (Or.inl ⟨by rfl, ?_⟩) hHeld ?_
          rotate_left
          · intro w hSw
            (try dsimp only at hSw)
            go_simp
            (try with_reducible rfl)
          refine wpAnyH_takeD (i := 10) (v := ?_) (d := some 37) rfl rfl (by kernel_rfl) (by kernel_rfl) (by kernel_rfl) (fun _ _ _ h => h) (Or.inl ⟨by rfl, ?_⟩) hHeld ?_
          rotate_left
          · intro w hSw
            (try dsimp only at hSw)
            go_simp
            (try with_reducible rfl)
          refine wpAnyH_ready (rs := [13]) (by kernel_rfl) (by simp) ?_
          refine AllReadyH.cons rfl (fun K hK => ?_) (AllReadyH.nil)
          go_simp
          refine Calls.mono (l16Short_any x.name _ (by omega)) ?_
          rintro e ws ⟨rfl, hbs⟩
          (try dsimp only)
          refine hK.out _ _ ?_ (fun hHeld => ?_)
          · (try dsimp only)
            exact ⟨gkeep3 hHeld.1 hbs, by first | exact cell_keep hHeld.2 hbs | exact cell_keepD hHeld.2 hbs⟩
          clear hK K
          refine wpAnyH_takeD (i := 14) (v := ?_) (d := some 41) rfl rfl (by kernel_rfl) (by kernel_rfl) (by kernel_rfl) (fun _ _ _ h => h) (Or.inl ⟨by rfl, ?_⟩) hHeld ?_
          rotate_left
          · intro w hSw
            (try dsimp only at hSw)
            go_simp
            (try with_reducible rfl)
          refine wpAnyH_takeD (i := 15) (v := ?_) (d := some 4) rfl rfl (by kernel_rfl) (by kernel_rfl) (by kernel_rfl) (fun _ _ _ h => h) (Or.inl ⟨by rfl, ?_⟩) hHeld ?_
          rotate_left
          · intro w hSw
            (try dsimp only at hSw)
            go_simp
            (try with_reducible rfl)
          refine wpAnyH_done (by kernel_rfl) ?_ _
          (try go_wp2_with fail)
          go_meet
          exact ⟨rfl, (bl_call (bl_alloc (bl_callD (Below.refl wb.heap.size wb) hbv) (.cells #[.int .u8 x.op] 5)) hbs)⟩
        · go_simp
          refine Calls.mono (l16Short_any x.name _ (by omega)) ?_
          rintro e ws ⟨rfl, hbs⟩
          (try dsimp only)
          refine hK.out _ _ ?_ (fun hHeld => ?_)
          · (try dsimp only)
            exact gkeep3 hHeld hbs
          clear hK K
          refine wpAnyH_ready (rs := [4]) (by kernel_rfl) (by simp) ?_
          refine AllReadyH.cons rfl (fun K hK => ?_) (AllReadyH.nil)
          go_simp
          refine hK.out _ _ ?_ (fun hHeld => ?_)
          · (try dsimp only)
            go_keep
          clear hK K
          refine wpAnyH_weaken (S' := fun W => (W.cell? ⟨wr.heap.size, 0, none⟩ = some (.int .i64 x.op) ∧ W.cell? ⟨wr.heap.size, 1, none⟩ = some (.int .i64 nn) ∧ W.cell? ⟨wr.heap.size, 2, none⟩ = some (.string x.name)) ∧ W.cell? ⟨ws.heap.size, 0, none⟩ = some (.int .u8 x.op)) (fun W h => h.1) ?_
          have hHeld := And.intro hHeld (cell_new16 ws (.int .u8 x.op) 5)
          refine wpAnyH_takeD (i := 5) (v := ?_) (d := some 32) rfl rfl (by kernel_rfl) (by kernel_rfl) (by kernel_rfl) (fun _ _ _ h => h) (Or.inl ⟨by rfl, ?_⟩) hHeld ?_
          rotate_left
          · intro w hSw
            (try dsimp only at hSw)
            have hq := conv16 w _ _ hop hSw.2
            go_simp
            (try with_reducible rfl)
          refine wpAnyH_takeD (i := 6) (v := ?_) (d := some 33) rfl rfl (by kernel_rfl) (by kernel_rfl) (by kernel_rfl) (fun _ _ _ h => h) (Or.inl ⟨by rfl, ?_⟩) hHeld ?_
          rotate_left
          · intro w hSw
            (try dsimp only at hSw)
            go_simp
            (try with_reducible rfl)
          refine wpAnyH_takeD (i := 10) (v := ?_) (d := some 37) rfl rfl (by kernel_rfl) (by kernel_rfl) (by kernel_rfl) (fun _ _ _ h => h) (Or.inl ⟨by rfl, ?_⟩) hHeld ?_
          rotate_left
          · intro w hSw
            (try dsimp only at hSw)
            go_simp
            (try with_reducible rfl)
          refine wpAnyH_takeD (i := 14) (v := ?_) (d := some 41) rfl rfl (by kernel_rfl) (by kernel_rfl) (by kernel_rfl) (fun _ _ _ h => h) (Or.inl ⟨by rfl, ?_⟩) hHeld ?_
          rotate_left
          · intro w hSw
            (try dsimp only at hSw)
            go_simp
            (try with_reducible rfl)
          refine wpAnyH_takeD (i := 15) (v := ?_) (d := some 4) rfl rfl (by kernel_rfl) (by kernel_rfl) (by kernel_rfl) (fun _ _ _ h => h) (Or.inl ⟨by rfl, ?_⟩) hHeld ?_
          rotate_left
          · intro w hSw
            (try dsimp only at hSw)
            go_simp
            (try with_reducible rfl)
          refine wpAnyH_done (by kernel_rfl) ?_ _
          (try go_wp2_with fail)
          go_meet
          exact ⟨rfl, (bl_alloc (bl_call (bl_callD (Below.refl wb.heap.size wb) hbv) hbs) (.cells #[.int .u8 x.op] 5))⟩
    case rest =>
      obtain ⟨rfl, hbw⟩ := hcut
      have HBw : Hid (Below wr.heap.size wr wc) := HB.out.trans (hbw.mono HB.out.size)
      have q3 := cell_keep x3 hbw
      have q4 := cell_keep e4 hbw
      have HRk : Hid (IRow wc (.slice ka x.kids.length kc) x.kids) := HKr.out.below HBw.out
      have BRw : Hid (Below w2.heap.size w2 wc) := BR.out.trans (HBw.out.mono BR.out.size)
      have hL3 : L3.length ≤ 300 := by rw [HL3.out]; simp [shortW_len (s := x.name) (by omega), varB_small hnn2]; omega
      have HKd : Hid (∀ k ∈ x.kids, 0 ≤ k ∧ k ≤ 127) := HXs.out.kid
      have HNx : Hid (varB ns.length ++ ((ns.take (k + 1)).map nodeW).flatten = L3 ++ x.kids.map byteW) := by
        rw [Hid, HN.out, HWd.out, HL3.out]
        simp
      clear hbw e4 x0 x1 x2 x3 a1 a2 a3 HB n0 n1 n2 n3 e3 BR B3 hop hw8
      generalize x.kids = ks at *
      go_wp2
      go_loopw [4, 7] (fun sv iv wr => ∃ j : Nat, sv = .string (str (L3 ++ (ks.take j).map byteW)) ∧ iv = .int .i64 j ∧ j ≤ ks.length ∧ Below wc.heap.size wc wr) (fun _ iv _ => ks.length - (intOf iv).toNat)
      case atStart => exact ⟨0, by rw [List.take_zero, List.map_nil, List.append_nil], rfl, Nat.zero_le _, Below.refl _ _⟩
      case round =>
        obtain ⟨j, rfl, rfl, hjl, hbj⟩ := hrel
        have BJ : Hid (Below wc.heap.size wc wr) := hbj
        have r3 := cell_keep q3 hbj
        have r4 := cell_keep q4 hbj
        clear hbj
        by_cases hjt : j < ks.length
        · obtain ⟨g, off, rfl, hc⟩ := (HRk.out.below BJ.out).at hjt
          have i6 : (j : Int) < (ks.length : Int) := by omega
          have hb := HKd.out ks[j] (List.getElem_mem hjt)
          have HNj : Hid (L3 ++ (ks.take (j + 1)).map byteW = (L3 ++ (ks.take j).map byteW) ++ [byteW ks[j]]) := by
            rw [Hid, List.take_succ_eq_append_getElem hjt, List.map_append, List.map_cons, List.map_nil, List.append_assoc]
          have hll : (L3 ++ (ks.take j).map byteW).length ≤ 1000 := by
            rw [List.length_append, List.length_map, List.length_take]
            omega
          have hw8 : IntKind.u8.wrap ks[j] = ks[j] := by rw [IntKind.wrap_u8]; omega
          generalize ks[j] = y at *
          generalize L3 ++ (ks.take j).map byteW = pr at *
          have hcv := conv16 (wr.alloc (.cells #[.int .u8 y] 5)) wr.heap.size y hb (cell_new16 _ _ _)
          have had := fun W => run_add_str (P := Tryz.prog) W pr [byteW y] (by simp; omega)
          have BA : Hid (Below wc.heap.size wc (wr.alloc (.cells #[.int .u8 y] 5))) := BJ.out.alloc BJ.out.size _
          go_wp2
          go_roundw
          case rel => exact ⟨j + 1, by rw [HNj.out], by go_num, by omega, BA.out⟩
          case measure => simp [intOf]; omega
        · obtain rfl : j = ks.length := by omega
          have HE : Hid (str (L3 ++ (ks.take ks.length).map byteW) = str (varB ns.length ++ ((ns.take (k + 1)).map nodeW).flatten)) := by rw [Hid, HNx.out, List.take_length]
          have BF : Hid (Below w2.heap.size w2 wr) := BRw.out.trans (BJ.out.mono BRw.out.size)
          rw [HE.out]
          go_wp2
          go_roundw
          case rel => exact ⟨k + 1, rfl, by go_num, by omega, BF.out⟩
          case measure => simp [intOf]; omega

end Go.Proofs.YtokidlklkgghkaaGreatDoor
