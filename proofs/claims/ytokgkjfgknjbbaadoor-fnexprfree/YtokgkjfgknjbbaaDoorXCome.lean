/- The program's kids of a part, and timesCome: how often the whole comes to each part. -/
import Derived.Test.YtokgkjfgknjbbaaDoorXParts
import Derived.Test.YtokgkjfgknjbbaaDoorXKit2
import Derived.Test.YtokgkjfgknjbbaaDoorXTimes
namespace Go.Proofs.YtokgkjfgknjbbaaDoor
open Go.RowKit

theorem ownZ_nil (B : Nat) (w : World) : OwnZ B (.slice none 0 0) [] w := ⟨rfl, .inl ⟨rfl, rfl⟩⟩
theorem ownZ_lit (w : World) (B : Nat) (hB : B ≤ w.heap.size) (zs : List Int) (hz : zs.length ≤ 8) : OwnZ B (.slice (some ⟨w.heap.size, 0, none⟩) zs.length zs.length) zs (w.alloc (.cells (zv zs).toArray 3)) :=
  ⟨by simp [zv], .inr ⟨_, _, _, rfl, hB, heap_alloc_new w _, Nat.le_refl _, by unfold maxLen; omega, by simp [zv], by rw [Nat.mul_one, List.take_of_length_le (by simp [zv])]⟩⟩
theorem kids_num (v : Value) (w : World) : Calls Tryd.prog 139 #[.agg #[v]] w fun e w' => ∃ o, e = .returned o ∧ OwnZ w.heap.size o [] w' ∧ Below w.heap.size w w' := by
  go_enter Tryd.func139, Tryd.ntmps139
  go_wp2
  go_ret
  exact ⟨_, rfl, ownZ_nil _ _, (Below.refl _ _).alloc (Nat.le_refl _) _⟩
theorem kids_var (v : Value) (w : World) : Calls Tryd.prog 138 #[.agg #[v]] w fun e w' => ∃ o, e = .returned o ∧ OwnZ w.heap.size o [] w' ∧ Below w.heap.size w w' := by
  go_enter Tryd.func138, Tryd.ntmps138
  go_wp2
  go_ret
  exact ⟨_, rfl, ownZ_nil _ _, (Below.refl _ _).alloc (Nat.le_refl _) _⟩
theorem kids_here (w : World) : Calls Tryd.prog 140 #[.agg #[]] w fun e w' => ∃ o, e = .returned o ∧ OwnZ w.heap.size o [] w' ∧ Below w.heap.size w w' := by
  go_enter Tryd.func140, Tryd.ntmps140
  go_wp2
  go_ret
  exact ⟨_, rfl, ownZ_nil _ _, (Below.refl _ _).alloc (Nat.le_refl _) _⟩
theorem kids_not (a : Int) (w : World) : Calls Tryd.prog 142 #[.agg #[.int .i64 a]] w fun e w' => ∃ o, e = .returned o ∧ OwnZ w.heap.size o [a] w' ∧ Below w.heap.size w w' := by
  have HO : Hid (OwnZ w.heap.size (.slice (some ⟨w.heap.size + 1, 0, none⟩) 1 1) [a] ((w.alloc (.cells #[.int .i64 a] 123)).alloc (.cells #[.int .i64 a] 3))) := by
    have hg0 : (w.alloc (.cells #[.int .i64 a] 123)).heap.size = w.heap.size + 1 := by simp
    have := ownZ_lit (w.alloc (.cells #[.int .i64 a] 123)) w.heap.size (by rw [hg0]; omega) [a] (by simp)
    rw [hg0] at this
    exact this
  go_enter Tryd.func142, Tryd.ntmps142
  go_wp2
  go_ret
  exact ⟨_, rfl, HO.out, ((Below.refl _ _).alloc (Nat.le_refl _) _).alloc (by simp) _⟩
theorem kids_pair (op a b : Int) (w : World) : Calls Tryd.prog 141 #[.agg #[.int .i64 op, .int .i64 a, .int .i64 b]] w fun e w' => ∃ o, e = .returned o ∧ OwnZ w.heap.size o [a, b] w' ∧ Below w.heap.size w w' := by
  have HO : Hid (OwnZ w.heap.size (.slice (some ⟨w.heap.size + 1, 0, none⟩) 2 2) [a, b] ((w.alloc (.cells #[.int .i64 op, .int .i64 a, .int .i64 b] 121)).alloc (.cells #[.int .i64 a, .int .i64 b] 3))) := by
    have hg0 : (w.alloc (.cells #[.int .i64 op, .int .i64 a, .int .i64 b] 121)).heap.size = w.heap.size + 1 := by simp
    have := ownZ_lit (w.alloc (.cells #[.int .i64 op, .int .i64 a, .int .i64 b] 121)) w.heap.size (by rw [hg0]; omega) [a, b] (by simp)
    rw [hg0] at this
    exact this
  go_enter Tryd.func141, Tryd.ntmps141
  go_wp2
  go_ret
  exact ⟨_, rfl, HO.out, ((Below.refl _ _).alloc (Nat.le_refl _) _).alloc (by simp) _⟩
theorem Tryd.mNum (v : Value) (w : World) : (Go.method 306 116 (.agg #[v]) "loop.example/g00243/impl.kids").run Tryd.prog w = .ok (139, .agg #[v]) w := by kernel_rfl
theorem Tryd.mVar (v : Value) (w : World) : (Go.method 306 100 (.agg #[v]) "loop.example/g00243/impl.kids").run Tryd.prog w = .ok (138, .agg #[v]) w := by kernel_rfl
theorem Tryd.mHere (w : World) : (Go.method 306 118 (.agg #[]) "loop.example/g00243/impl.kids").run Tryd.prog w = .ok (140, .agg #[]) w := by kernel_rfl
theorem Tryd.mNot (v : Value) (w : World) : (Go.method 306 123 (.agg #[v]) "loop.example/g00243/impl.kids").run Tryd.prog w = .ok (142, .agg #[v]) w := by kernel_rfl
theorem Tryd.mPair (u v x : Value) (w : World) : (Go.method 306 121 (.agg #[u, v, x]) "loop.example/g00243/impl.kids").run Tryd.prog w = .ok (141, .agg #[u, v, x]) w := by kernel_rfl

theorem Tryd.cNum (args : Array Value) (w : World) : (callFunc 139 args).run Tryd.prog w = .ok (.enter 139 args) w := by kernel_rfl
theorem Tryd.cVar (args : Array Value) (w : World) : (callFunc 138 args).run Tryd.prog w = .ok (.enter 138 args) w := by kernel_rfl
theorem Tryd.cHere (args : Array Value) (w : World) : (callFunc 140 args).run Tryd.prog w = .ok (.enter 140 args) w := by kernel_rfl
theorem Tryd.cNot (args : Array Value) (w : World) : (callFunc 142 args).run Tryd.prog w = .ok (.enter 142 args) w := by kernel_rfl
theorem Tryd.cPair (args : Array Value) (w : World) : (callFunc 141 args).run Tryd.prog w = .ok (.enter 141 args) w := by kernel_rfl

/-- The kids that a part tells are its node's. -/
theorem part_kids {i : Nat} {x : NodeD} (h : nodeB i x = true) : ∃ (t : TypeId) (pv : Value) (f : FuncId), partV x = .iface t pv ∧ (∀ W, (Go.method 306 t pv "loop.example/g00243/impl.kids").run Tryd.prog W = .ok (f, pv) W) ∧ (∀ args W, (callFunc f args).run Tryd.prog W = .ok (.enter f args) W) ∧
    ∀ W, Calls Tryd.prog f #[pv] W fun e w' => ∃ o, e = .returned o ∧ OwnZ W.heap.size o x.kids w' ∧ Below W.heap.size W w' := by
  obtain ⟨ho, hl, _, hk⟩ := node_parts h
  by_cases o1 : x.op = 1
  · have hn : x.kids = [] := by rw [kidsN, if_pos (.inl o1)] at hl; exact List.eq_nil_of_length_eq_zero (by omega)
    rw [hn]
    exact ⟨_, _, _, by rw [partV, if_pos o1], fun W => Tryd.mNum _ W, Tryd.cNum, fun W => kids_num _ W⟩
  by_cases o2 : x.op = 2
  · have hn : x.kids = [] := by rw [kidsN, if_pos (.inr (.inl o2))] at hl; exact List.eq_nil_of_length_eq_zero (by omega)
    rw [hn]
    exact ⟨_, _, _, by rw [partV, if_neg o1, if_pos o2], fun W => Tryd.mVar _ W, Tryd.cVar, fun W => kids_var _ W⟩
  by_cases o3 : x.op = 3
  · have hn : x.kids = [] := by rw [kidsN, if_pos (.inr (.inr o3))] at hl; exact List.eq_nil_of_length_eq_zero (by omega)
    rw [hn]
    exact ⟨_, _, _, by rw [partV, if_neg o1, if_neg o2, if_pos o3], fun W => Tryd.mHere W, Tryd.cHere, fun W => kids_here W⟩
  by_cases o11 : x.op = 11
  · obtain ⟨a, ha⟩ : ∃ a, x.kids = [a] := by
      rw [kidsN, if_neg (by omega), if_pos o11] at hl
      exact List.length_eq_one_iff.1 (by omega)
    rw [partV, if_neg o1, if_neg o2, if_neg o3, if_pos o11, ha]
    exact ⟨_, _, _, rfl, fun W => Tryd.mNot _ W, Tryd.cNot, fun W => kids_not a W⟩
  · obtain ⟨a, b, ha⟩ : ∃ a b, x.kids = [a, b] := by
      rw [kidsN, if_neg (by omega), if_neg o11] at hl
      match hx : x.kids, hl with
      | [p, q], _ => exact ⟨p, q, rfl⟩
    rw [partV, if_neg o1, if_neg o2, if_neg o3, if_neg o11, ha]
    exact ⟨_, _, _, rfl, fun W => Tryd.mPair _ _ _ W, Tryd.cPair, fun W => kids_pair x.op a b W⟩

/-- No number is beyond. -/
def Bnd (ts : List Int) (b : Nat) : Prop := ∀ i, 0 ≤ ts.getD i 0 ∧ ts.getD i 0 ≤ ((2 ^ b : Nat) : Int)
theorem bnd_add {ts : List Int} {b : Nat} {k m : Nat} (h : Bnd ts b) : Bnd (addAt ts k (ts.getD m 0)) (b + 1) := by
  intro i
  have h1 := h i
  have h2 := h m
  have h3 := h k
  have h4 : ((2 ^ (b + 1) : Nat) : Int) = ((2 ^ b : Nat) : Int) + ((2 ^ b : Nat) : Int) := by rw [Nat.pow_succ]; omega
  by_cases e : k = i
  · subst e
    by_cases hk : k < ts.length
    · rw [addAt, getD_set_eq _ _ _ hk]; omega
    · rw [addAt, List.set_eq_of_length_le (by omega)]; omega
  · rw [addAt, getD_set_ne _ _ _ _ e]; omega
theorem bnd_mono {ts : List Int} {b c : Nat} (h : Bnd ts b) (hbc : b ≤ c) : Bnd ts c := fun i => by
  have h1 := h i
  have h2 : 2 ^ b ≤ 2 ^ c := Nat.pow_le_pow_right (by omega) hbc
  omega
theorem bnd_start {n : Nat} (h : 1 ≤ n) : Bnd (times0 n) 0 := fun i => by
  rw [times0_get n i h]
  split <;> simp
theorem pow_41 {b : Nat} (h : b ≤ 41) : ((2 ^ b : Nat) : Int) ≤ 2199023255552 := by
  have := Nat.pow_le_pow_right (n := 2) (by omega) h
  have e : (2 : Nat) ^ 41 = 2199023255552 := by decide
  omega
theorem comeK_drop (ks : List Int) (t : Int) (ts : List Int) (j : Nat) (h : j < ks.length) : comeK (ks.drop j) t ts = comeK (ks.drop (j + 1)) t (addAt ts ks[j].toNat t) := by
  rw [List.drop_eq_getElem_cons h]
  rfl
theorem times0_cells (n : Nat) : (madeCells (Value.int .i64 0).cells (n * 1)).toList = zv (List.replicate n 0) := by
  rw [Nat.mul_one, zv, List.map_replicate, show (Value.int .i64 0).cells = #[.int .i64 0] from rfl, toList_madeCells_one]
theorem zv_set (ts : List Int) (k : Nat) (x : Int) : (zv ts).set k (.int .i64 x) = zv (ts.set k x) := by rw [zv, zv, List.map_set]
theorem times0_len (n : Nat) : (times0 n).length = n := by rw [times0, List.length_set, List.length_replicate]
theorem ownZ_of {B n : Nat} {v : Value} {ts : List Int} {w : World} (h : w.ownsRow B 3 1 v n (zv ts)) (hn : ts.length = n) : OwnZ B v ts w := by
  subst hn
  exact h
theorem ownZ_to {B n : Nat} {v : Value} {ts : List Int} {w : World} (h : OwnZ B v ts w) (hn : ts.length = n) : w.ownsRow B 3 1 v n (zv ts) := by
  subst hn
  exact h
theorem ownZ_cell {B g n cap : Nat} {ts : List Int} {w : World} (h : OwnZ B (.slice (some ⟨g, 0, none⟩) n cap) ts w) (hn : ts.length = n) (k : Nat) (hk : k < n) : w.cell? ⟨g, k, none⟩ = some (.int .i64 (ts.getD k 0)) ∧ w.frozen? ⟨g, k, none⟩ = false := by
  subst hn
  have h1 := World.ownsRow.cellAt h k (by omega)
  refine ⟨?_, ?_⟩
  · rw [h1]
    simp [zv, hk]
  · obtain ⟨_, _, hf⟩ := own_cell h k (by omega)
    exact hf

set_option maxHeartbeats 3200000 in
set_option maxRecDepth 100000 in
theorem timesCome_any (v : Value) (ns : List NodeD) (w : World) (hx : exprB ns = true) (h : PRow w v ns) :
    Calls Tryd.prog 73 #[v] w fun e w' => ∃ g, e = .returned (.slice (some ⟨g, 0, none⟩) ns.length ns.length) ∧ OwnZ w.heap.size (.slice (some ⟨g, 0, none⟩) ns.length ns.length) (timesB ns) w' ∧ Below w.heap.size w w' := by
  obtain ⟨i0, hi, hz0, hz1, hz2⟩ := info_parts Tryd.infoInt5
  obtain ⟨⟨hl1, hl2⟩, hnode⟩ := exprB_at hx
  have HNd : Hid (∀ k (hk : k < ns.length), nodeB k ns[k] = true) := hnode
  have HR : Hid (PRow w v ns) := h
  obtain ⟨a, cap, rfl⟩ := h.slice
  clear h hnode hx
  have i1 : IntKind.i64.wrap ((ns.length : Int) - 1) = ((ns.length - 1 : Nat) : Int) := by rw [IntKind.wrap_i64]; omega
  have i2 : ((ns.length - 1 : Nat) : Int) < (ns.length : Int) := by omega
  go_enter Tryd.func73, Tryd.ntmps73
  go_wp2_with (at_make; refine wpList_make_full _ rfl _ _ 35 rfl w.heap.size 3 i0 _ 1 Tryd.underlying35 hi hz0 hz1 .i64 .i64 _ _ ns.length rfl rfl rfl rfl (by rw [hz2]; omega) (by unfold maxLen; omega) (Nat.le_refl _) ?_; intro w1 hown hg1; rw [times0_cells] at hown; have hc0 := ownZ_cell (ts := List.replicate ns.length 0) (by rw [OwnZ, List.length_replicate]; exact hown) (by simp) (ns.length - 1) (by omega); obtain ⟨hc1, hc2⟩ := hc0)
  have HO2 : Hid (OwnZ w.heap.size (.slice (some ⟨w.heap.size, 0, none⟩) ns.length ns.length) (times0 ns.length) (w1.setCell ⟨w.heap.size, ns.length - 1, none⟩ (.int .i64 1))) := by
    have h1 := (World.ownsRow.stored hown (ns.length - 1) (.int .i64 1)).1
    rw [zv_set] at h1
    exact ownZ_of h1 (times0_len _)
  have HB2 : Hid (Below w.heap.size w (w1.setCell ⟨w.heap.size, ns.length - 1, none⟩ (.int .i64 1))) := ((Below.refl _ _).grown hg1 (Nat.le_refl _) (fun k h => by cases h)).setCell (Nat.le_refl _) _
  clear hown hg1 hc1 hc2
  go_loopw [4] (fun av wr => ∃ (m : Nat) (ts : List Int), av = .int .i64 ((m : Int) - 1) ∧ m ≤ ns.length ∧ timesF ns m ts = timesB ns ∧ ts.length = ns.length ∧ Bnd ts (2 * (ns.length - m)) ∧ OwnZ w.heap.size (.slice (some ⟨w.heap.size, 0, none⟩) ns.length ns.length) ts wr ∧ Below w.heap.size w wr) (fun av _ => (intOf av + 1).toNat)
  case atStart => exact ⟨ns.length, times0 ns.length, by congr 1; omega, Nat.le_refl _, rfl, by simp [times0], bnd_mono (bnd_start hl1) (Nat.zero_le _), HO2.out, HB2.out⟩
  case round =>
    obtain ⟨m, ts, hav, hm, htf, htl, hbnd, hown, hbw⟩ := hrel
    have HT : Hid (timesF ns m ts = timesB ns) := htf
    have HL : Hid (ts.length = ns.length) := htl
    have HBd : Hid (Bnd ts (2 * (ns.length - m))) := hbnd
    have HO : Hid (OwnZ w.heap.size (.slice (some ⟨w.heap.size, 0, none⟩) ns.length ns.length) ts wr) := hown
    have HB : Hid (Below w.heap.size w wr) := hbw
    clear htf htl hbnd hown hbw
    cases m with
    | zero =>
      obtain rfl : u4 = .int .i64 (-1) := by rw [hav]; rfl
      clear hav
      have HE : Hid (ts = timesB ns) := HT.out
      go_wp2
      go_ret
      exact ⟨_, rfl, by rw [← HE.out]; exact HO.out, HB.out⟩
    | succ m =>
      obtain rfl : u4 = .int .i64 (m : Int) := by rw [hav]; congr 1; omega
      clear hav
      obtain ⟨b, off, rfl, hpc⟩ := (HR.out.below HB.out).at (k := m) (by omega)
      obtain ⟨t, pv, f, hpt, hmeth, hent, hcall⟩ := part_kids (HNd.out m (by omega))
      rw [hpt] at hpc
      have HK : Hid (∀ W, Calls Tryd.prog f #[pv] W fun e w' => ∃ o, e = .returned o ∧ OwnZ W.heap.size o ns[m].kids w' ∧ Below W.heap.size W w') := hcall
      have HKd : Hid (∀ q ∈ ns[m].kids, 0 ≤ q ∧ q < m) := (node_parts (HNd.out m (by omega))).2.2.2
      have HTn : Hid (timesF ns m (comeK ns[m].kids (ts.getD m 0) ts) = timesB ns) := by have := HT.out; rwa [timesF, kidsAt_eq (by omega)] at this
      have hkl : ns[m].kids.length ≤ 2 := by
        have := (node_parts (HNd.out m (by omega))).2.1
        unfold kidsN at this
        split at this
        · omega
        · split at this <;> omega
      have i4 : (0 : Int) ≤ (m : Int) := by omega
      have i5 : (m : Int) < (ns.length : Int) := by omega
      clear hpt hcall HT
      go_wp2_with fail
      refine (HK.out _).mono ?_
      rintro e w2 ⟨o, rfl, ho, hb2⟩
      have HO2 : Hid (OwnZ w.heap.size (.slice (some ⟨w.heap.size, 0, none⟩) ns.length ns.length) ts w2) := HO.out.below hb2
      have HB2 : Hid (Below w.heap.size w w2) := HB.out.trans (hb2.mono HB.out.size)
      have HKo : Hid (OwnZ (w.heap.size + 1) o ns[m].kids w2) := OwnZ.base ho (by have := (World.ownsRow.lt HO.out w.heap.size rfl).2; omega)
      obtain ⟨ao, co, rfl⟩ := ho.row.slice
      clear ho hb2 hpc HK hmeth hent
      go_wp2
      go_loopw [28] (fun jv ww => ∃ (j : Nat) (us : List Int), jv = .int .i64 j ∧ j ≤ ns[m].kids.length ∧ comeK (ns[m].kids.drop j) (ts.getD m 0) us = comeK ns[m].kids (ts.getD m 0) ts ∧ us.getD m 0 = ts.getD m 0 ∧ us.length = ns.length ∧ Bnd us (2 * (ns.length - (m + 1)) + j) ∧ OwnZ w.heap.size (.slice (some ⟨w.heap.size, 0, none⟩) ns.length ns.length) us ww ∧ OwnZ (w.heap.size + 1) (.slice ao ns[m].kids.length co) ns[m].kids ww ∧ Below w.heap.size w ww) (fun jv _ => ns[m].kids.length - (intOf jv).toNat)
      case atStart => exact ⟨0, ts, rfl, Nat.zero_le _, rfl, rfl, HL.out, HBd.out, HO2.out, HKo.out, HB2.out⟩
      case round =>
        obtain ⟨j, us, rfl, hj, hcome, hum, hul, hbnd, hown, hko, hbw⟩ := hrel
        have HC : Hid (comeK (ns[m].kids.drop j) (ts.getD m 0) us = comeK ns[m].kids (ts.getD m 0) ts) := hcome
        have HUm : Hid (us.getD m 0 = ts.getD m 0) := hum
        have HUl : Hid (us.length = ns.length) := hul
        have HUb : Hid (Bnd us (2 * (ns.length - (m + 1)) + j)) := hbnd
        have HUo : Hid (OwnZ w.heap.size (.slice (some ⟨w.heap.size, 0, none⟩) ns.length ns.length) us wr) := hown
        have HKo : Hid (OwnZ (w.heap.size + 1) (.slice ao ns[m].kids.length co) ns[m].kids wr) := hko
        have HB : Hid (Below w.heap.size w wr) := hbw
        clear hcome hum hul hbnd hown hko hbw
        by_cases hjl : j < ns[m].kids.length
        · obtain ⟨bk, offk, rfl, hck⟩ := HKo.out.row.at hjl
          have hkq := HKd.out _ (List.getElem_mem hjl)
          have HCd : Hid (_ = _) := comeK_drop ns[m].kids (ts.getD m 0) us j hjl
          obtain ⟨q, hq⟩ : ∃ q : Nat, ns[m].kids[j] = (q : Int) := ⟨ns[m].kids[j].toNat, by omega⟩
          rw [hq] at hck hkq HCd
          rw [Int.toNat_natCast] at HCd
          have hqn : q < ns.length := by omega
          obtain ⟨c1, c2⟩ := ownZ_cell HUo.out HUl.out q hqn
          obtain ⟨c3, _⟩ := ownZ_cell HUo.out HUl.out m (by omega)
          have hb1 := HUb.out q
          have hb3 := HUb.out m
          have hp := pow_41 (b := 2 * (ns.length - (m + 1)) + j) (by omega)
          have i6 : (j : Int) < (ns[m].kids.length : Int) := by omega
          have i7 : (q : Int) < (ns.length : Int) := by omega
          have i8 : IntKind.i64.wrap (us.getD q 0 + us.getD m 0) = us.getD q 0 + us.getD m 0 := by rw [IntKind.wrap_i64]; omega
          have HAd : Hid (addAt us q (us.getD m 0) = us.set q (us.getD q 0 + us.getD m 0)) := rfl
          have HBn : Hid (Bnd (addAt us q (us.getD m 0)) (2 * (ns.length - (m + 1)) + j + 1)) := bnd_add HUb.out
          have HGm : Hid ((addAt us q (us.getD m 0)).getD m 0 = ts.getD m 0) := by rw [Hid, addAt, getD_set_ne _ _ _ _ (by omega)]; exact HUm.out
          clear hq hb1 hb3 hp
          rw [← HUm.out] at HCd
          generalize hX : us.getD q 0 = X at *
          generalize hY : us.getD m 0 = Y at *
          clear hX hY
          go_wp2
          go_region
          go_wp2
          go_roundw
          case rel =>
            have e := HUm.out
            subst e
            have h1 := (World.ownsRow.stored (ownZ_to HUo.out HUl.out) q (.int .i64 (X + ts.getD m 0))).1
            rw [zv_set, ← HAd.out] at h1
            have h2 : OwnZ (w.heap.size + 1) (.slice (some ⟨bk, offk, none⟩) ns[m].kids.length co) ns[m].kids (wr.setCell ⟨w.heap.size, q, none⟩ (.int .i64 (X + ts.getD m 0))) := World.ownsRow.kept HKo.out (grow_set wr w.heap.size q _) (off_block HKo.out (by omega))
            exact ⟨j + 1, addAt us q (ts.getD m 0), by go_num, by omega, HCd.out.symm.trans HC.out, HGm.out, by rw [addAt_len]; exact HUl.out, HBn.out, ownZ_of h1 ((addAt_len _ _ _).trans HUl.out), h2, (HB.out.setCell (Nat.le_refl _) _).drew⟩
          case measure => simp [intOf]; omega
        · obtain rfl : j = ns[m].kids.length := by omega
          have HEq : Hid (us = comeK ns[m].kids (ts.getD m 0) ts) := by
            have := HC.out
            rw [List.drop_length] at this
            exact this
          have HBn : Hid (Bnd us (2 * (ns.length - m))) := bnd_mono HUb.out (by omega)
          have i6 : ¬ (ns[m].kids.length : Int) < (ns[m].kids.length : Int) := by omega
          have i9 : IntKind.i64.wrap ((m : Int) - 1) = (m : Int) - 1 := by rw [IntKind.wrap_i64]; omega
          clear HC HUb HUm
          go_wp2
          go_roundw
          case rel => exact ⟨m, us, rfl, by omega, by rw [HEq.out]; exact HTn.out, HUl.out, HBn.out, HUo.out, HB.out⟩
          case measure => simp [intOf]
end Go.Proofs.YtokgkjfgknjbbaaDoor
