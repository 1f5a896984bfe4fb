/- The program reads a node (printed by mk/e16y.py). -/
import Derived.Test.YtokidlklkgghkaaGreatDoorGTo
import Derived.Test.YtokidlklkgghkaaGreatDoorE16Q
namespace Go.Proofs.YtokidlklkgghkaaGreatDoor
open Go.RowKit
set_option linter.unusedVariables false

def kidC (o : Int) : Nat := if o = 11 then 1 else if 4 ≤ o ∧ o ≤ 10 then 2 else 0
theorem kidC_le (o : Int) : kidC o ≤ 2 := by unfold kidC; split; omega; split <;> omega
def NodeQ (x : NodeD) : Prop := NodeS x ∧ (1 ≤ x.op ∧ x.op ≤ 11) ∧ (x.kids.length : Int) = kidsN x.op
theorem kidC_is {o : Int} (h : 1 ≤ o ∧ o ≤ 11) : (kidC o : Int) = kidsN o := by
  unfold kidC kidsN
  by_cases h1 : o = 11
  · rw [if_pos h1, if_neg (by omega), if_pos h1]; rfl
  · by_cases h2 : 4 ≤ o ∧ o ≤ 10
    · rw [if_neg h1, if_pos h2, if_neg (by omega), if_neg h1]; rfl
    · rw [if_neg h1, if_neg h2, if_pos (by omega)]; rfl
theorem kids_flat : ∀ ks : List Int, (ks.map fun n => [byteW n]).flatten = ks.map byteW
  | [] => rfl
  | k :: ks => by rw [List.map_cons, List.flatten_cons, kids_flat ks]; rfl
theorem kidCount_any (o : Int) (w : World) : Calls Tryz.prog 116 #[.int .i64 o] w fun e w' => e = .returned (.int .i64 (kidC o : Int)) ∧ w' = w := by
  by_cases h1 : o = 11
  · have hk : Hid ((kidC o : Int) = 1) := by rw [Hid, kidC, if_pos h1]; rfl
    have hq : (o == 11) = true := by rw [h1]; rfl
    clear h1
    go_enter Tryz.func116, Tryz.ntmps116
    go_wp2
    go_ret
    rw [hk.out]
    exact ⟨rfl, rfl⟩
  · have hq : (o == 11) = false := beq_eq_false_iff_ne.2 h1
    by_cases h2 : 4 ≤ o
    · have d2 : decide (4 ≤ o) = true := decide_eq_true h2
      by_cases h3 : o ≤ 10
      · have d3 : decide (o ≤ 10) = true := decide_eq_true h3
        have hk : Hid ((kidC o : Int) = 2) := by rw [Hid, kidC, if_neg h1, if_pos ⟨h2, h3⟩]; rfl
        clear h1
        go_enter Tryz.func116, Tryz.ntmps116
        go_wp2
        go_ret
        rw [hk.out]
        exact ⟨rfl, rfl⟩
      · have d3 : decide (o ≤ 10) = false := decide_eq_false h3
        have hk : Hid ((kidC o : Int) = 0) := by rw [Hid, kidC, if_neg h1, if_neg (fun h => h3 h.2)]; rfl
        clear h1
        go_enter Tryz.func116, Tryz.ntmps116
        go_wp2
        go_ret
        rw [hk.out]
        exact ⟨rfl, rfl⟩
    · have d2 : decide (4 ≤ o) = false := decide_eq_false h2
      have hk : Hid ((kidC o : Int) = 0) := by rw [Hid, kidC, if_neg h1, if_neg (fun h => h2 h.1)]; rfl
      clear h1
      go_enter Tryz.func116, Tryz.ntmps116
      go_wp2
      go_ret
      rw [hk.out]
      exact ⟨rfl, rfl⟩

/-- What the first three readers tell of a node. -/
theorem node_head {s : ByteArray} {a b1 b2 b3 m : Nat} {o : Int} {nm : ByteArray} (h1 : ∀ n r, (0 ≤ n ∧ n ≤ 127) → s.data.toList.drop a = [byteW n] ++ r → o = n ∧ b1 = a + ([byteW n]).length)
    (h2 : ∀ n r, n ≤ 1000000000 → s.data.toList.drop b1 = varB n ++ r → m = n ∧ b2 = b1 + (varB n).length) (h3 : ∀ t r, t.size ≤ 20000 → s.data.toList.drop b2 = shortW t ++ r → nm = t ∧ b3 = b2 + (shortW t).length)
    {x : NodeD} {r : List UInt8} (hx : NodeQ x) (e : s.data.toList.drop a = nodeW x ++ r) :
    o = x.op ∧ (m : Int) = x.num ∧ nm = x.name ∧ x.kids.length = kidC o ∧ s.data.toList.drop b3 = (x.kids.map fun n => [byteW n]).flatten ++ r ∧ b3 + x.kids.length = a + (nodeW x).length := by
  obtain ⟨hs, ho, hk⟩ := hx
  have e1 : s.data.toList.drop a = [byteW x.op] ++ (varB x.num.toNat ++ (shortW x.name ++ (x.kids.map byteW ++ r))) := by rw [e, nodeW]; simp
  obtain ⟨p1, p2⟩ := h1 _ _ hs.op e1
  have e2 : s.data.toList.drop b1 = varB x.num.toNat ++ (shortW x.name ++ (x.kids.map byteW ++ r)) := by rw [p2, ← List.drop_drop, e1, List.drop_left]
  obtain ⟨p3, p4⟩ := h2 _ _ (by have := hs.num; omega) e2
  have e3 : s.data.toList.drop b2 = shortW x.name ++ (x.kids.map byteW ++ r) := by rw [p4, ← List.drop_drop, e2, List.drop_left]
  obtain ⟨p5, p6⟩ := h3 _ _ (by have := hs.name; omega) e3
  have e4 : s.data.toList.drop b3 = x.kids.map byteW ++ r := by rw [p6, ← List.drop_drop, e3, List.drop_left]
  refine ⟨p1, by have := hs.num; omega, p5, ?_, by rw [e4, kids_flat], ?_⟩
  · have := kidC_is ho
    rw [p1]
    omega
  · rw [nodeW]
    simp only [List.length_cons, List.length_append, List.length_map, List.length_nil] at p2 ⊢
    omega
def nodeT (x : NodeD) : Nat := x.name.size + x.kids.length
def RdNd (x : NodeD) (v : Value) (w w' : World) : Prop := ∃ kv : Value, v = .agg #[.int .i64 x.op, .int .i64 x.num, .string x.name, kv] ∧ OwnZ w.heap.size kv x.kids w' ∧ (0 ≤ x.op ∧ x.op ≤ 255) ∧ (0 ≤ x.num ∧ x.num ≤ 1000000000) ∧ x.name.size ≤ 20000 ∧ x.kids.length ≤ 2 ∧ ∀ k ∈ x.kids, 0 ≤ k ∧ k ≤ 255

theorem kp_cellR {F : Nat → Prop} {w w' : World} {a : Addr} {x : Value} (h : w.cell? a = some x) (hk : Kp F w w') (hn : ¬ F a.block) : w'.cell? a = some x := (World.cell?_of_block (hk.block _ (World.block_lt_of_cell? w a h) hn)).trans h
theorem node_h0 {x : NodeD} {s : ByteArray} {a : Nat} {r : List UInt8} (e : s.data.toList.drop a = nodeW x ++ r) : s.data.toList.drop a = [byteW x.op] ++ (varB x.num.toNat ++ (shortW x.name ++ (x.kids.map byteW ++ r))) := by rw [e, nodeW]; simp
set_option maxHeartbeats 6400000 in
set_option maxRecDepth 100000 in
theorem rdNode_any (p : Nat) (s : ByteArray) (a : Nat) (w : World) (hs : s.size ≤ 1048576) (ha : a ≤ s.size) (h : RdA p s a w) :
    Calls Tryz.prog 101 #[.pointer (some ⟨p, 0, none⟩)] w fun e w' => RdOut nodeW NodeQ nodeT RdNd p s a w e w' := by
  obtain ⟨i0, hi, hz0, hz1, hz2⟩ := info_parts Tryz.infoInt5
  have hpw : p < w.heap.size := (Array.getElem?_eq_some_iff.1 h).1
  have bal : Below w.heap.size w (w.alloc (.cells #[.int .i64 0, .int .i64 0, .string ⟨#[]⟩, .slice none 0 0] 93)) := (Below.refl _ _).alloc (Nat.le_refl _) _
  have HA1 : Hid (RdA p s a (w.alloc (.cells #[.int .i64 0, .int .i64 0, .string ⟨#[]⟩, .slice none 0 0] 93))) := RdA.below h bal
  have HK1 : Hid (Kp (fun q => q = p) w (w.alloc (.cells #[.int .i64 0, .int .i64 0, .string ⟨#[]⟩, .slice none 0 0] 93))) := Kp.below bal
  have HP1 : Hid ((w.alloc (.cells #[.int .i64 0, .int .i64 0, .string ⟨#[]⟩, .slice none 0 0] 93)).heap[w.heap.size]? = some (.cells #[.int .i64 0, .int .i64 0, .string ⟨#[]⟩, .slice none 0 0] 93 (0, 0))) := heap_alloc_new w _
  clear h bal
  go_enter Tryz.func101, Tryz.ntmps101
  go_wp2_with fail
  generalize w.alloc (.cells #[.int .i64 0, .int .i64 0, .string ⟨#[]⟩, .slice none 0 0] 93) = w1 at *
  refine (rdSingle_any p s a w1 hs ha HA1.out).mono ?_
  rintro e w2 ⟨hk2, ⟨rfl, hn2⟩ | ⟨v2, o, b1, rfl, ⟨rfl, ho⟩, hA2, hl2, hu2, hd2⟩⟩
  · go_simp
    exact ⟨rfl, HK1.out.trans hk2, .inl ⟨rfl, fun x r hx e => hn2 _ _ hx.1.op (node_h0 e)⟩⟩
  have hl2' : a < b1 := by have h0 : a + 0 < b1 := hl2; exact h0
  have HA2 : Hid (RdA p s b1 w2) := hA2
  have HK2 : Hid (Kp (fun q => q = p) w w2) := HK1.out.trans hk2
  have HD2 : Hid (∀ n r, (0 ≤ n ∧ n ≤ 127) → s.data.toList.drop a = [byteW n] ++ r → o = n ∧ b1 = a + ([byteW n]).length) := hd2
  have hw1 : w.heap.size < w1.heap.size := (Array.getElem?_eq_some_iff.1 HP1.out).1
  have HP2 : Hid (w2.heap[w.heap.size]? = some (.cells #[.int .i64 0, .int .i64 0, .string ⟨#[]⟩, .slice none 0 0] 93 (0, 0))) := (hk2.block _ hw1 (by omega)).trans HP1.out
  clear hA2 hk2 hd2 hl2 hw1 HP1
  go_wp2_with fail
  refine (rdNumber_any p s b1 w2 hs hu2 HA2.out).mono ?_
  rintro e w3 ⟨hk3, ⟨rfl, hn3⟩ | ⟨v3, m, b2, rfl, ⟨rfl, hm⟩, hA3, hl3, hu3, hd3⟩⟩
  · go_simp
    exact ⟨rfl, HK2.out.trans hk3, .inl ⟨rfl, fun x r hx e => by
      obtain ⟨_, p2⟩ := HD2.out _ _ hx.1.op (node_h0 e)
      refine hn3 x.num.toNat (shortW x.name ++ (x.kids.map byteW ++ r)) (by have := hx.1.num; show x.num.toNat ≤ 1000000000; omega) ?_
      rw [p2, ← List.drop_drop, node_h0 e, List.drop_left]⟩⟩
  have hl3' : b1 < b2 := by have h0 : b1 + 0 < b2 := hl3; exact h0
  have HA3 : Hid (RdA p s b2 w3) := hA3
  have HK3 : Hid (Kp (fun q => q = p) w w3) := HK2.out.trans hk3
  have HD3 : Hid (∀ n r, n ≤ 1000000000 → s.data.toList.drop b1 = varB n ++ r → m = n ∧ b2 = b1 + (varB n).length) := hd3
  have hw2 : w.heap.size < w2.heap.size := (Array.getElem?_eq_some_iff.1 HP2.out).1
  have HP3 : Hid (w3.heap[w.heap.size]? = some (.cells #[.int .i64 0, .int .i64 0, .string ⟨#[]⟩, .slice none 0 0] 93 (0, 0))) := (hk3.block _ hw2 (by omega)).trans HP2.out
  clear hA3 hk3 hd3 hl3 hw2 HP2 HA2 HA1
  go_wp2_with fail
  refine (rdShort_any p s b2 w3 hs hu3 HA3.out).mono ?_
  rintro e w4 ⟨hk4, ⟨rfl, hn4⟩ | ⟨v4, nm, b3, rfl, ⟨rfl, ht⟩, hA4, hl4, hu4, hd4⟩⟩
  · go_simp
    exact ⟨rfl, HK3.out.trans hk4, .inl ⟨rfl, fun x r hx e => by
      obtain ⟨_, p2⟩ := HD2.out _ _ hx.1.op (node_h0 e)
      have e2 : s.data.toList.drop b1 = varB x.num.toNat ++ (shortW x.name ++ (x.kids.map byteW ++ r)) := by rw [p2, ← List.drop_drop, node_h0 e, List.drop_left]
      obtain ⟨_, p4⟩ := HD3.out _ _ (by have := hx.1.num; omega) e2
      refine hn4 x.name (x.kids.map byteW ++ r) (by have := hx.1.name; show x.name.size ≤ 20000; omega) ?_
      rw [p4, ← List.drop_drop, e2, List.drop_left]⟩⟩
  have HH : Hid (∀ (x : NodeD) (r : List UInt8), NodeQ x → s.data.toList.drop a = nodeW x ++ r → _) := fun x r hx e => node_head HD2.out HD3.out hd4 hx e
  have HK4 : Hid (Kp (fun q => q = p) w w4) := HK3.out.trans hk4
  have hw3 : w.heap.size < w3.heap.size := (Array.getElem?_eq_some_iff.1 HP3.out).1
  have hp4 : w4.heap[w.heap.size]? = some (.cells #[.int .i64 0, .int .i64 0, .string ⟨#[]⟩, .slice none 0 0] 93 (0, 0)) := (hk4.block _ hw3 (by omega)).trans HP3.out
  have hw4 : w.heap.size < w4.heap.size := (Array.getElem?_eq_some_iff.1 hp4).1
  have bal4 : Below w4.heap.size w4 (w4.alloc (.cells #[.int .i64 o, .int .i64 (m : Int), .string nm, .slice none 0 0] 93)) := (Below.refl _ _).alloc (Nat.le_refl _) _
  have HX5 : Hid ((w4.alloc (.cells #[.int .i64 o, .int .i64 (m : Int), .string nm, .slice none 0 0] 93)).heap[w4.heap.size]? = some (.cells #[.int .i64 o, .int .i64 (m : Int), .string nm, .slice none 0 0] 93 (0, 0))) := heap_alloc_new w4 _
  have x0 : (w4.alloc (.cells #[.int .i64 o, .int .i64 (m : Int), .string nm, .slice none 0 0] 93)).cell? ⟨w4.heap.size, 0, none⟩ = some (.int .i64 o) := run_cell HX5.out rfl
  have HP5 : Hid ((w4.alloc (.cells #[.int .i64 o, .int .i64 (m : Int), .string nm, .slice none 0 0] 93)).heap[w.heap.size]? = some (.cells #[.int .i64 0, .int .i64 0, .string ⟨#[]⟩, .slice none 0 0] 93 (0, 0))) := (bal4.block _ hw4).trans hp4
  have HA5 : Hid (RdA p s b3 (w4.alloc (.cells #[.int .i64 o, .int .i64 (m : Int), .string nm, .slice none 0 0] 93))) := RdA.below hA4 bal4
  have HK5 : Hid (Kp (fun q => q = p) w (w4.alloc (.cells #[.int .i64 o, .int .i64 (m : Int), .string nm, .slice none 0 0] 93))) := HK4.out.trans (Kp.below bal4)
  have HN4 : Hid (b2 + nm.size < b3) := hl4
  clear hA4 hk4 hd4 hl4 hp4 bal4 HP3 HA3 hw3
  go_wp2_with (go_at_call 116; refine (kidCount_any o _).mono ?_; rintro e wq ⟨rfl, hw⟩; rw [hw]; clear hw)
  generalize w4.alloc (.cells #[.int .i64 o, .int .i64 (m : Int), .string nm, .slice none 0 0] 93) = w5 at *
  have hkc := kidC_le o
  go_loopw [14] (fun iv wr => ∃ (ks : List Int) (kv : Value) (b : Nat), iv = .int .i64 (ks.length : Int) ∧ ks.length ≤ kidC o ∧ wr.heap[w4.heap.size]? = some (.cells #[.int .i64 o, .int .i64 (m : Int), .string nm, kv] 93 (0, 0)) ∧ wr.heap[w.heap.size]? = some (.cells #[.int .i64 0, .int .i64 0, .string ⟨#[]⟩, .slice none 0 0] 93 (0, 0)) ∧ OwnZ w.heap.size kv ks wr ∧ RdA p s b wr ∧ Kp (fun q => q = p) w wr ∧ LoopD (fun n => [byteW n]) (fun n => 0 ≤ n ∧ n ≤ 127) (fun _ => 0) s b3 (kidC o) ks b ∧ ∀ k ∈ ks, 0 ≤ k ∧ k ≤ 255) (fun iv _ => kidC o - (intOf iv).toNat)
  case atStart => exact ⟨[], _, b3, rfl, Nat.zero_le _, HX5.out, HP5.out, ⟨rfl, .inl ⟨rfl, rfl⟩⟩, HA5.out, HK5.out, LoopD.start hu4, fun k hk => by cases hk⟩
  case round =>
    clear HX5 HP5 HA5 HK5 x0
    obtain ⟨ks, kv, b, rfl, hk, hbx, hp0, ho0, hA, hK0, hL, hS⟩ := hrel
    obtain ⟨wk, rfl⟩ : ∃ W, W = wr := ⟨wr, rfl⟩
    obtain ⟨ka, kc, rfl⟩ := shapeR ho0
    have HX : Hid (wk.heap[w4.heap.size]? = some (.cells #[.int .i64 o, .int .i64 (m : Int), .string nm, .slice ka ks.length kc] 93 (0, 0))) := hbx
    have HP : Hid (wk.heap[w.heap.size]? = some (.cells #[.int .i64 0, .int .i64 0, .string ⟨#[]⟩, .slice none 0 0] 93 (0, 0))) := hp0
    have HO : Hid (OwnZ w.heap.size (.slice ka ks.length kc) ks wk) := ho0
    have HA : Hid (RdA p s b wk) := hA
    have HK : Hid (Kp (fun q => q = p) w wk) := hK0
    have HL : Hid (LoopD (fun n => [byteW n]) (fun n => 0 ≤ n ∧ n ≤ 127) (fun _ => 0) s b3 (kidC o) ks b) := hL
    have HS : Hid (∀ k ∈ ks, 0 ≤ k ∧ k ≤ 255) := hS
    have c3 : wk.cell? ⟨w4.heap.size, 3, none⟩ = some (.slice ka ks.length kc) := run_cell hbx rfl
    have hbk : w4.heap.size < wk.heap.size := (Array.getElem?_eq_some_iff.1 hbx).1
    have hbu : b ≤ s.size := hL.up
    have q0 := run_cell (j := 0) hbx rfl
    have q1 := run_cell (j := 1) hbx rfl
    have q2 := run_cell (j := 2) hbx rfl
    clear hbx hp0 ho0 hA hK0 hL hS
    by_cases hlt : ks.length < kidC o
    · have i4 : (ks.length : Int) < (kidC o : Int) := by omega
      clear q0 q1 q2
      go_wp2_with fail
      refine wp_region_K (k := 5) (S := fun V => V.cell? ⟨w4.heap.size, 3, none⟩ = some (.slice ka ks.length kc)) (by kernel_rfl) ?_ (fun hHeld hcl => ?_)
      · exact c3
      refine wpAnyK_free (i := 0) (d := some 16) (v := ?nv0) (by assumption) rfl (by kernel_rfl) (by kernel_rfl) (by kernel_rfl) (by decide) (by rfl) (fun _ _ _ h => h) (Or.inl ⟨by rfl, ?nh0⟩) (.inr (by assumption)) (fun hcl0 => ?nr0)
      case nh0 => (intro w hSw; (try dsimp only at hSw); go_simp; first | done | with_reducible rfl)
      case' nr0 => (clear hcl; simp only [Act.put, List.setIfInBounds_toArray, List.set_cons_zero, List.set_cons_succ])
      refine wpAnyK_take [1] (i := 1) (d := some 17) (v := ?nv1) (by assumption) rfl (by kernel_rfl) (by kernel_rfl) (by kernel_rfl) (by kernel_rfl) (by kernel_rfl) (by decide) (by rfl) (fun _ _ _ h => h) (Or.inl ⟨by rfl, ?nh1⟩) (by assumption) (fun hcl1 => ?nr1)
      case nh1 => (intro w hSw; (try dsimp only at hSw); go_simp; first | done | with_reducible rfl)
      case' nr1 => (clear hcl0; simp only [Act.put, List.setIfInBounds_toArray, List.set_cons_zero, List.set_cons_succ])
      refine wpAnyK_free (i := 2) (d := some 18) (v := ?nv2) (by assumption) rfl (by kernel_rfl) (by kernel_rfl) (by kernel_rfl) (by decide) (by rfl) (fun _ _ _ h => h) (Or.inl ⟨by rfl, ?nh2⟩) (.inr (by assumption)) (fun hcl2 => ?nr2)
      case nh2 => (intro w hSw; (try dsimp only at hSw); go_simp; first | done | with_reducible rfl)
      case' nr2 => (clear hcl1; simp only [Act.put, List.setIfInBounds_toArray, List.set_cons_zero, List.set_cons_succ])
      refine wpAnyK_one (i := 3) (by assumption) (by kernel_rfl) rfl (fun K hK => ?_)
      go_simp
      go_at_call 82
      have hAd : RdA p s b wk.drew := HA.out
      refine (rdSingle_any p s b wk.drew hs hbu hAd).mono ?_
      rintro e w6 ⟨hk6, ⟨rfl, hn6⟩ | ⟨v6, kn, b6, rfl, ⟨rfl, hkn⟩, hA6, hl6, hu6, hd6⟩⟩
      · go_simp
        exact ⟨rfl, (HK.out.trans (Kp.below (Below.refl _ _).drew)).trans hk6, .inl ⟨rfl, fun x r hx e => by
          obtain ⟨_, _, _, g4, g5, _⟩ := HH.out x r hx e
          exact HL.out.no hlt hn6 x.kids r g4 hx.1.kid g5⟩⟩
      have hk6' : Kp (fun q => q = p) wk w6 := (Kp.below ((Below.refl _ _).drew : Below wk.heap.size wk wk.drew)).trans hk6
      have d3 := kp_cellR c3 hk6' (by show ¬ w4.heap.size = p; omega)
      go_simp
      refine hK.out _ _ d3 (fun hcl3 => ?_)
      have bal6 : Below w6.heap.size w6 (w6.alloc (.cells #[.int .i64 kn] 3)) := (Below.refl _ _).alloc (Nat.le_refl _) _
      refine wpAnyK_one (i := 4) (by assumption) (by kernel_rfl) rfl (fun K hK => ?_)
      go_simp
      refine hK.out _ _ (cell_keep d3 bal6) (fun hcl4 => ?_)
      have O6 : OwnZ w.heap.size (.slice ka ks.length kc) ks w6 := own_ag HO.out (F := fun q => w.heap.size ≤ q) (hk6'.ag (fun q hq e => by omega)) (fun q hq => (World.ownsRow.lt HO.out q hq).1)
      have hs6 : wk.heap.size ≤ w6.heap.size := hk6'.size
      have hws : w.heap.size ≤ wk.heap.size := HK.out.size
      refine wpAnyK_past (i := 5) (by assumption) (by kernel_rfl) rfl (by kernel_rfl) (fun K hK => ?_)
      refine step_append_lies _ (by rfl) _ _ _ (by rfl) w.heap.size 3 i0 _ 1 8 Tryz.underlying91 hi hz0 hz1 hz2 rfl (by omega) _ _ _ (by rfl) (World.ownsRow.alloc O6 _) ⟨w6.heap.size, 0, none⟩ 1 1 [.int .i64 kn] (by rfl) (by rfl) (cellsR _ _ _) (by intro u hu; simp only [List.mem_cons, List.not_mem_nil, or_false] at hu; rcases hu with rfl; rfl) (by omega) (by show ks.length + 1 ≤ _; unfold maxLen; omega) (by show (ks.length + 1) * 8 ≤ _; omega) (by simp; omega) (w6.heap.size + 1) (by simp) ?_
      intro gg capg w7 hown7 hgrow hat hlt7
      have hgs : w6.heap.size ≤ w7.heap.size := Nat.le_trans bal6.size hgrow.size
      have hne : ∀ j, j < w.heap.size → some j ≠ (Value.slice ka ks.length kc).ownBlock := fun j hj e => by have := (World.ownsRow.lt O6 _ e.symm).1; omega
      have hgb : ∀ j, j < w6.heap.size → some j ≠ (Value.slice ka ks.length kc).ownBlock → w7.heap[j]? = w6.heap[j]? := fun j hj hn => (hgrow.block j (Nat.lt_of_lt_of_le hj bal6.size) hn).trans (bal6.block j hj)
      have X6 : w6.heap[w4.heap.size]? = some (.cells #[.int .i64 o, .int .i64 (m : Int), .string nm, .slice ka ks.length kc] 93 (0, 0)) := (hk6'.block _ hbk (by omega)).trans HX.out
      have P6 : w6.heap[w.heap.size]? = some (.cells #[.int .i64 0, .int .i64 0, .string ⟨#[]⟩, .slice none 0 0] 93 (0, 0)) := (hk6'.block _ (by omega) (by omega)).trans HP.out
      have X7 : w7.heap[w4.heap.size]? = some (.cells #[.int .i64 o, .int .i64 (m : Int), .string nm, .slice ka ks.length kc] 93 (0, 0)) := (hgb _ (by omega) (fun e => own_offT O6 X6 (by decide) e.symm)).trans X6
      have P7 : w7.heap[w.heap.size]? = some (.cells #[.int .i64 0, .int .i64 0, .string ⟨#[]⟩, .slice none 0 0] 93 (0, 0)) := (hgb _ (by omega) (fun e => own_offT O6 P6 (by decide) e.symm)).trans P6
      have c7 := run_cell (j := 3) X7 rfl
      have f7 := run_frozen (j := 3) X7
      have A7 : RdA p s b6 w7 := (hgb p (by omega) (hne p hpw)).trans hA6
      have K7 : Kp (fun q => q = p) w w7 := ⟨hgrow.os.trans (bal6.os.trans (hk6'.os.trans HK.out.os)), hgrow.tape.trans (bal6.tape.trans (hk6'.tape.trans HK.out.tape)), hgrow.output.trans (bal6.output.trans (hk6'.output.trans HK.out.output)), by omega, fun j hj hF => (hgb j (by omega) (hne j hj)).trans ((hk6'.block j (by omega) hF).trans (HK.out.block j hj hF))⟩
      have HX8 : Hid ((w7.setCell ⟨w4.heap.size, 3, none⟩ (.slice (some ⟨gg, 0, none⟩) (ks.length + 1) capg)).heap[w4.heap.size]? = some (.cells #[.int .i64 o, .int .i64 (m : Int), .string nm, .slice (some ⟨gg, 0, none⟩) (ks.length + 1) capg] 93 (0, 0))) := setCell_self (j := 3) _ X7
      have HP8 : Hid ((w7.setCell ⟨w4.heap.size, 3, none⟩ (.slice (some ⟨gg, 0, none⟩) (ks.length + 1) capg)).heap[w.heap.size]? = some (.cells #[.int .i64 0, .int .i64 0, .string ⟨#[]⟩, .slice none 0 0] 93 (0, 0))) := (setCell_other _ (by omega)).trans P7
      have HA8 : Hid (RdA p s b6 (w7.setCell ⟨w4.heap.size, 3, none⟩ (.slice (some ⟨gg, 0, none⟩) (ks.length + 1) capg))) := (setCell_other _ (by omega)).trans A7
      have HK8 : Hid (Kp (fun q => q = p) w (w7.setCell ⟨w4.heap.size, 3, none⟩ (.slice (some ⟨gg, 0, none⟩) (ks.length + 1) capg))) := ⟨K7.os, K7.tape, K7.output, by have := K7.size; simpa [World.setCell] using this, fun j hj hF => (setCell_other _ (by omega)).trans (K7.block j hj hF)⟩
      have HO8 : Hid (OwnZ w.heap.size (.slice (some ⟨gg, 0, none⟩) (ks.length + 1) capg) (ks ++ [kn]) (w7.setCell ⟨w4.heap.size, 3, none⟩ (.slice (some ⟨gg, 0, none⟩) (ks.length + 1) capg))) := by
        have h1 : OwnZ w.heap.size (.slice (some ⟨gg, 0, none⟩) (ks.length + 1) capg) (ks ++ [kn]) w7 := by
          rw [OwnZ, List.length_append, zv, List.map_append]
          exact hown7
        exact own_frT h1 (fr_set (ts := [93]) (B := 0) _ X7 (by simp) (Nat.zero_le _)) (by decide)
      have HL8 : Hid (LoopD (fun n => [byteW n]) (fun n => 0 ≤ n ∧ n ≤ 127) (fun _ => 0) s b3 (kidC o) (ks ++ [kn]) b6) := HL.out.next hlt hl6 hu6 hd6
      have HS8 : Hid (∀ k ∈ ks ++ [kn], 0 ≤ k ∧ k ≤ 255) := fun k hk => by
        rcases List.mem_append.1 hk with hk | hk
        · exact HS.out k hk
        · rw [List.mem_singleton.1 hk]; exact hkn
      refine hK.out _ _ (fun hcl5 => ?_)
      clear hcl3 hcl4 hgrow hat hown7 hgs hgb hne bal6 hHeld K7 A7 X6 P6 X7 P7 O6 hk6 hk6' hA6 hl6 hd6 d3 c3
      refine wpAnyK_past (i := 6) (by assumption) (by kernel_rfl) rfl (by kernel_rfl) (fun K hK => ?_)
      go_simp
      refine hK.out _ _ (fun hcl6 => ?_)
      refine wpAnyK_past (i := 7) (by assumption) (by kernel_rfl) rfl (by kernel_rfl) (fun K hK => ?_)
      go_simp
      refine hK.out _ _ (fun hcl7 => ?_)
      refine wpAnyK_done (by kernel_rfl) ?_
      clear hcl5 hcl6 hcl7 c7 f7
      go_wp2
      go_roundw
      case rel => exact ⟨ks ++ [kn], _, b6, by rw [List.length_append, List.length_singleton]; go_num, by rw [List.length_append, List.length_singleton]; omega, HX8.out, HP8.out, HO8.out, HA8.out, HK8.out, HL8.out, HS8.out⟩
      case measure => simp [intOf]; omega
    · have hkN : kidC o = ks.length := by omega
      have i4 : ¬ (ks.length : Int) < (kidC o : Int) := by omega
      have y0 := run_cell (j := 0) HP.out rfl
      have y1 := run_cell (j := 1) HP.out rfl
      have y2 := run_cell (j := 2) HP.out rfl
      have y3 := run_cell (j := 3) HP.out rfl
      have f0 := run_frozen (j := 0) HP.out
      have f1 := run_frozen (j := 1) HP.out
      have f2 := run_frozen (j := 2) HP.out
      have f3 := run_frozen (j := 3) HP.out
      obtain ⟨V', hV'⟩ : ∃ V', V' = ((((wk.setCell ⟨w.heap.size, 0, none⟩ (.int .i64 o)).setCell ⟨w.heap.size, 1, none⟩ (.int .i64 (m : Int))).setCell ⟨w.heap.size, 2, none⟩ (.string nm)).setCell ⟨w.heap.size, 3, none⟩ (.slice ka ks.length kc)) := ⟨_, rfl⟩
      have HVe : Hid (V' = _) := hV'
      have hz : V'.heap[w.heap.size]? = some (.cells #[.int .i64 o, .int .i64 (m : Int), .string nm, .slice ka ks.length kc] 93 (0, 0)) := by
        rw [hV', setCell_self _ (setCell_self _ (setCell_self _ (setCell_self _ HP.out)))]
        rfl
      have z0 : V'.cell? ⟨w.heap.size, 0, none⟩ = some (.int .i64 o) := run_cell hz rfl
      have z1 : V'.cell? ⟨w.heap.size, 1, none⟩ = some (.int .i64 (m : Int)) := run_cell hz rfl
      have z2 : V'.cell? ⟨w.heap.size, 2, none⟩ = some (.string nm) := run_cell hz rfl
      have z3 : V'.cell? ⟨w.heap.size, 3, none⟩ = some (.slice ka ks.length kc) := run_cell hz rfl
      have k1 : Kp (fun q => q = w.heap.size) wk V' := by
        have st : ∀ (U : World) (j : Nat) (u : Value), Kp (fun q => q = w.heap.size) U (U.setCell ⟨w.heap.size, j, none⟩ u) := fun U j u => Kp.store rfl
        rw [hV']
        exact (((st _ _ _).trans (st _ _ _)).trans (st _ _ _)).trans (st _ _ _)
      have hks := k1.size
      have hws : w.heap.size ≤ wk.heap.size := HK.out.size
      have HO9 : Hid (OwnZ w.heap.size (.slice ka ks.length kc) ks V') := own_ag HO.out (F := fun q => q ≠ w.heap.size) (k1.ag (fun q hq e => hq e)) (fun q hq e => own_offT HO.out HP.out (by decide) (e ▸ hq))
      have HA9 : Hid (RdA p s b V') := (k1.block p (by omega) (by omega)).trans HA.out
      have HK9 : Hid (Kp (fun q => q = p) w V') := ⟨k1.os.trans HK.out.os, k1.tape.trans HK.out.tape, k1.output.trans HK.out.output, by omega, fun j hj hF => (k1.block j (by omega) (by omega)).trans (HK.out.block j hj hF)⟩
      have hsum : ∀ l : List Int, (l.map fun _ => 0 + 1).sum = l.length := fun l => by
        induction l with
        | nil => rfl
        | cons x l ih => rw [List.map_cons, List.sum_cons, ih, List.length_cons]; omega
      have HT9 : Hid (a + nodeT ⟨o, m, nm, ks⟩ < b) := by
        have g1 := HL.out.low
        have g2 := HN4.out
        have g3 := hsum ks
        rw [Hid]
        unfold nodeT
        show a + (nm.size + ks.length) < b
        omega
      have HD9 : Hid (∀ (x0 : NodeD) (r : List UInt8), NodeQ x0 → s.data.toList.drop a = nodeW x0 ++ r → (⟨o, m, nm, ks⟩ : NodeD) = x0 ∧ b = a + (nodeW x0).length) := fun x0 r hx e => by
        obtain ⟨g1, g2, g3, g4, g5, g6⟩ := HH.out x0 r hx e
        obtain ⟨e1, e2⟩ := HL.out.det x0.kids r g4 hx.1.kid g5
        rw [← hkN, ← g4, List.take_length] at e1 e2
        rw [kids_flat, List.length_map] at e2
        refine ⟨?_, by omega⟩
        cases x0
        simp only at g1 g2 g3 e1
        rw [g1, g2, g3, e1]
      have HBd : Hid (ks.length ≤ 2) := by rw [Hid]; omega
      clear hV' hz k1 hsum hkN
      go_wp2
      rw [← HVe.out]
      refine bodyPost_ret (by simp [results, Tryz.results101, go_sem, z0, z1, z2, z3]; try rfl) rfl ?_
      exact ⟨HK9.out, .inr ⟨_, ⟨o, m, nm, ks⟩, b, rfl, ⟨_, rfl, HO9.out, ho, ⟨Int.natCast_nonneg m, by show (m : Int) ≤ 1000000000; omega⟩, ht, HBd.out, HS.out⟩, HA9.out, HT9.out, hbu, HD9.out⟩⟩

end Go.Proofs.YtokidlklkgghkaaGreatDoor
