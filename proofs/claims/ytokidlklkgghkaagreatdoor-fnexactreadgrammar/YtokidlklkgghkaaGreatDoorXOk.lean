/- ExprOk of the specification. -/
import Derived.Test.YtokidlklkgghkaaGreatDoorE16Q
import Derived.Test.YtokidlklkgghkaaGreatDoorMark
namespace Go.Proofs.YtokidlklkgghkaaGreatDoor
open Go.RowKit

theorem l04Kids_any (op : Int) (w : World) : Calls Tryz.prog 55 #[.int .i64 op] w fun e w' => e = .returned (.int .i64 (kidsN op)) ∧ w' = w := by
  by_cases h1 : op = 1
  · have HK : Hid (kidsN op = 0) := by rw [Hid, kidsN, if_pos (.inl h1)]
    go_enter Tryz.func55, Tryz.ntmps55
    go_wp2
    go_ret
    rw [HK.out]
    exact ⟨rfl, rfl⟩
  by_cases h2 : op = 2
  · have HK : Hid (kidsN op = 0) := by rw [Hid, kidsN, if_pos (.inr (.inl h2))]
    go_enter Tryz.func55, Tryz.ntmps55
    go_wp2
    go_ret
    rw [HK.out]
    exact ⟨rfl, rfl⟩
  by_cases h3 : op = 3
  · have HK : Hid (kidsN op = 0) := by rw [Hid, kidsN, if_pos (.inr (.inr h3))]
    go_enter Tryz.func55, Tryz.ntmps55
    go_wp2
    go_ret
    rw [HK.out]
    exact ⟨rfl, rfl⟩
  have hno : ¬ (op = 1 ∨ op = 2 ∨ op = 3) := by omega
  by_cases h11 : op = 11
  · have HK : Hid (kidsN op = 1) := by rw [Hid, kidsN, if_neg hno, if_pos h11]
    clear hno
    go_enter Tryz.func55, Tryz.ntmps55
    go_wp2
    go_ret
    rw [HK.out]
    exact ⟨rfl, rfl⟩
  · have HK : Hid (kidsN op = 2) := by rw [Hid, kidsN, if_neg hno, if_neg h11]
    clear hno
    go_enter Tryz.func55, Tryz.ntmps55
    go_wp2
    go_ret
    rw [HK.out]
    exact ⟨rfl, rfl⟩

theorem nodeB_op {i : Nat} {x : NodeD} (h : inI x.op 1 11 = false) : nodeB i x = false := by rw [nodeB, h]; rfl
theorem nodeB_len {i : Nat} {x : NodeD} (h : ¬ (x.kids.length : Int) = kidsN x.op) : nodeB i x = false := by rw [nodeB, decide_eq_false h]; simp
theorem nodeB_fields {i : Nat} {x : NodeD} (h : fieldsB x = false) : nodeB i x = false := by rw [nodeB, h]; simp
theorem nodeB_kid {i j : Nat} {x : NodeD} (hj : j < x.kids.length) (h : inI x.kids[j] 0 ((i : Int) - 1) = false) : nodeB i x = false := by
  have : kidsB i x.kids = false := by
    cases hh : kidsB i x.kids with
    | false => rfl
    | true => rw [kidsB, List.all_eq_true] at hh; rw [hh _ (List.getElem_mem hj)] at h; cases h
  rw [nodeB, this, Bool.and_false]
theorem nodeB_yes {i : Nat} {x : NodeD} (h1 : inI x.op 1 11 = true) (h2 : (x.kids.length : Int) = kidsN x.op) (h3 : fieldsB x = true) (h4 : ∀ j (hj : j < x.kids.length), inI x.kids[j] 0 ((i : Int) - 1) = true) : nodeB i x = true := by
  have : kidsB i x.kids = true := by
    rw [kidsB, List.all_eq_true]
    intro k hk
    obtain ⟨j, hj, rfl⟩ := List.getElem_of_mem hk
    exact h4 j hj
  rw [nodeB, h1, decide_eq_true h2, h3, this]
  rfl
theorem beq_empty {s : ByteArray} (h : s = ⟨#[]⟩) : (s.toList == []) = true := by subst h; rw [ByteArray.toList_eq]; rfl
theorem beq_full {s : ByteArray} (h : ¬ s = ⟨#[]⟩) : (s.toList == []) = false := by
  have := beq_no h
  rwa [show (⟨#[]⟩ : ByteArray).toList = [] by rw [ByteArray.toList_eq]] at this
theorem lit_four (w : World) (x y z u : Value) (t : TypeId) : (w.alloc (.cells #[x, y, z, u] t)).cell? ⟨w.heap.size, 0, none⟩ = some x ∧ (w.alloc (.cells #[x, y, z, u] t)).cell? ⟨w.heap.size, 1, none⟩ = some y ∧ (w.alloc (.cells #[x, y, z, u] t)).cell? ⟨w.heap.size, 2, none⟩ = some z ∧ (w.alloc (.cells #[x, y, z, u] t)).cell? ⟨w.heap.size, 3, none⟩ = some u := by
  have hb : (w.alloc (.cells #[x, y, z, u] t)).heap[w.heap.size]? = some (.cells #[x, y, z, u] t) := heap_alloc_new w _
  exact ⟨by rw [cell_of_row _ _ 0 _ _ _ hb]; rfl, by rw [cell_of_row _ _ 1 _ _ _ hb]; rfl, by rw [cell_of_row _ _ 2 _ _ _ hb]; rfl, by rw [cell_of_row _ _ 3 _ _ _ hb]; rfl⟩
theorem lit_one (w : World) (x : Value) (t : TypeId) : (w.alloc (.cells #[x] t)).cell? ⟨w.heap.size, 0, none⟩ = some x := by
  have hb : (w.alloc (.cells #[x] t)).heap[w.heap.size]? = some (.cells #[x] t) := heap_alloc_new w _
  rw [cell_of_row _ _ 0 _ _ _ hb]; rfl

/-- Lists of nodes within the laws' bounds. -/
def NIn (ns : List NodeD) : Prop := ns.length ≤ 1048576 ∧ ∀ x ∈ ns, x.name.size ≤ 1048576 ∧ x.kids.length ≤ 1048576 ∧ i64 x.op ∧ i64 x.num ∧ ∀ k ∈ x.kids, i64 k

set_option maxHeartbeats 3200000 in
set_option maxRecDepth 100000 in
theorem specExprOk_any (v : Value) (ns : List NodeD) (w : World) (hin : NIn ns) (h : NRow w v ns) :
    Calls Tryz.prog 58 #[.agg #[v]] w fun e w' => e = .returned (.bool (exprB ns)) ∧ Below w.heap.size w w' := by
  obtain ⟨hn, hz⟩ := hin
  have HR : Hid (NRow w v ns) := h
  have HZ : Hid (∀ x ∈ ns, x.name.size ≤ 1048576 ∧ x.kids.length ≤ 1048576 ∧ i64 x.op ∧ i64 x.num ∧ ∀ k ∈ x.kids, i64 k) := hz
  obtain ⟨a, cap, rfl⟩ := h.slice
  clear h hz
  have B0 : Hid (Below w.heap.size w (w.alloc (.cells #[.slice a ns.length cap] 66))) := (Below.refl _ _).alloc (Nat.le_refl _) _
  have E0 : Hid ((w.alloc (.cells #[.slice a ns.length cap] 66)).cell? ⟨w.heap.size, 0, none⟩ = some (.slice a ns.length cap)) := lit_one _ _ _
  go_enter Tryz.func58, Tryz.ntmps58
  go_wp2
  generalize w.alloc (.cells #[.slice a ns.length cap] 66) = w0 at *
  go_loopw [3] (fun iv wr => ∃ k : Nat, iv = .int .i64 k ∧ k ≤ ns.length ∧ nodesF 0 (ns.take k) = true ∧ Below w0.heap.size w0 wr) (fun iv _ => ns.length - (intOf iv).toNat)
  case atStart => exact ⟨0, rfl, Nat.zero_le _, rfl, Below.refl _ _⟩
  case round =>
    obtain ⟨k, rfl, hk, hch, hbw⟩ := hrel
    have HCh : Hid (nodesF 0 (ns.take k) = true) := hch
    have HB0 : Hid (Below w0.heap.size w0 wr) := hbw
    have HB : Hid (Below w.heap.size w wr) := B0.out.trans (hbw.mono B0.out.size)
    have hE := cell_keep E0.out hbw
    have HRr : Hid (NRow wr (.slice a ns.length cap) ns) := HR.out.below HB.out
    clear hbw hch
    by_cases hlt : k < ns.length
    · obtain ⟨b, off, kv, rfl, hA⟩ := HRr.out.at hlt
      obtain ⟨n0, n1, n2, n3, hI⟩ := hA
      have hx := HZ.out _ (List.getElem_mem hlt)
      have HNx : Hid (nodesF 0 (ns.take (k + 1)) = (nodesF 0 (ns.take k) && nodeB k ns[k])) := nodesF_next ns k hlt
      have HNo : Hid (nodeB k ns[k] = false → exprB ns = false) := exprB_no hlt
      obtain ⟨X, hX⟩ : ∃ X, ns[k] = X := ⟨_, rfl⟩
      rw [hX] at n0 n1 n2 hI hx HNx HNo
      clear hX
      obtain ⟨hz1, hz2, hz3, hz4, hz5⟩ := hx
      obtain ⟨op, num, name, kids⟩ := X
      obtain ⟨ak, ck, rfl⟩ := hI.slice
      have HI : Hid (IRow wr (.slice ak kids.length ck) kids) := hI
      have HK5 : Hid (∀ k ∈ kids, i64 k) := hz5
      have hz6 : kids.length ≤ 1048576 := hz2
      have hz7 : name.size ≤ 1048576 := hz1
      have i4 : (k : Int) < (ns.length : Int) := by omega
      clear hI hz5 hz1 hz2 hz3 hz4
      have BW : Hid (Below wr.heap.size wr (wr.alloc (.cells #[.int .i64 op, .int .i64 num, .string name, .slice ak kids.length ck] 93))) := (Below.refl _ _).alloc (Nat.le_refl _) _
      have HIb : Hid (IRow (wr.alloc (.cells #[.int .i64 op, .int .i64 num, .string name, .slice ak kids.length ck] 93)) (.slice ak kids.length ck) kids) := HI.out.below BW.out
      have BCb : Hid (Below w.heap.size w (wr.alloc (.cells #[.int .i64 op, .int .i64 num, .string name, .slice ak kids.length ck] 93))) := HB.out.trans (BW.out.mono HB.out.size)
      have BC0b : Hid (Below w0.heap.size w0 (wr.alloc (.cells #[.int .i64 op, .int .i64 num, .string name, .slice ak kids.length ck] 93))) := HB0.out.trans (BW.out.mono HB0.out.size)
      clear BW
      have hL := lit_four wr (.int .i64 op) (.int .i64 num) (.string name) (.slice ak kids.length ck) 93
      go_wp2
      generalize wr.alloc (.cells #[.int .i64 op, .int .i64 num, .string name, .slice ak kids.length ck] 93) = WB at *
      generalize wr.heap.size = H at *
      obtain ⟨g0, g1, g2, g3⟩ := hL
      cases hop : inI op 1 11 with
      | false =>
        have H1 : Hid (∀ W, _) := in_is op 1 11 false hop
        have HF : Hid (exprB ns = false) := HNo.out (nodeB_op hop)
        clear hop
        go_wp2
        go_big_quiet (first
          | (go_at_call 54; refine Calls.quiet_of_same (H1.out _)))
        go_wp2
        go_ret
        rw [HF.out]
        exact ⟨rfl, bel_drewN BCb.out nq⟩
      | true =>
        have H1 : Hid (∀ W, _) := in_is op 1 11 true hop
        have H2 : Hid (∀ W, _) := fun W => l04Kids_any op W
        by_cases hln : (kids.length : Int) = kidsN op
        · have hlb : (!decide ((kids.length : Int) = kidsN op)) = false := by simp [hln]
          have HLn : Hid ((kids.length : Int) = kidsN op) := hln
          have HOp : Hid (inI op 1 11 = true) := hop
          clear hop
          go_wp2
          go_big_quiet (first
            | (go_at_call 54; refine Calls.quiet_of_same (H1.out _))
            | (go_at_call 55; refine Calls.quiet_of_same (H2.out _)))
          have c0 : (WB.drewN nq).cell? ⟨H, 0, none⟩ = some (.int .i64 op) := g0
          have c1 : (WB.drewN nq).cell? ⟨H, 1, none⟩ = some (.int .i64 num) := g1
          have c2 : (WB.drewN nq).cell? ⟨H, 2, none⟩ = some (.string name) := g2
          have c3 : (WB.drewN nq).cell? ⟨H, 3, none⟩ = some (.slice ak kids.length ck) := g3
          have HIc : Hid (IRow (WB.drewN nq) (.slice ak kids.length ck) kids) := HIb.out.below (bel_drewN (Below.refl _ _) nq)
          have BC : Hid (Below w.heap.size w (WB.drewN nq)) := bel_drewN BCb.out nq
          have BC0 : Hid (Below w0.heap.size w0 (WB.drewN nq)) := bel_drewN BC0b.out nq
          clear g0 g1 g2 g3 HIb BCb BC0b hlb hln n0 n1 n2 n3
          generalize WB.drewN nq = WC at *
          clear H1 H2
          by_cases ho1 : op = 1
          · have ho2 : ¬ op = 2 := by omega
            cases hnb : inI num 0 99 with
            | false =>
              have HQ : Hid (∀ W, _) := in_is num 0 99 false hnb
              have HF : Hid (exprB ns = false) := HNo.out (nodeB_fields (by rw [fieldsB, if_pos ho1, hnb]; rfl))
              clear hnb
              go_wp2_with fail
              refine (HQ.out _).mono ?_
              rintro e wq ⟨rfl, hw⟩
              rw [hw]
              clear hw wq
              go_wp2
              go_ret
              rw [HF.out]
              exact ⟨rfl, BC.out⟩
            | true =>
              have HQ : Hid (∀ W, _) := in_is num 0 99 true hnb
              by_cases hnm : name = ⟨#[]⟩
              · have hne := beq_empty hnm
                have HFl : Hid (fieldsB ⟨op, num, name, kids⟩ = true) := by rw [Hid, fieldsB, if_pos ho1, hnb, if_neg ho2, decide_eq_true hnm]; rfl
                clear hnb hnm
                go_wp2_with fail
                refine (HQ.out _).mono ?_
                rintro e wq ⟨rfl, hw⟩
                rw [hw]
                clear hw wq
                go_wp2
                go_loop [5] (fun jv => ∃ j : Nat, jv = .int .i64 j ∧ j ≤ kids.length ∧ ∀ i (hi : i < kids.length), i < j → inI kids[i] 0 ((k : Int) - 1) = true) (fun jv => kids.length - (intOf jv).toNat)
                case atStart => exact ⟨0, rfl, Nat.zero_le _, fun _ _ h => by omega⟩
                case round =>
                  obtain ⟨j, rfl, hj, hall⟩ := hrel
                  have HAll : Hid (∀ i (hi : i < kids.length), i < j → inI kids[i] 0 ((k : Int) - 1) = true) := hall
                  clear hall
                  by_cases hjl : j < kids.length
                  · obtain ⟨bk, offk, rfl, hck⟩ := HIc.out.at hjl
                    have i1 : IntKind.i64.wrap ((k : Int) - 1) = (k : Int) - 1 := by rw [IntKind.wrap_i64]; omega
                    have i5 : (j : Int) < (kids.length : Int) := by omega
                    cases hkb : inI kids[j] 0 ((k : Int) - 1) with
                    | false =>
                      have HKi : Hid (∀ W, _) := in_is kids[j] 0 ((k : Int) - 1) false hkb
                      have HF : Hid (exprB ns = false) := HNo.out (nodeB_kid (x := ⟨op, num, name, kids⟩) hjl hkb)
                      clear hkb
                      go_wp2_with fail
                      refine (HKi.out _).mono ?_
                      rintro e wq ⟨rfl, hw⟩
                      rw [hw]
                      clear hw wq
                      go_wp2
                      go_ret
                      rw [HF.out]
                      exact ⟨rfl, BC.out⟩
                    | true =>
                      have HKi : Hid (∀ W, _) := in_is kids[j] 0 ((k : Int) - 1) true hkb
                      have HKt : Hid (inI kids[j] 0 ((k : Int) - 1) = true) := hkb
                      clear hkb
                      go_wp2_with fail
                      refine (HKi.out _).mono ?_
                      rintro e wq ⟨rfl, hw⟩
                      rw [hw]
                      clear hw wq
                      go_wp2
                      go_round
                      case rel =>
                        refine ⟨j + 1, by go_num, by omega, fun i hi hij => ?_⟩
                        by_cases e : i = j
                        · subst e; exact HKt.out
                        · exact HAll.out i hi (by omega)
                      case measure => simp [intOf]; omega
                  · have HY : Hid (nodesF 0 (ns.take (k + 1)) = true) := by
                      rw [Hid, HNx.out, HCh.out, Bool.true_and]
                      exact nodeB_yes (x := ⟨op, num, name, kids⟩) HOp.out HLn.out HFl.out (fun i hi => HAll.out i hi (by have hi' : i < kids.length := hi; omega))
                    have i5 : ¬ (j : Int) < (kids.length : Int) := by omega
                    go_wp2
                    go_roundw
                    case rel => exact ⟨k + 1, by go_num, by omega, HY.out, BC0.out⟩
                    case measure => simp [intOf]; omega
              · have hne := beq_full hnm
                have HF : Hid (exprB ns = false) := HNo.out (nodeB_fields (by rw [fieldsB, if_pos ho1, hnb, if_neg ho2, decide_eq_false hnm]; rfl))
                clear hnb hnm
                go_wp2_with fail
                refine (HQ.out _).mono ?_
                rintro e wq ⟨rfl, hw⟩
                rw [hw]
                clear hw wq
                go_wp2
                go_ret
                rw [HF.out]
                exact ⟨rfl, BC.out⟩
          · by_cases hnum : num = 0
            · by_cases ho2 : op = 2
              · cases hnb : nameB name with
                | false =>
                  have HQ : Hid (∀ W, _) := specVarName_is name false hnb hz7
                  have HF : Hid (exprB ns = false) := HNo.out (nodeB_fields (by rw [fieldsB, if_neg ho1, if_pos ho2, hnb, Bool.and_false]))
                  clear hnb
                  go_wp2_with fail
                  refine (HQ.out _).mono ?_
                  rintro e wq ⟨rfl, hw⟩
                  rw [hw]
                  clear hw wq
                  go_wp2
                  go_ret
                  rw [HF.out]
                  exact ⟨rfl, BC.out⟩
                | true =>
                  have HQ : Hid (∀ W, _) := specVarName_is name true hnb hz7
                  have HFl : Hid (fieldsB ⟨op, num, name, kids⟩ = true) := by rw [Hid, fieldsB, if_neg ho1, decide_eq_true hnum, if_pos ho2, hnb]; rfl
                  clear hnb
                  go_wp2_with fail
                  refine (HQ.out _).mono ?_
                  rintro e wq ⟨rfl, hw⟩
                  rw [hw]
                  clear hw wq
                  go_wp2
                  go_loop [5] (fun jv => ∃ j : Nat, jv = .int .i64 j ∧ j ≤ kids.length ∧ ∀ i (hi : i < kids.length), i < j → inI kids[i] 0 ((k : Int) - 1) = true) (fun jv => kids.length - (intOf jv).toNat)
                  case atStart => exact ⟨0, rfl, Nat.zero_le _, fun _ _ h => by omega⟩
                  case round =>
                    obtain ⟨j, rfl, hj, hall⟩ := hrel
                    have HAll : Hid (∀ i (hi : i < kids.length), i < j → inI kids[i] 0 ((k : Int) - 1) = true) := hall
                    clear hall
                    by_cases hjl : j < kids.length
                    · obtain ⟨bk, offk, rfl, hck⟩ := HIc.out.at hjl
                      have i1 : IntKind.i64.wrap ((k : Int) - 1) = (k : Int) - 1 := by rw [IntKind.wrap_i64]; omega
                      have i5 : (j : Int) < (kids.length : Int) := by omega
                      cases hkb : inI kids[j] 0 ((k : Int) - 1) with
                      | false =>
                        have HKi : Hid (∀ W, _) := in_is kids[j] 0 ((k : Int) - 1) false hkb
                        have HF : Hid (exprB ns = false) := HNo.out (nodeB_kid (x := ⟨op, num, name, kids⟩) hjl hkb)
                        clear hkb
                        go_wp2_with fail
                        refine (HKi.out _).mono ?_
                        rintro e wq ⟨rfl, hw⟩
                        rw [hw]
                        clear hw wq
                        go_wp2
                        go_ret
                        rw [HF.out]
                        exact ⟨rfl, BC.out⟩
                      | true =>
                        have HKi : Hid (∀ W, _) := in_is kids[j] 0 ((k : Int) - 1) true hkb
                        have HKt : Hid (inI kids[j] 0 ((k : Int) - 1) = true) := hkb
                        clear hkb
                        go_wp2_with fail
                        refine (HKi.out _).mono ?_
                        rintro e wq ⟨rfl, hw⟩
                        rw [hw]
                        clear hw wq
                        go_wp2
                        go_round
                        case rel =>
                          refine ⟨j + 1, by go_num, by omega, fun i hi hij => ?_⟩
                          by_cases e : i = j
                          · subst e; exact HKt.out
                          · exact HAll.out i hi (by omega)
                        case measure => simp [intOf]; omega
                    · have HY : Hid (nodesF 0 (ns.take (k + 1)) = true) := by
                        rw [Hid, HNx.out, HCh.out, Bool.true_and]
                        exact nodeB_yes (x := ⟨op, num, name, kids⟩) HOp.out HLn.out HFl.out (fun i hi => HAll.out i hi (by have hi' : i < kids.length := hi; omega))
                      have i5 : ¬ (j : Int) < (kids.length : Int) := by omega
                      go_wp2
                      go_roundw
                      case rel => exact ⟨k + 1, by go_num, by omega, HY.out, BC0.out⟩
                      case measure => simp [intOf]; omega
              · by_cases hnm : name = ⟨#[]⟩
                · have hne := beq_empty hnm
                  have HFl : Hid (fieldsB ⟨op, num, name, kids⟩ = true) := by rw [Hid, fieldsB, if_neg ho1, decide_eq_true hnum, if_neg ho2, decide_eq_true hnm]; rfl
                  clear hnm
                  go_wp2
                  go_loop [5] (fun jv => ∃ j : Nat, jv = .int .i64 j ∧ j ≤ kids.length ∧ ∀ i (hi : i < kids.length), i < j → inI kids[i] 0 ((k : Int) - 1) = true) (fun jv => kids.length - (intOf jv).toNat)
                  case atStart => exact ⟨0, rfl, Nat.zero_le _, fun _ _ h => by omega⟩
                  case round =>
                    obtain ⟨j, rfl, hj, hall⟩ := hrel
                    have HAll : Hid (∀ i (hi : i < kids.length), i < j → inI kids[i] 0 ((k : Int) - 1) = true) := hall
                    clear hall
                    by_cases hjl : j < kids.length
                    · obtain ⟨bk, offk, rfl, hck⟩ := HIc.out.at hjl
                      have i1 : IntKind.i64.wrap ((k : Int) - 1) = (k : Int) - 1 := by rw [IntKind.wrap_i64]; omega
                      have i5 : (j : Int) < (kids.length : Int) := by omega
                      cases hkb : inI kids[j] 0 ((k : Int) - 1) with
                      | false =>
                        have HKi : Hid (∀ W, _) := in_is kids[j] 0 ((k : Int) - 1) false hkb
                        have HF : Hid (exprB ns = false) := HNo.out (nodeB_kid (x := ⟨op, num, name, kids⟩) hjl hkb)
                        clear hkb
                        go_wp2_with fail
                        refine (HKi.out _).mono ?_
                        rintro e wq ⟨rfl, hw⟩
                        rw [hw]
                        clear hw wq
                        go_wp2
                        go_ret
                        rw [HF.out]
                        exact ⟨rfl, BC.out⟩
                      | true =>
                        have HKi : Hid (∀ W, _) := in_is kids[j] 0 ((k : Int) - 1) true hkb
                        have HKt : Hid (inI kids[j] 0 ((k : Int) - 1) = true) := hkb
                        clear hkb
                        go_wp2_with fail
                        refine (HKi.out _).mono ?_
                        rintro e wq ⟨rfl, hw⟩
                        rw [hw]
                        clear hw wq
                        go_wp2
                        go_round
                        case rel =>
                          refine ⟨j + 1, by go_num, by omega, fun i hi hij => ?_⟩
                          by_cases e : i = j
                          · subst e; exact HKt.out
                          · exact HAll.out i hi (by omega)
                        case measure => simp [intOf]; omega
                    · have HY : Hid (nodesF 0 (ns.take (k + 1)) = true) := by
                        rw [Hid, HNx.out, HCh.out, Bool.true_and]
                        exact nodeB_yes (x := ⟨op, num, name, kids⟩) HOp.out HLn.out HFl.out (fun i hi => HAll.out i hi (by have hi' : i < kids.length := hi; omega))
                      have i5 : ¬ (j : Int) < (kids.length : Int) := by omega
                      go_wp2
                      go_roundw
                      case rel => exact ⟨k + 1, by go_num, by omega, HY.out, BC0.out⟩
                      case measure => simp [intOf]; omega
                · have hne := beq_full hnm
                  have HF : Hid (exprB ns = false) := HNo.out (nodeB_fields (by rw [fieldsB, if_neg ho1, if_neg ho2, decide_eq_false hnm, Bool.and_false]))
                  clear hnm
                  go_wp2
                  go_ret
                  rw [HF.out]
                  exact ⟨rfl, BC.out⟩
            · have HF : Hid (exprB ns = false) := HNo.out (nodeB_fields (by rw [fieldsB, if_neg ho1, decide_eq_false hnum, Bool.false_and]))
              go_wp2
              go_ret
              rw [HF.out]
              exact ⟨rfl, BC.out⟩
        · have hlb : (!decide ((kids.length : Int) = kidsN op)) = true := by simp [hln]
          have HF : Hid (exprB ns = false) := HNo.out (nodeB_len hln)
          clear hop
          go_wp2
          go_big_quiet (first
            | (go_at_call 54; refine Calls.quiet_of_same (H1.out _))
            | (go_at_call 55; refine Calls.quiet_of_same (H2.out _)))
          go_wp2
          go_ret
          rw [HF.out]
          exact ⟨rfl, bel_drewN BCb.out nq⟩
    · obtain rfl : k = ns.length := by omega
      rw [List.take_of_length_le (Nat.le_refl _)] at HCh
      obtain ⟨bb, hbb⟩ : ∃ bb, inI (ns.length : Int) 1 20 = bb := ⟨_, rfl⟩
      have HE : Hid (exprB ns = bb) := by rw [Hid, exprB, HCh.out, Bool.true_and, hbb]
      have HQ : Hid (∀ W, _) := in_is (ns.length : Int) 1 20 bb hbb
      clear hbb
      have i4 : ¬ (ns.length : Int) < (ns.length : Int) := by omega
      go_wp2_with fail
      refine (HQ.out _).mono ?_
      rintro e wq ⟨rfl, hw⟩
      rw [hw]
      clear hw wq
      go_wp2
      go_ret
      rw [HE.out]
      exact ⟨rfl, HB.out⟩
theorem specExprOk_is (v : Value) (ns : List NodeD) (b : Bool) (hb : exprB ns = b) (w : World) (hin : NIn ns) (h : NRow w v ns) :
    Calls Tryz.prog 58 #[.agg #[v]] w fun e w' => e = .returned (.bool b) ∧ Below w.heap.size w w' := by
  rw [← hb]; exact specExprOk_any v ns w hin h

end Go.Proofs.YtokidlklkgghkaaGreatDoor
