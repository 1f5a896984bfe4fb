/- The expression's readers: expr. -/
/- The expression's readers: simpleOne. -/
/- All readers of an expression, tied together by the fuel; whole. -/
/- The specification's reader: whole: an expression of its own. -/
/- Nodes of a grammar with groups, as the reader keeps them; put. -/
import Derived.Test.YtipkbkhnaekceaaS11I
namespace Go.Proofs.Ytipkbkhnaekceaa
open Go.RowKit
set_option linter.unusedVariables false

set_option maxHeartbeats 6400000 in
set_option maxRecDepth 100000 in
theorem expr_C (g : Nat) (ih : ∀ f, f ≤ g → ExC f .cmp 96) : ExC (g + 1) .expr 95 := by
  intro B X p bo lv ov tk r o ns w ha h
  obtain ⟨hlen, hat, hneed, hroom, hlo, hhi, hnum⟩ := ha
  have HD : Hid (∀ _ : Unit, _) := fun _ => down_any (B := B) p lv ov r w h.pB (by omega) (by omega) h.rd
  have H : Hid (ExS B X p bo lv ov tk r o ns w) := h
  have ha1 : Ask tk g .cmp (downR r) ns := ⟨hlen, hat, by simp only [rankM, downR] at hneed ⊢; omega, by simp only [downR]; omega, by simp only [downR]; omega, by simp only [downR]; omega, hnum⟩
  have HA : Hid (Ask tk g .cmp (downR r) ns) := ha1
  have hI1 := exF_I tk g .cmp (downR r) ns 0
  have HAL : Hid (Ask tk g .exprL (exF tk g .cmp (downR r) ns 0).1 (exF tk g .cmp (downR r) ns 0).2.1) := by
    obtain ⟨d, a, a2, b, o, l, z⟩ := hI1
    have h2 := slack_le .cmp (downR r) (exF tk g .cmp (downR r) ns 0).1
    have e1 : (downR r).at_ = r.at_ := rfl
    have e2 : (downR r).deep = r.deep + 1 := rfl
    have e4 : deepM .cmp (downR r).deep = r.deep + 1 := rfl
    rw [e1] at a a2 z
    rw [e4] at d
    simp only [rankM] at hneed
    exact ⟨hlen, by omega, by simp only [rankM]; omega, by omega, by omega, by omega, hnum⟩
  have HE : Hid (exF tk g .exprL (exF tk g .cmp (downR r) ns 0).1 (exF tk g .cmp (downR r) ns 0).2.1 (exF tk g .cmp (downR r) ns 0).2.2 = exF tk (g + 1) .expr r ns 0) := by rw [Hid, exF]
  have HIh : Hid (∀ W, ExS B X p bo lv ov tk (downR r) o ns W → _) := fun W hW => ih g (Nat.le_refl _) B X p bo lv ov tk (downR r) o ns W HA.out hW
  clear h hI1 ha1
  generalize exF tk g .cmp (downR r) ns 0 = q at *
  generalize exF tk (g + 1) .expr r ns 0 = qq at *
  go_enter Try.func95, Try.ntmps95
  go_wp2_with fail
  refine (HD.out ()).mono ?_
  rintro e w0 ⟨rfl, h1, h2⟩
  have S0 : Hid (ExS B X p bo lv ov tk (downR r) o ns w0) := H.out.rdr h1 h2
  have F0 : Hid (FrE B X w w0) := FrR.toE h2
  clear h1 h2 HD
  go_wp2_with fail
  refine (HIh.out _ S0.out).mono ?_
  rintro e w1 ⟨rfl, oo, h1, h2⟩
  have S1 : Hid (ExS B X p bo lv ov tk q.1 oo q.2.1 w1) := h1
  have F1 : Hid (FrE B X w w1) := F0.out.trans h2
  clear h1 h2 HIh
  go_wp2
  go_loopg [5] g (fun gg kv wr => ∃ (k1 : Int) (r1 : RdD) (ns1 : List NodeD) (o1 : Value), kv = .int .i64 k1 ∧ exF tk gg .exprL r1 ns1 k1 = qq ∧ Ask tk gg .exprL r1 ns1 ∧ gg ≤ g ∧ ExS B X p bo lv ov tk r1 o1 ns1 wr ∧ FrE B X w wr)
  case atStart => exact ⟨_, _, _, _, rfl, HE.out, HAL.out, Nat.le_refl _, S1.out, F1.out⟩
  case round =>
    obtain ⟨k1, r1, ns1, o1, rfl, hq, hA, hgg, hS, hF⟩ := hrel
    have hne := hA.need
    have hl1 := hA.lo
    have hh1 := hA.hi
    obtain ⟨f, rfl⟩ : ∃ f, gk = f + 1 := ⟨gk - 1, by simp only [rankM] at hne; omega⟩
    have HQ : Hid (exF tk (f + 1) .exprL r1 ns1 k1 = qq) := hq
    have HA1 : Hid (Ask tk (f + 1) .exprL r1 ns1) := hA
    have hfg : f + 1 ≤ g := hgg
    have SR : Hid (ExS B X p bo lv ov tk r1 o1 ns1 wr) := hS
    have FR : Hid (FrE B X w wr) := hF
    have e3 : wr.cell? ⟨p, 3, none⟩ = some (.bool r1.bad) := run_cell hS.rd rfl
    have HE1 : Hid (∀ _ : Unit, exF tk (f + 1) .exprL r1 ns1 k1 = if isT tk r1 (s1 38) = true then exF tk f .exprL (exF tk f .cmp (onR r1) ns1 0).1 ((exF tk f .cmp (onR r1) ns1 0).2.1 ++ [two 10 k1 (exF tk f .cmp (onR r1) ns1 0).2.2]) (exF tk f .cmp (onR r1) ns1 0).2.1.length
      else (upR r1, ns1, k1)) := fun _ => by rw [exF]
    clear hq hA hgg hS hF hne HE HAL
    cases hb : r1.bad with
    | true =>
      have HV : Hid (qq = (upR r1, ns1, k1)) := by
        rw [Hid, ← HQ.out, HE1.out (), if_neg (by rw [isT_bad hb]; decide)]
      rw [hb] at e3
      clear hb HE1 HQ
      go_wp2_with fail
      refine (up_any (B := B) p lv ov r1 wr SR.out.pB (by omega) (by omega) SR.out.rd).mono ?_
      rintro e w3 ⟨rfl, h1, h2⟩
      have S3 : Hid (ExS B X p bo lv ov tk (upR r1) o1 ns1 w3) := SR.out.rdr h1 h2
      have F3 : Hid (FrE B X w w3) := FR.out.trans (FrR.toE h2)
      clear h1 h2
      go_wp2
      go_ret
      rw [HV.out]
      exact ⟨rfl, o1, S3.out, F3.out⟩
    | false =>
      rw [hb] at e3
      clear hb
      go_wp2_with fail
      refine (sign_any (B := B) p lv ov tk r1 (s1 38) wr SR.out.pB (by omega) SR.out.rd SR.out.tok).mono ?_
      rintro e w2 ⟨rfl, h1, h2⟩
      cases hs : isT tk r1 (s1 38) with
      | true =>
        rw [signR, if_pos hs] at h1
        have S2 : Hid (ExS B X p bo lv ov tk (onR r1) o1 ns1 w2) := SR.out.rdr h1 h2
        have F2 : Hid (FrE B X w w2) := FR.out.trans (FrR.toE h2)
        have HA2 : Hid (Ask tk f .cmp (onR r1) ns1) := HA1.out.sub hs
        have HI2 : Hid (ExI tk .cmp (onR r1) ns1 (exF tk f .cmp (onR r1) ns1 0)) := exF_I tk f .cmp (onR r1) ns1 0
        have HIh : Hid (∀ _ : Unit, _) := fun _ => ih f (by omega) B X p bo lv ov tk (onR r1) o1 ns1 w2 HA2.out S2.out
        have HNx : Hid (∀ x, Ask tk f .exprL (exF tk f .cmp (onR r1) ns1 0).1 ((exF tk f .cmp (onR r1) ns1 0).2.1 ++ [x])) := fun x => HA1.out.loop hs HI2.out rfl
        have HV : Hid (_ = _) := HE1.out ()
        rw [if_pos hs] at HV
        have hql : (exF tk f .cmp (onR r1) ns1 0).2.1.length ≤ 100000 := by
          have := (HNx.out (two 0 0 0)).room
          rw [List.length_append] at this
          omega
        clear h1 h2 hs HA2 HI2
        generalize exF tk f .cmp (onR r1) ns1 0 = q2 at *
        go_wp2_with fail
        refine (HIh.out ()).mono ?_
        rintro e w3 ⟨rfl, o3, h1, h2⟩
        have S3 : Hid (ExS B X p bo lv ov tk q2.1 o3 q2.2.1 w3) := h1
        have F3 : Hid (FrE B X w w3) := F2.out.trans h2
        clear h1 h2
        go_wp2_with fail
        refine (two_any 10 k1 q2.2.2 w3 hql S3.out).mono ?_
        rintro e w4 ⟨rfl, o4, h1, h2⟩
        have S4 : Hid (ExS B X p bo lv ov tk q2.1 o4 (q2.2.1 ++ [two 10 k1 q2.2.2]) w4) := h1
        have F4 : Hid (FrE B X w w4) := F3.out.trans h2
        clear h1 h2
        go_wp2
        go_roundg f
        case measure => omega
        case rel => exact ⟨_, q2.1, _, o4, rfl, by rw [← HQ.out, HV.out], HNx.out _, Nat.le_trans (Nat.le_succ f) hfg, S4.out, F4.out⟩
      | false =>
        rw [signR, if_neg (by rw [hs]; decide)] at h1
        have S2 : Hid (ExS B X p bo lv ov tk r1 o1 ns1 w2) := SR.out.rdr h1 h2
        have F2 : Hid (FrE B X w w2) := FR.out.trans (FrR.toE h2)
        have HV : Hid (qq = (upR r1, ns1, k1)) := by
          rw [Hid, ← HQ.out, HE1.out (), if_neg (by rw [hs]; decide)]
        clear h1 h2 hs HE1 HQ
        go_wp2_with fail
        refine (up_any (B := B) p lv ov r1 w2 S2.out.pB (by omega) (by omega) S2.out.rd).mono ?_
        rintro e w3 ⟨rfl, h1, h2⟩
        have S3 : Hid (ExS B X p bo lv ov tk (upR r1) o1 ns1 w3) := S2.out.rdr h1 h2
        have F3 : Hid (FrE B X w w3) := F2.out.trans (FrR.toE h2)
        clear h1 h2
        go_wp2
        go_ret
        rw [HV.out]
        exact ⟨rfl, o1, S3.out, F3.out⟩

end Go.Proofs.Ytipkbkhnaekceaa

namespace Go.Proofs.Ytipkbkhnaekceaa
open Go.RowKit
set_option linter.unusedVariables false

theorem numI11_snoc : ∀ (l : List UInt8) (n : Int) (u : UInt8), numI n (l ++ [u]) = 10 * numI n l + (u.toNat : Int) - 48
  | [], n, u => rfl
  | x :: l, n, u => by rw [List.cons_append, numI, numI, numI11_snoc l]
theorem numI11_next (l : List UInt8) (k : Nat) (h : k < l.length) : numI 0 (l.take (k + 1)) = 10 * numI 0 (l.take k) + (l[k].toNat : Int) - 48 := by
  rw [List.take_succ_eq_append_getElem h, numI11_snoc]
theorem numI11_bound : ∀ (l : List UInt8) (n : Int) (m : Nat), -(m : Int) ≤ n → n ≤ m → l.length ≤ 2 → (-(100 * (m : Int) + 5000) ≤ numI n l) ∧ numI n l ≤ 100 * (m : Int) + 5000
  | [], n, m, h1, h2, _ => by rw [numI]; omega
  | [a], n, m, h1, h2, _ => by
    have := a.toNat_lt
    simp only [numI]; omega
  | [a, b], n, m, h1, h2, _ => by
    have := a.toNat_lt
    have := b.toNat_lt
    simp only [numI]; omega
  | _ :: _ :: _ :: _, _, _, _, _, h => by simp at h
/-- Nothing below a node. -/
theorem ownZ_nil11 (B : Nat) (w : World) : OwnZ B (.slice none 0 0) [] w := World.ownsRow_nil _ _ _ _
theorem put11_ex {B X p bo : Nat} {lv ov : Value} {tk : List TokD} {r : RdD} {o : Value} {ns : List NodeD} {w : World} (op num : Int) (nm : ByteArray) (hl : ns.length ≤ 100000) (h : ExS B X p bo lv ov tk r o ns w) :
    Calls Try.prog 99 #[.pointer (some ⟨bo, 0, none⟩), .agg #[.int .i64 op, .int .i64 num, .string nm, .slice none 0 0]] w fun e w' => e = .returned (.int .i64 ns.length) ∧ ∃ o', ExS B X p bo lv ov tk r o' (ns ++ [⟨op, num, nm, []⟩]) w' ∧ FrE B X w w' := by
  refine (put11_any (B := X) bo o (.slice none 0 0) ns ⟨op, num, nm, []⟩ w h.bB hl h.bx h.nd (ownZ_nil11 X w)).mono ?_
  rintro e w' ⟨he, o', h1, h2, h3⟩
  exact ⟨he, o', h.grew h1 h2 h3, FrX.toE h.BX h3⟩
theorem kindR_two {tk : List TokD} {r : RdD} {t : ByteArray} (hT : ∀ x ∈ tk, x.kind = 2 → x.text.size ≤ 2) (h : kindR tk r 2 = some t) : t.size ≤ 2 := by
  have h1 := kindR_lt h
  have hb := kindR_nb h
  rw [kindR, if_neg (by rw [hb]; decide), List.getElem?_eq_getElem h1] at h
  simp only at h
  split at h
  · rename_i hk
    cases h; exact hT _ (List.getElem_mem h1) hk
  · cases h

theorem badR_set {B X p bo : Nat} {lv ov : Value} {tk : List TokD} {r : RdD} {o : Value} {ns : List NodeD} {w : World} (h : ExS B X p bo lv ov tk r o ns w) : ExS B X p bo lv ov tk (badR r) o ns (w.setCell ⟨p, 3, none⟩ (.bool true)) ∧ FrE B X w (w.setCell ⟨p, 3, none⟩ (.bool true)) := by
  have R := rdb_set (B := B) (j := 3) (u := .bool true) (r' := badR r) h.rd h.pB rfl
  exact ⟨h.rdr R.1 R.2, FrR.toE R.2⟩

set_option maxHeartbeats 12800000 in
set_option maxRecDepth 100000 in
theorem one_C (g : Nat) (ihS : ExC g .simple 101) (ihE : ExC g .expr 95) : ExC (g + 1) .one 102 := by
  intro B X p bo lv ov tk r o ns w ha h
  have HA : Hid (Ask tk (g + 1) .one r ns) := ha
  have hlen := ha.len
  have hroom := ha.room
  have hnl : ns.length ≤ 100000 := by omega
  have H : Hid (ExS B X p bo lv ov tk r o ns w) := h
  have HE : Hid (∀ _ : Unit, exF tk (g + 1) .one r ns 0 = if isT tk r (s1 33) = true then ((exF tk g .simple (onR r) ns 0).1, (exF tk g .simple (onR r) ns 0).2.1 ++ [⟨11, 0, em, [(exF tk g .simple (onR r) ns 0).2.2]⟩], ((exF tk g .simple (onR r) ns 0).2.1.length : Int))
    else if isT tk r (s1 64) = true then (onR r, ns ++ [⟨3, 0, em, []⟩], (ns.length : Int))
    else if isT tk r (s1 40) = true then (wantR tk (exF tk g .expr (onR r) ns 0).1 (s1 41), (exF tk g .expr (onR r) ns 0).2.1, (exF tk g .expr (onR r) ns 0).2.2)
    else match kindR tk r 2 with
      | some t => (onR r, ns ++ [⟨1, numI 0 t.data.toList, em, []⟩], (ns.length : Int))
      | none => match kindR tk r 1 with
        | some t => (onR r, ns ++ [⟨2, 0, t, []⟩], (ns.length : Int))
        | none => (badR r, ns ++ [⟨2, 0, em, []⟩], (ns.length : Int))) := fun _ => by rw [exF]; rfl
  have HQ : Hid (∀ _ : Unit, exF tk (g + 1) .one r ns 0 = exF tk (g + 1) .one r ns 0) := fun _ => rfl
  clear h ha
  go_enter Try.func102, Try.ntmps102
  go_wp2_with fail
  refine (sign_any (B := B) p lv ov tk r (s1 33) w H.out.pB (by omega) H.out.rd H.out.tok).mono ?_
  rintro e w1 ⟨rfl, h1, h2⟩
  cases hs : isT tk r (s1 33) with
  | true =>
    rw [signR, if_pos hs] at h1
    have S1 : Hid (ExS B X p bo lv ov tk (onR r) o ns w1) := H.out.rdr h1 h2
    have F1 : Hid (FrE B X w w1) := FrR.toE h2
    have HA1 : Hid (Ask tk g .simple (onR r) ns) := HA.out.sub hs
    have HIh : Hid (∀ _ : Unit, _) := fun _ => ihS B X p bo lv ov tk (onR r) o ns w1 HA1.out S1.out
    have HNx : Hid (Ask tk g .one (exF tk g .simple (onR r) ns 0).1 ((exF tk g .simple (onR r) ns 0).2.1 ++ [two 0 0 0])) := HA.out.loop hs (exF_I tk g .simple (onR r) ns 0) rfl
    have HV : Hid (_ = _) := HE.out ()
    rw [if_pos hs] at HV
    have hql : (exF tk g .simple (onR r) ns 0).2.1.length ≤ 100000 := by
      have := HNx.out.room
      rw [List.length_append] at this
      omega
    clear h1 h2 hs HE HQ HNx
    generalize exF tk g .simple (onR r) ns 0 = q at *
    go_wp2_with fail
    refine (HIh.out ()).mono ?_
    rintro e w2 ⟨rfl, o2, h1, h2⟩
    have S2 : Hid (ExS B X p bo lv ov tk q.1 o2 q.2.1 w2) := h1
    have F2 : Hid (FrE B X w w2) := F1.out.trans h2
    clear h1 h2
    have hBw : X ≤ w2.heap.size := Nat.le_trans S2.out.bB (Nat.le_of_lt (Array.getElem?_eq_some_iff.1 S2.out.bx).1)
    have hBX := S2.out.BX
    have HK : Hid (OwnZ X (.slice (some ⟨w2.heap.size, 0, none⟩) 1 1) [q.2.2] (w2.alloc (.cells #[.int .i64 q.2.2] 3))) := World.ownsRow_lit (base := X) (e := 3) (size := 1) w2 #[.int .i64 q.2.2] 1 hBw (by decide) rfl
    have bal : Hid (Below w2.heap.size w2 (w2.alloc (.cells #[.int .i64 q.2.2] 3))) := (Below.refl _ _).alloc (Nat.le_refl _) _
    have S3 : Hid (ExS B X p bo lv ov tk q.1 o2 q.2.1 (w2.alloc (.cells #[.int .i64 q.2.2] 3))) := S2.out.below bal.out
    have F3 : Hid (FrE B X w (w2.alloc (.cells #[.int .i64 q.2.2] 3))) := F2.out.trans (FrE.below bal.out (Nat.le_trans hBX hBw))
    have HP : Hid (∀ _ : Unit, _) := fun _ => put11_any (B := X) bo o2 (.slice (some ⟨w2.heap.size, 0, none⟩) 1 1) q.2.1 ⟨11, 0, em, [q.2.2]⟩ _ S3.out.bB hql S3.out.bx S3.out.nd HK.out
    clear hBw bal
    go_wp2_with fail
    refine (HP.out ()).mono ?_
    rintro e w4 ⟨rfl, o4, h1, h2, h3⟩
    have S4 : Hid (ExS B X p bo lv ov tk q.1 o4 (q.2.1 ++ [⟨11, 0, em, [q.2.2]⟩]) w4) := S3.out.grew h1 h2 h3
    have F4 : Hid (FrE B X w w4) := F3.out.trans (FrX.toE hBX h3)
    clear h1 h2 h3 HP
    go_wp2
    go_ret
    rw [HV.out]
    exact ⟨rfl, o4, S4.out, F4.out⟩
  | false =>
    rw [signR, if_neg (by rw [hs]; decide)] at h1
    have S1 : Hid (ExS B X p bo lv ov tk r o ns w1) := H.out.rdr h1 h2
    have F1 : Hid (FrE B X w w1) := FrR.toE h2
    have HE1 : Hid (∀ _ : Unit, _ = _) := fun _ => (HE.out ()).trans (if_neg (by rw [hs]; decide))
    clear h1 h2 hs HE
    go_wp2_with fail
    refine (sign_any (B := B) p lv ov tk r (s1 64) w1 S1.out.pB (by omega) S1.out.rd S1.out.tok).mono ?_
    rintro e w2 ⟨rfl, h1, h2⟩
    cases hs : isT tk r (s1 64) with
    | true =>
      rw [signR, if_pos hs] at h1
      have S2 : Hid (ExS B X p bo lv ov tk (onR r) o ns w2) := S1.out.rdr h1 h2
      have F2 : Hid (FrE B X w w2) := F1.out.trans (FrR.toE h2)
      have HV : Hid (_ = _) := (HE1.out ()).trans (if_pos hs)
      clear h1 h2 hs HE1
      go_wp2_with fail
      refine (put11_ex 3 0 em hnl S2.out).mono ?_
      rintro e w3 ⟨rfl, o3, h1, h2⟩
      have S3 : Hid (ExS B X p bo lv ov tk (onR r) o3 (ns ++ [⟨3, 0, em, []⟩]) w3) := h1
      have F3 : Hid (FrE B X w w3) := F2.out.trans h2
      clear h1 h2
      go_wp2
      go_ret
      rw [HV.out]
      exact ⟨rfl, o3, S3.out, F3.out⟩
    | false =>
      rw [signR, if_neg (by rw [hs]; decide)] at h1
      have S2 : Hid (ExS B X p bo lv ov tk r o ns w2) := S1.out.rdr h1 h2
      have F2 : Hid (FrE B X w w2) := F1.out.trans (FrR.toE h2)
      have HE2 : Hid (∀ _ : Unit, _ = _) := fun _ => (HE1.out ()).trans (if_neg (by rw [hs]; decide))
      clear h1 h2 hs HE1
      go_wp2_with fail
      refine (sign_any (B := B) p lv ov tk r (s1 40) w2 S2.out.pB (by omega) S2.out.rd S2.out.tok).mono ?_
      rintro e w3 ⟨rfl, h1, h2⟩
      cases hs : isT tk r (s1 40) with
      | true =>
        rw [signR, if_pos hs] at h1
        have S3 : Hid (ExS B X p bo lv ov tk (onR r) o ns w3) := S2.out.rdr h1 h2
        have F3 : Hid (FrE B X w w3) := F2.out.trans (FrR.toE h2)
        have HA1 : Hid (Ask tk g .expr (onR r) ns) := HA.out.sub hs
        have HIh : Hid (∀ _ : Unit, _) := fun _ => ihE B X p bo lv ov tk (onR r) o ns w3 HA1.out S3.out
        have HV : Hid (_ = _) := (HE2.out ()).trans (if_pos hs)
        clear h1 h2 hs HE2
        generalize exF tk g .expr (onR r) ns 0 = q at *
        go_wp2_with fail
        refine (HIh.out ()).mono ?_
        rintro e w4 ⟨rfl, o4, h1, h2⟩
        have S4 : Hid (ExS B X p bo lv ov tk q.1 o4 q.2.1 w4) := h1
        have F4 : Hid (FrE B X w w4) := F3.out.trans h2
        clear h1 h2
        go_wp2_with fail
        refine (want_any (B := B) p lv ov tk q.1 (s1 41) w4 S4.out.pB (by omega) S4.out.rd S4.out.tok).mono ?_
        rintro e w5 ⟨rfl, h1, h2⟩
        have S5 : Hid (ExS B X p bo lv ov tk (wantR tk q.1 (s1 41)) o4 q.2.1 w5) := S4.out.rdr h1 h2
        have F5 : Hid (FrE B X w w5) := F4.out.trans (FrR.toE h2)
        clear h1 h2
        go_wp2
        go_ret
        rw [HV.out]
        exact ⟨rfl, o4, S5.out, F5.out⟩
      | false =>
        rw [signR, if_neg (by rw [hs]; decide)] at h1
        have S3 : Hid (ExS B X p bo lv ov tk r o ns w3) := S2.out.rdr h1 h2
        have F3 : Hid (FrE B X w w3) := F2.out.trans (FrR.toE h2)
        have HE3 : Hid (∀ _ : Unit, _ = _) := fun _ => (HE2.out ()).trans (if_neg (by rw [hs]; decide))
        clear h1 h2 hs HE2
        go_wp2_with fail
        refine (kind11_any (B := B) p lv ov tk r 2 w3 S3.out.pB (by omega) S3.out.rd S3.out.tok S3.out.low).mono ?_
        rintro e w4 ⟨rfl, h1, h2⟩
        cases hk : kindR tk r 2 with
        | some t =>
          rw [kindT, hk] at h1
          have S4 : Hid (ExS B X p bo lv ov tk (onR r) o ns w4) := S3.out.rdr h1 h2
          have F4 : Hid (FrE B X w w4) := F3.out.trans (FrR.toE h2)
          have HV : Hid (_ = _) := HE3.out ()
          rw [hk] at HV
          have hts : t.size ≤ 2 := kindR_two HA.out.num hk
          have HNb : Hid (∀ k, k ≤ 2 → -5000 ≤ numI 0 (t.data.toList.take k) ∧ numI 0 (t.data.toList.take k) ≤ 5000) := fun k hk => by
            have := numI11_bound (t.data.toList.take k) 0 0 (by omega) (by omega) (by rw [List.length_take]; omega)
            omega
          clear h1 h2 hk HE3
          go_wp2
          go_loopw [9, 10] (fun nv iv wr => ∃ k : Nat, iv = .int .i64 k ∧ k ≤ t.size ∧ nv = .int .i64 (numI 0 (t.data.toList.take k)) ∧ wr = w4) (fun _ iv _ => t.size - (intOf iv).toNat)
          case atStart => exact ⟨0, rfl, Nat.zero_le _, rfl, rfl⟩
          case round =>
            obtain ⟨k, rfl, hk, rfl, hwr⟩ := hrel
            rw [hwr]
            clear hwr
            by_cases hlt : k < t.size
            · have hu := t[k].toNat_lt
              have HNx : Hid (_ = _) := numI11_next t.data.toList k (by simpa using hlt)
              have hb := HNb.out k (by omega)
              have e0 : (t.data.toList[k]'(by simpa using hlt)) = t[k] := rfl
              rw [e0] at HNx
              have i4 : (k : Int) < (t.size : Int) := by omega
              clear e0
              generalize numI 0 (t.data.toList.take k) = n at *
              have y1 : IntKind.i64.wrap (10 * n) = 10 * n := by rw [IntKind.wrap_i64]; omega
              have y2 : IntKind.i64.wrap (10 * n + (t[k].toNat : Int)) = 10 * n + (t[k].toNat : Int) := by rw [IntKind.wrap_i64]; omega
              have y3 : IntKind.i64.wrap (10 * n + (t[k].toNat : Int) - 48) = 10 * n + (t[k].toNat : Int) - 48 := by rw [IntKind.wrap_i64]; omega
              go_wp2
              go_roundw
              case rel => exact ⟨k + 1, by go_num, by omega, by rw [HNx.out], by first | trivial | rfl⟩
              case measure => simp [intOf]; omega
            · obtain rfl : k = t.size := by omega
              have i4 : ¬ (t.size : Int) < (t.size : Int) := by omega
              have HAll : Hid (t.data.toList.take t.size = t.data.toList) := List.take_of_length_le (by simp)
              rw [HAll.out]
              generalize numI 0 t.data.toList = n at *
              go_wp2_with fail
              refine (put11_ex 1 n em hnl S4.out).mono ?_
              rintro e w5 ⟨rfl, o5, h1, h2⟩
              have S5 : Hid (ExS B X p bo lv ov tk (onR r) o5 (ns ++ [⟨1, n, em, []⟩]) w5) := h1
              have F5 : Hid (FrE B X w w5) := F4.out.trans h2
              clear h1 h2
              go_wp2
              go_ret
              rw [HV.out]
              exact ⟨rfl, o5, S5.out, F5.out⟩
        | none =>
          rw [kindT, hk] at h1
          have S4 : Hid (ExS B X p bo lv ov tk r o ns w4) := S3.out.rdr h1 h2
          have F4 : Hid (FrE B X w w4) := F3.out.trans (FrR.toE h2)
          have HE4 : Hid (_ = _) := HE3.out ()
          rw [hk] at HE4
          clear h1 h2 hk HE3
          go_wp2_with fail
          refine (kind11_any (B := B) p lv ov tk r 1 w4 S4.out.pB (by omega) S4.out.rd S4.out.tok S4.out.low).mono ?_
          rintro e w5 ⟨rfl, h1, h2⟩
          cases hk : kindR tk r 1 with
          | some t =>
            rw [kindT, hk] at h1
            have S5 : Hid (ExS B X p bo lv ov tk (onR r) o ns w5) := S4.out.rdr h1 h2
            have F5 : Hid (FrE B X w w5) := F4.out.trans (FrR.toE h2)
            rw [hk] at HE4
            clear h1 h2 hk
            go_wp2_with fail
            refine (put11_ex 2 0 t hnl S5.out).mono ?_
            rintro e w6 ⟨rfl, o6, h1, h2⟩
            have S6 : Hid (ExS B X p bo lv ov tk (onR r) o6 (ns ++ [⟨2, 0, t, []⟩]) w6) := h1
            have F6 : Hid (FrE B X w w6) := F5.out.trans h2
            clear h1 h2
            go_wp2
            go_ret
            rw [HE4.out]
            exact ⟨rfl, o6, S6.out, F6.out⟩
          | none =>
            rw [kindT, hk] at h1
            have S5 : Hid (ExS B X p bo lv ov tk r o ns w5) := S4.out.rdr h1 h2
            have F5 : Hid (FrE B X w w5) := F4.out.trans (FrR.toE h2)
            rw [hk] at HE4
            have e3 : w5.cell? ⟨p, 3, none⟩ = some (.bool r.bad) := run_cell S5.out.rd rfl
            have z3 : w5.frozen? ⟨p, 3, none⟩ = false := run_frozen S5.out.rd
            have S6 : Hid (ExS B X p bo lv ov tk (badR r) o ns (w5.setCell ⟨p, 3, none⟩ (.bool true))) := (badR_set S5.out).1
            have F6 : Hid (FrE B X w (w5.setCell ⟨p, 3, none⟩ (.bool true))) := F5.out.trans (badR_set S5.out).2
            clear h1 h2 hk
            go_wp2_with fail
            refine (put11_ex 2 0 em hnl S6.out).mono ?_
            rintro e w7 ⟨rfl, o7, h1, h2⟩
            have S7 : Hid (ExS B X p bo lv ov tk (badR r) o7 (ns ++ [⟨2, 0, em, []⟩]) w7) := h1
            have F7 : Hid (FrE B X w w7) := F6.out.trans h2
            clear h1 h2
            go_wp2
            go_ret
            rw [HE4.out]
            exact ⟨rfl, o7, S7.out, F7.out⟩

end Go.Proofs.Ytipkbkhnaekceaa

namespace Go.Proofs.Ytipkbkhnaekceaa
open Go.RowKit
set_option linter.unusedVariables false

/-- All six at every fuel up to g. -/
structure AllC (g : Nat) : Prop where
  one : ExC g .one 102
  simple : ExC g .simple 101
  product : ExC g .product 100
  sum : ExC g .sum 98
  cmp : ExC g .cmp 96
  expr : ExC g .expr 95
theorem exC_zero (m : Md) (fn : FuncId) (h : 1 ≤ rankM m) : ExC 0 m fn := by
  intro B X p bo lv ov tk r o ns w ha _
  have := ha.need
  omega
theorem allC : ∀ g, AllC g := by
  intro g
  induction g using Nat.strongRecOn with
  | ind g ih =>
    match g, ih with
    | 0, _ => exact ⟨exC_zero _ _ (by decide), exC_zero _ _ (by decide), exC_zero _ _ (by decide), exC_zero _ _ (by decide), exC_zero _ _ (by decide), exC_zero _ _ (by decide)⟩
    | g + 1, ih =>
      have h := ih g (Nat.lt_succ_self g)
      exact ⟨one_C g h.simple h.expr, simple_C g h.one, product_C g (fun f hf => (ih f (by omega)).simple), sum_C g (fun f hf => (ih f (by omega)).product), cmp_C g h.sum, expr_C g (fun f hf => (ih f (by omega)).cmp)⟩

end Go.Proofs.Ytipkbkhnaekceaa

namespace Go.Proofs.Ytipkbkhnaekceaa
open Go.RowKit
set_option linter.unusedVariables false

/-- The reader behind its pointer, its tokens below it. -/
structure RdS (B p : Nat) (lv ov : Value) (tk : List TokD) (r : RdD) (w : World) : Prop where
  rd : RdB p lv ov r w
  tok : RowC 2 TokV w lv tk
  pB : B ≤ p
  low : ∀ b o n c, lv = .slice (some ⟨b, o, none⟩) n c → b < B
theorem RdS.lt {B p : Nat} {lv ov : Value} {tk : List TokD} {r : RdD} {w : World} (h : RdS B p lv ov tk r w) : B ≤ w.heap.size := Nat.le_trans h.pB (Nat.le_of_lt (rdb_lt h.rd))
theorem RdS.next {ts : List TypeId} {B p : Nat} {lv ov ov' : Value} {tk : List TokD} {r r' : RdD} {w w' : World} (h : RdS B p lv ov tk r w) (hr : RdB p lv ov' r' w') (hf : FrT ts B w w') : RdS B p lv ov' tk r' w' :=
  ⟨hr, tok_fr h.tok h.low hf.bel, h.pB, h.low⟩
theorem RdS.go {B p : Nat} {lv ov ov' : Value} {tk : List TokD} {r r' : RdD} {w w' : World} (h : RdS B p lv ov tk r w) (hr : RdB p lv ov' r' w') (hb : Below B w w') : RdS B p lv ov' tk r' w' :=
  ⟨hr, tok_fr h.tok h.low hb, h.pB, h.low⟩
theorem RdS.below {B p : Nat} {lv ov : Value} {tk : List TokD} {r : RdD} {w w' : World} (h : RdS B p lv ov tk r w) (hb : Below w.heap.size w w') : RdS B p lv ov tk r w' :=
  h.next ((hb.block p (rdb_lt h.rd)).trans h.rd) (FrT.below (ts := []) hb h.lt)
/-- What tokens are asked to be. -/
structure Tk200 (tk : List TokD) : Prop where
  len : tk.length ≤ 200
  num : ∀ x ∈ tk, x.kind = 2 → x.text.size ≤ 2

set_option maxHeartbeats 3200000 in
set_option maxRecDepth 100000 in
theorem whole_any {B p : Nat} {lv ov : Value} {tk : List TokD} {r : RdD} (w : World) (hT : Tk200 tk) (hat : r.at_ ≤ tk.length) (hd0 : -900000 ≤ r.deep) (hd1 : r.deep ≤ 900000) (h : RdS B p lv ov tk r w) :
    Calls Try.prog 92 #[.pointer (some ⟨p, 0, none⟩)] w fun e w' => ∃ nv, e = .returned (.agg #[nv]) ∧ RdB p lv ov (wholeR tk r).1 w' ∧ NodesO w.heap.size nv (wholeR tk r).2 w' ∧ FrR B w w' := by
  have hBw := h.lt
  have hpw := rdb_lt h.rd
  have hl := hT.len
  have HA : Hid (Ask tk 4000 .expr r []) := ⟨by omega, hat, by simp only [rankM]; omega, by simp only [List.length_nil]; omega, by omega, by omega, hT.num⟩
  have HW : Hid (∀ _ : Unit, wholeR tk r = ((exF tk 4000 .expr r [] 0).1, (exF tk 4000 .expr r [] 0).2.1)) := fun _ => rfl
  have bal : Hid (Below w.heap.size w (((w.alloc (.cells #[.slice none 0 0] 55)).alloc (.cells #[] 72)).alloc (.cells #[.slice (some ⟨w.heap.size + 1, 0, none⟩) 0 0] 53))) := (((Below.refl _ _).alloc (Nat.le_refl _) _).alloc (by simp) _).alloc (by simp; omega) _
  have hR0 : RdS B p lv ov tk r (((w.alloc (.cells #[.slice none 0 0] 55)).alloc (.cells #[] 72)).alloc (.cells #[.slice (some ⟨w.heap.size + 1, 0, none⟩) 0 0] 53)) := h.below bal.out
  have hs1 : (w.alloc (.cells #[.slice none 0 0] 55)).heap.size = w.heap.size + 1 := by simp
  have hs2 : ((w.alloc (.cells #[.slice none 0 0] 55)).alloc (.cells #[] 72)).heap.size = w.heap.size + 2 := by simp
  have HRes : Hid ((((w.alloc (.cells #[.slice none 0 0] 55)).alloc (.cells #[] 72)).alloc (.cells #[.slice (some ⟨w.heap.size + 1, 0, none⟩) 0 0] 53)).heap[w.heap.size]? = some (.cells #[.slice none 0 0] 55 (0, 0))) := by
    rw [Hid, Below.heap_alloc _ _ _ (by simp; omega), Below.heap_alloc _ _ _ (by simp)]
    exact heap_alloc_new w _
  have HBx : Hid (Box11 (w.heap.size + 2) (.slice (some ⟨w.heap.size + 1, 0, none⟩) 0 0) (((w.alloc (.cells #[.slice none 0 0] 55)).alloc (.cells #[] 72)).alloc (.cells #[.slice (some ⟨w.heap.size + 1, 0, none⟩) 0 0] 53))) := by
    rw [Hid, Box11, ← hs2]
    exact heap_alloc_new _ _
  have hN0 : NodesO w.heap.size (.slice (some ⟨w.heap.size + 1, 0, none⟩) 0 0) [] ((w.alloc (.cells #[.slice none 0 0] 55)).alloc (.cells #[] 72)) := by
    have := RowO.made (sz := 4) (T := 72) (E := NodV w.heap.size) (B := w.heap.size) (w := w.alloc (.cells #[.slice none 0 0] 55)) (by simp)
    rw [hs1] at this
    exact this
  have HS : Hid (ExS B w.heap.size p (w.heap.size + 2) lv ov tk r (.slice (some ⟨w.heap.size + 1, 0, none⟩) 0 0) [] (((w.alloc (.cells #[.slice none 0 0] 55)).alloc (.cells #[] 72)).alloc (.cells #[.slice (some ⟨w.heap.size + 1, 0, none⟩) 0 0] 53))) :=
    ⟨hR0.rd, HBx.out, NodesO.below hN0 ((Below.refl _ _).alloc (Nat.le_refl _) _), hR0.tok, h.pB, by omega, hBw, h.low⟩
  have HC : Hid (∀ _ : Unit, _) := fun _ => (allC 4000).expr B w.heap.size p (w.heap.size + 2) lv ov tk r _ [] _ HA.out HS.out
  clear h hR0 hN0 hs1 hs2 HS
  generalize exF tk 4000 .expr r [] 0 = q at *
  go_enter Try.func92, Try.ntmps92
  go_wp2_with fail
  generalize ((w.alloc (.cells #[.slice none 0 0] 55)).alloc (.cells #[] 72)).alloc (.cells #[.slice (some ⟨w.heap.size + 1, 0, none⟩) 0 0] 53) = W3 at *
  refine (HC.out ()).mono ?_
  rintro e w4 ⟨rfl, o4, h1, h2⟩
  obtain ⟨ao, co, rfl⟩ := RowO.slice h1.nd
  have hr4 : w4.heap[w.heap.size]? = some (.cells #[.slice none 0 0] 55 (0, 0)) := h2.fr.typ _ _ _ _ HRes.out (by decide)
  have c4 : w4.cell? ⟨w.heap.size + 2, 0, none⟩ = some (.slice ao q.2.1.length co) := run_cell h1.bx rfl
  have d4 : w4.cell? ⟨w.heap.size, 0, none⟩ = some (.slice none 0 0) := run_cell hr4 rfl
  have z4 : w4.frozen? ⟨w.heap.size, 0, none⟩ = false := run_frozen hr4
  have f1 : (w4.setCell ⟨w.heap.size, 0, none⟩ (.slice ao q.2.1.length co)).cell? ⟨w.heap.size, 0, none⟩ = some (.slice ao q.2.1.length co) := run_cell (setCell_self _ hr4) rfl
  have HN : Hid (NodesO w.heap.size (.slice ao q.2.1.length co) q.2.1 (w4.setCell ⟨w.heap.size, 0, none⟩ (.slice ao q.2.1.length co))) := nodesO_fr h1.nd (fr_set (ts := [55]) _ hr4 (by simp) (Nat.le_refl _)) (by decide) (by decide)
  have HRd : Hid (RdB p lv ov q.1 (w4.setCell ⟨w.heap.size, 0, none⟩ (.slice ao q.2.1.length co))) := by
    rw [Hid, RdB, setCell_other _ (by omega)]
    exact h1.rd
  have HF : Hid (FrR B w (w4.setCell ⟨w.heap.size, 0, none⟩ (.slice ao q.2.1.length co))) := by
    refine ⟨((bal.out.mono hBw).trans h2.fr.bel).setCell hBw _, fun k c t fr hk ht => ?_⟩
    have hlt := (Array.getElem?_eq_some_iff.1 hk).1
    rw [setCell_other _ (by omega)]
    exact h2.old k c t fr hlt ((bal.out.block k hlt).trans hk) (by simpa using ht)
  clear h1 h2 hr4 HC
  go_wp2
  refine bodyPost_ret (by simp [results, Try.results92, go_sem, f1]; try rfl) rfl ?_
  rw [HW.out ()]
  exact ⟨_, rfl, HRd.out, HN.out, HF.out⟩

end Go.Proofs.Ytipkbkhnaekceaa

namespace Go.Proofs.Ytipkbkhnaekceaa
open Go.RowKit
set_option linter.unusedVariables false

def ExV (B : Nat) (w : World) (vs : List Value) (e : List NodeD) : Prop := ∃ nv : Value, vs = [nv] ∧ NodesO B nv e w
def ArgsO (B : Nat) (v : Value) (es : List (List NodeD)) (w : World) : Prop := RowO 1 55 (ExV B) B v es w
/-- The same, where no row of kids lies in one of the blocks A. -/
def NodVA (A : Nat → Prop) (B : Nat) (w : World) (vs : List Value) (x : NodeD) : Prop := ∃ kv : Value, vs = [.int .i64 x.op, .int .i64 x.num, .string x.name, kv] ∧ OwnZ B kv x.kids w ∧ ∀ k, kv.ownBlock = some k → ¬ A k
def NodesA (A : Nat → Prop) (B : Nat) (v : Value) (ns : List NodeD) (w : World) : Prop := RowO 4 72 (NodVA A B) B v ns w
def ExVA (A : Nat → Prop) (B : Nat) (w : World) (vs : List Value) (e : List NodeD) : Prop := ∃ nv : Value, vs = [nv] ∧ NodesA A B nv e w
def ArgsA (A : Nat → Prop) (B : Nat) (v : Value) (es : List (List NodeD)) (w : World) : Prop := RowO 1 55 (ExVA A B) B v es w
/-- A node; the rows of its kids, and of its expressions' kids, lie in none of the blocks A. -/
def SnV (A : Nat → Prop) (B : Nat) (w : World) (vs : List Value) (x : SNodeD) : Prop := ∃ av kv : Value, vs = [.int .i64 x.kind, .string x.text, av, .string x.bind, kv] ∧ ArgsA A B av x.args w ∧ OwnZ B kv x.kids w ∧ ∀ k, kv.ownBlock = some k → ¬ A k
def SNodesO (A : Nat → Prop) (B : Nat) (v : Value) (xs : List SNodeD) (w : World) : Prop := RowO 5 121 (SnV A B) B v xs w
abbrev FrS (B : Nat) (w w' : World) : Prop := FrT [101, 121] B w w'
section
variable {ts : List TypeId} {A A' : Nat → Prop} {B B' : Nat} {v : Value} {w w' : World}
theorem exV_fr {vs : List Value} {e : List NodeD} (h : ExV B w vs e) (hf : FrT ts B' w w') (h1 : 3 ∉ ts) (h2 : 72 ∉ ts) : ExV B w' vs e := by
  obtain ⟨nv, e1, h⟩ := h
  exact ⟨nv, e1, nodesO_fr h hf h1 h2⟩
theorem args_fr {es : List (List NodeD)} (h : ArgsO B v es w) (hf : FrT ts B' w w') (h1 : 3 ∉ ts) (h2 : 72 ∉ ts) (h3 : 55 ∉ ts) : ArgsO B v es w' :=
  RowO.world h (fun _ _ h4 => own_frT h4 hf h3) (fun _ _ hx => exV_fr hx hf h1 h2)
theorem nodesO_base {ns : List NodeD} (h : NodesO B v ns w) (hB : B' ≤ B) : NodesO B' v ns w := by
  have := RowO.base h hB
  exact RowO.world (E := NodV B') (by
    obtain ⟨vss, a, b, c, d⟩ := this
    exact ⟨vss, a, b, c, fun i hi hi' => by
      obtain ⟨kv, e, hk⟩ := d i hi hi'
      exact ⟨kv, e, OwnZ.base hk hB⟩⟩) (fun _ _ h => h) (fun _ _ h => h)
theorem nodVA_fr {vs : List Value} {x : NodeD} (h : NodVA A B w vs x) (hf : FrT ts B' w w') (h1 : 3 ∉ ts) : NodVA A B w' vs x := by
  obtain ⟨kv, e, hk, hA⟩ := h
  exact ⟨kv, e, ownZ_fr hk hf h1, hA⟩
theorem nodesA_fr {ns : List NodeD} (h : NodesA A B v ns w) (hf : FrT ts B' w w') (h1 : 3 ∉ ts) (h2 : 72 ∉ ts) : NodesA A B v ns w' :=
  RowO.world h (fun _ _ h4 => own_frT h4 hf h2) (fun _ _ hx => nodVA_fr hx hf h1)
theorem exVA_fr {vs : List Value} {e : List NodeD} (h : ExVA A B w vs e) (hf : FrT ts B' w w') (h1 : 3 ∉ ts) (h2 : 72 ∉ ts) : ExVA A B w' vs e := by
  obtain ⟨nv, e1, h⟩ := h
  exact ⟨nv, e1, nodesA_fr h hf h1 h2⟩
theorem argsA_fr {es : List (List NodeD)} (h : ArgsA A B v es w) (hf : FrT ts B' w w') (h1 : 3 ∉ ts) (h2 : 72 ∉ ts) (h3 : 55 ∉ ts) : ArgsA A B v es w' :=
  RowO.world h (fun _ _ h4 => own_frT h4 hf h3) (fun _ _ hx => exVA_fr hx hf h1 h2)
theorem argsA_below {es : List (List NodeD)} (h : ArgsA A B v es w) (hb : Below w.heap.size w w') : ArgsA A B v es w' :=
  argsA_fr (ts := []) h (FrT.below (B := 0) hb (Nat.zero_le _)) (by simp) (by simp) (by simp)
/-- What lies from B on lies in none of the blocks below it. -/
theorem argsA_of {es : List (List NodeD)} (h : ArgsO B v es w) (hB : B' ≤ B) (hA : ∀ b, A b → b < B) : ArgsA A B' v es w := by
  obtain ⟨vss, a, b, c, d⟩ := RowO.base h hB
  refine ⟨vss, a, b, c, fun i hi hi' => ?_⟩
  obtain ⟨nv, e, hk⟩ := d i hi hi'
  refine ⟨nv, e, ?_⟩
  obtain ⟨vss2, a2, b2, c2, d2⟩ := hk
  obtain ⟨_, _, _, c3, _⟩ := RowO.base (sz := 4) (T := 72) (E := NodV B) ⟨vss2, a2, b2, c2, d2⟩ hB
  refine ⟨vss2, a2, b2, ⟨c2.1, ?_⟩, fun k hk hk' => ?_⟩
  · rcases c2.2 with hn | ⟨g, cap, cur, e2, hg, r⟩
    · exact .inl hn
    · exact .inr ⟨g, cap, cur, e2, Nat.le_trans hB hg, r⟩
  · obtain ⟨kv, e2, hz⟩ := d2 k hk hk'
    exact ⟨kv, e2, OwnZ.base hz hB, fun q hq hAq => by
      have h1 := (World.ownsRow.lt hz q hq).1
      have h2 := hA q hAq
      omega⟩
theorem argsA_nil (A : Nat → Prop) (B : Nat) (w : World) : ArgsA A B (.slice none 0 0) [] w := RowO.nil
theorem argsA_away {es : List (List NodeD)} (h : ArgsA A B v es w) (hA : ∀ k, k < w.heap.size → A' k → A k) : ArgsA A' B v es w := by
  obtain ⟨vss, a, b, c, d⟩ := h
  refine ⟨vss, a, b, c, fun i hi hi' => ?_⟩
  obtain ⟨nv, e, vss2, a2, b2, c2, d2⟩ := d i hi hi'
  refine ⟨nv, e, vss2, a2, b2, c2, fun k hk hk' => ?_⟩
  obtain ⟨kv, e2, hz, hn⟩ := d2 k hk hk'
  exact ⟨kv, e2, hz, fun q hq hA' => hn q hq (hA q (World.ownsRow.lt hz q hq).2 hA')⟩
theorem snV_fr {vs : List Value} {x : SNodeD} (h : SnV A B w vs x) (hf : FrT ts B' w w') (h1 : 3 ∉ ts) (h2 : 72 ∉ ts) (h3 : 55 ∉ ts) : SnV A B w' vs x := by
  obtain ⟨av, kv, e, ha, hk, hA⟩ := h
  exact ⟨av, kv, e, argsA_fr ha hf h1 h2 h3, ownZ_fr hk hf h1, hA⟩
theorem sNodes_fr {xs : List SNodeD} (h : SNodesO A B v xs w) (hf : FrT ts B' w w') (h1 : 3 ∉ ts) (h2 : 72 ∉ ts) (h3 : 55 ∉ ts) (h4 : 121 ∉ ts) : SNodesO A B v xs w' :=
  RowO.world h (fun _ _ h5 => own_frT h5 hf h4) (fun _ _ hx => snV_fr hx hf h1 h2 h3)
theorem sNodes_below {xs : List SNodeD} (h : SNodesO A B v xs w) (hb : Below w.heap.size w w') : SNodesO A B v xs w' :=
  sNodes_fr (ts := []) h (FrT.below (B := 0) hb (Nat.zero_le _)) (by simp) (by simp) (by simp) (by simp)
/-- Other blocks that the kids' rows do not lie in. -/
theorem sNodes_away {xs : List SNodeD} (h : SNodesO A B v xs w) (hA : ∀ k, k < w.heap.size → A' k → A k) : SNodesO A' B v xs w := by
  obtain ⟨vss, a, b, c, d⟩ := h
  refine ⟨vss, a, b, c, fun i hi hi' => ?_⟩
  obtain ⟨av, kv, e, ha, hk, hn⟩ := d i hi hi'
  exact ⟨av, kv, e, argsA_away ha hA, hk, fun k hk2 hA' => hn k hk2 (hA k (World.ownsRow.lt hk k hk2).2 hA')⟩
theorem args_nil (B : Nat) (w : World) : ArgsO B (.slice none 0 0) [] w := RowO.nil
end
/-- A row of numbers that is one of A has grown. -/
theorem sNodes_grown {A : Nat → Prop} {B : Nat} {v : Value} {xs : List SNodeD} {w w' : World} {kb : Option Nat} (h : SNodesO A B v xs w) (hg : w.grownBy w' kb) (hA : ∀ b, kb = some b → A b) (hI : ∀ b, kb = some b → ∃ c fr, w.heap[b]? = some (.cells c 3 fr)) : SNodesO A B v xs w' := by
  have off : ∀ {e : TypeId} {s n : Nat} {u : Value} {cs : List Value}, w.ownsRow B e s u n cs → e ≠ 3 → w'.ownsRow B e s u n cs := fun {e s n u cs} h1 hne => by
    refine World.ownsRow.kept h1 hg ?_
    cases kb with
    | none =>
      by_cases hu : u.ownBlock = none
      · exact .inl (by rw [hu])
      · exact .inr hu
    | some b =>
      obtain ⟨c, fr, hc⟩ := hI b rfl
      exact .inr (own_offT h1 hc hne)
  have intr : ∀ {u : Value} {ks : List Int}, OwnZ B u ks w → (∀ k, u.ownBlock = some k → ¬ A k) → OwnZ B u ks w' := fun {u ks} h1 hn => by
    refine World.ownsRow.kept h1 hg ?_
    cases kb with
    | none =>
      by_cases hu : u.ownBlock = none
      · exact .inl (by rw [hu])
      · exact .inr hu
    | some b => exact .inr (fun e => hn b e (hA b rfl))
  obtain ⟨vss, a, b, c, d⟩ := h
  refine ⟨vss, a, b, off c (by decide), fun i hi hi' => ?_⟩
  obtain ⟨av, kv, e, ⟨vs2, a2, b2, c2, d2⟩, hk, hn⟩ := d i hi hi'
  refine ⟨av, kv, e, ⟨vs2, a2, b2, off c2 (by decide), fun j hj hj' => ?_⟩, intr hk hn, hn⟩
  obtain ⟨nv, e2, vs3, a3, b3, c3, d3⟩ := d2 j hj hj'
  refine ⟨nv, e2, vs3, a3, b3, off c3 (by decide), fun k hk2 hk3 => ?_⟩
  obtain ⟨kv2, e3, hz, hn2⟩ := d3 k hk2 hk3
  exact ⟨kv2, e3, intr hz hn2, hn2⟩
theorem Try.infoSNode : (Try.prog.info? 121).map (fun i => (i.zero, i.size, i.bytes)) = some (some (.agg #[.int .i64 0, .string ⟨#[]⟩, .slice none 0 0, .string ⟨#[]⟩, .slice none 0 0]), 5, 88) := by kernel_rfl
theorem five11 (a : Int) (s t : ByteArray) (o o' : Option Addr) (l c l' c' : Nat) : ∀ u ∈ [Value.int .i64 a, .string s, .slice o l c, .string t, .slice o' l' c'], u.oneCell' = true := by
  intro u hu
  simp only [List.mem_cons, List.not_mem_nil, or_false] at hu
  rcases hu with rfl | rfl | rfl | rfl | rfl <;> rfl
theorem rdb_alloc {p : Nat} {lv ov : Value} {r : RdD} {w : World} (h : RdB p lv ov r w) (o : Obj) : RdB p lv ov r (w.alloc o) := by
  rw [RdB, Below.heap_alloc _ _ _ (rdb_lt h)]; exact h
theorem rdb_grown {p : Nat} {lv ov : Value} {r : RdD} {w w' : World} {k : Option Nat} (hg : w.grownBy w' k) (h : RdB p lv ov r w) (hne : k ≠ some p) : RdB p lv ov r w' := by
  rw [RdB, hg.block p (rdb_lt h) (fun e => hne e.symm)]; exact h

end Go.Proofs.Ytipkbkhnaekceaa
