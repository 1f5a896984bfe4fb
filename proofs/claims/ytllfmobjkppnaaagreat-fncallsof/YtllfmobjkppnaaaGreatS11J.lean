/- The expression's readers: product and sum (printed by mk/s11i.py). -/
/- The expression's readers: expr. -/
import Derived.Test.YtllfmobjkppnaaaGreatS11H
import Derived.Deep.LoopGhost
namespace Go.Proofs.YtllfmobjkppnaaaGreat
open Go.RowKit
set_option linter.unusedVariables false

theorem Ask.sub {s : ByteArray} {tk : List TokD} {f : Nat} {m m1 : Md} {r : RdD} {ns : List NodeD} (ha : Ask tk (f + 1) m r ns) (hs : isT tk r s = true) : Ask tk f m1 (onR r) ns := by
  obtain ⟨hlen, hat, hneed, hroom, hlo, hhi, hnum⟩ := ha
  have h1 := isT_lt hs
  have h3 : rankM m1 ≤ 9 := by cases m1 <;> decide
  have h4 : 1 ≤ rankM m := by cases m <;> decide
  exact ⟨hlen, by show r.at_ + 1 ≤ _; omega, by show rankM m1 + 16 * (tk.length - (r.at_ + 1)) ≤ f; omega, by show ns.length + (tk.length - (r.at_ + 1)) + f ≤ _; omega, by show _ ≤ r.deep - _; omega, by show r.deep + _ ≤ _; omega, hnum⟩
theorem Ask.loop {s : ByteArray} {tk : List TokD} {f : Nat} {m m1 : Md} {r : RdD} {ns : List NodeD} {q : RdD × List NodeD × Int} {x : NodeD} (ha : Ask tk (f + 1) m r ns) (hs : isT tk r s = true) (hI : ExI tk m1 (onR r) ns q) (hd : deepM m1 r.deep = r.deep) : Ask tk f m q.1 (q.2.1 ++ [x]) := by
  obtain ⟨hlen, hat, hneed, hroom, hlo, hhi, hnum⟩ := ha
  obtain ⟨d, a, a2, b, o, l, z⟩ := hI
  have h1 := isT_lt hs
  have h2 := slack_le m1 (onR r) q.1
  have e1 : (onR r).at_ = r.at_ + 1 := rfl
  have e2 : (onR r).deep = r.deep := rfl
  rw [e1] at a a2 z
  rw [e2, hd] at d
  have h3 : 1 ≤ rankM m := by cases m <;> decide
  exact ⟨hlen, by omega, by omega, by rw [List.length_append, List.length_singleton]; omega, by omega, by omega, hnum⟩
/-- A first reader is read: its loop goes on. -/
theorem Ask.then_ {tk : List TokD} {g : Nat} {m m1 m2 : Md} {r : RdD} {ns : List NodeD} {q : RdD × List NodeD × Int} (ha : Ask tk (g + 1) m r ns) (hI : ExI tk m1 r ns q) (hd : deepM m1 r.deep = r.deep) (hr : rankM m2 < rankM m) : Ask tk g m2 q.1 q.2.1 := by
  obtain ⟨hlen, hat, hneed, hroom, hlo, hhi, hnum⟩ := ha
  obtain ⟨d, a, a2, b, o, l, z⟩ := hI
  have h2 := slack_le m1 r q.1
  rw [hd] at d
  exact ⟨hlen, by omega, by omega, by omega, by omega, by omega, hnum⟩

set_option maxHeartbeats 6400000 in
set_option maxRecDepth 100000 in
theorem product_C (g : Nat) (ih : ∀ f, f ≤ g → ExC f .simple 112) : ExC (g + 1) .product 110 := by
  intro B X p bo lv ov tk r o ns w ha h
  have HA : Hid (Ask tk (g + 1) .product r ns) := ha
  have hlen := ha.len
  have HI1 : Hid (ExI tk .simple r ns (exF tk g .simple r ns 0)) := exF_I tk g .simple r ns 0
  have HC : Hid (∀ _ : Unit, _) := fun _ => ih g (Nat.le_refl _) B X p bo lv ov tk r o ns w (ha.first (by decide)) h
  have HE : Hid (exF tk g .prodL (exF tk g .simple r ns 0).1 (exF tk g .simple r ns 0).2.1 (exF tk g .simple r ns 0).2.2 = exF tk (g + 1) .product r ns 0) := by rw [Hid, exF]
  have HAL : Hid (Ask tk g .prodL (exF tk g .simple r ns 0).1 (exF tk g .simple r ns 0).2.1) := HA.out.then_ HI1.out rfl (by decide)
  clear h ha HI1
  generalize exF tk g .simple r ns 0 = q at *
  generalize exF tk (g + 1) .product r ns 0 = qq at *
  go_enter Tryz.func110, Tryz.ntmps110
  go_wp2_with fail
  refine (HC.out ()).mono ?_
  rintro e w1 ⟨rfl, oo, h1, h2⟩
  have S1 : Hid (ExS B X p bo lv ov tk q.1 oo q.2.1 w1) := h1
  have F1 : Hid (FrE B X w w1) := h2
  clear h1 h2 HC
  go_wp2
  go_loopg [5] g (fun gg kv wr => ∃ (k1 : Int) (r1 : RdD) (ns1 : List NodeD) (o1 : Value), kv = .int .i64 k1 ∧ exF tk gg .prodL r1 ns1 k1 = qq ∧ Ask tk gg .prodL r1 ns1 ∧ gg ≤ g ∧ ExS B X p bo lv ov tk r1 o1 ns1 wr ∧ FrE B X w wr)
  case atStart => exact ⟨_, _, _, _, rfl, HE.out, HAL.out, Nat.le_refl _, S1.out, F1.out⟩
  case round =>
    obtain ⟨k1, r1, ns1, o1, rfl, hq, hA, hgg, hS, hF⟩ := hrel
    have hne := hA.need
    obtain ⟨f, rfl⟩ : ∃ f, gk = f + 1 := ⟨gk - 1, by simp only [rankM] at hne; omega⟩
    have HQ : Hid (exF tk (f + 1) .prodL r1 ns1 k1 = qq) := hq
    have HA1 : Hid (Ask tk (f + 1) .prodL r1 ns1) := hA
    have hfg : f + 1 ≤ g := hgg
    have SR : Hid (ExS B X p bo lv ov tk r1 o1 ns1 wr) := hS
    have FR : Hid (FrE B X w wr) := hF
    have e3 : wr.cell? ⟨p, 3, none⟩ = some (.bool r1.bad) := run_cell hS.rd rfl
    have HE1 : Hid (∀ _ : Unit, exF tk (f + 1) .prodL r1 ns1 k1 = if isT tk r1 (s1 42) = true then exF tk f .prodL (exF tk f .simple (onR r1) ns1 0).1 ((exF tk f .simple (onR r1) ns1 0).2.1 ++ [two 6 k1 (exF tk f .simple (onR r1) ns1 0).2.2]) (exF tk f .simple (onR r1) ns1 0).2.1.length
      else if isT tk r1 (s1 47) = true then exF tk f .prodL (exF tk f .simple (onR r1) ns1 0).1 ((exF tk f .simple (onR r1) ns1 0).2.1 ++ [two 7 k1 (exF tk f .simple (onR r1) ns1 0).2.2]) (exF tk f .simple (onR r1) ns1 0).2.1.length
      else (r1, ns1, k1)) := fun _ => by rw [exF]
    clear hq hA hgg hS hF hne HE HAL
    cases hb : r1.bad with
    | true =>
      have HV : Hid (qq = (r1, ns1, k1)) := by
        rw [Hid, ← HQ.out, HE1.out (), if_neg (by rw [isT_bad hb]; decide), if_neg (by rw [isT_bad hb]; decide)]
      rw [hb] at e3
      clear hb HE1 HQ
      go_wp2
      go_ret
      rw [HV.out]
      exact ⟨rfl, o1, SR.out, FR.out⟩
    | false =>
      rw [hb] at e3
      clear hb
      go_wp2_with fail
      refine (sign_any (B := B) p lv ov tk r1 (s1 42) wr SR.out.pB (by omega) SR.out.rd SR.out.tok).mono ?_
      rintro e w2 ⟨rfl, h1, h2⟩
      cases hs : isT tk r1 (s1 42) with
      | true =>
        rw [signR, if_pos hs] at h1
        have S2 : Hid (ExS B X p bo lv ov tk (onR r1) o1 ns1 w2) := SR.out.rdr h1 h2
        have F2 : Hid (FrE B X w w2) := FR.out.trans (FrR.toE h2)
        have HA2 : Hid (Ask tk f .simple (onR r1) ns1) := HA1.out.sub hs
        have HI2 : Hid (ExI tk .simple (onR r1) ns1 (exF tk f .simple (onR r1) ns1 0)) := exF_I tk f .simple (onR r1) ns1 0
        have HIh : Hid (∀ _ : Unit, _) := fun _ => ih f (by omega) B X p bo lv ov tk (onR r1) o1 ns1 w2 HA2.out S2.out
        have HNx : Hid (∀ x, Ask tk f .prodL (exF tk f .simple (onR r1) ns1 0).1 ((exF tk f .simple (onR r1) ns1 0).2.1 ++ [x])) := fun x => HA1.out.loop hs HI2.out rfl
        have HV : Hid (_ = _) := HE1.out ()
        rw [if_pos hs] at HV
        have hql : (exF tk f .simple (onR r1) ns1 0).2.1.length ≤ 100000 := by
          have := (HNx.out (two 0 0 0)).room
          rw [List.length_append] at this
          omega
        clear h1 h2 hs HA2 HI2
        generalize exF tk f .simple (onR r1) ns1 0 = q2 at *
        go_wp2_with fail
        refine (HIh.out ()).mono ?_
        rintro e w3 ⟨rfl, o3, h1, h2⟩
        have S3 : Hid (ExS B X p bo lv ov tk q2.1 o3 q2.2.1 w3) := h1
        have F3 : Hid (FrE B X w w3) := F2.out.trans h2
        clear h1 h2
        go_wp2_with fail
        refine (two_any 6 k1 q2.2.2 w3 hql S3.out).mono ?_
        rintro e w4 ⟨rfl, o4, h1, h2⟩
        have S4 : Hid (ExS B X p bo lv ov tk q2.1 o4 (q2.2.1 ++ [two 6 k1 q2.2.2]) w4) := h1
        have F4 : Hid (FrE B X w w4) := F3.out.trans h2
        clear h1 h2
        go_wp2
        go_roundg f
        case measure => omega
        case rel => exact ⟨_, q2.1, _, o4, rfl, by rw [← HQ.out, HV.out], HNx.out _, Nat.le_trans (Nat.le_succ f) hfg, S4.out, F4.out⟩
      | false =>
        rw [signR, if_neg (by rw [hs]; decide)] at h1
        have S2a : Hid (ExS B X p bo lv ov tk r1 o1 ns1 w2) := SR.out.rdr h1 h2
        have F2a : Hid (FrE B X w w2) := FR.out.trans (FrR.toE h2)
        have HE2 : Hid (∀ _ : Unit, _ = _) := fun _ => (HE1.out ()).trans (if_neg (by rw [hs]; decide))
        clear h1 h2 hs HE1
        go_wp2_with fail
        refine (sign_any (B := B) p lv ov tk r1 (s1 47) w2 S2a.out.pB (by omega) S2a.out.rd S2a.out.tok).mono ?_
        rintro e w2b ⟨rfl, h1, h2⟩
        cases hs : isT tk r1 (s1 47) with
        | true =>
          rw [signR, if_pos hs] at h1
          have S2 : Hid (ExS B X p bo lv ov tk (onR r1) o1 ns1 w2b) := S2a.out.rdr h1 h2
          have F2 : Hid (FrE B X w w2b) := F2a.out.trans (FrR.toE h2)
          have HA2 : Hid (Ask tk f .simple (onR r1) ns1) := HA1.out.sub hs
          have HI2 : Hid (ExI tk .simple (onR r1) ns1 (exF tk f .simple (onR r1) ns1 0)) := exF_I tk f .simple (onR r1) ns1 0
          have HIh : Hid (∀ _ : Unit, _) := fun _ => ih f (by omega) B X p bo lv ov tk (onR r1) o1 ns1 w2b HA2.out S2.out
          have HNx : Hid (∀ x, Ask tk f .prodL (exF tk f .simple (onR r1) ns1 0).1 ((exF tk f .simple (onR r1) ns1 0).2.1 ++ [x])) := fun x => HA1.out.loop hs HI2.out rfl
          have HV : Hid (_ = _) := HE2.out ()
          rw [if_pos hs] at HV
          have hql : (exF tk f .simple (onR r1) ns1 0).2.1.length ≤ 100000 := by
            have := (HNx.out (two 0 0 0)).room
            rw [List.length_append] at this
            omega
          clear h1 h2 hs HA2 HI2
          generalize exF tk f .simple (onR r1) ns1 0 = q2 at *
          go_wp2_with fail
          refine (HIh.out ()).mono ?_
          rintro e w3 ⟨rfl, o3, h1, h2⟩
          have S3 : Hid (ExS B X p bo lv ov tk q2.1 o3 q2.2.1 w3) := h1
          have F3 : Hid (FrE B X w w3) := F2.out.trans h2
          clear h1 h2
          go_wp2_with fail
          refine (two_any 7 k1 q2.2.2 w3 hql S3.out).mono ?_
          rintro e w4 ⟨rfl, o4, h1, h2⟩
          have S4 : Hid (ExS B X p bo lv ov tk q2.1 o4 (q2.2.1 ++ [two 7 k1 q2.2.2]) w4) := h1
          have F4 : Hid (FrE B X w w4) := F3.out.trans h2
          clear h1 h2
          go_wp2
          go_roundg f
          case measure => omega
          case rel => exact ⟨_, q2.1, _, o4, rfl, by rw [← HQ.out, HV.out], HNx.out _, Nat.le_trans (Nat.le_succ f) hfg, S4.out, F4.out⟩
        | false =>
          rw [signR, if_neg (by rw [hs]; decide)] at h1
          have S2 : Hid (ExS B X p bo lv ov tk r1 o1 ns1 w2b) := S2a.out.rdr h1 h2
          have F2 : Hid (FrE B X w w2b) := F2a.out.trans (FrR.toE h2)
          have HV : Hid (qq = (r1, ns1, k1)) := by
            rw [Hid, ← HQ.out, HE2.out (), if_neg (by rw [hs]; decide)]
          clear h1 h2 hs HE2 HQ
          go_wp2
          go_ret
          rw [HV.out]
          exact ⟨rfl, o1, S2.out, F2.out⟩

set_option maxHeartbeats 6400000 in
set_option maxRecDepth 100000 in
theorem sum_C (g : Nat) (ih : ∀ f, f ≤ g → ExC f .product 110) : ExC (g + 1) .sum 106 := by
  intro B X p bo lv ov tk r o ns w ha h
  have HA : Hid (Ask tk (g + 1) .sum r ns) := ha
  have hlen := ha.len
  have HI1 : Hid (ExI tk .product r ns (exF tk g .product r ns 0)) := exF_I tk g .product r ns 0
  have HC : Hid (∀ _ : Unit, _) := fun _ => ih g (Nat.le_refl _) B X p bo lv ov tk r o ns w (ha.first (by decide)) h
  have HE : Hid (exF tk g .sumL (exF tk g .product r ns 0).1 (exF tk g .product r ns 0).2.1 (exF tk g .product r ns 0).2.2 = exF tk (g + 1) .sum r ns 0) := by rw [Hid, exF]
  have HAL : Hid (Ask tk g .sumL (exF tk g .product r ns 0).1 (exF tk g .product r ns 0).2.1) := HA.out.then_ HI1.out rfl (by decide)
  clear h ha HI1
  generalize exF tk g .product r ns 0 = q at *
  generalize exF tk (g + 1) .sum r ns 0 = qq at *
  go_enter Tryz.func106, Tryz.ntmps106
  go_wp2_with fail
  refine (HC.out ()).mono ?_
  rintro e w1 ⟨rfl, oo, h1, h2⟩
  have S1 : Hid (ExS B X p bo lv ov tk q.1 oo q.2.1 w1) := h1
  have F1 : Hid (FrE B X w w1) := h2
  clear h1 h2 HC
  go_wp2
  go_loopg [5] g (fun gg kv wr => ∃ (k1 : Int) (r1 : RdD) (ns1 : List NodeD) (o1 : Value), kv = .int .i64 k1 ∧ exF tk gg .sumL r1 ns1 k1 = qq ∧ Ask tk gg .sumL r1 ns1 ∧ gg ≤ g ∧ ExS B X p bo lv ov tk r1 o1 ns1 wr ∧ FrE B X w wr)
  case atStart => exact ⟨_, _, _, _, rfl, HE.out, HAL.out, Nat.le_refl _, S1.out, F1.out⟩
  case round =>
    obtain ⟨k1, r1, ns1, o1, rfl, hq, hA, hgg, hS, hF⟩ := hrel
    have hne := hA.need
    obtain ⟨f, rfl⟩ : ∃ f, gk = f + 1 := ⟨gk - 1, by simp only [rankM] at hne; omega⟩
    have HQ : Hid (exF tk (f + 1) .sumL r1 ns1 k1 = qq) := hq
    have HA1 : Hid (Ask tk (f + 1) .sumL r1 ns1) := hA
    have hfg : f + 1 ≤ g := hgg
    have SR : Hid (ExS B X p bo lv ov tk r1 o1 ns1 wr) := hS
    have FR : Hid (FrE B X w wr) := hF
    have e3 : wr.cell? ⟨p, 3, none⟩ = some (.bool r1.bad) := run_cell hS.rd rfl
    have HE1 : Hid (∀ _ : Unit, exF tk (f + 1) .sumL r1 ns1 k1 = if isT tk r1 (s1 43) = true then exF tk f .sumL (exF tk f .product (onR r1) ns1 0).1 ((exF tk f .product (onR r1) ns1 0).2.1 ++ [two 4 k1 (exF tk f .product (onR r1) ns1 0).2.2]) (exF tk f .product (onR r1) ns1 0).2.1.length
      else if isT tk r1 (s1 45) = true then exF tk f .sumL (exF tk f .product (onR r1) ns1 0).1 ((exF tk f .product (onR r1) ns1 0).2.1 ++ [two 5 k1 (exF tk f .product (onR r1) ns1 0).2.2]) (exF tk f .product (onR r1) ns1 0).2.1.length
      else (r1, ns1, k1)) := fun _ => by rw [exF]
    clear hq hA hgg hS hF hne HE HAL
    cases hb : r1.bad with
    | true =>
      have HV : Hid (qq = (r1, ns1, k1)) := by
        rw [Hid, ← HQ.out, HE1.out (), if_neg (by rw [isT_bad hb]; decide), if_neg (by rw [isT_bad hb]; decide)]
      rw [hb] at e3
      clear hb HE1 HQ
      go_wp2
      go_ret
      rw [HV.out]
      exact ⟨rfl, o1, SR.out, FR.out⟩
    | false =>
      rw [hb] at e3
      clear hb
      go_wp2_with fail
      refine (sign_any (B := B) p lv ov tk r1 (s1 43) wr SR.out.pB (by omega) SR.out.rd SR.out.tok).mono ?_
      rintro e w2 ⟨rfl, h1, h2⟩
      cases hs : isT tk r1 (s1 43) with
      | true =>
        rw [signR, if_pos hs] at h1
        have S2 : Hid (ExS B X p bo lv ov tk (onR r1) o1 ns1 w2) := SR.out.rdr h1 h2
        have F2 : Hid (FrE B X w w2) := FR.out.trans (FrR.toE h2)
        have HA2 : Hid (Ask tk f .product (onR r1) ns1) := HA1.out.sub hs
        have HI2 : Hid (ExI tk .product (onR r1) ns1 (exF tk f .product (onR r1) ns1 0)) := exF_I tk f .product (onR r1) ns1 0
        have HIh : Hid (∀ _ : Unit, _) := fun _ => ih f (by omega) B X p bo lv ov tk (onR r1) o1 ns1 w2 HA2.out S2.out
        have HNx : Hid (∀ x, Ask tk f .sumL (exF tk f .product (onR r1) ns1 0).1 ((exF tk f .product (onR r1) ns1 0).2.1 ++ [x])) := fun x => HA1.out.loop hs HI2.out rfl
        have HV : Hid (_ = _) := HE1.out ()
        rw [if_pos hs] at HV
        have hql : (exF tk f .product (onR r1) ns1 0).2.1.length ≤ 100000 := by
          have := (HNx.out (two 0 0 0)).room
          rw [List.length_append] at this
          omega
        clear h1 h2 hs HA2 HI2
        generalize exF tk f .product (onR r1) ns1 0 = q2 at *
        go_wp2_with fail
        refine (HIh.out ()).mono ?_
        rintro e w3 ⟨rfl, o3, h1, h2⟩
        have S3 : Hid (ExS B X p bo lv ov tk q2.1 o3 q2.2.1 w3) := h1
        have F3 : Hid (FrE B X w w3) := F2.out.trans h2
        clear h1 h2
        go_wp2_with fail
        refine (two_any 4 k1 q2.2.2 w3 hql S3.out).mono ?_
        rintro e w4 ⟨rfl, o4, h1, h2⟩
        have S4 : Hid (ExS B X p bo lv ov tk q2.1 o4 (q2.2.1 ++ [two 4 k1 q2.2.2]) w4) := h1
        have F4 : Hid (FrE B X w w4) := F3.out.trans h2
        clear h1 h2
        go_wp2
        go_roundg f
        case measure => omega
        case rel => exact ⟨_, q2.1, _, o4, rfl, by rw [← HQ.out, HV.out], HNx.out _, Nat.le_trans (Nat.le_succ f) hfg, S4.out, F4.out⟩
      | false =>
        rw [signR, if_neg (by rw [hs]; decide)] at h1
        have S2a : Hid (ExS B X p bo lv ov tk r1 o1 ns1 w2) := SR.out.rdr h1 h2
        have F2a : Hid (FrE B X w w2) := FR.out.trans (FrR.toE h2)
        have HE2 : Hid (∀ _ : Unit, _ = _) := fun _ => (HE1.out ()).trans (if_neg (by rw [hs]; decide))
        clear h1 h2 hs HE1
        go_wp2_with fail
        refine (sign_any (B := B) p lv ov tk r1 (s1 45) w2 S2a.out.pB (by omega) S2a.out.rd S2a.out.tok).mono ?_
        rintro e w2b ⟨rfl, h1, h2⟩
        cases hs : isT tk r1 (s1 45) with
        | true =>
          rw [signR, if_pos hs] at h1
          have S2 : Hid (ExS B X p bo lv ov tk (onR r1) o1 ns1 w2b) := S2a.out.rdr h1 h2
          have F2 : Hid (FrE B X w w2b) := F2a.out.trans (FrR.toE h2)
          have HA2 : Hid (Ask tk f .product (onR r1) ns1) := HA1.out.sub hs
          have HI2 : Hid (ExI tk .product (onR r1) ns1 (exF tk f .product (onR r1) ns1 0)) := exF_I tk f .product (onR r1) ns1 0
          have HIh : Hid (∀ _ : Unit, _) := fun _ => ih f (by omega) B X p bo lv ov tk (onR r1) o1 ns1 w2b HA2.out S2.out
          have HNx : Hid (∀ x, Ask tk f .sumL (exF tk f .product (onR r1) ns1 0).1 ((exF tk f .product (onR r1) ns1 0).2.1 ++ [x])) := fun x => HA1.out.loop hs HI2.out rfl
          have HV : Hid (_ = _) := HE2.out ()
          rw [if_pos hs] at HV
          have hql : (exF tk f .product (onR r1) ns1 0).2.1.length ≤ 100000 := by
            have := (HNx.out (two 0 0 0)).room
            rw [List.length_append] at this
            omega
          clear h1 h2 hs HA2 HI2
          generalize exF tk f .product (onR r1) ns1 0 = q2 at *
          go_wp2_with fail
          refine (HIh.out ()).mono ?_
          rintro e w3 ⟨rfl, o3, h1, h2⟩
          have S3 : Hid (ExS B X p bo lv ov tk q2.1 o3 q2.2.1 w3) := h1
          have F3 : Hid (FrE B X w w3) := F2.out.trans h2
          clear h1 h2
          go_wp2_with fail
          refine (two_any 5 k1 q2.2.2 w3 hql S3.out).mono ?_
          rintro e w4 ⟨rfl, o4, h1, h2⟩
          have S4 : Hid (ExS B X p bo lv ov tk q2.1 o4 (q2.2.1 ++ [two 5 k1 q2.2.2]) w4) := h1
          have F4 : Hid (FrE B X w w4) := F3.out.trans h2
          clear h1 h2
          go_wp2
          go_roundg f
          case measure => omega
          case rel => exact ⟨_, q2.1, _, o4, rfl, by rw [← HQ.out, HV.out], HNx.out _, Nat.le_trans (Nat.le_succ f) hfg, S4.out, F4.out⟩
        | false =>
          rw [signR, if_neg (by rw [hs]; decide)] at h1
          have S2 : Hid (ExS B X p bo lv ov tk r1 o1 ns1 w2b) := S2a.out.rdr h1 h2
          have F2 : Hid (FrE B X w w2b) := F2a.out.trans (FrR.toE h2)
          have HV : Hid (qq = (r1, ns1, k1)) := by
            rw [Hid, ← HQ.out, HE2.out (), if_neg (by rw [hs]; decide)]
          clear h1 h2 hs HE2 HQ
          go_wp2
          go_ret
          rw [HV.out]
          exact ⟨rfl, o1, S2.out, F2.out⟩

end Go.Proofs.YtllfmobjkppnaaaGreat

namespace Go.Proofs.YtllfmobjkppnaaaGreat
open Go.RowKit
set_option linter.unusedVariables false

set_option maxHeartbeats 6400000 in
set_option maxRecDepth 100000 in
theorem expr_C (g : Nat) (ih : ∀ f, f ≤ g → ExC f .cmp 103) : ExC (g + 1) .expr 99 := by
  intro B X p bo lv ov tk r o ns w ha h
  obtain ⟨hlen, hat, hneed, hroom, hlo, hhi, hnum⟩ := ha
  have HD : Hid (∀ _ : Unit, _) := fun _ => down_any (B := B) p lv ov r w h.pB (by omega) (by omega) h.rd
  have H : Hid (ExS B X p bo lv ov tk r o ns w) := h
  have ha1 : Ask tk g .cmp (downR r) ns := ⟨hlen, hat, by simp only [rankM, downR] at hneed ⊢; omega, by simp only [downR]; omega, by simp only [downR]; omega, by simp only [downR]; omega, hnum⟩
  have HA : Hid (Ask tk g .cmp (downR r) ns) := ha1
  have hI1 := exF_I tk g .cmp (downR r) ns 0
  have HAL : Hid (Ask tk g .exprL (exF tk g .cmp (downR r) ns 0).1 (exF tk g .cmp (downR r) ns 0).2.1) := by
    obtain ⟨d, a, a2, b, o, l, z⟩ := hI1
    have h2 := slack_le .cmp (downR r) (exF tk g .cmp (downR r) ns 0).1
    have e1 : (downR r).at_ = r.at_ := rfl
    have e2 : (downR r).deep = r.deep + 1 := rfl
    have e4 : deepM .cmp (downR r).deep = r.deep + 1 := rfl
    rw [e1] at a a2 z
    rw [e4] at d
    simp only [rankM] at hneed
    exact ⟨hlen, by omega, by simp only [rankM]; omega, by omega, by omega, by omega, hnum⟩
  have HE : Hid (exF tk g .exprL (exF tk g .cmp (downR r) ns 0).1 (exF tk g .cmp (downR r) ns 0).2.1 (exF tk g .cmp (downR r) ns 0).2.2 = exF tk (g + 1) .expr r ns 0) := by rw [Hid, exF]
  have HIh : Hid (∀ W, ExS B X p bo lv ov tk (downR r) o ns W → _) := fun W hW => ih g (Nat.le_refl _) B X p bo lv ov tk (downR r) o ns W HA.out hW
  clear h hI1 ha1
  generalize exF tk g .cmp (downR r) ns 0 = q at *
  generalize exF tk (g + 1) .expr r ns 0 = qq at *
  go_enter Tryz.func99, Tryz.ntmps99
  go_wp2_with fail
  refine (HD.out ()).mono ?_
  rintro e w0 ⟨rfl, h1, h2⟩
  have S0 : Hid (ExS B X p bo lv ov tk (downR r) o ns w0) := H.out.rdr h1 h2
  have F0 : Hid (FrE B X w w0) := FrR.toE h2
  clear h1 h2 HD
  go_wp2_with fail
  refine (HIh.out _ S0.out).mono ?_
  rintro e w1 ⟨rfl, oo, h1, h2⟩
  have S1 : Hid (ExS B X p bo lv ov tk q.1 oo q.2.1 w1) := h1
  have F1 : Hid (FrE B X w w1) := F0.out.trans h2
  clear h1 h2 HIh
  go_wp2
  go_loopg [5] g (fun gg kv wr => ∃ (k1 : Int) (r1 : RdD) (ns1 : List NodeD) (o1 : Value), kv = .int .i64 k1 ∧ exF tk gg .exprL r1 ns1 k1 = qq ∧ Ask tk gg .exprL r1 ns1 ∧ gg ≤ g ∧ ExS B X p bo lv ov tk r1 o1 ns1 wr ∧ FrE B X w wr)
  case atStart => exact ⟨_, _, _, _, rfl, HE.out, HAL.out, Nat.le_refl _, S1.out, F1.out⟩
  case round =>
    obtain ⟨k1, r1, ns1, o1, rfl, hq, hA, hgg, hS, hF⟩ := hrel
    have hne := hA.need
    have hl1 := hA.lo
    have hh1 := hA.hi
    obtain ⟨f, rfl⟩ : ∃ f, gk = f + 1 := ⟨gk - 1, by simp only [rankM] at hne; omega⟩
    have HQ : Hid (exF tk (f + 1) .exprL r1 ns1 k1 = qq) := hq
    have HA1 : Hid (Ask tk (f + 1) .exprL r1 ns1) := hA
    have hfg : f + 1 ≤ g := hgg
    have SR : Hid (ExS B X p bo lv ov tk r1 o1 ns1 wr) := hS
    have FR : Hid (FrE B X w wr) := hF
    have e3 : wr.cell? ⟨p, 3, none⟩ = some (.bool r1.bad) := run_cell hS.rd rfl
    have HE1 : Hid (∀ _ : Unit, exF tk (f + 1) .exprL r1 ns1 k1 = if isT tk r1 (s1 38) = true then exF tk f .exprL (exF tk f .cmp (onR r1) ns1 0).1 ((exF tk f .cmp (onR r1) ns1 0).2.1 ++ [two 10 k1 (exF tk f .cmp (onR r1) ns1 0).2.2]) (exF tk f .cmp (onR r1) ns1 0).2.1.length
      else (upR r1, ns1, k1)) := fun _ => by rw [exF]
    clear hq hA hgg hS hF hne HE HAL
    cases hb : r1.bad with
    | true =>
      have HV : Hid (qq = (upR r1, ns1, k1)) := by
        rw [Hid, ← HQ.out, HE1.out (), if_neg (by rw [isT_bad hb]; decide)]
      rw [hb] at e3
      clear hb HE1 HQ
      go_wp2_with fail
      refine (up_any (B := B) p lv ov r1 wr SR.out.pB (by omega) (by omega) SR.out.rd).mono ?_
      rintro e w3 ⟨rfl, h1, h2⟩
      have S3 : Hid (ExS B X p bo lv ov tk (upR r1) o1 ns1 w3) := SR.out.rdr h1 h2
      have F3 : Hid (FrE B X w w3) := FR.out.trans (FrR.toE h2)
      clear h1 h2
      go_wp2
      go_ret
      rw [HV.out]
      exact ⟨rfl, o1, S3.out, F3.out⟩
    | false =>
      rw [hb] at e3
      clear hb
      go_wp2_with fail
      refine (sign_any (B := B) p lv ov tk r1 (s1 38) wr SR.out.pB (by omega) SR.out.rd SR.out.tok).mono ?_
      rintro e w2 ⟨rfl, h1, h2⟩
      cases hs : isT tk r1 (s1 38) with
      | true =>
        rw [signR, if_pos hs] at h1
        have S2 : Hid (ExS B X p bo lv ov tk (onR r1) o1 ns1 w2) := SR.out.rdr h1 h2
        have F2 : Hid (FrE B X w w2) := FR.out.trans (FrR.toE h2)
        have HA2 : Hid (Ask tk f .cmp (onR r1) ns1) := HA1.out.sub hs
        have HI2 : Hid (ExI tk .cmp (onR r1) ns1 (exF tk f .cmp (onR r1) ns1 0)) := exF_I tk f .cmp (onR r1) ns1 0
        have HIh : Hid (∀ _ : Unit, _) := fun _ => ih f (by omega) B X p bo lv ov tk (onR r1) o1 ns1 w2 HA2.out S2.out
        have HNx : Hid (∀ x, Ask tk f .exprL (exF tk f .cmp (onR r1) ns1 0).1 ((exF tk f .cmp (onR r1) ns1 0).2.1 ++ [x])) := fun x => HA1.out.loop hs HI2.out rfl
        have HV : Hid (_ = _) := HE1.out ()
        rw [if_pos hs] at HV
        have hql : (exF tk f .cmp (onR r1) ns1 0).2.1.length ≤ 100000 := by
          have := (HNx.out (two 0 0 0)).room
          rw [List.length_append] at this
          omega
        clear h1 h2 hs HA2 HI2
        generalize exF tk f .cmp (onR r1) ns1 0 = q2 at *
        go_wp2_with fail
        refine (HIh.out ()).mono ?_
        rintro e w3 ⟨rfl, o3, h1, h2⟩
        have S3 : Hid (ExS B X p bo lv ov tk q2.1 o3 q2.2.1 w3) := h1
        have F3 : Hid (FrE B X w w3) := F2.out.trans h2
        clear h1 h2
        go_wp2_with fail
        refine (two_any 10 k1 q2.2.2 w3 hql S3.out).mono ?_
        rintro e w4 ⟨rfl, o4, h1, h2⟩
        have S4 : Hid (ExS B X p bo lv ov tk q2.1 o4 (q2.2.1 ++ [two 10 k1 q2.2.2]) w4) := h1
        have F4 : Hid (FrE B X w w4) := F3.out.trans h2
        clear h1 h2
        go_wp2
        go_roundg f
        case measure => omega
        case rel => exact ⟨_, q2.1, _, o4, rfl, by rw [← HQ.out, HV.out], HNx.out _, Nat.le_trans (Nat.le_succ f) hfg, S4.out, F4.out⟩
      | false =>
        rw [signR, if_neg (by rw [hs]; decide)] at h1
        have S2 : Hid (ExS B X p bo lv ov tk r1 o1 ns1 w2) := SR.out.rdr h1 h2
        have F2 : Hid (FrE B X w w2) := FR.out.trans (FrR.toE h2)
        have HV : Hid (qq = (upR r1, ns1, k1)) := by
          rw [Hid, ← HQ.out, HE1.out (), if_neg (by rw [hs]; decide)]
        clear h1 h2 hs HE1 HQ
        go_wp2_with fail
        refine (up_any (B := B) p lv ov r1 w2 S2.out.pB (by omega) (by omega) S2.out.rd).mono ?_
        rintro e w3 ⟨rfl, h1, h2⟩
        have S3 : Hid (ExS B X p bo lv ov tk (upR r1) o1 ns1 w3) := S2.out.rdr h1 h2
        have F3 : Hid (FrE B X w w3) := F2.out.trans (FrR.toE h2)
        clear h1 h2
        go_wp2
        go_ret
        rw [HV.out]
        exact ⟨rfl, o1, S3.out, F3.out⟩

end Go.Proofs.YtllfmobjkppnaaaGreat
