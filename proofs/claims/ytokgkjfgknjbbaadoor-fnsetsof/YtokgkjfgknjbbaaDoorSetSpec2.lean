/- The specification's InSet and SetBytes. -/
import Derived.Test.YtokgkjfgknjbbaaDoorSetSpec
namespace Go.Proofs.YtokgkjfgknjbbaaDoor
open Go.RowKit

theorem inL_no {l : List UInt8} (h : okL l = false) (x : Nat) : inL l x = false := by rw [inL, h]; rfl
theorem inL_rows {l : List UInt8} {rs : List (Nat × Nat)} (h : rowsL l = some rs) (ho : okL l = true) (x : Nat) : inL l x = inR rs x := by rw [inL, ho, h]; rfl

set_option maxHeartbeats 1600000 in
set_option maxRecDepth 100000 in
theorem specInSet_any (s : ByteArray) (b : Nat) (_hb : b < 256) (w : World) (hs : s.size ≤ 1048576) :
    Calls Tryd.prog 31 #[.string s, .int .u8 b] w fun e w' => e = .returned (.bool (inL s.data.toList b)) ∧ Below w.heap.size w w' := by
  have HR : Hid (∀ W, _) := fun W => rows_any s W hs
  cases ho : okL s.data.toList with
  | false =>
    have HV : Hid (inL s.data.toList b = false) := inL_no ho b
    rw [ho] at HR
    clear ho
    generalize str (rowsS s) = t at *
    go_enter Tryd.func31, Tryd.ntmps31
    go_wp2_with (go_at_call 62; refine (HR.out _).mono ?_; rintro e w1 ⟨rfl, hb1⟩)
    go_loopw [7] (fun iv wr => iv = .int .i64 0 ∧ wr = w1) (fun _ _ => 0)
    case atStart => exact ⟨rfl, rfl⟩
    case round =>
      obtain ⟨rfl, hwr⟩ := hrel
      rw [hwr]
      clear hwr
      by_cases h1 : 1 < t.size
      · have h2 : (1 : Int) < (t.size : Int) := by omega
        go_wp2
        go_ret
        rw [HV.out]
        exact ⟨rfl, hb1⟩
      · have h2 : ¬ (1 : Int) < (t.size : Int) := by omega
        go_wp2
        go_ret
        rw [HV.out]
        exact ⟨rfl, hb1⟩
  | true =>
    obtain ⟨rs, hrs⟩ : ∃ rs, rowsL s.data.toList = some rs := by
      cases hr : rowsL s.data.toList with
      | none => rw [okL, hr] at ho; cases ho
      | some rs => exact ⟨rs, rfl⟩
    have HG : Hid (∀ p ∈ rs, GoodR p) := (rowsL_good _ _ (Nat.le_refl _) rs hrs).1
    have hle : rs.length ≤ 1048576 := by
      have h1 := (rowsV_some hrs).1
      have : ∀ (n : Nat) (l : List UInt8), l.length ≤ n → ∀ rs, rowsL l = some rs → rs.length ≤ l.length := by
        intro n
        induction n with
        | zero =>
          intro l hl rs h
          obtain rfl : l = [] := List.length_eq_zero_iff.1 (by omega)
          simp [rowsL] at h
          subst h
          simp
        | succ n ih =>
          intro l hl rs h
          match l, hl, h with
          | [], _, h =>
            simp [rowsL] at h
            subst h
            simp
          | a :: r, hl, h =>
            cases ha : okb a.toNat with
            | false => rw [rowsL_bad a r ha] at h; cases h
            | true =>
              by_cases hc : ∃ b c q, r = b :: c :: q ∧ b.toNat = 45
              · obtain ⟨b, c, q, rfl, hb⟩ := hc
                cases hr : rowOk a.toNat c.toNat with
                | false => rw [rowsL_norow a b c q hb hr] at h; cases h
                | true =>
                  rw [rowsL_row a b c q ha hb hr] at h
                  cases hq : rowsL q with
                  | none => rw [hq] at h; cases h
                  | some qs =>
                    rw [hq] at h
                    obtain rfl := Option.some.inj h
                    have := ih q (by simp at hl; omega) qs hq
                    simp
                    omega
              · rw [rowsL_one a r ha (fun b c q e hb => hc ⟨b, c, q, e, hb⟩)] at h
                cases hq : rowsL r with
                | none => rw [hq] at h; cases h
                | some qs =>
                  rw [hq] at h
                  obtain rfl := Option.some.inj h
                  have := ih r (by simp at hl; omega) qs hq
                  simp
                  omega
      have h2 := this _ _ (Nat.le_refl _) rs hrs
      have h3 : s.data.toList.length = s.size := by simp
      omega
    have HI : Hid (inL s.data.toList b = inR rs b) := inL_rows hrs ho b
    have HAt : Hid (∀ j (h : j < rs.length), (∃ h0 : 2 * j < (str (rb rs)).size, (str (rb rs))[2 * j].toNat = rs[j].1) ∧ ∃ h1 : 2 * j + 1 < (str (rb rs)).size, (str (rb rs))[2 * j + 1].toNat = rs[j].2) := fun j h => by
      obtain ⟨⟨h0, e0⟩, ⟨h1, e1⟩⟩ := rb_at rs HG.out j h
      exact ⟨⟨by rw [str_size]; exact h0, e0⟩, ⟨by rw [str_size]; exact h1, e1⟩⟩
    have hsz : (str (rb rs)).size = 2 * rs.length := by rw [str_size, rb_len]
    rw [ho, (rowsV_some hrs).1] at HR
    clear ho hrs
    generalize str (rb rs) = t at *
    go_enter Tryd.func31, Tryd.ntmps31
    go_wp2_with (go_at_call 62; refine (HR.out _).mono ?_; rintro e w1 ⟨rfl, hb1⟩)
    go_loopw [7] (fun iv wr => ∃ j : Nat, iv = .int .i64 ((2 * j : Nat) : Int) ∧ j ≤ rs.length ∧ (∀ i (h : i < rs.length), i < j → ¬ (rs[i].1 ≤ b ∧ b ≤ rs[i].2)) ∧ wr = w1) (fun iv _ => 2 * rs.length - (intOf iv).toNat)
    case atStart => exact ⟨0, rfl, Nat.zero_le _, fun i _ h => by omega, rfl⟩
    case round =>
      obtain ⟨j, rfl, hj, hno, hwr⟩ := hrel
      rw [hwr]
      clear hwr
      have HNo : Hid (∀ i (h : i < rs.length), i < j → ¬ (rs[i].1 ≤ b ∧ b ≤ rs[i].2)) := hno
      clear hno
      by_cases hlt : j < rs.length
      · obtain ⟨⟨h0, e0⟩, ⟨h1, e1⟩⟩ := HAt.out j hlt
        have hu0 := t[2 * j].toNat_lt
        have hu1 := t[2 * j + 1].toNat_lt
        by_cases ha : t[2 * j].toNat ≤ b
        · by_cases hc : b ≤ t[2 * j + 1].toNat
          · have HV : Hid (inL s.data.toList b = true) := by
              rw [Hid, HI.out, inR_iff]
              exact ⟨rs[j], List.getElem_mem _, by omega, by omega⟩
            clear e0 e1
            go_wp2
            go_ret
            rw [HV.out]
            exact ⟨rfl, hb1⟩
          · have HN : Hid (∀ i (h : i < rs.length), i < j + 1 → ¬ (rs[i].1 ≤ b ∧ b ≤ rs[i].2)) := fun i h hi => by
              by_cases hij : i = j
              · subst hij; omega
              · exact HNo.out i h (by omega)
            clear e0 e1
            go_wp2
            go_roundw
            case rel => exact ⟨j + 1, by go_num, by omega, HN.out, (by first | rfl | trivial)⟩
            case measure => simp [intOf]; omega
        · have HN : Hid (∀ i (h : i < rs.length), i < j + 1 → ¬ (rs[i].1 ≤ b ∧ b ≤ rs[i].2)) := fun i h hi => by
            by_cases hij : i = j
            · subst hij; omega
            · exact HNo.out i h (by omega)
          clear e0 e1
          go_wp2
          go_roundw
          case rel => exact ⟨j + 1, by go_num, by omega, HN.out, (by first | rfl | trivial)⟩
          case measure => simp [intOf]; omega
      · obtain rfl : j = rs.length := by omega
        have HV : Hid (inL s.data.toList b = false) := by
          rw [Hid, HI.out, Bool.eq_false_iff, ne_eq, inR_iff]
          rintro ⟨p, hp, h1, h2⟩
          obtain ⟨i, hi, rfl⟩ := List.getElem_of_mem hp
          exact HNo.out i hi hi ⟨h1, h2⟩
        go_wp2
        go_ret
        rw [HV.out]
        exact ⟨rfl, hb1⟩

set_option maxHeartbeats 1600000 in
set_option maxRecDepth 100000 in
theorem specSetBytes_any (s : ByteArray) (w : World) (hs : s.size ≤ 1048576) :
    Calls Tryd.prog 25 #[.string s] w fun e w' => e = .returned (.string (str (bytesB (inL s.data.toList)))) ∧ Below w.heap.size w w' := by
  have HI : Hid (∀ b W, b < 256 → _) := fun b W h => specInSet_any s b h W hs
  have HE : Hid (bytesB (inL s.data.toList) = pre (cellB UInt8.ofNat (inL s.data.toList)) 256) := rfl
  generalize inL s.data.toList = f at *
  go_enter Tryd.func25, Tryd.ntmps25
  go_wp2
  go_loopw [3, 4] (fun tv iv wr => ∃ b : Nat, tv = .string (str (pre (cellB UInt8.ofNat f) b)) ∧ iv = .int .i64 b ∧ b ≤ 256 ∧ Below w.heap.size w wr) (fun _ iv _ => 256 - (intOf iv).toNat)
  case atStart => exact ⟨0, rfl, rfl, by omega, Below.refl _ _⟩
  case round =>
    obtain ⟨b, rfl, rfl, hb, hbel⟩ := hrel
    have HB : Hid (Below w.heap.size w wr) := hbel
    clear hbel
    by_cases hlt : b < 256
    · have hlt' : (b : Int) < 256 := by omega
      have HB1 : Hid (∀ w1, Below wr.heap.size wr w1 → Below w.heap.size w w1 ∧ w.heap.size ≤ w1.heap.size) := fun w1 h => by
        have h2 := HB.out.trans (h.mono HB.out.size)
        exact ⟨h2, h2.size⟩
      cases hf : f b with
      | true =>
        have HP : Hid (pre (cellB UInt8.ofNat f) b ++ [byteI (b : Int)] = pre (cellB UInt8.ofNat f) (b + 1)) := by
          rw [Hid, pre_succ, cellB_yes hf, byteI, Int.toNat_natCast]
        have hlen := pre_len 1 (cellB_len UInt8.ofNat f) b
        have hcv := fun W => run_one_string (P := Tryd.prog) W 22 9 5 (b : Int) (by omega) (by omega) Tryd.underlying22 Tryd.underlying5 Tryd.underlying9
        have hadd := fun W => run_add_str (P := Tryd.prog) W (pre (cellB UInt8.ofNat f) b) [byteI (b : Int)] (by simp; omega)
        go_wp2_with (go_at_call 31; refine (HI.out b _ hlt).mono ?_; rw [hf]; rintro e w1 ⟨rfl, hb1⟩)
        obtain ⟨hB, hS⟩ := HB1.out w1 hb1
        have HB2 : Hid (∀ o, Below w.heap.size w (w1.alloc o)) := fun o => hB.alloc hS o
        go_roundw
        case rel => exact ⟨b + 1, by rw [HP.out], by go_num, by omega, HB2.out _⟩
        case measure => simp [intOf]; omega
      | false =>
        have HP : Hid (pre (cellB UInt8.ofNat f) b = pre (cellB UInt8.ofNat f) (b + 1)) := by
          rw [Hid, pre_succ, cellB_none hf, List.append_nil]
        go_wp2_with (go_at_call 31; refine (HI.out b _ hlt).mono ?_; rw [hf]; rintro e w1 ⟨rfl, hb1⟩)
        have HB2 : Hid (Below w.heap.size w w1) := (HB1.out w1 hb1).1
        go_roundw
        case rel => exact ⟨b + 1, by rw [HP.out], by go_num, by omega, HB2.out⟩
        case measure => simp [intOf]; omega
    · obtain rfl : b = 256 := by omega
      go_wp2
      go_ret
      rw [HE.out]
      exact ⟨rfl, HB.out⟩

end Go.Proofs.YtokgkjfgknjbbaaDoor
