/- The specification's SetOf, JoinSets and MeetSets. -/
import Derived.Test.YtokgkjfgknjbbaaDoorSetSpec2
import Derived.Laws.OwnMore
import Derived.OwnWalk
import Derived.Deep.Onto
namespace Go.Proofs.YtokgkjfgknjbbaaDoor
open Go.RowKit

theorem Tryd.infoB : (Tryd.prog.info? 4).map (fun i => (i.zero, i.size, i.bytes)) = some (some (.bool false), 1, 1) := by kernel_rfl

/-- Flags as they lie in memory. -/
def flV (m : List Bool) : List Value := m.map .bool
def OwnB5 (B : Nat) (v : Value) (m : List Bool) (w : World) : Prop := w.ownsRow B 4 1 v m.length (flV m)
theorem OwnB5.below {B : Nat} {v : Value} {m : List Bool} {w w' : World} (h : OwnB5 B v m w) (hb : Below w.heap.size w w') : OwnB5 B v m w' :=
  World.ownsRow.kept h (row := none) ⟨hb.os, hb.tape, hb.output, hb.size, fun k hk _ => hb.block k hk⟩ (by
    cases hv : v.ownBlock with
    | none => exact .inl rfl
    | some k => exact .inr (fun e => by cases e))
theorem OwnB5.at {B g n cap : Nat} {m : List Bool} {w : World} (h : OwnB5 B (.slice (some ⟨g, 0, none⟩) n cap) m w) {k : Nat} (hk : k < m.length) : w.cell? ⟨g, k, none⟩ = some (.bool m[k]) ∧ w.frozen? ⟨g, k, none⟩ = false := by
  have e : n = m.length := by
    rcases h.2 with ⟨h', _⟩ | ⟨g', cap', cur, h', _⟩ <;> cases h'
    rfl
  subst e
  have h1 := World.ownsRow.cells h (g := g) rfl k (.bool m[k]) (by simp [flV, hk])
  rw [Addr.add_lit, Nat.zero_add] at h1
  exact ⟨h1, World.ownsRow.frozenAt h k⟩
theorem OwnB5.set {B g n cap : Nat} {m : List Bool} {w : World} (h : OwnB5 B (.slice (some ⟨g, 0, none⟩) n cap) m w) (k : Nat) (b : Bool) : OwnB5 B (.slice (some ⟨g, 0, none⟩) n cap) (m.set k b) (w.setCell ⟨g, k, none⟩ (.bool b)) := by
  have e : n = m.length := by
    rcases h.2 with ⟨h', _⟩ | ⟨g', cap', cur, h', _⟩ <;> cases h'
    rfl
  subst e
  have s1 := (World.ownsRow.stored h k (.bool b)).1
  have e2 : flV (m.set k b) = (flV m).set k (.bool b) := by simp [flV]
  unfold OwnB5
  rw [List.length_set, e2]
  exact s1
theorem made_flags5 {B g n : Nat} {w : World} (h : w.ownsRow B 4 1 (.slice (some ⟨g, 0, none⟩) n n) n (madeCells (Value.bool false).cells (n * 1)).toList) : OwnB5 B (.slice (some ⟨g, 0, none⟩) n n) (List.replicate n false) w := by
  rw [Nat.mul_one, show (Value.bool false).cells = #[.bool false] from rfl, toList_madeCells_one] at h
  unfold OwnB5
  rw [flV, List.map_replicate, List.length_replicate]
  exact h

/-- Which bytes a text has. -/
def flags (l : List UInt8) : List Bool := (List.range 257).map (memB l)
theorem flags_len (l : List UInt8) : (flags l).length = 257 := by simp [flags]
theorem flags_at (l : List UInt8) (k : Nat) (h : k < (flags l).length) : (flags l)[k] = memB l k := by simp [flags]
theorem flags_nil : List.replicate 257 false = flags [] := by
  apply List.ext_getElem
  · rw [List.length_replicate, flags_len]
  · intro i h1 h2
    rw [List.getElem_replicate, flags_at]
    rfl
theorem flags_set (l : List UInt8) (u : UInt8) : (flags l).set u.toNat true = flags (l ++ [u]) := by
  apply List.ext_getElem
  · simp [flags]
  · intro i h1 h2
    rw [List.getElem_set, flags_at _ _ (by simpa [flags] using h1), flags_at, memB_app]
    simp only [memB, List.any_cons, List.any_nil, Bool.or_false]
    by_cases h : u.toNat = i
    · simp [h]
    · simp [h]

theorem run_three_string {P : Program} (w : World) (src dst e : TypeId) (a c : Nat) (ha : a < 256) (hc : c < 256) (hs : P.underlying src = some (.slice e)) (he : P.underlying e = some (.int .u8)) (hd : P.underlying dst = some .string) :
    (convert src dst (.slice (some ⟨w.heap.size, 0, none⟩) 3 3)).run P (w.alloc (.cells #[.int .u8 (a : Int), .int .u8 45, .int .u8 (c : Int)] e)) = .ok (.string (str [UInt8.ofNat a, 45, UInt8.ofNat c])) (w.alloc (.cells #[.int .u8 (a : Int), .int .u8 45, .int .u8 (c : Int)] e)) := by
  have := run_some_string (P := P) w src dst e [UInt8.ofNat a, 45, UInt8.ofNat c] 3 hs he hd
  rw [show bv [UInt8.ofNat a, 45, UInt8.ofNat c] = [.int .u8 ((UInt8.ofNat a).toNat : Int), .int .u8 45, .int .u8 ((UInt8.ofNat c).toNat : Int)] from rfl, toNat_ofNat a ha, toNat_ofNat c hc] at this
  exact this

set_option maxHeartbeats 3200000 in
set_option maxRecDepth 100000 in
theorem specSetOf_any (s : ByteArray) (w : World) (hs : s.size ≤ 1048576) :
    Calls Tryd.prog 27 #[.string s] w fun e w' => e = .returned (pairV (setOfP s.data.toList)) ∧ Below w.heap.size w w' := by
  obtain ⟨i0, hi, hz0, hz1, hz2⟩ := info_parts Tryd.infoB
  have HLn : Hid (s.data.toList.length = s.size) := by simp [Hid]
  go_enter Tryd.func27, Tryd.ntmps27
  go_wp2_with (at_make; refine wpList_make_full _ rfl _ _ 83 rfl w.heap.size 4 i0 _ 1 Tryd.underlying83 hi hz0 hz1 .i64 .i64 _ _ 257 rfl rfl rfl rfl (by rw [hz2]; omega) (by unfold maxLen; omega) (Nat.le_refl _) ?_; intro w1 hown hg1)
  have HO1 : Hid (OwnB5 w.heap.size (.slice (some ⟨w.heap.size, 0, none⟩) 257 257) (flags []) w1) := by rw [Hid, ← flags_nil]; exact made_flags5 hown
  have HB1 : Hid (Below w.heap.size w w1) := (Below.refl _ _).grown hg1 (Nat.le_refl _) (fun k h => by cases h)
  clear hown hg1
  go_loopw [5] (fun iv wr => ∃ k : Nat, iv = .int .i64 k ∧ k ≤ s.size ∧ (s.data.toList.take k).all (fun u => okb u.toNat) = true ∧ OwnB5 w.heap.size (.slice (some ⟨w.heap.size, 0, none⟩) 257 257) (flags (s.data.toList.take k)) wr ∧ Below w.heap.size w wr) (fun iv _ => s.size - (intOf iv).toNat)
  case atStart => exact ⟨0, rfl, Nat.zero_le _, rfl, HO1.out, HB1.out⟩
  case round =>
    obtain ⟨k, rfl, hk, hall, hown, hbel⟩ := hrel
    have HAll : Hid ((s.data.toList.take k).all (fun u => okb u.toNat) = true) := hall
    have HO : Hid (OwnB5 w.heap.size (.slice (some ⟨w.heap.size, 0, none⟩) 257 257) (flags (s.data.toList.take k)) wr) := hown
    have HB : Hid (Below w.heap.size w wr) := hbel
    clear hall hown hbel HO1 HB1
    by_cases hlt : k < s.size
    · have hu := s[k].toNat_lt
      have htk : s.data.toList.take (k + 1) = s.data.toList.take k ++ [s[k]] := by
        rw [List.take_succ_eq_append_getElem (by rw [HLn.out]; exact hlt)]
        rfl
      cases ho : okb s[k].toNat with
      | false =>
        have HV : Hid (pairV (setOfP s.data.toList) = .tuple #[.string (str []), .bool false]) := by
          rw [Hid, setOfP, if_neg]
          · rfl
          · intro h
            have := List.all_eq_true.1 h (s.data.toList[k]'(by rw [HLn.out]; exact hlt)) (List.getElem_mem _)
            rw [show (s.data.toList[k]'(by rw [HLn.out]; exact hlt)) = s[k] from rfl, ho] at this
            cases this
        clear htk
        go_wp2_with (go_at_call 60; refine (byte5_any _ (by omega) _).mono ?_; rw [ho]; rintro e wq ⟨rfl, hw⟩; rw [hw]; clear hw)
        go_ret2
        rw [HV.out]
        exact ⟨rfl, HB.out⟩
      | true =>
        have HA2 : Hid ((s.data.toList.take (k + 1)).all (fun u => okb u.toNat) = true) := by
          rw [Hid, htk, List.all_append, HAll.out]
          simp [ho]
        obtain ⟨hc, hf⟩ := HO.out.at (k := s[k].toNat) (by rw [flags_len]; omega)
        have HOs : Hid (OwnB5 w.heap.size (.slice (some ⟨w.heap.size, 0, none⟩) 257 257) (flags (s.data.toList.take (k + 1))) (wr.setCell ⟨w.heap.size, s[k].toNat, none⟩ (.bool true))) := by
          rw [Hid, htk, ← flags_set]
          exact HO.out.set _ _
        have HBs : Hid (Below w.heap.size w (wr.setCell ⟨w.heap.size, s[k].toNat, none⟩ (.bool true))) := HB.out.setCell (Nat.le_refl _) _
        clear htk
        go_wp2_with (go_at_call 60; refine (byte5_any _ (by omega) _).mono ?_; rw [ho]; rintro e wq ⟨rfl, hw⟩; rw [hw]; clear hw)
        go_roundw
        case rel => exact ⟨k + 1, by go_num, by omega, HA2.out, HOs.out, HBs.out⟩
        case measure => simp [intOf]; omega
    · obtain rfl : k = s.size := by omega
      have htk : s.data.toList.take s.size = s.data.toList := by rw [← HLn.out, List.take_length]
      have hall := HAll.out
      have hown := HO.out
      rw [htk] at hall hown
      have HO : Hid (OwnB5 w.heap.size (.slice (some ⟨w.heap.size, 0, none⟩) 257 257) (flags s.data.toList) wr) := hown
      have HSup : Hid (Sup (memB s.data.toList)) := memB_sup hall
      have HV : Hid (setOfP s.data.toList = toldP (memB s.data.toList)) := by rw [Hid, setOfP, if_pos hall]
      have HFl : Hid (∀ W, OwnB5 w.heap.size (.slice (some ⟨w.heap.size, 0, none⟩) 257 257) (flags s.data.toList) W → ∀ b, b < 257 → W.cell? ⟨w.heap.size, b, none⟩ = some (.bool (memB s.data.toList b))) := fun W h b hb => by
        have := (h.at (k := b) (by rw [flags_len]; exact hb)).1
        rw [flags_at] at this
        exact this
      clear hall hown htk HAll
      generalize memB s.data.toList = f at *
      generalize flags s.data.toList = fl at *
      go_wp2
      go_loopw [6, 7] (fun tv bv ww => ∃ b : Nat, tv = .string (str (pre (cellT UInt8.ofNat f) b)) ∧ bv = .int .i64 b ∧ b ≤ 256 ∧ (0 < b → f b = true → f (b - 1) = false) ∧ OwnB5 w.heap.size (.slice (some ⟨w.heap.size, 0, none⟩) 257 257) fl ww ∧ Below w.heap.size w ww) (fun _ bv _ => 256 - (intOf bv).toNat)
      case atStart => exact ⟨0, rfl, rfl, by omega, fun h => absurd h (by omega), HO.out, HB.out⟩
      case round =>
        obtain ⟨b, rfl, rfl, hb, hbound, hown, hbel⟩ := hrel
        have HOb : Hid (OwnB5 w.heap.size (.slice (some ⟨w.heap.size, 0, none⟩) 257 257) fl wr) := hown
        have HBb : Hid (Below w.heap.size w wr) := hbel
        have hsz := hbel.size
        have HBd : Hid (0 < b → f b = true → f (b - 1) = false) := hbound
        clear hown hbel hbound HO HB
        have hlen := pre_len 2 (cellT_len UInt8.ofNat f) b
        by_cases hlt : b < 256
        · have hlt' : (b : Int) < 256 := by omega
          have hcb := HFl.out _ HOb.out b (by omega)
          cases hf : f b with
          | false =>
            rw [hf] at hcb
            have HP : Hid (pre (cellT UInt8.ofNat f) b = pre (cellT UInt8.ofNat f) (b + 1)) := by rw [Hid, pre_succ, cellT_none hf, List.append_nil]
            have HNx : Hid (0 < b + 1 → f (b + 1) = true → f (b + 1 - 1) = false) := fun _ _ => hf
            go_wp2
            go_roundw
            case rel => exact ⟨b + 1, by rw [HP.out], by go_num, by omega, HNx.out, HOb.out, HBb.out⟩
            case measure => simp [intOf]; omega
          | true =>
            rw [hf] at hcb
            have HFb : Hid (f b = true) := hf
            have hob := (okb_iff b).1 (HSup.out b hf)
            clear hf
            go_wp2
            go_loopw [8] (fun ev ww => ∃ e : Nat, ev = .int .i64 e ∧ b ≤ e ∧ (∀ i, b ≤ i → i ≤ e → f i = true) ∧ OwnB5 w.heap.size (.slice (some ⟨w.heap.size, 0, none⟩) 257 257) fl ww ∧ Below w.heap.size w ww) (fun ev _ => 256 - (intOf ev).toNat)
            case atStart => exact ⟨b, rfl, Nat.le_refl _, fun i h1 h2 => by rw [show i = b by omega]; exact HFb.out, HOb.out, HBb.out⟩
            case round =>
              obtain ⟨e, rfl, hbe, hrun, hown, hbel⟩ := hrel
              clear HOb HBb hsz hcb
              have HOb : Hid (OwnB5 w.heap.size (.slice (some ⟨w.heap.size, 0, none⟩) 257 257) fl wr) := hown
              have HBb : Hid (Below w.heap.size w wr) := hbel
              have hsz := hbel.size
              clear hown hbel
              have HRun : Hid (∀ i, b ≤ i → i ≤ e → f i = true) := hrun
              have hoe := (okb_iff e).1 (HSup.out e (hrun e hbe (Nat.le_refl _)))
              clear hrun
              have hce := HFl.out _ HOb.out (e + 1) (by omega)
              have i3 : ((e : Int) + 1) < 257 := by omega
              cases hfe : f (e + 1) with
              | true =>
                rw [hfe] at hce
                have HN : Hid (∀ i, b ≤ i → i ≤ e + 1 → f i = true) := fun i h1 h2 => by
                  by_cases h3 : i = e + 1
                  · rw [h3]; exact hfe
                  · exact HRun.out i h1 (by omega)
                go_wp2
                go_roundw
                case rel => exact ⟨e + 1, by go_num, by omega, HN.out, HOb.out, HBb.out⟩
                case measure => simp [intOf]; omega
              | false =>
                rw [hfe] at hce
                have HNx : Hid (0 < e + 1 → f (e + 1) = true → f (e + 1 - 1) = false) := fun _ h => by rw [hfe] at h; cases h
                by_cases hlong : b + 2 ≤ e
                · have HP : Hid (pre (cellT UInt8.ofNat f) b ++ [UInt8.ofNat b, 45, UInt8.ofNat e] = pre (cellT UInt8.ofNat f) (e + 1)) := (pre_row UInt8.ofNat f HRun.out hlong (fun h => HBd.out h HFb.out) hfe).symm
                  have hcv := fun W => run_three_string (P := Tryd.prog) W 22 9 5 b e (by omega) (by omega) Tryd.underlying22 Tryd.underlying5 Tryd.underlying9
                  have hadd := fun W => run_add_str (P := Tryd.prog) W (pre (cellT UInt8.ofNat f) b) [UInt8.ofNat b, 45, UInt8.ofNat e] (by simp; omega)
                  have HB2 : Hid (∀ o, Below w.heap.size w (wr.alloc o) ∧ OwnB5 w.heap.size (.slice (some ⟨w.heap.size, 0, none⟩) 257 257) fl (wr.alloc o)) := fun o => ⟨HBb.out.alloc hsz o, HOb.out.below ((Below.refl _ _).alloc (Nat.le_refl _) o)⟩
                  go_wp2
                  go_roundw
                  case rel => exact ⟨e + 1, by rw [← HP.out], by go_num, by omega, HNx.out, (HB2.out _).2, (HB2.out _).1⟩
                  case measure => simp [intOf]; omega
                · have hshort : e < b + 2 := by omega
                  have HFe : Hid (f (e + 1) = false) := hfe
                  clear hfe
                  go_wp2
                  clear hce
                  go_loopw [6, 9] (fun tv kv ww => ∃ k : Nat, tv = .string (str (pre (cellT UInt8.ofNat f) k)) ∧ kv = .int .i64 k ∧ b ≤ k ∧ k ≤ e + 1 ∧ OwnB5 w.heap.size (.slice (some ⟨w.heap.size, 0, none⟩) 257 257) fl ww ∧ Below w.heap.size w ww) (fun _ kv _ => e + 1 - (intOf kv).toNat)
                  case atStart => exact ⟨b, rfl, rfl, Nat.le_refl _, by omega, HOb.out, HBb.out⟩
                  case round =>
                    obtain ⟨k, rfl, rfl, hbk, hke, hown, hbel⟩ := hrel
                    have HOk : Hid (OwnB5 w.heap.size (.slice (some ⟨w.heap.size, 0, none⟩) 257 257) fl wr) := hown
                    have HBk : Hid (Below w.heap.size w wr) := hbel
                    have hszk := hbel.size
                    clear hown hbel
                    by_cases hkl : k ≤ e
                    · have hlenk := pre_len 2 (cellT_len UInt8.ofNat f) k
                      have hone : pre (cellT UInt8.ofNat f) (k + 1) = pre (cellT UInt8.ofNat f) k ++ [UInt8.ofNat k] := by
                        refine pre_one UInt8.ofNat f (HRun.out k hbk hkl) ?_ ?_
                        · by_cases h1 : k = e
                          · rw [h1, HFe.out]; rfl
                          · rw [show k + 2 = e + 1 by omega, HFe.out]; simp
                        · by_cases h1 : k = e
                          · rw [h1, HFe.out]; simp
                          · obtain rfl : k = b := by omega
                            by_cases h0 : 0 < k
                            · rw [HBd.out h0 HFb.out]; simp
                            · simp [h0]
                      have HP : Hid (pre (cellT UInt8.ofNat f) k ++ [byteI (k : Int)] = pre (cellT UInt8.ofNat f) (k + 1)) := by rw [Hid, hone, byteI, Int.toNat_natCast]
                      have hcv := fun W => run_one_string (P := Tryd.prog) W 22 9 5 (k : Int) (by omega) (by omega) Tryd.underlying22 Tryd.underlying5 Tryd.underlying9
                      have hadd := fun W => run_add_str (P := Tryd.prog) W (pre (cellT UInt8.ofNat f) k) [byteI (k : Int)] (by simp; omega)
                      have HB2 : Hid (∀ o, Below w.heap.size w (wr.alloc o) ∧ OwnB5 w.heap.size (.slice (some ⟨w.heap.size, 0, none⟩) 257 257) fl (wr.alloc o)) := fun o => ⟨HBk.out.alloc hszk o, HOk.out.below ((Below.refl _ _).alloc (Nat.le_refl _) o)⟩
                      clear hone
                      go_wp2
                      go_roundw
                      case rel => exact ⟨k + 1, by rw [HP.out], by go_num, by omega, by omega, (HB2.out _).2, (HB2.out _).1⟩
                      case measure => simp [intOf]; omega
                    · obtain rfl : k = e + 1 := by omega
                      go_wp2
                      go_roundw
                      case rel => exact ⟨e + 1, rfl, by go_num, by omega, HNx.out, HOk.out, HBk.out⟩
                      case measure => simp [intOf]; omega
        · obtain rfl : b = 256 := by omega
          have HE : Hid (textB f = pre (cellT UInt8.ofNat f) 256) := rfl
          have hok := fun W => specSetOk_any (str (textB f)) W (by rw [str_size]; have := text_len f; omega)
          rw [str_list] at hok
          have HOk : Hid (∀ W, _) := hok
          rw [HE.out] at HOk
          clear hok
          cases ho : okL (textB f) with
          | true =>
            have HV2 : Hid (pairV (toldP f) = .tuple #[.string (str (pre (cellT UInt8.ofNat f) 256)), .bool true]) := by rw [Hid, toldP, ho]; rfl
            rw [HE.out] at ho
            rw [ho] at HOk
            clear ho HE
            generalize pre (cellT UInt8.ofNat f) 256 = t at *
            go_wp2_with (go_at_call 30; refine (HOk.out _).mono ?_; rintro e w2 ⟨rfl, hb2⟩)
            go_ret2
            rw [HV.out, HV2.out]
            exact ⟨rfl, HBb.out.trans (hb2.mono hsz)⟩
          | false =>
            have HV2 : Hid (pairV (toldP f) = .tuple #[.string (str []), .bool false]) := by rw [Hid, toldP, ho]; rfl
            rw [HE.out] at ho
            rw [ho] at HOk
            clear ho HE
            generalize pre (cellT UInt8.ofNat f) 256 = t at *
            go_wp2_with (go_at_call 30; refine (HOk.out _).mono ?_; rintro e w2 ⟨rfl, hb2⟩)
            go_ret2
            rw [HV.out, HV2.out]
            exact ⟨rfl, HBb.out.trans (hb2.mono hsz)⟩

end Go.Proofs.YtokgkjfgknjbbaaDoor
