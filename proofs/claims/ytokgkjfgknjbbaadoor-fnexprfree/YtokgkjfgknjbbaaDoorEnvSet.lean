/- EnvSet of the specification. -/
import Derived.Test.YtokgkjfgknjbbaaDoorVKit
import Derived.Laws.AppendOwnNone
namespace Go.Proofs.YtokgkjfgknjbbaaDoor
open Go.RowKit

def ltS (a b : ByteArray) : Bool := Op.bytesLess a.toList b.toList
/-- Greater, as the program asks it. -/
def gtS (a b : ByteArray) : Bool := !(Op.bytesLess a.toList b.toList || a.toList == b.toList)
/-- With this number, in its place. -/
def putB (xs : List VarD) (name : ByteArray) (num : Int) : List VarD := xs.filter (fun x => ltS x.1 name) ++ [(name, num)] ++ xs.filter (fun x => gtS x.1 name)

/-- What EnvSet leaves, and whether it is right. -/
def setOk (xs : List VarD) (name : ByteArray) (num : Int) : Bool := envB (putB xs name num)
def setL (xs : List VarD) (name : ByteArray) (num : Int) : List VarD := if envB (putB xs name num) = true then putB xs name num else xs
theorem setL_yes {xs : List VarD} {name : ByteArray} {num : Int} (h : envB (putB xs name num) = true) : setL xs name num = putB xs name num := if_pos h
theorem setL_no {xs : List VarD} {name : ByteArray} {num : Int} (h : envB (putB xs name num) = false) : setL xs name num = xs := if_neg (by simp [h])

theorem two_at (w : World) (x y : Value) (t : TypeId) : ∀ j u, [x, y][j]? = some u → (w.alloc (.cells #[x, y] t)).cell? ((⟨w.heap.size, 0, none⟩ : Addr).add j) = some u := by
  intro j u h
  have hb : (w.alloc (.cells #[x, y] t)).heap[w.heap.size]? = some (.cells #[x, y] t) := heap_alloc_new w _
  rw [Addr.add_lit, Nat.zero_add, cell_of_row _ _ j _ _ _ hb]
  simpa using h
theorem two_cell (s : ByteArray) (n : Int) : ∀ u ∈ [Value.string s, Value.int .i64 n], u.oneCell' = true := by
  intro u hu
  rcases List.mem_cons.1 hu with rfl | hu
  · rfl
  · rcases List.mem_cons.1 hu with rfl | hu
    · rfl
    · cases hu

/-- A list that grows: what an append of one more leaves. -/
theorem ownV_snoc {B : Nat} {o v' : Value} {ys : List VarD} {x : VarD} {wr w2 : World} {ob : Obj} (hown2 : w2.ownsRow B 68 2 v' (ys.length + 1) (vv ys ++ [.string x.1, .int .i64 x.2])) (hown : OwnV B o ys wr) (hgrow : (wr.alloc ob).grownBy w2 o.ownBlock)
    {w : World} (hw : B = w.heap.size) (hb : Below w.heap.size w wr) : OwnV B v' (ys ++ [x]) w2 ∧ Below w.heap.size w w2 := by
  subst hw
  refine ⟨?_, ?_⟩
  · rw [OwnV, vv_app, vv_one, List.length_append]
    exact hown2
  · exact (hb.alloc hb.size ob).grown hgrow (by have := hb.size; simp; omega) (fun k hk => (hown.lt k hk).1)

theorem VRow.nil {w : World} {n cap : Nat} {xs : List VarD} (h : VRow w (.slice none n cap) xs) : cap = 0 ∧ xs.length = 0 := by
  obtain ⟨a, c, e, h1, h2⟩ := h
  cases e
  refine ⟨h1 rfl, ?_⟩
  rcases Nat.eq_zero_or_pos xs.length with h | h
  · exact h
  · obtain ⟨_, _, e, _⟩ := h2 h
    cases e
theorem vv_split (xs : List VarD) (j : Nat) (u : Value) (h : (vv xs)[j]? = some u) : ∃ i, ∃ hi : i < xs.length, (j = i * 2 ∧ u = .string xs[i].1) ∨ (j = i * 2 + 1 ∧ u = .int .i64 xs[i].2) := by
  have hj : j < xs.length * 2 := by
    have := (List.getElem?_eq_some_iff.1 h).1
    rwa [vv_len] at this
  refine ⟨j / 2, by omega, ?_⟩
  have := vv_at xs (j / 2) (by omega)
  rcases Nat.mod_two_eq_zero_or_one j with h0 | h0
  · left
    have e : j / 2 * 2 = j := by omega
    rw [e] at this
    exact ⟨e.symm, Option.some.inj (h.symm.trans this.1)⟩
  · right
    have e : j / 2 * 2 + 1 = j := by omega
    rw [e] at this
    exact ⟨e.symm, Option.some.inj (h.symm.trans this.2)⟩
theorem vv_cells (xs : List VarD) : ∀ u ∈ vv xs, u.oneCell' = true := by
  intro u hu
  obtain ⟨j, hj, rfl⟩ := List.getElem_of_mem hu
  obtain ⟨i, hi, h | h⟩ := vv_split xs j _ (List.getElem?_eq_getElem hj)
  · rw [h.2]; rfl
  · rw [h.2]; rfl
/-- The cells of a list, behind a new block. -/
theorem VRow.news {w : World} {ad : Addr} {n cap : Nat} {xs : List VarD} (h : VRow w (.slice (some ad) n cap) xs) (o : Obj) : ∀ j u, (vv xs)[j]? = some u → (w.alloc o).cell? (ad.add j) = some u := by
  intro j u hu
  have hb := (Below.refl w.heap.size w).alloc (Nat.le_refl _) o
  obtain ⟨i, hi, hh⟩ := vv_split xs j u hu
  obtain ⟨b, off, e, h1, h2⟩ := h.at hi
  cases e
  rw [Addr.add_lit]
  rcases hh with ⟨rfl, rfl⟩ | ⟨rfl, rfl⟩
  · exact cell_keep h1 hb
  · rw [← Nat.add_assoc]; exact cell_keep h2 hb

theorem filt_next (p : VarD → Bool) (xs : List VarD) (k : Nat) (h : k < xs.length) : (xs.take (k + 1)).filter p = (xs.take k).filter p ++ (if p xs[k] = true then [xs[k]] else []) := by
  rw [List.take_succ_eq_append_getElem h, List.filter_append, List.filter_cons, List.filter_nil]

theorem specEnvOk_is (v : Value) (xs : List VarD) (b : Bool) (hb : envB xs = b) (hn : xs.length ≤ 2097153) (hz : ∀ x ∈ xs, x.1.size ≤ 1048576) (w : World) (h : VRow w v xs) :
    Calls Tryd.prog 84 #[v] w fun e w' => e = .returned (.bool b) ∧ ∃ q, w' = w.drewN q := by
  rw [← hb]; exact specEnvOk_any v xs w hn hz h

set_option maxHeartbeats 3200000 in
theorem specEnvSet_any (v : Value) (xs : List VarD) (name : ByteArray) (num : Int) (w : World) (hn : xs.length ≤ 1048576) (hz : ∀ x ∈ xs, x.1.size ≤ 1048576) (hnm : name.size ≤ 1048576) (h : VRow w v xs) :
    Calls Tryd.prog 65 #[v, .string name, .int .i64 num] w fun e w' => ∃ o, e = .returned (.tuple #[o, .bool (setOk xs name num)]) ∧ OwnV w.heap.size o (setL xs name num) w' ∧ Below w.heap.size w w' := by
  obtain ⟨i0, hi, hz0, hz1, hz2⟩ := info_parts Tryd.infoVar
  have HR : Hid (VRow w v xs) := h
  have HZ : Hid (∀ x ∈ xs, x.1.size ≤ 1048576) := hz
  obtain ⟨a, cap, rfl⟩ := h.slice
  obtain ⟨ps, hps⟩ : ∃ ps, putB xs name num = ps := ⟨_, rfl⟩
  have HPs : Hid (putB xs name num = ps) := hps
  clear h hz hps
  go_enter Tryd.func65, Tryd.ntmps65
  go_wp2
  go_loopw [8, 9] (fun ov iv wr => ∃ k : Nat, iv = .int .i64 k ∧ k ≤ xs.length ∧ OwnV w.heap.size ov ((xs.take k).filter (fun x => ltS x.1 name)) wr ∧ Below w.heap.size w wr) (fun _ iv _ => xs.length - (intOf iv).toNat)
  case atStart => exact ⟨0, rfl, Nat.zero_le _, World.ownsRow_made _ _ _ (Nat.le_refl _) (by decide) rfl, (Below.refl _ _).alloc (Nat.le_refl _) _⟩
  case round =>
    obtain ⟨k, rfl, hk, hown, hb⟩ := hrel
    have HO : Hid (OwnV w.heap.size u8 ((xs.take k).filter (fun x => ltS x.1 name)) wr) := hown
    have HB : Hid (Below w.heap.size w wr) := hb
    have HRr : Hid (VRow wr (.slice a xs.length cap) xs) := HR.out.below hb
    clear hb hown
    by_cases hlt : k < xs.length
    · obtain ⟨b, off, rfl, hc1, hc2⟩ := HRr.out.at hlt
      have hfl : ((xs.take k).filter (fun x => ltS x.1 name)).length ≤ k := Nat.le_trans (List.length_filter_le _ _) (by rw [List.length_take]; exact Nat.min_le_left _ _)
      have HF : Hid (_ = _) := filt_next (fun x => ltS x.1 name) xs k hlt
      generalize (xs.take k).filter (fun x => ltS x.1 name) = ys at *
      cases hls : ltS xs[k].1 name with
      | true =>
        have ht : Op.bytesLess xs[k].1.toList name.toList = true := hls
        have HF2 : Hid ((xs.take (k + 1)).filter (fun x => ltS x.1 name) = ys ++ [xs[k]]) := by have := HF.out; rwa [hls, if_pos rfl] at this
        clear hls HF
        go_wp2_with (at_builtin; refine wpList_append_own _ rfl _ _ 28 rfl w.heap.size 68 i0 _ 2 24 Tryd.underlying28 hi hz0 hz1 hz2 rfl (by decide) _ _ _ rfl (World.ownsRow.alloc HO.out _) ⟨wr.heap.size, 0, none⟩ 1 1 [.string xs[k].1, .int .i64 xs[k].2] rfl rfl (two_at _ _ _ _) (two_cell _ _) (by unfold maxLen; omega) (by omega) (by have h8 := HB.out.size; simp; omega) ?_)
        intro v' w2 hown2 hgrow _
        have R := ownV_snoc hown2 HO.out hgrow rfl HB.out
        clear hown2 hgrow
        go_wp2
        go_roundw
        case rel => exact ⟨k + 1, by go_num, by omega, by rw [HF2.out]; exact R.1, R.2⟩
        case measure => simp [intOf]; omega
      | false =>
        have ht : Op.bytesLess xs[k].1.toList name.toList = false := hls
        have HF2 : Hid ((xs.take (k + 1)).filter (fun x => ltS x.1 name) = ys) := by have := HF.out; rwa [hls, if_neg (by simp), List.append_nil] at this
        clear hls HF
        go_wp2
        go_roundw
        case rel => exact ⟨k + 1, by go_num, by omega, by rw [HF2.out]; exact HO.out, HB.out⟩
        case measure => simp [intOf]; omega
    · obtain rfl : k = xs.length := by omega
      rw [List.take_of_length_le (Nat.le_refl _)] at HO
      have hfl : (xs.filter (fun x => ltS x.1 name)).length ≤ xs.length := List.length_filter_le _ _
      generalize hys : xs.filter (fun x => ltS x.1 name) = ys at *
      have HYs : Hid (xs.filter (fun x => ltS x.1 name) = ys) := hys
      clear hys
      go_wp2_with (at_builtin; refine wpList_append_own _ rfl _ _ 28 rfl w.heap.size 68 i0 _ 2 24 Tryd.underlying28 hi hz0 hz1 hz2 rfl (by decide) _ _ _ rfl (World.ownsRow.alloc HO.out _) ⟨wr.heap.size, 0, none⟩ 1 1 [.string name, .int .i64 num] rfl rfl (two_at _ _ _ _) (two_cell _ _) (by unfold maxLen; omega) (by omega) (by have h8 := HB.out.size; simp; omega) ?_)
      intro v' w2 hown2 hgrow _
      have R := ownV_snoc (x := (name, num)) hown2 HO.out hgrow rfl HB.out
      have HO2 : Hid (OwnV w.heap.size v' (ys ++ [(name, num)]) w2) := R.1
      have HB2 : Hid (Below w.heap.size w w2) := R.2
      clear hown2 hgrow R
      go_wp2
      go_loopw [8, 10] (fun ov iv wr => ∃ k : Nat, iv = .int .i64 k ∧ k ≤ xs.length ∧ OwnV w.heap.size ov (ys ++ [(name, num)] ++ (xs.take k).filter (fun x => gtS x.1 name)) wr ∧ Below w.heap.size w wr) (fun _ iv _ => xs.length - (intOf iv).toNat)
      case atStart => exact ⟨0, rfl, Nat.zero_le _, by simpa using HO2.out, HB2.out⟩
      case round =>
        obtain ⟨k, rfl, hk, hown, hb⟩ := hrel
        have HO3 : Hid (OwnV w.heap.size u8 (ys ++ [(name, num)] ++ (xs.take k).filter (fun x => gtS x.1 name)) wr) := hown
        have HB3 : Hid (Below w.heap.size w wr) := hb
        have HR3 : Hid (VRow wr (.slice a xs.length cap) xs) := HR.out.below hb
        clear hb hown
        by_cases hlt : k < xs.length
        · obtain ⟨b, off, rfl, hc1, hc2⟩ := HR3.out.at hlt
          have hf2 : (ys ++ [(name, num)] ++ (xs.take k).filter (fun x => gtS x.1 name)).length ≤ xs.length + 1 + k := by
            have := List.length_filter_le (fun x : VarD => gtS x.1 name) (xs.take k)
            rw [List.length_take] at this
            rw [List.length_append, List.length_append, List.length_singleton]
            omega
          have HF : Hid (ys ++ [(name, num)] ++ (xs.take (k + 1)).filter (fun x => gtS x.1 name) = ys ++ [(name, num)] ++ (xs.take k).filter (fun x => gtS x.1 name) ++ (if gtS xs[k].1 name = true then [xs[k]] else [])) := by
            rw [Hid, filt_next (fun x => gtS x.1 name) xs k hlt, ← List.append_assoc]
          generalize ys ++ [(name, num)] ++ (xs.take k).filter (fun x => gtS x.1 name) = zs at *
          cases hls : gtS xs[k].1 name with
          | true =>
            have ht : (!(Op.bytesLess xs[k].1.toList name.toList || xs[k].1.toList == name.toList)) = true := hls
            have HF2 : Hid (ys ++ [(name, num)] ++ (xs.take (k + 1)).filter (fun x => gtS x.1 name) = zs ++ [xs[k]]) := by have := HF.out; rwa [hls, if_pos rfl] at this
            clear hls HF
            go_wp2_with (at_builtin; refine wpList_append_own _ rfl _ _ 28 rfl w.heap.size 68 i0 _ 2 24 Tryd.underlying28 hi hz0 hz1 hz2 rfl (by decide) _ _ _ rfl (World.ownsRow.alloc HO3.out _) ⟨wr.heap.size, 0, none⟩ 1 1 [.string xs[k].1, .int .i64 xs[k].2] rfl rfl (two_at _ _ _ _) (two_cell _ _) (by unfold maxLen; omega) (by omega) (by have h8 := HB3.out.size; simp; omega) ?_)
            intro v' w2 hown2 hgrow _
            have R := ownV_snoc hown2 HO3.out hgrow rfl HB3.out
            clear hown2 hgrow
            go_wp2
            go_roundw
            case rel => exact ⟨k + 1, by go_num, by omega, by rw [HF2.out]; exact R.1, R.2⟩
            case measure => simp [intOf]; omega
          | false =>
            have ht : (!(Op.bytesLess xs[k].1.toList name.toList || xs[k].1.toList == name.toList)) = false := hls
            have HF2 : Hid (ys ++ [(name, num)] ++ (xs.take (k + 1)).filter (fun x => gtS x.1 name) = zs) := by have := HF.out; rwa [hls, if_neg (by simp), List.append_nil] at this
            clear hls HF
            go_wp2
            go_roundw
            case rel => exact ⟨k + 1, by go_num, by omega, by rw [HF2.out]; exact HO3.out, HB3.out⟩
            case measure => simp [intOf]; omega
        · obtain rfl : k = xs.length := by omega
          rw [List.take_of_length_le (Nat.le_refl _)] at HO3
          have HP : Hid (ys ++ [(name, num)] ++ xs.filter (fun x => gtS x.1 name) = putB xs name num) := by rw [Hid, putB, HYs.out]
          rw [HP.out, HPs.out] at HO3
          have hpl : (putB xs name num).length ≤ 2 * xs.length + 1 := by
            have h1 := List.length_filter_le (fun x : VarD => ltS x.1 name) xs
            have h2 := List.length_filter_le (fun x : VarD => gtS x.1 name) xs
            rw [putB, List.length_append, List.length_append, List.length_singleton]
            omega
          have hpz : ∀ x ∈ putB xs name num, x.1.size ≤ 1048576 := by
            intro x hx
            rw [putB] at hx
            rcases List.mem_append.1 hx with hx | hx
            · rcases List.mem_append.1 hx with hx | hx
              · exact HZ.out x (List.mem_filter.1 hx).1
              · obtain rfl : x = (name, num) := by simpa using hx
                exact hnm
            · exact HZ.out x (List.mem_filter.1 hx).1
          rw [HPs.out] at hpl hpz
          have HZp : Hid (∀ x ∈ ps, x.1.size ≤ 1048576) := hpz
          clear hpz HP
          cases hev : envB ps with
          | true =>
            have HK : Hid (∀ W, _) := specEnvOk_is u8 ps true hev (by omega) HZp.out
            have HV : Hid (setOk xs name num = true) := by rw [Hid, setOk, HPs.out]; exact hev
            have HL : Hid (setL xs name num = ps) := by rw [Hid, setL_yes HV.out]; exact HPs.out
            clear hev
            go_wp2_with fail
            refine (HK.out _ HO3.out.row).mono ?_
            rintro e w5 ⟨rfl, q, hq⟩
            rw [hq]
            clear hq
            go_wp2
            go_ret2
            rw [HV.out, HL.out]
            exact ⟨_, rfl, HO3.out.below (bel_drewN (Below.refl _ _) q), bel_drewN HB3.out q⟩
          | false =>
            have HK : Hid (∀ W, _) := specEnvOk_is u8 ps false hev (by omega) HZp.out
            have HV : Hid (setOk xs name num = false) := by rw [Hid, setOk, HPs.out]; exact hev
            have HL : Hid (setL xs name num = xs) := setL_no HV.out
            clear hev
            go_wp2_with fail
            refine (HK.out _ HO3.out.row).mono ?_
            rintro e w5 ⟨rfl, q, hq⟩
            have HB5 : Hid (Below w.heap.size w w5) := by rw [hq]; exact bel_drewN HB3.out q
            clear hq
            have HR5 : Hid (VRow w5 (.slice a xs.length cap) xs) := HR.out.below HB5.out
            have hown0 : (w5.alloc (.cells #[] 68)).ownsRow w.heap.size 68 2 (.slice (some ⟨w5.heap.size, 0, none⟩) 0 0) 0 [] := World.ownsRow_made _ _ _ HB5.out.size (by decide) rfl
            cases a with
            | none =>
              obtain ⟨rfl, hx0⟩ := VRow.nil HR5.out
              have HX0 : Hid (xs.length = 0) := hx0
              have HX1 : Hid (OwnV w.heap.size (.slice (some ⟨w5.heap.size, 0, none⟩) 0 0) xs (w5.alloc (.cells #[] 68))) := by
                obtain rfl : xs = [] := List.eq_nil_of_length_eq_zero hx0
                exact hown0
              rw [hx0]
              clear hx0
              go_wp2_with (at_builtin; refine wpList_append_own_none rfl _ _ 28 rfl w.heap.size 68 i0 2 Tryd.underlying28 hi _ 0 [] rfl hown0 rfl ?_)
              go_ret2
              rw [HV.out, HL.out]
              exact ⟨_, rfl, HX1.out, HB5.out.alloc HB5.out.size _⟩
            | some ad =>
              have hnews := VRow.news HR5.out (.cells #[] 68)
              go_wp2_with (at_builtin; refine wpList_append_own _ rfl _ _ 28 rfl w.heap.size 68 i0 _ 2 24 Tryd.underlying28 hi hz0 hz1 hz2 rfl (by decide) _ _ _ rfl hown0 ad xs.length cap (vv xs) rfl (vv_len xs) hnews (vv_cells xs) (by unfold maxLen; omega) (by omega) (by have h8 := HB5.out.size; simp; omega) ?_)
              intro v' w6 hown6 hgrow _
              have HO6 : Hid (OwnV w.heap.size v' xs w6) := by
                have := hown6
                first | exact this | (simp only [Nat.zero_add, List.nil_append] at this; exact this)
              have HB6 : Hid (Below w.heap.size w w6) := (HB5.out.alloc HB5.out.size _).grown hgrow (by have := HB5.out.size; simp; omega) (fun k hk => (hown0.lt k hk).1)
              clear hown6 hgrow
              go_wp2
              go_ret2
              rw [HV.out, HL.out]
              exact ⟨_, rfl, HO6.out, HB6.out⟩

end Go.Proofs.YtokgkjfgknjbbaaDoor
