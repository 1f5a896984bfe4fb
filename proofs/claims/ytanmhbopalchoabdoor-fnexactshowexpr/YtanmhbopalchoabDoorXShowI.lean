/- The program's shown and ShowExpr. -/
import Derived.Test.YtanmhbopalchoabDoorXText
namespace Go.Proofs.YtanmhbopalchoabDoor
open Go.RowKit

/-! ### plain mathematics -/
theorem showN_fuel {ns : List NodeD} (hn : ∀ k (hk : k < ns.length), nodeB k ns[k] = true) : ∀ (i f : Nat), i < ns.length → i < f → showN f ns i = showN (i + 1) ns i := by
  intro i
  induction i using Nat.strongRecOn with
  | ind i ih =>
    intro f hi hf
    obtain ⟨g, rfl⟩ : ∃ g, f = g + 1 := ⟨f - 1, by omega⟩
    have hnd := hn i hi
    rw [showN_at g ns i hi, showN_at i ns i hi]
    by_cases o1 : ns[i].op = 1
    · rw [if_pos o1, if_pos o1]
    rw [if_neg o1, if_neg o1]
    by_cases o2 : ns[i].op = 2
    · rw [if_pos o2, if_pos o2]
    rw [if_neg o2, if_neg o2]
    by_cases o3 : ns[i].op = 3
    · rw [if_pos o3, if_pos o3]
    rw [if_neg o3, if_neg o3]
    by_cases o11 : ns[i].op = 11
    · obtain ⟨q, hks, hq⟩ := sh_one hnd o11
      have e : kidN ns[i] 0 = q := by rw [kidN, hks]; rfl
      rw [if_pos o11, if_pos o11, e, ih q hq g (by omega) (by omega), ih q hq i (by omega) (by omega)]
    · obtain ⟨q, r, hks, hq, hr, _, _⟩ := sh_two hnd o1 o2 o3 o11
      have e : kidN ns[i] 0 = q := by rw [kidN, hks]; rfl
      have e' : kidN ns[i] 1 = r := by rw [kidN, hks]; rfl
      rw [if_neg o11, if_neg o11, e, e', ih q hq g (by omega) (by omega), ih q hq i (by omega) (by omega), ih r hr g (by omega) (by omega), ih r hr i (by omega) (by omega)]
/-- What is shown of the node at i. -/
def shN (ns : List NodeD) (i : Nat) : ByteArray := showN (i + 1) ns i
theorem shN_eq {ns : List NodeD} (hn : ∀ k (hk : k < ns.length), nodeB k ns[k] = true) (i : Nat) (hi : i < ns.length) : shN ns i = textB ns[i] (ns[i].kids.map fun k => shN ns k.toNat) := by
  have hnd := hn i hi
  rw [shN, showN_at i ns i hi, textB]
  by_cases o1 : ns[i].op = 1
  · rw [if_pos o1, if_pos o1]
  rw [if_neg o1, if_neg o1]
  by_cases o2 : ns[i].op = 2
  · rw [if_pos o2, if_pos o2]
  rw [if_neg o2, if_neg o2]
  by_cases o3 : ns[i].op = 3
  · rw [if_pos o3, if_pos o3]
  rw [if_neg o3, if_neg o3]
  by_cases o11 : ns[i].op = 11
  · obtain ⟨q, hks, hq⟩ := sh_one hnd o11
    have e : kidN ns[i] 0 = q := by rw [kidN, hks]; rfl
    rw [if_pos o11, if_pos o11, e, showN_fuel hn q i (by omega) hq, hks]
    rfl
  · obtain ⟨q, r, hks, hq, hr, _, _⟩ := sh_two hnd o1 o2 o3 o11
    have e : kidN ns[i] 0 = q := by rw [kidN, hks]; rfl
    have e' : kidN ns[i] 1 = r := by rw [kidN, hks]; rfl
    rw [if_neg o11, if_neg o11, e, e', showN_fuel hn q i (by omega) hq, showN_fuel hn r i (by omega) hr, hks]
    rfl
theorem shN_size {ns : List NodeD} (hn : ∀ k (hk : k < ns.length), nodeB k ns[k] = true) (hl : ns.length ≤ 20) {i : Nat} (hi : i < ns.length) : (shN ns i).size ≤ 33554432 := by
  have h1 := showN_size hn (i + 1) i
  have h2 : 2 ^ (i + 1) ≤ 2 ^ 20 := Nat.pow_le_pow_right (by omega) (by omega)
  have h3 : (2 : Nat) ^ 20 = 1048576 := by decide
  rw [shN]
  omega
theorem showB_yes {ns : List NodeD} (h : exprB ns = true) (hs : sizeB ns ≤ 200) : showB ns = shN ns (ns.length - 1) := by
  obtain ⟨hl, hn⟩ := exprB_at h
  rw [showB, if_pos ⟨h, hs⟩, shN, showN_fuel hn (ns.length - 1) ns.length (by omega) (by omega)]
theorem showB_no {ns : List NodeD} (h : exprB ns = false ∨ ¬ sizeB ns ≤ 200) : showB ns = ⟨#[]⟩ := by
  rw [showB, if_neg]
  rintro ⟨h1, h2⟩
  rcases h with h | h
  · rw [h] at h1; cases h1
  · exact h h2
theorem sz_le {ns : List NodeD} (hn : ∀ k (hk : k < ns.length), nodeB k ns[k] = true) : ∀ i, i < ns.length → sz ns i + 1 ≤ ((2 ^ (i + 1) : Nat) : Int) := by
  intro i
  induction i using Nat.strongRecOn with
  | ind i ih =>
    intro hi
    have hk := (node_parts (hn i hi)).2.2.2
    have hl := (node_parts (hn i hi)).2.1
    have kid : ∀ q ∈ ns[i].kids, sz ns q.toNat + 1 ≤ ((2 ^ i : Nat) : Int) := fun q hq => by
      have h0 := hk q hq
      have h1 := ih q.toNat (by omega) (by omega)
      have h2 : 2 ^ (q.toNat + 1) ≤ 2 ^ i := Nat.pow_le_pow_right (by omega) (by omega)
      omega
    have hp : ((2 ^ (i + 1) : Nat) : Int) = ((2 ^ i : Nat) : Int) + ((2 ^ i : Nat) : Int) := by rw [Nat.pow_succ]; omega
    have h1 : 1 ≤ 2 ^ i := Nat.one_le_two_pow
    rw [sz_eq hn i hi, hp]
    generalize 2 ^ i = P at kid h1 ⊢
    match hks : ns[i].kids with
    | [] =>
      simp only [List.map_nil, List.sum_nil]
      omega
    | [a] =>
      have := kid a (by rw [hks]; simp)
      simp only [List.map_cons, List.map_nil, List.sum_cons, List.sum_nil]
      omega
    | [a, b] =>
      have h3 := kid a (by rw [hks]; simp)
      have h4 := kid b (by rw [hks]; simp)
      simp only [List.map_cons, List.map_nil, List.sum_cons, List.sum_nil]
      omega
    | a :: b :: c :: l =>
      rw [hks, kidsN] at hl
      simp at hl
      split at hl
      · omega
      · split at hl <;> omega
theorem sum_take_next (ts : List Int) (k : Nat) (h : k < ts.length) : (ts.take (k + 1)).sum = (ts.take k).sum + ts.getD k 0 := by
  rw [List.take_succ_eq_append_getElem h, List.sum_append, List.sum_singleton, List.getD_eq_getElem?_getD, List.getElem?_eq_getElem h]
  rfl
theorem sum_take_le {ts : List Int} (hp : ∀ i, 0 ≤ ts.getD i 0) : ∀ d k, k + d = ts.length → (ts.take k).sum ≤ ts.sum
  | 0, k, h => by rw [List.take_of_length_le (by omega)]; exact Int.le_refl _
  | d + 1, k, h => by
    have h1 := sum_take_le hp d (k + 1) (by omega)
    have h2 := sum_take_next ts k (by omega)
    have h3 := hp k
    omega
theorem sum_take_pos {ts : List Int} (hp : ∀ i, 0 ≤ ts.getD i 0) : ∀ k, k ≤ ts.length → 0 ≤ (ts.take k).sum
  | 0, _ => by simp
  | k + 1, h => by
    have h1 := sum_take_pos hp k (by omega)
    have h2 := sum_take_next ts k (by omega)
    have h3 := hp k
    omega

/-! ### the texts, as they lie in memory -/
def TextsTo (ns : List NodeD) (k : Nat) (cs : List Value) : Prop :=
  cs.length = ns.length ∧ ∀ j, j < k → (timesB ns).getD j 0 ≠ 0 → cs[j]? = some (.string (shN ns j))
theorem textsTo_skip {ns : List NodeD} {k : Nat} {cs : List Value} (h : TextsTo ns k cs) (hm : (timesB ns).getD k 0 = 0) : TextsTo ns (k + 1) cs :=
  ⟨h.1, fun j hj hjm => by
    by_cases e : j = k
    · subst e; exact absurd hm hjm
    · exact h.2 j (by omega) hjm⟩
theorem textsTo_put {ns : List NodeD} {k : Nat} {cs : List Value} (hk : k < ns.length) (h : TextsTo ns k cs) : TextsTo ns (k + 1) (cs.set k (.string (shN ns k))) :=
  ⟨by rw [List.length_set]; exact h.1, fun j hj hjm => by
    by_cases e : j = k
    · subst e
      rw [List.getElem?_set_self (by rw [h.1]; exact hk)]
    · rw [List.getElem?_set_ne (fun e' => e e'.symm)]
      exact h.2 j (by omega) hjm⟩
theorem own_text {B g n cap : Nat} {cs : List Value} {w : World} {k : Nat} {s : ByteArray} (h : w.ownsRow B 9 1 (.slice (some ⟨g, 0, none⟩) n cap) n cs) (hz : cs[k]? = some (.string s)) : w.cell? ⟨g, k, none⟩ = some (.string s) := by
  have := h.cells (g := g) rfl k _ hz
  rwa [Addr.add_lit, Nat.zero_add] at this
theorem texts_told {ns : List NodeD} (hn : ∀ k (hk : k < ns.length), nodeB k ns[k] = true) (hl : ns.length ≤ 20) {k : Nat} {cs : List Value} {w : World} {B g : Nat} (hk : k < ns.length) (h : TextsTo ns k cs)
    (ho : w.ownsRow B 9 1 (.slice (some ⟨g, 0, none⟩) ns.length ns.length) ns.length cs) (hm : ∀ q ∈ ns[k].kids, (timesB ns).getD q.toNat 0 ≠ 0) :
    TextsAt w (.slice (some ⟨g, 0, none⟩) ns.length ns.length) ns[k].kids (ns[k].kids.map fun q => shN ns q.toNat) := by
  have hkd := (node_parts (hn k hk)).2.2.2
  refine ⟨g, ns.length, rfl, by simp, fun j hj => ?_⟩
  have hq := hkd _ (List.getElem_mem hj)
  have e : (ns[k].kids.map fun q => shN ns q.toNat).getD j ⟨#[]⟩ = shN ns ns[k].kids[j].toNat := by
    rw [List.getD_eq_getElem?_getD, List.getElem?_map, List.getElem?_eq_getElem hj]
    rfl
  refine ⟨ns[k].kids[j].toNat, by omega, by omega, ?_, ?_⟩
  · rw [e]; exact shN_size hn hl (by omega)
  · rw [e]; exact own_text ho (h.2 _ (by omega) (hm _ (List.getElem_mem hj)))

/-- A text and no error; or none and an error that is one. -/
def TextRes (ns : List NodeD) (r : Value) : Prop :=
  (exprB ns = true ∧ sizeB ns ≤ 200 ∧ r = .tuple #[.string (shN ns (ns.length - 1)), .nilIface]) ∨
    ((exprB ns = false ∨ ¬ sizeB ns ≤ 200) ∧ ∃ c, c ≠ 0 ∧ r = .tuple #[.string ⟨#[]⟩, .iface 68 (.agg #[.int .i64 c])])

set_option maxHeartbeats 3200000 in
set_option maxRecDepth 100000 in
theorem shown_any (v : Value) (ns : List NodeD) (w : World) (h : NRow w v ns) :
    Calls Tryd.prog 30 #[.agg #[v]] w fun e w' => (∃ r, e = .returned r ∧ TextRes ns r) ∧ Below w.heap.size w w' := by
  obtain ⟨i0, hi, hz0, hz1, hz2⟩ := info_parts Tryd.infoStr
  have HR : Hid (NRow w v ns) := h
  obtain ⟨a, cap, rfl⟩ := h.slice
  clear h
  have B0 : Hid (Below w.heap.size w (w.alloc (.cells #[.slice a ns.length cap] 30))) := (Below.refl _ _).alloc (Nat.le_refl _) _
  cases hex : exprB ns with
  | false =>
    have HP : Hid (∀ W, NRow W (.slice a ns.length cap) ns → Calls Tryd.prog 20 #[.agg #[.slice a ns.length cap]] W fun e w' => e = .returned (.tuple #[.slice none 0 0, .iface 68 (.agg #[.int .i64 1])]) ∧ Below W.heap.size W w') := fun W hw => partsOf_no (.slice a ns.length cap) ns W hw hex
    have HX : Hid (exprB ns = false) := hex
    clear hex
    go_enter Tryd.func30, Tryd.ntmps30
    go_wp2_with fail
    refine (HP.out _ (HR.out.below B0.out)).mono ?_
    rintro e w1 ⟨rfl, hb1⟩
    have B1 : Hid (Below w.heap.size w w1) := B0.out.trans (hb1.mono B0.out.size)
    clear hb1
    go_wp2
    go_ret2
    exact ⟨⟨_, rfl, .inr ⟨.inl HX.out, 1, by decide, rfl⟩⟩, B1.out⟩
  | true =>
    obtain ⟨⟨hl1, hl2⟩, hnode⟩ := exprB_at hex
    have HX : Hid (exprB ns = true) := hex
    have HNd : Hid (∀ k (hk : k < ns.length), nodeB k ns[k] = true) := hnode
    have HP : Hid (∀ W, NRow W (.slice a ns.length cap) ns → _) := fun W hw => partsOf_yes (.slice a ns.length cap) ns W hw hex
    have HTm : Hid (∀ v W, PRow W v ns → _) := fun v W hw => timesCome_any v ns W hex hw
    have HCo : Hid (Come ns 0 (timesB ns)) := times_come hex
    have HTl : Hid ((timesB ns).length = ns.length) := (times_come hex).len
    have HSum : Hid ((timesB ns).sum = sz ns (ns.length - 1)) := times_sum hex
    have HSz : Hid (sizeB ns ≤ 200 ↔ (timesB ns).sum ≤ 200) := by rw [Hid, HSum.out]; exact sizeB_sz hex
    have HSb : Hid (∀ k, k ≤ ns.length → 0 ≤ ((timesB ns).take k).sum ∧ ((timesB ns).take k).sum ≤ 1048576) := fun k hk => by
      have h1 := sum_take_pos (times_come hex).pos k (by rw [HTl.out]; exact hk)
      have h2 := sum_take_le (times_come hex).pos (ns.length - k) k (by rw [HTl.out]; omega)
      have h3 := sz_le hnode (ns.length - 1) (by omega)
      have h4 : 2 ^ (ns.length - 1 + 1) ≤ 2 ^ 20 := Nat.pow_le_pow_right (by omega) (by omega)
      have h5 : (2 : Nat) ^ 20 = 1048576 := by decide
      rw [HSum.out] at h2
      omega
    have HNx : Hid (∀ k, k < ns.length → ((timesB ns).take (k + 1)).sum = ((timesB ns).take k).sum + (timesB ns).getD k 0) := fun k hk => sum_take_next _ k (by rw [HTl.out]; exact hk)
    have HAll : Hid (((timesB ns).take ns.length).sum = (timesB ns).sum) := by rw [Hid, List.take_of_length_le (by rw [HTl.out]; exact Nat.le_refl _)]
    clear hex hnode
    go_enter Tryd.func30, Tryd.ntmps30
    go_wp2_with fail
    refine (HP.out _ (HR.out.below B0.out)).mono ?_
    rintro e w1 ⟨o, rfl, ho, hb1⟩
    have B1 : Hid (Below w.heap.size w w1) := B0.out.trans (hb1.mono B0.out.size)
    have P1 : Hid (PRow w1 o ns) := ho.row
    obtain ⟨ap, cp, rfl⟩ := ho.row.slice
    clear hb1 B0 HP ho
    go_wp2_with fail
    refine (HTm.out _ _ P1.out).mono ?_
    rintro e w3 ⟨g, rfl, hot, hb3⟩
    have HT : Hid (OwnZ w1.heap.size (.slice (some ⟨g, 0, none⟩) ns.length ns.length) (timesB ns) w3) := hot
    have P3 : Hid (PRow w3 (.slice ap ns.length cp) ns) := P1.out.below hb3
    have B3 : Hid (Below w.heap.size w w3) := B1.out.trans (hb3.mono B1.out.size)
    clear hot hb3 HTm P1 B1
    go_wp2
    go_loop [7, 25] (fun nv iv => ∃ k : Nat, iv = .int .i64 k ∧ k ≤ ns.length ∧ nv = .int .i64 ((timesB ns).take k).sum) (fun _ iv => ns.length - (intOf iv).toNat)
    case atStart => exact ⟨0, rfl, Nat.zero_le _, rfl⟩
    case round =>
      obtain ⟨k, rfl, hk, rfl⟩ := hrel
      have hsb := HSb.out k hk
      by_cases hlt : k < ns.length
      · obtain ⟨hct, _⟩ := ownZ_cell HT.out HTl.out k hlt
        have hnx := HNx.out k hlt
        have hsb2 := HSb.out (k + 1) (by omega)
        rw [hnx] at hsb2
        have HNk : Hid (_ = _) := hnx
        have i4 : (k : Int) < (ns.length : Int) := by omega
        clear hnx
        generalize (timesB ns).getD k 0 = tk at *
        generalize ((timesB ns).take k).sum = S at *
        have i5 : IntKind.i64.wrap (S + tk) = S + tk := by rw [IntKind.wrap_i64]; omega
        go_wp2
        go_round
        case rel => exact ⟨k + 1, by go_num, by omega, by rw [HNk.out]⟩
        case measure => simp [intOf]; omega
      · obtain rfl : k = ns.length := by omega
        have i4 : ¬ (ns.length : Int) < (ns.length : Int) := by omega
        rw [HAll.out] at hsb
        rw [HAll.out]
        generalize hS : (timesB ns).sum = S at *
        by_cases hgt : 200 < S
        · have HNo : Hid (¬ sizeB ns ≤ 200) := fun h => by have := HSz.out.1 h; omega
          clear hS
          go_wp2
          go_ret2
          exact ⟨⟨_, rfl, .inr ⟨.inr (by have := HNo.out; omega), 5, by decide, rfl⟩⟩, B3.out⟩
        · have HYes : Hid (sizeB ns ≤ 200) := HSz.out.2 (by omega)
          clear hS HSum HSz HSb HNx HAll
          go_wp2_with (at_make; refine wpList_make_full _ rfl _ _ 26 rfl w3.heap.size 9 i0 _ 1 Tryd.underlying26 hi hz0 hz1 .i64 .i64 _ _ ns.length rfl rfl rfl rfl (by rw [hz2]; omega) (by unfold maxLen; omega) (Nat.le_refl _) ?_; intro w4 hown hg4)
          have HO4 : Hid (w4.ownsRow w3.heap.size 9 1 (.slice (some ⟨w3.heap.size, 0, none⟩) ns.length ns.length) ns.length (madeCells (Value.string ⟨#[]⟩).cells (ns.length * 1)).toList) := hown
          have HN4 : Hid (TextsTo ns 0 (madeCells (Value.string ⟨#[]⟩).cells (ns.length * 1)).toList) := ⟨by rw [hown.1]; omega, fun j hj => by omega⟩
          have B4 : Hid (Below w3.heap.size w3 w4) := (Below.refl _ _).grown hg4 (Nat.le_refl _) (fun k h => by cases h)
          clear hown hg4
          go_loopw [42] (fun iv wr => ∃ (k : Nat) (cs : List Value), iv = .int .i64 k ∧ k ≤ ns.length ∧ TextsTo ns k cs ∧ wr.ownsRow w3.heap.size 9 1 (.slice (some ⟨w3.heap.size, 0, none⟩) ns.length ns.length) ns.length cs ∧ Below w3.heap.size w3 wr) (fun iv _ => ns.length - (intOf iv).toNat)
          case atStart => exact ⟨0, _, rfl, Nat.zero_le _, HN4.out, HO4.out, B4.out⟩
          case round =>
            obtain ⟨k, cs, rfl, hk, hnt, hown, hbw⟩ := hrel
            have HNt : Hid (TextsTo ns k cs) := hnt
            have HOr : Hid (wr.ownsRow w3.heap.size 9 1 (.slice (some ⟨w3.heap.size, 0, none⟩) ns.length ns.length) ns.length cs) := hown
            have HBr : Hid (Below w3.heap.size w3 wr) := hbw
            have HB : Hid (Below w.heap.size w wr) := B3.out.trans (hbw.mono B3.out.size)
            clear hnt hown hbw
            by_cases hlt : k < ns.length
            · obtain ⟨hct, _⟩ := ownZ_cell (HT.out.below HBr.out) HTl.out k hlt
              obtain ⟨b, off, rfl, hpc⟩ := (P3.out.below HBr.out).at hlt
              obtain ⟨pt, px, hpx⟩ := partV_iface ns[k]
              have i5 : (k : Int) < (ns.length : Int) := by omega
              have hpos := HCo.out.pos k
              have HKids : Hid ((timesB ns).getD k 0 ≠ 0 → ∀ q ∈ ns[k].kids, (timesB ns).getD q.toNat 0 ≠ 0) := HCo.out.down k (Nat.zero_le _) hlt
              have HSk : Hid ((timesB ns).getD k 0 = 0 → TextsTo ns (k + 1) cs) := textsTo_skip HNt.out
              have HPt : Hid (TextsTo ns (k + 1) (cs.set k (.string (shN ns k)))) := textsTo_put hlt HNt.out
              generalize (timesB ns).getD k 0 = tk at *
              by_cases ht0 : 0 < tk
              · have HTx : Hid (_) := textOf_any (HNd.out k hlt) _ _ wr (texts_told HNd.out hl2 hlt HNt.out HOr.out (HKids.out (by omega)))
                rw [hpx, ← shN_eq HNd.out k hlt] at HTx
                rw [hpx] at hpc
                clear hpx hpos
                generalize shN ns k = Tk at *
                go_wp2_with fail
                refine Calls.mono HTx.out ?_
                rintro e w5 ⟨rfl, hb5⟩
                have HO5 : Hid (w5.ownsRow w3.heap.size 9 1 (.slice (some ⟨w3.heap.size, 0, none⟩) ns.length ns.length) ns.length cs) := own_below HOr.out hb5
                have B5 : Hid (Below w3.heap.size w3 w5) := HBr.out.trans (hb5.mono HBr.out.size)
                obtain ⟨cw, hcw, hfw⟩ := own_cell HO5.out k (by omega)
                have HSt : Hid ((w5.setCell ⟨w3.heap.size, k, none⟩ (.string Tk)).ownsRow w3.heap.size 9 1 (.slice (some ⟨w3.heap.size, 0, none⟩) ns.length ns.length) ns.length (cs.set k (.string Tk))) := (World.ownsRow.stored HO5.out k (.string Tk)).1
                have HBs : Hid (Below w3.heap.size w3 (w5.setCell ⟨w3.heap.size, k, none⟩ (.string Tk))) := B5.out.setCell (Nat.le_refl _) _
                clear hb5
                go_wp2
                go_roundw
                case rel => exact ⟨k + 1, _, by go_num, by omega, HPt.out, HSt.out, HBs.out⟩
                case measure => simp [intOf]; omega
              · have HSk2 : Hid (TextsTo ns (k + 1) cs) := HSk.out (by omega)
                rw [hpx] at hpc
                clear hpx hpos
                go_wp2
                go_roundw
                case rel => exact ⟨k + 1, cs, by go_num, by omega, HSk2.out, HOr.out, HBr.out⟩
                case measure => simp [intOf]; omega
            · obtain rfl : k = ns.length := by omega
              have hcz := own_text HOr.out (HNt.out.2 (ns.length - 1) (by omega) HCo.out.top)
              have i5 : ¬ (ns.length : Int) < (ns.length : Int) := by omega
              have i6 : IntKind.i64.wrap ((ns.length : Int) - 1) = ((ns.length - 1 : Nat) : Int) := by rw [IntKind.wrap_i64]; omega
              have i7 : ((ns.length - 1 : Nat) : Int) < (ns.length : Int) := by omega
              go_wp2
              go_ret2
              exact ⟨⟨_, rfl, .inl ⟨HX.out, HYes.out, rfl⟩⟩, HB.out⟩

set_option maxHeartbeats 1600000 in
theorem implShowExpr_any (v : Value) (ns : List NodeD) (w : World) (hg : errTy w) (h : NRow w v ns) :
    Calls Tryd.prog 15 #[.agg #[v]] w fun e w' => e = .returned (.string (showB ns)) ∧ Below w.heap.size w w' := by
  have HG : Hid (errTy w) := hg
  obtain ⟨a, cap, rfl⟩ := h.slice
  have B0 : Hid (Below w.heap.size w (w.alloc (.cells #[.slice a ns.length cap] 30))) := (Below.refl _ _).alloc (Nat.le_refl _) _
  have HE : Hid (_) := shown_any (.slice a ns.length cap) ns _ (h.below B0.out)
  clear h hg
  go_enter Tryd.func15, Tryd.ntmps15
  go_wp2_with fail
  refine Calls.mono HE.out ?_
  rintro e w1 ⟨⟨r, rfl, hr⟩, hb1⟩
  have B1 : Hid (Below w.heap.size w w1) := B0.out.trans (hb1.mono B0.out.size)
  clear hb1
  rcases hr with ⟨h1, h2, rfl⟩ | ⟨h1, c, hc, rfl⟩
  · have HV : Hid (showB ns = shN ns (ns.length - 1)) := showB_yes h1 h2
    clear h1 h2
    generalize shN ns (ns.length - 1) = T at *
    go_wp2_with fail
    refine (faultCode_nil _).mono ?_
    rintro e w2 ⟨rfl, hb2⟩
    have B2 : Hid (Below w.heap.size w w2) := B1.out.trans (hb2.mono B1.out.size)
    clear hb2
    go_wp2
    go_ret
    exact ⟨by rw [HV.out]; rfl, B2.out⟩
  · have HV : Hid (showB ns = ⟨#[]⟩) := showB_no h1
    have hc2 : ¬ c = 0 := hc
    clear h1 hc
    go_wp2_with fail
    refine (faultCode_is c _ (HG.out.below B1.out)).mono ?_
    rintro e w2 ⟨rfl, hb2⟩
    have B2 : Hid (Below w.heap.size w w2) := B1.out.trans (hb2.mono B1.out.size)
    clear hb2
    go_wp2
    go_ret
    exact ⟨by rw [HV.out]; rfl, B2.out⟩
end Go.Proofs.YtanmhbopalchoabDoor
