/- The specification's l04Size: how great an expression is when it is written out, 201 at most. -/
import Derived.Test.YtanmhbopalchoabDoorXKit
import Derived.Laws.OwnMore
import Derived.Maps.AppendAt
namespace Go.Proofs.YtanmhbopalchoabDoor
open Go.RowKit

def capI (n : Int) : Int := if 201 < n then 201 else n
def sumK (sz : List Int) (ks : List Int) : Int := ks.foldl (fun n k => n + sz.getD k.toNat 0) 1
def sizesF (ns : List NodeD) : List Int := ns.foldl (fun sz x => sz ++ [capI (sumK sz x.kids)]) []
def sizeB (ns : List NodeD) : Int := (sizesF ns).getD (ns.length - 1) 0
theorem sumK_next (sz ks : List Int) (j : Nat) (h : j < ks.length) : sumK sz (ks.take (j + 1)) = sumK sz (ks.take j) + sz.getD ks[j].toNat 0 := by
  rw [List.take_succ_eq_append_getElem h, sumK, List.foldl_append]
  rfl
theorem sizesF_next (ns : List NodeD) (k : Nat) (h : k < ns.length) : sizesF (ns.take (k + 1)) = sizesF (ns.take k) ++ [capI (sumK (sizesF (ns.take k)) ns[k].kids)] := by
  rw [List.take_succ_eq_append_getElem h, sizesF, List.foldl_append]
  rfl
theorem sizesF_len (ns : List NodeD) : ∀ k, k ≤ ns.length → (sizesF (ns.take k)).length = k
  | 0, _ => rfl
  | k + 1, h => by rw [sizesF_next ns k (by omega), List.length_append, sizesF_len ns k (by omega)]; rfl
theorem getD_in {sz : List Int} (h : ∀ z ∈ sz, 1 ≤ z ∧ z ≤ 201) (k : Nat) : 0 ≤ sz.getD k 0 ∧ sz.getD k 0 ≤ 201 := by
  rw [List.getD_eq_getElem?_getD]
  by_cases hk : k < sz.length
  · rw [List.getElem?_eq_getElem hk]
    have := h _ (List.getElem_mem hk)
    exact ⟨by show 0 ≤ sz[k]; omega, this.2⟩
  · rw [List.getElem?_eq_none (by omega)]
    exact ⟨by decide, by decide⟩
theorem sumK_in {sz : List Int} (h : ∀ z ∈ sz, 1 ≤ z ∧ z ≤ 201) (ks : List Int) : ∀ j, j ≤ ks.length → 1 ≤ sumK sz (ks.take j) ∧ sumK sz (ks.take j) ≤ 1 + 201 * j
  | 0, _ => by rw [List.take_zero]; exact ⟨by show (1 : Int) ≤ 1; omega, by show (1 : Int) ≤ _; omega⟩
  | j + 1, hj => by
    have ih := sumK_in h ks j (by omega)
    have g := getD_in h ks[j].toNat
    rw [sumK_next sz ks j (by omega)]
    omega
theorem sizesF_in (ns : List NodeD) : ∀ k, k ≤ ns.length → ∀ z ∈ sizesF (ns.take k), 1 ≤ z ∧ z ≤ 201
  | 0, _, z, hz => by cases hz
  | k + 1, h, z, hz => by
    have ih := sizesF_in ns k (by omega)
    rw [sizesF_next ns k (by omega)] at hz
    rcases List.mem_append.1 hz with hz | hz
    · exact ih z hz
    · obtain rfl : z = _ := List.mem_singleton.1 hz
      have := sumK_in ih ns[k].kids ns[k].kids.length (Nat.le_refl _)
      rw [List.take_of_length_le (Nat.le_refl _)] at this
      unfold capI
      split <;> omega
theorem one_cellZ (z : Int) : ∀ u ∈ [Value.int .i64 z], u.oneCell' = true := by
  intro u hu
  obtain rfl : u = .int .i64 z := by simpa using hu
  rfl
theorem ownZ_snoc {B : Nat} {o v' : Value} {ys : List Int} {x : Int} {wr w2 : World} {ob : Obj} (hown2 : w2.ownsRow B 3 1 v' (ys.length + 1) (zv ys ++ [.int .i64 x])) (hown : OwnZ B o ys wr) (hgrow : (wr.alloc ob).grownBy w2 o.ownBlock)
    {w : World} (hw : B = w.heap.size) (hb : Below w.heap.size w wr) : OwnZ B v' (ys ++ [x]) w2 ∧ Below w.heap.size w w2 := by
  subst hw
  refine ⟨?_, ?_⟩
  · rw [OwnZ, List.length_append, zv, List.map_append]
    exact hown2
  · exact (hb.alloc hb.size ob).grown hgrow (by have := hb.size; simp; omega) (fun k hk => (World.ownsRow.lt hown k hk).1)

set_option maxHeartbeats 3200000 in
set_option maxRecDepth 100000 in
theorem l04Size_any (v : Value) (ns : List NodeD) (w : World) (hx : exprB ns = true) (h : NRow w v ns) :
    Calls Tryd.prog 28 #[.agg #[v]] w fun e w' => e = .returned (.int .i64 (sizeB ns)) ∧ Below w.heap.size w w' := by
  obtain ⟨i0, hi, hz0, hz1, hz2⟩ := info_parts Tryd.infoInt5
  obtain ⟨⟨hl1, hl2⟩, hnode⟩ := exprB_at hx
  have HNd : Hid (∀ k (hk : k < ns.length), nodeB k ns[k] = true) := hnode
  obtain ⟨a, cap, rfl⟩ := h.slice
  have B0 : Hid (Below w.heap.size w (w.alloc (.cells #[.slice a ns.length cap] 30))) := (Below.refl _ _).alloc (Nat.le_refl _) _
  have HR : Hid (NRow (w.alloc (.cells #[.slice a ns.length cap] 30)) (.slice a ns.length cap) ns) := h.below B0.out
  have E0 : Hid ((w.alloc (.cells #[.slice a ns.length cap] 30)).cell? ⟨w.heap.size, 0, none⟩ = some (.slice a ns.length cap)) := lit_one _ _ _
  have HS0 : Hid ((w.alloc (.cells #[.slice a ns.length cap] 30)).heap.size = w.heap.size + 1) := by rw [Hid]; simp
  clear h hnode hx
  go_enter Tryd.func28, Tryd.ntmps28
  go_wp2
  generalize w.alloc (.cells #[.slice a ns.length cap] 30) = w0 at *
  go_loopw [3, 4] (fun ov iv wr => ∃ k : Nat, iv = .int .i64 k ∧ k ≤ ns.length ∧ OwnZ w0.heap.size ov (sizesF (ns.take k)) wr ∧ Below w0.heap.size w0 wr) (fun _ iv _ => ns.length - (intOf iv).toNat)
  case atStart => exact ⟨0, rfl, Nat.zero_le _, by rw [← HS0.out]; exact World.ownsRow_made _ _ _ (Nat.le_refl _) (by decide) rfl, (Below.refl _ _).alloc (Nat.le_refl _) _⟩
  case round =>
    obtain ⟨k, rfl, hk, hown, hbw⟩ := hrel
    have HO : Hid (OwnZ w0.heap.size u3 (sizesF (ns.take k)) wr) := hown
    have HB : Hid (Below w0.heap.size w0 wr) := hbw
    have hE := cell_keep E0.out hbw
    have hfl : (sizesF (ns.take k)).length ≤ k ∧ k ≤ (sizesF (ns.take k)).length := by have := sizesF_len ns k hk; omega
    obtain ⟨hfl, hfm⟩ := hfl
    have HIn : Hid (∀ z ∈ sizesF (ns.take k), 1 ≤ z ∧ z ≤ 201) := sizesF_in ns k hk
    clear hown hbw
    by_cases hlt : k < ns.length
    · obtain ⟨b, off, kv, rfl, n0, n1, n2, n3, hI⟩ := (HR.out.below HB.out).at hlt
      have HNx : Hid (_ = _) := sizesF_next ns k hlt
      have HKd : Hid (∀ q ∈ ns[k].kids, 0 ≤ q ∧ q < k) := (node_parts (HNd.out k hlt)).2.2.2
      have hkl : ns[k].kids.length ≤ 2 := by
        have := (node_parts (HNd.out k hlt)).2.1
        unfold kidsN at this
        split at this
        · omega
        · split at this <;> omega
      obtain ⟨ak, ck, rfl⟩ := hI.slice
      have HI : Hid (IRow wr (.slice ak ns[k].kids.length ck) ns[k].kids) := hI
      have i4 : (k : Int) < (ns.length : Int) := by omega
      clear hI n0 n1 n2
      generalize sizesF (ns.take k) = zs at *
      obtain ⟨az, cz, rfl⟩ := HO.out.row.slice
      go_wp2
      go_loopw [5, 6] (fun nv jv ww => ∃ j : Nat, nv = .int .i64 (sumK zs (ns[k].kids.take j)) ∧ jv = .int .i64 j ∧ j ≤ ns[k].kids.length ∧ ww = wr) (fun _ jv _ => ns[k].kids.length - (intOf jv).toNat)
      case atStart => exact ⟨0, rfl, rfl, Nat.zero_le _, rfl⟩
      case round =>
        obtain ⟨j, rfl, rfl, hj, hww⟩ := hrel
        rw [hww]
        clear hww
        have hsum := sumK_in HIn.out ns[k].kids j hj
        by_cases hjl : j < ns[k].kids.length
        · obtain ⟨bk, offk, rfl, hck⟩ := HI.out.at hjl
          have hkq := HKd.out _ (List.getElem_mem hjl)
          have HNj : Hid (_ = _) := sumK_next zs ns[k].kids j hjl
          obtain ⟨q, hq⟩ : ∃ q : Nat, ns[k].kids[j] = (q : Int) := ⟨ns[k].kids[j].toNat, by omega⟩
          have hgd := getD_in HIn.out q
          rw [hq] at hck hkq HNj
          rw [Int.toNat_natCast] at HNj
          have hqz : q < zs.length := by omega
          obtain ⟨bs, offs, rfl, hcs⟩ := HO.out.row.at hqz
          have hgq : zs.getD q 0 = zs[q] := by rw [List.getD_eq_getElem?_getD, List.getElem?_eq_getElem hqz]; rfl
          rw [hgq] at hgd HNj
          have i5 : (j : Int) < (ns[k].kids.length : Int) := by omega
          have i6 : (q : Int) < (zs.length : Int) := by omega
          clear hq hkq hgq
          generalize sumK zs (ns[k].kids.take j) = S at *
          go_wp2
          go_roundw
          case rel => exact ⟨j + 1, by rw [HNj.out], by go_num, by omega, by first | trivial | rfl⟩
          case measure => simp [intOf]; omega
        · obtain rfl : j = ns[k].kids.length := by omega
          rw [List.take_of_length_le (Nat.le_refl _)] at hsum
          rw [List.take_of_length_le (Nat.le_refl _)]
          have i5 : ¬ (ns[k].kids.length : Int) < (ns[k].kids.length : Int) := by omega
          by_cases hc : 201 < sumK zs ns[k].kids
          · have HC : Hid (capI (sumK zs ns[k].kids) = 201) := if_pos hc
            generalize sumK zs ns[k].kids = S at *
            go_wp2_with (at_builtin; refine wpList_append_own _ rfl _ _ 40 rfl w0.heap.size 3 i0 _ 1 8 Tryd.underlying40 hi hz0 hz1 hz2 rfl (by decide) _ _ _ rfl (World.ownsRow.alloc HO.out _) ⟨_, 0, none⟩ 1 1 [.int .i64 201] rfl rfl (cell_one_new _ _ _) (one_cellZ _) (by unfold maxLen; omega) (by omega) (by have h8 := HB.out.size; simp; omega) ?_)
            intro v' w2 hown2 hgrow _
            have R := ownZ_snoc hown2 HO.out hgrow rfl HB.out
            clear hown2 hgrow
            go_wp2
            go_roundw
            case rel => exact ⟨k + 1, by go_num, by omega, by rw [HNx.out, HC.out]; exact R.1, R.2⟩
            case measure => simp [intOf]; omega
          · have HC : Hid (capI (sumK zs ns[k].kids) = sumK zs ns[k].kids) := if_neg hc
            generalize sumK zs ns[k].kids = S at *
            go_wp2_with (at_builtin; refine wpList_append_own _ rfl _ _ 40 rfl w0.heap.size 3 i0 _ 1 8 Tryd.underlying40 hi hz0 hz1 hz2 rfl (by decide) _ _ _ rfl (World.ownsRow.alloc HO.out _) ⟨_, 0, none⟩ 1 1 [.int .i64 S] rfl rfl (cell_one_new _ _ _) (one_cellZ _) (by unfold maxLen; omega) (by omega) (by have h8 := HB.out.size; simp; omega) ?_)
            intro v' w2 hown2 hgrow _
            have R := ownZ_snoc hown2 HO.out hgrow rfl HB.out
            clear hown2 hgrow
            go_wp2
            go_roundw
            case rel => exact ⟨k + 1, by go_num, by omega, by rw [HNx.out, HC.out]; exact R.1, R.2⟩
            case measure => simp [intOf]; omega
    · obtain rfl : k = ns.length := by omega
      rw [List.take_of_length_le (Nat.le_refl _)] at HO hfl hfm
      have HSz : Hid (sizeB ns = (sizesF ns).getD (ns.length - 1) 0) := rfl
      have i4 : ¬ (ns.length : Int) < (ns.length : Int) := by omega
      have hBf := B0.out.trans (HB.out.mono B0.out.size)
      clear HIn
      generalize sizesF ns = zs at *
      have hqz : ns.length - 1 < zs.length := by omega
      obtain ⟨az, cz, rfl⟩ := HO.out.row.slice
      obtain ⟨bs, offs, rfl, hcs⟩ := HO.out.row.at hqz
      have HG : Hid (sizeB ns = zs[ns.length - 1]) := by rw [Hid, HSz.out, List.getD_eq_getElem?_getD, List.getElem?_eq_getElem hqz]; rfl
      have i6 : IntKind.i64.wrap ((zs.length : Int) - 1) = ((ns.length - 1 : Nat) : Int) := by rw [IntKind.wrap_i64]; omega
      have i7 : ((ns.length - 1 : Nat) : Int) < (zs.length : Int) := by omega
      go_wp2
      go_ret
      exact ⟨by rw [HG.out]; rfl, hBf⟩

end Go.Proofs.YtanmhbopalchoabDoor
