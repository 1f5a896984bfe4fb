/- What is read out of decimal figures: the plain mathematics, with no program in it. -/
/- What is written is read back: numbers, short texts, figures: the plain mathematics. -/
/- The laws' own helpers on expressions: nodes copied. -/
/- The laws' own helpers on expressions: whole ones copied, compared with their like. -/
import Derived.Test.YtokidlklkgghkaaGreatDoorMark
import Derived.Test.YtokidlklkgghkaaGreatDoorReadSpec
import Derived.Test.YtokidlklkgghkaaGreatDoorUnhexPure
import Derived.Test.YtokidlklkgghkaaGreatDoorXAssert
namespace Go.Proofs.YtokidlklkgghkaaGreatDoor
open Go.RowKit

/-- The number that figures tell. -/
def valD (l : List UInt8) : Nat := l.foldl (fun v b => v * 10 + (b.toNat - 48)) 0

theorem valD_snoc (l : List UInt8) (b : UInt8) : valD (l ++ [b]) = valD l * 10 + (b.toNat - 48) := by simp [valD]

theorem snoc_ind {P : List UInt8 → Prop} (h0 : P []) (h1 : ∀ l b, P l → P (l ++ [b])) (l : List UInt8) : P l := by
  have : ∀ m : List UInt8, P m.reverse := by
    intro m
    induction m with
    | nil => exact h0
    | cons b m ih => rw [List.reverse_cons]; exact h1 _ b ih
  have h := this l.reverse
  rwa [List.reverse_reverse] at h

theorem valD_mono (l m : List UInt8) : valD l ≤ valD (l ++ m) := by
  refine snoc_ind (P := fun m => valD l ≤ valD (l ++ m)) (by simp) (fun m b ih => ?_) m
  rw [← List.append_assoc, valD_snoc]
  omega

theorem valD_take (l : List UInt8) (i : Nat) : valD (l.take i) ≤ valD l := by
  have := valD_mono (l.take i) (l.drop i)
  rwa [List.take_append_drop] at this

theorem valD_dec (u : Nat) : valD (Lib.decDigits u) = u := by
  induction u using Nat.strongRecOn with
  | ind u ih =>
    rw [Lib.decDigits]
    by_cases h : u < 10
    · rw [dif_pos h]
      simp only [valD, List.foldl_cons, List.foldl_nil]
      rw [toNat_ofNat _ (by omega)]
      omega
    · rw [dif_neg h, valD_snoc, ih (u / 10) (by omega), toNat_ofNat _ (by omega)]
      omega

theorem dec_figs (u : Nat) : ∀ b ∈ Lib.decDigits u, 48 ≤ b.toNat ∧ b.toNat ≤ 57 := by
  induction u using Nat.strongRecOn with
  | ind u ih =>
    rw [Lib.decDigits]
    by_cases h : u < 10
    · rw [dif_pos h]
      intro b hb
      rw [List.mem_singleton.1 hb, toNat_ofNat _ (by omega)]
      omega
    · rw [dif_neg h]
      intro b hb
      rcases List.mem_append.1 hb with hb | hb
      · exact ih (u / 10) (by omega) b hb
      · rw [List.mem_singleton.1 hb, toNat_ofNat _ (by omega)]
        omega

theorem dec_len : ∀ (j u : Nat), u < 10 ^ (j + 1) → (Lib.decDigits u).length ≤ j + 1
  | 0, u, h => by rw [Lib.decDigits, dif_pos (by simpa using h)]; simp
  | j + 1, u, h => by
    rw [Lib.decDigits]
    by_cases h1 : u < 10
    · rw [dif_pos h1]; simp
    · rw [dif_neg h1, List.length_append, List.length_singleton]
      have := dec_len j (u / 10) (by rw [Nat.pow_succ] at h; omega)
      omega

/-- What reading figures answers. -/
def rdYes (L : List UInt8) : Prop := valD L ≤ 1000000000 ∧ Lib.decDigits (valD L) = L
def rdB (L : List UInt8) : Bool := decide (valD L ≤ 1000000000) && decide (Lib.decDigits (valD L) = L)
theorem rdB_iff (L : List UInt8) : rdB L = true ↔ rdYes L := by simp [rdB, rdYes]
theorem rd_long {L : List UInt8} (h : 10 < L.length) : ¬ rdYes L := by
  intro ⟨h1, h2⟩
  have := dec_len 9 (valD L) (by omega)
  rw [h2] at this
  omega
theorem rd_bad {L : List UInt8} {b : UInt8} (hb : b ∈ L) (h : b.toNat < 48 ∨ 57 < b.toNat) : ¬ rdYes L := by
  intro ⟨_, h2⟩
  rw [← h2] at hb
  have := dec_figs _ b hb
  omega
theorem rd_great {L : List UInt8} {i : Nat} (h : 1000000000 < valD (L.take i)) : ¬ rdYes L := by
  intro ⟨h1, _⟩
  have := valD_take L i
  omega

/-- The answer, as a value. -/
def rdVal (L : List UInt8) : Value := if rdB L = true then .tuple #[.int .i64 (valD L), .bool true] else .tuple #[.int .i64 0, .bool false]
theorem rdVal_yes {L : List UInt8} (h : rdYes L) : rdVal L = .tuple #[.int .i64 (valD L), .bool true] := by rw [rdVal, if_pos ((rdB_iff L).2 h)]
theorem rdVal_no {L : List UInt8} (h : ¬ rdYes L) : rdVal L = .tuple #[.int .i64 0, .bool false] := by rw [rdVal, if_neg (fun e => h ((rdB_iff L).1 e))]

theorem take_snoc2 (s : ByteArray) (k : Nat) (h : k < s.size) : s.data.toList.take (k + 1) = s.data.toList.take k ++ [s[k]] := by
  rw [List.take_succ_eq_append_getElem (by simpa using h)]; rfl

theorem byte_mem (s : ByteArray) (k : Nat) (h : k < s.size) : s[k] ∈ s.data.toList :=
  List.getElem_mem (l := s.data.toList) (n := k) (by simpa using h)

/-- The test that both functions make at the end, as the walk leaves it. -/
theorem rd_test (s : ByteArray) (v : Nat) : ((str (Lib.itoa (v : Int))).toList == s.toList) = decide (Lib.decDigits v = s.data.toList) := by
  rw [Lib.itoa_nonneg, ByteArray.toList_eq, ByteArray.toList_eq, str_list, Bool.eq_iff_iff]
  simp

theorem valD_ten (l : List UInt8) : (∀ b ∈ l, b.toNat ≤ 57) → valD l < 10 ^ l.length := by
  refine snoc_ind (P := fun l => (∀ b ∈ l, b.toNat ≤ 57) → valD l < 10 ^ l.length) (by simp [valD]) (fun l b ih hl => ?_) l
  rw [valD_snoc, List.length_append, List.length_singleton, Nat.pow_succ]
  have h1 := ih (fun x hx => hl x (by simp [hx]))
  have h2 := hl b (by simp)
  omega

end Go.Proofs.YtokidlklkgghkaaGreatDoor

namespace Go.Proofs.YtokidlklkgghkaaGreatDoor
open Go.RowKit

theorem varB_short : ∀ (j n : Nat), n < 128 ^ (j + 1) → (varB n).length ≤ j + 1
  | 0, n, h => by rw [varB_last n (by simp at h; omega)]; simp
  | j + 1, n, h => by
    by_cases h1 : 127 < n
    · rw [varB_more n h1, List.length_cons]
      have := varB_short j (n / 128) (by rw [Nat.pow_succ] at h; omega)
      omega
    · rw [varB_last n (by omega)]; simp

theorem valB_varB (n : Nat) : valB (varB n) = n := by
  induction n using Nat.strongRecOn with
  | ind n ih =>
    by_cases h : 127 < n
    · rw [varB_more n h, valB, ih (n / 128) (by omega), toNat_ofNat _ (by omega)]
      omega
    · rw [varB_last n (by omega), valB, valB, toNat_ofNat _ (by omega)]
      omega

theorem headB_varB (r : List UInt8) : ∀ (f n : Nat), (varB n).length ≤ f → headB f (varB n ++ r) = some (varB n)
  | 0, n, h => by have := varB_pos n; omega
  | f + 1, n, h => by
    by_cases h1 : 127 < n
    · have e := varB_more n h1
      rw [e, List.length_cons] at h
      rw [e, List.cons_append, headB, if_neg (by rw [toNat_ofNat _ (by omega)]; omega), headB_varB r f (n / 128) (by omega)]
      rfl
    · rw [varB_last n (by omega), List.singleton_append, headB, if_pos (by rw [toNat_ofNat _ (by omega)]; omega)]

theorem readB_varB (n : Nat) (r : List UInt8) (h : n ≤ 1000000000) : readB (varB n ++ r) = some (n, (varB n).length) := by
  rw [readB, headB_varB r 5 n (varB_short 4 n (by omega))]
  simp only [valB_varB]
  rw [if_neg (by intro h1; rcases h1 with h1 | h1; omega; exact h1 rfl)]

theorem rvOut_at (p r : List UInt8) (n : Nat) (h : n ≤ 1000000000) : rvOut (p ++ (varB n ++ r)) (p.length : Int) = ((n : Int), (p.length : Int) + (varB n).length, true) :=
  rvOut_some (by simp) (by rw [List.drop_left]; exact readB_varB n r h)

theorem valI_figB : ∀ k : Nat, k < 16 → valI (figB k).toNat = k := by
  have : ∀ k : Fin 16, valI (figB k.1).toNat = (k.1 : Int) := by decide
  exact fun k h => this ⟨k, h⟩

theorem unB_hexB : ∀ L : List UInt8, unB (hexB L) = some L
  | [] => rfl
  | b :: L => by
    have hb := b.toNat_lt
    rw [show hexB (b :: L) = figB (b.toNat / 16) :: figB (b.toNat % 16) :: hexB L from rfl, unB, valI_figB _ (by omega), valI_figB _ (by omega), if_pos ⟨by omega, by omega⟩, unB_hexB L]
    rw [Option.map_some, show (16 * ((b.toNat / 16 : Nat) : Int) + ((b.toNat % 16 : Nat) : Int)).toNat = b.toNat by omega]
    simp

theorem rdYes_dec (n : Nat) (h : n ≤ 1000000000) : rdYes (Lib.decDigits n) := ⟨by rw [valD_dec]; exact h, by rw [valD_dec]⟩

end Go.Proofs.YtokidlklkgghkaaGreatDoor

namespace Go.Proofs.YtokidlklkgghkaaGreatDoor
open Go.RowKit

theorem frozen_keep4 {w w' : World} {b o : Nat} (h : w.frozen? ⟨b, o, none⟩ = false) (hlt : b < w.heap.size) (hb : Below w.heap.size w w') : w'.frozen? ⟨b, o, none⟩ = false := by
  unfold World.frozen? at h ⊢
  rw [hb.block b hlt]
  exact h

theorem grow_set (w : World) (b j : Nat) (u : Value) : w.grownBy (w.setCell ⟨b, j, none⟩ u) (some b) :=
  ⟨rfl, rfl, rfl, by simp, fun k _ hk => by
    simp only [World.setCell]
    rw [Array.getElem?_modify, if_neg (fun e => hk (by rw [← e]))]⟩
theorem off_block {B : Nat} {v : Value} {ks : List Int} {w : World} (h : OwnZ B v ks w) {b : Nat} (hb : b < B) : v.ownBlock = none ∨ v.ownBlock ≠ some b := by
  cases hv : v.ownBlock with
  | none => exact .inl rfl
  | some k => exact .inr (fun e => by have := (World.ownsRow.lt h k hv).1; have e2 : k = b := Option.some.inj e; omega)

theorem set_four {w : World} {b : Nat} {x y z u : Value} (h0 : w.cell? ⟨b, 0, none⟩ = some x) (h1 : w.cell? ⟨b, 1, none⟩ = some y) (h2 : w.cell? ⟨b, 2, none⟩ = some z) (h3 : w.cell? ⟨b, 3, none⟩ = some u) (p q r s : Value) :
    ((((w.setCell ⟨b, 0, none⟩ p).setCell ⟨b, 1, none⟩ q).setCell ⟨b, 2, none⟩ r).setCell ⟨b, 3, none⟩ s).cell? ⟨b, 0, none⟩ = some p ∧ ((((w.setCell ⟨b, 0, none⟩ p).setCell ⟨b, 1, none⟩ q).setCell ⟨b, 2, none⟩ r).setCell ⟨b, 3, none⟩ s).cell? ⟨b, 1, none⟩ = some q
      ∧ ((((w.setCell ⟨b, 0, none⟩ p).setCell ⟨b, 1, none⟩ q).setCell ⟨b, 2, none⟩ r).setCell ⟨b, 3, none⟩ s).cell? ⟨b, 2, none⟩ = some r ∧ ((((w.setCell ⟨b, 0, none⟩ p).setCell ⟨b, 1, none⟩ q).setCell ⟨b, 2, none⟩ r).setCell ⟨b, 3, none⟩ s).cell? ⟨b, 3, none⟩ = some s := by
  have o : ∀ (W : World) (i j : Nat) (t : Value), i ≠ j → (W.setCell ⟨b, i, none⟩ t).cell? ⟨b, j, none⟩ = W.cell? ⟨b, j, none⟩ := fun W i j t hij => World.cell?_setCell_other _ _ _ _ (by intro e; cases e; exact hij rfl)
  refine ⟨?_, ?_, ?_, ?_⟩
  · rw [o _ 3 0 _ (by omega), o _ 2 0 _ (by omega), o _ 1 0 _ (by omega)]; exact World.cell?_setCell_same _ _ _ h0
  · rw [o _ 3 1 _ (by omega), o _ 2 1 _ (by omega)]; exact World.cell?_setCell_same _ _ _ ((o _ 0 1 _ (by omega)).trans h1)
  · rw [o _ 3 2 _ (by omega)]; exact World.cell?_setCell_same _ _ _ ((o _ 1 2 _ (by omega)).trans ((o _ 0 2 _ (by omega)).trans h2))
  · exact World.cell?_setCell_same _ _ _ ((o _ 2 3 _ (by omega)).trans ((o _ 1 3 _ (by omega)).trans ((o _ 0 3 _ (by omega)).trans h3)))

/-- Nodes with their kids' lists, cell by cell. -/
def nv (qs : List (NodeD × Value)) : List Value := qs.flatMap fun q => [.int .i64 q.1.op, .int .i64 q.1.num, .string q.1.name, q.2]
theorem nv_len (qs : List (NodeD × Value)) : (nv qs).length = qs.length * 4 := by
  induction qs with
  | nil => rfl
  | cons x qs ih => rw [nv, List.flatMap_cons, List.length_append, ← nv, ih]; simp; omega
theorem nv_app (qs rs : List (NodeD × Value)) : nv (qs ++ rs) = nv qs ++ nv rs := by simp [nv]
theorem nv_at : ∀ (qs : List (NodeD × Value)) (i : Nat) (h : i < qs.length), (nv qs)[i * 4]? = some (.int .i64 qs[i].1.op) ∧ (nv qs)[i * 4 + 1]? = some (.int .i64 qs[i].1.num) ∧ (nv qs)[i * 4 + 2]? = some (.string qs[i].1.name) ∧ (nv qs)[i * 4 + 3]? = some qs[i].2
  | q :: qs, 0, _ => ⟨rfl, rfl, rfl, rfl⟩
  | q :: qs, i + 1, h => by
    have := nv_at qs i (by simpa using h)
    have e : nv (q :: qs) = [.int .i64 q.1.op, .int .i64 q.1.num, .string q.1.name, q.2] ++ nv qs := rfl
    have e0 : ∀ j, (nv (q :: qs))[(i + 1) * 4 + j]? = (nv qs)[i * 4 + j]? := fun j => by
      rw [e, List.getElem?_append_right (by simp; omega)]
      congr 1
      simp
      omega
    exact ⟨(e0 0).trans this.1, (e0 1).trans this.2.1, (e0 2).trans this.2.2.1, (e0 3).trans this.2.2.2⟩
def OwnN (B : Nat) (v : Value) (ns : List NodeD) (w : World) : Prop :=
  ∃ qs : List (NodeD × Value), qs.map (·.1) = ns ∧ w.ownsRow B 93 4 v qs.length (nv qs) ∧ ∀ q ∈ qs, OwnZ B q.2 q.1.kids w
theorem OwnN.row {B : Nat} {v : Value} {ns : List NodeD} {w : World} (h : OwnN B v ns w) : NRow w v ns := by
  obtain ⟨qs, rfl, h, hk⟩ := h
  have hl : (qs.map (·.1)).length = qs.length := by simp
  rcases h.2 with ⟨rfl, hz⟩ | ⟨g, cap, cur, rfl, hB, hc, hle, hm, hs, ht⟩
  · exact ⟨none, 0, by rw [hl, hz], fun _ => rfl, fun h0 => by rw [hl] at h0; omega⟩
  · refine ⟨some ⟨g, 0, none⟩, cap, by rw [hl], fun h => (by cases h), fun _ => ⟨g, 0, rfl, (Array.getElem?_eq_some_iff.1 hc).1, fun i hi => ?_⟩⟩
    have key : ∀ j u, (nv qs)[j]? = some u → w.cell? ⟨g, 0 + j, none⟩ = some u := fun j u hu => by
      have := World.ownsRow.cells h (g := g) rfl j u hu
      rwa [Addr.add_lit] at this
    rw [hl] at hi
    have := nv_at qs i hi
    refine ⟨qs[i].2, ?_⟩
    rw [List.getElem_map]
    exact ⟨key _ _ this.1, by rw [Nat.add_assoc]; exact key _ _ this.2.1, by rw [Nat.add_assoc]; exact key _ _ this.2.2.1, by rw [Nat.add_assoc]; exact key _ _ this.2.2.2, (hk _ (List.getElem_mem hi)).row⟩
theorem OwnN.below {B : Nat} {v : Value} {ns : List NodeD} {w w' : World} (h : OwnN B v ns w) (hb : Below w.heap.size w w') : OwnN B v ns w' := by
  obtain ⟨qs, e, h, hk⟩ := h
  exact ⟨qs, e, own_below h hb, fun q hq => (hk q hq).below hb⟩

theorem take_four (cs : List Value) (j : Nat) (a b c d : Value) (h : j + 3 < cs.length) : ((((cs.set j a).set (j + 1) b).set (j + 2) c).set (j + 3) d).take (j + 4) = cs.take j ++ [a, b, c, d] := by
  apply List.ext_getElem?
  intro i
  rw [List.getElem?_take]
  have hl : (cs.take j).length = j := by simp; omega
  by_cases h1 : i < j
  · rw [if_pos (by omega), List.getElem?_set_ne (by omega), List.getElem?_set_ne (by omega), List.getElem?_set_ne (by omega), List.getElem?_set_ne (by omega), List.getElem?_append_left (by omega), List.getElem?_take, if_pos h1]
  · rw [List.getElem?_append_right (by omega), hl]
    by_cases h4 : i < j + 4
    · rw [if_pos h4]
      obtain ⟨t, rfl⟩ : ∃ t, i = j + t := ⟨i - j, by omega⟩
      have ht : t < 4 := by omega
      match t, ht with
      | 0, _ => rw [List.getElem?_set_ne (by omega), List.getElem?_set_ne (by omega), List.getElem?_set_ne (by omega), Nat.add_zero, List.getElem?_set_self (by omega)]; simp
      | 1, _ => rw [List.getElem?_set_ne (by omega), List.getElem?_set_ne (by omega), List.getElem?_set_self (by simp; omega)]; simp
      | 2, _ => rw [List.getElem?_set_ne (by omega), List.getElem?_set_self (by simp; omega)]; simp
      | 3, _ => rw [List.getElem?_set_self (by simp; omega)]; simp
    · rw [if_neg h4, List.getElem?_eq_none (by simp; omega)]

theorem Tryz.infoNode : (Tryz.prog.info? 93).map (fun i => (i.zero, i.size, i.bytes)) = some (some (.agg #[.int .i64 0, .int .i64 0, .string ⟨#[]⟩, .slice none 0 0]), 4, 56) := by kernel_rfl

end Go.Proofs.YtokidlklkgghkaaGreatDoor

namespace Go.Proofs.YtokidlklkgghkaaGreatDoor
open Go.RowKit

theorem OwnN.setLow {B : Nat} {v : Value} {ns : List NodeD} {w : World} (h : OwnN B v ns w) {b : Nat} (hb : b < B) (j : Nat) (u : Value) : OwnN B v ns (w.setCell ⟨b, j, none⟩ u) := by
  obtain ⟨qs, e, h1, h2⟩ := h
  refine ⟨qs, e, World.ownsRow.kept h1 (grow_set w b j u) ?_, fun q hq => World.ownsRow.kept (h2 q hq) (grow_set w b j u) (off_block (h2 q hq) hb)⟩
  cases hv : v.ownBlock with
  | none => exact .inl rfl
  | some k => exact .inr (fun e => by have := (World.ownsRow.lt h1 k hv).1; have e2 : k = b := Option.some.inj e; omega)
theorem OwnN.base {B B' : Nat} {v : Value} {ns : List NodeD} {w : World} (h : OwnN B v ns w) (hB : B' ≤ B) : OwnN B' v ns w := by
  obtain ⟨qs, e, h1, h2⟩ := h
  refine ⟨qs, e, ⟨h1.1, ?_⟩, fun q hq => (h2 q hq).base hB⟩
  rcases h1.2 with h | ⟨g, cap, cur, e, hg, r⟩
  · exact .inl h
  · exact .inr ⟨g, cap, cur, e, Nat.le_trans hB hg, r⟩

set_option maxHeartbeats 1600000 in
theorem eqIntS_same (u v : Value) (ks : List Int) (w : World) (hx : ks.length ≤ 1048576) (h : IRow w u ks) (h' : IRow w v ks) :
    Calls Tryz.prog 182 #[u, v] w fun e w' => e = .returned (.bool true) ∧ ∃ q, w' = w.drewN q := by
  have HX : Hid (IRow w u ks) := h
  have HY : Hid (IRow w v ks) := h'
  obtain ⟨a, cap, rfl⟩ := h.slice
  obtain ⟨a', cap', rfl⟩ := h'.slice
  clear h h'
  go_enter Tryz.func182, Tryz.ntmps182
  go_wp2
  go_loopw [5] (fun iv wr => ∃ k q : Nat, iv = .int .i64 k ∧ k ≤ ks.length ∧ wr = w.drewN q) (fun iv _ => ks.length - (intOf iv).toNat)
  case atStart => exact ⟨0, 0, rfl, Nat.zero_le _, rfl⟩
  case round =>
    obtain ⟨k, q, rfl, hk, hwr⟩ := hrel
    have HW : Hid (wr = w.drewN q) := hwr
    have HXr : Hid (IRow wr (.slice a ks.length cap) ks) := by rw [HW.out]; exact HX.out.below (bel_drewN (Below.refl _ _) q)
    have HYr : Hid (IRow wr (.slice a' ks.length cap') ks) := by rw [HW.out]; exact HY.out.below (bel_drewN (Below.refl _ _) q)
    clear hwr
    by_cases hlt : k < ks.length
    · obtain ⟨b, off, rfl, hc1⟩ := HXr.out.at hlt
      obtain ⟨b', off', rfl, hc2⟩ := HYr.out.at hlt
      have i4 : (k : Int) < (ks.length : Int) := by omega
      go_wp2
      go_big_quiet (fail)
      go_wp2
      go_roundw
      case rel => exact ⟨k + 1, q + nq, by go_num, by omega, by rw [HW.out, World.drewN_drewN]⟩
      case measure => simp [intOf]; omega
    · obtain rfl : k = ks.length := by omega
      go_wp2
      go_ret
      exact ⟨rfl, q, HW.out⟩

set_option maxHeartbeats 1600000 in
theorem eqExNode_same (op num : Int) (name : ByteArray) (u v : Value) (ks : List Int) (w : World) (hx : ks.length ≤ 1048576) (h : IRow w u ks) (h' : IRow w v ks) :
    Calls Tryz.prog 172 #[.agg #[.int .i64 op, .int .i64 num, .string name, u], .agg #[.int .i64 op, .int .i64 num, .string name, v]] w fun e w' => e = .returned (.bool true) ∧ Below w.heap.size w w' := by
  have hb := beq_yes (rfl : name = name)
  have BW : Hid (Below w.heap.size w ((w.alloc (.cells #[.int .i64 op, .int .i64 num, .string name, u] 93)).alloc (.cells #[.int .i64 op, .int .i64 num, .string name, v] 93))) := ((Below.refl _ _).alloc (Nat.le_refl _) _).alloc (by simp) _
  have HE : Hid (_) := eqIntS_same u v ks _ hx (h.below BW.out) (h'.below BW.out)
  obtain ⟨a, cap, rfl⟩ := h.slice
  obtain ⟨a', cap', rfl⟩ := h'.slice
  clear h h'
  go_enter Tryz.func172, Tryz.ntmps172
  go_wp2_with fail
  refine Calls.mono HE.out ?_
  rintro e w1 ⟨rfl, q, hq⟩
  have B1 : Hid (Below w.heap.size w w1) := by rw [hq]; exact bel_drewN BW.out q
  clear hq HE
  go_wp2
  go_ret
  exact ⟨rfl, B1.out⟩

theorem cells_keep8 {W W' : World} {a b c d a' b' c' d' : Addr} {x y z u x' y' z' u' : Value} (h : W.cell? a = some x ∧ W.cell? b = some y ∧ W.cell? c = some z ∧ W.cell? d = some u ∧ W.cell? a' = some x' ∧ W.cell? b' = some y' ∧ W.cell? c' = some z' ∧ W.cell? d' = some u') (hb : Below W.heap.size W W') :
    W'.cell? a = some x ∧ W'.cell? b = some y ∧ W'.cell? c = some z ∧ W'.cell? d = some u ∧ W'.cell? a' = some x' ∧ W'.cell? b' = some y' ∧ W'.cell? c' = some z' ∧ W'.cell? d' = some u' :=
  ⟨cell_keep h.1 hb, cell_keep h.2.1 hb, cell_keep h.2.2.1 hb, cell_keep h.2.2.2.1 hb, cell_keep h.2.2.2.2.1 hb, cell_keep h.2.2.2.2.2.1 hb, cell_keep h.2.2.2.2.2.2.1 hb, cell_keep h.2.2.2.2.2.2.2 hb⟩

set_option maxHeartbeats 3200000 in
theorem eqExNodeS_same (u v : Value) (ns : List NodeD) (w : World) (hn : ns.length ≤ 1048576) (hz : ∀ x ∈ ns, x.kids.length ≤ 1048576) (h : NRow w u ns) (h' : NRow w v ns) :
    Calls Tryz.prog 155 #[u, v] w fun e w' => e = .returned (.bool true) ∧ Below w.heap.size w w' := by
  have HX : Hid (NRow w u ns) := h
  have HY : Hid (NRow w v ns) := h'
  have HZ : Hid (∀ x ∈ ns, x.kids.length ≤ 1048576) := hz
  obtain ⟨a, cap, rfl⟩ := h.slice
  obtain ⟨a', cap', rfl⟩ := h'.slice
  clear h h' hz
  go_enter Tryz.func155, Tryz.ntmps155
  go_wp2
  go_loopw [5] (fun iv wr => ∃ k : Nat, iv = .int .i64 k ∧ k ≤ ns.length ∧ Below w.heap.size w wr) (fun iv _ => ns.length - (intOf iv).toNat)
  case atStart => exact ⟨0, rfl, Nat.zero_le _, Below.refl _ _⟩
  case round =>
    obtain ⟨k, rfl, hk, hb⟩ := hrel
    have HB : Hid (Below w.heap.size w wr) := hb
    have HXr : Hid (NRow wr (.slice a ns.length cap) ns) := HX.out.below hb
    have HYr : Hid (NRow wr (.slice a' ns.length cap') ns) := HY.out.below hb
    clear hb
    by_cases hlt : k < ns.length
    · obtain ⟨b, off, kv, rfl, n0, n1, n2, n3, hI⟩ := HXr.out.at hlt
      obtain ⟨b', off', kv', rfl, m0, m1, m2, m3, hI'⟩ := HYr.out.at hlt
      have i4 : (k : Int) < (ns.length : Int) := by omega
      have HE : Hid (_) := eqExNode_same ns[k].op ns[k].num ns[k].name kv kv' ns[k].kids wr.drew (HZ.out _ (List.getElem_mem hlt)) (hI.below (bel_drewN (Below.refl _ _) 1)) (hI'.below (bel_drewN (Below.refl _ _) 1))
      clear hI hI'
      generalize ns[k].op = op at *
      generalize ns[k].num = num at *
      generalize ns[k].name = name at *
      go_wp2
      go_region_held3 (fun W => W.cell? ⟨b, off + k * 4, none⟩ = some (.int .i64 op) ∧ W.cell? ⟨b, off + k * 4 + 1, none⟩ = some (.int .i64 num) ∧ W.cell? ⟨b, off + k * 4 + 2, none⟩ = some (.string name) ∧ W.cell? ⟨b, off + k * 4 + 3, none⟩ = some kv ∧ W.cell? ⟨b', off' + k * 4, none⟩ = some (.int .i64 op) ∧ W.cell? ⟨b', off' + k * 4 + 1, none⟩ = some (.int .i64 num) ∧ W.cell? ⟨b', off' + k * 4 + 2, none⟩ = some (.string name) ∧ W.cell? ⟨b', off' + k * 4 + 3, none⟩ = some kv')
        ((first | exact cells_keep8 (by assumption) hb2 | go_keep))
        ((first | (go_at_call 172; refine Calls.mono HE.out ?_; rintro e w2 ⟨rfl, hb2⟩)))
      have HB2 : Hid (Below w.heap.size w w2) := HB.out.trans ((bel_of_drew hb2).mono HB.out.size)
      clear hb2
      go_wp2
      go_roundw
      case rel => exact ⟨k + 1, by go_num, by omega, HB2.out⟩
      case measure => simp [intOf]; omega
    · obtain rfl : k = ns.length := by omega
      go_wp2
      go_ret
      exact ⟨rfl, HB.out⟩

theorem eqExpr_same (u v : Value) (ns : List NodeD) (w : World) (hn : ns.length ≤ 1048576) (hz : ∀ x ∈ ns, x.kids.length ≤ 1048576) (h : NRow w u ns) (h' : NRow w v ns) :
    Calls Tryz.prog 148 #[.agg #[u], .agg #[v]] w fun e w' => e = .returned (.bool true) ∧ Below w.heap.size w w' := by
  have BW : Hid (Below w.heap.size w ((w.alloc (.cells #[u] 66)).alloc (.cells #[v] 66))) := ((Below.refl _ _).alloc (Nat.le_refl _) _).alloc (by simp) _
  have HE : Hid (_) := eqExNodeS_same u v ns _ hn hz (h.below BW.out) (h'.below BW.out)
  obtain ⟨a, cap, rfl⟩ := h.slice
  obtain ⟨a', cap', rfl⟩ := h'.slice
  clear h h' hz
  go_enter Tryz.func148, Tryz.ntmps148
  go_wp2_with fail
  refine Calls.mono HE.out ?_
  rintro e w1 ⟨rfl, hb1⟩
  have B1 : Hid (Below w.heap.size w w1) := BW.out.trans (hb1.mono BW.out.size)
  clear hb1 HE
  go_wp2
  go_ret
  exact ⟨rfl, B1.out⟩

end Go.Proofs.YtokidlklkgghkaaGreatDoor
