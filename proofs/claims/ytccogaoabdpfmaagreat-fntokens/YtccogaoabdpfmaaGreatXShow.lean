/- The specification's l04Show and ShowExpr: what is shown of an expression. -/
import Derived.Test.YtccogaoabdpfmaaGreatXKit2
import Derived.Test.YtccogaoabdpfmaaGreatDec
import Derived.Lib.ItoaLen
namespace Go.Proofs.YtccogaoabdpfmaaGreat
open Go.RowKit
set_option maxHeartbeats 3200000
set_option maxRecDepth 100000
def signsB : List ByteArray := [⟨#[43]⟩, ⟨#[45]⟩, ⟨#[42]⟩, ⟨#[47]⟩, ⟨#[60]⟩, ⟨#[61]⟩, ⟨#[38]⟩]
def signX (op : Int) : ByteArray := signsB.getD (op - 4).toNat ⟨#[]⟩
def kidN (x : NodeD) (j : Nat) : Nat := (x.kids.getD j 0).toNat
def showN : Nat → List NodeD → Nat → ByteArray
 | 0, _, _ => ⟨#[]⟩
 | f + 1, ns, i => match ns[i]? with
  | none => ⟨#[]⟩
  | some x => if x.op = 1 then str (Lib.itoa x.num) else if x.op = 2 then x.name else if x.op = 3 then ⟨#[64]⟩ else if x.op = 11 then ⟨#[33]⟩ ++ showN f ns (kidN x 0)
   else ⟨#[40]⟩ ++ showN f ns (kidN x 0) ++ ⟨#[32]⟩ ++ signX x.op ++ ⟨#[32]⟩ ++ showN f ns (kidN x 1) ++ ⟨#[41]⟩
def showB (ns : List NodeD) : ByteArray := if exprB ns = true ∧ sizeB ns ≤ 200 then showN ns.length ns (ns.length - 1) else ⟨#[]⟩
theorem showN_at (f : Nat) (ns : List NodeD) (i : Nat) (h : i < ns.length) : showN (f + 1) ns i = if ns[i].op = 1 then str (Lib.itoa ns[i].num) else if ns[i].op = 2 then ns[i].name else if ns[i].op = 3 then ⟨#[64]⟩ else if ns[i].op = 11 then ⟨#[33]⟩ ++ showN f ns (kidN ns[i] 0)
   else ⟨#[40]⟩ ++ showN f ns (kidN ns[i] 0) ++ ⟨#[32]⟩ ++ signX ns[i].op ++ ⟨#[32]⟩ ++ showN f ns (kidN ns[i] 1) ++ ⟨#[41]⟩ := by
 rw [showN, List.getElem?_eq_getElem h]
theorem signX_size (op : Int) : (signX op).size ≤ 1 := by
 unfold signX signsB
 generalize (op - 4).toNat = m
 match m with
 | 0 => decide
 | 1 => decide
 | 2 => decide
 | 3 => decide
 | 4 => decide
 | 5 => decide
 | 6 => decide
 | m + 7 => exact Nat.zero_le _
theorem sh_num {i : Nat} {x : NodeD} (h : nodeB i x = true) (h1 : x.op = 1) : 0 ≤ x.num ∧ x.num ≤ 99 := by
 obtain ⟨_, _, hf, _⟩ := node_parts h
 rw [fieldsB, if_pos h1, Bool.and_eq_true, inI, decide_eq_true_eq] at hf
 exact hf.1
theorem sh_name {i : Nat} {x : NodeD} (h : nodeB i x = true) (h2 : x.op = 2) : x.name.size ≤ 4 := by
 obtain ⟨_, _, hf, _⟩ := node_parts h
 rw [fieldsB, Bool.and_eq_true, if_pos h2, nameB, Bool.and_eq_true, decide_eq_true_eq] at hf
 exact hf.2.2.2
theorem sh_two {i : Nat} {x : NodeD} (h : nodeB i x = true) (h1 : ¬ x.op = 1) (h2 : ¬ x.op = 2) (h3 : ¬ x.op = 3) (h11 : ¬ x.op = 11) : ∃ a b : Nat, x.kids = [(a : Int), (b : Int)] ∧ a < i ∧ b < i ∧ 4 ≤ x.op ∧ x.op ≤ 10 := by
 obtain ⟨ho, hl, _, hk⟩ := node_parts h
 rw [kidsN, if_neg (by omega), if_neg h11] at hl
 match hx : x.kids, hl with
 | [p, q], _ =>
  have hp := hk p (by rw [hx]; simp)
  have hq := hk q (by rw [hx]; simp)
  exact ⟨p.toNat, q.toNat, by rw [Int.toNat_of_nonneg hp.1, Int.toNat_of_nonneg hq.1], by omega, by omega, by omega, by omega⟩
theorem sh_one {i : Nat} {x : NodeD} (h : nodeB i x = true) (h11 : x.op = 11) : ∃ a : Nat, x.kids = [(a : Int)] ∧ a < i := by
 obtain ⟨ho, hl, _, hk⟩ := node_parts h
 rw [kidsN, if_neg (by omega), if_pos h11] at hl
 match hx : x.kids, hl with
 | [p], _ =>
  have hp := hk p (by rw [hx]; simp)
  exact ⟨p.toNat, by rw [Int.toNat_of_nonneg hp.1], by omega⟩
theorem showN_size {ns : List NodeD} (hn : ∀ k (hk : k < ns.length), nodeB k ns[k] = true) : ∀ f i, (showN f ns i).size + 5 ≤ 32 * 2 ^ f
 | 0, _ => by show 0 + 5 ≤ 32 * 2 ^ 0; decide
 | f + 1, i => by
  have hp : 1 ≤ 2 ^ f := Nat.one_le_two_pow
  rw [Nat.pow_succ]
  by_cases hi : i < ns.length
  ·rw [showN_at f ns i hi]
   have h := hn i hi
   have s0 := showN_size hn f (kidN ns[i] 0)
   have s1 := showN_size hn f (kidN ns[i] 1)
   have sg := signX_size ns[i].op
   have e1 : (⟨#[33]⟩ : ByteArray).size = 1 := rfl
   have e2 : (⟨#[40]⟩ : ByteArray).size = 1 := rfl
   have e3 : (⟨#[32]⟩ : ByteArray).size = 1 := rfl
   have e4 : (⟨#[41]⟩ : ByteArray).size = 1 := rfl
   have e5 : (⟨#[64]⟩ : ByteArray).size = 1 := rfl
   split
   ·rename_i h1
    have hb := sh_num h h1
    have := Lib.itoa_length_le ns[i].num (by omega) (by omega)
    rw [str_size]
    omega
   ·split
    ·rename_i h2
     have := sh_name h h2
     omega
    ·split
     ·omega
     ·split
      ·rw [ByteArray.size_append]; omega
      ·simp only [ByteArray.size_append]; omega
  ·rw [showN, List.getElem?_eq_none (by omega)]
   show 0 + 5 ≤ _
   omega
theorem keep_3 {W W' : World} {a b c : Addr} {x y z : Value} (h : W.cell? a = some x ∧ W.cell? b = some y ∧ W.cell? c = some z) (hb : Below W.heap.size W W') :
  W'.cell? a = some x ∧ W'.cell? b = some y ∧ W'.cell? c = some z :=
 ⟨cell_keep h.1 hb, cell_keep h.2.1 hb, cell_keep h.2.2 hb⟩
theorem keep_6 {W W' : World} {a b c d a' b' : Addr} {x y z u x' y' : Value} (h : W.cell? a = some x ∧ W.cell? b = some y ∧ W.cell? c = some z ∧ W.cell? d = some u ∧ W.cell? a' = some x' ∧ W.cell? b' = some y') (hb : Below W.heap.size W W') :
  W'.cell? a = some x ∧ W'.cell? b = some y ∧ W'.cell? c = some z ∧ W'.cell? d = some u ∧ W'.cell? a' = some x' ∧ W'.cell? b' = some y' :=
 ⟨cell_keep h.1 hb, cell_keep h.2.1 hb, cell_keep h.2.2.1 hb, cell_keep h.2.2.2.1 hb, cell_keep h.2.2.2.2.1 hb, cell_keep h.2.2.2.2.2 hb⟩
def signsC : Array Value := #[.string ⟨#[43]⟩, .string ⟨#[45]⟩, .string ⟨#[42]⟩, .string ⟨#[47]⟩, .string ⟨#[60]⟩, .string ⟨#[61]⟩, .string ⟨#[38]⟩]
theorem signsC_at (m : Nat) (h : m < 7) : signsC[m]? = some (.string (signsB.getD m ⟨#[]⟩)) := by
 match m, h with
 | 0, _ => rfl
 | 1, _ => rfl
 | 2, _ => rfl
 | 3, _ => rfl
 | 4, _ => rfl
 | 5, _ => rfl
 | 6, _ => rfl
theorem box_twoX (w : World) (x : Value) (c : Array Value) (s t : TypeId) {B : Nat} (hB : w.heap.size = B) :
  ((w.alloc (.cells #[x] s)).alloc (.cells c t)).cell? ⟨B, 0, none⟩ = some x ∧ ((w.alloc (.cells #[x] s)).alloc (.cells c t)).heap[B + 1]? = some (.cells c t) ∧ ((w.alloc (.cells #[x] s)).alloc (.cells c t)).heap.size = B + 2 := by
 subst hB
 have e1 : (w.alloc (.cells #[x] s)).heap.size = w.heap.size + 1 := by simp
 refine ⟨cell_keep (lit_one _ _ _) ((Below.refl _ _).alloc (Nat.le_refl _) _), ?_, by simp⟩
 have := heap_alloc_new (w.alloc (.cells #[x] s)) (.cells c t)
 rwa [e1] at this
theorem l04Show_any {ns : List NodeD} (hx : exprB ns = true) : ∀ (f i : Nat), i < f → i < ns.length → f ≤ 20 → ∀ (v : Value) (w : World), NRow w v ns →
  Calls Tryz.prog 74 #[.agg #[v], .int .i64 i] w fun e w' => e = .returned (.string (showN f ns i)) ∧ Below w.heap.size w w'
 | 0, _, h, _, _ => absurd h (Nat.not_lt_zero _)
 | f + 1, i, hif, hi, hf => by
  intro v w h
  have HSz : Hid (∀ j, (showN f ns j).size + 5 ≤ 33554432) := fun j => by
   have h1 := showN_size (exprB_at hx).2 f j
   have h2 : 2 ^ f ≤ 2 ^ 20 := Nat.pow_le_pow_right (by omega) (by omega)
   have h3 : (2 : Nat) ^ 20 = 1048576 := by decide
   omega
  have IH : Hid (∀ q : Nat, q < i → ∀ (v : Value) (w : World), NRow w v ns → Calls Tryz.prog 74 #[.agg #[v], .int .i64 q] w fun e w' => e = .returned (.string (showN f ns q)) ∧ Below w.heap.size w w') :=
   fun q hq v w hv => l04Show_any hx f q (by omega) (by omega) (by omega) v w hv
  have hnd := (exprB_at hx).2 i hi
  have HN : Hid (_ = _) := showN_at f ns i hi
  have HNd : Hid (nodeB i ns[i] = true) := hnd
  have HR : Hid (NRow w v ns) := h
  obtain ⟨a, cap, rfl⟩ := h.slice
  obtain ⟨b, off, kv, rfl, n0, n1, n2, n3, hI⟩ := h.at hi
  obtain ⟨ak, ck, rfl⟩ := hI.slice
  have HI : Hid (IRow w (.slice ak ns[i].kids.length ck) ns[i].kids) := hI
  have hlt := World.block_lt_of_cell? w _ n0
  have i4 : (i : Int) < (ns.length : Int) := by omega
  have bal := (Below.refl w.heap.size w).alloc (Nat.le_refl _) (.cells #[.slice (some ⟨b, off, none⟩) ns.length cap] 95)
  have m0 := cell_keep n0 bal
  have m1 := cell_keep n1 bal
  have m2 := cell_keep n2 bal
  have m3 := cell_keep n3 bal
  clear h hnd hI n0 n1 n2 n3 bal hx
  by_cases h1 : ns[i].op = 1
  ·have HE : Hid (showN (f + 1) ns i = str (Lib.itoa ns[i].num)) := by have := HN.out; rwa [if_pos h1] at this
   have hnum := sh_num HNd.out h1
   have HD : Hid (∀ W, _) := fun W => specDec_any ns[i].num W (by omega) (by omega)
   have BW : Hid (Below w.heap.size w ((w.alloc (.cells #[.slice (some ⟨b, off, none⟩) ns.length cap] 95)).alloc (.cells #[.int .i64 1, .int .i64 ns[i].num, .string ns[i].name, .slice ak ns[i].kids.length ck] 133))) := ((Below.refl _ _).alloc (Nat.le_refl _) _).alloc (by simp) _
   rw [h1] at m0
   clear h1 HN hnum
   rw [HE.out]
   generalize str (Lib.itoa ns[i].num) = T at *
   go_enter Tryz.func74, Tryz.ntmps74
   go_wp2_with fail
   refine (HD.out _).mono ?_
   rintro e w1 ⟨rfl, hb⟩
   have B1 := BW.out.trans (hb.mono BW.out.size)
   clear hb
   go_wp2
   go_ret
   exact ⟨rfl, B1⟩
  by_cases h2 : ns[i].op = 2
  ·have HE : Hid (showN (f + 1) ns i = ns[i].name) := by have := HN.out; rwa [if_neg h1, if_pos h2] at this
   have BW : Hid (Below w.heap.size w ((w.alloc (.cells #[.slice (some ⟨b, off, none⟩) ns.length cap] 95)).alloc (.cells #[.int .i64 2, .int .i64 ns[i].num, .string ns[i].name, .slice ak ns[i].kids.length ck] 133))) := ((Below.refl _ _).alloc (Nat.le_refl _) _).alloc (by simp) _
   rw [h2] at m0
   clear h1 h2 HN
   rw [HE.out]
   go_enter Tryz.func74, Tryz.ntmps74
   go_wp2
   go_ret
   exact ⟨rfl, BW.out⟩
  by_cases h3 : ns[i].op = 3
  ·have HE : Hid (showN (f + 1) ns i = ⟨#[64]⟩) := by have := HN.out; rwa [if_neg h1, if_neg h2, if_pos h3] at this
   have BW : Hid (Below w.heap.size w ((w.alloc (.cells #[.slice (some ⟨b, off, none⟩) ns.length cap] 95)).alloc (.cells #[.int .i64 3, .int .i64 ns[i].num, .string ns[i].name, .slice ak ns[i].kids.length ck] 133))) := ((Below.refl _ _).alloc (Nat.le_refl _) _).alloc (by simp) _
   rw [h3] at m0
   clear h1 h2 h3 HN
   rw [HE.out]
   go_enter Tryz.func74, Tryz.ntmps74
   go_wp2
   go_ret
   exact ⟨rfl, BW.out⟩
  by_cases h11 : ns[i].op = 11
  ·obtain ⟨q, hks, hq⟩ := sh_one HNd.out h11
   have HE : Hid (showN (f + 1) ns i = ⟨#[33]⟩ ++ showN f ns q) := by
    have := HN.out
    rw [if_neg h1, if_neg h2, if_neg h3, if_pos h11] at this
    rw [Hid, this, kidN, hks]
    rfl
   have hsz := HSz.out q
   have hadd := fun W => run_string_add_sum (P := Tryz.prog) (w := W) ⟨#[33]⟩ (showN f ns q) (by show 1 + _ ≤ _; omega)
   obtain ⟨bk, offk, rfl, hck⟩ := HI.out.at (k := 0) (by rw [hks]; simp)
   have hck2 : w.cell? ⟨bk, offk, none⟩ = some (.int .i64 (q : Int)) := by
    have e : ns[i].kids[0]'(by rw [hks]; simp) = (q : Int) := by simp [hks]
    rw [← e]; exact hck
   have hL : ns[i].kids.length = 1 := by rw [hks]; rfl
   rw [hL] at m3
   obtain ⟨B, hB⟩ : ∃ B, w.heap.size = B := ⟨_, rfl⟩
   obtain ⟨E2, X2, Z2⟩ := box_twoX w (.slice (some ⟨b, off, none⟩) ns.length cap) #[.int .i64 11, .int .i64 ns[i].num, .string ns[i].name, .slice (some ⟨bk, offk, none⟩) 1 ck] 95 133 hB
   have BW : Hid (Below w.heap.size w ((w.alloc (.cells #[.slice (some ⟨b, off, none⟩) ns.length cap] 95)).alloc (.cells #[.int .i64 11, .int .i64 ns[i].num, .string ns[i].name, .slice (some ⟨bk, offk, none⟩) 1 ck] 133))) := ((Below.refl _ _).alloc (Nat.le_refl _) _).alloc (by simp) _
   have K2 := cell_keep hck2 BW.out
   have R2 : Hid (NRow ((w.alloc (.cells #[.slice (some ⟨b, off, none⟩) ns.length cap] 95)).alloc (.cells #[.int .i64 11, .int .i64 ns[i].num, .string ns[i].name, .slice (some ⟨bk, offk, none⟩) 1 ck] 133)) (.slice (some ⟨b, off, none⟩) ns.length cap) ns) := HR.out.below BW.out
   have X3 : ((w.alloc (.cells #[.slice (some ⟨b, off, none⟩) ns.length cap] 95)).alloc (.cells #[.int .i64 11, .int .i64 ns[i].num, .string ns[i].name, .slice (some ⟨bk, offk, none⟩) 1 ck] 133)).cell? ⟨B + 1, 3, none⟩ = some (.slice (some ⟨bk, offk, none⟩) 1 ck) := by rw [cell_of_row _ _ 3 _ _ _ X2]; rfl
   have HQ : Hid (∀ W, NRow W (.slice (some ⟨b, off, none⟩) ns.length cap) ns → _) := IH.out q hq (.slice (some ⟨b, off, none⟩) ns.length cap)
   rw [h11] at m0
   clear h1 h2 h3 h11 HN hks hL hck hck2 hsz X2 Z2 hq IH HI HNd
   rw [HE.out]
   clear HE
   generalize showN f ns q = T at *
   go_enter Tryz.func74, Tryz.ntmps74
   go_wp2
   generalize (w.alloc (.cells #[.slice (some ⟨b, off, none⟩) ns.length cap] 95)).alloc (.cells #[.int .i64 11, .int .i64 ns[i].num, .string ns[i].name, .slice (some ⟨bk, offk, none⟩) 1 ck] 133) = w2 at *
   go_region_held3 (fun W => W.cell? ⟨B, 0, none⟩ = some (.slice (some ⟨b, off, none⟩) ns.length cap) ∧ W.cell? ⟨B + 1, 3, none⟩ = some (.slice (some ⟨bk, offk, none⟩) 1 ck) ∧ W.cell? ⟨bk, offk, none⟩ = some (.int .i64 (q : Int)))
    ((first | exact keep_3 (by assumption) hb4 | go_keep))
    ((go_at_call 74; refine (HQ.out _ (R2.out.below (bel_drewN (Below.refl _ _) 1))).mono ?_; rintro e w4 ⟨rfl, hb4⟩))
   have B4 := BW.out.trans ((bel_of_drew hb4).mono BW.out.size)
   clear hb4
   go_wp2
   go_ret
   exact ⟨rfl, B4⟩
  obtain ⟨q, r, hks, hq, hr, ho4, ho10⟩ := sh_two HNd.out h1 h2 h3 h11
  have HE : Hid (showN (f + 1) ns i = ⟨#[40]⟩ ++ showN f ns q ++ ⟨#[32]⟩ ++ signsB.getD (ns[i].op - 4).toNat ⟨#[]⟩ ++ ⟨#[32]⟩ ++ showN f ns r ++ ⟨#[41]⟩) := by
   have := HN.out
   rw [if_neg h1, if_neg h2, if_neg h3, if_neg h11] at this
   rw [Hid, this, kidN, kidN, hks]
   rfl
  have hs0 := HSz.out q
  have hs1 := HSz.out r
  have hs2 := signX_size ns[i].op
  rw [signX] at hs2
  obtain ⟨bk, offk, rfl, hck⟩ := HI.out.at (k := 0) (by rw [hks]; simp)
  obtain ⟨bk', offk', e, hcl⟩ := HI.out.at (k := 1) (by rw [hks]; simp)
  cases e
  have hck2 : w.cell? ⟨bk, offk, none⟩ = some (.int .i64 (q : Int)) := by
   have e : ns[i].kids[0]'(by rw [hks]; simp) = (q : Int) := by simp [hks]
   rw [← e]; exact hck
  have hcl2 : w.cell? ⟨bk, offk + 1, none⟩ = some (.int .i64 (r : Int)) := by
   have e : ns[i].kids[1]'(by rw [hks]; simp) = (r : Int) := by simp [hks]
   rw [← e]; exact hcl
  have hL : ns[i].kids.length = 2 := by rw [hks]; rfl
  rw [hL] at m3
  have HQ : Hid (∀ W, NRow W (.slice (some ⟨b, off, none⟩) ns.length cap) ns → _) := IH.out q hq (.slice (some ⟨b, off, none⟩) ns.length cap)
  have HQ' : Hid (∀ W, NRow W (.slice (some ⟨b, off, none⟩) ns.length cap) ns → _) := IH.out r hr (.slice (some ⟨b, off, none⟩) ns.length cap)
  rw [HE.out]
  clear HE HN hks hL hck hcl hq hr IH HI HNd HSz
  generalize ns[i].op = op at *
  obtain ⟨m, hm, hm7⟩ : ∃ m : Nat, (op - 4).toNat = m ∧ m < 7 := ⟨_, rfl, by omega⟩
  have hw4 : IntKind.i64.wrap (op - 4) = (m : Int) := by rw [IntKind.wrap_i64]; omega
  have i7 : (m : Int) < 7 := by omega
  rw [hm] at hs2 ⊢
  have HSg : Hid (signsC[m]? = some (.string (signsB.getD m ⟨#[]⟩))) := signsC_at m hm7
  generalize signsB.getD m ⟨#[]⟩ = sg at *
  generalize showN f ns q = T at *
  generalize showN f ns r = U at *
  have z1 : (⟨#[40]⟩ : ByteArray).size = 1 := rfl
  have z2 : (⟨#[32]⟩ : ByteArray).size = 1 := rfl
  have z3 : (⟨#[41]⟩ : ByteArray).size = 1 := rfl
  have a1 := fun W => run_string_add_sum (P := Tryz.prog) (w := W) ⟨#[40]⟩ T (by omega)
  have a2 := fun W => run_string_add_sum (P := Tryz.prog) (w := W) (⟨#[40]⟩ ++ T) ⟨#[32]⟩ (by simp only [ByteArray.size_append]; omega)
  have a3 := fun W => run_string_add_sum (P := Tryz.prog) (w := W) (⟨#[40]⟩ ++ T ++ ⟨#[32]⟩) sg (by simp only [ByteArray.size_append]; omega)
  have a4 := fun W => run_string_add_sum (P := Tryz.prog) (w := W) (⟨#[40]⟩ ++ T ++ ⟨#[32]⟩ ++ sg) ⟨#[32]⟩ (by simp only [ByteArray.size_append]; omega)
  have a5 := fun W => run_string_add_sum (P := Tryz.prog) (w := W) (⟨#[40]⟩ ++ T ++ ⟨#[32]⟩ ++ sg ++ ⟨#[32]⟩) U (by simp only [ByteArray.size_append]; omega)
  have a6 := fun W => run_string_add_sum (P := Tryz.prog) (w := W) (⟨#[40]⟩ ++ T ++ ⟨#[32]⟩ ++ sg ++ ⟨#[32]⟩ ++ U) ⟨#[41]⟩ (by simp only [ByteArray.size_append]; omega)
  clear z1 z2 z3 hs0 hs1 hs2 hm
  obtain ⟨B, hB⟩ : ∃ B, w.heap.size = B := ⟨_, rfl⟩
  obtain ⟨E2, X2, Z2⟩ := box_twoX w (.slice (some ⟨b, off, none⟩) ns.length cap) #[.int .i64 op, .int .i64 ns[i].num, .string ns[i].name, .slice (some ⟨bk, offk, none⟩) 2 ck] 95 133 hB
  have BW : Below w.heap.size w ((w.alloc (.cells #[.slice (some ⟨b, off, none⟩) ns.length cap] 95)).alloc (.cells #[.int .i64 op, .int .i64 ns[i].num, .string ns[i].name, .slice (some ⟨bk, offk, none⟩) 2 ck] 133)) := ((Below.refl _ _).alloc (Nat.le_refl _) _).alloc (by simp) _
  have bal := (Below.refl ((w.alloc (.cells #[.slice (some ⟨b, off, none⟩) ns.length cap] 95)).alloc (.cells #[.int .i64 op, .int .i64 ns[i].num, .string ns[i].name, .slice (some ⟨bk, offk, none⟩) 2 ck] 133)).heap.size ((w.alloc (.cells #[.slice (some ⟨b, off, none⟩) ns.length cap] 95)).alloc (.cells #[.int .i64 op, .int .i64 ns[i].num, .string ns[i].name, .slice (some ⟨bk, offk, none⟩) 2 ck] 133))).alloc (Nat.le_refl _) (.cells #[.string ⟨#[43]⟩, .string ⟨#[45]⟩, .string ⟨#[42]⟩, .string ⟨#[47]⟩, .string ⟨#[60]⟩, .string ⟨#[61]⟩, .string ⟨#[38]⟩] 9)
  have B3 : Hid (Below w.heap.size w (((w.alloc (.cells #[.slice (some ⟨b, off, none⟩) ns.length cap] 95)).alloc (.cells #[.int .i64 op, .int .i64 ns[i].num, .string ns[i].name, .slice (some ⟨bk, offk, none⟩) 2 ck] 133)).alloc (.cells #[.string ⟨#[43]⟩, .string ⟨#[45]⟩, .string ⟨#[42]⟩, .string ⟨#[47]⟩, .string ⟨#[60]⟩, .string ⟨#[61]⟩, .string ⟨#[38]⟩] 9))) := BW.trans (bal.mono BW.size)
  have E3 := cell_keep E2 bal
  have K3 := cell_keep hck2 B3.out
  have L3 := cell_keep hcl2 B3.out
  have R3 : Hid (NRow (((w.alloc (.cells #[.slice (some ⟨b, off, none⟩) ns.length cap] 95)).alloc (.cells #[.int .i64 op, .int .i64 ns[i].num, .string ns[i].name, .slice (some ⟨bk, offk, none⟩) 2 ck] 133)).alloc (.cells #[.string ⟨#[43]⟩, .string ⟨#[45]⟩, .string ⟨#[42]⟩, .string ⟨#[47]⟩, .string ⟨#[60]⟩, .string ⟨#[61]⟩, .string ⟨#[38]⟩] 9)) (.slice (some ⟨b, off, none⟩) ns.length cap) ns) := HR.out.below B3.out
  have X0 : ((w.alloc (.cells #[.slice (some ⟨b, off, none⟩) ns.length cap] 95)).alloc (.cells #[.int .i64 op, .int .i64 ns[i].num, .string ns[i].name, .slice (some ⟨bk, offk, none⟩) 2 ck] 133)).cell? ⟨B + 1, 0, none⟩ = some (.int .i64 op) := by rw [cell_of_row _ _ 0 _ _ _ X2]; rfl
  have X3 : ((w.alloc (.cells #[.slice (some ⟨b, off, none⟩) ns.length cap] 95)).alloc (.cells #[.int .i64 op, .int .i64 ns[i].num, .string ns[i].name, .slice (some ⟨bk, offk, none⟩) 2 ck] 133)).cell? ⟨B + 1, 3, none⟩ = some (.slice (some ⟨bk, offk, none⟩) 2 ck) := by rw [cell_of_row _ _ 3 _ _ _ X2]; rfl
  have X03 := cell_keep X0 bal
  have X33 := cell_keep X3 bal
  have G3 : (((w.alloc (.cells #[.slice (some ⟨b, off, none⟩) ns.length cap] 95)).alloc (.cells #[.int .i64 op, .int .i64 ns[i].num, .string ns[i].name, .slice (some ⟨bk, offk, none⟩) 2 ck] 133)).alloc (.cells #[.string ⟨#[43]⟩, .string ⟨#[45]⟩, .string ⟨#[42]⟩, .string ⟨#[47]⟩, .string ⟨#[60]⟩, .string ⟨#[61]⟩, .string ⟨#[38]⟩] 9)).cell? ⟨B + 1 + 1, m, none⟩ = some (.string sg) := by
   have := heap_alloc_new ((w.alloc (.cells #[.slice (some ⟨b, off, none⟩) ns.length cap] 95)).alloc (.cells #[.int .i64 op, .int .i64 ns[i].num, .string ns[i].name, .slice (some ⟨bk, offk, none⟩) 2 ck] 133)) (.cells #[.string ⟨#[43]⟩, .string ⟨#[45]⟩, .string ⟨#[42]⟩, .string ⟨#[47]⟩, .string ⟨#[60]⟩, .string ⟨#[61]⟩, .string ⟨#[38]⟩] 9)
   rw [Z2] at this
   rw [show B + 1 + 1 = B + 2 from rfl, cell_of_row _ _ m _ _ _ this]
   exact HSg.out
  clear E2 X2 Z2 BW bal X0 X3 hck2 hcl2 HSg
  go_enter Tryz.func74, Tryz.ntmps74
  go_wp2
  generalize (((w.alloc (.cells #[.slice (some ⟨b, off, none⟩) ns.length cap] 95)).alloc (.cells #[.int .i64 op, .int .i64 ns[i].num, .string ns[i].name, .slice (some ⟨bk, offk, none⟩) 2 ck] 133)).alloc (.cells #[.string ⟨#[43]⟩, .string ⟨#[45]⟩, .string ⟨#[42]⟩, .string ⟨#[47]⟩, .string ⟨#[60]⟩, .string ⟨#[61]⟩, .string ⟨#[38]⟩] 9)) = w3 at *
  go_region_held3 (fun W => W.cell? ⟨B, 0, none⟩ = some (.slice (some ⟨b, off, none⟩) ns.length cap) ∧ W.cell? ⟨B + 1, 0, none⟩ = some (.int .i64 op) ∧ W.cell? ⟨B + 1, 3, none⟩ = some (.slice (some ⟨bk, offk, none⟩) 2 ck) ∧ W.cell? ⟨bk, offk, none⟩ = some (.int .i64 (q : Int)) ∧ W.cell? ⟨bk, offk + 1, none⟩ = some (.int .i64 (r : Int)) ∧ W.cell? ⟨B + 1 + 1, m, none⟩ = some (.string sg))
   ((first | exact keep_6 (by assumption) hb5 | exact keep_6 (by assumption) hb4 | go_keep))
   ((first
    | (go_at_call 74; refine (HQ'.out _ ((R3.out.below (bel_drewN (Below.refl _ _) 1)).below hb4)).mono ?_; rintro e w5 ⟨rfl, hb5⟩)
    | (go_at_call 74; refine (HQ.out _ (R3.out.below (bel_drewN (Below.refl _ _) 1))).mono ?_; rintro e w4 ⟨rfl, hb4⟩)))
  have B4 := B3.out.trans ((bel_of_drew hb4).mono B3.out.size)
  have B5 := B4.trans (hb5.mono B4.size)
  clear hb4 hb5
  go_wp2
  go_ret
  exact ⟨rfl, B5⟩
end Go.Proofs.YtccogaoabdpfmaaGreat
