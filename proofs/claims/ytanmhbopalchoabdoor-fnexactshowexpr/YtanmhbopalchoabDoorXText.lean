/- The program's textOf: what is shown of a part, its kids being shown so. -/
import Derived.Test.YtanmhbopalchoabDoorXFreeI
import Derived.Test.YtanmhbopalchoabDoorXShow
import Derived.Test.YtanmhbopalchoabDoorXCome
namespace Go.Proofs.YtanmhbopalchoabDoor
open Go.RowKit

theorem decSmall (n : Int) (w : World) (h0 : 0 ≤ n) (h1 : n ≤ 99) : Calls Tryd.prog 68 #[.int .i64 n] w fun e w' => e = .returned (.string (str (Lib.itoa n))) ∧ w' = w := by
  obtain ⟨i, rfl⟩ : ∃ i : Nat, n = (i : Int) := ⟨n.toNat, by omega⟩
  have HI : Hid (∀ W, _) := fun W => Tryd.strconv_Itoa_small i (by omega) W
  rw [Lib.itoa_nonneg, str]
  clear h0 h1
  go_enter Tryd.func68, Tryd.ntmps68
  go_wp2_with (go_at_call 78; refine (HI.out _).mono ?_; rintro e w1 ⟨rfl, rfl⟩)
  go_ret
  exact ⟨rfl, rfl⟩

/-- What is shown of a node, its kids being shown so. -/
def textB (x : NodeD) (ts : List ByteArray) : ByteArray :=
  if x.op = 1 then str (Lib.itoa x.num) else if x.op = 2 then x.name else if x.op = 3 then ⟨#[64]⟩ else if x.op = 11 then ⟨#[33]⟩ ++ ts.getD 0 ⟨#[]⟩
  else ⟨#[40]⟩ ++ ts.getD 0 ⟨#[]⟩ ++ ⟨#[32]⟩ ++ signB x.op ++ ⟨#[32]⟩ ++ ts.getD 1 ⟨#[]⟩ ++ ⟨#[41]⟩
/-- The kids' texts, as they lie in memory. -/
def TextsAt (w : World) (tv : Value) (kids : List Int) (ts : List ByteArray) : Prop :=
  ∃ g n, tv = .slice (some ⟨g, 0, none⟩) n n ∧ ts.length = kids.length ∧ ∀ j (h : j < kids.length), ∃ q : Nat, kids[j] = (q : Int) ∧ q < n ∧ (ts.getD j ⟨#[]⟩).size ≤ 33554432 ∧ w.cell? ⟨g, q, none⟩ = some (.string (ts.getD j ⟨#[]⟩))
theorem signs_cut (m : Nat) (h : m < 7) : (⟨#[43, 45, 42, 47, 60, 61, 38]⟩ : ByteArray).extract (m : Int).toNat ((m : Int) + 1).toNat = signsB.getD m ⟨#[]⟩ := by
  match m, h with
  | 0, _ => decide
  | 1, _ => decide
  | 2, _ => decide
  | 3, _ => decide
  | 4, _ => decide
  | 5, _ => decide
  | 6, _ => decide

set_option maxHeartbeats 3200000 in
set_option maxRecDepth 100000 in
theorem textOf_any {i : Nat} {x : NodeD} (hx : nodeB i x = true) (tv : Value) (ts : List ByteArray) (w : World) (h : TextsAt w tv x.kids ts) :
    Calls Tryd.prog 45 #[partV x, tv] w fun e w' => e = .returned (.string (textB x ts)) ∧ Below w.heap.size w w' := by
  obtain ⟨g, n, rfl, _, hk⟩ := h
  by_cases o1 : x.op = 1
  · have hp : partV x = .iface 89 (.agg #[.int .i64 x.num]) := by rw [partV, if_pos o1]
    have hnf := sh_num hx o1
    have HR : Hid (textB x ts = str (Lib.itoa x.num)) := by rw [Hid, textB, if_pos o1]
    have HD : Hid (∀ W, _) := fun W => decSmall x.num W hnf.1 hnf.2
    rw [hp, HR.out]
    have B0 : Hid (Below w.heap.size w (w.alloc (.cells #[.int .i64 x.num] 89))) := (Below.refl _ _).alloc (Nat.le_refl _) _
    have a1 := Tryd.ta_num_num
    generalize str (Lib.itoa x.num) = T at *
    clear hk hp hx o1 hnf
    go_enter Tryd.func45, Tryd.ntmps45
    go_wp2_with fail
    refine (HD.out _).mono ?_
    rintro e wq ⟨rfl, hw⟩
    rw [hw]
    clear hw wq
    go_wp2
    go_ret
    exact ⟨rfl, B0.out⟩
  by_cases o2 : x.op = 2
  · have hp : partV x = .iface 76 (.agg #[.string x.name]) := by rw [partV, if_neg o1, if_pos o2]
    have hsz := name_size hx o2
    have HR : Hid (textB x ts = x.name) := by rw [Hid, textB, if_neg o1, if_pos o2]
    have HC : Hid (∀ W, _) := fun W => cloneS x.name W (by omega)
    rw [hp, HR.out]
    have B0 : Hid (Below w.heap.size w (w.alloc (.cells #[.string x.name] 76))) := (Below.refl _ _).alloc (Nat.le_refl _) _
    have a1 := Tryd.ta_var_num
    have a2 := Tryd.ta_var_var
    clear hk hp hx o1 o2 hsz
    go_enter Tryd.func45, Tryd.ntmps45
    go_wp2_with fail
    refine (HC.out _).mono ?_
    rintro e w1 ⟨rfl, hb⟩
    have HB : Hid (Below w.heap.size w w1) := B0.out.trans (hb.mono B0.out.size)
    clear hb
    go_wp2
    go_ret
    exact ⟨rfl, HB.out⟩
  by_cases o3 : x.op = 3
  · have hp : partV x = .iface 91 (.agg #[]) := by rw [partV, if_neg o1, if_neg o2, if_pos o3]
    have HR : Hid (textB x ts = ⟨#[64]⟩) := by rw [Hid, textB, if_neg o1, if_neg o2, if_pos o3]
    rw [hp, HR.out]
    have B0 : Hid (Below w.heap.size w (w.alloc (.cells #[] 91))) := (Below.refl _ _).alloc (Nat.le_refl _) _
    have a1 := Tryd.ta_here_num
    have a2 := Tryd.ta_here_var
    have a3 := Tryd.ta_here_here
    clear hk hp hx o1 o2 o3
    go_enter Tryd.func45, Tryd.ntmps45
    go_wp2
    go_ret
    exact ⟨rfl, B0.out⟩
  by_cases o11 : x.op = 11
  · obtain ⟨q, hks, _⟩ := sh_one hx o11
    obtain ⟨q', hq', hqn, hsm, hcell⟩ := hk 0 (by rw [hks]; simp)
    obtain rfl : q = q' := by simp only [hks, List.getElem_cons_zero] at hq'; omega
    have hp : partV x = .iface 96 (.agg #[.int .i64 (q : Int)]) := by rw [partV, if_neg o1, if_neg o2, if_neg o3, if_pos o11, hks]; rfl
    have HR : Hid (textB x ts = ⟨#[33]⟩ ++ ts.getD 0 ⟨#[]⟩) := by rw [Hid, textB, if_neg o1, if_neg o2, if_neg o3, if_pos o11]
    rw [hp, HR.out]
    have B0 : Hid (Below w.heap.size w (w.alloc (.cells #[.int .i64 (q : Int)] 96))) := (Below.refl _ _).alloc (Nat.le_refl _) _
    have hc2 := cell_keep hcell B0.out
    generalize ts.getD 0 ⟨#[]⟩ = T at *
    have hadd := fun W => run_string_add_sum (P := Tryd.prog) (w := W) ⟨#[33]⟩ T (by show 1 + _ ≤ _; omega)
    have a1 := Tryd.ta_not_num
    have a2 := Tryd.ta_not_var
    have a3 := Tryd.ta_not_here
    have a4 := Tryd.ta_not_pair
    have a5 := Tryd.ta_not_not
    have i4 : (q : Int) < (n : Int) := by omega
    clear hk hp hx o1 o2 o3 o11 hq' hsm hcell hks
    go_enter Tryd.func45, Tryd.ntmps45
    go_wp2
    go_ret
    exact ⟨rfl, B0.out⟩
  obtain ⟨q, r, hks, _, _, ho4, ho10⟩ := sh_two hx o1 o2 o3 o11
  obtain ⟨q', hq', hqn, hsq, hcq⟩ := hk 0 (by rw [hks]; simp)
  obtain ⟨r', hr', hrn, hsr, hcr⟩ := hk 1 (by rw [hks]; simp)
  obtain rfl : q = q' := by simp only [hks, List.getElem_cons_zero] at hq'; omega
  obtain rfl : r = r' := by simp only [hks, List.getElem_cons_succ, List.getElem_cons_zero] at hr'; omega
  have hp : partV x = .iface 94 (.agg #[.int .i64 x.op, .int .i64 (q : Int), .int .i64 (r : Int)]) := by rw [partV, if_neg o1, if_neg o2, if_neg o3, if_neg o11, hks]; rfl
  have HR : Hid (textB x ts = ⟨#[40]⟩ ++ ts.getD 0 ⟨#[]⟩ ++ ⟨#[32]⟩ ++ signB x.op ++ ⟨#[32]⟩ ++ ts.getD 1 ⟨#[]⟩ ++ ⟨#[41]⟩) := by rw [Hid, textB, if_neg o1, if_neg o2, if_neg o3, if_neg o11]
  rw [hp, HR.out]
  have B0 : Hid (Below w.heap.size w (w.alloc (.cells #[.int .i64 x.op, .int .i64 (q : Int), .int .i64 (r : Int)] 94))) := (Below.refl _ _).alloc (Nat.le_refl _) _
  have hc2 := cell_keep hcq B0.out
  have hc3 := cell_keep hcr B0.out
  have b1 := Tryd.ta_pair_num
  have b2 := Tryd.ta_pair_var
  have b3 := Tryd.ta_pair_here
  have b4 := Tryd.ta_pair_pair
  have i4 : (q : Int) < (n : Int) := by omega
  have i5 : (r : Int) < (n : Int) := by omega
  have hs2 := signB_size x.op
  rw [signB] at hs2 ⊢
  generalize x.op = op at *
  generalize ts.getD 0 ⟨#[]⟩ = T at *
  generalize ts.getD 1 ⟨#[]⟩ = U at *
  obtain ⟨m, hm, hm7⟩ : ∃ m : Nat, (op - 4).toNat = m ∧ m < 7 := ⟨_, rfl, by omega⟩
  have hw4 : IntKind.i64.wrap (op - 4) = (m : Int) := by rw [IntKind.wrap_i64]; omega
  have hw5 : IntKind.i64.wrap ((m : Int) + 1) = (m : Int) + 1 := by rw [IntKind.wrap_i64]; omega
  have hcut := fun W => run_slice_string (P := Tryd.prog) W 9 ⟨#[43, 45, 42, 47, 60, 61, 38]⟩ .i64 .i64 (m : Int) ((m : Int) + 1) Tryd.underlying9 (by omega) (by omega) (by show _ ≤ ((7 : Nat) : Int); omega)
  rw [signs_cut m hm7] at hcut
  rw [hm] at hs2 ⊢
  generalize signsB.getD m ⟨#[]⟩ = sg at *
  have z1 : (⟨#[40]⟩ : ByteArray).size = 1 := rfl
  have z2 : (⟨#[32]⟩ : ByteArray).size = 1 := rfl
  have z3 : (⟨#[41]⟩ : ByteArray).size = 1 := rfl
  have a1 := fun W => run_string_add_sum (P := Tryd.prog) (w := W) ⟨#[40]⟩ T (by omega)
  have a2 := fun W => run_string_add_sum (P := Tryd.prog) (w := W) (⟨#[40]⟩ ++ T) ⟨#[32]⟩ (by simp only [ByteArray.size_append]; omega)
  have a3 := fun W => run_string_add_sum (P := Tryd.prog) (w := W) (⟨#[40]⟩ ++ T ++ ⟨#[32]⟩) sg (by simp only [ByteArray.size_append]; omega)
  have a4 := fun W => run_string_add_sum (P := Tryd.prog) (w := W) (⟨#[40]⟩ ++ T ++ ⟨#[32]⟩ ++ sg) ⟨#[32]⟩ (by simp only [ByteArray.size_append]; omega)
  have a5 := fun W => run_string_add_sum (P := Tryd.prog) (w := W) (⟨#[40]⟩ ++ T ++ ⟨#[32]⟩ ++ sg ++ ⟨#[32]⟩) U (by simp only [ByteArray.size_append]; omega)
  have a6 := fun W => run_string_add_sum (P := Tryd.prog) (w := W) (⟨#[40]⟩ ++ T ++ ⟨#[32]⟩ ++ sg ++ ⟨#[32]⟩ ++ U) ⟨#[41]⟩ (by simp only [ByteArray.size_append]; omega)
  clear z1 z2 z3 hs2 hm hk hp hx o1 o2 o3 o11 hq' hr' hsq hsr hcq hcr hks ho4 ho10 HR hm7
  go_enter Tryd.func45, Tryd.ntmps45
  go_wp2
  go_quiet (fail)
  go_wp2
  go_ret
  exact ⟨rfl, bel_drewN B0.out _⟩
end Go.Proofs.YtanmhbopalchoabDoor
