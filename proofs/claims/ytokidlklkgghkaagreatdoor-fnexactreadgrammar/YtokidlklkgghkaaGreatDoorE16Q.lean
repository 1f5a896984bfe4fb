/- VarName and EnvOk of the specification. -/
/- Expressions: the plain mathematics: which are right, what they are worth. -/
/- What is written of an expression (pure). -/
/- Writing that can be read in one way alone (pure). -/
import Derived.Test.YtokidlklkgghkaaGreatDoorEnvGet
import Derived.Deep.QuietTactic
import Derived.BigQuiet
import Derived.Laws.Cover1
namespace Go.Proofs.YtokidlklkgghkaaGreatDoor
open Go.RowKit

theorem in_any (n lo hi : Int) (w : World) :
    Calls Tryz.prog 54 #[.int .i64 n, .int .i64 lo, .int .i64 hi] w fun e w' => e = .returned (.bool (decide (lo ≤ n ∧ n ≤ hi))) ∧ w' = w := by
  by_cases h1 : lo ≤ n
  · by_cases h2 : n ≤ hi
    · have hd : decide (lo ≤ n ∧ n ≤ hi) = true := by simp [h1, h2]
      go_enter Tryz.func54, Tryz.ntmps54
      go_wp2
      go_ret
      rw [hd]
      exact ⟨rfl, rfl⟩
    · have hd : decide (lo ≤ n ∧ n ≤ hi) = false := by simp; omega
      have h3 : hi < n := by omega
      go_enter Tryz.func54, Tryz.ntmps54
      go_wp2
      go_ret
      exact ⟨congrArg (fun x => Ending.returned (Value.bool x)) (by simp; omega), rfl⟩
  · have hd : decide (lo ≤ n ∧ n ≤ hi) = false := by simp; omega
    have h3 : n < lo := by omega
    go_enter Tryz.func54, Tryz.ntmps54
    go_wp2
    go_ret
    exact ⟨congrArg (fun x => Ending.returned (Value.bool x)) (by simp), rfl⟩

/-- A name: 1 to 4 small letters. -/
def letB (b : UInt8) : Bool := decide (97 ≤ b.toNat ∧ b.toNat ≤ 122)
def nameB (s : ByteArray) : Bool := s.data.toList.all letB && decide (1 ≤ s.size ∧ s.size ≤ 4)

theorem nameB_no {s : ByteArray} {k : Nat} (hk : k < s.size) (h : letB s[k] = false) : nameB s = false := by
  have hm : s[k] ∈ s.data.toList := by
    have : s[k] = s.data[k] := rfl
    rw [this]; simp
  cases hh : nameB s with
  | false => rfl
  | true =>
    simp only [nameB, Bool.and_eq_true, List.all_eq_true] at hh
    have := hh.1 _ hm
    rw [h] at this
    cases this

theorem nameB_all {s : ByteArray} (h : ∀ j (hj : j < s.size), letB s[j] = true) : nameB s = decide ((1 : Int) ≤ (s.size : Int) ∧ (s.size : Int) ≤ 4) := by
  have h1 : s.data.toList.all letB = true := by
    rw [List.all_eq_true]
    intro x hx
    obtain ⟨j, hj, rfl⟩ := List.getElem_of_mem hx
    have hj' : j < s.size := by simpa using hj
    exact h j hj'
  rw [nameB, h1, Bool.true_and]
  congr 1
  apply propext
  omega

set_option maxHeartbeats 800000 in
theorem specVarName_any (s : ByteArray) (w : World) (hs : s.size ≤ 1048576) :
    Calls Tryz.prog 80 #[.string s] w fun e w' => e = .returned (.bool (nameB s)) ∧ w' = w := by
  go_enter Tryz.func80, Tryz.ntmps80
  go_wp2
  go_loop [3] (fun iv => ∃ k : Nat, iv = .int .i64 k ∧ k ≤ s.size ∧ ∀ j (hj : j < s.size), j < k → letB s[j] = true) (fun iv => s.size - (intOf iv).toNat)
  case atStart => exact ⟨0, rfl, Nat.zero_le _, fun _ _ h => by omega⟩
  case round =>
    obtain ⟨k, rfl, hk, hj⟩ := hrel
    have HJ : Hid (∀ j (hj : j < s.size), j < k → letB s[j] = true) := hj
    clear hj
    by_cases hlt : k < s.size
    · have hb := s[k].toNat_lt
      by_cases h1 : s[k].toNat < 97
      · have HN : Hid (nameB s = false) := nameB_no hlt (by simp [letB]; omega)
        go_wp2
        go_ret
        rw [HN.out]
        exact ⟨rfl, rfl⟩
      · by_cases h2 : 122 < s[k].toNat
        · have HN : Hid (nameB s = false) := nameB_no hlt (by simp [letB]; omega)
          go_wp2
          go_ret
          rw [HN.out]
          exact ⟨rfl, rfl⟩
        · go_wp2
          go_round
          case rel =>
            refine ⟨k + 1, by go_num, by omega, fun j hj hjk => ?_⟩
            by_cases e : j = k
            · subst e; simp [letB]; omega
            · exact HJ.out j hj (by omega)
          case measure => simp [intOf]; omega
    · have HN : Hid (_ = _) := nameB_all (s := s) (fun j hj => HJ.out j hj (by omega))
      go_wp2_with (go_at_call 54; refine (in_any _ 1 4 _).mono ?_; rintro e w1 ⟨rfl, rfl⟩)
      go_ret
      rw [HN.out]
      exact ⟨congrArg (fun x => Ending.returned (Value.bool x)) (by simp), rfl⟩

theorem in_is (n lo hi : Int) (b : Bool) (h : decide (lo ≤ n ∧ n ≤ hi) = b) (w : World) :
    Calls Tryz.prog 54 #[.int .i64 n, .int .i64 lo, .int .i64 hi] w fun e w' => e = .returned (.bool b) ∧ w' = w := by
  rw [← h]; exact in_any n lo hi w
theorem specVarName_is (s : ByteArray) (b : Bool) (h : nameB s = b) (hs : s.size ≤ 1048576) (w : World) :
    Calls Tryz.prog 80 #[.string s] w fun e w' => e = .returned (.bool b) ∧ w' = w := by
  rw [← h]; exact specVarName_any s w hs

end Go.Proofs.YtokidlklkgghkaaGreatDoor

namespace Go.Proofs.YtokidlklkgghkaaGreatDoor
open Go.RowKit

def inI (n lo hi : Int) : Bool := decide (lo ≤ n ∧ n ≤ hi)
/-- How many kids an Op has. -/
def kidsN (op : Int) : Int := if op = 1 ∨ op = 2 ∨ op = 3 then 0 else if op = 11 then 1 else 2
/-- Num and Name are as the Op wants them. -/
def fieldsB (x : NodeD) : Bool := (if x.op = 1 then inI x.num 0 99 else decide (x.num = 0)) && (if x.op = 2 then nameB x.name else decide (x.name = ⟨#[]⟩))
def kidsB (i : Nat) (ks : List Int) : Bool := ks.all (fun k => inI k 0 ((i : Int) - 1))
def nodeB (i : Nat) (x : NodeD) : Bool := inI x.op 1 11 && decide ((x.kids.length : Int) = kidsN x.op) && fieldsB x && kidsB i x.kids
def nodesF : Nat → List NodeD → Bool
  | _, [] => true
  | i, x :: xs => nodeB i x && nodesF (i + 1) xs
/-- A right expression. -/
def exprB (ns : List NodeD) : Bool := nodesF 0 ns && inI (ns.length : Int) 1 20

theorem nodesF_app (l m : List NodeD) : ∀ i, nodesF i (l ++ m) = (nodesF i l && nodesF (i + l.length) m) := by
  induction l with
  | nil => intro i; simp [nodesF]
  | cons x l ih => intro i; rw [List.cons_append, nodesF, nodesF, ih, List.length_cons, Bool.and_assoc, show i + 1 + l.length = i + (l.length + 1) by omega]
theorem nodesF_next (ns : List NodeD) (k : Nat) (h : k < ns.length) : nodesF 0 (ns.take (k + 1)) = (nodesF 0 (ns.take k) && nodeB k ns[k]) := by
  rw [List.take_succ_eq_append_getElem h, nodesF_app]
  simp [nodesF, Nat.min_eq_left (Nat.le_of_lt h)]
theorem exprB_no {ns : List NodeD} {k : Nat} (h : k < ns.length) (hn : nodeB k ns[k] = false) : exprB ns = false := by
  have : nodesF 0 ns = false := by
    rw [← List.take_append_drop (k + 1) ns, nodesF_app, nodesF_next ns k h, hn]
    simp
  rw [exprB, this, Bool.false_and]
theorem nodesF_at : ∀ (ns : List NodeD) (i : Nat), nodesF i ns = true → ∀ k (h : k < ns.length), nodeB (i + k) ns[k] = true
  | [], _, _, _, h => by simp at h
  | x :: xs, i, hn, k, h => by
    rw [nodesF, Bool.and_eq_true] at hn
    cases k with
    | zero => exact hn.1
    | succ k =>
      have := nodesF_at xs (i + 1) hn.2 k (by simpa using h)
      rw [show i + (k + 1) = i + 1 + k by omega]
      simpa using this
/-- What a right expression's nodes are. -/
theorem exprB_at {ns : List NodeD} (h : exprB ns = true) : (1 ≤ ns.length ∧ ns.length ≤ 20) ∧ ∀ k (hk : k < ns.length), nodeB k ns[k] = true := by
  rw [exprB, Bool.and_eq_true, inI, decide_eq_true_eq] at h
  refine ⟨by omega, fun k hk => ?_⟩
  have := nodesF_at ns 0 h.1 k hk
  rwa [Nat.zero_add] at this
theorem node_parts {i : Nat} {x : NodeD} (h : nodeB i x = true) : (1 ≤ x.op ∧ x.op ≤ 11) ∧ (x.kids.length : Int) = kidsN x.op ∧ fieldsB x = true ∧ ∀ k ∈ x.kids, 0 ≤ k ∧ k < i := by
  rw [nodeB, Bool.and_eq_true, Bool.and_eq_true, Bool.and_eq_true, inI, decide_eq_true_eq, decide_eq_true_eq, kidsB, List.all_eq_true] at h
  refine ⟨h.1.1.1, h.1.1.2, h.1.2, fun k hk => ?_⟩
  have := h.2 k hk
  rw [inI, decide_eq_true_eq] at this
  omega

end Go.Proofs.YtokidlklkgghkaaGreatDoor

namespace Go.Proofs.YtokidlklkgghkaaGreatDoor
open Go.RowKit
set_option linter.unusedVariables false

def byteW (n : Int) : UInt8 := UInt8.ofNat n.toNat
def shortW (s : ByteArray) : List UInt8 := varB s.size ++ s.data.toList
def nodeW (x : NodeD) : List UInt8 := byteW x.op :: (varB x.num.toNat ++ (shortW x.name ++ x.kids.map byteW))
def exprW (ns : List NodeD) : List UInt8 := varB ns.length ++ (ns.map nodeW).flatten

/-- What is told of an expression: nothing where it is not right. -/
def exprT (ns : List NodeD) : List UInt8 := if exprB ns = true then exprW ns else []

/-- A node that may be written: its numbers are small. -/
structure NodeS (x : NodeD) : Prop where
  op : 0 ≤ x.op ∧ x.op ≤ 127
  num : 0 ≤ x.num ∧ x.num ≤ 127
  name : x.name.size ≤ 4
  kids : x.kids.length ≤ 2
  kid : ∀ k ∈ x.kids, 0 ≤ k ∧ k ≤ 127

theorem byteW_nat {n : Int} (h : 0 ≤ n ∧ n ≤ 127) : (byteW n).toNat = n.toNat := by
  unfold byteW
  rw [UInt8.toNat_ofNat']
  omega
theorem byteW_int {n : Int} (h : 0 ≤ n ∧ n ≤ 127) : ((byteW n).toNat : Int) = n := by rw [byteW_nat h]; omega

theorem nodeS_of {i : Nat} {x : NodeD} (h : nodeB i x = true) (hi : i ≤ 20) : NodeS x := by
  obtain ⟨h1, h2, h3, h4⟩ := node_parts h
  rw [fieldsB, Bool.and_eq_true] at h3
  refine ⟨by omega, ?_, ?_, ?_, fun k hk => ?_⟩
  · have h5 := h3.1
    split at h5
    · rw [inI, decide_eq_true_eq] at h5; omega
    · rw [decide_eq_true_eq] at h5; omega
  · have h5 := h3.2
    split at h5
    · rw [nameB, Bool.and_eq_true, decide_eq_true_eq] at h5; omega
    · rw [decide_eq_true_eq] at h5; rw [h5]; decide
  · unfold kidsN at h2
    split at h2
    · omega
    · split at h2 <;> omega
  · have := h4 k hk; omega

theorem exprS_of {ns : List NodeD} (h : exprB ns = true) : (1 ≤ ns.length ∧ ns.length ≤ 20) ∧ ∀ k (hk : k < ns.length), NodeS ns[k] := by
  obtain ⟨hl, hn⟩ := exprB_at h
  exact ⟨hl, fun k hk => nodeS_of (hn k hk) (by omega)⟩

theorem varB_small {n : Nat} (h : n ≤ 127) : (varB n).length = 1 := by rw [varB_last n h]; rfl
theorem shortW_len {s : ByteArray} (h : s.size ≤ 127) : (shortW s).length = s.size + 1 := by
  rw [shortW, List.length_append, varB_small h, Nat.add_comm]; rfl
theorem nodeW_len {x : NodeD} (h : NodeS x) : 3 ≤ (nodeW x).length ∧ (nodeW x).length ≤ 9 := by
  have h1 := h.num
  have h2 := h.name
  have h3 := h.kids
  rw [nodeW, List.length_cons, List.length_append, List.length_append, varB_small (by omega), shortW_len (by omega), List.length_map]
  omega
theorem flat_len16 {α : Type} (f : α → List UInt8) (m : Nat) : ∀ xs : List α, (∀ x ∈ xs, (f x).length ≤ m) → ((xs.map f).flatten).length ≤ xs.length * m
  | [], _ => by simp
  | x :: xs, h => by
    have h1 := flat_len16 f m xs fun y hy => h y (List.mem_cons_of_mem _ hy)
    have h2 := h x (List.mem_cons_self ..)
    rw [List.map_cons, List.flatten_cons, List.length_append, List.length_cons, Nat.add_mul]
    omega
theorem exprW_len {ns : List NodeD} (h : exprB ns = true) : 4 ≤ (exprW ns).length ∧ (exprW ns).length ≤ 181 := by
  obtain ⟨⟨hl, hl'⟩, hn⟩ := exprS_of h
  have h1 := flat_len16 nodeW 9 ns fun x hx => by
    obtain ⟨k, hk, rfl⟩ := List.getElem_of_mem hx
    exact (nodeW_len (hn k hk)).2
  rw [exprW, List.length_append, varB_small (by omega)]
  refine ⟨?_, by omega⟩
  match ns, hl, hn with
  | x :: xs, _, hn =>
    have := (nodeW_len (hn 0 (by simp))).1
    simp only [List.getElem_cons_zero] at this
    rw [List.map_cons, List.flatten_cons, List.length_append]
    omega
theorem flat_next {α : Type} (f : α → List UInt8) (xs : List α) (k : Nat) (h : k < xs.length) : ((xs.take (k + 1)).map f).flatten = ((xs.take k).map f).flatten ++ f xs[k] := by
  rw [List.take_succ_eq_append_getElem h, List.map_append, List.flatten_append, List.map_cons, List.map_nil, List.flatten_cons, List.flatten_nil, List.append_nil]
theorem flat_take_len {α : Type} (f : α → List UInt8) (m : Nat) (xs : List α) (k : Nat) (h : ∀ x ∈ xs, (f x).length ≤ m) : (((xs.take k).map f).flatten).length ≤ xs.length * m := by
  have h1 := flat_len16 f m (xs.take k) fun x hx => h x (List.mem_of_mem_take hx)
  have h2 : (xs.take k).length ≤ xs.length := by rw [List.length_take]; omega
  exact Nat.le_trans h1 (Nat.mul_le_mul_right _ h2)

end Go.Proofs.YtokidlklkgghkaaGreatDoor

namespace Go.Proofs.YtokidlklkgghkaaGreatDoor
open Go.RowKit
set_option linter.unusedVariables false

/-- What f writes tells where it ends, and of what it is. -/
def Pf {α : Type} (f : α → List UInt8) (P : α → Prop) : Prop := ∀ x y, P x → P y → ∀ r s : List UInt8, f x ++ r = f y ++ s → x = y ∧ r = s

theorem varB_pf : ∀ (n m : Nat) (r s : List UInt8), varB n ++ r = varB m ++ s → n = m ∧ r = s := by
  intro n
  induction n using Nat.strongRecOn with
  | _ n ih =>
    intro m r s h
    rcases Nat.lt_or_ge 127 n with hn | hn <;> rcases Nat.lt_or_ge 127 m with hm | hm
    · rw [varB_more n hn, varB_more m hm, List.cons_append, List.cons_append, List.cons.injEq] at h
      obtain ⟨h1, h2⟩ := h
      have h3 := congrArg UInt8.toNat h1
      rw [toNat_ofNat _ (by omega), toNat_ofNat _ (by omega)] at h3
      obtain ⟨h4, h5⟩ := ih (n / 128) (by omega) _ _ _ h2
      exact ⟨by omega, h5⟩
    · rw [varB_more n hn, varB_last m hm, List.cons_append, List.cons_append, List.cons.injEq] at h
      have h3 := congrArg UInt8.toNat h.1
      rw [toNat_ofNat _ (by omega), toNat_ofNat _ (by omega)] at h3
      omega
    · rw [varB_last n hn, varB_more m hm, List.cons_append, List.cons_append, List.cons.injEq] at h
      have h3 := congrArg UInt8.toNat h.1
      rw [toNat_ofNat _ (by omega), toNat_ofNat _ (by omega)] at h3
      omega
    · rw [varB_last n hn, varB_last m hm, List.cons_append, List.cons_append, List.cons.injEq] at h
      have h3 := congrArg UInt8.toNat h.1
      rw [toNat_ofNat _ (by omega), toNat_ofNat _ (by omega)] at h3
      exact ⟨h3, h.2⟩

theorem app_len {l m r s : List UInt8} (h : l ++ r = m ++ s) (hl : l.length = m.length) : l = m ∧ r = s := List.append_inj h hl

theorem shortW_pf (x y : ByteArray) (r s : List UInt8) (h : shortW x ++ r = shortW y ++ s) : x = y ∧ r = s := by
  rw [shortW, shortW, List.append_assoc, List.append_assoc] at h
  obtain ⟨h1, h2⟩ := varB_pf _ _ _ _ h
  obtain ⟨h3, h4⟩ := app_len h2 (by simpa using h1)
  refine ⟨?_, h4⟩
  cases x; cases y
  simp only [ByteArray.mk.injEq]
  exact Array.toList_inj.1 h3

theorem byteW_inj {n m : Int} (hn : 0 ≤ n ∧ n ≤ 127) (hm : 0 ≤ m ∧ m ≤ 127) (h : byteW n = byteW m) : n = m := by
  have h1 := congrArg (fun b : UInt8 => (b.toNat : Int)) h
  simp only [byteW_int hn, byteW_int hm] at h1
  exact h1

/-- How many there are, and each. -/
def listW {α : Type} (f : α → List UInt8) (xs : List α) : List UInt8 := varB xs.length ++ (xs.map f).flatten

theorem flat_pf {α : Type} {f : α → List UInt8} {P : α → Prop} (hf : Pf f P) : ∀ (xs ys : List α), xs.length = ys.length → (∀ x ∈ xs, P x) → (∀ y ∈ ys, P y) → ∀ r s : List UInt8, (xs.map f).flatten ++ r = (ys.map f).flatten ++ s → xs = ys ∧ r = s
  | [], [], _, _, _, r, s, h => ⟨rfl, h⟩
  | [], y :: ys, hl, _, _, _, _, _ => by simp at hl
  | x :: xs, [], hl, _, _, _, _, _ => by simp at hl
  | x :: xs, y :: ys, hl, hx, hy, r, s, h => by
    rw [List.map_cons, List.map_cons, List.flatten_cons, List.flatten_cons, List.append_assoc, List.append_assoc] at h
    obtain ⟨rfl, h1⟩ := hf x y (hx x (List.mem_cons_self ..)) (hy y (List.mem_cons_self ..)) _ _ h
    obtain ⟨rfl, h2⟩ := flat_pf hf xs ys (by simpa using hl) (fun z hz => hx z (List.mem_cons_of_mem _ hz)) (fun z hz => hy z (List.mem_cons_of_mem _ hz)) _ _ h1
    exact ⟨rfl, h2⟩
theorem listW_pf {α : Type} {f : α → List UInt8} {P : α → Prop} (hf : Pf f P) : Pf (listW f) fun xs => ∀ x ∈ xs, P x := fun xs ys hx hy r s h => by
  rw [listW, listW, List.append_assoc, List.append_assoc] at h
  obtain ⟨h1, h2⟩ := varB_pf _ _ _ _ h
  exact flat_pf hf xs ys h1 hx hy r s h2

theorem kids_pf : ∀ (xs ys : List Int), xs.length = ys.length → (∀ x ∈ xs, 0 ≤ x ∧ x ≤ 127) → (∀ y ∈ ys, 0 ≤ y ∧ y ≤ 127) → ∀ r s : List UInt8, xs.map byteW ++ r = ys.map byteW ++ s → xs = ys ∧ r = s
  | [], [], _, _, _, r, s, h => ⟨rfl, h⟩
  | [], y :: ys, hl, _, _, _, _, _ => by simp at hl
  | x :: xs, [], hl, _, _, _, _, _ => by simp at hl
  | x :: xs, y :: ys, hl, hx, hy, r, s, h => by
    rw [List.map_cons, List.map_cons, List.cons_append, List.cons_append, List.cons.injEq] at h
    obtain rfl := byteW_inj (hx x (List.mem_cons_self ..)) (hy y (List.mem_cons_self ..)) h.1
    obtain ⟨rfl, h2⟩ := kids_pf xs ys (by simpa using hl) (fun z hz => hx z (List.mem_cons_of_mem _ hz)) (fun z hz => hy z (List.mem_cons_of_mem _ hz)) _ _ h.2
    exact ⟨rfl, h2⟩

/-- A node that may be written, and whose op tells how many kids it has. -/
def NodeK (x : NodeD) : Prop := NodeS x ∧ (x.kids.length : Int) = kidsN x.op
theorem nodeW_pf : Pf nodeW NodeK := fun x y hx hy r s h => by
  rw [nodeW, nodeW, List.cons_append, List.cons_append, List.cons.injEq, List.append_assoc, List.append_assoc, List.append_assoc, List.append_assoc] at h
  obtain ⟨h0, h1⟩ := h
  have e0 := byteW_inj hx.1.op hy.1.op h0
  obtain ⟨e1, h2⟩ := varB_pf _ _ _ _ h1
  obtain ⟨e2, h3⟩ := shortW_pf _ _ _ _ h2
  have hk : x.kids.length = y.kids.length := by
    have a := hx.2
    have b := hy.2
    rw [e0] at a
    omega
  obtain ⟨e3, h4⟩ := kids_pf _ _ hk hx.1.kid hy.1.kid _ _ h3
  refine ⟨?_, h4⟩
  have e1' : x.num = y.num := by
    have := hx.1.num
    have := hy.1.num
    omega
  cases x; cases y
  simp only at *
  subst_vars
  rfl
theorem exprW_list (ns : List NodeD) : exprW ns = listW nodeW ns := rfl
theorem exprK_of {ns : List NodeD} (h : exprB ns = true) : ∀ x ∈ ns, NodeK x := fun x hx => by
  obtain ⟨hl, hn⟩ := exprB_at h
  obtain ⟨k, hk, rfl⟩ := List.getElem_of_mem hx
  exact ⟨nodeS_of (hn k hk) (by omega), (node_parts (hn k hk)).2.1⟩
theorem exprW_inj {x y : List NodeD} (hx : exprB x = true) (hy : exprB y = true) (h : exprW x = exprW y) : x = y :=
  (listW_pf nodeW_pf x y (exprK_of hx) (exprK_of hy) [] [] (by rw [List.append_nil, List.append_nil]; exact h)).1

end Go.Proofs.YtokidlklkgghkaaGreatDoor
