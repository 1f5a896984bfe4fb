/- Writing that can be read in one way alone (pure). -/
import Derived.Test.YtbpfapjchmignaaDoorE16P
namespace Go.Proofs.YtbpfapjchmignaaDoor
open Go.RowKit
set_option linter.unusedVariables false

/-- What f writes tells where it ends, and of what it is. -/
def Pf {α : Type} (f : α → List UInt8) (P : α → Prop) : Prop := ∀ x y, P x → P y → ∀ r s : List UInt8, f x ++ r = f y ++ s → x = y ∧ r = s

theorem varB_pf : ∀ (n m : Nat) (r s : List UInt8), varB n ++ r = varB m ++ s → n = m ∧ r = s := by
  intro n
  induction n using Nat.strongRecOn with
  | _ n ih =>
    intro m r s h
    rcases Nat.lt_or_ge 127 n with hn | hn <;> rcases Nat.lt_or_ge 127 m with hm | hm
    · rw [varB_more n hn, varB_more m hm, List.cons_append, List.cons_append, List.cons.injEq] at h
      obtain ⟨h1, h2⟩ := h
      have h3 := congrArg UInt8.toNat h1
      rw [toNat_ofNat _ (by omega), toNat_ofNat _ (by omega)] at h3
      obtain ⟨h4, h5⟩ := ih (n / 128) (by omega) _ _ _ h2
      exact ⟨by omega, h5⟩
    · rw [varB_more n hn, varB_last m hm, List.cons_append, List.cons_append, List.cons.injEq] at h
      have h3 := congrArg UInt8.toNat h.1
      rw [toNat_ofNat _ (by omega), toNat_ofNat _ (by omega)] at h3
      omega
    · rw [varB_last n hn, varB_more m hm, List.cons_append, List.cons_append, List.cons.injEq] at h
      have h3 := congrArg UInt8.toNat h.1
      rw [toNat_ofNat _ (by omega), toNat_ofNat _ (by omega)] at h3
      omega
    · rw [varB_last n hn, varB_last m hm, List.cons_append, List.cons_append, List.cons.injEq] at h
      have h3 := congrArg UInt8.toNat h.1
      rw [toNat_ofNat _ (by omega), toNat_ofNat _ (by omega)] at h3
      exact ⟨h3, h.2⟩

theorem app_len {l m r s : List UInt8} (h : l ++ r = m ++ s) (hl : l.length = m.length) : l = m ∧ r = s := List.append_inj h hl

theorem shortW_pf (x y : ByteArray) (r s : List UInt8) (h : shortW x ++ r = shortW y ++ s) : x = y ∧ r = s := by
  rw [shortW, shortW, List.append_assoc, List.append_assoc] at h
  obtain ⟨h1, h2⟩ := varB_pf _ _ _ _ h
  obtain ⟨h3, h4⟩ := app_len h2 (by simpa using h1)
  refine ⟨?_, h4⟩
  cases x; cases y
  simp only [ByteArray.mk.injEq]
  exact Array.toList_inj.1 h3

theorem byteW_inj {n m : Int} (hn : 0 ≤ n ∧ n ≤ 127) (hm : 0 ≤ m ∧ m ≤ 127) (h : byteW n = byteW m) : n = m := by
  have h1 := congrArg (fun b : UInt8 => (b.toNat : Int)) h
  simp only [byteW_int hn, byteW_int hm] at h1
  exact h1

/-- How many there are, and each. -/
def listW {α : Type} (f : α → List UInt8) (xs : List α) : List UInt8 := varB xs.length ++ (xs.map f).flatten

theorem flat_pf {α : Type} {f : α → List UInt8} {P : α → Prop} (hf : Pf f P) : ∀ (xs ys : List α), xs.length = ys.length → (∀ x ∈ xs, P x) → (∀ y ∈ ys, P y) → ∀ r s : List UInt8, (xs.map f).flatten ++ r = (ys.map f).flatten ++ s → xs = ys ∧ r = s
  | [], [], _, _, _, r, s, h => ⟨rfl, h⟩
  | [], y :: ys, hl, _, _, _, _, _ => by simp at hl
  | x :: xs, [], hl, _, _, _, _, _ => by simp at hl
  | x :: xs, y :: ys, hl, hx, hy, r, s, h => by
    rw [List.map_cons, List.map_cons, List.flatten_cons, List.flatten_cons, List.append_assoc, List.append_assoc] at h
    obtain ⟨rfl, h1⟩ := hf x y (hx x (List.mem_cons_self ..)) (hy y (List.mem_cons_self ..)) _ _ h
    obtain ⟨rfl, h2⟩ := flat_pf hf xs ys (by simpa using hl) (fun z hz => hx z (List.mem_cons_of_mem _ hz)) (fun z hz => hy z (List.mem_cons_of_mem _ hz)) _ _ h1
    exact ⟨rfl, h2⟩
theorem listW_pf {α : Type} {f : α → List UInt8} {P : α → Prop} (hf : Pf f P) : Pf (listW f) fun xs => ∀ x ∈ xs, P x := fun xs ys hx hy r s h => by
  rw [listW, listW, List.append_assoc, List.append_assoc] at h
  obtain ⟨h1, h2⟩ := varB_pf _ _ _ _ h
  exact flat_pf hf xs ys h1 hx hy r s h2

theorem kids_pf : ∀ (xs ys : List Int), xs.length = ys.length → (∀ x ∈ xs, 0 ≤ x ∧ x ≤ 127) → (∀ y ∈ ys, 0 ≤ y ∧ y ≤ 127) → ∀ r s : List UInt8, xs.map byteW ++ r = ys.map byteW ++ s → xs = ys ∧ r = s
  | [], [], _, _, _, r, s, h => ⟨rfl, h⟩
  | [], y :: ys, hl, _, _, _, _, _ => by simp at hl
  | x :: xs, [], hl, _, _, _, _, _ => by simp at hl
  | x :: xs, y :: ys, hl, hx, hy, r, s, h => by
    rw [List.map_cons, List.map_cons, List.cons_append, List.cons_append, List.cons.injEq] at h
    obtain rfl := byteW_inj (hx x (List.mem_cons_self ..)) (hy y (List.mem_cons_self ..)) h.1
    obtain ⟨rfl, h2⟩ := kids_pf xs ys (by simpa using hl) (fun z hz => hx z (List.mem_cons_of_mem _ hz)) (fun z hz => hy z (List.mem_cons_of_mem _ hz)) _ _ h.2
    exact ⟨rfl, h2⟩

/-- A node that may be written, and whose op tells how many kids it has. -/
def NodeK (x : NodeD) : Prop := NodeS x ∧ (x.kids.length : Int) = kidsN x.op
theorem nodeW_pf : Pf nodeW NodeK := fun x y hx hy r s h => by
  rw [nodeW, nodeW, List.cons_append, List.cons_append, List.cons.injEq, List.append_assoc, List.append_assoc, List.append_assoc, List.append_assoc] at h
  obtain ⟨h0, h1⟩ := h
  have e0 := byteW_inj hx.1.op hy.1.op h0
  obtain ⟨e1, h2⟩ := varB_pf _ _ _ _ h1
  obtain ⟨e2, h3⟩ := shortW_pf _ _ _ _ h2
  have hk : x.kids.length = y.kids.length := by
    have a := hx.2
    have b := hy.2
    rw [e0] at a
    omega
  obtain ⟨e3, h4⟩ := kids_pf _ _ hk hx.1.kid hy.1.kid _ _ h3
  refine ⟨?_, h4⟩
  have e1' : x.num = y.num := by
    have := hx.1.num
    have := hy.1.num
    omega
  cases x; cases y
  simp only at *
  subst_vars
  rfl
theorem exprW_list (ns : List NodeD) : exprW ns = listW nodeW ns := rfl
theorem exprK_of {ns : List NodeD} (h : exprB ns = true) : ∀ x ∈ ns, NodeK x := fun x hx => by
  obtain ⟨hl, hn⟩ := exprB_at h
  obtain ⟨k, hk, rfl⟩ := List.getElem_of_mem hx
  exact ⟨nodeS_of (hn k hk) (by omega), (node_parts (hn k hk)).2.1⟩
theorem exprW_inj {x y : List NodeD} (hx : exprB x = true) (hy : exprB y = true) (h : exprW x = exprW y) : x = y :=
  (listW_pf nodeW_pf x y (exprK_of hx) (exprK_of hy) [] [] (by rw [List.append_nil, List.append_nil]; exact h)).1

end Go.Proofs.YtbpfapjchmignaaDoor
