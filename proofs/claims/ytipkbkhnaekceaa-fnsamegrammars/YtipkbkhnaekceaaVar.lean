/- What is written of an expression (pure). -/
/- Writing that can be read in one way alone (pure). -/
/- The sums of chapter 2: the plain mathematics, with no program in it: a step is one-to-one, so that a turned byte gives another sum ever after. -/
/- What is written of a grammar (pure): how long, and that it can be read in one way alone. -/
/- The bytes of a number: what the two functions that write a number answer, at every number of 0 .. 1000000000. -/
import Derived.Test.YtipkbkhnaekceaaXPure
import Derived.Test.YtipkbkhnaekceaaDecPure
import Derived.Test.YtipkbkhnaekceaaGGram
import Derived.Test.YtipkbkhnaekceaaRows
namespace Go.Proofs.Ytipkbkhnaekceaa
open Go.RowKit
set_option linter.unusedVariables false

def byteW (n : Int) : UInt8 := UInt8.ofNat n.toNat
def shortW (s : ByteArray) : List UInt8 := varB s.size ++ s.data.toList
def nodeW (x : NodeD) : List UInt8 := byteW x.op :: (varB x.num.toNat ++ (shortW x.name ++ x.kids.map byteW))
def exprW (ns : List NodeD) : List UInt8 := varB ns.length ++ (ns.map nodeW).flatten

/-- What is told of an expression: nothing where it is not right. -/
def exprT (ns : List NodeD) : List UInt8 := if exprB ns = true then exprW ns else []

/-- A node that may be written: its numbers are small. -/
structure NodeS (x : NodeD) : Prop where
  op : 0 ≤ x.op ∧ x.op ≤ 127
  num : 0 ≤ x.num ∧ x.num ≤ 127
  name : x.name.size ≤ 4
  kids : x.kids.length ≤ 2
  kid : ∀ k ∈ x.kids, 0 ≤ k ∧ k ≤ 127

theorem byteW_nat {n : Int} (h : 0 ≤ n ∧ n ≤ 127) : (byteW n).toNat = n.toNat := by
  unfold byteW
  rw [UInt8.toNat_ofNat']
  omega
theorem byteW_int {n : Int} (h : 0 ≤ n ∧ n ≤ 127) : ((byteW n).toNat : Int) = n := by rw [byteW_nat h]; omega

theorem nodeS_of {i : Nat} {x : NodeD} (h : nodeB i x = true) (hi : i ≤ 20) : NodeS x := by
  obtain ⟨h1, h2, h3, h4⟩ := node_parts h
  rw [fieldsB, Bool.and_eq_true] at h3
  refine ⟨by omega, ?_, ?_, ?_, fun k hk => ?_⟩
  · have h5 := h3.1
    split at h5
    · rw [inI, decide_eq_true_eq] at h5; omega
    · rw [decide_eq_true_eq] at h5; omega
  · have h5 := h3.2
    split at h5
    · rw [nameB, Bool.and_eq_true, decide_eq_true_eq] at h5; omega
    · rw [decide_eq_true_eq] at h5; rw [h5]; decide
  · unfold kidsN at h2
    split at h2
    · omega
    · split at h2 <;> omega
  · have := h4 k hk; omega

theorem exprS_of {ns : List NodeD} (h : exprB ns = true) : (1 ≤ ns.length ∧ ns.length ≤ 20) ∧ ∀ k (hk : k < ns.length), NodeS ns[k] := by
  obtain ⟨hl, hn⟩ := exprB_at h
  exact ⟨hl, fun k hk => nodeS_of (hn k hk) (by omega)⟩

theorem varB_small {n : Nat} (h : n ≤ 127) : (varB n).length = 1 := by rw [varB_last n h]; rfl
theorem shortW_len {s : ByteArray} (h : s.size ≤ 127) : (shortW s).length = s.size + 1 := by
  rw [shortW, List.length_append, varB_small h, Nat.add_comm]; rfl
theorem nodeW_len {x : NodeD} (h : NodeS x) : 3 ≤ (nodeW x).length ∧ (nodeW x).length ≤ 9 := by
  have h1 := h.num
  have h2 := h.name
  have h3 := h.kids
  rw [nodeW, List.length_cons, List.length_append, List.length_append, varB_small (by omega), shortW_len (by omega), List.length_map]
  omega
theorem flat_len {α : Type} (f : α → List UInt8) (m : Nat) : ∀ xs : List α, (∀ x ∈ xs, (f x).length ≤ m) → ((xs.map f).flatten).length ≤ xs.length * m
  | [], _ => by simp
  | x :: xs, h => by
    have h1 := flat_len f m xs fun y hy => h y (List.mem_cons_of_mem _ hy)
    have h2 := h x (List.mem_cons_self ..)
    rw [List.map_cons, List.flatten_cons, List.length_append, List.length_cons, Nat.add_mul]
    omega
theorem exprW_len {ns : List NodeD} (h : exprB ns = true) : 4 ≤ (exprW ns).length ∧ (exprW ns).length ≤ 181 := by
  obtain ⟨⟨hl, hl'⟩, hn⟩ := exprS_of h
  have h1 := flat_len nodeW 9 ns fun x hx => by
    obtain ⟨k, hk, rfl⟩ := List.getElem_of_mem hx
    exact (nodeW_len (hn k hk)).2
  rw [exprW, List.length_append, varB_small (by omega)]
  refine ⟨?_, by omega⟩
  match ns, hl, hn with
  | x :: xs, _, hn =>
    have := (nodeW_len (hn 0 (by simp))).1
    simp only [List.getElem_cons_zero] at this
    rw [List.map_cons, List.flatten_cons, List.length_append]
    omega
theorem flat_next {α : Type} (f : α → List UInt8) (xs : List α) (k : Nat) (h : k < xs.length) : ((xs.take (k + 1)).map f).flatten = ((xs.take k).map f).flatten ++ f xs[k] := by
  rw [List.take_succ_eq_append_getElem h, List.map_append, List.flatten_append, List.map_cons, List.map_nil, List.flatten_cons, List.flatten_nil, List.append_nil]
theorem flat_take_len {α : Type} (f : α → List UInt8) (m : Nat) (xs : List α) (k : Nat) (h : ∀ x ∈ xs, (f x).length ≤ m) : (((xs.take k).map f).flatten).length ≤ xs.length * m := by
  have h1 := flat_len f m (xs.take k) fun x hx => h x (List.mem_of_mem_take hx)
  have h2 : (xs.take k).length ≤ xs.length := by rw [List.length_take]; omega
  exact Nat.le_trans h1 (Nat.mul_le_mul_right _ h2)

end Go.Proofs.Ytipkbkhnaekceaa

namespace Go.Proofs.Ytipkbkhnaekceaa
open Go.RowKit
set_option linter.unusedVariables false

/-- What f writes tells where it ends, and of what it is. -/
def Pf {α : Type} (f : α → List UInt8) (P : α → Prop) : Prop := ∀ x y, P x → P y → ∀ r s : List UInt8, f x ++ r = f y ++ s → x = y ∧ r = s

theorem varB_pf : ∀ (n m : Nat) (r s : List UInt8), varB n ++ r = varB m ++ s → n = m ∧ r = s := by
  intro n
  induction n using Nat.strongRecOn with
  | _ n ih =>
    intro m r s h
    rcases Nat.lt_or_ge 127 n with hn | hn <;> rcases Nat.lt_or_ge 127 m with hm | hm
    · rw [varB_more n hn, varB_more m hm, List.cons_append, List.cons_append, List.cons.injEq] at h
      obtain ⟨h1, h2⟩ := h
      have h3 := congrArg UInt8.toNat h1
      rw [toNat_ofNat _ (by omega), toNat_ofNat _ (by omega)] at h3
      obtain ⟨h4, h5⟩ := ih (n / 128) (by omega) _ _ _ h2
      exact ⟨by omega, h5⟩
    · rw [varB_more n hn, varB_last m hm, List.cons_append, List.cons_append, List.cons.injEq] at h
      have h3 := congrArg UInt8.toNat h.1
      rw [toNat_ofNat _ (by omega), toNat_ofNat _ (by omega)] at h3
      omega
    · rw [varB_last n hn, varB_more m hm, List.cons_append, List.cons_append, List.cons.injEq] at h
      have h3 := congrArg UInt8.toNat h.1
      rw [toNat_ofNat _ (by omega), toNat_ofNat _ (by omega)] at h3
      omega
    · rw [varB_last n hn, varB_last m hm, List.cons_append, List.cons_append, List.cons.injEq] at h
      have h3 := congrArg UInt8.toNat h.1
      rw [toNat_ofNat _ (by omega), toNat_ofNat _ (by omega)] at h3
      exact ⟨h3, h.2⟩

theorem app_len {l m r s : List UInt8} (h : l ++ r = m ++ s) (hl : l.length = m.length) : l = m ∧ r = s := List.append_inj h hl

theorem shortW_pf (x y : ByteArray) (r s : List UInt8) (h : shortW x ++ r = shortW y ++ s) : x = y ∧ r = s := by
  rw [shortW, shortW, List.append_assoc, List.append_assoc] at h
  obtain ⟨h1, h2⟩ := varB_pf _ _ _ _ h
  obtain ⟨h3, h4⟩ := app_len h2 (by simpa using h1)
  refine ⟨?_, h4⟩
  cases x; cases y
  simp only [ByteArray.mk.injEq]
  exact Array.toList_inj.1 h3

theorem byteW_inj {n m : Int} (hn : 0 ≤ n ∧ n ≤ 127) (hm : 0 ≤ m ∧ m ≤ 127) (h : byteW n = byteW m) : n = m := by
  have h1 := congrArg (fun b : UInt8 => (b.toNat : Int)) h
  simp only [byteW_int hn, byteW_int hm] at h1
  exact h1

/-- How many there are, and each. -/
def listW {α : Type} (f : α → List UInt8) (xs : List α) : List UInt8 := varB xs.length ++ (xs.map f).flatten

theorem flat_pf {α : Type} {f : α → List UInt8} {P : α → Prop} (hf : Pf f P) : ∀ (xs ys : List α), xs.length = ys.length → (∀ x ∈ xs, P x) → (∀ y ∈ ys, P y) → ∀ r s : List UInt8, (xs.map f).flatten ++ r = (ys.map f).flatten ++ s → xs = ys ∧ r = s
  | [], [], _, _, _, r, s, h => ⟨rfl, h⟩
  | [], y :: ys, hl, _, _, _, _, _ => by simp at hl
  | x :: xs, [], hl, _, _, _, _, _ => by simp at hl
  | x :: xs, y :: ys, hl, hx, hy, r, s, h => by
    rw [List.map_cons, List.map_cons, List.flatten_cons, List.flatten_cons, List.append_assoc, List.append_assoc] at h
    obtain ⟨rfl, h1⟩ := hf x y (hx x (List.mem_cons_self ..)) (hy y (List.mem_cons_self ..)) _ _ h
    obtain ⟨rfl, h2⟩ := flat_pf hf xs ys (by simpa using hl) (fun z hz => hx z (List.mem_cons_of_mem _ hz)) (fun z hz => hy z (List.mem_cons_of_mem _ hz)) _ _ h1
    exact ⟨rfl, h2⟩
theorem listW_pf {α : Type} {f : α → List UInt8} {P : α → Prop} (hf : Pf f P) : Pf (listW f) fun xs => ∀ x ∈ xs, P x := fun xs ys hx hy r s h => by
  rw [listW, listW, List.append_assoc, List.append_assoc] at h
  obtain ⟨h1, h2⟩ := varB_pf _ _ _ _ h
  exact flat_pf hf xs ys h1 hx hy r s h2

theorem kids_pf : ∀ (xs ys : List Int), xs.length = ys.length → (∀ x ∈ xs, 0 ≤ x ∧ x ≤ 127) → (∀ y ∈ ys, 0 ≤ y ∧ y ≤ 127) → ∀ r s : List UInt8, xs.map byteW ++ r = ys.map byteW ++ s → xs = ys ∧ r = s
  | [], [], _, _, _, r, s, h => ⟨rfl, h⟩
  | [], y :: ys, hl, _, _, _, _, _ => by simp at hl
  | x :: xs, [], hl, _, _, _, _, _ => by simp at hl
  | x :: xs, y :: ys, hl, hx, hy, r, s, h => by
    rw [List.map_cons, List.map_cons, List.cons_append, List.cons_append, List.cons.injEq] at h
    obtain rfl := byteW_inj (hx x (List.mem_cons_self ..)) (hy y (List.mem_cons_self ..)) h.1
    obtain ⟨rfl, h2⟩ := kids_pf xs ys (by simpa using hl) (fun z hz => hx z (List.mem_cons_of_mem _ hz)) (fun z hz => hy z (List.mem_cons_of_mem _ hz)) _ _ h.2
    exact ⟨rfl, h2⟩

/-- A node that may be written, and whose op tells how many kids it has. -/
def NodeK (x : NodeD) : Prop := NodeS x ∧ (x.kids.length : Int) = kidsN x.op
theorem nodeW_pf : Pf nodeW NodeK := fun x y hx hy r s h => by
  rw [nodeW, nodeW, List.cons_append, List.cons_append, List.cons.injEq, List.append_assoc, List.append_assoc, List.append_assoc, List.append_assoc] at h
  obtain ⟨h0, h1⟩ := h
  have e0 := byteW_inj hx.1.op hy.1.op h0
  obtain ⟨e1, h2⟩ := varB_pf _ _ _ _ h1
  obtain ⟨e2, h3⟩ := shortW_pf _ _ _ _ h2
  have hk : x.kids.length = y.kids.length := by
    have a := hx.2
    have b := hy.2
    rw [e0] at a
    omega
  obtain ⟨e3, h4⟩ := kids_pf _ _ hk hx.1.kid hy.1.kid _ _ h3
  refine ⟨?_, h4⟩
  have e1' : x.num = y.num := by
    have := hx.1.num
    have := hy.1.num
    omega
  cases x; cases y
  simp only at *
  subst_vars
  rfl
theorem exprK_of {ns : List NodeD} (h : exprB ns = true) : ∀ x ∈ ns, NodeK x := fun x hx => by
  obtain ⟨hl, hn⟩ := exprB_at h
  obtain ⟨k, hk, rfl⟩ := List.getElem_of_mem hx
  exact ⟨nodeS_of (hn k hk) (by omega), (node_parts (hn k hk)).2.1⟩
theorem exprW_inj {x y : List NodeD} (hx : exprB x = true) (hy : exprB y = true) (h : exprW x = exprW y) : x = y :=
  (listW_pf nodeW_pf x y (exprK_of hx) (exprK_of hy) [] [] (by rw [List.append_nil, List.append_nil]; exact h)).1

end Go.Proofs.Ytipkbkhnaekceaa

namespace Go.Proofs.Ytipkbkhnaekceaa
open Go.RowKit

/-- Half of it, exclusive-or the number where it was odd. -/
def half (x : Nat) : Nat := if x % 2 = 1 then (x / 2) ^^^ 3558460437 else x / 2

theorem half_lt (x : Nat) (h : x < 4294967296) : half x < 4294967296 := by
  unfold half
  split
  · exact Nat.xor_lt_two_pow (n := 32) (by omega) (by decide)
  · omega

/-- So many halves. -/
def halves : Nat → Nat → Nat
  | 0, x => x
  | n + 1, x => halves n (half x)
theorem halves_lt : ∀ (n x : Nat), x < 4294967296 → halves n x < 4294967296
  | 0, _, h => h
  | n + 1, x, h => halves_lt n (half x) (half_lt x h)
theorem halves_snoc : ∀ (n x : Nat), halves (n + 1) x = half (halves n x)
  | 0, _ => rfl
  | n + 1, x => halves_snoc n (half x)

/-- One byte more. -/
def sumStep (s : Nat) (b : UInt8) : Nat := halves 8 (s ^^^ b.toNat)
theorem sumStep_lt (s : Nat) (b : UInt8) (h : s < 4294967296) : sumStep s b < 4294967296 :=
  halves_lt 8 _ (Nat.xor_lt_two_pow (n := 32) (by omega) (by have := b.toNat_lt; omega))

/-- A sum and more bytes. -/
def sumB (s : Nat) (l : List UInt8) : Nat := l.foldl sumStep s
theorem sumB_snoc (s : Nat) (l : List UInt8) (b : UInt8) : sumB s (l ++ [b]) = sumStep (sumB s l) b := by simp [sumB]
theorem sumB_lt : ∀ (l : List UInt8) (s : Nat), s < 4294967296 → sumB s l < 4294967296
  | [], _, h => h
  | b :: l, s, h => sumB_lt l _ (sumStep_lt s b h)

/-- The sum in four bytes, the highest first. -/
def four (x : Nat) : List UInt8 := [UInt8.ofNat (x / 16777216 % 256), UInt8.ofNat (x / 65536 % 256), UInt8.ofNat (x / 256 % 256), UInt8.ofNat (x % 256)]

end Go.Proofs.Ytipkbkhnaekceaa

namespace Go.Proofs.Ytipkbkhnaekceaa
open Go.RowKit
set_option linter.unusedVariables false

def argW (e : List NodeD) : List UInt8 := shortW (str (exprT e))
def symW (s : SymD) : List UInt8 := byteW s.kind :: (shortW s.text ++ (shortW s.bind ++ listW argW s.args))
def altW (a : List SymD) : List UInt8 := listW symW a
def ruleW (r : RuleD) : List UInt8 := shortW r.name ++ (listW shortW r.params ++ listW altW r.alts)
def gramW (g : List RuleD) : List UInt8 := listW ruleW g
def sealW (l : List UInt8) : List UInt8 := l ++ four (sumB 4294967295 l)
/-- Whether a grammar has a text, and which. -/
def gramO (g : List RuleD) : Bool := gramB g && decide ((gramW g).length + 4 ≤ 20000)
def gramT (g : List RuleD) : List UInt8 := if gramO g = true then sealW (gramW g) else []

def SymK (s : SymD) : Prop := (1 ≤ s.kind ∧ s.kind ≤ 4) ∧ ∀ e ∈ s.args, exprB e = true
theorem symB_k {x : SymD} {kn : List ByteArray} {p : Int} (h : (symB x kn p).2 = true) : SymK x := by
  unfold symB at h
  split at h
  · rename_i h1
    simp only [Bool.and_eq_true, decide_eq_true_eq] at h
    refine ⟨by omega, fun e he => ?_⟩
    rw [List.length_eq_zero_iff.1 h.1.2] at he
    cases he
  · split at h
    · rename_i h2
      simp only [Bool.and_eq_true, decide_eq_true_eq] at h
      refine ⟨by omega, fun e he => ?_⟩
      rw [List.length_eq_zero_iff.1 h.1.2] at he
      cases he
    · split at h
      · rename_i h4
        simp only [Bool.and_eq_true, decide_eq_true_eq] at h
        refine ⟨by omega, fun e he => ?_⟩
        have := List.all_eq_true.1 h.2 e he
        rw [knownB, Bool.and_eq_true] at this
        exact this.2
      · split at h
        · rename_i h3
          split at h
          · rename_i h5
            simp only [Bool.and_eq_true, decide_eq_true_eq] at h5
            refine ⟨by omega, fun e he => ?_⟩
            have := List.all_eq_true.1 h5.2 e he
            rw [knownB, Bool.and_eq_true] at this
            exact this.2
          · cases h
        · cases h
theorem symsF_k (g : List RuleD) : ∀ (xs : List SymD) (kn : List ByteArray), symsF g kn xs = true → ∀ s ∈ xs, SymK s
  | [], _, _, s, hs => by cases hs
  | x :: xs, kn, h, s, hs => by
    rw [symsF, Bool.and_eq_true] at h
    rcases List.mem_cons.1 hs with rfl | hs
    · exact symB_k h.1
    · exact symsF_k g xs _ h.2 s hs
def RuleK (r : RuleD) : Prop := ∀ a ∈ r.alts, ∀ s ∈ a, SymK s
theorem gram_k {g : List RuleD} (h : gramB g = true) : ∀ r ∈ g, RuleK r := fun r hr a ha => by
  obtain ⟨k, hk, rfl⟩ := List.getElem_of_mem hr
  rw [gramB, Bool.and_eq_true] at h
  have h1 := List.all_eq_true.1 h.2 k (List.mem_range.2 hk)
  rw [gramAt, getR_is g k hk, Bool.and_eq_true] at h1
  have h2 := h1.2
  rw [ruleB, Bool.and_eq_true] at h2
  have h3 := List.all_eq_true.1 h2.2 a ha
  rw [altB, Bool.and_eq_true] at h3
  exact symsF_k g a _ h3.2

theorem argW_pf : Pf argW fun e => exprB e = true := fun x y hx hy r s h => by
  obtain ⟨h1, h2⟩ := shortW_pf _ _ _ _ h
  have h3 := congrArg (fun b : ByteArray => b.data.toList) h1
  simp only [str_list] at h3
  rw [exprT, exprT, if_pos hx, if_pos hy] at h3
  exact ⟨exprW_inj hx hy h3, h2⟩
theorem symW_pf : Pf symW SymK := fun x y hx hy r s h => by
  rw [symW, symW, List.cons_append, List.cons_append, List.cons.injEq, List.append_assoc, List.append_assoc, List.append_assoc, List.append_assoc] at h
  obtain ⟨h0, h1⟩ := h
  have e0 := byteW_inj (by have := hx.1; omega) (by have := hy.1; omega) h0
  obtain ⟨e1, h2⟩ := shortW_pf _ _ _ _ h1
  obtain ⟨e2, h3⟩ := shortW_pf _ _ _ _ h2
  obtain ⟨e3, h4⟩ := listW_pf argW_pf _ _ hx.2 hy.2 _ _ h3
  refine ⟨?_, h4⟩
  cases x; cases y
  simp only at *
  subst_vars
  rfl
theorem ruleW_pf : Pf ruleW RuleK := fun x y hx hy r s h => by
  rw [ruleW, ruleW, List.append_assoc, List.append_assoc, List.append_assoc, List.append_assoc] at h
  obtain ⟨e1, h2⟩ := shortW_pf _ _ _ _ h
  obtain ⟨e2, h3⟩ := listW_pf (P := fun _ => True) (fun a b _ _ r s h => shortW_pf a b r s h) _ _ (fun _ _ => trivial) (fun _ _ => trivial) _ _ h2
  obtain ⟨e3, h4⟩ := listW_pf (listW_pf symW_pf) _ _ hx hy _ _ h3
  refine ⟨?_, h4⟩
  cases x; cases y
  simp only at *
  subst_vars
  rfl
theorem gramW_inj {x y : List RuleD} (hx : gramB x = true) (hy : gramB y = true) (h : gramW x = gramW y) : x = y :=
  (listW_pf ruleW_pf x y (gram_k hx) (gram_k hy) [] [] (by rw [List.append_nil, List.append_nil]; exact h)).1
theorem four_len16 (x : Nat) : (four x).length = 4 := rfl
theorem sealW_inj {l m : List UInt8} (h : sealW l = sealW m) : l = m := by
  unfold sealW at h
  exact (List.append_inj' h (by rw [four_len16, four_len16])).1
theorem gramO_b {g : List RuleD} (h : gramO g = true) : gramB g = true := by rw [gramO, Bool.and_eq_true] at h; exact h.1
theorem gramT_inj {x y : List RuleD} (hx : gramO x = true) (hy : gramO y = true) (h : gramT x = gramT y) : x = y := by
  rw [gramT, gramT, if_pos hx, if_pos hy] at h
  exact gramW_inj (gramO_b hx) (gramO_b hy) (sealW_inj h)

theorem shortW_le (s : ByteArray) : (shortW s).length ≤ 2 * s.size + 1 := by
  have := varB_len s.size
  rw [shortW, List.length_append]
  simp
  omega
theorem flatM_le {α : Type} {f : α → List UInt8} {t : α → Nat} {c d : Nat} : ∀ xs : List α, (∀ x ∈ xs, (f x).length ≤ c * t x + d) → ((xs.map f).flatten).length ≤ c * (xs.map t).sum + d * xs.length
  | [], _ => by simp
  | x :: xs, h => by
    have h1 := flatM_le xs fun y hy => h y (List.mem_cons_of_mem _ hy)
    have h2 := h x (List.mem_cons_self ..)
    rw [List.map_cons, List.flatten_cons, List.length_append, List.map_cons, List.sum_cons, List.length_cons, Nat.mul_add, Nat.mul_add]
    omega
theorem listW_le {α : Type} {f : α → List UInt8} {t : α → Nat} {c d : Nat} (hd : d + 1 ≤ c) {xs : List α} (h : ∀ x ∈ xs, (f x).length ≤ c * t x + d) : (listW f xs).length ≤ c * rowTot t xs + 1 := by
  have h1 := flatM_le xs h
  have h2 := varB_len xs.length
  rw [listW, List.length_append, rowTot, Nat.mul_add]
  have h3 : d * xs.length + xs.length ≤ c * xs.length := by
    have := Nat.mul_le_mul_right xs.length hd
    rw [Nat.add_mul, Nat.one_mul] at this
    exact this
  omega
theorem exprT_le (e : List NodeD) : (exprT e).length ≤ 181 := by
  unfold exprT
  split
  · rename_i h; exact (exprW_len h).2
  · simp
theorem argW_le (e : List NodeD) : (argW e).length ≤ 363 := by
  have h1 := shortW_le (str (exprT e))
  rw [str_size] at h1
  have := exprT_le e
  rw [argW]
  omega
theorem symW_le (s : SymD) : (symW s).length ≤ 400 * symTot s + 4 := by
  have h1 := shortW_le s.text
  have h2 := shortW_le s.bind
  have h3 := listW_le (f := argW) (t := exprTot) (c := 400) (d := 363) (by omega) (xs := s.args) fun x _ => by have := argW_le x; omega
  rw [symW, List.length_cons, List.length_append, List.length_append]
  unfold symTot
  omega
theorem altW_le (a : List SymD) : (altW a).length ≤ 400 * altTot a + 1 := listW_le (by omega) fun x _ => symW_le x
theorem ruleW_le (r : RuleD) : (ruleW r).length ≤ 400 * ruleTot r + 3 := by
  have h1 := shortW_le r.name
  have h2 := listW_le (f := shortW) (t := ByteArray.size) (c := 400) (d := 1) (by omega) (xs := r.params) fun x _ => by have := shortW_le x; omega
  have h3 := listW_le (f := altW) (t := altTot) (c := 400) (d := 1) (by omega) (xs := r.alts) fun x _ => altW_le x
  rw [ruleW, List.length_append, List.length_append]
  unfold ruleTot
  omega
theorem gramW_le (g : List RuleD) : (gramW g).length ≤ 400 * grammarTot g + 1 := listW_le (by omega) fun x _ => ruleW_le x
theorem listW_next {α : Type} (f : α → List UInt8) (xs : List α) (k : Nat) (h : k < xs.length) : varB xs.length ++ ((xs.take (k + 1)).map f).flatten = (varB xs.length ++ ((xs.take k).map f).flatten) ++ f xs[k] := by
  rw [flat_next f xs k h, List.append_assoc]
theorem flat_take_le {α : Type} (f : α → List UInt8) (xs : List α) (k : Nat) : (varB xs.length ++ ((xs.take k).map f).flatten).length ≤ (listW f xs).length := by
  have e : xs = xs.take k ++ xs.drop k := (List.take_append_drop k xs).symm
  have h : ((xs.map f).flatten).length = (((xs.take k).map f).flatten).length + (((xs.drop k).map f).flatten).length := by
    conv => lhs; rw [e]
    rw [List.map_append, List.flatten_append, List.length_append]
  rw [listW, List.length_append, List.length_append]
  omega

end Go.Proofs.Ytipkbkhnaekceaa

namespace Go.Proofs.Ytipkbkhnaekceaa
open Go.RowKit

theorem Try.info5 : (Try.prog.info? 5).map (fun i => (i.zero, i.size, i.bytes)) = some (some (.int .u8 0), 1, 1) := by kernel_rfl

/-- What holds at each round's head: pre is written, m is left. -/
def VarRel (n base : Nat) (w : World) (nv out : Value) (wr : World) : Prop :=
  ∃ (m : Nat) (pre : List UInt8), nv = .int .i64 m ∧ m ≤ n ∧ pre ++ varB m = varB n ∧ wr.ownsRow base 5 1 out pre.length (bv pre) ∧ Below base w wr ∧ base ≤ wr.heap.size

theorem varRel_step {n base m : Nat} {pre : List UInt8} {w wr w1 : World} {out v' : Value} (hm : 127 < m) (hmn : m ≤ n) (hp : pre ++ varB m = varB n)
    (hown : wr.ownsRow base 5 1 out pre.length (bv pre)) (hbel : Below base w wr) (hsz : base ≤ wr.heap.size) {o : Obj}
    (hown' : w1.ownsRow base 5 1 v' (pre.length + 1) (bv pre ++ [.int .u8 ((m : Int) % 128 + 128)])) (hgrow : (wr.alloc o).grownBy w1 out.ownBlock) :
    VarRel n base w (.int .i64 ((m : Int) / 128)) v' w1 := by
  refine ⟨m / 128, pre ++ [UInt8.ofNat (m % 128 + 128)], by simp, by omega, ?_, ?_, ?_, ?_⟩
  · rw [← hp, varB_more m hm]; simp
  · rw [bv_app, bv_one, toNat_ofNat _ (by omega), List.length_append]
    simpa using hown'
  · exact (hbel.alloc hsz o).grown hgrow (by simp; omega) (fun k hk => (hown.lt k hk).1)
  · have := hgrow.size; simp at this; omega

theorem varRel_end {n base m : Nat} {pre : List UInt8} {w wr w1 : World} {out v' : Value} (hm : m ≤ 127) (hp : pre ++ varB m = varB n)
    (hown : wr.ownsRow base 5 1 out pre.length (bv pre)) (hbel : Below base w wr) (hsz : base ≤ wr.heap.size) {o : Obj}
    (hown' : w1.ownsRow base 5 1 v' (pre.length + 1) (bv pre ++ [.int .u8 (m : Int)])) (hgrow : (wr.alloc o).grownBy w1 out.ownBlock) :
    w1.ownsRow base 5 1 v' (varB n).length (bv (varB n)) ∧ Below base w w1 := by
  refine ⟨?_, ?_⟩
  · rw [← hp, varB_last m hm, bv_app, bv_one, toNat_ofNat _ (by omega), List.length_append]
    simpa using hown'
  · exact (hbel.alloc hsz o).grown hgrow (by simp; omega) (fun k hk => (hown.lt k hk).1)

set_option maxHeartbeats 400000 in
set_option maxRecDepth 100000 in
theorem l01Var_any (n : Nat) (w : World) (hn : n ≤ 1000000000) :
    Calls Try.prog 16 #[.int .i64 n] w fun e w' => e = .returned (.string (str (varB n))) ∧ Below w.heap.size w w' := by
  obtain ⟨i0, hi, hz0, hz1, hz2⟩ := info_parts Try.info5
  go_enter Try.func16, Try.ntmps16
  go_wp2
  go_loopw [0, 3] (fun nv out wr => VarRel n w.heap.size w nv out wr) (fun nv _ _ => (intOf nv).toNat)
  case atStart => exact ⟨n, [], rfl, Nat.le_refl _, rfl, World.ownsRow_made _ _ _ (Nat.le_refl _) (by decide) rfl, (Below.refl _ _).alloc (Nat.le_refl _) _, by simp⟩
  case round =>
    obtain ⟨m, pre, rfl, hmn, hp, hown, hbel, hsz⟩ := hrel
    have hlen : pre.length ≤ 1000000001 := by
      have h1 := varB_len n
      have h2 := congrArg List.length hp
      rw [List.length_append] at h2
      omega
    have HP : Hid (pre ++ varB m = varB n) := hp
    clear hp
    by_cases hm : 127 < m
    · go_wp2_with (at_builtin; refine wpList_append_own _ rfl _ _ 22 rfl w.heap.size 5 i0 (.int .u8 0) 1 1 Try.underlying22 hi hz0 hz1 hz2 rfl (by decide) _ _ _ rfl (hown.alloc _) ⟨wr.heap.size, 0, none⟩ 1 1 [.int .u8 ((m : Int) % 128 + 128)] rfl rfl (one_at _ _ _) (one_cell _ _) (by unfold maxLen; omega) (by omega) (by simp; omega) ?_)
      intro v' w1 hown' hgrow _
      have R := varRel_step hm hmn HP.out hown hbel hsz hown' hgrow
      clear hown' hgrow hown hbel
      go_wp2
      go_roundw
      case rel => exact R
      case measure => simp [intOf]; omega
    · go_wp2_with (at_builtin; refine wpList_append_own _ rfl _ _ 22 rfl w.heap.size 5 i0 (.int .u8 0) 1 1 Try.underlying22 hi hz0 hz1 hz2 rfl (by decide) _ _ _ rfl (hown.alloc _) ⟨wr.heap.size, 0, none⟩ 1 1 [.int .u8 (m : Int)] rfl rfl (one_at _ _ _) (one_cell _ _) (by unfold maxLen; omega) (by omega) (by simp; omega) ?_)
      intro v' w1 hown' hgrow _
      have hfin := varRel_end (by omega) HP.out hown hbel hsz hown' hgrow
      have hcv := own_string (P := Try.prog) (dst := 9) (varB n) Try.underlying22 Try.underlying5 Try.underlying9 hfin.1
      go_wp2
      go_ret
      exact ⟨rfl, hfin.2⟩

end Go.Proofs.Ytipkbkhnaekceaa
