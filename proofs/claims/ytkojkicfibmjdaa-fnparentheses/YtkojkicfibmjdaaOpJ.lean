/- The program's climb in pure terms: what waits and what stands, byte by byte; and that it tells just what the specification's climb tells. No program is named. -/
import Derived.Test.YtkojkicfibmjdaaOpQ
namespace Go.Proofs.Ytkojkicfibmjdaa
open Go.RowKit
set_option linter.unusedVariables false

def par13 : OpD := ⟨⟨#[]⟩, 0, true⟩
def opAt13 (xs : List OpD) (b : UInt8) : OpD × Bool := match find13 ⟨#[b]⟩ 0 xs with
  | some k => (xs.getD k default, true)
  | none => (par13, false)
def before13 (x y : OpD) : Bool := decide (y.level < x.level) || (decide (x.level = y.level) && !y.right)
/-- The last first: those that wait and bind before the next one are bound. -/
def bind13 (y : OpD) : List ByteArray → List OpD → List ByteArray × List OpD
  | ts, [] => (ts, [])
  | b :: a :: r, x :: ws => if before13 x y = true then bind13 y (two13 a x b :: r) ws else (b :: a :: r, x :: ws)
  | ts, x :: ws => (ts, x :: ws)
structure CmD where
  ts : List ByteArray
  ws : List OpD
  behind : Bool
def take13 (xs : List OpD) (b : UInt8) (c : CmD) : Option CmD :=
  if (opAt13 xs b).2 = true ∧ c.behind = true then some ⟨(bind13 (opAt13 xs b).1 c.ts c.ws).1, (opAt13 xs b).1 :: (bind13 (opAt13 xs b).1 c.ts c.ws).2, false⟩
  else if b = 40 ∧ c.behind = false then some ⟨c.ts, (opAt13 xs b).1 :: c.ws, false⟩
  else if b = 41 ∧ c.behind = true then
    match (bind13 (opAt13 xs b).1 c.ts c.ws).2 with
    | [] => none
    | _ :: ws => some ⟨(bind13 (opAt13 xs b).1 c.ts c.ws).1, ws, c.behind⟩
  else if fig13 b = true ∧ c.behind = false then some ⟨⟨#[b]⟩ :: c.ts, c.ws, true⟩
  else none
def whole13 (c : CmD) : Option ByteArray :=
  if c.behind = false then none
  else match (bind13 par13 c.ts c.ws).2 with
    | [] => some ((bind13 par13 c.ts c.ws).1.getLastD ⟨#[]⟩)
    | _ :: _ => none
def run13 (xs : List OpD) : List UInt8 → CmD → Option ByteArray
  | [], c => whole13 c
  | b :: l, c => match take13 xs b c with
    | none => none
    | some d => run13 xs l d

section
variable {xs : List OpD}
theorem sign_nofig {b : UInt8} (h : b ∈ signs13) : fig13 b = false ∧ b ≠ 40 ∧ b ≠ 41 := by
  have : ∀ b ∈ signs13, fig13 b = false ∧ b ≠ 40 ∧ b ≠ 41 := by decide
  exact this b h
theorem find_some {s : ByteArray} : ∀ (i : Nat) (ys : List OpD) (k : Nat), find13 s i ys = some k → ∃ (h : k - i < ys.length), i ≤ k ∧ ys[k - i].sign = s
  | i, [], k, h => by cases h
  | i, y :: ys, k, h => by
    rw [find13] at h
    split at h
    · rename_i e
      cases h
      exact ⟨by simp, Nat.le_refl _, by simpa using e.symm⟩
    · obtain ⟨h1, h2, h3⟩ := find_some (i + 1) ys k h
      have e : k - i = (k - (i + 1)) + 1 := by omega
      refine ⟨by rw [e]; simpa using h1, by omega, ?_⟩
      simp only [e, List.getElem_cons_succ]
      exact h3
theorem find_sign (ho : opsB xs = true) {b : UInt8} {k : Nat} (h : find13 ⟨#[b]⟩ 0 xs = some k) : ∃ hk : k < xs.length, xs[k].sign = ⟨#[b]⟩ ∧ b ∈ signs13 := by
  obtain ⟨h1, _, h3⟩ := find_some 0 xs k h
  have h1 : k < xs.length := h1
  have h3 : xs[k].sign = ⟨#[b]⟩ := h3
  refine ⟨h1, h3, ?_⟩
  obtain ⟨c, hc, e⟩ := sign_of ho (List.getElem_mem h1)
  rw [h3] at e
  have : b = c := by
    have := congrArg (fun s : ByteArray => s.data.toList) e
    simpa using this
  exact this ▸ hc
theorem opAt_some {b : UInt8} {k : Nat} (h : find13 ⟨#[b]⟩ 0 xs = some k) (hk : k < xs.length) : opAt13 xs b = (xs[k], true) := by
  rw [opAt13, h]
  simp only [getD_is hk]
theorem opAt_none {b : UInt8} (h : find13 ⟨#[b]⟩ 0 xs = none) : opAt13 xs b = (par13, false) := by
  rw [opAt13, h]
theorem opAt_not (ho : opsB xs = true) {b : UInt8} (h : b ∉ signs13) : opAt13 xs b = (par13, false) := by
  cases hf : find13 ⟨#[b]⟩ 0 xs with
  | none => exact opAt_none hf
  | some k => exact absurd (find_sign ho hf).2.2 h
theorem bind_stop {y x : OpD} {ts : List ByteArray} {ws : List OpD} (h : before13 x y = false) : bind13 y ts (x :: ws) = (ts, x :: ws) := by
  match ts with
  | [] => rfl
  | [_] => rfl
  | b :: a :: r => rw [bind13, if_neg (by rw [h]; decide)]
theorem bind_nil {y : OpD} {ts : List ByteArray} : bind13 y ts [] = (ts, []) := by
  match ts with
  | [] => rfl
  | [_] => rfl
  | b :: a :: r => rfl
theorem bind_go {y x : OpD} {a b : ByteArray} {ts : List ByteArray} {ws : List OpD} (h : before13 x y = true) : bind13 y (b :: a :: ts) (x :: ws) = bind13 y (two13 a x b :: ts) ws := by
  rw [bind13, if_pos h]
theorem before_par {x : OpD} (h : 1 ≤ x.level) : before13 x par13 = true := by
  unfold before13 par13
  simp only [Bool.or_eq_true, decide_eq_true_eq]
  exact .inl (by show (0 : Int) < x.level; omega)

/-- What is behind a thing and no operator, or one that the last one binds before: it is bound first, whatever comes. -/
theorem run_lazy (ho : opsB xs = true) {x : OpD} (hx : 1 ≤ x.level) {a b : ByteArray} {ts : List ByteArray} {ws : List OpD} (l : List UInt8)
    (hl : ∀ c r, l = c :: r → (opAt13 xs c).2 = true → before13 x (opAt13 xs c).1 = true) :
    run13 xs l ⟨b :: a :: ts, x :: ws, true⟩ = run13 xs l ⟨two13 a x b :: ts, ws, true⟩ := by
  match l, hl with
  | [], _ =>
    rw [run13, run13, whole13, whole13]
    simp only [bind_go (before_par hx)]
  | c :: r, hl =>
    have hc := hl c r rfl
    rw [run13, run13]
    have e : take13 xs c ⟨b :: a :: ts, x :: ws, true⟩ = take13 xs c ⟨two13 a x b :: ts, ws, true⟩ := by
      unfold take13
      simp only []
      by_cases h1 : (opAt13 xs c).2 = true
      · rw [bind_go (hc h1)]
        simp [h1]
      · by_cases h2 : c = 41
        · subst h2
          rw [opAt_not ho (b := 41) (by decide)]
          simp only [bind_go (before_par hx)]
          simp
        · simp [h1, h2]
    rw [e]

/-- What waits last goes with the least level that a climb goes on with. -/
def Fits (xs : List OpD) (ws : List OpD) (least : Int) : Prop := (∀ x r, ws = x :: r → x = par13 ∧ least = 0 ∨ x ∈ xs ∧ least = lev13 x) ∧ (ws = [] → least = 0)
theorem fits_next {ws : List OpD} {x : OpD} (hx : x ∈ xs) : Fits xs (x :: ws) (lev13 x) :=
  ⟨fun y r e => by cases e; exact .inr ⟨hx, rfl⟩, fun e => by cases e⟩
theorem fits_par {ws : List OpD} : Fits xs (par13 :: ws) 0 := ⟨fun y r e => by cases e; exact .inl ⟨rfl, rfl⟩, fun e => by cases e⟩
theorem fits_nil : Fits xs [] 0 := ⟨(fun y r e => nomatch e), fun _ => rfl⟩
theorem same_side (ho : opsB xs = true) {i j : Nat} (hi : i < xs.length) (hj : j < xs.length) (hl : xs[i].level = xs[j].level) : xs[i].right = xs[j].right := by
  have key : ∀ {i j : Nat} (hij : i < j) (hj : j < xs.length), xs[i].level = xs[j].level → xs[i].right = xs[j].right := by
    intro i j hij hj hl
    have h := ho
    unfold opsB at h
    rw [Bool.and_eq_true] at h
    have := List.all_eq_true.1 h.1 j (List.mem_range.2 hj)
    rw [List.getD_eq_getElem?_getD, List.getElem?_eq_getElem hj] at this
    have this : op13 xs j xs[j] = true := this
    unfold op13 at this
    simp only [Bool.and_eq_true] at this
    have := List.all_eq_true.1 this.2 xs[i] (List.mem_take_iff_getElem.2 ⟨i, by omega, rfl⟩)
    unfold pair13 at this
    rw [Bool.and_eq_true, decide_eq_true hl] at this
    simpa using this.2
  rcases Nat.lt_trichotomy i j with h | h | h
  · exact key h hj hl
  · subst h; rfl
  · exact (key h hi hl.symm).symm
theorem before_of (ho : opsB xs = true) {x y : OpD} (hx : x ∈ xs) (hy : y ∈ xs) : before13 x y = decide (y.level < lev13 x) := by
  obtain ⟨i, hi, rfl⟩ := List.mem_iff_getElem.1 hx
  obtain ⟨j, hj, rfl⟩ := List.mem_iff_getElem.1 hy
  unfold before13 lev13
  by_cases h : xs[i].level = xs[j].level
  · have := same_side ho hi hj h
    rw [this, h]
    cases xs[j].right
    · simp
      omega
    · simp
  · rw [decide_eq_false h, Bool.false_and, Bool.or_false]
    split
    · rfl
    · congr 1
      exact propext ⟨fun h => by omega, fun h' => by omega⟩
theorem bind_none (ho : opsB xs = true) {y : OpD} (hy : y ∈ xs) {ts : List ByteArray} {ws : List OpD} {least : Int} (hf : Fits xs ws least) (hl : ¬ y.level < least) : bind13 y ts ws = (ts, ws) := by
  match ws, hf with
  | [], _ => exact bind_nil
  | x :: r, hf =>
    apply bind_stop
    rcases hf.1 x r rfl with ⟨rfl, h0⟩ | ⟨hx, h0⟩
    · have := (sign_one ho hy).2.1
      unfold before13 par13
      simp only []
      rw [decide_eq_false (show ¬ y.level < 0 by omega), decide_eq_false (show ¬ (0 : Int) = y.level by omega)]
      rfl
    · rw [before_of ho hx hy, ← h0]
      exact decide_eq_false hl
theorem bind_par {ts : List ByteArray} {ws : List OpD} : bind13 par13 ts (par13 :: ws) = (ts, par13 :: ws) := bind_stop (by decide)
end

/-- What is left of a text. -/
def rest13 (text : ByteArray) (i : Nat) : List UInt8 := text.data.toList.drop i
theorem rest_cons {text : ByteArray} {i : Nat} (h : i < text.size) : rest13 text i = byteAt text i :: rest13 text (i + 1) := by
  unfold rest13 byteAt
  have h' : i < text.data.toList.length := by simpa using h
  rw [List.drop_eq_getElem_cons h', List.getD_eq_getElem?_getD, List.getElem?_eq_getElem h']
  rfl
theorem rest_nil {text : ByteArray} {i : Nat} (h : text.size ≤ i) : rest13 text i = [] := by
  unfold rest13
  exact List.drop_of_length_le (by simpa using h)
theorem extract_one {text : ByteArray} {i : Nat} (h : i < text.size) : text.extract i (i + 1) = ⟨#[byteAt text i]⟩ := by
  have h' : i < text.data.toList.length := by simpa using h
  apply ByteArray.ext
  apply Array.toList_inj.1
  rw [ByteArray.data_extract, Array.toList_extract]
  show List.take (i + 1 - i) (List.drop i text.data.toList) = [byteAt text i]
  rw [List.drop_eq_getElem_cons h', show i + 1 - i = 1 by omega]
  unfold byteAt
  rw [List.getD_eq_getElem?_getD, List.getElem?_eq_getElem h']
  rfl
theorem next_is {xs : List OpD} {text : ByteArray} {c : ClD} (hb : c.bad = false) (h : c.at' < text.size) : next13 xs text c = find13 ⟨#[byteAt text c.at']⟩ 0 xs := by
  unfold next13
  rw [if_neg (by rw [hb]; simp; omega), extract_one h]

/-- A stop: no operator that a climb would go on with stands there. -/
def Stop13 (xs : List OpD) (text : ByteArray) (i : Nat) (least : Int) : Prop := ∀ c r, rest13 text i = c :: r → (opAt13 xs c).2 = true → (opAt13 xs c).1 ∈ xs ∧ (opAt13 xs c).1.level < least
def needK (text : ByteArray) : ClK → Nat → Nat
  | .climb _, i => 3 * (text.size - i) + 2
  | _, i => 3 * (text.size - i) + 1
def Goal13 (xs : List OpD) (text : ByteArray) (f : Nat) : ClK → ClD → Prop
  | .atom, c => ∀ ts ws, ((clF xs text f .atom c).1.bad = true ∧ run13 xs (rest13 text c.at') ⟨ts, ws, false⟩ = none) ∨ ((clF xs text f .atom c).1.bad = false ∧ run13 xs (rest13 text c.at') ⟨ts, ws, false⟩ = run13 xs (rest13 text (clF xs text f .atom c).1.at') ⟨(clF xs text f .atom c).2 :: ts, ws, true⟩)
  | .climb least, c => ∀ ts ws, Fits xs ws least → ((clF xs text f (.climb least) c).1.bad = true ∧ run13 xs (rest13 text c.at') ⟨ts, ws, false⟩ = none) ∨ ((clF xs text f (.climb least) c).1.bad = false ∧ Stop13 xs text (clF xs text f (.climb least) c).1.at' least ∧ run13 xs (rest13 text c.at') ⟨ts, ws, false⟩ = run13 xs (rest13 text (clF xs text f (.climb least) c).1.at') ⟨(clF xs text f (.climb least) c).2 :: ts, ws, true⟩)
  | .loop least s, c => ∀ ts ws, Fits xs ws least → ((clF xs text f (.loop least s) c).1.bad = true ∧ run13 xs (rest13 text c.at') ⟨s :: ts, ws, true⟩ = none) ∨ ((clF xs text f (.loop least s) c).1.bad = false ∧ Stop13 xs text (clF xs text f (.loop least s) c).1.at' least ∧ run13 xs (rest13 text c.at') ⟨s :: ts, ws, true⟩ = run13 xs (rest13 text (clF xs text f (.loop least s) c).1.at') ⟨(clF xs text f (.loop least s) c).2 :: ts, ws, true⟩)
theorem stop_next {xs : List OpD} (ho : opsB xs = true) {text : ByteArray} {c : ClD} (hb : c.bad = false) (least : Int)
    (h : ∀ k, next13 xs text c = some k → (xs.getD k default).level < least) : Stop13 xs text c.at' least := by
  intro b r e hop
  by_cases hlt : c.at' < text.size
  · rw [rest_cons hlt] at e
    cases e
    cases hf : find13 ⟨#[byteAt text c.at']⟩ 0 xs with
    | none => rw [opAt_none hf] at hop; cases hop
    | some k =>
      obtain ⟨hk, _, _⟩ := find_sign ho hf
      rw [opAt_some hf hk]
      refine ⟨List.getElem_mem hk, ?_⟩
      have := h k (by rw [next_is hb hlt]; exact hf)
      rwa [getD_is hk] at this
  · rw [rest_nil (by omega)] at e
    cases e

theorem climb_sim {xs : List OpD} (ho : opsB xs = true) (text : ByteArray) : ∀ (f : Nat) (k : ClK) (c : ClD), c.bad = false → c.at' ≤ text.size → needK text k c.at' ≤ f → Goal13 xs text f k c
  | 0, k, c, hb, hc, hn => by
    cases k <;> simp [needK] at hn
  | f + 1, .atom, c, hb, hc, hn => by
    intro ts ws
    have hn : 3 * (text.size - c.at') + 1 ≤ f + 1 := hn
    rw [clF]
    by_cases h1 : text.size ≤ c.at'
    · rw [if_pos (.inr h1)]
      refine .inl ⟨rfl, ?_⟩
      rw [rest_nil h1]
      rfl
    · rw [if_neg (by rw [hb]; simp; omega)]
      have hlt : c.at' < text.size := by omega
      by_cases h2 : fig13 (byteAt text c.at') = true
      · rw [if_pos h2]
        refine .inr ⟨hb, ?_⟩
        rw [rest_cons hlt, run13, extract_one hlt]
        have hns : byteAt text c.at' ∉ signs13 := fun h => by rw [(sign_nofig h).1] at h2; cases h2
        have n40 : ¬ byteAt text c.at' = 40 := fun h => by rw [h] at h2; revert h2; decide
        simp [take13, opAt_not ho hns, n40, h2]
      · rw [if_neg h2]
        by_cases h3 : byteAt text c.at' = 40
        · rw [if_neg (by rw [h3]; simp)]
          have ih := climb_sim ho text f (.climb 0) ⟨c.at' + 1, c.bad⟩ hb (by show c.at' + 1 ≤ _; omega) (by show 3 * (text.size - (c.at' + 1)) + 2 ≤ f; omega) ts (par13 :: ws) fits_par
          have e1 : run13 xs (rest13 text c.at') ⟨ts, ws, false⟩ = run13 xs (rest13 text (c.at' + 1)) ⟨ts, par13 :: ws, false⟩ := by
            rw [rest_cons hlt, run13, h3]
            simp [take13, opAt_not ho (b := 40) (by decide)]
          rw [e1]
          generalize clF xs text f (.climb 0) ⟨c.at' + 1, c.bad⟩ = q at *
          obtain ⟨d, s⟩ := q
          simp only [] at ih ⊢
          rcases ih with ⟨i1, i2⟩ | ⟨i1, i2, i3⟩
          · rw [if_pos (.inl i1)]
            exact .inl ⟨rfl, i2⟩
          · rw [i3]
            by_cases h4 : text.size ≤ d.at'
            · rw [if_pos (.inr (.inl h4)), rest_nil h4]
              refine .inl ⟨rfl, ?_⟩
              rw [run13, whole13]
              simp [bind_par]
            · have hd : d.at' < text.size := by omega
              have hno : (opAt13 xs (byteAt text d.at')).2 = false := by
                cases hop : (opAt13 xs (byteAt text d.at')).2 with
                | false => rfl
                | true =>
                  have := i2 _ _ (rest_cons hd) hop
                  have := (sign_one ho this.1).2.1
                  omega
              by_cases h5 : byteAt text d.at' = 41
              · rw [if_neg (by rw [i1, h5]; simp; omega)]
                refine .inr ⟨i1, ?_⟩
                rw [rest_cons hd, run13, h5]
                simp [take13, opAt_not ho (b := 41) (by decide), bind_par]
              · rw [if_pos (.inr (.inr h5))]
                refine .inl ⟨rfl, ?_⟩
                rw [rest_cons hd, run13]
                simp [take13, hno, h5]
        · rw [if_pos h3]
          refine .inl ⟨rfl, ?_⟩
          rw [rest_cons hlt, run13]
          have h2' : fig13 (byteAt text c.at') = false := by simpa using h2
          simp [take13, h3, h2']
  | f + 1, .climb least, c, hb, hc, hn => by
    intro ts ws hfit
    have hn : 3 * (text.size - c.at') + 2 ≤ f + 1 := hn
    have ih := climb_sim ho text f .atom c hb hc (by show 3 * (text.size - c.at') + 1 ≤ f; omega) ts ws
    have iv := clF_inv ho text f .atom c hc
    rw [clF]
    generalize clF xs text f .atom c = q at *
    obtain ⟨d, s⟩ := q
    obtain ⟨v1, v2, _⟩ := iv
    have v1 : c.at' ≤ d.at' := v1
    have v2 : d.at' ≤ text.size := v2
    simp only [] at ih ⊢
    rcases ih with ⟨i1, i2⟩ | ⟨i1, i2⟩
    · refine .inl ⟨?_, i2⟩
      match f, hn with
      | f + 1, _ =>
        rw [clF, show next13 xs text d = none from if_pos (.inl i1)]
        exact i1
    · rw [i2]
      exact climb_sim ho text f (.loop least s) d i1 v2 (by show 3 * (text.size - d.at') + 1 ≤ f; omega) ts ws hfit
  | f + 1, .loop least s, c, hb, hc, hn => by
    intro ts ws hfit
    have hn : 3 * (text.size - c.at') + 1 ≤ f + 1 := hn
    rw [clF]
    cases hnx : next13 xs text c with
    | none =>
      simp only []
      exact .inr ⟨hb, stop_next ho hb least (fun k h => by rw [hnx] at h; cases h), by first | trivial | rfl⟩
    | some k =>
      obtain ⟨k1, k2, k3⟩ := next13_lt hnx
      have hfd := hnx
      rw [next_is hb k3] at hfd
      have hmem := List.getElem_mem k1
      simp only [getD_is k1]
      by_cases h1 : xs[k].level < least
      · rw [if_pos h1]
        exact .inr ⟨hb, stop_next ho hb least (fun j h => by rw [hnx] at h; cases h; rw [getD_is k1]; exact h1), rfl⟩
      · rw [if_neg h1]
        have ih := climb_sim ho text f (.climb (lev13 xs[k])) ⟨c.at' + 1, c.bad⟩ hb (by show c.at' + 1 ≤ _; omega) (by show 3 * (text.size - (c.at' + 1)) + 2 ≤ f; omega) (s :: ts) (xs[k] :: ws) (fits_next hmem)
        have iv := clF_inv ho text f (.climb (lev13 xs[k])) ⟨c.at' + 1, c.bad⟩ (by show c.at' + 1 ≤ _; omega)
        have e1 : run13 xs (rest13 text c.at') ⟨s :: ts, ws, true⟩ = run13 xs (rest13 text (c.at' + 1)) ⟨s :: ts, xs[k] :: ws, false⟩ := by
          rw [rest_cons k3, run13]
          simp [take13, opAt_some hfd k1, bind_none ho hmem hfit h1]
        rw [e1]
        generalize clF xs text f (.climb (lev13 xs[k])) ⟨c.at' + 1, c.bad⟩ = q at *
        obtain ⟨d, t⟩ := q
        obtain ⟨v1, v2, _⟩ := iv
        have v1 : c.at' + 1 ≤ d.at' := v1
        have v2 : d.at' ≤ text.size := v2
        simp only [] at ih ⊢
        rcases ih with ⟨i1, i2⟩ | ⟨i1, i2, i3⟩
        · rw [if_pos i1]
          exact .inl ⟨i1, i2⟩
        · rw [if_neg (by rw [i1]; decide), i3, run_lazy ho (sign_one ho hmem).2.1 _ (fun b r e hop => by
            obtain ⟨m1, m2⟩ := i2 b r e hop
            rw [before_of ho hmem m1]
            exact decide_eq_true m2)]
          exact climb_sim ho text f (.loop least (two13 s xs[k] t)) d i1 v2 (by show 3 * (text.size - d.at') + 1 ≤ f; omega) ts ws hfit

theorem run_climb {xs : List OpD} (ho : opsB xs = true) (text : ByteArray) (ht : text.size ≤ 12) : run13 xs text.data.toList ⟨[], [], false⟩ = climbB xs text := by
  have h := climb_sim ho text (3 * text.size + 3) (.climb 0) ⟨0, false⟩ rfl (Nat.zero_le _) (by show 3 * (text.size - 0) + 2 ≤ _; omega) [] [] fits_nil
  have hr : rest13 text 0 = text.data.toList := rfl
  have iv := clF_inv ho text (3 * text.size + 3) (.climb 0) ⟨0, false⟩ (Nat.zero_le _)
  rw [climbB, if_neg (by rw [ho]; simp; omega)]
  generalize clF xs text (3 * text.size + 3) (.climb 0) ⟨0, false⟩ = q at *
  obtain ⟨d, s⟩ := q
  simp only [hr] at h ⊢
  rcases h with ⟨i1, i2⟩ | ⟨i1, i2, i3⟩
  · rw [if_pos (.inl i1), i2]
  · rw [i3]
    by_cases h4 : d.at' < text.size
    · rw [if_pos (.inr h4), rest_cons h4, run13]
      have hno : (opAt13 xs (byteAt text d.at')).2 = false := by
        cases hop : (opAt13 xs (byteAt text d.at')).2 with
        | false => rfl
        | true =>
          have := i2 _ _ (rest_cons h4) hop
          have := (sign_one ho this.1).2.1
          omega
      by_cases h5 : byteAt text d.at' = 41
      · rw [h5]
        simp [take13, opAt_not ho (b := 41) (by decide), bind_nil]
      · simp [take13, hno, h5]
    · rw [if_neg (by rw [i1]; simp; omega), rest_nil (by omega), run13, whole13]
      simp [bind_nil]

end Go.Proofs.Ytkojkicfibmjdaa
