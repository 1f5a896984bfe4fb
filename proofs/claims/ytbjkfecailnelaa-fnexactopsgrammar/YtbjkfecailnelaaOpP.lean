/- Operators, as they lie in memory and in pure terms: whether a list of them is right, and how a text binds by them. -/
import Derived.Test.YtbjkfecailnelaaGData
import Derived.ChangeArms
namespace Go.Proofs.Ytbjkfecailnelaa
open Go.RowKit
set_option linter.unusedVariables false

structure OpD where
  sign : ByteArray
  level : Int
  right : Bool
instance : Inhabited OpD := ⟨⟨⟨#[]⟩, 0, false⟩⟩
/-- An operator's cells. -/
def OpE (w : World) (vs : List Value) (x : OpD) : Prop := vs = [.string x.sign, .int .i64 x.level, .bool x.right]
theorem OpE_stable : StableE OpE := fun w w' vs x h hb => h
def OpIn (x : OpD) : Prop := StrIn x.sign ∧ i64 x.level
def opTot (x : OpD) : Nat := x.sign.size
/-- A list's room is no less than its length. -/
def Room13 (v : Value) : Prop := ∀ a n c, v = .slice a n c → n ≤ c
def Ops (w : World) (v : Value) (xs : List OpD) : Prop := RowC 3 OpE w v xs ∧ Room13 v
theorem Ops.below {w w' : World} {v : Value} {xs : List OpD} (h : Ops w v xs) (hb : Below w.heap.size w w') : Ops w' v xs := ⟨RowC.below OpE_stable h.1 hb, h.2⟩
theorem Ops.slice {w : World} {v : Value} {xs : List OpD} (h : Ops w v xs) : ∃ a c, v = .slice a xs.length c := RowC.slice h.1
theorem Ops.room {w : World} {a : Option Addr} {n c : Nat} {xs : List OpD} (h : Ops w (.slice a n c) xs) : n ≤ c := h.2 _ _ _ rfl
theorem Ops.at {w : World} {a : Option Addr} {n cap i : Nat} {xs : List OpD} (h : Ops w (.slice a n cap) xs) (hi : i < xs.length) :
    ∃ b off, a = some ⟨b, off, none⟩ ∧ w.cell? ⟨b, off + i * 3, none⟩ = some (.string xs[i].sign) ∧ w.cell? ⟨b, off + i * 3 + 1, none⟩ = some (.int .i64 xs[i].level) ∧ w.cell? ⟨b, off + i * 3 + 2, none⟩ = some (.bool xs[i].right) := by
  obtain ⟨b, off, vs, rfl, _, hc, hv⟩ := RowC.at h.1 hi
  have hv' : vs = [.string xs[i].sign, .int .i64 xs[i].level, .bool xs[i].right] := hv
  subst hv'
  exact ⟨b, off, rfl, hc 0 (by simp), hc 1 (by simp), hc 2 (by simp)⟩

def signs13 : List UInt8 := [43, 45, 42, 94, 60, 62, 61, 44]
def signs13B : ByteArray := ⟨#[43, 45, 42, 94, 60, 62, 61, 44]⟩
def sign13 (s : ByteArray) : Bool := signs13.any fun b => decide (s = ⟨#[b]⟩)
/-- Does an operator go with one that stands ahead of it? -/
def pair13 (y x : OpD) : Bool := !(decide (y.sign = x.sign)) && !(decide (y.level = x.level) && (y.right != x.right))
def op13 (xs : List OpD) (i : Nat) (x : OpD) : Bool := sign13 x.sign && decide (1 ≤ x.level ∧ x.level ≤ 9) && (xs.take i).all fun y => pair13 y x
def opsB (xs : List OpD) : Bool := ((List.range xs.length).all fun i => op13 xs i (xs.getD i default)) && decide (1 ≤ xs.length ∧ xs.length ≤ 6)

/-- Where a climb stands, and whether it went wrong. -/
structure ClD where
  at' : Nat
  bad : Bool
inductive ClK where
  | atom
  | climb (least : Int)
  | loop (least : Int) (s : ByteArray)
def byteAt (text : ByteArray) (i : Nat) : UInt8 := text.data.toList.getD i 0
/-- The first operator whose sign stands there. -/
def find13 (s : ByteArray) : Nat → List OpD → Option Nat
  | _, [] => none
  | i, x :: xs => if s = x.sign then some i else find13 s (i + 1) xs
def next13 (xs : List OpD) (text : ByteArray) (c : ClD) : Option Nat := if c.bad = true ∨ text.size ≤ c.at' then none else find13 (text.extract c.at' (c.at' + 1)) 0 xs
def fig13 (b : UInt8) : Bool := decide (48 ≤ b.toNat) && decide (b.toNat ≤ 57)
def lev13 (x : OpD) : Int := if x.right = true then x.level else x.level + 1
def two13 (s : ByteArray) (x : OpD) (t : ByteArray) : ByteArray := ⟨#[40]⟩ ++ s ++ x.sign ++ t ++ ⟨#[41]⟩
/-- A climb, by fuel. -/
def clF (xs : List OpD) (text : ByteArray) : Nat → ClK → ClD → ClD × ByteArray
  | 0, _, c => (⟨c.at', true⟩, ⟨#[]⟩)
  | f + 1, .atom, c =>
    if c.bad = true ∨ text.size ≤ c.at' then (⟨c.at', true⟩, ⟨#[]⟩)
    else if fig13 (byteAt text c.at') = true then (⟨c.at' + 1, c.bad⟩, text.extract c.at' (c.at' + 1))
    else if ¬ byteAt text c.at' = 40 then (⟨c.at' + 1, true⟩, ⟨#[]⟩)
    else match clF xs text f (.climb 0) ⟨c.at' + 1, c.bad⟩ with
      | (d, s) => if d.bad = true ∨ text.size ≤ d.at' ∨ ¬ byteAt text d.at' = 41 then (⟨d.at', true⟩, ⟨#[]⟩) else (⟨d.at' + 1, d.bad⟩, s)
  | f + 1, .climb least, c => match clF xs text f .atom c with
      | (d, s) => clF xs text f (.loop least s) d
  | f + 1, .loop least s, c => match next13 xs text c with
      | none => (c, s)
      | some k => if (xs.getD k default).level < least then (c, s)
        else match clF xs text f (.climb (lev13 (xs.getD k default))) ⟨c.at' + 1, c.bad⟩ with
          | (d, t) => if d.bad = true then (d, ⟨#[]⟩) else clF xs text f (.loop least (two13 s (xs.getD k default) t)) d
def climbB (xs : List OpD) (text : ByteArray) : Option ByteArray :=
  if ¬ opsB xs = true ∨ 12 < text.size then none
  else match clF xs text (3 * text.size + 3) (.climb 0) ⟨0, false⟩ with
    | (d, s) => if d.bad = true ∨ d.at' < text.size then none else some s

end Go.Proofs.Ytbjkfecailnelaa
