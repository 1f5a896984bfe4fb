/- What the two functions that read figures answer. -/
import Derived.Test.YtocccahgccoimaaDoorVar
import Derived.Test.YtocccahgccoimaaDoorUnhexPure
import Derived.Test.YtocccahgccoimaaDoorShelf
import Derived.Deep.AppendLies
namespace Go.Proofs.YtocccahgccoimaaDoor
open Go.RowKit

def unVal (s : ByteArray) : Value :=
  match unB s.data.toList with
  | some bs => .tuple #[.string (str bs), .bool true]
  | none => .tuple #[.string (str []), .bool false]

theorem unVal_some {s : ByteArray} {bs : List UInt8} (h : unB s.data.toList = some bs) : unVal s = .tuple #[.string (str bs), .bool true] := by rw [unVal, h]
theorem unVal_none {s : ByteArray} (h : unB s.data.toList = none) : unVal s = .tuple #[.string (str []), .bool false] := by rw [unVal, h]


theorem get_list2 (s : ByteArray) (j : Nat) (h : j < s.size) : s.data.toList[j]'(by simpa using h) = s[j] := rfl

/-- What holds at each round's head of the specification's loop. -/
def UnSlots (s : ByteArray) (base : Nat) (w : World) (out iv : Value) (wr : World) : Prop :=
  ∃ pre : List UInt8, iv = .int .i64 ((2 * pre.length : Nat) : Int) ∧ UnRel s.data.toList pre ∧ wr.ownsRow base 5 1 out pre.length (bv pre) ∧ Below base w wr ∧ base ≤ wr.heap.size

theorem unSlots_step {s : ByteArray} {base q i : Nat} {pre : List UInt8} {w wr w1 : World} {out v' : Value} (hu : UnRel s.data.toList pre) (hq : pre.length = q) (hi : i = 2 * q) (h0 : i < s.size) (h1 : i + 1 < s.size)
    (h2 : 0 ≤ valI s[i].toNat) (h3 : 0 ≤ valI s[i + 1].toNat)
    (hown : wr.ownsRow base 5 1 out q (bv pre)) (hbel : Below base w wr) (hsz : base ≤ wr.heap.size) {o : Obj}
    (hown' : w1.ownsRow base 5 1 v' (q + 1) (bv pre ++ [.int .u8 (16 * valI s[i].toNat + valI s[i + 1].toNat)])) (hgrow : (wr.alloc o).grownBy w1 out.ownBlock) :
    UnSlots s base w v' (.int .i64 (2 * (q : Int) + 2)) w1 := by
  have hl : s.data.toList.length = s.size := by simp
  have e := un_step hu (i := i) (by rw [hq]; exact hi) (by rw [hl]; exact h1) (by rw [get_list2 s i h0]; exact h2) (by rw [get_list2 s (i + 1) h1]; exact h3)
  rw [get_list2 s i h0, get_list2 s (i + 1) h1] at e
  refine ⟨_, ?_, e, ?_, ?_, ?_⟩
  · rw [List.length_append, List.length_singleton, hq]
    refine congrArg (Value.int .i64) ?_
    omega
  · rw [bv_app, bv_one, byte_of_pair _ _ h2 h3, List.length_append, List.length_singleton, hq]
    exact hown'
  · exact (hbel.alloc hsz o).grown hgrow (by simp; omega) (fun k hk => (hown.lt k hk).1)
  · have := hgrow.size; simp at this; omega


end Go.Proofs.YtocccahgccoimaaDoor
