/- Small laws that no program is named in: bytes as cells, an owned row of bytes made a string, and the bytes of a number. Nothing is assumed. -/
/- Lists of names with numbers, as they lie in memory. -/
import Derived.Test.YtofpoiccghpliaaGreatDoorRows
import Derived.WalkKit
import Derived.ProofKit
import Derived.Below
import Derived.ShutString
import Derived.SizedLaws
import Derived.Laws.IdiomStrings
import Derived.Laws.BytesArg
import Derived.Deep.QuietTactic
import Derived.BigQuiet
import Derived.Deep.RegionWith
import Derived.Deep.RegionHeld3
import Derived.Deep.AppendLies
namespace Go.Proofs.YtofpoiccghpliaaGreatDoor
open Go.RowKit

def bv (l : List UInt8) : List Value := l.map fun b => Value.int .u8 (b.toNat : Int)

theorem bv_len (l : List UInt8) : (bv l).length = l.length := by simp [bv]
theorem bv_app (l m : List UInt8) : bv (l ++ m) = bv l ++ bv m := by simp [bv]
theorem bv_one (b : UInt8) : bv [b] = [Value.int .u8 (b.toNat : Int)] := rfl

def str (l : List UInt8) : ByteArray := ⟨l.toArray⟩
theorem str_size (l : List UInt8) : (str l).size = l.length := by simp [str, ByteArray.size]
theorem str_list (l : List UInt8) : (str l).data.toList = l := by simp [str]

theorem own_string {P : Program} {w : World} {base : Nat} {src dst e : TypeId} {v : Value} (l : List UInt8) (hs : P.underlying src = some (.slice e)) (he : P.underlying e = some (.int .u8)) (hd : P.underlying dst = some .string)
    (hown : w.ownsRow base e 1 v l.length (bv l)) : (convert src dst v).run P w = .ok (.string (str l)) w := by
  have hown0 := hown
  rcases hown.2 with ⟨rfl, h0⟩ | ⟨g, cap, cur, rfl, hg, hh, hnc, hcp, hcs, htake⟩
  · obtain rfl : l = [] := List.length_eq_zero_iff.1 h0
    rw [run_convert_bytes_nil w src e hs he 0 0 dst hd]
    rfl
  · have hcells : ∀ j (hj : j < l.length), w.cell? ((⟨g, 0, none⟩ : Addr).add j) = some (.int .u8 (l[j].toNat : Int)) := fun j hj => by
      rw [Addr.add_lit, Nat.zero_add, hown0.cellAt j (by omega)]
      simp [bv, hj]
    exact run_convert_bytes_back (P := P) w src dst e ⟨g, 0, none⟩ cap l hs he hd hcells

theorem one_at (w : World) (x : Value) (t : TypeId) : ∀ j u, [x][j]? = some u → (w.alloc (.cells #[x] t)).cell? ((⟨w.heap.size, 0, none⟩ : Addr).add j) = some u := by
  intro j u hj
  match j, hj with
  | 0, hj => simp at hj; subst hj; simp [Addr.add]

theorem one_cell (k : IntKind) (n : Int) : ∀ u ∈ [Value.int k n], u.oneCell' = true := by
  intro u hu; simp at hu; subst hu; rfl

theorem bel_drewN {B : Nat} {a w : World} (h : Below B a w) (q : Nat) : Below B a (w.drewN q) := ⟨h.os, h.tape, h.output, h.size, h.block⟩

theorem bel_of_drew {B : Nat} {w w' : World} (h : Below B w.drew w') : Below B w w' := ⟨h.os, h.tape, h.output, h.size, h.block⟩

/-- The bytes of a number: seven bits a byte, the lowest first. -/
def varF : Nat → Nat → List UInt8
  | 0, n => [UInt8.ofNat n]
  | f + 1, n => if 127 < n then UInt8.ofNat (n % 128 + 128) :: varF f (n / 128) else [UInt8.ofNat n]

theorem varF_any : ∀ (f g n : Nat), n ≤ f → n ≤ g → varF f n = varF g n
  | 0, 0, _, _, _ => rfl
  | 0, g + 1, n, h, _ => by
    obtain rfl : n = 0 := by omega
    simp [varF]
  | f + 1, 0, n, _, h => by
    obtain rfl : n = 0 := by omega
    simp [varF]
  | f + 1, g + 1, n, h, k => by
    simp only [varF]
    split
    · rw [varF_any f g (n / 128) (by omega) (by omega)]
    · rfl

def varB (n : Nat) : List UInt8 := varF n n

theorem varB_more (n : Nat) (h : 127 < n) : varB n = UInt8.ofNat (n % 128 + 128) :: varB (n / 128) := by
  unfold varB
  match n, h with
  | n + 1, h =>
    rw [varF, if_pos h, varF_any n ((n + 1) / 128) ((n + 1) / 128) (by omega) (by omega)]

theorem varB_last (n : Nat) (h : n ≤ 127) : varB n = [UInt8.ofNat n] := by
  unfold varB
  cases n with
  | zero => rfl
  | succ n => rw [varF, if_neg (by omega)]

theorem varF_len : ∀ (f n : Nat), (varF f n).length ≤ f + 1
  | 0, _ => by simp [varF]
  | f + 1, n => by
    simp only [varF]
    split
    · have := varF_len f (n / 128); simp only [List.length_cons]; omega
    · simp

theorem varB_len (n : Nat) : (varB n).length ≤ n + 1 := varF_len n n
theorem varB_pos (n : Nat) : 0 < (varB n).length := by
  by_cases h : 127 < n
  · rw [varB_more n h]; simp
  · rw [varB_last n (by omega)]; simp

theorem toNat_ofNat (n : Nat) (h : n < 256) : (UInt8.ofNat n).toNat = n := by simp [UInt8.toNat_ofNat']; omega

end Go.Proofs.YtofpoiccghpliaaGreatDoor

namespace Go.Proofs.YtofpoiccghpliaaGreatDoor
open Go.RowKit

/-- A name and its number. -/
abbrev VarD := ByteArray × Int

/-- A list of them: two cells each. -/
def VRow (w : World) (v : Value) (xs : List VarD) : Prop :=
  ∃ a cap, v = .slice a xs.length cap ∧ (a = none → cap = 0) ∧ (0 < xs.length → ∃ b off, a = some ⟨b, off, none⟩ ∧ b < w.heap.size ∧
    ∀ i (h : i < xs.length), w.cell? ⟨b, off + i * 2, none⟩ = some (.string xs[i].1) ∧ w.cell? ⟨b, off + i * 2 + 1, none⟩ = some (.int .i64 xs[i].2))

theorem VRow.slice {w : World} {v : Value} {xs : List VarD} (h : VRow w v xs) : ∃ a cap, v = .slice a xs.length cap := by
  obtain ⟨a, cap, rfl, _⟩ := h
  exact ⟨a, cap, rfl⟩

theorem VRow.below {w w' : World} {v : Value} {xs : List VarD} (h : VRow w v xs) (hb : Below w.heap.size w w') : VRow w' v xs := by
  obtain ⟨a, cap, rfl, hcap, hh⟩ := h
  refine ⟨a, cap, rfl, hcap, fun h0 => ?_⟩
  obtain ⟨b, off, rfl, hlt, hc⟩ := hh h0
  refine ⟨b, off, rfl, Nat.lt_of_lt_of_le hlt hb.size, fun i hi => ?_⟩
  have e := hb.block b hlt
  exact ⟨(World.cell?_of_block e).trans (hc i hi).1, (World.cell?_of_block e).trans (hc i hi).2⟩

/-- What is read at a place of the list. -/
theorem VRow.at {w : World} {a : Option Addr} {n cap k : Nat} {xs : List VarD} (h : VRow w (.slice a n cap) xs) (hk : k < xs.length) :
    ∃ b off, a = some ⟨b, off, none⟩ ∧ w.cell? ⟨b, off + k * 2, none⟩ = some (.string xs[k].1) ∧ w.cell? ⟨b, off + k * 2 + 1, none⟩ = some (.int .i64 xs[k].2) := by
  obtain ⟨a', cap', e, _, hh⟩ := h
  cases e
  obtain ⟨b, off, rfl, _, hc⟩ := hh (by omega)
  exact ⟨b, off, rfl, hc k hk⟩

end Go.Proofs.YtofpoiccghpliaaGreatDoor
