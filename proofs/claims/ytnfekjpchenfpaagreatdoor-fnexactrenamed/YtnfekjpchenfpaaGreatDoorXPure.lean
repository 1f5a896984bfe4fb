/- VarName and EnvOk of the specification. -/
/- The laws' own helpers on lists of names with numbers: how great they are, copied, compared. -/
/- Lists of structs that a call owns, whose elements reach other rows: built by append, read, and written cell by cell. No program is named. -/
/- Expressions: the plain mathematics: which are right, what they are worth. -/
import Derived.Test.YtnfekjpchenfpaaGreatDoorEnvGet
import Derived.Deep.QuietTactic
import Derived.BigQuiet
import Derived.Laws.Cover1
import Derived.Handy
import Derived.OwnWalk
import Derived.Laws.OwnMore
namespace Go.Proofs.YtnfekjpchenfpaaGreatDoor
open Go.RowKit

theorem in_any (n lo hi : Int) (w : World) :
    Calls Tryz.prog 34 #[.int .i64 n, .int .i64 lo, .int .i64 hi] w fun e w' => e = .returned (.bool (decide (lo ≤ n ∧ n ≤ hi))) ∧ w' = w := by
  by_cases h1 : lo ≤ n
  · by_cases h2 : n ≤ hi
    · have hd : decide (lo ≤ n ∧ n ≤ hi) = true := by simp [h1, h2]
      go_enter Tryz.func34, Tryz.ntmps34
      go_wp2
      go_ret
      rw [hd]
      exact ⟨rfl, rfl⟩
    · have hd : decide (lo ≤ n ∧ n ≤ hi) = false := by simp; omega
      have h3 : hi < n := by omega
      go_enter Tryz.func34, Tryz.ntmps34
      go_wp2
      go_ret
      exact ⟨congrArg (fun x => Ending.returned (Value.bool x)) (by simp; omega), rfl⟩
  · have hd : decide (lo ≤ n ∧ n ≤ hi) = false := by simp; omega
    have h3 : n < lo := by omega
    go_enter Tryz.func34, Tryz.ntmps34
    go_wp2
    go_ret
    exact ⟨congrArg (fun x => Ending.returned (Value.bool x)) (by simp), rfl⟩

/-- A name: 1 to 4 small letters. -/
def letB (b : UInt8) : Bool := decide (97 ≤ b.toNat ∧ b.toNat ≤ 122)
def nameB (s : ByteArray) : Bool := s.data.toList.all letB && decide (1 ≤ s.size ∧ s.size ≤ 4)

theorem nameB_no {s : ByteArray} {k : Nat} (hk : k < s.size) (h : letB s[k] = false) : nameB s = false := by
  have hm : s[k] ∈ s.data.toList := by
    have : s[k] = s.data[k] := rfl
    rw [this]; simp
  cases hh : nameB s with
  | false => rfl
  | true =>
    simp only [nameB, Bool.and_eq_true, List.all_eq_true] at hh
    have := hh.1 _ hm
    rw [h] at this
    cases this

theorem nameB_all {s : ByteArray} (h : ∀ j (hj : j < s.size), letB s[j] = true) : nameB s = decide ((1 : Int) ≤ (s.size : Int) ∧ (s.size : Int) ≤ 4) := by
  have h1 : s.data.toList.all letB = true := by
    rw [List.all_eq_true]
    intro x hx
    obtain ⟨j, hj, rfl⟩ := List.getElem_of_mem hx
    have hj' : j < s.size := by simpa using hj
    exact h j hj'
  rw [nameB, h1, Bool.true_and]
  congr 1
  apply propext
  omega

set_option maxHeartbeats 800000 in
theorem specVarName_any (s : ByteArray) (w : World) (hs : s.size ≤ 1048576) :
    Calls Tryz.prog 81 #[.string s] w fun e w' => e = .returned (.bool (nameB s)) ∧ w' = w := by
  go_enter Tryz.func81, Tryz.ntmps81
  go_wp2
  go_loop [3] (fun iv => ∃ k : Nat, iv = .int .i64 k ∧ k ≤ s.size ∧ ∀ j (hj : j < s.size), j < k → letB s[j] = true) (fun iv => s.size - (intOf iv).toNat)
  case atStart => exact ⟨0, rfl, Nat.zero_le _, fun _ _ h => by omega⟩
  case round =>
    obtain ⟨k, rfl, hk, hj⟩ := hrel
    have HJ : Hid (∀ j (hj : j < s.size), j < k → letB s[j] = true) := hj
    clear hj
    by_cases hlt : k < s.size
    · have hb := s[k].toNat_lt
      by_cases h1 : s[k].toNat < 97
      · have HN : Hid (nameB s = false) := nameB_no hlt (by simp [letB]; omega)
        go_wp2
        go_ret
        rw [HN.out]
        exact ⟨rfl, rfl⟩
      · by_cases h2 : 122 < s[k].toNat
        · have HN : Hid (nameB s = false) := nameB_no hlt (by simp [letB]; omega)
          go_wp2
          go_ret
          rw [HN.out]
          exact ⟨rfl, rfl⟩
        · go_wp2
          go_round
          case rel =>
            refine ⟨k + 1, by go_num, by omega, fun j hj hjk => ?_⟩
            by_cases e : j = k
            · subst e; simp [letB]; omega
            · exact HJ.out j hj (by omega)
          case measure => simp [intOf]; omega
    · have HN : Hid (_ = _) := nameB_all (s := s) (fun j hj => HJ.out j hj (by omega))
      go_wp2_with (go_at_call 34; refine (in_any _ 1 4 _).mono ?_; rintro e w1 ⟨rfl, rfl⟩)
      go_ret
      rw [HN.out]
      exact ⟨congrArg (fun x => Ending.returned (Value.bool x)) (by simp), rfl⟩

/-- Is this one right behind that name? -/
def stepOk (p : Option ByteArray) (x : VarD) : Bool :=
  nameB x.1 && decide (-9999 ≤ x.2 ∧ x.2 ≤ 9999) && (match p with | none => true | some q => Op.bytesLess q.toList x.1.toList)
def chainB : Option ByteArray → List VarD → Bool
  | _, [] => true
  | p, x :: xs => stepOk p x && chainB (some x.1) xs
/-- A right list. -/
def envB (xs : List VarD) : Bool := chainB none xs && decide (xs.length ≤ 6)

def lastN (p : Option ByteArray) : List VarD → Option ByteArray
  | [] => p
  | x :: xs => lastN (some x.1) xs
theorem chainB_snoc (l : List VarD) : ∀ (p : Option ByteArray) (x : VarD), chainB p (l ++ [x]) = (chainB p l && stepOk (lastN p l) x) := by
  induction l with
  | nil => intro p x; simp [chainB, lastN]
  | cons y l ih => intro p x; simp [chainB, lastN, ih, Bool.and_assoc]
theorem chainB_app (l m : List VarD) : ∀ (p : Option ByteArray), chainB p (l ++ m) = (chainB p l && chainB (lastN p l) m) := by
  induction l with
  | nil => intro p; simp [chainB, lastN]
  | cons y l ih => intro p; simp [chainB, lastN, ih, Bool.and_assoc]
theorem lastN_take (xs : List VarD) (k : Nat) (hk : k < xs.length) (h0 : 0 < k) : lastN none (xs.take k) = some xs[k - 1].1 := by
  have snoc : ∀ (l : List VarD) (p : Option ByteArray) (x : VarD), lastN p (l ++ [x]) = some x.1 := by
    intro l
    induction l with
    | nil => intro p x; rfl
    | cons y l ih => intro p x; exact ih _ _
  obtain ⟨j, rfl⟩ : ∃ j, k = j + 1 := ⟨k - 1, by omega⟩
  rw [List.take_succ_eq_append_getElem (by omega), snoc]
  rfl
theorem chainB_next (xs : List VarD) (k : Nat) (hk : k < xs.length) : chainB none (xs.take (k + 1)) = (chainB none (xs.take k) && stepOk (lastN none (xs.take k)) xs[k]) := by
  rw [List.take_succ_eq_append_getElem hk, chainB_snoc]
theorem envB_no {xs : List VarD} {k : Nat} (hk : k < xs.length) (h : stepOk (lastN none (xs.take k)) xs[k] = false) : envB xs = false := by
  have : chainB none xs = false := by
    rw [← List.take_append_drop (k + 1) xs, chainB_app, chainB_next xs k hk, h]
    simp
  rw [envB, this]
  rfl

theorem in_is (n lo hi : Int) (b : Bool) (h : decide (lo ≤ n ∧ n ≤ hi) = b) (w : World) :
    Calls Tryz.prog 34 #[.int .i64 n, .int .i64 lo, .int .i64 hi] w fun e w' => e = .returned (.bool b) ∧ w' = w := by
  rw [← h]; exact in_any n lo hi w
theorem specVarName_is (s : ByteArray) (b : Bool) (h : nameB s = b) (hs : s.size ≤ 1048576) (w : World) :
    Calls Tryz.prog 81 #[.string s] w fun e w' => e = .returned (.bool b) ∧ w' = w := by
  rw [← h]; exact specVarName_any s w hs

end Go.Proofs.YtnfekjpchenfpaaGreatDoor

namespace Go.Proofs.YtnfekjpchenfpaaGreatDoor
open Go.RowKit

theorem beq_yes {a b : ByteArray} (h : a = b) : (a.toList == b.toList) = true := by rw [bytes_beq]; simpa using h
theorem beq_no {a b : ByteArray} (h : ¬ a = b) : (a.toList == b.toList) = false := by rw [bytes_beq]; simpa using h

/-- The cells of a list of names with numbers. -/
def vv (xs : List VarD) : List Value := xs.flatMap fun x => [.string x.1, .int .i64 x.2]
theorem vv_len (xs : List VarD) : (vv xs).length = xs.length * 2 := by
  induction xs with
  | nil => rfl
  | cons x xs ih => rw [vv, List.flatMap_cons, List.length_append, ← vv, ih]; simp; omega
theorem vv_app (xs ys : List VarD) : vv (xs ++ ys) = vv xs ++ vv ys := by simp [vv]
theorem vv_one (x : VarD) : vv [x] = [.string x.1, .int .i64 x.2] := rfl
theorem vv_at : ∀ (xs : List VarD) (i : Nat) (h : i < xs.length), (vv xs)[i * 2]? = some (.string xs[i].1) ∧ (vv xs)[i * 2 + 1]? = some (.int .i64 xs[i].2)
  | x :: xs, 0, _ => ⟨rfl, rfl⟩
  | x :: xs, i + 1, h => by
    have := vv_at xs i (by simpa using h)
    have e : vv (x :: xs) = [.string x.1, .int .i64 x.2] ++ vv xs := rfl
    rw [e, List.getElem?_append_right (by simp; omega), List.getElem?_append_right (by simp; omega)]
    have e1 : (i + 1) * 2 - 2 = i * 2 := by omega
    have e2 : (i + 1) * 2 + 1 - 2 = i * 2 + 1 := by omega
    simpa [e1, e2] using this

def totS (xs : List VarD) : Nat := (xs.map fun x => x.1.size).sum
theorem totS_next (xs : List VarD) (k : Nat) (h : k < xs.length) : totS (xs.take (k + 1)) = totS (xs.take k) + xs[k].1.size := by
  rw [List.take_succ_eq_append_getElem h]
  simp only [totS, List.map_append, List.sum_append, List.map_cons, List.map_nil, List.sum_cons, List.sum_nil, Nat.add_zero]
theorem totS_mem {xs : List VarD} {x : VarD} (h : x ∈ xs) : x.1.size ≤ totS xs := by
  induction xs with
  | nil => cases h
  | cons y xs ih =>
    simp only [totS, List.map_cons, List.sum_cons]
    rcases List.mem_cons.1 h with rfl | h
    · omega
    · have := ih h; simp only [totS] at this; omega

/-- What is owned is owned behind whatever makes new memory alone. -/
theorem own_below {B : Nat} {e : TypeId} {size : Nat} {v : Value} {n : Nat} {xs : List Value} {w w' : World} (h : w.ownsRow B e size v n xs) (hb : Below w.heap.size w w') : w'.ownsRow B e size v n xs := by
  refine ⟨h.1, ?_⟩
  rcases h.2 with h | ⟨g, cap, cur, rfl, hg, hc, r⟩
  · exact .inl h
  · refine .inr ⟨g, cap, cur, rfl, hg, ?_, r⟩
    rw [hb.block g (Array.getElem?_eq_some_iff.1 hc).1]
    exact hc
theorem own_cell {B : Nat} {e : TypeId} {size : Nat} {g n cap : Nat} {xs : List Value} {w : World} (h : w.ownsRow B e size (.slice (some ⟨g, 0, none⟩) n cap) n xs) (j : Nat) (hj : j < n * size) :
    ∃ c, w.cell? ⟨g, j, none⟩ = some c ∧ w.frozen? ⟨g, j, none⟩ = false := by
  rcases h.2 with ⟨h', _⟩ | ⟨g', cap', cur, h', hb, hg, _⟩
  · cases h'
  · cases h'
    have hx : j < xs.length := by rw [h.1]; exact hj
    refine ⟨xs[j], ?_, ?_⟩
    · have := h.cells (g := g) rfl j xs[j] (List.getElem?_eq_getElem hx)
      rwa [Addr.add_lit, Nat.zero_add] at this
    · unfold World.frozen?
      rw [hg]
      simp

theorem take_two (cs : List Value) (j : Nat) (a b : Value) (h : j + 1 < cs.length) : ((cs.set j a).set (j + 1) b).take (j + 2) = cs.take j ++ [a, b] := by
  apply List.ext_getElem?
  intro i
  rw [List.getElem?_take]
  by_cases h1 : i < j
  · rw [if_pos (by omega), List.getElem?_set_ne (by omega), List.getElem?_set_ne (by omega), List.getElem?_append_left (by simp; omega), List.getElem?_take, if_pos h1]
  · have hl : (cs.take j).length = j := by simp; omega
    rw [List.getElem?_append_right (by omega), hl]
    by_cases h2 : i = j
    · subst h2
      rw [if_pos (by omega), List.getElem?_set_ne (by omega), List.getElem?_set_self (by omega)]
      simp
    · by_cases h3 : i = j + 1
      · subst h3
        rw [if_pos (by omega), List.getElem?_set_self (by simpa using h)]
        simp
      · rw [if_neg (by omega), List.getElem?_eq_none (by simp; omega)]

theorem cell_keep {W W' : World} {a : Addr} {x : Value} (h : W.cell? a = some x) (hb : Below W.heap.size W W') : W'.cell? a = some x :=
  (World.cell?_of_block (hb.block _ (World.block_lt_of_cell? W a h))).trans h
theorem cells_keep4 {W W' : World} {a b c d : Addr} {x y z u : Value} (h : W.cell? a = some x ∧ W.cell? b = some y ∧ W.cell? c = some z ∧ W.cell? d = some u) (hb : Below W.heap.size W W') :
    W'.cell? a = some x ∧ W'.cell? b = some y ∧ W'.cell? c = some z ∧ W'.cell? d = some u :=
  ⟨cell_keep h.1 hb, cell_keep h.2.1 hb, cell_keep h.2.2.1 hb, cell_keep h.2.2.2 hb⟩

end Go.Proofs.YtnfekjpchenfpaaGreatDoor

namespace Go.Proofs.YtnfekjpchenfpaaGreatDoor
open Go.RowKit
set_option linter.unusedVariables false
variable {α : Type}

def RowO (sz : Nat) (T : TypeId) (E : World → List Value → α → Prop) (B : Nat) (v : Value) (xs : List α) (w : World) : Prop :=
  ∃ vss : List (List Value), vss.length = xs.length ∧ (∀ vs ∈ vss, vs.length = sz) ∧ w.ownsRow B T sz v xs.length vss.flatten ∧ ∀ i (h : i < vss.length) (h' : i < xs.length), E w vss[i] xs[i]
section
variable {sz : Nat} {T : TypeId} {E : World → List Value → α → Prop} {B : Nat} {v : Value} {xs : List α} {w w' : World}
theorem RowO.nil : RowO sz T E B (.slice none 0 0) [] w := ⟨[], rfl, fun _ h => (by cases h), ⟨by simp, .inl ⟨rfl, rfl⟩⟩, fun i h => by cases h⟩
theorem RowO.made (hB : B ≤ w.heap.size) : RowO sz T E B (.slice (some ⟨w.heap.size, 0, none⟩) 0 0) ([] : List α) (w.alloc (.cells #[] T)) :=
  ⟨[], rfl, fun _ h => (by cases h), World.ownsRow_made w #[] 0 hB (Nat.zero_le _) (by simp), fun i h => by cases h⟩
theorem RowO.slice (h : RowO sz T E B v xs w) : ∃ a cap, v = .slice a xs.length cap := by
  obtain ⟨vss, h1, h2, h3, h4⟩ := h
  rcases h3.2 with ⟨rfl, h0⟩ | ⟨g, cap, cur, rfl, _⟩
  · exact ⟨none, 0, by rw [h0]⟩
  · exact ⟨_, cap, rfl⟩
theorem RowO.at (h : RowO sz T E B v xs w) {k : Nat} (hk : k < xs.length) : ∃ g cap vs, v = .slice (some ⟨g, 0, none⟩) xs.length cap ∧ B ≤ g ∧ vs.length = sz ∧ (∀ j (hj : j < vs.length), w.cell? ⟨g, k * sz + j, none⟩ = some vs[j]) ∧ E w vs xs[k] := by
  obtain ⟨vss, h1, h2, h3, h4⟩ := h
  rcases h3.2 with ⟨rfl, h0⟩ | ⟨g, cap, cur, rfl, hB, _⟩
  · omega
  · refine ⟨g, cap, vss[k]'(by omega), rfl, hB, h2 _ (List.getElem_mem _), fun j hj => ?_, h4 k (by omega) hk⟩
    have hf := flat_at sz vss h2 k j (by omega) hj
    have := World.ownsRow.cells h3 (g := g) rfl _ _ hf
    rw [Addr.add_lit, Nat.zero_add] at this
    exact this
theorem RowO.row (h : RowO sz T E B v xs w) : RowC sz E w v xs := by
  obtain ⟨vss, h1, h2, h3, h4⟩ := h
  rcases h3.2 with ⟨rfl, h0⟩ | ⟨g, cap, cur, rfl, hB, hc, _⟩
  · exact ⟨none, 0, by rw [h0], fun _ => rfl, fun hh => by omega⟩
  · refine ⟨some ⟨g, 0, none⟩, cap, rfl, fun hh => (by cases hh), fun _ => ⟨g, 0, rfl, (Array.getElem?_eq_some_iff.1 hc).1, fun i hi => ⟨vss[i]'(by omega), h2 _ (List.getElem_mem _), fun j hj => ?_, h4 i (by omega) hi⟩⟩⟩
    have hf := flat_at sz vss h2 i j (by omega) hj
    have := World.ownsRow.cells h3 (g := g) rfl _ _ hf
    rw [Addr.add_lit, Nat.zero_add] at this
    rw [Nat.zero_add]
    exact this
theorem RowO.lt (h : RowO sz T E B v xs w) : ∀ k, v.ownBlock = some k → B ≤ k ∧ k < w.heap.size := by
  obtain ⟨vss, h1, h2, h3, h4⟩ := h
  exact World.ownsRow.lt h3
theorem RowO.base {B' : Nat} (h : RowO sz T E B v xs w) (hB : B' ≤ B) : RowO sz T E B' v xs w := by
  obtain ⟨vss, h1, h2, h3, h4⟩ := h
  refine ⟨vss, h1, h2, ⟨h3.1, ?_⟩, h4⟩
  rcases h3.2 with hn | ⟨g, cap, cur, e, hg, r⟩
  · exact .inl hn
  · exact .inr ⟨g, cap, cur, e, Nat.le_trans hB hg, r⟩
/-- In another world: where the row and what it reaches are there. -/
theorem RowO.world (h : RowO sz T E B v xs w) (hr : ∀ n cs, w.ownsRow B T sz v n cs → w'.ownsRow B T sz v n cs) (hE : ∀ vs x, E w vs x → E w' vs x) : RowO sz T E B v xs w' := by
  obtain ⟨vss, h1, h2, h3, h4⟩ := h
  exact ⟨vss, h1, h2, hr _ _ h3, fun i hi hi' => hE _ _ (h4 i hi hi')⟩
theorem RowO.below (hE : ∀ w w' vs x, E w vs x → Below w.heap.size w w' → E w' vs x) (h : RowO sz T E B v xs w) (hb : Below w.heap.size w w') : RowO sz T E B v xs w' :=
  h.world (fun _ _ h3 => own_below h3 hb) (fun _ _ hx => hE _ _ _ _ hx hb)
/-- Opened for an append: the cells, and the longer list behind it. -/
theorem RowO.snoc (h : RowO sz T E B v xs w) : ∃ cs, w.ownsRow B T sz v xs.length cs ∧ ∀ (v' : Value) (w2 : World) (vs : List Value) (x : α), vs.length = sz → w2.ownsRow B T sz v' (xs.length + 1) (cs ++ vs) → (∀ vs y, E w vs y → E w2 vs y) → E w2 vs x → RowO sz T E B v' (xs ++ [x]) w2 := by
  obtain ⟨vss, h1, h2, h3, h4⟩ := h
  refine ⟨vss.flatten, h3, fun v' w2 vs x hv ho hE hx => ⟨vss ++ [vs], by simp [h1], fun u hu => ?_, by simpa using ho, fun i hi hi' => ?_⟩⟩
  · rcases List.mem_append.1 hu with hu | hu
    · exact h2 u hu
    · rw [List.mem_singleton.1 hu]; exact hv
  · by_cases hlt : i < vss.length
    · rw [List.getElem_append_left hlt, List.getElem_append_left (by omega)]
      exact hE _ _ (h4 i hlt (by omega))
    · have e : i = vss.length := by simp at hi; omega
      subst e
      rw [List.getElem_append_right (Nat.le_refl _), List.getElem_append_right (by omega)]
      simp only [Nat.sub_self, h1]
      exact hx
theorem flat_set (sz : Nat) : ∀ (vss : List (List Value)), (∀ vs ∈ vss, vs.length = sz) → ∀ (i j : Nat) (u : Value) (h : i < vss.length), j < sz → vss.flatten.set (i * sz + j) u = (vss.set i (vss[i].set j u)).flatten
  | x :: vss, hl, 0, j, u, _, hj => by
    have hx := hl x (List.mem_cons_self ..)
    simp only [List.flatten_cons, Nat.zero_mul, Nat.zero_add, List.set_cons_zero, List.getElem_cons_zero]
    rw [List.set_append_left _ _ (by omega)]
  | x :: vss, hl, i + 1, j, u, h, hj => by
    have hx := hl x (List.mem_cons_self ..)
    have ih := flat_set sz vss (fun y hy => hl y (List.mem_cons_of_mem _ hy)) i j u (by simpa using h) hj
    simp only [List.flatten_cons, List.set_cons_succ, List.getElem_cons_succ]
    rw [List.set_append_right _ _ (by rw [hx, Nat.succ_mul]; omega), hx, show (i + 1) * sz + j - sz = i * sz + j by rw [Nat.succ_mul]; omega, ih]
/-- One cell of one element written. -/
theorem RowO.set {g cap : Nat} (h : RowO sz T E B (.slice (some ⟨g, 0, none⟩) xs.length cap) xs w) {i j : Nat} (hi : i < xs.length) (hj : j < sz) (u : Value) (x' : α) (hE : ∀ vs y, E w vs y → E (w.setCell ⟨g, i * sz + j, none⟩ u) vs y) (hx : ∀ vs, vs.length = sz → E w vs xs[i] → E (w.setCell ⟨g, i * sz + j, none⟩ u) (vs.set j u) x') :
    RowO sz T E B (.slice (some ⟨g, 0, none⟩) xs.length cap) (xs.set i x') (w.setCell ⟨g, i * sz + j, none⟩ u) := by
  obtain ⟨vss, h1, h2, h3, h4⟩ := h
  have hv : i < vss.length := by omega
  refine ⟨vss.set i (vss[i].set j u), by simp [h1], fun vs hvs => ?_, ?_, fun k hk hk' => ?_⟩
  · obtain ⟨m, hm, rfl⟩ := List.getElem_of_mem hvs
    rw [List.getElem_set]
    split
    · rw [List.length_set]; exact h2 _ (List.getElem_mem _)
    · exact h2 _ (List.getElem_mem _)
  · rw [List.length_set, ← flat_set sz vss h2 i j u hv hj]
    exact (World.ownsRow.stored h3 (i * sz + j) u).1
  · rw [List.getElem_set, List.getElem_set]
    split
    · rename_i e
      subst e
      exact hx _ (h2 _ (List.getElem_mem _)) (h4 i hv hi)
    · rw [List.length_set] at hk hk'
      exact hE _ _ (h4 k hk hk')
theorem RowO.type (h : RowO sz T E B v xs w) {g : Nat} (hg : v.ownBlock = some g) : ∃ cur, w.heap[g]? = some (.cells cur T (0, 0)) := by
  obtain ⟨vss, h1, h2, h3, h4⟩ := h
  rcases h3.2 with ⟨rfl, h0⟩ | ⟨g', cap, cur, rfl, hB, hc, _⟩
  · cases hg
  · cases hg
    exact ⟨cur, hc⟩
end

end Go.Proofs.YtnfekjpchenfpaaGreatDoor

namespace Go.Proofs.YtnfekjpchenfpaaGreatDoor
open Go.RowKit

def inI (n lo hi : Int) : Bool := decide (lo ≤ n ∧ n ≤ hi)
/-- How many kids an Op has. -/
def kidsN (op : Int) : Int := if op = 1 ∨ op = 2 ∨ op = 3 then 0 else if op = 11 then 1 else 2
/-- Num and Name are as the Op wants them. -/
def fieldsB (x : NodeD) : Bool := (if x.op = 1 then inI x.num 0 99 else decide (x.num = 0)) && (if x.op = 2 then nameB x.name else decide (x.name = ⟨#[]⟩))
def kidsB (i : Nat) (ks : List Int) : Bool := ks.all (fun k => inI k 0 ((i : Int) - 1))
def nodeB (i : Nat) (x : NodeD) : Bool := inI x.op 1 11 && decide ((x.kids.length : Int) = kidsN x.op) && fieldsB x && kidsB i x.kids
def nodesF : Nat → List NodeD → Bool
  | _, [] => true
  | i, x :: xs => nodeB i x && nodesF (i + 1) xs
/-- A right expression. -/
def exprB (ns : List NodeD) : Bool := nodesF 0 ns && inI (ns.length : Int) 1 20

theorem nodesF_app (l m : List NodeD) : ∀ i, nodesF i (l ++ m) = (nodesF i l && nodesF (i + l.length) m) := by
  induction l with
  | nil => intro i; simp [nodesF]
  | cons x l ih => intro i; rw [List.cons_append, nodesF, nodesF, ih, List.length_cons, Bool.and_assoc, show i + 1 + l.length = i + (l.length + 1) by omega]
theorem nodesF_next (ns : List NodeD) (k : Nat) (h : k < ns.length) : nodesF 0 (ns.take (k + 1)) = (nodesF 0 (ns.take k) && nodeB k ns[k]) := by
  rw [List.take_succ_eq_append_getElem h, nodesF_app]
  simp [nodesF, Nat.min_eq_left (Nat.le_of_lt h)]
theorem exprB_no {ns : List NodeD} {k : Nat} (h : k < ns.length) (hn : nodeB k ns[k] = false) : exprB ns = false := by
  have : nodesF 0 ns = false := by
    rw [← List.take_append_drop (k + 1) ns, nodesF_app, nodesF_next ns k h, hn]
    simp
  rw [exprB, this, Bool.false_and]
theorem nodesF_at : ∀ (ns : List NodeD) (i : Nat), nodesF i ns = true → ∀ k (h : k < ns.length), nodeB (i + k) ns[k] = true
  | [], _, _, _, h => by simp at h
  | x :: xs, i, hn, k, h => by
    rw [nodesF, Bool.and_eq_true] at hn
    cases k with
    | zero => exact hn.1
    | succ k =>
      have := nodesF_at xs (i + 1) hn.2 k (by simpa using h)
      rw [show i + (k + 1) = i + 1 + k by omega]
      simpa using this
/-- What a right expression's nodes are. -/
theorem exprB_at {ns : List NodeD} (h : exprB ns = true) : (1 ≤ ns.length ∧ ns.length ≤ 20) ∧ ∀ k (hk : k < ns.length), nodeB k ns[k] = true := by
  rw [exprB, Bool.and_eq_true, inI, decide_eq_true_eq] at h
  refine ⟨by omega, fun k hk => ?_⟩
  have := nodesF_at ns 0 h.1 k hk
  rwa [Nat.zero_add] at this
theorem node_parts {i : Nat} {x : NodeD} (h : nodeB i x = true) : (1 ≤ x.op ∧ x.op ≤ 11) ∧ (x.kids.length : Int) = kidsN x.op ∧ fieldsB x = true ∧ ∀ k ∈ x.kids, 0 ≤ k ∧ k < i := by
  rw [nodeB, Bool.and_eq_true, Bool.and_eq_true, Bool.and_eq_true, inI, decide_eq_true_eq, decide_eq_true_eq, kidsB, List.all_eq_true] at h
  refine ⟨h.1.1.1, h.1.1.2, h.1.2, fun k hk => ?_⟩
  have := h.2 k hk
  rw [inI, decide_eq_true_eq] at this
  omega

def flagI (b : Bool) : Int := if b = true then 1 else 0
/-- What is reckoned of two numbers, where it can be. -/
def twoB (op a b : Int) : Option Int :=
  if op = 4 then some (a + b) else if op = 5 then some (a - b) else if op = 6 then some (a * b) else if op = 7 then (if b = 0 then none else some (a.tdiv b))
  else if op = 8 then some (flagI (decide (a < b))) else if op = 9 then some (flagI (decide (a = b))) else some (flagI (decide (a ≠ 0) && decide (b ≠ 0)))
/-- A number that is not beyond. -/
def capB (o : Option Int) : Option Int := o.bind fun n => if inI n (-9999) 9999 = true then some n else none
/-- What a node is worth, its kids being worth so much. -/
def nodeV (env : ByteArray → Option Int) (here : Int) (x : NodeD) (vs : List Int) : Option Int :=
  if x.op = 1 then some x.num else if x.op = 2 then env x.name else if x.op = 3 then some here
  else if x.op = 11 then some (flagI (decide (vs.getD 0 0 = 0))) else twoB x.op (vs.getD 0 0) (vs.getD 1 0)
/-- All of them, or none. -/
def allV : List (Option Int) → Option (List Int)
  | [] => some []
  | none :: _ => none
  | some v :: os => (allV os).map (v :: ·)
/-- What the node at a place is worth: its kids lie ahead of it. -/
def evalN (ns : List NodeD) (env : ByteArray → Option Int) (here : Int) : Nat → Nat → Option Int
  | 0, _ => none
  | f + 1, i => match ns[i]? with
    | none => none
    | some x => match allV (x.kids.map fun k => evalN ns env here f k.toNat) with
      | none => none
      | some vs => capB (nodeV env here x vs)
/-- What the whole is worth. -/
def evalB (ns : List NodeD) (env : ByteArray → Option Int) (here : Int) : Option Int :=
  if exprB ns = true then evalN ns env here ns.length (ns.length - 1) else none

theorem evalN_succ (ns : List NodeD) (env : ByteArray → Option Int) (here : Int) (f i : Nat) (h : i < ns.length) : evalN ns env here (f + 1) i = match allV (ns[i].kids.map fun k => evalN ns env here f k.toNat) with
      | none => none
      | some vs => capB (nodeV env here ns[i] vs) := by
  rw [evalN, List.getElem?_eq_getElem h]
/-- More fuel than the place asks changes nothing. -/
theorem evalN_fuel {ns : List NodeD} (hn : ∀ k (hk : k < ns.length), nodeB k ns[k] = true) (env : ByteArray → Option Int) (here : Int) : ∀ (i f : Nat), i < ns.length → i < f → evalN ns env here f i = evalN ns env here (i + 1) i := by
  intro i
  induction i using Nat.strongRecOn with
  | ind i ih =>
    intro f hi hf
    obtain ⟨g, rfl⟩ : ∃ g, f = g + 1 := ⟨f - 1, by omega⟩
    rw [evalN_succ _ _ _ _ _ hi, evalN_succ _ _ _ _ _ hi]
    have e : (ns[i].kids.map fun k => evalN ns env here g k.toNat) = ns[i].kids.map fun k => evalN ns env here i k.toNat := by
      apply List.map_congr_left
      intro k hk
      have := (node_parts (hn i hi)).2.2.2 k hk
      rw [ih k.toNat (by omega) g (by omega) (by omega), ih k.toNat (by omega) i (by omega) (by omega)]
    rw [e]
/-- A node's worth, in its own words. -/
def valN (ns : List NodeD) (env : ByteArray → Option Int) (here : Int) (i : Nat) : Option Int := evalN ns env here (i + 1) i
theorem valN_eq {ns : List NodeD} (hn : ∀ k (hk : k < ns.length), nodeB k ns[k] = true) (env : ByteArray → Option Int) (here : Int) (i : Nat) (hi : i < ns.length) :
    valN ns env here i = match allV (ns[i].kids.map fun k => valN ns env here k.toNat) with
      | none => none
      | some vs => capB (nodeV env here ns[i] vs) := by
  rw [valN, evalN_succ _ _ _ _ _ hi]
  have e : (ns[i].kids.map fun k => evalN ns env here i k.toNat) = ns[i].kids.map fun k => valN ns env here k.toNat := by
    apply List.map_congr_left
    intro k hk
    have := (node_parts (hn i hi)).2.2.2 k hk
    rw [valN, evalN_fuel hn env here k.toNat i (by omega) (by omega)]
  rw [e]
theorem evalB_val {ns : List NodeD} (h : exprB ns = true) (env : ByteArray → Option Int) (here : Int) : evalB ns env here = valN ns env here (ns.length - 1) := by
  obtain ⟨hl, hn⟩ := exprB_at h
  rw [evalB, if_pos h, valN, evalN_fuel hn env here (ns.length - 1) ns.length (by omega) (by omega)]

theorem allV_none {os : List (Option Int)} (h : none ∈ os) : allV os = none := by
  induction os with
  | nil => cases h
  | cons o os ih =>
    cases o with
    | none => rfl
    | some v =>
      have : none ∈ os := by simpa using h
      rw [allV, ih this]
      rfl
theorem allV_map {α : Type} (ks : List α) (f : α → Option Int) (g : α → Int) (h : ∀ k ∈ ks, f k = some (g k)) : allV (ks.map f) = some (ks.map g) := by
  induction ks with
  | nil => rfl
  | cons k ks ih =>
    rw [List.map_cons, h k (List.mem_cons_self ..), allV, ih (fun j hj => h j (List.mem_cons_of_mem _ hj))]
    rfl

/-- The nodes below the whole: the whole is one; the kids of one are; each other one is a kid of one. -/
def Marks (ns : List NodeD) (m : List Bool) : Prop :=
  m.length = ns.length ∧ m[ns.length - 1]? = some true ∧
    (∀ i (hi : i < ns.length), m[i]? = some true → ∀ k ∈ ns[i].kids, m[k.toNat]? = some true) ∧
    (∀ i, i < ns.length - 1 → m[i]? = some true → ∃ p, ∃ hp : p < ns.length, i < p ∧ m[p]? = some true ∧ (i : Int) ∈ ns[p].kids)
/-- Where one below the whole is worth nothing, the whole is. -/
theorem marks_none {ns : List NodeD} {m : List Bool} (h : exprB ns = true) (hm : Marks ns m) (env : ByteArray → Option Int) (here : Int) : ∀ (d i : Nat), i + d = ns.length - 1 → m[i]? = some true → valN ns env here i = none → evalB ns env here = none := by
  obtain ⟨hl, hn⟩ := exprB_at h
  intro d
  induction d using Nat.strongRecOn with
  | ind d ih =>
    intro i hd hi hv
    by_cases h0 : d = 0
    · subst h0
      obtain rfl : i = ns.length - 1 := by omega
      rw [evalB_val h, hv]
    · obtain ⟨p, hp, hip, hpm, hk⟩ := hm.2.2.2 i (by omega) hi
      refine ih (ns.length - 1 - p) (by omega) p (by omega) hpm ?_
      rw [valN_eq hn env here p hp, allV_none]
      exact List.mem_map.2 ⟨(i : Int), hk, by simpa using hv⟩

end Go.Proofs.YtnfekjpchenfpaaGreatDoor
