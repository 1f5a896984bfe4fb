/- Expressions: the plain mathematics: which are right, what they are worth. -/
/- ExprOk of the specification. -/
import Derived.Test.YtofpoiccghpliaaGreatDoorGRow
import Derived.Test.YtofpoiccghpliaaGreatDoorEnvOk
import Derived.Test.YtofpoiccghpliaaGreatDoorDecPure
namespace Go.Proofs.YtofpoiccghpliaaGreatDoor
open Go.RowKit

def inI (n lo hi : Int) : Bool := decide (lo ≤ n ∧ n ≤ hi)
/-- How many kids an Op has. -/
def kidsN (op : Int) : Int := if op = 1 ∨ op = 2 ∨ op = 3 then 0 else if op = 11 then 1 else 2
/-- Num and Name are as the Op wants them. -/
def fieldsB (x : NodeD) : Bool := (if x.op = 1 then inI x.num 0 99 else decide (x.num = 0)) && (if x.op = 2 then nameB x.name else decide (x.name = ⟨#[]⟩))
def kidsB (i : Nat) (ks : List Int) : Bool := ks.all (fun k => inI k 0 ((i : Int) - 1))
def nodeB (i : Nat) (x : NodeD) : Bool := inI x.op 1 11 && decide ((x.kids.length : Int) = kidsN x.op) && fieldsB x && kidsB i x.kids
def nodesF : Nat → List NodeD → Bool
  | _, [] => true
  | i, x :: xs => nodeB i x && nodesF (i + 1) xs
/-- A right expression. -/
def exprB (ns : List NodeD) : Bool := nodesF 0 ns && inI (ns.length : Int) 1 20

theorem nodesF_app (l m : List NodeD) : ∀ i, nodesF i (l ++ m) = (nodesF i l && nodesF (i + l.length) m) := by
  induction l with
  | nil => intro i; simp [nodesF]
  | cons x l ih => intro i; rw [List.cons_append, nodesF, nodesF, ih, List.length_cons, Bool.and_assoc, show i + 1 + l.length = i + (l.length + 1) by omega]
theorem nodesF_next (ns : List NodeD) (k : Nat) (h : k < ns.length) : nodesF 0 (ns.take (k + 1)) = (nodesF 0 (ns.take k) && nodeB k ns[k]) := by
  rw [List.take_succ_eq_append_getElem h, nodesF_app]
  simp [nodesF, Nat.min_eq_left (Nat.le_of_lt h)]
theorem exprB_no {ns : List NodeD} {k : Nat} (h : k < ns.length) (hn : nodeB k ns[k] = false) : exprB ns = false := by
  have : nodesF 0 ns = false := by
    rw [← List.take_append_drop (k + 1) ns, nodesF_app, nodesF_next ns k h, hn]
    simp
  rw [exprB, this, Bool.false_and]
theorem nodesF_at : ∀ (ns : List NodeD) (i : Nat), nodesF i ns = true → ∀ k (h : k < ns.length), nodeB (i + k) ns[k] = true
  | [], _, _, _, h => by simp at h
  | x :: xs, i, hn, k, h => by
    rw [nodesF, Bool.and_eq_true] at hn
    cases k with
    | zero => exact hn.1
    | succ k =>
      have := nodesF_at xs (i + 1) hn.2 k (by simpa using h)
      rw [show i + (k + 1) = i + 1 + k by omega]
      simpa using this
/-- What a right expression's nodes are. -/
theorem exprB_at {ns : List NodeD} (h : exprB ns = true) : (1 ≤ ns.length ∧ ns.length ≤ 20) ∧ ∀ k (hk : k < ns.length), nodeB k ns[k] = true := by
  rw [exprB, Bool.and_eq_true, inI, decide_eq_true_eq] at h
  refine ⟨by omega, fun k hk => ?_⟩
  have := nodesF_at ns 0 h.1 k hk
  rwa [Nat.zero_add] at this
theorem node_parts {i : Nat} {x : NodeD} (h : nodeB i x = true) : (1 ≤ x.op ∧ x.op ≤ 11) ∧ (x.kids.length : Int) = kidsN x.op ∧ fieldsB x = true ∧ ∀ k ∈ x.kids, 0 ≤ k ∧ k < i := by
  rw [nodeB, Bool.and_eq_true, Bool.and_eq_true, Bool.and_eq_true, inI, decide_eq_true_eq, decide_eq_true_eq, kidsB, List.all_eq_true] at h
  refine ⟨h.1.1.1, h.1.1.2, h.1.2, fun k hk => ?_⟩
  have := h.2 k hk
  rw [inI, decide_eq_true_eq] at this
  omega

def flagI (b : Bool) : Int := if b = true then 1 else 0
/-- What is reckoned of two numbers, where it can be. -/
def twoB (op a b : Int) : Option Int :=
  if op = 4 then some (a + b) else if op = 5 then some (a - b) else if op = 6 then some (a * b) else if op = 7 then (if b = 0 then none else some (a.tdiv b))
  else if op = 8 then some (flagI (decide (a < b))) else if op = 9 then some (flagI (decide (a = b))) else some (flagI (decide (a ≠ 0) && decide (b ≠ 0)))
/-- A number that is not beyond. -/
def capB (o : Option Int) : Option Int := o.bind fun n => if inI n (-9999) 9999 = true then some n else none
/-- What a node is worth, its kids being worth so much. -/
def nodeV (env : ByteArray → Option Int) (here : Int) (x : NodeD) (vs : List Int) : Option Int :=
  if x.op = 1 then some x.num else if x.op = 2 then env x.name else if x.op = 3 then some here
  else if x.op = 11 then some (flagI (decide (vs.getD 0 0 = 0))) else twoB x.op (vs.getD 0 0) (vs.getD 1 0)
/-- All of them, or none. -/
def allV : List (Option Int) → Option (List Int)
  | [] => some []
  | none :: _ => none
  | some v :: os => (allV os).map (v :: ·)
/-- What the node at a place is worth: its kids lie ahead of it. -/
def evalN (ns : List NodeD) (env : ByteArray → Option Int) (here : Int) : Nat → Nat → Option Int
  | 0, _ => none
  | f + 1, i => match ns[i]? with
    | none => none
    | some x => match allV (x.kids.map fun k => evalN ns env here f k.toNat) with
      | none => none
      | some vs => capB (nodeV env here x vs)
/-- What the whole is worth. -/
def evalB (ns : List NodeD) (env : ByteArray → Option Int) (here : Int) : Option Int :=
  if exprB ns = true then evalN ns env here ns.length (ns.length - 1) else none

theorem evalN_succ (ns : List NodeD) (env : ByteArray → Option Int) (here : Int) (f i : Nat) (h : i < ns.length) : evalN ns env here (f + 1) i = match allV (ns[i].kids.map fun k => evalN ns env here f k.toNat) with
      | none => none
      | some vs => capB (nodeV env here ns[i] vs) := by
  rw [evalN, List.getElem?_eq_getElem h]
/-- More fuel than the place asks changes nothing. -/
theorem evalN_fuel {ns : List NodeD} (hn : ∀ k (hk : k < ns.length), nodeB k ns[k] = true) (env : ByteArray → Option Int) (here : Int) : ∀ (i f : Nat), i < ns.length → i < f → evalN ns env here f i = evalN ns env here (i + 1) i := by
  intro i
  induction i using Nat.strongRecOn with
  | ind i ih =>
    intro f hi hf
    obtain ⟨g, rfl⟩ : ∃ g, f = g + 1 := ⟨f - 1, by omega⟩
    rw [evalN_succ _ _ _ _ _ hi, evalN_succ _ _ _ _ _ hi]
    have e : (ns[i].kids.map fun k => evalN ns env here g k.toNat) = ns[i].kids.map fun k => evalN ns env here i k.toNat := by
      apply List.map_congr_left
      intro k hk
      have := (node_parts (hn i hi)).2.2.2 k hk
      rw [ih k.toNat (by omega) g (by omega) (by omega), ih k.toNat (by omega) i (by omega) (by omega)]
    rw [e]
/-- A node's worth, in its own words. -/
def valN (ns : List NodeD) (env : ByteArray → Option Int) (here : Int) (i : Nat) : Option Int := evalN ns env here (i + 1) i
theorem valN_eq {ns : List NodeD} (hn : ∀ k (hk : k < ns.length), nodeB k ns[k] = true) (env : ByteArray → Option Int) (here : Int) (i : Nat) (hi : i < ns.length) :
    valN ns env here i = match allV (ns[i].kids.map fun k => valN ns env here k.toNat) with
      | none => none
      | some vs => capB (nodeV env here ns[i] vs) := by
  rw [valN, evalN_succ _ _ _ _ _ hi]
  have e : (ns[i].kids.map fun k => evalN ns env here i k.toNat) = ns[i].kids.map fun k => valN ns env here k.toNat := by
    apply List.map_congr_left
    intro k hk
    have := (node_parts (hn i hi)).2.2.2 k hk
    rw [valN, evalN_fuel hn env here k.toNat i (by omega) (by omega)]
  rw [e]
theorem evalB_val {ns : List NodeD} (h : exprB ns = true) (env : ByteArray → Option Int) (here : Int) : evalB ns env here = valN ns env here (ns.length - 1) := by
  obtain ⟨hl, hn⟩ := exprB_at h
  rw [evalB, if_pos h, valN, evalN_fuel hn env here (ns.length - 1) ns.length (by omega) (by omega)]

theorem allV_none {os : List (Option Int)} (h : none ∈ os) : allV os = none := by
  induction os with
  | nil => cases h
  | cons o os ih =>
    cases o with
    | none => rfl
    | some v =>
      have : none ∈ os := by simpa using h
      rw [allV, ih this]
      rfl
theorem allV_map {α : Type} (ks : List α) (f : α → Option Int) (g : α → Int) (h : ∀ k ∈ ks, f k = some (g k)) : allV (ks.map f) = some (ks.map g) := by
  induction ks with
  | nil => rfl
  | cons k ks ih =>
    rw [List.map_cons, h k (List.mem_cons_self ..), allV, ih (fun j hj => h j (List.mem_cons_of_mem _ hj))]
    rfl

/-- The nodes below the whole: the whole is one; the kids of one are; each other one is a kid of one. -/
def Marks (ns : List NodeD) (m : List Bool) : Prop :=
  m.length = ns.length ∧ m[ns.length - 1]? = some true ∧
    (∀ i (hi : i < ns.length), m[i]? = some true → ∀ k ∈ ns[i].kids, m[k.toNat]? = some true) ∧
    (∀ i, i < ns.length - 1 → m[i]? = some true → ∃ p, ∃ hp : p < ns.length, i < p ∧ m[p]? = some true ∧ (i : Int) ∈ ns[p].kids)
/-- Where one below the whole is worth nothing, the whole is. -/
theorem marks_none {ns : List NodeD} {m : List Bool} (h : exprB ns = true) (hm : Marks ns m) (env : ByteArray → Option Int) (here : Int) : ∀ (d i : Nat), i + d = ns.length - 1 → m[i]? = some true → valN ns env here i = none → evalB ns env here = none := by
  obtain ⟨hl, hn⟩ := exprB_at h
  intro d
  induction d using Nat.strongRecOn with
  | ind d ih =>
    intro i hd hi hv
    by_cases h0 : d = 0
    · subst h0
      obtain rfl : i = ns.length - 1 := by omega
      rw [evalB_val h, hv]
    · obtain ⟨p, hp, hip, hpm, hk⟩ := hm.2.2.2 i (by omega) hi
      refine ih (ns.length - 1 - p) (by omega) p (by omega) hpm ?_
      rw [valN_eq hn env here p hp, allV_none]
      exact List.mem_map.2 ⟨(i : Int), hk, by simpa using hv⟩

end Go.Proofs.YtofpoiccghpliaaGreatDoor

namespace Go.Proofs.YtofpoiccghpliaaGreatDoor
open Go.RowKit

theorem l04Kids_any (op : Int) (w : World) : Calls Tryz.prog 99 #[.int .i64 op] w fun e w' => e = .returned (.int .i64 (kidsN op)) ∧ w' = w := by
  by_cases h1 : op = 1
  · have HK : Hid (kidsN op = 0) := by rw [Hid, kidsN, if_pos (.inl h1)]
    go_enter Tryz.func99, Tryz.ntmps99
    go_wp2
    go_ret
    rw [HK.out]
    exact ⟨rfl, rfl⟩
  by_cases h2 : op = 2
  · have HK : Hid (kidsN op = 0) := by rw [Hid, kidsN, if_pos (.inr (.inl h2))]
    go_enter Tryz.func99, Tryz.ntmps99
    go_wp2
    go_ret
    rw [HK.out]
    exact ⟨rfl, rfl⟩
  by_cases h3 : op = 3
  · have HK : Hid (kidsN op = 0) := by rw [Hid, kidsN, if_pos (.inr (.inr h3))]
    go_enter Tryz.func99, Tryz.ntmps99
    go_wp2
    go_ret
    rw [HK.out]
    exact ⟨rfl, rfl⟩
  have hno : ¬ (op = 1 ∨ op = 2 ∨ op = 3) := by omega
  by_cases h11 : op = 11
  · have HK : Hid (kidsN op = 1) := by rw [Hid, kidsN, if_neg hno, if_pos h11]
    clear hno
    go_enter Tryz.func99, Tryz.ntmps99
    go_wp2
    go_ret
    rw [HK.out]
    exact ⟨rfl, rfl⟩
  · have HK : Hid (kidsN op = 2) := by rw [Hid, kidsN, if_neg hno, if_neg h11]
    clear hno
    go_enter Tryz.func99, Tryz.ntmps99
    go_wp2
    go_ret
    rw [HK.out]
    exact ⟨rfl, rfl⟩

theorem nodeB_op {i : Nat} {x : NodeD} (h : inI x.op 1 11 = false) : nodeB i x = false := by rw [nodeB, h]; rfl
theorem nodeB_len {i : Nat} {x : NodeD} (h : ¬ (x.kids.length : Int) = kidsN x.op) : nodeB i x = false := by rw [nodeB, decide_eq_false h]; simp
theorem nodeB_fields {i : Nat} {x : NodeD} (h : fieldsB x = false) : nodeB i x = false := by rw [nodeB, h]; simp
theorem nodeB_kid {i j : Nat} {x : NodeD} (hj : j < x.kids.length) (h : inI x.kids[j] 0 ((i : Int) - 1) = false) : nodeB i x = false := by
  have : kidsB i x.kids = false := by
    cases hh : kidsB i x.kids with
    | false => rfl
    | true => rw [kidsB, List.all_eq_true] at hh; rw [hh _ (List.getElem_mem hj)] at h; cases h
  rw [nodeB, this, Bool.and_false]
theorem nodeB_yes {i : Nat} {x : NodeD} (h1 : inI x.op 1 11 = true) (h2 : (x.kids.length : Int) = kidsN x.op) (h3 : fieldsB x = true) (h4 : ∀ j (hj : j < x.kids.length), inI x.kids[j] 0 ((i : Int) - 1) = true) : nodeB i x = true := by
  have : kidsB i x.kids = true := by
    rw [kidsB, List.all_eq_true]
    intro k hk
    obtain ⟨j, hj, rfl⟩ := List.getElem_of_mem hk
    exact h4 j hj
  rw [nodeB, h1, decide_eq_true h2, h3, this]
  rfl
theorem beq_empty {s : ByteArray} (h : s = ⟨#[]⟩) : (s.toList == []) = true := by subst h; rw [ByteArray.toList_eq]; rfl
theorem beq_full {s : ByteArray} (h : ¬ s = ⟨#[]⟩) : (s.toList == []) = false := by
  have := beq_no h
  rwa [show (⟨#[]⟩ : ByteArray).toList = [] by rw [ByteArray.toList_eq]] at this
theorem lit_four (w : World) (x y z u : Value) (t : TypeId) : (w.alloc (.cells #[x, y, z, u] t)).cell? ⟨w.heap.size, 0, none⟩ = some x ∧ (w.alloc (.cells #[x, y, z, u] t)).cell? ⟨w.heap.size, 1, none⟩ = some y ∧ (w.alloc (.cells #[x, y, z, u] t)).cell? ⟨w.heap.size, 2, none⟩ = some z ∧ (w.alloc (.cells #[x, y, z, u] t)).cell? ⟨w.heap.size, 3, none⟩ = some u := by
  have hb : (w.alloc (.cells #[x, y, z, u] t)).heap[w.heap.size]? = some (.cells #[x, y, z, u] t) := heap_alloc_new w _
  exact ⟨by rw [cell_of_row _ _ 0 _ _ _ hb]; rfl, by rw [cell_of_row _ _ 1 _ _ _ hb]; rfl, by rw [cell_of_row _ _ 2 _ _ _ hb]; rfl, by rw [cell_of_row _ _ 3 _ _ _ hb]; rfl⟩
theorem lit_one (w : World) (x : Value) (t : TypeId) : (w.alloc (.cells #[x] t)).cell? ⟨w.heap.size, 0, none⟩ = some x := by
  have hb : (w.alloc (.cells #[x] t)).heap[w.heap.size]? = some (.cells #[x] t) := heap_alloc_new w _
  rw [cell_of_row _ _ 0 _ _ _ hb]; rfl

/-- Lists of nodes within the laws' bounds. -/
def NIn (ns : List NodeD) : Prop := ns.length ≤ 1048576 ∧ ∀ x ∈ ns, x.name.size ≤ 1048576 ∧ x.kids.length ≤ 1048576 ∧ i64 x.op ∧ i64 x.num ∧ ∀ k ∈ x.kids, i64 k

set_option maxHeartbeats 3200000 in
set_option maxRecDepth 100000 in
theorem specExprOk_any (v : Value) (ns : List NodeD) (w : World) (hin : NIn ns) (h : NRow w v ns) :
    Calls Tryz.prog 82 #[.agg #[v]] w fun e w' => e = .returned (.bool (exprB ns)) ∧ Below w.heap.size w w' := by
  obtain ⟨hn, hz⟩ := hin
  have HR : Hid (NRow w v ns) := h
  have HZ : Hid (∀ x ∈ ns, x.name.size ≤ 1048576 ∧ x.kids.length ≤ 1048576 ∧ i64 x.op ∧ i64 x.num ∧ ∀ k ∈ x.kids, i64 k) := hz
  obtain ⟨a, cap, rfl⟩ := h.slice
  clear h hz
  have B0 : Hid (Below w.heap.size w (w.alloc (.cells #[.slice a ns.length cap] 107))) := (Below.refl _ _).alloc (Nat.le_refl _) _
  have E0 : Hid ((w.alloc (.cells #[.slice a ns.length cap] 107)).cell? ⟨w.heap.size, 0, none⟩ = some (.slice a ns.length cap)) := lit_one _ _ _
  go_enter Tryz.func82, Tryz.ntmps82
  go_wp2
  generalize w.alloc (.cells #[.slice a ns.length cap] 107) = w0 at *
  go_loopw [3] (fun iv wr => ∃ k : Nat, iv = .int .i64 k ∧ k ≤ ns.length ∧ nodesF 0 (ns.take k) = true ∧ Below w0.heap.size w0 wr) (fun iv _ => ns.length - (intOf iv).toNat)
  case atStart => exact ⟨0, rfl, Nat.zero_le _, rfl, Below.refl _ _⟩
  case round =>
    obtain ⟨k, rfl, hk, hch, hbw⟩ := hrel
    have HCh : Hid (nodesF 0 (ns.take k) = true) := hch
    have HB0 : Hid (Below w0.heap.size w0 wr) := hbw
    have HB : Hid (Below w.heap.size w wr) := B0.out.trans (hbw.mono B0.out.size)
    have hE := cell_keep E0.out hbw
    have HRr : Hid (NRow wr (.slice a ns.length cap) ns) := HR.out.below HB.out
    clear hbw hch
    by_cases hlt : k < ns.length
    · obtain ⟨b, off, kv, rfl, hA⟩ := HRr.out.at hlt
      obtain ⟨n0, n1, n2, n3, hI⟩ := hA
      have hx := HZ.out _ (List.getElem_mem hlt)
      have HNx : Hid (nodesF 0 (ns.take (k + 1)) = (nodesF 0 (ns.take k) && nodeB k ns[k])) := nodesF_next ns k hlt
      have HNo : Hid (nodeB k ns[k] = false → exprB ns = false) := exprB_no hlt
      obtain ⟨X, hX⟩ : ∃ X, ns[k] = X := ⟨_, rfl⟩
      rw [hX] at n0 n1 n2 hI hx HNx HNo
      clear hX
      obtain ⟨hz1, hz2, hz3, hz4, hz5⟩ := hx
      obtain ⟨op, num, name, kids⟩ := X
      obtain ⟨ak, ck, rfl⟩ := hI.slice
      have HI : Hid (IRow wr (.slice ak kids.length ck) kids) := hI
      have HK5 : Hid (∀ k ∈ kids, i64 k) := hz5
      have hz6 : kids.length ≤ 1048576 := hz2
      have hz7 : name.size ≤ 1048576 := hz1
      have i4 : (k : Int) < (ns.length : Int) := by omega
      clear hI hz5 hz1 hz2 hz3 hz4
      have BW : Hid (Below wr.heap.size wr (wr.alloc (.cells #[.int .i64 op, .int .i64 num, .string name, .slice ak kids.length ck] 138))) := (Below.refl _ _).alloc (Nat.le_refl _) _
      have HIb : Hid (IRow (wr.alloc (.cells #[.int .i64 op, .int .i64 num, .string name, .slice ak kids.length ck] 138)) (.slice ak kids.length ck) kids) := HI.out.below BW.out
      have BCb : Hid (Below w.heap.size w (wr.alloc (.cells #[.int .i64 op, .int .i64 num, .string name, .slice ak kids.length ck] 138))) := HB.out.trans (BW.out.mono HB.out.size)
      have BC0b : Hid (Below w0.heap.size w0 (wr.alloc (.cells #[.int .i64 op, .int .i64 num, .string name, .slice ak kids.length ck] 138))) := HB0.out.trans (BW.out.mono HB0.out.size)
      clear BW
      have hL := lit_four wr (.int .i64 op) (.int .i64 num) (.string name) (.slice ak kids.length ck) 138
      go_wp2
      generalize wr.alloc (.cells #[.int .i64 op, .int .i64 num, .string name, .slice ak kids.length ck] 138) = WB at *
      generalize wr.heap.size = H at *
      obtain ⟨g0, g1, g2, g3⟩ := hL
      cases hop : inI op 1 11 with
      | false =>
        have H1 : Hid (∀ W, _) := in_is op 1 11 false hop
        have HF : Hid (exprB ns = false) := HNo.out (nodeB_op hop)
        clear hop
        go_wp2
        go_big_quiet (first
          | (go_at_call 23; refine Calls.quiet_of_same (H1.out _)))
        go_wp2
        go_ret
        rw [HF.out]
        exact ⟨rfl, bel_drewN BCb.out nq⟩
      | true =>
        have H1 : Hid (∀ W, _) := in_is op 1 11 true hop
        have H2 : Hid (∀ W, _) := fun W => l04Kids_any op W
        by_cases hln : (kids.length : Int) = kidsN op
        · have hlb : (!decide ((kids.length : Int) = kidsN op)) = false := by simp [hln]
          have HLn : Hid ((kids.length : Int) = kidsN op) := hln
          have HOp : Hid (inI op 1 11 = true) := hop
          clear hop
          go_wp2
          go_big_quiet (first
            | (go_at_call 23; refine Calls.quiet_of_same (H1.out _))
            | (go_at_call 99; refine Calls.quiet_of_same (H2.out _)))
          have c0 : (WB.drewN nq).cell? ⟨H, 0, none⟩ = some (.int .i64 op) := g0
          have c1 : (WB.drewN nq).cell? ⟨H, 1, none⟩ = some (.int .i64 num) := g1
          have c2 : (WB.drewN nq).cell? ⟨H, 2, none⟩ = some (.string name) := g2
          have c3 : (WB.drewN nq).cell? ⟨H, 3, none⟩ = some (.slice ak kids.length ck) := g3
          have HIc : Hid (IRow (WB.drewN nq) (.slice ak kids.length ck) kids) := HIb.out.below (bel_drewN (Below.refl _ _) nq)
          have BC : Hid (Below w.heap.size w (WB.drewN nq)) := bel_drewN BCb.out nq
          have BC0 : Hid (Below w0.heap.size w0 (WB.drewN nq)) := bel_drewN BC0b.out nq
          clear g0 g1 g2 g3 HIb BCb BC0b hlb hln n0 n1 n2 n3
          generalize WB.drewN nq = WC at *
          clear H1 H2
          by_cases ho1 : op = 1
          · have ho2 : ¬ op = 2 := by omega
            cases hnb : inI num 0 99 with
            | false =>
              have HQ : Hid (∀ W, _) := in_is num 0 99 false hnb
              have HF : Hid (exprB ns = false) := HNo.out (nodeB_fields (by rw [fieldsB, if_pos ho1, hnb]; rfl))
              clear hnb
              go_wp2_with fail
              refine (HQ.out _).mono ?_
              rintro e wq ⟨rfl, hw⟩
              rw [hw]
              clear hw wq
              go_wp2
              go_ret
              rw [HF.out]
              exact ⟨rfl, BC.out⟩
            | true =>
              have HQ : Hid (∀ W, _) := in_is num 0 99 true hnb
              by_cases hnm : name = ⟨#[]⟩
              · have hne := beq_empty hnm
                have HFl : Hid (fieldsB ⟨op, num, name, kids⟩ = true) := by rw [Hid, fieldsB, if_pos ho1, hnb, if_neg ho2, decide_eq_true hnm]; rfl
                clear hnb hnm
                go_wp2_with fail
                refine (HQ.out _).mono ?_
                rintro e wq ⟨rfl, hw⟩
                rw [hw]
                clear hw wq
                go_wp2
                go_loop [5] (fun jv => ∃ j : Nat, jv = .int .i64 j ∧ j ≤ kids.length ∧ ∀ i (hi : i < kids.length), i < j → inI kids[i] 0 ((k : Int) - 1) = true) (fun jv => kids.length - (intOf jv).toNat)
                case atStart => exact ⟨0, rfl, Nat.zero_le _, fun _ _ h => by omega⟩
                case round =>
                  obtain ⟨j, rfl, hj, hall⟩ := hrel
                  have HAll : Hid (∀ i (hi : i < kids.length), i < j → inI kids[i] 0 ((k : Int) - 1) = true) := hall
                  clear hall
                  by_cases hjl : j < kids.length
                  · obtain ⟨bk, offk, rfl, hck⟩ := HIc.out.at hjl
                    have i1 : IntKind.i64.wrap ((k : Int) - 1) = (k : Int) - 1 := by rw [IntKind.wrap_i64]; omega
                    have i5 : (j : Int) < (kids.length : Int) := by omega
                    cases hkb : inI kids[j] 0 ((k : Int) - 1) with
                    | false =>
                      have HKi : Hid (∀ W, _) := in_is kids[j] 0 ((k : Int) - 1) false hkb
                      have HF : Hid (exprB ns = false) := HNo.out (nodeB_kid (x := ⟨op, num, name, kids⟩) hjl hkb)
                      clear hkb
                      go_wp2_with fail
                      refine (HKi.out _).mono ?_
                      rintro e wq ⟨rfl, hw⟩
                      rw [hw]
                      clear hw wq
                      go_wp2
                      go_ret
                      rw [HF.out]
                      exact ⟨rfl, BC.out⟩
                    | true =>
                      have HKi : Hid (∀ W, _) := in_is kids[j] 0 ((k : Int) - 1) true hkb
                      have HKt : Hid (inI kids[j] 0 ((k : Int) - 1) = true) := hkb
                      clear hkb
                      go_wp2_with fail
                      refine (HKi.out _).mono ?_
                      rintro e wq ⟨rfl, hw⟩
                      rw [hw]
                      clear hw wq
                      go_wp2
                      go_round
                      case rel =>
                        refine ⟨j + 1, by go_num, by omega, fun i hi hij => ?_⟩
                        by_cases e : i = j
                        · subst e; exact HKt.out
                        · exact HAll.out i hi (by omega)
                      case measure => simp [intOf]; omega
                  · have HY : Hid (nodesF 0 (ns.take (k + 1)) = true) := by
                      rw [Hid, HNx.out, HCh.out, Bool.true_and]
                      exact nodeB_yes (x := ⟨op, num, name, kids⟩) HOp.out HLn.out HFl.out (fun i hi => HAll.out i hi (by have hi' : i < kids.length := hi; omega))
                    have i5 : ¬ (j : Int) < (kids.length : Int) := by omega
                    go_wp2
                    go_roundw
                    case rel => exact ⟨k + 1, by go_num, by omega, HY.out, BC0.out⟩
                    case measure => simp [intOf]; omega
              · have hne := beq_full hnm
                have HF : Hid (exprB ns = false) := HNo.out (nodeB_fields (by rw [fieldsB, if_pos ho1, hnb, if_neg ho2, decide_eq_false hnm]; rfl))
                clear hnb hnm
                go_wp2_with fail
                refine (HQ.out _).mono ?_
                rintro e wq ⟨rfl, hw⟩
                rw [hw]
                clear hw wq
                go_wp2
                go_ret
                rw [HF.out]
                exact ⟨rfl, BC.out⟩
          · by_cases hnum : num = 0
            · by_cases ho2 : op = 2
              · cases hnb : nameB name with
                | false =>
                  have HQ : Hid (∀ W, _) := specVarName_is name false hnb hz7
                  have HF : Hid (exprB ns = false) := HNo.out (nodeB_fields (by rw [fieldsB, if_neg ho1, if_pos ho2, hnb, Bool.and_false]))
                  clear hnb
                  go_wp2_with fail
                  refine (HQ.out _).mono ?_
                  rintro e wq ⟨rfl, hw⟩
                  rw [hw]
                  clear hw wq
                  go_wp2
                  go_ret
                  rw [HF.out]
                  exact ⟨rfl, BC.out⟩
                | true =>
                  have HQ : Hid (∀ W, _) := specVarName_is name true hnb hz7
                  have HFl : Hid (fieldsB ⟨op, num, name, kids⟩ = true) := by rw [Hid, fieldsB, if_neg ho1, decide_eq_true hnum, if_pos ho2, hnb]; rfl
                  clear hnb
                  go_wp2_with fail
                  refine (HQ.out _).mono ?_
                  rintro e wq ⟨rfl, hw⟩
                  rw [hw]
                  clear hw wq
                  go_wp2
                  go_loop [5] (fun jv => ∃ j : Nat, jv = .int .i64 j ∧ j ≤ kids.length ∧ ∀ i (hi : i < kids.length), i < j → inI kids[i] 0 ((k : Int) - 1) = true) (fun jv => kids.length - (intOf jv).toNat)
                  case atStart => exact ⟨0, rfl, Nat.zero_le _, fun _ _ h => by omega⟩
                  case round =>
                    obtain ⟨j, rfl, hj, hall⟩ := hrel
                    have HAll : Hid (∀ i (hi : i < kids.length), i < j → inI kids[i] 0 ((k : Int) - 1) = true) := hall
                    clear hall
                    by_cases hjl : j < kids.length
                    · obtain ⟨bk, offk, rfl, hck⟩ := HIc.out.at hjl
                      have i1 : IntKind.i64.wrap ((k : Int) - 1) = (k : Int) - 1 := by rw [IntKind.wrap_i64]; omega
                      have i5 : (j : Int) < (kids.length : Int) := by omega
                      cases hkb : inI kids[j] 0 ((k : Int) - 1) with
                      | false =>
                        have HKi : Hid (∀ W, _) := in_is kids[j] 0 ((k : Int) - 1) false hkb
                        have HF : Hid (exprB ns = false) := HNo.out (nodeB_kid (x := ⟨op, num, name, kids⟩) hjl hkb)
                        clear hkb
                        go_wp2_with fail
                        refine (HKi.out _).mono ?_
                        rintro e wq ⟨rfl, hw⟩
                        rw [hw]
                        clear hw wq
                        go_wp2
                        go_ret
                        rw [HF.out]
                        exact ⟨rfl, BC.out⟩
                      | true =>
                        have HKi : Hid (∀ W, _) := in_is kids[j] 0 ((k : Int) - 1) true hkb
                        have HKt : Hid (inI kids[j] 0 ((k : Int) - 1) = true) := hkb
                        clear hkb
                        go_wp2_with fail
                        refine (HKi.out _).mono ?_
                        rintro e wq ⟨rfl, hw⟩
                        rw [hw]
                        clear hw wq
                        go_wp2
                        go_round
                        case rel =>
                          refine ⟨j + 1, by go_num, by omega, fun i hi hij => ?_⟩
                          by_cases e : i = j
                          · subst e; exact HKt.out
                          · exact HAll.out i hi (by omega)
                        case measure => simp [intOf]; omega
                    · have HY : Hid (nodesF 0 (ns.take (k + 1)) = true) := by
                        rw [Hid, HNx.out, HCh.out, Bool.true_and]
                        exact nodeB_yes (x := ⟨op, num, name, kids⟩) HOp.out HLn.out HFl.out (fun i hi => HAll.out i hi (by have hi' : i < kids.length := hi; omega))
                      have i5 : ¬ (j : Int) < (kids.length : Int) := by omega
                      go_wp2
                      go_roundw
                      case rel => exact ⟨k + 1, by go_num, by omega, HY.out, BC0.out⟩
                      case measure => simp [intOf]; omega
              · by_cases hnm : name = ⟨#[]⟩
                · have hne := beq_empty hnm
                  have HFl : Hid (fieldsB ⟨op, num, name, kids⟩ = true) := by rw [Hid, fieldsB, if_neg ho1, decide_eq_true hnum, if_neg ho2, decide_eq_true hnm]; rfl
                  clear hnm
                  go_wp2
                  go_loop [5] (fun jv => ∃ j : Nat, jv = .int .i64 j ∧ j ≤ kids.length ∧ ∀ i (hi : i < kids.length), i < j → inI kids[i] 0 ((k : Int) - 1) = true) (fun jv => kids.length - (intOf jv).toNat)
                  case atStart => exact ⟨0, rfl, Nat.zero_le _, fun _ _ h => by omega⟩
                  case round =>
                    obtain ⟨j, rfl, hj, hall⟩ := hrel
                    have HAll : Hid (∀ i (hi : i < kids.length), i < j → inI kids[i] 0 ((k : Int) - 1) = true) := hall
                    clear hall
                    by_cases hjl : j < kids.length
                    · obtain ⟨bk, offk, rfl, hck⟩ := HIc.out.at hjl
                      have i1 : IntKind.i64.wrap ((k : Int) - 1) = (k : Int) - 1 := by rw [IntKind.wrap_i64]; omega
                      have i5 : (j : Int) < (kids.length : Int) := by omega
                      cases hkb : inI kids[j] 0 ((k : Int) - 1) with
                      | false =>
                        have HKi : Hid (∀ W, _) := in_is kids[j] 0 ((k : Int) - 1) false hkb
                        have HF : Hid (exprB ns = false) := HNo.out (nodeB_kid (x := ⟨op, num, name, kids⟩) hjl hkb)
                        clear hkb
                        go_wp2_with fail
                        refine (HKi.out _).mono ?_
                        rintro e wq ⟨rfl, hw⟩
                        rw [hw]
                        clear hw wq
                        go_wp2
                        go_ret
                        rw [HF.out]
                        exact ⟨rfl, BC.out⟩
                      | true =>
                        have HKi : Hid (∀ W, _) := in_is kids[j] 0 ((k : Int) - 1) true hkb
                        have HKt : Hid (inI kids[j] 0 ((k : Int) - 1) = true) := hkb
                        clear hkb
                        go_wp2_with fail
                        refine (HKi.out _).mono ?_
                        rintro e wq ⟨rfl, hw⟩
                        rw [hw]
                        clear hw wq
                        go_wp2
                        go_round
                        case rel =>
                          refine ⟨j + 1, by go_num, by omega, fun i hi hij => ?_⟩
                          by_cases e : i = j
                          · subst e; exact HKt.out
                          · exact HAll.out i hi (by omega)
                        case measure => simp [intOf]; omega
                    · have HY : Hid (nodesF 0 (ns.take (k + 1)) = true) := by
                        rw [Hid, HNx.out, HCh.out, Bool.true_and]
                        exact nodeB_yes (x := ⟨op, num, name, kids⟩) HOp.out HLn.out HFl.out (fun i hi => HAll.out i hi (by have hi' : i < kids.length := hi; omega))
                      have i5 : ¬ (j : Int) < (kids.length : Int) := by omega
                      go_wp2
                      go_roundw
                      case rel => exact ⟨k + 1, by go_num, by omega, HY.out, BC0.out⟩
                      case measure => simp [intOf]; omega
                · have hne := beq_full hnm
                  have HF : Hid (exprB ns = false) := HNo.out (nodeB_fields (by rw [fieldsB, if_neg ho1, if_neg ho2, decide_eq_false hnm, Bool.and_false]))
                  clear hnm
                  go_wp2
                  go_ret
                  rw [HF.out]
                  exact ⟨rfl, BC.out⟩
            · have HF : Hid (exprB ns = false) := HNo.out (nodeB_fields (by rw [fieldsB, if_neg ho1, decide_eq_false hnum, Bool.false_and]))
              go_wp2
              go_ret
              rw [HF.out]
              exact ⟨rfl, BC.out⟩
        · have hlb : (!decide ((kids.length : Int) = kidsN op)) = true := by simp [hln]
          have HF : Hid (exprB ns = false) := HNo.out (nodeB_len hln)
          clear hop
          go_wp2
          go_big_quiet (first
            | (go_at_call 23; refine Calls.quiet_of_same (H1.out _))
            | (go_at_call 99; refine Calls.quiet_of_same (H2.out _)))
          go_wp2
          go_ret
          rw [HF.out]
          exact ⟨rfl, bel_drewN BCb.out nq⟩
    · obtain rfl : k = ns.length := by omega
      rw [List.take_of_length_le (Nat.le_refl _)] at HCh
      obtain ⟨bb, hbb⟩ : ∃ bb, inI (ns.length : Int) 1 20 = bb := ⟨_, rfl⟩
      have HE : Hid (exprB ns = bb) := by rw [Hid, exprB, HCh.out, Bool.true_and, hbb]
      have HQ : Hid (∀ W, _) := in_is (ns.length : Int) 1 20 bb hbb
      clear hbb
      have i4 : ¬ (ns.length : Int) < (ns.length : Int) := by omega
      go_wp2_with fail
      refine (HQ.out _).mono ?_
      rintro e wq ⟨rfl, hw⟩
      rw [hw]
      clear hw wq
      go_wp2
      go_ret
      rw [HE.out]
      exact ⟨rfl, HB.out⟩
theorem specExprOk_is (v : Value) (ns : List NodeD) (b : Bool) (hb : exprB ns = b) (w : World) (hin : NIn ns) (h : NRow w v ns) :
    Calls Tryz.prog 82 #[.agg #[v]] w fun e w' => e = .returned (.bool b) ∧ Below w.heap.size w w' := by
  rw [← hb]; exact specExprOk_any v ns w hin h

end Go.Proofs.YtofpoiccghpliaaGreatDoor
