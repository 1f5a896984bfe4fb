/- Lists written out in one piece, whose elements reach into blocks of their own (no program). -/
import Derived.Test.YtbjkfecailnelaaRG
namespace Go.Proofs.Ytbjkfecailnelaa
open Go.RowKit
set_option linter.unusedVariables false
section
variable {α : Type} {sz : Nat} {T : TypeId} {E : (Nat → Prop) → World → List Value → α → Prop} {w : World} {xs : List α}
theorem flat_sz {vss : List (List Value)} (hs : ∀ vs ∈ vss, vs.length = sz) : vss.flatten.length = vss.length * sz := by
  induction vss with
  | nil => simp
  | cons v vss ih =>
    rw [List.flatten_cons, List.length_append, ih (fun u hu => hs u (List.mem_cons_of_mem _ hu)), hs v (List.mem_cons_self ..), List.length_cons, Nat.succ_mul]
    omega
/-- Element i reaches into the blocks from B i on below B (i + 1). -/
theorem RowF.seq {a : Nat} (B : Nat → Nat) (vss : List (List Value)) (cs : Array Value) (hB : ∀ i j, i ≤ j → B i ≤ B j) (ha : a ≤ B 0) (hn : ∀ i, B i ≤ w.heap.size) (hl : vss.length = xs.length) (hs : ∀ vs ∈ vss, vs.length = sz) (hm : xs.length ≤ maxLen) (hE : StabF E) (hcs : cs.toList = vss.flatten) (h : ∀ i (h : i < vss.length) (h' : i < xs.length), E (Nw (B i) (B (i + 1))) w vss[i] xs[i]) :
    RowF sz T E (Nw a (w.heap.size + 1)) (.slice (some ⟨w.heap.size, 0, none⟩) xs.length xs.length) xs (w.alloc (.cells cs T)) := by
  have bal := (Below.refl w.heap.size w).alloc (Nat.le_refl _) (.cells cs T)
  have h0 := hn 0
  have hcz : cs.size = xs.length * sz := by rw [← Array.length_toList, hcs, flat_sz hs, hl]
  refine ⟨vss, fun i => Nw (B i) (B (i + 1)), hl, hs, ?_, ⟨fun k hk => ?_, fun k hk i hi => ?_, fun i k hk => ?_, fun i j k hne hi hj => ?_⟩, fun i h1 h2 => hE.ag _ _ _ _ _ (h i h1 h2) (Ag.below bal)⟩
  · have h1 := World.ownsRow_lit (base := 0) (e := T) (size := sz) w cs xs.length (Nat.zero_le _) hm hcz
    rw [hcs] at h1
    exact h1
  · cases hk
    show a ≤ w.heap.size ∧ w.heap.size < w.heap.size + 1
    omega
  · cases hk
    have h1 := hn (i + 1)
    have h2 : B i ≤ w.heap.size ∧ w.heap.size < B (i + 1) := hi
    omega
  · have h1 := hn (i + 1)
    have h2 := hB 0 i (Nat.zero_le _)
    exact ⟨by have := hk.1; omega, by have := hk.2; omega⟩
  · have h1 := hi.1
    have h2 := hi.2
    have h3 := hj.1
    have h4 := hj.2
    rcases Nat.lt_or_gt_of_ne hne with h5 | h5
    · have := hB (i + 1) j h5; omega
    · have := hB (j + 1) i h5; omega
/-- A list of one. -/
theorem RowF.one {a : Nat} {x : α} (vs : List Value) (cs : Array Value) (ha : a ≤ w.heap.size) (hs : vs.length = sz) (hE : StabF E) (hcs : cs.toList = vs) (h : E (Nw a w.heap.size) w vs x) :
    RowF sz T E (Nw a (w.heap.size + 1)) (.slice (some ⟨w.heap.size, 0, none⟩) 1 1) [x] (w.alloc (.cells cs T)) := by
  refine RowF.seq (xs := [x]) (fun i => if i = 0 then a else w.heap.size) [vs] cs (fun i j hij => ?_) (by simp) (fun i => ?_) rfl (fun u hu => by rw [List.mem_singleton.1 hu]; exact hs) (by simp [maxLen]) hE (by simpa using hcs) (fun i h1 h2 => ?_)
  · show (if i = 0 then a else w.heap.size) ≤ if j = 0 then a else w.heap.size
    split
    · split <;> omega
    · rw [if_neg (by omega)]; exact Nat.le_refl _
  · show (if i = 0 then a else w.heap.size) ≤ w.heap.size
    split
    · exact ha
    · exact Nat.le_refl _
  · obtain rfl : i = 0 := by simp at h1; omega
    exact h
end
/-- A node, a sym without a list of its own. -/
theorem NodeF.bare {F : Nat → Prop} {w : World} (x : NodeD) (hk : x.kids = []) : NodeF F w [.int .i64 x.op, .int .i64 x.num, .string x.name, .slice none 0 0] x := ⟨_, rfl, by rw [hk]; exact ⟨rfl, .inl ⟨rfl, rfl⟩⟩, fun k hk => by cases hk⟩
theorem SymF.bare {F : Nat → Prop} {w : World} (x : SymD) (hk : x.args = []) : SymF F w [.int .i64 x.kind, .string x.text, .slice none 0 0, .string x.bind] x := ⟨_, rfl, by rw [hk]; exact RowF.nil⟩
theorem ownZ_lit (w : World) (ks : List Int) (cs : Array Value) (hcs : cs.toList = zv ks) (hm : ks.length ≤ maxLen) : OwnZ w.heap.size (.slice (some ⟨w.heap.size, 0, none⟩) ks.length ks.length) ks (w.alloc (.cells cs 3)) := by
  have h1 := World.ownsRow_lit (base := w.heap.size) (e := 3) (size := 1) w cs ks.length (Nat.le_refl _) hm (by rw [← Array.length_toList, hcs]; simp [zv])
  rw [hcs] at h1
  exact h1
end Go.Proofs.Ytbjkfecailnelaa
