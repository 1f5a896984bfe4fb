/- At the verifier's thirteen texts, and at FnCallsOf's own: what that law asks of the plain grammars. -/
/- A copied grammar that is written into: what its rows are behind it. -/
/- A copied grammar that is written into in one of seven ways. -/
/- A drawn grammar, turned in one place; the contract of l06Any. -/
/- The verifier's drawn grammar and text, out of contracts on ReadSurface and Flatten. -/
import Derived.Test.YtllfmobjkppnaaaGreatF15P
import Derived.Test.YtllfmobjkppnaaaGreatSfG
import Derived.Test.YtllfmobjkppnaaaGreatFlZ
namespace Go.Proofs.YtllfmobjkppnaaaGreat
open Go.RowKit
set_option linter.unusedVariables false

def cfB (G : List RuleD) : Bool := cpB G && decide (grammarTot G ≤ 1000000) && G.all fun r => r.alts.all fun a => a.all fun y => !decide (y.kind = 3) || decide (0 ≤ ruleAtI G y.text)
noncomputable def all13c : Bool := texts11.all fun s => match parseB (cut11 s).1 with | some (ns, rs) => cfB (flatM ns rs) | none => false
theorem all13c_is : all13c = true := by kernel_rfl
theorem hG13c : ∀ s ∈ texts11, ∃ g, cfB g = true ∧ GrC (cut11 s).1 g := fun s h => by
  obtain ⟨ns, rs, hp, hg, hC⟩ := grC13 h
  have := List.all_eq_true.1 all13c_is s h
  rw [hp] at this
  exact ⟨_, this, hC⟩
theorem cf_of {G : List RuleD} (h : cfB G = true) : cpB G = true ∧ grammarTot G ≤ 1000000 ∧ ∀ r ∈ G, ∀ a ∈ r.alts, ∀ y ∈ a, y.kind = 3 → 0 ≤ ruleAtI G y.text := by
  unfold cfB at h
  simp only [Bool.and_eq_true, decide_eq_true_eq, List.all_eq_true, Bool.or_eq_true, Bool.not_eq_true', decide_eq_false_iff_not] at h
  exact ⟨h.1.1, h.1.2, fun r hr a ha y hy hk => (h.2 r hr a ha y hy).resolve_left (fun hn => hn hk)⟩
theorem mem_namesA {es : List (List SymD)} {s : ByteArray} (h : s ∈ namesA es) : ∃ a ∈ es, ∃ y ∈ a, y.kind = 3 ∧ y.text = s := by
  unfold namesA namesC at h
  obtain ⟨y, hy, e⟩ := List.mem_map.1 h
  obtain ⟨hy1, hy2⟩ := List.mem_filter.1 hy
  obtain ⟨a, ha, hya⟩ := List.mem_flatten.1 hy1
  exact ⟨a, ha, y, hya, of_decide_eq_true hy2, e⟩
/-- What a rule of such a grammar calls is a rule of it; ascending. -/
theorem calls_fit {G : List RuleD} (h : cfB G = true) (i : Nat) (hi : i < G.length) : AscS (callsB G (i : Int)) ∧ ∀ s ∈ callsB G (i : Int), 0 ≤ ruleAtI G s := by
  have e : callsB G (i : Int) = callsA [] G[i].alts := by
    rw [callsB, if_pos ⟨by omega, by omega⟩, Int.toNat_natCast, List.getD_eq_getElem?_getD, List.getElem?_eq_getElem hi]
    rfl
  rw [e]
  obtain ⟨h1, h2⟩ := callsA_asc G[i].alts [] List.Pairwise.nil
  refine ⟨h1, fun s hs => ?_⟩
  obtain ⟨a, ha, y, hy, hk, rfl⟩ := mem_namesA (((h2 s).1 hs).resolve_left (by simp))
  exact (cf_of h).2.2 _ (List.getElem_mem hi) a ha y hy hk
/-- A text whose surface is right and made plain within bounds. -/
theorem grC_of {s : ByteArray} (hsz : s.size ≤ 1048576) (h1 : goodS s = true) (h2 : goodY s = true) : ∃ ns rs, parseB s = some (ns, rs) ∧ GrC s (flatM ns rs) := by
  obtain ⟨ns, rs, g, hp, hI, hfo, hfl⟩ := goodS_of h1
  unfold goodY at h2
  rw [hp] at h2
  have hg : flatB ns rs = some (flatM ns rs) := by
    have h3 := hfl
    unfold flatB at h3 ⊢
    split at h3
    · cases h3
    · rename_i hx
      rw [if_neg hx]
      split at h3
      · rename_i hy2
        rw [if_pos hy2]
      · cases h3
  have hF := flatOk_of hI hfo h2
  have hr : readB s = some (ns, rs) := by
    unfold readB
    rw [hp]
    simp only [surfOkB, hfo, hg, Option.isSome_some, Bool.and_self, if_true]
  refine ⟨ns, rs, hp, ns, rs, fun W => ?_, fun A W nv rv hA hH => ?_⟩
  · refine (readSurface_of s W hsz (fun ns' rs' hp' B nv rv V hN hR => ?_)).mono ?_
    · rw [hp] at hp'
      cases hp'
      exact surfaceOk_of ns rs (formC_of hI) (flatC_of hF hg) B nv rv V hN hR
    · rintro e w' ⟨nv, rv, rfl, hb, hS⟩
      unfold SurfR at hS
      rw [hr] at hS
      exact ⟨nv, rv, _, rfl, Fresh.and (Fresh.imp (sNodes_fresh hS.1) (fun V h => sNs_of h)) (Fresh.imp (sRules_fresh hS.2) (fun V h => sRs_of h)), hb⟩
  · exact flatten_any A ns rs hI hfo hF nv rv W hA hH
/-- The law's own text. -/
def txt0 : ByteArray := ⟨#[83, 32, 45, 62, 32, 66, 32, 65, 32, 66, 32, 59, 32, 65, 32, 45, 62, 32, 59, 32, 66, 32, 45, 62, 32, 83, 32, 59]⟩
def twoN : List ByteArray := [⟨#[65]⟩, ⟨#[66]⟩]
def fit0 (G : List RuleD) : Bool := decide (grammarTot G ≤ 1000000) && decide ((callsB G 0).map (fun s => s.data.toList) = [[65], [66]])
noncomputable def ok0 : Bool := goodS txt0 && goodY txt0 && (match parseB txt0 with | some (ns, rs) => fit0 (flatM ns rs) | none => false)
theorem ok0_is : ok0 = true := by kernel_rfl
theorem map_two {l : List ByteArray} (h : l.map (fun s => s.data.toList) = [[65], [66]]) : l = twoN := by
  have hl : l.length = 2 := by simpa using congrArg List.length h
  obtain ⟨a, b, rfl⟩ : ∃ a b, l = [a, b] := by
    match l, hl with
    | [a, b], _ => exact ⟨a, b, rfl⟩
  simp only [List.map_cons, List.map_nil, List.cons.injEq, and_true] at h
  have e : ∀ (x : ByteArray) (l : List UInt8), x.data.toList = l → x = ⟨l.toArray⟩ := fun x l hx => by rw [← hx]
  rw [e a _ h.1, e b _ h.2]
  rfl
theorem gr0 : ∃ G, grammarTot G ≤ 1000000 ∧ callsB G 0 = twoN ∧ GrC txt0 G := by
  have h := ok0_is
  unfold ok0 at h
  rw [Bool.and_eq_true, Bool.and_eq_true] at h
  obtain ⟨ns, rs, hp, hC⟩ := grC_of (by decide) h.1.1 h.1.2
  have h2 := h.2
  rw [hp] at h2
  unfold fit0 at h2
  simp only [Bool.and_eq_true, decide_eq_true_eq] at h2
  exact ⟨_, h2.1, map_two h2.2, hC⟩

end Go.Proofs.YtllfmobjkppnaaaGreat

namespace Go.Proofs.YtllfmobjkppnaaaGreat
open Go.RowKit
set_option linter.unusedVariables false
section
variable {α : Type} {sz : Nat} {T : TypeId} {E E' : World → List Value → α → Prop} {B X lo hi : Nat} {v : Value} {xs : List α} {w : World}

/-- A row that lies in every world that has the blocks from lo to hi has its own there. -/
theorem inI_own (h : InI lo hi w (fun V => ∃ B X, RowI sz T E B X v xs V)) : ∀ k, v.ownBlock = some k → lo ≤ k ∧ k < hi := fun k hk => by
  obtain ⟨B, X, h0⟩ := h.here
  have hlt := (h0.lt k hk).2
  by_cases hb : lo ≤ k ∧ k < hi
  · exact hb
  · obtain ⟨B', X', h1⟩ := h.2 (putW w k (.stringIter ⟨#[]⟩ 0)) (by rw [putW_size]; exact h.1) (fun j hj hj' => putW_other w _ (fun e => hb (by omega)))
    obtain ⟨cur, hc⟩ := h1.type hk
    rw [putW_self w _ hlt] at hc
    cases hc

/-- One element of a row, and what it is when it is written into. -/
theorem rowI_turn (hE : ∀ W vs x, E W vs x → E' W vs x) (h : RowI sz T E B X v xs w) (i : Nat) (hi : i < xs.length) :
    ∃ (g cap lo hi' : Nat) (vs : List Value), v = .slice (some ⟨g, 0, none⟩) xs.length cap ∧ vs.length = sz ∧ (∀ j (hj : j < vs.length), w.cell? ⟨g, i * sz + j, none⟩ = some vs[j]) ∧ (∃ cur, w.heap[g]? = some (.cells cur T (0, 0))) ∧ InI lo hi' w (fun W => E W vs xs[i]) ∧ B ≤ lo ∧ hi' ≤ X ∧ (g < lo ∨ hi' ≤ g) ∧ B ≤ g ∧ g < w.heap.size ∧
      ∀ (w' : World) (vs' : List Value) (x' : α) (A' : Nat → Prop), FrA (fun k => k < B ∨ k = g ∨ (lo ≤ k ∧ k < hi')) w w' → (∀ k, A' k → k < B) →
        ((w'.heap[g]? = w.heap[g]? ∧ vs' = vs) ∨ ∃ j u, j < sz ∧ vs' = vs.set j u ∧ w'.heap[g]? = (w.setCell ⟨g, i * sz + j, none⟩ u).heap[g]?) →
        Held A' w' (fun V => E' V vs' x') → Held A' w' (fun V => RowC sz E' V v (xs.set i x')) := by
  obtain ⟨vss, cut, h1, h2, h3, h4, h5⟩ := h
  have hiv : i < vss.length := by omega
  rcases h3.2 with ⟨_, h0⟩ | ⟨g, cap, cur, rfl, hB, hc, hle, hm, hs, ht⟩
  · omega
  have hgl : g < w.heap.size := (Array.getElem?_eq_some_iff.1 hc).1
  have cells : ∀ a (ha : a < vss.length) j (hj : j < vss[a].length), w.cell? ⟨g, a * sz + j, none⟩ = some vss[a][j] := fun a ha j hj => by
    have e : vss.flatten[a * sz + j]? = some vss[a][j] := by
      have hl2 : ∀ (l : List (List Value)) (a : Nat) (ha : a < l.length) (j : Nat) (hj : j < l[a].length), (∀ vs ∈ l, vs.length = sz) → l.flatten[a * sz + j]? = some l[a][j] := by
        intro l
        induction l with
        | nil => intro a ha; cases ha
        | cons y ys ih =>
          intro a ha j hj hy
          have hy0 := hy y (by simp)
          cases a with
          | zero =>
            rw [List.flatten_cons, Nat.zero_mul, Nat.zero_add, List.getElem?_append_left (by simpa using hj)]
            simp
          | succ a =>
            have := ih a (by simpa using ha) j (by simpa using hj) (fun vs hv => hy vs (by simp [hv]))
            rw [List.flatten_cons, List.getElem?_append_right (by rw [hy0, Nat.succ_mul]; omega), hy0, show (a + 1) * sz + j - sz = a * sz + j by rw [Nat.succ_mul]; omega]
            simpa using this
      exact hl2 vss a ha j hj h2
    have := World.ownsRow.cells h3 (g := g) rfl _ _ e
    rwa [Addr.add_lit, Nat.zero_add] at this
  have hlen : vss[i].length = sz := h2 _ (List.getElem_mem hiv)
  obtain ⟨k1, k2, k3, k4⟩ := h4 i hiv hi
  refine ⟨g, cap, (cut i).1, (cut i).2, vss[i], rfl, hlen, fun j hj => cells i hiv j hj, ⟨cur, hc⟩, k1, k2, k3, k4 g rfl, hB, hgl, ?_⟩
  intro w' vs' x' A' hfr hA' hst hx V hV hbl
  have hgA : ¬ A' g := fun h => by have := hA' g h; omega
  have hVg : V.heap[g]? = w'.heap[g]? := hbl g (Nat.lt_of_lt_of_le hgl hfr.size) hgA
  have hVc : ∀ p, V.cell? ⟨g, p, none⟩ = w'.cell? ⟨g, p, none⟩ := fun p => World.cell?_of_block hVg
  refine ⟨some ⟨g, 0, none⟩, cap, by rw [List.length_set], fun h => (by cases h), fun _ => ⟨g, 0, rfl, Nat.lt_of_lt_of_le (Nat.lt_of_lt_of_le hgl hfr.size) hV, fun a ha => ?_⟩⟩
  rw [List.length_set] at ha
  have hav : a < vss.length := by omega
  by_cases e : a = i
  · subst e
    rw [List.getElem_set_self]
    rcases hst with ⟨hsame, rfl⟩ | ⟨j0, u, hj0, rfl, hset⟩
    · exact ⟨vss[a], hlen, fun j hj => by rw [Nat.zero_add, hVc, World.cell?_of_block (w := w) (w' := w') hsame]; exact cells a hav j hj, hx V hV hbl⟩
    · refine ⟨vss[a].set j0 u, by rw [List.length_set]; exact hlen, fun j hj => ?_, hx V hV hbl⟩
      rw [List.length_set] at hj
      rw [Nat.zero_add, hVc, World.cell?_of_block (w := w.setCell ⟨g, a * sz + j0, none⟩ u) (w' := w') hset]
      by_cases ej : j = j0
      · subst ej
        rw [List.getElem_set_self]
        exact World.cell?_setCell_same _ _ _ (cells a hav j (by simpa using hj))
      · rw [List.getElem_set_ne (fun h => ej h.symm), World.cell?_setCell_other _ _ _ _ (fun h => ej (by simp only [Addr.mk.injEq, true_and, and_true] at h; omega))]
        exact cells a hav j hj
  · rw [List.getElem_set_ne (fun h => e h.symm)]
    have hla : vss[a].length = sz := h2 _ (List.getElem_mem hav)
    refine ⟨vss[a], hla, fun j hj => ?_, ?_⟩
    · rw [Nat.zero_add, hVc]
      rcases hst with ⟨hsame, _⟩ | ⟨j0, u, hj0, _, hset⟩
      · rw [World.cell?_of_block (w := w) (w' := w') hsame]; exact cells a hav j hj
      · rw [World.cell?_of_block (w := w.setCell ⟨g, i * sz + j0, none⟩ u) (w' := w') hset, World.cell?_setCell_other _ _ _ _ (fun h => ?_)]
        · exact cells a hav j hj
        · simp only [Addr.mk.injEq, true_and, and_true] at h
          rw [hla] at hj
          rcases Nat.lt_or_gt_of_ne e with h1 | h1
          · have : (a + 1) * sz ≤ i * sz := Nat.mul_le_mul_right _ h1
            rw [Nat.succ_mul] at this
            omega
          · have : (i + 1) * sz ≤ a * sz := Nat.mul_le_mul_right _ h1
            rw [Nat.succ_mul] at this
            omega
    · obtain ⟨m1, m2, m3, m4⟩ := h4 a hav ha
      refine hE _ _ _ (m1.2 V (Nat.le_trans m1.1 (Nat.le_trans hfr.size hV)) (fun k hk1 hk2 => ?_))
      have hkw : k < w.heap.size := Nat.lt_of_lt_of_le hk2 m1.1
      rw [hbl k (Nat.lt_of_lt_of_le hkw hfr.size) (fun h => by have := hA' k h; omega)]
      refine hfr.block k hkw (fun h => ?_)
      rcases h with h | rfl | ⟨h, h'⟩
      · omega
      · have := m4 k rfl
        omega
      · rcases Nat.lt_or_gt_of_ne e with e1 | e1
        · have := h5 a i e1 hi
          omega
        · have := h5 i a e1 ha
          omega
end

/-- A block laid anew. -/
theorem putW_back {V w : World} {k : Nat} (hk : k < w.heap.size) (hs : w.heap.size ≤ V.heap.size) : ∃ o, w.heap[k]? = some o ∧ (putW V k o).heap[k]? = w.heap[k]? ∧ (putW V k o).heap.size = V.heap.size ∧ ∀ j, j ≠ k → (putW V k o).heap[j]? = V.heap[j]? := by
  obtain ⟨o, ho⟩ : ∃ o, w.heap[k]? = some o := ⟨_, Array.getElem?_eq_getElem hk⟩
  exact ⟨o, ho, by rw [putW_self V o (Nat.lt_of_lt_of_le hk hs), ho], putW_size _ _ _, fun j hj => putW_other V o hj⟩
/-- A row whose blocks lie from B on, where only blocks below B turned. -/
theorem rowI_low {α : Type} {sz : Nat} {T : TypeId} {E : World → List Value → α → Prop} {B X : Nat} {v : Value} {xs : List α} {w w' : World} (h : RowI sz T E B X v xs w) (hs : w'.heap.size = w.heap.size) (hk : ∀ k, B ≤ k → w'.heap[k]? = w.heap[k]?) : RowC sz E w' v xs := by
  obtain ⟨vss, cut, h1, h2, h3, h4, h5⟩ := h
  refine RowO.row (sz := sz) (T := T) (E := E) (B := B) ⟨vss, h1, h2, ⟨h3.1, ?_⟩, fun i hi hi' => ?_⟩
  · rcases h3.2 with hn | ⟨g, cap, cur, rfl, hB, hc, r⟩
    · exact .inl hn
    · exact .inr ⟨g, cap, cur, rfl, hB, (hk g hB).trans hc, r⟩
  · obtain ⟨a, b, c, d⟩ := h4 i hi hi'
    exact a.2 w' (by have := a.1; omega) (fun k k1 k2 => hk k (Nat.le_trans b k1))
/-- A rule whose name is another. -/
theorem ruleI_name {lo hi : Nat} {w w' : World} {nm s : ByteArray} {pv av : Value} {r : RuleD} {A' : Nat → Prop} (h : InI lo hi w (fun W => RuleI W [.string nm, pv, av] r)) (hs : w.heap.size ≤ w'.heap.size) (hk : ∀ k, lo ≤ k → k < hi → w'.heap[k]? = w.heap[k]?) (hA : ∀ k, A' k → k < lo) :
    Held A' w' (fun V => RuleE V [.string s, pv, av] { r with name := s }) := by
  refine ((h.go (Nat.le_trans h.1 hs) hk).held (fun k hk => .inl (hA k hk))).imp fun V hV => ?_
  obtain ⟨pv', av', e, h1, h2⟩ := hV.rule
  simp only [List.cons.injEq, Value.string.injEq, and_true] at e
  obtain ⟨_, rfl, rfl⟩ := e
  exact ⟨_, _, rfl, h1, h2⟩
/-- A rule without alternatives. -/
theorem ruleI_none {lo hi : Nat} {w w' : World} {nm : ByteArray} {pv av : Value} {r : RuleD} {A' : Nat → Prop} {a : Addr} {cap : Nat} (h : InI lo hi w (fun W => RuleI W [.string nm, pv, av] r)) (hs : w.heap.size ≤ w'.heap.size) (hk : ∀ k, lo ≤ k → k < hi → w'.heap[k]? = w.heap[k]?) (hA : ∀ k, A' k → k < lo) :
    Held A' w' (fun V => RuleE V [.string nm, pv, .slice (some a) 0 cap] { r with alts := [] }) := by
  refine ((h.go (Nat.le_trans h.1 hs) hk).held (fun k hk => .inl (hA k hk))).imp fun V hV => ?_
  obtain ⟨pv', av', e, h1, h2⟩ := hV.rule
  simp only [List.cons.injEq, Value.string.injEq, and_true] at e
  obtain ⟨rfl, rfl, rfl⟩ := e
  exact ⟨_, _, rfl, h1, ⟨some a, cap, rfl, fun h => (by cases h), fun h => by simp at h⟩⟩
/-- A rule with other Params, told anew: the old ones' block may have turned. -/
theorem ruleI_params {lo hi : Nat} {w w' : World} {nm : ByteArray} {pv av pv' : Value} {r : RuleD} {ps' : List ByteArray} {A' : Nat → Prop} (h : InI lo hi w (fun W => RuleI W [.string nm, pv, av] r)) (hs : w.heap.size ≤ w'.heap.size) (hk : ∀ k, lo ≤ k → k < hi → pv.ownBlock ≠ some k → w'.heap[k]? = w.heap[k]?) (hA : ∀ k, A' k → k < lo) (hp : Held A' w' (fun V => SRow V pv' ps')) :
    Held A' w' (fun V => RuleE V [.string nm, pv', av] { r with params := ps' }) := by
  intro V hV hbl
  obtain ⟨V0, hV0s, hV0, hV0k⟩ : ∃ V0 : World, V0.heap.size = V.heap.size ∧ (∀ k, lo ≤ k → k < hi → V0.heap[k]? = w.heap[k]?) ∧ ∀ k, pv.ownBlock ≠ some k → V.heap[k]? = V0.heap[k]? := by
    cases hpv : pv.ownBlock with
    | none => exact ⟨V, rfl, fun k h1 h2 => (hbl k (by have := h.1; omega) (fun ha => by have := hA k ha; omega)).trans (hk k h1 h2 (by rw [hpv]; simp)), fun k _ => rfl⟩
    | some kp =>
      by_cases hkp : kp < w.heap.size
      · obtain ⟨o, ho, e1, e2, e3⟩ := putW_back (V := V) hkp (Nat.le_trans hs hV)
        refine ⟨putW V kp o, e2, fun k h1 h2 => ?_, fun k hne => (e3 k (fun e => hne (by rw [e]))).symm⟩
        by_cases e : k = kp
        · rw [e]; exact e1
        · rw [e3 k e]
          exact (hbl k (by have := h.1; omega) (fun ha => by have := hA k ha; omega)).trans (hk k h1 h2 (by rw [hpv]; exact fun h => e (Option.some.inj h).symm))
      · refine ⟨V, rfl, fun k h1 h2 => (hbl k (by have := h.1; omega) (fun ha => by have := hA k ha; omega)).trans (hk k h1 h2 (by rw [hpv]; intro h3; have := Option.some.inj h3; have := h.1; omega)), fun k _ => rfl⟩
  obtain ⟨pv2, av2, B0, B1, X, e, h1, h2, h3⟩ := h.2 V0 (by have := h.1; omega) hV0
  simp only [List.cons.injEq, Value.string.injEq, and_true] at e
  obtain ⟨rfl, rfl, rfl⟩ := e
  refine ⟨_, _, rfl, hp V hV hbl, RowC.imp (rowI_low h3 hV0s.symm (fun k hkB => hV0k k (fun e => by have := h2 k e; omega))) (fun vs x hx => hx.alt)⟩
/-- A rule, one of whose alternatives is told anew. -/
theorem ruleI_alts {lo hi : Nat} {w w' : World} {nm : ByteArray} {pv av sv' : Value} {r : RuleD} {A' : Nat → Prop} {j : Nat} (hj : j < r.alts.length) (a' : List SymD) (h : InI lo hi w (fun W => RuleI W [.string nm, pv, av] r)) (hs : w.heap.size ≤ w'.heap.size) (hA : ∀ k, A' k → k < lo)
    (ka ks : Nat) (hka : av.ownBlock = some ka) (sv : Value) (hsv : w.cell? ⟨ka, j, none⟩ = some sv) (hks : sv.ownBlock = some ks ∨ (sv.ownBlock = none ∧ ks = ka)) (hkl : ks < w.heap.size)
    (hk : ∀ k, lo ≤ k → k < hi → k ≠ ka → k ≠ ks → w'.heap[k]? = w.heap[k]?)
    (hst : (w'.heap[ka]? = w.heap[ka]? ∧ sv' = sv) ∨ w'.heap[ka]? = (w.setCell ⟨ka, j, none⟩ sv').heap[ka]?)
    (hx : Held A' w' (fun V => RowC 4 SymE V sv' a')) :
    Held A' w' (fun V => RuleE V [.string nm, pv, av] { r with alts := r.alts.set j a' }) := by
  intro V hV hbl
  have hka' : ka < w.heap.size := by
    obtain ⟨pv2, av2, B0, B1, X, e, h1, h2, h3⟩ := h.here
    simp only [List.cons.injEq, Value.string.injEq, and_true] at e
    obtain ⟨rfl, rfl, rfl⟩ := e
    exact (h3.lt ka hka).2
  have hin : ∀ k, lo ≤ k → k < hi → k ≠ ka → k ≠ ks → V.heap[k]? = w.heap[k]? := fun k h1 h2 h3 h4 => (hbl k (by have := h.1; omega) (fun ha => by have := hA k ha; omega)).trans (hk k h1 h2 h3 h4)
  obtain ⟨o1, _, e1, e2, e3⟩ := putW_back (V := V) hka' (Nat.le_trans hs hV)
  obtain ⟨o2, _, f1, f2, f3⟩ := putW_back (V := putW V ka o1) hkl (by rw [e2]; exact Nat.le_trans hs hV)
  -- the world with both blocks as they were
  obtain ⟨V0, hV0⟩ : ∃ V0, V0 = putW (putW V ka o1) ks o2 := ⟨_, rfl⟩
  rw [← hV0] at f1 f2 f3
  have s0 : V0.heap.size = V.heap.size := f2.trans e2
  have b0 : ∀ k, k ≠ ka → k ≠ ks → V0.heap[k]? = V.heap[k]? := fun k h1 h2 => (f3 k h2).trans (e3 k h1)
  have ba : V0.heap[ka]? = w.heap[ka]? := by
    by_cases e : ka = ks
    · rw [e]; exact f1
    · exact (f3 ka e).trans e1
  obtain ⟨pv2, av2, B0, B1, X, e, h1, h2, h3⟩ := h.2 V0 (by have := h.1; omega) (fun k k1 k2 => by
    by_cases ek : k = ks
    · rw [ek]; exact f1
    · by_cases ek2 : k = ka
      · rw [ek2]; exact ba
      · exact (b0 k ek2 ek).trans (hin k k1 k2 ek2 ek))
  simp only [List.cons.injEq, Value.string.injEq, and_true] at e
  obtain ⟨rfl, rfl, rfl⟩ := e
  obtain ⟨g, cap, lo', hi', vs, ev, hvl, hvc, ⟨cur, hcur⟩, hInI, hB1, hX1, hout, hBg, hgl, hturn⟩ := rowI_turn (E' := AltE) (fun W vs x hx => AltI.alt hx) h3 j hj
  have eg : g = ka := by
    rw [ev] at hka
    exact Option.some.inj hka
  subst eg
  match vs, hvl with
  | [sv0], _ =>
  have esv : sv0 = sv := by
    have := hvc 0 (by simp)
    rw [Nat.mul_one, Nat.add_zero, World.cell?_of_block (w := w) (w' := V0) ba, hsv] at this
    exact (Option.some.inj this).symm
  subst esv
  have hAlt : InI lo' hi' V0 (fun W => ∃ B X, RowI 4 48 SymE B X sv0 r.alts[j] W) := hInI.imp fun W hW => by
    obtain ⟨sv2, B, X, e, hR⟩ := hW
    simp only [List.cons.injEq, and_true] at e
    subst e
    exact ⟨B, X, hR⟩
  have hks2 : ks = g ∨ (lo' ≤ ks ∧ ks < hi') := by
    rcases hks with h | ⟨_, h⟩
    · exact .inr (inI_own hAlt ks h)
    · exact .inl h
  have htyp : ∀ k, pv.ownBlock = some k → k ≠ g ∧ k ≠ ks := fun k hk => by
    have hkB := h2 k hk
    refine ⟨by omega, fun e => ?_⟩
    rcases hks2 with e2 | ⟨e2, _⟩
    · omega
    · omega
  have hp : SRow V pv r.params := by
    obtain ⟨a, c, rfl, hc, hh⟩ := h1.row
    refine ⟨a, c, rfl, hc, fun h0 => ?_⟩
    obtain ⟨b, off, rfl, hlt, hcell⟩ := hh h0
    have hbk : ∀ x, V.cell? ⟨b, x, none⟩ = V0.cell? ⟨b, x, none⟩ := fun x => by
      have hne : b ≠ g ∧ b ≠ ks := by
        rcases h1.2 with ⟨h', _⟩ | ⟨gg, cc, cu, h', _⟩
        · cases h'
        · cases h'
          exact htyp b rfl
      exact (World.cell?_of_block (b0 b hne.1 hne.2)).symm
    exact ⟨b, off, rfl, by omega, fun i hi => (hbk _).trans (hcell i hi)⟩
  have hA2 := (hturn V [sv'] a' (fun _ => False) ⟨by omega, fun k hk hn => by
    refine (b0 k (fun e => hn (.inr (.inl e))) (fun e => hn ?_)).symm
    subst e
    rcases hks2 with e2 | e2
    · exact .inr (.inl e2)
    · exact .inr (.inr e2)⟩ (fun k hk => hk.elim) (by
      have hVg : V.heap[g]? = w'.heap[g]? := hbl g (Nat.lt_of_lt_of_le hka' hs) (fun ha => ?_)
      · rcases hst with ⟨h1, rfl⟩ | h1
        · exact .inl ⟨hVg.trans (h1.trans ba.symm), rfl⟩
        · refine .inr ⟨0, sv', by omega, rfl, ?_⟩
          rw [hVg, h1, Nat.mul_one, Nat.add_zero]
          obtain ⟨c0, hc0⟩ : ∃ c0, w.heap[g]? = some (.cells c0 45 (0, 0)) := ⟨cur, ba.symm.trans hcur⟩
          rw [setCell_self _ hc0, setCell_self _ (ba.trans hc0)]
      · have h0 := hA g ha
        have := (inI_own (h.imp fun W hW => by
          obtain ⟨pv3, av3, B0, B1, X, e, _, _, h3⟩ := hW
          simp only [List.cons.injEq, and_true] at e
          obtain ⟨_, _, rfl⟩ := e
          exact ⟨B1, X, h3⟩ : InI lo hi w (fun W => ∃ B X, RowI 1 45 AltI B X av r.alts W)) g hka).1
        omega) (fun V2 hV2 hbl2 => ⟨_, rfl, hx V2 (Nat.le_trans hV hV2) (fun k hk hn => (hbl2 k (Nat.lt_of_lt_of_le hk hV) (fun h => h.elim)).trans (hbl k hk hn))⟩)).here
  exact ⟨_, _, rfl, hp, hA2⟩
/-- Told of every world that has the blocks from lo to hi, but one. -/
def OnA (lo hi ka : Nat) (w : World) (P : World → Prop) : Prop := hi ≤ w.heap.size ∧ ∀ W : World, w.heap.size ≤ W.heap.size → (∀ k, lo ≤ k → k < hi → k ≠ ka → W.heap[k]? = w.heap[k]?) → P W
theorem altI_at {lo hi : Nat} {w : World} {nm : ByteArray} {pv av sv : Value} {r : RuleD} {j ka : Nat} (hj : j < r.alts.length) (h : InI lo hi w (fun W => RuleI W [.string nm, pv, av] r)) (hka : av.ownBlock = some ka) (hsv : w.cell? ⟨ka, j, none⟩ = some sv) :
    OnA lo hi ka w (fun W => AltI W [sv] r.alts[j]) ∧ sv.ownBlock ≠ some ka := by
  have hka' : ka < w.heap.size := by
    obtain ⟨pv2, av2, B0, B1, X, e, h1, h2, h3⟩ := h.here
    simp only [List.cons.injEq, Value.string.injEq, and_true] at e
    obtain ⟨rfl, rfl, rfl⟩ := e
    exact (h3.lt ka hka).2
  have key : ∀ V1 : World, w.heap.size ≤ V1.heap.size → (∀ k, lo ≤ k → k < hi → k ≠ ka → V1.heap[k]? = w.heap[k]?) → AltI V1 [sv] r.alts[j] ∧ sv.ownBlock ≠ some ka := fun V1 hV1 hin => by
    obtain ⟨o1, _, e1, e2, e3⟩ := putW_back (V := V1) hka' hV1
    obtain ⟨pv2, av2, B0, B1, X, e, h1, h2, h3⟩ := h.2 (putW V1 ka o1) (by have := h.1; omega) (fun k k1 k2 => by
      by_cases ek : k = ka
      · rw [ek]; exact e1
      · exact (e3 k ek).trans (hin k k1 k2 ek))
    simp only [List.cons.injEq, Value.string.injEq, and_true] at e
    obtain ⟨rfl, rfl, rfl⟩ := e
    obtain ⟨g, cap, lo', hi', vs, ev, hvl, hvc, _, hInI, hB1, hX1, hout, hBg, hgl, _⟩ := rowI_turn (E' := AltE) (fun W vs x hx => AltI.alt hx) h3 j hj
    have eg : g = ka := by
      rw [ev] at hka
      exact Option.some.inj hka
    subst eg
    match vs, hvl with
    | [sv0], _ =>
    have esv : sv0 = sv := by
      have := hvc 0 (by simp)
      rw [Nat.mul_one, Nat.add_zero, World.cell?_of_block (w := w) (w' := putW V1 g o1) e1, hsv] at this
      exact (Option.some.inj this).symm
    subst esv
    refine ⟨hInI.2 V1 (by have := hInI.1; omega) (fun k k1 k2 => (e3 k (by omega)).symm), fun e => ?_⟩
    have hAlt : InI lo' hi' (putW V1 g o1) (fun W => ∃ B X, RowI 4 48 SymE B X sv0 r.alts[j] W) := hInI.imp fun W hW => by
      obtain ⟨sv2, B, X, e, hR⟩ := hW
      simp only [List.cons.injEq, and_true] at e
      subst e
      exact ⟨B, X, hR⟩
    have := inI_own hAlt g e
    omega
  exact ⟨⟨h.1, fun V h1 h2 => (key V h1 h2).1⟩, (key w (Nat.le_refl _) (fun _ _ _ _ => rfl)).2⟩
/-- Syms of a copy: the first is bound otherwise. -/
theorem altI_bind {lo hi ka : Nat} {w w' : World} {sv : Value} {a : List SymD} {A' : Nat → Prop} (ha : 0 < a.length) (s : ByteArray) (h : OnA lo hi ka w (fun W => AltI W [sv] a)) (hs : w.heap.size ≤ w'.heap.size) (hA : ∀ k, A' k → k < lo)
    (ks : Nat) (hks : sv.ownBlock = some ks) (hk0 : lo ≤ ks ∧ ks < hi) (hk : ∀ k, lo ≤ k → k < hi → k ≠ ka → k ≠ ks → w'.heap[k]? = w.heap[k]?) (hst : w'.heap[ks]? = (w.setCell ⟨ks, 3, none⟩ (.string s)).heap[ks]?) :
    Held A' w' (fun V => RowC 4 SymE V sv (a.set 0 { a[0] with bind := s })) := by
  intro V hV hbl
  have hR : OnA lo hi ka w (fun W => ∃ B X, RowI 4 48 SymE B X sv a W) := ⟨h.1, fun W g1 g2 => by
    obtain ⟨sv2, B, X, e, hR⟩ := h.2 W g1 g2
    simp only [List.cons.injEq, and_true] at e
    subst e
    exact ⟨B, X, hR⟩⟩
  have hkl : ks < w.heap.size := by have := hR.1; omega
  obtain ⟨o1, _, e1, e2, e3⟩ := putW_back (V := V) hkl (Nat.le_trans hs hV)
  obtain ⟨V1, hV1⟩ : ∃ V1, V1 = putW V ks o1 := ⟨_, rfl⟩
  rw [← hV1] at e1 e2 e3
  obtain ⟨B, X, h1⟩ := hR.2 V1 (by omega) (fun k k1 k2 k3 => by
    by_cases e : k = ks
    · rw [e]; exact e1
    · rw [e3 k e]
      exact (hbl k (by have := hR.1; omega) (fun h => by have := hA k h; omega)).trans (hk k k1 k2 k3 e))
  obtain ⟨g, cap, lo', hi', vs, ev, hvl, hvc, ⟨cur, hcur⟩, hInI, hB1, hX1, hout, hBg, hgl, hturn⟩ := rowI_turn (E' := SymE) (fun W vs x hx => hx) h1 0 ha
  have eg : g = ks := by
    rw [ev] at hks
    exact Option.some.inj hks
  subst eg
  have hVg : V.heap[g]? = w'.heap[g]? := hbl g (Nat.lt_of_lt_of_le hkl hs) (fun h => by have := hA g h; omega)
  refine (hturn V (vs.set 3 (.string s)) { a[0] with bind := s } (fun _ => False) ⟨by omega, fun k hk hn => (e3 k (fun e => hn (.inr (.inl e)))).symm⟩ (fun k hk => hk.elim) (.inr ⟨3, .string s, by omega, rfl, ?_⟩) (fun V2 hV2 hbl2 => ?_)).here
  · rw [hVg, hst, Nat.zero_mul, Nat.zero_add]
    obtain ⟨c0, hc0⟩ : ∃ c0, w.heap[g]? = some (.cells c0 48 (0, 0)) := ⟨cur, e1.symm.trans hcur⟩
    rw [setCell_self _ hc0, setCell_self _ (e1.trans hc0)]
  · obtain ⟨r0, e, hr⟩ := hInI.2 V2 (by have := hInI.1; omega) (fun k k1 k2 => by
      rw [hbl2 k (by have := hInI.1; omega) (fun h => h.elim), e3 k (by omega)])
    refine ⟨r0, ?_, hr⟩
    rw [e]
    rfl
/-- Syms of a copy, and one more. -/
theorem altI_more {lo hi ka : Nat} {w w' : World} {sv sv' : Value} {a : List SymD} {A' : Nat → Prop} (y : SymD) (vy : List Value) (h : OnA lo hi ka w (fun W => AltI W [sv] a)) (hs : w.heap.size ≤ w'.heap.size) (hA : ∀ k, A' k → k < lo)
    (hso : ∀ k, sv.ownBlock = some k → lo ≤ k ∧ k < hi ∧ k ≠ ka) (hk : ∀ k, lo ≤ k → k < hi → k ≠ ka → sv.ownBlock ≠ some k → w'.heap[k]? = w.heap[k]?) (g cap base : Nat) (hsv' : sv' = .slice (some ⟨g, 0, none⟩) (a.length + 1) cap) (hgA : ¬ A' g) (hvy : vy.length = 4)
    (cs : List Value) (ho : w.ownsRow base 48 4 sv a.length cs) (ho' : w'.ownsRow base 48 4 sv' (a.length + 1) (cs ++ vy)) (hy : Held A' w' (fun V => SymE V vy y)) :
    Held A' w' (fun V => RowC 4 SymE V sv' (a ++ [y])) := by
  intro V hV hbl
  have hR : OnA lo hi ka w (fun W => ∃ B X, RowI 4 48 SymE B X sv a W) := ⟨h.1, fun W g1 g2 => by
    obtain ⟨sv2, B, X, e, hR⟩ := h.2 W g1 g2
    simp only [List.cons.injEq, and_true] at e
    subst e
    exact ⟨B, X, hR⟩⟩
  have hgl : g < w'.heap.size := (World.ownsRow.lt ho' g (by rw [hsv']; rfl)).2
  have hVc : ∀ p, V.cell? ⟨g, p, none⟩ = w'.cell? ⟨g, p, none⟩ := fun p => World.cell?_of_block (hbl g hgl hgA)
  have hnew : ∀ p u, (cs ++ vy)[p]? = some u → V.cell? ⟨g, p, none⟩ = some u := fun p u hu => by
    have := World.ownsRow.cells ho' (g := g) (by rw [hsv']; rfl) p u hu
    rw [Addr.add_lit, Nat.zero_add] at this
    exact (hVc p).trans this
  have hcl := ho.1
  -- the world with the old row as it was
  obtain ⟨V1, s1, hin, hot⟩ : ∃ V1 : World, V1.heap.size = V.heap.size ∧ (∀ k, lo ≤ k → k < hi → k ≠ ka → V1.heap[k]? = w.heap[k]?) ∧ ∀ k, sv.ownBlock ≠ some k → V1.heap[k]? = V.heap[k]? := by
    cases hsv : sv.ownBlock with
    | none => exact ⟨V, rfl, fun k k1 k2 k3 => (hbl k (by have := hR.1; omega) (fun h => by have := hA k h; omega)).trans (hk k k1 k2 k3 (by rw [hsv]; simp)), fun k _ => rfl⟩
    | some ks =>
      have hk0 := hso ks hsv
      obtain ⟨o1, _, e1, e2, e3⟩ := putW_back (V := V) (w := w) (k := ks) (by have := hR.1; omega) (Nat.le_trans hs hV)
      refine ⟨putW V ks o1, e2, fun k k1 k2 k3 => ?_, fun k hne => e3 k (fun e => hne (by rw [e]))⟩
      by_cases e : k = ks
      · rw [e]; exact e1
      · rw [e3 k e]
        exact (hbl k (by have := hR.1; omega) (fun h => by have := hA k h; omega)).trans (hk k k1 k2 k3 (by rw [hsv]; exact fun h => e (Option.some.inj h).symm))
  obtain ⟨B, X, vss, cut, h1, h2, h3, h4, h5⟩ := hR.2 V1 (by omega) hin
  have hcs : cs = vss.flatten := by
    rcases ho.2 with ⟨e, h0⟩ | ⟨g0, cap0, cur0, e, _, hc0, _, _, _, ht0⟩
    · have l1 : cs.length = 0 := by rw [ho.1, h0]
      have l2 : vss.flatten.length = 0 := by rw [h3.1, h0]
      rw [List.length_eq_zero_iff.1 l1, List.length_eq_zero_iff.1 l2]
    · rcases h3.2 with ⟨e', _⟩ | ⟨g1, cap1, cur1, e', _, hc1, _, _, _, ht1⟩
      · rw [e] at e'; cases e'
      · rw [e] at e'
        cases e'
        have hk0 := hso g0 (by rw [e]; rfl)
        rw [hin g0 hk0.1 hk0.2.1 hk0.2.2, hc0] at hc1
        cases hc1
        rw [← ht0, ← ht1]
  refine ⟨some ⟨g, 0, none⟩, cap, by rw [hsv', List.length_append]; rfl, fun h => (by cases h), fun _ => ⟨g, 0, rfl, Nat.lt_of_lt_of_le hgl hV, fun l hl => ?_⟩⟩
  by_cases hla : l < a.length
  · have hlv : l < vss.length := by omega
    rw [List.getElem_append_left hla]
    have hlen : vss[l].length = 4 := h2 _ (List.getElem_mem hlv)
    refine ⟨vss[l], hlen, fun j hj => ?_, ?_⟩
    · rw [Nat.zero_add]
      refine hnew _ _ ?_
      have hf := flat_at 4 vss h2 l j (by omega) hj
      rw [← hcs] at hf
      rw [List.getElem?_append_left (by rcases List.getElem?_eq_some_iff.1 hf with ⟨h, _⟩; exact h)]
      exact hf
    · obtain ⟨m1, m2, m3, m4⟩ := h4 l hlv hla
      refine m1.2 V (by have := m1.1; omega) (fun k k1 k2 => (hot k (fun e => ?_)).symm)
      have := m4 k e
      omega
  · have hl2 : l = a.length := by rw [List.length_append] at hl; simp at hl; omega
    subst hl2
    rw [List.getElem_append_right (Nat.le_refl _)]
    simp only [Nat.sub_self, List.getElem_cons_zero]
    refine ⟨vy, hvy, fun j hj => ?_, hy V hV hbl⟩
    rw [Nat.zero_add]
    refine hnew _ _ ?_
    rw [List.getElem?_append_right (by omega), hcl, show a.length * 4 + j - a.length * 4 = j by omega, List.getElem?_eq_getElem hj]

end Go.Proofs.YtllfmobjkppnaaaGreat

namespace Go.Proofs.YtllfmobjkppnaaaGreat
open Go.RowKit
set_option linter.unusedVariables false

/-- What turned: the blocks told of alone. -/
def Turn (w w' : World) (p : Nat → Prop) : Prop := w.heap.size ≤ w'.heap.size ∧ ∀ k, k < w.heap.size → ¬ p k → w'.heap[k]? = w.heap[k]?
structure AyI (B X : Nat) (G : List RuleD) (i j : Nat) (hi : i < G.length) (hj : j < G[i].alts.length) (go cap ka capa : Nat) (pv sv : Value) (w : World) : Prop where
  c0 : w.cell? ⟨go, i * 3, none⟩ = some (.string G[i].name)
  c1 : w.cell? ⟨go, i * 3 + 1, none⟩ = some pv
  c2 : w.cell? ⟨go, i * 3 + 2, none⟩ = some (.slice (some ⟨ka, 0, none⟩) G[i].alts.length capa)
  ca : w.cell? ⟨ka, j, none⟩ = some sv
  tg : ∃ cur, w.heap[go]? = some (.cells cur 42 (0, 0))
  ta : ∃ cur, w.heap[ka]? = some (.cells cur 45 (0, 0))
  bg : B ≤ go
  gc : G.length ≤ cap
  ba : B ≤ ka
  pvo : OwnB B pv G[i].params w
  svo : ∃ cs, w.ownsRow B 48 4 sv G[i].alts[j].length cs
  name : ∀ (w' : World) (s : ByteArray), Turn w w' (fun k => k = go) → w'.heap[go]? = (w.setCell ⟨go, i * 3, none⟩ (.string s)).heap[go]? → Held (fun k => k < B) w' (fun V => RowC 3 RuleE V (.slice (some ⟨go, 0, none⟩) G.length cap) (G.set i { G[i] with name := s }))
  params : ∀ (w' : World) (pv' : Value) (ps' : List ByteArray), Turn w w' (fun k => k = go ∨ pv.ownBlock = some k) → w'.heap[go]? = (w.setCell ⟨go, i * 3 + 1, none⟩ pv').heap[go]? → Held (fun k => k < B) w' (fun V => SRow V pv' ps') → Held (fun k => k < B) w' (fun V => RowC 3 RuleE V (.slice (some ⟨go, 0, none⟩) G.length cap) (G.set i { G[i] with params := ps' }))
  noAlts : ∀ (w' : World), Turn w w' (fun k => k = go) → w'.heap[go]? = (w.setCell ⟨go, i * 3 + 2, none⟩ (.slice (some ⟨ka, 0, none⟩) 0 capa)).heap[go]? → Held (fun k => k < B) w' (fun V => RowC 3 RuleE V (.slice (some ⟨go, 0, none⟩) G.length cap) (G.set i { G[i] with alts := [] }))
  more : ∀ (w' : World) (y : SymD) (vy : List Value) (b g' cap' : Nat) (cs : List Value), Turn w w' (fun k => k = ka ∨ sv.ownBlock = some k) → w'.heap[ka]? = (w.setCell ⟨ka, j, none⟩ (.slice (some ⟨g', 0, none⟩) (G[i].alts[j].length + 1) cap')).heap[ka]? → B ≤ g' → vy.length = 4 → w.ownsRow b 48 4 sv G[i].alts[j].length cs → w'.ownsRow b 48 4 (.slice (some ⟨g', 0, none⟩) (G[i].alts[j].length + 1) cap') (G[i].alts[j].length + 1) (cs ++ vy) → Held (fun k => k < B) w' (fun V => SymE V vy y) →
    Held (fun k => k < B) w' (fun V => RowC 3 RuleE V (.slice (some ⟨go, 0, none⟩) G.length cap) (G.set i { G[i] with alts := G[i].alts.set j (G[i].alts[j] ++ [y]) }))
  bind : ∀ (w' : World) (s : ByteArray) (ks : Nat) (h0 : 0 < G[i].alts[j].length), sv.ownBlock = some ks → Turn w w' (fun k => k = ks) → w'.heap[ks]? = (w.setCell ⟨ks, 3, none⟩ (.string s)).heap[ks]? → Held (fun k => k < B) w' (fun V => RowC 3 RuleE V (.slice (some ⟨go, 0, none⟩) G.length cap) (G.set i { G[i] with alts := G[i].alts.set j (G[i].alts[j].set 0 { G[i].alts[j][0] with bind := s }) }))
  same : ∀ (w' : World) (p : Nat → Prop), (∀ k, p k → X ≤ k ∧ k ≠ go) → Turn w w' p → Held (fun k => k < B) w' (fun V => RowC 3 RuleE V (.slice (some ⟨go, 0, none⟩) G.length cap) G)

set_option maxHeartbeats 1600000 in
theorem ayI_of {B X : Nat} {o : Value} {G : List RuleD} {w : World} (hR : RowI 3 42 RuleI B X o G w) (hX : X ≤ w.heap.size) {i : Nat} (hi : i < G.length) {j : Nat} (hj : j < G[i].alts.length) :
    ∃ go cap ka capa pv sv, o = .slice (some ⟨go, 0, none⟩) G.length cap ∧ AyI B X G i j hi hj go cap ka capa pv sv w := by
  obtain ⟨go, cap, lo, hi', vs, rfl, hvl, hvc, hcur, hInI, hBlo, hhiX, hout, hBg, hgl, hturn⟩ := rowI_turn (E' := RuleE) (fun W vs x hx => RuleI.rule hx) hR i hi
  obtain ⟨pv, av, B0, B1, Xa, rfl, hpv, hpB, hav⟩ := hInI.here
  obtain ⟨ka, capa, loa, hia, vsa, rfl, hval, hvac, hcura, hInA, hBa, hXa, houta, hBka, hkal, hturna⟩ := rowI_turn (E' := AltE) (fun W vs x hx => AltI.alt hx) hav j hj
  obtain ⟨sv, B2, X2, rfl, hsv⟩ := hInA.here
  have hka := inI_own (hInI.imp fun W hW => by
    obtain ⟨pv3, av3, B0, B1, X, e, _, _, h3⟩ := hW
    simp only [List.cons.injEq, and_true] at e
    obtain ⟨_, _, rfl⟩ := e
    exact ⟨B1, X, h3⟩ : InI lo hi' w (fun W => ∃ B X, RowI 1 45 AltI B X (.slice (some ⟨ka, 0, none⟩) G[i].alts.length capa) G[i].alts W)) ka rfl
  -- the params' own block, and the syms', lie where the rule's blocks do
  have hpl : ∀ k, pv.ownBlock = some k → lo ≤ k ∧ k < hi' := fun k hk => by
    have hlt := (World.ownsRow.lt hpv k hk).2
    by_cases hb : lo ≤ k ∧ k < hi'
    · exact hb
    · obtain ⟨pv3, av3, B0', B1', X', e, h1, _, _⟩ := hInI.2 (putW w k (.stringIter ⟨#[]⟩ 0)) (by rw [putW_size]; exact hInI.1) (fun j hj hj' => putW_other w _ (fun e => hb (by omega)))
      simp only [List.cons.injEq, and_true] at e
      obtain ⟨_, rfl, _⟩ := e
      rcases h1.2 with ⟨e2, _⟩ | ⟨gg, cc, cu, e2, _, hc, _⟩
      · rw [e2] at hk; cases hk
      · rw [e2] at hk
        cases hk
        rw [putW_self w _ hlt] at hc
        cases hc
  have hAlt : InI loa hia w (fun W => ∃ B X, RowI 4 48 SymE B X sv G[i].alts[j] W) := hInA.imp fun W hW => by
    obtain ⟨sv2, B, X, e, hR⟩ := hW
    simp only [List.cons.injEq, and_true] at e
    subst e
    exact ⟨B, X, hR⟩
  have hsl : ∀ k, sv.ownBlock = some k → lo ≤ k ∧ k < hi' := fun k hk => by
    have hlt := (hsv.lt k hk).2
    have hkla := inI_own hAlt k hk
    by_cases hb : lo ≤ k ∧ k < hi'
    · exact hb
    · obtain ⟨pv3, av3, B0', B1', X', e, _, _, h3⟩ := hInI.2 (putW w k (.stringIter ⟨#[]⟩ 0)) (by rw [putW_size]; exact hInI.1) (fun j hj hj' => putW_other w _ (fun e => hb (by omega)))
      simp only [List.cons.injEq, and_true] at e
      obtain ⟨_, _, rfl⟩ := e
      obtain ⟨g2, cap2, lo2, hi2, vs2, e2, hl2, hc2, _, hI2, _⟩ := rowI_turn (E' := AltE) (fun W vs x hx => AltI.alt hx) h3 j hj
      cases e2
      obtain ⟨sv2, B3, X3, rfl, hR3⟩ := hI2.here
      have hne : ka ≠ k := fun e => by omega
      have e3 := hc2 0 (by simp)
      have e4 := hvac 0 (by simp)
      rw [World.cell?_of_block (w := w) (w' := putW w k (.stringIter ⟨#[]⟩ 0)) (putW_other w _ hne), e4] at e3
      have e5 := Option.some.inj e3
      simp only [List.getElem_cons_zero] at e5
      subst e5
      obtain ⟨cur, hc⟩ := hR3.type hk
      rw [putW_self w _ hlt] at hc
      cases hc
  obtain ⟨hOn, hska⟩ := altI_at hj hInI rfl (show w.cell? ⟨ka, j, none⟩ = some sv by have := hvac 0 (by simp); rwa [Nat.mul_one, Nat.add_zero] at this)
  have hgo : ∀ {w' : World} {p : Nat → Prop}, Turn w w' p → (∀ k, p k → k = go ∨ (lo ≤ k ∧ k < hi')) → FrA (fun k => k < B ∨ k = go ∨ (lo ≤ k ∧ k < hi')) w w' := fun hT hp => ⟨hT.1, fun k hk hn => hT.2 k hk (fun h => hn (.inr (hp k h)))⟩
  refine ⟨go, cap, ka, capa, pv, sv, rfl, ⟨hvc 0 (by simp), hvc 1 (by simp), hvc 2 (by simp), ?_, hcur, hcura, hBg, ?_, by omega, ?_, ?_, ?_, ?_, ?_, ?_, ?_, ?_⟩⟩
  · have := hvac 0 (by simp)
    rwa [Nat.mul_one, Nat.add_zero] at this
  · obtain ⟨cs, ho⟩ := hR.own
    rcases ho.2 with ⟨e, h0⟩ | ⟨gg, cc, cu, e, _, _, hcap, _⟩
    · cases e
    · cases e
      exact hcap
  · rcases hpv.2 with ⟨e, h0⟩ | ⟨gg, cc, cu, e, hb, r⟩
    · exact ⟨hpv.1, .inl ⟨e, h0⟩⟩
    · have := hpl gg (by rw [e]; rfl)
      exact ⟨hpv.1, .inr ⟨gg, cc, cu, e, by omega, r⟩⟩
  · obtain ⟨cs, ho⟩ := hsv.own
    rcases ho.2 with ⟨e, h0⟩ | ⟨gg, cc, cu, e, hb, r⟩
    · exact ⟨cs, ho.1, .inl ⟨e, h0⟩⟩
    · have := hsl gg (by rw [e]; rfl)
      exact ⟨cs, ho.1, .inr ⟨gg, cc, cu, e, by omega, r⟩⟩
  · intro w' s hT hst
    refine hturn w' [.string s, pv, .slice (some ⟨ka, 0, none⟩) G[i].alts.length capa] _ _ (hgo hT (fun k hk => .inl hk)) (fun k hk => hk) (.inr ⟨0, .string s, by omega, rfl, hst⟩) (ruleI_name hInI hT.1 (fun k k1 k2 => hT.2 k (by have := hInI.1; omega) (fun e => by omega)) (fun k hk => by omega))
  · intro w' pv' ps' hT hst hp
    refine hturn w' [.string G[i].name, pv', .slice (some ⟨ka, 0, none⟩) G[i].alts.length capa] _ _ (hgo hT (fun k hk => hk.imp id (hpl k))) (fun k hk => hk) (.inr ⟨1, pv', by omega, rfl, hst⟩) (ruleI_params hInI hT.1 (fun k k1 k2 hne => hT.2 k (by have := hInI.1; omega) (fun e => e.elim (fun e => by omega) hne)) (fun k hk => by omega) hp)
  · intro w' hT hst
    refine hturn w' [.string G[i].name, pv, .slice (some ⟨ka, 0, none⟩) 0 capa] _ _ (hgo hT (fun k hk => .inl hk)) (fun k hk => hk) (.inr ⟨2, .slice (some ⟨ka, 0, none⟩) 0 capa, by omega, rfl, hst⟩) (ruleI_none hInI hT.1 (fun k k1 k2 => hT.2 k (by have := hInI.1; omega) (fun e => by omega)) (fun k hk => by omega))
  · intro w' y vy b g' cap' cs hT hst hg' hvy ho ho' hy
    have hx := altI_more (A' := fun k => k < B) y vy hOn hT.1 (fun k hk => by omega) (fun k hk => ⟨(hsl k hk).1, (hsl k hk).2, fun e => hska (by rw [← e]; exact hk)⟩) (fun k k1 k2 k3 hne => hT.2 k (by have := hInI.1; omega) (fun e => e.elim k3 hne)) g' cap' b rfl (by omega) hvy cs ho ho' hy
    have hsg : w'.heap[go]? = w.heap[go]? := hT.2 go hgl (fun e => by
      rcases e with e | e
      · omega
      · have := hsl go e
        omega)
    refine hturn w' _ _ _ (hgo hT (fun k hk => .inr (hk.elim (fun e => by omega) (hsl k)))) (fun k hk => hk) (.inl ⟨hsg, rfl⟩) ?_
    cases hsb : sv.ownBlock with
    | none => exact ruleI_alts hj _ hInI hT.1 (fun k hk => by omega) ka ka rfl sv (by have := hvac 0 (by simp); rwa [Nat.mul_one, Nat.add_zero] at this) (.inr ⟨hsb, rfl⟩) hkal (fun k k1 k2 hne _ => hT.2 k (by have := hInI.1; omega) (fun e => e.elim (fun e => hne e) (fun e => by rw [hsb] at e; cases e))) (.inr hst) hx
    | some ks => exact ruleI_alts hj _ hInI hT.1 (fun k hk => by omega) ka ks rfl sv (by have := hvac 0 (by simp); rwa [Nat.mul_one, Nat.add_zero] at this) (.inl hsb) (by have := hsv.lt ks hsb; omega) (fun k k1 k2 hne hne2 => hT.2 k (by have := hInI.1; omega) (fun e => e.elim (fun e => hne e) (fun e => by rw [hsb] at e; exact hne2 (Option.some.inj e).symm))) (.inr hst) hx
  · intro w' s ks h0 hks hT hst
    have hx := altI_bind (A' := fun k => k < B) h0 s hOn hT.1 (fun k hk => by omega) ks hks (hsl ks hks) (fun k k1 k2 _ hne => hT.2 k (by have := hInI.1; omega) hne) hst
    have hk1 := hsl ks hks
    have hk2 : ka ≠ ks := fun e => hska (by rw [e]; exact hks)
    have hsg : w'.heap[go]? = w.heap[go]? := hT.2 go hgl (fun e => by omega)
    refine hturn w' _ _ _ (hgo hT (fun k hk => .inr (by omega))) (fun k hk => hk) (.inl ⟨hsg, rfl⟩) ?_
    exact ruleI_alts hj _ hInI hT.1 (fun k hk => by omega) ka ks rfl sv (by have := hvac 0 (by simp); rwa [Nat.mul_one, Nat.add_zero] at this) (.inl hks) (by have := hsv.lt ks hks; omega) (fun k k1 k2 hne hne2 => hT.2 k (by have := hInI.1; omega) hne2) (.inl ⟨hT.2 ka hkal hk2, rfl⟩) hx
  · intro w' p hp hT V hV hbl
    have hR2 : RowI 3 42 RuleI B X (.slice (some ⟨go, 0, none⟩) G.length cap) G V := hR.go (by have := hT.1; omega) (fun k hk => by
      obtain rfl : go = k := Option.some.inj hk
      exact (hbl go (Nat.lt_of_lt_of_le hgl hT.1) (fun h => by omega)).trans (hT.2 go hgl (fun h => (hp go h).2 rfl))) (fun k k1 k2 _ => (hbl k (by have := hT.1; omega) (fun h => by omega)).trans (hT.2 k (by omega) (fun h => by have := (hp k h).1; omega)))
    exact RowC.imp hR2.rowC (fun vs x hx => hx.rule)

theorem own_far {w : World} {b : Nat} {e : TypeId} {s n : Nat} {v : Value} {cs : List Value} (h : w.ownsRow b e s v n cs) {k : Nat} {c : Array Value} {T : TypeId} {fr : Nat × Nat} (hk : w.heap[k]? = some (.cells c T fr)) (hne : T ≠ e) : v.ownBlock ≠ some k := fun hv => by
  rcases h.2 with ⟨rfl, _⟩ | ⟨g, cap, cur, rfl, _, hc, _⟩
  · cases hv
  · cases hv
    rw [hc] at hk
    cases hk
    exact hne rfl
theorem own_move {w w' : World} {b : Nat} {e : TypeId} {s n : Nat} {v : Value} {cs : List Value} (h : w.ownsRow b e s v n cs) (hk : ∀ k, v.ownBlock = some k → w'.heap[k]? = w.heap[k]?) : w'.ownsRow b e s v n cs := by
  refine ⟨h.1, ?_⟩
  rcases h.2 with hn | ⟨g, cap, cur, rfl, hB, hc, r⟩
  · exact .inl hn
  · exact .inr ⟨g, cap, cur, rfl, hB, (hk g rfl).trans hc, r⟩
section
variable {B X : Nat} {G : List RuleD} {i j : Nat} {hi : i < G.length} {hj : j < G[i].alts.length} {go cap ka capa : Nat} {pv sv : Value} {w w7 w8 : World}
/-- A sym more, stored. -/
theorem AyI.stored (h : AyI B X G i j hi hj go cap ka capa pv sv w) (hB : B ≤ w.heap.size) (hb : Below w.heap.size w w7) {cs vy : List Value} {y : SymD} {g8 cap8 : Nat} (hos : w.ownsRow B 48 4 sv G[i].alts[j].length cs) (hown : w8.ownsRow B 48 4 (.slice (some ⟨g8, 0, none⟩) (G[i].alts[j].length + 1) cap8) (G[i].alts[j].length + 1) (cs ++ vy)) (hgr : w7.grownBy w8 sv.ownBlock) (hvy : vy.length = 4) (hy : Fresh w.heap.size w7 (fun V => SymE V vy y)) :
    Held (fun k => k < B) (w8.setCell ⟨ka, j, none⟩ (.slice (some ⟨g8, 0, none⟩) (G[i].alts[j].length + 1) cap8)) (fun V => RowC 3 RuleE V (.slice (some ⟨go, 0, none⟩) G.length cap) (G.set i { G[i] with alts := G[i].alts.set j (G[i].alts[j] ++ [y]) })) ∧
    (∀ (b0 : Nat) (w0 : World), Below b0 w0 w → b0 ≤ B → Below b0 w0 (w8.setCell ⟨ka, j, none⟩ (.slice (some ⟨g8, 0, none⟩) (G[i].alts[j].length + 1) cap8))) ∧
    ∀ k, k < w.heap.size → k ≠ ka → sv.ownBlock ≠ some k → (w8.setCell ⟨ka, j, none⟩ (.slice (some ⟨g8, 0, none⟩) (G[i].alts[j].length + 1) cap8)).heap[k]? = w.heap[k]? := by
  obtain ⟨cua, hcua⟩ := h.ta
  have nka : sv.ownBlock ≠ some ka := own_far hos hcua (by decide)
  have hkl : ka < w.heap.size := (Array.getElem?_eq_some_iff.1 hcua).1
  have h8 : ∀ k, k < w.heap.size → sv.ownBlock ≠ some k → w8.heap[k]? = w.heap[k]? := fun k hk hne => (hgr.block k (Nat.lt_of_lt_of_le hk hb.size) (fun e => hne e.symm)).trans (hb.block k hk)
  have hg8 := World.ownsRow.lt hown g8 rfl
  have nga : g8 ≠ ka := fun e => own_far hown ((h8 ka hkl nka).trans hcua) (by decide) (by rw [← e]; rfl)
  have hs8 : w.heap.size ≤ w8.heap.size := Nat.le_trans hb.size hgr.size
  have hsz : (w8.setCell ⟨ka, j, none⟩ (.slice (some ⟨g8, 0, none⟩) (G[i].alts[j].length + 1) cap8)).heap.size = w8.heap.size := by simp [World.setCell]
  have hot : ∀ k, k < w.heap.size → k ≠ ka → sv.ownBlock ≠ some k → (w8.setCell ⟨ka, j, none⟩ (.slice (some ⟨g8, 0, none⟩) (G[i].alts[j].length + 1) cap8)).heap[k]? = w.heap[k]? := fun k hk h1 h2 => (setCell_other _ h1).trans (h8 k hk h2)
  refine ⟨h.more _ y vy B g8 cap8 cs ⟨by rw [hsz]; exact hs8, fun k hk hn => hot k hk (fun e => hn (.inl e)) (fun e => hn (.inr e))⟩ (by simp [World.setCell, Array.getElem?_modify, h8 ka hkl nka]) hg8.1 hvy hos (own_move hown (fun k hk => ?_)) ?_, fun b0 w0 hb0 hle => ?_, hot⟩
  · obtain rfl : g8 = k := Option.some.inj hk
    exact setCell_other _ nga
  · intro V hV hbl
    have hs7 : w7.heap.size ≤ (w8.setCell ⟨ka, j, none⟩ (.slice (some ⟨g8, 0, none⟩) (G[i].alts[j].length + 1) cap8)).heap.size := by rw [hsz]; exact hgr.size
    refine hy V (Nat.le_trans hs7 hV) (fun k k1 k2 => ?_)
    rw [hbl k (Nat.lt_of_lt_of_le k2 hs7) (by omega), setCell_other _ (by omega)]
    refine hgr.block k k2 (fun e => ?_)
    have := World.ownsRow.lt hos k e.symm
    omega
  · have hbw : b0 ≤ w.heap.size := Nat.le_trans hle hB
    have hb7 : Below b0 w0 w7 := hb0.trans (hb.mono hbw)
    exact (hb7.grown hgr (Nat.le_trans hbw hb.size) (fun k hk => Nat.le_trans hle (World.ownsRow.lt hos k hk).1)).setCell (show b0 ≤ ka by have := h.ba; omega) _
/-- Other Params, stored. -/
theorem AyI.paramed (h : AyI B X G i j hi hj go cap ka capa pv sv w) (hB : B ≤ w.heap.size) (hb : Below w.heap.size w w7) {ps' : List ByteArray} {pv' : Value} (hown : OwnB B pv' ps' w8) (hgr : w7.grownBy w8 pv.ownBlock) :
    Held (fun k => k < B) (w8.setCell ⟨go, i * 3 + 1, none⟩ pv') (fun V => RowC 3 RuleE V (.slice (some ⟨go, 0, none⟩) G.length cap) (G.set i { G[i] with params := ps' })) ∧
    (∀ (b0 : Nat) (w0 : World), Below b0 w0 w → b0 ≤ B → Below b0 w0 (w8.setCell ⟨go, i * 3 + 1, none⟩ pv')) ∧
    ∀ k, k < w.heap.size → k ≠ go → pv.ownBlock ≠ some k → (w8.setCell ⟨go, i * 3 + 1, none⟩ pv').heap[k]? = w.heap[k]? := by
  obtain ⟨cug, hcug⟩ := h.tg
  have hos := h.pvo
  have nkg : pv.ownBlock ≠ some go := own_far hos hcug (by decide)
  have hkl : go < w.heap.size := (Array.getElem?_eq_some_iff.1 hcug).1
  have h8 : ∀ k, k < w.heap.size → pv.ownBlock ≠ some k → w8.heap[k]? = w.heap[k]? := fun k hk hne => (hgr.block k (Nat.lt_of_lt_of_le hk hb.size) (fun e => hne e.symm)).trans (hb.block k hk)
  have hs8 : w.heap.size ≤ w8.heap.size := Nat.le_trans hb.size hgr.size
  have hsz : (w8.setCell ⟨go, i * 3 + 1, none⟩ pv').heap.size = w8.heap.size := by simp [World.setCell]
  have hot : ∀ k, k < w.heap.size → k ≠ go → pv.ownBlock ≠ some k → (w8.setCell ⟨go, i * 3 + 1, none⟩ pv').heap[k]? = w.heap[k]? := fun k hk h1 h2 => (setCell_other _ h1).trans (h8 k hk h2)
  refine ⟨h.params _ pv' ps' ⟨by rw [hsz]; exact hs8, fun k hk hn => hot k hk (fun e => hn (.inl e)) (fun e => hn (.inr e))⟩ (by simp [World.setCell, Array.getElem?_modify, h8 go hkl nkg]) ?_, fun b0 w0 hb0 hle => ?_, hot⟩
  · intro V hV hbl
    refine OwnB.row (B := B) (own_move hown (fun k hk => ?_))
    have hkk := World.ownsRow.lt hown k hk
    rw [hbl k (by rw [hsz]; exact hkk.2) (by omega)]
    exact setCell_other _ (fun e => own_far hown ((h8 go hkl nkg).trans hcug) (by decide) (by rw [← e]; exact hk))
  · have hbw : b0 ≤ w.heap.size := Nat.le_trans hle hB
    have hb7 : Below b0 w0 w7 := hb0.trans (hb.mono hbw)
    exact (hb7.grown hgr (Nat.le_trans hbw hb.size) (fun k hk => Nat.le_trans hle (World.ownsRow.lt hos k hk).1)).setCell (show b0 ≤ go by have := h.bg; omega) _
end
/-- A list without its first. -/
theorem rowC_rest {α : Type} {sz : Nat} {E : World → List Value → α → Prop} {w : World} {b n cap : Nat} {x : α} {xs : List α} (h : RowC sz E w (.slice (some ⟨b, 0, none⟩) n cap) (x :: xs)) : RowC sz E w (.slice (some ⟨b, sz, none⟩) xs.length (cap - 1)) xs := by
  obtain ⟨a, c, e, hc, hh⟩ := h
  obtain ⟨b', off, e2, hlt, hcell⟩ := hh (by simp)
  cases e
  cases e2
  refine ⟨_, _, rfl, fun h => (by cases h), fun _ => ⟨b, sz, rfl, hlt, fun i hi => ?_⟩⟩
  obtain ⟨vs, h1, h2, h3⟩ := hcell (i + 1) (by simpa using hi)
  exact ⟨vs, h1, fun j hj => by have := h2 j hj; rwa [Nat.zero_add, Nat.succ_mul, Nat.add_comm (i * sz) sz] at this, by simpa using h3⟩

end Go.Proofs.YtllfmobjkppnaaaGreat

namespace Go.Proofs.YtllfmobjkppnaaaGreat
open Go.RowKit
set_option linter.unusedVariables false

/-- A grammar, turned in one place. -/
inductive AyOut (G : List RuleD) : List RuleD → Prop
  | same : AyOut G G
  | name (i : Nat) (hi : i < G.length) (s : ByteArray) (hs : s.size ≤ 7) : AyOut G (G.set i { G[i] with name := s })
  | params (i : Nat) (hi : i < G.length) (s : ByteArray) (hs : s.size ≤ 7) : AyOut G (G.set i { G[i] with params := G[i].params ++ [s] })
  | noAlts (i : Nat) (hi : i < G.length) : AyOut G (G.set i { G[i] with alts := [] })
  | kind (i j : Nat) (hi : i < G.length) (hj : j < G[i].alts.length) (z : Nat) (hz : z < 6) : AyOut G (G.set i { G[i] with alts := G[i].alts.set j (G[i].alts[j] ++ [⟨z, ⟨#[120]⟩, [], em⟩]) })
  | cond (i j : Nat) (hi : i < G.length) (hj : j < G[i].alts.length) (s : ByteArray) (hs : s.size ≤ 7) : AyOut G (G.set i { G[i] with alts := G[i].alts.set j (G[i].alts[j] ++ [⟨4, em, [varE s], em⟩]) })
  | bind (i j : Nat) (hi : i < G.length) (hj : j < G[i].alts.length) (h0 : 0 < G[i].alts[j].length) (s : ByteArray) (hs : s.size ≤ 7) : AyOut G (G.set i { G[i] with alts := G[i].alts.set j (G[i].alts[j].set 0 { G[i].alts[j][0] with bind := s }) })
  | rest : AyOut G (G.drop 1)

def AnyC (P : List RuleD → Prop) : Prop := ∀ (W : World) (v : Value) (n g : Nat) (w : World), n ≤ 1000000000000 → CodeRow W v n → Cur W v n g w →
    Calls Tryz.prog 21 #[.pointer (some ⟨g, 0, none⟩)] w fun e w' => ∃ (G G' : List RuleD) (o : Value), P G ∧ AyOut G G' ∧ e = .returned (.agg #[o]) ∧ Held (fun k => k < w.heap.size) w' (fun V => RowC 3 RuleE V o G') ∧ Went W v n g w w'
theorem AyOut.len {G G' : List RuleD} (h : AyOut G G') : G'.length ≤ G.length := by
  cases h <;> simp

end Go.Proofs.YtllfmobjkppnaaaGreat

namespace Go.Proofs.YtllfmobjkppnaaaGreat
open Go.RowKit
set_option linter.unusedVariables false

noncomputable def letters13 : Bool := texts11.all fun s => decide (0 < (cut11 s).2.size ∧ (cut11 s).2.size ≤ 200)
theorem letters13_is : letters13 = true := by kernel_rfl
theorem letters_in {s : ByteArray} (h : s ∈ texts11) : 0 < (cut11 s).2.size ∧ (cut11 s).2.size ≤ 200 := by
  have := List.all_eq_true.1 letters13_is s h
  simpa using this

/-- The answer's box, stored at the end. -/
theorem box_end {W : World} {v : Value} {n g s1 : Nat} {w w5 : World} {T : TypeId} {P : World → Prop} (u : Value) (hW : Cur W v n g w) (W5 : Went W v n g (w.alloc (.cells #[.slice none 0 0] T)) w5) (hsz : w.heap.size < s1) (H5 : Held (fun k => k < s1) w5 P) :
    w5.cell? ⟨w.heap.size, 0, none⟩ = some (.slice none 0 0) ∧ w5.frozen? ⟨w.heap.size, 0, none⟩ = false ∧ Held (fun k => k < w.heap.size) (w5.setCell ⟨w.heap.size, 0, none⟩ u) P ∧ Went W v n g w (w5.setCell ⟨w.heap.size, 0, none⟩ u) ∧ (w5.setCell ⟨w.heap.size, 0, none⟩ u).cell? ⟨w.heap.size, 0, none⟩ = some u := by
  have hgw := hW.lt
  have X5 : w5.heap[w.heap.size]? = some (.cells #[.slice none 0 0] T (0, 0)) := by
    rw [W5.2.block _ (by simp) (fun e => by have := Option.some.inj e; omega)]
    exact heap_alloc_new _ _
  have h5 : w.heap.size < w5.heap.size := (Array.getElem?_eq_some_iff.1 X5).1
  have hBW : W.heap.size ≤ w.heap.size := hW.1.size
  have s6 : (w5.setCell ⟨w.heap.size, 0, none⟩ u).heap.size = w5.heap.size := by simp [World.setCell]
  refine ⟨run_cell (j := 0) X5 rfl, run_frozen X5, (H5.fr (FrA.set (A := fun k => k < s1) _ hsz)).away (fun k _ hk => Nat.lt_trans hk hsz), ⟨Cur.moved W5.1 (W5.1.1.setCell hBW _) (setCell_other _ (by omega)), ⟨W5.2.os, W5.2.tape, W5.2.output, by rw [s6]; omega, fun k hk hne => ?_⟩⟩, run_cell (j := 0) (setCell_self (j := 0) u X5) rfl⟩
  rw [setCell_other _ (by omega), W5.2.block k (by simp; omega) hne]
  exact ((Below.refl w.heap.size w).alloc (Nat.le_refl _) _).block k hk

set_option maxHeartbeats 3200000 in
set_option maxRecDepth 100000 in
theorem pair11_of (P : List RuleD → Prop) (hG : ∀ s ∈ texts11, ∃ g, P g ∧ GrC (cut11 s).1 g) (W : World) (v : Value) (n g : Nat) (w : World) (hn : n ≤ 1000000000000) (hcode : CodeRow W v n) (hc : Cur W v n g w) :
    Calls Tryz.prog 13 #[.pointer (some ⟨g, 0, none⟩)] w fun e w' => ∃ (G : List RuleD) (o : Value) (t : ByteArray), P G ∧ e = .returned (.tuple #[.agg #[o], .string t]) ∧ t.size ≤ 8 ∧ Held (fun k => k < w.heap.size) w' (fun V => RowC 3 RuleE V o G) ∧ Went W v n g w w' := by
  have HC : Hid (CodeRow W v n) := hcode
  have HW : Hid (Cur W v n g w) := hc
  have HG : Hid (∀ s ∈ texts11, ∃ g, P g ∧ GrC (cut11 s).1 g) := hG
  clear hcode hc hG
  go_enter Tryz.func13, Tryz.ntmps13
  go_wp2_with fail
  refine (below_any W v n g 13 _ hn HC.out (went_alloc HW.out _).1 (by omega) (by omega)).mono ?_
  rintro e wa ⟨x, rfl, ⟨x0, x1⟩, hwa⟩
  have Ha : Hid (Went W v n g _ wa) := hwa
  clear hwa
  obtain ⟨kx, rfl⟩ := Int.eq_ofNat_of_zero_le x0
  have hkx : kx < texts11.length := by rw [texts11_len]; omega
  go_wp2_with fail
  refine (split11_is kx _ hkx).mono ?_
  rintro e wb ⟨rfl, hbb⟩
  have Hb : Hid (Went W v n g _ wb) := went_below2 Ha.out hbb
  obtain ⟨G, hP, ns, rs, hR, hF⟩ := HG.out texts11[kx] (List.getElem_mem _)
  have hl := letters_in (List.getElem_mem hkx)
  clear hbb Ha HG
  generalize (cut11 texts11[kx]).1 = S at *
  generalize (cut11 texts11[kx]).2 = T at *
  have HR : Hid (∀ W : World, Calls Tryz.prog 22 #[.string S] W fun e w' => ∃ (nv rv : Value) (b : Bool), e = .returned (.tuple #[.agg #[nv, rv], .bool b]) ∧ Fresh W.heap.size w' (fun V => SNs V nv ns ∧ SRs V rv rs) ∧ Below W.heap.size W w') := hR
  have HF : Hid (∀ (A : Nat → Prop) (W : World) (nv rv : Value), (∀ k, A k → k < W.heap.size) → Held A W (fun V => SNs V nv ns ∧ SRs V rv rs) → Calls Tryz.prog 23 #[.agg #[nv, rv]] W fun e w' => ∃ (o : Value) (b : Bool), e = .returned (.tuple #[.agg #[o], .bool b]) ∧ Held A w' (fun V => RowC 3 RuleE V o G) ∧ Below W.heap.size W w') := hF
  have HP : Hid (P G) := hP
  clear hR hF hP
  go_wp2
  go_loopw [6, 7] (fun sv iv wr => ∃ (s : ByteArray) (k : Nat), sv = .string s ∧ iv = .int .i64 k ∧ k ≤ 7 ∧ s.size ≤ k ∧ Went W v n g (w.alloc (.cells #[.slice none 0 0] 26)) wr) (fun _ iv _ => 8 - (intOf iv).toNat)
  case atStart => exact ⟨_, 0, rfl, rfl, by omega, by decide, Hb.out⟩
  case round =>
    obtain ⟨s, k, rfl, rfl, hk, hs, hw⟩ := hrel
    have Hr : Hid (Went W v n g (w.alloc (.cells #[.slice none 0 0] 26)) wr) := hw
    clear hw
    go_wp2_with fail
    refine (below_any W v n g 7 _ hn HC.out Hr.out.1 (by omega) (by omega)).mono ?_
    rintro e w1 ⟨y, rfl, ⟨y0, y1⟩, hw1⟩
    have H1 : Hid (Went W v n g (w.alloc (.cells #[.slice none 0 0] 26)) w1) := went_trans Hr.out hw1
    clear hw1
    by_cases c : (k : Int) < y
    · go_wp2_with fail
      refine (below_any W v n g (T.size : Int) _ hn HC.out H1.out.1 (by omega) (by omega)).mono ?_
      rintro e w2 ⟨z, rfl, ⟨z0, z1⟩, hw2⟩
      have H2 : Hid (Went W v n g (w.alloc (.cells #[.slice none 0 0] 26)) w2) := went_trans H1.out hw2
      clear hw2
      obtain ⟨j, rfl⟩ := Int.eq_ofNat_of_zero_le z0
      obtain ⟨C, hC⟩ : ∃ C, T.extract j (j + 1) = C := ⟨_, rfl⟩
      have hC1 : C.size = 1 := by rw [← hC, ByteArray.size_extract]; omega
      have i1 : (0 : Int) ≤ (j : Int) := by omega
      have i2 : (j : Int) + 1 ≤ (T.size : Int) := by omega
      have i3 : (j : Int) ≤ (j : Int) + 1 := by omega
      have i5 : IntKind.i64.wrap ((j : Int) + 1) = (j : Int) + 1 := by rw [IntKind.wrap_i64]; omega
      have hr := fun W => run_string_add_sum (P := Tryz.prog) W s C (by omega)
      go_wp2
      go_roundw
      case rel => exact ⟨_, k + 1, rfl, by go_num, by omega, by rw [ByteArray.size_append]; omega, H2.out⟩
      case measure => simp [intOf]; omega
    · clear hl
      go_wp2_with fail
      refine (HR.out _).mono ?_
      rintro e w2 ⟨nv, rv, b, rfl, hfr, hb2⟩
      have F2 : Hid (Fresh w1.heap.size w2 (fun V => SNs V nv ns ∧ SRs V rv rs)) := hfr
      have B2 : Hid (Below w1.heap.size w1 w2) := hb2
      obtain ⟨⟨an, cn, rfl⟩, ⟨ar, cr, rfl⟩⟩ : (∃ an cn, nv = .slice an ns.length cn) ∧ ∃ ar cr, rv = .slice ar rs.length cr := ⟨RowC.slice (hfr w2 (Nat.le_refl _) (fun _ _ _ => rfl)).1, RowC.slice (hfr w2 (Nat.le_refl _) (fun _ _ _ => rfl)).2⟩
      clear hfr hb2
      go_wp2_with fail
      have ba : Below w2.heap.size w2 (w2.alloc (Obj.cells #[Value.slice an ns.length cn, Value.slice ar rs.length cr] 59)) := (Below.refl _ _).alloc (Nat.le_refl _) _
      refine (HF.out (fun k => k < w1.heap.size) _ _ _ (fun k hk => Nat.lt_of_lt_of_le hk (Nat.le_trans B2.out.size ba.size)) (Held.of_fresh (Fresh.step F2.out ba.size (fun k _ hk => ba.block k hk)) (fun k hk => hk))).mono ?_
      rintro e w3 ⟨o, b', rfl, hh, hb3⟩
      obtain ⟨ao, co, rfl⟩ := RowC.slice hh.here
      have B3 : Hid (Below w1.heap.size w1 w3) := B2.out.trans ((ba.mono B2.out.size).trans (hb3.mono (Nat.le_trans B2.out.size ba.size)))
      have bo : Below w3.heap.size w3 (w3.alloc (Obj.cells #[Value.slice ao G.length co] 26)) := (Below.refl _ _).alloc (Nat.le_refl _) _
      have H3 : Hid (Held (fun k => k < w1.heap.size) (w3.alloc (Obj.cells #[Value.slice ao G.length co] 26)) (fun V => RowC 3 RuleE V (.slice ao G.length co) G)) := hh.fr (FrA.below bo)
      have W3 : Hid (Went W v n g (w.alloc (.cells #[.slice none 0 0] 26)) (w3.alloc (Obj.cells #[Value.slice ao G.length co] 26))) := went_below2 (went_below2 H1.out B3.out) bo
      have Y3 : Hid ((w3.alloc (Obj.cells #[Value.slice ao G.length co] 26)).heap[w3.heap.size]? = some (.cells #[.slice ao G.length co] 26 (0, 0))) := heap_alloc_new _ _
      have hsz : w.heap.size < w1.heap.size := by have := H1.out.2.size; simp at this; omega
      have hs3 : w1.heap.size ≤ w3.heap.size := B3.out.size
      have hgw := HW.out.lt
      have hs4 : (w3.alloc (Obj.cells #[Value.slice ao G.length co] 26)).heap.size = w3.heap.size + 1 := by simp
      clear hh hb3 ba bo
      go_wp2_with fail
      refine (once_any W v n g 8 _ hn HC.out W3.out.1 (by omega) (by omega)).mono ?_
      rintro e w4 ⟨b4, rfl, hw4⟩
      have W4 : Hid (Went W v n g (w.alloc (.cells #[.slice none 0 0] 26)) w4) := went_trans W3.out hw4
      have H4 : Hid (Held (fun k => k < w1.heap.size) w4 (fun V => RowC 3 RuleE V (.slice ao G.length co) G)) := H3.out.fr (FrA.grown hw4.2 (fun k hk => by have := Option.some.inj hk; omega))
      have Y4 : Hid (w4.heap[w3.heap.size]? = some (.cells #[.slice ao G.length co] 26 (0, 0))) := (hw4.2.block _ (by rw [hs4]; omega) (fun e => by have := Option.some.inj e; omega)).trans Y3.out
      clear hw4 W3 H3 Y3 hs4
      cases b4 with
      | false =>
        obtain ⟨c1, f1, hld, hwn, hz⟩ := box_end (.slice ao G.length co) HW.out W4.out hsz H4.out
        have HL : Hid _ := hld
        have HN : Hid _ := hwn
        have HZ : Hid _ := hz
        have c2 := run_cell (j := 0) Y4.out rfl
        clear hld hwn hz
        go_wp2
        have zz := HZ.out
        refine bodyPost_ret (by simp [results, Tryz.results13, go_sem, zz]; try rfl) rfl ?_
        exact ⟨G, _, _, HP.out, rfl, by omega, HL.out, HN.out⟩
      | true =>
        go_wp2_with fail
        refine (text07_any W v n g _ hn HC.out W4.out.1).mono ?_
        rintro e w5 ⟨t5, rfl, ht5, hw5⟩
        have W5 : Hid (Went W v n g (w.alloc (.cells #[.slice none 0 0] 26)) w5) := went_trans W4.out hw5
        have H5 : Hid (Held (fun k => k < w1.heap.size) w5 (fun V => RowC 3 RuleE V (.slice ao G.length co) G)) := H4.out.fr (FrA.grown hw5.2 (fun k hk => by have := Option.some.inj hk; omega))
        have Y5 : Hid (w5.heap[w3.heap.size]? = some (.cells #[.slice ao G.length co] 26 (0, 0))) := (hw5.2.block _ (Array.getElem?_eq_some_iff.1 Y4.out).1 (fun e => by have := Option.some.inj e; omega)).trans Y4.out
        clear hw5 W4 H4 Y4
        obtain ⟨c1, f1, hld, hwn, hz⟩ := box_end (.slice ao G.length co) HW.out W5.out hsz H5.out
        have HL : Hid _ := hld
        have HN : Hid _ := hwn
        have HZ : Hid _ := hz
        have c2 := run_cell (j := 0) Y5.out rfl
        clear hld hwn hz
        go_wp2
        have zz := HZ.out
        refine bodyPost_ret (by simp [results, Tryz.results13, go_sem, zz]; try rfl) rfl ?_
        exact ⟨G, _, _, HP.out, rfl, ht5, HL.out, HN.out⟩
end Go.Proofs.YtllfmobjkppnaaaGreat
