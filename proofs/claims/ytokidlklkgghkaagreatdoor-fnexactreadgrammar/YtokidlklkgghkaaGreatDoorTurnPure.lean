/- The program reads a rule. -/
/- What may be written of a right grammar, and how great what was read is (pure). -/
/- Sums: what the specification's functions answer. -/
/- A sealed text with one byte turned is not unsealed: the plain mathematics. -/
import Derived.Test.YtokidlklkgghkaaGreatDoorE16AA
import Derived.Test.YtokidlklkgghkaaGreatDoorINam
import Derived.Test.YtokidlklkgghkaaGreatDoorRows
import Derived.Deep.RegionHeld3
namespace Go.Proofs.YtokidlklkgghkaaGreatDoor
open Go.RowKit
set_option linter.unusedVariables false

def RuleQ (x : RuleD) : Prop := x.name.size ≤ 20000 ∧ ListP (fun t => t.size ≤ 20000) x.params ∧ ListP (ListP SymQ) x.alts
def ruleT16 (x : RuleD) : Nat := x.name.size + listT ByteArray.size x.params + listT (listT symT) x.alts
def RuIn (x : RuleD) : Prop := x.name.size ≤ 20000 ∧ (∀ t ∈ x.params, t.size ≤ 20000) ∧ ∀ c ∈ x.alts, ∀ y ∈ c, SyIn y
def RdRu (x : RuleD) (v : Value) (w w' : World) : Prop := ∃ pv av : Value, v = .agg #[.string x.name, pv, av] ∧ RuleF (Nw w.heap.size w'.heap.size) w' [.string x.name, pv, av] x ∧ RuIn x

set_option maxHeartbeats 6400000 in
set_option maxRecDepth 100000 in
theorem rdRule_any (p : Nat) (s : ByteArray) (a : Nat) (w : World) (hs : s.size ≤ 1048576) (ha : a ≤ s.size) (h : RdA p s a w) :
    Calls Tryz.prog 18 #[.pointer (some ⟨p, 0, none⟩)] w fun e w' => RdOut ruleW RuleQ ruleT16 RdRu p s a w e w' := by
  have hpw : p < w.heap.size := (Array.getElem?_eq_some_iff.1 h).1
  have bal : Below w.heap.size w (w.alloc (.cells #[.string ⟨#[]⟩, .slice none 0 0, .slice none 0 0] 40)) := (Below.refl _ _).alloc (Nat.le_refl _) _
  have HA1 : Hid (RdA p s a (w.alloc (.cells #[.string ⟨#[]⟩, .slice none 0 0, .slice none 0 0] 40))) := RdA.below h bal
  have HK1 : Hid (Kp (fun q => q = p) w (w.alloc (.cells #[.string ⟨#[]⟩, .slice none 0 0, .slice none 0 0] 40))) := Kp.below bal
  have HP1 : Hid ((w.alloc (.cells #[.string ⟨#[]⟩, .slice none 0 0, .slice none 0 0] 40)).heap[w.heap.size]? = some (.cells #[.string ⟨#[]⟩, .slice none 0 0, .slice none 0 0] 40 (0, 0))) := heap_alloc_new w _
  clear h bal
  go_enter Tryz.func18, Tryz.ntmps18
  go_wp2_with fail
  generalize w.alloc (.cells #[.string ⟨#[]⟩, .slice none 0 0, .slice none 0 0] 40) = w1 at *
  refine (rdShort_any p s a w1 hs ha HA1.out).mono ?_
  rintro e w2 ⟨hk2, ⟨rfl, hn2⟩ | ⟨v2, nm, b1, rfl, ⟨rfl, hnm⟩, hA2, hl2, hu2, hd2⟩⟩
  · go_simp
    exact ⟨rfl, HK1.out.trans hk2, .inl ⟨rfl, fun x r hx e => hn2 _ (listW shortW x.params ++ listW altW x.alts ++ r) hx.1 (by rw [e, ruleW]; simp)⟩⟩
  have HL2 : Hid (a + nm.size < b1) := hl2
  have HA2 : Hid (RdA p s b1 w2) := hA2
  have HK2 : Hid (Kp (fun q => q = p) w w2) := HK1.out.trans hk2
  have HD2 : Hid (∀ (x : RuleD) (r : List UInt8), RuleQ x → s.data.toList.drop a = ruleW x ++ r → nm = x.name ∧ b1 = a + (shortW x.name).length ∧ s.data.toList.drop b1 = listW shortW x.params ++ (listW altW x.alts ++ r)) := fun x r hx e => by
    have e0 : s.data.toList.drop a = shortW x.name ++ (listW shortW x.params ++ (listW altW x.alts ++ r)) := by rw [e, ruleW]; simp
    obtain ⟨g1, g2⟩ := hd2 _ _ hx.1 e0
    exact ⟨g1, g2, drop_next e0 g2⟩
  have hw1 : w.heap.size < w1.heap.size := (Array.getElem?_eq_some_iff.1 HP1.out).1
  have HP2 : Hid (w2.heap[w.heap.size]? = some (.cells #[.string ⟨#[]⟩, .slice none 0 0, .slice none 0 0] 40 (0, 0))) := (hk2.block _ hw1 (by omega)).trans HP1.out
  clear hA2 hk2 hd2 hl2 hw1 HP1 HA1
  go_wp2_with fail
  refine (readStrs_any p s b1 w2 hs hu2 HA2.out).mono ?_
  rintro e w3 ⟨hk3, ⟨rfl, hn3⟩ | ⟨pv, ps, b2, rfl, ⟨hpo, hpi⟩, hA3, hl3, hu3, hd3⟩⟩
  · go_simp
    exact ⟨rfl, HK2.out.trans hk3, .inl ⟨rfl, fun x r hx e => hn3 _ _ hx.2.1 (HD2.out x r hx e).2.2⟩⟩
  obtain ⟨pa, pc, rfl⟩ := hpo.row.slice
  have HPo : Hid (OwnB w2.heap.size (.slice pa ps.length pc) ps w3) := hpo
  have HPi : Hid (∀ t ∈ ps, t.size ≤ 20000) := hpi
  have HL3 : Hid (b1 + listT ByteArray.size ps < b2) := hl3
  have HA3 : Hid (RdA p s b2 w3) := hA3
  have HK3 : Hid (Kp (fun q => q = p) w w3) := HK2.out.trans hk3
  have HD3 : Hid (∀ (x : RuleD) (r : List UInt8), RuleQ x → s.data.toList.drop a = ruleW x ++ r → ps = x.params ∧ b2 = b1 + (listW shortW x.params).length ∧ s.data.toList.drop b2 = listW altW x.alts ++ r) := fun x r hx e => by
    obtain ⟨g1, g2⟩ := hd3 _ _ hx.2.1 (HD2.out x r hx e).2.2
    exact ⟨g1, g2, drop_next (HD2.out x r hx e).2.2 g2⟩
  have hw2 : w.heap.size < w2.heap.size := (Array.getElem?_eq_some_iff.1 HP2.out).1
  have HZ2 : Hid (w.heap.size < w2.heap.size ∧ w2.heap.size ≤ w3.heap.size) := ⟨hw2, hk3.size⟩
  have HP3 : Hid (w3.heap[w.heap.size]? = some (.cells #[.string ⟨#[]⟩, .slice none 0 0, .slice none 0 0] 40 (0, 0))) := (hk3.block _ hw2 (by omega)).trans HP2.out
  clear hA3 hk3 hd3 hl3 hw2 HP2 HA2 hpo hpi
  go_wp2_with fail
  refine (readAlts_any p s b2 w3 hs hu3 HA3.out).mono ?_
  rintro e w5 ⟨hk5, ⟨rfl, hn5⟩ | ⟨av, es, b4, rfl, ⟨hro, hin⟩, hA5, hl5, hu5, hd5⟩⟩
  · go_simp
    exact ⟨rfl, HK3.out.trans hk5, .inl ⟨rfl, fun x r hx e => hn5 _ _ hx.2.2 (HD3.out x r hx e).2.2⟩⟩
  obtain ⟨oa, oc, rfl⟩ := hro.slice
  obtain ⟨hz2a, hz2b⟩ := HZ2.out
  have HP : w5.heap[w.heap.size]? = some (.cells #[.string ⟨#[]⟩, .slice none 0 0, .slice none 0 0] 40 (0, 0)) := (hk5.block _ (by omega) (by omega)).trans HP3.out
  have HK5 : Kp (fun q => q = p) w w5 := HK3.out.trans hk5
  have hw5 : w3.heap.size ≤ w5.heap.size := hk5.size
  have hp5 : OwnB w2.heap.size (.slice pa ps.length pc) ps w5 := own_ag HPo.out (F := fun q => w2.heap.size ≤ q) (hk5.ag (fun q hq e => by omega)) (fun q hq => (World.ownsRow.lt HPo.out q hq).1)
  have y0 := run_cell (j := 0) HP rfl
  have y1 := run_cell (j := 1) HP rfl
  have y2 := run_cell (j := 2) HP rfl
  have f0 := run_frozen (j := 0) HP
  have f1 := run_frozen (j := 1) HP
  have f2 := run_frozen (j := 2) HP
  obtain ⟨V', hV'⟩ : ∃ V', V' = (((w5.setCell ⟨w.heap.size, 0, none⟩ (.string nm)).setCell ⟨w.heap.size, 1, none⟩ (.slice pa ps.length pc)).setCell ⟨w.heap.size, 2, none⟩ (.slice oa es.length oc)) := ⟨_, rfl⟩
  have HVe : Hid (V' = _) := hV'
  have hz : V'.heap[w.heap.size]? = some (.cells #[.string nm, .slice pa ps.length pc, .slice oa es.length oc] 40 (0, 0)) := by
    rw [hV', setCell_self _ (setCell_self _ (setCell_self _ HP))]
    rfl
  have z0 : V'.cell? ⟨w.heap.size, 0, none⟩ = some (.string nm) := run_cell hz rfl
  have z1 : V'.cell? ⟨w.heap.size, 1, none⟩ = some (.slice pa ps.length pc) := run_cell hz rfl
  have z2 : V'.cell? ⟨w.heap.size, 2, none⟩ = some (.slice oa es.length oc) := run_cell hz rfl
  have k1 : Kp (fun q => q = w.heap.size) w5 V' := by
    have st : ∀ (U : World) (j : Nat) (u : Value), Kp (fun q => q = w.heap.size) U (U.setCell ⟨w.heap.size, j, none⟩ u) := fun U j u => Kp.store rfl
    rw [hV']
    exact ((st _ _ _).trans (st _ _ _)).trans (st _ _ _)
  have hks := k1.size
  have HR9 : Hid (RuleF (Nw w.heap.size V'.heap.size) V' [.string nm, .slice pa ps.length pc, .slice oa es.length oc] ⟨nm, ps, es⟩) := by
    refine ⟨_, _, Nw w2.heap.size w3.heap.size, Nw w3.heap.size w5.heap.size, rfl, ?_, fun q hq => World.ownsRow.lt HPo.out q hq, hro.ag stabAlt (k1.ag (fun q hq e => by have := hq.1; omega)), fun q hq => ⟨by have := hq.1; omega, by have := hq.2; omega⟩, fun q hq => ⟨by have := hq.1; omega, by have := hq.2; omega⟩, fun q hq hq2 => by have := hq.2; have := hq2.1; omega⟩
    exact own_baseR (own_ag hp5 (F := fun q => w2.heap.size ≤ q) (k1.ag (fun q hq e => by omega)) (fun q hq => (World.ownsRow.lt hp5 q hq).1)) (Nat.zero_le _)
  have HA9 : Hid (RdA p s b4 V') := (k1.block p (by omega) (by omega)).trans hA5
  have HK9 : Hid (Kp (fun q => q = p) w V') := ⟨k1.os.trans HK5.os, k1.tape.trans HK5.tape, k1.output.trans HK5.output, by omega, fun j hj hF => (k1.block j (by omega) (by omega)).trans (HK5.block j hj hF)⟩
  have HT9 : Hid (a + ruleT16 ⟨nm, ps, es⟩ < b4) := by
    have g1 := HL2.out
    have g2 := HL3.out
    have g4 : b2 + listT (listT symT) es < b4 := hl5
    rw [Hid]
    show a + (nm.size + listT ByteArray.size ps + listT (listT symT) es) < b4
    omega
  have HD9 : Hid (∀ (x0 : RuleD) (r : List UInt8), RuleQ x0 → s.data.toList.drop a = ruleW x0 ++ r → (⟨nm, ps, es⟩ : RuleD) = x0 ∧ b4 = a + (ruleW x0).length) := fun x0 r hx e => by
    obtain ⟨g1, g2, _⟩ := HD2.out x0 r hx e
    obtain ⟨g3, g4, g7⟩ := HD3.out x0 r hx e
    obtain ⟨g8, g9⟩ := hd5 _ _ hx.2.2 g7
    refine ⟨?_, ?_⟩
    · cases x0
      simp only at g1 g3 g8
      rw [g1, g3, g8]
    · rw [ruleW]
      simp only [List.length_append]
      omega
  have HIn : Hid (RuIn ⟨nm, ps, es⟩) := ⟨hnm, HPi.out, hin⟩
  clear hV' hz k1 HP HK5 hro hA5 hk5 hd5 hl5 hin hp5
  go_wp2
  rw [← HVe.out]
  refine bodyPost_ret (by simp [results, Tryz.results18, go_sem, z0, z1, z2]; try rfl) rfl ?_
  exact ⟨HK9.out, .inr ⟨_, ⟨nm, ps, es⟩, b4, rfl, ⟨_, _, rfl, HR9.out, HIn.out⟩, HA9.out, HT9.out, hu5, HD9.out⟩⟩

end Go.Proofs.YtokidlklkgghkaaGreatDoor

namespace Go.Proofs.YtokidlklkgghkaaGreatDoor
open Go.RowKit
set_option linter.unusedVariables false

theorem listT_row {α : Type} (T : α → Nat) : ∀ xs : List α, listT T xs = rowTot T xs
  | [] => rfl
  | x :: xs => by
    have ih := listT_row T xs
    unfold listT rowTot at *
    simp only [List.map_cons, List.sum_cons, List.length_cons]
    omega
theorem listT_eq {α : Type} {T U : α → Nat} (h : ∀ x, T x = U x) (xs : List α) : listT T xs = listT U xs := by rw [funext h]
theorem nodesT_tot (e : List NodeD) : listT nodeT e = exprTot e := listT_row nodeT e
theorem symT_tot (x : SymD) : symT x = symTot x := by
  rw [symT, symTot, listT_eq nodesT_tot, listT_row]
  omega
theorem altT_tot (x : List SymD) : listT symT x = altTot x := by rw [listT_eq symT_tot, listT_row]; rfl
theorem ruleT_tot (x : RuleD) : ruleT16 x = ruleTot x := by rw [ruleT16, ruleTot, listT_eq altT_tot, listT_row, listT_row]
theorem gramT_tot (x : List RuleD) : listT ruleT16 x = grammarTot x := by rw [listT_eq ruleT_tot, listT_row]; rfl

theorem symB_n {g : List RuleD} (hg : ∀ r ∈ g, r.params.length ≤ 6) {x : SymD} {kn : List ByteArray} (h : (symB x kn (paramsOf g x.text)).2 = true) : x.args.length ≤ 6 := by
  unfold symB at h
  split at h
  · simp only [Bool.and_eq_true, decide_eq_true_eq] at h
    have := h.1.2
    omega
  · split at h
    · simp only [Bool.and_eq_true, decide_eq_true_eq] at h
      have := h.1.2
      omega
    · split at h
      · simp only [Bool.and_eq_true, decide_eq_true_eq] at h
        have := h.1.2
        omega
      · split at h
        · split at h
          · rename_i h5
            simp only [Bool.and_eq_true, decide_eq_true_eq] at h5
            have h6 := h5.1
            unfold paramsOf at h6
            split at h6
            · have hd : (g.getD (ruleAtI g x.text).toNat default).params.length ≤ 6 := by
                rw [List.getD]
                cases hq : g[(ruleAtI g x.text).toNat]? with
                | none => exact Nat.zero_le _
                | some r => exact hg r (List.mem_of_getElem? hq)
              omega
            · omega
          · cases h
        · cases h
theorem symsF_n {g : List RuleD} (hg : ∀ r ∈ g, r.params.length ≤ 6) : ∀ (xs : List SymD) (kn : List ByteArray), symsF g kn xs = true → ∀ s ∈ xs, s.args.length ≤ 6
  | [], _, _, s, hs => by cases hs
  | x :: xs, kn, h, s, hs => by
    rw [symsF, Bool.and_eq_true] at h
    rcases List.mem_cons.1 hs with rfl | hs
    · exact symB_n hg h.1
    · exact symsF_n hg xs _ h.2 s hs
/-- A right grammar may be written. -/
theorem gram_Q {g : List RuleD} (h : gramB g = true) : ListP RuleQ g := by
  have hp : ∀ r ∈ g, r.params.length ≤ 6 := fun r hr => by
    have h2 := gram_rule h r hr
    rw [ruleB, Bool.and_eq_true, Bool.and_eq_true, Bool.and_eq_true] at h2
    have h3 := h2.1.1.2
    rw [paramsB, Bool.and_eq_true, decide_eq_true_eq] at h3
    exact h3.2
  refine ⟨?_, fun r hr => ?_⟩
  · rw [gramB, Bool.and_eq_true, Bool.and_eq_true, decide_eq_true_eq] at h
    have := h.1.1.2
    omega
  have hz := gram_z h r hr
  have h2 := gram_rule h r hr
  rw [ruleB, Bool.and_eq_true, Bool.and_eq_true] at h2
  have h4 := h2.1.2
  rw [decide_eq_true_eq] at h4
  have h5 := hp r hr
  refine ⟨by have := hz.name; omega, ⟨by omega, fun t ht => by have := hz.params t ht; omega⟩, by omega, fun a ha => ?_⟩
  have h3 := List.all_eq_true.1 h2.2 a ha
  rw [altB, Bool.and_eq_true, decide_eq_true_eq] at h3
  refine ⟨by omega, fun s hs => ?_⟩
  have hs1 := hz.alts a ha s hs
  have h6 := symsF_n hp a _ h3.2 s hs
  exact ⟨⟨by have := hs1.k.1; omega, by have := hs1.k.1; omega⟩, by have := hs1.text; omega, by have := hs1.bind; omega, by omega, hs1.k.2⟩
theorem gramO_Q {g : List RuleD} (h : gramO g = true) : ListP RuleQ g := gram_Q (gramO_b h)

/-- What was read is within all bounds. -/
theorem ruIn_in {x : RuleD} (h : RuIn x) (hz : ruleT16 x ≤ 1048576) : RuleIn x := by
  have hT := ruleT_tot x
  rw [hT] at hz
  have e0 : ruleTot x = x.name.size + rowTot ByteArray.size x.params + rowTot altTot x.alts := rfl
  have hm : (1048576 : Nat) ≤ maxLen := by decide
  obtain ⟨h1, h2, h3⟩ := h
  have b1 := rowTot_len ByteArray.size x.params
  have b2 := rowTot_len altTot x.alts
  refine ⟨by show x.name.size ≤ maxLen; omega, ⟨by omega, fun t ht => by have := h2 t ht; show t.size ≤ maxLen; omega⟩, by omega, fun a ha => ?_⟩
  have b3 := rowTot_mem altTot ha
  have e3 : altTot a = rowTot symTot a := rfl
  have b4 := rowTot_len symTot a
  refine ⟨by omega, fun s hs => ?_⟩
  obtain ⟨k1, k2, k3, k4⟩ := h3 a ha s hs
  have b5 := rowTot_mem symTot hs
  have e5 : symTot s = s.text.size + rowTot exprTot s.args + s.bind.size := rfl
  have b6 := rowTot_len exprTot s.args
  refine ⟨by unfold i64; omega, by show s.text.size ≤ maxLen; omega, ⟨by omega, fun e he => ?_⟩, by show s.bind.size ≤ maxLen; omega⟩
  have b7 := rowTot_mem exprTot he
  have e7 : exprTot e = e.length + (e.map fun x => x.name.size + x.kids.length).sum := rfl
  refine ⟨by omega, fun y hy => ?_⟩
  obtain ⟨n1, n2, n3, n4, n5⟩ := k4 e he y hy
  exact ⟨by unfold i64; omega, by unfold i64; omega, by omega, by omega, fun k hk => by have := n5 k hk; unfold i64; omega⟩
theorem ruIns_in {xs : List RuleD} (h : ∀ x ∈ xs, RuIn x) (hz : listT ruleT16 xs ≤ 1048576) : GrammarIn xs := by
  have hm : (1048576 : Nat) ≤ maxLen := by decide
  have e := listT_row ruleT16 xs
  rw [e] at hz
  have b1 := rowTot_len ruleT16 xs
  refine ⟨by omega, fun x hx => ?_⟩
  have b2 := rowTot_mem ruleT16 hx
  exact ruIn_in (h x hx) (by omega)
end Go.Proofs.YtokidlklkgghkaaGreatDoor

namespace Go.Proofs.YtokidlklkgghkaaGreatDoor
open Go.RowKit

theorem take_snoc4 (s : ByteArray) (k : Nat) (h : k < s.size) : s.data.toList.take (k + 1) = s.data.toList.take k ++ [s[k]] := by
  rw [List.take_succ_eq_append_getElem (by simpa using h)]; rfl

theorem half_odd (x : Nat) (h : x % 2 = 1) : half x = (x / 2) ^^^ 3558460437 := by rw [half, if_pos h]
theorem half_even (x : Nat) (h : ¬ x % 2 = 1) : half x = x / 2 := by rw [half, if_neg h]

set_option maxHeartbeats 1600000 in
set_option maxRecDepth 100000 in
theorem specSumMore_any (x : Nat) (s : ByteArray) (w : World) (hx : x < 4294967296) (hs : s.size ≤ 1048576) :
    Calls Tryz.prog 53 #[.int .u32 x, .string s] w fun e w' => e = .returned (.int .u32 (sumB x s.data.toList)) ∧ w' = w := by
  go_enter Tryz.func53, Tryz.ntmps53
  go_wp2
  go_loop [0, 5] (fun sv iv => ∃ k : Nat, k ≤ s.size ∧ iv = .int .i64 k ∧ sv = .int .u32 (sumB x (s.data.toList.take k))) (fun _ iv => s.size - (intOf iv).toNat)
  case atStart => exact ⟨0, Nat.zero_le _, rfl, rfl⟩
  case round =>
    obtain ⟨k, hk, rfl, rfl⟩ := hrel
    have hy := sumB_lt (s.data.toList.take k) x hx
    generalize hq : sumB x (s.data.toList.take k) = y at *
    have HQ : Hid (sumB x (s.data.toList.take k) = y) := hq
    clear hq
    by_cases hlt : k < s.size
    · have hb := s[k].toNat_lt
      have ex := u32_xor_nat y s[k].toNat hy (by omega)
      have HN : Hid (sumB x (s.data.toList.take (k + 1)) = halves 8 (y ^^^ s[k].toNat)) := by
        rw [take_snoc4 s k hlt, sumB_snoc, HQ.out]; rfl
      have hz := Nat.xor_lt_two_pow (n := 32) hy (show s[k].toNat < 2 ^ 32 by omega)
      generalize y ^^^ s[k].toNat = z at *
      go_wp2
      go_loop [0, 6] (fun sv jv => ∃ j : Nat, j ≤ 8 ∧ jv = .int .i64 j ∧ sv = .int .u32 (halves j z)) (fun _ jv => 8 - (intOf jv).toNat)
      case atStart => exact ⟨0, by omega, rfl, rfl⟩
      case round =>
        obtain ⟨j, hj, rfl, rfl⟩ := hrel
        have hu := halves_lt j z hz
        generalize hr : halves j z = u at *
        have HR : Hid (halves j z = u) := hr
        clear hr
        by_cases hj8 : j < 8
        · have HS : Hid (halves (j + 1) z = half u) := by rw [halves_snoc, HR.out]; exact rfl
          by_cases hodd : u % 2 = 1
          · have e1 : (((u : Int) % 2) == 1) = true := by simp; omega
            have e2 := u32_xor_nat (u / 2) 3558460437 (by omega) (by omega)
            go_wp2
            go_round
            case rel => exact ⟨j + 1, by omega, by go_num, by rw [HS.out, half_odd u hodd]; exact congrArg _ (by rw [← e2]; simp)⟩
            case measure => simp [intOf]; omega
          · have e1 : (((u : Int) % 2) == 1) = false := by simp; omega
            go_wp2
            go_round
            case rel => exact ⟨j + 1, by omega, by go_num, by rw [HS.out, half_even u hodd]; go_num⟩
            case measure => simp [intOf]; omega
        · obtain rfl : j = 8 := by omega
          go_wp2
          go_round
          case rel => exact ⟨k + 1, by omega, by go_num, by rw [HN.out, HR.out]⟩
          case measure => simp [intOf]; omega
    · obtain rfl : k = s.size := by omega
      have HE : Hid (sumB x s.data.toList = y) := by
        have := HQ.out
        rwa [List.take_of_length_le (by simp)] at this
      go_wp2
      go_ret
      rw [HE.out]
      exact ⟨rfl, rfl⟩

/-- Bytes laid in a new block, made a string. -/
theorem run_lit_string {P : Program} (w : World) (src dst e : TypeId) (l : List UInt8) (hl : l.length ≤ 1000) (hs : P.underlying src = some (.slice e)) (he : P.underlying e = some (.int .u8)) (hd : P.underlying dst = some .string) :
    (convert src dst (.slice (some ⟨w.heap.size, 0, none⟩) l.length l.length)).run P (w.alloc (.cells (bv l).toArray e)) = .ok (.string (str l)) (w.alloc (.cells (bv l).toArray e)) :=
  own_string (base := w.heap.size) l hs he hd (World.ownsRow_lit w (bv l).toArray l.length (Nat.le_refl _) (by unfold maxLen; omega) (by simp [bv_len]))

theorem bv_four (x : Nat) (hx : x < 4294967296) : bv (four x) = [.int .u8 ((x : Int) / 16777216), .int .u8 ((x : Int) / 65536 % 256), .int .u8 ((x : Int) / 256 % 256), .int .u8 ((x : Int) % 256)] := by
  simp only [bv, four, List.map_cons, List.map_nil]
  rw [toNat_ofNat _ (by omega), toNat_ofNat _ (by omega), toNat_ofNat _ (by omega), toNat_ofNat _ (by omega)]
  rw [show x / 16777216 % 256 = x / 16777216 by omega]
  simp

set_option maxHeartbeats 800000 in
theorem four_any (x : Nat) (w : World) (hx : x < 4294967296) :
    Calls Tryz.prog 23 #[.int .u32 x] w fun e w' => e = .returned (.string (str (four x))) ∧ Below w.heap.size w w' := by
  have hcv := fun W => run_lit_string (P := Tryz.prog) W 72 9 5 (four x) (by simp [four]) Tryz.underlying72 Tryz.underlying5 Tryz.underlying9
  rw [bv_four x hx] at hcv
  have hfl : (four x).length = 4 := rfl
  rw [hfl] at hcv
  clear hfl
  go_enter Tryz.func23, Tryz.ntmps23
  go_wp2
  go_ret
  exact ⟨rfl, (Below.refl _ _).alloc (Nat.le_refl _) _⟩

theorem specSumOf_any (s : ByteArray) (w : World) (hs : s.size ≤ 1048576) :
    Calls Tryz.prog 24 #[.string s] w fun e w' => e = .returned (.int .u32 (sumB 4294967295 s.data.toList)) ∧ w' = w := by
  go_enter Tryz.func24, Tryz.ntmps24
  go_wp2_with (go_at_call 53; refine (specSumMore_any 4294967295 s _ (by omega) hs).mono ?_; rintro e w1 ⟨rfl, rfl⟩)
  go_ret
  exact ⟨rfl, rfl⟩

/-- What Sealed and Unsealed answer. -/
def sealB (l : List UInt8) : List UInt8 := l ++ four (sumB 4294967295 l)
def unOk (l : List UInt8) : Bool := decide (4 ≤ l.length) && decide (l.length ≤ 20004) && decide (l.drop (l.length - 4) = four (sumB 4294967295 (l.take (l.length - 4))))
def usVal (l : List UInt8) : Value := if unOk l = true then .tuple #[.string (str (l.take (l.length - 4))), .bool true] else .tuple #[.string (str []), .bool false]
theorem usVal_no {l : List UInt8} (h : unOk l = false) : usVal l = .tuple #[.string (str []), .bool false] := by rw [usVal, if_neg (by simp [h])]
theorem usVal_yes {l : List UInt8} (h : unOk l = true) : usVal l = .tuple #[.string (str (l.take (l.length - 4))), .bool true] := by rw [usVal, if_pos h]

theorem four_len (x : Nat) : (four x).length = 4 := rfl
theorem str_add2 (a b : List UInt8) : str a ++ str b = str (a ++ b) := by
  apply ByteArray.ext
  simp [str]
theorem str_self (s : ByteArray) : str s.data.toList = s := by
  apply ByteArray.ext
  simp [str]

theorem specSealed_yes (s : ByteArray) (w : World) (hs : s.size ≤ 20000) :
    Calls Tryz.prog 33 #[.string s] w fun e w' => e = .returned (.tuple #[.string (str (sealB s.data.toList)), .bool true]) ∧ Below w.heap.size w w' := by
  have HE : Hid (s ++ str (four (sumB 4294967295 s.data.toList)) = str (sealB s.data.toList)) := by
    have := str_add2 s.data.toList (four (sumB 4294967295 s.data.toList))
    rw [str_self] at this
    exact this
  have hlt := sumB_lt s.data.toList 4294967295 (by omega)
  have hz : (str (four (sumB 4294967295 s.data.toList))).size = 4 := by rw [str_size, four_len]
  have hadd := fun W => run_string_add_sum (P := Tryz.prog) (w := W) s (str (four (sumB 4294967295 s.data.toList))) (by omega)
  clear hz
  go_enter Tryz.func33, Tryz.ntmps33
  go_wp2_with (first
    | (go_at_call 24; refine (specSumOf_any s _ (by omega)).mono ?_; rintro e w1 ⟨rfl, rfl⟩)
    | (go_at_call 23; refine (four_any _ _ hlt).mono ?_; rintro e w2 ⟨rfl, hb2⟩))
  go_ret2
  rw [← HE.out]
  exact ⟨rfl, hb2⟩

theorem specSealed_no (s : ByteArray) (w : World) (hs : 20000 < s.size) :
    Calls Tryz.prog 33 #[.string s] w fun e w' => e = .returned (.tuple #[.string (str []), .bool false]) ∧ w' = w := by
  have hs1 : (20000 : Int) < s.size := by omega
  go_enter Tryz.func33, Tryz.ntmps33
  go_wp2
  go_ret2
  exact ⟨rfl, rfl⟩

theorem unOk_iff (l : List UInt8) : unOk l = true ↔ 4 ≤ l.length ∧ l.length ≤ 20004 ∧ l.drop (l.length - 4) = four (sumB 4294967295 (l.take (l.length - 4))) := by
  simp [unOk, and_assoc]

/-- The test that the specification makes, as the walk leaves it. -/
theorem un_test (s : ByteArray) (m : Nat) (hm : m + 4 = s.size) (hs : s.size ≤ 20004) :
    ((s.extract m s.size).toList == (str (four (sumB 4294967295 (s.extract 0 m).data.toList))).toList) = unOk s.data.toList := by
  have hl : s.data.toList.length = s.size := by simp
  have e1 : (s.extract m s.size).toList = s.data.toList.drop (s.data.toList.length - 4) := by
    rw [ByteArray.toList_eq, ByteArray.data_extract, Array.toList_extract, List.extract_eq_take_drop, hl, show s.size - 4 = m by omega]
    exact List.take_of_length_le (by simp)
  have e2 : (s.extract 0 m).data.toList = s.data.toList.take (s.data.toList.length - 4) := by
    rw [ByteArray.data_extract, Array.toList_extract, List.extract_eq_take_drop, hl, show s.size - 4 = m by omega]
    simp
  rw [e1, e2, ByteArray.toList_eq, str_list, Bool.eq_iff_iff, unOk_iff, hl]
  simp only [beq_iff_eq]
  constructor
  · intro h; exact ⟨by omega, by omega, h⟩
  · intro h; exact h.2.2

set_option maxHeartbeats 1600000 in
set_option maxRecDepth 100000 in
theorem specUnsealed_in (s : ByteArray) (m : Nat) (w : World) (hm : m + 4 = s.size) (hs : s.size ≤ 20004) :
    Calls Tryz.prog 9 #[.string s] w fun e w' => e = .returned (usVal s.data.toList) ∧ Below w.heap.size w w' := by
  have HT : Hid (_ = _) := un_test s m hm hs
  have HX : Hid (str (s.data.toList.take (s.data.toList.length - 4)) = s.extract 0 m) := by
    have hl : s.data.toList.length = s.size := by simp
    apply ByteArray.ext
    apply Array.toList_inj.1
    rw [str_list, ByteArray.data_extract, Array.toList_extract, List.extract_eq_take_drop, hl, show s.size - 4 = m by omega]
    simp
  have g1 : (s.size : Int) ≤ (m : Int) + 4 := by omega
  have g2 : (m : Int) + 4 ≤ (s.size : Int) := by omega
  have e1 : (s.size : Int) - 4 = (m : Int) := by omega
  have hlt := sumB_lt (s.extract 0 m).data.toList 4294967295 (by omega)
  have hsz : (s.extract 0 m).size ≤ 1048576 := by rw [ByteArray.size_extract]; omega
  have HS : Hid (∀ W, _) := fun W => specSumOf_any (s.extract 0 m) W hsz
  have HF : Hid (∀ W, _) := fun W => four_any (sumB 4294967295 (s.extract 0 m).data.toList) W hlt
  clear hlt hsz
  generalize sumB 4294967295 (s.extract 0 m).data.toList = v at *
  generalize str (four v) = F at *
  have g3 : (0 : Int) ≤ (m : Int) := by omega
  have g4 : (m : Int) ≤ (s.size : Int) := by omega
  have d1 : decide ((m : Int) < 0) = false := by simp
  have d2 : decide ((20000 : Int) < (m : Int)) = false := by simp; omega
  go_enter Tryz.func9, Tryz.ntmps9
  go_wp2
  go_region_held3 (fun _ => True) (trivial)
    ((first
      | (go_at_call 24; refine (HS.out _).mono ?_; rintro e w1 ⟨rfl, rfl⟩)
      | (go_at_call 23; refine (HF.out _).mono ?_; rintro e w2 ⟨rfl, hb2⟩)))
  all_goals go_wp2
  all_goals go_ret2
  · have ht : (!(s.extract m s.size).toList == F.toList) = true := by assumption
    rw [HT.out] at ht
    exact ⟨congrArg _ (usVal_no (by simpa using ht)).symm, bel_of_drew hb2⟩
  · have ht : (!(s.extract m s.size).toList == F.toList) = false := by assumption
    rw [HT.out] at ht
    refine ⟨?_, bel_of_drew hb2⟩
    rw [usVal_yes (by simpa using ht), HX.out]
    rfl

theorem unOk_out (s : ByteArray) (h : s.size < 4 ∨ 20004 < s.size) : unOk s.data.toList = false := by
  have hl : s.data.toList.length = s.size := by simp
  cases hh : unOk s.data.toList with
  | false => rfl
  | true => have := (unOk_iff _).1 hh; omega

set_option maxRecDepth 100000 in
theorem specUnsealed_any (s : ByteArray) (w : World) (hs : s.size ≤ 1048576) :
    Calls Tryz.prog 9 #[.string s] w fun e w' => e = .returned (usVal s.data.toList) ∧ Below w.heap.size w w' := by
  by_cases h4 : 4 ≤ s.size
  · by_cases h5 : s.size ≤ 20004
    · exact specUnsealed_in s (s.size - 4) w (by omega) h5
    · have HN : Hid (_ = _) := usVal_no (unOk_out s (.inr (by omega)))
      have d1 : decide ((s.size : Int) - 4 < 0) = false := by simp; omega
      have d2 : decide ((20000 : Int) < (s.size : Int) - 4) = true := by simp; omega
      have d3 : (0 : Int) ≤ (s.size : Int) - 4 := by omega
      have d4 : (20000 : Int) < (s.size : Int) - 4 := by omega
      go_enter Tryz.func9, Tryz.ntmps9
      go_wp2
      go_quiet (fail)
      go_wp2
      go_ret2
      exact ⟨congrArg _ HN.out.symm, bel_drewN (Below.refl _ _) _⟩
  · have HN : Hid (_ = _) := usVal_no (unOk_out s (.inl (by omega)))
    have d1 : decide ((s.size : Int) - 4 < 0) = true := by simp; omega
    have d3 : (s.size : Int) - 4 < 0 := by omega
    go_enter Tryz.func9, Tryz.ntmps9
    go_wp2
    go_quiet (fail)
    go_wp2
    go_ret2
    exact ⟨congrArg _ HN.out.symm, bel_drewN (Below.refl _ _) _⟩

end Go.Proofs.YtokidlklkgghkaaGreatDoor

namespace Go.Proofs.YtokidlklkgghkaaGreatDoor
open Go.RowKit

theorem sealB_len (l : List UInt8) : (sealB l).length = l.length + 4 := by simp [sealB, four_len]

theorem unOk_seal (l : List UInt8) (h : l.length ≤ 20000) : unOk (sealB l) = true := by
  rw [unOk_iff, sealB_len]
  refine ⟨by omega, by omega, ?_⟩
  rw [show l.length + 4 - 4 = l.length by omega]
  simp [sealB]

end Go.Proofs.YtokidlklkgghkaaGreatDoor
