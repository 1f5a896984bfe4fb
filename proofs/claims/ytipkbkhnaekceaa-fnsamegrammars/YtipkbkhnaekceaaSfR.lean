/- The specification's l11Row and l11Alt: whether the names of a row, and below, are known. -/
import Derived.Test.YtipkbkhnaekceaaSfS
import Derived.Test.YtipkbkhnaekceaaFlG0
import Derived.Deep.RegionHeld3
namespace Go.Proofs.Ytipkbkhnaekceaa
open Go.RowKit
set_option linter.unusedVariables false

def RowKn (ns : List SNodeD) (rs : List SRuleD) (i : Nat) : Prop := ∀ (f : Nat) (nv rv u : Value) (known : List ByteArray) (W : World) (hi : i < ns.length), 9 * i + 10 ≤ f → ns[i].kind = 5 → known.length ≤ 6 → SNs W nv ns → SRs W rv rs → SRow W u known →
  Calls Try.prog 85 #[.agg #[nv, rv], .int .i64 i, u] W fun e w' => e = .returned (.bool (knF ns rs f true ns[i].kids known)) ∧ Below W.heap.size W w'
def AltKn (ns : List SNodeD) (rs : List SRuleD) (i : Nat) : Prop := ∀ (f : Nat) (nv rv u : Value) (known : List ByteArray) (W : World) (hi : i < ns.length), 9 * i + 10 ≤ f → ns[i].kind = 6 → known.length ≤ 6 → SNs W nv ns → SRs W rv rs → SRow W u known →
  Calls Try.prog 72 #[.agg #[nv, rv], .int .i64 i, u] W fun e w' => e = .returned (.bool (knF ns rs f false ns[i].kids known)) ∧ Below W.heap.size W w'
theorem keep7s {W W' : World} {a b c d e f g : Addr} {x y z u v p q : Value} (h : W.cell? a = some x ∧ W.cell? b = some y ∧ W.cell? c = some z ∧ W.cell? d = some u ∧ W.cell? e = some v ∧ W.cell? f = some p ∧ W.cell? g = some q) (hb : Below W.heap.size W W') : W'.cell? a = some x ∧ W'.cell? b = some y ∧ W'.cell? c = some z ∧ W'.cell? d = some u ∧ W'.cell? e = some v ∧ W'.cell? f = some p ∧ W'.cell? g = some q :=
  ⟨cell_keep h.1 hb, cell_keep h.2.1 hb, cell_keep h.2.2.1 hb, cell_keep h.2.2.2.1 hb, cell_keep h.2.2.2.2.1 hb, cell_keep h.2.2.2.2.2.1 hb, cell_keep h.2.2.2.2.2.2 hb⟩

set_option maxHeartbeats 12800000 in
set_option maxRecDepth 100000 in
theorem alt_kn (ns : List SNodeD) (rs : List SRuleD) (hS : Shaped ns) (hl : ns.length ≤ 100000) (i : Nat) (ih : ∀ z, z < i → RowKn ns rs z) : AltKn ns rs i := by
  intro f nv rv u known W hi hf h6 hkn hN hR hU
  obtain ⟨an, cn, rfl⟩ := RowC.slice hN
  obtain ⟨ar, cr, rfl⟩ := RowC.slice hR
  obtain ⟨au, cu, rfl⟩ := hU.slice
  have S1 : Hid (SBox ns rs W an ar cn cr (W.alloc (.cells #[.slice an ns.length cn, .slice ar rs.length cr] 81))) := sbox_of hN hR
  have U1 : Hid (SRow (W.alloc (.cells #[.slice an ns.length cn, .slice ar rs.length cr] 81)) (.slice au known.length cu) known) := hU.below S1.out.bel
  have hk8 := ((hS i hi).alt h6).2
  have HK : Hid (∀ j (hj : j < ns[i].kids.length), ∃ z : Nat, ns[i].kids[j] = (z : Int) ∧ z < i ∧ ∃ hz : z < ns.length, ns[z].kind = 5) := fun j hj => by
    obtain ⟨z, e, hzi, hz, _, q, _⟩ := kid_lt hS hi hj
    exact ⟨z, e, hzi, hz, q h6⟩
  have HIh : Hid (∀ z, z < i → RowKn ns rs z) := ih
  have i1 : (i : Int) < (ns.length : Int) := by omega
  clear hN hR hU hS ih h6
  go_enter Try.func72, Try.ntmps72
  go_wp2
  generalize W.alloc (.cells #[.slice an ns.length cn, .slice ar rs.length cr] 81) = W1 at *
  go_loopg [7] ns[i].kids.length (fun gg kv wr => ∃ j : Nat, kv = .int .i64 j ∧ gg + j = ns[i].kids.length ∧ knF ns rs (f - j) false (ns[i].kids.drop j) known = knF ns rs f false ns[i].kids known ∧ SBox ns rs W an ar cn cr wr ∧ SRow wr (.slice au known.length cu) known)
  case atStart => exact ⟨0, rfl, by omega, rfl, S1.out, U1.out⟩
  case round =>
    obtain ⟨j, rfl, hg, hE, hS, hU⟩ := hrel
    have HE : Hid (knF ns rs (f - j) false (ns[i].kids.drop j) known = knF ns rs f false ns[i].kids known) := hE
    have HS : Hid (SBox ns rs W an ar cn cr wr) := hS
    have HU : Hid (SRow wr (.slice au known.length cu) known) := hU
    obtain ⟨b, off, aa, ca, ka, ck, rfl, n0, _, _, _, n4, _, hZ⟩ := sNs_at hS.nod hi
    have c0 := run_cell (j := 0) hS.box rfl
    have c1 := run_cell (j := 1) hS.box rfl
    clear hE hS hU S1 U1
    by_cases hj : j < ns[i].kids.length
    · obtain ⟨z, hz, hzi, hzl, hz5⟩ := HK.out j hj
      obtain ⟨kb, ko, rfl, hkc⟩ := hZ.at hj
      have i2 : (j : Int) < (ns[i].kids.length : Int) := by omega
      have d1 : decide ((j : Int) < (ns[i].kids.length : Int)) = true := decide_eq_true i2
      have i3 : (z : Int) < (ns.length : Int) := by omega
      obtain ⟨f', hf'⟩ : ∃ f', f - j = f' + 1 := ⟨f - j - 1, by omega⟩
      have HD : Hid (knF ns rs f false ns[i].kids known = (knF ns rs f' true ns[z].kids known && knF ns rs f' false (ns[i].kids.drop (j + 1)) known)) := by rw [Hid, ← HE.out, hf', List.drop_eq_getElem_cons hj, knF_alt, hz, nodeS_is hzl]
      have HNx : Hid (f - (j + 1) = f') := by rw [Hid]; omega
      have HC : Hid (∀ W', Below wr.heap.size wr W' → _) := fun W' hb => HIh.out z hzi f' (.slice (some ⟨b, off, none⟩) ns.length cn) (.slice ar rs.length cr) (.slice au known.length cu) known W' hzl (by omega) hz5 hkn (sNs_below HS.out.nod hb) (sRs_below HS.out.rul hb) (HU.out.below hb)
      rw [hz] at hkc
      clear hz hzi hz5 HE hZ hf' hf
      cases hb : knF ns rs f' true ns[z].kids known with
      | true =>
        rw [hb] at HC HD
        have HY : Hid (knF ns rs (f - (j + 1)) false (ns[i].kids.drop (j + 1)) known = knF ns rs f false ns[i].kids known) := by rw [Hid, HNx.out, HD.out, Bool.true_and]
        have w1 : IntKind.i64.wrap ((j : Int) + 1) = ((j + 1 : Nat) : Int) := by rw [IntKind.wrap_i64]; omega
        obtain ⟨f2, rfl⟩ : ∃ f2, gk = f2 + 1 := ⟨gk - 1, by omega⟩
        clear hb HD
        go_wp2
        go_region_held3 (fun V => V.cell? ⟨W.heap.size, 0, none⟩ = some (.slice (some ⟨b, off, none⟩) ns.length cn) ∧ V.cell? ⟨W.heap.size, 1, none⟩ = some (.slice ar rs.length cr) ∧ V.cell? ⟨b, off + i * 5 + 4, none⟩ = some (.slice (some ⟨kb, ko, none⟩) ns[i].kids.length ck) ∧ V.cell? ⟨kb, ko + j, none⟩ = some (.int .i64 z))
          ((first | exact keep4 (by assumption) hb2 | go_keep))
          ((first | (go_at_call 85; refine (HC.out _ (bel_drewS (Below.refl _ _))).mono ?_; rintro e w2 ⟨rfl, hb2⟩)))
        have HS2 : Hid (SBox ns rs W (some ⟨b, off, none⟩) ar cn cr w2) := HS.out.step (bel_of_drew hb2)
        have HU2 : Hid (SRow w2 (.slice au known.length cu) known) := HU.out.below (bel_of_drew hb2)
        clear hb2 HS HU
        go_wp2
        go_roundg f2
        case measure => omega
        case rel => exact ⟨j + 1, by go_num, by omega, HY.out, HS2.out, HU2.out⟩
      | false =>
        rw [hb] at HC HD
        have HV : Hid (knF ns rs f false ns[i].kids known = false) := by rw [Hid, HD.out, Bool.false_and]
        clear hb HD
        go_wp2
        go_region_held3 (fun V => V.cell? ⟨W.heap.size, 0, none⟩ = some (.slice (some ⟨b, off, none⟩) ns.length cn) ∧ V.cell? ⟨W.heap.size, 1, none⟩ = some (.slice ar rs.length cr) ∧ V.cell? ⟨b, off + i * 5 + 4, none⟩ = some (.slice (some ⟨kb, ko, none⟩) ns[i].kids.length ck) ∧ V.cell? ⟨kb, ko + j, none⟩ = some (.int .i64 z))
          ((first | exact keep4 (by assumption) hb2 | go_keep))
          ((first | (go_at_call 85; refine (HC.out _ (bel_drewS (Below.refl _ _))).mono ?_; rintro e w2 ⟨rfl, hb2⟩)))
        have HB2 : Hid (Below W.heap.size W w2) := (HS.out.step (bel_of_drew hb2)).bel
        clear hb2 HS HU
        go_wp2
        go_ret
        rw [HV.out]
        exact ⟨rfl, HB2.out⟩
    · have d1 : decide ((j : Int) < (ns[i].kids.length : Int)) = false := decide_eq_false (by omega)
      have HV : Hid (knF ns rs f false ns[i].kids known = true) := by rw [Hid, ← HE.out, List.drop_of_length_le (by omega), knF_nil]
      clear HE hZ
      go_wp2
      go_ret
      rw [HV.out]
      exact ⟨rfl, HS.out.bel⟩

end Go.Proofs.Ytipkbkhnaekceaa
