/- The specification's climber: atom, climb, and Climb, walked. -/
import Derived.Test.YtkojkicfibmjdaaOpM
namespace Go.Proofs.Ytkojkicfibmjdaa
open Go.RowKit
set_option linter.unusedVariables false

/-- What atom and climb are asked for, at a fuel. -/
def AtomC (xs : List OpD) (text : ByteArray) (f : Nat) : Prop := ∀ (W : World) (a : Option Addr) (cap p : Nat) (c : ClD) (w : World), c.at' ≤ text.size → 3 * (text.size - c.at') + 1 ≤ f → ClB W xs a cap text p c w →
  Calls Try.prog 42 #[.pointer (some ⟨p, 0, none⟩)] w fun e w' => e = .returned (.string (clF xs text f .atom c).2) ∧ ClB W xs a cap text p (clF xs text f .atom c).1 w'
def ClimbC (xs : List OpD) (text : ByteArray) (f : Nat) : Prop := ∀ (W : World) (a : Option Addr) (cap p : Nat) (c : ClD) (least : Int) (w : World), c.at' ≤ text.size → 3 * (text.size - c.at') + 2 ≤ f → ClB W xs a cap text p c w →
  Calls Try.prog 28 #[.pointer (some ⟨p, 0, none⟩), .int .i64 least] w fun e w' => e = .returned (.string (clF xs text f (.climb least) c).2) ∧ ClB W xs a cap text p (clF xs text f (.climb least) c).1 w'

set_option maxHeartbeats 6400000 in
set_option maxRecDepth 100000 in
theorem atom_of (xs : List OpD) (text : ByteArray) (ho : opsB xs = true) (ht : text.size ≤ 12) (f : Nat) (ih : ClimbC xs text f) : AtomC xs text (f + 1) := by
  intro W a cap p c w hc hf h
  have H : Hid (ClB W xs a cap text p c w) := h
  have c0 := run_cell (j := 0) h.box rfl
  have c1 := run_cell (j := 1) h.box rfl
  have c2 := run_cell (j := 2) h.box rfl
  have c3 := run_cell (j := 3) h.box rfl
  have f2 := run_frozen (j := 2) h.box
  have f3 := run_frozen (j := 3) h.box
  have HIh : Hid (ClimbC xs text f) := ih
  have HO : Hid (opsB xs = true) := ho
  clear h ih ho
  by_cases hbad : c.bad = true
  · have HV : Hid (clF xs text (f + 1) .atom c = (⟨c.at', true⟩, ⟨#[]⟩)) := by rw [Hid, clF, if_pos (.inl hbad)]
    rw [hbad] at c3
    go_enter Try.func42, Try.ntmps42
    go_wp2
    go_quiet (fail)
    go_wp2
    go_ret
    rw [HV.out]
    exact ⟨rfl, (H.out.drewN _).set3 true⟩
  have hbf : c.bad = false := by simpa using hbad
  rw [hbf] at c3
  by_cases hsz : text.size ≤ c.at'
  · have HV : Hid (clF xs text (f + 1) .atom c = (⟨c.at', true⟩, ⟨#[]⟩)) := by rw [Hid, clF, if_pos (.inr hsz)]
    have d1 : decide ((text.size : Int) ≤ (c.at' : Int)) = true := decide_eq_true (by omega)
    go_enter Try.func42, Try.ntmps42
    go_wp2
    go_quiet (fail)
    go_wp2
    go_ret
    rw [HV.out]
    exact ⟨rfl, (H.out.drewN _).set3 true⟩
  have hlt : c.at' < text.size := by omega
  have d1 : decide ((text.size : Int) ≤ (c.at' : Int)) = false := decide_eq_false (by omega)
  have d1' : decide ((c.at' : Int) ≥ (text.size : Int)) = false := decide_eq_false (by omega)
  have j0 : (0 : Int) ≤ (c.at' : Int) := by omega
  have j1 : (c.at' : Int) < (text.size : Int) := by omega
  have w1 : IntKind.i64.wrap ((c.at' : Int) + 1) = ((c.at' + 1 : Nat) : Int) := by rw [IntKind.wrap_i64]; omega
  have hu := text[c.at'].toNat_lt
  have HF : Hid (∀ V : World, _) := fun V => figO_any text[c.at'].toNat V
  have HFg : Hid (fig13 (byteAt text c.at') = (decide (48 ≤ text[c.at'].toNat) && decide (text[c.at'].toNat ≤ 57))) := by rw [Hid, byteAt_is hlt]; rfl
  have HBy : Hid (byteAt text c.at' = text[c.at']) := byteAt_is hlt
  have HS2 : Hid (∀ q : Nat, ClB W xs a cap text p ⟨c.at' + 1, false⟩ ((w.drewN q).setCell ⟨p, 2, none⟩ (.int .i64 ((c.at' : Int) + 1)))) := fun q => by
    have := (H.out.drewN q).set2 (c.at' + 1)
    rw [hbf, show ((c.at' + 1 : Nat) : Int) = (c.at' : Int) + 1 by omega] at this
    exact this
  have e1 : ∀ q : Nat, ((w.drewN q).setCell ⟨p, 2, none⟩ (.int .i64 ((c.at' : Int) + 1))).cell? ⟨p, 1, none⟩ = some (.string text) := fun q => run_cell (j := 1) (HS2.out q).box rfl
  have e2 : ∀ q : Nat, ((w.drewN q).setCell ⟨p, 2, none⟩ (.int .i64 ((c.at' : Int) + 1))).cell? ⟨p, 2, none⟩ = some (.int .i64 ((c.at' : Int) + 1)) := fun q => by
    have h := run_cell (j := 2) (HS2.out q).box rfl
    exact h.trans (congrArg (fun z => some (Value.int .i64 z)) (show ((c.at' + 1 : Nat) : Int) = (c.at' : Int) + 1 by omega))
  have e3 : ∀ q : Nat, ((w.drewN q).setCell ⟨p, 2, none⟩ (.int .i64 ((c.at' : Int) + 1))).cell? ⟨p, 3, none⟩ = some (.bool false) := fun q => run_cell (j := 3) (HS2.out q).box rfl
  have e4 : ∀ q : Nat, ((w.drewN q).setCell ⟨p, 2, none⟩ (.int .i64 ((c.at' : Int) + 1))).frozen? ⟨p, 3, none⟩ = false := fun q => run_frozen (j := 3) (HS2.out q).box
  by_cases hfig : (decide (48 ≤ text[c.at'].toNat) && decide (text[c.at'].toNat ≤ 57)) = true
  · have HV : Hid (clF xs text (f + 1) .atom c = (⟨c.at' + 1, false⟩, text.extract c.at' (c.at' + 1))) := by rw [Hid, clF, if_neg (fun h => h.elim hbad hsz), if_pos (by rw [HFg.out, hfig]), hbf]
    rw [hfig] at HF
    have k2 : IntKind.i64.wrap ((c.at' : Int) + 1 - 1) = (c.at' : Int) := by rw [IntKind.wrap_i64]; omega
    have k3 : (c.at' : Int) ≤ (c.at' : Int) + 1 := by omega
    have k4 : (c.at' : Int) + 1 ≤ (text.size : Int) := by omega
    have k5 : (c.at' : Int) + 1 - 1 = (c.at' : Int) := by omega
    clear hfig HFg HBy
    go_enter Try.func42, Try.ntmps42
    go_wp2
    go_quiet (fail)
    go_wp2
    go_quiet (fail)
    go_wp2_with (go_at_call 48; refine (HF.out _).mono ?_; rintro e wq ⟨rfl, hw⟩; rw [hw]; clear hw)
    go_quiet (fail)
    go_wp2
    go_ret
    rw [HV.out]
    exact ⟨rfl, (HS2.out _).drewN _⟩
  have hfg : (decide (48 ≤ text[c.at'].toNat) && decide (text[c.at'].toNat ≤ 57)) = false := by simpa using hfig
  rw [hfg] at HF HFg
  by_cases h40 : text[c.at'] = 40
  · have q40 : ((text[c.at'].toNat : Int) != 40) = false := by rw [h40]; rfl
    have q40' : ((text[c.at'].toNat : Int) == 40) = true := by rw [h40]; rfl
    have HC : Hid (∀ w5 : World, ClB W xs a cap text p ⟨c.at' + 1, false⟩ w5 → Calls Try.prog 28 #[.pointer (some ⟨p, 0, none⟩), .int .i64 0] w5 fun e w' => e = .returned (.string (clF xs text f (.climb 0) ⟨c.at' + 1, false⟩).2) ∧ ClB W xs a cap text p (clF xs text f (.climb 0) ⟨c.at' + 1, false⟩).1 w') := fun w5 h5 => HIh.out W a cap p ⟨c.at' + 1, false⟩ 0 w5 (by show c.at' + 1 ≤ _; omega) (by show 3 * (text.size - (c.at' + 1)) + 2 ≤ f; omega) h5
    have HV : Hid (clF xs text (f + 1) .atom c = (match clF xs text f (.climb 0) ⟨c.at' + 1, false⟩ with | (d, s) => if d.bad = true ∨ text.size ≤ d.at' ∨ ¬ byteAt text d.at' = 41 then (⟨d.at', true⟩, ⟨#[]⟩) else (⟨d.at' + 1, d.bad⟩, s))) := by rw [Hid, clF, if_neg (fun h => h.elim hbad hsz), if_neg (by rw [HFg.out]; decide), if_neg (fun h => h (by rw [HBy.out, h40])), hbf]
    have hI := clF_inv HO.out text f (.climb 0) ⟨c.at' + 1, false⟩ (by show c.at' + 1 ≤ _; omega)
    generalize clF xs text f (.climb 0) ⟨c.at' + 1, false⟩ = R at *
    obtain ⟨d, s⟩ := R
    have hd : d.at' ≤ text.size := hI.2.1
    clear hI HFg HBy hfig hfg h40 HIh
    go_enter Try.func42, Try.ntmps42
    go_wp2
    go_quiet (fail)
    go_wp2
    go_quiet (fail)
    go_wp2_with (first | (go_at_call 48; refine (HF.out _).mono ?_; rintro e wq ⟨rfl, hw⟩; rw [hw]; clear hw) | (go_at_call 28; refine (HC.out _ (HS2.out _)).mono ?_; rintro e w6 ⟨rfl, h6⟩; have g1 := run_cell (j := 1) h6.box rfl; have g2 := run_cell (j := 2) h6.box rfl; have g3 := run_cell (j := 3) h6.box rfl; have k3 := run_frozen (j := 3) h6.box; have k2 := run_frozen (j := 2) h6.box))
    have H6 : Hid (ClB W xs a cap text p d w6) := h6
    clear h6 HS2 e1 e2 e3 e4
    by_cases hb : d.bad = true
    · have HW : Hid (clF xs text (f + 1) .atom c = (⟨d.at', true⟩, ⟨#[]⟩)) := by rw [Hid, HV.out]; exact if_pos (.inl hb)
      have g3' : w6.cell? ⟨p, 3, none⟩ = some (.bool true) := by rw [← hb]; exact g3
      clear g3
      go_quiet (fail)
      go_wp2
      go_ret
      rw [HW.out]
      exact ⟨rfl, (H6.out.drewN _).set3 true⟩
    have hb' : d.bad = false := by simpa using hb
    have g3' : w6.cell? ⟨p, 3, none⟩ = some (.bool false) := by rw [← hb']; exact g3
    clear g3
    have g2' : w6.cell? ⟨p, 2, none⟩ = some (.int .i64 (d.at' : Int)) := g2
    have g1' : w6.cell? ⟨p, 1, none⟩ = some (.string text) := g1
    clear g1 g2
    by_cases hz : text.size ≤ d.at'
    · have HW : Hid (clF xs text (f + 1) .atom c = (⟨d.at', true⟩, ⟨#[]⟩)) := by rw [Hid, HV.out]; exact if_pos (.inr (.inl hz))
      have d2 : decide ((text.size : Int) ≤ (d.at' : Int)) = true := decide_eq_true (by omega)
      go_quiet (fail)
      go_wp2
      go_ret
      rw [HW.out]
      exact ⟨rfl, (H6.out.drewN _).set3 true⟩
    have hz' : d.at' < text.size := by omega
    have d2 : decide ((text.size : Int) ≤ (d.at' : Int)) = false := decide_eq_false (by omega)
    have l0 : (0 : Int) ≤ (d.at' : Int) := by omega
    have l1 : (d.at' : Int) < (text.size : Int) := by omega
    have hu2 := text[d.at'].toNat_lt
    by_cases h41 : text[d.at'] = 41
    · have HW : Hid (clF xs text (f + 1) .atom c = (⟨d.at' + 1, false⟩, s)) := by
        rw [Hid, HV.out]
        refine (if_neg ?_).trans (by rw [hb'])
        rintro (h | h | h)
        · exact hb h
        · exact hz h
        · exact h (by rw [byteAt_is hz', h41])
      have q41 : ((text[d.at'].toNat : Int) != 41) = false := by rw [h41]; rfl
      have w2 : IntKind.i64.wrap ((d.at' : Int) + 1) = ((d.at' + 1 : Nat) : Int) := by rw [IntKind.wrap_i64]; omega
      have HS7 : Hid (∀ q : Nat, ClB W xs a cap text p ⟨d.at' + 1, false⟩ ((w6.drewN q).setCell ⟨p, 2, none⟩ (.int .i64 ((d.at' : Int) + 1)))) := fun q => by
        have := (H6.out.drewN q).set2 (d.at' + 1)
        rw [hb', show ((d.at' + 1 : Nat) : Int) = (d.at' : Int) + 1 by omega] at this
        exact this
      clear h41
      go_quiet (fail)
      go_wp2
      go_ret
      rw [HW.out]
      exact ⟨rfl, HS7.out _⟩
    · have HW : Hid (clF xs text (f + 1) .atom c = (⟨d.at', true⟩, ⟨#[]⟩)) := by
        rw [Hid, HV.out]
        exact if_pos (.inr (.inr (by rw [byteAt_is hz']; exact h41)))
      have q41 : ((text[d.at'].toNat : Int) != 41) = true := by
        rw [bne_iff_ne]
        intro e
        exact h41 (UInt8.toNat_inj.1 (by have : (text[d.at'].toNat : Int) = 41 := e; show text[d.at'].toNat = 41; omega))
      clear h41
      go_quiet (fail)
      go_wp2
      go_ret
      rw [HW.out]
      exact ⟨rfl, (H6.out.drewN _).set3 true⟩
  · have HV : Hid (clF xs text (f + 1) .atom c = (⟨c.at' + 1, true⟩, ⟨#[]⟩)) := by rw [Hid, clF, if_neg (fun h => h.elim hbad hsz), if_neg (by rw [HFg.out]; decide), if_pos (by rw [HBy.out]; exact h40)]
    have q40 : ((text[c.at'].toNat : Int) != 40) = true := by
      rw [bne_iff_ne]
      intro e
      exact h40 (UInt8.toNat_inj.1 (by have : (text[c.at'].toNat : Int) = 40 := e; show text[c.at'].toNat = 40; omega))
    clear hfig hfg h40 HFg HBy
    go_enter Try.func42, Try.ntmps42
    go_wp2
    go_quiet (fail)
    go_wp2
    go_quiet (fail)
    go_wp2_with (go_at_call 48; refine (HF.out _).mono ?_; rintro e wq ⟨rfl, hw⟩; rw [hw]; clear hw)
    go_ret
    rw [HV.out]
    exact ⟨rfl, (HS2.out _).set3 true⟩


set_option maxHeartbeats 6400000 in
set_option maxRecDepth 100000 in
theorem climb_of (xs : List OpD) (text : ByteArray) (ho : opsB xs = true) (ht : text.size ≤ 12) (f : Nat) (ihA : AtomC xs text f) (ihC : ∀ g, g < f → ClimbC xs text g) : ClimbC xs text (f + 1) := by
  intro W a cap p c least w hc hf h
  have hA := ihA W a cap p c w hc (by omega) h
  have HA : Hid (Calls Try.prog 42 #[.pointer (some ⟨p, 0, none⟩)] w fun e w' => e = .returned (.string (clF xs text f .atom c).2) ∧ ClB W xs a cap text p (clF xs text f .atom c).1 w') := hA
  have HIh : Hid (∀ g, g < f → ClimbC xs text g) := ihC
  have HO : Hid (opsB xs = true) := ho
  have hI := clF_inv ho text f .atom c hc
  have HT : Hid (clF xs text (f + 1) (.climb least) c = (match clF xs text f .atom c with | (d, s) => clF xs text f (.loop least s) d)) := by rw [Hid, clF]
  have hl6 := (ops_len ho).2
  clear hA h ihA ihC ho
  generalize clF xs text (f + 1) (.climb least) c = T at *
  generalize clF xs text f .atom c = R at *
  obtain ⟨d0, s0⟩ := R
  obtain ⟨i1, i2, i3⟩ := hI
  have i1 : c.at' ≤ d0.at' := i1
  have i2 : d0.at' ≤ text.size := i2
  have i3 : s0.size ≤ 0 + 4 * (d0.at' - c.at') := i3
  have HT : Hid (clF xs text f (.loop least s0) d0 = T) := HT.out.symm
  go_enter Try.func28, Try.ntmps28
  go_wp2_with fail
  refine HA.out.mono ?_
  rintro e w1 ⟨rfl, h1⟩
  have H1 : Hid (ClB W xs a cap text p d0 w1) := h1
  clear h1 HA
  go_wp2
  go_loopg [5] f (fun gg sv wr => ∃ (s : ByteArray) (d : ClD), sv = .string s ∧ clF xs text gg (.loop least s) d = T ∧ 1 ≤ gg ∧ gg ≤ f ∧ (d.bad = false → 3 * (text.size - d.at') + 1 ≤ gg) ∧ d.at' ≤ text.size ∧ s.size + 4 * (text.size - d.at') ≤ 48 ∧ ClB W xs a cap text p d wr)
  case atStart => exact ⟨s0, d0, rfl, HT.out, by omega, Nat.le_refl _, fun _ => by omega, i2, by omega, H1.out⟩
  case round =>
    obtain ⟨s, d, rfl, hE, hg1, hgf, hgb, hd, hs, hB⟩ := hrel
    have HE : Hid (clF xs text gk (.loop least s) d = T) := hE
    have HB : Hid (ClB W xs a cap text p d wr) := hB
    have HOp : Hid (∀ V : World, ClB W xs a cap text p d V → Calls Try.prog 43 #[.pointer (some ⟨p, 0, none⟩)] V fun e w' => e = .returned (.int .i64 (opI (next13 xs text d))) ∧ ClB W xs a cap text p d w') := fun V hV => opOf_any W xs a cap text p d V (by omega) (by omega) hd hV
    clear hE hB H1 HT
    obtain ⟨g, rfl⟩ : ∃ g, gk = g + 1 := ⟨gk - 1, by omega⟩
    have HU : Hid (T = (match next13 xs text d with | none => (d, s) | some k => if (xs.getD k default).level < least then (d, s) else match clF xs text g (.climb (lev13 (xs.getD k default))) ⟨d.at' + 1, d.bad⟩ with | (d', t) => if d'.bad = true then (d', ⟨#[]⟩) else clF xs text g (.loop least (two13 s (xs.getD k default) t)) d')) := by rw [Hid, ← HE.out]; rfl
    clear HE
    cases hn : next13 xs text d with
    | none =>
      rw [hn] at HOp HU
      have HU : Hid (T = (d, s)) := HU.out
      clear hn
      go_wp2_with fail
      refine (HOp.out _ HB.out).mono ?_
      rintro e w2 ⟨rfl, h2⟩
      have H2 : Hid (ClB W xs a cap text p d w2) := h2
      clear h2
      have q0 : opI none < 0 := by decide
      have q1 : opI none = -1 := rfl
      rw [q1] at *
      go_wp2
      go_ret
      rw [HU.out]
      exact ⟨rfl, H2.out⟩
    | some k =>
      obtain ⟨k1, k2, k3⟩ := next13_lt hn
      rw [hn] at HOp HU
      obtain ⟨hsg, hl1, hl9⟩ := sign_one HO.out (List.getElem_mem k1)
      have HU : Hid (T = (if xs[k].level < least then (d, s) else match clF xs text g (.climb (lev13 xs[k])) ⟨d.at' + 1, d.bad⟩ with | (d', t) => if d'.bad = true then (d', ⟨#[]⟩) else clF xs text g (.loop least (two13 s xs[k] t)) d')) := by
        have h := HU.out
        simp only [getD_is k1] at h
        exact h
      have q1 : opI (some k) = (k : Int) := rfl
      rw [q1] at HOp
      have hgk := hgb k2
      clear hn hgb q1
      go_wp2_with fail
      refine (HOp.out _ HB.out).mono ?_
      rintro e w2 ⟨rfl, h2⟩
      have H2 : Hid (ClB W xs a cap text p d w2) := h2
      have c0 := run_cell (j := 0) h2.box rfl
      have c2 := run_cell (j := 2) h2.box rfl
      have f2 := run_frozen (j := 2) h2.box
      obtain ⟨b, off, rfl, n0, n1, n2⟩ := h2.row.at k1
      clear h2 HOp
      have z0 : ¬ (k : Int) < 0 := by omega
      have z1 : (k : Int) < (xs.length : Int) := by omega
      by_cases hlv : xs[k].level < least
      · rw [if_pos hlv] at HU
        have dl : decide (xs[k].level < least) = true := decide_eq_true hlv
        go_wp2
        go_ret
        rw [HU.out]
        exact ⟨rfl, H2.out⟩
      · rw [if_neg hlv] at HU
        have dl : decide (xs[k].level < least) = false := decide_eq_false hlv
        have w5 : IntKind.i64.wrap ((d.at' : Int) + 1) = (d.at' : Int) + 1 := by rw [IntKind.wrap_i64]; omega
        have w6 : IntKind.i64.wrap (xs[k].level + 1) = xs[k].level + 1 := by rw [IntKind.wrap_i64]; omega
        have H3 : Hid (ClB W xs (some ⟨b, off, none⟩) cap text p ⟨d.at' + 1, d.bad⟩ (w2.setCell ⟨p, 2, none⟩ (.int .i64 ((d.at' : Int) + 1)))) := by
          have := H2.out.set2 (d.at' + 1)
          rw [show ((d.at' + 1 : Nat) : Int) = (d.at' : Int) + 1 by omega] at this
          exact this
        have v0 := run_cell (j := 0) H3.out.box rfl
        obtain ⟨b', off', hbo, m0, m1, m2⟩ := H3.out.row.at k1
        obtain ⟨rfl, rfl⟩ : b = b' ∧ off = off' := by cases hbo; exact ⟨rfl, rfl⟩
        have hgl : g < f := by omega
        have HC : Hid (∀ V : World, ClB W xs (some ⟨b, off, none⟩) cap text p ⟨d.at' + 1, d.bad⟩ V → Calls Try.prog 28 #[.pointer (some ⟨p, 0, none⟩), .int .i64 (lev13 xs[k])] V fun e w' => e = .returned (.string (clF xs text g (.climb (lev13 xs[k])) ⟨d.at' + 1, d.bad⟩).2) ∧ ClB W xs (some ⟨b, off, none⟩) cap text p (clF xs text g (.climb (lev13 xs[k])) ⟨d.at' + 1, d.bad⟩).1 w') := fun V hV => HIh.out g hgl W _ cap p ⟨d.at' + 1, d.bad⟩ (lev13 xs[k]) V (by show d.at' + 1 ≤ _; omega) (by show 3 * (text.size - (d.at' + 1)) + 2 ≤ g; omega) hV
        have hJ := clF_inv HO.out text g (.climb (lev13 xs[k])) ⟨d.at' + 1, d.bad⟩ (by show d.at' + 1 ≤ _; omega)
        have HLv : Hid (lev13 xs[k] = if xs[k].right = true then xs[k].level else xs[k].level + 1) := rfl
        generalize clF xs text g (.climb (lev13 xs[k])) ⟨d.at' + 1, d.bad⟩ = R at *
        obtain ⟨d1, t⟩ := R
        obtain ⟨j1, j2, j3⟩ := hJ
        have j1 : d.at' + 1 ≤ d1.at' := j1
        have j2 : d1.at' ≤ text.size := j2
        have j3 : t.size ≤ 0 + 4 * (d1.at' - (d.at' + 1)) := j3
        have HU : Hid (T = if d1.bad = true then (d1, ⟨#[]⟩) else clF xs text g (.loop least (two13 s xs[k] t)) d1) := HU.out
        have HTw : Hid (two13 s xs[k] t = ⟨#[40]⟩ ++ s ++ xs[k].sign ++ t ++ ⟨#[41]⟩) := rfl
        clear hbo hlv HIh
        have key : ∀ (P : Prop), (xs[k].right = true → P) → (xs[k].right = false → P) → P := fun P h1 h2 => by
          cases h : xs[k].right
          · exact h2 h
          · exact h1 h
        refine key _ (fun hr => ?_) (fun hr => ?_)
        all_goals
          rw [hr] at m2 n2 HLv
          first | rw [if_pos rfl] at HLv | rw [if_neg (by decide)] at HLv
          rw [HLv.out] at HC
          clear key hr HLv
          go_wp2_with fail
          refine (HC.out _ H3.out).mono ?_
          rintro e w4 ⟨rfl, h4⟩
          have H4 : Hid (ClB W xs (some ⟨b, off, none⟩) cap text p d1 w4) := h4
          have v4 := run_cell (j := 0) h4.box rfl
          have v3 := run_cell (j := 3) h4.box rfl
          obtain ⟨b', off', hbo, o0, o1, o2⟩ := h4.row.at k1
          obtain ⟨rfl, rfl⟩ : b = b' ∧ off = off' := by cases hbo; exact ⟨rfl, rfl⟩
          clear h4 HC hbo
          by_cases hb : d1.bad = true
          · have v3' : w4.cell? ⟨p, 3, none⟩ = some (.bool true) := by rw [← hb]; exact v3
            rw [if_pos hb] at HU
            clear v3
            go_wp2
            go_ret
            rw [HU.out]
            exact ⟨rfl, H4.out⟩
          · have hb' : d1.bad = false := by simpa using hb
            have v3' : w4.cell? ⟨p, 3, none⟩ = some (.bool false) := by rw [← hb']; exact v3
            rw [if_neg hb] at HU
            have e1 : (⟨#[40]⟩ : ByteArray).size = 1 := rfl
            have e2 : (⟨#[41]⟩ : ByteArray).size = 1 := rfl
            have hs2 : (two13 s xs[k] t).size = s.size + t.size + 3 := by
              rw [HTw.out]
              simp only [ByteArray.size_append, hsg, e1, e2]
              omega
            have Hs2 : Hid ((two13 s xs[k] t).size = s.size + t.size + 3) := hs2
            clear v3 hs2 e1 e2
            generalize xs[k].sign = sg at *
            go_wp2
            go_roundg g
            case measure => omega
            case rel => exact ⟨two13 s xs[k] t, d1, by rw [HTw.out], HU.out.symm, by omega, by omega, fun _ => by omega, j2, by have := Hs2.out; omega, H4.out⟩

end Go.Proofs.Ytkojkicfibmjdaa
