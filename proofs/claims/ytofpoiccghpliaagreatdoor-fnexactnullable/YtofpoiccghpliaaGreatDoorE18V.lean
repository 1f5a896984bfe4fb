/- The program's RuleAt: slices.IndexFunc with a closure that knows the name. -/
/- What a Sym may begin with, as the program tells it. -/
import Derived.Test.YtofpoiccghpliaaGreatDoorGRule
import Derived.Test.YtofpoiccghpliaaGreatDoorTab
import Derived.Test.YtofpoiccghpliaaGreatDoorSetTold2
namespace Go.Proofs.YtofpoiccghpliaaGreatDoor
open Go.RowKit

set_option maxHeartbeats 1600000 in
theorem ruleAt1_any (b : Bool) (nm name : ByteArray) (p0 p1 : Value) (B : Nat) (w : World) (he : decide (nm = name) = b) (hB : w.cell? ⟨B, 0, none⟩ = some (.string name)) :
    Calls Tryz.prog 77 #[.agg #[.string nm, p0, p1], .pointer (some ⟨B, 0, none⟩)] w fun e w' => e = .returned (.bool b) ∧ Below w.heap.size w w' := by
  have BW : Hid (Below w.heap.size w (w.alloc (.cells #[.string nm, p0, p1] 43))) := (Below.refl _ _).alloc (Nat.le_refl _) _
  have n0 : (w.alloc (.cells #[.string nm, p0, p1] 43)).cell? ⟨w.heap.size, 0, none⟩ = some (.string nm) := box_at _ _ _ 0 _ rfl
  have n1 : (w.alloc (.cells #[.string nm, p0, p1] 43)).cell? ⟨B, 0, none⟩ = some (.string name) := cell_keep hB BW.out
  by_cases hq : nm = name
  · have hq' := beq_yes hq
    have hb : b = true := by rw [← he, decide_eq_true hq]
    subst hb
    clear he hB hq
    go_enter Tryz.func77, Tryz.ntmps77
    go_wp2

    go_ret
    exact ⟨rfl, BW.out⟩
  · have hq' := beq_no hq
    have hb : b = false := by rw [← he, decide_eq_false hq]
    subst hb
    clear he hB hq
    go_enter Tryz.func77, Tryz.ntmps77
    go_wp2
    go_ret
    exact ⟨rfl, BW.out⟩

set_option maxHeartbeats 1600000 in
theorem indexFunc_any (v : Value) (rs : List RuleD) (name : ByteArray) (B : Nat) (w : World) (hn : rs.length ≤ 1048576) (h : RowC 3 RuleE w v rs) (hB : w.cell? ⟨B, 0, none⟩ = some (.string name)) :
    Calls Tryz.prog 76 #[v, .func (.func 77) #[] #[.pointer (some ⟨B, 0, none⟩)]] w fun e w' => e = .returned (.int .i64 (ruleAtI rs name)) ∧ Below w.heap.size w w' := by
  obtain ⟨a, cap, rfl⟩ := h.slice
  have HR : Hid (RowC 3 RuleE w (.slice a rs.length cap) rs) := h
  have HC : Hid (w.cell? ⟨B, 0, none⟩ = some (.string name)) := hB
  clear h hB
  go_enter Tryz.func76, Tryz.ntmps76
  go_wp2
  go_loopw [8] (fun iv wr => ∃ k : Nat, iv = .int .i64 k ∧ k ≤ rs.length ∧ atF name k (rs.drop k) = ruleAtI rs name ∧ Below w.heap.size w wr) (fun iv _ => rs.length - (intOf iv).toNat)
  case atStart => exact ⟨0, rfl, Nat.zero_le _, rfl, Below.refl _ _⟩
  case round =>
    obtain ⟨k, rfl, hk, hat, hbw⟩ := hrel
    have HA : Hid (atF name k (rs.drop k) = ruleAtI rs name) := hat
    have BW : Hid (Below w.heap.size w wr) := hbw
    clear hat hbw
    by_cases hlt : k < rs.length
    · have HD : Hid (_ = _) := atF_drop rs name k hlt
      obtain ⟨b, off, vs, rfl, _, hc, hE⟩ := (RowC.below RuleE_stable HR.out BW.out).at hlt
      obtain ⟨r0, r1, rfl, _, _⟩ := hE
      have n0 : wr.cell? ⟨b, off + k * 3, none⟩ = some (.string rs[k].name) := hc 0 (by simp)
      have n1 : wr.cell? ⟨b, off + k * 3 + 1, none⟩ = some r0 := hc 1 (by simp)
      have n2 : wr.cell? ⟨b, off + k * 3 + 2, none⟩ = some r1 := hc 2 (by simp)
      have i4 : (k : Int) < (rs.length : Int) := by omega
      clear hc
      have HCl : Hid (∀ b, decide (rs[k].name = name) = b → _) := fun b he => ruleAt1_any b rs[k].name name r0 r1 B wr he (cell_keep HC.out BW.out)
      by_cases he : rs[k].name = name
      · have HC2 : Hid (∀ _ : Unit, _) := fun _ => HCl.out true (decide_eq_true he)
        have HV : Hid (ruleAtI rs name = (k : Int)) := by rw [Hid, ← HA.out, HD.out, if_pos he]
        clear HCl he
        go_wp2_with (go_at_call 77; refine (HC2.out ()).mono ?_; rintro e w1 ⟨rfl, hb1⟩)
        go_ret
        rw [HV.out]
        exact ⟨rfl, BW.out.trans (hb1.mono BW.out.size)⟩
      · have HC2 : Hid (∀ _ : Unit, _) := fun _ => HCl.out false (decide_eq_false he)
        have HN : Hid (atF name (k + 1) (rs.drop (k + 1)) = ruleAtI rs name) := by rw [Hid, ← HA.out, HD.out, if_neg he]
        clear HCl he
        go_wp2_with (go_at_call 77; refine (HC2.out ()).mono ?_; rintro e w1 ⟨rfl, hb1⟩)
        go_roundw
        case rel => exact ⟨k + 1, by go_num, by omega, HN.out, BW.out.trans (hb1.mono BW.out.size)⟩
        case measure => simp [intOf]; omega
    · obtain rfl : k = rs.length := by omega
      have HV : Hid (ruleAtI rs name = -1) := by rw [Hid, ← HA.out, List.drop_of_length_le (Nat.le_refl _)]; rfl
      go_wp2
      go_ret
      rw [HV.out]
      exact ⟨rfl, BW.out⟩

set_option maxHeartbeats 1600000 in
theorem implRuleAt_any (v : Value) (rs : List RuleD) (name : ByteArray) (w : World) (hn : rs.length ≤ 1048576) (h : RowC 3 RuleE w v rs) :
    Calls Tryz.prog 62 #[.agg #[v], .string name] w fun e w' => e = .returned (.int .i64 (ruleAtI rs name)) ∧ Below w.heap.size w w' := by
  have hmf : ∀ (fn : Fn) (first cap : Array Value) (w : World), (Instr.makeFunc fn first cap).run Tryz.prog w = .ok (.func fn first cap) w := fun _ _ _ _ => rfl
  obtain ⟨a, cap, rfl⟩ := h.slice
  have BW : Hid (Below w.heap.size w ((w.alloc (.cells #[.slice a rs.length cap] 30)).alloc (.cells #[.string name] 9))) := ((Below.refl _ _).alloc (Nat.le_refl _) _).alloc (by simp) _
  have HI : Hid (∀ _ : Unit, _) := fun _ => indexFunc_any (.slice a rs.length cap) rs name (w.heap.size + 1) _ hn (RowC.below RuleE_stable h BW.out) (box_two' _ _ _ _ _ 0 _ rfl)
  have c0 : ((w.alloc (.cells #[.slice a rs.length cap] 30)).alloc (.cells #[.string name] 9)).cell? ⟨w.heap.size, 0, none⟩ = some (.slice a rs.length cap) := box_two _ _ _ _ _ 0 _ rfl
  clear h
  go_enter Tryz.func62, Tryz.ntmps62
  go_wp2_with (go_at_call 76; refine (HI.out ()).mono ?_; rintro e w1 ⟨rfl, hb1⟩)
  go_ret
  exact ⟨rfl, BW.out.trans (hb1.mono BW.out.size)⟩

end Go.Proofs.YtofpoiccghpliaaGreatDoor

namespace Go.Proofs.YtofpoiccghpliaaGreatDoor
open Go.RowKit
set_option linter.unusedVariables false
set_option maxRecDepth 100000

theorem two18 (w : World) :
    TabF w.heap.size zL18 ((w.alloc (.cells Tryz.zeroCells49 49)).alloc (.cells Tryz.zeroCells49 49))
    ∧ TabF (w.heap.size + 1) zL18 ((w.alloc (.cells Tryz.zeroCells49 49)).alloc (.cells Tryz.zeroCells49 49))
    ∧ Below w.heap.size w ((w.alloc (.cells Tryz.zeroCells49 49)).alloc (.cells Tryz.zeroCells49 49)) := by
  have hz := flZero18
  rw [Value.agg.injEq] at hz
  rw [hz]
  have z1 := tab_new w zL18
  have z2 := tab_new (w.alloc (.cells (flV18 zL18).toArray 49)) zL18
  have b1 : ∀ (W : World) (o : Obj), Below W.heap.size W (W.alloc o) := fun W o => (Below.refl _ _).alloc (Nat.le_refl _) _
  have s1 : (w.alloc (.cells (flV18 zL18).toArray 49)).heap.size = w.heap.size + 1 := by simp
  rw [s1] at z2
  exact ⟨z1.keep (b1 _ _), z2, (b1 w _).trans ((b1 _ _).mono (by rw [s1]; omega))⟩

set_option maxHeartbeats 1600000 in
set_option maxRecDepth 100000 in
theorem implWith18_any (s : ByteArray) (w : World) (hs : s.size ≤ 1048576) :
    Calls Tryz.prog 60 #[.string s] w fun e w' => ∃ l, e = .returned (.agg (flV18 l).toArray) ∧ l.length = 257 ∧ l.getD 0 false = false ∧ Below w.heap.size w w' := by
  have HR : Hid (zL18.length = 257 ∧ zL18.getD 0 false = false) := ⟨zL18_len, zL18_0⟩
  have HSz : Hid (s.size ≤ 1048576) := hs
  obtain ⟨t2, t3, b1⟩ := two18 w
  have T2 : Hid (TabF w.heap.size zL18 _) := t2
  have T3 : Hid (TabF (w.heap.size + 1) zL18 _) := t3
  have B1 : Hid (Below w.heap.size w _) := b1
  clear t2 t3 b1
  go_enter Tryz.func60, Tryz.ntmps60
  go_upto_region 2 with fail
  generalize ((w.alloc (.cells Tryz.zeroCells49 49)).alloc (.cells Tryz.zeroCells49 49)) = w0 at *
  generalize zL18 = z at *
  go_wp2
  go_loopg [7] s.size (fun g s7 wx => ∃ i : Nat, i + g = s.size ∧ s7 = .int .i64 i ∧ ∃ l : List Bool, l.length = 257 ∧ l.getD 0 false = false ∧ TabF (w.heap.size + 1) l wx ∧ TabF w.heap.size z wx ∧ Below w.heap.size w wx)
  case atStart => exact ⟨0, by omega, rfl, z, HR.out.1, HR.out.2, T3.out, T2.out, B1.out⟩
  case round =>
    clear T2 T3 B1
    obtain ⟨i, hig, rfl, l, hl, h0, t3, t2, b1⟩ := hrel
    obtain ⟨W, rfl⟩ : ∃ W, W = wr := ⟨wr, rfl⟩
    have HL : Hid (l.length = 257 ∧ l.getD 0 false = false) := ⟨hl, h0⟩
    have T2 : Hid (TabF w.heap.size z W) := t2
    have T3 : Hid (TabF (w.heap.size + 1) l W) := t3
    have B1 : Hid (Below w.heap.size w W) := b1
    clear t2 t3 b1 hl h0
    cases gk with
    | zero =>
      obtain rfl : i = s.size := by omega
      have hiz : ¬ ((s.size : Int) < (s.size : Int)) := by omega
      go_wp2_with (first | (refine wpl_load1 rfl _ rfl rfl T3.out HL.out.1 ?_) | (refine wpl_store1 rfl _ _ rfl rfl rfl T2.out HR.out.1 HL.out.1 ?_))
      refine ret18 rfl rfl rfl (T2.out.put l) HL.out.1 ?_
      exact ⟨l, rfl, HL.out.1, HL.out.2, below_put18 B1.out (by omega)⟩
    | succ g =>
      have hi : i < s.size := by omega
      have hiz : (i : Int) < (s.size : Int) := by omega
      obtain ⟨x, hx⟩ : ∃ x : UInt8, s[i]'hi = x := ⟨_, rfl⟩
      have hx256 : (x.toNat : Int) < 256 := by have := UInt8.toNat_lt x; omega
      have hxl : x.toNat < 256 := by omega
      have c3 := T3.out.cell (1 + x.toNat) (by rw [HL.out.1]; omega)
      have f3 := T3.out.frozen (1 + x.toNat)
      have HT : Hid (TabF (w.heap.size + 1) (l.set (1 + x.toNat) true) (W.setCell ⟨w.heap.size + 1, 1 + x.toNat, none⟩ (.bool true)) ∧ TabF w.heap.size z (W.setCell ⟨w.heap.size + 1, 1 + x.toNat, none⟩ (.bool true)) ∧ Below w.heap.size w (W.setCell ⟨w.heap.size + 1, 1 + x.toNat, none⟩ (.bool true))) := by
        have k : Kp (fun q => q = w.heap.size + 1) W (W.setCell ⟨w.heap.size + 1, 1 + x.toNat, none⟩ (.bool true)) := Kp.store rfl
        exact ⟨T3.out.set _ true, T2.out.kp k (by omega), k.onto B1.out (Nat.le_refl _) (fun j hj => by omega)⟩
      clear T2 T3 B1 hxl
      go_wp2
      go_roundg g
      case measure => omega
      case rel => exact ⟨i + 1, by omega, by first | rfl | simp, _, by rw [List.length_set]; exact HL.out.1, by rw [getD_suF _ _ _ _ (by rw [HL.out.1]; omega), if_neg (by omega)]; exact HL.out.2, HT.out.1, HT.out.2.1, HT.out.2.2⟩

theorem bytesB_le (f : Nat → Bool) : (bytesB f).length ≤ 256 := by
  have h : ∀ n, (pre (cellB UInt8.ofNat f) n).length ≤ n := by
    intro n
    induction n with
    | zero => exact Nat.le_refl _
    | succ n ih =>
      rw [pre_succ, List.length_append]
      have := cellB_len UInt8.ofNat f n
      omega
  exact h 256

set_option maxHeartbeats 3200000 in
set_option maxRecDepth 100000 in
theorem implSym18_any (g : List RuleD) (x : SymD) (ga ar : Option Addr) (gc cr tb : Nat) (F : List Bool) (w : World) (hgl : g.length ≤ 1048576) (hg : RowC 3 RuleE w (.slice ga g.length gc) g) (hF : F.length = 257 * g.length) (hT : TabF tb F w) (hz : TzTab w)
    (hk : x.kind = 1 ∨ x.kind = 2 ∨ x.kind = 3 ∨ x.kind = 4) (h1 : x.kind = 1 → 1 ≤ x.text.size) (h3 : x.kind = 3 → 0 ≤ ruleAtI g x.text ∧ ruleAtI g x.text < (g.length : Int)) (hs : x.text.size ≤ 1048576) :
    Calls Tryz.prog 45 #[.agg #[.slice ga g.length gc], .agg #[.int .i64 x.kind, .string x.text, .slice ar x.args.length cr, .string x.bind], .slice (some ⟨tb, 0, none⟩) g.length g.length] w fun e w' =>
      ∃ l, e = .returned (.agg (flV18 l).toArray) ∧ l.length = 257 ∧ l.getD 0 false = symN g (heads F g.length) x ∧ Below w.heap.size w w' := by
  have b1 : ∀ (W : World) (o : Obj), Below W.heap.size W (W.alloc o) := fun W o => (Below.refl _ _).alloc (Nat.le_refl _) _
  have s1 : (w.alloc (.cells #[.slice ga g.length gc] 30)).heap.size = w.heap.size + 1 := by simp
  have s2 : ((w.alloc (.cells #[.slice ga g.length gc] 30)).alloc (.cells #[.int .i64 x.kind, .string x.text, .slice ar x.args.length cr, .string x.bind] 66)).heap.size = w.heap.size + 1 + 1 := by simp
  have BW : Hid (Below w.heap.size w (((w.alloc (.cells #[.slice ga g.length gc] 30)).alloc (.cells #[.int .i64 x.kind, .string x.text, .slice ar x.args.length cr, .string x.bind] 66)).alloc (.cells Tryz.zeroCells49 49))) :=
    ((b1 _ _).trans ((b1 _ _).mono (by rw [s1]; omega))).trans ((b1 _ _).mono (by rw [s2]; omega))
  have e0 := cell_keep (cell_keep (box_at w #[.slice ga g.length gc] 30 0 _ rfl) (b1 _ (.cells #[.int .i64 x.kind, .string x.text, .slice ar x.args.length cr, .string x.bind] 66))) (b1 _ (.cells Tryz.zeroCells49 49))
  have y0 := cell_keep (box_at (w.alloc (.cells #[.slice ga g.length gc] 30)) #[.int .i64 x.kind, .string x.text, .slice ar x.args.length cr, .string x.bind] 66 0 _ rfl) (b1 _ (.cells Tryz.zeroCells49 49))
  have y1 := cell_keep (box_at (w.alloc (.cells #[.slice ga g.length gc] 30)) #[.int .i64 x.kind, .string x.text, .slice ar x.args.length cr, .string x.bind] 66 1 _ rfl) (b1 _ (.cells Tryz.zeroCells49 49))
  have T6 : Hid (TabF (w.heap.size + 1 + 1) zL18 (((w.alloc (.cells #[.slice ga g.length gc] 30)).alloc (.cells #[.int .i64 x.kind, .string x.text, .slice ar x.args.length cr, .string x.bind] 66)).alloc (.cells Tryz.zeroCells49 49))) := by
    have h := tab_new ((w.alloc (.cells #[.slice ga g.length gc] 30)).alloc (.cells #[.int .i64 x.kind, .string x.text, .slice ar x.args.length cr, .string x.bind] 66)) zL18
    have hz := flZero18
    rw [Value.agg.injEq] at hz
    rw [s2, ← hz] at h
    exact h
  have TB : Hid (TabF tb F (((w.alloc (.cells #[.slice ga g.length gc] 30)).alloc (.cells #[.int .i64 x.kind, .string x.text, .slice ar x.args.length cr, .string x.bind] 66)).alloc (.cells Tryz.zeroCells49 49))) := hT.keep BW.out
  have HG : Hid (RowC 3 RuleE (((w.alloc (.cells #[.slice ga g.length gc] 30)).alloc (.cells #[.int .i64 x.kind, .string x.text, .slice ar x.args.length cr, .string x.bind] 66)).alloc (.cells Tryz.zeroCells49 49)) (.slice ga g.length gc) g) := RowC.below RuleE_stable hg BW.out
  have HZ : Hid (TzTab (((w.alloc (.cells #[.slice ga g.length gc] 30)).alloc (.cells #[.int .i64 x.kind, .string x.text, .slice ar x.args.length cr, .string x.bind] 66)).alloc (.cells Tryz.zeroCells49 49))) := hz.below BW.out
  have HF : Hid (F.length = 257 * g.length) := hF
  have HR : Hid (zL18.length = 257) := zL18_len
  have HWi : Hid (∀ (s : ByteArray) W, s.size ≤ 1048576 → _) := fun s W h => implWith18_any s W h
  have HSb : Hid (∀ (s : ByteArray) W, TzTab W → _) := fun s W h => implSetBytes_any s W h
  have HRa : Hid (∀ (s : ByteArray) W, RowC 3 RuleE W (.slice ga g.length gc) g → _) := fun s W h => implRuleAt_any (.slice ga g.length gc) g s W hgl h
  rw [s1] at y0 y1
  clear hg hT hz b1 s1 s2 hF hgl
  go_enter Tryz.func45, Tryz.ntmps45
  go_upto_region 1 with fail
  generalize (((w.alloc (.cells #[.slice ga g.length gc] 30)).alloc (.cells #[.int .i64 x.kind, .string x.text, .slice ar x.args.length cr, .string x.bind] 66)).alloc (.cells Tryz.zeroCells49 49)) = w0 at *
  generalize zL18 = z at *
  rcases hk with hk | hk | hk | hk
  · have hz1 := h1 hk
    have HV : Hid (symN g (heads F g.length) x = false) := by rw [Hid, symN, hk]; rfl
    rw [hk] at y0
    clear h1 h3
    generalize x.text = tx at *
    have hi1 : (1 : Int) ≤ (tx.size : Int) := by omega
    go_wp2_with fail
    refine (HWi.out _ _ (by rw [ByteArray.size_extract]; omega)).mono ?_
    rintro e w1 ⟨l, rfl, hl, h0, hb⟩
    have T7 := T6.out.keep hb
    have B7 := BW.out.trans (hb.mono BW.out.size)
    clear e0 y0 y1
    go_wp2_with (refine wpl_store1 rfl _ _ rfl rfl rfl T7 HR.out hl ?_)
    refine ret18 rfl rfl rfl (T7.put l) hl ?_
    exact ⟨l, rfl, hl, h0.trans HV.out.symm, below_put18 B7 (by omega)⟩
  · have HV : Hid (symN g (heads F g.length) x = false) := by rw [Hid, symN, hk]; rfl
    rw [hk] at y0
    clear h1 h3
    generalize x.text = tx at *
    go_wp2_with fail
    refine (HSb.out _ _ HZ.out).mono ?_
    rintro e w1 ⟨rfl, hb1⟩
    have T1 := T6.out.keep hb1
    have B7 := BW.out.trans (hb1.mono BW.out.size)
    have hle := bytesB_le (inL tx.data.toList)
    clear e0 y0 y1 hb1
    generalize bytesB (inL tx.data.toList) = bs at *
    go_wp2_with fail
    refine (HWi.out _ _ (by rw [str_size]; omega)).mono ?_
    rintro e w2 ⟨l, rfl, hl, h0, hb⟩
    have T7 := T1.keep hb
    have B8 := B7.trans (hb.mono B7.size)
    clear T1 B7 hb
    go_wp2_with (refine wpl_store1 rfl _ _ rfl rfl rfl T7 HR.out hl ?_)
    refine ret18 rfl rfl rfl (T7.put l) hl ?_
    exact ⟨l, rfl, hl, h0.trans HV.out.symm, below_put18 B8 (by omega)⟩
  · obtain ⟨r, hr⟩ : ∃ r : Nat, ruleAtI g x.text = (r : Int) := ⟨(ruleAtI g x.text).toNat, by have := (h3 hk).1; omega⟩
    have hrl : r < g.length := by have := (h3 hk).2; omega
    have hrz : (r : Int) < (g.length : Int) := by omega
    have HV : Hid (symN g (heads F g.length) x = (chk F r).getD 0 false) := by
      rw [Hid, symN, hk, hr, Int.toNat_natCast, chk_getD (by decide), heads_getD hrl]
      rfl
    have HC : Hid ((chk F r).length = 257) := chk_len HF.out hrl
    rw [hk] at y0
    clear h1 h3
    generalize x.text = tx at *
    go_wp2_with fail
    refine (HRa.out tx _ HG.out).mono ?_
    rintro e w1 ⟨rfl, hb⟩
    rw [hr]
    have T7 := T6.out.keep hb
    have T8 := TB.out.keep hb
    have B7 := BW.out.trans (hb.mono BW.out.size)
    clear e0 y0 y1 hb
    go_wp2_with (first | (refine wpl_load18 rfl _ rfl rfl (by omega) T8 HF.out hrl ?_) | (refine wpl_store1 rfl _ _ rfl rfl rfl T7 HR.out HC.out ?_))
    refine ret18 rfl rfl rfl (T7.put _) HC.out ?_
    exact ⟨_, rfl, HC.out, HV.out.symm, below_put18 B7 (by omega)⟩
  · have HV : Hid (symN g (heads F g.length) x = true) := by rw [Hid, symN, hk]; rfl
    have HO : Hid (oL18.length = 257) := oL18_len
    rw [hk] at y0
    clear h1 h3
    go_wp2_with (first | (refine wpl_build1 rfl _ rfl rfl ?_) | (refine wpl_store1 rfl _ _ rfl rfl rfl T6.out HR.out HO.out ?_))
    refine ret18 rfl rfl rfl (T6.out.put _) HO.out ?_
    exact ⟨_, rfl, HO.out, HV.out.symm, below_put18 BW.out (by omega)⟩
end Go.Proofs.YtofpoiccghpliaaGreatDoor
