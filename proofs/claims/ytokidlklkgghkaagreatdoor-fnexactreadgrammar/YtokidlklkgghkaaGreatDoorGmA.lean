/- The program's byteWriter.node, writeEach over nodes, and ExprText. -/
/- Elements of a grammar's lists, opened. No program is named. -/
import Derived.Test.YtokidlklkgghkaaGreatDoorE16W
import Derived.Test.YtokidlklkgghkaaGreatDoorXAssert
import Derived.Test.YtokidlklkgghkaaGreatDoorGRule
namespace Go.Proofs.YtokidlklkgghkaaGreatDoor
open Go.RowKit
set_option linter.unusedVariables false

theorem iRow_lit {w : World} {g : Nat} {z : Int} {fz : Nat × Nat} (h : w.heap[g]? = some (.cells #[.int .i64 z] 3 fz)) : IRow w (.slice (some ⟨g, 0, none⟩) 1 1) [z] := by
  refine ⟨some ⟨g, 0, none⟩, 1, rfl, (by intro h; cases h), fun _ => ⟨g, 0, rfl, (Array.getElem?_eq_some_iff.1 h).1, fun i hi => ?_⟩⟩
  have hi0 : i = 0 := by simpa using hi
  subst hi0
  rw [Lib.cell_of_heap h]
  rfl

set_option maxHeartbeats 2000000 in
set_option maxRecDepth 100000 in
theorem wrNode_any (B b : Nat) (l : List UInt8) (x : NodeD) (kv : Value) (w : World) (h : WrB B b l w) (hx : NodeS x) (hk : ∀ W, Below B w W → IRow W kv x.kids) (hlen : l.length ≤ 100000) (hBw : B ≤ w.heap.size) :
    Calls Tryz.prog 137 #[.pointer (some ⟨b, 0, none⟩), .agg #[.int .i64 x.op, .int .i64 x.num, .string x.name, kv]] w fun e w' => WrO B b (l ++ nodeW x) w e w' := by
  have HK : Hid (∀ W, Below B w W → IRow W kv x.kids) := hk
  obtain ⟨ka, kc, rfl⟩ := (hk w (Below.refl _ _)).slice
  have HW : Hid (WrB B b l w) := h
  have HX : Hid (NodeS x) := hx
  have hop := hx.op
  have hnum := hx.num
  have hname := hx.name
  have hbl := h.lt
  clear h hx hk
  obtain ⟨nn, hnn⟩ := Int.eq_ofNat_of_zero_le hnum.1
  have HNn : Hid (x.num.toNat = nn) := by rw [Hid, hnn]; rfl
  have HNN : Hid (x.num = (nn : Int)) := hnn
  have hnn2 : nn ≤ 127 := by omega
  have HWd : Hid (nodeW x = byteW x.op :: (varB nn ++ (shortW x.name ++ x.kids.map byteW))) := by rw [Hid, nodeW, HNn.out]
  rw [hnn]
  clear hnn hnum HNn
  have H1 : Hid (Below w.heap.size w (w.alloc (.cells #[.int .i64 x.op, .int .i64 nn, .string x.name, .slice ka x.kids.length kc] 93))) := (Below.refl _ _).alloc (Nat.le_refl _) _
  have bx0 : (w.alloc (.cells #[.int .i64 x.op, .int .i64 nn, .string x.name, .slice ka x.kids.length kc] 93)).heap[w.heap.size]? = some (.cells #[.int .i64 x.op, .int .i64 nn, .string x.name, .slice ka x.kids.length kc] 93 (0, 0)) := heap_alloc_new w _
  have hsz0 : (w.alloc (.cells #[.int .i64 x.op, .int .i64 nn, .string x.name, .slice ka x.kids.length kc] 93)).heap.size = w.heap.size + 1 := by simp
  have HSz0 : Hid ((w.alloc (.cells #[.int .i64 x.op, .int .i64 nn, .string x.name, .slice ka x.kids.length kc] 93)).heap.size = w.heap.size + 1) := hsz0
  have c0 : (w.alloc (.cells #[.int .i64 x.op, .int .i64 nn, .string x.name, .slice ka x.kids.length kc] 93)).cell? ⟨w.heap.size, 0, none⟩ = some (.int .i64 x.op) := by rw [Lib.cell_of_heap bx0]; rfl
  have HBx0 : Hid (_ = _) := bx0
  have HKp : Hid (Lib.OthersKept 5 (some b) w (w.alloc (.cells #[.int .i64 x.op, .int .i64 nn, .string x.name, .slice ka x.kids.length kc] 93))) := (Lib.OthersKept.refl _ _ _).alloc _
  clear bx0 hsz0
  go_enter Tryz.func137, Tryz.ntmps137
  go_wp2_with fail
  generalize w.alloc (.cells #[.int .i64 x.op, .int .i64 nn, .string x.name, .slice ka x.kids.length kc] 93) = w0 at *
  have al : Below w0.heap.size w0 (w0.alloc (.cells #[.int .i64 x.op] 3)) := (Below.refl _ _).alloc (Nat.le_refl _) _
  have bx1 : (w0.alloc (.cells #[.int .i64 x.op] 3)).heap[w.heap.size]? = some (.cells #[.int .i64 x.op, .int .i64 nn, .string x.name, .slice ka x.kids.length kc] 93 (0, 0)) := by
    rw [al.block _ (by have := HSz0.out; omega)]; exact HBx0.out
  have nb : (w0.alloc (.cells #[.int .i64 x.op] 3)).heap[w.heap.size + 1]? = some (.cells #[.int .i64 x.op] 3 (0, 0)) := by rw [← HSz0.out]; exact heap_alloc_new w0 _
  have W1 : WrB B b l (w0.alloc (.cells #[.int .i64 x.op] 3)) := (HW.out.below H1.out).below al
  have hs1 : B ≤ (w0.alloc (.cells #[.int .i64 x.op] 3)).heap.size := by have := al.size; have := HSz0.out; omega
  have BB1 : Below B w (w0.alloc (.cells #[.int .i64 x.op] 3)) := (H1.out.mono hBw).trans (al.mono (by have := HSz0.out; omega))
  have KK1 : Lib.OthersKept 5 (some b) w (w0.alloc (.cells #[.int .i64 x.op] 3)) := HKp.out.alloc _
  refine (wrSingle_any B b l (.slice (some ⟨w.heap.size + 1, 0, none⟩) 1 1) [x.op] _ W1 (fun W _ hK => iRow_lit (okept_cell hK nb (by omega) (by decide))) (fun k hk => by simp at hk; subst hk; exact hop) (by simp) (by omega) hs1).mono ?_
  rintro e w1 ⟨rfl, h1, hb1, hk1⟩
  have bx2 := okept_cell hk1 bx1 (by omega) (by decide)
  have BB2 := BB1.trans hb1
  have KK2 := KK1.trans hk1
  have hs2 : B ≤ w1.heap.size := by have := hb1.size; omega
  have c1 : w1.cell? ⟨w.heap.size, 1, none⟩ = some (.int .i64 nn) := by rw [Lib.cell_of_heap bx2]; rfl
  have HBx2 : Hid (_ = _) := bx2
  clear hb1 hk1 bx1 bx2 nb W1 BB1 KK1 al c0
  go_wp2_with fail
  refine (wrNumber_any B b (l ++ [x.op].map byteW) nn _ h1 (by omega) (by simp; omega) hs2).mono ?_
  rintro e w2 ⟨rfl, h2, hb2, hk2⟩
  have bx3 := okept_cell hk2 HBx2.out (by omega) (by decide)
  have BB3 := BB2.trans hb2
  have KK3 := KK2.trans hk2
  have hs3 : B ≤ w2.heap.size := by have := hb2.size; omega
  have c2 : w2.cell? ⟨w.heap.size, 2, none⟩ = some (.string x.name) := by rw [Lib.cell_of_heap bx3]; rfl
  have HBx3 : Hid (_ = _) := bx3
  have hv := varB_small hnn2
  clear hb2 hk2 bx3 HBx2 BB2 KK2 hs2 h1 c1
  go_wp2_with fail
  refine (wrShort_any B b _ x.name _ h2 (by omega) (by simp; omega) hs3).mono ?_
  rintro e w3 ⟨rfl, h3, hb3, hk3⟩
  have bx4 := okept_cell hk3 HBx3.out (by omega) (by decide)
  have BB4 := BB3.trans hb3
  have KK4 := KK3.trans hk3
  have hs4 : B ≤ w3.heap.size := by have := hb3.size; omega
  have c3 : w3.cell? ⟨w.heap.size, 3, none⟩ = some (.slice ka x.kids.length kc) := by rw [Lib.cell_of_heap bx4]; rfl
  have hsl := shortW_len (s := x.name) (by omega)
  clear hb3 hk3 bx4 HBx3 BB3 KK3 hs3 h2 c2
  go_wp2_with fail
  refine (wrSingle_any B b _ (.slice ka x.kids.length kc) x.kids _ h3 (fun W hW _ => HK.out W (BB4.trans hW)) HX.out.kid (by have := HX.out.kids; omega) (by simp; omega) hs4).mono ?_
  rintro e w4 ⟨rfl, h4, hb4, hk4⟩
  have HF : Hid (WrO B b (l ++ nodeW x) w (.returned (.tuple #[])) w4) := by
    refine ⟨rfl, ?_, BB4.trans hb4, KK4.trans hk4⟩
    rw [HWd.out]
    simpa using h4
  clear h4 hb4 hk4 BB4 KK4 h3
  go_wp2
  go_end0
  exact HF.out

set_option maxHeartbeats 2000000 in
set_option maxRecDepth 100000 in
theorem wrNodes_any (w0 : World) (B b : Nat) (l : List UInt8) (v : Value) (ns : List NodeD) (w : World) (hB0 : w0.heap.size = B) (h : WrB B b l w) (hv : NRow w0 v ns) (hb0 : Below B w0 w) (hs : ∀ k (hk : k < ns.length), NodeS ns[k]) (hn : ns.length ≤ 20) (hlen : l.length ≤ 50000) (hBw : B ≤ w.heap.size) :
    Calls Tryz.prog 136 #[.pointer (some ⟨b, 0, none⟩), .func (.func 137) #[.pointer (some ⟨b, 0, none⟩)] #[], v] w fun e w' => WrO B b (l ++ exprW ns) w e w' := by
  have HV : Hid (NRow w0 v ns) := hv
  have HB0 : Hid (Below w0.heap.size w0 w) := by rw [Hid, hB0]; exact hb0
  have HBe : Hid (w0.heap.size = B) := hB0
  obtain ⟨a, cap, rfl⟩ := hv.slice
  have HW : Hid (WrB B b l w) := h
  have HS : Hid (∀ k (hk : k < ns.length), NodeS ns[k]) := hs
  have HFl : Hid (∀ k, (((ns.take k).map nodeW).flatten).length ≤ 180) := fun k => by
    have := flat_take_len nodeW 9 ns k fun x hx => by
      obtain ⟨i, hi, rfl⟩ := List.getElem_of_mem hx
      exact (nodeW_len (hs i hi)).2
    omega
  clear h hv hs hb0 hB0
  go_enter Tryz.func136, Tryz.ntmps136
  go_wp2_with fail
  refine (wrNumber_any B b l ns.length _ HW.out (by omega) (by omega) hBw).mono ?_
  rintro e w1 ⟨rfl, h1, hb1, hk1⟩
  have HO1 : Hid (WrO B b (l ++ varB ns.length) w (.returned (.tuple #[])) w1) := ⟨rfl, h1, hb1, hk1⟩
  have hvl := varB_small (n := ns.length) (by omega)
  clear h1 hb1 hk1
  go_wp2
  go_loopw [14] (fun iv wr => ∃ k : Nat, iv = .int .i64 k ∧ k ≤ ns.length ∧ WrO B b ((l ++ varB ns.length) ++ ((ns.take k).map nodeW).flatten) w (.returned (.tuple #[])) wr) (fun iv _ => ns.length - (intOf iv).toNat)
  case atStart => exact ⟨0, rfl, Nat.zero_le _, by rw [List.take_zero, List.map_nil, List.flatten_nil, List.append_nil]; exact HO1.out⟩
  case round =>
    obtain ⟨k, rfl, hkl, ho⟩ := hrel
    have HO : Hid (WrO B b ((l ++ varB ns.length) ++ ((ns.take k).map nodeW).flatten) w (.returned (.tuple #[])) wr) := ho
    clear ho
    by_cases hlt : k < ns.length
    · obtain ⟨g, off, kv, rfl, m0, m1, m2, m3, hkr⟩ := HV.out.at hlt
      have HB0r : Hid (Below w0.heap.size w0 wr) := HB0.out.trans (by rw [HBe.out]; exact HO.out.2.2.1)
      have i4 : (k : Int) < (ns.length : Int) := by omega
      have n0 := cell_keep m0 HB0r.out
      have n1 := cell_keep m1 HB0r.out
      have n2 := cell_keep m2 HB0r.out
      have n3 := cell_keep m3 HB0r.out
      have HKr : Hid (∀ W, Below B wr W → IRow W kv ns[k].kids) := fun W hW => hkr.below (HB0r.out.trans (by rw [HBe.out]; exact hW))
      clear m0 m1 m2 m3
      have hxs := HS.out k hlt
      have HN : Hid (((l ++ varB ns.length) ++ ((ns.take k).map nodeW).flatten) ++ nodeW ns[k] = (l ++ varB ns.length) ++ ((ns.take (k + 1)).map nodeW).flatten) := by
        rw [Hid, flat_next nodeW ns k hlt, List.append_assoc]
      have hpl : ((l ++ varB ns.length) ++ ((ns.take k).map nodeW).flatten).length ≤ 100000 := by
        have := HFl.out k
        rw [List.length_append, List.length_append]
        omega
      have HXs : Hid (NodeS ns[k]) := hxs
      clear hxs hkr
      generalize ns[k] = x at *
      generalize (l ++ varB ns.length) ++ ((ns.take k).map nodeW).flatten = pre at *
      obtain ⟨ka, kc, rfl⟩ := (HKr.out wr (Below.refl _ _)).slice
      have HB : Hid (Below wr.heap.size wr (wr.alloc (.cells #[.int .i64 x.op, .int .i64 x.num, .string x.name, .slice ka x.kids.length kc] 93))) := (Below.refl _ _).alloc (Nat.le_refl _) _
      have hsz := HO.out.2.2.1.size
      go_wp2_with fail
      refine (wrNode_any B b pre x (.slice ka x.kids.length kc) _ (HO.out.2.1.below HB.out) HXs.out (fun W hW => HKr.out W ((HB.out.mono (by omega)).trans hW)) hpl (by have := HB.out.size; omega)).mono ?_
      rintro e w2 ⟨rfl, h2, hb2, hk2⟩
      have HO2 : Hid (WrO B b (pre ++ nodeW x) w (.returned (.tuple #[])) w2) := ⟨rfl, h2, (HO.out.2.2.1.trans (HB.out.mono (by omega))).trans hb2, (HO.out.2.2.2.alloc _).trans hk2⟩
      clear h2 hb2 hk2
      go_wp2
      go_roundw
      case rel => exact ⟨k + 1, by go_num, by omega, by rw [← HN.out]; exact HO2.out⟩
      case measure => simp [intOf]; omega
    · obtain rfl : k = ns.length := by omega
      rw [List.take_length] at HO
      have HE : Hid (WrO B b (l ++ exprW ns) w (.returned (.tuple #[])) wr) := by rw [Hid, exprW, ← List.append_assoc]; exact HO.out
      go_wp2
      go_end0
      exact HE.out

set_option maxHeartbeats 2000000 in
set_option maxRecDepth 100000 in
theorem implExprText_any (v : Value) (ns : List NodeD) (w : World) (hg : errTy w) (hz : NIn ns) (h : NRow w v ns) :
    Calls Tryz.prog 126 #[.agg #[v]] w fun e w' => e = .returned (.tuple #[.string (str (exprT ns)), .bool (exprB ns)]) ∧ Below w.heap.size w w' := by
  have HR : Hid (NRow w v ns) := h
  have HG : Hid (errTy w) := hg
  obtain ⟨a, cap, rfl⟩ := h.slice
  clear h hg
  have B0 : Hid (Below w.heap.size w (w.alloc (.cells #[.slice a ns.length cap] 66))) := (Below.refl _ _).alloc (Nat.le_refl _) _
  have E0 : (w.alloc (.cells #[.slice a ns.length cap] 66)).cell? ⟨w.heap.size, 0, none⟩ = some (.slice a ns.length cap) := by rw [Lib.cell_of_heap (heap_alloc_new w _)]; rfl
  go_enter Tryz.func126, Tryz.ntmps126
  go_wp2_with fail
  generalize w.alloc (.cells #[.slice a ns.length cap] 66) = w0 at *
  refine (implExprOk_any _ ns _ (HG.out.below B0.out) (HR.out.below B0.out)).mono ?_
  rintro e w1 ⟨rfl, hb1⟩
  have B1 : Hid (Below w.heap.size w w1) := B0.out.trans (hb1.mono B0.out.size)
  by_cases hb : exprB ns = true
  · obtain ⟨⟨hl, hl'⟩, hS⟩ := exprS_of hb
    have hxl := (exprW_len hb).2
    have HT : Hid (exprT ns = exprW ns) := by rw [Hid, exprT, if_pos hb]
    have HBt : Hid (exprB ns = true) := hb
    have e1 := cell_keep E0 hb1
    rw [hb]
    have HSS : Hid (∀ k (hk : k < ns.length), NodeS ns[k]) := hS
    clear hb hb1 E0 hS
    have HB2 : Hid (Below w1.heap.size w1 (w1.alloc (.cells #[.slice none 0 0] 82))) := (Below.refl _ _).alloc (Nat.le_refl _) _
    have e2 := cell_keep e1 HB2.out
    have hs1 := B1.out.size
    have HW2 : Hid (WrB w.heap.size w1.heap.size [] (w1.alloc (.cells #[.slice none 0 0] 82))) := ⟨hs1, .slice none 0 0, heap_alloc_new w1 _, World.ownsRow_nil _ _ _ _⟩
    have BW2 : Hid (Below w.heap.size w (w1.alloc (.cells #[.slice none 0 0] 82))) := B1.out.trans (HB2.out.mono hs1)
    go_wp2_with fail
    generalize w1.alloc (.cells #[.slice none 0 0] 82) = w2 at *
    refine (wrNodes_any w w.heap.size w1.heap.size [] (.slice a ns.length cap) ns _ rfl HW2.out HR.out BW2.out HSS.out hl' (by simp) BW2.out.size).mono ?_
    rintro e w3 ⟨rfl, h3, hb3, hk3⟩
    rw [List.nil_append] at h3
    obtain ⟨_, v3, hv3, hown⟩ := h3
    have c3 : w3.cell? ⟨w1.heap.size, 0, none⟩ = some v3 := by rw [Lib.cell_of_heap hv3]; rfl
    have hcv := own_string (P := Tryz.prog) (src := 72) (dst := 9) (exprW ns) Tryz.underlying72 Tryz.underlying5 Tryz.underlying9 hown
    have B3 : Hid (Below w.heap.size w w3) := BW2.out.trans hb3
    obtain ⟨ao, n', cap', rfl⟩ : ∃ ao n' cap, v3 = .slice ao n' cap := by
      rcases hown.2 with ⟨hv, _⟩ | ⟨g, cap, cur, hv, _⟩
      · exact ⟨_, _, _, hv⟩
      · exact ⟨_, _, _, hv⟩
    clear hb3 hk3 hown hv3 HB2 e2 e1
    go_wp2
    go_ret2
    rw [HT.out, HBt.out]
    exact ⟨rfl, B3.out⟩
  · have hb' : exprB ns = false := by simpa using hb
    have HT : Hid (exprT ns = []) := by rw [Hid, exprT, if_neg hb]
    have HBt : Hid (exprB ns = false) := hb'
    rw [hb']
    clear hb hb' hb1 E0
    go_wp2
    go_ret2
    rw [HT.out, HBt.out]
    exact ⟨rfl, B1.out⟩

end Go.Proofs.YtokidlklkgghkaaGreatDoor

namespace Go.Proofs.YtokidlklkgghkaaGreatDoor
open Go.RowKit

theorem gsym_at {w : World} {a : Option Addr} {n cap i : Nat} {xs : List SymD} (h : RowC 4 SymE w (.slice a n cap) xs) (hi : i < xs.length) :
    ∃ b off aa ca, a = some ⟨b, off, none⟩ ∧ w.cell? ⟨b, off + i * 4, none⟩ = some (.int .i64 xs[i].kind) ∧ w.cell? ⟨b, off + i * 4 + 1, none⟩ = some (.string xs[i].text) ∧ w.cell? ⟨b, off + i * 4 + 2, none⟩ = some (.slice aa xs[i].args.length ca) ∧ w.cell? ⟨b, off + i * 4 + 3, none⟩ = some (.string xs[i].bind) ∧ RowC 1 ExprE w (.slice aa xs[i].args.length ca) xs[i].args := by
  obtain ⟨b, off, vs, rfl, _, hc, r0, rfl, h0⟩ := RowC.at h hi
  obtain ⟨aa, ca, rfl⟩ := h0.slice
  exact ⟨b, off, aa, ca, rfl, hc 0 (by simp), hc 1 (by simp), hc 2 (by simp), hc 3 (by simp), h0⟩
theorem galt_at {w : World} {a : Option Addr} {n cap i : Nat} {xs : List (List SymD)} (h : RowC 1 AltE w (.slice a n cap) xs) (hi : i < xs.length) :
    ∃ b off aa ca, a = some ⟨b, off, none⟩ ∧ w.cell? ⟨b, off + i, none⟩ = some (.slice aa xs[i].length ca) ∧ RowC 4 SymE w (.slice aa xs[i].length ca) xs[i] := by
  obtain ⟨b, off, vs, rfl, _, hc, r0, rfl, h0⟩ := RowC.at h hi
  obtain ⟨aa, ca, rfl⟩ := h0.slice
  refine ⟨b, off, aa, ca, rfl, ?_, h0⟩
  have h := hc 0 (by simp)
  rw [Nat.mul_one] at h
  exact h
theorem grule_at {w : World} {a : Option Addr} {n cap i : Nat} {xs : List RuleD} (h : RowC 3 RuleE w (.slice a n cap) xs) (hi : i < xs.length) :
    ∃ b off pa pc ea ec, a = some ⟨b, off, none⟩ ∧ w.cell? ⟨b, off + i * 3, none⟩ = some (.string xs[i].name) ∧ w.cell? ⟨b, off + i * 3 + 1, none⟩ = some (.slice pa xs[i].params.length pc) ∧ w.cell? ⟨b, off + i * 3 + 2, none⟩ = some (.slice ea xs[i].alts.length ec) ∧ SRow w (.slice pa xs[i].params.length pc) xs[i].params ∧ RowC 1 AltE w (.slice ea xs[i].alts.length ec) xs[i].alts := by
  obtain ⟨b, off, vs, rfl, _, hc, r0, r1, rfl, h0, h1⟩ := RowC.at h hi
  obtain ⟨pa, pc, rfl⟩ := h0.slice
  obtain ⟨ea, ec, rfl⟩ := h1.slice
  exact ⟨b, off, pa, pc, ea, ec, rfl, hc 0 (by simp), hc 1 (by simp), hc 2 (by simp), h0, h1⟩

theorem gexpr_at {w : World} {a : Option Addr} {n cap k : Nat} {xs : List (List NodeD)} (h : RowC 1 ExprE w (.slice a n cap) xs) (hk : k < xs.length) :
    ∃ g off aa ca, a = some ⟨g, off, none⟩ ∧ w.cell? ⟨g, off + k, none⟩ = some (.slice aa xs[k].length ca) ∧ NRow w (.slice aa xs[k].length ca) xs[k] := by
  obtain ⟨g, off, vs, rfl, _, hc, r0, rfl, hh⟩ := h.at hk
  obtain ⟨aa, ca, rfl⟩ := hh.slice
  refine ⟨g, off, aa, ca, rfl, ?_, hh⟩
  have h := hc 0 (by simp)
  rw [Nat.mul_one] at h
  exact h

end Go.Proofs.YtokidlklkgghkaaGreatDoor
