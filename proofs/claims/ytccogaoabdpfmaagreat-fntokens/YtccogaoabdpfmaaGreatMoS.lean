/- At the verifier's texts with a rule more: what is read of each is in form, and is made plain; SurfaceOk at what is read. -/
import Derived.Test.YtccogaoabdpfmaaGreatFlV
import Derived.Test.YtccogaoabdpfmaaGreatFlZ0
namespace Go.Proofs.YtccogaoabdpfmaaGreat
open Go.RowKit
set_option maxHeartbeats 3200000
set_option maxRecDepth 100000
set_option linter.unusedVariables false
structure SurfG (ns : List SNodeD) (rs : List SRuleD) : Prop where
 inn : SurfIn ns rs
 form : formB ns rs = true
 flat : flatB ns rs = some (flatM ns rs)
 ok : FlatOk ns rs
def goodM (T : ByteArray) : Bool := match parseB T with | some (ns, rs) => decide (SurfIn ns rs) && formB ns rs && (flatB ns rs).isSome && flatY ns rs | none => false
noncomputable def all78 : Bool := texts11.all fun s => mores.all fun m => goodM ((cut11 s).1 ++ m)
theorem all78_is : all78 = true := by kernel_rfl
theorem goodM_of {T : ByteArray} (h : goodM T = true) : ∃ ns rs, parseB T = some (ns, rs) ∧ SurfG ns rs := by
 unfold goodM at h
 cases hp : parseB T with
 | none => rw [hp] at h; cases h
 | some q =>
  obtain ⟨ns, rs⟩ := q
  rw [hp] at h
  simp only [Bool.and_eq_true, decide_eq_true_eq] at h
  obtain ⟨⟨⟨hI, hfo⟩, hs⟩, hy⟩ := h
  obtain ⟨g, hg⟩ := Option.isSome_iff_exists.1 hs
  have hg2 : flatB ns rs = some (flatM ns rs) := by
   have h2 := hg
   unfold flatB at h2 ⊢
   split at h2
   ·cases h2
   ·rename_i hx
    rw [if_neg hx]
    split at h2
    ·rename_i hy2
     rw [if_pos hy2]
    ·cases h2
  exact ⟨ns, rs, rfl, hI, hfo, hg2, flatOk_of hI hfo hy⟩
theorem good78 {s m : ByteArray} (hs : s ∈ texts11) (hm : m ∈ mores) : ∃ ns rs, parseB ((cut11 s).1 ++ m) = some (ns, rs) ∧ SurfG ns rs := goodM_of (List.all_eq_true.1 (List.all_eq_true.1 all78_is s hs) m hm)
theorem readG {T : ByteArray} {ns : List SNodeD} {rs : List SRuleD} (hz : T.size ≤ 1048576) (hp : parseB T = some (ns, rs)) (hG : SurfG ns rs) (W : World) :
  Calls Tryz.prog 14 #[.string T] W fun e w' => ∃ (nv rv : Value), e = .returned (.tuple #[.agg #[nv, rv], .bool true]) ∧ Fresh W.heap.size w' (fun V => SNs V nv ns ∧ SRs V rv rs) ∧ Below W.heap.size W w' := by
 have hr : readB T = some (ns, rs) := by
  unfold readB
  rw [hp]
  simp only [surfOkB, hG.form, hG.flat, Option.isSome_some, Bool.and_self, if_true]
 refine (readSurface_of T W hz (fun ns' rs' hp' B nv rv V hN hR => ?_)).mono ?_
 ·rw [hp] at hp'
  cases hp'
  exact surfaceOk_of ns rs (formC_of hG.inn) (flatC_of hG.ok hG.flat) B nv rv V hN hR
 ·rintro e w' ⟨nv, rv, rfl, hb, hS⟩
  unfold SurfR at hS
  rw [hr] at hS
  rw [hr]
  exact ⟨nv, rv, rfl, Fresh.and (Fresh.imp (sNodes_fresh hS.1) (fun V h => sNs_of h)) (Fresh.imp (sRules_fresh hS.2) (fun V h => sRs_of h)), hb⟩
theorem surfaceOk_held {ns : List SNodeD} {rs : List SRuleD} (hG : SurfG ns rs) (nv rv : Value) (W : World) (hH : Held (fun _ => False) W (fun V => SNs V nv ns ∧ SRs V rv rs)) :
  Calls Tryz.prog 10 #[.agg #[nv, rv]] W fun e w' => e = .returned (.bool true) ∧ Below W.heap.size W w' := by
 obtain ⟨an, cn, rfl⟩ := RowC.slice hH.here.1
 obtain ⟨ar, cr, rfl⟩ := RowC.slice hH.here.2
 have bal : Below W.heap.size W (W.alloc (.cells #[.slice an ns.length cn, .slice ar rs.length cr] 27)) := (Below.refl _ _).alloc (Nat.le_refl _) _
 have H1 : Hid (Held (fun _ => False) (W.alloc (.cells #[.slice an ns.length cn, .slice ar rs.length cr] 27)) (fun V => SNs V (.slice an ns.length cn) ns ∧ SRs V (.slice ar rs.length cr) rs)) := hH.fr (FrA.below bal)
 have X1 := heap_alloc_new W (.cells #[.slice an ns.length cn, .slice ar rs.length cr] 27)
 have HX1 : Hid _ := X1
 have c0 := run_cell (j := 0) X1 rfl
 have c1 := run_cell (j := 1) X1 rfl
 have HB1 : Hid (Below W.heap.size W (W.alloc (.cells #[.slice an ns.length cn, .slice ar rs.length cr] 27))) := bal
 have HFo : Hid (∀ V : World, SNs V (.slice an ns.length cn) ns ∧ SRs V (.slice ar rs.length cr) rs → Calls Tryz.prog 16 #[.agg #[.slice an ns.length cn, .slice ar rs.length cr]] V fun e w' => e = .returned (.bool true) ∧ Below V.heap.size V w') := fun V h => by
  have := form_any ns rs hG.inn (.slice an ns.length cn) (.slice ar rs.length cr) V h.1 h.2
  rwa [hG.form] at this
 have HFl : Hid (FlatOk ns rs) := hG.ok
 clear bal hH X1 hG
 go_enter Tryz.func10, Tryz.ntmps10
 go_wp2_with fail
 generalize W.alloc (.cells #[.slice an ns.length cn, .slice ar rs.length cr] 27) = W1 at *
 refine (HFo.out W1 H1.out.here).mono ?_
 rintro e w2 ⟨rfl, hb2⟩
 have X2 := (hb2.block _ (Array.getElem?_eq_some_iff.1 HX1.out).1).trans HX1.out
 have d0 := run_cell (j := 0) X2 rfl
 have d1 := run_cell (j := 1) X2 rfl
 have H2 : Hid (Held (fun _ => False) w2 (fun V => SNs V (.slice an ns.length cn) ns ∧ SRs V (.slice ar rs.length cr) rs)) := H1.out.fr (FrA.below hb2)
 have HB2 : Hid (Below W.heap.size W w2) := HB1.out.trans (hb2.mono HB1.out.size)
 clear hb2 X2 H1 HX1 HB1 c0 c1
 have HC : Hid (∀ _ : Unit, _) := fun _ => flatW_any (fun _ => False) ns rs HFl.out an ar cn cr w2 (fun k h => h.elim) (Held.imp H2.out (fun V h => h.1)) (Held.imp H2.out (fun V h => h.2))
 go_wp2_with fail
 refine (HC.out ()).mono ?_
 rintro e w3 ⟨o, rfl, hH3, hb3⟩
 obtain ⟨o, c, rfl⟩ := hH3.here.slice
 have HB3 : Hid (Below W.heap.size W w3) := HB2.out.trans (hb3.mono HB2.out.size)
 have HB4 : Hid (Below W.heap.size W (w3.alloc (.cells #[.slice o (flatM ns rs).length c] 54))) := HB3.out.alloc HB3.out.size _
 clear HC hb3 hH3
 go_wp2
 (try simp only [Exit.inBlock, Exit.then])
 refine bodyPost_ret (by simp [results, Tryz.results10, go_sem]; try rfl) rfl ?_
 exact ⟨rfl, HB4.out⟩
end Go.Proofs.YtccogaoabdpfmaaGreat
