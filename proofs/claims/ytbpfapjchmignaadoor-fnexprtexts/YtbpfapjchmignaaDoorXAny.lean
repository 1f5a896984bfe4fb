/- The verifier's l04Any walked: an expression, right or not: its nodes lie as such. -/
import Derived.Test.YtbpfapjchmignaaDoorXAny0
import Derived.Test.YtbpfapjchmignaaDoorWentG
namespace Go.Proofs.YtbpfapjchmignaaDoor
open Go.RowKit

theorem own_some {B : Nat} {v : Value} {n : Nat} {cs : List Value} {e : TypeId} {s : Nat} {w : World} (h : w.ownsRow B e s v n cs) (hn : 0 < n) : ∃ g cap, v = .slice (some ⟨g, 0, none⟩) n cap ∧ B ≤ g := by
  rcases h.2 with ⟨_, hz⟩ | ⟨g, cap, cur, rfl, hB, _⟩
  · omega
  · exact ⟨g, cap, rfl, hB⟩
theorem nv_cells : ∀ (qs : List (NodeD × Value)) {B : Nat} {w : World}, (∀ q ∈ qs, OwnZ B q.2 q.1.kids w) → ∀ u ∈ nv qs, u.oneCell' = true
  | [], _, _, _, u, hu => by cases hu
  | q :: qs, B, w, h, u, hu => by
    have e : nv (q :: qs) = [.int .i64 q.1.op, .int .i64 q.1.num, .string q.1.name, q.2] ++ nv qs := rfl
    rw [e, List.mem_append] at hu
    rcases hu with hu | hu
    · obtain ⟨a, c, e2⟩ := (h q (List.mem_cons_self ..)).row.slice
      rw [e2] at hu
      simp only [List.mem_cons, List.not_mem_nil, or_false] at hu
      rcases hu with rfl | rfl | rfl | rfl <;> rfl
    · exact nv_cells qs (fun q' hq' => h q' (List.mem_cons_of_mem _ hq')) u hu
/-- The copy, made. -/
theorem anyS_made {W : World} {v : Value} {n g : Nat} {w0 w5 w7 : World} {ns : List NodeD} {qs : List (NodeD × Value)} {rb cap b6 : Nat} (hg : g < w0.heap.size) (W5 : Went W v n g w0 w5) (R5 : EBox w0.heap.size (.slice none 0 0) w5) (hqe : qs.map (·.1) = ns) (hqz : ∀ q ∈ qs, OwnZ w0.heap.size q.2 q.1.kids w5) (h1 : 1 ≤ ns.length) (h7 : ns.length ≤ 7) (hin : NIn ns)
    (hb6 : w5.heap.size = b6) (ob : Obj) (hr : w7.ownsRow b6 32 4 (.slice (some ⟨rb, 0, none⟩) qs.length cap) qs.length (nv qs)) (hgr : (w5.alloc ob).grownBy w7 (some b6)) :
    AnyS W v n g w0 w7.heap.size rb cap ns (w7.alloc (.cells #[.slice (some ⟨rb, 0, none⟩) ns.length cap] 26)) := by
  have hl : qs.length = ns.length := by rw [← hqe]; simp
  have k5 : ∀ k, k < w5.heap.size → w7.heap[k]? = w5.heap[k]? := fun k hk => (hgr.block k (by simp; omega) (fun e => by have := Option.some.inj e; omega)).trans (Below.heap_alloc w5 ob k hk)
  have hs7 : w5.heap.size < w7.heap.size := by have := hgr.size; simp at this; omega
  have k8 : ∀ k, k < w7.heap.size → (w7.alloc (.cells #[.slice (some ⟨rb, 0, none⟩) ns.length cap] 26)).heap[k]? = w7.heap[k]? := fun k hk => Below.heap_alloc w7 _ k hk
  have W6 : Went W v n g w0 (w5.alloc ob) := went_trans W5 (went_alloc W5.1 ob)
  have W7 : Went W v n g w0 w7 := went_grown W6 hgr (fun k hk => by have h1 : b6 = k := Option.some.inj hk; have := went_size W5; omega) hg
  have hR := R5.lt
  have hrl := World.ownsRow.lt hr rb rfl
  refine ⟨went_trans W7 (went_alloc W7.1 _), R5.same ((k8 _ (by omega)).trans (k5 _ R5.lt)), EBox.made _ _, by omega, ⟨qs, hqe, ?_, fun q hq => ?_⟩, ⟨h1, h7⟩, hin⟩
  · rw [← hl]
    exact World.ownsRow.mono (World.ownsRow.alloc hr _) (by omega)
  · exact own_same (hqz q hq) fun k hk => by
      have := (World.ownsRow.lt (hqz q hq) k hk).2
      rw [k8 k (by omega), k5 k this]

theorem kids_keep {W : World} {v : Value} {n g : Nat} {w0 : World} {b5 rb cap : Nat} {ns : List NodeD} {w w' : World} (h : AnyS W v n g w0 b5 rb cap ns w) {kv : Value} {ks : List Int} (hz : OwnZ w0.heap.size kv ks w) (ho : kv.ownBlock ≠ some rb) (hk : ∀ k, w0.heap.size < k → k < w.heap.size → k ≠ rb → w'.heap[k]? = w.heap[k]?) : IRow w' kv ks :=
  OwnZ.row (B := w0.heap.size) (own_same hz fun j hj => hk j (Nat.lt_of_le_of_ne (World.ownsRow.lt hz j hj).1 (fun e => own_off hz h.res (by decide) (by rw [hj, e]))) (World.ownsRow.lt hz j hj).2 (fun e => ho (by rw [hj, e])))
theorem nIn_one {x : NodeD} (h1 : x.name.size ≤ 1048576) (h2 : x.kids.length ≤ 1048576) (h3 : i64 x.op) (h4 : i64 x.num) (h5 : ∀ k ∈ x.kids, i64 k) : NIn [x] :=
  ⟨by simp, fun z hz => by obtain rfl := List.mem_singleton.1 hz; exact ⟨h1, h2, h3, h4, h5⟩⟩
theorem AnyS.put0 {W : World} {v : Value} {n g : Nat} {w0 : World} {b5 rb cap : Nat} {ns : List NodeD} {w : World} (h : AnyS W v n g w0 b5 rb cap ns w) (hg : g < w0.heap.size) {i : Nat} (hi : i < ns.length) {y : Int} (hy : i64 y) : ∃ ns', AnyE W v n g w0 b5 (.slice (some ⟨rb, 0, none⟩) ns.length cap) ns' (w.setCell ⟨rb, i * 4, none⟩ (.int .i64 y)) := by
  obtain ⟨a, b, c, d, e⟩ := h.nin.2 ns[i] (List.getElem_mem hi)
  exact h.put hg hi (f := 0) (by omega) (.int .i64 y) { ns[i] with op := y } (nIn_one a b hy d e) fun kv ⟨_, n1, n2, n3, _⟩ hz ho w' hoth hsame hkeep =>
    ⟨kv, hsame, (hoth _ (by omega)).trans n1, (hoth _ (by omega)).trans n2, (hoth _ (by omega)).trans n3, kids_keep h hz ho hkeep⟩
theorem AnyS.put1 {W : World} {v : Value} {n g : Nat} {w0 : World} {b5 rb cap : Nat} {ns : List NodeD} {w : World} (h : AnyS W v n g w0 b5 rb cap ns w) (hg : g < w0.heap.size) {i : Nat} (hi : i < ns.length) {y : Int} (hy : i64 y) : ∃ ns', AnyE W v n g w0 b5 (.slice (some ⟨rb, 0, none⟩) ns.length cap) ns' (w.setCell ⟨rb, i * 4 + 1, none⟩ (.int .i64 y)) := by
  obtain ⟨a, b, c, d, e⟩ := h.nin.2 ns[i] (List.getElem_mem hi)
  exact h.put hg hi (f := 1) (by omega) (.int .i64 y) { ns[i] with num := y } (nIn_one a b c hy e) fun kv ⟨n0, _, n2, n3, _⟩ hz ho w' hoth hsame hkeep =>
    ⟨kv, (hoth _ (by omega)).trans n0, hsame, (hoth _ (by omega)).trans n2, (hoth _ (by omega)).trans n3, kids_keep h hz ho hkeep⟩
theorem AnyS.put2 {W : World} {v : Value} {n g : Nat} {w0 : World} {b5 rb cap : Nat} {ns : List NodeD} {w : World} (h : AnyS W v n g w0 b5 rb cap ns w) (hg : g < w0.heap.size) {i : Nat} (hi : i < ns.length) {y : ByteArray} (hy : y.size ≤ 1) : ∃ ns', AnyE W v n g w0 b5 (.slice (some ⟨rb, 0, none⟩) ns.length cap) ns' (w.setCell ⟨rb, i * 4 + 2, none⟩ (.string y)) := by
  obtain ⟨a, b, c, d, e⟩ := h.nin.2 ns[i] (List.getElem_mem hi)
  exact h.put hg hi (f := 2) (by omega) (.string y) { ns[i] with name := y } (nIn_one (by show y.size ≤ _; omega) b c d e) fun kv ⟨n0, n1, _, n3, _⟩ hz ho w' hoth hsame hkeep =>
    ⟨kv, (hoth _ (by omega)).trans n0, (hoth _ (by omega)).trans n1, hsame, (hoth _ (by omega)).trans n3, kids_keep h hz ho hkeep⟩
theorem AnyS.put3 {W : World} {v : Value} {n g : Nat} {w0 : World} {b5 rb cap : Nat} {ns : List NodeD} {w : World} (h : AnyS W v n g w0 b5 rb cap ns w) (hg : g < w0.heap.size) {i : Nat} (hi : i < ns.length) {y : Int} (hy : i64 y) :
    ∃ ns', AnyE W v n g w0 b5 (.slice (some ⟨rb, 0, none⟩) ns.length cap) ns' ((w.alloc (.cells #[.int .i64 y] 3)).setCell ⟨rb, i * 4 + 3, none⟩ (.slice (some ⟨w.heap.size, 0, none⟩) 1 1)) := by
  obtain ⟨a, b, c, d, e⟩ := h.nin.2 ns[i] (List.getElem_mem hi)
  have h2 := h.alloc hg (.cells #[.int .i64 y] 3)
  have z : OwnZ w0.heap.size (.slice (some ⟨w.heap.size, 0, none⟩) 1 1) [y] (w.alloc (.cells #[.int .i64 y] 3)) := ⟨rfl, .inr ⟨_, _, _, rfl, went_size h.went, heap_alloc_new w _, Nat.le_refl _, by unfold maxLen; omega, rfl, rfl⟩⟩
  have hne : (Value.slice (some ⟨w.heap.size, 0, none⟩) 1 1).ownBlock ≠ some rb := fun e => by have e2 : w.heap.size = rb := Option.some.inj e; have := h.rb; omega
  exact h2.put hg hi (f := 3) (by omega) _ { ns[i] with kids := [y] } (nIn_one a (by show 1 ≤ 1048576; decide) c d (fun k hk => by obtain rfl := List.mem_singleton.1 hk; exact hy)) fun kv ⟨n0, n1, n2, _, _⟩ hz ho w' hoth hsame hkeep =>
    ⟨_, (hoth _ (by omega)).trans n0, (hoth _ (by omega)).trans n1, (hoth _ (by omega)).trans n2, hsame, kids_keep h2 z hne hkeep⟩
theorem strs3_at (w : World) : ∀ i, i < 3 → ∃ y : ByteArray, (w.alloc (.cells #[.string ⟨#[]⟩, .string ⟨#[97]⟩, .string ⟨#[65]⟩] 9)).cell? ⟨w.heap.size, i, none⟩ = some (.string y) ∧ y.size ≤ 1 := by
  intro i hi
  have := lit_row w [.string ⟨#[]⟩, .string ⟨#[97]⟩, .string ⟨#[65]⟩] 9 i hi
  rw [show (w.alloc (.cells #[.string ⟨#[]⟩, .string ⟨#[97]⟩, .string ⟨#[65]⟩] 9)) = w.alloc (.cells [Value.string ⟨#[]⟩, .string ⟨#[97]⟩, .string ⟨#[65]⟩].toArray 9) from rfl, this]
  match i, hi with
  | 0, _ => exact ⟨_, rfl, by decide⟩
  | 1, _ => exact ⟨_, rfl, by decide⟩
  | 2, _ => exact ⟨_, rfl, by decide⟩

set_option maxHeartbeats 6400000 in
set_option maxRecDepth 100000 in
theorem l04Any_any (W : World) (v : Value) (n g : Nat) (w : World) (hn : n ≤ 1000000000000) (hcode : CodeRow W v n) (hc : Cur W v n g w) :
    Calls Tryd.prog 10 #[.pointer (some ⟨g, 0, none⟩)] w fun e w' => ∃ o ns, e = .returned (.agg #[o]) ∧ RowIn w.heap.size w' o ns ∧ NIn ns ∧ Went W v n g w w' := by
  obtain ⟨i0, hi, hz0, hz1, hz2⟩ := info_parts Tryd.infoNode
  have HC : Hid (CodeRow W v n) := hcode
  have hgw : g < w.heap.size := hc.lt
  have HW00 : Hid (W.heap.size ≤ w.heap.size) := hc.1.size
  have W1 : Hid (Went W v n g w (w.alloc (.cells #[.slice none 0 0] 26))) := went_alloc hc _
  have R1 : Hid (EBox w.heap.size (.slice none 0 0) (w.alloc (.cells #[.slice none 0 0] 26))) := EBox.made _ _
  have HB1 : Hid (_) := below_any W v n g 16 (w.alloc (.cells #[.slice none 0 0] 26)) hn hcode W1.out.1 (by omega) (by omega)
  clear hcode hc
  go_enter Tryd.func10, Tryd.ntmps10
  go_wp2_with fail
  refine Calls.mono HB1.out ?_
  rintro e w2 ⟨x, rfl, ⟨x0, x1⟩, hw2⟩
  have W2 : Hid (Went W v n g w w2) := went_trans W1.out hw2
  have R2 : Hid (EBox w.heap.size (.slice none 0 0) w2) := R1.out.same (hw2.2.block _ R1.out.lt (fun e => by have := Option.some.inj e; omega))
  have hw2s : w.heap.size < w2.heap.size := R2.out.lt
  clear hw2 HB1 W1 R1
  have W3 : Hid (Went W v n g w (w2.alloc (.cells #[.string ⟨#[97]⟩, .string ⟨#[98]⟩, .string ⟨#[110]⟩] 9))) := went_trans W2.out (went_alloc W2.out.1 _)
  have R3 : Hid (EBox w.heap.size (.slice none 0 0) (w2.alloc (.cells #[.string ⟨#[97]⟩, .string ⟨#[98]⟩, .string ⟨#[110]⟩] 9))) := R2.out.same (Below.heap_alloc w2 _ _ hw2s)
  have s3 : (w2.alloc (.cells #[.string ⟨#[97]⟩, .string ⟨#[98]⟩, .string ⟨#[110]⟩] 9)).heap.size = w2.heap.size + 1 := by simp
  have HX : Hid (_) := expr_any W v n g w2.heap.size 3 2 names3 (w2.alloc (.cells #[.string ⟨#[97]⟩, .string ⟨#[98]⟩, .string ⟨#[110]⟩] 9)) hn HC.out names3_ok (by decide) (by decide) (by omega) (by omega) W3.out.1 (names3_at w2)
  have S3 : Hid ((w2.alloc (.cells #[.string ⟨#[97]⟩, .string ⟨#[98]⟩, .string ⟨#[110]⟩] 9)).heap.size = w2.heap.size + 1) := s3
  clear s3
  go_wp2_with fail
  refine Calls.mono HX.out ?_
  rintro e w4 ⟨o, ns, rfl, ho, hgood, hl1, hl2, hw4⟩
  have W4 : Hid (Went W v n g w w4) := went_trans W3.out hw4
  have R4 : Hid (EBox w.heap.size (.slice none 0 0) w4) := R3.out.same (hw4.2.block _ R3.out.lt (fun e => by have := Option.some.inj e; omega))
  have hl7 : ns.length ≤ 7 := by have : ns.length + 1 ≤ 8 := hl2; omega
  have HNI : Hid (NIn ns) := nIn_right hgood (by omega)
  obtain ⟨qs, hqe, hqr, hqz⟩ := ho.mono (B' := w.heap.size) (by rw [S3.out]; omega)
  have hql : qs.length = ns.length := by rw [← hqe]; simp
  obtain ⟨rb0, co, rfl, hrb0⟩ := own_some hqr (by omega)
  rw [hql]
  have HQe : Hid (qs.map (·.1) = ns) := hqe
  have HQl : Hid (qs.length = ns.length) := hql
  have hq7 : qs.length ≤ 7 := by omega
  have W5 : Hid (Went W v n g w (w4.alloc (.cells #[.slice (some ⟨rb0, 0, none⟩) ns.length co] 26))) := went_trans W4.out (went_alloc W4.out.1 _)
  have R5 : Hid (EBox w.heap.size (.slice none 0 0) (w4.alloc (.cells #[.slice (some ⟨rb0, 0, none⟩) ns.length co] 26))) := R4.out.same (Below.heap_alloc w4 _ _ R4.out.lt)
  have E5 : Hid (EBox w4.heap.size (.slice (some ⟨rb0, 0, none⟩) ns.length co) (w4.alloc (.cells #[.slice (some ⟨rb0, 0, none⟩) ns.length co] 26))) := EBox.made _ _
  have Q5 : Hid ((w4.alloc (.cells #[.slice (some ⟨rb0, 0, none⟩) ns.length co] 26)).ownsRow w.heap.size 32 4 (.slice (some ⟨rb0, 0, none⟩) qs.length co) qs.length (nv qs)) := World.ownsRow.alloc hqr _
  have HQz : Hid (∀ q ∈ qs, OwnZ w.heap.size q.2 q.1.kids (w4.alloc (.cells #[.slice (some ⟨rb0, 0, none⟩) ns.length co] 26))) := fun q hq => World.ownsRow.alloc (hqz q hq) _
  have s5 : (w4.alloc (.cells #[.slice (some ⟨rb0, 0, none⟩) ns.length co] 26)).heap.size = w4.heap.size + 1 := by simp
  have c6 : ((w4.alloc (.cells #[.slice (some ⟨rb0, 0, none⟩) ns.length co] 26)).alloc (.cells #[] 32)).cell? ⟨w4.heap.size, 0, none⟩ = some (.slice (some ⟨rb0, 0, none⟩) ns.length co) := (E5.out.same (Below.heap_alloc (w4.alloc (.cells #[.slice (some ⟨rb0, 0, none⟩) ns.length co] 26)) (.cells #[] 32) w4.heap.size E5.out.lt)).cell
  have hr0 : Hid (((w4.alloc (.cells #[.slice (some ⟨rb0, 0, none⟩) ns.length co] 26)).alloc (.cells #[] 32)).ownsRow (w4.heap.size + 1) 32 4 (.slice (some ⟨w4.heap.size + 1, 0, none⟩) 0 0) 0 []) := by
    have := World.ownsRow_made (base := w4.heap.size + 1) (w4.alloc (.cells #[.slice (some ⟨rb0, 0, none⟩) ns.length co] 26)) #[] 0 (e := 32) (size := 4) (by rw [s5]; exact Nat.le_refl _) (by decide) rfl
    rw [s5] at this
    exact this
  have HNw : Hid (∀ j u, (nv qs)[j]? = some u → ((w4.alloc (.cells #[.slice (some ⟨rb0, 0, none⟩) ns.length co] 26)).alloc (.cells #[] 32)).cell? ((⟨rb0, 0, none⟩ : Addr).add j) = some u) := fun j u hu => World.ownsRow.cells (World.ownsRow.alloc Q5.out (.cells #[] 32)) (g := rb0) rfl j u hu
  have HNc : Hid (∀ u ∈ nv qs, u.oneCell' = true) := nv_cells qs HQz.out
  have HNl : Hid ((nv qs).length = ns.length * 4) := by rw [Hid, nv_len, hql]
  have HS5 : Hid (_) := s5
  clear ho hgood hl2 hw4 hqr hqz hqe hql s5
  go_wp2_with (at_builtin; refine wpList_append_own _ rfl _ _ 24 rfl (w4.heap.size + 1) 32 i0 _ 4 56 Tryd.underlying24 hi hz0 hz1 hz2 rfl (by decide) _ _ _ rfl hr0.out ⟨rb0, 0, none⟩ ns.length co (nv qs) rfl HNl.out HNw.out HNc.out (by unfold maxLen; omega) (by omega) (by simp) ?_)
  intro o2 w7 hown7 hgrow _
  have hown : w7.ownsRow (w4.heap.size + 1) 32 4 o2 qs.length (nv qs) := by
    rw [HQl.out]
    have := hown7
    first | exact this | (simp only [Nat.zero_add, List.nil_append] at this; exact this)
  obtain ⟨rb, cap, rfl, hrb⟩ := own_some hown (by rw [HQl.out]; omega)
  have HS : Hid (AnyS W v n g w w7.heap.size rb cap ns (w7.alloc (.cells #[.slice (some ⟨rb, 0, none⟩) ns.length cap] 26))) := anyS_made hgw W5.out R5.out HQe.out HQz.out hl1 hl7 HNI.out HS5.out _ hown hgrow
  rw [HQl.out]
  clear hown hown7 hgrow HNw HNc HNl hr0 c6 HQz Q5 E5 R5 W5 HQe R4 W4
  have c8 := HS.out.box.cell
  have HB8 : Hid (_) := below_any W v n g (ns.length : Int) _ hn HC.out HS.out.went.1 (by omega) (by omega)
  go_wp2_with fail
  generalize (w7.alloc (.cells #[.slice (some ⟨rb, 0, none⟩) ns.length cap] 26)) = w8 at *
  generalize w7.heap.size = b5 at *
  refine Calls.mono HB8.out ?_
  rintro e w9 ⟨k0, rfl, ⟨k0a, k0b⟩, hw9⟩
  have S9 : Hid (AnyS W v n g w b5 rb cap ns w9) := HS.out.on hgw hw9
  obtain ⟨k, rfl⟩ := Int.eq_ofNat_of_zero_le k0a
  have hk : k < ns.length := by omega
  have c9 := S9.out.box.cell
  have SD : Hid (AnyS W v n g w b5 rb cap ns w9.drew) := S9.out.drew hgw
  clear hw9 HB8 HS c8 k0a k0b
  have HW0 : Hid (W.heap.size ≤ w.heap.size) := HW00.out
  by_cases x0_ : x = 0
  · subst x0_
    have HB : Hid (_) := below_any W v n g 13 w9.drew hn HC.out SD.out.went.1 (by omega) (by omega)
    go_wp2
    go_region_law ((go_simp; go_at_call 21; refine Calls.mono HB.out ?_; rintro e w10 ⟨y, rfl, ⟨y0, y1⟩, hw10⟩; have S10 := SD.out.on hgw hw10; have c10 := S10.box.cell; obtain ⟨kv, ⟨n0, n1, n2, n3, n4⟩, nf, nz, no⟩ := S10.cells hk; have f0 : w10.frozen? ⟨rb, k * 4, none⟩ = false := nf 0 (by omega); have f1 := nf 1 (by omega); have f2 := nf 2 (by omega); have f3 := nf 3 (by omega); try go_wp2))
    all_goals
      obtain ⟨ne, he⟩ := S10.put0 hgw hk (y := y) ⟨by omega, by omega⟩
      have HE : Hid (AnyE W v n g w b5 (.slice (some ⟨rb, 0, none⟩) ns.length cap) ne (w10.setCell ⟨rb, k * 4, none⟩ (.int .i64 y))) := he
      clear he hw10 S10 c10 n0 n1 n2 n3 n4 nf nz no f0 f1 f2 f3 c9 S9 SD kv
      generalize w10.setCell ⟨rb, k * 4, none⟩ (.int .i64 y) = we at *
      have ce := HE.out.box.cell
      have re := HE.out.res.cell
      have fe := HE.out.res.frozen
      have r5 : (we.setCell ⟨w.heap.size, 0, none⟩ (.slice (some ⟨rb, 0, none⟩) ns.length cap)).cell? ⟨w.heap.size, 0, none⟩ = some (.slice (some ⟨rb, 0, none⟩) ns.length cap) := World.cell?_setCell_same _ _ _ re
      have HR : Hid (RowIn w.heap.size (we.setCell ⟨w.heap.size, 0, none⟩ (.slice (some ⟨rb, 0, none⟩) ns.length cap)) (.slice (some ⟨rb, 0, none⟩) ns.length cap) ne ∧ NIn ne ∧ Went W v n g w (we.setCell ⟨w.heap.size, 0, none⟩ (.slice (some ⟨rb, 0, none⟩) ns.length cap))) := ⟨HE.out.row.set (Nat.le_refl _) _, HE.out.nin, went_set HE.out.went (Nat.le_refl _) (by omega) HW0.out⟩
      go_wp2
      generalize we.setCell ⟨w.heap.size, 0, none⟩ (.slice (some ⟨rb, 0, none⟩) ns.length cap) = w5 at *
      (try simp only [Exit.inBlock, Exit.then])
      refine bodyPost_ret (by simp [results, Tryd.results10, go_sem, r5]; try rfl) rfl ?_
      exact ⟨_, _, rfl, HR.out⟩
  by_cases x1_ : x = 1
  · subst x1_
    have SA : Hid (AnyS W v n g w b5 rb cap ns (w9.alloc (.cells #[.int .i64 (-1), .int .i64 5, .int .i64 99, .int .i64 100] 3)).drew) := (S9.out.alloc hgw _).drew hgw
    have ca := (S9.out.alloc hgw (.cells #[.int .i64 (-1), .int .i64 5, .int .i64 99, .int .i64 100] 3)).box.cell
    have HB : Hid (_) := pickIntP_any (fun y => -1 ≤ y ∧ y ≤ 100) W v n g 4 w9.heap.size 4 (w9.alloc (.cells #[.int .i64 (-1), .int .i64 5, .int .i64 99, .int .i64 100] 3)).drew hn HC.out SA.out.went.1 (by omega) (by omega) (by have := S9.out.went.1.lt; omega) (lit_ints (fun y => -1 ≤ y ∧ y ≤ 100) w9 [-1, 5, 99, 100] 3 (by decide))
    go_wp2
    go_region_law ((go_simp; go_at_call 22; refine Calls.mono HB.out ?_; rintro e w10 ⟨y, rfl, ⟨y0, y1⟩, hw10⟩; have S10 := SA.out.on hgw hw10; have c10 := S10.box.cell; obtain ⟨kv, ⟨n0, n1, n2, n3, n4⟩, nf, nz, no⟩ := S10.cells hk; have f0 : w10.frozen? ⟨rb, k * 4, none⟩ = false := nf 0 (by omega); have f1 := nf 1 (by omega); have f2 := nf 2 (by omega); have f3 := nf 3 (by omega); try go_wp2))
    all_goals
      obtain ⟨ne, he⟩ := S10.put1 hgw hk (y := y) ⟨by omega, by omega⟩
      have HE : Hid (AnyE W v n g w b5 (.slice (some ⟨rb, 0, none⟩) ns.length cap) ne (w10.setCell ⟨rb, k * 4 + 1, none⟩ (.int .i64 y))) := he
      clear he hw10 S10 c10 n0 n1 n2 n3 n4 nf nz no f0 f1 f2 f3 c9 S9 SD kv
      generalize w10.setCell ⟨rb, k * 4 + 1, none⟩ (.int .i64 y) = we at *
      have ce := HE.out.box.cell
      have re := HE.out.res.cell
      have fe := HE.out.res.frozen
      have r5 : (we.setCell ⟨w.heap.size, 0, none⟩ (.slice (some ⟨rb, 0, none⟩) ns.length cap)).cell? ⟨w.heap.size, 0, none⟩ = some (.slice (some ⟨rb, 0, none⟩) ns.length cap) := World.cell?_setCell_same _ _ _ re
      have HR : Hid (RowIn w.heap.size (we.setCell ⟨w.heap.size, 0, none⟩ (.slice (some ⟨rb, 0, none⟩) ns.length cap)) (.slice (some ⟨rb, 0, none⟩) ns.length cap) ne ∧ NIn ne ∧ Went W v n g w (we.setCell ⟨w.heap.size, 0, none⟩ (.slice (some ⟨rb, 0, none⟩) ns.length cap))) := ⟨HE.out.row.set (Nat.le_refl _) _, HE.out.nin, went_set HE.out.went (Nat.le_refl _) (by omega) HW0.out⟩
      go_wp2
      generalize we.setCell ⟨w.heap.size, 0, none⟩ (.slice (some ⟨rb, 0, none⟩) ns.length cap) = w5 at *
      (try simp only [Exit.inBlock, Exit.then])
      refine bodyPost_ret (by simp [results, Tryd.results10, go_sem, r5]; try rfl) rfl ?_
      exact ⟨_, _, rfl, HR.out⟩
  by_cases x2_ : x = 2
  · subst x2_
    have SA : Hid (AnyS W v n g w b5 rb cap ns (w9.alloc (.cells #[.int .i64 (-1), .int .i64 0, .int .i64 (k : Int)] 3)).drew) := (S9.out.alloc hgw _).drew hgw
    have ca := (S9.out.alloc hgw (.cells #[.int .i64 (-1), .int .i64 0, .int .i64 (k : Int)] 3)).box.cell
    have HB : Hid (_) := pickIntP_any (fun y => -1 ≤ y ∧ y ≤ 100) W v n g 3 w9.heap.size 3 (w9.alloc (.cells #[.int .i64 (-1), .int .i64 0, .int .i64 (k : Int)] 3)).drew hn HC.out SA.out.went.1 (by omega) (by omega) (by have := S9.out.went.1.lt; omega) (lit_ints (fun y => -1 ≤ y ∧ y ≤ 100) w9 [-1, 0, (k : Int)] 3 (fun y hy => by simp only [List.mem_cons, List.not_mem_nil, or_false] at hy; rcases hy with rfl | rfl | rfl <;> omega))
    go_wp2
    go_region_law ((go_simp; go_at_call 22; refine Calls.mono HB.out ?_; rintro e w10 ⟨y, rfl, ⟨y0, y1⟩, hw10⟩; have S10 := SA.out.on hgw hw10; have c10 := S10.box.cell; have S11 := S10.alloc hgw (.cells #[.int .i64 y] 3); have c11 := S11.box.cell; obtain ⟨kv, ⟨n0, n1, n2, n3, n4⟩, nf, nz, no⟩ := S11.cells hk; have f0 := nf 0 (by omega); have f1 := nf 1 (by omega); have f2 := nf 2 (by omega); have f3 := nf 3 (by omega); try go_wp2))
    all_goals
      obtain ⟨ne, he⟩ := S10.put3 hgw hk (y := y) ⟨by omega, by omega⟩
      have HE : Hid (AnyE W v n g w b5 (.slice (some ⟨rb, 0, none⟩) ns.length cap) ne ((w10.alloc (.cells #[.int .i64 y] 3)).setCell ⟨rb, k * 4 + 3, none⟩ (.slice (some ⟨w10.heap.size, 0, none⟩) 1 1))) := he
      clear he hw10 S10 S11 c10 c11 n0 n1 n2 n3 n4 nf nz no f0 f1 f2 f3 c9 S9 SD kv
      generalize (w10.alloc (.cells #[.int .i64 y] 3)).setCell ⟨rb, k * 4 + 3, none⟩ (.slice (some ⟨w10.heap.size, 0, none⟩) 1 1) = we at *
      have ce := HE.out.box.cell
      have re := HE.out.res.cell
      have fe := HE.out.res.frozen
      have r5 : (we.setCell ⟨w.heap.size, 0, none⟩ (.slice (some ⟨rb, 0, none⟩) ns.length cap)).cell? ⟨w.heap.size, 0, none⟩ = some (.slice (some ⟨rb, 0, none⟩) ns.length cap) := World.cell?_setCell_same _ _ _ re
      have HR : Hid (RowIn w.heap.size (we.setCell ⟨w.heap.size, 0, none⟩ (.slice (some ⟨rb, 0, none⟩) ns.length cap)) (.slice (some ⟨rb, 0, none⟩) ns.length cap) ne ∧ NIn ne ∧ Went W v n g w (we.setCell ⟨w.heap.size, 0, none⟩ (.slice (some ⟨rb, 0, none⟩) ns.length cap))) := ⟨HE.out.row.set (Nat.le_refl _) _, HE.out.nin, went_set HE.out.went (Nat.le_refl _) (by omega) HW0.out⟩
      go_wp2
      generalize we.setCell ⟨w.heap.size, 0, none⟩ (.slice (some ⟨rb, 0, none⟩) ns.length cap) = w5 at *
      (try simp only [Exit.inBlock, Exit.then])
      refine bodyPost_ret (by simp [results, Tryd.results10, go_sem, r5]; try rfl) rfl ?_
      exact ⟨_, _, rfl, HR.out⟩
  by_cases x3_ : x = 3
  · subst x3_
    have SA : Hid (AnyS W v n g w b5 rb cap ns (w9.alloc (.cells #[.string ⟨#[]⟩, .string ⟨#[97]⟩, .string ⟨#[65]⟩] 9)).drew) := (S9.out.alloc hgw _).drew hgw
    have ca := (S9.out.alloc hgw (.cells #[.string ⟨#[]⟩, .string ⟨#[97]⟩, .string ⟨#[65]⟩] 9)).box.cell
    have HB : Hid (_) := pickP_any (fun y => y.size ≤ 1) W v n g 3 w9.heap.size 3 (w9.alloc (.cells #[.string ⟨#[]⟩, .string ⟨#[97]⟩, .string ⟨#[65]⟩] 9)).drew hn HC.out SA.out.went.1 (by omega) (by omega) (by have := S9.out.went.1.lt; omega) (strs3_at w9)
    go_wp2
    go_region_law ((go_simp; go_at_call 23; refine Calls.mono HB.out ?_; rintro e w10 ⟨y, rfl, y0, hw10⟩; have S10 := SA.out.on hgw hw10; have c10 := S10.box.cell; obtain ⟨kv, ⟨n0, n1, n2, n3, n4⟩, nf, nz, no⟩ := S10.cells hk; have f0 : w10.frozen? ⟨rb, k * 4, none⟩ = false := nf 0 (by omega); have f1 := nf 1 (by omega); have f2 := nf 2 (by omega); have f3 := nf 3 (by omega); try go_wp2))
    all_goals
      obtain ⟨ne, he⟩ := S10.put2 hgw hk (y := y) y0
      have HE : Hid (AnyE W v n g w b5 (.slice (some ⟨rb, 0, none⟩) ns.length cap) ne (w10.setCell ⟨rb, k * 4 + 2, none⟩ (.string y))) := he
      clear he hw10 S10 c10 n0 n1 n2 n3 n4 nf nz no f0 f1 f2 f3 c9 S9 SD kv
      generalize w10.setCell ⟨rb, k * 4 + 2, none⟩ (.string y) = we at *
      have ce := HE.out.box.cell
      have re := HE.out.res.cell
      have fe := HE.out.res.frozen
      have r5 : (we.setCell ⟨w.heap.size, 0, none⟩ (.slice (some ⟨rb, 0, none⟩) ns.length cap)).cell? ⟨w.heap.size, 0, none⟩ = some (.slice (some ⟨rb, 0, none⟩) ns.length cap) := World.cell?_setCell_same _ _ _ re
      have HR : Hid (RowIn w.heap.size (we.setCell ⟨w.heap.size, 0, none⟩ (.slice (some ⟨rb, 0, none⟩) ns.length cap)) (.slice (some ⟨rb, 0, none⟩) ns.length cap) ne ∧ NIn ne ∧ Went W v n g w (we.setCell ⟨w.heap.size, 0, none⟩ (.slice (some ⟨rb, 0, none⟩) ns.length cap))) := ⟨HE.out.row.set (Nat.le_refl _) _, HE.out.nin, went_set HE.out.went (Nat.le_refl _) (by omega) HW0.out⟩
      go_wp2
      generalize we.setCell ⟨w.heap.size, 0, none⟩ (.slice (some ⟨rb, 0, none⟩) ns.length cap) = w5 at *
      (try simp only [Exit.inBlock, Exit.then])
      refine bodyPost_ret (by simp [results, Tryd.results10, go_sem, r5]; try rfl) rfl ?_
      exact ⟨_, _, rfl, HR.out⟩
  by_cases x4_ : x = 4
  · subst x4_
    have f9 := S9.out.box.frozen
    have SN := S9.out.alloc hgw (.cells #[] 32)
    have cn := SN.box.cell
    have fn := SN.box.frozen
    obtain ⟨oe, hoe⟩ : ∃ oe, oe = Value.slice (some ⟨w9.heap.size, 0, none⟩) 0 0 := ⟨_, rfl⟩
    have he := S9.out.noNodes hgw (.cells #[] 32) w9.heap.size
    rw [← hoe] at he
    obtain ⟨ne, hne⟩ : ∃ ne : List NodeD, ne = [] := ⟨_, rfl⟩
    rw [← hne] at he
    have HE : Hid (AnyE W v n g w b5 oe ne ((w9.alloc (.cells #[] 32)).setCell ⟨b5, 0, none⟩ oe)) := he
    have ce := HE.out.box.cell
    have re := HE.out.res.cell
    have fe := HE.out.res.frozen
    have r5 : (((w9.alloc (.cells #[] 32)).setCell ⟨b5, 0, none⟩ oe).setCell ⟨w.heap.size, 0, none⟩ oe).cell? ⟨w.heap.size, 0, none⟩ = some oe := World.cell?_setCell_same _ _ _ re
    have HR : Hid (RowIn w.heap.size (((w9.alloc (.cells #[] 32)).setCell ⟨b5, 0, none⟩ oe).setCell ⟨w.heap.size, 0, none⟩ oe) oe ne ∧ NIn ne ∧ Went W v n g w (((w9.alloc (.cells #[] 32)).setCell ⟨b5, 0, none⟩ oe).setCell ⟨w.heap.size, 0, none⟩ oe)) := ⟨HE.out.row.set (Nat.le_refl _) _, HE.out.nin, went_set HE.out.went (Nat.le_refl _) (by omega) HW0.out⟩
    clear he hne SN SD S9
    subst hoe
    go_wp2
    generalize (((w9.alloc (.cells #[] 32)).setCell ⟨b5, 0, none⟩ (.slice (some ⟨w9.heap.size, 0, none⟩) 0 0)).setCell ⟨w.heap.size, 0, none⟩ (.slice (some ⟨w9.heap.size, 0, none⟩) 0 0)) = w5 at *
    (try simp only [Exit.inBlock, Exit.then])
    refine bodyPost_ret (by simp [results, Tryd.results10, go_sem, r5]; try rfl) rfl ?_
    exact ⟨_, _, rfl, HR.out⟩
  obtain ⟨oe, hoe⟩ : ∃ oe, oe = Value.slice (some ⟨rb, 0, none⟩) ns.length cap := ⟨_, rfl⟩
  have he := S9.out.stay
  rw [← hoe] at he
  obtain ⟨ne, hne⟩ : ∃ ne, ne = ns := ⟨_, rfl⟩
  rw [← hne] at he
  have HE : Hid (AnyE W v n g w b5 oe ne w9) := he
  subst hoe
  have ce := HE.out.box.cell
  have re := HE.out.res.cell
  have fe := HE.out.res.frozen
  have r5 : (w9.setCell ⟨w.heap.size, 0, none⟩ (.slice (some ⟨rb, 0, none⟩) ns.length cap)).cell? ⟨w.heap.size, 0, none⟩ = some (.slice (some ⟨rb, 0, none⟩) ns.length cap) := World.cell?_setCell_same _ _ _ re
  have HR : Hid (RowIn w.heap.size (w9.setCell ⟨w.heap.size, 0, none⟩ (.slice (some ⟨rb, 0, none⟩) ns.length cap)) (.slice (some ⟨rb, 0, none⟩) ns.length cap) ne ∧ NIn ne ∧ Went W v n g w (w9.setCell ⟨w.heap.size, 0, none⟩ (.slice (some ⟨rb, 0, none⟩) ns.length cap))) := ⟨HE.out.row.set (Nat.le_refl _) _, HE.out.nin, went_set HE.out.went (Nat.le_refl _) (by omega) HW0.out⟩
  clear he hne SD S9
  go_wp2
  generalize w9.setCell ⟨w.heap.size, 0, none⟩ (.slice (some ⟨rb, 0, none⟩) ns.length cap) = w5 at *
  (try simp only [Exit.inBlock, Exit.then])
  refine bodyPost_ret (by simp [results, Tryd.results10, go_sem, r5]; try rfl) rfl ?_
  exact ⟨_, _, rfl, HR.out⟩
end Go.Proofs.YtbpfapjchmignaaDoor
