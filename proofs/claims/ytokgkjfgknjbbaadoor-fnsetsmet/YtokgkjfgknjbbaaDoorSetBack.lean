/- Sets of bytes, with no program: what is told of a set, read again, is the set; and its bytes ascend. -/
import Derived.Test.YtokgkjfgknjbbaaDoorSetText
namespace Go.Proofs.YtokgkjfgknjbbaaDoor

theorem pre_head {P : UInt8 → Prop} {h : Nat → List UInt8} : ∀ n, (∀ i, i < n → ∀ u q, h i = u :: q → P u) → ∀ u q, pre h n = u :: q → P u
  | 0, _, u, q, e => by cases e
  | n + 1, hh, u, q, e => by
    rw [pre_succ] at e
    cases hp : pre h n with
    | nil => rw [hp] at e; exact hh n (by omega) u q e
    | cons u' q' =>
      rw [hp] at e
      have e1 := (List.cons.inj e).1
      rw [← e1]
      exact pre_head n (fun i hi => hh i (by omega)) u' q' hp
theorem suf_head {f : Nat → Bool} (hs : Sup f) (b : Nat) : ∀ u q, suf (cellT UInt8.ofNat f) 256 b = u :: q → okb u.toNat = true := by
  refine pre_head (P := fun u => okb u.toNat = true) _ fun i hi u q e => ?_
  unfold cellT at e
  split at e
  · rename_i hf
    have hu : u = UInt8.ofNat (b + i) := by
      split at e
      · cases e
      · split at e
        · exact (List.cons.inj e).1.symm
        · exact (List.cons.inj e).1.symm
    rw [hu, toNat_ofNat _ (by omega)]
    exact hs _ hf
  · cases e

theorem run_end {f : Nat → Bool} (hs : Sup f) : ∀ d b, 123 - b ≤ d → f b = true → ∃ e, b ≤ e ∧ (∀ i, b ≤ i → i ≤ e → f i = true) ∧ f (e + 1) = false
  | 0, b, hd, hb => by
    have := (okb_iff b).1 (hs b hb)
    omega
  | d + 1, b, hd, hb => by
    cases h1 : f (b + 1) with
    | false => exact ⟨b, Nat.le_refl _, fun i h2 h3 => by rw [show i = b by omega]; exact hb, h1⟩
    | true =>
      have := (okb_iff b).1 (hs b hb)
      obtain ⟨e, he, hr, hn⟩ := run_end hs d (b + 1) (by omega) h1
      refine ⟨e, by omega, fun i h2 h3 => ?_, hn⟩
      by_cases h4 : i = b
      · rw [h4]; exact hb
      · exact hr i (by omega) h3

theorem suf_of_pre {h : Nat → List UInt8} {b e n : Nat} {l : List UInt8} (hb : b ≤ e) (he : e ≤ n) (hp : pre h e = pre h b ++ l) : suf h n b = l ++ suf h n e := by
  have h1 := pre_suf h (n := n) (b := b) (by omega)
  rw [pre_suf h he, hp, List.append_assoc] at h1
  exact (List.append_cancel_left h1).symm

theorem inR_cons (p : Nat × Nat) (rs : List (Nat × Nat)) (x : Nat) : inR (p :: rs) x = ((decide (p.1 ≤ x) && decide (x ≤ p.2)) || inR rs x) := by simp [inR]

set_option maxHeartbeats 800000 in
theorem rows_suf {f : Nat → Bool} (hs : Sup f) : ∀ d b, 256 - b ≤ d → b ≤ 256 → (0 < b → f (b - 1) = false) → ∃ rs, rowsL (suf (cellT UInt8.ofNat f) 256 b) = some rs ∧ ∀ x, inR rs x = (decide (b ≤ x) && f x)
  | 0, b, hd, hb, _ => by
    obtain rfl : b = 256 := by omega
    refine ⟨[], by rw [suf_end]; rfl, fun x => ?_⟩
    by_cases hx : 256 ≤ x
    · rw [hs.no (b := x) ((okb_not x).2 (by omega))]; simp [inR]
    · simp [inR, hx]
  | d + 1, b, hd, hb, hprev => by
    by_cases hb0 : b = 256
    · subst hb0
      refine ⟨[], by rw [suf_end]; rfl, fun x => ?_⟩
      by_cases hx : 256 ≤ x
      · rw [hs.no (b := x) ((okb_not x).2 (by omega))]; simp [inR]
      · simp [inR, hx]
    cases hf : f b with
    | false =>
      obtain ⟨rs, h1, h2⟩ := rows_suf hs d (b + 1) (by omega) (by omega) (fun _ => hf)
      refine ⟨rs, ?_, fun x => ?_⟩
      · rw [suf_of_pre (l := []) (Nat.le_succ b) (by omega) (by rw [pre_succ, cellT_none hf])]
        exact h1
      · rw [h2 x]
        by_cases hx : x = b
        · subst hx; simp [hf]
        · congr 1
          apply decide_eq_decide.2
          omega
    | true =>
      obtain ⟨e, hbe, hrun, hend⟩ := run_end hs _ b (Nat.le_refl _) hf
      have ob := (okb_iff b).1 (hs b hf)
      have oe := (okb_iff e).1 (hs e (hrun e hbe (Nat.le_refl _)))
      have same : 57 < e ↔ 57 < b := by
        constructor
        · intro h
          apply Decidable.byContradiction
          intro h'
          have := (okb_iff 58).1 (hs 58 (hrun 58 (by omega) (by omega)))
          omega
        · omega
      obtain ⟨rs, h1, h2⟩ := rows_suf hs d (e + 2) (by omega) (by omega) (fun _ => hend)
      have hskip : suf (cellT UInt8.ofNat f) 256 (e + 1) = suf (cellT UInt8.ofNat f) 256 (e + 2) :=
        suf_of_pre (l := []) (Nat.le_succ _) (by omega) (by rw [pre_succ, cellT_none hend])
      have hin : ∀ x, (decide (b ≤ x) && decide (x ≤ e) || (decide (e + 2 ≤ x) && f x)) = (decide (b ≤ x) && f x) := fun x => by
        by_cases h3 : b ≤ x
        · by_cases h4 : x ≤ e
          · simp [h3, h4, hrun x h3 h4]
          · by_cases h5 : x = e + 1
            · subst h5; simp [hend]
            · simp [h3, h4, (by omega : e + 2 ≤ x)]
        · rw [decide_eq_false h3, decide_eq_false (by omega : ¬ e + 2 ≤ x)]
          simp
      have tb : (UInt8.ofNat b).toNat = b := toNat_ofNat b (by omega)
      have te : (UInt8.ofNat e).toNat = e := toNat_ofNat e (by omega)
      by_cases hlong : b + 2 ≤ e
      · refine ⟨(b, e) :: rs, ?_, fun x => by rw [inR_cons, h2]; exact hin x⟩
        rw [suf_of_pre (l := [UInt8.ofNat b, 45, UInt8.ofNat e]) (by omega) (by omega) (pre_row UInt8.ofNat f hrun hlong hprev hend), hskip]
        refine (rowsL_row _ _ _ _ (by rw [tb]; exact hs b hf) rfl ?_).trans ?_
        · rw [tb, te, rowOk, hs e (hrun e hbe (Nat.le_refl _)), decide_eq_true hbe]
          simp [same]
        · show Option.map _ (rowsL (suf (cellT UInt8.ofNat f) 256 (e + 2))) = _
          rw [h1, tb, te]; rfl
      · have hnd : ∀ u q, suf (cellT UInt8.ofNat f) 256 (e + 1) = u :: q → u.toNat ≠ 45 := fun u q hq => by
          have := (okb_iff _).1 (suf_head hs (e + 1) u q hq)
          omega
        have p1 : ((decide (0 < b) && f (b - 1)) && f (b + 1)) = false := by
          by_cases h0 : 0 < b
          · simp [hprev h0]
          · simp [h0]
        by_cases he : e = b
        · subst he
          refine ⟨(e, e) :: rs, ?_, fun x => by rw [inR_cons, h2]; exact hin x⟩
          rw [suf_of_pre (l := [UInt8.ofNat e]) (by omega) (by omega) (pre_one UInt8.ofNat f hf (by simp [hend]) p1)]
          refine (rowsL_one _ _ (by rw [te]; exact hs e hf) (fun u c q hq => hnd u (c :: q) hq)).trans ?_
          rw [hskip, h1, te]
          rfl
        · obtain rfl : e = b + 1 := by omega
          have hf1 := hrun (b + 1) (by omega) (by omega)
          refine ⟨(b, b) :: (b + 1, b + 1) :: rs, ?_, fun x => ?_⟩
          · rw [suf_of_pre (l := [UInt8.ofNat b]) (by omega) (by omega) (pre_one UInt8.ofNat f hf (by simp [hend]) p1),
              suf_of_pre (b := b + 1) (l := [UInt8.ofNat (b + 1)]) (by omega) (by omega) (pre_one UInt8.ofNat f hf1 (by simp [hend]) (by simp [hend]))]
            refine (rowsL_one _ _ (by rw [tb]; exact hs b hf) (fun u c q hq => ?_)).trans ?_
            · have hu : u = UInt8.ofNat (b + 1) := (List.cons.inj hq).1.symm
              rw [hu, te]
              omega
            · refine (congrArg _ ((rowsL_one (UInt8.ofNat (b + 1)) _ (by rw [te]; exact hs _ hf1) (fun u c q hq => hnd u (c :: q) hq)))).trans ?_
              rw [hskip, h1, tb, te]
              rfl
          · rw [inR_cons, inR_cons, h2, ← hin x, ← Bool.or_assoc]
            congr 1
            rw [Bool.eq_iff_iff]
            simp only [Bool.or_eq_true, Bool.and_eq_true, decide_eq_true_eq]
            omega

/-- What is told of a set, if it may be told, is that set. -/
theorem told_back {f : Nat → Bool} (hs : Sup f) (h : okL (textB f) = true) : inL (textB f) = f := by
  obtain ⟨rs, h1, h2⟩ := rows_suf hs 256 0 (by omega) (by omega) (fun h => absurd h (by omega))
  have e : suf (cellT UInt8.ofNat f) 256 0 = textB f := by
    rw [textB, pre_suf _ (Nat.zero_le 256)]
    rfl
  rw [e] at h1
  funext x
  rw [inL, h, h1, Bool.true_and]
  exact (h2 x).trans (by simp)

theorem told_some {f : Nat → Bool} (h : okL (textB f) = true) : ∃ x, f x = true := by
  apply Classical.byContradiction
  intro hn
  rw [text_none (fun x => by
    cases hf : f x with
    | false => rfl
    | true => exact absurd ⟨x, hf⟩ hn)] at h
  cases h

theorem pre_asc (f : Nat → Bool) : ∀ n, n ≤ 256 → (pre (cellB UInt8.ofNat f) n).Pairwise (fun a b => a.toNat < b.toNat) ∧ ∀ u ∈ pre (cellB UInt8.ofNat f) n, u.toNat < n
  | 0, _ => ⟨List.Pairwise.nil, fun _ h => by cases h⟩
  | n + 1, hn => by
    obtain ⟨h1, h2⟩ := pre_asc f n (by omega)
    rw [pre_succ]
    cases hf : f n with
    | false =>
      rw [cellB_none hf, List.append_nil]
      exact ⟨h1, fun u hu => by have := h2 u hu; omega⟩
    | true =>
      rw [cellB_yes hf]
      refine ⟨List.pairwise_append.2 ⟨h1, List.pairwise_singleton _ _, fun a ha b hb => ?_⟩, fun u hu => ?_⟩
      · obtain rfl := List.mem_singleton.1 hb
        rw [toNat_ofNat n (by omega)]
        exact h2 a ha
      · rcases List.mem_append.1 hu with hu | hu
        · have := h2 u hu; omega
        · obtain rfl := List.mem_singleton.1 hu
          rw [toNat_ofNat n (by omega)]
          omega
theorem bytes_asc (f : Nat → Bool) (i : Nat) (h : i + 1 < (bytesB f).length) : (bytesB f)[i].toNat < (bytesB f)[i + 1].toNat :=
  List.pairwise_iff_getElem.1 (pre_asc f 256 (Nat.le_refl _)).1 i (i + 1) (Nat.lt_of_succ_lt h) h (Nat.lt_succ_self i)

theorem join_comm (a b : List UInt8) : joinP a b = joinP b a := by
  unfold joinP
  rw [Bool.and_comm (okL a)]
  congr 1
  congr 1
  funext x
  exact Bool.or_comm _ _

/-- All of them: the text a-z0-9. -/
def allL : List UInt8 := [97, 45, 122, 48, 45, 57]
theorem all_rows : rowsL allL = some [(97, 122), (48, 57)] := by decide +kernel
theorem all_okL : okL allL = true := by decide +kernel
theorem all_in : inL allL = okb := by
  funext x
  rw [inL, all_okL, all_rows]
  simp [inR, okb]
theorem all_text : okL (textB okb) = true := by decide +kernel
theorem join_all {a : List UInt8} (h : okL a = true) : joinP a allL = (textB okb, true) := by
  have e : (fun x => inL a x || inL allL x) = okb := by
    funext x
    rw [all_in]
    cases ha : inL a x with
    | false => rfl
    | true => rw [inL_okb ha]; rfl
  rw [joinP, h, all_okL, e, toldP, all_text]
  rfl
theorem meet_all {a : List UInt8} (h : okL a = true) : meetP a allL = toldP (inL a) := by
  have e : (fun x => inL a x && inL allL x) = inL a := by
    funext x
    rw [all_in]
    cases ha : inL a x with
    | false => rfl
    | true => rw [inL_okb ha]; rfl
  rw [meetP, h, all_okL, e]
  rfl
theorem cbaba : setOfP [99, 98, 97, 98, 97] = ([97, 45, 99], true) := by decide +kernel

end Go.Proofs.YtokgkjfgknjbbaaDoor
