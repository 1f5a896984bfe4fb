/- Lists of tokens in memory: read, and owned. -/
import Derived.Test.YtoldlbefddhhbaaS10T
namespace Go.Proofs.Ytoldlbefddhhbaa
open Go.RowKit
set_option linter.unusedVariables false

/-- The cells of a list of tokens. -/
def tv (xs : List TokD) : List Value := xs.flatMap fun x => [.int .i64 x.kind, .string x.text]
theorem tv_set : ∀ (ys : List TokD) (i : Nat) (x : TokD), i < ys.length → tv (ys.set i x) = ((tv ys).set (i * 2) (.int .i64 x.kind)).set (i * 2 + 1) (.string x.text)
  | y :: ys, 0, x, _ => rfl
  | y :: ys, i + 1, x, h => by
    have e : tv (y :: ys) = .int .i64 y.kind :: .string y.text :: tv ys := rfl
    have e2 : tv ((y :: ys).set (i + 1) x) = .int .i64 y.kind :: .string y.text :: tv (ys.set i x) := rfl
    rw [e, e2, tv_set ys i x (by simpa using h), show (i + 1) * 2 = i * 2 + 1 + 1 by omega]
    rfl
def OwnT (B : Nat) (v : Value) (xs : List TokD) (w : World) : Prop := w.ownsRow B 32 2 v xs.length (tv xs)
theorem vss_tv : ∀ (vss : List (List Value)) (xs : List TokD), vss.length = xs.length → (∀ i (h : i < vss.length) (h' : i < xs.length), vss[i] = [.int .i64 xs[i].kind, .string xs[i].text]) → vss.flatten = tv xs
  | [], [], _, _ => rfl
  | [], _ :: _, h, _ => by cases h
  | _ :: _, [], h, _ => by cases h
  | vs :: vss, x :: xs, h, hh => by
    have h0 := hh 0 (by simp) (by simp)
    have h1 := vss_tv vss xs (by simpa using h) (fun i hi hi' => hh (i + 1) (by simpa using hi) (by simpa using hi'))
    have h0' : vs = [.int .i64 x.kind, .string x.text] := h0
    have e : tv (x :: xs) = [.int .i64 x.kind, .string x.text] ++ tv xs := rfl
    rw [List.flatten_cons, h1, h0', e]
theorem ownT_of {B : Nat} {v : Value} {xs : List TokD} {w : World} (h : TokO B v xs w) : OwnT B v xs w := by
  obtain ⟨vss, h1, h2, h3, h4⟩ := h
  rw [vss_tv vss xs h1 (fun i hi hi' => h4 i hi hi')] at h3
  exact h3
theorem tokO_of {B : Nat} {v : Value} {xs : List TokD} {w : World} (h : OwnT B v xs w) : TokO B v xs w := by
  refine ⟨xs.map fun x => [.int .i64 x.kind, .string x.text], by simp, fun vs hvs => ?_, ?_, fun i hi hi' => ?_⟩
  · obtain ⟨x, _, rfl⟩ := List.mem_map.1 hvs
    rfl
  · rw [vss_tv _ xs (by simp) (fun i hi hi' => by simp)]
    exact h
  · simp [TokV]
theorem OwnT.below {B : Nat} {v : Value} {xs : List TokD} {w w' : World} (h : OwnT B v xs w) (hb : Below w.heap.size w w') : OwnT B v xs w' := own_below h hb
/-- A list of tokens, read. -/
def TokR (w : World) (v : Value) (xs : List TokD) : Prop := RowC 2 TokV w v xs
theorem TokR.below {w w' : World} {v : Value} {xs : List TokD} (h : TokR w v xs) (hb : Below w.heap.size w w') : TokR w' v xs := RowC.below (fun _ _ _ _ hx _ => hx) h hb
theorem OwnT.row {B : Nat} {v : Value} {xs : List TokD} {w : World} (h : OwnT B v xs w) : TokR w v xs := (tokO_of h).row
theorem TokR.at {w : World} {a : Option Addr} {n cap k : Nat} {xs : List TokD} (h : TokR w (.slice a n cap) xs) (hk : k < xs.length) :
    ∃ b off, a = some ⟨b, off, none⟩ ∧ w.cell? ⟨b, off + k * 2, none⟩ = some (.int .i64 xs[k].kind) ∧ w.cell? ⟨b, off + k * 2 + 1, none⟩ = some (.string xs[k].text) := by
  obtain ⟨b, off, vs, rfl, _, hc, hv⟩ := RowC.at h hk
  have hv' : vs = [.int .i64 xs[k].kind, .string xs[k].text] := hv
  subst hv'
  exact ⟨b, off, rfl, hc 0 (by simp), hc 1 (by simp)⟩

/-- What Tokens answers: the specification's, and the program's. -/
def TokensC (f : Nat) (s : ByteArray) : Prop := ∀ w : World, Calls Try.prog f #[.string s] w fun e w' => ∃ o, e = .returned (.tuple #[o, .int .i64 (tokensB s).2]) ∧ TokO w.heap.size o (tokensB s).1 w' ∧ Below w.heap.size w w'

end Go.Proofs.Ytoldlbefddhhbaa
