/- Elements of a grammar's lists, opened. No program is named. -/
import Derived.Test.YtipkbkhnaekceaaXPure
namespace Go.Proofs.Ytipkbkhnaekceaa
open Go.RowKit

theorem gsym_at {w : World} {a : Option Addr} {n cap i : Nat} {xs : List SymD} (h : RowC 4 SymE w (.slice a n cap) xs) (hi : i < xs.length) :
    ∃ b off aa ca, a = some ⟨b, off, none⟩ ∧ w.cell? ⟨b, off + i * 4, none⟩ = some (.int .i64 xs[i].kind) ∧ w.cell? ⟨b, off + i * 4 + 1, none⟩ = some (.string xs[i].text) ∧ w.cell? ⟨b, off + i * 4 + 2, none⟩ = some (.slice aa xs[i].args.length ca) ∧ w.cell? ⟨b, off + i * 4 + 3, none⟩ = some (.string xs[i].bind) ∧ RowC 1 ExprE w (.slice aa xs[i].args.length ca) xs[i].args := by
  obtain ⟨b, off, vs, rfl, _, hc, r0, rfl, h0⟩ := RowC.at h hi
  obtain ⟨aa, ca, rfl⟩ := h0.slice
  exact ⟨b, off, aa, ca, rfl, hc 0 (by simp), hc 1 (by simp), hc 2 (by simp), hc 3 (by simp), h0⟩
theorem galt_at {w : World} {a : Option Addr} {n cap i : Nat} {xs : List (List SymD)} (h : RowC 1 AltE w (.slice a n cap) xs) (hi : i < xs.length) :
    ∃ b off aa ca, a = some ⟨b, off, none⟩ ∧ w.cell? ⟨b, off + i, none⟩ = some (.slice aa xs[i].length ca) ∧ RowC 4 SymE w (.slice aa xs[i].length ca) xs[i] := by
  obtain ⟨b, off, vs, rfl, _, hc, r0, rfl, h0⟩ := RowC.at h hi
  obtain ⟨aa, ca, rfl⟩ := h0.slice
  refine ⟨b, off, aa, ca, rfl, ?_, h0⟩
  have h := hc 0 (by simp)
  rw [Nat.mul_one] at h
  exact h
theorem grule_at {w : World} {a : Option Addr} {n cap i : Nat} {xs : List RuleD} (h : RowC 3 RuleE w (.slice a n cap) xs) (hi : i < xs.length) :
    ∃ b off pa pc ea ec, a = some ⟨b, off, none⟩ ∧ w.cell? ⟨b, off + i * 3, none⟩ = some (.string xs[i].name) ∧ w.cell? ⟨b, off + i * 3 + 1, none⟩ = some (.slice pa xs[i].params.length pc) ∧ w.cell? ⟨b, off + i * 3 + 2, none⟩ = some (.slice ea xs[i].alts.length ec) ∧ SRow w (.slice pa xs[i].params.length pc) xs[i].params ∧ RowC 1 AltE w (.slice ea xs[i].alts.length ec) xs[i].alts := by
  obtain ⟨b, off, vs, rfl, _, hc, r0, r1, rfl, h0, h1⟩ := RowC.at h hi
  obtain ⟨pa, pc, rfl⟩ := h0.slice
  obtain ⟨ea, ec, rfl⟩ := h1.slice
  exact ⟨b, off, pa, pc, ea, ec, rfl, hc 0 (by simp), hc 1 (by simp), hc 2 (by simp), h0, h1⟩

theorem gexpr_at {w : World} {a : Option Addr} {n cap k : Nat} {xs : List (List NodeD)} (h : RowC 1 ExprE w (.slice a n cap) xs) (hk : k < xs.length) :
    ∃ g off aa ca, a = some ⟨g, off, none⟩ ∧ w.cell? ⟨g, off + k, none⟩ = some (.slice aa xs[k].length ca) ∧ NRow w (.slice aa xs[k].length ca) xs[k] := by
  obtain ⟨g, off, vs, rfl, _, hc, r0, rfl, hh⟩ := h.at hk
  obtain ⟨aa, ca, rfl⟩ := hh.slice
  refine ⟨g, off, aa, ca, rfl, ?_, hh⟩
  have h := hc 0 (by simp)
  rw [Nat.mul_one] at h
  exact h

end Go.Proofs.Ytipkbkhnaekceaa
