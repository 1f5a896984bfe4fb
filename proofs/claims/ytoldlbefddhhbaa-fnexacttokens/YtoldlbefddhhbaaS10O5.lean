/- The specification's l10One, whole (printed by mk/s10o.py). -/
import Derived.Test.YtoldlbefddhhbaaS10O2
import Derived.Test.YtoldlbefddhhbaaS10O3
import Derived.Test.YtoldlbefddhhbaaS10O4
namespace Go.Proofs.Ytoldlbefddhhbaa
open Go.RowKit
set_option linter.unusedVariables false

theorem one10_any (s : ByteArray) (p : Nat) (w : World) (hp : p < s.size) (hs : s.size ≤ 1048576) (r : TokD × Int) (hr : r = res10 (s.data.toList.drop p) p) :
    Calls Try.prog 12 #[.string s, .int .i64 p] w fun e w' => e = .returned (.tuple #[.agg #[.int .i64 r.1.kind, .string r.1.text], .int .i64 r.2]) ∧ Below w.heap.size w w' := by
  cases hl : letT s[p].toNat with
  | true => exact one10_word s p w hp hs hl r hr
  | false =>
    cases hf : figT s[p].toNat with
    | true => exact one10_fig s p w hp hs hl hf r hr
    | false =>
      by_cases h34 : s[p] = 34
      · exact one10_text s p w hp hs hl hf h34 r hr
      by_cases h91 : s[p] = 91
      · exact one10_set s p w hp hs hl hf h91 r hr
      by_cases h45 : s[p] = 45 ∧ s.data.toList[p + 1]? = some 62
      · rcases Nat.lt_or_ge (p + 1) s.size with h1 | h1
        · have h2 := h45.2
          rw [at_some h1] at h2
          exact one10_arrow s p w hp hs hl hf h45.1 h1 (Option.some.inj h2) r hr
        · have h2 := h45.2
          rw [List.getElem?_eq_none (by rw [toList_size]; exact h1)] at h2
          cases h2
      · by_cases hn : s[p] = 45
        · rcases Nat.lt_or_ge (p + 1) s.size with h1 | h1
          · exact one10_s3 s p w hp hs hl hf h34 h91 h45 hn h1 r hr
          · exact one10_s2 s p w hp hs hl hf h34 h91 h45 hn (show p + 1 = s.size by omega) r hr
        · exact one10_s1 s p w hp hs hl hf h34 h91 h45 hn r hr

end Go.Proofs.Ytoldlbefddhhbaa
