/-
  Two runs become one, whatever they are.
-/
import Derived.Test.YteclkaecjogbjaaSoMergeC
namespace Go.Proofs.Yteclkaecjogbjaa
open Go.RowKit Go.Sort

theorem symMerge_any (L : Nat → OpV) (g n cap : Nat) (hn : n ≤ 1000) : ∀ k, Merges L g n cap k := by
  intro k
  induction k with
  | zero => intro s a m b _ _ _ hk; exact absurd hk (Nat.not_lt_zero _)
  | succ k ih =>
    intro s a m b ham hmb hb hk hl hr hx w hH
    by_cases h0 : m = a + 1
    · exact symMerge_one L s g n cap a m b ham hmb hb hn hl hr hx h0 w hH
    by_cases h1 : b = m + 1
    · exact symMerge_last L s g n cap a m b ham hmb hb hn hl hr hx h0 h1 w hH
    · exact symMerge_more L s g n cap a m b ham hmb hb hn hl hr hx h0 h1 (fun s' a' m' b' q1 q2 q3 q4 => ih s' a' m' b' q1 q2 q3 (by omega)) w hH
end Go.Proofs.Yteclkaecjogbjaa
