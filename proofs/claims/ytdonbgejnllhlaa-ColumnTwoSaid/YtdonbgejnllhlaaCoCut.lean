/-
  Slices of bytes as letters: cuts, texts, and what Take gives there.
-/
import Derived.Test.YtdonbgejnllhlaaCoRuns
import Derived.Test.YtdonbgejnllhlaaVaRefTake
namespace Go.Proofs.Ytdonbgejnllhlaa
open Go.RowKit Go.Sort

theorem Taken.ways {l : List Nat} {n k e : Nat} (h : Taken l n k e) : (n < 18446744073709551616 ∧ putL n <+: l ∧ k = (putL n).length ∧ e = 0) ∨ e = 31 := by
  rcases h with h | ⟨_, _, _, h⟩
  · exact .inl h
  · exact .inr h

/-- No list is there, where no run is. -/
theorem Read.stops {b : List Nat} {n : Nat} {rs : List (Nat × Int)} {a : Nat} (h : Read b n rs a) (hlt : total rs < n) (hn : n ≤ 65536) {k i e v j f : Nat} (h1 : Taken (b.drop a) k i e) (h2 : Taken (b.drop (a + i)) v j f)
    (hbad : e = 31 ∨ (e = 0 ∧ f = 31) ∨ (e = 0 ∧ f = 0 ∧ n < total rs + k) ∨ (e = 0 ∧ f = 0 ∧ k = 0)) : ∀ l', ¬ RunsOf b n l' := by
  intro l' hl'
  obtain ⟨k', x, t, hk1, hk2, hx, hb⟩ := h.next hlt hl'
  obtain ⟨h3, h4, h5⟩ := h1.of (m := k') (by omega) ⟨_, hb.symm⟩
  have hd : b.drop (a + i) = putL (zigN x) ++ t := by rw [h4, ← List.drop_drop, hb, List.drop_left' rfl]
  obtain ⟨h6, h7, h8⟩ := h2.of (zigN_lt hx) ⟨_, hd.symm⟩
  rcases hbad with h | ⟨_, h⟩ | ⟨_, _, h⟩ | ⟨_, _, h⟩ <;> omega

theorem flat_snoc (rs : List (Nat × Int)) (k : Nat) (x : Int) : flatL (rs ++ [(k, x)]) = flatL rs ++ List.replicate k x := by
  rw [flat_append]; simp [flatL]
end Go.Proofs.Ytdonbgejnllhlaa
