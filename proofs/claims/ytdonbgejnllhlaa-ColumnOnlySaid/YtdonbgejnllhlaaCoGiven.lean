/-
  What the takers of columns give, for any count; the document's own answer gives it.
-/
import Derived.Test.YtdonbgejnllhlaaCoTakeDeltas
import Derived.Test.YtdonbgejnllhlaaCoTakeBools
import Derived.Test.YtdonbgejnllhlaaCoDeltas
import Derived.Test.YtdonbgejnllhlaaCoSame
namespace Go.Proofs.Ytdonbgejnllhlaa
open Go.RowKit Go.Sort

def GivenR (b : List Nat) (n : Int) (l : List Int) (a e : Nat) : Prop := ((n < 0 ∨ 65536 < n) ∧ l = [] ∧ a = 0 ∧ e = 1) ∨ ((0 ≤ n ∧ n ≤ 65536) ∧ TakenR b n.toNat l a e)
def GivenB (b : List Nat) (n : Int) (l : List Bool) (a e : Nat) : Prop := ((n < 0 ∨ 65536 < n) ∧ l = [] ∧ a = 0 ∧ e = 1) ∨ ((0 ≤ n ∧ n ≤ 65536) ∧ TakenB b n.toNat l a e)

theorem givenR_any (b : List Nat) (n : Int) : ∃ l a e, GivenR b n l a e := by
  by_cases h : 0 ≤ n ∧ n ≤ 65536
  · obtain ⟨l, a, e, ht⟩ := takenR_any b n.toNat
    exact ⟨l, a, e, .inr ⟨h, ht⟩⟩
  · exact ⟨[], 0, 1, .inl ⟨by omega, rfl, rfl, rfl⟩⟩
theorem givenB_any (b : List Nat) (n : Int) : ∃ l a e, GivenB b n l a e := by
  by_cases h : 0 ≤ n ∧ n ≤ 65536
  · obtain ⟨l, a, e, ht⟩ := takenB_any b n.toNat
    exact ⟨l, a, e, .inr ⟨h, ht⟩⟩
  · exact ⟨[], 0, 1, .inl ⟨by omega, rfl, rfl, rfl⟩⟩

/-- What is given: nothing, or a list that is there. -/
theorem GivenR.ways {b : List Nat} {n : Int} {l : List Int} {a e : Nat} (h : GivenR b n l a e) : (e = 0 ∧ 0 ≤ n ∧ n ≤ 65536 ∧ RunsOf b n.toNat l ∧ a = (bytesR l).length) ∨ ((e = 1 ∨ e = 41) ∧ l = [] ∧ a = 0) := by
  rcases h with ⟨_, h1, h2, h3⟩ | ⟨⟨h1, h2⟩, ⟨h3, h4, h5⟩ | ⟨_, h3, h4, h5⟩⟩
  · exact .inr ⟨.inl h3, h1, h2⟩
  · exact .inl ⟨h5, h1, h2, h3, h4⟩
  · exact .inr ⟨.inr h5, h3, h4⟩
theorem GivenB.ways {b : List Nat} {n : Int} {l : List Bool} {a e : Nat} (h : GivenB b n l a e) : (e = 0 ∧ 0 ≤ n ∧ n ≤ 65536 ∧ TruthsOf b n.toNat l ∧ a = (bytesB l).length) ∨ ((e = 1 ∨ e = 41) ∧ l = [] ∧ a = 0) := by
  rcases h with ⟨_, h1, h2, h3⟩ | ⟨⟨h1, h2⟩, ⟨h3, h4, h5⟩ | ⟨_, h3, h4, h5⟩⟩
  · exact .inr ⟨.inl h3, h1, h2⟩
  · exact .inl ⟨h5, h1, h2, h3, h4⟩
  · exact .inr ⟨.inr h5, h3, h4⟩
theorem GivenR.of {b : List Nat} {n : Int} {l l' : List Int} {a e : Nat} (h : GivenR b n l a e) (h' : RunsOf b n.toNat l') (h0 : 0 ≤ n) (h1 : n ≤ 65536) : l = l' ∧ a = (bytesR l').length ∧ e = 0 := by
  rcases h with ⟨h2, _⟩ | ⟨_, h2⟩
  · omega
  · exact h2.of h'
theorem GivenB.of {b : List Nat} {n : Int} {l l' : List Bool} {a e : Nat} (h : GivenB b n l a e) (h' : TruthsOf b n.toNat l') (h0 : 0 ≤ n) (h1 : n ≤ 65536) : l = l' ∧ a = (bytesB l').length ∧ e = 0 := by
  rcases h with ⟨h2, _⟩ | ⟨_, h2⟩
  · omega
  · exact h2.of h'

theorem GivenR.len {b : List Nat} {n : Int} {l : List Int} {a e : Nat} (h : GivenR b n l a e) : l.length ≤ 65536 ∧ a ≤ b.length ∧ (e = 0 ∨ e = 1 ∨ e = 41) := by
  rcases h.ways with ⟨h1, h2, h3, h4, h5⟩ | ⟨h1, rfl, rfl⟩
  · have := h4.1
    have h6 := h4.2.2.length_le
    exact ⟨by omega, by omega, .inl h1⟩
  · exact ⟨by simp, by omega, by omega⟩
theorem GivenB.len {b : List Nat} {n : Int} {l : List Bool} {a e : Nat} (h : GivenB b n l a e) : l.length ≤ 65536 ∧ a ≤ b.length ∧ (e = 0 ∨ e = 1 ∨ e = 41) := by
  rcases h.ways with ⟨h1, h2, h3, h4, h5⟩ | ⟨h1, rfl, rfl⟩
  · have := h4.1
    have h6 := h4.2.length_le
    exact ⟨by omega, by omega, .inl h1⟩
  · exact ⟨by simp, by omega, by omega⟩

theorem refTakeRuns_given {v : Value} {b : List Nat} {n : Int} {l : List Int} {a e : Nat} {w : World} (hv : BytesAt w v b) (h : GivenR b n l a e) :
    Calls Try.prog 19 #[v, .int .i64 n] w (GivesI l a e w) := by
  rcases h with ⟨h1, rfl, rfl, rfl⟩ | ⟨⟨h1, h2⟩, h3⟩
  · exact refTakeRuns_arg v n w h1
  · obtain ⟨m, rfl⟩ : ∃ m : Nat, n = m := ⟨n.toNat, by omega⟩
    exact refTakeRuns_any v b m l a e w hv (by omega) (by simpa using h3)

theorem refTakeDeltas_given {v : Value} {b : List Nat} {n : Int} {d : List Int} {a e : Nat} {w : World} (hv : BytesAt w v b) (h : GivenR b n d a e) :
    Calls Try.prog 21 #[v, .int .i64 n] w (GivesI (sumL 0 d) a e w) := by
  refine refTakeDeltas_of v n d a e w h.len.1 ?_ (Lib.hid (refTakeRuns_given hv h))
  rcases h.ways with ⟨h1, _⟩ | ⟨_, h1⟩
  · exact .inl h1
  · exact .inr h1

theorem refTakeBools_given {v : Value} {b : List Nat} {n : Int} {l : List Bool} {a e : Nat} {w : World} (hv : BytesAt w v b) (h : GivenB b n l a e) :
    Calls Try.prog 23 #[v, .int .i64 n] w (GivesT l a e w) := by
  rcases h with ⟨h1, rfl, rfl, rfl⟩ | ⟨⟨h1, h2⟩, h3⟩
  · exact refTakeBools_arg v n w h1
  · obtain ⟨m, rfl⟩ : ∃ m : Nat, n = m := ⟨n.toNat, by omega⟩
    exact refTakeBools_any v b m l a e w hv (by omega) (by simpa using h3)
end Go.Proofs.Ytdonbgejnllhlaa
