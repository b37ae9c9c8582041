/-
  Joined: CoTakeRuns, CoTakeBools, CoTakeDeltas, CoGiven.
-/
import Derived.Test.YtidicjjjkmlmaaaDoorMCo
import Derived.Outline
namespace Go.Proofs.YtidicjjjkmlmaaaDoor
open Go.RowKit Go.Sort
set_option maxRecDepth 20000

theorem encR_byte : ∀ rs : List (Nat × Int), ∀ x ∈ encR rs, x < 256
  | [], x, h => by simp [encR] at h
  | (k, y) :: r, x, h => by
    rw [encR] at h
    rcases List.mem_append.1 h with h | h
    · exact putL_byte _ x h
    · rcases List.mem_append.1 h with h | h
      · exact putL_byte _ x h
      · exact encR_byte r x h
theorem bytesR_byte (l : List Int) : ∀ x ∈ bytesR l, x < 256 := encR_byte _

/-- What a taker of integers hands back. -/
def GivesI (l : List Int) (a e : Nat) (w : World) : Ending → World → Prop :=
  fun e' w' => ∃ v', e' = .returned (.tuple #[v', .int .i64 a, .int .i64 e]) ∧ OwnRow w' w.heap.size 3 v' (ints l) ∧ Below w.heap.size w w'

theorem GivesI.nil {w w' : World} {a e : Nat} (hb : Below w.heap.size w w') : GivesI [] a e w (.returned (.tuple #[.slice none 0 0, .int .i64 a, .int .i64 e])) w' :=
  ⟨_, rfl, OwnRow.none_ _ _ _, hb⟩

end Go.Proofs.YtidicjjjkmlmaaaDoor

namespace Go.Proofs.YtidicjjjkmlmaaaDoor
open Go.RowKit Go.Sort
set_option maxRecDepth 20000

theorem encB_byte : ∀ c : List Nat, ∀ x ∈ encB c, x < 256
  | [], x, h => by simp [encB] at h
  | k :: r, x, h => by
    rw [encB] at h
    rcases List.mem_append.1 h with h | h
    · exact putL_byte _ x h
    · exact encB_byte r x h
theorem bytesB_byte (l : List Bool) : ∀ x ∈ bytesB l, x < 256 := encB_byte _

/-- What a taker of truths hands back. -/
def GivesT (l : List Bool) (a e : Nat) (w : World) : Ending → World → Prop :=
  fun e' w' => ∃ v', e' = .returned (.tuple #[v', .int .i64 a, .int .i64 e]) ∧ OwnRow w' w.heap.size 4 v' (truths l) ∧ Below w.heap.size w w'

theorem GivesT.nil {w w' : World} {a e : Nat} (hb : Below w.heap.size w w') : GivesT [] a e w (.returned (.tuple #[.slice none 0 0, .int .i64 a, .int .i64 e])) w' :=
  ⟨_, rfl, OwnRow.none_ _ _ _, hb⟩

theorem ReadB.stops {b : List Nat} {n : Nat} {c : List Nat} {a : Nat} (h : ReadB b n c a) (hlt : totB c < n) (hn : n ≤ 65536) {k i e : Nat} (h1 : Taken (b.drop a) k i e)
    (hbad : e = 31 ∨ (e = 0 ∧ n < totB c + k) ∨ (e = 0 ∧ k = 0 ∧ 0 < a)) : ∀ l', ¬ TruthsOf b n l' := by
  intro l' hl'
  obtain ⟨k', t, hk1, hk2, hb⟩ := h.next hlt hl'
  obtain ⟨h3, h4, h5⟩ := h1.of (m := k') (by omega) ⟨_, hb.symm⟩
  rcases hbad with h | ⟨_, h⟩ | ⟨_, h, h'⟩
  · omega
  · omega
  · rcases hk2 with h6 | h6 <;> omega

/-- 1 at 0. -/
def zeroI (t : Value) : Nat := if intOf t = 0 then 1 else 0
theorem zeroI_pos {x : Int} (h : x ≠ 0) : zeroI (.int .i64 x) = 0 := if_neg h

end Go.Proofs.YtidicjjjkmlmaaaDoor

namespace Go.Proofs.YtidicjjjkmlmaaaDoor
open Go.RowKit Go.Sort
set_option maxRecDepth 20000

/-- The sums so far, the last one, and it without a sign. -/
def SumSo (d : List Int) (i : Nat) (s : List Int) (U : Int) : Prop := s = sumL 0 (d.take i) ∧ U = IntKind.u64.wrap (s.getLast?.getD 0)

theorem SumSo.start (d : List Int) : SumSo d 0 [] 0 := ⟨rfl, rfl⟩

theorem SumSo.next {d : List Int} {i : Nat} {s : List Int} {U x : Int} (h : SumSo d i s U) (hi : i < d.length) (hx : d.getD i 0 = x) :
    ∃ U' y, IntKind.u64.wrap (U + IntKind.u64.wrap x) = U' ∧ IntKind.i64.wrap U' = y ∧ SumSo d (i + 1) (s ++ [y]) U' ∧ 0 ≤ U' ∧ U' ≤ 18446744073709551615 := by
  obtain ⟨h1, h2⟩ := h
  refine ⟨_, _, rfl, rfl, ⟨?_, ?_⟩, ?_, ?_⟩
  · have e : d.take (i + 1) = d.take i ++ [x] := by
      rw [List.take_add_one, List.getElem?_eq_getElem hi]
      simp only [List.getD, List.getElem?_eq_getElem hi, Option.getD_some] at hx
      simp [hx]
    rw [e, sum_snoc, ← h1, h2]
    congr 2
    rw [IntKind.wrap_i64, IntKind.wrap_u64, IntKind.wrap_u64, IntKind.wrap_u64]
    unfold w64
    omega
  · rw [h2]
    simp
    rw [IntKind.wrap_i64, IntKind.wrap_u64, IntKind.wrap_u64, IntKind.wrap_u64, IntKind.wrap_u64]
    omega
  · rw [IntKind.wrap_u64]; omega
  · rw [IntKind.wrap_u64]; omega

end Go.Proofs.YtidicjjjkmlmaaaDoor

namespace Go.Proofs.YtidicjjjkmlmaaaDoor
open Go.RowKit Go.Sort
set_option maxRecDepth 20000

def GivenR (b : List Nat) (n : Int) (l : List Int) (a e : Nat) : Prop := ((n < 0 ∨ 65536 < n) ∧ l = [] ∧ a = 0 ∧ e = 1) ∨ ((0 ≤ n ∧ n ≤ 65536) ∧ TakenR b n.toNat l a e)
def GivenB (b : List Nat) (n : Int) (l : List Bool) (a e : Nat) : Prop := ((n < 0 ∨ 65536 < n) ∧ l = [] ∧ a = 0 ∧ e = 1) ∨ ((0 ≤ n ∧ n ≤ 65536) ∧ TakenB b n.toNat l a e)

theorem givenR_any (b : List Nat) (n : Int) : ∃ l a e, GivenR b n l a e := by
  by_cases h : 0 ≤ n ∧ n ≤ 65536
  · obtain ⟨l, a, e, ht⟩ := takenR_any b n.toNat
    exact ⟨l, a, e, .inr ⟨h, ht⟩⟩
  · exact ⟨[], 0, 1, .inl ⟨by omega, rfl, rfl, rfl⟩⟩
theorem givenB_any (b : List Nat) (n : Int) : ∃ l a e, GivenB b n l a e := by
  by_cases h : 0 ≤ n ∧ n ≤ 65536
  · obtain ⟨l, a, e, ht⟩ := takenB_any b n.toNat
    exact ⟨l, a, e, .inr ⟨h, ht⟩⟩
  · exact ⟨[], 0, 1, .inl ⟨by omega, rfl, rfl, rfl⟩⟩

/-- What is given: nothing, or a list that is there. -/
theorem GivenR.ways {b : List Nat} {n : Int} {l : List Int} {a e : Nat} (h : GivenR b n l a e) : (e = 0 ∧ 0 ≤ n ∧ n ≤ 65536 ∧ RunsOf b n.toNat l ∧ a = (bytesR l).length) ∨ ((e = 1 ∨ e = 41) ∧ l = [] ∧ a = 0) := by
  rcases h with ⟨_, h1, h2, h3⟩ | ⟨⟨h1, h2⟩, ⟨h3, h4, h5⟩ | ⟨_, h3, h4, h5⟩⟩
  · exact .inr ⟨.inl h3, h1, h2⟩
  · exact .inl ⟨h5, h1, h2, h3, h4⟩
  · exact .inr ⟨.inr h5, h3, h4⟩
theorem GivenB.ways {b : List Nat} {n : Int} {l : List Bool} {a e : Nat} (h : GivenB b n l a e) : (e = 0 ∧ 0 ≤ n ∧ n ≤ 65536 ∧ TruthsOf b n.toNat l ∧ a = (bytesB l).length) ∨ ((e = 1 ∨ e = 41) ∧ l = [] ∧ a = 0) := by
  rcases h with ⟨_, h1, h2, h3⟩ | ⟨⟨h1, h2⟩, ⟨h3, h4, h5⟩ | ⟨_, h3, h4, h5⟩⟩
  · exact .inr ⟨.inl h3, h1, h2⟩
  · exact .inl ⟨h5, h1, h2, h3, h4⟩
  · exact .inr ⟨.inr h5, h3, h4⟩
theorem GivenR.of {b : List Nat} {n : Int} {l l' : List Int} {a e : Nat} (h : GivenR b n l a e) (h' : RunsOf b n.toNat l') (h0 : 0 ≤ n) (h1 : n ≤ 65536) : l = l' ∧ a = (bytesR l').length ∧ e = 0 := by
  rcases h with ⟨h2, _⟩ | ⟨_, h2⟩
  · omega
  · exact h2.of h'
theorem GivenB.of {b : List Nat} {n : Int} {l l' : List Bool} {a e : Nat} (h : GivenB b n l a e) (h' : TruthsOf b n.toNat l') (h0 : 0 ≤ n) (h1 : n ≤ 65536) : l = l' ∧ a = (bytesB l').length ∧ e = 0 := by
  rcases h with ⟨h2, _⟩ | ⟨_, h2⟩
  · omega
  · exact h2.of h'

theorem GivenR.len {b : List Nat} {n : Int} {l : List Int} {a e : Nat} (h : GivenR b n l a e) : l.length ≤ 65536 ∧ a ≤ b.length ∧ (e = 0 ∨ e = 1 ∨ e = 41) := by
  rcases h.ways with ⟨h1, h2, h3, h4, h5⟩ | ⟨h1, rfl, rfl⟩
  · have := h4.1
    have h6 := h4.2.2.length_le
    exact ⟨by omega, by omega, .inl h1⟩
  · exact ⟨by simp, by omega, by omega⟩
theorem GivenB.len {b : List Nat} {n : Int} {l : List Bool} {a e : Nat} (h : GivenB b n l a e) : l.length ≤ 65536 ∧ a ≤ b.length ∧ (e = 0 ∨ e = 1 ∨ e = 41) := by
  rcases h.ways with ⟨h1, h2, h3, h4, h5⟩ | ⟨h1, rfl, rfl⟩
  · have := h4.1
    have h6 := h4.2.length_le
    exact ⟨by omega, by omega, .inl h1⟩
  · exact ⟨by simp, by omega, by omega⟩

end Go.Proofs.YtidicjjjkmlmaaaDoor
