/-
  What a file has behind a loss of power, the document's own.
-/
import Derived.Test.YtpkiapjcilapoaaFiPick
import Derived.Test.YtpkiapjcilapoaaZeros
namespace Go.Proofs.Ytpkiapjcilapoaa
open Go.RowKit Go.Sort

theorem elemT : Elem Try.prog 31 4 (.bool false) 1 := ⟨Try.underlying31, by kernel_rfl, rfl, by omega, fun W => by kernel_rfl⟩
/-- A slice of truths. -/
def KeepAt (w : World) (v : Value) (l : List Bool) : Prop := RowAt w v (l.map Value.bool)
theorem KeepAt.len {w : World} {v : Value} {l : List Bool} (h : KeepAt w v l) {ty : TypeId} (W : World) : (Builtin.len_ #[31] ty #[v]).run Try.prog W = .ok (.int .i64 (l.length : Nat)) W := by
  have := RowAt.len h elemT.ht (ty := ty) W; rwa [List.length_map] at this
theorem KeepAt.index {w : World} {v : Value} {l : List Bool} (h : KeepAt w v l) {k : Nat} (hk : k < l.length) :
    ∃ ad : Addr, (∀ W, (Instr.indexAt 31 v (.int .i64 (k : Int))).run Try.prog W = .ok (.pointer (some ad)) W) ∧ w.cell? ad = some (.bool (l.getD k false)) ∧ ad.block < w.heap.size := by
  obtain ⟨ad, h1, h2, h3⟩ := RowAt.index h elemT.ht elemT.hs (k := k) (by rw [List.length_map]; exact hk)
  refine ⟨ad, h1, ?_, h3⟩
  rw [h2]; simp [List.getD, List.getElem?_eq_getElem hk]

/-- The last Sync of a file among the first i steps; 0. -/
def safeF (L : List FStep) (f : Nat) : Nat → Nat
  | 0 => 0
  | i + 1 => match L[i]? with
    | some s => if s.kind = 5 ∧ s.file = f then i else safeF L f i
    | none => safeF L f i
theorem safeF_step {L : List FStep} {i : Nat} {s : FStep} (h : L[i]? = some s) (f : Nat) : safeF L f (i + 1) = if s.kind = 5 ∧ s.file = f then i else safeF L f i := by rw [safeF, h]
theorem safeF_le (L : List FStep) (f : Nat) : ∀ i, safeF L f i ≤ i
  | 0 => Nat.le_refl _
  | i + 1 => by
    have ih := safeF_le L f i
    unfold safeF
    split
    · split <;> omega
    · omega

/-- What is left of the first i steps' appends: the bytes, how many appends were open, where it ends. -/
def leftF (L : List FStep) (f : Nat) (keep : List Bool) (torn : Int) (safe : Nat) : Nat → List Nat × Nat × Nat
  | 0 => ([], 0, 0)
  | i + 1 => match L[i]? with
    | none => leftF L f keep torn safe i
    | some s =>
      let r := leftF L f keep torn safe i
      if s.kind = 2 ∧ s.file = f then
        if i < safe then (r.1 ++ s.b, r.2.1, r.1.length + s.b.length)
        else if r.2.1 < keep.length ∧ keep.getD r.2.1 false = true then (r.1 ++ s.b, r.2.1 + 1, r.1.length + pickF torn (s.b.length + 1))
        else (r.1 ++ List.replicate s.b.length 0, r.2.1 + 1, r.2.2)
      else r
theorem leftF_step {L : List FStep} {i : Nat} {s : FStep} (h : L[i]? = some s) (f : Nat) (keep : List Bool) (torn : Int) (safe : Nat) {o : List Nat} {m e : Nat} (hr : leftF L f keep torn safe i = (o, m, e)) :
    leftF L f keep torn safe (i + 1) = if s.kind = 2 ∧ s.file = f then
        if i < safe then (o ++ s.b, m, o.length + s.b.length)
        else if m < keep.length ∧ keep.getD m false = true then (o ++ s.b, m + 1, o.length + pickF torn (s.b.length + 1))
        else (o ++ List.replicate s.b.length 0, m + 1, e)
      else (o, m, e) := by rw [leftF, h]; simp only [hr]
/-- Its length, and its end. -/
theorem leftF_len (L : List FStep) (f : Nat) (keep : List Bool) (torn : Int) (safe : Nat) : ∀ i, (leftF L f keep torn safe i).1.length = (heldF (L.take i) f).length ∧ (leftF L f keep torn safe i).2.2 ≤ (leftF L f keep torn safe i).1.length ∧ (leftF L f keep torn safe i).2.1 ≤ i
  | 0 => by simp [leftF, heldF]
  | i + 1 => by
    obtain ⟨h1, h2, h3⟩ := leftF_len L f keep torn safe i
    cases hs : L[i]? with
    | none =>
      have hl : L.length ≤ i := List.getElem?_eq_none_iff.1 hs
      have e : leftF L f keep torn safe (i + 1) = leftF L f keep torn safe i := by rw [leftF, hs]
      rw [e, List.take_of_length_le (by omega)]
      rw [List.take_of_length_le hl] at h1
      exact ⟨h1, h2, by omega⟩
    | some s =>
      obtain ⟨⟨o, m, e⟩, hr⟩ : ∃ r, leftF L f keep torn safe i = r := ⟨_, rfl⟩
      rw [leftF_step hs f keep torn safe hr, take_snoc hs, heldF_snoc]
      rw [hr] at h1 h2 h3
      dsimp only at h1 h2 h3
      have hp := pickF_lt torn (show 0 < s.b.length + 1 by omega)
      by_cases hc : s.kind = 2 ∧ s.file = f
      · rw [if_pos hc, if_pos hc]
        split
        · dsimp only; simp only [List.length_append]; omega
        · split
          · dsimp only; simp only [List.length_append]; omega
          · dsimp only; simp only [List.length_append, List.length_replicate]; omega
      · rw [if_neg hc, if_neg hc]
        dsimp only
        exact ⟨h1, h2, by omega⟩
end Go.Proofs.Ytpkiapjcilapoaa
