/-
  Frames one behind the other; a slice of kinds and bodies.
-/
import Derived.Test.YtmeofjoamcghhaaLaw05b
namespace Go.Proofs.Ytmeofjoamcghhaa
open Go.RowKit Go.Sort

/-- Their frames, one behind the other. -/
def catF : List (Nat × List Nat) → List Nat
  | [] => []
  | f :: r => frameL f.1 f.2 ++ catF r
theorem catF_append : ∀ a b : List (Nat × List Nat), catF (a ++ b) = catF a ++ catF b
  | [], b => rfl
  | f :: r, b => by rw [List.cons_append, catF, catF, catF_append r b]; simp
theorem catF_snoc (fs : List (Nat × List Nat)) (i : Nat) (hi : i < fs.length) {k : Nat} {l : List Nat} (h : fs.getD i (0, []) = (k, l)) : catF (fs.take (i + 1)) = catF (fs.take i) ++ frameL k l := by
  have e : fs.take (i + 1) = fs.take i ++ [(k, l)] := by
    rw [List.take_add_one, List.getElem?_eq_getElem hi]
    simp only [List.getD, List.getElem?_eq_getElem hi, Option.getD_some] at h
    simp [h]
  rw [e, catF_append]; simp [catF]
/-- The frames from the i-th on, the first n of all. -/
def restF (fs : List (Nat × List Nat)) (n i : Nat) : List (Nat × List Nat) := (fs.take n).drop i
theorem restF_cons {fs : List (Nat × List Nat)} {n i : Nat} (hi : i < n) (hn : n ≤ fs.length) {k : Nat} {l : List Nat} (h : fs.getD i (0, []) = (k, l)) : restF fs n i = (k, l) :: restF fs n (i + 1) := by
  unfold restF
  have hl : i < (fs.take n).length := by rw [List.length_take]; omega
  rw [List.drop_eq_getElem_cons hl]
  simp only [List.getD, List.getElem?_eq_getElem (show i < fs.length by omega), Option.getD_some] at h
  rw [List.getElem_take, h]
theorem restF_end (fs : List (Nat × List Nat)) (n : Nat) : restF fs n n = [] := by
  unfold restF; exact List.drop_eq_nil_of_le (by rw [List.length_take]; omega)
theorem restF_start (fs : List (Nat × List Nat)) (n : Nat) : restF fs n 0 = fs.take n := by unfold restF; simp

/-- A slice of structs whose first two fields are a kind and a body. -/
structure FramesAt (w : World) (v : Value) (fs : List (Nat × List Nat)) : Prop where
  len : ∀ W, (Builtin.len_ #[40] 3 #[v]).run Try.prog W = .ok (.int .i64 (fs.length : Nat)) W
  le : (fs.length : Int) ≤ 9223372036854775807
  at_ : ∀ i, i < fs.length → ∃ (b off : Nat) (bv : Value), (∀ W, (Instr.indexAt 40 v (.int .i64 (i : Int))).run Try.prog W = .ok (.pointer (some ⟨b, off, none⟩)) W) ∧ b < w.heap.size ∧
    w.cell? ⟨b, off, none⟩ = some (.int .u8 ((fs.getD i (0, [])).1 : Nat)) ∧ w.cell? ⟨b, off + 1, none⟩ = some bv ∧ BytesAt w bv (fs.getD i (0, [])).2 ∧ (fs.getD i (0, [])).1 < 256

theorem end_bytes : ∀ x ∈ [101, 110, 100], x < 256 := by decide
theorem catF_byte : ∀ fs : List (Nat × List Nat), (∀ f ∈ fs, f.1 < 256 ∧ ∀ x ∈ f.2, x < 256) → ∀ x ∈ catF fs, x < 256
  | [], _, x, h => by simp [catF] at h
  | f :: r, hf, x, h => by
    rw [catF] at h
    rcases List.mem_append.1 h with h | h
    · exact frameL_byte (hf f (by simp)).1 (hf f (by simp)).2 x h
    · exact catF_byte r (fun g hg => hf g (by simp [hg])) x h
end Go.Proofs.Ytmeofjoamcghhaa
