/-
  The element types that columns meet: integers, truths, bytes.
-/
import Derived.Test.YtdonbgejnllhlaaBy
namespace Go.Proofs.Ytdonbgejnllhlaa
open Go.RowKit Go.Sort

theorem elemI : Elem Try.prog 22 3 (.int .i64 0) 8 := ⟨Try.underlying22, by kernel_rfl, rfl, by omega, fun W => by kernel_rfl⟩
theorem elemT : Elem Try.prog 23 4 (.bool false) 1 := ⟨Try.underlying23, by kernel_rfl, rfl, by omega, fun W => by kernel_rfl⟩
def ints (l : List Int) : List Value := l.map (Value.int .i64)
def truths (l : List Bool) : List Value := l.map Value.bool
theorem ints_len (l : List Int) : (ints l).length = l.length := by simp [ints]
theorem truths_len (l : List Bool) : (truths l).length = l.length := by simp [truths]
theorem ints_app (l m : List Int) : ints (l ++ m) = ints l ++ ints m := by simp [ints]
theorem truths_app (l m : List Bool) : truths (l ++ m) = truths l ++ truths m := by simp [truths]
theorem ints_one (l : List Int) : ∀ u ∈ ints l, u.oneCell' = true := by
  intro u hu; obtain ⟨b, _, rfl⟩ := List.mem_map.1 hu; rfl
theorem truths_one (l : List Bool) : ∀ u ∈ truths l, u.oneCell' = true := by
  intro u hu; obtain ⟨b, _, rfl⟩ := List.mem_map.1 hu; rfl

/-- A slice of integers, of truths. -/
def IntsAt (w : World) (v : Value) (l : List Int) : Prop := RowAt w v (ints l)
def TruthsAt (w : World) (v : Value) (l : List Bool) : Prop := RowAt w v (truths l)

section
variable {w : World} {v : Value}
theorem IntsAt.len {l : List Int} (h : IntsAt w v l) {ty : TypeId} (W : World) : (Builtin.len_ #[22] ty #[v]).run Try.prog W = .ok (.int .i64 (l.length : Nat)) W := by
  have := RowAt.len h elemI.ht (ty := ty) W; rwa [ints_len] at this
theorem IntsAt.index {l : List Int} (h : IntsAt w v l) {k : Nat} (hk : k < l.length) :
    ∃ ad : Addr, (∀ W, (Instr.indexAt 22 v (.int .i64 (k : Int))).run Try.prog W = .ok (.pointer (some ad)) W) ∧ w.cell? ad = some (.int .i64 (l.getD k 0)) ∧ ad.block < w.heap.size := by
  obtain ⟨ad, h1, h2, h3⟩ := RowAt.index h elemI.ht elemI.hs (k := k) (by rw [ints_len]; exact hk)
  refine ⟨ad, h1, ?_, h3⟩
  rw [h2]; simp [ints, List.getD, List.getElem?_eq_getElem hk]
theorem TruthsAt.len {l : List Bool} (h : TruthsAt w v l) {ty : TypeId} (W : World) : (Builtin.len_ #[23] ty #[v]).run Try.prog W = .ok (.int .i64 (l.length : Nat)) W := by
  have := RowAt.len h elemT.ht (ty := ty) W; rwa [truths_len] at this
theorem TruthsAt.index {l : List Bool} (h : TruthsAt w v l) {k : Nat} (hk : k < l.length) :
    ∃ ad : Addr, (∀ W, (Instr.indexAt 23 v (.int .i64 (k : Int))).run Try.prog W = .ok (.pointer (some ad)) W) ∧ w.cell? ad = some (.bool (l.getD k false)) ∧ ad.block < w.heap.size := by
  obtain ⟨ad, h1, h2, h3⟩ := RowAt.index h elemT.ht elemT.hs (k := k) (by rw [truths_len]; exact hk)
  refine ⟨ad, h1, ?_, h3⟩
  rw [h2]; simp [truths, List.getD, List.getElem?_eq_getElem hk]
end
end Go.Proofs.Ytdonbgejnllhlaa
