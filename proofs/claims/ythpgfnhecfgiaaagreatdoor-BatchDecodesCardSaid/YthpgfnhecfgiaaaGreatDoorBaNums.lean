/-
  An operation's numbers handed out one by one, in the order of their columns, to each of three closures.
-/
import Derived.Test.YthpgfnhecfgiaaaGreatDoorMBase
namespace Go.Proofs.YthpgfnhecfgiaaaGreatDoor
open Go.RowKit Go.Sort
set_option maxRecDepth 20000

/-- Where the k-th number lies in an operation; its column's form. -/
def offN (k : Nat) : Nat := if k < 17 then k else if k < 19 then k + 3 else k + 4
def formN (k : Nat) : Int := if k = 0 ∨ (2 ≤ k ∧ k < 10) ∨ k = 11 then 1 else 0

/-- What a closure must do to be handed numbers: 'H' are blocks that it leaves as they are. -/
structure Hands (F : Nat) (cs : List Value) (b off : Nat) (Inv : List (Nat × Obj) → Nat → World → Prop) : Prop where
  box : ∀ H k W ob, Inv H k W → Inv ((W.heap.size, ob) :: H) k (W.alloc ob)
  drew : ∀ H k W, Inv H k W → Inv H k W.drew
  held : ∀ H k W q ob, Inv H k W → (q, ob) ∈ H → W.heap[q]? = some ob
  call : ∀ H k W, k < 21 → Inv H k W → Calls Tryz.prog F (Value.int .i64 (formN k) :: Value.pointer (some ⟨b, off + offN k, none⟩) :: cs).toArray W fun e W' => e = .returned (.tuple #[]) ∧ Inv H (k + 1) W'

theorem cell_held {w : World} {q k : Nat} {cs : Array Value} {T : TypeId} {v : Value} (h : w.heap[q]? = some (.cells cs T)) (hv : cs[k]? = some v) : w.cell? ⟨q, k, none⟩ = some v := by
  rw [cell_of_row _ _ _ _ _ _ h, hv]
end Go.Proofs.YthpgfnhecfgiaaaGreatDoor
