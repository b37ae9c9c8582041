/-
  Files, as the document tells them: steps, the names behind some steps, what a file holds. No program in here.
-/
import Derived.Test.YtpkiapjcilapoaaWide
import Derived.Test.YtpkiapjcilapoaaBy
namespace Go.Proofs.Ytpkiapjcilapoaa

abbrev Nms := List (ByteArray × Nat)
/-- A step: its kind, a file's number, a name, bytes (bv: the slice that holds them). -/
structure FStep where
  kind : Nat
  file : Nat
  name : ByteArray
  bv : Value
  b : List Nat

def withoutF (l : Nms) (n : ByteArray) : Nms := l.filter (fun p => decide (p.1 ≠ n))
def apartF (l : Nms) (f : Nat) (n : ByteArray) : Nms := l.filter (fun p => decide (p.2 ≠ f ∧ p.1 ≠ n))
def namedF (l : Nms) (s : FStep) : Nms :=
  if s.kind = 1 ∨ s.kind = 3 then apartF l s.file s.name ++ [(s.name, s.file)] else if s.kind = 4 then withoutF l s.name else l
def nowF (L : List FStep) : Nms := L.foldl namedF []
def findF : Nms → ByteArray → Int
  | [], _ => -1
  | p :: t, n => if p.1 = n then p.2 else findF t n
def heldF (L : List FStep) (f : Nat) : List Nat := (L.filter (fun s => decide (s.kind = 2 ∧ s.file = f))).flatMap (·.b)

theorem withoutF_snoc (l : Nms) (p : ByteArray × Nat) (n : ByteArray) : withoutF (l ++ [p]) n = if p.1 ≠ n then withoutF l n ++ [p] else withoutF l n := by
  unfold withoutF; rw [List.filter_append]; split <;> simp_all
theorem apartF_snoc (l : Nms) (p : ByteArray × Nat) (f : Nat) (n : ByteArray) : apartF (l ++ [p]) f n = if p.2 ≠ f ∧ p.1 ≠ n then apartF l f n ++ [p] else apartF l f n := by
  unfold apartF; rw [List.filter_append]; split <;> simp_all
theorem withoutF_len (l : Nms) (n : ByteArray) : (withoutF l n).length ≤ l.length := List.length_filter_le _ _
theorem apartF_len (l : Nms) (f : Nat) (n : ByteArray) : (apartF l f n).length ≤ l.length := List.length_filter_le _ _
theorem namedF_len (l : Nms) (s : FStep) : (namedF l s).length ≤ l.length + 1 := by
  unfold namedF
  have h1 := apartF_len l s.file s.name
  have h2 := withoutF_len l s.name
  split
  · simp; omega
  · split <;> omega
theorem nowF_snoc (L : List FStep) (s : FStep) : nowF (L ++ [s]) = namedF (nowF L) s := by simp [nowF]
theorem nowF_len : ∀ (L : List FStep), (nowF L).length ≤ L.length := by
  suffices h : ∀ (L : List FStep) (l : Nms), (L.foldl namedF l).length ≤ l.length + L.length by
    intro L; have := h L []; simpa [nowF] using this
  intro L
  induction L with
  | nil => intro l; simp
  | cons s t ih =>
    intro l
    have h1 := ih (namedF l s)
    have h2 := namedF_len l s
    simp only [List.foldl_cons, List.length_cons]
    omega
theorem findF_drop {l : Nms} {n : ByteArray} {i : Nat} (hi : i < l.length) {p : ByteArray × Nat} (hp : l[i]? = some p) : findF (l.drop i) n = if p.1 = n then (p.2 : Int) else findF (l.drop (i + 1)) n := by
  rw [List.drop_eq_getElem_cons hi, findF]
  rw [List.getElem?_eq_getElem hi] at hp
  injection hp with hp
  rw [hp]
theorem heldF_snoc (L : List FStep) (s : FStep) (f : Nat) : heldF (L ++ [s]) f = if s.kind = 2 ∧ s.file = f then heldF L f ++ s.b else heldF L f := by
  unfold heldF; rw [List.filter_append, List.flatMap_append]; split <;> simp_all

theorem str_ne {a b : ByteArray} (h : a ≠ b) : (a == b) = false := by
  have : (a == b) = (a.data == b.data) := by cases a; cases b; rfl
  rw [this]
  exact beq_false_of_ne (fun e => h (by cases a; cases b; simp_all))

theorem take_snoc {α : Type} {l : List α} {i : Nat} {x : α} (h : l[i]? = some x) : l.take (i + 1) = l.take i ++ [x] := by
  rw [List.take_add_one, h]; rfl

def nmCells (p : ByteArray × Nat) : List Value := [.string p.1, .int .i64 (p.2 : Nat)]
def stCells (s : FStep) : List Value := [.int .i64 (s.kind : Nat), .int .i64 (s.file : Nat), .string s.name, s.bv]
def NamesAt (w : World) (v : Value) (l : Nms) : Prop := RowsAt 2 w v (l.map nmCells)
def StepsAt (w : World) (v : Value) (L : List FStep) : Prop := RowsAt 4 w v (L.map stCells)

theorem names_at {l : Nms} {i : Nat} {p : ByteArray × Nat} (h : l[i]? = some p) : (l.map nmCells)[i]? = some [.string p.1, .int .i64 (p.2 : Nat)] := by rw [List.getElem?_map, h]; rfl
theorem steps_at {L : List FStep} {i : Nat} {s : FStep} (h : L[i]? = some s) : (L.map stCells)[i]? = some [.int .i64 (s.kind : Nat), .int .i64 (s.file : Nat), .string s.name, s.bv] := by rw [List.getElem?_map, h]; rfl
end Go.Proofs.Ytpkiapjcilapoaa
