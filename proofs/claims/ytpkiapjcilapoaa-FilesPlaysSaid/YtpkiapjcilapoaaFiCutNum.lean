/-
  A cut, as the document tells it: the steps that come through. No program in here.
-/
import Derived.Test.YtpkiapjcilapoaaFiLeftW
namespace Go.Proofs.Ytpkiapjcilapoaa

/-- A step that changes the names. -/
def chgF (s : FStep) : Bool := decide (s.kind = 1 ∨ s.kind = 3 ∨ s.kind = 4)
/-- The last SyncNames from base on, among the first i steps; base. -/
def safeN (l : List FStep) (base : Nat) : Nat → Nat
  | 0 => base
  | i + 1 => match l[i]? with
    | some s => if base ≤ i ∧ s.kind = 6 then i else safeN l base i
    | none => safeN l base i
theorem safeN_step {l : List FStep} {i : Nat} {s : FStep} (h : l[i]? = some s) {base : Nat} (hb : base ≤ i) : safeN l base (i + 1) = if s.kind = 6 then i else safeN l base i := by
  rw [safeN, h]; simp [hb]
theorem safeN_base (l : List FStep) (base : Nat) : ∀ i, i ≤ base → safeN l base i = base
  | 0, _ => rfl
  | i + 1, h => by
    have ih := safeN_base l base i (by omega)
    unfold safeN
    split
    · rw [if_neg (by omega), ih]
    · exact ih
theorem safeN_le (l : List FStep) (base : Nat) : ∀ i, base ≤ safeN l base i ∧ (base ≤ i → safeN l base i ≤ i)
  | 0 => ⟨Nat.le_refl _, fun h => h⟩
  | i + 1 => by
    obtain ⟨h1, h2⟩ := safeN_le l base i
    unfold safeN
    split
    · split
      · exact ⟨by omega, fun _ => by omega⟩
      · refine ⟨h1, fun h => ?_⟩
        rcases Nat.lt_or_ge i base with h' | h'
        · rw [safeN_base l base i (by omega)]; exact h
        · have := h2 h'; omega
    · refine ⟨h1, fun h => ?_⟩
      rcases Nat.lt_or_ge i base with h' | h'
      · rw [safeN_base l base i (by omega)]; exact h
      · have := h2 h'; omega

/-- How many open changes of names stand between. -/
def openN (l : List FStep) (safe : Nat) : Nat → Nat
  | 0 => 0
  | i + 1 => match l[i]? with
    | some s => if safe ≤ i ∧ chgF s = true then openN l safe i + 1 else openN l safe i
    | none => openN l safe i
theorem openN_step {l : List FStep} {i : Nat} {s : FStep} (h : l[i]? = some s) {safe : Nat} (hb : safe ≤ i) : openN l safe (i + 1) = if chgF s = true then openN l safe i + 1 else openN l safe i := by
  rw [openN, h]; simp [hb]
theorem openN_base (l : List FStep) (safe : Nat) : ∀ i, i ≤ safe → openN l safe i = 0
  | 0, _ => rfl
  | i + 1, h => by
    have ih := openN_base l safe i (by omega)
    unfold openN
    split
    · rw [if_neg (by omega), ih]
    · exact ih
theorem openN_le (l : List FStep) (safe : Nat) : ∀ i, openN l safe i ≤ i
  | 0 => Nat.le_refl _
  | i + 1 => by
    have ih := openN_le l safe i
    unfold openN
    split
    · split <;> omega
    · omega

/-- The names that are there then, and how many open changes still come through. -/
def thereN (l : List FStep) (safe n : Nat) : Nat → Nms × Nat
  | 0 => ([], n)
  | i + 1 => match l[i]? with
    | some s =>
      let r := thereN l safe n i
      if i < safe then (namedF r.1 s, r.2) else if chgF s = true ∧ 0 < r.2 then (namedF r.1 s, r.2 - 1) else r
    | none => thereN l safe n i
theorem thereN_step {l : List FStep} {i : Nat} {s : FStep} (h : l[i]? = some s) (safe n : Nat) {T : Nms} {m : Nat} (hr : thereN l safe n i = (T, m)) :
    thereN l safe n (i + 1) = if i < safe then (namedF T s, m) else if chgF s = true ∧ 0 < m then (namedF T s, m - 1) else (T, m) := by rw [thereN, h]; simp only [hr]
theorem thereN_len (l : List FStep) (safe n : Nat) : ∀ i, (thereN l safe n i).1.length ≤ i ∧ (thereN l safe n i).2 ≤ n
  | 0 => by simp [thereN]
  | i + 1 => by
    obtain ⟨h1, h2⟩ := thereN_len l safe n i
    cases hs : l[i]? with
    | none => rw [thereN, hs]; exact ⟨by show (thereN l safe n i).1.length ≤ _; omega, h2⟩
    | some s =>
      obtain ⟨⟨T, m⟩, hr⟩ : ∃ r, thereN l safe n i = r := ⟨_, rfl⟩
      rw [thereN_step hs safe n hr]
      rw [hr] at h1 h2
      dsimp only at h1 h2
      have h3 := namedF_len T s
      split
      · exact ⟨by dsimp only; omega, h2⟩
      · split
        · exact ⟨by dsimp only; omega, by dsimp only; omega⟩
        · exact ⟨by dsimp only; omega, h2⟩

/-- A step without its slice. -/
abbrev Shp := Nat × Nat × ByteArray × List Nat
def shp (s : FStep) : Shp := (s.kind, s.file, s.name, s.b)
/-- The new disk's steps. -/
def outN (l : List FStep) (T : Nms) (keep : List Bool) (torn : Int) : Nat → List Shp
  | 0 => []
  | i + 1 => match T[i]? with
    | some p => outN l T keep torn i ++ [(1, i, p.1, []), (2, i, ByteArray.empty, leftS l p.2 keep torn), (5, i, ByteArray.empty, [])]
    | none => outN l T keep torn i
theorem outN_step {T : Nms} {i : Nat} {p : ByteArray × Nat} (h : T[i]? = some p) (l : List FStep) (keep : List Bool) (torn : Int) :
    outN l T keep torn (i + 1) = outN l T keep torn i ++ [(1, i, p.1, []), (2, i, ByteArray.empty, leftS l p.2 keep torn), (5, i, ByteArray.empty, [])] := by rw [outN, h]
theorem outN_len (l : List FStep) (T : Nms) (keep : List Bool) (torn : Int) : ∀ i, (outN l T keep torn i).length ≤ 3 * i
  | 0 => by simp [outN]
  | i + 1 => by
    have ih := outN_len l T keep torn i
    unfold outN
    split
    · simp; omega
    · omega

/-- What is there behind a cut: names with what is left of their files. -/
def cutT (L : List FStep) (base : Nat) (at_ names : Int) : List FStep × Nms :=
  let l := L.take (base + pickF at_ (L.length - base + 1))
  let safe := safeN l base l.length
  (l, (thereN l safe (pickF names (openN l safe l.length + 1)) l.length).1)
def cutS (L : List FStep) (base : Nat) (at_ names : Int) (keep : List Bool) (torn : Int) : List Shp :=
  outN (cutT L base at_ names).1 (cutT L base at_ names).2 keep torn (cutT L base at_ names).2.length ++ [(6, 0, ByteArray.empty, [])]
end Go.Proofs.Ytpkiapjcilapoaa
