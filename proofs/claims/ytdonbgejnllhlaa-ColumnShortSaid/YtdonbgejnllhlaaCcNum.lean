/-
  Runs, told one after another; runs beside one another are unlike. No model in here.
-/
import Derived.Test.YtdonbgejnllhlaaCoNum2
namespace Go.Proofs.Ytdonbgejnllhlaa

theorem enc_snoc (rs : List (Nat × Int)) (k : Nat) (x : Int) : encR (rs ++ [(k, x)]) = encR rs ++ putL k ++ putL (zigN x) := by
  rw [enc_append]; simp [encR]
theorem encB_snoc (c : List Nat) (k : Nat) : encB (c ++ [k]) = encB c ++ putL k := by
  rw [encB_append]; simp [encB]

/-- A run behind a list that ends in another. -/
theorem runs_snoc : ∀ (m : List Int) (x : Int) (k : Nat), 1 ≤ k → (∀ y, m.getLast? = some y → y ≠ x) → runsL (m ++ List.replicate k x) = runsL m ++ [(k, x)]
  | [], x, k, hk, _ => by
    obtain ⟨j, rfl⟩ : ∃ j, k = j + 1 := ⟨k - 1, by omega⟩
    have := runs_rep (x := x) (t := []) (by intro y t' h; cases h) j
    simpa [runsL] using this
  | y :: t, x, k, hk, h => by
    have ih := runs_snoc t x k hk (by
      intro z hz
      refine h z ?_
      cases t with
      | nil => simp at hz
      | cons u t' => simpa [List.getLast?_cons] using hz)
    rw [List.cons_append, runsL, ih]
    cases t with
    | nil =>
      have hyx : y ≠ x := h y rfl
      simp [runsL, hyx]
    | cons z t' =>
      obtain ⟨j, r, hr, _⟩ := runs_head z t'
      rw [hr, show runsL (y :: z :: t') = (if y = z then (j + 1, z) :: r else (1, y) :: (j, z) :: r) by rw [runsL, hr]]
      simp only [List.cons_append]
      split <;> rfl

/-- Runs beside one another are unlike. -/
def Apart : List (Nat × Int) → Prop
  | [] => True
  | [_] => True
  | (_, x) :: (j, y) :: r => x ≠ y ∧ Apart ((j, y) :: r)

theorem apart_head {k k' : Nat} {x : Int} {r : List (Nat × Int)} (h : Apart ((k, x) :: r)) : Apart ((k', x) :: r) := by
  cases r with
  | nil => trivial
  | cons p r => exact h

theorem apart_runs : ∀ l : List Int, Apart (runsL l)
  | [] => trivial
  | x :: t => by
    have ih := apart_runs t
    rw [runsL]
    cases hr : runsL t with
    | nil => trivial
    | cons p r =>
      obtain ⟨k, y⟩ := p
      rw [hr] at ih
      by_cases hxy : x = y
      · simp only [if_pos hxy]; exact apart_head ih
      · simp only [if_neg hxy]; exact ⟨hxy, ih⟩

theorem apart_not : ∀ (a : List (Nat × Int)) (j k : Nat) (x : Int) (r : List (Nat × Int)), ¬ Apart (a ++ (j, x) :: (k, x) :: r)
  | [], _, _, _, _, h => h.1 rfl
  | [(_, _)], _, _, _, _, h => h.2.1 rfl
  | (_, _) :: p :: a, j, k, x, r, h => apart_not (p :: a) j k x r h.2

theorem runs_last : ∀ (m : List Int) (x : Int), m.getLast? = some x → ∃ a j, runsL m = a ++ [(j, x)]
  | [], x, h => by simp at h
  | [y], x, h => by
    simp at h; subst h
    exact ⟨[], 1, rfl⟩
  | y :: z :: t, x, h => by
    obtain ⟨a, j, ha⟩ := runs_last (z :: t) x (by simpa [List.getLast?_cons] using h)
    rw [runsL, ha]
    cases a with
    | nil =>
      by_cases hyx : y = x
      · exact ⟨[], j + 1, by simp [hyx]⟩
      · exact ⟨[(1, y)], j, by simp [hyx]⟩
    | cons p a =>
      obtain ⟨i, u⟩ := p
      by_cases hyu : y = u
      · exact ⟨(i + 1, u) :: a, j, by simp [hyu]⟩
      · exact ⟨(1, y) :: (i, u) :: a, j, by simp [hyu]⟩

/-- What was read is the runs of a list; its end. -/
theorem Read.runsEnd {b : List Nat} {n a : Nat} {m : List Int} (h : Read b n (runsL m) a) (heq : m.length = n) {l : List Int} {a' e : Nat} (ht : TakenR b n l a' e) : l = m ∧ a' = a ∧ e = 0 := by
  have hd := h.done (by rw [total_runs]; exact heq) ht
  have h1 : b.take a = encR (runsL m) := by
    have h1 := h.bytes
    have h2 := h.len
    rw [h1, List.take_left' h2.symm]
  rw [flat_runs] at hd
  exact hd.1 (by rw [h1]; rfl)

/-- The next run is like the last one: there is no such list. -/
theorem Read.alike {b : List Nat} {n a k v : Nat} {m : List Int} (h : Read b n (runsL m) a) (hlt : m.length < n) (hlast : m.getLast? = some (zagN v))
    (hb1 : putL k <+: b.drop a) (hb2 : putL v <+: b.drop (a + (putL k).length)) : ∀ l', ¬ RunsOf b n l' := by
  intro l' hl'
  obtain ⟨q, s, h1, h2, h3, h4⟩ := h.goes hl'
  rw [total_runs] at h3
  cases q with
  | nil => simp [total] at h3; omega
  | cons p r =>
    obtain ⟨k', x⟩ := p
    obtain ⟨s1, hs1⟩ := hb1
    obtain ⟨s2, hs2⟩ := hb2
    rw [encR, List.append_assoc, List.append_assoc] at h2
    obtain ⟨rfl, h6⟩ := putL_free k k' _ _ (hs1.trans h2)
    have h7 : b.drop (a + (putL k).length) = s1 := by rw [← List.drop_drop, ← hs1, List.drop_left' rfl]
    obtain ⟨h8, _⟩ := putL_free v (zigN x) _ _ ((hs2.trans h7).trans h6)
    rw [h8, zagN_zigN] at hlast
    obtain ⟨a0, j, ha⟩ := runs_last m x hlast
    have := apart_runs l'
    rw [h1, ha, List.append_assoc] at this
    exact apart_not a0 j k x r this

/-- A run more, unlike the last one. -/
theorem Read.more {b : List Nat} {n a k v : Nat} {m : List Int} (h : Read b n (runsL m) a) (hk : 1 ≤ k) (hv : v < 18446744073709551616) (hle : m.length + k ≤ n) (hlast : ∀ y, m.getLast? = some y → y ≠ zagN v)
    (hb1 : putL k <+: b.drop a) (hb2 : putL v <+: b.drop (a + (putL k).length)) : Read b n (runsL (m ++ List.replicate k (zagN v))) (a + (putL k).length + (putL v).length) := by
  rw [runs_snoc m _ k hk hlast]
  exact h.step hk hv (by rw [total_runs]; exact hle) hb1 hb2

/-! Truths: what was read, at its end; a list's runs of truths. -/

theorem inc_rep (k : Nat) : incB [k] = [k + 1] := rfl

/-- The counts of flatB, where but the first may be 0 and the last is not. -/
theorem cnt_flat : ∀ (v : Bool) (c : List Nat), PosB c → cntB v (flatB v c) = c
  | _, [], _ => rfl
  | v, k :: r, h => by
    have hk := h k (by simp)
    obtain ⟨j, rfl⟩ : ∃ j, k = j + 1 := ⟨k - 1, by omega⟩
    have hr : PosB r := fun i hi => h i (by simp [hi])
    rw [flatB, cnt_rep ?_ j, cnt_flat (!v) r hr]
    intro t' ht
    cases r with
    | nil => simp [flatB] at ht
    | cons i r' =>
      have hi := hr i (by simp)
      obtain ⟨u, rfl⟩ : ∃ u, i = u + 1 := ⟨i - 1, by omega⟩
      rw [flatB, List.replicate_succ, List.cons_append] at ht
      injection ht with h1 _
      cases v <;> simp at h1

theorem cnt_flat0 {v : Bool} {c : List Nat} (hp : PosB c.tail) (hn : 0 < totB c ∨ c = []) : cntB v (flatB v c) = c := by
  cases c with
  | nil => rfl
  | cons k r =>
    rcases Nat.eq_zero_or_pos k with rfl | hk
    · cases r with
      | nil => simp [totB] at hn
      | cons i r' =>
        have hi : 1 ≤ i := hp i (by simp)
        have h1 := cnt_flat (!v) (i :: r') hp
        have h2 : flatB v (0 :: i :: r') = flatB (!v) (i :: r') := by simp [flatB]
        rw [h2]
        obtain ⟨u, rfl⟩ : ∃ u, i = u + 1 := ⟨i - 1, by omega⟩
        rw [show flatB (!v) ((u + 1) :: r') = (!v) :: (List.replicate u (!v) ++ flatB (!(!v)) r') by rw [flatB, List.replicate_succ]; rfl] at h1 ⊢
        rw [cnt_zero (by cases v <;> simp), h1]
    · refine cnt_flat v (k :: r) fun i hi => ?_
      rcases List.mem_cons.1 hi with rfl | hi
      · exact hk
      · exact hp i hi

theorem ReadB.runsEnd {b : List Nat} {n a : Nat} {c : List Nat} (h : ReadB b n c a) (heq : totB c = n) {l : List Bool} {a' e : Nat} (ht : TakenB b n l a' e) : l = flatB false c ∧ a' = a ∧ e = 0 := by
  have hd := h.done heq ht
  have h1 : b.take a = encB c := by
    have h1 := h.bytes
    have h2 := h.len
    rw [h1, List.take_left' h2.symm]
  refine hd.1 ?_
  rw [h1, bytesB, cnt_flat0 h.pos]
  rcases h.some_ with h2 | h2
  · exact .inr h2
  · exact .inl (by omega)

/-- A list's runs of truths. -/
def runsT : List Bool → List (Nat × Bool)
  | [] => []
  | x :: t => match runsT t with
    | [] => [(1, x)]
    | (k, y) :: r => if x = y then (k + 1, y) :: r else (1, x) :: (k, y) :: r

theorem runsT_head (y : Bool) (t : List Bool) : ∃ k r, runsT (y :: t) = (k, y) :: r ∧ 1 ≤ k := by
  unfold runsT
  split
  · exact ⟨1, [], rfl, by omega⟩
  · rename_i k z r _
    split
    · subst_vars; exact ⟨k + 1, r, rfl, by omega⟩
    · exact ⟨1, _, rfl, by omega⟩

theorem runsT_one {x : Bool} {t : List Bool} (h : ∀ y t', t = y :: t' → y ≠ x) : runsT (x :: t) = (1, x) :: runsT t := by
  cases t with
  | nil => rfl
  | cons y t' =>
    obtain ⟨k, r, hr, _⟩ := runsT_head y t'
    have := h y t' rfl
    rw [runsT, hr]
    simp only
    rw [if_neg (fun e => this e.symm)]
theorem runsT_rep {x : Bool} {t : List Bool} (h : ∀ y t', t = y :: t' → y ≠ x) : ∀ m : Nat, runsT (List.replicate (m + 1) x ++ t) = (m + 1, x) :: runsT t
  | 0 => runsT_one h
  | m + 1 => by
    rw [List.replicate_succ, List.cons_append, runsT, runsT_rep h m]
    simp

/-- How many, of each run. -/
theorem cnt_runs : ∀ (x : Bool) (t : List Bool), cntB x (x :: t) = (runsT (x :: t)).map (·.1)
  | x, [] => by simp [cntB, incB, runsT]
  | x, y :: t => by
    have ih := cnt_runs y t
    obtain ⟨k, r, hr, _⟩ := runsT_head y t
    rw [hr] at ih
    rw [cntB, if_pos rfl, runsT, hr]
    by_cases hxy : x = y
    · subst hxy
      rw [ih]; simp [incB]
    · have hyx : y ≠ x := fun h => hxy h.symm
      simp only [if_neg hxy]
      have hz : cntB x (y :: t) = 0 :: cntB y (y :: t) := by
        rw [cntB, if_neg hyx]
        rw [show cntB y (y :: t) = incB (cntB y t) by rw [cntB, if_pos rfl]]
      rw [hz, ih]
      simp [incB]

theorem bytes_truths (l : List Bool) : bytesB l = (if l.head? = some true then putL 0 else []) ++ encB ((runsT l).map (·.1)) := by
  cases l with
  | nil => simp [bytesB, cntB, encB, runsT]
  | cons x t =>
    rw [← cnt_runs]
    cases x
    · simp [bytesB]
    · rw [bytesB, cntB, if_neg (by simp)]
      simp [encB]
      rw [show cntB true (true :: t) = incB (cntB true t) by rw [cntB, if_pos rfl]]
end Go.Proofs.Ytdonbgejnllhlaa
