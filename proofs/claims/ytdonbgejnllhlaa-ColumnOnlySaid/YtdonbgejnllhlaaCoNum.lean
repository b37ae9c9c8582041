/-
  Columns in plain words: a list's runs, their bytes, and which list stands at the beginning of bytes. No model in here.
-/
import Derived.Test.YtdonbgejnllhlaaVaNum
namespace Go.Proofs.Ytdonbgejnllhlaa

/-- A number with a sign, as one without (N2). -/
def zigN (x : Int) : Nat := if x < 0 then (-2 * x - 1).toNat else (2 * x).toNat
def zagN (m : Nat) : Int := if m % 2 = 1 then -((m / 2 : Nat) : Int) - 1 else ((m / 2 : Nat) : Int)
def InR (x : Int) : Prop := -9223372036854775808 ≤ x ∧ x ≤ 9223372036854775807

theorem zagN_zigN (x : Int) : zagN (zigN x) = x := by
  unfold zagN zigN; split <;> split <;> omega
theorem zigN_zagN (m : Nat) : zigN (zagN m) = m := by
  unfold zagN zigN; split <;> split <;> omega
theorem zigN_inj {x y : Int} (h : zigN x = zigN y) : x = y := by rw [← zagN_zigN x, ← zagN_zigN y, h]
theorem zigN_lt {x : Int} (h : InR x) : zigN x < 18446744073709551616 := by
  unfold InR at h; unfold zigN; split <;> omega
theorem zagN_in {m : Nat} (h : m < 18446744073709551616) : InR (zagN m) := by
  unfold InR zagN; split <;> omega

def runsL : List Int → List (Nat × Int)
  | [] => []
  | x :: t => match runsL t with
    | [] => [(1, x)]
    | (k, y) :: r => if x = y then (k + 1, y) :: r else (1, x) :: (k, y) :: r

def flatL : List (Nat × Int) → List Int
  | [] => []
  | (k, x) :: r => List.replicate k x ++ flatL r

def total : List (Nat × Int) → Nat
  | [] => 0
  | (k, _) :: r => k + total r

def encR : List (Nat × Int) → List Nat
  | [] => []
  | (k, x) :: r => putL k ++ (putL (zigN x) ++ encR r)

def bytesR (l : List Int) : List Nat := encR (runsL l)
def Pos (rs : List (Nat × Int)) : Prop := ∀ p ∈ rs, 1 ≤ p.1

theorem runs_head (y : Int) (t : List Int) : ∃ k r, runsL (y :: t) = (k, y) :: r ∧ 1 ≤ k := by
  unfold runsL
  split
  · exact ⟨1, [], rfl, by omega⟩
  · rename_i k z r _
    split
    · subst_vars; exact ⟨k + 1, r, rfl, by omega⟩
    · exact ⟨1, _, rfl, by omega⟩

theorem flat_runs : ∀ l : List Int, flatL (runsL l) = l
  | [] => rfl
  | x :: t => by
    have ih := flat_runs t
    unfold runsL
    split
    · rename_i h
      rw [h] at ih
      simp only [flatL] at ih ⊢
      rw [← ih]; rfl
    · rename_i k y r h
      rw [h] at ih
      simp only [flatL] at ih
      split
      · rename_i hxy
        subst hxy
        simp only [flatL, List.replicate_succ, List.cons_append, ih]
      · simp only [flatL, ih]; rfl

theorem pos_runs : ∀ l : List Int, Pos (runsL l)
  | [] => by simp [Pos, runsL]
  | x :: t => by
    have ih := pos_runs t
    unfold runsL
    split
    · simp [Pos]
    · rename_i k y r h
      rw [h] at ih
      unfold Pos at ih ⊢
      split
      · intro p hp
        rcases List.mem_cons.1 hp with rfl | hp
        · simp
        · exact ih p (by simp [hp])
      · intro p hp
        rcases List.mem_cons.1 hp with rfl | hp
        · simp
        · exact ih p hp

theorem runs_one {x : Int} {t : List Int} (h : ∀ y t', t = y :: t' → y ≠ x) : runsL (x :: t) = (1, x) :: runsL t := by
  cases t with
  | nil => rfl
  | cons y t' =>
    obtain ⟨k, r, hr, _⟩ := runs_head y t'
    have := h y t' rfl
    rw [runsL, hr]
    simp only
    rw [if_neg (fun e => this e.symm)]

theorem runs_rep {x : Int} {t : List Int} (h : ∀ y t', t = y :: t' → y ≠ x) : ∀ m : Nat, runsL (List.replicate (m + 1) x ++ t) = (m + 1, x) :: runsL t
  | 0 => runs_one h
  | m + 1 => by
    rw [List.replicate_succ, List.cons_append, runsL, runs_rep h m]
    simp

theorem bytes_rep {x : Int} {t : List Int} (h : ∀ y t', t = y :: t' → y ≠ x) {m : Nat} (hm : 1 ≤ m) : bytesR (List.replicate m x ++ t) = putL m ++ (putL (zigN x) ++ bytesR t) := by
  obtain ⟨k, rfl⟩ : ∃ k, m = k + 1 := ⟨m - 1, by omega⟩
  rw [bytesR, runs_rep h k, encR]; rfl

theorem flat_len : ∀ rs : List (Nat × Int), (flatL rs).length = total rs
  | [] => rfl
  | (k, x) :: r => by rw [flatL, total, List.length_append, List.length_replicate, flat_len r]

theorem total_runs (l : List Int) : total (runsL l) = l.length := by rw [← flat_len, flat_runs]

theorem total_append : ∀ a b : List (Nat × Int), total (a ++ b) = total a + total b
  | [], b => by simp [total]
  | (k, x) :: r, b => by rw [List.cons_append, total, total, total_append r b]; omega
theorem enc_append : ∀ a b : List (Nat × Int), encR (a ++ b) = encR a ++ encR b
  | [], b => rfl
  | (k, x) :: r, b => by rw [List.cons_append, encR, encR, enc_append r b]; simp
theorem flat_append : ∀ a b : List (Nat × Int), flatL (a ++ b) = flatL a ++ flatL b
  | [], b => rfl
  | (k, x) :: r, b => by rw [List.cons_append, flatL, flatL, flat_append r b]; simp

theorem total_zero {rs : List (Nat × Int)} (hp : Pos rs) (h : total rs = 0) : rs = [] := by
  cases rs with
  | nil => rfl
  | cons p r =>
    have := hp p (by simp)
    obtain ⟨k, x⟩ := p
    rw [total] at h
    simp at this
    omega

/-- Two readings of the same bytes: the longer one goes on where the shorter one ends. -/
theorem enc_follow : ∀ (rs rs' : List (Nat × Int)) (s s' : List Nat), Pos rs → Pos rs' → encR rs ++ s = encR rs' ++ s' → total rs ≤ total rs' → ∃ q, rs' = rs ++ q ∧ s = encR q ++ s'
  | [], rs', s, s', _, _, h, _ => ⟨rs', rfl, by simpa [encR] using h⟩
  | (k, x) :: r, [], s, s', hp, _, h, hle => by
    have := hp (k, x) (by simp)
    simp [total] at hle
    simp at this
    omega
  | (k, x) :: r, (k', x') :: r', s, s', hp, hp', h, hle => by
    simp only [encR, List.append_assoc] at h
    obtain ⟨rfl, h2⟩ := putL_free k k' _ _ h
    obtain ⟨h3, h4⟩ := putL_free _ _ _ _ h2
    have := zigN_inj h3
    subst this
    obtain ⟨q, h5, h6⟩ := enc_follow r r' s s' (fun p hh => hp p (by simp [hh])) (fun p hh => hp' p (by simp [hh])) h4 (by simp [total] at hle; omega)
    exact ⟨q, by rw [h5]; rfl, h6⟩

/-- A list whose bytes stand at the beginning of b. -/
def RunsOf (b : List Nat) (n : Nat) (l : List Int) : Prop := l.length = n ∧ (∀ x ∈ l, InR x) ∧ bytesR l <+: b

/-- What the document says of the list that is taken. -/
def TakenR (b : List Nat) (n : Nat) (l : List Int) (at' e : Nat) : Prop :=
  (RunsOf b n l ∧ at' = (bytesR l).length ∧ e = 0) ∨ ((∀ l', ¬ RunsOf b n l') ∧ l = [] ∧ at' = 0 ∧ e = 41)

theorem takenR_any (b : List Nat) (n : Nat) : ∃ l a e, TakenR b n l a e := by
  by_cases h : ∃ l, RunsOf b n l
  · obtain ⟨l, h⟩ := h
    exact ⟨l, _, 0, .inl ⟨h, rfl, rfl⟩⟩
  · exact ⟨[], 0, 41, .inr ⟨fun l' h' => h ⟨l', h'⟩, rfl, rfl, rfl⟩⟩

theorem RunsOf.unique {b : List Nat} {n : Nat} {l l' : List Int} (h : RunsOf b n l) (h' : RunsOf b n l') : l = l' := by
  obtain ⟨h1, _, s, h3⟩ := h
  obtain ⟨h4, _, s', h6⟩ := h'
  obtain ⟨q, h7, _⟩ := enc_follow (runsL l) (runsL l') s s' (pos_runs l) (pos_runs l') (by unfold bytesR at h3 h6; rw [h3, h6]) (by rw [total_runs, total_runs]; omega)
  have hq : q = [] := by
    apply total_zero
    · intro p hp; exact pos_runs l' p (by rw [h7]; simp [hp])
    · have := congrArg total h7
      rw [total_append, total_runs, total_runs] at this
      omega
  rw [hq, List.append_nil] at h7
  rw [← flat_runs l, ← flat_runs l', h7]

theorem TakenR.of {b : List Nat} {n : Nat} {l l' : List Int} {a e : Nat} (h : TakenR b n l a e) (h' : RunsOf b n l') : l = l' ∧ a = (bytesR l').length ∧ e = 0 := by
  rcases h with ⟨h1, h2, h3⟩ | ⟨h1, _⟩
  · have := h1.unique h'
    subst this
    exact ⟨rfl, h2, h3⟩
  · exact absurd h' (h1 l')

theorem TakenR.none_ {b : List Nat} {n : Nat} {l : List Int} {a e : Nat} (h : TakenR b n l a e) (hno : ∀ l', ¬ RunsOf b n l') : l = [] ∧ a = 0 ∧ e = 41 := by
  rcases h with ⟨h1, _⟩ | ⟨_, h⟩
  · exact absurd h1 (hno l)
  · exact h

/-- Read so far: the runs rs, all of them at the beginning of b. -/
structure Read (b : List Nat) (n : Nat) (rs : List (Nat × Int)) (at' : Nat) : Prop where
  pos : Pos rs
  bytes : b = encR rs ++ b.drop at'
  len : at' = (encR rs).length
  tot : total rs ≤ n
  inr : ∀ x ∈ flatL rs, InR x

theorem Read.start (b : List Nat) (n : Nat) : Read b n [] 0 := ⟨by simp [Pos], by simp [encR], rfl, by simp [total], by simp [flatL]⟩

theorem Read.le {b : List Nat} {n : Nat} {rs : List (Nat × Int)} {a : Nat} (h : Read b n rs a) : a ≤ b.length := by
  have := congrArg List.length h.bytes
  rw [List.length_append, List.length_drop, ← h.len] at this
  omega

/-- A list that is there goes on from what was read. -/
theorem Read.goes {b : List Nat} {n : Nat} {rs : List (Nat × Int)} {a : Nat} (h : Read b n rs a) {l' : List Int} (h' : RunsOf b n l') :
    ∃ q s, runsL l' = rs ++ q ∧ b.drop a = encR q ++ s ∧ total rs + total q = n ∧ Pos q := by
  obtain ⟨h1, _, s, h3⟩ := h'
  obtain ⟨q, h4, h5⟩ := enc_follow rs (runsL l') (b.drop a) s h.pos (pos_runs l') (by rw [← h.bytes]; exact h3.symm) (by rw [total_runs, h1]; exact h.tot)
  refine ⟨q, s, h4, h5, ?_, fun p hp => pos_runs l' p (by rw [h4]; simp [hp])⟩
  have := congrArg total h4
  rw [total_append, total_runs] at this
  omega

/-- The next run that a list that is there has. -/
theorem Read.next {b : List Nat} {n : Nat} {rs : List (Nat × Int)} {a : Nat} (h : Read b n rs a) (hlt : total rs < n) {l' : List Int} (h' : RunsOf b n l') :
    ∃ k x t, 1 ≤ k ∧ total rs + k ≤ n ∧ InR x ∧ b.drop a = putL k ++ (putL (zigN x) ++ t) := by
  obtain ⟨q, s, h1, h2, h3, h4⟩ := h.goes h'
  cases q with
  | nil => simp [total] at h3; omega
  | cons p r =>
    obtain ⟨k, x⟩ := p
    have hk : 1 ≤ k := h4 (k, x) (by simp)
    refine ⟨k, x, encR r ++ s, hk, by rw [total] at h3; omega, ?_, by rw [h2, encR]; simp⟩
    have hx : x ∈ l' := by
      rw [← flat_runs l', h1, flat_append, flatL]
      simp
      right; left; omega
    exact h'.2.1 x hx

/-- What is read in a round. -/
theorem Read.step {b : List Nat} {n : Nat} {rs : List (Nat × Int)} {a k v : Nat} (h : Read b n rs a) (hk : 1 ≤ k) (hv : v < 18446744073709551616) (hle : total rs + k ≤ n)
    (hb1 : putL k <+: b.drop a) (hb2 : putL v <+: b.drop (a + (putL k).length)) : Read b n (rs ++ [(k, zagN v)]) (a + (putL k).length + (putL v).length) := by
  obtain ⟨s, hs⟩ := hb1
  obtain ⟨t, ht⟩ := hb2
  have h1 : b.drop (a + (putL k).length) = s := by rw [← List.drop_drop, ← hs, List.drop_left' rfl]
  have h2 : b.drop (a + (putL k).length + (putL v).length) = t := by rw [← List.drop_drop, ← ht, List.drop_left' rfl]
  refine ⟨?_, ?_, ?_, ?_, ?_⟩
  · intro p hp
    rcases List.mem_append.1 hp with hp | hp
    · exact h.pos p hp
    · simp at hp; subst hp; exact hk
  · rw [enc_append, h2]
    simp only [encR, zigN_zagN, List.append_nil, List.append_assoc]
    rw [ht, h1, hs]
    exact h.bytes
  · rw [enc_append, List.length_append, ← h.len]
    simp [encR, zigN_zagN]
    omega
  · rw [total_append]; simp [total]; omega
  · intro x hx
    rw [flat_append] at hx
    rcases List.mem_append.1 hx with hx | hx
    · exact h.inr x hx
    · simp [flatL] at hx
      rw [hx.2]
      exact zagN_in hv

/-- At the end: either what was read is the list, or there is none. -/
theorem Read.done {b : List Nat} {n : Nat} {rs : List (Nat × Int)} {a : Nat} (h : Read b n rs a) (heq : total rs = n) {l : List Int} {a' e : Nat} (ht : TakenR b n l a' e) :
    (bytesR (flatL rs) = b.take a → l = flatL rs ∧ a' = a ∧ e = 0) ∧ (bytesR (flatL rs) ≠ b.take a → l = [] ∧ a' = 0 ∧ e = 41) := by
  have htake : b.take a = encR rs := by
    have h1 := h.bytes
    have h2 := h.len
    rw [h1, List.take_left' h2.symm]
  constructor
  · intro hh
    have hr : RunsOf b n (flatL rs) := ⟨by rw [flat_len]; exact heq, h.inr, by rw [hh]; exact List.take_prefix _ _⟩
    obtain ⟨h1, h2, h3⟩ := ht.of hr
    exact ⟨h1, by rw [h2, hh, List.length_take]; have := h.le; omega, h3⟩
  · intro hh
    refine ht.none_ fun l' h' => hh ?_
    obtain ⟨q, s, h1, _, h3, h4⟩ := h.goes h'
    have hq : q = [] := total_zero h4 (by omega)
    rw [hq, List.append_nil] at h1
    rw [htake, ← h1, flat_runs]
    rfl
end Go.Proofs.Ytdonbgejnllhlaa
