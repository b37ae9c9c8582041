/-
  Differences and truths in plain words. No model in here.
-/
import Derived.Test.YtdonbgejnllhlaaCoNum
namespace Go.Proofs.Ytdonbgejnllhlaa

/-- Modulo 2^64, as a number with a sign. -/
def w64 (x : Int) : Int := (x + 9223372036854775808) % 18446744073709551616 - 9223372036854775808
theorem w64_in (x : Int) : InR (w64 x) := by unfold InR w64; omega
theorem w64_id {x : Int} (h : InR x) : w64 x = x := by unfold InR at h; unfold w64; omega

/-- The differences, p ahead of the first; the sums, p ahead of the first. -/
def deltaL : Int → List Int → List Int
  | _, [] => []
  | p, x :: t => w64 (x - p) :: deltaL x t
def sumL : Int → List Int → List Int
  | _, [] => []
  | p, d :: t => w64 (p + d) :: sumL (w64 (p + d)) t

theorem sum_delta : ∀ (p : Int) (l : List Int), (∀ x ∈ l, InR x) → sumL p (deltaL p l) = l
  | _, [], _ => rfl
  | p, x :: t, h => by
    have hx := h x (by simp)
    have : w64 (p + w64 (x - p)) = x := by unfold InR at hx; unfold w64; omega
    rw [deltaL, sumL, this, sum_delta x t (fun y hy => h y (by simp [hy]))]

theorem delta_sum : ∀ (p : Int) (l : List Int), (∀ x ∈ l, InR x) → deltaL p (sumL p l) = l
  | _, [], _ => rfl
  | p, d :: t, h => by
    have hx := h d (by simp)
    have : w64 (w64 (p + d) - p) = d := by unfold InR at hx; unfold w64; omega
    rw [sumL, deltaL, this, delta_sum _ t (fun y hy => h y (by simp [hy]))]

theorem delta_in : ∀ (p : Int) (l : List Int), ∀ x ∈ deltaL p l, InR x
  | _, [], _, h => by simp [deltaL] at h
  | p, y :: t, x, h => by
    rw [deltaL] at h
    rcases List.mem_cons.1 h with rfl | h
    · exact w64_in _
    · exact delta_in y t x h
theorem sum_in : ∀ (p : Int) (l : List Int), ∀ x ∈ sumL p l, InR x
  | _, [], _, h => by simp [sumL] at h
  | p, y :: t, x, h => by
    rw [sumL] at h
    rcases List.mem_cons.1 h with rfl | h
    · exact w64_in _
    · exact sum_in _ t x h
theorem delta_len : ∀ (p : Int) (l : List Int), (deltaL p l).length = l.length
  | _, [] => rfl
  | p, x :: t => by rw [deltaL, List.length_cons, List.length_cons, delta_len x t]
theorem sum_len : ∀ (p : Int) (l : List Int), (sumL p l).length = l.length
  | _, [] => rfl
  | p, x :: t => by rw [sumL, List.length_cons, List.length_cons, sum_len _ t]

/-- One difference, one sum more. -/
theorem delta_snoc : ∀ (p : Int) (l : List Int) (x : Int), deltaL p (l ++ [x]) = deltaL p l ++ [w64 (x - (l.getLast?.getD p))]
  | p, [], x => rfl
  | p, y :: t, x => by
    rw [List.cons_append, deltaL, deltaL, delta_snoc y t x, List.cons_append]
    cases t <;> simp [List.getLast?_cons]
theorem sum_snoc : ∀ (p : Int) (l : List Int) (x : Int), sumL p (l ++ [x]) = sumL p l ++ [w64 ((sumL p l).getLast?.getD p + x)]
  | p, [], x => rfl
  | p, y :: t, x => by
    rw [List.cons_append, sumL, sumL, sum_snoc _ t x, List.cons_append]
    cases t <;> simp [sumL, List.getLast?_cons]

/-! Truths. -/
def incB : List Nat → List Nat
  | [] => [1]
  | k :: r => (k + 1) :: r
/-- How many are v first, how many are not then, and so on. -/
def cntB : Bool → List Bool → List Nat
  | _, [] => []
  | v, x :: t => if x = v then incB (cntB v t) else 0 :: incB (cntB x t)
def flatB : Bool → List Nat → List Bool
  | _, [] => []
  | v, k :: r => List.replicate k v ++ flatB (!v) r
def totB : List Nat → Nat
  | [] => 0
  | k :: r => k + totB r
def encB : List Nat → List Nat
  | [] => []
  | k :: r => putL k ++ encB r
def bytesB (l : List Bool) : List Nat := encB (cntB false l)
def PosB (c : List Nat) : Prop := ∀ k ∈ c, 1 ≤ k

theorem flat_inc (v : Bool) (c : List Nat) : flatB v (incB c) = v :: flatB v c := by
  cases c <;> simp [incB, flatB, List.replicate_succ]

theorem flat_cnt : ∀ (v : Bool) (l : List Bool), flatB v (cntB v l) = l
  | _, [] => rfl
  | v, x :: t => by
    rw [cntB]
    split
    · rename_i h
      rw [flat_inc, flat_cnt v t, h]
    · rename_i h
      have : (!v) = x := by revert h; cases v <;> cases x <;> simp
      rw [flatB, this, flat_inc, flat_cnt x t]; rfl

theorem inc_pos {c : List Nat} (h : PosB c.tail) : PosB (incB c) := by
  cases c with
  | nil => simp [incB, PosB]
  | cons k r =>
    intro j hj
    rcases List.mem_cons.1 hj with rfl | hj
    · omega
    · exact h j hj
theorem inc_tail (c : List Nat) : (incB c).tail = c.tail := by cases c <;> rfl

theorem cnt_tail : ∀ (v : Bool) (l : List Bool), PosB (cntB v l).tail
  | _, [] => by simp [cntB, PosB]
  | v, x :: t => by
    rw [cntB]
    split
    · rw [inc_tail]; exact cnt_tail v t
    · exact inc_pos (cnt_tail x t)

theorem flatB_len : ∀ (v : Bool) (c : List Nat), (flatB v c).length = totB c
  | _, [] => rfl
  | v, k :: r => by rw [flatB, totB, List.length_append, List.length_replicate, flatB_len _ r]
theorem tot_cnt (v : Bool) (l : List Bool) : totB (cntB v l) = l.length := by rw [← flatB_len v, flat_cnt]

theorem cnt_rep {v : Bool} {t : List Bool} (h : ∀ t', t ≠ v :: t') : ∀ m : Nat, cntB v (List.replicate (m + 1) v ++ t) = (m + 1) :: cntB (!v) t
  | 0 => by
    rw [List.replicate_succ, List.replicate_zero, List.cons_append, List.nil_append, cntB, if_pos rfl]
    cases t with
    | nil => rfl
    | cons y t' =>
      have hy : y = !v := by
        have := h t'
        cases v <;> cases y <;> simp at this ⊢
      subst hy
      rw [cntB, if_neg (by cases v <;> simp), cntB, if_pos rfl]; rfl
  | m + 1 => by
    rw [List.replicate_succ, List.cons_append, cntB, if_pos rfl, cnt_rep h m]; rfl

/-- The first of the counts may be 0, where something follows. -/
theorem cnt_zero {v : Bool} {y : Bool} {t : List Bool} (h : y ≠ v) : cntB v (y :: t) = 0 :: cntB (!v) (y :: t) := by
  have hy : y = !v := by revert h; cases v <;> cases y <;> simp
  subst hy
  rw [cntB, if_neg h, cntB, if_pos rfl]

theorem bytesB_step {v : Bool} {t : List Bool} (h : ∀ t', t ≠ v :: t') {m : Nat} (hm : 1 ≤ m ∨ t ≠ []) : encB (cntB v (List.replicate m v ++ t)) = putL m ++ encB (cntB (!v) t) := by
  cases m with
  | succ m => rw [cnt_rep h m, encB]
  | zero =>
    cases t with
    | nil => simp at hm
    | cons y t' =>
      have : y ≠ v := fun e => h t' (by rw [e])
      rw [List.replicate_zero, List.nil_append, cnt_zero this, encB]

theorem totB_append : ∀ a b : List Nat, totB (a ++ b) = totB a + totB b
  | [], b => by simp [totB]
  | k :: r, b => by rw [List.cons_append, totB, totB, totB_append r b]; omega
theorem encB_append : ∀ a b : List Nat, encB (a ++ b) = encB a ++ encB b
  | [], b => rfl
  | k :: r, b => by rw [List.cons_append, encB, encB, encB_append r b]; simp
/-- Which truth comes behind so many counts. -/
def turnB (v : Bool) (c : List Nat) : Bool := if c.length % 2 = 0 then v else !v
theorem turn_cons (v : Bool) (k : Nat) (c : List Nat) : turnB v (k :: c) = turnB (!v) c := by
  unfold turnB; rw [List.length_cons]; split <;> split <;> first | omega | simp
theorem turn_snoc (v : Bool) (k : Nat) (c : List Nat) : turnB v (c ++ [k]) = !(turnB v c) := by
  unfold turnB; rw [List.length_append, List.length_singleton]; split <;> split <;> first | omega | simp
theorem flatB_snoc : ∀ (v : Bool) (c : List Nat) (k : Nat), flatB v (c ++ [k]) = flatB v c ++ List.replicate k (turnB v c)
  | v, [], k => by simp [flatB, turnB]
  | v, j :: r, k => by rw [List.cons_append, flatB, flatB, flatB_snoc _ r k, turn_cons]; simp

theorem totB_zero {c : List Nat} (hp : PosB c) (h : totB c = 0) : c = [] := by
  cases c with
  | nil => rfl
  | cons k r =>
    have := hp k (by simp)
    rw [totB] at h
    omega

theorem encB_follow' : ∀ (c c' : List Nat) (s s' : List Nat), PosB c → PosB c' → encB c ++ s = encB c' ++ s' → totB c ≤ totB c' → ∃ q, c' = c ++ q ∧ s = encB q ++ s'
  | [], c', s, s', _, _, h, _ => ⟨c', rfl, by simpa [encB] using h⟩
  | k :: r, [], s, s', hp, _, h, hle => by
    have := hp k (by simp)
    simp [totB] at hle
    omega
  | k :: r, k' :: r', s, s', hp, hp', h, hle => by
    simp only [encB, List.append_assoc] at h
    obtain ⟨rfl, h2⟩ := putL_free k k' _ _ h
    obtain ⟨q, h5, h6⟩ := encB_follow' r r' s s' (fun p hh => hp p (by simp [hh])) (fun p hh => hp' p (by simp [hh])) h2 (by simp [totB] at hle; omega)
    exact ⟨q, by rw [h5]; rfl, h6⟩

theorem encB_follow (c c' : List Nat) (s s' : List Nat) (hp : PosB c.tail) (hp' : PosB c'.tail) (h : encB c ++ s = encB c' ++ s') (hle : totB c ≤ totB c') (hc : c = [] ∨ c' ≠ []) : ∃ q, c' = c ++ q ∧ s = encB q ++ s' := by
  cases c with
  | nil => exact ⟨c', rfl, by simpa [encB] using h⟩
  | cons k r =>
    cases c' with
    | nil => simp at hc
    | cons k' r' =>
      simp only [encB, List.append_assoc] at h
      obtain ⟨rfl, h2⟩ := putL_free k k' _ _ h
      obtain ⟨q, h5, h6⟩ := encB_follow' r r' s s' hp hp' h2 (by simp [totB] at hle; omega)
      exact ⟨q, by rw [h5]; rfl, h6⟩

def TruthsOf (b : List Nat) (n : Nat) (l : List Bool) : Prop := l.length = n ∧ bytesB l <+: b
def TakenB (b : List Nat) (n : Nat) (l : List Bool) (at' e : Nat) : Prop :=
  (TruthsOf b n l ∧ at' = (bytesB l).length ∧ e = 0) ∨ ((∀ l', ¬ TruthsOf b n l') ∧ l = [] ∧ at' = 0 ∧ e = 41)

theorem takenB_any (b : List Nat) (n : Nat) : ∃ l a e, TakenB b n l a e := by
  by_cases h : ∃ l, TruthsOf b n l
  · obtain ⟨l, h⟩ := h
    exact ⟨l, _, 0, .inl ⟨h, rfl, rfl⟩⟩
  · exact ⟨[], 0, 41, .inr ⟨fun l' h' => h ⟨l', h'⟩, rfl, rfl, rfl⟩⟩

theorem cnt_nil {v : Bool} {l : List Bool} : cntB v l = [] ↔ l = [] := by
  constructor
  · intro h
    have := tot_cnt v l
    rw [h] at this
    exact List.eq_nil_of_length_eq_zero this.symm
  · rintro rfl; rfl

theorem TruthsOf.unique {b : List Nat} {n : Nat} {l l' : List Bool} (h : TruthsOf b n l) (h' : TruthsOf b n l') : l = l' := by
  obtain ⟨h1, s, h3⟩ := h
  obtain ⟨h4, s', h6⟩ := h'
  by_cases hl : l = []
  · subst hl
    simp at h1
    exact (List.eq_nil_of_length_eq_zero (by omega)).symm
  · have hl' : l' ≠ [] := by rintro rfl; simp at h4; exact hl (List.eq_nil_of_length_eq_zero (by omega))
    obtain ⟨q, h7, _⟩ := encB_follow (cntB false l) (cntB false l') s s' (cnt_tail _ _) (cnt_tail _ _) (by unfold bytesB at h3 h6; rw [h3, h6]) (by rw [tot_cnt, tot_cnt]; omega) (.inr (by rw [Ne, cnt_nil]; exact hl'))
    have hq : q = [] := by
      apply totB_zero
      · intro k hk
        refine cnt_tail false l' k ?_
        rw [h7]
        cases hc : cntB false l with
        | nil => exact absurd (cnt_nil.1 hc) hl
        | cons j r => simp [hk]
      · have := congrArg totB h7
        rw [totB_append, tot_cnt, tot_cnt] at this
        omega
    rw [hq, List.append_nil] at h7
    rw [← flat_cnt false l, ← flat_cnt false l', h7]

theorem TakenB.of {b : List Nat} {n : Nat} {l l' : List Bool} {a e : Nat} (h : TakenB b n l a e) (h' : TruthsOf b n l') : l = l' ∧ a = (bytesB l').length ∧ e = 0 := by
  rcases h with ⟨h1, h2, h3⟩ | ⟨h1, _⟩
  · have := h1.unique h'
    subst this
    exact ⟨rfl, h2, h3⟩
  · exact absurd h' (h1 l')
theorem TakenB.none_ {b : List Nat} {n : Nat} {l : List Bool} {a e : Nat} (h : TakenB b n l a e) (hno : ∀ l', ¬ TruthsOf b n l') : l = [] ∧ a = 0 ∧ e = 41 := by
  rcases h with ⟨h1, _⟩ | ⟨_, h⟩
  · exact absurd h1 (hno l)
  · exact h

structure ReadB (b : List Nat) (n : Nat) (c : List Nat) (at' : Nat) : Prop where
  pos : PosB c.tail
  bytes : b = encB c ++ b.drop at'
  len : at' = (encB c).length
  tot : totB c ≤ n
  some_ : c = [] ∨ 0 < n

theorem ReadB.start (b : List Nat) (n : Nat) : ReadB b n [] 0 := ⟨by simp [PosB], by simp [encB], rfl, by simp [totB], .inl rfl⟩

theorem ReadB.le {b : List Nat} {n : Nat} {c : List Nat} {a : Nat} (h : ReadB b n c a) : a ≤ b.length := by
  have := congrArg List.length h.bytes
  rw [List.length_append, List.length_drop, ← h.len] at this
  omega

theorem ReadB.zero {b : List Nat} {n : Nat} {c : List Nat} {a : Nat} (h : ReadB b n c a) : a = 0 ↔ c = [] := by
  rw [h.len]
  cases c with
  | nil => simp [encB]
  | cons k r =>
    have := putL_pos k
    rw [encB, List.length_append]
    constructor
    · intro h; omega
    · intro h; cases h

theorem ReadB.goes {b : List Nat} {n : Nat} {c : List Nat} {a : Nat} (h : ReadB b n c a) {l' : List Bool} (h' : TruthsOf b n l') :
    ∃ q s, cntB false l' = c ++ q ∧ b.drop a = encB q ++ s ∧ totB c + totB q = n ∧ (c ≠ [] → PosB q) := by
  obtain ⟨h1, s, h3⟩ := h'
  obtain ⟨q, h4, h5⟩ := encB_follow c (cntB false l') (b.drop a) s h.pos (cnt_tail _ _) (by rw [← h.bytes]; exact h3.symm) (by rw [tot_cnt, h1]; exact h.tot) (by
    rcases h.some_ with hc | hn
    · exact .inl hc
    · right
      rw [Ne, cnt_nil]
      rintro rfl
      simp at h1
      omega)
  refine ⟨q, s, h4, h5, ?_, fun hc k hk => ?_⟩
  · have := congrArg totB h4
    rw [totB_append, tot_cnt] at this
    omega
  · refine cnt_tail false l' k ?_
    rw [h4]
    cases c with
    | nil => exact absurd rfl hc
    | cons j r => simp [hk]

theorem ReadB.next {b : List Nat} {n : Nat} {c : List Nat} {a : Nat} (h : ReadB b n c a) (hlt : totB c < n) {l' : List Bool} (h' : TruthsOf b n l') :
    ∃ k t, totB c + k ≤ n ∧ (a = 0 ∨ 1 ≤ k) ∧ b.drop a = putL k ++ t := by
  obtain ⟨q, s, h1, h2, h3, h4⟩ := h.goes h'
  cases q with
  | nil => simp [totB] at h3; omega
  | cons k r =>
    refine ⟨k, encB r ++ s, by rw [totB] at h3; omega, ?_, by rw [h2, encB]; simp⟩
    by_cases hc : c = []
    · exact .inl (h.zero.2 hc)
    · exact .inr (h4 hc k (by simp))

theorem ReadB.step {b : List Nat} {n : Nat} {c : List Nat} {a k : Nat} (h : ReadB b n c a) (hk : a = 0 ∨ 1 ≤ k) (hn : 0 < n) (hle : totB c + k ≤ n)
    (hb1 : putL k <+: b.drop a) : ReadB b n (c ++ [k]) (a + (putL k).length) := by
  obtain ⟨s, hs⟩ := hb1
  have h1 : b.drop (a + (putL k).length) = s := by rw [← List.drop_drop, ← hs, List.drop_left' rfl]
  refine ⟨?_, ?_, ?_, ?_, .inr hn⟩
  · intro j hj
    cases c with
    | nil => simp at hj
    | cons i r =>
      rw [List.cons_append, List.tail_cons] at hj
      rcases List.mem_append.1 hj with hj | hj
      · exact h.pos j hj
      · simp at hj
        subst hj
        rcases hk with hk | hk
        · exact absurd (h.zero.1 hk) (by simp)
        · exact hk
  · rw [encB_append, h1]
    simp only [encB, List.append_nil, List.append_assoc]
    rw [hs]
    exact h.bytes
  · rw [encB_append, List.length_append, ← h.len]
    simp [encB]
  · rw [totB_append]; simp [totB]; omega

theorem ReadB.done {b : List Nat} {n : Nat} {c : List Nat} {a : Nat} (h : ReadB b n c a) (heq : totB c = n) {l : List Bool} {a' e : Nat} (ht : TakenB b n l a' e) :
    (bytesB (flatB false c) = b.take a → l = flatB false c ∧ a' = a ∧ e = 0) ∧ (bytesB (flatB false c) ≠ b.take a → l = [] ∧ a' = 0 ∧ e = 41) := by
  have htake : b.take a = encB c := by
    have h1 := h.bytes
    have h2 := h.len
    rw [h1, List.take_left' h2.symm]
  constructor
  · intro hh
    have hr : TruthsOf b n (flatB false c) := ⟨by rw [flatB_len]; exact heq, by rw [hh]; exact List.take_prefix _ _⟩
    obtain ⟨h1, h2, h3⟩ := ht.of hr
    exact ⟨h1, by rw [h2, hh, List.length_take]; have := h.le; omega, h3⟩
  · intro hh
    refine ht.none_ fun l' h' => hh ?_
    obtain ⟨q, s, h1, _, h3, h4⟩ := h.goes h'
    have hq : q = [] := by
      by_cases hc : c = []
      · subst hc
        have : l' = [] := List.eq_nil_of_length_eq_zero (by rw [h'.1, ← heq]; rfl)
        subst this
        simpa [cntB] using h1.symm
      · exact totB_zero (h4 hc) (by omega)
    rw [hq, List.append_nil] at h1
    rw [htake, ← h1, flat_cnt]
    rfl
end Go.Proofs.Ytdonbgejnllhlaa
