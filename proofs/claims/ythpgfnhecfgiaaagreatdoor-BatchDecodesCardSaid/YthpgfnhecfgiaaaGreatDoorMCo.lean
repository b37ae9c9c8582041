/-
  Joined: CoNum, CoNum2, CoRuns, CoBools, CoDeltas, CoCut, CoSame.
-/
import Derived.Test.YthpgfnhecfgiaaaGreatDoorMBase
import Derived.Deep.QuietTactic
import Derived.BigQuiet
import Derived.Outline
import Derived.IntWalk
import Derived.Deep.RegionHeld3
namespace Go.Proofs.YthpgfnhecfgiaaaGreatDoor

/-- A number with a sign, as one without (N2). -/
def zigN (x : Int) : Nat := if x < 0 then (-2 * x - 1).toNat else (2 * x).toNat
def zagN (m : Nat) : Int := if m % 2 = 1 then -((m / 2 : Nat) : Int) - 1 else ((m / 2 : Nat) : Int)
def InR (x : Int) : Prop := -9223372036854775808 ≤ x ∧ x ≤ 9223372036854775807

theorem zagN_zigN (x : Int) : zagN (zigN x) = x := by
  unfold zagN zigN; split <;> split <;> omega
theorem zigN_zagN (m : Nat) : zigN (zagN m) = m := by
  unfold zagN zigN; split <;> split <;> omega
theorem zigN_inj {x y : Int} (h : zigN x = zigN y) : x = y := by rw [← zagN_zigN x, ← zagN_zigN y, h]
theorem zigN_lt {x : Int} (h : InR x) : zigN x < 18446744073709551616 := by
  unfold InR at h; unfold zigN; split <;> omega
theorem zagN_in {m : Nat} (h : m < 18446744073709551616) : InR (zagN m) := by
  unfold InR zagN; split <;> omega

def runsL : List Int → List (Nat × Int)
  | [] => []
  | x :: t => match runsL t with
    | [] => [(1, x)]
    | (k, y) :: r => if x = y then (k + 1, y) :: r else (1, x) :: (k, y) :: r

def flatL : List (Nat × Int) → List Int
  | [] => []
  | (k, x) :: r => List.replicate k x ++ flatL r

def total : List (Nat × Int) → Nat
  | [] => 0
  | (k, _) :: r => k + total r

def encR : List (Nat × Int) → List Nat
  | [] => []
  | (k, x) :: r => putL k ++ (putL (zigN x) ++ encR r)

def bytesR (l : List Int) : List Nat := encR (runsL l)
def Pos (rs : List (Nat × Int)) : Prop := ∀ p ∈ rs, 1 ≤ p.1

theorem runs_head (y : Int) (t : List Int) : ∃ k r, runsL (y :: t) = (k, y) :: r ∧ 1 ≤ k := by
  unfold runsL
  split
  · exact ⟨1, [], rfl, by omega⟩
  · rename_i k z r _
    split
    · subst_vars; exact ⟨k + 1, r, rfl, by omega⟩
    · exact ⟨1, _, rfl, by omega⟩

theorem flat_runs : ∀ l : List Int, flatL (runsL l) = l
  | [] => rfl
  | x :: t => by
    have ih := flat_runs t
    unfold runsL
    split
    · rename_i h
      rw [h] at ih
      simp only [flatL] at ih ⊢
      rw [← ih]; rfl
    · rename_i k y r h
      rw [h] at ih
      simp only [flatL] at ih
      split
      · rename_i hxy
        subst hxy
        simp only [flatL, List.replicate_succ, List.cons_append, ih]
      · simp only [flatL, ih]; rfl

theorem pos_runs : ∀ l : List Int, Pos (runsL l)
  | [] => by simp [Pos, runsL]
  | x :: t => by
    have ih := pos_runs t
    unfold runsL
    split
    · simp [Pos]
    · rename_i k y r h
      rw [h] at ih
      unfold Pos at ih ⊢
      split
      · intro p hp
        rcases List.mem_cons.1 hp with rfl | hp
        · simp
        · exact ih p (by simp [hp])
      · intro p hp
        rcases List.mem_cons.1 hp with rfl | hp
        · simp
        · exact ih p hp

theorem runs_one {x : Int} {t : List Int} (h : ∀ y t', t = y :: t' → y ≠ x) : runsL (x :: t) = (1, x) :: runsL t := by
  cases t with
  | nil => rfl
  | cons y t' =>
    obtain ⟨k, r, hr, _⟩ := runs_head y t'
    have := h y t' rfl
    rw [runsL, hr]
    simp only
    rw [if_neg (fun e => this e.symm)]

theorem runs_rep {x : Int} {t : List Int} (h : ∀ y t', t = y :: t' → y ≠ x) : ∀ m : Nat, runsL (List.replicate (m + 1) x ++ t) = (m + 1, x) :: runsL t
  | 0 => runs_one h
  | m + 1 => by
    rw [List.replicate_succ, List.cons_append, runsL, runs_rep h m]
    simp

theorem bytes_rep {x : Int} {t : List Int} (h : ∀ y t', t = y :: t' → y ≠ x) {m : Nat} (hm : 1 ≤ m) : bytesR (List.replicate m x ++ t) = putL m ++ (putL (zigN x) ++ bytesR t) := by
  obtain ⟨k, rfl⟩ : ∃ k, m = k + 1 := ⟨m - 1, by omega⟩
  rw [bytesR, runs_rep h k, encR]; rfl

theorem flat_len : ∀ rs : List (Nat × Int), (flatL rs).length = total rs
  | [] => rfl
  | (k, x) :: r => by rw [flatL, total, List.length_append, List.length_replicate, flat_len r]

theorem total_runs (l : List Int) : total (runsL l) = l.length := by rw [← flat_len, flat_runs]

theorem total_append : ∀ a b : List (Nat × Int), total (a ++ b) = total a + total b
  | [], b => by simp [total]
  | (k, x) :: r, b => by rw [List.cons_append, total, total, total_append r b]; omega
theorem enc_append : ∀ a b : List (Nat × Int), encR (a ++ b) = encR a ++ encR b
  | [], b => rfl
  | (k, x) :: r, b => by rw [List.cons_append, encR, encR, enc_append r b]; simp
theorem flat_append : ∀ a b : List (Nat × Int), flatL (a ++ b) = flatL a ++ flatL b
  | [], b => rfl
  | (k, x) :: r, b => by rw [List.cons_append, flatL, flatL, flat_append r b]; simp

theorem total_zero {rs : List (Nat × Int)} (hp : Pos rs) (h : total rs = 0) : rs = [] := by
  cases rs with
  | nil => rfl
  | cons p r =>
    have := hp p (by simp)
    obtain ⟨k, x⟩ := p
    rw [total] at h
    simp at this
    omega

/-- Two readings of the same bytes: the longer one goes on where the shorter one ends. -/
theorem enc_follow : ∀ (rs rs' : List (Nat × Int)) (s s' : List Nat), Pos rs → Pos rs' → encR rs ++ s = encR rs' ++ s' → total rs ≤ total rs' → ∃ q, rs' = rs ++ q ∧ s = encR q ++ s'
  | [], rs', s, s', _, _, h, _ => ⟨rs', rfl, by simpa [encR] using h⟩
  | (k, x) :: r, [], s, s', hp, _, h, hle => by
    have := hp (k, x) (by simp)
    simp [total] at hle
    simp at this
    omega
  | (k, x) :: r, (k', x') :: r', s, s', hp, hp', h, hle => by
    simp only [encR, List.append_assoc] at h
    obtain ⟨rfl, h2⟩ := putL_free k k' _ _ h
    obtain ⟨h3, h4⟩ := putL_free _ _ _ _ h2
    have := zigN_inj h3
    subst this
    obtain ⟨q, h5, h6⟩ := enc_follow r r' s s' (fun p hh => hp p (by simp [hh])) (fun p hh => hp' p (by simp [hh])) h4 (by simp [total] at hle; omega)
    exact ⟨q, by rw [h5]; rfl, h6⟩

/-- A list whose bytes stand at the beginning of b. -/
def RunsOf (b : List Nat) (n : Nat) (l : List Int) : Prop := l.length = n ∧ (∀ x ∈ l, InR x) ∧ bytesR l <+: b

/-- What the document says of the list that is taken. -/
def TakenR (b : List Nat) (n : Nat) (l : List Int) (at' e : Nat) : Prop :=
  (RunsOf b n l ∧ at' = (bytesR l).length ∧ e = 0) ∨ ((∀ l', ¬ RunsOf b n l') ∧ l = [] ∧ at' = 0 ∧ e = 41)

theorem takenR_any (b : List Nat) (n : Nat) : ∃ l a e, TakenR b n l a e := by
  by_cases h : ∃ l, RunsOf b n l
  · obtain ⟨l, h⟩ := h
    exact ⟨l, _, 0, .inl ⟨h, rfl, rfl⟩⟩
  · exact ⟨[], 0, 41, .inr ⟨fun l' h' => h ⟨l', h'⟩, rfl, rfl, rfl⟩⟩

theorem RunsOf.unique {b : List Nat} {n : Nat} {l l' : List Int} (h : RunsOf b n l) (h' : RunsOf b n l') : l = l' := by
  obtain ⟨h1, _, s, h3⟩ := h
  obtain ⟨h4, _, s', h6⟩ := h'
  obtain ⟨q, h7, _⟩ := enc_follow (runsL l) (runsL l') s s' (pos_runs l) (pos_runs l') (by unfold bytesR at h3 h6; rw [h3, h6]) (by rw [total_runs, total_runs]; omega)
  have hq : q = [] := by
    apply total_zero
    · intro p hp; exact pos_runs l' p (by rw [h7]; simp [hp])
    · have := congrArg total h7
      rw [total_append, total_runs, total_runs] at this
      omega
  rw [hq, List.append_nil] at h7
  rw [← flat_runs l, ← flat_runs l', h7]

theorem TakenR.of {b : List Nat} {n : Nat} {l l' : List Int} {a e : Nat} (h : TakenR b n l a e) (h' : RunsOf b n l') : l = l' ∧ a = (bytesR l').length ∧ e = 0 := by
  rcases h with ⟨h1, h2, h3⟩ | ⟨h1, _⟩
  · have := h1.unique h'
    subst this
    exact ⟨rfl, h2, h3⟩
  · exact absurd h' (h1 l')

theorem TakenR.none_ {b : List Nat} {n : Nat} {l : List Int} {a e : Nat} (h : TakenR b n l a e) (hno : ∀ l', ¬ RunsOf b n l') : l = [] ∧ a = 0 ∧ e = 41 := by
  rcases h with ⟨h1, _⟩ | ⟨_, h⟩
  · exact absurd h1 (hno l)
  · exact h

/-- Read so far: the runs rs, all of them at the beginning of b. -/
structure Read (b : List Nat) (n : Nat) (rs : List (Nat × Int)) (at' : Nat) : Prop where
  pos : Pos rs
  bytes : b = encR rs ++ b.drop at'
  len : at' = (encR rs).length
  tot : total rs ≤ n
  inr : ∀ x ∈ flatL rs, InR x

theorem Read.start (b : List Nat) (n : Nat) : Read b n [] 0 := ⟨by simp [Pos], by simp [encR], rfl, by simp [total], by simp [flatL]⟩

theorem Read.le {b : List Nat} {n : Nat} {rs : List (Nat × Int)} {a : Nat} (h : Read b n rs a) : a ≤ b.length := by
  have := congrArg List.length h.bytes
  rw [List.length_append, List.length_drop, ← h.len] at this
  omega

/-- A list that is there goes on from what was read. -/
theorem Read.goes {b : List Nat} {n : Nat} {rs : List (Nat × Int)} {a : Nat} (h : Read b n rs a) {l' : List Int} (h' : RunsOf b n l') :
    ∃ q s, runsL l' = rs ++ q ∧ b.drop a = encR q ++ s ∧ total rs + total q = n ∧ Pos q := by
  obtain ⟨h1, _, s, h3⟩ := h'
  obtain ⟨q, h4, h5⟩ := enc_follow rs (runsL l') (b.drop a) s h.pos (pos_runs l') (by rw [← h.bytes]; exact h3.symm) (by rw [total_runs, h1]; exact h.tot)
  refine ⟨q, s, h4, h5, ?_, fun p hp => pos_runs l' p (by rw [h4]; simp [hp])⟩
  have := congrArg total h4
  rw [total_append, total_runs] at this
  omega

/-- The next run that a list that is there has. -/
theorem Read.next {b : List Nat} {n : Nat} {rs : List (Nat × Int)} {a : Nat} (h : Read b n rs a) (hlt : total rs < n) {l' : List Int} (h' : RunsOf b n l') :
    ∃ k x t, 1 ≤ k ∧ total rs + k ≤ n ∧ InR x ∧ b.drop a = putL k ++ (putL (zigN x) ++ t) := by
  obtain ⟨q, s, h1, h2, h3, h4⟩ := h.goes h'
  cases q with
  | nil => simp [total] at h3; omega
  | cons p r =>
    obtain ⟨k, x⟩ := p
    have hk : 1 ≤ k := h4 (k, x) (by simp)
    refine ⟨k, x, encR r ++ s, hk, by rw [total] at h3; omega, ?_, by rw [h2, encR]; simp⟩
    have hx : x ∈ l' := by
      rw [← flat_runs l', h1, flat_append, flatL]
      simp
      right; left; omega
    exact h'.2.1 x hx

/-- What is read in a round. -/
theorem Read.step {b : List Nat} {n : Nat} {rs : List (Nat × Int)} {a k v : Nat} (h : Read b n rs a) (hk : 1 ≤ k) (hv : v < 18446744073709551616) (hle : total rs + k ≤ n)
    (hb1 : putL k <+: b.drop a) (hb2 : putL v <+: b.drop (a + (putL k).length)) : Read b n (rs ++ [(k, zagN v)]) (a + (putL k).length + (putL v).length) := by
  obtain ⟨s, hs⟩ := hb1
  obtain ⟨t, ht⟩ := hb2
  have h1 : b.drop (a + (putL k).length) = s := by rw [← List.drop_drop, ← hs, List.drop_left' rfl]
  have h2 : b.drop (a + (putL k).length + (putL v).length) = t := by rw [← List.drop_drop, ← ht, List.drop_left' rfl]
  refine ⟨?_, ?_, ?_, ?_, ?_⟩
  · intro p hp
    rcases List.mem_append.1 hp with hp | hp
    · exact h.pos p hp
    · simp at hp; subst hp; exact hk
  · rw [enc_append, h2]
    simp only [encR, zigN_zagN, List.append_nil, List.append_assoc]
    rw [ht, h1, hs]
    exact h.bytes
  · rw [enc_append, List.length_append, ← h.len]
    simp [encR, zigN_zagN]
    omega
  · rw [total_append]; simp [total]; omega
  · intro x hx
    rw [flat_append] at hx
    rcases List.mem_append.1 hx with hx | hx
    · exact h.inr x hx
    · simp [flatL] at hx
      rw [hx.2]
      exact zagN_in hv

/-- At the end: either what was read is the list, or there is none. -/
theorem Read.done {b : List Nat} {n : Nat} {rs : List (Nat × Int)} {a : Nat} (h : Read b n rs a) (heq : total rs = n) {l : List Int} {a' e : Nat} (ht : TakenR b n l a' e) :
    (bytesR (flatL rs) = b.take a → l = flatL rs ∧ a' = a ∧ e = 0) ∧ (bytesR (flatL rs) ≠ b.take a → l = [] ∧ a' = 0 ∧ e = 41) := by
  have htake : b.take a = encR rs := by
    have h1 := h.bytes
    have h2 := h.len
    rw [h1, List.take_left' h2.symm]
  constructor
  · intro hh
    have hr : RunsOf b n (flatL rs) := ⟨by rw [flat_len]; exact heq, h.inr, by rw [hh]; exact List.take_prefix _ _⟩
    obtain ⟨h1, h2, h3⟩ := ht.of hr
    exact ⟨h1, by rw [h2, hh, List.length_take]; have := h.le; omega, h3⟩
  · intro hh
    refine ht.none_ fun l' h' => hh ?_
    obtain ⟨q, s, h1, _, h3, h4⟩ := h.goes h'
    have hq : q = [] := total_zero h4 (by omega)
    rw [hq, List.append_nil] at h1
    rw [htake, ← h1, flat_runs]
    rfl
end Go.Proofs.YthpgfnhecfgiaaaGreatDoor

namespace Go.Proofs.YthpgfnhecfgiaaaGreatDoor

/-- Modulo 2^64, as a number with a sign. -/
def w64 (x : Int) : Int := (x + 9223372036854775808) % 18446744073709551616 - 9223372036854775808
theorem w64_in (x : Int) : InR (w64 x) := by unfold InR w64; omega
theorem w64_id {x : Int} (h : InR x) : w64 x = x := by unfold InR at h; unfold w64; omega

/-- The differences, p ahead of the first; the sums, p ahead of the first. -/
def deltaL : Int → List Int → List Int
  | _, [] => []
  | p, x :: t => w64 (x - p) :: deltaL x t
def sumL : Int → List Int → List Int
  | _, [] => []
  | p, d :: t => w64 (p + d) :: sumL (w64 (p + d)) t

theorem sum_delta : ∀ (p : Int) (l : List Int), (∀ x ∈ l, InR x) → sumL p (deltaL p l) = l
  | _, [], _ => rfl
  | p, x :: t, h => by
    have hx := h x (by simp)
    have : w64 (p + w64 (x - p)) = x := by unfold InR at hx; unfold w64; omega
    rw [deltaL, sumL, this, sum_delta x t (fun y hy => h y (by simp [hy]))]

theorem delta_sum : ∀ (p : Int) (l : List Int), (∀ x ∈ l, InR x) → deltaL p (sumL p l) = l
  | _, [], _ => rfl
  | p, d :: t, h => by
    have hx := h d (by simp)
    have : w64 (w64 (p + d) - p) = d := by unfold InR at hx; unfold w64; omega
    rw [sumL, deltaL, this, delta_sum _ t (fun y hy => h y (by simp [hy]))]

theorem delta_in : ∀ (p : Int) (l : List Int), ∀ x ∈ deltaL p l, InR x
  | _, [], _, h => by simp [deltaL] at h
  | p, y :: t, x, h => by
    rw [deltaL] at h
    rcases List.mem_cons.1 h with rfl | h
    · exact w64_in _
    · exact delta_in y t x h
theorem sum_in : ∀ (p : Int) (l : List Int), ∀ x ∈ sumL p l, InR x
  | _, [], _, h => by simp [sumL] at h
  | p, y :: t, x, h => by
    rw [sumL] at h
    rcases List.mem_cons.1 h with rfl | h
    · exact w64_in _
    · exact sum_in _ t x h
theorem delta_len : ∀ (p : Int) (l : List Int), (deltaL p l).length = l.length
  | _, [] => rfl
  | p, x :: t => by rw [deltaL, List.length_cons, List.length_cons, delta_len x t]
theorem sum_len : ∀ (p : Int) (l : List Int), (sumL p l).length = l.length
  | _, [] => rfl
  | p, x :: t => by rw [sumL, List.length_cons, List.length_cons, sum_len _ t]

/-- One difference, one sum more. -/
theorem delta_snoc : ∀ (p : Int) (l : List Int) (x : Int), deltaL p (l ++ [x]) = deltaL p l ++ [w64 (x - (l.getLast?.getD p))]
  | p, [], x => rfl
  | p, y :: t, x => by
    rw [List.cons_append, deltaL, deltaL, delta_snoc y t x, List.cons_append]
    cases t <;> simp [List.getLast?_cons]
theorem sum_snoc : ∀ (p : Int) (l : List Int) (x : Int), sumL p (l ++ [x]) = sumL p l ++ [w64 ((sumL p l).getLast?.getD p + x)]
  | p, [], x => rfl
  | p, y :: t, x => by
    rw [List.cons_append, sumL, sumL, sum_snoc _ t x, List.cons_append]
    cases t <;> simp [sumL, List.getLast?_cons]

/-! Truths. -/
def incB : List Nat → List Nat
  | [] => [1]
  | k :: r => (k + 1) :: r
/-- How many are v first, how many are not then, and so on. -/
def cntB : Bool → List Bool → List Nat
  | _, [] => []
  | v, x :: t => if x = v then incB (cntB v t) else 0 :: incB (cntB x t)
def flatB : Bool → List Nat → List Bool
  | _, [] => []
  | v, k :: r => List.replicate k v ++ flatB (!v) r
def totB : List Nat → Nat
  | [] => 0
  | k :: r => k + totB r
def encB : List Nat → List Nat
  | [] => []
  | k :: r => putL k ++ encB r
def bytesB (l : List Bool) : List Nat := encB (cntB false l)
def PosB (c : List Nat) : Prop := ∀ k ∈ c, 1 ≤ k

theorem flat_inc (v : Bool) (c : List Nat) : flatB v (incB c) = v :: flatB v c := by
  cases c <;> simp [incB, flatB, List.replicate_succ]

theorem flat_cnt : ∀ (v : Bool) (l : List Bool), flatB v (cntB v l) = l
  | _, [] => rfl
  | v, x :: t => by
    rw [cntB]
    split
    · rename_i h
      rw [flat_inc, flat_cnt v t, h]
    · rename_i h
      have : (!v) = x := by revert h; cases v <;> cases x <;> simp
      rw [flatB, this, flat_inc, flat_cnt x t]; rfl

theorem inc_pos {c : List Nat} (h : PosB c.tail) : PosB (incB c) := by
  cases c with
  | nil => simp [incB, PosB]
  | cons k r =>
    intro j hj
    rcases List.mem_cons.1 hj with rfl | hj
    · omega
    · exact h j hj
theorem inc_tail (c : List Nat) : (incB c).tail = c.tail := by cases c <;> rfl

theorem cnt_tail : ∀ (v : Bool) (l : List Bool), PosB (cntB v l).tail
  | _, [] => by simp [cntB, PosB]
  | v, x :: t => by
    rw [cntB]
    split
    · rw [inc_tail]; exact cnt_tail v t
    · exact inc_pos (cnt_tail x t)

theorem flatB_len : ∀ (v : Bool) (c : List Nat), (flatB v c).length = totB c
  | _, [] => rfl
  | v, k :: r => by rw [flatB, totB, List.length_append, List.length_replicate, flatB_len _ r]
theorem tot_cnt (v : Bool) (l : List Bool) : totB (cntB v l) = l.length := by rw [← flatB_len v, flat_cnt]

theorem cnt_rep {v : Bool} {t : List Bool} (h : ∀ t', t ≠ v :: t') : ∀ m : Nat, cntB v (List.replicate (m + 1) v ++ t) = (m + 1) :: cntB (!v) t
  | 0 => by
    rw [List.replicate_succ, List.replicate_zero, List.cons_append, List.nil_append, cntB, if_pos rfl]
    cases t with
    | nil => rfl
    | cons y t' =>
      have hy : y = !v := by
        have := h t'
        cases v <;> cases y <;> simp at this ⊢
      subst hy
      rw [cntB, if_neg (by cases v <;> simp), cntB, if_pos rfl]; rfl
  | m + 1 => by
    rw [List.replicate_succ, List.cons_append, cntB, if_pos rfl, cnt_rep h m]; rfl

/-- The first of the counts may be 0, where something follows. -/
theorem cnt_zero {v : Bool} {y : Bool} {t : List Bool} (h : y ≠ v) : cntB v (y :: t) = 0 :: cntB (!v) (y :: t) := by
  have hy : y = !v := by revert h; cases v <;> cases y <;> simp
  subst hy
  rw [cntB, if_neg h, cntB, if_pos rfl]

theorem bytesB_step {v : Bool} {t : List Bool} (h : ∀ t', t ≠ v :: t') {m : Nat} (hm : 1 ≤ m ∨ t ≠ []) : encB (cntB v (List.replicate m v ++ t)) = putL m ++ encB (cntB (!v) t) := by
  cases m with
  | succ m => rw [cnt_rep h m, encB]
  | zero =>
    cases t with
    | nil => simp at hm
    | cons y t' =>
      have : y ≠ v := fun e => h t' (by rw [e])
      rw [List.replicate_zero, List.nil_append, cnt_zero this, encB]

theorem totB_append : ∀ a b : List Nat, totB (a ++ b) = totB a + totB b
  | [], b => by simp [totB]
  | k :: r, b => by rw [List.cons_append, totB, totB, totB_append r b]; omega
theorem encB_append : ∀ a b : List Nat, encB (a ++ b) = encB a ++ encB b
  | [], b => rfl
  | k :: r, b => by rw [List.cons_append, encB, encB, encB_append r b]; simp
/-- Which truth comes behind so many counts. -/
def turnB (v : Bool) (c : List Nat) : Bool := if c.length % 2 = 0 then v else !v
theorem turn_cons (v : Bool) (k : Nat) (c : List Nat) : turnB v (k :: c) = turnB (!v) c := by
  unfold turnB; rw [List.length_cons]; split <;> split <;> first | omega | simp
theorem turn_snoc (v : Bool) (k : Nat) (c : List Nat) : turnB v (c ++ [k]) = !(turnB v c) := by
  unfold turnB; rw [List.length_append, List.length_singleton]; split <;> split <;> first | omega | simp
theorem flatB_snoc : ∀ (v : Bool) (c : List Nat) (k : Nat), flatB v (c ++ [k]) = flatB v c ++ List.replicate k (turnB v c)
  | v, [], k => by simp [flatB, turnB]
  | v, j :: r, k => by rw [List.cons_append, flatB, flatB, flatB_snoc _ r k, turn_cons]; simp

theorem totB_zero {c : List Nat} (hp : PosB c) (h : totB c = 0) : c = [] := by
  cases c with
  | nil => rfl
  | cons k r =>
    have := hp k (by simp)
    rw [totB] at h
    omega

theorem encB_follow' : ∀ (c c' : List Nat) (s s' : List Nat), PosB c → PosB c' → encB c ++ s = encB c' ++ s' → totB c ≤ totB c' → ∃ q, c' = c ++ q ∧ s = encB q ++ s'
  | [], c', s, s', _, _, h, _ => ⟨c', rfl, by simpa [encB] using h⟩
  | k :: r, [], s, s', hp, _, h, hle => by
    have := hp k (by simp)
    simp [totB] at hle
    omega
  | k :: r, k' :: r', s, s', hp, hp', h, hle => by
    simp only [encB, List.append_assoc] at h
    obtain ⟨rfl, h2⟩ := putL_free k k' _ _ h
    obtain ⟨q, h5, h6⟩ := encB_follow' r r' s s' (fun p hh => hp p (by simp [hh])) (fun p hh => hp' p (by simp [hh])) h2 (by simp [totB] at hle; omega)
    exact ⟨q, by rw [h5]; rfl, h6⟩

theorem encB_follow (c c' : List Nat) (s s' : List Nat) (hp : PosB c.tail) (hp' : PosB c'.tail) (h : encB c ++ s = encB c' ++ s') (hle : totB c ≤ totB c') (hc : c = [] ∨ c' ≠ []) : ∃ q, c' = c ++ q ∧ s = encB q ++ s' := by
  cases c with
  | nil => exact ⟨c', rfl, by simpa [encB] using h⟩
  | cons k r =>
    cases c' with
    | nil => simp at hc
    | cons k' r' =>
      simp only [encB, List.append_assoc] at h
      obtain ⟨rfl, h2⟩ := putL_free k k' _ _ h
      obtain ⟨q, h5, h6⟩ := encB_follow' r r' s s' hp hp' h2 (by simp [totB] at hle; omega)
      exact ⟨q, by rw [h5]; rfl, h6⟩

def TruthsOf (b : List Nat) (n : Nat) (l : List Bool) : Prop := l.length = n ∧ bytesB l <+: b
def TakenB (b : List Nat) (n : Nat) (l : List Bool) (at' e : Nat) : Prop :=
  (TruthsOf b n l ∧ at' = (bytesB l).length ∧ e = 0) ∨ ((∀ l', ¬ TruthsOf b n l') ∧ l = [] ∧ at' = 0 ∧ e = 41)

theorem takenB_any (b : List Nat) (n : Nat) : ∃ l a e, TakenB b n l a e := by
  by_cases h : ∃ l, TruthsOf b n l
  · obtain ⟨l, h⟩ := h
    exact ⟨l, _, 0, .inl ⟨h, rfl, rfl⟩⟩
  · exact ⟨[], 0, 41, .inr ⟨fun l' h' => h ⟨l', h'⟩, rfl, rfl, rfl⟩⟩

theorem cnt_nil {v : Bool} {l : List Bool} : cntB v l = [] ↔ l = [] := by
  constructor
  · intro h
    have := tot_cnt v l
    rw [h] at this
    exact List.eq_nil_of_length_eq_zero this.symm
  · rintro rfl; rfl

theorem TruthsOf.unique {b : List Nat} {n : Nat} {l l' : List Bool} (h : TruthsOf b n l) (h' : TruthsOf b n l') : l = l' := by
  obtain ⟨h1, s, h3⟩ := h
  obtain ⟨h4, s', h6⟩ := h'
  by_cases hl : l = []
  · subst hl
    simp at h1
    exact (List.eq_nil_of_length_eq_zero (by omega)).symm
  · have hl' : l' ≠ [] := by rintro rfl; simp at h4; exact hl (List.eq_nil_of_length_eq_zero (by omega))
    obtain ⟨q, h7, _⟩ := encB_follow (cntB false l) (cntB false l') s s' (cnt_tail _ _) (cnt_tail _ _) (by unfold bytesB at h3 h6; rw [h3, h6]) (by rw [tot_cnt, tot_cnt]; omega) (.inr (by rw [Ne, cnt_nil]; exact hl'))
    have hq : q = [] := by
      apply totB_zero
      · intro k hk
        refine cnt_tail false l' k ?_
        rw [h7]
        cases hc : cntB false l with
        | nil => exact absurd (cnt_nil.1 hc) hl
        | cons j r => simp [hk]
      · have := congrArg totB h7
        rw [totB_append, tot_cnt, tot_cnt] at this
        omega
    rw [hq, List.append_nil] at h7
    rw [← flat_cnt false l, ← flat_cnt false l', h7]

theorem TakenB.of {b : List Nat} {n : Nat} {l l' : List Bool} {a e : Nat} (h : TakenB b n l a e) (h' : TruthsOf b n l') : l = l' ∧ a = (bytesB l').length ∧ e = 0 := by
  rcases h with ⟨h1, h2, h3⟩ | ⟨h1, _⟩
  · have := h1.unique h'
    subst this
    exact ⟨rfl, h2, h3⟩
  · exact absurd h' (h1 l')
theorem TakenB.none_ {b : List Nat} {n : Nat} {l : List Bool} {a e : Nat} (h : TakenB b n l a e) (hno : ∀ l', ¬ TruthsOf b n l') : l = [] ∧ a = 0 ∧ e = 41 := by
  rcases h with ⟨h1, _⟩ | ⟨_, h⟩
  · exact absurd h1 (hno l)
  · exact h

structure ReadB (b : List Nat) (n : Nat) (c : List Nat) (at' : Nat) : Prop where
  pos : PosB c.tail
  bytes : b = encB c ++ b.drop at'
  len : at' = (encB c).length
  tot : totB c ≤ n
  some_ : c = [] ∨ 0 < n

theorem ReadB.start (b : List Nat) (n : Nat) : ReadB b n [] 0 := ⟨by simp [PosB], by simp [encB], rfl, by simp [totB], .inl rfl⟩

theorem ReadB.le {b : List Nat} {n : Nat} {c : List Nat} {a : Nat} (h : ReadB b n c a) : a ≤ b.length := by
  have := congrArg List.length h.bytes
  rw [List.length_append, List.length_drop, ← h.len] at this
  omega

theorem ReadB.zero {b : List Nat} {n : Nat} {c : List Nat} {a : Nat} (h : ReadB b n c a) : a = 0 ↔ c = [] := by
  rw [h.len]
  cases c with
  | nil => simp [encB]
  | cons k r =>
    have := putL_pos k
    rw [encB, List.length_append]
    constructor
    · intro h; omega
    · intro h; cases h

theorem ReadB.goes {b : List Nat} {n : Nat} {c : List Nat} {a : Nat} (h : ReadB b n c a) {l' : List Bool} (h' : TruthsOf b n l') :
    ∃ q s, cntB false l' = c ++ q ∧ b.drop a = encB q ++ s ∧ totB c + totB q = n ∧ (c ≠ [] → PosB q) := by
  obtain ⟨h1, s, h3⟩ := h'
  obtain ⟨q, h4, h5⟩ := encB_follow c (cntB false l') (b.drop a) s h.pos (cnt_tail _ _) (by rw [← h.bytes]; exact h3.symm) (by rw [tot_cnt, h1]; exact h.tot) (by
    rcases h.some_ with hc | hn
    · exact .inl hc
    · right
      rw [Ne, cnt_nil]
      rintro rfl
      simp at h1
      omega)
  refine ⟨q, s, h4, h5, ?_, fun hc k hk => ?_⟩
  · have := congrArg totB h4
    rw [totB_append, tot_cnt] at this
    omega
  · refine cnt_tail false l' k ?_
    rw [h4]
    cases c with
    | nil => exact absurd rfl hc
    | cons j r => simp [hk]

theorem ReadB.next {b : List Nat} {n : Nat} {c : List Nat} {a : Nat} (h : ReadB b n c a) (hlt : totB c < n) {l' : List Bool} (h' : TruthsOf b n l') :
    ∃ k t, totB c + k ≤ n ∧ (a = 0 ∨ 1 ≤ k) ∧ b.drop a = putL k ++ t := by
  obtain ⟨q, s, h1, h2, h3, h4⟩ := h.goes h'
  cases q with
  | nil => simp [totB] at h3; omega
  | cons k r =>
    refine ⟨k, encB r ++ s, by rw [totB] at h3; omega, ?_, by rw [h2, encB]; simp⟩
    by_cases hc : c = []
    · exact .inl (h.zero.2 hc)
    · exact .inr (h4 hc k (by simp))

theorem ReadB.step {b : List Nat} {n : Nat} {c : List Nat} {a k : Nat} (h : ReadB b n c a) (hk : a = 0 ∨ 1 ≤ k) (hn : 0 < n) (hle : totB c + k ≤ n)
    (hb1 : putL k <+: b.drop a) : ReadB b n (c ++ [k]) (a + (putL k).length) := by
  obtain ⟨s, hs⟩ := hb1
  have h1 : b.drop (a + (putL k).length) = s := by rw [← List.drop_drop, ← hs, List.drop_left' rfl]
  refine ⟨?_, ?_, ?_, ?_, .inr hn⟩
  · intro j hj
    cases c with
    | nil => simp at hj
    | cons i r =>
      rw [List.cons_append, List.tail_cons] at hj
      rcases List.mem_append.1 hj with hj | hj
      · exact h.pos j hj
      · simp at hj
        subst hj
        rcases hk with hk | hk
        · exact absurd (h.zero.1 hk) (by simp)
        · exact hk
  · rw [encB_append, h1]
    simp only [encB, List.append_nil, List.append_assoc]
    rw [hs]
    exact h.bytes
  · rw [encB_append, List.length_append, ← h.len]
    simp [encB]
  · rw [totB_append]; simp [totB]; omega

theorem ReadB.done {b : List Nat} {n : Nat} {c : List Nat} {a : Nat} (h : ReadB b n c a) (heq : totB c = n) {l : List Bool} {a' e : Nat} (ht : TakenB b n l a' e) :
    (bytesB (flatB false c) = b.take a → l = flatB false c ∧ a' = a ∧ e = 0) ∧ (bytesB (flatB false c) ≠ b.take a → l = [] ∧ a' = 0 ∧ e = 41) := by
  have htake : b.take a = encB c := by
    have h1 := h.bytes
    have h2 := h.len
    rw [h1, List.take_left' h2.symm]
  constructor
  · intro hh
    have hr : TruthsOf b n (flatB false c) := ⟨by rw [flatB_len]; exact heq, by rw [hh]; exact List.take_prefix _ _⟩
    obtain ⟨h1, h2, h3⟩ := ht.of hr
    exact ⟨h1, by rw [h2, hh, List.length_take]; have := h.le; omega, h3⟩
  · intro hh
    refine ht.none_ fun l' h' => hh ?_
    obtain ⟨q, s, h1, _, h3, h4⟩ := h.goes h'
    have hq : q = [] := by
      by_cases hc : c = []
      · subst hc
        have : l' = [] := List.eq_nil_of_length_eq_zero (by rw [h'.1, ← heq]; rfl)
        subst this
        simpa [cntB] using h1.symm
      · exact totB_zero (h4 hc) (by omega)
    rw [hq, List.append_nil] at h1
    rw [htake, ← h1, flat_cnt]
    rfl
end Go.Proofs.YthpgfnhecfgiaaaGreatDoor

namespace Go.Proofs.YthpgfnhecfgiaaaGreatDoor
open Go.RowKit Go.Sort
set_option maxRecDepth 20000

theorem zig_N (x : Int) : zig x = (zigN x : Nat) := by
  unfold zig zigN; split <;> omega
theorem zag_N (m : Nat) : zag (m : Int) = zagN m := by
  unfold zag zagN; split <;> split <;> omega

theorem refZig_N {x : Int} {z : Nat} (h : zigN x = z) (hx : InR x) (w : World) : Calls Tryz.prog 59 #[.int .i64 x] w fun e w' => e = .returned (.int .u64 (z : Nat)) ∧ w = w' := by
  have := refZig_any x hx.1 hx.2 w
  rw [zig_N, h] at this
  exact this
theorem refZag_N {m : Nat} {x : Int} (h : zagN m = x) (hm : m < 18446744073709551616) (w : World) : Calls Tryz.prog 35 #[.int .u64 m] w fun e w' => e = .returned (.int .i64 x) ∧ w = w' := by
  have := refZag_any m (by omega) (by omega) w
  rw [zag_N, h] at this
  exact this

theorem drop_piece : ∀ (m i : Nat) (l : List Int) (x : Int), i + m ≤ l.length → (∀ j, i ≤ j → j < i + m → l.getD j 0 = x) → l.drop i = List.replicate m x ++ l.drop (i + m)
  | 0, i, l, x, _, _ => by simp
  | m + 1, i, l, x, hle, h => by
    have hi : i < l.length := by omega
    rw [List.drop_eq_getElem_cons hi, List.replicate_succ, List.cons_append, drop_piece m (i + 1) l x (by omega) (fun j h1 h2 => h j (by omega) (by omega))]
    have := h i (by omega) (by omega)
    simp only [List.getD, List.getElem?_eq_getElem hi, Option.getD_some] at this
    rw [this, show i + 1 + m = i + (m + 1) by omega]

/-- A run of a list, and what it adds. -/
theorem run_piece {l : List Int} {i k m : Nat} {x : Int} (hk : k = i + m) (hm : 1 ≤ m) (hkl : k ≤ l.length) (hall : ∀ j, i ≤ j → j < k → l.getD j 0 = x) (hend : k = l.length ∨ l.getD k 0 ≠ x) :
    bytesR (l.drop i) = putL m ++ (putL (zigN x) ++ bytesR (l.drop k)) := by
  subst hk
  rw [drop_piece m i l x hkl hall]
  refine bytes_rep ?_ hm
  intro y t' ht
  rcases hend with h | h
  · rw [List.drop_eq_nil_of_le (by omega)] at ht; cases ht
  · have hlt : i + m < l.length := by
      rcases Nat.lt_or_ge (i + m) l.length with h' | h'
      · exact h'
      · rw [List.drop_eq_nil_of_le h'] at ht; cases ht
    rw [List.drop_eq_getElem_cons hlt] at ht
    injection ht with h1 _
    simp only [List.getD, List.getElem?_eq_getElem hlt, Option.getD_some] at h
    rw [← h1]; exact h

/-- What has been put of a list, and how many bytes at most. -/
structure PutSo (l : List Int) (i : Nat) (done : List Nat) : Prop where
  bytes : bytesR l = done ++ bytesR (l.drop i)
  short : done.length ≤ 20 * i

theorem PutSo.start (l : List Int) : PutSo l 0 [] := ⟨rfl, by simp⟩
theorem PutSo.next {l : List Int} {i k m : Nat} {x : Int} {done : List Nat} (h : PutSo l i done) (hk : k = i + m) (hm : 1 ≤ m) (hkl : k ≤ l.length) (hl : l.length ≤ 65536) (hx : InR x) (hall : ∀ j, i ≤ j → j < k → l.getD j 0 = x) (hend : k = l.length ∨ l.getD k 0 ≠ x) :
    PutSo l k (done ++ putL m ++ putL (zigN x)) := by
  refine ⟨by rw [h.bytes, run_piece hk hm hkl hall hend]; simp, ?_⟩
  have h1 := putL_len10 (n := m) (by omega)
  have h2 := putL_len10 (zigN_lt hx)
  have h3 := h.short
  rw [List.length_append, List.length_append]
  omega
theorem PutSo.done {l : List Int} {i : Nat} {done : List Nat} (h : PutSo l i done) (hi : l.length ≤ i) : done = bytesR l := by
  rw [h.bytes, List.drop_eq_nil_of_le hi]; simp [bytesR, runsL, encR]

set_option maxRecDepth 20000 in
set_option maxHeartbeats 2000000 in
theorem refRuns_any (v : Value) (l : List Int) (w : World) (hv : IntsAt w v l) (hr : ∀ x ∈ l, InR x) (hl : l.length ≤ 65536) :
    Calls Tryz.prog 36 #[v] w fun e w' => ∃ v', e = .returned v' ∧ Own w' w.heap.size v' (bytesR l) ∧ Below w.heap.size w w' := by
  have hlv := fun W => hv.len (ty := 3) W
  have hv := Lib.hid hv
  have hr := Lib.hid hr
  go_enter Tryz.func36, Tryz.ntmps36
  go_wp2
  go_loopw [3, 4] (fun o t wr => ∃ (i : Nat) (done : List Nat), t = .int .i64 i ∧ i ≤ l.length ∧ Own wr w.heap.size o done ∧ Hid (PutSo l i done) ∧ Below w.heap.size w wr) (fun _ t _ => l.length - (intOf t).toNat)
  case atStart => exact ⟨0, [], rfl, by omega, own_none _ _, Lib.hid (PutSo.start l), Below.refl _ _⟩
  case round =>
    obtain ⟨i, done, rfl, hi, hown, hso, hbel⟩ := hrel
    rcases Nat.lt_or_ge i l.length with hil | hil
    · obtain ⟨ad, ha, hac, hab⟩ := hv.out.index hil
      obtain ⟨x, hx⟩ : ∃ x, l.getD i 0 = x := ⟨_, rfl⟩
      rw [hx] at hac
      have hx := Lib.hid hx
      go_wp2
      obtain ⟨wo, rfl⟩ : ∃ wo : World, wo = wr := ⟨_, rfl⟩
      go_loopw [5] (fun t wr => ∃ k : Nat, t = .int .i64 k ∧ i ≤ k ∧ k ≤ l.length ∧ Hid (∀ j, i ≤ j → j < k → l.getD j 0 = x) ∧ Below wo.heap.size wo wr) (fun t _ => l.length - (intOf t).toNat)
      case atStart => exact ⟨i, rfl, by omega, by omega, Lib.hid (by omega), Below.refl _ _⟩
      case round =>
        obtain ⟨k, rfl, hik, hk, hall, hbk⟩ := hrel
        have hbelr : Below w.heap.size w wr := then_call hbel hbk
        have hacr : wr.cell? ad = some (.int .i64 x) := (hbelr.cell (p := ad) hab).trans hac
        by_cases hgo : k < l.length ∧ l.getD k 0 = x
        · obtain ⟨hkl, hkx⟩ := hgo
          obtain ⟨bd, hb, hbc, hbb⟩ := hv.out.index hkl
          rw [hkx, ← hbelr.cell (p := bd) hbb] at hbc
          have hall2 : Hid (∀ j, i ≤ j → j < k + 1 → l.getD j 0 = x) := Lib.hid (fun j h1 h2 => by
            rcases Nat.lt_or_ge j k with h | h
            · exact hall.out j h1 h
            · obtain rfl : j = k := by omega
              exact hkx)
          have hkx := Lib.hid hkx
          go_wp2
          go_quiet (fail)
          go_wp2
          go_roundw
          case rel => exact ⟨k + 1, by go_num, by omega, by omega, hall2, below_drewN hbk _⟩
          case measure => simp [intOf]; omega
        · have hik2 : i < k := by
            rcases Nat.lt_or_ge i k with h | h
            · exact h
            · obtain rfl : k = i := by omega
              exact absurd ⟨hil, hx.out⟩ hgo
          obtain ⟨m, hkm⟩ : ∃ m, k = i + m := ⟨k - i, by omega⟩
          have hm1 : 1 ≤ m := by omega
          have hsub : (k : Int) - i = m := by omega
          have hxr : InR x := by
            rw [← hx.out]
            simp only [List.getD, List.getElem?_eq_getElem hil, Option.getD_some]
            exact hr.out _ (List.getElem_mem hil)
          rcases Nat.lt_or_ge k l.length with hkl | hkl
          · obtain ⟨bd, hb, hbc, hbb⟩ := hv.out.index hkl
            obtain ⟨y, hy⟩ : ∃ y, l.getD k 0 = y := ⟨_, rfl⟩
            have hyx : y ≠ x := fun h => hgo ⟨hkl, by rw [hy, h]⟩
            have hend : k = l.length ∨ l.getD k 0 ≠ x := .inr (by rw [hy]; exact hyx)
            rw [hy, ← hbelr.cell (p := bd) hbb] at hbc
            have hqf : (y == x) = false := beq_false_of_ne hyx
            clear hgo hy
            have hnext := Lib.hid (PutSo.next hso.out hkm hm1 hk hl hxr hall.out hend)
            have c1 := hide (fun W => refPut_any m (by omega) W)
            have c2 := hide (fun W => refPut_any (zigN x) (zigN_lt hxr) W)
            have c3 := hide (fun W => refZig_N (x := x) rfl hxr W)
            obtain ⟨z, hz⟩ : ∃ z, zigN x = z := ⟨_, rfl⟩
            rw [hz] at c2 c3 hnext
            have hlens : done.length ≤ 20 * 65536 := by have := hso.out.short; omega
            have hz10 : (putL z).length ≤ 10 := by rw [← hz]; exact putL_len10 (zigN_lt hxr)
            have hm10 : (putL m).length ≤ 10 := putL_len10 (by omega)
            clear hz hxr hend hall hso hkm
            go_wp2
            go_quiet (fail)
            go_wp2_with (first
              | (go_at_call 34; (first | (with_reducible refine (c1.out _).mono ?_; rintro e' w1 ⟨v1, rfl, ho1, hb1⟩; have hbel1 := then_call (below_drewN hbelr _) hb1; have hown1 := ((hown.later hbk).drewN _).later hb1) | (with_reducible refine (c2.out _).mono ?_; rintro e' w3 ⟨v3, rfl, ho3, hb3⟩; have hown3 := hown2.later hb3; have hbel3 := then_call hbel2 hb3)))
              | (go_at_call 59; refine (c3.out _).mono ?_; rintro e' w4 ⟨rfl, rfl⟩)
              | (at_builtin; refine append_bytes rfl (.tmp 28) (.tmp 33) rfl w.heap.size rfl hown1 rfl (putL_bytes ho1) (by omega) hbel1.size ?_; intro v2 w2 hown2 hb2; have hbel2 := hbel1.trans hb2; have hcx2 : w2.cell? ad = some (.int .i64 x) := (hbel2.cell (p := ad) hab).trans hac)
              | (at_builtin; refine append_bytes rfl (.tmp 35) (.tmp 41) rfl w.heap.size rfl hown3 rfl (putL_bytes ho3) (by simp; omega) hbel3.size ?_; intro v5 w5 hown5 hb5; have hbel5 := hbel3.trans hb5))
            go_roundw
            case rel => exact ⟨k, _, by go_num, by omega, hown5, hnext, hbel5⟩
            case measure => simp [intOf]; omega
          · have hend : k = l.length ∨ l.getD k 0 ≠ x := .inl (by omega)
            have hqf : decide (k < l.length) = false := decide_eq_false (by omega)
            clear hgo
            have hnext := Lib.hid (PutSo.next hso.out hkm hm1 hk hl hxr hall.out hend)
            have c1 := hide (fun W => refPut_any m (by omega) W)
            have c2 := hide (fun W => refPut_any (zigN x) (zigN_lt hxr) W)
            have c3 := hide (fun W => refZig_N (x := x) rfl hxr W)
            obtain ⟨z, hz⟩ : ∃ z, zigN x = z := ⟨_, rfl⟩
            rw [hz] at c2 c3 hnext
            have hlens : done.length ≤ 20 * 65536 := by have := hso.out.short; omega
            have hz10 : (putL z).length ≤ 10 := by rw [← hz]; exact putL_len10 (zigN_lt hxr)
            have hm10 : (putL m).length ≤ 10 := putL_len10 (by omega)
            clear hz hxr hend hall hso hkm
            go_wp2
            go_quiet (fail)
            go_wp2_with (first
              | (go_at_call 34; (first | (with_reducible refine (c1.out _).mono ?_; rintro e' w1 ⟨v1, rfl, ho1, hb1⟩; have hbel1 := then_call (below_drewN hbelr _) hb1; have hown1 := ((hown.later hbk).drewN _).later hb1) | (with_reducible refine (c2.out _).mono ?_; rintro e' w3 ⟨v3, rfl, ho3, hb3⟩; have hown3 := hown2.later hb3; have hbel3 := then_call hbel2 hb3)))
              | (go_at_call 59; refine (c3.out _).mono ?_; rintro e' w4 ⟨rfl, rfl⟩)
              | (at_builtin; refine append_bytes rfl (.tmp 28) (.tmp 33) rfl w.heap.size rfl hown1 rfl (putL_bytes ho1) (by omega) hbel1.size ?_; intro v2 w2 hown2 hb2; have hbel2 := hbel1.trans hb2; have hcx2 : w2.cell? ad = some (.int .i64 x) := (hbel2.cell (p := ad) hab).trans hac)
              | (at_builtin; refine append_bytes rfl (.tmp 35) (.tmp 41) rfl w.heap.size rfl hown3 rfl (putL_bytes ho3) (by simp; omega) hbel3.size ?_; intro v5 w5 hown5 hb5; have hbel5 := hbel3.trans hb5))
            go_roundw
            case rel => exact ⟨k, _, by go_num, by omega, hown5, hnext, hbel5⟩
            case measure => simp [intOf]; omega
    · have hd := Lib.hid (hso.out.done hil)
      go_wp2
      go_ret
      exact ⟨_, rfl, by rw [← hd.out]; exact hown, hbel⟩
end Go.Proofs.YthpgfnhecfgiaaaGreatDoor

namespace Go.Proofs.YthpgfnhecfgiaaaGreatDoor
open Go.RowKit Go.Sort
set_option maxRecDepth 20000

theorem drop_pieceB : ∀ (m i : Nat) (l : List Bool) (x : Bool), i + m ≤ l.length → (∀ j, i ≤ j → j < i + m → l.getD j false = x) → l.drop i = List.replicate m x ++ l.drop (i + m)
  | 0, i, l, x, _, _ => by simp
  | m + 1, i, l, x, hle, h => by
    have hi : i < l.length := by omega
    rw [List.drop_eq_getElem_cons hi, List.replicate_succ, List.cons_append, drop_pieceB m (i + 1) l x (by omega) (fun j h1 h2 => h j (by omega) (by omega))]
    have := h i (by omega) (by omega)
    simp only [List.getD, List.getElem?_eq_getElem hi, Option.getD_some] at this
    rw [this, show i + 1 + m = i + (m + 1) by omega]

/-- What has been put of truths, x the one that is counted next. -/
structure PutT (l : List Bool) (i : Nat) (x : Bool) (done : List Nat) : Prop where
  bytes : bytesB l = done ++ encB (cntB x (l.drop i))
  short : done.length ≤ 10 * (i + 1)
  fits : i < l.length → l.getD i false = x ∨ done = []

theorem PutT.start (l : List Bool) : PutT l 0 false [] := ⟨rfl, by simp, fun _ => .inr rfl⟩
theorem PutT.next {l : List Bool} {i k m : Nat} {x : Bool} {done : List Nat} (h : PutT l i x done) (hk : k = i + m) (hil : i < l.length) (hkl : k ≤ l.length) (hl : l.length ≤ 65536) (hall : ∀ j, i ≤ j → j < k → l.getD j false = x) (hend : k = l.length ∨ l.getD k false ≠ x) :
    PutT l k (!x) (done ++ putL m) := by
  have hne : ∀ t', l.drop k ≠ x :: t' := by
    intro t' ht
    rcases hend with h | h
    · rw [List.drop_eq_nil_of_le (by omega)] at ht; cases ht
    · have hlt : k < l.length := by
        rcases Nat.lt_or_ge k l.length with h' | h'
        · exact h'
        · rw [List.drop_eq_nil_of_le h'] at ht; cases ht
      rw [List.drop_eq_getElem_cons hlt] at ht
      injection ht with h1 _
      simp only [List.getD, List.getElem?_eq_getElem hlt, Option.getD_some] at h
      exact h h1
  refine ⟨?_, ?_, fun hkl' => .inl ?_⟩
  · rw [h.bytes, drop_pieceB m i l x (by omega) (fun j h1 h2 => hall j h1 (by omega)), ← hk, bytesB_step hne]
    · simp
    · rcases Nat.eq_zero_or_pos m with h0 | h0
      · right
        intro hn
        have := congrArg List.length hn
        simp at this
        omega
      · exact .inl h0
  · have h1 := putL_len10 (n := m) (by omega)
    have h3 := h.short
    rw [List.length_append]
    rcases Nat.eq_zero_or_pos m with h0 | h0
    · have hik : i = k := by omega
      subst hik
      rcases hend with h' | h'
      · omega
      · rcases h.fits hil with h4 | h4
        · exact absurd h4 h'
        · rw [h4]; simp; omega
    · omega
  · rcases hend with h' | h'
    · omega
    · revert h'; cases l.getD k false <;> cases x <;> simp
theorem PutT.done {l : List Bool} {i : Nat} {x : Bool} {done : List Nat} (h : PutT l i x done) (hi : l.length ≤ i) : done = bytesB l := by
  rw [h.bytes, List.drop_eq_nil_of_le hi]; simp [cntB, encB]

/-- What the outer loop's rounds lower. -/
def boolOf : Value → Bool
  | .bool b => b
  | _ => false
def leftB (l : List Bool) (x : Value) (i : Value) : Nat := 2 * (l.length - (intOf i).toNat) + (if boolOf x = l.getD (intOf i).toNat false then 0 else 1)

theorem leftB_eq (l : List Bool) (y : Bool) (j : Nat) : leftB l (.bool y) (.int .i64 (j : Int)) = 2 * (l.length - j) + (if y = l.getD j false then 0 else 1) := rfl
theorem leftB_less {l : List Bool} {i k m : Nat} {x : Bool} (hk : k = i + m) (hil : i < l.length) (hkl : k ≤ l.length) (hend : k = l.length ∨ l.getD k false ≠ x) :
    leftB l (.bool (!x)) (.int .i64 (k : Int)) < leftB l (.bool x) (.int .i64 (i : Int)) := by
  rw [leftB_eq, leftB_eq]
  rcases Nat.eq_zero_or_pos m with h0 | h0
  · have hki : k = i := by omega
    rcases hend with h' | h'
    · omega
    · rw [hki] at h' ⊢
      rw [if_pos (show (!x) = l.getD i false by revert h'; cases x <;> cases l.getD i false <;> simp), if_neg (fun e => h' e.symm)]
      omega
  · split <;> split <;> omega

set_option maxRecDepth 20000 in
set_option maxHeartbeats 2000000 in
theorem refBools_any (v : Value) (l : List Bool) (w : World) (hv : TruthsAt w v l) (hl : l.length ≤ 65536) :
    Calls Tryz.prog 60 #[v] w fun e w' => ∃ v', e = .returned v' ∧ Own w' w.heap.size v' (bytesB l) ∧ Below w.heap.size w w' := by
  have hlv := fun W => hv.len (ty := 3) W
  have hv := Lib.hid hv
  go_enter Tryz.func60, Tryz.ntmps60
  go_wp2
  go_loopw [3, 4, 5] (fun o b t wr => ∃ (i : Nat) (x : Bool) (done : List Nat), t = .int .i64 i ∧ b = .bool x ∧ i ≤ l.length ∧ Own wr w.heap.size o done ∧ Hid (PutT l i x done) ∧ Below w.heap.size w wr) (fun _ b t _ => leftB l b t)
  case atStart => exact ⟨0, false, [], rfl, rfl, by omega, own_none _ _, Lib.hid (PutT.start l), Below.refl _ _⟩
  case round =>
    obtain ⟨i, x, done, rfl, rfl, hi, hown, hso, hbel⟩ := hrel
    rcases Nat.lt_or_ge i l.length with hil | hil
    · go_wp2
      obtain ⟨wo, rfl⟩ : ∃ wo : World, wo = wr := ⟨_, rfl⟩
      go_loopw [6] (fun t wr => ∃ k : Nat, t = .int .i64 k ∧ i ≤ k ∧ k ≤ l.length ∧ Hid (∀ j, i ≤ j → j < k → l.getD j false = x) ∧ Below wo.heap.size wo wr) (fun t _ => l.length - (intOf t).toNat)
      case atStart => exact ⟨i, rfl, by omega, by omega, Lib.hid (by omega), Below.refl _ _⟩
      case round =>
        obtain ⟨k, rfl, hik, hk, hall, hbk⟩ := hrel
        have hbelr : Below w.heap.size w wr := then_call hbel hbk
        by_cases hgo : k < l.length ∧ l.getD k false = x
        · obtain ⟨hkl, hkx⟩ := hgo
          obtain ⟨bd, hb, hbc, hbb⟩ := hv.out.index hkl
          rw [hkx, ← hbelr.cell (p := bd) hbb] at hbc
          have hall2 : Hid (∀ j, i ≤ j → j < k + 1 → l.getD j false = x) := Lib.hid (fun j h1 h2 => by
            rcases Nat.lt_or_ge j k with h | h
            · exact hall.out j h1 h
            · obtain rfl : j = k := by omega
              exact hkx)
          have hkx := Lib.hid hkx
          have hq : (x == x) = true := by simp
          go_wp2
          go_roundw
          case rel => exact ⟨k + 1, by go_num, by omega, by omega, hall2, hbk⟩
          case measure => simp [intOf]; omega
        · obtain ⟨m, hkm⟩ : ∃ m, k = i + m := ⟨k - i, by omega⟩
          have hmb : m ≤ 65536 := by omega
          have hsub : (k : Int) - i = m := by omega
          have hend : k = l.length ∨ l.getD k false ≠ x := by
            by_cases h : k < l.length
            · exact .inr (fun h' => hgo ⟨h, h'⟩)
            · exact .inl (by omega)
          have hnext := PutT.next hso.out hkm hil hk hl hall.out hend
          have hless := leftB_less hkm hil hk hend
          have hless := Lib.hid hless
          have hnext := Lib.hid hnext
          have c1 := hide (fun W => refPut_any m (by omega) W)
          have hlens : done.length ≤ 655370 := by have := hso.out.short; omega
          have hm10 : (putL m).length ≤ 10 := putL_len10 (by omega)
          clear hkm
          have HW : (k < l.length ∧ ∃ bd, (∀ W, (Instr.indexAt 84 v (.int .i64 (k : Int))).run Tryz.prog W = .ok (.pointer (some bd)) W) ∧ wr.cell? bd = some (.bool (!x))) ∨ decide (k < l.length) = false := by
            by_cases hkl : k < l.length
            · obtain ⟨bd, hb, hbc, hbb⟩ := hv.out.index hkl
              refine .inl ⟨hkl, bd, hb, ?_⟩
              rw [hbelr.cell (p := bd) hbb, hbc]
              have : l.getD k false = !x := by
                rcases hend with h' | h'
                · omega
                · revert h'; cases x <;> cases l.getD k false <;> simp
              rw [this]
            · exact .inr (decide_eq_false hkl)
          clear hgo hend
          have hqn : ((!x) == x) = false := by cases x <;> rfl
          rcases HW with ⟨hkl, bd, hb, hbc⟩ | hqf
          all_goals
            go_wp2_with (first
              | (go_at_call 34; refine (c1.out _).mono ?_; rintro e' w1 ⟨v1, rfl, ho1, hb1⟩; have hbel1 := then_call hbelr hb1; have hown1 := (hown.later hbk).later hb1)
              | (at_builtin; refine append_bytes rfl (.tmp 26) (.tmp 31) rfl w.heap.size rfl hown1 rfl (putL_bytes ho1) (by omega) hbel1.size ?_; intro v2 w2 hown2 hb2; have hbel2 := hbel1.trans hb2))
            go_roundw
            case rel => exact ⟨k, _, _, by go_num, rfl, by omega, hown2, hnext, hbel2⟩
            case measure => exact hless.out
    · have hd := Lib.hid (hso.out.done hil)
      go_wp2
      go_ret
      exact ⟨_, rfl, by rw [← hd.out]; exact hown, hbel⟩
end Go.Proofs.YthpgfnhecfgiaaaGreatDoor

namespace Go.Proofs.YthpgfnhecfgiaaaGreatDoor
open Go.RowKit Go.Sort
set_option maxRecDepth 20000

def DeltaSo (l : List Int) (i : Nat) (d : List Int) : Prop := d = deltaL 0 (l.take i)

theorem delta_first {l : List Int} {x : Int} (hl : 0 < l.length) (hx : l.getD 0 0 = x) (hr : InR x) {d : List Int} (h : DeltaSo l 0 d) : DeltaSo l 1 (d ++ [x]) := by
  unfold DeltaSo at *
  subst h
  cases l with
  | nil => simp at hl
  | cons y t =>
    simp at hx
    subst hx
    simp [deltaL, w64_id hr]

theorem delta_next {l : List Int} {i : Nat} {x y : Int} (hi : 0 < i) (hl : i < l.length) (hx : l.getD i 0 = x) (hy : l.getD (i - 1) 0 = y) {d : List Int} (h : DeltaSo l i d) : DeltaSo l (i + 1) (d ++ [w64 (x - y)]) := by
  unfold DeltaSo at *
  subst h
  have e : l.take (i + 1) = l.take i ++ [x] := by
    rw [List.take_add_one, List.getElem?_eq_getElem hl]
    simp only [List.getD, List.getElem?_eq_getElem hl, Option.getD_some] at hx
    simp [hx]
  rw [e, delta_snoc]
  have : (l.take i).getLast?.getD 0 = y := by
    rw [List.getLast?_eq_getElem?, List.length_take, Nat.min_eq_left (by omega), List.getElem?_take, if_pos (by omega)]
    exact hy
  rw [this]

/-- The difference, as the code reckons it. -/
theorem sub_wrap (a b : Int) : IntKind.i64.wrap (IntKind.u64.wrap (IntKind.u64.wrap a - IntKind.u64.wrap b)) = w64 (a - b) := by
  rw [IntKind.wrap_i64, IntKind.wrap_u64, IntKind.wrap_u64, IntKind.wrap_u64]
  unfold w64
  omega

set_option maxRecDepth 20000 in
set_option maxHeartbeats 2000000 in
theorem refDeltas_any (v : Value) (l : List Int) (w : World) (hv : IntsAt w v l) (hr : ∀ x ∈ l, InR x) (hl : l.length ≤ 65536) :
    Calls Tryz.prog 68 #[v] w fun e w' => ∃ v', e = .returned v' ∧ Own w' w.heap.size v' (bytesR (deltaL 0 l)) ∧ Below w.heap.size w w' := by
  have hlv := fun W => hv.len (ty := 3) W
  have hv := Lib.hid hv
  have hr := Lib.hid hr
  go_enter Tryz.func68, Tryz.ntmps68
  go_wp2
  go_loopw [3, 4] (fun o t wr => ∃ (i : Nat) (d : List Int), t = .int .i64 i ∧ i ≤ l.length ∧ OwnRow wr w.heap.size 3 o (ints d) ∧ Hid (DeltaSo l i d) ∧ d.length = i ∧ Below w.heap.size w wr) (fun _ t _ => l.length - (intOf t).toNat)
  case atStart => exact ⟨0, [], rfl, by omega, OwnRow.none_ _ _ _, Lib.hid (by simp [DeltaSo, deltaL]), rfl, Below.refl _ _⟩
  case round =>
    obtain ⟨i, d, rfl, hi, hown, hso, hdl, hbel⟩ := hrel
    rcases Nat.lt_or_ge i l.length with hil | hil
    · obtain ⟨ad, ha, hac, hab⟩ := hv.out.index hil
      obtain ⟨x, hx⟩ : ∃ x, l.getD i 0 = x := ⟨_, rfl⟩
      have hacw : w.cell? ad = some (.int .i64 x) := by rw [hac, hx]
      rw [hx, ← hbel.cell (p := ad) hab] at hac
      have hxr : InR x := by
        rw [← hx]
        simp only [List.getD, List.getElem?_eq_getElem hil, Option.getD_some]
        exact hr.out _ (List.getElem_mem hil)
      have hdi := Lib.hid hdl
      have hd65 : (ints d).length ≤ 65536 := by rw [ints_len]; omega
      clear hdl
      rcases Nat.eq_zero_or_pos i with h0 | h0
      · have hnext : Hid (DeltaSo l (i + 1) (d ++ [x])) := Lib.hid (by
          have h1 := hso.out
          rw [h0] at h1 hil hx ⊢
          exact delta_first hil hx hxr h1)
        have hq : decide ((i : Int) = 0) = true := decide_eq_true (by omega)
        have hq2 : ((i : Int) == 0) = true := by simp [h0]
        have ha0 : ∀ W, (Instr.indexAt 55 v (.int .i64 0)).run Tryz.prog W = .ok (.pointer (some ad)) W := by
          have h1 := ha
          rw [h0] at h1
          exact h1
        have h0 := Lib.hid h0
        clear hx hso
        go_wp2_with (at_builtin; refine append_row elemI rfl (.tmp 13) (.tmp 18) rfl w.heap.size rfl (hown.alloc _) rfl (row_box wr _ _) (by intro u hu; simp at hu; subst hu; rfl) (by simp; omega) (by have := hbel.size; simp; omega) ?_; intro v2 w2 hown2 hb2; have hbel2 : Below w.heap.size w w2 := (then_box hbel _).trans hb2)
        go_roundw
        case rel => exact ⟨i + 1, d ++ [x], by go_num, by omega, by rw [ints_app]; exact hown2, hnext, by simp [hdi.out], hbel2⟩
        case measure => simp [intOf]; omega
      · obtain ⟨bd, hb, hbc, hbb⟩ := hv.out.index (k := i - 1) (by omega)
        obtain ⟨y, hy⟩ : ∃ y, l.getD (i - 1) 0 = y := ⟨_, rfl⟩
        have hbcw : w.cell? bd = some (.int .i64 y) := by rw [hbc, hy]
        rw [hy, ← hbel.cell (p := bd) hbb] at hbc
        have hnext := Lib.hid (delta_next h0 hil hx hy hso.out)
        clear hx hy hso
        have hi1 : (i : Int) - 1 = ((i - 1 : Nat) : Int) := by omega
        have hne : decide ((i : Int) = 0) = false := decide_eq_false (by omega)
        have hw : IntKind.i64.wrap ((i - 1 : Nat) : Int) = ((i - 1 : Nat) : Int) := IntWalk.i64_in _ (by omega)
        have hsw := sub_wrap x y
        have habr : ad.block < wr.heap.size := Nat.lt_of_lt_of_le hab hbel.size
        have hbbr : bd.block < wr.heap.size := Nat.lt_of_lt_of_le hbb hbel.size
        go_wp2
        go_region_held3 (fun w' => w'.cell? ad = some (.int .i64 x) ∧ w'.cell? bd = some (.int .i64 y)) (go_keep) ((refine step_append_row elemI (by rfl) (.tmp 20) (.tmp 34) (by rfl) w.heap.size (by rfl) ((hown.alloc _).drew) (by rfl) (row_box wr _ _).drew (by intro u hu; simp at hu; subst hu; rfl) (by simp; omega) (by have := hbel.size; simp; omega) ?_; intro v2 w2 hown2 hb2; have hbel2 : Below w.heap.size w w2 := ((then_box hbel _).drew).trans hb2; have hA2 : w2.cell? ad = some (.int .i64 x) := (hbel2.cell (p := ad) hab).trans hacw; have hB2 : w2.cell? bd = some (.int .i64 y) := (hbel2.cell (p := bd) hbb).trans hbcw))
        go_wp2
        go_roundw
        case rel => exact ⟨i + 1, d ++ [w64 (x - y)], by go_num, by omega, by rw [ints_app]; exact hown2, hnext, by simp [hdi.out], hbel2⟩
        case measure => simp [intOf]; omega
    · have hd : Hid (d = deltaL 0 l) := Lib.hid (by have := hso.out; unfold DeltaSo at this; rwa [List.take_of_length_le hil] at this)
      go_wp2_with (go_at_call 36; refine (refRuns_any _ d _ hown.row (by rw [hd.out]; exact delta_in 0 l) (by omega)).mono ?_; rintro e' w2 ⟨v2, rfl, ho2, hb2⟩)
      go_ret
      exact ⟨_, rfl, by rw [← hd.out]; exact ho2.lower hbel.size, then_call hbel hb2⟩
end Go.Proofs.YthpgfnhecfgiaaaGreatDoor

namespace Go.Proofs.YthpgfnhecfgiaaaGreatDoor
open Go.RowKit Go.Sort
set_option maxRecDepth 20000

theorem Taken.ways {l : List Nat} {n k e : Nat} (h : Taken l n k e) : (n < 18446744073709551616 ∧ putL n <+: l ∧ k = (putL n).length ∧ e = 0) ∨ e = 31 := by
  rcases h with h | ⟨_, _, _, h⟩
  · exact .inl h
  · exact .inr h

/-- No list is there, where no run is. -/
theorem Read.stops {b : List Nat} {n : Nat} {rs : List (Nat × Int)} {a : Nat} (h : Read b n rs a) (hlt : total rs < n) (hn : n ≤ 65536) {k i e v j f : Nat} (h1 : Taken (b.drop a) k i e) (h2 : Taken (b.drop (a + i)) v j f)
    (hbad : e = 31 ∨ (e = 0 ∧ f = 31) ∨ (e = 0 ∧ f = 0 ∧ n < total rs + k) ∨ (e = 0 ∧ f = 0 ∧ k = 0)) : ∀ l', ¬ RunsOf b n l' := by
  intro l' hl'
  obtain ⟨k', x, t, hk1, hk2, hx, hb⟩ := h.next hlt hl'
  obtain ⟨h3, h4, h5⟩ := h1.of (m := k') (by omega) ⟨_, hb.symm⟩
  have hd : b.drop (a + i) = putL (zigN x) ++ t := by rw [h4, ← List.drop_drop, hb, List.drop_left' rfl]
  obtain ⟨h6, h7, h8⟩ := h2.of (zigN_lt hx) ⟨_, hd.symm⟩
  rcases hbad with h | ⟨_, h⟩ | ⟨_, _, h⟩ | ⟨_, _, h⟩ <;> omega

theorem flat_snoc (rs : List (Nat × Int)) (k : Nat) (x : Int) : flatL (rs ++ [(k, x)]) = flatL rs ++ List.replicate k x := by
  rw [flat_append]; simp [flatL]
end Go.Proofs.YthpgfnhecfgiaaaGreatDoor

namespace Go.Proofs.YthpgfnhecfgiaaaGreatDoor
open Go.RowKit Go.Sort
set_option maxRecDepth 20000

theorem differ_at {α : Type} [DecidableEq α] {l m : List α} {d : α} {k : Nat} (h : l.getD k d ≠ m.getD k d) : decide (l = m) = false := by
  apply decide_eq_false
  rintro rfl
  exact h rfl

theorem same_upto {α : Type} [DecidableEq α] {l m : List α} {d : α} (hl : l.length = m.length) (h : ∀ j, j < l.length → l.getD j d = m.getD j d) : decide (l = m) = true := by
  apply decide_eq_true
  apply List.ext_getElem hl
  intro j h1 h2
  have := h j h1
  simpa [List.getD, List.getElem?_eq_getElem h1, List.getElem?_eq_getElem h2] using this

end Go.Proofs.YthpgfnhecfgiaaaGreatDoor
