/-
  A number's bytes, as the document says them, in plain words: figures to the base 128, the lowest one first, each but the last one with 128 added. No model in here.
-/
namespace Go.Proofs.Ytdonbgejnllhlaa

def putL (n : Nat) : List Nat := if n < 128 then [n] else (n % 128 + 128) :: putL (n / 128)
termination_by n

theorem putL_lt {n : Nat} (h : n < 128) : putL n = [n] := by rw [putL, if_pos h]
theorem putL_ge {n : Nat} (h : 128 ≤ n) : putL n = (n % 128 + 128) :: putL (n / 128) := by rw [putL, if_neg (by omega)]

def val : List Nat → Nat
  | [] => 0
  | b :: t => b % 128 + 128 * val t

theorem val_snoc : ∀ (l : List Nat) (b : Nat), val (l ++ [b]) = val l + 128 ^ l.length * (b % 128)
  | [], b => by simp [val]
  | a :: l, b => by
    rw [List.cons_append, val, val, val_snoc l b, List.length_cons, Nat.pow_succ, Nat.mul_add, Nat.mul_comm (128 ^ l.length) 128, Nat.mul_assoc]
    omega

theorem val_putL (n : Nat) : val (putL n) = n := by
  induction n using Nat.strongRecOn with
  | _ n ih =>
    by_cases h : n < 128
    · rw [putL_lt h]; simp [val]; omega
    · rw [putL_ge (by omega), val, ih (n / 128) (by omega)]; omega

theorem putL_inj {n m : Nat} (h : putL n = putL m) : n = m := by rw [← val_putL n, ← val_putL m, h]

/-- All bytes but the last one are 128 or more, the last one is less, and a 0 only where it is alone. -/
theorem putL_form (n : Nat) : ∃ f b, putL n = f ++ [b] ∧ (∀ x ∈ f, 128 ≤ x ∧ x < 256) ∧ b < 128 ∧ (f = [] ∨ 0 < b) := by
  induction n using Nat.strongRecOn with
  | _ n ih =>
    by_cases h : n < 128
    · exact ⟨[], n, by rw [putL_lt h]; rfl, by simp, h, .inl rfl⟩
    · obtain ⟨f, b, he, hf, hb, h0⟩ := ih (n / 128) (by omega)
      refine ⟨(n % 128 + 128) :: f, b, by rw [putL_ge (by omega), he]; rfl, ?_, hb, .inr ?_⟩
      · intro x hx
        rcases List.mem_cons.1 hx with rfl | hx
        · omega
        · exact hf x hx
      · rcases h0 with rfl | h0
        · have h1 : putL (n / 128) = [b] := by simpa using he
          have h2 := val_putL (n / 128)
          rw [h1] at h2
          simp only [val] at h2
          omega
        · exact h0

theorem putL_val : ∀ (f : List Nat) (b : Nat), (∀ x ∈ f, 128 ≤ x ∧ x < 256) → b < 128 → (f = [] ∨ 0 < b) → putL (val (f ++ [b])) = f ++ [b]
  | [], b, _, hb, _ => by
    have h : val ([] ++ [b]) = b := by simp [val]; omega
    rw [h, putL_lt hb]; rfl
  | x :: f, b, hf, hb, h0 => by
    have hx := hf x (by simp)
    have hp : 0 < b := by rcases h0 with h | h; · cases h
                          · exact h
    have hv : 0 < val (f ++ [b]) := by
      rw [val_snoc, Nat.mod_eq_of_lt hb]
      have := Nat.mul_pos (Nat.pow_pos (n := f.length) (show 0 < 128 by omega)) hp
      omega
    have ih := putL_val f b (fun y hy => hf y (by simp [hy])) hb (.inr hp)
    rw [List.cons_append, val, putL_ge (by omega)]
    have h1 : (x % 128 + 128 * val (f ++ [b])) % 128 + 128 = x := by omega
    have h2 : (x % 128 + 128 * val (f ++ [b])) / 128 = val (f ++ [b]) := by omega
    rw [h1, h2, ih]

/-- No two numbers have one's bytes at the beginning of the other's. -/
theorem putL_free (n : Nat) : ∀ (m : Nat) (x y : List Nat), putL n ++ x = putL m ++ y → n = m ∧ x = y := by
  induction n using Nat.strongRecOn with
  | _ n ih =>
    intro m x y h
    by_cases hn : n < 128 <;> by_cases hm : m < 128
    · rw [putL_lt hn, putL_lt hm] at h; simpa using h
    · rw [putL_lt hn, putL_ge (by omega)] at h; simp at h; omega
    · rw [putL_ge (by omega), putL_lt hm] at h; simp at h; omega
    · rw [putL_ge (by omega), putL_ge (show 128 ≤ m by omega), List.cons_append, List.cons_append] at h
      injection h with h1 h2
      obtain ⟨h3, h4⟩ := ih (n / 128) (by omega) _ _ _ h2
      exact ⟨by omega, h4⟩

theorem putL_pos (n : Nat) : 1 ≤ (putL n).length := by
  obtain ⟨f, b, he, _⟩ := putL_form n
  rw [he]; simp

theorem putL_len : ∀ (k n : Nat), n < 128 ^ (k + 1) → (putL n).length ≤ k + 1
  | 0, n, h => by rw [putL_lt (by simpa using h)]; simp
  | k + 1, n, h => by
    by_cases hn : n < 128
    · rw [putL_lt hn]; simp
    · rw [putL_ge (by omega), List.length_cons]
      have := putL_len k (n / 128) (by rw [Nat.div_lt_iff_lt_mul (by omega), ← Nat.pow_succ]; exact h)
      omega

theorem putL_len10 {n : Nat} (h : n < 18446744073709551616) : (putL n).length ≤ 10 := putL_len 9 n (Nat.lt_of_lt_of_le h (by decide))

theorem putL_mono (n : Nat) : ∀ m, n ≤ m → (putL n).length ≤ (putL m).length := by
  induction n using Nat.strongRecOn with
  | _ n ih =>
    intro m h
    by_cases hn : n < 128
    · rw [putL_lt hn]; exact putL_pos m
    · rw [putL_ge (by omega), putL_ge (show 128 ≤ m by omega), List.length_cons, List.length_cons]
      have := ih (n / 128) (by omega) (m / 128) (by omega)
      omega

theorem putL_byte (n : Nat) : ∀ x ∈ putL n, x < 256 := by
  intro x hx
  obtain ⟨f, b, he, hf, hb, _⟩ := putL_form n
  rw [he] at hx
  rcases List.mem_append.1 hx with h | h
  · exact (hf x h).2
  · simp at h; omega

/-- A number's bytes at the beginning of others: where the last one stands, and what it is. -/
theorem putL_at {m : Nat} {l : List Nat} (h : putL m <+: l) : ∃ j, j < l.length ∧ (putL m).length = j + 1 ∧ putL m = l.take (j + 1) ∧ l.getD j 0 < 128 ∧ (∀ i, i < j → 128 ≤ l.getD i 0) ∧ (j = 0 ∨ 0 < l.getD j 0) ∧
    (m < 18446744073709551616 → j ≤ 9 ∧ (j = 9 → l.getD j 0 ≤ 1)) := by
  obtain ⟨f, b, he, hf, hb, h0⟩ := putL_form m
  obtain ⟨t, rfl⟩ := h
  have hlen : (putL m).length = f.length + 1 := by rw [he]; simp
  have hg : (putL m ++ t).getD f.length 0 = b := by rw [he]; simp [List.getD]
  refine ⟨f.length, by simp [hlen]; omega, hlen, by rw [← hlen]; simp, by rw [hg]; exact hb, ?_, ?_, ?_⟩
  · intro i hi
    have : (putL m ++ t).getD i 0 = f[i] := by rw [he]; simp [List.getD, List.getElem?_append_left, hi]
    rw [this]
    exact (hf _ (List.getElem_mem hi)).1
  · rw [hg]
    rcases h0 with h | h
    · left; simp [h]
    · exact .inr h
  · intro hm
    have h10 := putL_len10 hm
    refine ⟨by omega, fun h9 => ?_⟩
    rw [hg]
    have hv := val_putL m
    rw [he, val_snoc, h9, Nat.mod_eq_of_lt hb] at hv
    have : (128 : Nat) ^ 9 = 9223372036854775808 := by decide
    rw [this] at hv
    omega

/-- What the document says of the number that is taken from bytes: which it is, of how many bytes, and which error. -/
def Taken (l : List Nat) (n k e : Nat) : Prop :=
  (n < 18446744073709551616 ∧ putL n <+: l ∧ k = (putL n).length ∧ e = 0) ∨ ((∀ m, m < 18446744073709551616 → ¬ putL m <+: l) ∧ n = 0 ∧ k = 0 ∧ e = 31)

theorem taken_any (l : List Nat) : ∃ n k e, Taken l n k e := by
  by_cases h : ∃ n, n < 18446744073709551616 ∧ putL n <+: l
  · obtain ⟨n, h1, h2⟩ := h
    exact ⟨n, _, 0, .inl ⟨h1, h2, rfl, rfl⟩⟩
  · exact ⟨0, 0, 31, .inr ⟨fun m h1 h2 => h ⟨m, h1, h2⟩, rfl, rfl, rfl⟩⟩

theorem Taken.bounds {l : List Nat} {n k e : Nat} (h : Taken l n k e) : n < 18446744073709551616 ∧ k ≤ 10 ∧ k ≤ l.length ∧ e ≤ 31 := by
  rcases h with ⟨h1, h2, rfl, rfl⟩ | ⟨_, rfl, rfl, rfl⟩
  · exact ⟨h1, putL_len10 h1, h2.length_le, by omega⟩
  · omega

theorem Taken.of {l : List Nat} {n k e m : Nat} (h : Taken l n k e) (hm : m < 18446744073709551616) (hp : putL m <+: l) : n = m ∧ k = (putL m).length ∧ e = 0 := by
  rcases h with ⟨h1, h2, h3, h4⟩ | ⟨h1, _⟩
  · obtain ⟨t, ht⟩ := hp
    obtain ⟨s, hs⟩ := h2
    obtain ⟨rfl, _⟩ := putL_free n m s t (by rw [hs, ht])
    exact ⟨rfl, h3, h4⟩
  · exact absurd hp (h1 m hm)

theorem Taken.none_ {l : List Nat} {n k e : Nat} (h : Taken l n k e) (hno : ∀ m, m < 18446744073709551616 → ¬ putL m <+: l) : n = 0 ∧ k = 0 ∧ e = 31 := by
  rcases h with ⟨h1, h2, _⟩ | ⟨_, h⟩
  · exact absurd h2 (hno n h1)
  · exact h

theorem val_take {l : List Nat} {i : Nat} (hi : i < l.length) : val (l.take (i + 1)) = val (l.take i) + 128 ^ i * (l.getD i 0 % 128) := by
  rw [List.take_add_one, List.getElem?_eq_getElem hi, Option.toList_some, val_snoc, List.length_take, Nat.min_eq_left (by omega)]
  simp [List.getD, List.getElem?_eq_getElem hi]

theorem val_take_mod {l : List Nat} {i : Nat} (hi : i < l.length) :
    (val (l.take i) % 18446744073709551616 + (l.getD i 0 % 128) * 2 ^ (7 * i) % 18446744073709551616) % 18446744073709551616 = val (l.take (i + 1)) % 18446744073709551616 := by
  rw [val_take hi, Nat.pow_mul, Nat.mul_comm, ← Nat.add_mod]

theorem val_lt : ∀ l : List Nat, val l < 128 ^ l.length
  | [] => by simp [val]
  | b :: t => by
    have := val_lt t
    rw [val, List.length_cons, Nat.pow_succ]
    omega

theorem taken_yes {l : List Nat} {n k e i : Nat} (ht : Taken l n k e) (hi : i < l.length) (h10 : i < 10) (hby : ∀ x ∈ l, x < 256) (hge : ∀ j, j < i → 128 ≤ l.getD j 0) (hlt : l.getD i 0 < 128)
    (h9 : i = 9 → l.getD i 0 = 1) (h0 : i = 0 ∨ 0 < l.getD i 0) : n = val (l.take (i + 1)) % 18446744073709551616 ∧ k = i + 1 ∧ e = 0 ∧ putL (val (l.take (i + 1)) % 18446744073709551616) = l.take (i + 1) := by
  have hsp : l.take (i + 1) = l.take i ++ [l.getD i 0] := by
    rw [List.take_add_one, List.getElem?_eq_getElem hi]; simp [List.getD, List.getElem?_eq_getElem hi]
  have hil : (l.take i).length = i := by rw [List.length_take]; omega
  have hput : putL (val (l.take (i + 1))) = l.take (i + 1) := by
    rw [hsp]
    refine putL_val _ _ ?_ hlt ?_
    · intro x hx
      obtain ⟨j, hj, rfl⟩ := List.mem_iff_getElem.1 hx
      have hji : j < i := by omega
      have := hge j hji
      have hjl : j < l.length := by omega
      simp only [List.getD, List.getElem?_eq_getElem hjl, Option.getD_some] at this
      rw [List.getElem_take]
      exact ⟨this, hby _ (List.getElem_mem hjl)⟩
    · rcases h0 with h | h
      · left; exact List.eq_nil_of_length_eq_zero (by omega)
      · exact .inr h
  have hv : val (l.take (i + 1)) < 18446744073709551616 := by
    by_cases h : i = 9
    · have h1 := h9 h
      rw [val_take hi, h1, h]
      have h2 := val_lt (l.take 9)
      rw [← h, hil, h] at h2
      rw [h] at *
      have : (128 : Nat) ^ 9 = 9223372036854775808 := by decide
      omega
    · have h1 := val_lt (l.take (i + 1))
      rw [List.length_take, Nat.min_eq_left (by omega)] at h1
      have h2 : 128 ^ (i + 1) ≤ 128 ^ 9 := Nat.pow_le_pow_right (by omega) (by omega)
      have : (128 : Nat) ^ 9 = 9223372036854775808 := by decide
      omega
  rw [Nat.mod_eq_of_lt hv, hput]
  obtain ⟨h1, h2, h3⟩ := ht.of hv (by rw [hput]; exact List.take_prefix _ _)
  exact ⟨h1, by rw [h2, hput, List.length_take]; omega, h3, rfl⟩

theorem taken_not {l : List Nat} {n k e i : Nat} (ht : Taken l n k e) (hi : i < l.length) (h10 : i < 10) (hge : ∀ j, j < i → 128 ≤ l.getD j 0) (hlt : l.getD i 0 < 128)
    (h : ¬ ((i = 9 → l.getD i 0 = 1) ∧ (i = 0 ∨ 0 < l.getD i 0))) : n = 0 ∧ k = 0 ∧ e = 31 ∧ putL (val (l.take (i + 1)) % 18446744073709551616) ≠ l.take (i + 1) := by
  have hno : ∀ m, m < 18446744073709551616 → ¬ putL m <+: l := by
    intro m hm hp
    obtain ⟨j, hj, _, _, hjl, hjg, hj0, hj9⟩ := putL_at hp
    obtain ⟨h9a, h9b⟩ := hj9 hm
    have hji : j = i := by
      rcases Nat.lt_trichotomy j i with h' | h' | h'
      · have := hge j h'; omega
      · exact h'
      · have := hjg i h'; omega
    subst hji
    refine h ⟨fun h' => ?_, hj0⟩
    have := h9b h'
    omega
  obtain ⟨h1, h2, h3⟩ := ht.none_ hno
  refine ⟨h1, h2, h3, fun heq => ?_⟩
  exact hno _ (Nat.mod_lt _ (by decide)) (by rw [heq]; exact List.take_prefix _ _)

theorem taken_end {l : List Nat} {n k e : Nat} (ht : Taken l n k e) (hge : ∀ j, j < l.length → j < 10 → 128 ≤ l.getD j 0) : n = 0 ∧ k = 0 ∧ e = 31 := by
  refine ht.none_ fun m hm hp => ?_
  obtain ⟨j, hj, _, _, hjl, _, _, hj9⟩ := putL_at hp
  have := (hj9 hm).1
  have := hge j hj (by omega)
  omega

/-- Of fewer bytes than a number's own nothing is taken. -/
theorem taken_cut {l : List Nat} {n k e j : Nat} (hm : ∃ m, m < 18446744073709551616 ∧ putL m <+: l ∧ j < (putL m).length) (ht : Taken (l.take j) n k e) : e = 31 := by
  obtain ⟨m, _, ⟨t, rfl⟩, hj⟩ := hm
  refine (ht.none_ fun m' _ hp => ?_).2.2
  have hp2 : putL m' <+: putL m ++ t := List.IsPrefix.trans hp (List.take_prefix _ _)
  obtain ⟨s, hs⟩ := hp2
  obtain ⟨rfl, _⟩ := putL_free m' m s t hs
  have := hp.length_le
  rw [List.length_take] at this
  omega
end Go.Proofs.Ytdonbgejnllhlaa
