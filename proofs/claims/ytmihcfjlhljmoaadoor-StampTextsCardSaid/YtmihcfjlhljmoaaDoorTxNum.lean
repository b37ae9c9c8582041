/-
  Plain laws on decimal texts and on stamps' texts: what reading figures gives, and that a stamp's text is read as that stamp, by whichever reader.
-/
import Derived.Lib.ItoaNum
namespace Go.Proofs.YtmihcfjlhljmoaaDoor
open Go Go.Lib

def rightB (n r : Int) : Bool := decide (1 ≤ n ∧ n ≤ 1048576 ∧ 0 ≤ r ∧ r < 8)
def dig (c : UInt8) : Bool := decide (48 ≤ c.toNat ∧ c.toNat ≤ 57)

/-- Figures are read while they are, and while the number is not beyond the greatest counter: the number, and what is left. -/
def fg : List UInt8 → Nat → Nat × List UInt8
  | [], n => (n, [])
  | c :: t, n => if dig c = true ∧ n ≤ 1048576 then fg t (10 * n + (c.toNat - 48)) else (n, c :: t)
theorem fg_yes {c : UInt8} {t : List UInt8} {n : Nat} (h : dig c = true) (hn : n ≤ 1048576) : fg (c :: t) n = fg t (10 * n + (c.toNat - 48)) := by rw [fg, if_pos ⟨h, hn⟩]
theorem fg_no {c : UInt8} {t : List UInt8} {n : Nat} (h : ¬ (dig c = true ∧ n ≤ 1048576)) : fg (c :: t) n = (n, c :: t) := by rw [fg, if_neg h]
theorem fg_bound : ∀ (l : List UInt8) (n : Nat), n ≤ 10485769 → (fg l n).1 ≤ 10485769
  | [], n, h => h
  | c :: t, n, h => by
    unfold fg
    split
    · rename_i hc
      have : dig c = true := hc.1
      unfold dig at this
      rw [decide_eq_true_eq] at this
      exact fg_bound t _ (by omega)
    · exact h

theorem dig_of {d : Nat} (h : d < 10) : dig (UInt8.ofNat (48 + d)) = true ∧ (UInt8.ofNat (48 + d)).toNat = 48 + d := by
  have e : (UInt8.ofNat (48 + d)).toNat = 48 + d := by simp [UInt8.toNat_ofNat']; omega
  exact ⟨by unfold dig; rw [e]; exact decide_eq_true (by omega), e⟩

theorem dec_big {n : Nat} (h : ¬ n < 10) : decDigits n = decDigits (n / 10) ++ [UInt8.ofNat (48 + n % 10)] := by rw [decDigits, dif_neg h]

theorem fg_dec (n : Nat) : ∀ rest : List UInt8, n / 10 ≤ 1048576 → fg (decDigits n ++ rest) 0 = fg rest n := by
  induction n using Nat.strongRecOn with
  | ind n ih =>
    intro rest hn
    by_cases h : n < 10
    · rw [decDigits_one h]
      obtain ⟨h1, h2⟩ := dig_of h
      rw [List.singleton_append, fg_yes h1 (by omega), h2]
      congr 1; omega
    · rw [dec_big h, List.append_assoc, ih (n / 10) (by omega) _ (by omega), List.singleton_append]
      obtain ⟨h1, h2⟩ := dig_of (show n % 10 < 10 by omega)
      rw [fg_yes h1 hn, h2]
      congr 1; omega
theorem fg_nil (n : Nat) : fg [] n = (n, []) := rfl
theorem fg_point (t : List UInt8) (n : Nat) : fg (46 :: t) n = (n, 46 :: t) := fg_no (by intro h; exact absurd h.1 (by decide))

theorem dec_digits (n : Nat) : ∀ c ∈ decDigits n, dig c = true := by
  induction n using Nat.strongRecOn with
  | ind n ih =>
    intro c hc
    by_cases h : n < 10
    · rw [decDigits_one h] at hc
      rw [List.mem_singleton] at hc
      subst hc
      exact (dig_of h).1
    · rw [dec_big h, List.mem_append, List.mem_singleton] at hc
      rcases hc with hc | rfl
      · exact ih _ (by omega) c hc
      · exact (dig_of (show n % 10 < 10 by omega)).1
theorem dec_ne (n : Nat) : decDigits n ≠ [] := by
  by_cases h : n < 10
  · rw [decDigits_one h]; simp
  · rw [dec_big h]; simp
theorem dec_len {n : Nat} (h : n ≤ 1048576) : (decDigits n).length ≤ 7 := by
  have step : ∀ (k m : Nat), m < 10 ^ (k + 1) → (decDigits m).length ≤ k + 1 := by
    intro k
    induction k with
    | zero => intro m hm; rw [decDigits_one (by omega)]; simp
    | succ k ih =>
      intro m hm
      by_cases h : m < 10
      · rw [decDigits_one h]; simp
      · rw [dec_big h, List.length_append]
        have := ih (m / 10) (by rw [Nat.pow_succ] at hm; omega)
        simp; omega
  exact step 6 n (by omega)

/-- A stamp's text. -/
def ok (n r : Int) : Prop := (n = 0 ∧ r = 0) ∨ rightB n r = true
instance (n r : Int) : Decidable (ok n r) := by unfold ok; exact inferInstance
def txt (n r : Int) : List UInt8 := if ok n r then decDigits n.toNat ++ 46 :: decDigits r.toNat else []
theorem txt_ok {n r : Int} (h : ok n r) : txt n r = decDigits n.toNat ++ 46 :: decDigits r.toNat := if_pos h
theorem txt_no {n r : Int} (h : ¬ ok n r) : txt n r = [] := if_neg h
theorem txt_ne {n r : Int} : txt n r ≠ [] ↔ ok n r := by
  unfold txt
  split
  · rename_i h; exact ⟨fun _ => h, fun _ => by simp⟩
  · rename_i h; exact ⟨fun h' => absurd rfl h', fun h' => absurd h' h⟩
theorem ok_bounds {n r : Int} (h : ok n r) : 0 ≤ n ∧ n ≤ 1048576 ∧ 0 ≤ r ∧ r < 8 := by
  rcases h with ⟨rfl, rfl⟩ | h
  · exact ⟨by omega, by omega, by omega, by omega⟩
  · simp only [rightB, decide_eq_true_eq] at h; omega

/-- The program's reader. -/
def pn (l : List UInt8) : Nat := (fg l 0).1
def pr (l : List UInt8) : Nat := (fg ((fg l 0).2.drop 1) 0).1
def good (l : List UInt8) : Prop := txt (pn l) (pr l) = l ∧ l ≠ []
theorem p_txt {n r : Int} (h : ok n r) : (pn (txt n r) : Int) = n ∧ (pr (txt n r) : Int) = r := by
  obtain ⟨h1, h2, h3, h4⟩ := ok_bounds h
  have e1 : fg (decDigits n.toNat ++ 46 :: decDigits r.toNat) 0 = (n.toNat, 46 :: decDigits r.toNat) := by rw [fg_dec _ _ (by omega), fg_point]
  have e2 := fg_dec r.toNat [] (by omega)
  rw [List.append_nil, fg_nil] at e2
  unfold pn pr
  rw [txt_ok h, e1]
  simp only [List.drop_succ_cons, List.drop_zero]
  rw [e2]
  simp only
  omega
theorem good_iff (l : List UInt8) : good l ↔ ∃ n r : Int, ok n r ∧ l = txt n r := by
  constructor
  · rintro ⟨h1, h2⟩
    exact ⟨_, _, txt_ne.1 (by rw [h1]; exact h2), h1.symm⟩
  · rintro ⟨n, r, h, rfl⟩
    obtain ⟨e1, e2⟩ := p_txt h
    exact ⟨by rw [e1, e2], txt_ne.2 h⟩
theorem txt_inj {n r n' r' : Int} (h : ok n r) (h' : ok n' r') (e : txt n r = txt n' r') : n = n' ∧ r = r' := by
  obtain ⟨e1, e2⟩ := p_txt h
  obtain ⟨e3, e4⟩ := p_txt h'
  rw [e] at e1 e2
  omega
theorem p_bounds (l : List UInt8) : pn l ≤ 10485769 ∧ pr l ≤ 10485769 := ⟨fg_bound _ _ (by omega), fg_bound _ _ (by omega)⟩
theorem good_ok {l : List UInt8} (h : good l) : ok (pn l) (pr l) := txt_ne.1 (by rw [h.1]; exact h.2)

/-- The document's reader of a number. -/
def nb : List UInt8 → Nat → Int
  | [], n => n
  | c :: t, n => if n ≤ 1048576 then (if dig c = true then nb t (10 * n + (c.toNat - 48)) else -1) else n
def num (l : List UInt8) : Int := if l = [] ∨ 1048576 < nb l 0 then -1 else nb l 0
theorem nb_dec (n : Nat) : ∀ rest : List UInt8, n / 10 ≤ 1048576 → nb (decDigits n ++ rest) 0 = nb rest n := by
  induction n using Nat.strongRecOn with
  | ind n ih =>
    intro rest hn
    by_cases h : n < 10
    · rw [decDigits_one h]
      obtain ⟨h1, h2⟩ := dig_of h
      rw [List.singleton_append, nb, if_pos (by omega), if_pos h1, h2]
      congr 1; omega
    · rw [dec_big h, List.append_assoc, ih (n / 10) (by omega) _ (by omega), List.singleton_append]
      obtain ⟨h1, h2⟩ := dig_of (show n % 10 < 10 by omega)
      rw [nb, if_pos hn, if_pos h1, h2]
      congr 1; omega
theorem num_dec {n : Nat} (h : n ≤ 1048576) : num (decDigits n) = n := by
  have e := nb_dec n [] (by omega)
  rw [List.append_nil] at e
  unfold num
  rw [e, if_neg]
  · rfl
  · rintro (h' | h')
    · exact dec_ne n h'
    · simp only [nb] at h'; omega

/-- Where the first point stands in a stamp's text. -/
theorem point_at {n r : Int} (h : ok n r) {k : Nat} (hk : k < (txt n r).length) (h46 : (txt n r)[k] = 46) (hno : ∀ j, (hj : j < k) → (txt n r)[j]'(by omega) ≠ 46) :
    (txt n r).take k = decDigits n.toNat ∧ (txt n r).drop (k + 1) = decDigits r.toNat := by
  have hk2 : k = (decDigits n.toNat).length := by
    rcases Nat.lt_trichotomy k (decDigits n.toNat).length with hlt | heq | hgt
    · exfalso
      have hd := dec_digits n.toNat ((decDigits n.toNat)[k]) (List.getElem_mem hlt)
      have : (txt n r)[k] = (decDigits n.toNat)[k] := by
        simp only [txt_ok h]
        rw [List.getElem_append_left hlt]
      rw [← this, h46] at hd
      exact absurd hd (by decide)
    · exact heq
    · exfalso
      refine hno _ hgt ?_
      simp only [txt_ok h]
      rw [List.getElem_append_right (Nat.le_refl _)]
      simp
  subst hk2
  rw [txt_ok h]
  exact ⟨by simp, by simp⟩
theorem point_there {n r : Int} (h : ok n r) : ∃ k, ∃ hk : k < (txt n r).length, k < 20 ∧ (txt n r)[k] = 46 := by
  have hl := dec_len (n := n.toNat) (by have := ok_bounds h; omega)
  refine ⟨(decDigits n.toNat).length, by rw [txt_ok h]; simp, by omega, ?_⟩
  simp only [txt_ok h]
  rw [List.getElem_append_right (Nat.le_refl _)]
  simp

end Go.Proofs.YtmihcfjlhljmoaaDoor
