/-
  Take in plain words: the code's order of questions comes to the document's.
-/
import Derived.Test.YtmeofjoamcghhaaFcWrap
import Derived.Test.YtmeofjoamcghhaaFrTake2
namespace Go.Proofs.Ytmeofjoamcghhaa
open Go.RowKit Go.Sort

/-- The code's questions, in their order. -/
def takeC (l : List Nat) : Nat × List Nat × Nat × Nat :=
  if mayB l = false then (0, [], 0, 51)
  else if l.length < 11 then (0, [], 0, 52)
  else if l.length < 11 + numL ((l.take 7).drop 3) then (0, [], 0, 52)
  else if numL ((l.take 11).drop 7) = sumF (l.take (11 + numL ((l.take 7).drop 3))) then
    (l.getD 2 0, (l.take (11 + numL ((l.take 7).drop 3))).drop 11, 11 + numL ((l.take 7).drop 3), 0)
  else (0, [], 0, 51)

theorem num_four (a b c d : Nat) : numL [a, b, c, d] = unfour a b c d := by simp [numL, unfour]; omega

theorem take_deep (c d e f g h i j k n : Nat) (u : List Nat) (hb : ∀ x ∈ 83 :: 84 :: c :: d :: e :: f :: g :: h :: i :: j :: k :: u, x < 256) (h4 : fourL n = [d, e, f, g]) (hul : n ≤ u.length) :
    (if numL (((83 :: 84 :: c :: d :: e :: f :: g :: h :: i :: j :: k :: u).take 11).drop 7) = sumF ((83 :: 84 :: c :: d :: e :: f :: g :: h :: i :: j :: k :: u).take (11 + n)) then ((83 :: 84 :: c :: d :: e :: f :: g :: h :: i :: j :: k :: u).getD 2 0, ((83 :: 84 :: c :: d :: e :: f :: g :: h :: i :: j :: k :: u).take (11 + n)).drop 11, 11 + n, 0) else (0, [], 0, 51)) =
    (if frameL ((83 :: 84 :: c :: d :: e :: f :: g :: h :: i :: j :: k :: u).getD 2 0) (((83 :: 84 :: c :: d :: e :: f :: g :: h :: i :: j :: k :: u).drop 11).take n) = (83 :: 84 :: c :: d :: e :: f :: g :: h :: i :: j :: k :: u).take (11 + n) then ((83 :: 84 :: c :: d :: e :: f :: g :: h :: i :: j :: k :: u).getD 2 0, ((83 :: 84 :: c :: d :: e :: f :: g :: h :: i :: j :: k :: u).drop 11).take n, 11 + n, 0) else (0, [], 0, 51)) := by
  have hh := hb h (by simp)
  have hi := hb i (by simp)
  have hj := hb j (by simp)
  have hk := hb k (by simp)
  have e1 : (83 :: 84 :: c :: d :: e :: f :: g :: h :: i :: j :: k :: u).take (11 + n) = 83 :: 84 :: c :: d :: e :: f :: g :: h :: i :: j :: k :: u.take n := by
    rw [show 11 + n = n + 11 by omega]; rfl
  have e2 : numL (((83 :: 84 :: c :: d :: e :: f :: g :: h :: i :: j :: k :: u).take 11).drop 7) = unfour h i j k := num_four h i j k
  have e3 : ((83 :: 84 :: c :: d :: e :: f :: g :: h :: i :: j :: k :: u).drop 11).take n = u.take n := rfl
  have hul2 : (u.take n).length = n := by rw [List.length_take]; omega
  have hS : sumF (83 :: 84 :: c :: d :: e :: f :: g :: h :: i :: j :: k :: u.take n) = sumN (c :: fourL n ++ u.take n) := by rw [h4]; rfl
  have hS32 : sumN (c :: fourL n ++ u.take n) < 4294967296 := sumN_lt (by
    rw [h4]
    intro x hx
    have : x ∈ (83 :: 84 :: c :: d :: e :: f :: g :: h :: i :: j :: k :: u) := by
      rcases List.mem_append.1 hx with hx | hx
      · simp at hx ⊢; omega
      · have := List.mem_of_mem_take hx; simp [this]
    exact hb x this)
  have e4 : (83 :: 84 :: c :: d :: e :: f :: g :: h :: i :: j :: k :: u).getD 2 0 = c := rfl
  rw [e1, e2, e3, e4, hS, frame_parts, hul2, h4]
  obtain ⟨S, hSS⟩ : ∃ S, sumN (c :: [d, e, f, g] ++ u.take n) = S := ⟨_, rfl⟩
  rw [h4] at hS32
  rw [hSS] at hS32 ⊢
  have hiff : unfour h i j k = S ↔ (83 :: 84 :: c :: ([d, e, f, g] ++ (fourL S ++ u.take n)) = 83 :: 84 :: c :: d :: e :: f :: g :: h :: i :: j :: k :: u.take n) := by
    constructor
    · rintro rfl
      have : fourL (unfour h i j k) = [h, i, j, k] := by simp [fourL, unfour]; omega
      rw [this]; rfl
    · intro hq
      simp [fourL] at hq
      unfold unfour
      omega
  by_cases hq : unfour h i j k = S
  · rw [if_pos hq, if_pos (hiff.1 hq)]
    rfl
  · rw [if_neg hq, if_neg (fun hx => hq (hiff.2 hx))]

theorem four_of : ∀ {t : List Nat}, 4 ≤ t.length → ∃ h i j k u, t = h :: i :: j :: k :: u
  | h :: i :: j :: k :: u, _ => ⟨h, i, j, k, u, rfl⟩

/-- Seven bytes and the rest. -/
theorem take_c (l : List Nat) (hb : ∀ x ∈ l, x < 256) : takeC l = takeF l := by
  match l, hb with
  | [], _ => rfl
  | [a], _ => simp [takeC, takeF, mayB, begins]; by_cases h : a = 83 <;> simp [h]; omega
  | [a, b], _ =>
    simp [takeC, takeF, mayB, begins]
    by_cases h : a = 83 <;> by_cases h2 : b = 84 <;> simp [h, h2] <;> omega
  | [a, b, c], _ =>
    simp [takeC, takeF, mayB, begins, numL]
    by_cases h : a = 83 <;> by_cases h2 : b = 84 <;> simp [h, h2] <;> omega
  | [a, b, c, d], hb =>
    have h4 := hb d (by simp)
    simp [takeC, takeF, mayB, begins, numL]
    by_cases h : a = 83 <;> by_cases h2 : b = 84 <;> simp [h, h2] <;> omega
  | [a, b, c, d, e], hb =>
    have h4 := hb d (by simp)
    have h5 := hb e (by simp)
    simp [takeC, takeF, mayB, begins, numL]
    by_cases h : a = 83 <;> by_cases h2 : b = 84 <;> simp [h, h2] <;> omega
  | [a, b, c, d, e, f], hb =>
    have h4 := hb d (by simp)
    have h5 := hb e (by simp)
    have h6 := hb f (by simp)
    simp [takeC, takeF, mayB, begins, numL]
    by_cases h : a = 83
    · by_cases h2 : b = 84
      · simp [h, h2]
        by_cases h7 : 65536 < d + 256 * (e + 256 * f)
        · rw [if_pos h7, if_pos (by omega)]
        · rw [if_neg h7, if_neg (by omega)]
      · simp [h, h2]; omega
    · simp [h]; omega
  | a :: b :: c :: d :: e :: f :: g :: t, hb =>
    have hd := hb d (by simp)
    have he := hb e (by simp)
    have hf := hb f (by simp)
    have hg := hb g (by simp)
    obtain ⟨n, hn⟩ : ∃ n, unfour d e f g = n := ⟨_, rfl⟩
    have h4 : fourL n = [d, e, f, g] := by rw [← hn]; simp [fourL, unfour]; omega
    have hB : bodyN (a :: b :: c :: d :: e :: f :: g :: t) = n := by rw [← hn]; rfl
    have hN : numL (((a :: b :: c :: d :: e :: f :: g :: t).take 7).drop 3) = n := by rw [← hn, ← num_four]; rfl
    have hM : mayB (a :: b :: c :: d :: e :: f :: g :: t) = (decide (a = 83) && decide (b = 84) && decide (n ≤ 65536)) := by
      have : min (a :: b :: c :: d :: e :: f :: g :: t).length 7 = 7 := by simp
      rw [mayB, this, hN]
      have h2 : min (a :: b :: c :: d :: e :: f :: g :: t).length 2 = 2 := by simp
      rw [h2]
      by_cases h : a = 83 <;> by_cases h2 : b = 84 <;> simp [begins, h, h2] <;> omega
    obtain ⟨L, hL⟩ : ∃ L, a :: b :: c :: d :: e :: f :: g :: t = L := ⟨_, rfl⟩
    have h0 : L.getD 0 0 = a := by rw [← hL]; rfl
    have h1 : L.getD 1 0 = b := by rw [← hL]; rfl
    have h7 : 6 < L.length := by rw [← hL]; simp
    rw [hL] at hB hN hM
    by_cases h : a = 83
    · by_cases h2 : b = 84
      · by_cases hg : n ≤ 65536
        · have hF : takeF L = if L.length < 11 + n then (0, [], 0, 52) else if frameL (L.getD 2 0) ((L.drop 11).take n) = L.take (11 + n) then (L.getD 2 0, (L.drop 11).take n, 11 + n, 0) else (0, [], 0, 51) := by
            unfold takeF; rw [hB, if_neg (by omega), if_neg (by omega), if_neg (by omega)]
          have hC : takeC L = if L.length < 11 then (0, [], 0, 52) else if L.length < 11 + n then (0, [], 0, 52) else if numL ((L.take 11).drop 7) = sumF (L.take (11 + n)) then (L.getD 2 0, (L.take (11 + n)).drop 11, 11 + n, 0) else (0, [], 0, 51) := by
            unfold takeC; rw [hM, hN, if_neg (by simp [h, h2, hg])]
          rw [hL, hF, hC]
          clear hF hC hB hN hM h0 h1
          subst hL
          subst h h2
          by_cases hl : (83 :: 84 :: c :: d :: e :: f :: g :: t).length < 11 + n
          · rw [if_pos hl, if_pos hl]
            split <;> rfl
          · rw [if_neg hl, if_neg hl, if_neg (by omega)]
            have hlen : 4 ≤ t.length := by
              have : (83 :: 84 :: c :: d :: e :: f :: g :: t).length = 7 + t.length := by simp; omega
              omega
            obtain ⟨h, i, j, k, u, rfl⟩ := four_of hlen
            exact take_deep c d e f g h i j k n u hb h4 (by
              have : (83 :: 84 :: c :: d :: e :: f :: g :: h :: i :: j :: k :: u).length = 11 + u.length := by simp; omega
              omega)
        · rw [hL]
          unfold takeC takeF
          rw [hM, hB, if_pos (by simp [hg]), if_neg (by omega), if_neg (by omega), if_pos (by omega)]
      · rw [hL]
        unfold takeC takeF
        rw [hM, if_pos (by simp [h2]), if_pos (by omega)]
    · rw [hL]
      unfold takeC takeF
      rw [hM, if_pos (by simp [h]), if_pos (by omega)]
end Go.Proofs.Ytmeofjoamcghhaa
