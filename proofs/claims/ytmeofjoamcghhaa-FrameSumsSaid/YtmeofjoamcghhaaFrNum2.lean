/-
  One changed byte of a frame: it is no frame.
-/
import Derived.Test.YtmeofjoamcghhaaFrNum
namespace Go.Proofs.Ytmeofjoamcghhaa

theorem four_app_inj {a b : Nat} (ha : a < 4294967296) (hb : b < 4294967296) {x y : List Nat} (h : fourL a ++ x = fourL b ++ y) : a = b ∧ x = y := by
  simp [fourL] at h
  obtain ⟨h1, h2, h3, h4, h5⟩ := h
  exact ⟨by omega, h5⟩

theorem frame_parts (k : Nat) (body : List Nat) : frameL k body = 83 :: 84 :: k :: (fourL body.length ++ (fourL (sumN (k :: fourL body.length ++ body)) ++ body)) := by
  simp [frameL]

/-- What is taken from as many bytes as a frame has, its length's bytes standing there. -/
theorem take_same {k : Nat} {s body : List Nat} (hs : s.length = 4) (hl : body.length ≤ 65536) :
    takeF (83 :: 84 :: k :: (fourL body.length ++ (s ++ body))) = if fourL (sumN (k :: fourL body.length ++ body)) = s then (k, body, 11 + body.length, 0) else (0, [], 0, 51) := by
  obtain ⟨a, b, c, d, rfl⟩ : ∃ a b c d, s = [a, b, c, d] := by
    match s, hs with
    | [a, b, c, d], _ => exact ⟨a, b, c, d, rfl⟩
  have hb : bodyN (83 :: 84 :: k :: (fourL body.length ++ ([a, b, c, d] ++ body))) = body.length := by
    have : bodyN (83 :: 84 :: k :: (fourL body.length ++ ([a, b, c, d] ++ body))) = unfour (body.length % 256) (body.length / 256 % 256) (body.length / 65536 % 256) (body.length / 16777216 % 256) := by
      simp [bodyN, fourL]
    rw [this, unfour_four (by omega)]
  have hlen : (83 :: 84 :: k :: (fourL body.length ++ ([a, b, c, d] ++ body))).length = 11 + body.length := by simp [fourL]; omega
  have h2 : (83 :: 84 :: k :: (fourL body.length ++ ([a, b, c, d] ++ body))).getD 2 0 = k := rfl
  have h3 : ((83 :: 84 :: k :: (fourL body.length ++ ([a, b, c, d] ++ body))).drop 11).take body.length = body := by simp [fourL]
  have h4 : (83 :: 84 :: k :: (fourL body.length ++ ([a, b, c, d] ++ body))).take (11 + body.length) = 83 :: 84 :: k :: (fourL body.length ++ ([a, b, c, d] ++ body)) := by rw [← hlen, List.take_length]
  have h5 : (frameL k body = 83 :: 84 :: k :: (fourL body.length ++ ([a, b, c, d] ++ body))) = (fourL (sumN (k :: fourL body.length ++ body)) = [a, b, c, d]) := by
    rw [frame_parts]
    simp
    exact ⟨fun h => List.append_cancel_right (h.trans (show a :: b :: c :: d :: body = [a, b, c, d] ++ body from rfl)), fun h => by rw [h]; rfl⟩
  unfold takeF
  rw [hlen, hb, h2, h3, h4]
  have h0 : (83 :: 84 :: k :: (fourL body.length ++ ([a, b, c, d] ++ body))).getD 0 0 = 83 := rfl
  have h1 : (83 :: 84 :: k :: (fourL body.length ++ ([a, b, c, d] ++ body))).getD 1 0 = 84 := rfl
  rw [h0, h1]
  rw [if_neg (by omega), if_neg (by omega), if_neg (by omega), if_neg (by omega)]
  by_cases h : fourL (sumN (k :: fourL body.length ++ body)) = [a, b, c, d]
  · rw [if_pos h, if_pos (h5.mpr h)]
  · rw [if_neg h, if_neg (fun hh => h (h5.mp hh))]

theorem set_split {l : List Nat} {i : Nat} (h : i < l.length) (c : Nat) : l.set i c = l.take i ++ c :: l.drop (i + 1) ∧ l = l.take i ++ l[i] :: l.drop (i + 1) := by
  refine ⟨List.set_eq_take_append_cons_drop .. |>.trans (by rw [if_pos h]), ?_⟩
  rw [List.getElem_cons_drop h, List.take_append_drop]

theorem take_change {k : Nat} {body : List Nat} (hk : k < 256) (hb : ∀ x ∈ body, x < 256) (hl : body.length ≤ 65536) {at' c : Nat} (hat : at' = 2 ∨ (7 ≤ at' ∧ at' < 11 + body.length)) (hc : c < 256) (hne : c ≠ (frameL k body).getD at' 0) :
    takeF ((frameL k body).set at' c) = (0, [], 0, 51) := by
  have hby : ∀ k', k' < 256 → ∀ x ∈ k' :: fourL body.length, x < 256 := by
    intro k' hk' x hx
    rcases List.mem_cons.1 hx with rfl | hx
    · exact hk'
    · exact four_byte _ x hx
  have hsum : ∀ k' b', k' < 256 → (∀ x ∈ b', x < 256) → sumN (k' :: fourL body.length ++ b') < 4294967296 := by
    intro k' b' hk' hb'
    refine sumN_lt fun x hx => ?_
    rcases List.mem_append.1 hx with h | h
    · exact hby k' hk' x h
    · exact hb' x h
  rw [frame_parts] at hne ⊢
  rcases hat with rfl | ⟨h7, h11⟩
  · have e : (83 :: 84 :: k :: (fourL body.length ++ (fourL (sumN (k :: fourL body.length ++ body)) ++ body))).set 2 c = 83 :: 84 :: c :: (fourL body.length ++ (fourL (sumN (k :: fourL body.length ++ body)) ++ body)) := rfl
    rw [e, take_same rfl hl, if_neg]
    intro h
    have h2 := four_inj (hsum c body hc hb) (hsum k body hk hb) h
    have h3 := sum_change (p := []) (q := fourL body.length ++ body) (by simp) (fun x hx => by
      rcases List.mem_append.1 hx with h | h
      · exact four_byte _ x h
      · exact hb x h) hc hk h2
    exact hne h3
  · rcases Nat.lt_or_ge at' 11 with h | h
    · obtain ⟨i, rfl⟩ : ∃ i, at' = 7 + i := ⟨at' - 7, by omega⟩
      have hi : i < 4 := by omega
      obtain ⟨S, hS⟩ : ∃ S, fourL (sumN (k :: fourL body.length ++ body)) = S := ⟨_, rfl⟩
      have hSl : S.length = 4 := by rw [← hS]; rfl
      rw [hS] at hne ⊢
      have e : (83 :: 84 :: k :: (fourL body.length ++ (S ++ body))).set (7 + i) c = 83 :: 84 :: k :: (fourL body.length ++ (S.set i c ++ body)) := by
        have : (83 :: 84 :: k :: (fourL body.length ++ (S ++ body))) = (83 :: 84 :: k :: fourL body.length) ++ (S ++ body) := by simp
        rw [this, List.set_append_right _ _ (by simp [fourL])]
        have h8 : 7 + i - (83 :: 84 :: k :: fourL body.length).length = i := by simp [fourL]
        rw [h8, List.set_append_left _ _ (by omega)]
        simp
      have hg : (83 :: 84 :: k :: (fourL body.length ++ (S ++ body))).getD (7 + i) 0 = S.getD i 0 := by
        have : (83 :: 84 :: k :: (fourL body.length ++ (S ++ body))) = (83 :: 84 :: k :: fourL body.length) ++ (S ++ body) := by simp
        rw [this]
        simp only [List.getD]
        rw [List.getElem?_append_right (by simp [fourL])]
        have h8 : 7 + i - (83 :: 84 :: k :: fourL body.length).length = i := by simp [fourL]
        rw [h8, List.getElem?_append_left (by omega)]
      rw [e, take_same (by simp [hSl]) hl, hS, if_neg]
      intro h9
      rw [hg] at hne
      apply hne
      have : (S.set i c).getD i 0 = c := by simp [List.getD, hSl, hi]
      rw [← h9] at this
      exact this.symm
    · obtain ⟨i, rfl⟩ : ∃ i, at' = 11 + i := ⟨at' - 11, by omega⟩
      have hi : i < body.length := by omega
      obtain ⟨S, hS⟩ : ∃ S, fourL (sumN (k :: fourL body.length ++ body)) = S := ⟨_, rfl⟩
      have hSl : S.length = 4 := by rw [← hS]; rfl
      rw [hS] at hne ⊢
      have this : (83 :: 84 :: k :: (fourL body.length ++ (S ++ body))) = (83 :: 84 :: k :: (fourL body.length ++ S)) ++ body := by simp
      have h8 : 11 + i - (83 :: 84 :: k :: (fourL body.length ++ S)).length = i := by simp [fourL, hSl]
      have h8' : (83 :: 84 :: k :: (fourL body.length ++ S)).length ≤ 11 + i := by simp [fourL, hSl]
      have e : (83 :: 84 :: k :: (fourL body.length ++ (S ++ body))).set (11 + i) c = 83 :: 84 :: k :: (fourL (body.set i c).length ++ (S ++ body.set i c)) := by
        rw [this, List.set_append_right _ _ h8', h8]
        simp
      have hg : (83 :: 84 :: k :: (fourL body.length ++ (S ++ body))).getD (11 + i) 0 = body[i] := by
        rw [this]
        simp only [List.getD]
        rw [List.getElem?_append_right h8', h8, List.getElem?_eq_getElem hi]; rfl
      rw [hg] at hne
      have hb' : ∀ x ∈ body.set i c, x < 256 := fun x hx => by
        rcases List.mem_or_eq_of_mem_set hx with h | h
        · exact hb x h
        · omega
      rw [e, take_same hSl (by simpa using hl), if_neg]
      intro h9
      rw [List.length_set, ← hS] at h9
      have h10 := four_inj (hsum k _ hk hb') (hsum k body hk hb) h9
      obtain ⟨h11, h12⟩ := set_split hi c
      rw [h11] at h10
      rw [show (k :: fourL body.length ++ body) = (k :: fourL body.length ++ (body.take i ++ body[i] :: body.drop (i + 1))) by rw [← h12]] at h10
      rw [← List.append_assoc, ← List.append_assoc] at h10
      have h13 := sum_change (p := k :: fourL body.length ++ body.take i) (q := body.drop (i + 1)) (fun x hx => by
        rcases List.mem_append.1 hx with h | h
        · exact hby k hk x h
        · exact hb x (List.mem_of_mem_take h)) (fun x hx => hb x (List.mem_of_mem_drop hx)) hc (hb _ (List.getElem_mem hi)) h10
      exact hne h13
end Go.Proofs.Ytmeofjoamcghhaa
