/-
  Frames in plain words: the sum, the frame, what stands at the beginning of bytes; one changed byte changes the sum. No model in here.
-/
namespace Go.Proofs.Ytmeofjoamcghhaa

def poly : Nat := 2197175160
def bit1 (s : Nat) : Nat := if s % 2 = 1 then (s / 2) ^^^ poly else s / 2
def bitsN : Nat → Nat → Nat
  | 0, s => s
  | k + 1, s => bitsN k (bit1 s)
def crcL : Nat → List Nat → Nat
  | s, [] => s
  | s, b :: t => crcL (bitsN 8 (s ^^^ b)) t
def sumN (l : List Nat) : Nat := crcL 4294967295 l ^^^ 4294967295

theorem bit1_lt {s : Nat} (h : s < 2 ^ 32) : bit1 s < 2 ^ 32 := by
  unfold bit1
  split
  · exact Nat.xor_lt_two_pow (by omega) (by decide)
  · omega

theorem xor_cancel {a b p : Nat} (h : a ^^^ p = b ^^^ p) : a = b := by
  have := congrArg (· ^^^ p) h
  simpa [Nat.xor_assoc] using this

theorem top_odd {s t : Nat} (hs : s < 2 ^ 32) (ht : t < 2 ^ 32) (h : (s / 2) ^^^ poly = t / 2) : False := by
  have h1 : (s / 2).testBit 31 = false := Nat.testBit_lt_two_pow (by omega)
  have h2 : (t / 2).testBit 31 = false := Nat.testBit_lt_two_pow (by omega)
  have h3 : poly.testBit 31 = true := by decide
  have := congrArg (·.testBit 31) h
  simp [Nat.testBit_xor, h1, h2, h3] at this

theorem bit1_inj {s t : Nat} (hs : s < 2 ^ 32) (ht : t < 2 ^ 32) (h : bit1 s = bit1 t) : s = t := by
  unfold bit1 at h
  split at h <;> split at h
  · have := xor_cancel h; omega
  · exact (top_odd hs ht h).elim
  · exact (top_odd ht hs h.symm).elim
  · omega

theorem bitsN_lt : ∀ (k : Nat) {s : Nat}, s < 2 ^ 32 → bitsN k s < 2 ^ 32
  | 0, _, h => h
  | k + 1, _, h => bitsN_lt k (bit1_lt h)
theorem bitsN_inj : ∀ (k : Nat) {s t : Nat}, s < 2 ^ 32 → t < 2 ^ 32 → bitsN k s = bitsN k t → s = t
  | 0, _, _, _, _, h => h
  | k + 1, _, _, hs, ht, h => bit1_inj hs ht (bitsN_inj k (bit1_lt hs) (bit1_lt ht) h)

theorem crcL_lt : ∀ (l : List Nat) {s : Nat}, s < 2 ^ 32 → (∀ x ∈ l, x < 256) → crcL s l < 2 ^ 32
  | [], _, h, _ => h
  | b :: t, s, h, hb => crcL_lt t (bitsN_lt 8 (Nat.xor_lt_two_pow h (by have := hb b (by simp); omega))) (fun x hx => hb x (by simp [hx]))
theorem crcL_inj : ∀ (l : List Nat) {s t : Nat}, s < 2 ^ 32 → t < 2 ^ 32 → (∀ x ∈ l, x < 256) → crcL s l = crcL t l → s = t
  | [], _, _, _, _, _, h => h
  | b :: r, s, t, hs, ht, hb, h => by
    have hb0 := hb b (by simp)
    have h1 := crcL_inj r (bitsN_lt 8 (Nat.xor_lt_two_pow hs (by omega))) (bitsN_lt 8 (Nat.xor_lt_two_pow ht (by omega))) (fun x hx => hb x (by simp [hx])) h
    exact xor_cancel (bitsN_inj 8 (Nat.xor_lt_two_pow hs (by omega)) (Nat.xor_lt_two_pow ht (by omega)) h1)
theorem crcL_append : ∀ (l m : List Nat) (s : Nat), crcL s (l ++ m) = crcL (crcL s l) m
  | [], _, _ => rfl
  | _ :: t, m, _ => crcL_append t m _
theorem crc_change {p q : List Nat} {b c s : Nat} (hs : s < 2 ^ 32) (hp : ∀ x ∈ p, x < 256) (hq : ∀ x ∈ q, x < 256) (hb : b < 256) (hc : c < 256) (h : crcL s (p ++ b :: q) = crcL s (p ++ c :: q)) : b = c := by
  have hb2 : b < 2 ^ 32 := Nat.lt_trans hb (by decide)
  have hc2 : c < 2 ^ 32 := Nat.lt_trans hc (by decide)
  have h0 := crcL_lt p hs hp
  have hxb := Nat.xor_lt_two_pow h0 hb2
  have hxc := Nat.xor_lt_two_pow h0 hc2
  have h' : crcL (bitsN 8 (crcL s p ^^^ b)) q = crcL (bitsN 8 (crcL s p ^^^ c)) q := by
    have h1 := crcL_append p (b :: q) s
    have h2 := crcL_append p (c :: q) s
    exact h1.symm.trans (h.trans h2)
  have h1 := crcL_inj q (bitsN_lt 8 hxb) (bitsN_lt 8 hxc) hq h'
  have h2 := bitsN_inj 8 hxb hxc h1
  rw [Nat.xor_comm _ b, Nat.xor_comm _ c] at h2
  exact xor_cancel h2

theorem sumN_lt {l : List Nat} (h : ∀ x ∈ l, x < 256) : sumN l < 4294967296 := Nat.xor_lt_two_pow (n := 32) (crcL_lt l (by decide) h) (by decide)
theorem sum_change {p q : List Nat} {b c : Nat} (hp : ∀ x ∈ p, x < 256) (hq : ∀ x ∈ q, x < 256) (hb : b < 256) (hc : c < 256) (h : sumN (p ++ b :: q) = sumN (p ++ c :: q)) : b = c :=
  crc_change (by decide) hp hq hb hc (xor_cancel h)

def fourL (n : Nat) : List Nat := [n % 256, n / 256 % 256, n / 65536 % 256, n / 16777216 % 256]
def unfour (a b c d : Nat) : Nat := a + b * 256 + c * 65536 + d * 16777216
theorem unfour_four {n : Nat} (h : n < 4294967296) : unfour (n % 256) (n / 256 % 256) (n / 65536 % 256) (n / 16777216 % 256) = n := by unfold unfour; omega
theorem four_byte (n : Nat) : ∀ x ∈ fourL n, x < 256 := by
  intro x hx; simp [fourL] at hx; omega
theorem four_inj {m n : Nat} (hm : m < 4294967296) (hn : n < 4294967296) (h : fourL m = fourL n) : m = n := by
  simp [fourL] at h; omega

def frameL (k : Nat) (body : List Nat) : List Nat := [83, 84, k] ++ fourL body.length ++ fourL (sumN (k :: fourL body.length ++ body)) ++ body

theorem frameL_len (k : Nat) (body : List Nat) : (frameL k body).length = 11 + body.length := by simp [frameL, fourL]; omega
theorem frameL_byte {k : Nat} {body : List Nat} (hk : k < 256) (hb : ∀ x ∈ body, x < 256) : ∀ x ∈ frameL k body, x < 256 := by
  intro x hx
  simp only [frameL, List.mem_append] at hx
  rcases hx with ((hx | hx) | hx) | hx
  · simp at hx; omega
  · exact four_byte _ x hx
  · exact four_byte _ x hx
  · exact hb x hx

def bodyN (l : List Nat) : Nat := unfour (l.getD 3 0) (l.getD 4 0) (l.getD 5 0) (l.getD 6 0)

/-- What the document says of the frame at the beginning of l: its kind, its body, how many bytes, which error. -/
def takeF (l : List Nat) : Nat × List Nat × Nat × Nat :=
  if (0 < l.length ∧ l.getD 0 0 ≠ 83) ∨ (1 < l.length ∧ l.getD 1 0 ≠ 84) then (0, [], 0, 51)
  else if l.length < 7 then
    if 5 < l.length ∧ (1 < l.getD 5 0 ∨ l.getD 5 0 = 1 ∧ (0 < l.getD 3 0 ∨ 0 < l.getD 4 0)) then (0, [], 0, 51) else (0, [], 0, 52)
  else if 65536 < bodyN l then (0, [], 0, 51)
  else if l.length < 11 + bodyN l then (0, [], 0, 52)
  else if frameL (l.getD 2 0) ((l.drop 11).take (bodyN l)) = l.take (11 + bodyN l) then (l.getD 2 0, (l.drop 11).take (bodyN l), 11 + bodyN l, 0)
  else (0, [], 0, 51)

theorem take_wrap {k : Nat} {body more : List Nat} (hl : body.length ≤ 65536) : takeF (frameL k body ++ more) = (k, body, 11 + body.length, 0) := by
  have hlen : (frameL k body ++ more).length = 11 + body.length + more.length := by rw [List.length_append, frameL_len]
  have hb : bodyN (frameL k body ++ more) = body.length := by
    have : bodyN (frameL k body ++ more) = unfour (body.length % 256) (body.length / 256 % 256) (body.length / 65536 % 256) (body.length / 16777216 % 256) := by
      simp [bodyN, frameL, fourL]
    rw [this, unfour_four (by omega)]
  have h0 : (frameL k body ++ more).getD 0 0 = 83 := by simp [frameL]
  have h1 : (frameL k body ++ more).getD 1 0 = 84 := by simp [frameL]
  have h2 : (frameL k body ++ more).getD 2 0 = k := by simp [frameL]
  have h3 : ((frameL k body ++ more).drop 11).take body.length = body := by simp [frameL, fourL]
  have h4 : (frameL k body ++ more).take (11 + body.length) = frameL k body := by rw [← frameL_len k body]; simp
  unfold takeF
  rw [hlen, hb, h0, h1, h2, h3, h4]
  rw [if_neg (by omega), if_neg (by omega), if_neg (by omega), if_neg (by omega), if_pos rfl]

theorem getD_take {l : List Nat} {i j : Nat} (h : i < j) : (l.take j).getD i 0 = l.getD i 0 := by
  simp [List.getD, h]

theorem take_cut {k : Nat} {body : List Nat} (hl : body.length ≤ 65536) {j : Nat} (hj : j < 11 + body.length) : takeF ((frameL k body).take j) = (0, [], 0, 52) := by
  have hlen : ((frameL k body).take j).length = j := by rw [List.length_take, frameL_len]; omega
  have h0 : (frameL k body).getD 0 0 = 83 := by simp [frameL]
  have h1 : (frameL k body).getD 1 0 = 84 := by simp [frameL]
  have h3 : (frameL k body).getD 3 0 = body.length % 256 := by simp [frameL, fourL]
  have h4 : (frameL k body).getD 4 0 = body.length / 256 % 256 := by simp [frameL, fourL]
  have h5 : (frameL k body).getD 5 0 = body.length / 65536 % 256 := by simp [frameL, fourL]
  have h6 : (frameL k body).getD 6 0 = body.length / 16777216 % 256 := by simp [frameL, fourL]
  unfold takeF
  rw [hlen]
  rw [if_neg (by
    rintro (⟨h, h'⟩ | ⟨h, h'⟩)
    · rw [getD_take (by omega), h0] at h'; exact h' rfl
    · rw [getD_take (by omega), h1] at h'; exact h' rfl)]
  by_cases h7 : j < 7
  · rw [if_pos h7, if_neg (by
      rintro ⟨h, h'⟩
      rw [getD_take (by omega), getD_take (by omega), getD_take (by omega), h3, h4, h5] at h'
      omega)]
  · have hb : bodyN ((frameL k body).take j) = body.length := by
      unfold bodyN
      rw [getD_take (by omega), getD_take (by omega), getD_take (by omega), getD_take (by omega), h3, h4, h5, h6, unfour_four (by omega)]
    rw [if_neg h7, hb, if_neg (by omega), if_pos hj]

theorem take_ways (l : List Nat) : (∃ n, takeF l = (l.getD 2 0, (l.drop 11).take n, 11 + n, 0) ∧ n ≤ 65536 ∧ 11 + n ≤ l.length ∧ frameL (l.getD 2 0) ((l.drop 11).take n) = l.take (11 + n)) ∨ takeF l = (0, [], 0, 51) ∨ takeF l = (0, [], 0, 52) := by
  unfold takeF
  split
  · exact .inr (.inl rfl)
  · split
    · split
      · exact .inr (.inl rfl)
      · exact .inr (.inr rfl)
    · split
      · exact .inr (.inl rfl)
      · split
        · exact .inr (.inr rfl)
        · split
          · rename_i h1 h2 h3 h4 h5
            exact .inl ⟨_, rfl, by omega, by omega, h5⟩
          · exact .inr (.inl rfl)
end Go.Proofs.Ytmeofjoamcghhaa
