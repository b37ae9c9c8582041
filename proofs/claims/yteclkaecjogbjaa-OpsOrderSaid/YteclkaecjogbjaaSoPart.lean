/-
  Where two runs are parted so that both halves can be merged alone.
-/
import Derived.Test.YteclkaecjogbjaaSoMergeB
import Derived.Deep.CutRange
namespace Go.Proofs.Yteclkaecjogbjaa
open Go.RowKit Go.Sort

theorem Srt.up {L : Nat → OpV} {lo hi : Nat} {s : Nat → Nat} (h : Srt L lo hi s) {t u z : Nat} (h1 : lo ≤ t) (h2 : t ≤ u) (h3 : u < hi) (hz : Pc L (s u) z) : Pc L (s t) z := by
  rcases Nat.eq_or_lt_of_le h2 with e | e
  · subst e; exact hz
  · exact (h t u h1 e h3).trans hz
theorem Srt.dn {L : Nat → OpV} {lo hi : Nat} {s : Nat → Nat} (h : Srt L lo hi s) {t u z : Nat} (h1 : lo ≤ t) (h2 : t ≤ u) (h3 : u < hi) (hz : Pc L z (s t)) : Pc L z (s u) := by
  rcases Nat.eq_or_lt_of_le h2 with e | e
  · subst e; exact hz
  · exact hz.trans (h t u h1 e h3)

theorem rotR_at1 (s : Nat → Nat) {st m d en t : Nat} (h : en - m = d - st) (_hd : st ≤ d) (ht : t < st) : rotR s st m en t = s t := by unfold rotR; rw [if_neg (by omega), if_neg (by omega)]
theorem rotR_at2 (s : Nat → Nat) {st m d en t : Nat} (h : en - m = d - st) (ht : st ≤ t) (h' : t < d) : rotR s st m en t = s (t - st + m) := by unfold rotR; rw [if_pos (by omega)]
theorem rotR_at3 (s : Nat → Nat) {st m d en t : Nat} (h : en - m = d - st) (hd : st ≤ d) (ht : d ≤ t) (h' : t < en) : rotR s st m en t = s (t - (d - st)) := by unfold rotR; rw [if_neg (by omega), if_pos (by omega), h]
theorem rotR_at4 (s : Nat → Nat) {st m d en t : Nat} (h : en - m = d - st) (hd : st ≤ d) (hm : st ≤ m) (hme : m ≤ en) (ht : en ≤ t) : rotR s st m en t = s t := by unfold rotR; rw [if_neg (by omega), if_neg (by omega)]
theorem rotR_none1 (s : Nat → Nat) (m en : Nat) : rotR s m m en = s := by
  funext t; unfold rotR
  by_cases h : m ≤ t ∧ t < m + (en - m)
  · rw [if_pos h]; congr 1; omega
  · rw [if_neg h, if_neg (by omega)]
theorem rotR_none2 (s : Nat → Nat) (st m : Nat) : rotR s st m m = s := by
  funext t; unfold rotR
  rw [if_neg (by omega)]
  by_cases h : st + (m - m) ≤ t ∧ t < m
  · rw [if_pos h]; congr 1; omega
  · rw [if_neg h]

/-- The two runs parted at st and en: what is ahead of st or from m to en - 1 comes ahead of all else. -/
structure Part (L : Nat → OpV) (s : Nat → Nat) (a m b d st en : Nat) : Prop where
  num : a ≤ st ∧ st ≤ m ∧ st ≤ d ∧ m ≤ en ∧ en ≤ b ∧ a < d ∧ d < b ∧ d ≤ en ∧ en - m = d - st ∧ en - d = m - st
  ad : ∀ t u, a ≤ t → t < st → en ≤ u → u < b → Pc L (s t) (s u)
  cb : ∀ t u, m ≤ t → t < en → st ≤ u → u < m → Pc L (s t) (s u)

theorem Part.of {L : Nat → OpV} {s : Nat → Nat} {a m b d e p st0 r0 st en : Nat} (ham : a < m) (hmb : m < b) (_h0 : m ≠ a + 1) (_h1 : b ≠ m + 1) (hl : Srt L a m s) (hr : Srt L m b s) (hd : d = (a + b) / 2) (he : e = d + m) (hp : p = e - 1)
    (hS : d < m ∧ st0 = e - b ∧ r0 = d ∨ m ≤ d ∧ st0 = a ∧ r0 = m) (hs0 : st0 ≤ st) (hs1 : st ≤ r0) (F1 : ∀ c, st0 ≤ c → c < st → Pc L (s c) (s (p - c))) (F2 : ∀ c, st ≤ c → c < r0 → Pc L (s (p - c)) (s c)) (hen : en = e - st) : Part L s a m b d st en := by
  refine ⟨by omega, fun t u g1 g2 g3 g4 => ?_, fun t u g1 g2 g3 g4 => ?_⟩
  · rcases Nat.eq_or_lt_of_le hs0 with h | h
    · exfalso; omega
    · have := F1 (st - 1) (by omega) (by omega)
      rw [show p - (st - 1) = en by omega] at this
      exact hl.up (u := st - 1) g1 (by omega) (by omega) (hr.dn (t := en) (by omega) g3 g4 this)
  · rcases Nat.eq_or_lt_of_le hs1 with h | h
    · exfalso; omega
    · have := F2 st (Nat.le_refl _) h
      rw [show p - st = en - 1 by omega] at this
      exact hr.up (u := en - 1) g1 (by omega) (by omega) (hl.dn (t := st) (by omega) g3 g4 this)

theorem Part.cross {L : Nat → OpV} {s : Nat → Nat} {a m b d st en : Nat} (h : Part L s a m b d st en) (hl : Srt L a m s) (hr : Srt L m b s) {t u : Nat} (g1 : a ≤ t) (g2 : t < d) (g3 : d ≤ u) (g4 : u < b) : Pc L (rotR s st m en t) (rotR s st m en u) := by
  obtain ⟨n1, n2, n3, n4, n5, n6, n7, n8, n9, n10⟩ := h.num
  by_cases ht : t < st
  · rw [rotR_at1 s n9 n3 ht]
    by_cases hu : u < en
    · rw [rotR_at3 s n9 n3 g3 hu]; exact hl _ _ g1 (by omega) (by omega)
    · rw [rotR_at4 s n9 n3 n2 n4 (by omega)]; exact h.ad _ _ g1 ht (by omega) g4
  · rw [rotR_at2 s n9 (by omega) g2]
    by_cases hu : u < en
    · rw [rotR_at3 s n9 n3 g3 hu]; exact h.cb _ _ (by omega) (by omega) (by omega) (by omega)
    · rw [rotR_at4 s n9 n3 n2 n4 (by omega)]; exact hr _ _ (by omega) (by omega) g4
theorem Part.sa {L : Nat → OpV} {s : Nat → Nat} {a m b d st en : Nat} (h : Part L s a m b d st en) (hl : Srt L a m s) : Srt L a st (rotR s st m en) := by
  obtain ⟨n1, n2, n3, n4, n5, n6, n7, n8, n9, n10⟩ := h.num
  intro t u g1 g2 g3
  rw [rotR_at1 s n9 n3 (by omega), rotR_at1 s n9 n3 g3]; exact hl _ _ g1 g2 (by omega)
theorem Part.sc {L : Nat → OpV} {s : Nat → Nat} {a m b d st en : Nat} (h : Part L s a m b d st en) (hr : Srt L m b s) : Srt L st d (rotR s st m en) := by
  obtain ⟨n1, n2, n3, n4, n5, n6, n7, n8, n9, n10⟩ := h.num
  intro t u g1 g2 g3
  rw [rotR_at2 s n9 g1 (by omega), rotR_at2 s n9 (by omega) g3]; exact hr _ _ (by omega) (by omega) (by omega)
theorem Part.sb {L : Nat → OpV} {s : Nat → Nat} {a m b d st en : Nat} (h : Part L s a m b d st en) (hl : Srt L a m s) : Srt L d en (rotR s st m en) := by
  obtain ⟨n1, n2, n3, n4, n5, n6, n7, n8, n9, n10⟩ := h.num
  intro t u g1 g2 g3
  rw [rotR_at3 s n9 n3 g1 (by omega), rotR_at3 s n9 n3 (by omega) g3]; exact hl _ _ (by omega) (by omega) (by omega)
theorem Part.sd {L : Nat → OpV} {s : Nat → Nat} {a m b d st en : Nat} (h : Part L s a m b d st en) (hr : Srt L m b s) : Srt L en b (rotR s st m en) := by
  obtain ⟨n1, n2, n3, n4, n5, n6, n7, n8, n9, n10⟩ := h.num
  intro t u g1 g2 g3
  rw [rotR_at4 s n9 n3 n2 n4 g1, rotR_at4 s n9 n3 n2 n4 (by omega)]; exact hr _ _ (by omega) g2 g3
theorem Part.xac {L : Nat → OpV} {s : Nat → Nat} {a m b d st en : Nat} (h : Part L s a m b d st en) (hx : ∀ t u, a ≤ t → t < m → m ≤ u → u < b → s t < s u) (t u : Nat) (g1 : a ≤ t) (g2 : t < st) (g3 : st ≤ u) (g4 : u < d) : rotR s st m en t < rotR s st m en u := by
  obtain ⟨n1, n2, n3, n4, n5, n6, n7, n8, n9, n10⟩ := h.num
  rw [rotR_at1 s n9 n3 g2, rotR_at2 s n9 g3 g4]; exact hx _ _ g1 (by omega) (by omega) (by omega)
theorem Part.xbd {L : Nat → OpV} {s : Nat → Nat} {a m b d st en : Nat} (h : Part L s a m b d st en) (hx : ∀ t u, a ≤ t → t < m → m ≤ u → u < b → s t < s u) (t u : Nat) (g1 : d ≤ t) (g2 : t < en) (g3 : en ≤ u) (g4 : u < b) : rotR s st m en t < rotR s st m en u := by
  obtain ⟨n1, n2, n3, n4, n5, n6, n7, n8, n9, n10⟩ := h.num
  rw [rotR_at3 s n9 n3 g1 g2, rotR_at4 s n9 n3 n2 n4 g3]; exact hx _ _ (by omega) (by omega) (by omega) g4

theorem srt_join {L : Nat → OpV} {s1 s2 s3 : Nat → Nat} {a d b : Nat} (hc : ∀ t u, a ≤ t → t < d → d ≤ u → u < b → Pc L (s1 t) (s1 u)) (p2 : Per a d s1 s2) (h2 : Srt L a d s2) (p3 : Per d b s2 s3) (h3 : Srt L d b s3) : Srt L a b s3 := by
  intro t u g1 g2 g3
  by_cases ht : t < d
  · rw [p3.out (t := t) (.inl ht)]
    by_cases hu : u < d
    · rw [p3.out (t := u) (.inl hu)]; exact h2 _ _ g1 g2 hu
    · obtain ⟨x, x1, x2, x3⟩ := p2.mem (t := t) g1 ht
      obtain ⟨y, y1, y2, y3⟩ := p3.mem (t := u) (by omega) g3
      rw [x3, y3, p2.out (t := y) (.inr y1)]
      exact hc _ _ x1 x2 y1 y2
  · exact h3 _ _ (by omega) g2 g3
end Go.Proofs.Yteclkaecjogbjaa
