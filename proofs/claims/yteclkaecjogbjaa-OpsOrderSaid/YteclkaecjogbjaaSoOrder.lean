/-
  The order of places by stamp and, where stamps are one, by place; runs that rise by it.
-/
import Derived.Test.YteclkaecjogbjaaSoRotate
namespace Go.Proofs.Yteclkaecjogbjaa
open Go.RowKit Go.Sort

def cmpL (L : Nat → OpV) (x y : Nat) : Int := cmpS (L x).n (L x).r (L y).n (L y).r
def Pc (L : Nat → OpV) (x y : Nat) : Prop := ((L x).n < (L y).n ∨ (L x).n = (L y).n ∧ (L x).r < (L y).r) ∨ (L x).n = (L y).n ∧ (L x).r = (L y).r ∧ x < y
theorem cmpL_neg {L : Nat → OpV} {x y : Nat} : cmpL L x y < 0 ↔ (L x).n < (L y).n ∨ (L x).n = (L y).n ∧ (L x).r < (L y).r := by
  unfold cmpL
  rw [← cmpS_lt]
  rcases cmpS_one (L x).n (L x).r (L y).n (L y).r with ⟨h, _, _⟩ | ⟨h, _, _⟩ | ⟨h, _, _⟩ <;> rw [h] <;> decide
theorem Pc.trans {L : Nat → OpV} {x y z : Nat} (h : Pc L x y) (h' : Pc L y z) : Pc L x z := by unfold Pc at *; omega
theorem Pc.irr {L : Nat → OpV} {x : Nat} (h : Pc L x x) : False := by unfold Pc at h; omega
theorem Pc.of_neg {L : Nat → OpV} {x y : Nat} (h : cmpL L x y < 0) : Pc L x y := .inl (cmpL_neg.mp h)
theorem Pc.of_not {L : Nat → OpV} {x y : Nat} (h : ¬ cmpL L x y < 0) (hl : y < x) : Pc L y x := by rw [cmpL_neg] at h; unfold Pc; omega
theorem Pc.neg {L : Nat → OpV} {x y : Nat} (h : Pc L x y) (hl : y < x) : cmpL L x y < 0 := by rw [cmpL_neg]; unfold Pc at h; omega
theorem Pc.not_neg {L : Nat → OpV} {x y : Nat} (h : Pc L y x) : ¬ cmpL L x y < 0 := by rw [cmpL_neg]; unfold Pc at h; omega

/-- lo to hi - 1 rise. -/
def Srt (L : Nat → OpV) (lo hi : Nat) (s : Nat → Nat) : Prop := ∀ t u, lo ≤ t → t < u → u < hi → Pc L (s t) (s u)
theorem Srt.mono {L : Nat → OpV} {lo hi lo' hi' : Nat} {s : Nat → Nat} (h : Srt L lo hi s) (hl : lo ≤ lo') (hh : hi' ≤ hi) : Srt L lo' hi' s := fun t u h1 h2 h3 => h t u (by omega) h2 (by omega)
theorem Srt.congr {L : Nat → OpV} {lo hi : Nat} {s s' : Nat → Nat} (h : Srt L lo hi s) (he : ∀ t, lo ≤ t → t < hi → s' t = s t) : Srt L lo hi s' := fun t u h1 h2 h3 => by rw [he t h1 (by omega), he u (by omega) h3]; exact h t u h1 h2 h3

/-- lo to hi - 1 rise but for what stands at j, which is behind none that follows it and comes last of all places. -/
structure Slip (L : Nat → OpV) (lo hi j : Nat) (s : Nat → Nat) : Prop where
  rest : ∀ t u, lo ≤ t → t < u → u < hi → t ≠ j → u ≠ j → Pc L (s t) (s u)
  ahead : ∀ u, j < u → u < hi → Pc L (s j) (s u)
  last : ∀ u, lo ≤ u → u < hi → u ≠ j → s u < s j
theorem Slip.start {L : Nat → OpV} {lo i : Nat} {s : Nat → Nat} (h : Srt L lo i s) (hl : ∀ u, lo ≤ u → u < i → s u < s i) : Slip L lo (i + 1) i s :=
  ⟨fun t u h1 h2 h3 h4 h5 => h t u h1 h2 (by omega), fun u h1 h2 => by omega, fun u h1 h2 h3 => hl u h1 (by omega)⟩
theorem Slip.done {L : Nat → OpV} {lo hi j : Nat} {s : Nat → Nat} (h : Slip L lo hi j s) (hj : j < hi) (hd : lo < j → ¬ cmpL L (s j) (s (j - 1)) < 0) : Srt L lo hi s := by
  intro t u h1 h2 h3
  by_cases e : t = j
  · subst e; exact h.ahead u h2 h3
  by_cases e' : u = j
  · subst e'
    have hp : Pc L (s (u - 1)) (s u) := Pc.of_not (hd (by omega)) (h.last _ (by omega) (by omega) (by omega))
    by_cases e2 : t = u - 1
    · subst e2; exact hp
    · exact (h.rest t (u - 1) h1 (by omega) (by omega) e (by omega)).trans hp
  · exact h.rest t u h1 h2 h3 e e'
theorem Slip.step {L : Nat → OpV} {lo hi j : Nat} {s : Nat → Nat} (h : Slip L lo hi j s) (hj : j < hi) (hl : lo < j) (hd : cmpL L (s j) (s (j - 1)) < 0) : Slip L lo hi (j - 1) (swf s j (j - 1)) := by
  have hp := Pc.of_neg hd
  have e1 : swf s j (j - 1) (j - 1) = s j := by unfold swf; rw [if_pos rfl]
  have e2 : swf s j (j - 1) j = s (j - 1) := by unfold swf; rw [if_neg (by omega), if_pos rfl]
  have e3 : ∀ t, t ≠ j → t ≠ j - 1 → swf s j (j - 1) t = s t := fun t h1 h2 => by unfold swf; rw [if_neg h2, if_neg h1]
  refine ⟨fun t u h1 h2 h3 h4 h5 => ?_, fun u h1 h2 => ?_, fun u h1 h2 h3 => ?_⟩
  · by_cases e : t = j
    · subst e; rw [e2, e3 u (by omega) h5]; exact h.rest (t - 1) u (by omega) (by omega) h3 (by omega) (by omega)
    · rw [e3 t e h4]
      by_cases e' : u = j
      · subst e'; rw [e2]; exact h.rest t (u - 1) h1 (by omega) (by omega) e (by omega)
      · rw [e3 u e' h5]; exact h.rest t u h1 h2 h3 e e'
  · rw [e1]
    by_cases e : u = j
    · subst e; rw [e2]; exact hp
    · rw [e3 u e (by omega)]; exact h.ahead u (by omega) h2
  · rw [e1]
    by_cases e : u = j
    · subst e; rw [e2]; exact h.last _ (by omega) (by omega) (by omega)
    · rw [e3 u e h3]; exact h.last u h1 h2 e
end Go.Proofs.Yteclkaecjogbjaa
