/-
  The program's disk and the document's: both have come through the same, and tell the same, over losses of power. (The walk of the law's helper is the one part that speaks of the program.)
-/
import Derived.Test.YtpkiapjcilapoaaFaKept
import Derived.Test.YtpkiapjcilapoaaFiCutNum
import Derived.Sort.KeysCollected
import Derived.Test.YtpkiapjcilapoaaFaHeld
import Derived.Lib.QuietBelow
namespace Go.Proofs.Ytpkiapjcilapoaa
open Go.RowKit Go.Sort Go.Maps

/-! Where steps stand in all that was done, and what is durable of them. No program in here. -/
/-- At which calls such steps were done: those ahead of base count as none. -/
def posF (p : FStep → Bool) (base : Nat) : Nat → List FStep → List Nat
  | _, [] => []
  | k, s :: t => if p s = true then (k + 1 - base) :: posF p base (k + 1) t else posF p base (k + 1) t
def posW (p : FStep → Bool) (base : Nat) (L : List FStep) : List Nat := posF p base 0 L

theorem posF_append (p : FStep → Bool) (base : Nat) : ∀ (A B : List FStep) (k : Nat), posF p base k (A ++ B) = posF p base k A ++ posF p base (k + A.length) B
  | [], B, k => by simp [posF]
  | s :: t, B, k => by
    have ih := posF_append p base t B (k + 1)
    rw [List.cons_append, posF, posF, List.length_cons, ih, show k + 1 + t.length = k + (t.length + 1) by omega]
    split <;> simp
theorem posF_len (p : FStep → Bool) (base : Nat) : ∀ (L : List FStep) (k : Nat), (posF p base k L).length = (L.filter p).length
  | [], k => by simp [posF]
  | s :: t, k => by
    have ih := posF_len p base t (k + 1)
    rw [posF, List.filter_cons]
    split
    · rw [List.length_cons, List.length_cons, ih]
    · exact ih
theorem posF_till (p : FStep → Bool) (base c : Nat) : ∀ (L : List FStep) (k : Nat), tillN (posF p base k L) c = ((L.take (base + c - k)).filter p).length
  | [], k => by simp [posF, tillN]
  | s :: t, k => by
    have ih := posF_till p base c t (k + 1)
    rcases Nat.lt_or_ge k (base + c) with h | h
    · have e : base + c - k = (base + c - (k + 1)) + 1 := by omega
      rw [e, List.take_succ_cons, List.filter_cons, posF]
      split
      · rw [List.length_cons, ← ih]
        unfold tillN
        rw [List.countP_cons]
        have : decide (k + 1 - base ≤ c) = true := decide_eq_true (by omega)
        rw [if_pos this]
      · exact ih
    · have e : base + c - k = 0 := by omega
      have e2 : base + c - (k + 1) = 0 := by omega
      rw [e2, List.take_zero, List.filter_nil, List.length_nil] at ih
      rw [e, List.take_zero, List.filter_nil, List.length_nil, posF]
      split
      · unfold tillN at ih ⊢
        rw [List.countP_cons, ih]
        have : ¬ decide (k + 1 - base ≤ c) = true := by simp; omega
        rw [if_neg this]
      · exact ih
theorem posW_snoc (p : FStep → Bool) (base : Nat) (L : List FStep) (s : FStep) : posW p base (L ++ [s]) = posW p base L ++ (if p s = true then [L.length + 1 - base] else []) := by
  unfold posW
  rw [posF_append, Nat.zero_add]
  simp only [posF]
theorem posW_len (p : FStep → Bool) (base : Nat) (L : List FStep) : (posW p base L).length = (L.filter p).length := posF_len p base L 0
theorem posW_till (p : FStep → Bool) (base c : Nat) (L : List FStep) : tillN (posW p base L) c = ((L.take (base + c)).filter p).length := posF_till p base c L 0

/-- The last sync among the first steps. -/
theorem durN_pos {a sy : FStep → Bool} {base c : Nat} {A R : List FStep} {x : FStep} (hx : sy x = true) (hA : A.length < base + c) (hR : ∀ y ∈ R.take (base + c - (A.length + 1)), sy y = false) :
    durN (posW a base (A ++ x :: R)) (posW sy base (A ++ x :: R)) c = (((A ++ x :: R).take (base + (A.length + 1 - base))).filter a).length := by
  have hT : tillN (posW sy base (A ++ x :: R)) c = (A.filter sy).length + 1 := by
    rw [posW_till, List.take_append, List.take_of_length_le (by omega), List.filter_append, List.length_append]
    have e : base + c - A.length = (base + c - (A.length + 1)) + 1 := by omega
    rw [e, List.take_succ_cons, List.filter_cons, if_pos hx, List.length_cons]
    have e2 : (R.take (base + c - (A.length + 1))).filter sy = [] := List.filter_eq_nil_iff.2 (fun y hy => by rw [hR y hy]; simp)
    rw [e2]; rfl
  unfold durN
  rw [hT, if_neg (by omega)]
  have hg : (posW sy base (A ++ x :: R)).getD ((A.filter sy).length + 1 - 1) 0 = A.length + 1 - base := by
    unfold posW
    rw [posF_append, Nat.zero_add]
    have e : posF sy base A.length (x :: R) = (A.length + 1 - base) :: posF sy base (A.length + 1) R := by rw [posF, if_pos hx]
    rw [e, List.getD_eq_getElem?_getD, List.getElem?_append_right (by rw [posF_len]; omega), posF_len]
    simp
  rw [hg, posW_till]
theorem durN_none {a sy : FStep → Bool} {base c : Nat} {L : List FStep} (h : ∀ y ∈ L.take (base + c), sy y = false) : durN (posW a base L) (posW sy base L) c = 0 := by
  have hT : tillN (posW sy base L) c = 0 := by
    rw [posW_till, List.filter_eq_nil_iff.2 (fun y hy => by rw [h y hy]; simp)]; rfl
  unfold durN
  rw [if_pos hT]

/-- The last SyncNames from base on. -/
theorem safeN_spec (l : List FStep) (base : Nat) : ∀ n, n ≤ l.length → (∃ i, base ≤ i ∧ i < n ∧ safeN l base n = i ∧ (∃ s, l[i]? = some s ∧ s.kind = 6) ∧ ∀ j s, i < j → j < n → l[j]? = some s → s.kind ≠ 6) ∨ (safeN l base n = base ∧ ∀ j s, base ≤ j → j < n → l[j]? = some s → s.kind ≠ 6)
  | 0, _ => .inr ⟨rfl, fun j s h1 h2 => by omega⟩
  | n + 1, h => by
    obtain ⟨s, hs⟩ : ∃ s, l[n]? = some s := ⟨_, List.getElem?_eq_getElem (by omega)⟩
    have ih := safeN_spec l base n (by omega)
    have e : safeN l base (n + 1) = if base ≤ n ∧ s.kind = 6 then n else safeN l base n := by rw [safeN, hs]
    rw [e]
    by_cases hh : base ≤ n ∧ s.kind = 6
    · rw [if_pos hh]
      exact .inl ⟨n, hh.1, by omega, rfl, ⟨s, hs, hh.2⟩, fun j s' h1 h2 => by omega⟩
    · rw [if_neg hh]
      rcases ih with ⟨i, a1, a2, a3, a4, a5⟩ | ⟨a1, a2⟩
      · refine .inl ⟨i, a1, by omega, a3, a4, fun j s' h1 h2 h3 => ?_⟩
        rcases Nat.lt_or_ge j n with hj | hj
        · exact a5 j s' h1 hj h3
        · obtain rfl : j = n := by omega
          rw [hs] at h3
          injection h3 with h3
          subst h3
          exact fun e6 => hh ⟨by omega, e6⟩
      · refine .inr ⟨a1, fun j s' h1 h2 h3 => ?_⟩
        rcases Nat.lt_or_ge j n with hj | hj
        · exact a2 j s' h1 hj h3
        · obtain rfl : j = n := by omega
          rw [hs] at h3
          injection h3 with h3
          subst h3
          exact fun e6 => hh ⟨h1, e6⟩

theorem split_at {L : List FStep} {i : Nat} {s : FStep} (h : L[i]? = some s) : L = L.take i ++ s :: L.drop (i + 1) := by
  have hi := (List.getElem?_eq_some_iff.1 h).1
  have e := List.take_append_drop i L
  rw [List.drop_eq_getElem_cons hi] at e
  rw [List.getElem?_eq_getElem hi] at h
  injection h with h
  rw [h] at e
  exact e.symm

def syncN (s : FStep) : Bool := decide (s.kind = 6)
/-- How many changes of names are durable: as the document counts, and as the program does. -/
theorem durN_names {L : List FStep} {base c : Nat} (hb : base ≤ L.length) (hc : base + c ≤ L.length) (h6 : 0 < base → ∃ s, L[base - 1]? = some s ∧ s.kind = 6) :
    durN (posW chgF base L) (posW syncN base L) c = ((L.take (safeN (L.take (base + c)) base (base + c))).filter chgF).length ∧ base ≤ safeN (L.take (base + c)) base (base + c) ∧ safeN (L.take (base + c)) base (base + c) ≤ base + c := by
  obtain ⟨l, hl⟩ : ∃ l, L.take (base + c) = l := ⟨_, rfl⟩
  have hll : l.length = base + c := by rw [← hl, List.length_take]; omega
  have hat : ∀ j, j < base + c → l[j]? = L[j]? := fun j hj => by rw [← hl, List.getElem?_take, if_pos hj]
  rw [hl]
  have hle := safeN_le l base (base + c)
  refine ⟨?_, hle.1, hle.2 (by omega)⟩
  rcases safeN_spec l base (base + c) (by omega) with ⟨i, a1, a2, a3, ⟨s, a4, a6⟩, a5⟩ | ⟨a1, a2⟩
  · rw [a3]
    have hs : L[i]? = some s := by rw [← hat i a2]; exact a4
    have hsp := split_at hs
    have hil : i < L.length := by omega
    have hlen : (L.take i).length = i := by rw [List.length_take]; omega
    have hd := durN_pos (a := chgF) (sy := syncN) (base := base) (c := c) (A := L.take i) (R := L.drop (i + 1)) (x := s) (by simp [syncN, a6]) (by rw [hlen]; omega) (fun y hy => by
      rw [hlen] at hy
      obtain ⟨j, hj, rfl⟩ := List.mem_take_iff_getElem.1 hy
      rw [List.length_drop] at hj
      have h3 : l[i + 1 + j]? = some (L.drop (i + 1))[j] := by
        rw [hat _ (by omega), List.getElem_drop, List.getElem?_eq_getElem (by omega)]
      have := a5 (i + 1 + j) _ (by omega) (by omega) h3
      unfold syncN; exact decide_eq_false this)
    rw [← hsp, hlen, show base + (i + 1 - base) = i + 1 by omega] at hd
    rw [hd, take_snoc hs, List.filter_append, List.length_append]
    have : chgF s = false := by unfold chgF; exact decide_eq_false (by omega)
    simp [this]
  · rw [a1]
    rcases Nat.eq_zero_or_pos base with hb0 | hb0
    · subst hb0
      rw [durN_none (fun y hy => ?_)]
      · simp
      · obtain ⟨j, hj, rfl⟩ := List.mem_take_iff_getElem.1 hy
        have := a2 j L[j] (by omega) (by omega) (by rw [hat j (by omega), List.getElem?_eq_getElem (by omega)])
        simp [syncN, this]
    · obtain ⟨s, hs, h6'⟩ := h6 hb0
      have hsp := split_at hs
      have hlen : (L.take (base - 1)).length = base - 1 := by rw [List.length_take]; omega
      have hd := durN_pos (a := chgF) (sy := syncN) (base := base) (c := c) (A := L.take (base - 1)) (R := L.drop (base - 1 + 1)) (x := s) (by simp [syncN, h6']) (by rw [hlen]; omega) (fun y hy => by
        rw [hlen] at hy
        obtain ⟨j, hj, rfl⟩ := List.mem_take_iff_getElem.1 hy
        rw [List.length_drop] at hj
        have h3 : l[base - 1 + 1 + j]? = some (L.drop (base - 1 + 1))[j] := by
          rw [hat _ (by omega), List.getElem_drop, List.getElem?_eq_getElem (by omega)]
        have := a2 (base - 1 + 1 + j) _ (by omega) (by omega) h3
        unfold syncN; exact decide_eq_false this)
      rw [← hsp, hlen, show base + (base - 1 + 1 - base) = base by omega] at hd
      exact hd

theorem openN_is (l : List FStep) (safe : Nat) : ∀ n, n ≤ l.length → openN l safe n = (((l.take n).drop safe).filter chgF).length
  | 0, _ => by simp [openN]
  | n + 1, h => by
    obtain ⟨s, hs⟩ : ∃ s, l[n]? = some s := ⟨_, List.getElem?_eq_getElem (by omega)⟩
    have ih := openN_is l safe n (by omega)
    have e : openN l safe (n + 1) = if safe ≤ n ∧ chgF s = true then openN l safe n + 1 else openN l safe n := by rw [openN, hs]
    have hlen : (l.take n).length = n := by rw [List.length_take]; omega
    rw [e, take_snoc hs, List.drop_append, hlen, List.filter_append, List.length_append, ← ih]
    by_cases hn : safe ≤ n
    · rw [show safe - n = 0 by omega, List.drop_zero]
      by_cases hc : chgF s = true
      · rw [if_pos ⟨hn, hc⟩]; simp [hc]
      · rw [if_neg (fun h => hc h.2)]; simp [hc]
    · rw [if_neg (fun h => hn h.1), show safe - n = (safe - n - 1) + 1 by omega]
      simp

theorem namedF_still {s : FStep} (h : chgF s = false) (l : Nms) : namedF l s = l := by
  have := of_decide_eq_false h
  unfold namedF
  rw [if_neg (by omega), if_neg (by omega)]
theorem nowF_chg : ∀ (L : List FStep), nowF (L.filter chgF) = nowF L := by
  suffices h : ∀ (L : List FStep) (l : Nms), (L.filter chgF).foldl namedF l = L.foldl namedF l from fun L => h L []
  intro L
  induction L with
  | nil => intro l; rfl
  | cons s t ih =>
    intro l
    rw [List.filter_cons]
    split
    · rw [List.foldl_cons, List.foldl_cons, ih]
    · rename_i hs
      rw [ih, List.foldl_cons, namedF_still (by simpa using hs)]

/-- What comes through: the changes of names ahead of the last SyncNames, and so many behind it. -/
theorem thereN_is (l : List FStep) (safe n : Nat) (hsafe : safe ≤ l.length) : ∀ i, i ≤ l.length →
    thereN l safe n i = if i ≤ safe then (nowF (l.take i), n) else (nowF (((l.take i).filter chgF).take (((l.take safe).filter chgF).length + n)), n - (((l.take i).drop safe).filter chgF).length)
  | 0, _ => by simp [thereN, nowF]
  | i + 1, h => by
    obtain ⟨s, hs⟩ : ∃ s, l[i]? = some s := ⟨_, List.getElem?_eq_getElem (by omega)⟩
    have ih := thereN_is l safe n hsafe i (by omega)
    have hlen : (l.take i).length = i := by rw [List.length_take]; omega
    rcases Nat.lt_or_ge i safe with hi | hi
    · rw [if_pos (by omega)] at ih
      rw [thereN_step hs safe n ih, if_pos hi, if_pos (by omega), take_snoc hs, nowF_snoc]
    · have ih2 : thereN l safe n i = (nowF (((l.take i).filter chgF).take (((l.take safe).filter chgF).length + n)), n - (((l.take i).drop safe).filter chgF).length) := by
        rw [ih]
        split
        · obtain rfl : i = safe := by omega
          have e0 : (l.take i).drop i = [] := List.drop_eq_nil_of_le (by omega)
          rw [e0, List.take_of_length_le (Nat.le_add_right _ _), nowF_chg]
          simp
        · rfl
      have hsp : (l.take i).filter chgF = (l.take safe).filter chgF ++ ((l.take i).drop safe).filter chgF := by
        rw [← List.filter_append]
        congr 1
        have := (List.take_append_drop safe (l.take i)).symm
        rw [List.take_take, Nat.min_eq_left hi] at this
        exact this
      obtain ⟨C, hC⟩ : ∃ C, ((l.take safe).filter chgF).length = C := ⟨_, rfl⟩
      obtain ⟨U, hU⟩ : ∃ U, (((l.take i).drop safe).filter chgF).length = U := ⟨_, rfl⟩
      rw [hC, hU] at ih2
      have hlenF : ((l.take i).filter chgF).length = C + U := by rw [hsp, List.length_append, hC, hU]
      rw [thereN_step hs safe n ih2, if_neg (show ¬ i < safe by omega), if_neg (show ¬ i + 1 ≤ safe by omega), hC, take_snoc hs, List.filter_append, List.drop_append, hlen, List.filter_append, List.length_append, hU, show safe - i = 0 by omega, List.drop_zero]
      by_cases hc : chgF s = true
      · have ef : [s].filter chgF = [s] := by simp [hc]
        rw [ef]
        by_cases hm : 0 < n - U
        · rw [if_pos ⟨hc, hm⟩, List.take_append, List.take_of_length_le (by omega), List.take_of_length_le (l := [s]) (by simp; omega), nowF_snoc]
          congr 1
        · rw [if_neg (fun h => hm h.2), List.take_append, hlenF, show C + n - (C + U) = 0 by omega, List.take_zero, List.append_nil]
          congr 1
          simp; omega
      · have ef : [s].filter chgF = [] := by simp [hc]
        rw [ef, if_neg (fun h => hc h.1), List.append_nil]
        congr 1
theorem take_mid2 {α : Type} (l : List α) {D T m : Nat} (h : D ≤ T) (hm : m ≤ T - D) : l.take D ++ ((l.take T).drop D).take m = l.take (D + m) := by
  rw [List.take_drop, List.take_take]
  have e : l.take D = ((l.take (min (D + m) T)).take D) := by rw [List.take_take]; congr 1; omega
  rw [e, List.take_append_drop]
  congr 1; omega

/-! The names of both disks are the same. No program in here. -/
theorem findF_mem : ∀ {l : Nms} {x : ByteArray} {j : Nat}, findF l x = (j : Int) → (x, j) ∈ l
  | [], x, j, h => by simp [findF] at h
  | p :: t, x, j, h => by
    rw [findF] at h
    split at h
    · rename_i e
      have : p.2 = j := by omega
      rw [← e, ← this]; simp
    · exact List.mem_cons_of_mem _ (findF_mem h)
theorem findF_none : ∀ {l : Nms} {x : ByteArray}, findF l x = -1 → ∀ j, (x, j) ∉ l
  | [], x, _, j => by simp
  | p :: t, x, h, j => by
    rw [findF] at h
    split at h
    · omega
    · rename_i e
      intro hm
      rcases List.mem_cons.1 hm with hm | hm
      · exact e (by rw [← hm])
      · exact findF_none h j hm
theorem mem_findF {l : Nms} {x : ByteArray} {j : Nat} (hnd : (l.map (·.1)).Nodup) (h : (x, j) ∈ l) : findF l x = (j : Int) := by
  induction l with
  | nil => cases h
  | cons p t ih =>
    rw [findF]
    rw [List.map_cons, List.nodup_cons] at hnd
    rcases List.mem_cons.1 h with e | e
    · rw [← e]; simp
    · rw [if_neg, ih hnd.2 e]
      intro e2
      exact hnd.1 (List.mem_map.2 ⟨(x, j), e, e2.symm⟩)
theorem one_file {l : Nms} (hnd : (l.map (·.1)).Nodup) {x : ByteArray} {j k : Nat} (h : (x, j) ∈ l) (h' : (x, k) ∈ l) : j = k := by
  have a := mem_findF hnd h
  have b := mem_findF hnd h'
  omega
theorem one_name {l : Nms} (hnf : (l.map (·.2)).Nodup) {x y : ByteArray} {j : Nat} (h : (x, j) ∈ l) (h' : (y, j) ∈ l) : x = y := by
  induction l with
  | nil => cases h
  | cons p t ih =>
    rw [List.map_cons, List.nodup_cons] at hnf
    rcases List.mem_cons.1 h with e | e
    · rcases List.mem_cons.1 h' with e' | e'
      · have := e.trans e'.symm; injection this
      · exact absurd (List.mem_map.2 ⟨(y, j), e', by rw [← e]⟩) hnf.1
    · rcases List.mem_cons.1 h' with e' | e'
      · exact absurd (List.mem_map.2 ⟨(x, j), e, by rw [← e']⟩) hnf.1
      · exact ih hnf.2 e e'

/-- The names of both disks: the program's map, the document's list; qs: where the files lie, by their numbers. -/
structure NR (qs : List Nat) (D : DW) (l : Nms) : Prop where
  find : ∀ x q, fileAt D x = some q ↔ ∃ j, (x, j) ∈ l ∧ qs[j]? = some q
  nd : (l.map (·.1)).Nodup
  nf : (l.map (·.2)).Nodup
  lt : ∀ p ∈ l, p.2 < qs.length
  ne : ∀ p ∈ l, p.1 ≠ ByteArray.empty

section
variable {qs : List Nat} {D : DW} {l : Nms}
theorem NR.new : NR [] (.map []) [] := ⟨fun x q => ⟨fun h => absurd (h.symm.trans (fileAt_nil x)) (by simp), fun ⟨j, h, _⟩ => by cases h⟩, by simp, by simp, by simp, by simp⟩
theorem NR.some_iff (h : NR qs D l) (x : ByteArray) (q : Nat) : fileAt D x = some q ↔ ∃ j : Nat, findF l x = (j : Int) ∧ qs[j]? = some q := by
  rw [h.find]
  constructor
  · rintro ⟨j, a, b⟩; exact ⟨j, mem_findF h.nd a, b⟩
  · rintro ⟨j, a, b⟩; exact ⟨j, findF_mem a, b⟩
theorem NR.none_iff (h : NR qs D l) (x : ByteArray) : fileAt D x = none ↔ findF l x = -1 := by
  constructor
  · intro e
    rcases findF_ways l x with hh | ⟨j, hh⟩
    · exact hh
    · have hm := findF_mem hh
      have hlt := h.lt _ hm
      have := (h.find x qs[j]).2 ⟨j, hm, List.getElem?_eq_getElem hlt⟩
      rw [e] at this; cases this
  · intro e
    cases hf : fileAt D x with
    | none => rfl
    | some q =>
      obtain ⟨j, hj, _⟩ := (h.find x q).1 hf
      exact absurd hj (findF_none e j)
theorem NR.more (h : NR qs D l) (q : Nat) : NR (qs ++ [q]) D l := by
  refine ⟨fun x q' => ?_, h.nd, h.nf, fun p hp => by have := h.lt p hp; simp; omega, h.ne⟩
  rw [h.find]
  constructor
  · rintro ⟨j, a, b⟩; exact ⟨j, a, by rw [List.getElem?_append_left (h.lt _ a)]; exact b⟩
  · rintro ⟨j, a, b⟩; exact ⟨j, a, by rw [List.getElem?_append_left (h.lt _ a)] at b; exact b⟩
theorem apartF_mem {l : Nms} {f : Nat} {n x : ByteArray} {j : Nat} : (x, j) ∈ apartF l f n ↔ (x, j) ∈ l ∧ j ≠ f ∧ x ≠ n := by
  unfold apartF; rw [List.mem_filter]; simp
theorem withoutF_mem {l : Nms} {n x : ByteArray} {j : Nat} : (x, j) ∈ withoutF l n ↔ (x, j) ∈ l ∧ x ≠ n := by
  unfold withoutF; rw [List.mem_filter]; simp
theorem filter_map_nodup {α β : Type} {l : List α} {f : α → β} (p : α → Bool) (h : (l.map f).Nodup) : ((l.filter p).map f).Nodup := h.sublist ((List.filter_sublist).map f)
theorem nodup_snoc {α : Type} {l : List α} {x : α} (h : l.Nodup) (hx : x ∉ l) : (l ++ [x]).Nodup := by
  rw [List.nodup_append]
  exact ⟨h, by simp, fun a ha b hb => by simp at hb; subst hb; exact fun e => hx (e ▸ ha)⟩

/-- A name for a file: behind it, the file has it alone, and it has the file. -/
theorem NR.put (h : NR qs D l) (hD : IsMap D) {q j : Nat} {old nm : ByteArray} (hq : qs[j]? = some q) (hold : ∀ x, (x, j) ∈ l → x = old) (holds : old = ByteArray.empty ∨ (old, j) ∈ l) (hne : nm ≠ ByteArray.empty) :
    NR qs (doN D ⟨q, old, nm⟩) (apartF l j nm ++ [(nm, j)]) := by
  have hmem : ∀ x k, (x, k) ∈ apartF l j nm ++ [(nm, j)] ↔ ((x, k) ∈ l ∧ k ≠ j ∧ x ≠ nm) ∨ (x = nm ∧ k = j) := fun x k => by
    rw [List.mem_append, apartF_mem]; simp
  refine ⟨fun x q' => ?_, ?_, ?_, fun p hp => ?_, fun p hp => ?_⟩
  · rw [fileAt_doN hD]
    by_cases hx : x = nm
    · rw [if_pos ⟨hx, hne⟩]
      constructor
      · intro e
        injection e with e
        exact ⟨j, (hmem _ _).2 (.inr ⟨hx, rfl⟩), by rw [← e]; exact hq⟩
      · rintro ⟨k, a, b⟩
        rcases (hmem _ _).1 a with ⟨_, _, e⟩ | ⟨_, e⟩
        · exact absurd hx e
        · rw [e, hq] at b; exact b
    · rw [if_neg (fun e => hx e.1)]
      by_cases ho : x = old
      · rw [if_pos ho]
        constructor
        · intro e; cases e
        · rintro ⟨k, a, b⟩
          rcases (hmem _ _).1 a with ⟨e1, e2, _⟩ | ⟨e, _⟩
          · rcases holds with e3 | e3
            · exact absurd (ho.trans e3) (h.ne _ e1)
            · rw [ho] at e1
              exact absurd (one_file h.nd e1 e3) e2
          · exact absurd e hx
      · rw [if_neg ho, h.find]
        constructor
        · rintro ⟨k, a, b⟩
          refine ⟨k, (hmem _ _).2 (.inl ⟨a, fun e => ?_, hx⟩), b⟩
          rw [e] at a
          exact ho (hold x a)
        · rintro ⟨k, a, b⟩
          rcases (hmem _ _).1 a with ⟨e1, _, _⟩ | ⟨e, _⟩
          · exact ⟨k, e1, b⟩
          · exact absurd e hx
  · rw [List.map_append]
    refine nodup_snoc (filter_map_nodup _ h.nd) (fun hm => ?_)
    obtain ⟨p, hp, e⟩ := List.mem_map.1 hm
    obtain ⟨x, k⟩ := p
    exact (apartF_mem.1 hp).2.2 e
  · rw [List.map_append]
    refine nodup_snoc (filter_map_nodup _ h.nf) (fun hm => ?_)
    obtain ⟨p, hp, e⟩ := List.mem_map.1 hm
    obtain ⟨x, k⟩ := p
    exact (apartF_mem.1 hp).2.1 e
  · obtain ⟨x, k⟩ := p
    rcases (hmem _ _).1 hp with ⟨e, _⟩ | ⟨_, e⟩
    · exact h.lt _ e
    · show k < _
      rw [e]; exact (List.getElem?_eq_some_iff.1 hq).1
  · obtain ⟨x, k⟩ := p
    rcases (hmem _ _).1 hp with ⟨e, _⟩ | ⟨e, _⟩
    · exact h.ne _ e
    · show x ≠ _
      rw [e]; exact hne
theorem NR.make (h : NR qs D l) (hD : IsMap D) {nm : ByteArray} (hne : nm ≠ ByteArray.empty) (q : Nat) (s : FStep) (h1 : s.kind = 1) (h2 : s.file = qs.length) (h3 : s.name = nm) : NR (qs ++ [q]) (doN D ⟨q, ByteArray.empty, nm⟩) (namedF l s) := by
  unfold namedF
  rw [if_pos (.inl h1), h2, h3]
  refine (h.more q).put hD (by simp) (fun x hm => ?_) (.inl rfl) hne
  exact absurd (h.lt _ hm) (Nat.lt_irrefl _)
theorem NR.rename (h : NR qs D l) (hD : IsMap D) {old nm : ByteArray} {j q : Nat} (hj : findF l old = (j : Int)) (hq : qs[j]? = some q) (hne : nm ≠ ByteArray.empty) (s : FStep) (h1 : s.kind = 3) (h2 : s.file = j) (h3 : s.name = nm) : NR qs (doN D ⟨q, old, nm⟩) (namedF l s) := by
  unfold namedF
  rw [if_pos (.inr h1), h2, h3]
  exact h.put hD hq (fun x hm => one_name h.nf hm (findF_mem hj)) (.inr (findF_mem hj)) hne
theorem NR.remove (h : NR qs D l) (hD : IsMap D) {nm : ByteArray} (q : Nat) (s : FStep) (h1 : s.kind = 4) (h3 : s.name = nm) : NR qs (doN D ⟨q, nm, ByteArray.empty⟩) (namedF l s) := by
  unfold namedF
  rw [if_neg (by omega), if_pos h1, h3]
  refine ⟨fun x q' => ?_, filter_map_nodup _ h.nd, filter_map_nodup _ h.nf, fun p hp => h.lt p (List.mem_filter.1 hp).1, fun p hp => h.ne p (List.mem_filter.1 hp).1⟩
  rw [fileAt_doN hD, if_neg (fun e => e.2 rfl)]
  by_cases hx : x = nm
  · rw [if_pos hx]
    constructor
    · intro e; cases e
    · rintro ⟨k, a, b⟩; exact absurd hx (withoutF_mem.1 a).2
  · rw [if_neg hx, h.find]
    constructor
    · rintro ⟨k, a, b⟩; exact ⟨k, withoutF_mem.2 ⟨a, hx⟩, b⟩
    · rintro ⟨k, a, b⟩; exact ⟨k, (withoutF_mem.1 a).1, b⟩
end

def bytesN (x : List UInt8) : ByteArray := ⟨x.toArray⟩
/-- The names themselves, in whatever order. -/
theorem NR.perm {qs : List Nat} {nam : List Nam} {l : Nms} (h : NR qs (namesOf nam) l) : ((namesL (namesOf nam)).map bytesN).Perm (l.map (·.1)) := by
  have hinj : ∀ x y : List UInt8, bytesN x = bytesN y → x = y := fun x y e => by
    have := congrArg (fun b : ByteArray => b.data.toList) e
    simpa [bytesN] using this
  refine (List.perm_ext_iff_of_nodup ?_ h.nd).2 (fun x => ?_)
  · rw [List.nodup_iff_pairwise_ne, List.pairwise_map]
    exact (List.nodup_iff_pairwise_ne.1 (namesL_nodup nam)).imp (fun hab e => hab (hinj _ _ e))
  · rw [List.mem_map, List.mem_map]
    constructor
    · rintro ⟨y, hy, rfl⟩
      obtain ⟨q, hq⟩ := (named_iff _ y).1 hy
      obtain ⟨j, hj, _⟩ := (h.find _ q).1 hq
      exact ⟨_, hj, rfl⟩
    · rintro ⟨⟨y, j⟩, hp, rfl⟩
      have hlt := h.lt _ hp
      have := (h.find y qs[j]).2 ⟨j, hp, List.getElem?_eq_getElem hlt⟩
      refine ⟨y.data.toList, (named_iff _ _).2 ⟨_, by simpa using this⟩, by simp [bytesN]⟩
theorem NR.size {qs : List Nat} {nam : List Nam} {l : Nms} (h : NR qs (namesOf nam) l) : Maps.size (namesOf nam) = l.length := by
  have h1 := h.perm.length_eq
  rw [List.length_map, List.length_map] at h1
  obtain ⟨es, he, _⟩ := strung_names nam
  rw [← h1, he]
  simp [namesL, strKeys, size_eq]

/-! What is left of a file: as the program reckons, and as the document does. No program in here. -/
def appN (j : Nat) (s : FStep) : Bool := decide (s.kind = 2 ∧ s.file = j)
def syN (j : Nat) (s : FStep) : Bool := decide (s.kind = 5 ∧ s.file = j)

theorem filter_prefix {α : Type} (p : α → Bool) (L : List α) (n : Nat) : (L.filter p).take ((L.take n).filter p).length = (L.take n).filter p := by
  have e : L.filter p = (L.take n).filter p ++ (L.drop n).filter p := by rw [← List.filter_append, List.take_append_drop]
  rw [e, List.take_append, List.take_of_length_le (Nat.le_refl _), Nat.sub_self, List.take_zero, List.append_nil]
theorem filter_rest {α : Type} (p : α → Bool) (L : List α) (n : Nat) : (L.filter p).drop ((L.take n).filter p).length = (L.drop n).filter p := by
  have e : L.filter p = (L.take n).filter p ++ (L.drop n).filter p := by rw [← List.filter_append, List.take_append_drop]
  rw [e, List.drop_append, List.drop_of_length_le (Nat.le_refl _), Nat.sub_self, List.drop_zero, List.nil_append]
theorem filter_same {α : Type} (p : α → Bool) (L : List α) {i n : Nat} (h : i ≤ n) (hno : ∀ j x, i ≤ j → j < n → L[j]? = some x → p x = false) : (L.take n).filter p = (L.take i).filter p := by
  have e := (List.take_append_drop i (L.take n)).symm
  rw [List.take_take, Nat.min_eq_left h] at e
  rw [e, List.filter_append]
  have : ((L.take n).drop i).filter p = [] := List.filter_eq_nil_iff.2 (fun y hy => by
    obtain ⟨k, hk, rfl⟩ := List.mem_iff_getElem.1 hy
    rw [List.length_drop, List.length_take] at hk
    have h3 : L[i + k]? = some ((L.take n).drop i)[k] := by
      rw [List.getElem_drop, List.getElem_take, List.getElem?_eq_getElem (by omega)]
    rw [hno (i + k) _ (by omega) (by omega) h3]; simp)
  rw [this, List.append_nil]

theorem safeF_spec (l : List FStep) (f : Nat) : ∀ n, n ≤ l.length → (∃ i, i < n ∧ safeF l f n = i ∧ (∃ s, l[i]? = some s ∧ syN f s = true) ∧ ∀ j s, i < j → j < n → l[j]? = some s → syN f s = false) ∨ (safeF l f n = 0 ∧ ∀ j s, j < n → l[j]? = some s → syN f s = false)
  | 0, _ => .inr ⟨rfl, fun j s h1 => by omega⟩
  | n + 1, h => by
    obtain ⟨s, hs⟩ : ∃ s, l[n]? = some s := ⟨_, List.getElem?_eq_getElem (by omega)⟩
    have ih := safeF_spec l f n (by omega)
    rw [safeF_step hs]
    by_cases hh : s.kind = 5 ∧ s.file = f
    · rw [if_pos hh]
      exact .inl ⟨n, by omega, rfl, ⟨s, hs, decide_eq_true hh⟩, fun j s' h1 h2 => by omega⟩
    · rw [if_neg hh]
      have hsy : syN f s = false := decide_eq_false hh
      have hlast : ∀ s', l[n]? = some s' → syN f s' = false := fun s' h3 => by
        rw [hs] at h3
        injection h3 with h3
        rw [← h3]; exact hsy
      rcases ih with ⟨i, a2, a3, a4, a5⟩ | ⟨a1, a2⟩
      · refine .inl ⟨i, by omega, a3, a4, fun j s' h1 h2 h3 => ?_⟩
        rcases Nat.lt_or_ge j n with hj | hj
        · exact a5 j s' h1 hj h3
        · obtain rfl : j = n := by omega
          exact hlast s' h3
      · refine .inr ⟨a1, fun j s' h2 h3 => ?_⟩
        rcases Nat.lt_or_ge j n with hj | hj
        · exact a2 j s' hj h3
        · obtain rfl : j = n := by omega
          exact hlast s' h3

/-- What came ahead of base is durable. -/
def BaseCalm (L : List FStep) (base : Nat) : Prop := ∀ j i s, i < base → L[i]? = some s → appN j s = true → ∃ i' s', i < i' ∧ i' < base ∧ L[i']? = some s' ∧ syN j s' = true

theorem durN_file {L : List FStep} {base c j : Nat} (hc : base + c ≤ L.length) (hcalm : BaseCalm L base) :
    durN (posW (appN j) base L) (posW (syN j) base L) c = (((L.take (base + c)).take (safeF (L.take (base + c)) j (base + c))).filter (appN j)).length := by
  obtain ⟨l, hl⟩ : ∃ l, L.take (base + c) = l := ⟨_, rfl⟩
  have hll : l.length = base + c := by rw [← hl, List.length_take]; omega
  have hat : ∀ j, j < base + c → l[j]? = L[j]? := fun j hj => by rw [← hl, List.getElem?_take, if_pos hj]
  rw [hl]
  rcases safeF_spec l j (base + c) (by omega) with ⟨i, a2, a3, ⟨s, a4, a6⟩, a5⟩ | ⟨a1, a2⟩
  · rw [a3]
    have hs : L[i]? = some s := by rw [← hat i a2]; exact a4
    have hsp := split_at hs
    have hil : i < L.length := by omega
    have hlen : (L.take i).length = i := by rw [List.length_take]; omega
    have hd := durN_pos (a := appN j) (sy := syN j) (base := base) (c := c) (A := L.take i) (R := L.drop (i + 1)) (x := s) a6 (by rw [hlen]; omega) (fun y hy => by
      rw [hlen] at hy
      obtain ⟨k, hk, rfl⟩ := List.mem_take_iff_getElem.1 hy
      rw [List.length_drop] at hk
      have h3 : l[i + 1 + k]? = some (L.drop (i + 1))[k] := by
        rw [hat _ (by omega), List.getElem_drop, List.getElem?_eq_getElem (by omega)]
      exact a5 (i + 1 + k) _ (by omega) (by omega) h3)
    rw [← hsp, hlen] at hd
    have hli : l.take i = L.take i := by rw [← hl, List.take_take, Nat.min_eq_left (by omega)]
    rw [hd, hli]
    congr 1
    refine filter_same (appN j) L (by omega) (fun k x h1 h2 h3 => ?_)
    rcases Nat.eq_or_lt_of_le h1 with e | e
    · subst e
      rw [hs] at h3
      injection h3 with h3
      subst h3
      have := of_decide_eq_true a6
      exact decide_eq_false (by omega)
    · cases ha : appN j x with
      | false => rfl
      | true =>
        obtain ⟨i', s', b1, b2, b3, b4⟩ := hcalm j k x (by omega) h3 ha
        have := a5 i' s' (by omega) (by omega) (by rw [hat i' (by omega)]; exact b3)
        rw [this] at b4; cases b4
  · rw [a1, durN_none (fun y hy => ?_)]
    · simp
    · rw [hl] at hy
      obtain ⟨k, hk, rfl⟩ := List.mem_iff_getElem.1 hy
      exact a2 k _ (by omega) (List.getElem?_eq_getElem hk)

/-- The fold of the document, as the program's. -/
theorem leftF_is (l : List FStep) (j : Nat) (keep : List Bool) (torn : Int) (safe : Nat) (hsafe : safe ≤ l.length) : ∀ i, i ≤ l.length →
    leftF l j keep torn safe i = if i ≤ safe then ((((l.take i).filter (appN j)).map (·.b)).flatten, 0, (((l.take i).filter (appN j)).map (·.b)).flatten.length)
      else ((leftN (((l.drop safe).filter (appN j)).map (·.b)) keep torn (((l.take safe).filter (appN j)).map (·.b)).flatten (((l.take i).drop safe).filter (appN j)).length).1, (((l.take i).drop safe).filter (appN j)).length, (leftN (((l.drop safe).filter (appN j)).map (·.b)) keep torn (((l.take safe).filter (appN j)).map (·.b)).flatten (((l.take i).drop safe).filter (appN j)).length).2)
  | 0, _ => by simp [leftF]
  | i + 1, h => by
    obtain ⟨s, hs⟩ : ∃ s, l[i]? = some s := ⟨_, List.getElem?_eq_getElem (by omega)⟩
    have ih := leftF_is l j keep torn safe hsafe i (by omega)
    have hlen : (l.take i).length = i := by rw [List.length_take]; omega
    rcases Nat.lt_or_ge i safe with hi | hi
    · rw [if_pos (by omega)] at ih
      rw [leftF_step hs j keep torn safe ih, if_pos (show i + 1 ≤ safe by omega), if_pos hi, take_snoc hs, List.filter_append]
      by_cases ha : s.kind = 2 ∧ s.file = j
      · have ha2 : appN j s = true := decide_eq_true ha
        rw [if_pos ha]
        simp [ha2]
      · have ha2 : appN j s = false := decide_eq_false ha
        rw [if_neg ha]
        simp [ha2]
    · obtain ⟨U, hU⟩ : ∃ U, ((l.drop safe).filter (appN j)).map (·.b) = U := ⟨_, rfl⟩
      obtain ⟨b0, hb0⟩ : ∃ b0, (((l.take safe).filter (appN j)).map (·.b)).flatten = b0 := ⟨_, rfl⟩
      obtain ⟨m, hm⟩ : ∃ m, (((l.take i).drop safe).filter (appN j)).length = m := ⟨_, rfl⟩
      have ih2 : leftF l j keep torn safe i = ((leftN U keep torn b0 m).1, m, (leftN U keep torn b0 m).2) := by
        rw [ih]
        split
        · obtain rfl : i = safe := by omega
          have e0 : (l.take i).drop i = [] := List.drop_eq_nil_of_le (by omega)
          rw [e0] at hm
          have hm0 : m = 0 := by rw [← hm]; rfl
          subst hm0
          rw [hb0]; rfl
        · rw [hU, hb0, hm]
      rw [hU, hb0]
      obtain ⟨⟨o, e⟩, hr⟩ : ∃ r, leftN U keep torn b0 m = r := ⟨_, rfl⟩
      rw [hr] at ih2
      rw [leftF_step hs j keep torn safe ih2, if_neg (show ¬ i + 1 ≤ safe by omega), if_neg (show ¬ i < safe by omega), take_snoc hs, List.drop_append, hlen, show safe - i = 0 by omega, List.drop_zero, List.filter_append, List.length_append, hm]
      by_cases ha : s.kind = 2 ∧ s.file = j
      · have ha2 : appN j s = true := decide_eq_true ha
        have ef : [s].filter (appN j) = [s] := by simp [ha2]
        have hUm : U[m]? = some s.b := by
          have e1 : (l.drop safe).filter (appN j) = ((l.take i).drop safe).filter (appN j) ++ (l.drop i).filter (appN j) := by
            rw [← List.filter_append]
            congr 1
            have := congrArg (List.drop safe) (List.take_append_drop i l).symm
            rw [List.drop_append, hlen, show safe - i = 0 by omega, List.drop_zero] at this
            exact this
          have e2 : l.drop i = s :: l.drop (i + 1) := by
            have hil := (List.getElem?_eq_some_iff.1 hs).1
            rw [List.drop_eq_getElem_cons hil]
            rw [List.getElem?_eq_getElem hil] at hs
            injection hs with hs
            rw [hs]
          rw [← hU, List.getElem?_map, e1, List.getElem?_append_right (by omega), hm, Nat.sub_self, e2, List.filter_cons, if_pos ha2]
          rfl
        rw [if_pos ha, ef, List.length_singleton, leftN_step hUm keep torn b0 hr]
        split <;> rfl
      · have ha2 : appN j s = false := decide_eq_false ha
        have ef : [s].filter (appN j) = [] := by simp [ha2]
        rw [if_neg ha, ef, List.length_nil, Nat.add_zero, hr]

/-- A file of both disks. -/
structure FileR (base : Nat) (L : List FStep) (j : Nat) (f : CFile) : Prop where
  ks : f.ks = posW (appN j) base L
  ss : f.ss = posW (syN j) base L
  parts : f.parts.map (·.2) = (L.filter (appN j)).map (·.b)

theorem allParts_map (l : List (Value × List Nat)) : allParts l = (l.map (·.2)).flatten := by unfold allParts; rw [List.flatMap_def]
theorem FileR.left {base : Nat} {L : List FStep} {j : Nat} {f : CFile} (h : FileR base L j f) (hcalm : BaseCalm L base) {c : Nat} (hc : base + c ≤ L.length) (keep : List Bool) (torn : Int) : leftK f c keep torn = leftS (L.take (base + c)) j keep torn := by
  have hdur := durN_file (j := j) hc hcalm
  obtain ⟨l, hl⟩ : ∃ l, L.take (base + c) = l := ⟨_, rfl⟩
  have hll : l.length = base + c := by rw [← hl, List.length_take]; omega
  have htill : tillN f.ks c = (l.filter (appN j)).length := by rw [h.ks, posW_till, hl]
  rw [hl] at hdur ⊢
  rw [← h.ks, ← h.ss] at hdur
  obtain ⟨safe, hsf⟩ : ∃ safe, safeF l j (base + c) = safe := ⟨_, rfl⟩
  have hsle : safe ≤ l.length := by rw [← hsf, hll]; exact safeF_le _ _ _
  rw [hsf] at hdur
  have hpt : ∀ n, n ≤ (l.filter (appN j)).length → (f.parts.take n).map (·.2) = ((l.filter (appN j)).map (·.b)).take n := fun n hn => by
    rw [List.map_take, h.parts, ← hl]
    have := filter_prefix (appN j) L (base + c)
    rw [hl] at this ⊢
    rw [← List.map_take, ← List.map_take, ← this, List.take_take, Nat.min_eq_left hn]
  have hD : ((l.take safe).filter (appN j)).length ≤ (l.filter (appN j)).length := by
    have e := (List.take_append_drop safe l)
    have := congrArg (fun x => (x.filter (appN j)).length) e
    simp only [List.filter_append, List.length_append] at this
    omega
  have hop : (openP f c).map (·.2) = ((l.drop safe).filter (appN j)).map (·.b) := by
    unfold openP
    rw [List.map_drop, htill, hpt _ (Nat.le_refl _), List.take_of_length_le (l := (l.filter (appN j)).map (·.b)) (by simp), hdur, ← List.map_drop, filter_rest]
  have hop2 : (openP f c).length = ((l.drop safe).filter (appN j)).length := by
    have := congrArg List.length hop
    simpa using this
  have hall : allParts (f.parts.take (durN f.ks f.ss c)) = (((l.take safe).filter (appN j)).map (·.b)).flatten := by
    rw [allParts_map, hdur, hpt _ hD, ← List.map_take, filter_prefix]
  unfold leftK leftS
  dsimp only
  have hF := leftF_is l j keep torn safe hsle l.length (Nat.le_refl _)
  rw [hop, hop2, hall, hll, hsf]
  rw [hll] at hF
  rw [hF]
  have hlt : l.take (base + c) = l := List.take_of_length_le (by omega)
  rw [hlt]
  split
  · have : l.drop safe = [] := List.drop_eq_nil_of_le (by omega)
    have hst : l.take safe = l := List.take_of_length_le (by omega)
    rw [this, hst]
    rfl
  · rfl

/-! The program's disk and the document's: one and the same. No program in here. -/
/-- Both disks have come through the same; qs: where the files lie, by their numbers. -/
structure Sim (d : CDisk) (L : List FStep) (born base : Nat) (qs : List Nat) : Prop where
  ble : base ≤ L.length
  calls : d.calls = L.length - base
  num : qs.length = born
  nodup : qs.Nodup
  ks : d.ks = posW chgF base L
  ss : d.ss = posW syncN base L
  len : d.nam.length = (L.filter chgF).length
  names : ∀ k, ((L.take base).filter chgF).length ≤ k → k ≤ (L.filter chgF).length → NR qs (namesOf (d.nam.take k)) (nowF ((L.filter chgF).take k))
  files : ∀ j q, qs[j]? = some q → ∃ f ∈ d.fs, f.q = q ∧ FileR base L j f
  sync6 : 0 < base → ∃ s, L[base - 1]? = some s ∧ s.kind = 6
  calm : BaseCalm L base
  few : ∀ s ∈ L, s.kind = 2 ∨ s.kind = 5 → s.file < born

theorem sim_new : Sim newDisk [] 0 0 [] := ⟨Nat.le_refl _, rfl, rfl, by simp, rfl, rfl, rfl, fun k _ h => by
  obtain rfl : k = 0 := by simpa using h
  exact NR.new, fun j q h => by simp at h, fun h => absurd h (Nat.lt_irrefl _), fun j i s h => by omega, fun s hs => by cases hs⟩

section
variable {d : CDisk} {L : List FStep} {born base : Nat} {qs : List Nat}
/-- The names now. -/
theorem Sim.now (h : Sim d L born base qs) : NR qs (namesOf d.nam) (nowF L) := by
  have hle : ((L.take base).filter chgF).length ≤ (L.filter chgF).length := by
    have := congrArg (fun x => (x.filter chgF).length) (List.take_append_drop base L)
    simp only [List.filter_append, List.length_append] at this
    omega
  have := h.names _ hle (Nat.le_refl _)
  rw [List.take_of_length_le (Nat.le_refl _), nowF_chg, List.take_of_length_le (by rw [h.len]; exact Nat.le_refl _)] at this
  exact this
theorem take_base (hb : base ≤ L.length) (s : FStep) : (L ++ [s]).take base = L.take base := by
  rw [List.take_append, show base - L.length = 0 by omega, List.take_zero, List.append_nil]
theorem calm_more (hb : base ≤ L.length) (h : BaseCalm L base) (s : FStep) : BaseCalm (L ++ [s]) base := fun j i x hi hx ha => by
  rw [List.getElem?_append_left (by omega)] at hx
  obtain ⟨i', s', h1, h2, h3, h4⟩ := h j i x hi hx ha
  exact ⟨i', s', h1, h2, by rw [List.getElem?_append_left (by omega)]; exact h3, h4⟩
theorem sync6_more (hb : base ≤ L.length) (h : 0 < base → ∃ s, L[base - 1]? = some s ∧ s.kind = 6) (s : FStep) : 0 < base → ∃ x, (L ++ [s])[base - 1]? = some x ∧ x.kind = 6 := fun h0 => by
  obtain ⟨x, h1, h2⟩ := h h0
  exact ⟨x, by rw [List.getElem?_append_left (by omega)]; exact h1, h2⟩
/-- A file that the step does not touch. -/
theorem FileR.other {j : Nat} {f : CFile} (h : FileR base L j f) {s : FStep} (h1 : appN j s = false) (h2 : syN j s = false) : FileR base (L ++ [s]) j f := by
  refine ⟨?_, ?_, ?_⟩
  · rw [posW_snoc, h1, h.ks]; simp
  · rw [posW_snoc, h2, h.ss]; simp
  · rw [List.filter_append, h.parts]; simp [h1]

/-- A step that changes the names. -/
theorem Sim.chg (h : Sim d L born base qs) {qs' : List Nat} {fs' : List CFile} {mb : Option Nat} {cv kv : Value} {a : Nam} {s : FStep} (hc : chgF s = true) (hq : ∀ D l, NR qs D l → NR qs' D l) (hn : qs'.Nodup) (hle2 : qs.length ≤ qs'.length) (hN : NR qs' (doN (namesOf d.nam) a) (namedF (nowF L) s))
    (hf : ∀ j q, qs'[j]? = some q → ∃ f ∈ fs', f.q = q ∧ FileR base L j f) : Sim (changed { tick d with fs := fs' } mb cv kv a) (L ++ [s]) qs'.length base qs' := by
  have hb := h.ble
  have hk : s.kind = 1 ∨ s.kind = 3 ∨ s.kind = 4 := of_decide_eq_true hc
  have hle : ((L.take base).filter chgF).length ≤ (L.filter chgF).length := by
    have := congrArg (fun x => (x.filter chgF).length) (List.take_append_drop base L)
    simp only [List.filter_append, List.length_append] at this
    omega
  have ef : (L ++ [s]).filter chgF = L.filter chgF ++ [s] := by rw [List.filter_append]; simp [hc]
  refine ⟨by simp; omega, ?_, rfl, hn, ?_, ?_, ?_, fun k h1 h2 => ?_, fun j q hj => ?_, sync6_more hb h.sync6 s, calm_more hb h.calm s, fun x hx hx2 => ?_⟩
  · show d.calls + 1 = _; rw [h.calls]; simp; omega
  · show d.ks ++ [d.calls + 1] = _
    rw [posW_snoc, hc, h.ks, h.calls, if_pos rfl]
    congr 2; omega
  · show d.ss = _
    have : syncN s = false := decide_eq_false (by omega)
    rw [posW_snoc, this, h.ss]; simp
  · show (d.nam ++ [a]).length = _
    rw [ef, List.length_append, List.length_append, h.len]; rfl
  · show NR qs' (namesOf ((d.nam ++ [a]).take k)) _
    rw [take_base hb s] at h1
    rw [ef] at h2 ⊢
    rw [List.length_append, List.length_singleton] at h2
    rcases Nat.lt_or_ge k ((L.filter chgF).length + 1) with hk1 | hk1
    · rw [List.take_append, show k - d.nam.length = 0 by rw [h.len]; omega, List.take_append, show k - (L.filter chgF).length = 0 by omega]
      simp only [List.take_zero, List.append_nil]
      exact hq _ _ (h.names k h1 (by omega))
    · rw [List.take_of_length_le (by rw [List.length_append, h.len]; simp; omega), List.take_of_length_le (by rw [List.length_append]; simp; omega), namesOf_snoc, nowF_snoc, nowF_chg]
      exact hN
  · obtain ⟨f, a1, a2, a3⟩ := hf j q hj
    exact ⟨f, a1, a2, a3.other (decide_eq_false (by omega)) (decide_eq_false (by omega))⟩
  · rcases List.mem_append.1 hx with hx | hx
    · have := h.few x hx hx2; have := h.num; omega
    · simp at hx; subst hx; omega

/-- A step that changes a file. -/
theorem Sim.put (h : Sim d L born base qs) {A B : List CFile} {f f' : CFile} {j : Nat} {s : FStep} (hAB : d.fs = A ++ f :: B) (hf : f'.q = f.q) (hj : qs[j]? = some f.q) (hk : s.kind = 2 ∨ s.kind = 5) (hs : s.file = j) (hR : FileR base L j f → FileR base (L ++ [s]) j f') (h1f : ∀ g ∈ d.fs, g.q = f.q → g = f) :
    Sim { tick d with fs := A ++ f' :: B } (L ++ [s]) born base qs := by
  have hb := h.ble
  have hc : chgF s = false := decide_eq_false (by omega)
  have h6 : syncN s = false := decide_eq_false (by omega)
  have ef : (L ++ [s]).filter chgF = L.filter chgF := by rw [List.filter_append]; simp [hc]
  refine ⟨by simp; omega, ?_, h.num, h.nodup, ?_, ?_, ?_, fun k h1 h2 => ?_, fun i q hi => ?_, sync6_more hb h.sync6 s, calm_more hb h.calm s, fun x hx hx2 => ?_⟩
  · show d.calls + 1 = _; rw [h.calls]; simp; omega
  · show d.ks = _; rw [posW_snoc, hc, h.ks]; simp
  · show d.ss = _; rw [posW_snoc, h6, h.ss]; simp
  · show d.nam.length = _; rw [ef, h.len]
  · show NR qs (namesOf (d.nam.take k)) _
    rw [take_base hb s] at h1
    rw [ef] at h2 ⊢
    exact h.names k h1 h2
  · obtain ⟨g, a1, a2, a3⟩ := h.files i q hi
    by_cases e : i = j
    · subst e
      rw [hi] at hj
      injection hj with hj
      have eg := h1f g a1 (by rw [a2, hj])
      subst eg
      exact ⟨f', by simp, by rw [hf, a2], hR a3⟩
    · refine ⟨g, ?_, a2, a3.other (decide_eq_false (by omega)) (decide_eq_false (by omega))⟩
      have hne : g ≠ f := fun e2 => by
        subst e2
        rw [← a2] at hi
        have l1 := (List.getElem?_eq_some_iff.1 hi)
        have l2 := (List.getElem?_eq_some_iff.1 hj)
        obtain ⟨p1, e1⟩ := l1
        obtain ⟨p2, e2⟩ := l2
        exact e ((List.getElem_inj h.nodup).1 (e1.trans e2.symm))
      rw [hAB, List.mem_append, List.mem_cons] at a1
      rcases a1 with a1 | a1 | a1
      · simp [a1]
      · exact absurd a1 hne
      · simp [a1]
  · rcases List.mem_append.1 hx with hx | hx
    · exact h.few x hx hx2
    · simp at hx; subst hx; rw [hs, ← h.num]; exact (List.getElem?_eq_some_iff.1 hj).1
/-- SyncNames. -/
theorem Sim.sync (h : Sim d L born base qs) (sv : Value) (s : FStep) (h6 : s.kind = 6) : Sim (syncedN (tick d) sv) (L ++ [s]) born base qs := by
  have hb := h.ble
  have hc : chgF s = false := decide_eq_false (by omega)
  have hs : syncN s = true := decide_eq_true h6
  have ef : (L ++ [s]).filter chgF = L.filter chgF := by rw [List.filter_append]; simp [hc]
  refine ⟨by simp; omega, ?_, h.num, h.nodup, ?_, ?_, ?_, fun k h1 h2 => ?_, fun i q hi => ?_, sync6_more hb h.sync6 s, calm_more hb h.calm s, fun x hx hx2 => ?_⟩
  · show d.calls + 1 = _; rw [h.calls]; simp; omega
  · show d.ks = _; rw [posW_snoc, hc, h.ks]; simp
  · show d.ss ++ [d.calls + 1] = _
    rw [posW_snoc, hs, h.ss, h.calls, if_pos rfl]
    congr 2; omega
  · show d.nam.length = _; rw [ef, h.len]
  · show NR qs (namesOf (d.nam.take k)) _
    rw [take_base hb s] at h1
    rw [ef] at h2 ⊢
    exact h.names k h1 h2
  · obtain ⟨g, a1, a2, a3⟩ := h.files i q hi
    exact ⟨g, a1, a2, a3.other (decide_eq_false (by omega)) (decide_eq_false (by omega))⟩
  · rcases List.mem_append.1 hx with hx | hx
    · exact h.few x hx hx2
    · simp at hx; subst hx; omega

theorem FileR.held {j : Nat} {f : CFile} (h : FileR base L j f) : f.all = heldF L j := by
  unfold CFile.all heldF
  rw [List.flatMap_def, h.parts, List.flatMap_def]
  rfl
theorem Sim.find (h : Sim d L born base qs) {x : ByteArray} {j : Nat} (hj : findF (nowF L) x = (j : Int)) : ∃ q f, qs[j]? = some q ∧ findK d x = some q ∧ f ∈ d.fs ∧ f.q = q ∧ FileR base L j f := by
  have hm := findF_mem hj
  have hlt := h.now.lt _ hm
  have hq : qs[j]? = some qs[j] := List.getElem?_eq_getElem hlt
  obtain ⟨f, a1, a2, a3⟩ := h.files j _ hq
  exact ⟨_, f, hq, (h.now.find x _).2 ⟨j, hm, hq⟩, a1, a2, a3⟩
theorem Sim.none (h : Sim d L born base qs) {x : ByteArray} (hj : findF (nowF L) x = -1) : findK d x = none := (h.now.none_iff x).2 hj

theorem FileR.appended {j : Nat} {f : CFile} (h : FileR base L j f) {s : FStep} (hs : s.kind = 2) (hf : s.file = j) (cv kv v : Value) {c : Nat} (hc : c = L.length + 1 - base) : FileR base (L ++ [s]) j (partMore f cv kv v s.b c) := by
  have h1 : appN j s = true := decide_eq_true ⟨hs, hf⟩
  have h2 : syN j s = false := decide_eq_false (by omega)
  refine ⟨?_, ?_, ?_⟩
  · show f.ks ++ [c] = _
    rw [posW_snoc, h1, h.ks, if_pos rfl, hc]
  · show f.ss = _
    rw [posW_snoc, h2, h.ss]; simp
  · show (f.parts ++ [(v, s.b)]).map (·.2) = _
    rw [List.map_append, h.parts, List.filter_append]
    simp [h1]
theorem FileR.synced {j : Nat} {f : CFile} (h : FileR base L j f) {s : FStep} (hs : s.kind = 5) (hf : s.file = j) (sv : Value) {c : Nat} (hc : c = L.length + 1 - base) : FileR base (L ++ [s]) j (syncedF f sv c) := by
  have h1 : appN j s = false := decide_eq_false (by omega)
  have h2 : syN j s = true := decide_eq_true ⟨hs, hf⟩
  refine ⟨?_, ?_, ?_⟩
  · show f.ks = _
    rw [posW_snoc, h1, h.ks]; simp
  · show f.ss ++ [c] = _
    rw [posW_snoc, h2, h.ss, if_pos rfl, hc]
  · show f.parts.map (·.2) = _
    rw [h.parts, List.filter_append]
    simp [h1]
theorem FileR.none_ {j : Nat} (q : Nat) (h : ∀ s ∈ L, s.kind = 2 ∨ s.kind = 5 → s.file ≠ j) : FileR base L j (newFile q) := by
  have ha : L.filter (appN j) = [] := List.filter_eq_nil_iff.2 (fun s hs e => by
    have := of_decide_eq_true e
    exact h s hs (by omega) this.2)
  have hy : L.filter (syN j) = [] := List.filter_eq_nil_iff.2 (fun s hs e => by
    have := of_decide_eq_true e
    exact h s hs (by omega) this.2)
  have e1 : posW (appN j) base L = [] := List.eq_nil_of_length_eq_zero (by rw [posW_len, ha]; rfl)
  have e2 : posW (syN j) base L = [] := List.eq_nil_of_length_eq_zero (by rw [posW_len, hy]; rfl)
  exact ⟨e1.symm, e2.symm, by rw [ha]; rfl⟩

/-- One act at both. -/
theorem Sim.act {n p N : Nat} {w : World} {d' : CDisk} {L' : List FStep} {born' e1 e2 : Nat} {kind : Int} {nm s : ByteArray} {b : List Nat} (h : Sim d L born base qs) (hd : DiskK n w p d) (hlt : ∀ f ∈ d.fs, f.q < N)
    (ha : ActK N kind nm s b d e1 d') (hr : ActR kind nm s b L born e2 L' born') : e1 = e2 ∧ ∃ qs', Sim d' L' born' base qs' := by
  have hnow := h.now
  have hsz := hnow.size
  have hbl := h.ble
  have hcl : d.calls + 1 = L.length + 1 - base := by rw [h.calls]; omega
  rcases ha with ⟨rfl, ha⟩ | ⟨rfl, ha⟩ | ⟨rfl, ha⟩ | ⟨rfl, ha⟩ | ⟨rfl, ha⟩ | ⟨rfl, ha⟩ | ⟨hk, rfl, rfl⟩
  · replace hr : (e2, L', born') = makeS L born nm := by
      rcases hr with ⟨_, hr⟩ | ⟨hx, _⟩ | ⟨hx, _⟩ | ⟨hx, _⟩ | ⟨hx, _⟩ | ⟨hx, _⟩ | ⟨hx, _⟩ <;> first | exact hr | omega
    unfold makeS at hr
    rcases ha with ⟨rfl, ha⟩ | ⟨rfl, hri, hno, h8, q, mb, cv, kv, hq, rfl⟩
    · rcases ha with ⟨hri, rfl⟩ | ⟨hri, ⟨q, hq⟩, rfl⟩ | ⟨hri, hno, h8, rfl⟩
      · rw [if_pos hri] at hr
        injection hr with r1 r2; injection r2 with r2 r3
        subst r1 r2 r3
        exact ⟨rfl, qs, h⟩
      · obtain ⟨j, hj, _⟩ := (hnow.some_iff nm q).1 hq
        rw [if_neg (by simp [hri]), if_pos (by omega)] at hr
        injection hr with r1 r2; injection r2 with r2 r3
        subst r1 r2 r3
        exact ⟨rfl, qs, h⟩
      · have hf := (hnow.none_iff nm).1 hno
        rw [if_neg (by simp [hri]), if_neg (by omega), if_pos (by omega)] at hr
        injection hr with r1 r2; injection r2 with r2 r3
        subst r1 r2 r3
        exact ⟨rfl, qs, h⟩
    · have hf := (hnow.none_iff nm).1 hno
      rw [if_neg (by simp [hri]), if_neg (by omega), if_neg (by omega)] at hr
      injection hr with r1 r2; injection r2 with r2 r3
      subst r1 r2 r3
      have hqn : q ∉ qs := fun hm => by
        obtain ⟨j, hj, e⟩ := List.mem_iff_getElem.1 hm
        obtain ⟨f, a1, a2, _⟩ := h.files j q (by rw [List.getElem?_eq_getElem hj, e])
        have := hlt f a1
        omega
      have hs := h.chg (qs' := qs ++ [q]) (fs' := d.fs ++ [newFile q]) (mb := mb) (cv := cv) (kv := kv) (a := ⟨q, ByteArray.empty, nm⟩) (s := plain 1 born nm) (by simp [chgF]) (fun D l hh => hh.more q) (nodup_snoc h.nodup hqn) (by simp)
        (hnow.make (isMap_names _) (right_ne hri) q (plain 1 born nm) rfl h.num.symm rfl) (fun j q' hj => by
          rcases Nat.lt_or_ge j qs.length with hl | hl
          · rw [List.getElem?_append_left hl] at hj
            obtain ⟨f, a1, a2, a3⟩ := h.files j q' hj
            exact ⟨f, List.mem_append_left _ a1, a2, a3⟩
          · rw [List.getElem?_append_right hl] at hj
            have hj0 : j - qs.length = 0 := by
              have := (List.getElem?_eq_some_iff.1 hj).1; simp at this; omega
            rw [hj0] at hj
            simp at hj
            subst hj
            refine ⟨newFile q, by simp, rfl, FileR.none_ q (fun x hx hk => ?_)⟩
            have := h.few x hx hk
            have := h.num
            omega)
      refine ⟨rfl, qs ++ [q], ?_⟩
      have e : (qs ++ [q]).length = born + 1 := by simp [h.num]
      rw [e] at hs
      exact hs
  · replace hr : AppendR nm b L e2 L' ∧ born' = born := by
      rcases hr with ⟨hx, _⟩ | ⟨_, hr⟩ | ⟨hx, _⟩ | ⟨hx, _⟩ | ⟨hx, _⟩ | ⟨hx, _⟩ | ⟨hx, _⟩ <;> first | exact hr | omega
    obtain ⟨hr, rfl⟩ := hr
    rcases hr with ⟨hf, rfl, rfl⟩ | ⟨j, hf, hb, rfl, rfl⟩ | ⟨j, bv, hf, hb, rfl, rfl⟩
    · have hno := h.none hf
      rcases ha with ⟨rfl, ⟨_, rfl⟩ | ⟨g, _, hg, _⟩⟩ | ⟨_, A, g, B, cv, kv, v, hg, _⟩
      · exact ⟨rfl, qs, h⟩
      · rw [hno] at hg; cases hg
      · rw [hno] at hg; cases hg
    · obtain ⟨q, f, a1, a2, a3, a4, a5⟩ := h.find hf
      rcases ha with ⟨rfl, ⟨hg, _⟩ | ⟨g, hgm, hg, _, rfl⟩⟩ | ⟨_, A, g, B, cv, kv, v, hg, hAB, hb2, _⟩
      · rw [a2] at hg; cases hg
      · exact ⟨rfl, qs, h⟩
      · rw [a2] at hg
        injection hg with hg
        have := file_oneK hd (f := f) (g := g) a3 (by rw [hAB]; simp) (by rw [a4, hg])
        subst this
        rw [a5.held] at hb2
        omega
    · obtain ⟨q, f, a1, a2, a3, a4, a5⟩ := h.find hf
      rcases ha with ⟨rfl, ⟨hg, _⟩ | ⟨g, hgm, hg, hb2, rfl⟩⟩ | ⟨rfl, A, g, B, cv, kv, v, hg, hAB, hb2, rfl⟩
      · rw [a2] at hg; cases hg
      · rw [a2] at hg
        injection hg with hg
        have := file_oneK hd (f := f) (g := g) a3 hgm (by rw [a4, hg])
        subst this
        rw [a5.held] at hb2
        omega
      · rw [a2] at hg
        injection hg with hg
        have := file_oneK hd (f := f) (g := g) a3 (by rw [hAB]; simp) (by rw [a4, hg])
        subst this
        refine ⟨rfl, qs, h.put (s := appendStep j bv b) hAB rfl (by rw [a4]; exact a1) (.inl rfl) rfl (fun hF => hF.appended (s := appendStep j bv b) rfl rfl cv kv v hcl) (fun g hg e => file_oneK hd hg a3 e)⟩
  · replace hr : (e2, L') = syncS L nm ∧ born' = born := by
      rcases hr with ⟨hx, _⟩ | ⟨hx, _⟩ | ⟨_, hr⟩ | ⟨hx, _⟩ | ⟨hx, _⟩ | ⟨hx, _⟩ | ⟨hx, _⟩ <;> first | exact hr | omega
    obtain ⟨hr, rfl⟩ := hr
    unfold syncS at hr
    rcases findF_ways (nowF L) nm with hf | ⟨j, hf⟩
    · rw [if_pos (by omega)] at hr
      injection hr with r1 r2; subst r1 r2
      have hno := h.none hf
      rcases ha with ⟨rfl, _, rfl⟩ | ⟨_, A, g, B, sv, hg, _⟩
      · exact ⟨rfl, qs, h⟩
      · rw [hno] at hg; cases hg
    · rw [if_neg (by omega), hf] at hr
      injection hr with r1 r2; subst r1 r2
      obtain ⟨q, f, a1, a2, a3, a4, a5⟩ := h.find hf
      rcases ha with ⟨rfl, hg, _⟩ | ⟨rfl, A, g, B, sv, hg, hAB, rfl⟩
      · rw [a2] at hg; cases hg
      · rw [a2] at hg
        injection hg with hg
        have := file_oneK hd (f := f) (g := g) a3 (by rw [hAB]; simp) (by rw [a4, hg])
        subst this
        exact ⟨rfl, qs, h.put (s := plain 5 ((j : Int)).toNat ByteArray.empty) hAB rfl (by rw [a4]; exact a1) (.inr rfl) (by simp) (fun hF => hF.synced (s := plain 5 ((j : Int)).toNat ByteArray.empty) rfl (by simp) sv hcl) (fun g hg e => file_oneK hd hg a3 e)⟩
  · replace hr : (e2, L') = renameS L nm s ∧ born' = born := by
      rcases hr with ⟨hx, _⟩ | ⟨hx, _⟩ | ⟨hx, _⟩ | ⟨_, hr⟩ | ⟨hx, _⟩ | ⟨hx, _⟩ | ⟨hx, _⟩ <;> first | exact hr | omega
    obtain ⟨hr, rfl⟩ := hr
    unfold renameS at hr
    rcases ha with ⟨rfl, ⟨hri, rfl⟩ | ⟨hri, hg, rfl⟩⟩ | ⟨rfl, hri, q, mb, cv, kv, hg, rfl⟩
    · rw [if_pos hri] at hr
      injection hr with r1 r2; subst r1 r2
      exact ⟨rfl, qs, h⟩
    · have hf := (hnow.none_iff nm).1 hg
      rw [if_neg (by simp [hri]), if_pos (by omega)] at hr
      injection hr with r1 r2; subst r1 r2
      exact ⟨rfl, qs, h⟩
    · obtain ⟨j, hf, hq⟩ := (hnow.some_iff nm q).1 hg
      rw [if_neg (by simp [hri]), if_neg (by omega), hf] at hr
      injection hr with r1 r2; subst r1 r2
      have hs := h.chg (qs' := qs) (fs' := d.fs) (mb := mb) (cv := cv) (kv := kv) (a := ⟨q, nm, s⟩) (s := plain 3 ((j : Int)).toNat s) (by simp [chgF]) (fun D l hh => hh) h.nodup (Nat.le_refl _)
        (hnow.rename (isMap_names _) hf hq (right_ne hri) (plain 3 ((j : Int)).toNat s) rfl (by simp) rfl) h.files
      rw [h.num] at hs
      exact ⟨rfl, qs, hs⟩
  · replace hr : (e2, L') = removeS L nm ∧ born' = born := by
      rcases hr with ⟨hx, _⟩ | ⟨hx, _⟩ | ⟨hx, _⟩ | ⟨hx, _⟩ | ⟨_, hr⟩ | ⟨hx, _⟩ | ⟨hx, _⟩ <;> first | exact hr | omega
    obtain ⟨hr, rfl⟩ := hr
    unfold removeS at hr
    rcases ha with ⟨rfl, hg, rfl⟩ | ⟨rfl, q, mb, cv, kv, hg, rfl⟩
    · have hf := (hnow.none_iff nm).1 hg
      rw [if_pos (by omega)] at hr
      injection hr with r1 r2; subst r1 r2
      exact ⟨rfl, qs, h⟩
    · obtain ⟨j, hf, hq⟩ := (hnow.some_iff nm q).1 hg
      rw [if_neg (by omega), hf] at hr
      injection hr with r1 r2; subst r1 r2
      have hs := h.chg (qs' := qs) (fs' := d.fs) (mb := mb) (cv := cv) (kv := kv) (a := ⟨q, nm, ByteArray.empty⟩) (s := plain 4 ((j : Int)).toNat nm) (by simp [chgF]) (fun D l hh => hh) h.nodup (Nat.le_refl _)
        (hnow.remove (isMap_names _) q (plain 4 ((j : Int)).toNat nm) rfl rfl) h.files
      rw [h.num] at hs
      exact ⟨rfl, qs, hs⟩
  · replace hr : e2 = 0 ∧ L' = L ++ [plain 6 0 ByteArray.empty] ∧ born' = born := by
      rcases hr with ⟨hx, _⟩ | ⟨hx, _⟩ | ⟨hx, _⟩ | ⟨hx, _⟩ | ⟨hx, _⟩ | ⟨_, hr⟩ | ⟨hx, _⟩ <;> first | exact hr | omega
    obtain ⟨rfl, rfl, rfl⟩ := hr
    obtain ⟨rfl, sv, rfl⟩ := ha
    exact ⟨rfl, qs, h.sync sv _ rfl⟩
  · replace hr : e2 = 0 ∧ L' = L ∧ born' = born := by
      rcases hr with ⟨hx, _⟩ | ⟨hx, _⟩ | ⟨hx, _⟩ | ⟨hx, _⟩ | ⟨hx, _⟩ | ⟨hx, _⟩ | ⟨_, hr⟩ <;> first | exact hr | omega
    obtain ⟨rfl, rfl, rfl⟩ := hr
    exact ⟨rfl, qs, h⟩
end

/-! A loss of power leaves the same at both disks. No program in here. -/
section
variable {d : CDisk} {L : List FStep} {born base : Nat} {qs : List Nat}
/-- The names that are there then. -/
theorem Sim.there (h : Sim d L born base qs) (at_ names : Int) : (cutT L base at_ names).1 = L.take (base + pickF at_ (d.calls + 1)) ∧ NR qs (namesOf (thereD d (pickF at_ (d.calls + 1)) names)) (cutT L base at_ names).2 ∧ ∃ k, ((L.take base).filter chgF).length ≤ k ∧ k ≤ (L.filter chgF).length ∧ (cutT L base at_ names).2 = nowF ((L.filter chgF).take k) := by
  have hb := h.ble
  have hc0 := pickF_lt at_ (show 0 < d.calls + 1 by omega)
  have ecal : L.length - base + 1 = d.calls + 1 := by rw [h.calls]
  unfold cutT
  rw [ecal]
  dsimp only
  obtain ⟨c, hc⟩ : ∃ c, pickF at_ (d.calls + 1) = c := ⟨_, rfl⟩
  rw [hc] at hc0 ⊢
  have hcl : base + c ≤ L.length := by have := h.calls; omega
  refine ⟨rfl, ?_⟩
  obtain ⟨d1, d2, d3⟩ := durN_names hb hcl h.sync6
  obtain ⟨l, hl⟩ : ∃ l, L.take (base + c) = l := ⟨_, rfl⟩
  have hll : l.length = base + c := by rw [← hl, List.length_take]; omega
  have htill : tillN d.ks c = (l.filter chgF).length := by rw [h.ks, posW_till, hl]
  rw [hl] at d1 d2 d3 ⊢
  rw [← h.ks, ← h.ss] at d1
  rw [hll]
  obtain ⟨safe, hsf⟩ : ∃ safe, safeN l base (base + c) = safe := ⟨_, rfl⟩
  rw [hsf] at d1 d2 d3 ⊢
  have hlt : ∀ n, n ≤ base + c → l.take n = L.take n := fun n hn => by rw [← hl, List.take_take, Nat.min_eq_left hn]
  rw [← hlt safe d3] at d1
  have hopen := openN_is l safe (base + c) (by omega)
  have hlall : l.take (base + c) = l := List.take_of_length_le (by omega)
  rw [hlall] at hopen
  obtain ⟨C, hC⟩ : ∃ C, ((l.take safe).filter chgF).length = C := ⟨_, rfl⟩
  obtain ⟨U, hU⟩ : ∃ U, ((l.drop safe).filter chgF).length = U := ⟨_, rfl⟩
  have hsum : (l.filter chgF).length = C + U := by
    have := congrArg (fun x => (x.filter chgF).length) (List.take_append_drop safe l)
    simp only [List.filter_append, List.length_append] at this
    omega
  have hpre : (L.filter chgF).take (l.filter chgF).length = l.filter chgF := by
    have := filter_prefix chgF L (base + c)
    rw [hl] at this; exact this
  have hlenL : (l.filter chgF).length ≤ (L.filter chgF).length := by
    have := congrArg List.length hpre
    rw [List.length_take] at this; omega
  rw [hU] at hopen
  rw [hC] at d1
  rw [hopen]
  have hn := pickF_lt names (show 0 < U + 1 by omega)
  have hoD : (openD d c).length = U := by
    unfold openD
    rw [htill, d1, List.length_drop, List.length_take, h.len]; omega
  have hthere : thereD d c names = d.nam.take (C + pickF names (U + 1)) := by
    unfold thereD
    rw [hoD]
    unfold openD
    rw [htill, d1]
    exact take_mid2 d.nam (by omega) (by omega)
  obtain ⟨n, hnn⟩ : ∃ n, pickF names (U + 1) = n := ⟨_, rfl⟩
  rw [hnn] at hn hthere ⊢
  have hT : (thereN l safe n (base + c)).1 = nowF ((L.filter chgF).take (C + n)) := by
    have e1 : (L.filter chgF).take (C + n) = (l.filter chgF).take (C + n) := by rw [← hpre, List.take_take, Nat.min_eq_left (by omega)]
    rw [e1, thereN_is l safe n (by omega) (base + c) (by omega), hlall, hC]
    split
    · have hs0 : l.take safe = l := List.take_of_length_le (by omega)
      rw [hs0] at hC
      rw [List.take_of_length_le (by omega), nowF_chg]
    · rfl
  rw [hthere, hT]
  have hkb : ((L.take base).filter chgF).length ≤ C + n := by
    have hbb : (L.take base) = (l.take safe).take base := by rw [List.take_take, Nat.min_eq_left d2, hlt base (by omega)]
    rw [hbb]
    have := congrArg (fun x => (x.filter chgF).length) (List.take_append_drop base (l.take safe))
    simp only [List.filter_append, List.length_append] at this
    omega
  exact ⟨h.names (C + n) hkb (by omega), C + n, hkb, by omega, rfl⟩

theorem cutL_right (hN : NamRight d) (c : Nat) (names : Int) (keep : List Bool) (torn : Int) : ∀ x ∈ cutL d c names keep torn, rightF x.1 = true := fun x hx => by
  obtain ⟨y, hy, rfl⟩ := List.mem_map.1 hx
  obtain ⟨q, hq⟩ := (named_iff _ y).1 hy
  obtain ⟨a, ha, _, h2, h3⟩ := fileAt_mem _ _ _ hq
  have hin : a ∈ d.nam := by
    unfold thereD openD at ha
    rcases List.mem_append.1 ha with ha | ha
    · exact List.mem_of_mem_take ha
    · exact List.mem_of_mem_take (List.mem_of_mem_drop (List.mem_of_mem_take ha))
  rcases hN a hin with e | e
  · exact absurd e h3
  · rw [h2] at e; exact e
theorem cutL_nodup (d : CDisk) (c : Nat) (names : Int) (keep : List Bool) (torn : Int) : ((cutL d c names keep torn).map (·.1)).Nodup := by
  unfold cutL
  rw [List.map_map, List.nodup_iff_pairwise_ne, List.pairwise_map]
  refine (List.nodup_iff_pairwise_ne.1 (namesL_nodup (thereD d c names))).imp (fun hab e => hab ?_)
  have := congrArg (fun b : ByteArray => b.data.toList) e
  simpa using this
end

theorem posF_zero (p : FStep → Bool) (base : Nat) : ∀ (L : List FStep) (k : Nat), k + L.length ≤ base → posF p base k L = List.replicate (L.filter p).length 0
  | [], k, _ => by simp [posF]
  | s :: t, k, h => by
    rw [List.length_cons] at h
    have ih := posF_zero p base t (k + 1) (by omega)
    rw [posF, List.filter_cons]
    split
    · rw [ih, List.length_cons, List.replicate_succ, show k + 1 - base = 0 by omega]
    · exact ih
theorem posW_zero (p : FStep → Bool) {base : Nat} {L : List FStep} (h : L.length ≤ base) : posW p base L = List.replicate (L.filter p).length 0 := posF_zero p base L 0 (by omega)

/-- The steps that a loss of power leaves. -/
structure LeftSteps (l : List FStep) (T : Nms) (keep : List Bool) (torn : Int) (k : Nat) (M : List FStep) : Prop where
  chg : (M.filter chgF).length = k
  now : ∀ x j, (x, j) ∈ nowF M ↔ ∃ p, T[j]? = some p ∧ p.1 = x ∧ j < k
  nd : ((nowF M).map (·.1)).Nodup
  nf : ((nowF M).map (·.2)).Nodup
  app : ∀ j, (M.filter (appN j)).map (·.b) = if j < k then (match T[j]? with | some p => [leftS l p.2 keep torn] | none => []) else []
  syn : ∀ j, (M.filter (syN j)).length = if j < k then 1 else 0
  six : M.filter syncN = []
  few : ∀ s ∈ M, s.kind = 2 ∨ s.kind = 5 → s.file < k
  calm : BaseCalm M M.length

theorem left_steps {l : List FStep} {T : Nms} {keep : List Bool} {torn : Int} (hnd : (T.map (·.1)).Nodup) : ∀ k, k ≤ T.length → ∀ M : List FStep, M.map shp = outN l T keep torn k → LeftSteps l T keep torn k M
  | 0, _, M, h => by
    have : M = [] := by simpa [outN] using h
    subst this
    exact ⟨rfl, fun x j => by simp [nowF], by simp [nowF], by simp [nowF], fun j => by simp, fun j => by simp, rfl, by simp, fun j i s hi => by simp at hi⟩
  | k + 1, hk, M, h => by
    obtain ⟨p, hp⟩ : ∃ p, T[k]? = some p := ⟨_, List.getElem?_eq_getElem (by omega)⟩
    rw [outN_step hp] at h
    obtain ⟨M0, R, rfl, h0, hR⟩ := List.map_eq_append_iff.1 h
    have ih := left_steps hnd k (by omega) M0 h0
    obtain ⟨a, b, c, rfl⟩ : ∃ a b c, R = [a, b, c] := by
      have h3 := congrArg List.length hR
      rw [List.length_map] at h3
      match R, h3 with
      | [a, b, c], _ => exact ⟨a, b, c, rfl⟩
    simp only [List.map_cons, List.map_nil, List.cons.injEq, and_true, shp, Prod.mk.injEq] at hR
    obtain ⟨⟨a1, a2, a3, a4⟩, ⟨b1, b2, b3, b4⟩, ⟨c1, c2, c3, c4⟩⟩ := hR
    have ca : chgF a = true := decide_eq_true (by omega)
    have cb : chgF b = false := decide_eq_false (by omega)
    have cc : chgF c = false := decide_eq_false (by omega)
    have hnow : nowF (M0 ++ [a, b, c]) = apartF (nowF M0) k p.1 ++ [(p.1, k)] := by
      rw [show M0 ++ [a, b, c] = ((M0 ++ [a]) ++ [b]) ++ [c] by simp, nowF_snoc, nowF_snoc, nowF_snoc, namedF_still cc, namedF_still cb]
      unfold namedF
      rw [if_pos (.inl a1), a2, a3]
    have hkeep : apartF (nowF M0) k p.1 = nowF M0 := by
      unfold apartF
      refine List.filter_eq_self.2 (fun x hx => ?_)
      obtain ⟨x, j⟩ := x
      obtain ⟨p', e1, e2, e3⟩ := (ih.now x j).1 hx
      refine decide_eq_true ⟨by show j ≠ k; omega, fun e => ?_⟩
      have e : x = p.1 := e
      have l1 := (List.getElem?_eq_some_iff.1 e1)
      have l2 := (List.getElem?_eq_some_iff.1 hp)
      obtain ⟨q1, r1⟩ := l1
      obtain ⟨q2, r2⟩ := l2
      have := (List.getElem_inj (i := j) (j := k) (h₀ := by simpa using q1) (h₁ := by simpa using q2) hnd).1 (by rw [List.getElem_map, List.getElem_map, r1, r2, e2, e])
      omega
    rw [hkeep] at hnow
    refine ⟨?_, fun x j => ?_, ?_, ?_, fun j => ?_, fun j => ?_, ?_, fun s hs hk2 => ?_, ?_⟩
    · rw [List.filter_append, List.length_append, ih.chg]; simp [ca, cb, cc]
    · rw [hnow, List.mem_append, ih.now]
      constructor
      · rintro (⟨p', e1, e2, e3⟩ | e)
        · exact ⟨p', e1, e2, by omega⟩
        · simp at e
          exact ⟨p, by rw [e.2]; exact hp, e.1.symm, by omega⟩
      · rintro ⟨p', e1, e2, e3⟩
        rcases Nat.lt_or_ge j k with hj | hj
        · exact .inl ⟨p', e1, e2, hj⟩
        · obtain rfl : j = k := by omega
          rw [hp] at e1
          injection e1 with e1
          subst e1
          right; simp [e2]
    · rw [hnow, List.map_append]
      refine nodup_snoc ih.nd (fun hm => ?_)
      obtain ⟨⟨x, j⟩, hx, e⟩ := List.mem_map.1 hm
      have hx2 : (x, j) ∈ apartF (nowF M0) k p.1 := by rw [hkeep]; exact hx
      exact (apartF_mem.1 hx2).2.2 e
    · rw [hnow, List.map_append]
      refine nodup_snoc ih.nf (fun hm => ?_)
      obtain ⟨⟨x, j⟩, hx, e⟩ := List.mem_map.1 hm
      have hx2 : (x, j) ∈ apartF (nowF M0) k p.1 := by rw [hkeep]; exact hx
      exact (apartF_mem.1 hx2).2.1 e
    · rw [List.filter_append, List.map_append, ih.app]
      have ea : appN j a = false := decide_eq_false (by omega)
      have ec : appN j c = false := decide_eq_false (by omega)
      by_cases hj : j = k
      · subst hj
        have eb : appN j b = true := decide_eq_true ⟨b1, b2⟩
        rw [if_neg (by omega), if_pos (by omega), hp]
        simp [ea, eb, ec, b4]
      · have eb : appN j b = false := decide_eq_false (by omega)
        by_cases hlt : j < k
        · rw [if_pos hlt, if_pos (by omega)]
          simp [ea, eb, ec]
        · rw [if_neg hlt, if_neg (by omega)]
          simp [ea, eb, ec]
    · rw [List.filter_append, List.length_append, ih.syn]
      have ea : syN j a = false := decide_eq_false (by omega)
      have eb : syN j b = false := decide_eq_false (by omega)
      by_cases hj : j = k
      · subst hj
        have ec : syN j c = true := decide_eq_true ⟨c1, c2⟩
        rw [if_neg (by omega), if_pos (by omega)]
        simp [ea, eb, ec]
      · have ec : syN j c = false := decide_eq_false (by omega)
        by_cases hlt : j < k
        · rw [if_pos hlt, if_pos (by omega)]; simp [ea, eb, ec]
        · rw [if_neg hlt, if_neg (by omega)]; simp [ea, eb, ec]
    · rw [List.filter_append, ih.six]
      have ea : syncN a = false := decide_eq_false (by omega)
      have eb : syncN b = false := decide_eq_false (by omega)
      have ec : syncN c = false := decide_eq_false (by omega)
      simp [ea, eb, ec]
    · rcases List.mem_append.1 hs with hs | hs
      · have := ih.few s hs hk2; omega
      · simp at hs
        rcases hs with rfl | rfl | rfl <;> omega
    · intro j i s hi hx ha
      rw [List.length_append] at hi ⊢
      simp only [List.length_cons, List.length_nil] at hi ⊢
      rcases Nat.lt_or_ge i M0.length with hil | hil
      · rw [List.getElem?_append_left hil] at hx
        obtain ⟨i', s', g1, g2, g3, g4⟩ := ih.calm j i s hil hx ha
        exact ⟨i', s', g1, by omega, by rw [List.getElem?_append_left g2]; exact g3, g4⟩
      · rw [List.getElem?_append_right hil] at hx
        have h3 : i - M0.length = 0 ∨ i - M0.length = 1 ∨ i - M0.length = 2 := by omega
        have ha2 := of_decide_eq_true ha
        rcases h3 with e | e | e
        · rw [e] at hx; simp at hx; subst hx; omega
        · rw [e] at hx; simp at hx; subst hx
          refine ⟨M0.length + 2, c, by omega, by omega, by rw [List.getElem?_append_right (by omega)]; simp, decide_eq_true ⟨c1, ?_⟩⟩
          omega
        · rw [e] at hx; simp at hx; subst hx; omega

theorem CutR.ks {d : CDisk} {l : List (ByteArray × List Nat)} (h : CutR d l) : d.ks = List.replicate l.length 0 := by
  induction h with
  | nil => rfl
  | snoc h q cv kv sv v b nm mb cv' kv' hq ih =>
    have := h.calls.1
    show _ ++ [_] = _
    rw [ih, List.length_append, List.length_singleton, List.replicate_succ', this]
theorem CutR.one {d : CDisk} {l : List (ByteArray × List Nat)} (h : CutR d l) : ∀ f ∈ d.fs, ∃ v b, f.parts = [(v, b)] := by
  induction h with
  | nil => simp
  | snoc h q cv kv sv v b nm mb cv' kv' hq ih =>
    intro f hf
    rcases List.mem_append.1 hf with hf | hf
    · exact ih f hf
    · simp at hf; subst hf; exact ⟨v, b, rfl⟩

theorem rep_one {n : Nat} {l : List Nat} (h : l.length = n) (h0 : ∀ x ∈ l, x = 0) : l = List.replicate n 0 := by
  rw [← h]; exact List.eq_replicate_of_mem h0

/-- A loss of power at both. -/
theorem Sim.cut {n p : Nat} {w : World} {d : CDisk} {L : List FStep} {born base : Nat} {qs : List Nat} (h : Sim d L born base qs) (hd : DiskK n w p d) (hN : NamRight d) {at_ names : Int} {keep : List Bool} {torn : Int} {dl : CDisk}
    (hc : CutR dl (cutL d (pickF at_ (d.calls + 1)) names keep torn)) (sv : Value) {L' : List FStep} (hL : L'.map shp = cutS L base at_ names keep torn) : ∃ qs', Sim (syncedN dl sv) L' (cutT L base at_ names).2.length L'.length qs' := by
  obtain ⟨t1, t2, _⟩ := h.there at_ names
  have hc0 := pickF_lt at_ (show 0 < d.calls + 1 by omega)
  unfold cutS at hL
  rw [t1] at hL
  obtain ⟨c, hcc⟩ : ∃ c, pickF at_ (d.calls + 1) = c := ⟨_, rfl⟩
  rw [hcc] at hc0 t2 hc hL
  obtain ⟨T, hT⟩ : ∃ T, (cutT L base at_ names).2 = T := ⟨_, rfl⟩
  rw [hT] at t2 hL ⊢
  have hcl : base + c ≤ L.length := by have := h.calls; have := h.ble; omega
  obtain ⟨l, hl⟩ : ∃ l, L.take (base + c) = l := ⟨_, rfl⟩
  rw [hl] at hL
  obtain ⟨M, R, rfl, hM, hR⟩ := List.map_eq_append_iff.1 hL
  obtain ⟨s6, rfl⟩ : ∃ a, R = [a] := by
    have h3 := congrArg List.length hR
    rw [List.length_map] at h3
    match R, h3 with
    | [a], _ => exact ⟨a, rfl⟩
  simp only [List.map_cons, List.map_nil, List.cons.injEq, and_true, shp, Prod.mk.injEq] at hR
  obtain ⟨k6, _, _, _⟩ := hR
  have hS := left_steps t2.nd T.length (Nat.le_refl _) M hM
  have c6 : chgF s6 = false := decide_eq_false (by omega)
  have y6 : syncN s6 = true := decide_eq_true k6
  -- what is left of each
  have hent : ∀ p ∈ T, (p.1, leftS l p.2 keep torn) ∈ cutL d c names keep torn := fun p hp => by
    obtain ⟨x, j⟩ := p
    have hlt := t2.lt _ hp
    have hq : qs[j]? = some qs[j] := List.getElem?_eq_getElem hlt
    have hfa := (t2.find x _).2 ⟨j, hp, hq⟩
    obtain ⟨f, a1, a2, a3⟩ := h.files j _ hq
    have hleft := a3.left h.calm hcl keep torn
    rw [hl] at hleft
    unfold cutL
    refine List.mem_map.2 ⟨x.data.toList, (named_iff _ _).2 ⟨qs[j], by simpa using hfa⟩, ?_⟩
    have en : (⟨x.data.toList.toArray⟩ : ByteArray) = x := by simp
    rw [en, hfa, ← a2, leftAt_file hd a1, hleft]
  have hlenT : (cutL d c names keep torn).length = T.length := by
    unfold cutL
    rw [List.length_map]
    have := t2.perm.length_eq
    rw [List.length_map, List.length_map] at this
    exact this
  obtain ⟨i1, i2, i3⟩ := hc.holds (cutL_nodup d c names keep torn) (fun x hx => right_ne (cutL_right hN c names keep torn x hx))
  obtain ⟨z1, z2, z3, z4, z5⟩ := hc.calls
  have hfnd : ∀ p ∈ T, ∃ f ∈ dl.fs, findK dl p.1 = some f.q ∧ f.all = leftS l p.2 keep torn := fun p hp => i1 _ (hent p hp)
  obtain ⟨Q, hQ⟩ : ∃ Q : ByteArray → Nat, ∀ p ∈ T, findK dl p.1 = some (Q p.1) := ⟨fun x => (findK dl x).getD 0, fun p hp => by obtain ⟨f, _, e, _⟩ := hfnd p hp; show findK dl p.1 = some ((findK dl p.1).getD 0); rw [e]; rfl⟩
  have hinj : ∀ a b : ByteArray, ∀ q, findK dl a = some q → findK dl b = some q → a = b := by
    have hgen : ∀ {dd : CDisk} {ll : List (ByteArray × List Nat)}, CutR dd ll → (ll.map (·.1)).Nodup → (∀ x ∈ ll, x.1 ≠ ByteArray.empty) → (∀ a q, findK dd a = some q → ∃ f ∈ dd.fs, f.q = q) ∧ ∀ a b q, findK dd a = some q → findK dd b = some q → a = b := by
      intro dd ll hh
      induction hh with
      | nil => exact fun _ _ => ⟨fun a q hx => absurd (hx.symm.trans (fileAt_nil a)) (by simp), fun a b q hx => absurd (hx.symm.trans (fileAt_nil a)) (by simp)⟩
      | @snoc dd ll hh q cv kv sv v b nm mb cv' kv' hq ih =>
        intro hnd hne
        rw [List.map_append, List.nodup_append] at hnd
        obtain ⟨j1, j2⟩ := ih hnd.1 (fun x hx => hne x (by simp [hx]))
        have hnm := hne (nm, b) (by simp)
        refine ⟨fun a q' hx => ?_, fun a b' q' hx hy => ?_⟩
        · rw [findK_snoc] at hx
          split at hx
          · injection hx with hx
            exact ⟨⟨q, cv, kv, sv, [(v, b)], [0], [0]⟩, List.mem_append_right _ (by simp), hx⟩
          · split at hx
            · cases hx
            · obtain ⟨f, hf, e⟩ := j1 a q' hx
              exact ⟨f, List.mem_append_left _ hf, e⟩
        · rw [findK_snoc] at hx hy
          split at hx
          · rename_i ka
            injection hx with hx
            split at hy
            · rename_i kb
              rw [ka.1, kb.1]
            · split at hy
              · cases hy
              · obtain ⟨f, hf, e⟩ := j1 b' q' hy
                exact absurd (e.trans hx.symm) (hq f hf)
          · split at hx
            · cases hx
            · split at hy
              · injection hy with hy
                obtain ⟨f, hf, e⟩ := j1 a q' hx
                exact absurd (e.trans hy.symm) (hq f hf)
              · split at hy
                · cases hy
                · exact j2 a b' q' hx hy
    exact (hgen hc (cutL_nodup d c names keep torn) (fun x hx => right_ne (cutL_right hN c names keep torn x hx))).2
  have hMl : (M ++ [s6]).length = M.length + 1 := by simp
  have hchg : ((M ++ [s6]).filter chgF).length = T.length := by rw [List.filter_append, List.length_append, hS.chg]; simp [c6]
  have hnowE : nowF (M ++ [s6]) = nowF M := by rw [nowF_snoc, namedF_still c6]
  refine ⟨T.map (fun p => Q p.1), ⟨Nat.le_refl _, ?_, by simp, ?_, ?_, ?_, ?_, fun k h1 h2 => ?_, fun j q hj => ?_, fun h0 => ?_, ?_, fun s hs hk => ?_⟩⟩
  · show dl.calls = _; rw [z1]; omega
  · rw [List.nodup_iff_pairwise_ne, List.pairwise_map]
    have := List.nodup_iff_pairwise_ne.1 t2.nd
    rw [List.pairwise_map] at this
    refine this.imp_of_mem (fun {a b} ha hb hab e => hab ?_)
    exact hinj a.1 b.1 _ (hQ a ha) (by rw [e]; exact hQ b hb)
  · show dl.ks = _
    rw [posW_zero chgF (Nat.le_refl _), hchg, hc.ks, hlenT]
  · show dl.ss ++ [dl.calls] = _
    rw [posW_zero syncN (Nat.le_refl _), List.filter_append, hS.six, z2, z1]
    simp [y6]
  · show dl.nam.length = _
    rw [hchg, z3, hlenT]
  · show NR _ (namesOf (dl.nam.take k)) _
    have hfull : ((M ++ [s6]).take (M ++ [s6]).length) = M ++ [s6] := List.take_of_length_le (Nat.le_refl _)
    rw [hfull, hchg] at h1
    rw [hchg] at h2
    have hk : k = T.length := by omega
    rw [List.take_of_length_le (by rw [z3, hlenT]; omega), List.take_of_length_le (by rw [hchg]; omega), nowF_chg, hnowE]
    refine ⟨fun x q => ?_, hS.nd, hS.nf, fun p hp => ?_, fun p hp => ?_⟩
    · show findK dl x = some q ↔ _
      constructor
      · intro hx
        obtain ⟨y, hy, e⟩ := i2 x q hx
        obtain ⟨z, hz, e2⟩ := List.mem_map.1 hy
        have hzm : y.1 ∈ (namesL (namesOf (thereD d c names))).map bytesN := List.mem_map.2 ⟨z, hz, by rw [← e2]; rfl⟩
        have hyT := t2.perm.mem_iff.1 hzm
        obtain ⟨p, hp, e3⟩ := List.mem_map.1 hyT
        obtain ⟨j, hj, e4⟩ := List.mem_iff_getElem.1 hp
        have hTj : T[j]? = some p := by rw [List.getElem?_eq_getElem hj, e4]
        refine ⟨j, (hS.now x j).2 ⟨p, hTj, by rw [e3, e], hj⟩, ?_⟩
        have := hQ p hp
        rw [e3, e, hx] at this
        injection this with this
        rw [List.getElem?_map, hTj]
        show some (Q p.1) = _
        rw [e3, e, ← this]
      · rintro ⟨j, hj, e⟩
        obtain ⟨p, hp, e1, _⟩ := (hS.now x j).1 hj
        rw [List.getElem?_map, hp] at e
        have e : some (Q p.1) = some q := e
        rw [← e, ← e1]
        exact hQ p (List.mem_of_getElem? hp)
    · obtain ⟨x, j⟩ := p
      obtain ⟨p, hp, _, hlt⟩ := (hS.now x j).1 hp
      simpa using hlt
    · obtain ⟨x, j⟩ := p
      obtain ⟨p, hp, e, _⟩ := (hS.now x j).1 hp
      show x ≠ _
      rw [← e]
      exact t2.ne p (List.mem_of_getElem? hp)
  · rw [List.getElem?_map] at hj
    obtain ⟨p, hp⟩ : ∃ p, T[j]? = some p := by
      cases hh : T[j]? with
      | none => rw [hh] at hj; cases hj
      | some p => exact ⟨p, rfl⟩
    rw [hp] at hj
    have hj : some (Q p.1) = some q := hj
    have hpm := List.mem_of_getElem? hp
    have hjl := (List.getElem?_eq_some_iff.1 hp).1
    obtain ⟨f, f1, f2, f3⟩ := hfnd p hpm
    have hfq : f.q = q := by
      have := hQ p hpm
      rw [f2] at this
      injection this with this
      injection hj with hj
      omega
    obtain ⟨g1, g2, g3, _⟩ := i3 f f1
    obtain ⟨v, b, g4⟩ := hc.one f f1
    have a6 : appN j s6 = false := decide_eq_false (by omega)
    have b6 : syN j s6 = false := decide_eq_false (by omega)
    have happ := hS.app j
    rw [if_pos hjl, hp] at happ
    have hsyn := hS.syn j
    rw [if_pos hjl] at hsyn
    have happl : (M.filter (appN j)).length = 1 := by have := congrArg List.length happ; simpa using this
    refine ⟨f, f1, hfq, ⟨?_, ?_, ?_⟩⟩
    · rw [g1, posW_zero _ (Nat.le_refl _), List.filter_append, List.length_append, happl]; simp [a6]
    · rw [g2, posW_zero _ (Nat.le_refl _), List.filter_append, List.length_append, hsyn]; simp [b6]
    · have hb : b = leftS l p.2 keep torn := by rw [← f3, CFile.all, g4]; simp
      rw [List.filter_append, List.map_append, happ, g4, hb]; simp [a6]
  · refine ⟨s6, ?_, k6⟩
    rw [hMl, List.getElem?_append_right (by omega)]
    simp
  · intro j i s hi hx ha
    rw [hMl] at hi
    rcases Nat.lt_or_ge i M.length with hil | hil
    · rw [List.getElem?_append_left hil] at hx
      obtain ⟨i', s', a1, a2, a3, a4⟩ := hS.calm j i s hil hx ha
      exact ⟨i', s', a1, by rw [hMl]; omega, by rw [List.getElem?_append_left a2]; exact a3, a4⟩
    · rw [List.getElem?_append_right hil, show i - M.length = 0 by omega] at hx
      simp at hx
      subst hx
      have := of_decide_eq_true ha
      omega
  · rcases List.mem_append.1 hs with hs | hs
    · exact hS.few s hs hk
    · simp at hs; subst hs; omega

/-! What both disks tell is the same: names in their order, bytes, what pends. No program in here. -/
theorem bytesLess_iff : ∀ (x y : List UInt8), Op.bytesLess x y = true ↔ x < y
  | x, [] => by simp [Op.bytesLess]
  | [], b :: y => by simp [Op.bytesLess]
  | a :: x, b :: y => by
    rw [Op.bytesLess, List.cons_lt_cons_iff]
    simp [bytesLess_iff x y]
theorem lessS_iff (a b : ByteArray) : lessS a b = true ↔ a.data.toList < b.data.toList := by
  unfold lessS
  rw [ByteArray.toList_eq, ByteArray.toList_eq]
  exact bytesLess_iff _ _
def leN (a b : ByteArray) : Prop := a.data.toList ≤ b.data.toList
theorem leN_trans {a b c : ByteArray} (h : leN a b) (h' : leN b c) : leN a c := List.le_trans h h'
theorem leN_anti {a b : ByteArray} (h : leN a b) (h' : leN b a) : a = b := by
  have := List.le_antisymm h h'
  exact ByteArray.ext (Array.toList_inj.1 this)
theorem leN_of_less {a b : ByteArray} (h : lessS a b = true) : leN a b := List.le_of_lt ((lessS_iff a b).1 h)
theorem leN_of_not {a b : ByteArray} (h : ¬ lessS a b = true) : leN b a := by
  rw [lessS_iff] at h
  exact List.not_lt.1 h

theorem sinkR_perm : ∀ (R : List ByteArray) (x : ByteArray) (S : List ByteArray), (sinkR R x S).Perm (R.reverse ++ x :: S)
  | [], x, S => by simp [sinkR]
  | y :: R, x, S => by
    unfold sinkR
    split
    · refine (sinkR_perm R x (y :: S)).trans ?_
      rw [List.reverse_cons, List.append_assoc]
      exact List.Perm.append_left _ (List.Perm.swap y x S)
    · exact List.Perm.refl _
theorem sinkR_sorted : ∀ (R : List ByteArray) (x : ByteArray) (S : List ByteArray), (R.reverse ++ S).Pairwise leN → (∀ s ∈ S, leN x s) → (sinkR R x S).Pairwise leN
  | [], x, S, h, hx => by simpa [sinkR] using ⟨hx, h⟩
  | y :: R, x, S, h, hx => by
    unfold sinkR
    split
    · rename_i hl
      refine sinkR_sorted R x (y :: S) (by rw [List.reverse_cons, List.append_assoc] at h; exact h) (fun s hs => ?_)
      rcases List.mem_cons.1 hs with e | hs
      · rw [e]; exact leN_of_less hl
      · exact hx s hs
    · rename_i hl
      have hyx := leN_of_not hl
      rw [List.pairwise_append] at h ⊢
      obtain ⟨h1, h2, h3⟩ := h
      refine ⟨h1, List.pairwise_cons.2 ⟨hx, h2⟩, fun a ha b hb => ?_⟩
      rcases List.mem_cons.1 hb with e | hb
      · rw [e]
        rw [List.reverse_cons] at ha h1
        rcases List.mem_append.1 ha with ha | ha
        · exact leN_trans ((List.pairwise_append.1 h1).2.2 a ha y (by simp)) hyx
        · simp at ha; rw [ha]; exact hyx
      · exact h3 a ha b hb
theorem insF_perm (l : List ByteArray) (x : ByteArray) : (insF l x).Perm (l ++ [x]) := by
  have := sinkR_perm l.reverse x []
  rw [List.reverse_reverse] at this
  exact this
theorem insF_sorted {l : List ByteArray} (h : l.Pairwise leN) (x : ByteArray) : (insF l x).Pairwise leN := sinkR_sorted l.reverse x [] (by simpa using h) (by simp)
theorem namesF_is : ∀ (l : Nms), (namesF l).Perm (l.map (·.1)) ∧ (namesF l).Pairwise leN := by
  intro l
  suffices h : ∀ n, (namesF (l.take n)).Perm ((l.take n).map (·.1)) ∧ (namesF (l.take n)).Pairwise leN from by
    have := h l.length
    rwa [List.take_of_length_le (Nat.le_refl _)] at this
  intro n
  induction n with
  | zero => simp [namesF]
  | succ n ih =>
    cases hs : l[n]? with
    | none =>
      have hl : l.length ≤ n := List.getElem?_eq_none_iff.1 hs
      rw [List.take_of_length_le (by omega)]
      rw [List.take_of_length_le hl] at ih
      exact ih
    | some p =>
      rw [take_snoc hs, namesF_snoc, List.map_append]
      exact ⟨(insF_perm _ _).trans (ih.1.append_right _), insF_sorted ih.2 _⟩
/-- The names, in the order in which they are told. -/
theorem NR.names {qs : List Nat} {nam : List Nam} {l : Nms} (h : NR qs (namesOf nam) l) : namesF l = (namesL (namesOf nam)).map bytesN := by
  obtain ⟨h1, h2⟩ := namesF_is l
  have tr : ∀ a b c : List UInt8, leB a b = true → leB b c = true → leB a c = true := fun a b c h1 h2 => by simp only [leB, decide_eq_true_eq] at *; exact List.le_trans h1 h2
  have tot : ∀ a b : List UInt8, (leB a b || leB b a) = true := fun a b => by simp only [leB, Bool.or_eq_true, decide_eq_true_eq]; exact List.le_total a b
  have h3 : ((namesL (namesOf nam)).map bytesN).Pairwise leN := by
    rw [List.pairwise_map]
    refine (List.pairwise_mergeSort tr tot (strKeys (namesOf nam))).imp (fun {a b} hab => ?_)
    show (bytesN a).data.toList ≤ (bytesN b).data.toList
    simpa [bytesN, leB] using hab
  exact List.Perm.eq_of_pairwise (le := leN) (fun a b _ _ => leN_anti) h2 h3 (h1.trans h.perm.symm)

/-- What pends. -/
theorem pendF_is (l : List FStep) (j : Nat) : ∀ n, n ≤ l.length → pendF (l.take n) j = (((l.take n).drop (safeF l j n)).filter (appN j)).length
  | 0, _ => by simp [pendF]
  | n + 1, h => by
    obtain ⟨s, hs⟩ : ∃ s, l[n]? = some s := ⟨_, List.getElem?_eq_getElem (by omega)⟩
    have ih := pendF_is l j n (by omega)
    have hlen : (l.take n).length = n := by rw [List.length_take]; omega
    have hsf := safeF_le l j n
    rw [take_snoc hs, pendF_snoc, safeF_step hs]
    by_cases h5 : s.kind = 5 ∧ s.file = j
    · rw [if_pos ⟨h5.2, h5.1⟩, if_pos h5, List.drop_append, hlen, Nat.sub_self, List.drop_zero, List.drop_of_length_le (by omega)]
      have : appN j s = false := decide_eq_false (by omega)
      simp [this]
    · rw [if_neg (fun e => h5 ⟨e.2, e.1⟩), if_neg h5, List.drop_append, hlen, show safeF l j n - n = 0 by omega, List.drop_zero, List.filter_append, List.length_append, ← ih]
      by_cases h2 : s.kind = 2 ∧ s.file = j
      · have : appN j s = true := decide_eq_true h2
        rw [if_pos ⟨h2.2, h2.1⟩]; simp [this]
      · have : appN j s = false := decide_eq_false h2
        rw [if_neg (fun e => h2 ⟨e.2, e.1⟩)]; simp [this]
theorem FileR.pend {base : Nat} {L : List FStep} {j : Nat} {f : CFile} (h : FileR base L j f) (hcalm : BaseCalm L base) (hb : base ≤ L.length) : (openP f (L.length - base)).length = pendF L j := by
  have hc : base + (L.length - base) = L.length := by omega
  have hdur := durN_file (L := L) (base := base) (c := L.length - base) (j := j) (by omega) hcalm
  rw [hc, List.take_of_length_le (l := L) (Nat.le_refl _), ← h.ks, ← h.ss] at hdur
  have htill : tillN f.ks (L.length - base) = (L.filter (appN j)).length := by rw [h.ks, posW_till, hc, List.take_of_length_le (Nat.le_refl _)]
  have hpl : f.parts.length = (L.filter (appN j)).length := by have := congrArg List.length h.parts; simpa using this
  have hp := pendF_is L j L.length (Nat.le_refl _)
  rw [List.take_of_length_le (l := L) (Nat.le_refl _)] at hp
  rw [hp]
  have hsum := congrArg (fun x => (x.filter (appN j)).length) (List.take_append_drop (safeF L j L.length) L)
  simp only [List.filter_append, List.length_append] at hsum
  unfold openP
  rw [htill, hdur, List.length_drop, List.length_take, hpl]
  omega

/-! The law's helper: both disks tell the same. -/
/-- All that is known of both disks at once. -/
structure Both (n p : Nat) (w : World) (d : CDisk) (n' pr : Nat) (lv : Value) (L : List FStep) (born base : Nat) (B : List Nat) (qs : List Nat) : Prop where
  disk : DiskK n w p d
  ref : DiskR n' w pr lv L born base B
  sim : Sim d L born base qs
  ord : Ordered d
  small : Small d
  right : Righted d
  len : L.length ≤ 10000
  held : ∀ f, (heldF L f).length ≤ 1048576
theorem Both.below {n p : Nat} {w w' : World} {d : CDisk} {n' pr : Nat} {lv : Value} {L : List FStep} {born base : Nat} {B : List Nat} {qs : List Nat} (h : Both n p w d n' pr lv L born base B qs) (hb : Below w.heap.size w w') : Both n p w' d n' pr lv L born base B qs :=
  ⟨h.disk.below hb, h.ref.below hb, h.sim, h.ord, h.small, h.right, h.len, h.held⟩

/-- What pends of a name: the same at both. -/
theorem Both.pending {n p : Nat} {w : World} {d : CDisk} {n' pr : Nat} {lv : Value} {L : List FStep} {born base : Nat} {B : List Nat} {qs : List Nat} (h : Both n p w d n' pr lv L born base B qs) {nm : ByteArray} {j : Nat} (hj : findF (nowF L) nm = (j : Int)) :
    (∀ W, Below w.heap.size w W → Calls Try.prog 20 #[.pointer (some ⟨p, 0, none⟩), .string nm] W (Ret (.int .i64 (pendF L j : Nat)) W)) ∧ ∀ W, Below w.heap.size w W → Calls Try.prog 46 #[.pointer (some ⟨pr, 0, none⟩), .string nm] W (Ret (.int .i64 (pendF L j : Nat)) W) := by
  obtain ⟨q, f, a1, a2, a3, a4, a5⟩ := h.sim.find hj
  refine ⟨fun W hW => ?_, fun W hW => ?_⟩
  · have hp := pending_file (h.disk.below hW) h.ord h.small nm (right_size (h.right _ _ a2)) a3 (by rw [a4]; exact a2)
    rw [h.sim.calls, a5.pend h.sim.calm h.sim.ble] at hp
    refine hp.mono ?_
    rintro e w' ⟨rfl, m, rfl⟩
    exact ⟨rfl, below_drewN (Below.refl _ _) _⟩
  · have hp := refPending_any (h.ref.below hW) h.len nm
    unfold pendS at hp
    rw [if_neg (by omega), hj] at hp
    exact hp

set_option maxRecDepth 20000 in
set_option maxHeartbeats 4000000 in
theorem alike_both {n p : Nat} {w : World} {d : CDisk} {n' pr : Nat} {lv : Value} {L : List FStep} {born base : Nat} {B : List Nat} {qs : List Nat} (h : Both n p w d n' pr lv L born base B qs) :
    Calls Try.prog 13 #[.pointer (some ⟨p, 0, none⟩), .pointer (some ⟨pr, 0, none⟩)] w (Ret (.bool true) w) := by
  have cN := Lib.hid (names_any h.disk h.small.nam)
  obtain ⟨names, hnm⟩ : ∃ names, namesL (namesOf d.nam) = names := ⟨_, rfl⟩
  have hnF : namesF (nowF L) = names.map bytesN := by rw [h.sim.now.names, hnm]
  have cR := Lib.hid (fun W (hW : Below w.heap.size w W) => refNames_any (h.ref.below hW) h.len)
  rw [hnF] at cR
  have cC := Lib.hid (fun W (hW : Below w.heap.size w W) => changes_any (h.disk.below hW))
  have cD := Lib.hid (fun W (hW : Below w.heap.size w W) => refChanges_any (h.ref.below hW) h.len h.sim.ble)
  rw [← h.sim.calls] at cD
  have hnlen : names.length ≤ 10000 := by
    have h1 := namesL_le d.nam
    rw [hnm] at h1
    have := h.small.nam
    omega
  have hq1 : ((names.length : Int) != (names.length : Int)) = false := by simp
  have hq2 : ((d.calls : Int) != (d.calls : Int)) = false := by simp
  have hin := Lib.hid (fun x (hx : x ∈ names) => show ∃ j : Nat, findF (nowF L) (bytesN x) = (j : Int) by
    rw [← hnm] at hx
    obtain ⟨q, hq⟩ := (names_mem h.disk x).1 hx
    obtain ⟨j, hj, _⟩ := (h.sim.now.some_iff _ q).1 hq
    exact ⟨j, hj⟩)
  have hnm := Lib.hid hnm
  have h := Lib.hid h
  go_enter Try.func13, Try.ntmps13
  go_wp2_with (first
    | (go_at_call 14; refine cN.out.mono ?_; rintro e w1 ⟨v1, rfl, hn1, hb1⟩; have hr1 := hn1.row; rw [hnm.out] at hr1; have hl1 : ∀ W, (Builtin.len_ #[44] 3 #[v1]).run Try.prog W = .ok (.int .i64 (names.length : Nat)) W := (fun W => by (have := hr1.len (ty := 3) Try.underlying44 W; rwa [List.length_map] at this)); have hr1 := Lib.hid hr1; have hB1 := Lib.hid hb1; clear hn1 hb1)
    | (go_at_call 43; refine (cR.out _ hB1.out).mono ?_; rintro e w2 ⟨v2, rfl, hn2, hb2⟩; have hr2 := hn2.row; have hl2 : ∀ W, (Builtin.len_ #[44] 3 #[v2]).run Try.prog W = .ok (.int .i64 (names.length : Nat)) W := (fun W => by (have := hr2.len (ty := 3) Try.underlying44 W; rwa [strs_len, List.length_map] at this)); have hr2 := Lib.hid hr2; have hr12 := Lib.hid (hr1.out.below hb2); have hB2 := Lib.hid (then_call hB1.out hb2); clear hn2 hb2)
    | (go_at_call 18; refine (cC.out _ hB2.out).mono ?_; rintro e w3 ⟨h9, rfl⟩; obtain rfl := h9.symm)
    | (go_at_call 44; refine (cD.out _ hB2.out).mono ?_; rintro e w4 ⟨rfl, hb4⟩; have hr14 := Lib.hid (hr12.out.below hb4); have hr24 := Lib.hid (hr2.out.below hb4); have hB4 := Lib.hid (then_call hB2.out hb4); clear hb4))
  clear cN cR cC cD hq1 hq2 hr1 hr12 hr2 hB1 hB2
  go_loopw [7, 8, 9, 10, 11, 12] (fun t _ _ _ _ _ wr => ∃ i : Nat, t = .int .i64 (i : Nat) ∧ i ≤ names.length ∧ Hid (Below w4.heap.size w4 wr)) (fun t _ _ _ _ _ _ => names.length - (intOf t).toNat)
  case atStart => exact ⟨0, rfl, by omega, Lib.hid (Below.refl _ _)⟩
  case round =>
    obtain ⟨i, rfl, hi, hbz⟩ := hrel
    rcases Nat.lt_or_ge i names.length with hil | hil
    · have hil' : (i : Int) < (names.length : Int) := by omega
      obtain ⟨x, hx⟩ : ∃ x, names[i]? = some x := ⟨_, List.getElem?_eq_getElem hil⟩
      obtain ⟨j, hj⟩ := hin.out x (List.mem_of_getElem? hx)
      obtain ⟨ad, hix, hcA⟩ := hr14.out.place Try.underlying44 (fun W => by kernel_rfl) (k := i) (x := .string (bytesN x)) (by rw [List.getElem?_map, hx]; rfl)
      obtain ⟨bd, hiy, hcB⟩ := hr24.out.place Try.underlying44 (fun W => by kernel_rfl) (k := i) (x := .string (bytesN x)) (by unfold strs; rw [List.getElem?_map, List.getElem?_map, hx]; rfl)
      have hza := hcA _ (hr14.out.below hbz.out)
      have hzb := hcB _ (hr24.out.below hbz.out)
      have hcA := Lib.hid hcA
      have hcB := Lib.hid hcB
      obtain ⟨S, hS⟩ : ∃ S, bytesN x = S := ⟨_, rfl⟩
      rw [hS] at hj hza hzb hcA hcB
      clear hS hx
      have hb := h.out.below (hB4.out.trans (hbz.out.mono hB4.out.size))
      obtain ⟨q, f, a1, a2, a3, a4, a5⟩ := hb.sim.find hj
      have c1 := Lib.hid (read_held hb.disk hb.small hb.right (nm := S) (b := heldF L j) ⟨f, a3, by rw [a4]; exact a2, a5.held⟩)
      have c2 := Lib.hid (fun W (hW : Below wr.heap.size wr W) => refRead_any (hb.ref.below hW) hb.len hb.held S)
      have e2 : readS L S = (heldF L j, 0) := by unfold readS; rw [if_neg (by omega), hj]; rfl
      rw [e2] at c2
      have hbyte := Lib.hid (fun x hx => hb.ref.byte j x hx)
      have hb := Lib.hid hb
      clear a1 a2 a3 a4 a5 e2
      go_wp2_with (first
        | (go_at_call 16; refine c1.out.mono ?_; rintro e w5 ⟨v5, rfl, ho5, hby5, hb5⟩; have hza5 := hcA.out _ ((hr14.out.below hbz.out).below hb5); have hzb5 := hcB.out _ ((hr24.out.below hbz.out).below hb5); have hby5 := Lib.hid hby5; have hb5 := Lib.hid hb5)
        | (go_at_call 45; refine (c2.out _ hb5.out).mono ?_; rintro e w6 ⟨v6, rfl, ho6, hb6⟩; have hby6 := Lib.hid (ho6.bytes hbyte.out); have hby56 := Lib.hid (hby5.out.below hb6); have hza6 := hcA.out _ (((hr14.out.below hbz.out).below hb5.out).below hb6); have hzb6 := hcB.out _ (((hr24.out.below hbz.out).below hb5.out).below hb6); have hb6 := Lib.hid (then_call hb5.out hb6))
        | (go_at_call 19; refine (same_true hby56.out hby6.out).mono ?_; rintro e w7 ⟨rfl, rfl⟩))
      have hB6 := hb.out.below hb6.out
      obtain ⟨cP, cQ⟩ := hB6.pending hj
      have cP := Lib.hid cP
      have cQ := Lib.hid cQ
      have hza7 := cell_regrown hza6
      have hzb7 := cell_regrown hzb6
      have hs2 : (S.toList != S.toList) = false := by simp
      obtain ⟨m, hm⟩ : ∃ m, pendF L j = m := ⟨_, rfl⟩
      rw [hm] at cP cQ
      have hq3 : ((m : Int) != (m : Int)) = false := by simp
      clear hza hzb hza5 hzb5 hza6 hzb6 hB6 hm
      refine wp_region_quiet_below (by kernel_rfl) (by kernel_rfl) ?_
      repeat (go_big_quiet_step (first
        | (go_at_call 20; exact Calls.ret_regrown (cP.out _ (below_regrown _ _ _)))
        | (go_at_call 46; exact Calls.ret_regrown (cQ.out _ (below_regrown _ _ _)))))
      refine wpQuiet_nil ?_
      intro W9 hw9
      have hB9 := (show Below _ _ W9 by obtain ⟨⟨dq, osq⟩, rfl⟩ := hw9; exact below_regrown _ dq osq)
      have hbn := Lib.hid (hbz.out.trans ((hb6.out.trans (hB9.mono hb6.out.size)).mono hbz.out.size))
      clear hw9 hB9 hza7 hzb7
      go_wp2
      go_roundw
      case rel => exact ⟨i + 1, by go_num, by omega, hbn⟩
      case measure => simp [intOf]; omega
    · have hil' : ¬ ((i : Int) < (names.length : Int)) := by omega
      have hBf := Lib.hid (hB4.out.trans (hbz.out.mono hB4.out.size))
      go_wp2
      go_ret
      exact ⟨rfl, hBf.out⟩

/-! What is known of both disks behind a loss of power. No program in here. -/
theorem cutL_byte {d : CDisk} (hO : Ordered d) (hs : Small d) (c : Nat) (names : Int) (keep : List Bool) (torn : Int) : ∀ x ∈ cutL d c names keep torn, x.2.length ≤ 1048576 := fun x hx => by
  obtain ⟨y, hy, rfl⟩ := List.mem_map.1 hx
  dsimp only
  unfold leftAt
  split
  · simp
  · split
    · rename_i f hf
      have hfm := List.mem_of_find?_eq_some hf
      exact Nat.le_trans (leftK_len (hO.ord.fs f hfm) c keep torn) (hs.fs f hfm).2.2.2
    · simp
theorem CutR.namRight {d : CDisk} {l : List (ByteArray × List Nat)} (h : CutR d l) (hr : ∀ x ∈ l, rightF x.1 = true) : NamRight d := by
  induction h with
  | nil => exact namRight_new
  | snoc h q cv kv sv v b nm mb cv' kv' hq ih =>
    intro a ha
    rcases List.mem_append.1 ha with ha | ha
    · exact ih (fun x hx => hr x (by simp [hx])) a ha
    · simp at ha; subst ha; exact .inr (hr (nm, b) (by simp))

/-- What the disk that is left is like. -/
structure LeftD (x : CDisk) : Prop where
  small : Small x
  right : Righted x
  ord : Ordered x
  nr : NamRight x

theorem left_facts {d : CDisk} (hO : Ordered d) (hN : NamRight d) (hs : Small d) {c : Nat} {names : Int} {keep : List Bool} {torn : Int} {dl : CDisk} (hl : (cutL d c names keep torn).length ≤ 7000)
    (hcut : CutR dl (cutL d c names keep torn)) (sv : Value) : LeftD (syncedN dl sv) := by
  have hin := cutL_right hN c names keep torn
  have hnd := cutL_nodup d c names keep torn
  have hne : ∀ x ∈ cutL d c names keep torn, x.1 ≠ ByteArray.empty := fun x hx => right_ne (hin x hx)
  obtain ⟨i1, i2, _⟩ := hcut.holds hnd hne
  obtain ⟨z1, _⟩ := hcut.calls
  refine ⟨hcut.sized hl (cutL_byte hO hs c names keep torn) hnd hne sv, fun nm q hq => ?_, (hcut.ordered (fun x hx => right_size (hin x hx))).syncN sv (by omega), hcut.namRight hin⟩
  obtain ⟨x, hx, rfl⟩ := i2 nm q hq
  exact hin x hx

theorem held_app (L : List FStep) (j : Nat) : heldF L j = ((L.filter (appN j)).map (·.b)).flatten := by
  unfold heldF
  rw [List.flatMap_def]
  rfl

/-- Both disks behind a loss of power. -/
theorem Both.cut {n p : Nat} {w : World} {d : CDisk} {n' pr : Nat} {lv : Value} {L : List FStep} {born base : Nat} {B : List Nat} {qs : List Nat} (h : Both n p w d n' pr lv L born base B qs) (hN : NamRight d) (hl : L.length ≤ 3000) {at_ names : Int} {keep : List Bool} {torn : Int} {dl : CDisk} (sv : Value)
    (hc : CutR dl (cutL d (pickF at_ (d.calls + 1)) names keep torn)) {L' : List FStep} (hL : L'.map shp = cutS L base at_ names keep torn) {n1 pl : Nat} {W : World} (hD : DiskK n1 W pl (syncedN dl sv)) {n2 q : Nat} {lv' : Value} {B' : List Nat} (hR : DiskR n2 W q lv' L' (cutT L base at_ names).2.length L'.length B') :
    ∃ qs', Both n1 pl W (syncedN dl sv) n2 q lv' L' (cutT L base at_ names).2.length L'.length B' qs' ∧ LeftD (syncedN dl sv) := by
  obtain ⟨qs', hS⟩ := h.sim.cut h.disk hN hc sv hL
  obtain ⟨t1, t2, _⟩ := h.sim.there at_ names
  have hTl : (cutT L base at_ names).2.length ≤ L.length := by
    have e1 : (cutT L base at_ names).2.length ≤ (cutT L base at_ names).1.length := by unfold cutT; exact (thereN_len _ _ _ _).1
    rw [t1, List.length_take] at e1
    omega
  have hcl : (cutL d (pickF at_ (d.calls + 1)) names keep torn).length = (cutT L base at_ names).2.length := by
    unfold cutL
    rw [List.length_map]
    have := t2.perm.length_eq
    rw [List.length_map, List.length_map] at this
    exact this
  have hF := left_facts h.ord hN h.small (by rw [hcl]; omega) hc sv
  refine ⟨qs', ⟨hD, hR, hS, hF.ord, hF.small, hF.right, ?_, fun f => ?_⟩, hF⟩
  · have e := congrArg List.length hL
    rw [List.length_map] at e
    unfold cutS at e
    rw [List.length_append] at e
    have := outN_len (cutT L base at_ names).1 (cutT L base at_ names).2 keep torn (cutT L base at_ names).2.length
    simp at e
    omega
  · rcases Nat.lt_or_ge f qs'.length with hf | hf
    · obtain ⟨g, g1, _, g3⟩ := hS.files f _ (List.getElem?_eq_getElem hf)
      rw [← g3.held]
      exact (hF.small.fs g g1).2.2.2
    · have : heldF L' f = [] := by
        rw [held_app]
        have e : L'.filter (appN f) = [] := List.filter_eq_nil_iff.2 (fun s hs e => by
          have h1 := of_decide_eq_true e
          have h2 := hS.few s hs (.inl h1.1)
          have := hS.num
          omega)
        rw [e]; rfl
      rw [this]; simp

/-! How much there is at both disks, over losses of power. No program in here. -/
/-- No more than eight names, at whatever moment that a loss of power may leave. -/
def Eight (L : List FStep) (base : Nat) : Prop := ∀ k, ((L.take base).filter chgF).length ≤ k → k ≤ (L.filter chgF).length → (nowF ((L.filter chgF).take k)).length ≤ 8
theorem eight_new : Eight [] 0 := fun k _ h => by
  obtain rfl : k = 0 := by simpa using h
  simp [nowF]
theorem Eight.now {L : List FStep} {base : Nat} (h : Eight L base) : (nowF L).length ≤ 8 := by
  have hle : ((L.take base).filter chgF).length ≤ (L.filter chgF).length := by
    have := congrArg (fun x => (x.filter chgF).length) (List.take_append_drop base L)
    simp only [List.filter_append, List.length_append] at this
    omega
  have := h _ hle (Nat.le_refl _)
  rw [List.take_of_length_le (Nat.le_refl _), nowF_chg] at this
  exact this
theorem Eight.snoc {L : List FStep} {base : Nat} (h : Eight L base) (hb : base ≤ L.length) (s : FStep) (hs : chgF s = true → (namedF (nowF L) s).length ≤ 8) : Eight (L ++ [s]) base := fun k h1 h2 => by
  rw [take_base hb s] at h1
  by_cases hc : chgF s = true
  · have ef : (L ++ [s]).filter chgF = L.filter chgF ++ [s] := by rw [List.filter_append]; simp [hc]
    rw [ef] at h2 ⊢
    rw [List.length_append, List.length_singleton] at h2
    rcases Nat.lt_or_ge k ((L.filter chgF).length + 1) with hk1 | hk1
    · rw [List.take_append, show k - (L.filter chgF).length = 0 by omega]
      simp only [List.take_zero, List.append_nil]
      exact h k h1 (by omega)
    · rw [List.take_of_length_le (by rw [List.length_append]; simp; omega), nowF_snoc, nowF_chg]
      exact hs hc
  · have ef : (L ++ [s]).filter chgF = L.filter chgF := by rw [List.filter_append]; simp [hc]
    rw [ef] at h2 ⊢
    exact h k h1 h2
theorem apart_less {l : Nms} {x : ByteArray} {j : Nat} (h : (x, j) ∈ l) (n : ByteArray) : (apartF l j n).length < l.length := by
  unfold apartF
  refine List.length_filter_lt_length_iff_exists.2 ⟨(x, j), h, by simp⟩
theorem Eight.act {L L' : List FStep} {born born' base e : Nat} {kind : Int} {nm s : ByteArray} {b : List Nat} (h : Eight L base) (hb : base ≤ L.length) (hr : ActR kind nm s b L born e L' born') : Eight L' base := by
  have h8 := h.now
  rcases hr with ⟨_, hr⟩ | ⟨_, hr, _⟩ | ⟨_, hr, _⟩ | ⟨_, hr, _⟩ | ⟨_, hr, _⟩ | ⟨_, _, rfl, _⟩ | ⟨_, _, rfl, _⟩
  · unfold makeS at hr
    split at hr
    · injection hr with r1 r2; injection r2 with r2 r3; subst r2; exact h
    · split at hr
      · injection hr with r1 r2; injection r2 with r2 r3; subst r2; exact h
      · split at hr
        · injection hr with r1 r2; injection r2 with r2 r3; subst r2; exact h
        · injection hr with r1 r2; injection r2 with r2 r3; subst r2
          exact h.snoc hb _ (fun _ => by have := namedF_len (nowF L) (plain 1 born nm); omega)
  · rcases hr with ⟨_, _, rfl⟩ | ⟨_, _, _, _, rfl⟩ | ⟨f, bv, _, _, _, rfl⟩
    · exact h
    · exact h
    · exact h.snoc hb _ (fun hc => by simp [chgF, appendStep] at hc)
  · unfold syncS at hr
    split at hr
    · injection hr with r1 r2; subst r2; exact h
    · injection hr with r1 r2; subst r2
      exact h.snoc hb _ (fun hc => by simp [chgF] at hc)
  · unfold renameS at hr
    split at hr
    · injection hr with r1 r2; subst r2; exact h
    · rcases findF_ways (nowF L) nm with hf | ⟨j, hf⟩
      · rw [if_pos (by omega)] at hr
        injection hr with r1 r2; subst r2; exact h
      · rw [if_neg (by omega), hf] at hr
        injection hr with r1 r2; subst r2
        refine h.snoc hb _ (fun _ => ?_)
        have := apart_less (findF_mem hf) s
        unfold namedF
        rw [if_pos (.inr rfl)]
        simp
        omega
  · unfold removeS at hr
    split at hr
    · injection hr with r1 r2; subst r2; exact h
    · injection hr with r1 r2; subst r2
      refine h.snoc hb _ (fun _ => ?_)
      have := withoutF_len (nowF L) nm
      unfold namedF
      rw [if_neg (by simp), if_pos rfl]
      show (withoutF (nowF L) nm).length ≤ 8
      omega
  · exact h.snoc hb _ (fun hc => by simp [chgF] at hc)
  · exact h

theorem leftS_len (l : List FStep) (f : Nat) (keep : List Bool) (torn : Int) : (leftS l f keep torn).length ≤ (heldF l f).length := by
  unfold leftS
  have h1 := (leftF_len l f keep torn (safeF l f l.length) l.length).1
  rw [List.take_of_length_le (l := l) (Nat.le_refl _)] at h1
  rw [List.length_take]
  omega

/-- What a loss of power leaves is little: both disks. -/
theorem Sim.little {d : CDisk} {L : List FStep} {born base : Nat} {qs : List Nat} (h : Sim d L born base qs) (h8 : Eight L base) {at_ names : Int} {keep : List Bool} {torn : Int} {L' : List FStep} (hL : L'.map shp = cutS L base at_ names keep torn) {X : Nat} (hX : ∀ f, (heldF L f).length ≤ X) :
    (cutT L base at_ names).2.length ≤ 8 ∧ L'.length ≤ 25 ∧ (∀ f, (heldF L' f).length ≤ X) ∧ Eight L' L'.length := by
  obtain ⟨t1, t2, k, t3, t4, t5⟩ := h.there at_ names
  have hT8 : (cutT L base at_ names).2.length ≤ 8 := by rw [t5]; exact h8 k t3 t4
  unfold cutS at hL
  rw [t1] at hL
  obtain ⟨T, hT⟩ : ∃ T, (cutT L base at_ names).2 = T := ⟨_, rfl⟩
  rw [hT] at t2 hL hT8 ⊢
  obtain ⟨l, hl⟩ : ∃ l, L.take (base + pickF at_ (d.calls + 1)) = l := ⟨_, rfl⟩
  rw [hl] at hL
  have hlX : ∀ f, (heldF l f).length ≤ X := fun f => by rw [← hl]; exact Nat.le_trans (heldF_take L f _) (hX f)
  obtain ⟨M, R, rfl, hM, hR⟩ := List.map_eq_append_iff.1 hL
  obtain ⟨s6, rfl⟩ : ∃ a, R = [a] := by
    have h3 := congrArg List.length hR
    rw [List.length_map] at h3
    match R, h3 with
    | [a], _ => exact ⟨a, rfl⟩
  simp only [List.map_cons, List.map_nil, List.cons.injEq, and_true, shp, Prod.mk.injEq] at hR
  obtain ⟨k6, _, _, _⟩ := hR
  have hS := left_steps t2.nd T.length (Nat.le_refl _) M hM
  have c6 : chgF s6 = false := decide_eq_false (by omega)
  have hMl : M.length ≤ 24 := by
    have e := congrArg List.length hM
    rw [List.length_map] at e
    have := outN_len l T keep torn T.length
    omega
  refine ⟨hT8, by simp; omega, fun f => ?_, fun j h1 h2 => ?_⟩
  · rw [heldF_snoc, if_neg (by omega), held_app, hS.app f]
    split
    · split
      · rename_i p hp
        simp
        exact Nat.le_trans (leftS_len l p.2 keep torn) (hlX p.2)
      · simp
    · simp
  · have h3 := nowF_len (((M ++ [s6]).filter chgF).take j)
    have h4 : (((M ++ [s6]).filter chgF).take j).length ≤ 8 := by
      rw [List.length_take, List.filter_append, List.length_append, hS.chg]
      simp [c6]
      omega
    omega
theorem CutR.little {d : CDisk} {l : List (ByteArray × List Nat)} (h : CutR d l) (hl : l.length ≤ 8) (hb : ∀ x ∈ l, x.2.length ≤ 1048576) (hnd : (l.map (·.1)).Nodup) (hne : ∀ x ∈ l, x.1 ≠ ByteArray.empty) (sv : Value) {k : Nat} (hk : 8 ≤ k) : Sized k (syncedN d sv) := by
  obtain ⟨z1, z2, z3, z4, z5⟩ := h.calls
  obtain ⟨_, _, i3⟩ := h.holds hnd hne
  refine ⟨by show d.nam.length ≤ k; omega, by show d.ks.length ≤ k; omega, by show (d.ss ++ [d.calls]).length ≤ k; rw [z2]; simp; omega, by show d.calls ≤ k; omega, fun f hf => ?_⟩
  obtain ⟨g1, g2, g3, x, hx, g4⟩ := i3 f hf
  rw [g1, g2, g3, g4]
  exact ⟨by omega, by simp; omega, by simp; omega, hb x hx⟩
end Go.Proofs.Ytpkiapjcilapoaa
