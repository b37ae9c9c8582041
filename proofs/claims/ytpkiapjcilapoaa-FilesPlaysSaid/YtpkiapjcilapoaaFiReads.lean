/-
  What the document's own disk tells: a file's bytes, how many steps, how many appends are open.
-/
import Derived.Test.YtpkiapjcilapoaaFiCalls
namespace Go.Proofs.Ytpkiapjcilapoaa
open Go.RowKit Go.Sort

theorem heldF_take (L : List FStep) (f i : Nat) : (heldF (L.take i) f).length ≤ (heldF L f).length := by
  have h : heldF L f = heldF (L.take i) f ++ heldF (L.drop i) f := by
    unfold heldF
    rw [← List.flatMap_append, ← List.filter_append, List.take_append_drop]
  rw [h, List.length_append]; omega

theorem DiskR.byte {n p born base : Nat} {w : World} {lv : Value} {L : List FStep} {B : List Nat} (h : DiskR n w p lv L born base B) (f : Nat) : ∀ x ∈ heldF L f, x < 256 := by
  intro x hx
  unfold heldF at hx
  obtain ⟨s, hs, hx⟩ := List.mem_flatMap.1 hx
  exact (h.bytes s (List.mem_filter.1 hs).1).byte x hx

set_option maxRecDepth 20000 in
set_option maxHeartbeats 2000000 in
theorem refHeld_any {n p born base : Nat} {w : World} {lv : Value} {L : List FStep} {B : List Nat} (h : DiskR n w p lv L born base B) (f : Nat) (hh : (heldF L f).length ≤ 1048576) :
    Calls Try.prog 64 #[.pointer (some ⟨p, 0, none⟩), .int .i64 (f : Nat)] w fun e w' => ∃ v', e = .returned v' ∧ Own w' w.heap.size v' (heldF L f) ∧ Below w.heap.size w w' := by
  have hlv := fun W => h.steps.len (ty := 3) W
  have hle := h.steps.le
  rw [List.length_map] at hle
  have hc00 := h.c0
  have hp := h.plt
  have h := Lib.hid h
  go_enter Try.func64, Try.ntmps64
  go_wp2
  go_loopw [5, 6] (fun o' t wr => ∃ (o : Value) (i : Nat), o = o' ∧ t = .int .i64 i ∧ i ≤ L.length ∧ Own wr w.heap.size o (heldF (L.take i) f) ∧ Below w.heap.size w wr) (fun _ t _ => L.length - (intOf t).toNat)
  case atStart => exact ⟨_, 0, rfl, rfl, by omega, own_none _ _, Below.refl _ _⟩
  case round =>
    obtain ⟨o, i, rfl, rfl, hi, hown, hbel⟩ := hrel
    have hc0 : wr.cell? ⟨p, 0, none⟩ = some lv := (hbel.cell (p := ⟨p, 0, none⟩) hp).trans hc00
    rcases Nat.lt_or_ge i L.length with hil | hil
    · obtain ⟨s, hs⟩ : ∃ s, L[i]? = some s := ⟨_, List.getElem?_eq_getElem hil⟩
      have hbv := hide (((h.out.bytes s (List.mem_of_getElem? hs))).below hbel)
      obtain ⟨b, off, hix, hc, _, _⟩ := (RowsAt.below h.out.steps hbel).index elemS.ht elemS.hs (steps_at hs)
      have k0 : wr.cell? ⟨b, off, none⟩ = some (.int .i64 (s.kind : Nat)) := hc 0 _ rfl
      have k1 : wr.cell? ⟨b, off + 1, none⟩ = some (.int .i64 (s.file : Nat)) := hc 1 _ rfl
      have k3 : wr.cell? ⟨b, off + 3, none⟩ = some s.bv := hc 3 _ rfl
      have hd := heldF_snoc (L.take i) s f
      rw [← take_snoc hs] at hd
      have hlen := heldF_take L f (i + 1)
      obtain ⟨k, f', nm, bv, bb⟩ := s
      dsimp only at hbv k0 k1 k3 hd
      clear hc hs
      by_cases hk2 : k = 2
      · subst hk2
        by_cases hf : f' = f
        · subst hf
          rw [if_pos ⟨rfl, rfl⟩] at hd
          rw [hd, List.length_append] at hlen
          have hd := Lib.hid hd
          go_wp2_with (at_builtin; refine append_bytes rfl (.tmp 37) (.tmp 45) rfl w.heap.size rfl hown rfl hbv.out (by omega) hbel.size ?_; intro v2 w2 hown2 hb2; have hbel2 := hbel.trans hb2)
          go_roundw
          case rel => exact ⟨v2, i + 1, rfl, by go_num, by omega, by rw [hd.out]; exact hown2, hbel2⟩
          case measure => simp [intOf]; omega
        · rw [if_neg (fun h => hf h.2)] at hd
          have hd := Lib.hid hd
          have hq : ((f' : Int) == f) = false := beq_false_of_ne (by omega)
          have hq2 : decide (f' = f) = false := decide_eq_false hf
          clear hf
          go_wp2
          go_roundw
          case rel => exact ⟨o, i + 1, rfl, by go_num, by omega, by rw [hd.out]; exact hown, hbel⟩
          case measure => simp [intOf]; omega
      · rw [if_neg (fun h => hk2 h.1)] at hd
        have hd := Lib.hid hd
        have hq : ((k : Int) == 2) = false := beq_false_of_ne (by omega)
        have hq2 : decide (k = 2) = false := decide_eq_false hk2
        clear hk2
        go_wp2
        go_roundw
        case rel => exact ⟨o, i + 1, rfl, by go_num, by omega, by rw [hd.out]; exact hown, hbel⟩
        case measure => simp [intOf]; omega
    · have hd : L.take i = L := List.take_of_length_le hil
      rw [hd] at hown
      clear hd
      go_wp2
      go_ret
      exact ⟨_, rfl, hown, hbel⟩

/-- What Read tells. -/
def readS (L : List FStep) (nm : ByteArray) : List Nat × Nat := if findF (nowF L) nm < 0 then ([], 61) else (heldF L (findF (nowF L) nm).toNat, 0)

set_option maxRecDepth 20000 in
set_option maxHeartbeats 2000000 in
theorem refRead_any {n p born base : Nat} {w : World} {lv : Value} {L : List FStep} {B : List Nat} (h : DiskR n w p lv L born base B) (hl : L.length ≤ 10000) (hh : ∀ f, (heldF L f).length ≤ 1048576) (nm : ByteArray) :
    Calls Try.prog 45 #[.pointer (some ⟨p, 0, none⟩), .string nm] w fun e w' => ∃ v', e = .returned (.tuple #[v', .int .i64 ((readS L nm).2 : Nat)]) ∧ Own w' w.heap.size v' (readS L nm).1 ∧ Below w.heap.size w w' := by
  have hc0 := h.c0
  have cN := hide (refNow_any lv L w h.steps h.kinds (by omega))
  have cF := hide (fun v W (hv : NamesAt W v (nowF L)) => refFind_any v (nowF L) nm W hv)
  have h := Lib.hid h
  have hh := Lib.hid hh
  rcases findF_ways (nowF L) nm with hf | ⟨f, hf⟩
  · rw [hf] at cF
    rw [show readS L nm = ([], 61) by unfold readS; rw [if_pos (by rw [hf]; decide)]]
    clear hf
    go_enter Try.func45, Try.ntmps45
    go_wp2_with (first
      | (go_at_call 62; refine cN.out.mono ?_; rintro e' w1 ⟨v1, rfl, hn1, hb1⟩)
      | (go_at_call 63; refine (cF.out _ _ hn1).mono ?_; rintro e' w2 ⟨rfl, rfl⟩))
    go_ret2
    exact ⟨_, rfl, own_none _ _, hb1⟩
  · rw [hf] at cF
    rw [show readS L nm = (heldF L f, 0) by unfold readS; rw [if_neg (by rw [hf]; omega), hf]; rfl]
    clear hf
    go_enter Try.func45, Try.ntmps45
    go_wp2_with (first
      | (go_at_call 62; refine cN.out.mono ?_; rintro e' w1 ⟨v1, rfl, hn1, hb1⟩; have cH := hide (refHeld_any (h.out.below hb1) f (hh.out f)))
      | (go_at_call 63; refine (cF.out _ _ hn1).mono ?_; rintro e' w2 ⟨rfl, rfl⟩)
      | (go_at_call 64; refine cH.out.mono ?_; rintro e' w3 ⟨v3, rfl, ho3, hb3⟩))
    go_ret2
    exact ⟨_, rfl, ho3.lower hb1.size, then_call hb1 hb3⟩

set_option maxRecDepth 20000 in
set_option maxHeartbeats 1000000 in
theorem refChanges_any {n p born base : Nat} {w : World} {lv : Value} {L : List FStep} {B : List Nat} (h : DiskR n w p lv L born base B) (hl : L.length ≤ 10000) (hb : base ≤ L.length) :
    Calls Try.prog 44 #[.pointer (some ⟨p, 0, none⟩)] w (Ret (.int .i64 ((L.length - base : Nat) : Int)) w) := by
  have hlv := fun W => h.steps.len (ty := 3) W
  have hc0 := h.c0
  have hc2 := h.c2
  have hsub : (L.length : Int) - base = ((L.length - base : Nat) : Int) := by omega
  have hM : L.length - base ≤ 10000 := by omega
  obtain ⟨M, hM2⟩ : ∃ M, L.length - base = M := ⟨_, rfl⟩
  rw [hM2] at hsub hM ⊢
  clear hM2 h
  go_enter Try.func44, Try.ntmps44
  go_wp2
  go_quiet (fail)
  go_wp2
  go_ret
  exact ⟨rfl, below_drewN (Below.refl _ _) _⟩

/-- How many appends of a file are open. -/
def pendF (L : List FStep) (f : Nat) : Nat := L.foldl (fun m s => if s.file = f ∧ s.kind = 5 then 0 else if s.file = f ∧ s.kind = 2 then m + 1 else m) 0
theorem pendF_snoc (L : List FStep) (s : FStep) (f : Nat) : pendF (L ++ [s]) f = if s.file = f ∧ s.kind = 5 then 0 else if s.file = f ∧ s.kind = 2 then pendF L f + 1 else pendF L f := by simp [pendF]
theorem pendF_le (L : List FStep) (f i : Nat) : pendF (L.take i) f ≤ i := by
  induction i with
  | zero => simp [pendF]
  | succ i ih =>
    rcases Nat.lt_or_ge i L.length with h | h
    · rw [take_snoc (List.getElem?_eq_getElem h), pendF_snoc]
      split
      · omega
      · split <;> omega
    · rw [List.take_of_length_le (by omega)]
      rw [List.take_of_length_le h] at ih
      omega
end Go.Proofs.Ytpkiapjcilapoaa
