/-
  How many appends of a file are open, the document's own disk.
-/
import Derived.Test.YtpkiapjcilapoaaFiReads
namespace Go.Proofs.Ytpkiapjcilapoaa
open Go.RowKit Go.Sort

def pendS (L : List FStep) (nm : ByteArray) : Nat := if findF (nowF L) nm < 0 then 0 else pendF L (findF (nowF L) nm).toNat

set_option maxRecDepth 20000 in
set_option maxHeartbeats 4000000 in
theorem refPending_any {n p born base : Nat} {w : World} {lv : Value} {L : List FStep} {B : List Nat} (h : DiskR n w p lv L born base B) (hl : L.length ≤ 10000) (nm : ByteArray) :
    Calls Try.prog 46 #[.pointer (some ⟨p, 0, none⟩), .string nm] w (Ret (.int .i64 (pendS L nm : Nat)) w) := by
  have hlv := fun W => h.steps.len (ty := 3) W
  have hc0 := h.c0
  have hp := h.plt
  have cN := hide (refNow_any lv L w h.steps h.kinds (by omega))
  have cF := hide (fun v W (hv : NamesAt W v (nowF L)) => refFind_any v (nowF L) nm W hv)
  have h := Lib.hid h
  rcases findF_ways (nowF L) nm with hf | ⟨f, hf⟩
  · rw [hf] at cF
    rw [show pendS L nm = 0 by unfold pendS; rw [if_pos (by rw [hf]; decide)]]
    clear hf
    go_enter Try.func46, Try.ntmps46
    go_wp2_with (first
      | (go_at_call 62; refine cN.out.mono ?_; rintro e' w1 ⟨v1, rfl, hn1, hb1⟩; have hc0 := (h.out.below hb1).c0)
      | (go_at_call 63; refine (cF.out _ _ hn1).mono ?_; rintro e' w2 ⟨rfl, rfl⟩))
    go_loopw [6, 7] (fun m t wr => t = .int .i64 0 ∧ m = .int .i64 0 ∧ wr = w1) (fun _ _ _ => 0)
    case atStart => exact ⟨rfl, rfl, rfl⟩
    case round =>
      obtain ⟨rfl, rfl, rfl⟩ := hrel
      rcases Nat.eq_zero_or_pos L.length with h0 | h0
      · have hq : decide (0 < L.length) = false := decide_eq_false (by omega)
        clear h0
        go_wp2
        go_ret
        exact ⟨rfl, hb1⟩
      · go_wp2
        go_ret
        exact ⟨rfl, hb1⟩
  · rw [hf] at cF
    rw [show pendS L nm = pendF L f by unfold pendS; rw [if_neg (by rw [hf]; omega), hf]; rfl]
    clear hf
    go_enter Try.func46, Try.ntmps46
    go_wp2_with (first
      | (go_at_call 62; refine cN.out.mono ?_; rintro e' w1 ⟨v1, rfl, hn1, hb1⟩; have hd1 := h.out.below hb1; have hc0 := hd1.c0; have hs1 := hd1.steps)
      | (go_at_call 63; refine (cF.out _ _ hn1).mono ?_; rintro e' w2 ⟨rfl, rfl⟩))
    have hs1 := Lib.hid hs1
    clear hd1
    go_loopw [6, 7] (fun m t wr => ∃ (i k : Nat), t = .int .i64 i ∧ m = .int .i64 k ∧ i ≤ L.length ∧ k ≤ i ∧ Hid (k = pendF (L.take i) f) ∧ wr = w1) (fun _ t _ => L.length - (intOf t).toNat)
    case atStart => exact ⟨0, 0, rfl, rfl, by omega, by omega, Lib.hid rfl, rfl⟩
    case round =>
      obtain ⟨i, m, rfl, rfl, hi, hm, hso, rfl⟩ := hrel
      rcases Nat.lt_or_ge i L.length with hil | hil
      · obtain ⟨s, hs⟩ : ∃ s, L[i]? = some s := ⟨_, List.getElem?_eq_getElem hil⟩
        obtain ⟨b, off, hix, hc, _, _⟩ := RowsAt.index hs1.out elemS.ht elemS.hs (steps_at hs)
        have k0 : wr.cell? ⟨b, off, none⟩ = some (.int .i64 (s.kind : Nat)) := hc 0 _ rfl
        have k1 : wr.cell? ⟨b, off + 1, none⟩ = some (.int .i64 (s.file : Nat)) := hc 1 _ rfl
        have hd := pendF_snoc (L.take i) s f
        rw [← take_snoc hs, ← hso.out] at hd
        obtain ⟨k, f', nm', bv, bb⟩ := s
        dsimp only at k0 k1 hd
        clear hc hs hso
        by_cases hf : f' = f
        · subst hf
          by_cases h2 : k = 2
          · subst h2
            have hnext : Hid (m + 1 = pendF (L.take (i + 1)) f') := Lib.hid (by rw [hd]; simp)
            clear hd
            go_wp2
            go_roundw
            case rel => exact ⟨i + 1, m + 1, by go_num, by go_num, by omega, by omega, hnext, trivial⟩
            case measure => simp [intOf]; omega
          · by_cases h5 : k = 5
            · subst h5
              have hnext : Hid (0 = pendF (L.take (i + 1)) f') := Lib.hid (by rw [hd]; simp)
              clear hd h2
              go_wp2
              go_roundw
              case rel => exact ⟨i + 1, 0, by go_num, rfl, by omega, by omega, hnext, trivial⟩
              case measure => simp [intOf]; omega
            · have hnext : Hid (m = pendF (L.take (i + 1)) f') := Lib.hid (by rw [hd]; simp [h2, h5])
              have q2 : ((k : Int) == 2) = false := beq_false_of_ne (by omega)
              have q5 : ((k : Int) == 5) = false := beq_false_of_ne (by omega)
              have q2' : decide (k = 2) = false := decide_eq_false h2
              have q5' : decide (k = 5) = false := decide_eq_false h5
              clear hd h2 h5
              go_wp2
              go_roundw
              case rel => exact ⟨i + 1, m, by go_num, rfl, by omega, by omega, hnext, trivial⟩
              case measure => simp [intOf]; omega
        · have hnext : Hid (m = pendF (L.take (i + 1)) f) := Lib.hid (by rw [hd]; simp [hf])
          have hq : ((f' : Int) == f) = false := beq_false_of_ne (by omega)
          have hq2 : decide (f' = f) = false := decide_eq_false hf
          clear hd hf
          go_wp2
          go_roundw
          case rel => exact ⟨i + 1, m, by go_num, rfl, by omega, by omega, hnext, trivial⟩
          case measure => simp [intOf]; omega
      · have hd : Hid (m = pendF L f) := Lib.hid (by have := hso.out; rwa [List.take_of_length_le hil] at this)
        have hq : decide (i < L.length) = false := decide_eq_false (by omega)
        go_wp2
        go_ret
        exact ⟨by rw [← hd.out]; rfl, hb1⟩
end Go.Proofs.Ytpkiapjcilapoaa
