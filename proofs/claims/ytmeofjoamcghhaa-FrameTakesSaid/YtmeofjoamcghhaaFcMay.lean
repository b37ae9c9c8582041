/-
  The code's own mayBegin, with the library's HasPrefix, Equal and Clone.
-/
import Derived.Test.YtmeofjoamcghhaaFcPut
import Derived.Laws.RangeAny
import Derived.Lib.SliceRun
import Derived.Lib.SlBytesConst
namespace Go.Proofs.Ytmeofjoamcghhaa
open Go.RowKit Go.Sort

theorem equal_any {w : World} {v u : Value} {l m : List Nat} (hv : BytesAt w v l) (hu : BytesAt w u m) :
    Calls Try.prog 27 #[v, u] w fun e w' => e = .returned (.bool (decide (l = m))) ∧ w = w' := by
  have h1 := run_bytes hv
  have h2 := run_bytes hu
  have hd := Lib.hid (strB_beq hv.byte hu.byte)
  obtain ⟨S, hS⟩ : ∃ S, strB l = S := ⟨_, rfl⟩
  obtain ⟨T, hT⟩ : ∃ T, strB m = T := ⟨_, rfl⟩
  rw [hS] at h1
  rw [hT] at h2
  clear hv hu
  rw [hS, hT] at hd
  clear hS hT
  go_enter Try.func27, Try.ntmps27
  go_wp2
  go_ret
  exact ⟨ret_bool hd.out, rfl⟩

/-- Whether l begins with m. -/
def begins (l m : List Nat) : Bool := decide (m.length ≤ l.length ∧ l.take m.length = m)

theorem prefix_any {w : World} {v u : Value} {l m : List Nat} (hv : BytesAt w v l) (hu : BytesAt w u m) :
    Calls Try.prog 26 #[v, u] w fun e w' => e = .returned (.bool (begins l m)) ∧ w = w' := by
  have hlv := fun W => hv.len (ty := 3) W
  have hlu := fun W => hu.len (ty := 3) W
  by_cases hlm : m.length ≤ l.length
  · obtain ⟨v1, h1, b1⟩ := hv.first (k := m.length) hlm
    have c1 := Lib.hid (equal_any b1 hu)
    have hg : decide ((m.length : Int) ≤ (l.length : Int)) = true := by simpa using hlm
    have hg2 : decide (m.length ≤ l.length) = true := by simpa using hlm
    have hb : Hid (decide (l.take m.length = m) = begins l m) := Lib.hid (by simp [begins, hlm])
    clear hv hu b1
    go_enter Try.func26, Try.ntmps26
    go_wp2_with (go_at_call 27; refine c1.out.mono ?_; rintro e w' ⟨rfl, rfl⟩)
    go_ret
    exact ⟨ret_bool hb.out, rfl⟩
  · have hg : decide ((m.length : Int) ≤ (l.length : Int)) = false := by simpa using hlm
    have hg2 : decide (m.length ≤ l.length) = false := by simpa using hlm
    have hb : Hid (false = begins l m) := Lib.hid (by simp [begins, hlm])
    clear hv hu
    go_enter Try.func26, Try.ntmps26
    go_wp2
    go_ret
    exact ⟨ret_bool hb.out, rfl⟩

theorem clone_any (v : Value) (l : List Nat) (w : World) (hv : BytesAt w v l) (hl : l.length ≤ 140737488355328) :
    Calls Try.prog 24 #[v] w fun e w' => ∃ v', e = .returned v' ∧ Own w' w.heap.size v' l ∧ Below w.heap.size w w' := by
  have h0 := hv
  obtain ⟨A, c, rfl, _, _, _, h5, h6⟩ := h0
  have q : ∀ (w : World) (a : Option Addr) (n c n' c' : Nat), (binOp .eql 22 (.slice a n c) (.slice none n' c')).run Try.prog w = .ok (.bool a.isNone) w := fun w a n c n' c' => Lib.run_eql_slice_nil w _ _ a n c n' c' Try.underlying22
  have hv := Lib.hid hv
  rcases A with _ | ad
  · have hl0 : l = [] := by
      cases l with
      | nil => rfl
      | cons x t => obtain ⟨_, _, h, _⟩ := h5 (by simp); cases h
    subst hl0
    clear h5 h6
    go_enter Try.func24, Try.ntmps24
    go_wp2
    go_ret
    exact ⟨_, rfl, own_none _ _, Below.refl _ _⟩
  · clear h5 h6
    go_enter Try.func24, Try.ntmps24
    go_wp2_with (at_builtin; refine append_bytes rfl (.tmp 5) (.tmp 6) rfl w.heap.size rfl (own_made w _ rfl) rfl (hv.out.below (below_box1 _ _)) (by simpa using hl) (by simp) ?_; intro v1 w1 o1 hb1)
    go_ret
    exact ⟨_, rfl, o1, (below_box1 _ _).trans hb1⟩

/-- Whether a frame may begin so. -/
def mayB (l : List Nat) : Bool := begins [83, 84] (l.take (min l.length 2)) && (decide (l.length < 3) || decide (numL ((l.take (min l.length 7)).drop 3) ≤ 65536))

/-- The literal of the mark, as its conversion leaves it. -/
theorem mark_at (w : World) : BytesAt (w.alloc (.cells #[.int .u8 83, .int .u8 84] 5 (2, 3))) (.slice (some ⟨w.heap.size, 0, none⟩) 2 2) [83, 84] := by
  refine ⟨some ⟨w.heap.size, 0, none⟩, 2, rfl, Nat.le_refl _, by decide, by simp, fun _ => ⟨w.heap.size, 0, rfl, by simp, fun i hi => ?_⟩, fun h => by cases h⟩
  have hi : i < 2 := hi
  have : i = 0 ∨ i = 1 := by omega
  rcases this with rfl | rfl
  · rw [World.cell?_alloc_mark]; rfl
  · rw [World.cell?_alloc_mark]; rfl

set_option maxRecDepth 20000 in
set_option maxHeartbeats 1000000 in
theorem may_any (v : Value) (l : List Nat) (w : World) (hv : BytesAt w v l) :
    Calls Try.prog 22 #[v] w (Ret (.bool (mayB l)) w) := by
  have hlv := fun W => hv.len (ty := 3) W
  have hll : (l.length : Int) ≤ 9223372036854775807 := by have := hv.row.le; rwa [bvals_length] at this
  obtain ⟨v1, h1, b1⟩ := hv.first (k := min l.length 2) (by omega)
  have kc := fun (w : World) (C : Array Value) (n c : Nat) => Lib.run_convert_bytes_const (P := Try.prog) w 22 5 C n c Try.underlying22 Try.underlying5
  have hbx : Below w.heap.size w (w.alloc (.cells #[.int .u8 83, .int .u8 84] 5 (2, 3))) := below_box1 _ _
  have hbx := Lib.hid hbx
  have cS := Lib.hid (prefix_any (mark_at w) (b1.below hbx.out))
  obtain ⟨p, hp⟩ : ∃ p, begins [83, 84] (l.take (min l.length 2)) = p := ⟨_, rfl⟩
  rw [hp] at cS
  have hm : Hid (mayB l = (p && (decide (l.length < 3) || decide (numL ((l.take (min l.length 7)).drop 3) ≤ 65536)))) := Lib.hid (by rw [mayB, hp])
  clear hp b1
  cases p
  · have hm2 : Hid (mayB l = false) := Lib.hid (by rw [hm.out]; rfl)
    clear hm hv
    rcases Nat.lt_or_ge 2 l.length with h2 | h2
    all_goals
      first | rw [show min l.length 2 = l.length by omega] at h1 | (rw [show min l.length 2 = 2 by omega] at h1; have h1 : ∀ W, (Instr.slice 22 v none (some (.int .i64 2)) none).run Try.prog W = .ok v1 W := h1)
      go_enter Try.func22, Try.ntmps22
      go_wp2_with (go_at_call 26; refine cS.out.mono ?_; rintro e w' ⟨rfl, rfl⟩)
      go_ret
      exact ⟨ret_bool hm2.out.symm, hbx.out⟩
  · rcases Nat.lt_or_ge l.length 3 with h3 | h3
    · have hm2 : Hid (mayB l = true) := Lib.hid (by rw [hm.out]; simp [h3])
      clear hm hv
      rw [show min l.length 2 = l.length by omega] at h1
      go_enter Try.func22, Try.ntmps22
      go_wp2_with (go_at_call 26; refine cS.out.mono ?_; rintro e w' ⟨rfl, rfl⟩)
      go_ret
      exact ⟨ret_bool hm2.out.symm, hbx.out⟩
    · have hg : decide ((l.length : Int) < 3) = false := by simp; omega
      have hg2 : decide (l.length < 3) = false := by simp; omega
      rw [show min l.length 2 = 2 by omega] at h1
      have h1 : ∀ W, (Instr.slice 22 v none (some (.int .i64 2)) none).run Try.prog W = .ok v1 W := h1
      obtain ⟨v2, h2, b2⟩ := hv.between (i := 3) (j := min l.length 7) (by omega) (by omega)
      have cN := Lib.hid (number_any v2 _ _ (by simp; omega) (b2.below hbx.out))
      obtain ⟨n, hn⟩ : ∃ n, numL ((l.take (min l.length 7)).drop 3) = n := ⟨_, rfl⟩
      rw [hn] at cN
      have hm2 : Hid (mayB l = decide ((n : Int) ≤ 65536)) := Lib.hid (by rw [hm.out, hn, hg2]; simp; omega)
      clear hm hv hn b2
      rcases Nat.lt_or_ge 7 l.length with h7 | h7
      all_goals
        first
          | (rw [show min l.length 7 = l.length by omega] at h2; have h2 : ∀ W, (Instr.slice 22 v (some (.int .i64 3)) (some (.int .i64 (l.length : Nat))) none).run Try.prog W = .ok v2 W := h2)
          | (rw [show min l.length 7 = 7 by omega] at h2; have h2 : ∀ W, (Instr.slice 22 v (some (.int .i64 3)) (some (.int .i64 7)) none).run Try.prog W = .ok v2 W := h2)
        go_enter Try.func22, Try.ntmps22
        go_wp2_with (first
          | (go_at_call 26; refine cS.out.mono ?_; rintro e w' ⟨rfl, rfl⟩)
          | (go_at_call 23; refine cN.out.mono ?_; rintro e w' ⟨rfl, rfl⟩))
        go_ret
        exact ⟨ret_bool hm2.out.symm, hbx.out⟩
end Go.Proofs.Ytmeofjoamcghhaa
