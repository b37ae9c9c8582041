/-
  Wrap, the document's own answer.
-/
import Derived.Test.YtmeofjoamcghhaaFrFour
import Derived.Outline
namespace Go.Proofs.Ytmeofjoamcghhaa
open Go.RowKit Go.Sort

set_option maxRecDepth 20000 in
set_option maxHeartbeats 1000000 in
theorem refWrap_long (v : Value) (k : Nat) (l : List Nat) (w : World) (hv : BytesAt w v l) (h : 65536 < l.length) :
    Calls Try.prog 15 #[.int .u8 k, v] w fun e w' => e = .returned (.tuple #[.slice none 0 0, .int .i64 1]) ∧ w = w' := by
  have hlv := fun W => hv.len (ty := 3) W
  clear hv
  go_enter Try.func15, Try.ntmps15
  go_wp2
  go_ret2
  exact ⟨rfl, rfl⟩

theorem four_app {k : Nat} {l : List Nat} (hk : k < 256) (hl : ∀ x ∈ l, x < 256) (n : Nat) : ∀ x ∈ [k] ++ fourL n ++ l, x < 256 := by
  intro x hx
  rcases List.mem_append.1 hx with h | h
  · rcases List.mem_append.1 h with h | h
    · simp at h; omega
    · exact four_byte _ x h
  · exact hl x h

set_option maxRecDepth 20000 in
set_option maxHeartbeats 2000000 in
theorem refWrap_any (v : Value) (k : Nat) (l : List Nat) (w : World) (hk : k < 256) (hv : BytesAt w v l) (h : l.length ≤ 65536) :
    Calls Try.prog 15 #[.int .u8 k, v] w fun e w' => ∃ v', e = .returned (.tuple #[v', .int .i64 0]) ∧ Own w' w.heap.size v' (frameL k l) ∧ Below w.heap.size w w' := by
  have hlv := fun W => hv.len (ty := 3) W
  have hby := hide hv.byte
  have hv := hide hv
  have hS := four_app hk hv.out.byte l.length
  obtain ⟨S, eS⟩ : ∃ S, sumN ([k] ++ fourL l.length ++ l) = S := ⟨_, rfl⟩
  have hS32 : S < 4294967296 := by rw [← eS]; exact sumN_lt hS
  have hS := hide hS
  have cS : Hid (∀ W v, BytesAt W v ([k] ++ fourL l.length ++ l) → Calls Try.prog 13 #[v] W fun e w' => e = .returned (.int .u32 (S : Nat)) ∧ W = w') := hide (fun W v h => by rw [← eS]; exact refSum_any v _ W h)
  have cL := hide (fun W => refFour_any l.length (by omega) W)
  have cF := hide (fun W => refFour_any S hS32 W)
  have hfr : Hid ([83, 84] ++ ([k] ++ fourL l.length) ++ fourL S ++ l = frameL k l) := hide (by rw [← eS]; simp [frameL])
  have hfl : ∀ n, (fourL n).length = 4 := fun n => rfl
  have hhb : Hid (∀ x ∈ [k] ++ fourL l.length, x < 256) := hide (fun x hx => hS.out x (List.mem_append_left _ hx))
  clear eS
  go_enter Try.func15, Try.ntmps15
  go_wp2_with (first
    | (go_at_call 21; (first
        | ((with_reducible refine (cL.out _).mono ?_); rintro e' w1 ⟨a1, rfl, ho, hb⟩; have k1 : Below w.heap.size w w1 := then_call (below_box1 _ _) hb; have b1 := hide (ho.bytes (four_byte _)); have o1 := (own_lit w [k] #[.int .u8 k] (by simp [bvals, bval]) (by simp)).later hb; clear ho hb)
        | ((with_reducible refine (cF.out _).mono ?_); rintro e' w6 ⟨a6, rfl, ho, hb⟩; have k6 := then_call k5 hb; have b6 := hide (ho.bytes (four_byte _)); have o5 := o5.later hb; clear ho hb)))
    | (at_builtin; refine append_bytes rfl (.tmp 13) (.tmp 17) rfl w.heap.size rfl o1 rfl b1.out (by simp [hfl]) k1.size ?_; intro v2 w2 o2 hb2; have k2 : Below w.heap.size w w2 := k1.trans hb2; have b2 := hide (o2.bytes hhb.out))
    | (at_builtin; refine append_bytes rfl (.tmp 19) (.tmp 20) rfl w2.heap.size rfl (own_made w2 _ rfl) rfl (b2.out.below (below_box1 _ _)) (by simp [hfl]) (by simp) ?_; intro v3 w3 o3 hb3; have hb3 : Below w2.heap.size w2 w3 := (below_box1 w2 _).trans hb3; have k3 := then_call k2 hb3)
    | (at_builtin; refine append_bytes rfl (.tmp 21) (.tmp 22) rfl w2.heap.size rfl o3 rfl (hv.out.below k3) (by simp [hfl]; omega) hb3.size ?_; intro v4 w4 o4 hb4; have hb4 : Below w2.heap.size w2 w4 := hb3.trans hb4; have k4 := then_call k2 hb4; have b4 : Hid (BytesAt w4 v4 ([k] ++ fourL l.length ++ l)) := hide (o4.bytes hS.out); have b2 := hide (b2.out.below hb4))
    | (go_at_call 13; refine (cS.out _ _ b4.out).mono ?_; rintro e' w5 ⟨rfl, rfl⟩)
    | (at_builtin; refine append_bytes rfl (.tmp 25) (.tmp 26) rfl w4.heap.size rfl (own_lit w4 [83, 84] #[.int .u8 83, .int .u8 84] (by simp [bvals, bval]) (by simp)) rfl (b2.out.below (below_box1 _ _)) (by simp [hfl]) (by simp) ?_; intro v5 w5 o5 hb5; have hb5 : Below w4.heap.size w4 w5 := (below_box1 w4 _).trans hb5; have k5 := then_call k4 hb5)
    | (at_builtin; refine append_bytes rfl (.tmp 28) (.tmp 30) rfl w.heap.size rfl (o5.lower k4.size) rfl b6.out (by simp [hfl]) k6.size ?_; intro v7 w7 o7 hb7; have k7 : Below w.heap.size w w7 := k6.trans hb7)
    | (at_builtin; refine append_bytes rfl (.tmp 32) (.tmp 33) rfl w.heap.size rfl o7 rfl (hv.out.below k7) (by simp [hfl]; omega) k7.size ?_; intro v8 w8 o8 hb8; have k8 : Below w.heap.size w w8 := k7.trans hb8))
  go_ret2
  exact ⟨_, rfl, by rw [← hfr.out]; exact o8, k8⟩
end Go.Proofs.Ytmeofjoamcghhaa
