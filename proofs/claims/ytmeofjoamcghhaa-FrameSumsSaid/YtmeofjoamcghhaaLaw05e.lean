/-
  FrameBack, walked.
-/
import Derived.Test.YtmeofjoamcghhaaLaw05b
namespace Go.Proofs.Ytmeofjoamcghhaa
open Go.RowKit Go.Sort

set_option maxRecDepth 20000 in
set_option maxHeartbeats 2000000 in
theorem frameBack_long (w : World) (k cut : Int) (v y : Value) (l m : List Nat) (hv : BytesAt w v l) (hy : BytesAt w y m) (h : 5000 < l.length ∨ (l.length ≤ 5000 ∧ 5000 < m.length)) :
    Calls Try.prog 6 #[.agg #[.int .u8 k, v, y, .int .i64 cut]] w (Ret (.bool true) w) := by
  have hlv := fun W => hv.len (ty := 3) W
  have hly := fun W => hy.len (ty := 3) W
  clear hv hy
  rcases h with h | ⟨h, h2⟩
  all_goals
    go_enter Try.func6, Try.ntmps6
    go_wp2_with (go_at_call 10; refine (alive5_any _).mono ?_; rintro e' w5 ⟨rfl, hb5⟩)
    go_ret
    exact ⟨rfl, below_box hb5⟩

set_option maxRecDepth 20000 in
set_option maxHeartbeats 4000000 in
theorem frameBack_walk' (w : World) (k J : Nat) (cut : Int) (v y : Value) (l m : List Nat) (hv : BytesAt w v l) (hy : BytesAt w y m) (h : l.length ≤ 5000) (h2 : m.length ≤ 5000) (hk : k < 256)
    (hat : (0 ≤ cut ∧ cut % (11 + (l.length : Int)) = J) ∨ (cut < 0 ∧ -9223372036854775808 ≤ cut ∧ -(cut + 1) % (11 + (l.length : Int)) = J)) (hJ : J < 11 + l.length) :
    Calls Try.prog 6 #[.agg #[.int .u8 k, v, y, .int .i64 cut]] w (Ret (.bool true) w) := by
  have hlv := fun W => hv.len (ty := 3) W
  have hly := fun W => hy.len (ty := 3) W
  have hfb := frameL_byte hk hv.byte
  have hmb := hy.byte
  have hfl := frameL_len k l
  have t1 := take_wrap (k := k) (body := l) (more := m) (by omega)
  have t2 := take_cut (k := k) (body := l) (by omega) hJ
  obtain ⟨F, hF⟩ : ∃ F, frameL k l = F := ⟨_, rfl⟩
  rw [hF] at hfb hfl t1 t2
  have cW : Hid (∀ W, BytesAt W v l → Calls Try.prog 14 #[.int .u8 k, v] W fun e w' => ∃ v' s, e = .returned (.tuple #[v', .int .i64 0]) ∧ Below W.heap.size W w' ∧ BytesAt w' v' F ∧
      (∀ W, (Builtin.len_ #[22] 3 #[v']).run Try.prog W = .ok (.int .i64 (11 + (l.length : Int))) W) ∧
      (∀ W, (Instr.slice 22 v' none (some (.int .i64 (J : Int))) none).run Try.prog W = .ok s W) ∧ BytesAt w' s (F.take J)) := hide (fun W h' =>
    (cWrap_any v k l W hk h' (by omega)).mono fun e w' ⟨v', h1, h2, h3⟩ => by
      rw [hF] at h2
      have hb := h2.bytes hfb
      obtain ⟨s, h4, h5⟩ := hb.first (k := J) (by omega)
      refine ⟨v', s, h1, h3, hb, fun W => ?_, h4, h5⟩
      have := hb.len (ty := 3) W
      rwa [hfl, Int.natCast_add] at this)
  have cT1 : Hid (∀ W v', BytesAt W v' (F ++ m) → Calls Try.prog 16 #[v'] W (GivesF (k, l, 11 + l.length, 0) W)) := hide (fun W v' h => by rw [← t1]; exact cTake_any v' _ W h)
  have cT2 : Hid (∀ W v', BytesAt W v' (F.take J) → Calls Try.prog 16 #[v'] W (GivesF (0, [], 0, 52) W)) := hide (fun W v' h => by rw [← t2]; exact cTake_any v' _ W h)
  have hlb := hide hv.byte
  have hv := hide hv
  have hy := hide hy
  have hFm : Hid (∀ x ∈ [] ++ F ++ m, x < 256) := hide (fun x hx => by
    rcases List.mem_append.1 hx with h | h
    · exact hfb x (by simpa using h)
    · exact hmb x h)
  clear t1 t2 hF hfb hmb
  have hneg : cut < 0 → -((cut + 1).tmod (11 + (l.length : Int))) = -(cut + 1) % (11 + (l.length : Int)) := fun h0 => by
    rw [← Int.neg_tmod, Int.tmod_eq_emod_of_nonneg (by omega)]
  rcases hat with ⟨ht0, ht⟩ | ⟨ht0, ht1, ht⟩
  · clear hneg
    go_enter Try.func6, Try.ntmps6
    go_wp2_with (first
      | (go_at_call 14; refine (cW.out _ (hv.out.below (below_box1 _ _))).mono ?_; rintro e' w1 ⟨v1, s1, rfl, hb1, bF, hl1, hs1, bS⟩; have k1 := below_box hb1; have bF := hide bF; have bS := hide bS; have hv1 := keepY hv k1; have hy1 := keepY hy k1)
      | (at_builtin; refine append_bytes rfl (.tmp 52) (.tmp 53) rfl w1.heap.size rfl (own_made w1 _ rfl) rfl (bF.out.below (below_box1 _ _)) (by simp; omega) (by simp) ?_; intro v2 w2 o2 hb2; have hb2 : Below w1.heap.size w1 w2 := (below_box1 w1 _).trans hb2)
      | (at_builtin; refine append_bytes rfl (.tmp 54) (.tmp 55) rfl w1.heap.size rfl o2 rfl (hy1.out.below hb2) (by simp; omega) hb2.size ?_; intro v3 w3 o3 hb3; have hb3 : Below w1.heap.size w1 w3 := hb2.trans hb3; have k3 := then_call k1 hb3; have b3 := hide (o3.bytes hFm.out); have bS := keepY bS hb3; have hv3 := keepY hv1 hb3)
      | (go_at_call 16; (first
          | ((with_reducible refine (cT1.out _ v3 b3.out).mono ?_); rintro e' w4 ⟨v4, rfl, ho, hb⟩; have k4 := then_call k3 hb; have b4 := hide (ho.bytes hlb.out); have bS := keepY bS hb; have hv4 := keepY hv3 hb; clear ho hb)
          | ((with_reducible refine (cT2.out _ s1 bS.out).mono ?_); rintro e' w5 ⟨v5, rfl, ho, hb⟩; have k5 := then_call k4 hb; have hl5 : ∀ W, (Builtin.len_ #[22] 3 #[v5]).run Try.prog W = .ok (.int .i64 0) W := (fun W => (ho.bytes (by simp)).len (ty := 3) W); clear ho hb)))
      | (go_at_call 12; refine (same_true b4.out hv4.out).mono ?_; rintro e' w6 ⟨rfl, rfl⟩)
      | (go_at_call 10; refine (alive5_any _).mono ?_; rintro e' w7 ⟨rfl, hb7⟩))
    go_ret
    exact ⟨rfl, then_call k5 hb7⟩
  · have hn := hneg ht0
    rw [ht] at hn
    clear hneg
    go_enter Try.func6, Try.ntmps6
    go_wp2_with (first
      | (go_at_call 14; refine (cW.out _ (hv.out.below (below_box1 _ _))).mono ?_; rintro e' w1 ⟨v1, s1, rfl, hb1, bF, hl1, hs1, bS⟩; have k1 := below_box hb1; have bF := hide bF; have bS := hide bS; have hv1 := keepY hv k1; have hy1 := keepY hy k1)
      | (at_builtin; refine append_bytes rfl (.tmp 52) (.tmp 53) rfl w1.heap.size rfl (own_made w1 _ rfl) rfl (bF.out.below (below_box1 _ _)) (by simp; omega) (by simp) ?_; intro v2 w2 o2 hb2; have hb2 : Below w1.heap.size w1 w2 := (below_box1 w1 _).trans hb2)
      | (at_builtin; refine append_bytes rfl (.tmp 54) (.tmp 55) rfl w1.heap.size rfl o2 rfl (hy1.out.below hb2) (by simp; omega) hb2.size ?_; intro v3 w3 o3 hb3; have hb3 : Below w1.heap.size w1 w3 := hb2.trans hb3; have k3 := then_call k1 hb3; have b3 := hide (o3.bytes hFm.out); have bS := keepY bS hb3; have hv3 := keepY hv1 hb3)
      | (go_at_call 16; (first
          | ((with_reducible refine (cT1.out _ v3 b3.out).mono ?_); rintro e' w4 ⟨v4, rfl, ho, hb⟩; have k4 := then_call k3 hb; have b4 := hide (ho.bytes hlb.out); have bS := keepY bS hb; have hv4 := keepY hv3 hb; clear ho hb)
          | ((with_reducible refine (cT2.out _ s1 bS.out).mono ?_); rintro e' w5 ⟨v5, rfl, ho, hb⟩; have k5 := then_call k4 hb; have hl5 : ∀ W, (Builtin.len_ #[22] 3 #[v5]).run Try.prog W = .ok (.int .i64 0) W := (fun W => (ho.bytes (by simp)).len (ty := 3) W); clear ho hb)))
      | (go_at_call 12; refine (same_true b4.out hv4.out).mono ?_; rintro e' w6 ⟨rfl, rfl⟩)
      | (go_at_call 10; refine (alive5_any _).mono ?_; rintro e' w7 ⟨rfl, hb7⟩))
    go_ret
    exact ⟨rfl, then_call k5 hb7⟩
end Go.Proofs.Ytmeofjoamcghhaa
