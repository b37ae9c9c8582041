/-
  FrameStream, walked.
-/
import Derived.Test.YtmeofjoamcghhaaFrStr
import Derived.Deep.RegionHeld3
import Derived.Deep.QuietTactic
import Derived.BigQuiet
import Derived.Outline
namespace Go.Proofs.Ytmeofjoamcghhaa
open Go.RowKit Go.Sort

theorem round_short {fs : List (Nat × List Nat)} {i k : Nat} {l : List Nat} (hi : i < fs.length) (hkl : fs.getD i (0, []) = (k, l)) (hl : l.length ≤ 1000) (h : (catF (fs.take i)).length ≤ 1011 * i ∧ (∀ j, j < i → (fs.getD j (0, [])).2.length ≤ 1000)) :
    (catF (fs.take (i + 1))).length ≤ 1011 * (i + 1) ∧ (∀ j, j < i + 1 → (fs.getD j (0, [])).2.length ≤ 1000) := by
  refine ⟨?_, fun j hj => ?_⟩
  · rw [catF_snoc fs i hi hkl, List.length_append, frameL_len]; omega
  · rcases Nat.lt_or_ge j i with h' | h'
    · exact h.2 j h'
    · obtain rfl : j = i := by omega
      rw [hkl]; exact hl

set_option maxRecDepth 20000 in
set_option maxHeartbeats 4000000 in
theorem frameStream_walk' (w : World) (v : Value) (fs : List (Nat × List Nat)) (cut : Int) (J : Nat) (hv : FramesAt w v fs) (hfsb : ∀ f ∈ fs, f.1 < 256 ∧ ∀ x ∈ f.2, x < 256)
    (hat : (0 ≤ cut ∧ cut % 14 = J) ∨ (cut < 0 ∧ -9223372036854775808 ≤ cut ∧ -(cut + 1) % 14 = J)) (hJ : J < 14) :
    Calls Try.prog 9 #[v, .int .i64 cut] w (Ret (.bool true) w) := by
  have hlv := hv.len
  have hle := hv.le
  have hv := Lib.hid hv
  have hfsb := Lib.hid hfsb
  have hat := Lib.hid hat
  have hc1 : Hid (∀ W v', BytesAt W v' [101, 110, 100] → Calls Try.prog 14 #[.int .u8 1, v'] W fun e w' => ∃ v1, e = .returned (.tuple #[v1, .int .i64 0]) ∧ Own w' W.heap.size v1 (frameL 1 [101, 110, 100]) ∧ Below W.heap.size W w') :=
    hide (fun W v' h' => cWrap_any v' 1 _ W (by omega) h' (by simp))
  have kc := fun (w : World) (C : Array Value) (n c : Nat) => Lib.run_convert_bytes_const (P := Try.prog) w 22 5 C n c Try.underlying22 Try.underlying5
  go_enter Try.func9, Try.ntmps9
  go_wp2
  go_loopw [5, 6, 7] (fun o' m t wr => ∃ (o : Value) (i : Nat), o = o' ∧ t = .int .i64 i ∧ m = .int .i64 i ∧ i ≤ fs.length ∧ i ≤ 8 ∧ Own wr w.heap.size o (catF (fs.take i)) ∧ Hid ((catF (fs.take i)).length ≤ 1011 * i ∧ (∀ j, j < i → (fs.getD j (0, [])).2.length ≤ 1000)) ∧ Below w.heap.size w wr) (fun _ _ t _ => 8 - (intOf t).toNat)
  case atStart => exact ⟨_, 0, rfl, rfl, rfl, by omega, by omega, own_none _ _, Lib.hid ⟨by simp [catF], by omega⟩, Below.refl _ _⟩
  case round =>
    obtain ⟨o, i, rfl, rfl, rfl, hi, hi8, hown, hsh, hbel⟩ := hrel
    by_cases hgo : i < fs.length ∧ i < 8
    · obtain ⟨hil, h8⟩ := hgo
      obtain ⟨b, off, bv, hix, hb, hc0, hc1', hbv, hk⟩ := hv.out.at_ i hil
      obtain ⟨⟨k, l⟩, hkl⟩ : ∃ p, fs.getD i (0, []) = p := ⟨_, rfl⟩
      rw [hkl] at hc0 hbv hk
      dsimp only at hc0 hbv hk
      have hlv2 := fun W => hbv.len (ty := 3) W
      have hkl := Lib.hid hkl
      have hcw0 := Lib.hid hc0
      have hcw1 := Lib.hid hc1'
      rw [← hbel.cell (p := ⟨b, off, none⟩) hb] at hc0
      rw [← hbel.cell (p := ⟨b, off + 1, none⟩) hb] at hc1'
      rcases Nat.lt_or_ge 1000 l.length with hlong | hshort
      · go_wp2_with (go_at_call 10; refine (alive5_any _).mono ?_; rintro e' w5 ⟨rfl, hb5⟩)
        go_ret
        exact ⟨rfl, then_call hbel hb5⟩
      · have cW := hide (fun W (h' : BytesAt W bv l) => cWrap_any bv k l W hk h' (by omega))
        have hbv2 := hide (hbv.below hbel)
        have hfb := hide (frameL_byte hk hbv.byte)
        have hsh2 := Lib.hid (round_short hil hkl.out hshort hsh.out)
        have hlen := hsh.out.1
        have hfl := frameL_len k l
        go_wp2
        go_region_held3 (fun w' => w'.cell? ⟨b, off, none⟩ = some (.int .u8 (k : Nat)) ∧ w'.cell? ⟨b, off + 1, none⟩ = some bv) (go_keep) ((go_at_call 14; refine (cW.out wr.drew hbv2.out).mono ?_; rintro e' w1 ⟨v1, rfl, ho1, hb1⟩; have hA1 : w1.cell? ⟨b, off, none⟩ = some (.int .u8 (k : Nat)) := (hb1.cell (p := ⟨b, off, none⟩) (Nat.lt_of_lt_of_le hb hbel.size)).trans hc0; have hB1 : w1.cell? ⟨b, off + 1, none⟩ = some bv := (hb1.cell (p := ⟨b, off + 1, none⟩) (Nat.lt_of_lt_of_le hb hbel.size)).trans hc1'))
        have hbel1 : Below w.heap.size w w1 := then_call (Below.drew hbel) hb1
        have hown1 := (hown.drewN 1).later hb1
        go_wp2_with (at_builtin; refine append_bytes rfl (.tmp 56) (.tmp 57) rfl w.heap.size rfl hown1 rfl (ho1.bytes hfb.out) (by omega) hbel1.size ?_; intro v2 w2 hown2 hb2; have hbel2 := hbel1.trans hb2)
        go_roundw
        case rel => exact ⟨v2, i + 1, rfl, by go_num, by go_num, by omega, by omega, by rw [catF_snoc fs i hil hkl.out]; exact hown2, hsh2, hbel2⟩
        case measure => simp [intOf]; omega
    · have HE : (decide (i < fs.length) = false) ∨ (i < fs.length ∧ ¬ i < 8) := by
        by_cases h : i < fs.length
        · exact .inr ⟨h, fun h' => hgo ⟨h, h'⟩⟩
        · exact .inl (decide_eq_false h)
      have hN : i ≤ fs.length ∧ i ≤ 8 := ⟨hi, hi8⟩
      have hend := Lib.hid hgo
      clear hgo hend
      obtain ⟨T, hT⟩ : ∃ T, catF (fs.take i) = T := ⟨_, rfl⟩
      rw [hT] at hown hsh
      have hTl : T.length ≤ 8088 := by have := hsh.out.1; omega
      have hbod := Lib.hid hsh.out.2
      obtain ⟨F, hF⟩ : ∃ F, frameL 1 [101, 110, 100] = F := ⟨_, rfl⟩
      have hFl : F.length = 14 := by rw [← hF, frameL_len]; rfl
      have hFb : ∀ x ∈ F, x < 256 := by rw [← hF]; exact frameL_byte (by omega) (by decide)
      have t2 := take_cut (k := 1) (body := [101, 110, 100]) (by simp) (show J < 11 + [101, 110, 100].length by simpa using hJ)
      rw [hF] at t2
      rw [hF] at hc1
      -- what stands in front of the end, from a place on
      have cT1 : Hid (∀ q, q < i → ∀ k l, fs.getD q (0, []) = (k, l) → ∀ W v', BytesAt W v' (catF (restF fs i q) ++ F.take J) → Calls Try.prog 16 #[v'] W (GivesF (k, l, 11 + l.length, 0) W)) := hide (fun q hq k l hkl W v' hb => by
        rw [restF_cons hq hi hkl, catF, List.append_assoc] at hb
        have hl := hbod.out q hq
        rw [hkl] at hl
        dsimp only at hl hb
        rw [← take_wrap (k := k) (body := l) (more := catF (restF fs i (q + 1)) ++ F.take J) (by omega)]
        exact cTake_any v' _ W hb)
      have cT2 : Hid (∀ W v', BytesAt W v' (F.take J) → Calls Try.prog 16 #[v'] W (GivesF (0, [], 0, 52) W)) := hide (fun W v' h => by rw [← t2]; exact cTake_any v' _ W h)
      have cL : Hid (∀ W v1, Own W w.heap.size v1 F ∨ BytesAt W v1 F → True) := hide (fun _ _ _ => trivial)
      have hFb := Lib.hid hFb
      have hT0 := Lib.hid hT
      have hTb : Hid (∀ x ∈ T, x < 256) := Lib.hid (by rw [← hT]; exact catF_byte _ (fun f hf => hfsb.out f (List.mem_of_mem_take hf)))
      clear t2 hT hsh cL hF
      have hneg : cut < 0 → -((cut + 1).tmod 14) = -(cut + 1) % 14 := fun h0 => by
        rw [← Int.neg_tmod, Int.tmod_eq_emod_of_nonneg (by omega)]
      rcases hat.out with ⟨ht0, ht⟩ | ⟨ht0, ht1, ht⟩
      · clear hneg
        rcases HE with hq | ⟨hq1, hq2⟩
        · clear hat
          go_wp2_with (first
            | (go_at_call 14; refine (hc1.out _ _ (bytes_lit _ [101, 110, 100] _ _ _ rfl (by decide) (by decide))).mono ?_; rintro e' w3 ⟨v3, rfl, ho3, hb3⟩; have hbel3 : Below w.heap.size w w3 := then_call hbel (below_box hb3); have hown3 := hown.later (below_box hb3); have b3 := ho3.bytes hFb.out; have hl3 : ∀ W, (Builtin.len_ #[22] 3 #[v3]).run Try.prog W = .ok (.int .i64 14) W := (fun W => by have := b3.len (ty := 3) W; rwa [hFl] at this); obtain ⟨s3, hs3, bs3⟩ := b3.first (k := J) (by omega))
            | (at_builtin; refine append_bytes rfl (.tmp 75) (.tmp 81) rfl w.heap.size rfl hown3 rfl bs3 (by rw [List.length_take]; omega) hbel3.size ?_; intro v4 w4 hown4 hb4; have hbel4 := hbel3.trans hb4))
          have hall := Lib.hid (show BytesAt w4 v4 (catF (restF fs i 0) ++ F.take J) from hown4.bytes (by
            intro x hx
            rcases List.mem_append.1 hx with h | h
            · exact hTb.out x h
            · exact hFb.out x (List.mem_of_mem_take h)) |> fun h => by rw [restF_start, hT0.out]; exact h)
          clear hc1 kc hown4 hb4 hown3 hs3 bs3 b3 ho3 hb3 hl3 hown hbel hbel3
          go_loopw [5, 12] (fun o' t wr => ∃ (o : Value) (q : Nat), o = o' ∧ t = .int .i64 q ∧ q ≤ i ∧ Hid (BytesAt wr o (catF (restF fs i q) ++ F.take J)) ∧ Below w.heap.size w wr) (fun _ t _ => i - (intOf t).toNat)
          case atStart => exact ⟨_, 0, rfl, rfl, by omega, hall, hbel4⟩
          case round =>
            clear hall hbel4
            obtain ⟨o2, q, rfl, rfl, hqi, hall, hbel⟩ := hrel
            rcases Nat.lt_or_ge q i with hqlt | hqge
            · obtain ⟨b, off, bv, hix, hb, hc0, hc1, hbv, hk⟩ := hv.out.at_ q (by omega)
              have hl1 := hbod.out q hqlt
              obtain ⟨⟨k, l⟩, hkl⟩ : ∃ p, fs.getD q (0, []) = p := ⟨_, rfl⟩
              rw [hkl] at hc0 hbv hk hl1
              dsimp only at hc0 hbv hk hl1
              have cT := hide (cT1.out q hqlt k l hkl wr o2 hall.out)
              have hcut := hall.out
              rw [restF_cons hqlt hN.1 hkl, catF, List.append_assoc] at hcut
              dsimp only at hcut
              have hfl := frameL_len k l
              have hlo := fun W => hcut.len (ty := 3) W
              obtain ⟨L, hL⟩ : ∃ L, (frameL k l ++ (catF (restF fs i (q + 1)) ++ F.take J)).length = L := ⟨_, rfl⟩
              rw [hL] at hlo
              have hLge : 11 + l.length ≤ L := by rw [← hL, List.length_append, hfl]; omega
              obtain ⟨o3, hs3, bs3⟩ := hcut.cut (k := 11 + l.length) (by rw [hL]; exact hLge)
              rw [← hfl, List.drop_left' rfl] at bs3
              have bs3 := Lib.hid bs3
              have hs3 : ∀ W, (Instr.slice 22 o2 (some (.int .i64 (11 + (l.length : Int)))) none none).run Try.prog W = .ok o3 W := hs3
              have hlb := hide hbv.byte
              have hbv2 := hide (hbv.below hbel)
              have hcw0 := Lib.hid hc0
              have hcw1 := Lib.hid hc1
              clear hc0 hc1 hbv hcut hL hkl
              have hqL : decide (L < 11 + l.length) = false := decide_eq_false (by omega)
              go_wp2_with (first
                | (go_at_call 16; refine cT.out.mono ?_; rintro e' w5 ⟨v5, rfl, ho5, hb5⟩; have hbel5 := then_call hbel hb5; have b5 := hide (ho5.bytes hlb.out); have hbv5 := keepY hbv2 hb5; have bs5 := keepY bs3 hb5; have hc0 : w5.cell? ⟨b, off, none⟩ = some (.int .u8 (k : Nat)) := (hbel5.cell (p := ⟨b, off, none⟩) hb).trans hcw0.out; have hc1 : w5.cell? ⟨b, off + 1, none⟩ = some bv := (hbel5.cell (p := ⟨b, off + 1, none⟩) hb).trans hcw1.out; clear ho5)
                | (go_at_call 12; refine (same_true b5.out hbv5.out).mono ?_; rintro e' w6 ⟨rfl, rfl⟩))
              go_roundw
              case rel => exact ⟨o3, q + 1, rfl, by go_num, by omega, bs5, hbel5⟩
              case measure => simp [intOf]; omega
            · have hqe : q = i := by omega
              subst hqe
              have hend : BytesAt wr o2 (F.take J) := by
                have := hall.out
                rwa [restF_end, catF, List.nil_append] at this
              have cT := hide (cT2.out wr o2 hend)
              clear hend
              go_wp2_with (first
                | (go_at_call 16; refine cT.out.mono ?_; rintro e' w5 ⟨v5, rfl, ho5, hb5⟩; have hbel5 := then_call hbel hb5; clear ho5)
                | (go_at_call 10; refine (alive5_any _).mono ?_; rintro e' w7 ⟨rfl, hb7⟩))
              go_ret
              exact ⟨rfl, then_call hbel5 hb7⟩
        · clear hat
          go_wp2_with (first
            | (go_at_call 14; refine (hc1.out _ _ (bytes_lit _ [101, 110, 100] _ _ _ rfl (by decide) (by decide))).mono ?_; rintro e' w3 ⟨v3, rfl, ho3, hb3⟩; have hbel3 : Below w.heap.size w w3 := then_call hbel (below_box hb3); have hown3 := hown.later (below_box hb3); have b3 := ho3.bytes hFb.out; have hl3 : ∀ W, (Builtin.len_ #[22] 3 #[v3]).run Try.prog W = .ok (.int .i64 14) W := (fun W => by have := b3.len (ty := 3) W; rwa [hFl] at this); obtain ⟨s3, hs3, bs3⟩ := b3.first (k := J) (by omega))
            | (at_builtin; refine append_bytes rfl (.tmp 75) (.tmp 81) rfl w.heap.size rfl hown3 rfl bs3 (by rw [List.length_take]; omega) hbel3.size ?_; intro v4 w4 hown4 hb4; have hbel4 := hbel3.trans hb4))
          have hall := Lib.hid (show BytesAt w4 v4 (catF (restF fs i 0) ++ F.take J) from hown4.bytes (by
            intro x hx
            rcases List.mem_append.1 hx with h | h
            · exact hTb.out x h
            · exact hFb.out x (List.mem_of_mem_take h)) |> fun h => by rw [restF_start, hT0.out]; exact h)
          clear hc1 kc hown4 hb4 hown3 hs3 bs3 b3 ho3 hb3 hl3 hown hbel hbel3
          go_loopw [5, 12] (fun o' t wr => ∃ (o : Value) (q : Nat), o = o' ∧ t = .int .i64 q ∧ q ≤ i ∧ Hid (BytesAt wr o (catF (restF fs i q) ++ F.take J)) ∧ Below w.heap.size w wr) (fun _ t _ => i - (intOf t).toNat)
          case atStart => exact ⟨_, 0, rfl, rfl, by omega, hall, hbel4⟩
          case round =>
            clear hall hbel4
            obtain ⟨o2, q, rfl, rfl, hqi, hall, hbel⟩ := hrel
            rcases Nat.lt_or_ge q i with hqlt | hqge
            · obtain ⟨b, off, bv, hix, hb, hc0, hc1, hbv, hk⟩ := hv.out.at_ q (by omega)
              have hl1 := hbod.out q hqlt
              obtain ⟨⟨k, l⟩, hkl⟩ : ∃ p, fs.getD q (0, []) = p := ⟨_, rfl⟩
              rw [hkl] at hc0 hbv hk hl1
              dsimp only at hc0 hbv hk hl1
              have cT := hide (cT1.out q hqlt k l hkl wr o2 hall.out)
              have hcut := hall.out
              rw [restF_cons hqlt hN.1 hkl, catF, List.append_assoc] at hcut
              dsimp only at hcut
              have hfl := frameL_len k l
              have hlo := fun W => hcut.len (ty := 3) W
              obtain ⟨L, hL⟩ : ∃ L, (frameL k l ++ (catF (restF fs i (q + 1)) ++ F.take J)).length = L := ⟨_, rfl⟩
              rw [hL] at hlo
              have hLge : 11 + l.length ≤ L := by rw [← hL, List.length_append, hfl]; omega
              obtain ⟨o3, hs3, bs3⟩ := hcut.cut (k := 11 + l.length) (by rw [hL]; exact hLge)
              rw [← hfl, List.drop_left' rfl] at bs3
              have bs3 := Lib.hid bs3
              have hs3 : ∀ W, (Instr.slice 22 o2 (some (.int .i64 (11 + (l.length : Int)))) none none).run Try.prog W = .ok o3 W := hs3
              have hlb := hide hbv.byte
              have hbv2 := hide (hbv.below hbel)
              have hcw0 := Lib.hid hc0
              have hcw1 := Lib.hid hc1
              clear hc0 hc1 hbv hcut hL hkl
              have hqL : decide (L < 11 + l.length) = false := decide_eq_false (by omega)
              go_wp2_with (first
                | (go_at_call 16; refine cT.out.mono ?_; rintro e' w5 ⟨v5, rfl, ho5, hb5⟩; have hbel5 := then_call hbel hb5; have b5 := hide (ho5.bytes hlb.out); have hbv5 := keepY hbv2 hb5; have bs5 := keepY bs3 hb5; have hc0 : w5.cell? ⟨b, off, none⟩ = some (.int .u8 (k : Nat)) := (hbel5.cell (p := ⟨b, off, none⟩) hb).trans hcw0.out; have hc1 : w5.cell? ⟨b, off + 1, none⟩ = some bv := (hbel5.cell (p := ⟨b, off + 1, none⟩) hb).trans hcw1.out; clear ho5)
                | (go_at_call 12; refine (same_true b5.out hbv5.out).mono ?_; rintro e' w6 ⟨rfl, rfl⟩))
              go_roundw
              case rel => exact ⟨o3, q + 1, rfl, by go_num, by omega, bs5, hbel5⟩
              case measure => simp [intOf]; omega
            · have hqe : q = i := by omega
              subst hqe
              have hend : BytesAt wr o2 (F.take J) := by
                have := hall.out
                rwa [restF_end, catF, List.nil_append] at this
              have cT := hide (cT2.out wr o2 hend)
              clear hend
              go_wp2_with (first
                | (go_at_call 16; refine cT.out.mono ?_; rintro e' w5 ⟨v5, rfl, ho5, hb5⟩; have hbel5 := then_call hbel hb5; clear ho5)
                | (go_at_call 10; refine (alive5_any _).mono ?_; rintro e' w7 ⟨rfl, hb7⟩))
              go_ret
              exact ⟨rfl, then_call hbel5 hb7⟩
      · have hn := hneg ht0
        rw [ht] at hn
        clear hneg
        rcases HE with hq | ⟨hq1, hq2⟩
        · clear hat
          go_wp2_with (first
            | (go_at_call 14; refine (hc1.out _ _ (bytes_lit _ [101, 110, 100] _ _ _ rfl (by decide) (by decide))).mono ?_; rintro e' w3 ⟨v3, rfl, ho3, hb3⟩; have hbel3 : Below w.heap.size w w3 := then_call hbel (below_box hb3); have hown3 := hown.later (below_box hb3); have b3 := ho3.bytes hFb.out; have hl3 : ∀ W, (Builtin.len_ #[22] 3 #[v3]).run Try.prog W = .ok (.int .i64 14) W := (fun W => by have := b3.len (ty := 3) W; rwa [hFl] at this); obtain ⟨s3, hs3, bs3⟩ := b3.first (k := J) (by omega))
            | (at_builtin; refine append_bytes rfl (.tmp 75) (.tmp 81) rfl w.heap.size rfl hown3 rfl bs3 (by rw [List.length_take]; omega) hbel3.size ?_; intro v4 w4 hown4 hb4; have hbel4 := hbel3.trans hb4))
          have hall := Lib.hid (show BytesAt w4 v4 (catF (restF fs i 0) ++ F.take J) from hown4.bytes (by
            intro x hx
            rcases List.mem_append.1 hx with h | h
            · exact hTb.out x h
            · exact hFb.out x (List.mem_of_mem_take h)) |> fun h => by rw [restF_start, hT0.out]; exact h)
          clear hc1 kc hown4 hb4 hown3 hs3 bs3 b3 ho3 hb3 hl3 hown hbel hbel3
          go_loopw [5, 12] (fun o' t wr => ∃ (o : Value) (q : Nat), o = o' ∧ t = .int .i64 q ∧ q ≤ i ∧ Hid (BytesAt wr o (catF (restF fs i q) ++ F.take J)) ∧ Below w.heap.size w wr) (fun _ t _ => i - (intOf t).toNat)
          case atStart => exact ⟨_, 0, rfl, rfl, by omega, hall, hbel4⟩
          case round =>
            clear hall hbel4
            obtain ⟨o2, q, rfl, rfl, hqi, hall, hbel⟩ := hrel
            rcases Nat.lt_or_ge q i with hqlt | hqge
            · obtain ⟨b, off, bv, hix, hb, hc0, hc1, hbv, hk⟩ := hv.out.at_ q (by omega)
              have hl1 := hbod.out q hqlt
              obtain ⟨⟨k, l⟩, hkl⟩ : ∃ p, fs.getD q (0, []) = p := ⟨_, rfl⟩
              rw [hkl] at hc0 hbv hk hl1
              dsimp only at hc0 hbv hk hl1
              have cT := hide (cT1.out q hqlt k l hkl wr o2 hall.out)
              have hcut := hall.out
              rw [restF_cons hqlt hN.1 hkl, catF, List.append_assoc] at hcut
              dsimp only at hcut
              have hfl := frameL_len k l
              have hlo := fun W => hcut.len (ty := 3) W
              obtain ⟨L, hL⟩ : ∃ L, (frameL k l ++ (catF (restF fs i (q + 1)) ++ F.take J)).length = L := ⟨_, rfl⟩
              rw [hL] at hlo
              have hLge : 11 + l.length ≤ L := by rw [← hL, List.length_append, hfl]; omega
              obtain ⟨o3, hs3, bs3⟩ := hcut.cut (k := 11 + l.length) (by rw [hL]; exact hLge)
              rw [← hfl, List.drop_left' rfl] at bs3
              have bs3 := Lib.hid bs3
              have hs3 : ∀ W, (Instr.slice 22 o2 (some (.int .i64 (11 + (l.length : Int)))) none none).run Try.prog W = .ok o3 W := hs3
              have hlb := hide hbv.byte
              have hbv2 := hide (hbv.below hbel)
              have hcw0 := Lib.hid hc0
              have hcw1 := Lib.hid hc1
              clear hc0 hc1 hbv hcut hL hkl
              have hqL : decide (L < 11 + l.length) = false := decide_eq_false (by omega)
              go_wp2_with (first
                | (go_at_call 16; refine cT.out.mono ?_; rintro e' w5 ⟨v5, rfl, ho5, hb5⟩; have hbel5 := then_call hbel hb5; have b5 := hide (ho5.bytes hlb.out); have hbv5 := keepY hbv2 hb5; have bs5 := keepY bs3 hb5; have hc0 : w5.cell? ⟨b, off, none⟩ = some (.int .u8 (k : Nat)) := (hbel5.cell (p := ⟨b, off, none⟩) hb).trans hcw0.out; have hc1 : w5.cell? ⟨b, off + 1, none⟩ = some bv := (hbel5.cell (p := ⟨b, off + 1, none⟩) hb).trans hcw1.out; clear ho5)
                | (go_at_call 12; refine (same_true b5.out hbv5.out).mono ?_; rintro e' w6 ⟨rfl, rfl⟩))
              go_roundw
              case rel => exact ⟨o3, q + 1, rfl, by go_num, by omega, bs5, hbel5⟩
              case measure => simp [intOf]; omega
            · have hqe : q = i := by omega
              subst hqe
              have hend : BytesAt wr o2 (F.take J) := by
                have := hall.out
                rwa [restF_end, catF, List.nil_append] at this
              have cT := hide (cT2.out wr o2 hend)
              clear hend
              go_wp2_with (first
                | (go_at_call 16; refine cT.out.mono ?_; rintro e' w5 ⟨v5, rfl, ho5, hb5⟩; have hbel5 := then_call hbel hb5; clear ho5)
                | (go_at_call 10; refine (alive5_any _).mono ?_; rintro e' w7 ⟨rfl, hb7⟩))
              go_ret
              exact ⟨rfl, then_call hbel5 hb7⟩
        · clear hat
          go_wp2_with (first
            | (go_at_call 14; refine (hc1.out _ _ (bytes_lit _ [101, 110, 100] _ _ _ rfl (by decide) (by decide))).mono ?_; rintro e' w3 ⟨v3, rfl, ho3, hb3⟩; have hbel3 : Below w.heap.size w w3 := then_call hbel (below_box hb3); have hown3 := hown.later (below_box hb3); have b3 := ho3.bytes hFb.out; have hl3 : ∀ W, (Builtin.len_ #[22] 3 #[v3]).run Try.prog W = .ok (.int .i64 14) W := (fun W => by have := b3.len (ty := 3) W; rwa [hFl] at this); obtain ⟨s3, hs3, bs3⟩ := b3.first (k := J) (by omega))
            | (at_builtin; refine append_bytes rfl (.tmp 75) (.tmp 81) rfl w.heap.size rfl hown3 rfl bs3 (by rw [List.length_take]; omega) hbel3.size ?_; intro v4 w4 hown4 hb4; have hbel4 := hbel3.trans hb4))
          have hall := Lib.hid (show BytesAt w4 v4 (catF (restF fs i 0) ++ F.take J) from hown4.bytes (by
            intro x hx
            rcases List.mem_append.1 hx with h | h
            · exact hTb.out x h
            · exact hFb.out x (List.mem_of_mem_take h)) |> fun h => by rw [restF_start, hT0.out]; exact h)
          clear hc1 kc hown4 hb4 hown3 hs3 bs3 b3 ho3 hb3 hl3 hown hbel hbel3
          go_loopw [5, 12] (fun o' t wr => ∃ (o : Value) (q : Nat), o = o' ∧ t = .int .i64 q ∧ q ≤ i ∧ Hid (BytesAt wr o (catF (restF fs i q) ++ F.take J)) ∧ Below w.heap.size w wr) (fun _ t _ => i - (intOf t).toNat)
          case atStart => exact ⟨_, 0, rfl, rfl, by omega, hall, hbel4⟩
          case round =>
            clear hall hbel4
            obtain ⟨o2, q, rfl, rfl, hqi, hall, hbel⟩ := hrel
            rcases Nat.lt_or_ge q i with hqlt | hqge
            · obtain ⟨b, off, bv, hix, hb, hc0, hc1, hbv, hk⟩ := hv.out.at_ q (by omega)
              have hl1 := hbod.out q hqlt
              obtain ⟨⟨k, l⟩, hkl⟩ : ∃ p, fs.getD q (0, []) = p := ⟨_, rfl⟩
              rw [hkl] at hc0 hbv hk hl1
              dsimp only at hc0 hbv hk hl1
              have cT := hide (cT1.out q hqlt k l hkl wr o2 hall.out)
              have hcut := hall.out
              rw [restF_cons hqlt hN.1 hkl, catF, List.append_assoc] at hcut
              dsimp only at hcut
              have hfl := frameL_len k l
              have hlo := fun W => hcut.len (ty := 3) W
              obtain ⟨L, hL⟩ : ∃ L, (frameL k l ++ (catF (restF fs i (q + 1)) ++ F.take J)).length = L := ⟨_, rfl⟩
              rw [hL] at hlo
              have hLge : 11 + l.length ≤ L := by rw [← hL, List.length_append, hfl]; omega
              obtain ⟨o3, hs3, bs3⟩ := hcut.cut (k := 11 + l.length) (by rw [hL]; exact hLge)
              rw [← hfl, List.drop_left' rfl] at bs3
              have bs3 := Lib.hid bs3
              have hs3 : ∀ W, (Instr.slice 22 o2 (some (.int .i64 (11 + (l.length : Int)))) none none).run Try.prog W = .ok o3 W := hs3
              have hlb := hide hbv.byte
              have hbv2 := hide (hbv.below hbel)
              have hcw0 := Lib.hid hc0
              have hcw1 := Lib.hid hc1
              clear hc0 hc1 hbv hcut hL hkl
              have hqL : decide (L < 11 + l.length) = false := decide_eq_false (by omega)
              go_wp2_with (first
                | (go_at_call 16; refine cT.out.mono ?_; rintro e' w5 ⟨v5, rfl, ho5, hb5⟩; have hbel5 := then_call hbel hb5; have b5 := hide (ho5.bytes hlb.out); have hbv5 := keepY hbv2 hb5; have bs5 := keepY bs3 hb5; have hc0 : w5.cell? ⟨b, off, none⟩ = some (.int .u8 (k : Nat)) := (hbel5.cell (p := ⟨b, off, none⟩) hb).trans hcw0.out; have hc1 : w5.cell? ⟨b, off + 1, none⟩ = some bv := (hbel5.cell (p := ⟨b, off + 1, none⟩) hb).trans hcw1.out; clear ho5)
                | (go_at_call 12; refine (same_true b5.out hbv5.out).mono ?_; rintro e' w6 ⟨rfl, rfl⟩))
              go_roundw
              case rel => exact ⟨o3, q + 1, rfl, by go_num, by omega, bs5, hbel5⟩
              case measure => simp [intOf]; omega
            · have hqe : q = i := by omega
              subst hqe
              have hend : BytesAt wr o2 (F.take J) := by
                have := hall.out
                rwa [restF_end, catF, List.nil_append] at this
              have cT := hide (cT2.out wr o2 hend)
              clear hend
              go_wp2_with (first
                | (go_at_call 16; refine cT.out.mono ?_; rintro e' w5 ⟨v5, rfl, ho5, hb5⟩; have hbel5 := then_call hbel hb5; clear ho5)
                | (go_at_call 10; refine (alive5_any _).mono ?_; rintro e' w7 ⟨rfl, hb7⟩))
              go_ret
              exact ⟨rfl, then_call hbel5 hb7⟩
end Go.Proofs.Ytmeofjoamcghhaa
