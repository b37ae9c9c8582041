/-
  BatchOnly, walked.
-/
import Derived.Test.YtidicjjjkmlmaaaDoorBaSame
import Derived.Test.YtidicjjjkmlmaaaDoorMBase
namespace Go.Proofs.YtidicjjjkmlmaaaDoor
open Go.RowKit Go.Sort
set_option maxRecDepth 20000

/-- No batch begins another one. -/
theorem IsBatch.free {b r : List Nat} {l l' : List OpV} (h : IsBatch b l) (h' : IsBatch (b ++ r) l') (hb : ((b ++ r).length : Int) ≤ 9223372036854775807) : r = [] := by
  have hp' : putL l.length <+: b ++ r := by rw [h.2.2]; unfold batchB; rw [List.append_assoc]; exact List.prefix_append _ _
  obtain ⟨e1, e3⟩ := h'.parts hp'
  have e2 : (b ++ r).drop (putL l.length).length = numB l 21 ++ (truB l 2 ++ (texB l 3 ++ r)) := by
    rw [h.2.2]
    unfold batchB
    rw [List.append_assoc, List.drop_left, List.append_assoc, List.append_assoc]
  rw [e2] at e3
  have u1 := (NumOf.of h.nums rfl : NumOf (numB l 21 ++ (truB l 2 ++ (texB l 3 ++ r))) l.length (colL l)).unique (by rw [e1]; exact NumOf.of h'.nums e3.symm)
  have p1 : numB l 21 = numB l' 21 := by rw [← prefB_numB, ← prefB_numB]; exact prefB_congr u1
  rw [p1] at e3
  have e4 := List.append_cancel_left e3
  have u2 := (TruOf.of rfl : TruOf (truB l 2 ++ (texB l 3 ++ r)) l.length (truL l)).unique (by rw [e1]; exact TruOf.of e4.symm)
  have p2 : truB l 2 = truB l' 2 := by rw [← truPre_truB, ← truPre_truB]; exact truPre_congr u2
  rw [p2] at e4
  have e5 := List.append_cancel_left e4
  have hlen : (texB l 3 ++ r).length ≤ (b ++ r).length := by
    rw [h.2.2]
    unfold batchB
    simp only [List.length_append]
    omega
  have u3 := (TexOf.of rfl : TexOf (texB l 3 ++ r) l.length (texL l)).unique (by rw [e1]; exact TexOf.of (r := []) (by rw [List.append_nil]; exact e5.symm)) (by omega)
  have p3 : texB l 3 = texB l' 3 := by rw [← texPre_texB, ← texPre_texB]; exact texPre_congr u3
  rw [p3] at e5
  have e6 : texB l' 3 ++ r = texB l' 3 ++ [] := by rw [List.append_nil]; exact e5
  exact List.append_cancel_left e6
theorem IsBatch.pos {b : List Nat} {l : List OpV} (h : IsBatch b l) : 0 < b.length := by
  rw [h.2.2]
  unfold batchB
  have := putL_pos l.length
  simp only [List.length_append]
  omega

theorem byte_box (w : World) (x : Nat) (hx : x < 256) : BytesAt (w.alloc (.cells #[.int .u8 (x : Int)] 5)) (.slice (some ⟨w.heap.size, 0, none⟩) 1 1) [x] := by
  refine ⟨some ⟨w.heap.size, 0, none⟩, 1, rfl, Nat.le_refl _, by decide, by simpa using hx, fun _ => ⟨w.heap.size, 0, rfl, by simp, fun i hi => ?_⟩, fun h => by cases h⟩
  obtain rfl : i = 0 := by simp at hi; omega
  exact cell_held (Go.heap_alloc_new w _) rfl

set_option maxHeartbeats 4000000 in
theorem batchOnly_any (w : World) (hE : ErrT w) (v : Value) (cut : Int) (more : Nat) (b : List Nat) (hv : BytesAt w v b) (hlo : -9223372036854775808 ≤ cut) (hhi : cut ≤ 9223372036854775807) (hm : more < 256) :
    Calls Tryd.prog 3 #[v, .int .i64 cut, .int .u8 (more : Nat)] w (Ret (.bool true) w) := by
  have hll := fun W => hv.len (ty := 3) W
  have hle : (b.length : Int) ≤ 9223372036854775807 := by have := hv.row.le; rwa [bvals_length] at this
  have HD := decode_any v b w hv hE
  have hv := Lib.hid hv
  have hE := Lib.hid hE
  rcases Nat.lt_or_ge 20000 b.length with hbig | hsm
  · have hg1 : decide ((20000 : Int) < (b.length : Int)) = true := decide_eq_true (by omega)
    clear HD
    go_enter Tryd.func3, Tryd.ntmps3
    go_wp2_with (go_at_call 5; refine (alive_any _ hE.out).mono ?_; rintro e w2 ⟨rfl, hb2⟩)
    go_ret
    exact ⟨rfl, hb2⟩
  · have hg1 : decide ((20000 : Int) < (b.length : Int)) = false := decide_eq_false (by omega)
    obtain ⟨C, hC0, hCc⟩ : ∃ C : Int, 0 ≤ C ∧ ((decide (cut < 0) = false ∧ C = cut) ∨ (decide (cut < 0) = true ∧ -(cut + 1) = C)) := by
      rcases Int.lt_or_le cut 0 with h | h
      · exact ⟨-(cut + 1), by omega, .inr ⟨decide_eq_true h, rfl⟩⟩
      · exact ⟨cut, h, .inl ⟨decide_eq_false (by omega), rfl⟩⟩
    go_enter Tryd.func3, Tryd.ntmps3
    go_wp2_with fail
    refine HD.mono ?_
    rintro e w2 ⟨hb2, h⟩
    rcases h with ⟨l, v2, hl, rfl, ho2⟩ | ⟨hno, rfl⟩
    · have hpos := hl.pos
      have hv2 := hv.out.below hb2
      have HE := encode_any v2 l w2 ho2 (fun o ho => by have := List.all_eq_true.1 hl.2.1 o ho; have ht := (opB_small this).2; exact ⟨by have := ht 0 (by omega); show (txt o 0).size ≤ _; omega, by have := ht 1 (by omega); show (txt o 1).size ≤ _; omega, by have := ht 2 (by omega); show (txt o 2).size ≤ _; omega⟩)
      rw [show encP l = (b, 0) by unfold encP; rw [if_neg (by have := hl.1; omega), if_pos hl.2.1, ← hl.2.2]] at HE
      have hv2 := Lib.hid hv2
      have hl := Lib.hid hl
      have hb2 := Lib.hid hb2
      obtain ⟨N, hN⟩ : ∃ N, b.length = N := ⟨_, rfl⟩
      rw [hN] at hll hg1 hpos hle
      obtain ⟨J, hJ⟩ : ∃ J : Nat, C % (N : Int) = (J : Int) := ⟨(C % (N : Int)).toNat, by have := Int.emod_nonneg C (b := (N : Int)) (by omega); omega⟩
      have hJN : J < N := by have := Int.emod_lt_of_pos C (b := (N : Int)) (by omega); omega
      replace hN := Lib.hid hN
      clear HD
      rcases hCc with ⟨hc1, rfl⟩ | ⟨hc1, hc2⟩
      · go_wp2_with fail
        refine HE.mono ?_
        rintro e w3 ⟨v3, rfl, ho3, hb3⟩
        have hv3 := hv2.out.below hb3
        have HS := same_true (ho3.bytes hv.out.byte) hv3
        have hbb := hb2.out.trans (hb3.mono hb2.out.size)
        obtain ⟨v4, hcut4, hv4⟩ := hv3.first (k := J) (by rw [hN.out]; omega)
        have hv4 := Lib.hid hv4
        have hv3 := Lib.hid hv3
        have hbb := Lib.hid hbb
        clear HE ho3 hb3
        go_wp2_with (go_at_call 8; refine HS.mono ?_; rintro e w4 ⟨rfl, rfl⟩)
        refine (decode_any v4 (b.take J) w3 hv4.out (hE.out.below hbb.out)).mono ?_
        rintro e w5 ⟨hb5, h⟩
        rcases h with ⟨l2, v5, hl2, rfl, ho5⟩ | ⟨hno2, rfl⟩
        · exfalso
          have h1 : IsBatch (b.take J ++ b.drop J) l := by rw [List.take_append_drop]; exact hl.out
          have h2 := IsBatch.free hl2 h1 (by rw [List.take_append_drop, hN.out]; exact hle)
          have h3 := congrArg List.length h2
          rw [List.length_drop, hN.out] at h3
          simp at h3
          omega
        · have hbb5 := Lib.hid (hbb.out.trans (hb5.mono hbb.out.size))
          have hv5 := Lib.hid (hv3.out.below hb5)
          clear hno2 hb5
          go_wp2_with (first
            | (at_builtin; refine append_bytes rfl (.tmp 64) (.tmp 66) rfl w5.heap.size rfl (hown6.later (below_box1 _ _)) rfl (byte_box w6 more hm) (by simp; omega) (Nat.le_trans hb56.size (by simp)) ?_; intro v7 w7 hown7 hb7; have hb57 : Below w5.heap.size w5 w7 := (hb56.alloc hb56.size _).trans hb7)
            | (at_builtin; refine append_bytes rfl (.tmp 62) (.tmp 63) rfl w5.heap.size rfl (own_made w5 _ rfl) rfl (hv5.out.below (below_box1 w5 _)) (by simp; omega) (by simp) ?_; intro v6 w6 hown6 hb6; have hb56 : Below w5.heap.size w5 w6 := (below_box1 w5 _).trans hb6))
          have hby7 := hown7.bytes (fun x hx => by
            rcases List.mem_append.1 hx with h | h
            · exact hv.out.byte x (by simpa using h)
            · simp at h; omega)
          have hbb7 := hbb5.out.trans (hb57.mono hbb5.out.size)
          refine (decode_any v7 _ w7 hby7 (hE.out.below hbb7)).mono ?_
          rintro e w8 ⟨hb8, h⟩
          rcases h with ⟨l3, v8, hl3, rfl, ho8⟩ | ⟨hno3, rfl⟩
          · exfalso
            have h2 := IsBatch.free hl.out (r := [more]) (by simpa using hl3) (by simp; omega)
            cases h2
          · have hbb8 := hbb7.trans (hb8.mono hbb7.size)
            clear hno3
            go_wp2_with (go_at_call 5; refine (alive_any _ (hE.out.below hbb8)).mono ?_; rintro e w9 ⟨rfl, hb9⟩)
            go_ret
            exact ⟨rfl, hbb8.trans (hb9.mono hbb8.size)⟩
      · go_wp2_with fail
        clear hc2
        refine HE.mono ?_
        rintro e w3 ⟨v3, rfl, ho3, hb3⟩
        have hv3 := hv2.out.below hb3
        have HS := same_true (ho3.bytes hv.out.byte) hv3
        have hbb := hb2.out.trans (hb3.mono hb2.out.size)
        obtain ⟨v4, hcut4, hv4⟩ := hv3.first (k := J) (by rw [hN.out]; omega)
        have hv4 := Lib.hid hv4
        have hv3 := Lib.hid hv3
        have hbb := Lib.hid hbb
        clear HE ho3 hb3
        go_wp2_with (go_at_call 8; refine HS.mono ?_; rintro e w4 ⟨rfl, rfl⟩)
        refine (decode_any v4 (b.take J) w3 hv4.out (hE.out.below hbb.out)).mono ?_
        rintro e w5 ⟨hb5, h⟩
        rcases h with ⟨l2, v5, hl2, rfl, ho5⟩ | ⟨hno2, rfl⟩
        · exfalso
          have h1 : IsBatch (b.take J ++ b.drop J) l := by rw [List.take_append_drop]; exact hl.out
          have h2 := IsBatch.free hl2 h1 (by rw [List.take_append_drop, hN.out]; exact hle)
          have h3 := congrArg List.length h2
          rw [List.length_drop, hN.out] at h3
          simp at h3
          omega
        · have hbb5 := Lib.hid (hbb.out.trans (hb5.mono hbb.out.size))
          have hv5 := Lib.hid (hv3.out.below hb5)
          clear hno2 hb5
          go_wp2_with (first
            | (at_builtin; refine append_bytes rfl (.tmp 64) (.tmp 66) rfl w5.heap.size rfl (hown6.later (below_box1 _ _)) rfl (byte_box w6 more hm) (by simp; omega) (Nat.le_trans hb56.size (by simp)) ?_; intro v7 w7 hown7 hb7; have hb57 : Below w5.heap.size w5 w7 := (hb56.alloc hb56.size _).trans hb7)
            | (at_builtin; refine append_bytes rfl (.tmp 62) (.tmp 63) rfl w5.heap.size rfl (own_made w5 _ rfl) rfl (hv5.out.below (below_box1 w5 _)) (by simp; omega) (by simp) ?_; intro v6 w6 hown6 hb6; have hb56 : Below w5.heap.size w5 w6 := (below_box1 w5 _).trans hb6))
          have hby7 := hown7.bytes (fun x hx => by
            rcases List.mem_append.1 hx with h | h
            · exact hv.out.byte x (by simpa using h)
            · simp at h; omega)
          have hbb7 := hbb5.out.trans (hb57.mono hbb5.out.size)
          refine (decode_any v7 _ w7 hby7 (hE.out.below hbb7)).mono ?_
          rintro e w8 ⟨hb8, h⟩
          rcases h with ⟨l3, v8, hl3, rfl, ho8⟩ | ⟨hno3, rfl⟩
          · exfalso
            have h2 := IsBatch.free hl.out (r := [more]) (by simpa using hl3) (by simp; omega)
            cases h2
          · have hbb8 := hbb7.trans (hb8.mono hbb7.size)
            clear hno3
            go_wp2_with (go_at_call 5; refine (alive_any _ (hE.out.below hbb8)).mono ?_; rintro e w9 ⟨rfl, hb9⟩)
            go_ret
            exact ⟨rfl, hbb8.trans (hb9.mono hbb8.size)⟩
    · clear HD
      go_wp2_with (go_at_call 5; refine (alive_any _ (hE.out.below hb2)).mono ?_; rintro e w3 ⟨rfl, hb3⟩)
      go_ret
      exact ⟨rfl, hb2.trans (hb3.mono hb2.size)⟩
theorem batchOnly_walk (w : World) (hE : ErrT w) (v : Value) (cut : Int) (more : Nat) (b : List Nat) (hv : BytesAt w v b) (hlo : -9223372036854775808 ≤ cut) (hhi : cut ≤ 9223372036854775807) (hm : more < 256) :
    Calls Tryd.prog 3 #[v, .int .i64 cut, .int .u8 (more : Nat)] w (Ret (.bool true) w) :=
  batchOnly_any w hE v cut more b hv hlo hhi hm
end Go.Proofs.YtidicjjjkmlmaaaDoor
