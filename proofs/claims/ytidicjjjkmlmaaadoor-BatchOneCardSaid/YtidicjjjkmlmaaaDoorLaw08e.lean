/-
  BatchOne, walked.
-/
import Derived.Test.YtidicjjjkmlmaaaDoorBaSame
import Derived.Laws.BitsAllLaws
namespace Go.Proofs.YtidicjjjkmlmaaaDoor
open Go.RowKit Go.Sort
set_option maxRecDepth 20000

theorem encP_ways (l : List OpV) : ((encP l).2 = 0 ∧ (encP l).1 = batchB l ∧ l.length ≤ 200 ∧ allB_ l = true) ∨ ((encP l).2 != 0) = true := by
  unfold encP
  split
  · exact .inr rfl
  · split
    · exact .inl ⟨rfl, rfl, by omega, by assumption⟩
    · exact .inr rfl

theorem xor_ne {x y : Nat} (hy : y ≠ 0) : x ^^^ y ≠ x := fun h => by
  have h2 : x ^^^ (x ^^^ y) = x ^^^ x := by rw [h]
  rw [← Nat.xor_assoc, Nat.xor_self, Nat.zero_xor] at h2
  exact hy h2

theorem map_of {α : Type} {f : OpV → α} (hf : ∀ o o', OpC o = OpC o' → f o = f o') : ∀ {l l' : List OpV}, l.map OpC = l'.map OpC → l.map f = l'.map f
  | [], [], _ => rfl
  | [], _ :: _, h => by simp at h
  | _ :: _, [], h => by simp at h
  | o :: r, o' :: r', h => by
    simp only [List.map_cons, List.cons.injEq] at h
    rw [List.map_cons, List.map_cons, hf o o' h.1, map_of hf h.2]
theorem batchB_congr {l l' : List OpV} (h : l.map OpC = l'.map OpC) : batchB l = batchB l' := by
  have hlen : l.length = l'.length := by simpa using congrArg List.length h
  have h1 : numB l 21 = numB l' 21 := by
    rw [← prefB_numB, ← prefB_numB]
    exact prefB_congr fun j hj => map_of (f := fun o => fld o j) (fun o o' e => fld_of hj (by rw [e])) h
  have h2 : truB l 2 = truB l' 2 := by
    rw [← truPre_truB, ← truPre_truB]
    exact truPre_congr fun c _ => map_of (f := fun o => if c = 0 then o.fa else o.ta) (fun o o' e => tru_of c (by rw [e])) h
  have h3 : texB l 3 = texB l' 3 := by
    rw [← texPre_texB, ← texPre_texB]
    exact texPre_congr fun c hc => map_of (f := fun o => txt o c) (fun o o' e => tex_of hc (by rw [e])) h
  unfold batchB
  rw [hlen, h1, h2, h3]
theorem ops_nil (w : World) : OpsAt w (.slice none 0 0) [] := ⟨none, 0, rfl, Nat.le_refl _, Nat.zero_le _, by simp, fun h => absurd h (by simp), fun _ => rfl⟩

set_option maxHeartbeats 4000000 in
theorem batchOne_any (w : World) (hE : ErrT w) (v : Value) (at_ : Int) (by_ : Nat) (l : List OpV) (hv : OpsAt w v l) (hf : ∀ o ∈ l, o.Fits) (hlo : -9223372036854775808 ≤ at_) (hhi : at_ ≤ 9223372036854775807) (hm : by_ < 256) :
    Calls Tryd.prog 4 #[v, .int .i64 at_, .int .u8 (by_ : Nat)] w (Ret (.bool true) w) := by
  have hll := fun W => hv.len 3 W
  have hle := hv.le
  have HE := encode_any v l w hv hf
  have hv := Lib.hid hv
  have hE := Lib.hid hE
  have HW : (decide ((60 : Int) < (l.length : Int)) = true) ∨ (decide ((60 : Int) < (l.length : Int)) = false ∧ by_ = 0) ∨ (decide ((60 : Int) < (l.length : Int)) = false ∧ by_ ≠ 0) := by
    by_cases h : (60 : Int) < (l.length : Int)
    · exact .inl (decide_eq_true h)
    · by_cases h2 : by_ = 0
      · exact .inr (.inl ⟨decide_eq_false h, h2⟩)
      · exact .inr (.inr ⟨decide_eq_false h, h2⟩)
  rcases HW with hg1 | ⟨hg1, rfl⟩ | ⟨hg1, hne⟩
  · clear HE
    go_enter Tryd.func4, Tryd.ntmps4
    go_wp2_with (go_at_call 5; refine (alive_any _ hE.out).mono ?_; rintro e w2 ⟨rfl, hb2⟩)
    go_ret
    exact ⟨rfl, hb2⟩
  · clear HE
    go_enter Tryd.func4, Tryd.ntmps4
    go_wp2_with (go_at_call 5; refine (alive_any _ hE.out).mono ?_; rintro e w2 ⟨rfl, hb2⟩)
    go_ret
    exact ⟨rfl, hb2⟩
  · have hg2 : ((by_ : Int) == 0) = false := by simpa using hne
    replace hne := Lib.hid hne
    rcases encP_ways l with ⟨q1, q2, q3, q4⟩ | q1
    · rw [q1, q2] at HE
      have hlen60 : l.length ≤ 60 := by have := of_decide_eq_false hg1; omega
      have hlive : Hid (IsBatch (batchB l) l) := Lib.hid ⟨q3, q4, rfl⟩
      have hbyt := batchB_byte l
      obtain ⟨b, hb⟩ : ∃ b, batchB l = b := ⟨_, rfl⟩
      rw [hb] at HE hlive hbyt
      have hbp : 0 < b.length := by
        rw [← hb]; unfold batchB
        have := putL_pos l.length
        simp only [List.length_append]; omega
      replace hb := Lib.hid hb
      obtain ⟨N, hN⟩ : ∃ N, b.length = N := ⟨_, rfl⟩
      obtain ⟨C, hC0, hC1, hCc⟩ : ∃ C : Int, 0 ≤ C ∧ C ≤ 9223372036854775807 ∧ ((decide (at_ < 0) = false ∧ C = at_) ∨ (decide (at_ < 0) = true ∧ -(at_ + 1) = C)) := by
        rcases Int.lt_or_le at_ 0 with h | h
        · exact ⟨-(at_ + 1), by omega, by omega, .inr ⟨decide_eq_true h, rfl⟩⟩
        · exact ⟨at_, h, hhi, .inl ⟨decide_eq_false (by omega), rfl⟩⟩
      rw [hN] at hbp
      obtain ⟨J, hJ⟩ : ∃ J : Nat, C % (N : Int) = (J : Int) := ⟨(C % (N : Int)).toNat, by have := Int.emod_nonneg C (b := (N : Int)) (by omega); omega⟩
      have hJN : J < N := by have := Int.emod_lt_of_pos C (b := (N : Int)) (by omega); omega
      have hJt : C.tmod (N : Int) = (J : Int) := by rw [Int.tmod_eq_emod_of_nonneg hC0]; exact hJ
      replace hN := Lib.hid hN
      clear q1 q2
      go_enter Tryd.func4, Tryd.ntmps4
      go_wp2_with fail
      refine HE.mono ?_
      rintro e w2 ⟨v2, rfl, ho2, hb2⟩
      have hby2 := ho2.bytes hbyt
      have hlb : ∀ W, (Builtin.len_ #[22] 3 #[v2]).run Tryd.prog W = .ok (.int .i64 (N : Nat)) W := fun W => by have := hby2.len (ty := 3) W; rwa [hN.out] at this
      have hN0 : ((N : Int) == 0) = false := by simpa using (by omega : ¬ N = 0)
      have hle2 : (N : Int) ≤ 9223372036854775807 := by have := hby2.row.le; rwa [bvals_length, hN.out] at this
      obtain ⟨ad, s1, s2, s3, s4, s5, hset⟩ := OwnRow.store (show OwnRow w2 w.heap.size 5 v2 (bvals b) from by have := ho2; unfold Own at this; unfold OwnRow; rw [bvals_length]; exact this) elemY.ht elemY.hs (k := J) (by rw [bvals_length, hN.out]; exact hJN)
      obtain ⟨d, hd⟩ : ∃ d, b[J]? = some d := ⟨_, List.getElem?_eq_getElem (by rw [hN.out]; exact hJN)⟩
      have hd256 : d < 256 := hbyt d (List.mem_of_getElem? hd)
      have s2' : w2.cell? ad = some (.int .u8 (d : Nat)) := by
        rw [s2]; simp only [bvals, List.getElem?_map, hd, Option.map_some, bval]
      obtain ⟨X, hX⟩ : ∃ X, d ^^^ by_ = X := ⟨_, rfl⟩
      have hx256 : X < 256 := by rw [← hX]; exact Nat.xor_lt_two_pow (n := 8) hd256 hm
      have hxor : bits .xor .u8 (d : Int) (by_ : Int) = ((X : Nat) : Int) := by rw [← hX]; exact u8_xor_nat d by_ hd256 hm
      have hXd : Hid (X ≠ d) := Lib.hid (by rw [← hX]; exact xor_ne hne.out)
      clear hX
      obtain ⟨hown3, hb3⟩ := hset (.int .u8 ((X : Nat) : Int))
      have hbv : (bvals b).set J (.int .u8 ((X : Nat) : Int)) = bvals (b.set J X) := by
        unfold bvals; rw [List.map_set]; rfl
      rw [hbv] at hown3
      obtain ⟨w3, hw3⟩ : ∃ w3, w2.setCell ad (.int .u8 ((X : Nat) : Int)) = w3 := ⟨_, rfl⟩
      rw [hw3] at hown3 hb3
      have hby3 : Hid (BytesAt w3 v2 (b.set J X)) := Lib.hid (by
        refine Own.bytes (base := w.heap.size) ?_ (fun x hx => ?_)
        · unfold OwnRow at hown3; rw [bvals_length] at hown3; exact hown3
        · rcases List.mem_or_eq_of_mem_set hx with h | h
          · exact hbyt x h
          · rw [h]; exact hx256)
      have hbb3 : Hid (Below w.heap.size w w3) := Lib.hid (hb2.trans hb3)
      replace hd := Lib.hid hd
      clear hset hown3 hb3 ho2 hby2 s2 hbv HE hJ
      rcases hCc with ⟨hc1, hc2⟩ | ⟨hc1, hc2⟩
      · subst hc2
        go_wp2_with fail
        refine (decode_any v2 (b.set J X) w3 hby3.out (hE.out.below hbb3.out)).mono ?_
        rintro e w4 ⟨hb4, h⟩
        have hbb4 := hbb3.out.trans (hb4.mono hbb3.out.size)
        have hv4 := hv.out.below hbb4
        rcases h with ⟨l2, v4, hl2, rfl, ho4⟩ | ⟨hno, rfl⟩
        · have HS := same_ops l2 l v4 v w4 ho4 hv4 (by have := hl2.1; omega)
          have hneq : Hid (¬ l2.map OpC = l.map OpC) := Lib.hid (fun h => by
            have h1 := batchB_congr h
            rw [← hl2.2.2, ← hlive.out.2.2] at h1
            have h2 : (b.set J X)[J]? = b[J]? := by rw [h1]
            rw [List.getElem?_set_self (by rw [hN.out]; exact hJN), hd.out] at h2
            injection h2 with h2
            exact hXd.out h2)
          have hbb4 := Lib.hid hbb4
          clear ho4 hl2 hb4 hv4
          go_wp2_with fail
          refine HS.mono ?_
          rintro e w5 ⟨r, rfl, hr, hb5⟩
          obtain rfl : r = false := by
            cases r with
            | false => rfl
            | true => exact absurd (hr.1 rfl) hneq.out
          have hbb5 := hbb4.out.trans (hb5.mono hbb4.out.size)
          clear hr
          go_wp2_with (go_at_call 5; refine (alive_any _ (hE.out.below hbb5)).mono ?_; rintro e w6 ⟨rfl, hb6⟩)
          go_ret
          exact ⟨rfl, hbb5.trans (hb6.mono hbb5.size)⟩
        · have HS := same_ops [] l (.slice none 0 0) v w4 (ops_nil w4) hv4 (by simp)
          have hbb4 := Lib.hid hbb4
          clear hb4 hv4 hno
          go_wp2_with fail
          refine HS.mono ?_
          rintro e w5 ⟨r, rfl, hr, hb5⟩
          have hbb5 := hbb4.out.trans (hb5.mono hbb4.out.size)
          clear hr
          cases r
          all_goals
            go_wp2_with (go_at_call 5; refine (alive_any _ (hE.out.below hbb5)).mono ?_; rintro e w6 ⟨rfl, hb6⟩)
            go_ret
            exact ⟨rfl, hbb5.trans (hb6.mono hbb5.size)⟩
      · rw [← hc2] at hJt hC0
        clear hc2 hC1
        go_wp2_with fail
        refine (decode_any v2 (b.set J X) w3 hby3.out (hE.out.below hbb3.out)).mono ?_
        rintro e w4 ⟨hb4, h⟩
        have hbb4 := hbb3.out.trans (hb4.mono hbb3.out.size)
        have hv4 := hv.out.below hbb4
        rcases h with ⟨l2, v4, hl2, rfl, ho4⟩ | ⟨hno, rfl⟩
        · have HS := same_ops l2 l v4 v w4 ho4 hv4 (by have := hl2.1; omega)
          have hneq : Hid (¬ l2.map OpC = l.map OpC) := Lib.hid (fun h => by
            have h1 := batchB_congr h
            rw [← hl2.2.2, ← hlive.out.2.2] at h1
            have h2 : (b.set J X)[J]? = b[J]? := by rw [h1]
            rw [List.getElem?_set_self (by rw [hN.out]; exact hJN), hd.out] at h2
            injection h2 with h2
            exact hXd.out h2)
          have hbb4 := Lib.hid hbb4
          clear ho4 hl2 hb4 hv4
          go_wp2_with fail
          refine HS.mono ?_
          rintro e w5 ⟨r, rfl, hr, hb5⟩
          obtain rfl : r = false := by
            cases r with
            | false => rfl
            | true => exact absurd (hr.1 rfl) hneq.out
          have hbb5 := hbb4.out.trans (hb5.mono hbb4.out.size)
          clear hr
          go_wp2_with (go_at_call 5; refine (alive_any _ (hE.out.below hbb5)).mono ?_; rintro e w6 ⟨rfl, hb6⟩)
          go_ret
          exact ⟨rfl, hbb5.trans (hb6.mono hbb5.size)⟩
        · have HS := same_ops [] l (.slice none 0 0) v w4 (ops_nil w4) hv4 (by simp)
          have hbb4 := Lib.hid hbb4
          clear hb4 hv4 hno
          go_wp2_with fail
          refine HS.mono ?_
          rintro e w5 ⟨r, rfl, hr, hb5⟩
          have hbb5 := hbb4.out.trans (hb5.mono hbb4.out.size)
          clear hr
          cases r
          all_goals
            go_wp2_with (go_at_call 5; refine (alive_any _ (hE.out.below hbb5)).mono ?_; rintro e w6 ⟨rfl, hb6⟩)
            go_ret
            exact ⟨rfl, hbb5.trans (hb6.mono hbb5.size)⟩
    · obtain ⟨e5, he5⟩ : ∃ e5, (encP l).2 = e5 := ⟨_, rfl⟩
      rw [he5] at HE q1
      clear he5
      go_enter Tryd.func4, Tryd.ntmps4
      go_wp2_with (first
        | (go_at_call 7; refine HE.mono ?_; rintro e w2 ⟨v2, rfl, ho2, hb2⟩)
        | (go_at_call 5; refine (alive_any _ (hE.out.below hb2)).mono ?_; rintro e w3 ⟨rfl, hb3⟩))
      go_ret
      exact ⟨rfl, hb2.trans (hb3.mono hb2.size)⟩
theorem batchOne_walk (w : World) (hE : ErrT w) (v : Value) (at_ : Int) (by_ : Nat) (l : List OpV) (h : OpsAt w v l ∧ ∀ o ∈ l, o.Fits ∧ o.Wf) (hlo : -9223372036854775808 ≤ at_) (hhi : at_ ≤ 9223372036854775807) (hm : by_ < 256) :
    Calls Tryd.prog 4 #[v, .int .i64 at_, .int .u8 (by_ : Nat)] w (Ret (.bool true) w) :=
  batchOne_any w hE v at_ by_ l h.1 (fun o ho => (h.2 o ho).1) hlo hhi hm
end Go.Proofs.YtidicjjjkmlmaaaDoor
