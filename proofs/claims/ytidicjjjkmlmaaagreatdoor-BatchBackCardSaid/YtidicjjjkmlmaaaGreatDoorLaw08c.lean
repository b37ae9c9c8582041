/-
  BatchBack, walked.
-/
import Derived.Test.YtidicjjjkmlmaaaGreatDoorBaSame
import Derived.Test.YtidicjjjkmlmaaaGreatDoorOpRefRight
namespace Go.Proofs.YtidicjjjkmlmaaaGreatDoor
open Go.RowKit Go.Sort
set_option maxRecDepth 20000

theorem encP_ok {l : List OpV} (h1 : l.length ≤ 200) (h2 : allB_ l = true) : encP l = (batchB l, 0) := by
  unfold encP; rw [if_neg (by omega), if_pos h2]
theorem encP_no {l : List OpV} (h : ¬ (l.length ≤ 200 ∧ allB_ l = true)) : (encP l).1 = [] ∧ ((encP l).2 != 0) = true := by
  unfold encP
  split
  · exact ⟨rfl, rfl⟩
  · rw [if_neg (fun h2 => h ⟨by omega, h2⟩)]; exact ⟨rfl, rfl⟩
/-- A right set is decoded as it was. -/
theorem dec_back {l l2 : List OpV} {w : World} {v : Value} (h1 : l.length ≤ 200) (h2 : allB_ l = true) (h : BytesAt w v (batchB l)) (h' : IsBatch (batchB l) l2) : l2.map OpC = l.map OpC :=
  IsBatch.same h' ⟨h1, h2, rfl⟩ (by have := h.row.le; rwa [bvals_length] at this)

set_option maxHeartbeats 4000000 in
theorem batchBack_any (w : World) (hE : ErrT w) (v : Value) (l : List OpV) (hv : OpsAt w v l) (hf : ∀ o ∈ l, o.Fits) :
    Calls Tryz.prog 5 #[v] w (Ret (.bool true) w) := by
  have hll := fun W => hv.len 3 W
  have hle := hv.le
  have hv := Lib.hid hv
  have hE := Lib.hid hE
  rcases Nat.lt_or_ge 210 l.length with hbig | hsm
  · have hg1 : decide ((210 : Int) < (l.length : Int)) = true := decide_eq_true (by omega)
    go_enter Tryz.func5, Tryz.ntmps5
    go_wp2_with (go_at_call 6; refine (alive_any _ hE.out).mono ?_; rintro e w2 ⟨rfl, hb2⟩)
    go_ret
    exact ⟨rfl, hb2⟩
  · have hg1 : decide ((210 : Int) < (l.length : Int)) = false := decide_eq_false (by omega)
    go_enter Tryz.func5, Tryz.ntmps5
    go_wp2
    go_loopw [3, 4] (fun r t wr => ∃ (x : Bool) (k : Nat), r = .bool x ∧ t = .int .i64 k ∧ k ≤ l.length ∧ Hid (x = (decide (l.length ≤ 200) && (l.take k).all opB)) ∧ Below w.heap.size w wr) (fun _ t _ => l.length - (intOf t).toNat)
    case atStart => exact ⟨_, 0, rfl, rfl, Nat.zero_le _, Lib.hid (by simp; omega), Below.refl _ _⟩
    case round =>
      obtain ⟨x, k, rfl, rfl, hk, hx, hb⟩ := hrel
      by_cases hlt : k < l.length
      · have hk4 : (k : Int) < (l.length : Int) := by omega
        obtain ⟨o, ho⟩ : ∃ o, l[k]? = some o := ⟨_, List.getElem?_eq_getElem hlt⟩
        obtain ⟨bk, off, hix, hc, hbk⟩ := hv.out.index ho
        have hc := range_after hc hb hbk
        have hn : Hid ((l.take (k + 1)).all opB = ((l.take k).all opB && opB o)) := Lib.hid (by rw [List.take_add_one, ho]; simp)
        have hfo := hf o (List.mem_of_getElem? ho)
        obtain ⟨y, hy⟩ : ∃ y, opB o = y := ⟨_, rfl⟩
        have HC := fun W => refOpRight_any o hfo W
        rw [hy] at hn HC
        clear hy
        cases x <;> cases y
        all_goals
          go_wp2_with (first
            | ((with_reducible refine load_mid hc ?_ ?_ ?_); rfl; rfl)
            | (go_at_call 13; refine (HC _).mono ?_; rintro e w2 ⟨rfl, hb2⟩))
          exact ⟨⟨_, k + 1, rfl, by go_num, hlt, Lib.hid (by rw [hn.out, ← Bool.and_assoc, ← hx.out]; rfl), hb.trans (hb2.mono hb.size)⟩, by simp [intOf]; omega⟩
      · have hk4 : ¬ (k : Int) < (l.length : Int) := by omega
        have hkn : k = l.length := by omega
        rw [hkn, List.take_length] at hx
        clear hkn
        obtain ⟨wa, hwa⟩ : ∃ wa, wa = wr := ⟨_, rfl⟩
        subst hwa
        have hva := hv.out.below hb
        have HE := encode_any v l wa hva hf
        have hva := Lib.hid hva
        have hbr := Lib.hid hb
        cases x
        · have hno : Hid ((encP l).1 = [] ∧ ((encP l).2 != 0) = true) := Lib.hid (encP_no (fun h => by
            have := hx.out
            rw [show l.all opB = true from h.2, decide_eq_true h.1] at this
            cases this))
          obtain ⟨e1, he1⟩ : ∃ e1, (encP l).2 = e1 := ⟨_, rfl⟩
          rw [he1, hno.out.1] at HE
          have hg2 : (e1 != 0) = true := by rw [← he1]; exact hno.out.2
          clear he1
          go_wp2_with (first
            | (go_at_call 7; refine HE.mono ?_; rintro e w2 ⟨v2, rfl, ho2, hb2⟩; have hl2 : ∀ W, (Builtin.len_ #[34] 3 #[v2]).run Tryz.prog W = .ok (.int .i64 0) W := fun W => (ho2.bytes (by simp)).len (ty := 3) W; have hbb := hbr.out.trans (hb2.mono hbr.out.size))
            | (go_at_call 6; refine (alive_any _ (hE.out.below hbb)).mono ?_; rintro e w3 ⟨rfl, hb3⟩))
          go_ret
          exact ⟨rfl, hbb.trans (hb3.mono hbb.size)⟩
        · have hall : Hid (l.length ≤ 200 ∧ allB_ l = true) := Lib.hid (by
            have := hx.out
            symm at this
            rw [Bool.and_eq_true] at this
            exact ⟨of_decide_eq_true this.1, this.2⟩)
          rw [encP_ok hall.out.1 hall.out.2] at HE
          go_wp2_with fail
          refine HE.mono ?_
          rintro e w2 ⟨v2, rfl, ho2, hb2⟩
          have hby2 := ho2.bytes (batchB_byte l)
          have hbb := hbr.out.trans (hb2.mono hbr.out.size)
          have HD := decode_any v2 (batchB l) w2 hby2 (hE.out.below hbb)
          have hva2 := Lib.hid (hva.out.below hb2)
          have hbb := Lib.hid hbb
          have hby2 := Lib.hid hby2
          clear hb2 ho2
          go_wp2_with fail
          refine HD.mono ?_
          rintro e w3 ⟨hb3, h⟩
          rcases h with ⟨l2, v3, hl2, rfl, ho3⟩ | ⟨hno, rfl⟩
          · have hsame := dec_back hall.out.1 hall.out.2 hby2.out hl2
            have HS := same_ops l2 l v3 v w3 ho3 (hva2.out.below hb3) (by have := hl2.1; omega)
            have hbb3 := Lib.hid (hbb.out.trans (hb3.mono hbb.out.size))
            replace hsame := Lib.hid hsame
            clear ho3 hb3 hl2
            go_wp2_with fail
            refine HS.mono ?_
            rintro e w4 ⟨r, rfl, hr, hb4⟩
            obtain rfl : r = true := hr.2 hsame.out
            have hbb4 := hbb3.out.trans (hb4.mono hbb3.out.size)
            clear hr
            go_wp2_with (go_at_call 6; refine (alive_any _ (hE.out.below hbb4)).mono ?_; rintro e w5 ⟨rfl, hb5⟩)
            go_ret
            exact ⟨rfl, hbb4.trans (hb5.mono hbb4.size)⟩
          · exact absurd ⟨hall.out.1, hall.out.2, rfl⟩ (hno l)
theorem batchBack_walk (w : World) (hE : ErrT w) (v : Value) (l : List OpV) (h : OpsAt w v l ∧ ∀ o ∈ l, o.Fits ∧ o.Wf) :
    Calls Tryz.prog 5 #[v] w (Ret (.bool true) w) := batchBack_any w hE v l h.1 fun o ho => (h.2 o ho).1
end Go.Proofs.YtidicjjjkmlmaaaGreatDoor
