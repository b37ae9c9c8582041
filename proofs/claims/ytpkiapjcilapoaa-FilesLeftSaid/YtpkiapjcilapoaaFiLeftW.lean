/-
  left, the document's own: what a file has behind a loss of power, walked.
-/
import Derived.Test.YtpkiapjcilapoaaFiLeft
namespace Go.Proofs.Ytpkiapjcilapoaa
open Go.RowKit Go.Sort

theorem append_zerosR {w : World} {v : Value} {O : List Nat} {ops : Array Oper} {rest : List Oper} {o : Oper} {a : Act} {Q : Exit → Act → World → Prop} (hgd : o.guard = none) (sv sx : Operand)
    (ho : o.op = .call { callee := .builtin .append, args := #[sv, sx], argTypes := #[30, 3] }) (base k : Nat)
    (hs : a.eval sv = v) (hown : Own w base v O) (hx : a.eval sx = .int .i64 (k : Nat)) (hle : (O.length + k) * 8 ≤ 140737488355328) (hbase : base ≤ w.heap.size)
    (h : ∀ v' w', Own w' base v' (O ++ List.replicate k 0) → Below base w w' → wpList Try.prog ops Q rest (a.put o.dst v') w') : wpList Try.prog ops Q (o :: rest) a w := by
  obtain ⟨A, m, c, w', hr, h2, h3⟩ := run_append_zeros hown k hle hbase o.type
  refine wpList_plain hgd fun K hK => ?_
  unfold Oper.wp execOp
  simp only [ho, resolve, invoke, builtin, Sem.run_bind, Sem.run_pure, Result.andThen_ok, List.map_toArray, List.map_cons, List.map_nil, hs, hx, hr]
  exact hK _ _ (h _ w' h2 h3)

theorem keep_get {keep : List Bool} {m : Nat} : (m < keep.length ∧ keep.getD m false = true) ∨ (m < keep.length ∧ keep.getD m false = false) ∨ ¬ m < keep.length := by
  rcases Nat.lt_or_ge m keep.length with h | h
  · rcases Bool.eq_false_or_eq_true (keep.getD m false) with h' | h'
    · exact .inl ⟨h, h'⟩
    · exact .inr (.inl ⟨h, h'⟩)
  · exact .inr (.inr (by omega))

theorem own_first {w : World} {base : Nat} {v : Value} {l : List Nat} (h : Own w base v l) (hb : ∀ x ∈ l, x < 256) {k : Nat} (hk : k ≤ l.length) :
    ∃ v', (∀ W, (Instr.slice 30 v none (some (.int .i64 (k : Int))) none).run Try.prog W = .ok v' W) ∧ BytesAt w v' (l.take k) ∧ (∀ b, v'.ownBlock = some b → base ≤ b ∧ b < w.heap.size) := by
  have hr : OwnRow w base 5 v (bvals l) := by simpa [OwnRow, Own, bvals] using h
  obtain ⟨v1, h1, h2⟩ := (h.bytes hb).first hk
  obtain ⟨v2, h3, _, h4⟩ := RowsAt.upto hr.rows1.rows elemY.ht elemY.hs (m := k) (by simp [bvals]; exact hk)
  have he : v1 = v2 := by
    have e1 := h1 w
    rw [h3 w] at e1
    injection e1 with e1 _
    exact e1.symm
  subst he
  exact ⟨v1, h1, h2, fun b hb' => hr.rows1.block b (h4 b hb')⟩

/-- What is left of a file. -/
def leftS (L : List FStep) (f : Nat) (keep : List Bool) (torn : Int) : List Nat := (leftF L f keep torn (safeF L f L.length) L.length).1.take (leftF L f keep torn (safeF L f L.length) L.length).2.2

set_option maxRecDepth 20000 in
set_option maxHeartbeats 8000000 in
theorem refLeft_any {w : World} {lv : Value} {L : List FStep} (hst : StepsAt w lv L) (hby : ∀ s ∈ L, BytesAt w s.bv s.b) (hl : L.length ≤ 10000) (f : Nat) (hh : (heldF L f).length ≤ 1048576) {kv : Value} {keep : List Bool} (hk : KeepAt w kv keep) (torn : Int) (ht1 : -9223372036854775808 ≤ torn) (ht2 : torn ≤ 9223372036854775807) :
    Calls Try.prog 34 #[lv, .int .i64 (f : Nat), kv, .int .i64 torn] w fun e w' => ∃ v', e = .returned v' ∧ BytesAt w' v' (leftS L f keep torn) ∧ Below w.heap.size w w' ∧ (∀ b, v'.ownBlock = some b → w.heap.size ≤ b ∧ b < w'.heap.size) := by
  have hlv := fun W => hst.len (ty := 3) W
  have hle : (L.length : Int) ≤ 9223372036854775807 := by omega
  have hkv := fun W => hk.len (ty := 3) W
  have hkle : (keep.length : Int) ≤ 9223372036854775807 := by have := RowAt.le hk; rwa [List.length_map] at this
  have hst := Lib.hid hst
  have hby := Lib.hid hby
  have hk := Lib.hid hk
  go_enter Try.func34, Try.ntmps34
  go_wp2
  go_loopw [9, 10] (fun s t wr => ∃ (i z : Nat), s = .int .i64 z ∧ t = .int .i64 i ∧ i ≤ L.length ∧ Hid (z = safeF L f i) ∧ w = wr) (fun _ t _ => L.length - (intOf t).toNat)
  case atStart => exact ⟨0, 0, rfl, rfl, by omega, Lib.hid rfl, rfl⟩
  case round =>
    obtain ⟨i, z, rfl, rfl, hi, hz, rfl⟩ := hrel
    rcases Nat.lt_or_ge i L.length with hil | hil
    · obtain ⟨s, hs⟩ : ∃ s, L[i]? = some s := ⟨_, List.getElem?_eq_getElem hil⟩
      obtain ⟨b, off, hix, hc, _, _⟩ := RowsAt.index hst.out elemS.ht elemS.hs (steps_at hs)
      have k0 : w.cell? ⟨b, off, none⟩ = some (.int .i64 (s.kind : Nat)) := hc 0 _ rfl
      have k1 : w.cell? ⟨b, off + 1, none⟩ = some (.int .i64 (s.file : Nat)) := hc 1 _ rfl
      have hd := safeF_step hs f
      rw [← hz.out] at hd
      obtain ⟨k, f', nm, bv, bb⟩ := s
      dsimp only at k0 k1 hd
      clear hc hs hz
      by_cases h5 : k = 5
      · subst h5
        by_cases hf : f' = f
        · subst hf
          have hnext : Hid (i = safeF L f' (i + 1)) := Lib.hid (by rw [hd]; simp)
          clear hd
          go_wp2
          go_roundw
          case rel => exact ⟨i + 1, i, rfl, by go_num, by omega, hnext, trivial⟩
          case measure => simp [intOf]; omega
        · have hnext : Hid (z = safeF L f (i + 1)) := Lib.hid (by rw [hd]; simp [hf])
          have hq : ((f' : Int) == f) = false := beq_false_of_ne (by omega)
          have hq2 : decide (f' = f) = false := decide_eq_false hf
          clear hd hf
          go_wp2
          go_roundw
          case rel => exact ⟨i + 1, z, rfl, by go_num, by omega, hnext, trivial⟩
          case measure => simp [intOf]; omega
      · have hnext : Hid (z = safeF L f (i + 1)) := Lib.hid (by rw [hd]; simp [h5])
        have hq : ((k : Int) == 5) = false := beq_false_of_ne (by omega)
        have hq2 : decide (k = 5) = false := decide_eq_false h5
        clear hd h5
        go_wp2
        go_roundw
        case rel => exact ⟨i + 1, z, rfl, by go_num, by omega, hnext, trivial⟩
        case measure => simp [intOf]; omega
    · have hz : Hid (z = safeF L f L.length) := Lib.hid (by rw [hz.out]; congr 1; omega)
      have hzl : z ≤ L.length := by rw [hz.out]; exact safeF_le _ _ _
      have hil : ¬ (i : Int) < L.length := by omega
      go_wp2
      go_loopw [11, 12, 13, 14] (fun o' m' e' t wr => ∃ (o : Value) (i m e : Nat) (O : List Nat), o = o' ∧ m' = .int .i64 m ∧ e' = .int .i64 e ∧ t = .int .i64 i ∧ i ≤ L.length ∧ m ≤ i ∧ e ≤ O.length ∧ O.length ≤ 1048576 ∧ Own wr w.heap.size o O ∧ Hid (leftF L f keep torn z i = (O, m, e) ∧ ∀ x ∈ O, x < 256) ∧ Below w.heap.size w wr) (fun _ _ _ t _ => L.length - (intOf t).toNat)
      case atStart => exact ⟨_, 0, 0, 0, [], rfl, rfl, rfl, rfl, by omega, by omega, by simp, by simp, own_none _ _, Lib.hid ⟨rfl, by simp⟩, Below.refl _ _⟩
      case round =>
        obtain ⟨o, i, m, e, O, rfl, rfl, rfl, rfl, hi, hmi, heO, hO, hown, hso, hbel⟩ := hrel
        rcases Nat.lt_or_ge i L.length with hil | hil
        · obtain ⟨s, hs⟩ : ∃ s, L[i]? = some s := ⟨_, List.getElem?_eq_getElem hil⟩
          have hbv := hide ((hby.out s (List.mem_of_getElem? hs)).below hbel)
          obtain ⟨b, off, hix, hc, hbw, _⟩ := RowsAt.index hst.out elemS.ht elemS.hs (steps_at hs)
          have k0 : wr.cell? ⟨b, off, none⟩ = some (.int .i64 (s.kind : Nat)) := (hbel.cell (p := ⟨b, off, none⟩) hbw).trans (hc 0 _ rfl)
          have k1 : wr.cell? ⟨b, off + 1, none⟩ = some (.int .i64 (s.file : Nat)) := (hbel.cell (p := ⟨b, off + 1, none⟩) hbw).trans (hc 1 _ rfl)
          have k3 : wr.cell? ⟨b, off + 3, none⟩ = some s.bv := (hbel.cell (p := ⟨b, off + 3, none⟩) hbw).trans (hc 3 _ rfl)
          have k3w : w.cell? ⟨b, off + 3, none⟩ = some s.bv := hc 3 _ rfl
          have hd := leftF_step hs f keep torn z hso.out.1
          have hlen := (leftF_len L f keep torn z (i + 1)).1
          have hlen2 := heldF_take L f (i + 1)
          have hbb := hbv.out.byte
          obtain ⟨k, f', nm, bv, bb⟩ := s
          dsimp only at hbv k0 k1 k3 k3w hd hbb
          have hle3 := hbv.out.row.le
          rw [bvals_length] at hle3
          clear hc hs
          by_cases hk2 : k = 2
          · subst hk2
            by_cases hf : f' = f
            · subst hf
              rw [if_pos ⟨rfl, rfl⟩] at hd
              have hbl : O.length + bb.length ≤ 1048576 := by
                rw [hd] at hlen
                by_cases c1 : i < z
                · rw [if_pos c1] at hlen; simp at hlen; omega
                · rw [if_neg c1] at hlen
                  by_cases c2 : m < keep.length ∧ keep.getD m false = true
                  · rw [if_pos c2] at hlen; simp at hlen; omega
                  · rw [if_neg c2] at hlen; simp at hlen; omega
              have hb2 : ∀ x ∈ O ++ bb, x < 256 := fun x hx => (List.mem_append.1 hx).elim (hso.out.2 x) (hbb x)
              by_cases hiz : i < z
              · rw [if_pos hiz] at hd
                have hso2 := Lib.hid (And.intro hd hb2)
                clear hd hso hb2 hlen
                go_wp2_with (at_builtin; refine append_bytes rfl (.tmp 62) (.tmp 67) rfl w.heap.size rfl hown rfl hbv.out (by omega) hbel.size ?_; intro v2 w3 hown2 hb2; have hbel2 := hbel.trans hb2; have hlo : ∀ W, (Builtin.len_ #[30] 3 #[v2]).run Try.prog W = .ok (.int .i64 ((O.length : Int) + bb.length)) W := (fun W => by have := (hown2.bytes hso2.out.2).len (ty := 3) W; rwa [List.length_append] at this))
                go_roundw
                case rel => exact ⟨v2, i + 1, m, O.length + bb.length, _, rfl, rfl, by go_num, by go_num, by omega, by omega, by simp, by simpa using hbl, hown2, hso2, hbel2⟩
                case measure => simp [intOf]; omega
              · rw [if_neg hiz] at hd
                have hlb := fun W => hbv.out.len (ty := 3) W
                rcases keep_get (keep := keep) (m := m) with ⟨hm, hkm⟩ | ⟨hm, hkm⟩ | hm
                · obtain ⟨ad, hki, hkc, _⟩ := KeepAt.index (w := wr) (RowAt.below hk.out hbel) hm
                  rw [hkm] at hkc
                  rw [if_pos ⟨hm, hkm⟩] at hd
                  have hso2 := Lib.hid (And.intro hd hb2)
                  have cP := hide (fun W => refPick_any torn (bb.length + 1) W ht1 ht2 (by omega) (by omega))
                  have hJ := pickF_lt torn (show 0 < bb.length + 1 by omega)
                  obtain ⟨J, hJ2⟩ : ∃ J, pickF torn (bb.length + 1) = J := ⟨_, rfl⟩
                  rw [hJ2] at cP hJ hso2
                  rw [show ((bb.length + 1 : Nat) : Int) = (bb.length : Int) + 1 by omega] at cP
                  have hiz' : ¬ (i : Int) < z := by omega
                  clear hd hso hb2 hlen hJ2 hkm
                  go_wp2_with (at_builtin; refine append_bytes rfl (.tmp 84) (.tmp 89) rfl w.heap.size rfl hown rfl hbv.out (by omega) hbel.size ?_; intro v2 w3 hown2 hb2; have hbel2 := hbel.trans hb2; have k3' := (hbel2.cell (p := ⟨b, off + 3, none⟩) hbw).trans k3w; have hlo : ∀ W, (Builtin.len_ #[30] 3 #[v2]).run Try.prog W = .ok (.int .i64 ((O.length : Int) + bb.length)) W := (fun W => by have := (hown2.bytes hso2.out.2).len (ty := 3) W; rwa [List.length_append] at this))
                  go_quiet ((go_at_call 32; exact Calls.quiet_of_same (Calls.turn (cP.out _))))
                  go_wp2
                  go_roundw
                  case rel => exact ⟨v2, i + 1, m + 1, O.length + J, _, rfl, by go_num, by go_num, by go_num, by omega, by omega, by simp; omega, by simpa using hbl, hown2, hso2, below_drewN hbel2 _⟩
                  case measure => simp [intOf]; omega
                · obtain ⟨ad, hki, hkc, _⟩ := KeepAt.index (w := wr) (RowAt.below hk.out hbel) hm
                  rw [hkm] at hkc
                  rw [if_neg (fun h => by rw [hkm] at h; cases h.2)] at hd
                  have hb3 : ∀ x ∈ O ++ List.replicate bb.length 0, x < 256 := fun x hx => (List.mem_append.1 hx).elim (hso.out.2 x) (fun h => by rw [(List.mem_replicate.1 h).2]; omega)
                  have hso2 := Lib.hid (And.intro hd hb3)
                  have hiz' : ¬ (i : Int) < z := by omega
                  clear hd hso hb2 hb3 hlen hkm
                  go_wp2_with (at_builtin; refine append_zerosR rfl (.tmp 110) (.tmp 116) rfl w.heap.size bb.length rfl hown rfl (by omega) hbel.size ?_; intro v2 w3 hown2 hb2; have hbel2 := hbel.trans hb2)
                  go_roundw
                  case rel => exact ⟨v2, i + 1, m + 1, e, _, rfl, by go_num, rfl, by go_num, by omega, by omega, by simp; omega, by simpa using hbl, hown2, hso2, hbel2⟩
                  case measure => simp [intOf]; omega
                · rw [if_neg (fun h => hm h.1)] at hd
                  have hm' : decide (m < keep.length) = false := decide_eq_false hm
                  have hm2 : ¬ (m : Int) < keep.length := by omega
                  have hb3 : ∀ x ∈ O ++ List.replicate bb.length 0, x < 256 := fun x hx => (List.mem_append.1 hx).elim (hso.out.2 x) (fun h => by rw [(List.mem_replicate.1 h).2]; omega)
                  have hso2 := Lib.hid (And.intro hd hb3)
                  have hiz' : ¬ (i : Int) < z := by omega
                  clear hd hso hb2 hb3 hlen
                  go_wp2_with (at_builtin; refine append_zerosR rfl (.tmp 110) (.tmp 116) rfl w.heap.size bb.length rfl hown rfl (by omega) hbel.size ?_; intro v2 w3 hown2 hb2; have hbel2 := hbel.trans hb2)
                  go_roundw
                  case rel => exact ⟨v2, i + 1, m + 1, e, _, rfl, by go_num, rfl, by go_num, by omega, by omega, by simp; omega, by simpa using hbl, hown2, hso2, hbel2⟩
                  case measure => simp [intOf]; omega
            · rw [if_neg (fun h => hf h.2)] at hd
              have hso2 := Lib.hid (And.intro hd hso.out.2)
              have hq : ((f' : Int) != f) = true := by rw [bne_iff_ne]; omega
              clear hd hso hlen hf
              go_wp2
              go_roundw
              case rel => exact ⟨o, i + 1, m, e, O, rfl, rfl, rfl, by go_num, by omega, by omega, heO, hO, hown, hso2, hbel⟩
              case measure => simp [intOf]; omega
          · rw [if_neg (fun h => hk2 h.1)] at hd
            have hso2 := Lib.hid (And.intro hd hso.out.2)
            have hq : ((k : Int) != 2) = true := by rw [bne_iff_ne]; omega
            clear hd hso hlen hk2
            go_wp2
            go_roundw
            case rel => exact ⟨o, i + 1, m, e, O, rfl, rfl, rfl, by go_num, by omega, by omega, heO, hO, hown, hso2, hbel⟩
            case measure => simp [intOf]; omega
        · have hle2 := (leftF_len L f keep torn z i).2.1
          obtain ⟨v2, hsl, hb3, hfr⟩ := own_first hown hso.out.2 heO
          have hfin : Hid (leftS L f keep torn = O.take e) := Lib.hid (by
            obtain rfl : i = L.length := by omega
            unfold leftS
            rw [← hz.out, hso.out.1])
          have hil : ¬ (i : Int) < L.length := by omega
          clear hso hle2
          go_wp2
          go_ret
          exact ⟨_, rfl, by rw [hfin.out]; exact hb3, hbel, hfr⟩
end Go.Proofs.Ytpkiapjcilapoaa
