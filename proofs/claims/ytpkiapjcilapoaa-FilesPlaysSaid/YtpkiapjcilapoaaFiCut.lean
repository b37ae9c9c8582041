/-
  Cut, the document's own disk.
-/
import Derived.Test.YtpkiapjcilapoaaFiCutNum
import Derived.Deep.CutRange
import Derived.OrdersHeld
import Derived.Deep.RegionHeld
namespace Go.Proofs.Ytpkiapjcilapoaa
open Go.RowKit Go.Sort


theorem BytesAt.one {w : World} {v : Value} {l : List Nat} (h : BytesAt w v l) : v.oneCell' = true := by
  obtain ⟨A, c, rfl, _⟩ := h.row
  rfl
theorem DiskR.fresh (w : World) : DiskR w.heap.size (w.alloc (.cells #[.slice none 0 0, .int .i64 0, .int .i64 0] 28)) w.heap.size (.slice none 0 0) [] 0 0 [w.heap.size] := by
  refine ⟨?_, OwnRows.none_ _ _ _ _, by simp, by simp [Kinds], by simp, by simp [Value.ownBlock], by simp, by simp, by simp⟩
  exact heap_alloc_new w _
theorem DiskR.setBase {n p born base : Nat} {w : World} {lv : Value} {L : List FStep} {B : List Nat} (h : DiskR n w p lv L born base B) (b' : Nat) :
    DiskR n (w.setCell ⟨p, 2, none⟩ (.int .i64 (b' : Nat))) p lv L born b' B ∧ Turns B w (w.setCell ⟨p, 2, none⟩ (.int .i64 (b' : Nat))) := by
  have ht : Turns [p] w (w.setCell ⟨p, 2, none⟩ (.int .i64 (b' : Nat))) := Turns.set _ _ (by simp)
  have hsz : (w.setCell ⟨p, 2, none⟩ (.int .i64 (b' : Nat))).heap.size = w.heap.size := by simp [World.setCell]
  refine ⟨⟨?_, ?_, ?_, h.kinds, h.pin, h.lin, h.bin, ?_, h.apart⟩, Turns.set _ _ h.pin⟩
  · have := heap_setCell_same w p 2 _ _ (.int .i64 (b' : Nat)) h.disk
    simpa using this
  · exact h.own.turns ht (fun b hb => by simp; rintro rfl; exact h.own_ne hb)
  · intro s hs
    exact (h.bytes s hs).turns ht (fun b hb => by have := (h.apart s hs b hb).1; simpa using this)
  · intro b hb
    rw [hsz]; exact h.low b hb
theorem DiskR.lower {n m p born base : Nat} {w : World} {lv : Value} {L : List FStep} {B : List Nat} (h : DiskR n w p lv L born base B) (hm : m ≤ n) : DiskR m w p lv L born base B :=
  ⟨h.disk, h.own.lower hm, h.bytes, h.kinds, h.pin, h.lin, h.bin, fun b hb => ⟨Nat.le_trans hm (h.low b hb).1, (h.low b hb).2⟩, h.apart⟩
/-- A step more, told in the shape that a walk has. -/
theorem DiskR.more {n p born base : Nat} {w w1 w2 : World} {lv v2 : Value} {L : List FStep} {B : List Nat} {s : FStep} (h : DiskR n w p lv L born base B) (h1 : Below w.heap.size w w1) (hs : BytesAt w1 s.bv s.b) (hnew : ∀ b, s.bv.ownBlock = some b → w.heap.size ≤ b ∧ b < w1.heap.size) (hk : 1 ≤ s.kind ∧ s.kind ≤ 6)
    (ho : OwnRows w2 n 85 4 v2 (L.map stCells ++ [stCells s])) (h2 : Turns lv.ownBlock.toList w1 w2) (hw : ∀ b, v2.ownBlock = some b → lv.ownBlock = some b ∨ w1.heap.size ≤ b) :
    ∃ B', DiskR n (w2.setCell ⟨p, 0, none⟩ v2) p v2 (L ++ [s]) born base B' ∧ Below n w (w2.setCell ⟨p, 0, none⟩ v2) := by
  obtain ⟨B', k1, k2, _⟩ := h.put (Turns.of_below h1) hs hnew hk (by rw [sts_app]; exact ho) h2 hw
  exact ⟨B', k1, Turns.below k2 h.nle (fun b hb => (h.low b hb).1)⟩

set_option maxRecDepth 20000 in
set_option maxHeartbeats 8000000 in
theorem refCut_any {n p born base : Nat} {w : World} {lv : Value} {L : List FStep} {B : List Nat} (h : DiskR n w p lv L born base B) (hl : L.length ≤ 10000) (hh : ∀ f, (heldF L f).length ≤ 1048576) (hbase : base ≤ L.length)
    (at_ names torn : Int) (a1 : -9223372036854775808 ≤ at_) (a2 : at_ ≤ 9223372036854775807) (n1 : -9223372036854775808 ≤ names) (n2 : names ≤ 9223372036854775807) (t1 : -9223372036854775808 ≤ torn) (t2 : torn ≤ 9223372036854775807)
    {kv : Value} {keep : List Bool} (hk : KeepAt w kv keep) :
    Calls Try.prog 11 #[.pointer (some ⟨p, 0, none⟩), .int .i64 at_, .int .i64 names, kv, .int .i64 torn] w fun e w' => ∃ q lv' L' B' b', e = .returned (.pointer (some ⟨q, 0, none⟩)) ∧ DiskR w.heap.size w' q lv' L' b' L'.length B' ∧ L'.map shp = cutS L base at_ names keep torn ∧ b' = (cutT L base at_ names).2.length ∧ Below w.heap.size w w' := by
  have hlv := fun W => h.steps.len (ty := 3) W
  have hc0 := h.c0
  have hc2 := h.c2
  have hpl := h.plt
  have cP := hide (fun W => refPick_any at_ (L.length - base + 1) W a1 a2 (by omega) (by omega))
  have hJ := pickF_lt at_ (show 0 < L.length - base + 1 by omega)
  obtain ⟨J, hJ2⟩ : ∃ J, pickF at_ (L.length - base + 1) = J := ⟨_, rfl⟩
  rw [hJ2, show ((L.length - base + 1 : Nat) : Int) = (L.length : Int) - base + 1 by omega] at cP
  rw [hJ2] at hJ
  obtain ⟨v1, hsl, hst, _⟩ := RowsAt.upto h.steps elemS.ht elemS.hs (m := base + J) (by rw [List.length_map]; omega)
  rw [show ((base + J : Nat) : Int) = (base : Int) + J by omega] at hsl
  rw [← List.map_take] at hst
  obtain ⟨l, hlt⟩ : ∃ l, L.take (base + J) = l := ⟨_, rfl⟩
  have hby : ∀ s ∈ l, BytesAt w s.bv s.b := fun s hs => h.bytes s (List.mem_of_mem_take (by rw [hlt]; exact hs))
  have hkd : Kinds l := fun s hs => h.kinds s (List.mem_of_mem_take (by rw [hlt]; exact hs))
  have hlh : ∀ f, (heldF l f).length ≤ 1048576 := fun f => by have h1 := heldF_take L f (base + J); rw [hlt] at h1; have := hh f; omega
  have hll : l.length = base + J := by rw [← hlt, List.length_take]; omega
  have hT : cutT L base at_ names = (l, (thereN l (safeN l base l.length) (pickF names (openN l (safeN l base l.length) l.length + 1)) l.length).1) := by
    unfold cutT
    rw [hJ2, hlt]
  unfold cutS
  rw [hT]
  dsimp only
  rw [hlt] at hst
  have hst : StepsAt w v1 l := hst
  have hl1 : l.length ≤ 10000 := by omega
  have hbl : base ≤ l.length := by omega
  have hl1i : (l.length : Int) ≤ 9223372036854775807 := by omega
  have hlv1 := fun W => hst.len (ty := 3) W
  obtain ⟨Z, hZ⟩ : ∃ Z, safeN l base l.length = Z := ⟨_, rfl⟩
  have hZl : Z ≤ l.length := by rw [← hZ]; exact (safeN_le l base l.length).2 hbl
  rw [hZ]
  obtain ⟨O, hO⟩ : ∃ O, openN l Z l.length = O := ⟨_, rfl⟩
  have hOl : O ≤ l.length := by rw [← hO]; exact openN_le l Z l.length
  rw [hO]
  have cP2 := hide (fun W => refPick_any names (O + 1) W n1 n2 (by omega) (by omega))
  have hN := pickF_lt names (show 0 < O + 1 by omega)
  obtain ⟨N, hN2⟩ : ∃ N, pickF names (O + 1) = N := ⟨_, rfl⟩
  rw [hN2, show ((O + 1 : Nat) : Int) = (O : Int) + 1 by omega] at cP2
  rw [hN2] at hN ⊢
  obtain ⟨T, hT2⟩ : ∃ T, (thereN l Z N l.length).1 = T := ⟨_, rfl⟩
  have hTl : T.length ≤ l.length := by rw [← hT2]; exact (thereN_len l Z N l.length).1
  rw [hT2]
  have hZ := Lib.hid hZ
  have hO := Lib.hid hO
  have hT2 := Lib.hid hT2
  clear hlt hT hJ2 hll hh hN2
  have h := Lib.hid h
  have hst := Lib.hid hst
  have hby := Lib.hid hby
  have hkd := Lib.hid hkd
  have hlh := Lib.hid hlh
  have hk := Lib.hid hk
  go_enter Try.func11, Try.ntmps11
  go_wp2
  go_quiet ((go_at_call 32; exact Calls.quiet_of_same (Calls.turn (cP.out _))))
  go_wp2
  go_loopw [12, 13] (fun z' t wr => ∃ (i z : Nat), z' = .int .i64 z ∧ t = .int .i64 i ∧ base ≤ i ∧ i ≤ l.length ∧ Hid (z = safeN l base i) ∧ Below w.heap.size w wr) (fun _ t _ => l.length - (intOf t).toNat)
  case atStart => exact ⟨base, base, rfl, rfl, by omega, by omega, Lib.hid (safeN_base l base base (Nat.le_refl _)).symm, below_drewN (Below.refl _ _) _⟩
  case round =>
    obtain ⟨i, z, rfl, rfl, hbi, hi, hz, hbel⟩ := hrel
    rcases Nat.lt_or_ge i l.length with hil | hil
    · as_aux_lemma =>
      obtain ⟨s, hs⟩ : ∃ s, l[i]? = some s := ⟨_, List.getElem?_eq_getElem hil⟩
      obtain ⟨b, off, hix, hc, hbw, _⟩ := RowsAt.index hst.out elemS.ht elemS.hs (steps_at hs)
      have k0 : wr.cell? ⟨b, off, none⟩ = some (.int .i64 (s.kind : Nat)) := (hbel.cell (p := ⟨b, off, none⟩) hbw).trans (hc 0 _ rfl)
      have hd := safeN_step hs hbi
      rw [← hz.out] at hd
      obtain ⟨k, f', nm, bv, bb⟩ := s
      dsimp only at k0 hd
      clear hc hs hz
      by_cases h6 : k = 6
      · subst h6
        have hnext : Hid (i = safeN l base (i + 1)) := Lib.hid (by rw [hd]; simp)
        clear hd
        go_wp2
        go_roundw
        case rel => exact ⟨i + 1, i, rfl, by go_num, by omega, by omega, hnext, hbel⟩
        case measure => simp [intOf]; omega
      · have hnext : Hid (z = safeN l base (i + 1)) := Lib.hid (by rw [hd]; simp [h6])
        have hq : ((k : Int) == 6) = false := beq_false_of_ne (by omega)
        have hq2 : decide (k = 6) = false := decide_eq_false h6
        clear hd h6
        go_wp2
        go_roundw
        case rel => exact ⟨i + 1, z, rfl, by go_num, by omega, by omega, hnext, hbel⟩
        case measure => simp [intOf]; omega
    · as_aux_lemma =>
      obtain rfl : Z = z := by rw [hz.out, ← hZ.out]; congr 1; omega
      clear hz hbi hZ
      have hil : ¬ (i : Int) < l.length := by omega
      go_wp2
      clear hil hi
      go_loopw [14, 15] (fun m' t w2 => ∃ (i m : Nat), m' = .int .i64 m ∧ t = .int .i64 i ∧ Z ≤ i ∧ i ≤ l.length ∧ m ≤ i ∧ Hid (m = openN l Z i) ∧ Below w.heap.size w w2) (fun _ t _ => l.length - (intOf t).toNat)
      case atStart => exact ⟨Z, 0, rfl, rfl, by omega, by omega, by omega, Lib.hid (openN_base l Z Z (Nat.le_refl _)).symm, hbel⟩
      case round =>
        clear hbel
        obtain ⟨i, m, rfl, rfl, hzi, hi, hmi, hm, hbel⟩ := hrel
        rcases Nat.lt_or_ge i l.length with hil | hil
        · as_aux_lemma =>
          obtain ⟨s, hs⟩ : ∃ s, l[i]? = some s := ⟨_, List.getElem?_eq_getElem hil⟩
          obtain ⟨b, off, hix, hc, hbw, _⟩ := RowsAt.index hst.out elemS.ht elemS.hs (steps_at hs)
          have k0 : wr.cell? ⟨b, off, none⟩ = some (.int .i64 (s.kind : Nat)) := (hbel.cell (p := ⟨b, off, none⟩) hbw).trans (hc 0 _ rfl)
          have hd := openN_step hs hzi
          rw [← hm.out] at hd
          obtain ⟨k, f', nm, bv, bb⟩ := s
          dsimp only at k0
          unfold chgF at hd
          dsimp only at hd
          clear hc hs hm
          by_cases h1 : k = 1
          · subst h1
            have hnext : Hid (m + 1 = openN l Z (i + 1)) := Lib.hid (by rw [hd]; simp)
            clear hd
            go_wp2
            go_roundw
            case rel => exact ⟨i + 1, m + 1, by go_num, by go_num, by omega, by omega, by omega, hnext, hbel⟩
            case measure => simp [intOf]; omega
          · by_cases h3 : k = 3
            · subst h3
              have hnext : Hid (m + 1 = openN l Z (i + 1)) := Lib.hid (by rw [hd]; simp)
              clear hd h1
              go_wp2
              go_roundw
              case rel => exact ⟨i + 1, m + 1, by go_num, by go_num, by omega, by omega, by omega, hnext, hbel⟩
              case measure => simp [intOf]; omega
            · by_cases h4 : k = 4
              · subst h4
                have hnext : Hid (m + 1 = openN l Z (i + 1)) := Lib.hid (by rw [hd]; simp)
                clear hd h1 h3
                go_wp2
                go_roundw
                case rel => exact ⟨i + 1, m + 1, by go_num, by go_num, by omega, by omega, by omega, hnext, hbel⟩
                case measure => simp [intOf]; omega
              · have hnext : Hid (m = openN l Z (i + 1)) := Lib.hid (by rw [hd]; simp [h1, h3, h4])
                have q1 : ((k : Int) == 1) = false := beq_false_of_ne (by omega)
                have q3 : ((k : Int) == 3) = false := beq_false_of_ne (by omega)
                have q4 : ((k : Int) == 4) = false := beq_false_of_ne (by omega)
                have q1' : decide (k = 1) = false := decide_eq_false h1
                have q3' : decide (k = 3) = false := decide_eq_false h3
                have q4' : decide (k = 4) = false := decide_eq_false h4
                clear hd h1 h3 h4
                go_wp2
                go_roundw
                case rel => exact ⟨i + 1, m, rfl, by go_num, by omega, by omega, by omega, hnext, hbel⟩
                case measure => simp [intOf]; omega
        · as_aux_lemma =>
          obtain rfl : O = m := by rw [hm.out, ← hO.out]; congr 1; omega
          clear hm hzi hO hmi
          have hil : ¬ (i : Int) < l.length := by omega
          go_wp2_with (go_at_call 32; refine (cP2.out _).mono ?_; rintro e' w2 ⟨rfl, rfl⟩)
          clear hil hi
          go_loopw [16, 17, 18] (fun m' v' t w2 => ∃ (i m : Nat) (v : Value) (R : Nms), m' = .int .i64 m ∧ v = v' ∧ t = .int .i64 i ∧ i ≤ l.length ∧ m ≤ N ∧ R.length ≤ i ∧ Hid (thereN l Z N i = (R, m) ∧ NamesAt w2 v R) ∧ Below w.heap.size w w2) (fun _ _ t _ => l.length - (intOf t).toNat)
          case atStart => exact ⟨0, N, _, [], rfl, rfl, rfl, by omega, by omega, by simp, Lib.hid ⟨rfl, (OwnRows.none_ _ 0 89 2).rows⟩, hbel⟩
          case round =>
            clear hbel
            obtain ⟨i, m, v, R, rfl, rfl, rfl, hi, hmN, hR, hso, hbel⟩ := hrel
            rcases Nat.lt_or_ge i l.length with hil | hil
            · as_aux_lemma =>
              obtain ⟨s, hs⟩ : ∃ s, l[i]? = some s := ⟨_, List.getElem?_eq_getElem hil⟩
              obtain ⟨b, off, hix, hc, hbw, _⟩ := RowsAt.index hst.out elemS.ht elemS.hs (steps_at hs)
              have k0 : wr.cell? ⟨b, off, none⟩ = some (.int .i64 (s.kind : Nat)) := (hbel.cell (p := ⟨b, off, none⟩) hbw).trans (hc 0 _ rfl)
              have k1 : wr.cell? ⟨b, off + 1, none⟩ = some (.int .i64 (s.file : Nat)) := (hbel.cell (p := ⟨b, off + 1, none⟩) hbw).trans (hc 1 _ rfl)
              have k2 : wr.cell? ⟨b, off + 2, none⟩ = some (.string s.name) := (hbel.cell (p := ⟨b, off + 2, none⟩) hbw).trans (hc 2 _ rfl)
              have k3 : wr.cell? ⟨b, off + 3, none⟩ = some s.bv := (hbel.cell (p := ⟨b, off + 3, none⟩) hbw).trans (hc 3 _ rfl)
              have cN := hide (fun W (hv : NamesAt W v R) => refNamed_any v R s W hv (by omega) (hkd.out s (List.mem_of_getElem? hs)))
              have hd := thereN_step hs Z N hso.out.1
              have hR2 : (namedF R s).length ≤ i + 1 := by have := namedF_len R s; omega
              have hw : (s.kind = 1 ∨ s.kind = 3 ∨ s.kind = 4) ∨ ¬ (s.kind = 1 ∨ s.kind = 3 ∨ s.kind = 4) := by omega
              have hcg1 : (s.kind = 1 ∨ s.kind = 3 ∨ s.kind = 4) → chgF s = true := fun h => decide_eq_true h
              have hcg2 : ¬ (s.kind = 1 ∨ s.kind = 3 ∨ s.kind = 4) → chgF s = false := fun h => decide_eq_false h
              obtain ⟨k, f', nm, bv, bb⟩ := s
              dsimp only at k0 k1 k2 k3 hw hcg1 hcg2 cN
              clear hc hs
              rcases hw with (h1 | h3 | h4) | h0
              · as_aux_lemma =>
                have hcg := hcg1 (by omega)
                have q1 : ((k : Int) == 1) = true := by rw [h1]; rfl
                have q1' : decide (k = 1) = true := decide_eq_true h1
                clear hcg1 hcg2 h1
                rcases Nat.lt_or_ge i Z with hiz | hiz
                · have hlt : i < Z := hiz
                  rw [if_pos hlt] at hd
                  have hd := Lib.hid hd
                  clear hiz
                  go_wp2_with (go_at_call 33; refine (cN.out _ hso.out.2).mono ?_; rintro e' w2 ⟨v2, rfl, hn2, hb2⟩; have hbel2 := hbel.trans (hb2.mono hbel.size))
                  go_roundw
                  case rel => exact ⟨i + 1, m, v2, _, rfl, rfl, by go_num, by omega, hmN, hR2, Lib.hid ⟨hd.out, hn2⟩, hbel2⟩
                  case measure => simp [intOf]; omega
                · have hiz : ¬ i < Z := by omega
                  rcases Nat.eq_zero_or_pos m with hm0 | hm0
                  · subst hm0
                    have hlt : ¬ (i : Int) < Z := by omega
                    rw [if_neg hiz, if_neg (fun h => absurd h.2 (by omega))] at hd
                    have hd := Lib.hid hd
                    skip
                    clear hiz
                    go_wp2
                    go_roundw
                    case rel => exact ⟨i + 1, 0, v, _, rfl, rfl, by go_num, by omega, hmN, by omega, Lib.hid ⟨hd.out, hso.out.2⟩, hbel⟩
                    case measure => simp [intOf]; omega
                  · have hlt : ¬ (i : Int) < Z := by omega
                    have hge : (Z : Int) ≤ i := by omega
                    rw [if_neg hiz, if_pos ⟨hcg, hm0⟩] at hd
                    have hd := Lib.hid hd
                    have hm1 : (0 : Int) < m := by omega
                    have hsb : (m : Int) - 1 = ((m - 1 : Nat) : Int) := by omega
                    clear hiz
                    go_wp2_with (go_at_call 33; refine (cN.out _ hso.out.2).mono ?_; rintro e' w2 ⟨v2, rfl, hn2, hb2⟩; have hbel2 := hbel.trans (hb2.mono hbel.size))
                    go_roundw
                    case rel => exact ⟨i + 1, m - 1, v2, _, by rw [← hsb], rfl, by go_num, by omega, by omega, hR2, Lib.hid ⟨hd.out, hn2⟩, hbel2⟩
                    case measure => simp [intOf]; omega
              · as_aux_lemma =>
                have hcg := hcg1 (by omega)
                have q1 : ((k : Int) == 1) = false := beq_false_of_ne (by omega)
                have q1' : decide (k = 1) = false := decide_eq_false (by omega)
                have q3 : ((k : Int) == 3) = true := by rw [h3]; rfl
                have q3' : decide (k = 3) = true := decide_eq_true h3
                clear hcg1 hcg2 h3
                rcases Nat.lt_or_ge i Z with hiz | hiz
                · have hlt : i < Z := hiz
                  rw [if_pos hlt] at hd
                  have hd := Lib.hid hd
                  clear hiz
                  go_wp2_with (go_at_call 33; refine (cN.out _ hso.out.2).mono ?_; rintro e' w2 ⟨v2, rfl, hn2, hb2⟩; have hbel2 := hbel.trans (hb2.mono hbel.size))
                  go_roundw
                  case rel => exact ⟨i + 1, m, v2, _, rfl, rfl, by go_num, by omega, hmN, hR2, Lib.hid ⟨hd.out, hn2⟩, hbel2⟩
                  case measure => simp [intOf]; omega
                · have hiz : ¬ i < Z := by omega
                  rcases Nat.eq_zero_or_pos m with hm0 | hm0
                  · subst hm0
                    have hlt : ¬ (i : Int) < Z := by omega
                    rw [if_neg hiz, if_neg (fun h => absurd h.2 (by omega))] at hd
                    have hd := Lib.hid hd
                    skip
                    clear hiz
                    go_wp2
                    go_roundw
                    case rel => exact ⟨i + 1, 0, v, _, rfl, rfl, by go_num, by omega, hmN, by omega, Lib.hid ⟨hd.out, hso.out.2⟩, hbel⟩
                    case measure => simp [intOf]; omega
                  · have hlt : ¬ (i : Int) < Z := by omega
                    have hge : (Z : Int) ≤ i := by omega
                    rw [if_neg hiz, if_pos ⟨hcg, hm0⟩] at hd
                    have hd := Lib.hid hd
                    have hm1 : (0 : Int) < m := by omega
                    have hsb : (m : Int) - 1 = ((m - 1 : Nat) : Int) := by omega
                    clear hiz
                    go_wp2_with (go_at_call 33; refine (cN.out _ hso.out.2).mono ?_; rintro e' w2 ⟨v2, rfl, hn2, hb2⟩; have hbel2 := hbel.trans (hb2.mono hbel.size))
                    go_roundw
                    case rel => exact ⟨i + 1, m - 1, v2, _, by rw [← hsb], rfl, by go_num, by omega, by omega, hR2, Lib.hid ⟨hd.out, hn2⟩, hbel2⟩
                    case measure => simp [intOf]; omega
              · as_aux_lemma =>
                have hcg := hcg1 (by omega)
                have q1 : ((k : Int) == 1) = false := beq_false_of_ne (by omega)
                have q1' : decide (k = 1) = false := decide_eq_false (by omega)
                have q3 : ((k : Int) == 3) = false := beq_false_of_ne (by omega)
                have q3' : decide (k = 3) = false := decide_eq_false (by omega)
                have q4 : ((k : Int) == 4) = true := by rw [h4]; rfl
                have q4' : decide (k = 4) = true := decide_eq_true h4
                clear hcg1 hcg2 h4
                rcases Nat.lt_or_ge i Z with hiz | hiz
                · have hlt : i < Z := hiz
                  rw [if_pos hlt] at hd
                  have hd := Lib.hid hd
                  clear hiz
                  go_wp2_with (go_at_call 33; refine (cN.out _ hso.out.2).mono ?_; rintro e' w2 ⟨v2, rfl, hn2, hb2⟩; have hbel2 := hbel.trans (hb2.mono hbel.size))
                  go_roundw
                  case rel => exact ⟨i + 1, m, v2, _, rfl, rfl, by go_num, by omega, hmN, hR2, Lib.hid ⟨hd.out, hn2⟩, hbel2⟩
                  case measure => simp [intOf]; omega
                · have hiz : ¬ i < Z := by omega
                  rcases Nat.eq_zero_or_pos m with hm0 | hm0
                  · subst hm0
                    have hlt : ¬ (i : Int) < Z := by omega
                    rw [if_neg hiz, if_neg (fun h => absurd h.2 (by omega))] at hd
                    have hd := Lib.hid hd
                    skip
                    clear hiz
                    go_wp2
                    go_roundw
                    case rel => exact ⟨i + 1, 0, v, _, rfl, rfl, by go_num, by omega, hmN, by omega, Lib.hid ⟨hd.out, hso.out.2⟩, hbel⟩
                    case measure => simp [intOf]; omega
                  · have hlt : ¬ (i : Int) < Z := by omega
                    have hge : (Z : Int) ≤ i := by omega
                    rw [if_neg hiz, if_pos ⟨hcg, hm0⟩] at hd
                    have hd := Lib.hid hd
                    have hm1 : (0 : Int) < m := by omega
                    have hsb : (m : Int) - 1 = ((m - 1 : Nat) : Int) := by omega
                    clear hiz
                    go_wp2_with (go_at_call 33; refine (cN.out _ hso.out.2).mono ?_; rintro e' w2 ⟨v2, rfl, hn2, hb2⟩; have hbel2 := hbel.trans (hb2.mono hbel.size))
                    go_roundw
                    case rel => exact ⟨i + 1, m - 1, v2, _, by rw [← hsb], rfl, by go_num, by omega, by omega, hR2, Lib.hid ⟨hd.out, hn2⟩, hbel2⟩
                    case measure => simp [intOf]; omega
              · as_aux_lemma =>
                have hcg := hcg2 h0
                have q1 : ((k : Int) == 1) = false := beq_false_of_ne (by omega)
                have q1' : decide (k = 1) = false := decide_eq_false (by omega)
                have q3 : ((k : Int) == 3) = false := beq_false_of_ne (by omega)
                have q3' : decide (k = 3) = false := decide_eq_false (by omega)
                have q4 : ((k : Int) == 4) = false := beq_false_of_ne (by omega)
                have q4' : decide (k = 4) = false := decide_eq_false (by omega)
                clear hcg1 hcg2 h0
                rcases Nat.lt_or_ge i Z with hiz | hiz
                · have hlt : i < Z := hiz
                  rw [if_pos hlt] at hd
                  have hd := Lib.hid hd
                  clear hiz
                  go_wp2_with (go_at_call 33; refine (cN.out _ hso.out.2).mono ?_; rintro e' w2 ⟨v2, rfl, hn2, hb2⟩; have hbel2 := hbel.trans (hb2.mono hbel.size))
                  go_roundw
                  case rel => exact ⟨i + 1, m, v2, _, rfl, rfl, by go_num, by omega, hmN, hR2, Lib.hid ⟨hd.out, hn2⟩, hbel2⟩
                  case measure => simp [intOf]; omega
                · have hiz : ¬ i < Z := by omega
                  have hlt : ¬ (i : Int) < Z := by omega
                  rw [if_neg hiz, if_neg (fun h => by rw [hcg] at h; cases h.1)] at hd
                  have hd := Lib.hid hd
                  skip
                  clear hiz
                  go_wp2
                  go_roundw
                  case rel => exact ⟨i + 1, m, v, _, rfl, rfl, by go_num, by omega, hmN, by omega, Lib.hid ⟨hd.out, hso.out.2⟩, hbel⟩
                  case measure => simp [intOf]; omega
            · as_aux_lemma =>
              obtain rfl : R = T := by
                have h1 := hT2.out
                rw [← show i = l.length by omega, hso.out.1] at h1
                exact h1
              have hnT := Lib.hid hso.out.2
              have hlT := fun W => hnT.out.len (ty := 3) W
              clear hso hT2 hmN hR
              have hil' : ¬ (i : Int) < l.length := by omega
              have hfr := DiskR.fresh wr
              have hb0 := below_box1 wr (.cells #[.slice none 0 0, .int .i64 0, .int .i64 0] 28)
              have hRi : (R.length : Int) ≤ 9223372036854775807 := by omega
              go_wp2
              clear hil hil' hi
              obtain ⟨W0, hW0⟩ : ∃ W0, wr.alloc (.cells #[.slice none 0 0, .int .i64 0, .int .i64 0] 28) = W0 := ⟨_, rfl⟩
              rw [hW0] at hfr hb0 ⊢
              clear hW0
              obtain ⟨q, hq⟩ : ∃ q, wr.heap.size = q := ⟨_, rfl⟩
              rw [hq] at hfr hb0 ⊢
              have hwq : w.heap.size ≤ q := by rw [← hq]; exact hbel.size
              have hfr := Lib.hid hfr
              obtain ⟨w4, hw4⟩ : ∃ w4, wr = w4 := ⟨_, rfl⟩
              rw [hw4] at hnT hbel hq hb0
              clear hw4
              have hq := Lib.hid hq
              go_loopw [21] (fun t w5 => ∃ (i : Nat) (lv2 : Value) (L2 : List FStep) (B2 : List Nat), t = .int .i64 i ∧ i ≤ R.length ∧ Hid (DiskR q w5 q lv2 L2 i 0 B2 ∧ L2.map shp = outN l R keep torn i) ∧ Below q w4 w5) (fun t _ => R.length - (intOf t).toNat)
              case atStart => exact ⟨0, _, [], _, rfl, by omega, Lib.hid ⟨hfr.out, rfl⟩, hb0⟩
              case round =>
                clear hb0
                obtain ⟨i, lv2, L2, B2, rfl, hi, hso, hbq⟩ := hrel
                rcases Nat.lt_or_ge i R.length with hil | hil
                · as_aux_lemma =>
                  obtain ⟨s, hs⟩ : ∃ s, R[i]? = some s := ⟨_, List.getElem?_eq_getElem hil⟩
                  obtain ⟨b, off, hix, hc, hbw, _⟩ := RowsAt.index hnT.out elemN.ht elemN.hs (names_at hs)
                  rw [hq.out] at hbw
                  have k0 : wr.cell? ⟨b, off, none⟩ = some (.string s.1) := (hbq.cell (p := ⟨b, off, none⟩) hbw).trans (hc 0 _ rfl)
                  have k0w : w4.cell? ⟨b, off, none⟩ = some (.string s.1) := (hc 0 _ rfl)
                  have k1w : w4.cell? ⟨b, off + 1, none⟩ = some (.int .i64 (s.2 : Nat)) := (hc 1 _ rfl)
                  have hd := outN_step hs l keep torn
                  rw [← hso.out.2] at hd
                  obtain ⟨nm, f⟩ := s
                  dsimp only at k0 k0w k1w hd
                  have hlen2 : (L2.map stCells).length ≤ 50000 := by
                    have h1 := congrArg List.length hso.out.2
                    have h2 := outN_len l R keep torn i
                    rw [List.length_map] at h1 ⊢
                    omega
                  have hD := hso.out.1
                  have hc0 := hD.c0
                  have hc1 := hD.c1
                  have hown := hD.own
                  have hp1 : q < wr.heap.size := hD.plt
                  have hnw := hD.nle
                  have hD := Lib.hid hD
                  have hd := Lib.hid hd
                  clear hc hs hso
                  have cL := hide (fun W (hb : Below w.heap.size w W) => refLeft_any (w := W) (RowsAt.below hst.out hb) (fun s hs => (hby.out s hs).below hb) hl1 f (hlh.out f) (RowAt.below hk.out hb) torn t1 t2)
                  go_upto_region 28 with fail
                  go_cut [] from 152 to 220 (fun wx => ∃ lv3 B3, Hid (DiskR q wx q lv3 (L2 ++ [plain 1 i nm]) i 0 B3) ∧ Below q w4 wx)
                  case first => as_aux_lemma =>
                    refine wp_region_held_drew (S := fun X => X.cell? ⟨q, 1, none⟩ = some (.int .i64 (i : Nat)) ∧ X.cell? ⟨b, off, none⟩ = some (.string nm)) (by kernel_rfl) ⟨hc1, k0⟩ (fun hH => ?_)
                    refine wpAnyH_take (i := 0) (oi := ⟨some 158, .move (.tmp 20), _, _, _, none⟩) (v := (.pointer (some ⟨q, 0, none⟩))) rfl (by decide +kernel) (by decide +kernel) (by decide +kernel) (fun _ _ _ h => h) (.inl ⟨rfl, fun X hX => rfl⟩) hH ?_
                    try simp only [Act.put, List.setIfInBounds_toArray, List.set_cons_succ, List.set_cons_zero]
                    refine wpAnyH_take (i := 1) (oi := ⟨some 159, .move (.tmp 20), _, _, _, none⟩) (v := (.pointer (some ⟨q, 0, none⟩))) rfl (by decide +kernel) (by decide +kernel) (by decide +kernel) (fun _ _ _ h => h) (.inl ⟨rfl, fun X hX => rfl⟩) hH ?_
                    try simp only [Act.put, List.setIfInBounds_toArray, List.set_cons_succ, List.set_cons_zero]
                    refine wpAnyH_take (i := 2) (oi := ⟨some 160, .nilCheck (.tmp 159), _, _, _, none⟩) (v := (.pointer (some ⟨q, 0, none⟩))) rfl (by decide +kernel) (by decide +kernel) (by decide +kernel) (fun _ _ _ h => h) (.inl ⟨rfl, fun X hX => by go_simp⟩) hH ?_
                    try simp only [Act.put, List.setIfInBounds_toArray, List.set_cons_succ, List.set_cons_zero]
                    refine wpAnyH_take (i := 3) (oi := ⟨some 161, .fieldAddr 28 (.tmp 160) 0, _, _, _, none⟩) (v := (.pointer (some ⟨q, 0, none⟩))) rfl (by decide +kernel) (by decide +kernel) (by decide +kernel) (fun _ _ _ h => h) (.inl ⟨rfl, fun X hX => by go_simp⟩) hH ?_
                    try simp only [Act.put, List.setIfInBounds_toArray, List.set_cons_succ, List.set_cons_zero]
                    refine wpAnyH_take (i := 5) (oi := ⟨some 163, .move (.tmp 20), _, _, _, none⟩) (v := (.pointer (some ⟨q, 0, none⟩))) rfl (by decide +kernel) (by decide +kernel) (by decide +kernel) (fun _ _ _ h => h) (.inl ⟨rfl, fun X hX => rfl⟩) hH ?_
                    try simp only [Act.put, List.setIfInBounds_toArray, List.set_cons_succ, List.set_cons_zero]
                    refine wpAnyH_take (i := 6) (oi := ⟨some 164, .nilCheck (.tmp 163), _, _, _, none⟩) (v := (.pointer (some ⟨q, 0, none⟩))) rfl (by decide +kernel) (by decide +kernel) (by decide +kernel) (fun _ _ _ h => h) (.inl ⟨rfl, fun X hX => by go_simp⟩) hH ?_
                    try simp only [Act.put, List.setIfInBounds_toArray, List.set_cons_succ, List.set_cons_zero]
                    refine wpAnyH_take (i := 7) (oi := ⟨some 165, .fieldAddr 28 (.tmp 164) 1, _, _, _, none⟩) (v := (.pointer (some ⟨q, 1, none⟩))) rfl (by decide +kernel) (by decide +kernel) (by decide +kernel) (fun _ _ _ h => h) (.inl ⟨rfl, fun X hX => by go_simp⟩) hH ?_
                    try simp only [Act.put, List.setIfInBounds_toArray, List.set_cons_succ, List.set_cons_zero]
                    refine wpAnyH_take (i := 8) (oi := ⟨some 166, .load 3 (.tmp 165), _, _, _, none⟩) (v := (.int .i64 (i : Nat))) rfl (by decide +kernel) (by decide +kernel) (by decide +kernel) (fun _ _ _ h => h) (.inl ⟨rfl, fun X hX => by have e := hX.1; go_simp⟩) hH ?_
                    try simp only [Act.put, List.setIfInBounds_toArray, List.set_cons_succ, List.set_cons_zero]
                    refine wpAnyH_take (i := 9) (oi := ⟨some 167, .move (.tmp 17), _, _, _, none⟩) (v := v) rfl (by decide +kernel) (by decide +kernel) (by decide +kernel) (fun _ _ _ h => h) (.inl ⟨rfl, fun X hX => rfl⟩) hH ?_
                    try simp only [Act.put, List.setIfInBounds_toArray, List.set_cons_succ, List.set_cons_zero]
                    refine wpAnyH_take (i := 10) (oi := ⟨some 168, .move (.tmp 21), _, _, _, none⟩) (v := (.int .i64 (i : Nat))) rfl (by decide +kernel) (by decide +kernel) (by decide +kernel) (fun _ _ _ h => h) (.inl ⟨rfl, fun X hX => rfl⟩) hH ?_
                    try simp only [Act.put, List.setIfInBounds_toArray, List.set_cons_succ, List.set_cons_zero]
                    refine wpAnyH_take (i := 11) (oi := ⟨some 169, .indexAddr 86 (.tmp 167) (.tmp 168), _, _, _, none⟩) (v := (.pointer (some ⟨b, off, none⟩))) rfl (by decide +kernel) (by decide +kernel) (by decide +kernel) (fun _ _ _ h => h) (.inl ⟨rfl, fun X hX => by go_simp⟩) hH ?_
                    try simp only [Act.put, List.setIfInBounds_toArray, List.set_cons_succ, List.set_cons_zero]
                    refine wpAnyH_take (i := 12) (oi := ⟨some 170, .fieldAddr 89 (.tmp 169) 0, _, _, _, none⟩) (v := (.pointer (some ⟨b, off, none⟩))) rfl (by decide +kernel) (by decide +kernel) (by decide +kernel) (fun _ _ _ h => h) (.inl ⟨rfl, fun X hX => by go_simp⟩) hH ?_
                    try simp only [Act.put, List.setIfInBounds_toArray, List.set_cons_succ, List.set_cons_zero]
                    refine wpAnyH_take (i := 13) (oi := ⟨some 171, .load 9 (.tmp 170), _, _, _, none⟩) (v := (.string nm)) rfl (by decide +kernel) (by decide +kernel) (by decide +kernel) (fun _ _ _ h => h) (.inl ⟨rfl, fun X hX => by have e := hX.2; go_simp⟩) hH ?_
                    try simp only [Act.put, List.setIfInBounds_toArray, List.set_cons_succ, List.set_cons_zero]
                    refine wpAnyH_take (i := 14) (oi := ⟨some 172, .build 85 #[(0, .const (.int .i64 1)), (1, .tmp 166), (2, .tmp 171)], _, _, _, none⟩) (v := (.agg #[.int .i64 1, .int .i64 (i : Nat), .string nm, .slice none 0 0])) rfl (by decide +kernel) (by decide +kernel) (by decide +kernel) (fun _ _ _ h => h) (.inl ⟨rfl, fun X hX => by go_simp⟩) hH ?_
                    try simp only [Act.put, List.setIfInBounds_toArray, List.set_cons_succ, List.set_cons_zero]
                    have hqn : q ∉ lv2.ownBlock.toList := by simpa using hD.out.own_ne
                    have hbn : b ∉ lv2.ownBlock.toList := fun hm => by have := (hown.block b (by simpa using hm)).1; omega
                    refine wpAnyH_ready (rs := [4, 15]) (by decide +kernel) (by simp) (AllReadyH.cons (o := ⟨some 162, .load 26 (.tmp 161), _, _, _, none⟩) rfl (fun K hK => ?_) (AllReadyH.cons (o := ⟨some 173, .buildSlice 26 1 #[(0, .tmp 172)], _, _, _, none⟩) rfl (fun K hK => ?_) AllReadyH.nil))
                    · go_simp
                      refine hK.out _ _ ⟨hc1, k0⟩ (fun hH1 => ?_)
                      clear hK K
                      try simp only [Act.put, List.setIfInBounds_toArray, List.set_cons_succ, List.set_cons_zero]
                      refine wpAnyH_ready (rs := [15]) (by decide +kernel) (by simp) (AllReadyH.cons (o := ⟨some 173, .buildSlice 26 1 #[(0, .tmp 172)], _, _, _, none⟩) rfl (fun K hK => ?_) AllReadyH.nil)
                      go_simp
                      have hb1x := below_box1 wr.drew (.cells #[.int .i64 1, .int .i64 (i : Nat), .string nm, .slice none 0 0] 85)
                      refine hK.out _ _ ⟨(hb1x.cell (p := ⟨q, 1, none⟩) hp1).trans hc1, (hb1x.cell (p := ⟨b, off, none⟩) (Nat.lt_trans hbw hp1)).trans k0⟩ (fun hH2 => ?_)
                      clear hK K
                      try simp only [Act.put, List.setIfInBounds_toArray, List.set_cons_succ, List.set_cons_zero]
                      have hownW := OwnRows.drew (OwnRows.alloc (w := wr) hown (.cells #[.int .i64 1, .int .i64 (i : Nat), .string nm, .slice none 0 0] 85))
                      have hboxW := RowsAt.drew (st_box wr 85 1 i (plain 1 i nm) rfl rfl)
                      obtain ⟨W1, hW1⟩ : ∃ W1, (wr.alloc (.cells #[.int .i64 1, .int .i64 (i : Nat), .string nm, .slice none 0 0] 85)).drew = W1 := ⟨_, rfl⟩
                      have hboxW : RowsAt 4 (wr.alloc (.cells #[.int .i64 1, .int .i64 (i : Nat), .string nm, .slice none 0 0] 85)).drew _ _ := hboxW
                      rw [hW1] at hownW hboxW ⊢
                      have hbel1 : Below wr.heap.size wr W1 := by rw [← hW1]; exact Below.drew (below_box1 wr _)
                      refine wpAnyH_ready (rs := [16]) (by decide +kernel) (by simp) (AllReadyH.cons (o := ⟨some 174, .call { callee := .builtin .append, args := #[.tmp 162, .tmp 173], argTypes := #[26, 26] }, _, _, _, none⟩) rfl (fun K hK => ?_) AllReadyH.nil)
                      refine step_append_rows (v := lv2) elemS (by rfl) (.tmp 162) (.tmp 173) (by rfl) q (by rfl) hownW (by rfl) hboxW (by simp) (st_one rfl) (by simp at hlen2; simp; omega) (by have := hbel1.size; omega) ?_
                      intro A2 m2 c2 w2 hown2 ht2 hw2
                      obtain ⟨hr1, hr2⟩ := hD.out.ready hbel1 ht2
                      have s1 : w2.cell? ⟨q, 1, none⟩ = some (.int .i64 (i : Nat)) := (ht2.cell (a := ⟨q, 1, none⟩) (Nat.lt_of_lt_of_le hp1 hbel1.size) hqn).trans ((hbel1.cell (p := ⟨q, 1, none⟩) hp1).trans hc1)
                      have s2 : w2.cell? ⟨b, off, none⟩ = some (.string nm) := (ht2.cell (a := ⟨b, off, none⟩) (Nat.lt_of_lt_of_le (Nat.lt_trans hbw hp1) hbel1.size) hbn).trans ((hbel1.cell (p := ⟨b, off, none⟩) (Nat.lt_trans hbw hp1)).trans k0)
                      refine hK.out _ _ ⟨s1, s2⟩ (fun hH2 => ?_)
                      clear hK K
                      try simp only [Act.put, List.setIfInBounds_toArray, List.set_cons_succ, List.set_cons_zero]
                      refine wpAnyH_take (i := 17) (oi := ⟨some 175, .nilCheck (.tmp 158), _, _, _, none⟩) (v := (.pointer (some ⟨q, 0, none⟩))) rfl (by decide +kernel) (by decide +kernel) (by decide +kernel) (fun _ _ _ h => h) (.inl ⟨rfl, fun X hX => by go_simp⟩) hH2 ?_
                      try simp only [Act.put, List.setIfInBounds_toArray, List.set_cons_succ, List.set_cons_zero]
                      refine wpAnyH_take (i := 18) (oi := ⟨some 176, .fieldAddr 28 (.tmp 175) 0, _, _, _, none⟩) (v := (.pointer (some ⟨q, 0, none⟩))) rfl (by decide +kernel) (by decide +kernel) (by decide +kernel) (fun _ _ _ h => h) (.inl ⟨rfl, fun X hX => by go_simp⟩) hH2 ?_
                      try simp only [Act.put, List.setIfInBounds_toArray, List.set_cons_succ, List.set_cons_zero]
                      refine wpAnyH_ready (rs := [19]) (by decide +kernel) (by simp) (AllReadyH.cons (o := ⟨none, .store 26 (.tmp 176) (.tmp 174), _, _, _, none⟩) rfl (fun K hK => ?_) AllReadyH.nil)
                      go_simp
                      refine hK.out _ _ ⟨?_, ?_⟩ (fun hH3 => ?_)
                      · go_simp
                      · exact (World.cell?_setCell_far _ _ _ _ (by show q ≠ b; omega)).trans s2
                      clear hK K
                      try simp only [Act.put, List.setIfInBounds_toArray, List.set_cons_succ, List.set_cons_zero]
                      refine wpAnyH_done (by decide +kernel) ?_ _
                      go_wp2_with fail
                      go_meet
                      obtain ⟨B3, g1, g2⟩ := hD.out.more (s := plain 1 i nm) hbel1 (nil_bytes _) (by simp [Value.ownBlock]) ⟨by simp, by simp⟩ hown2 ht2 hw2
                      exact ⟨_, B3, Lib.hid g1, hbq.trans g2⟩
                    · go_simp
                      have hb1x := below_box1 wr.drew (.cells #[.int .i64 1, .int .i64 (i : Nat), .string nm, .slice none 0 0] 85)
                      refine hK.out _ _ ⟨(hb1x.cell (p := ⟨q, 1, none⟩) hp1).trans hc1, (hb1x.cell (p := ⟨b, off, none⟩) (Nat.lt_trans hbw hp1)).trans k0⟩ (fun hH1 => ?_)
                      clear hK K
                      try simp only [Act.put, List.setIfInBounds_toArray, List.set_cons_succ, List.set_cons_zero]
                      have hownW := OwnRows.drew (OwnRows.alloc (w := wr) hown (.cells #[.int .i64 1, .int .i64 (i : Nat), .string nm, .slice none 0 0] 85))
                      have hboxW := RowsAt.drew (st_box wr 85 1 i (plain 1 i nm) rfl rfl)
                      obtain ⟨W1, hW1⟩ : ∃ W1, (wr.alloc (.cells #[.int .i64 1, .int .i64 (i : Nat), .string nm, .slice none 0 0] 85)).drew = W1 := ⟨_, rfl⟩
                      have hboxW : RowsAt 4 (wr.alloc (.cells #[.int .i64 1, .int .i64 (i : Nat), .string nm, .slice none 0 0] 85)).drew _ _ := hboxW
                      rw [hW1] at hownW hboxW ⊢
                      have hcW : W1.cell? ⟨q, 0, none⟩ = some lv2 := by rw [← hW1]; exact (hb1x.cell (p := ⟨q, 0, none⟩) hp1).trans hc0
                      have hcW1 : W1.cell? ⟨q, 1, none⟩ = some (.int .i64 (i : Nat)) := by rw [← hW1]; exact (hb1x.cell (p := ⟨q, 1, none⟩) hp1).trans hc1
                      have hcW2 : W1.cell? ⟨b, off, none⟩ = some (.string nm) := by rw [← hW1]; exact (hb1x.cell (p := ⟨b, off, none⟩) (Nat.lt_trans hbw hp1)).trans k0
                      clear hb1x
                      refine wpAnyH_ready (rs := [4]) (by decide +kernel) (by simp) (AllReadyH.cons (o := ⟨some 162, .load 26 (.tmp 161), _, _, _, none⟩) rfl (fun K hK => ?_) AllReadyH.nil)
                      go_simp
                      refine hK.out _ _ ⟨hcW1, hcW2⟩ (fun hH2 => ?_)
                      clear hK K
                      try simp only [Act.put, List.setIfInBounds_toArray, List.set_cons_succ, List.set_cons_zero]
                      have hbel1 : Below wr.heap.size wr W1 := by rw [← hW1]; exact Below.drew (below_box1 wr _)
                      refine wpAnyH_ready (rs := [16]) (by decide +kernel) (by simp) (AllReadyH.cons (o := ⟨some 174, .call { callee := .builtin .append, args := #[.tmp 162, .tmp 173], argTypes := #[26, 26] }, _, _, _, none⟩) rfl (fun K hK => ?_) AllReadyH.nil)
                      refine step_append_rows (v := lv2) elemS (by rfl) (.tmp 162) (.tmp 173) (by rfl) q (by rfl) hownW (by rfl) hboxW (by simp) (st_one rfl) (by simp at hlen2; simp; omega) (by have := hbel1.size; omega) ?_
                      intro A2 m2 c2 w2 hown2 ht2 hw2
                      obtain ⟨hr1, hr2⟩ := hD.out.ready hbel1 ht2
                      have s1 : w2.cell? ⟨q, 1, none⟩ = some (.int .i64 (i : Nat)) := (ht2.cell (a := ⟨q, 1, none⟩) (Nat.lt_of_lt_of_le hp1 hbel1.size) hqn).trans ((hbel1.cell (p := ⟨q, 1, none⟩) hp1).trans hc1)
                      have s2 : w2.cell? ⟨b, off, none⟩ = some (.string nm) := (ht2.cell (a := ⟨b, off, none⟩) (Nat.lt_of_lt_of_le (Nat.lt_trans hbw hp1) hbel1.size) hbn).trans ((hbel1.cell (p := ⟨b, off, none⟩) (Nat.lt_trans hbw hp1)).trans k0)
                      refine hK.out _ _ ⟨s1, s2⟩ (fun hH2 => ?_)
                      clear hK K
                      try simp only [Act.put, List.setIfInBounds_toArray, List.set_cons_succ, List.set_cons_zero]
                      refine wpAnyH_take (i := 17) (oi := ⟨some 175, .nilCheck (.tmp 158), _, _, _, none⟩) (v := (.pointer (some ⟨q, 0, none⟩))) rfl (by decide +kernel) (by decide +kernel) (by decide +kernel) (fun _ _ _ h => h) (.inl ⟨rfl, fun X hX => by go_simp⟩) hH2 ?_
                      try simp only [Act.put, List.setIfInBounds_toArray, List.set_cons_succ, List.set_cons_zero]
                      refine wpAnyH_take (i := 18) (oi := ⟨some 176, .fieldAddr 28 (.tmp 175) 0, _, _, _, none⟩) (v := (.pointer (some ⟨q, 0, none⟩))) rfl (by decide +kernel) (by decide +kernel) (by decide +kernel) (fun _ _ _ h => h) (.inl ⟨rfl, fun X hX => by go_simp⟩) hH2 ?_
                      try simp only [Act.put, List.setIfInBounds_toArray, List.set_cons_succ, List.set_cons_zero]
                      refine wpAnyH_ready (rs := [19]) (by decide +kernel) (by simp) (AllReadyH.cons (o := ⟨none, .store 26 (.tmp 176) (.tmp 174), _, _, _, none⟩) rfl (fun K hK => ?_) AllReadyH.nil)
                      go_simp
                      refine hK.out _ _ ⟨?_, ?_⟩ (fun hH3 => ?_)
                      · go_simp
                      · exact (World.cell?_setCell_far _ _ _ _ (by show q ≠ b; omega)).trans s2
                      clear hK K
                      try simp only [Act.put, List.setIfInBounds_toArray, List.set_cons_succ, List.set_cons_zero]
                      refine wpAnyH_done (by decide +kernel) ?_ _
                      go_wp2_with fail
                      go_meet
                      obtain ⟨B3, g1, g2⟩ := hD.out.more (s := plain 1 i nm) hbel1 (nil_bytes _) (by simp [Value.ownBlock]) ⟨by simp, by simp⟩ hown2 ht2 hw2
                      exact ⟨_, B3, Lib.hid g1, hbq.trans g2⟩
                  case rest => as_aux_lemma =>
                    obtain ⟨lv3, B3, hD3, hbq3⟩ := hcut
                    have hlen3 : ((L2 ++ [plain 1 i nm]).map stCells).length ≤ 60000 := by rw [List.length_map, List.length_append]; rw [List.length_map] at hlen2; simp; omega
                    clear hc0 hc1 hown hp1 hnw k0 hbq hD
                    have hc0 := hD3.out.c0
                    have hc1 := hD3.out.c1
                    have hown := hD3.out.own
                    have hp1 : q < wc.heap.size := hD3.out.plt
                    have hnw := hD3.out.nle
                    have k1 : wc.cell? ⟨b, off + 1, none⟩ = some (.int .i64 (f : Nat)) := (hbq3.cell (p := ⟨b, off + 1, none⟩) hbw).trans k1w
                    have hbc : Below w.heap.size w wc.drew := Below.drew (hbel.trans (hbq3.mono hwq))
                    have cL2 := hide ((cL.out _ hbc).mono (R' := fun e w5 => ∃ A m c, e = .returned (.slice A m c) ∧ BytesAt w5 (.slice A m c) (leftS l f keep torn) ∧ Below wc.drew.heap.size wc.drew w5 ∧ (∀ b, (Value.slice A m c).ownBlock = some b → wc.drew.heap.size ≤ b ∧ b < w5.heap.size)) (fun e w5 ⟨v, h1, h2, h3, h4⟩ => by obtain ⟨A, c, rfl, _⟩ := h2.row; exact ⟨A, _, c, h1, h2, h3, h4⟩))
                    clear hlen2
                    go_upto_region 29 with fail
                    go_cut [] from 152 to 220 (fun wx => ∃ bv lv4 B4, Hid (DiskR q wx q lv4 (L2 ++ [plain 1 i nm] ++ [appendStep i bv (leftS l f keep torn)]) i 0 B4) ∧ Below q w4 wx)
                    case first => as_aux_lemma =>
                      refine wp_region_held_drew (S := fun X => X.cell? ⟨q, 1, none⟩ = some (.int .i64 (i : Nat)) ∧ X.cell? ⟨b, off + 1, none⟩ = some (.int .i64 (f : Nat))) (by kernel_rfl) ⟨hc1, k1⟩ (fun hH => ?_)
                      refine wpAnyH_take (i := 0) (oi := ⟨some 177, .move (.tmp 20), _, _, _, none⟩) (v := (.pointer (some ⟨q, 0, none⟩))) rfl (by decide +kernel) (by decide +kernel) (by decide +kernel) (fun _ _ _ h => h) (.inl ⟨rfl, fun X hX => rfl⟩) hH ?_
                      try simp only [Act.put, List.setIfInBounds_toArray, List.set_cons_succ, List.set_cons_zero]
                      refine wpAnyH_take (i := 1) (oi := ⟨some 178, .move (.tmp 20), _, _, _, none⟩) (v := (.pointer (some ⟨q, 0, none⟩))) rfl (by decide +kernel) (by decide +kernel) (by decide +kernel) (fun _ _ _ h => h) (.inl ⟨rfl, fun X hX => rfl⟩) hH ?_
                      try simp only [Act.put, List.setIfInBounds_toArray, List.set_cons_succ, List.set_cons_zero]
                      refine wpAnyH_take (i := 2) (oi := ⟨some 179, .nilCheck (.tmp 178), _, _, _, none⟩) (v := (.pointer (some ⟨q, 0, none⟩))) rfl (by decide +kernel) (by decide +kernel) (by decide +kernel) (fun _ _ _ h => h) (.inl ⟨rfl, fun X hX => by go_simp⟩) hH ?_
                      try simp only [Act.put, List.setIfInBounds_toArray, List.set_cons_succ, List.set_cons_zero]
                      refine wpAnyH_take (i := 3) (oi := ⟨some 180, .fieldAddr 28 (.tmp 179) 0, _, _, _, none⟩) (v := (.pointer (some ⟨q, 0, none⟩))) rfl (by decide +kernel) (by decide +kernel) (by decide +kernel) (fun _ _ _ h => h) (.inl ⟨rfl, fun X hX => by go_simp⟩) hH ?_
                      try simp only [Act.put, List.setIfInBounds_toArray, List.set_cons_succ, List.set_cons_zero]
                      refine wpAnyH_take (i := 5) (oi := ⟨some 182, .move (.tmp 20), _, _, _, none⟩) (v := (.pointer (some ⟨q, 0, none⟩))) rfl (by decide +kernel) (by decide +kernel) (by decide +kernel) (fun _ _ _ h => h) (.inl ⟨rfl, fun X hX => rfl⟩) hH ?_
                      try simp only [Act.put, List.setIfInBounds_toArray, List.set_cons_succ, List.set_cons_zero]
                      refine wpAnyH_take (i := 6) (oi := ⟨some 183, .nilCheck (.tmp 182), _, _, _, none⟩) (v := (.pointer (some ⟨q, 0, none⟩))) rfl (by decide +kernel) (by decide +kernel) (by decide +kernel) (fun _ _ _ h => h) (.inl ⟨rfl, fun X hX => by go_simp⟩) hH ?_
                      try simp only [Act.put, List.setIfInBounds_toArray, List.set_cons_succ, List.set_cons_zero]
                      refine wpAnyH_take (i := 7) (oi := ⟨some 184, .fieldAddr 28 (.tmp 183) 1, _, _, _, none⟩) (v := (.pointer (some ⟨q, 1, none⟩))) rfl (by decide +kernel) (by decide +kernel) (by decide +kernel) (fun _ _ _ h => h) (.inl ⟨rfl, fun X hX => by go_simp⟩) hH ?_
                      try simp only [Act.put, List.setIfInBounds_toArray, List.set_cons_succ, List.set_cons_zero]
                      refine wpAnyH_take (i := 8) (oi := ⟨some 185, .load 3 (.tmp 184), _, _, _, none⟩) (v := (.int .i64 (i : Nat))) rfl (by decide +kernel) (by decide +kernel) (by decide +kernel) (fun _ _ _ h => h) (.inl ⟨rfl, fun X hX => by have e := hX.1; go_simp⟩) hH ?_
                      try simp only [Act.put, List.setIfInBounds_toArray, List.set_cons_succ, List.set_cons_zero]
                      refine wpAnyH_take (i := 9) (oi := ⟨some 186, .move (.tmp 11), _, _, _, none⟩) (v := v1) rfl (by decide +kernel) (by decide +kernel) (by decide +kernel) (fun _ _ _ h => h) (.inl ⟨rfl, fun X hX => rfl⟩) hH ?_
                      try simp only [Act.put, List.setIfInBounds_toArray, List.set_cons_succ, List.set_cons_zero]
                      refine wpAnyH_take (i := 10) (oi := ⟨some 187, .move (.tmp 17), _, _, _, none⟩) (v := v) rfl (by decide +kernel) (by decide +kernel) (by decide +kernel) (fun _ _ _ h => h) (.inl ⟨rfl, fun X hX => rfl⟩) hH ?_
                      try simp only [Act.put, List.setIfInBounds_toArray, List.set_cons_succ, List.set_cons_zero]
                      refine wpAnyH_take (i := 11) (oi := ⟨some 188, .move (.tmp 21), _, _, _, none⟩) (v := (.int .i64 (i : Nat))) rfl (by decide +kernel) (by decide +kernel) (by decide +kernel) (fun _ _ _ h => h) (.inl ⟨rfl, fun X hX => rfl⟩) hH ?_
                      try simp only [Act.put, List.setIfInBounds_toArray, List.set_cons_succ, List.set_cons_zero]
                      refine wpAnyH_take (i := 12) (oi := ⟨some 189, .indexAddr 86 (.tmp 187) (.tmp 188), _, _, _, none⟩) (v := (.pointer (some ⟨b, off, none⟩))) rfl (by decide +kernel) (by decide +kernel) (by decide +kernel) (fun _ _ _ h => h) (.inl ⟨rfl, fun X hX => by go_simp⟩) hH ?_
                      try simp only [Act.put, List.setIfInBounds_toArray, List.set_cons_succ, List.set_cons_zero]
                      refine wpAnyH_take (i := 13) (oi := ⟨some 190, .fieldAddr 89 (.tmp 189) 1, _, _, _, none⟩) (v := (.pointer (some ⟨b, off + 1, none⟩))) rfl (by decide +kernel) (by decide +kernel) (by decide +kernel) (fun _ _ _ h => h) (.inl ⟨rfl, fun X hX => by go_simp⟩) hH ?_
                      try simp only [Act.put, List.setIfInBounds_toArray, List.set_cons_succ, List.set_cons_zero]
                      refine wpAnyH_take (i := 14) (oi := ⟨some 191, .load 3 (.tmp 190), _, _, _, none⟩) (v := (.int .i64 (f : Nat))) rfl (by decide +kernel) (by decide +kernel) (by decide +kernel) (fun _ _ _ h => h) (.inl ⟨rfl, fun X hX => by have e := hX.2; go_simp⟩) hH ?_
                      try simp only [Act.put, List.setIfInBounds_toArray, List.set_cons_succ, List.set_cons_zero]
                      refine wpAnyH_take (i := 15) (oi := ⟨some 192, .move (.tmp 3), _, _, _, none⟩) (v := kv) rfl (by decide +kernel) (by decide +kernel) (by decide +kernel) (fun _ _ _ h => h) (.inl ⟨rfl, fun X hX => rfl⟩) hH ?_
                      try simp only [Act.put, List.setIfInBounds_toArray, List.set_cons_succ, List.set_cons_zero]
                      refine wpAnyH_take (i := 16) (oi := ⟨some 193, .move (.tmp 4), _, _, _, none⟩) (v := (.int .i64 torn)) rfl (by decide +kernel) (by decide +kernel) (by decide +kernel) (fun _ _ _ h => h) (.inl ⟨rfl, fun X hX => rfl⟩) hH ?_
                      try simp only [Act.put, List.setIfInBounds_toArray, List.set_cons_succ, List.set_cons_zero]
                      have hqn : q ∉ lv3.ownBlock.toList := by simpa using hD3.out.own_ne
                      have hbn : b ∉ lv3.ownBlock.toList := fun hm => by have := (hown.block b (by simpa using hm)).1; omega
                      have hbwc : b < wc.heap.size := Nat.lt_trans hbw hp1
                      refine wpAnyH_ready (rs := [4, 17]) (by decide +kernel) (by simp) (AllReadyH.cons (o := ⟨some 181, .load 26 (.tmp 180), _, _, _, none⟩) rfl (fun K hK => ?_) (AllReadyH.cons (o := ⟨some 194, .call { callee := .value (.func 34), args := #[.tmp 186, .tmp 191, .tmp 192, .tmp 193], argTypes := #[26, 3, 31, 3] }, _, _, _, none⟩) rfl (fun K hK => ?_) AllReadyH.nil))
                      · go_simp
                        refine hK.out _ _ ⟨hc1, k1⟩ (fun hH1 => ?_)
                        clear hK K
                        try simp only [Act.put, List.setIfInBounds_toArray, List.set_cons_succ, List.set_cons_zero]
                        refine wpAnyH_ready (rs := [17]) (by decide +kernel) (by simp) (AllReadyH.cons (o := ⟨some 194, .call { callee := .value (.func 34), args := #[.tmp 186, .tmp 191, .tmp 192, .tmp 193], argTypes := #[26, 3, 31, 3] }, _, _, _, none⟩) rfl (fun K hK => ?_) AllReadyH.nil)
                        go_simp
                        go_at_call 34
                        refine cL2.out.mono ?_
                        rintro e' w5 ⟨A5, m5, c5, rfl, hbt5, hb5, hfr5⟩
                        have hb5' : Below wc.heap.size wc w5 := (Below.drew (Below.refl _ wc)).trans hb5
                        have u0 : w5.cell? ⟨q, 0, none⟩ = some lv3 := (hb5'.cell (p := ⟨q, 0, none⟩) hp1).trans hc0
                        have u1 : w5.cell? ⟨q, 1, none⟩ = some (.int .i64 (i : Nat)) := (hb5'.cell (p := ⟨q, 1, none⟩) hp1).trans hc1
                        have u2 : w5.cell? ⟨b, off + 1, none⟩ = some (.int .i64 (f : Nat)) := (hb5'.cell (p := ⟨b, off + 1, none⟩) hbwc).trans k1
                        refine hK.out _ _ ⟨u1, u2⟩ (fun hH5 => ?_)
                        clear hK K
                        try simp only [Act.put, List.setIfInBounds_toArray, List.set_cons_succ, List.set_cons_zero]
                        refine wpAnyH_take (i := 18) (oi := ⟨some 195, .build 85 #[(0, .const (.int .i64 2)), (1, .tmp 185), (3, .tmp 194)], _, _, _, none⟩) (v := (.agg #[.int .i64 2, .int .i64 (i : Nat), .string ByteArray.empty, .slice A5 m5 c5])) rfl (by decide +kernel) (by decide +kernel) (by decide +kernel) (fun _ _ _ h => h) (.inl ⟨rfl, fun X hX => by go_simp <;> rfl⟩) ⟨u1, u2⟩ ?_
                        try simp only [Act.put, List.setIfInBounds_toArray, List.set_cons_succ, List.set_cons_zero]
                        refine wpAnyH_ready (rs := [19]) (by decide +kernel) (by simp) (AllReadyH.cons (o := ⟨some 196, .buildSlice 26 1 #[(0, .tmp 195)], _, _, _, none⟩) rfl (fun K hK => ?_) AllReadyH.nil)
                        go_simp
                        have hb1x := below_box1 w5 (.cells #[.int .i64 2, .int .i64 (i : Nat), .string ByteArray.empty, .slice A5 m5 c5] 85)
                        have hq5 : q < w5.heap.size := Nat.lt_of_lt_of_le hp1 hb5'.size
                        have hb55 : b < w5.heap.size := Nat.lt_of_lt_of_le hbwc hb5'.size
                        refine hK.out _ _ ⟨(hb1x.cell (p := ⟨q, 1, none⟩) hq5).trans u1, (hb1x.cell (p := ⟨b, off + 1, none⟩) hb55).trans u2⟩ (fun hH7 => ?_)
                        clear hK K
                        try simp only [Act.put, List.setIfInBounds_toArray, List.set_cons_succ, List.set_cons_zero]
                        have hownW := OwnRows.alloc (w := w5) (OwnRows.below hown hb5') (.cells #[.int .i64 2, .int .i64 (i : Nat), .string ByteArray.empty, .slice A5 m5 c5] 85)
                        have hboxW := st_box w5 85 2 i (appendStep i (.slice A5 m5 c5) (leftS l f keep torn)) rfl rfl
                        have hbtW := BytesAt.below hbt5 (below_box1 w5 (.cells #[.int .i64 2, .int .i64 (i : Nat), .string ByteArray.empty, .slice A5 m5 c5] 85))
                        have hszW : w5.heap.size < (w5.alloc (.cells #[.int .i64 2, .int .i64 (i : Nat), .string ByteArray.empty, .slice A5 m5 c5] 85)).heap.size := by simp
                        obtain ⟨W1, hW1⟩ : ∃ W1, w5.alloc (.cells #[.int .i64 2, .int .i64 (i : Nat), .string ByteArray.empty, .slice A5 m5 c5] 85) = W1 := ⟨_, rfl⟩
                        have hboxW : RowsAt 4 (w5.alloc (.cells #[.int .i64 2, .int .i64 (i : Nat), .string ByteArray.empty, .slice A5 m5 c5] 85)) _ _ := hboxW
                        have v0 : W1.cell? ⟨q, 0, none⟩ = some lv3 := by rw [← hW1]; exact (hb1x.cell (p := ⟨q, 0, none⟩) hq5).trans u0
                        have v1' : W1.cell? ⟨q, 1, none⟩ = some (.int .i64 (i : Nat)) := by rw [← hW1]; exact (hb1x.cell (p := ⟨q, 1, none⟩) hq5).trans u1
                        have v2' : W1.cell? ⟨b, off + 1, none⟩ = some (.int .i64 (f : Nat)) := by rw [← hW1]; exact (hb1x.cell (p := ⟨b, off + 1, none⟩) hb55).trans u2
                        have hbel1 : Below wc.heap.size wc W1 := by rw [← hW1]; exact hb5'.trans (hb1x.mono hb5'.size)
                        rw [hW1] at hownW hboxW hbtW hszW ⊢
                        clear hb1x
                        refine wpAnyH_ready (rs := [20]) (by decide +kernel) (by simp) (AllReadyH.cons (o := ⟨some 197, .call { callee := .builtin .append, args := #[.tmp 181, .tmp 196], argTypes := #[26, 26] }, _, _, _, none⟩) rfl (fun K hK => ?_) AllReadyH.nil)
                        refine step_append_rows (v := lv3) elemS (by rfl) (.tmp 181) (.tmp 196) (by rfl) q (by rfl) hownW (by rfl) hboxW (by simp) (st_one rfl) (by simp at hlen3; simp; omega) (by have := hbel1.size; omega) ?_
                        intro A2 m2 c2 w2 hown2 ht2 hw2
                        obtain ⟨hr1, hr2⟩ := hD3.out.ready hbel1 ht2
                        have s1 : w2.cell? ⟨q, 1, none⟩ = some (.int .i64 (i : Nat)) := (ht2.cell (a := ⟨q, 1, none⟩) (Nat.lt_of_lt_of_le hp1 hbel1.size) hqn).trans v1'
                        have s2 : w2.cell? ⟨b, off + 1, none⟩ = some (.int .i64 (f : Nat)) := (ht2.cell (a := ⟨b, off + 1, none⟩) (Nat.lt_of_lt_of_le hbwc hbel1.size) hbn).trans v2'
                        refine hK.out _ _ ⟨s1, s2⟩ (fun hH8 => ?_)
                        clear hK K
                        try simp only [Act.put, List.setIfInBounds_toArray, List.set_cons_succ, List.set_cons_zero]
                        refine wpAnyH_take (i := 21) (oi := ⟨some 198, .nilCheck (.tmp 177), _, _, _, none⟩) (v := (.pointer (some ⟨q, 0, none⟩))) rfl (by decide +kernel) (by decide +kernel) (by decide +kernel) (fun _ _ _ h => h) (.inl ⟨rfl, fun X hX => by go_simp⟩) hH8 ?_
                        try simp only [Act.put, List.setIfInBounds_toArray, List.set_cons_succ, List.set_cons_zero]
                        refine wpAnyH_take (i := 22) (oi := ⟨some 199, .fieldAddr 28 (.tmp 198) 0, _, _, _, none⟩) (v := (.pointer (some ⟨q, 0, none⟩))) rfl (by decide +kernel) (by decide +kernel) (by decide +kernel) (fun _ _ _ h => h) (.inl ⟨rfl, fun X hX => by go_simp⟩) hH8 ?_
                        try simp only [Act.put, List.setIfInBounds_toArray, List.set_cons_succ, List.set_cons_zero]
                        refine wpAnyH_ready (rs := [23]) (by decide +kernel) (by simp) (AllReadyH.cons (o := ⟨none, .store 26 (.tmp 199) (.tmp 197), _, _, _, none⟩) rfl (fun K hK => ?_) AllReadyH.nil)
                        go_simp
                        refine hK.out _ _ ⟨?_, ?_⟩ (fun hH9 => ?_)
                        · go_simp
                        · exact (World.cell?_setCell_far _ _ _ _ (by show q ≠ b; omega)).trans s2
                        clear hK K
                        try simp only [Act.put, List.setIfInBounds_toArray, List.set_cons_succ, List.set_cons_zero]
                        refine wpAnyH_done (by decide +kernel) ?_ _
                        go_wp2_with fail
                        go_meet
                        obtain ⟨B4, g1, g2⟩ := hD3.out.more (s := (appendStep i (.slice A5 m5 c5) (leftS l f keep torn))) hbel1 hbtW (fun x hx => ⟨(hfr5 x hx).1, Nat.lt_trans (hfr5 x hx).2 hszW⟩) ⟨by simp [appendStep], by simp [appendStep]⟩ hown2 ht2 hw2
                        exact ⟨_, _, B4, Lib.hid g1, hbq3.trans g2⟩
                      · go_simp
                        go_at_call 34
                        refine cL2.out.mono ?_
                        rintro e' w5 ⟨A5, m5, c5, rfl, hbt5, hb5, hfr5⟩
                        have hb5' : Below wc.heap.size wc w5 := (Below.drew (Below.refl _ wc)).trans hb5
                        have u0 : w5.cell? ⟨q, 0, none⟩ = some lv3 := (hb5'.cell (p := ⟨q, 0, none⟩) hp1).trans hc0
                        have u1 : w5.cell? ⟨q, 1, none⟩ = some (.int .i64 (i : Nat)) := (hb5'.cell (p := ⟨q, 1, none⟩) hp1).trans hc1
                        have u2 : w5.cell? ⟨b, off + 1, none⟩ = some (.int .i64 (f : Nat)) := (hb5'.cell (p := ⟨b, off + 1, none⟩) hbwc).trans k1
                        refine hK.out _ _ ⟨u1, u2⟩ (fun hH5 => ?_)
                        clear hK K
                        try simp only [Act.put, List.setIfInBounds_toArray, List.set_cons_succ, List.set_cons_zero]
                        refine wpAnyH_take (i := 18) (oi := ⟨some 195, .build 85 #[(0, .const (.int .i64 2)), (1, .tmp 185), (3, .tmp 194)], _, _, _, none⟩) (v := (.agg #[.int .i64 2, .int .i64 (i : Nat), .string ByteArray.empty, .slice A5 m5 c5])) rfl (by decide +kernel) (by decide +kernel) (by decide +kernel) (fun _ _ _ h => h) (.inl ⟨rfl, fun X hX => by go_simp <;> rfl⟩) ⟨u1, u2⟩ ?_
                        try simp only [Act.put, List.setIfInBounds_toArray, List.set_cons_succ, List.set_cons_zero]
                        refine wpAnyH_ready (rs := [4, 19]) (by decide +kernel) (by simp) (AllReadyH.cons (o := ⟨some 181, .load 26 (.tmp 180), _, _, _, none⟩) rfl (fun K hK => ?_) (AllReadyH.cons (o := ⟨some 196, .buildSlice 26 1 #[(0, .tmp 195)], _, _, _, none⟩) rfl (fun K hK => ?_) AllReadyH.nil))
                        · go_simp
                          refine hK.out _ _ ⟨u1, u2⟩ (fun hH6 => ?_)
                          clear hK K
                          try simp only [Act.put, List.setIfInBounds_toArray, List.set_cons_succ, List.set_cons_zero]
                          refine wpAnyH_ready (rs := [19]) (by decide +kernel) (by simp) (AllReadyH.cons (o := ⟨some 196, .buildSlice 26 1 #[(0, .tmp 195)], _, _, _, none⟩) rfl (fun K hK => ?_) AllReadyH.nil)
                          go_simp
                          have hb1x := below_box1 w5 (.cells #[.int .i64 2, .int .i64 (i : Nat), .string ByteArray.empty, .slice A5 m5 c5] 85)
                          have hq5 : q < w5.heap.size := Nat.lt_of_lt_of_le hp1 hb5'.size
                          have hb55 : b < w5.heap.size := Nat.lt_of_lt_of_le hbwc hb5'.size
                          refine hK.out _ _ ⟨(hb1x.cell (p := ⟨q, 1, none⟩) hq5).trans u1, (hb1x.cell (p := ⟨b, off + 1, none⟩) hb55).trans u2⟩ (fun hH7 => ?_)
                          clear hK K
                          try simp only [Act.put, List.setIfInBounds_toArray, List.set_cons_succ, List.set_cons_zero]
                          have hownW := OwnRows.alloc (w := w5) (OwnRows.below hown hb5') (.cells #[.int .i64 2, .int .i64 (i : Nat), .string ByteArray.empty, .slice A5 m5 c5] 85)
                          have hboxW := st_box w5 85 2 i (appendStep i (.slice A5 m5 c5) (leftS l f keep torn)) rfl rfl
                          have hbtW := BytesAt.below hbt5 (below_box1 w5 (.cells #[.int .i64 2, .int .i64 (i : Nat), .string ByteArray.empty, .slice A5 m5 c5] 85))
                          have hszW : w5.heap.size < (w5.alloc (.cells #[.int .i64 2, .int .i64 (i : Nat), .string ByteArray.empty, .slice A5 m5 c5] 85)).heap.size := by simp
                          obtain ⟨W1, hW1⟩ : ∃ W1, w5.alloc (.cells #[.int .i64 2, .int .i64 (i : Nat), .string ByteArray.empty, .slice A5 m5 c5] 85) = W1 := ⟨_, rfl⟩
                          have hboxW : RowsAt 4 (w5.alloc (.cells #[.int .i64 2, .int .i64 (i : Nat), .string ByteArray.empty, .slice A5 m5 c5] 85)) _ _ := hboxW
                          have v0 : W1.cell? ⟨q, 0, none⟩ = some lv3 := by rw [← hW1]; exact (hb1x.cell (p := ⟨q, 0, none⟩) hq5).trans u0
                          have v1' : W1.cell? ⟨q, 1, none⟩ = some (.int .i64 (i : Nat)) := by rw [← hW1]; exact (hb1x.cell (p := ⟨q, 1, none⟩) hq5).trans u1
                          have v2' : W1.cell? ⟨b, off + 1, none⟩ = some (.int .i64 (f : Nat)) := by rw [← hW1]; exact (hb1x.cell (p := ⟨b, off + 1, none⟩) hb55).trans u2
                          have hbel1 : Below wc.heap.size wc W1 := by rw [← hW1]; exact hb5'.trans (hb1x.mono hb5'.size)
                          rw [hW1] at hownW hboxW hbtW hszW ⊢
                          clear hb1x
                          refine wpAnyH_ready (rs := [20]) (by decide +kernel) (by simp) (AllReadyH.cons (o := ⟨some 197, .call { callee := .builtin .append, args := #[.tmp 181, .tmp 196], argTypes := #[26, 26] }, _, _, _, none⟩) rfl (fun K hK => ?_) AllReadyH.nil)
                          refine step_append_rows (v := lv3) elemS (by rfl) (.tmp 181) (.tmp 196) (by rfl) q (by rfl) hownW (by rfl) hboxW (by simp) (st_one rfl) (by simp at hlen3; simp; omega) (by have := hbel1.size; omega) ?_
                          intro A2 m2 c2 w2 hown2 ht2 hw2
                          obtain ⟨hr1, hr2⟩ := hD3.out.ready hbel1 ht2
                          have s1 : w2.cell? ⟨q, 1, none⟩ = some (.int .i64 (i : Nat)) := (ht2.cell (a := ⟨q, 1, none⟩) (Nat.lt_of_lt_of_le hp1 hbel1.size) hqn).trans v1'
                          have s2 : w2.cell? ⟨b, off + 1, none⟩ = some (.int .i64 (f : Nat)) := (ht2.cell (a := ⟨b, off + 1, none⟩) (Nat.lt_of_lt_of_le hbwc hbel1.size) hbn).trans v2'
                          refine hK.out _ _ ⟨s1, s2⟩ (fun hH8 => ?_)
                          clear hK K
                          try simp only [Act.put, List.setIfInBounds_toArray, List.set_cons_succ, List.set_cons_zero]
                          refine wpAnyH_take (i := 21) (oi := ⟨some 198, .nilCheck (.tmp 177), _, _, _, none⟩) (v := (.pointer (some ⟨q, 0, none⟩))) rfl (by decide +kernel) (by decide +kernel) (by decide +kernel) (fun _ _ _ h => h) (.inl ⟨rfl, fun X hX => by go_simp⟩) hH8 ?_
                          try simp only [Act.put, List.setIfInBounds_toArray, List.set_cons_succ, List.set_cons_zero]
                          refine wpAnyH_take (i := 22) (oi := ⟨some 199, .fieldAddr 28 (.tmp 198) 0, _, _, _, none⟩) (v := (.pointer (some ⟨q, 0, none⟩))) rfl (by decide +kernel) (by decide +kernel) (by decide +kernel) (fun _ _ _ h => h) (.inl ⟨rfl, fun X hX => by go_simp⟩) hH8 ?_
                          try simp only [Act.put, List.setIfInBounds_toArray, List.set_cons_succ, List.set_cons_zero]
                          refine wpAnyH_ready (rs := [23]) (by decide +kernel) (by simp) (AllReadyH.cons (o := ⟨none, .store 26 (.tmp 199) (.tmp 197), _, _, _, none⟩) rfl (fun K hK => ?_) AllReadyH.nil)
                          go_simp
                          refine hK.out _ _ ⟨?_, ?_⟩ (fun hH9 => ?_)
                          · go_simp
                          · exact (World.cell?_setCell_far _ _ _ _ (by show q ≠ b; omega)).trans s2
                          clear hK K
                          try simp only [Act.put, List.setIfInBounds_toArray, List.set_cons_succ, List.set_cons_zero]
                          refine wpAnyH_done (by decide +kernel) ?_ _
                          go_wp2_with fail
                          go_meet
                          obtain ⟨B4, g1, g2⟩ := hD3.out.more (s := (appendStep i (.slice A5 m5 c5) (leftS l f keep torn))) hbel1 hbtW (fun x hx => ⟨(hfr5 x hx).1, Nat.lt_trans (hfr5 x hx).2 hszW⟩) ⟨by simp [appendStep], by simp [appendStep]⟩ hown2 ht2 hw2
                          exact ⟨_, _, B4, Lib.hid g1, hbq3.trans g2⟩
                        · go_simp
                          have hb1x := below_box1 w5 (.cells #[.int .i64 2, .int .i64 (i : Nat), .string ByteArray.empty, .slice A5 m5 c5] 85)
                          have hq5 : q < w5.heap.size := Nat.lt_of_lt_of_le hp1 hb5'.size
                          have hb55 : b < w5.heap.size := Nat.lt_of_lt_of_le hbwc hb5'.size
                          refine hK.out _ _ ⟨(hb1x.cell (p := ⟨q, 1, none⟩) hq5).trans u1, (hb1x.cell (p := ⟨b, off + 1, none⟩) hb55).trans u2⟩ (fun hH7 => ?_)
                          clear hK K
                          try simp only [Act.put, List.setIfInBounds_toArray, List.set_cons_succ, List.set_cons_zero]
                          have hownW := OwnRows.alloc (w := w5) (OwnRows.below hown hb5') (.cells #[.int .i64 2, .int .i64 (i : Nat), .string ByteArray.empty, .slice A5 m5 c5] 85)
                          have hboxW := st_box w5 85 2 i (appendStep i (.slice A5 m5 c5) (leftS l f keep torn)) rfl rfl
                          have hbtW := BytesAt.below hbt5 (below_box1 w5 (.cells #[.int .i64 2, .int .i64 (i : Nat), .string ByteArray.empty, .slice A5 m5 c5] 85))
                          have hszW : w5.heap.size < (w5.alloc (.cells #[.int .i64 2, .int .i64 (i : Nat), .string ByteArray.empty, .slice A5 m5 c5] 85)).heap.size := by simp
                          obtain ⟨W1, hW1⟩ : ∃ W1, w5.alloc (.cells #[.int .i64 2, .int .i64 (i : Nat), .string ByteArray.empty, .slice A5 m5 c5] 85) = W1 := ⟨_, rfl⟩
                          have hboxW : RowsAt 4 (w5.alloc (.cells #[.int .i64 2, .int .i64 (i : Nat), .string ByteArray.empty, .slice A5 m5 c5] 85)) _ _ := hboxW
                          have v0 : W1.cell? ⟨q, 0, none⟩ = some lv3 := by rw [← hW1]; exact (hb1x.cell (p := ⟨q, 0, none⟩) hq5).trans u0
                          have v1' : W1.cell? ⟨q, 1, none⟩ = some (.int .i64 (i : Nat)) := by rw [← hW1]; exact (hb1x.cell (p := ⟨q, 1, none⟩) hq5).trans u1
                          have v2' : W1.cell? ⟨b, off + 1, none⟩ = some (.int .i64 (f : Nat)) := by rw [← hW1]; exact (hb1x.cell (p := ⟨b, off + 1, none⟩) hb55).trans u2
                          have hbel1 : Below wc.heap.size wc W1 := by rw [← hW1]; exact hb5'.trans (hb1x.mono hb5'.size)
                          rw [hW1] at hownW hboxW hbtW hszW ⊢
                          clear hb1x
                          refine wpAnyH_ready (rs := [4]) (by decide +kernel) (by simp) (AllReadyH.cons (o := ⟨some 181, .load 26 (.tmp 180), _, _, _, none⟩) rfl (fun K hK => ?_) AllReadyH.nil)
                          go_simp
                          refine hK.out _ _ ⟨v1', v2'⟩ (fun hH6 => ?_)
                          clear hK K
                          try simp only [Act.put, List.setIfInBounds_toArray, List.set_cons_succ, List.set_cons_zero]
                          refine wpAnyH_ready (rs := [20]) (by decide +kernel) (by simp) (AllReadyH.cons (o := ⟨some 197, .call { callee := .builtin .append, args := #[.tmp 181, .tmp 196], argTypes := #[26, 26] }, _, _, _, none⟩) rfl (fun K hK => ?_) AllReadyH.nil)
                          refine step_append_rows (v := lv3) elemS (by rfl) (.tmp 181) (.tmp 196) (by rfl) q (by rfl) hownW (by rfl) hboxW (by simp) (st_one rfl) (by simp at hlen3; simp; omega) (by have := hbel1.size; omega) ?_
                          intro A2 m2 c2 w2 hown2 ht2 hw2
                          obtain ⟨hr1, hr2⟩ := hD3.out.ready hbel1 ht2
                          have s1 : w2.cell? ⟨q, 1, none⟩ = some (.int .i64 (i : Nat)) := (ht2.cell (a := ⟨q, 1, none⟩) (Nat.lt_of_lt_of_le hp1 hbel1.size) hqn).trans v1'
                          have s2 : w2.cell? ⟨b, off + 1, none⟩ = some (.int .i64 (f : Nat)) := (ht2.cell (a := ⟨b, off + 1, none⟩) (Nat.lt_of_lt_of_le hbwc hbel1.size) hbn).trans v2'
                          refine hK.out _ _ ⟨s1, s2⟩ (fun hH8 => ?_)
                          clear hK K
                          try simp only [Act.put, List.setIfInBounds_toArray, List.set_cons_succ, List.set_cons_zero]
                          refine wpAnyH_take (i := 21) (oi := ⟨some 198, .nilCheck (.tmp 177), _, _, _, none⟩) (v := (.pointer (some ⟨q, 0, none⟩))) rfl (by decide +kernel) (by decide +kernel) (by decide +kernel) (fun _ _ _ h => h) (.inl ⟨rfl, fun X hX => by go_simp⟩) hH8 ?_
                          try simp only [Act.put, List.setIfInBounds_toArray, List.set_cons_succ, List.set_cons_zero]
                          refine wpAnyH_take (i := 22) (oi := ⟨some 199, .fieldAddr 28 (.tmp 198) 0, _, _, _, none⟩) (v := (.pointer (some ⟨q, 0, none⟩))) rfl (by decide +kernel) (by decide +kernel) (by decide +kernel) (fun _ _ _ h => h) (.inl ⟨rfl, fun X hX => by go_simp⟩) hH8 ?_
                          try simp only [Act.put, List.setIfInBounds_toArray, List.set_cons_succ, List.set_cons_zero]
                          refine wpAnyH_ready (rs := [23]) (by decide +kernel) (by simp) (AllReadyH.cons (o := ⟨none, .store 26 (.tmp 199) (.tmp 197), _, _, _, none⟩) rfl (fun K hK => ?_) AllReadyH.nil)
                          go_simp
                          refine hK.out _ _ ⟨?_, ?_⟩ (fun hH9 => ?_)
                          · go_simp
                          · exact (World.cell?_setCell_far _ _ _ _ (by show q ≠ b; omega)).trans s2
                          clear hK K
                          try simp only [Act.put, List.setIfInBounds_toArray, List.set_cons_succ, List.set_cons_zero]
                          refine wpAnyH_done (by decide +kernel) ?_ _
                          go_wp2_with fail
                          go_meet
                          obtain ⟨B4, g1, g2⟩ := hD3.out.more (s := (appendStep i (.slice A5 m5 c5) (leftS l f keep torn))) hbel1 hbtW (fun x hx => ⟨(hfr5 x hx).1, Nat.lt_trans (hfr5 x hx).2 hszW⟩) ⟨by simp [appendStep], by simp [appendStep]⟩ hown2 ht2 hw2
                          exact ⟨_, _, B4, Lib.hid g1, hbq3.trans g2⟩
                    case rest => as_aux_lemma =>
                      obtain ⟨bv, lv4, B4, hD4, hbq4⟩ := hcut
                      obtain ⟨L3, hL3⟩ : ∃ L3, L2 ++ [plain 1 i nm] ++ [appendStep i bv (leftS l f keep torn)] = L3 := ⟨_, rfl⟩
                      rw [hL3] at hD4
                      have hlen4 : (L3.map stCells).length ≤ 70000 := by rw [← hL3, List.length_map, List.length_append]; rw [List.length_map] at hlen3; simp; simp at hlen3; omega
                      clear hc0 hc1 hown hp1 hnw hbq3 hD3 k1 hbc cL2 hlen3
                      have hc0 := hD4.out.c0
                      have hc1 := hD4.out.c1
                      have hown := hD4.out.own
                      have hp1 : q < wc.heap.size := hD4.out.plt
                      have hnw := hD4.out.nle
                      go_upto_region 30 with fail
                      go_cut [] from 152 to 220 (fun wx => ∃ lv5 B5, Hid (DiskR q wx q lv5 (L3 ++ [plain 5 i ByteArray.empty]) i 0 B5) ∧ Below q w4 wx)
                      case first => as_aux_lemma =>
                        refine wp_region_held_drew (S := fun X => X.cell? ⟨q, 1, none⟩ = some (.int .i64 (i : Nat))) (by kernel_rfl) hc1 (fun hH => ?_)
                        refine wpAnyH_take (i := 0) (oi := ⟨some 200, .move (.tmp 20), _, _, _, none⟩) (v := (.pointer (some ⟨q, 0, none⟩))) rfl (by decide +kernel) (by decide +kernel) (by decide +kernel) (fun _ _ _ h => h) (.inl ⟨rfl, fun X hX => rfl⟩) hH ?_
                        try simp only [Act.put, List.setIfInBounds_toArray, List.set_cons_succ, List.set_cons_zero]
                        refine wpAnyH_take (i := 1) (oi := ⟨some 201, .move (.tmp 20), _, _, _, none⟩) (v := (.pointer (some ⟨q, 0, none⟩))) rfl (by decide +kernel) (by decide +kernel) (by decide +kernel) (fun _ _ _ h => h) (.inl ⟨rfl, fun X hX => rfl⟩) hH ?_
                        try simp only [Act.put, List.setIfInBounds_toArray, List.set_cons_succ, List.set_cons_zero]
                        refine wpAnyH_take (i := 2) (oi := ⟨some 202, .nilCheck (.tmp 201), _, _, _, none⟩) (v := (.pointer (some ⟨q, 0, none⟩))) rfl (by decide +kernel) (by decide +kernel) (by decide +kernel) (fun _ _ _ h => h) (.inl ⟨rfl, fun X hX => by go_simp⟩) hH ?_
                        try simp only [Act.put, List.setIfInBounds_toArray, List.set_cons_succ, List.set_cons_zero]
                        refine wpAnyH_take (i := 3) (oi := ⟨some 203, .fieldAddr 28 (.tmp 202) 0, _, _, _, none⟩) (v := (.pointer (some ⟨q, 0, none⟩))) rfl (by decide +kernel) (by decide +kernel) (by decide +kernel) (fun _ _ _ h => h) (.inl ⟨rfl, fun X hX => by go_simp⟩) hH ?_
                        try simp only [Act.put, List.setIfInBounds_toArray, List.set_cons_succ, List.set_cons_zero]
                        refine wpAnyH_take (i := 5) (oi := ⟨some 205, .move (.tmp 20), _, _, _, none⟩) (v := (.pointer (some ⟨q, 0, none⟩))) rfl (by decide +kernel) (by decide +kernel) (by decide +kernel) (fun _ _ _ h => h) (.inl ⟨rfl, fun X hX => rfl⟩) hH ?_
                        try simp only [Act.put, List.setIfInBounds_toArray, List.set_cons_succ, List.set_cons_zero]
                        refine wpAnyH_take (i := 6) (oi := ⟨some 206, .nilCheck (.tmp 205), _, _, _, none⟩) (v := (.pointer (some ⟨q, 0, none⟩))) rfl (by decide +kernel) (by decide +kernel) (by decide +kernel) (fun _ _ _ h => h) (.inl ⟨rfl, fun X hX => by go_simp⟩) hH ?_
                        try simp only [Act.put, List.setIfInBounds_toArray, List.set_cons_succ, List.set_cons_zero]
                        refine wpAnyH_take (i := 7) (oi := ⟨some 207, .fieldAddr 28 (.tmp 206) 1, _, _, _, none⟩) (v := (.pointer (some ⟨q, 1, none⟩))) rfl (by decide +kernel) (by decide +kernel) (by decide +kernel) (fun _ _ _ h => h) (.inl ⟨rfl, fun X hX => by go_simp⟩) hH ?_
                        try simp only [Act.put, List.setIfInBounds_toArray, List.set_cons_succ, List.set_cons_zero]
                        refine wpAnyH_take (i := 8) (oi := ⟨some 208, .load 3 (.tmp 207), _, _, _, none⟩) (v := (.int .i64 (i : Nat))) rfl (by decide +kernel) (by decide +kernel) (by decide +kernel) (fun _ _ _ h => h) (.inl ⟨rfl, fun X hX => by have e := hX; go_simp⟩) hH ?_
                        try simp only [Act.put, List.setIfInBounds_toArray, List.set_cons_succ, List.set_cons_zero]
                        refine wpAnyH_take (i := 9) (oi := ⟨some 209, .build 85 #[(0, .const (.int .i64 5)), (1, .tmp 208)], _, _, _, none⟩) (v := (.agg #[.int .i64 5, .int .i64 (i : Nat), .string ByteArray.empty, .slice none 0 0])) rfl (by decide +kernel) (by decide +kernel) (by decide +kernel) (fun _ _ _ h => h) (.inl ⟨rfl, fun X hX => by go_simp <;> rfl⟩) hH ?_
                        try simp only [Act.put, List.setIfInBounds_toArray, List.set_cons_succ, List.set_cons_zero]
                        have hqn : q ∉ lv4.ownBlock.toList := by simpa using hD4.out.own_ne
                        refine wpAnyH_ready (rs := [4, 10]) (by decide +kernel) (by simp) (AllReadyH.cons (o := ⟨some 204, .load 26 (.tmp 203), _, _, _, none⟩) rfl (fun K hK => ?_) (AllReadyH.cons (o := ⟨some 210, .buildSlice 26 1 #[(0, .tmp 209)], _, _, _, none⟩) rfl (fun K hK => ?_) AllReadyH.nil))
                        · go_simp
                          refine hK.out _ _ hc1 (fun hH1 => ?_)
                          clear hK K
                          try simp only [Act.put, List.setIfInBounds_toArray, List.set_cons_succ, List.set_cons_zero]
                          refine wpAnyH_ready (rs := [10]) (by decide +kernel) (by simp) (AllReadyH.cons (o := ⟨some 210, .buildSlice 26 1 #[(0, .tmp 209)], _, _, _, none⟩) rfl (fun K hK => ?_) AllReadyH.nil)
                          go_simp
                          have hb1x := below_box1 wc.drew (.cells #[.int .i64 5, .int .i64 (i : Nat), .string ByteArray.empty, .slice none 0 0] 85)
                          refine hK.out _ _ ((hb1x.cell (p := ⟨q, 1, none⟩) hp1).trans hc1) (fun hH2 => ?_)
                          clear hK K hb1x
                          try simp only [Act.put, List.setIfInBounds_toArray, List.set_cons_succ, List.set_cons_zero]
                          have hownW := OwnRows.drew (OwnRows.alloc (w := wc) hown (.cells #[.int .i64 5, .int .i64 (i : Nat), .string ByteArray.empty, .slice none 0 0] 85))
                          have hboxW := RowsAt.drew (st_box wc 85 5 i (plain 5 i ByteArray.empty) rfl rfl)
                          obtain ⟨W1, hW1⟩ : ∃ W1, (wc.alloc (.cells #[.int .i64 5, .int .i64 (i : Nat), .string ByteArray.empty, .slice none 0 0] 85)).drew = W1 := ⟨_, rfl⟩
                          have hboxW : RowsAt 4 (wc.alloc (.cells #[.int .i64 5, .int .i64 (i : Nat), .string ByteArray.empty, .slice none 0 0] 85)).drew _ _ := hboxW
                          rw [hW1] at hownW hboxW ⊢
                          have hbel1 : Below wc.heap.size wc W1 := by rw [← hW1]; exact Below.drew (below_box1 wc _)
                          refine wpAnyH_ready (rs := [11]) (by decide +kernel) (by simp) (AllReadyH.cons (o := ⟨some 211, .call { callee := .builtin .append, args := #[.tmp 204, .tmp 210], argTypes := #[26, 26] }, _, _, _, none⟩) rfl (fun K hK => ?_) AllReadyH.nil)
                          refine step_append_rows (v := lv4) elemS (by rfl) (.tmp 204) (.tmp 210) (by rfl) q (by rfl) hownW (by rfl) hboxW (by simp) (st_one rfl) (by simp at hlen4; simp; omega) (by have := hbel1.size; omega) ?_
                          intro A2 m2 c2 w2 hown2 ht2 hw2
                          obtain ⟨hr1, hr2⟩ := hD4.out.ready hbel1 ht2
                          have s1 : w2.cell? ⟨q, 1, none⟩ = some (.int .i64 (i : Nat)) := (ht2.cell (a := ⟨q, 1, none⟩) (Nat.lt_of_lt_of_le hp1 hbel1.size) hqn).trans ((hbel1.cell (p := ⟨q, 1, none⟩) hp1).trans hc1)
                          refine hK.out _ _ s1 (fun hH2 => ?_)
                          clear hK K
                          try simp only [Act.put, List.setIfInBounds_toArray, List.set_cons_succ, List.set_cons_zero]
                          refine wpAnyH_take (i := 12) (oi := ⟨some 212, .nilCheck (.tmp 200), _, _, _, none⟩) (v := (.pointer (some ⟨q, 0, none⟩))) rfl (by decide +kernel) (by decide +kernel) (by decide +kernel) (fun _ _ _ h => h) (.inl ⟨rfl, fun X hX => by go_simp⟩) hH2 ?_
                          try simp only [Act.put, List.setIfInBounds_toArray, List.set_cons_succ, List.set_cons_zero]
                          refine wpAnyH_take (i := 13) (oi := ⟨some 213, .fieldAddr 28 (.tmp 212) 0, _, _, _, none⟩) (v := (.pointer (some ⟨q, 0, none⟩))) rfl (by decide +kernel) (by decide +kernel) (by decide +kernel) (fun _ _ _ h => h) (.inl ⟨rfl, fun X hX => by go_simp⟩) hH2 ?_
                          try simp only [Act.put, List.setIfInBounds_toArray, List.set_cons_succ, List.set_cons_zero]
                          refine wpAnyH_ready (rs := [14]) (by decide +kernel) (by simp) (AllReadyH.cons (o := ⟨none, .store 26 (.tmp 213) (.tmp 211), _, _, _, none⟩) rfl (fun K hK => ?_) AllReadyH.nil)
                          go_simp
                          refine hK.out _ _ ?_ (fun hH3 => ?_)
                          · go_simp
                          clear hK K
                          try simp only [Act.put, List.setIfInBounds_toArray, List.set_cons_succ, List.set_cons_zero]
                          refine wpAnyH_done (by decide +kernel) ?_ _
                          go_wp2_with fail
                          go_meet
                          obtain ⟨B5, g1, g2⟩ := hD4.out.more (s := plain 5 i ByteArray.empty) hbel1 (nil_bytes _) (by simp [Value.ownBlock]) ⟨by simp, by simp⟩ hown2 ht2 hw2
                          exact ⟨_, B5, Lib.hid g1, hbq4.trans g2⟩
                        · go_simp
                          have hb1x := below_box1 wc.drew (.cells #[.int .i64 5, .int .i64 (i : Nat), .string ByteArray.empty, .slice none 0 0] 85)
                          refine hK.out _ _ ((hb1x.cell (p := ⟨q, 1, none⟩) hp1).trans hc1) (fun hH1 => ?_)
                          clear hK K
                          try simp only [Act.put, List.setIfInBounds_toArray, List.set_cons_succ, List.set_cons_zero]
                          have hownW := OwnRows.drew (OwnRows.alloc (w := wc) hown (.cells #[.int .i64 5, .int .i64 (i : Nat), .string ByteArray.empty, .slice none 0 0] 85))
                          have hboxW := RowsAt.drew (st_box wc 85 5 i (plain 5 i ByteArray.empty) rfl rfl)
                          obtain ⟨W1, hW1⟩ : ∃ W1, (wc.alloc (.cells #[.int .i64 5, .int .i64 (i : Nat), .string ByteArray.empty, .slice none 0 0] 85)).drew = W1 := ⟨_, rfl⟩
                          have hboxW : RowsAt 4 (wc.alloc (.cells #[.int .i64 5, .int .i64 (i : Nat), .string ByteArray.empty, .slice none 0 0] 85)).drew _ _ := hboxW
                          rw [hW1] at hownW hboxW ⊢
                          have hcW : W1.cell? ⟨q, 0, none⟩ = some lv4 := by rw [← hW1]; exact (hb1x.cell (p := ⟨q, 0, none⟩) hp1).trans hc0
                          have hcW1 : W1.cell? ⟨q, 1, none⟩ = some (.int .i64 (i : Nat)) := by rw [← hW1]; exact (hb1x.cell (p := ⟨q, 1, none⟩) hp1).trans hc1
                          clear hb1x
                          refine wpAnyH_ready (rs := [4]) (by decide +kernel) (by simp) (AllReadyH.cons (o := ⟨some 204, .load 26 (.tmp 203), _, _, _, none⟩) rfl (fun K hK => ?_) AllReadyH.nil)
                          go_simp
                          refine hK.out _ _ hcW1 (fun hH2 => ?_)
                          clear hK K
                          try simp only [Act.put, List.setIfInBounds_toArray, List.set_cons_succ, List.set_cons_zero]
                          have hbel1 : Below wc.heap.size wc W1 := by rw [← hW1]; exact Below.drew (below_box1 wc _)
                          refine wpAnyH_ready (rs := [11]) (by decide +kernel) (by simp) (AllReadyH.cons (o := ⟨some 211, .call { callee := .builtin .append, args := #[.tmp 204, .tmp 210], argTypes := #[26, 26] }, _, _, _, none⟩) rfl (fun K hK => ?_) AllReadyH.nil)
                          refine step_append_rows (v := lv4) elemS (by rfl) (.tmp 204) (.tmp 210) (by rfl) q (by rfl) hownW (by rfl) hboxW (by simp) (st_one rfl) (by simp at hlen4; simp; omega) (by have := hbel1.size; omega) ?_
                          intro A2 m2 c2 w2 hown2 ht2 hw2
                          obtain ⟨hr1, hr2⟩ := hD4.out.ready hbel1 ht2
                          have s1 : w2.cell? ⟨q, 1, none⟩ = some (.int .i64 (i : Nat)) := (ht2.cell (a := ⟨q, 1, none⟩) (Nat.lt_of_lt_of_le hp1 hbel1.size) hqn).trans ((hbel1.cell (p := ⟨q, 1, none⟩) hp1).trans hc1)
                          refine hK.out _ _ s1 (fun hH2 => ?_)
                          clear hK K
                          try simp only [Act.put, List.setIfInBounds_toArray, List.set_cons_succ, List.set_cons_zero]
                          refine wpAnyH_take (i := 12) (oi := ⟨some 212, .nilCheck (.tmp 200), _, _, _, none⟩) (v := (.pointer (some ⟨q, 0, none⟩))) rfl (by decide +kernel) (by decide +kernel) (by decide +kernel) (fun _ _ _ h => h) (.inl ⟨rfl, fun X hX => by go_simp⟩) hH2 ?_
                          try simp only [Act.put, List.setIfInBounds_toArray, List.set_cons_succ, List.set_cons_zero]
                          refine wpAnyH_take (i := 13) (oi := ⟨some 213, .fieldAddr 28 (.tmp 212) 0, _, _, _, none⟩) (v := (.pointer (some ⟨q, 0, none⟩))) rfl (by decide +kernel) (by decide +kernel) (by decide +kernel) (fun _ _ _ h => h) (.inl ⟨rfl, fun X hX => by go_simp⟩) hH2 ?_
                          try simp only [Act.put, List.setIfInBounds_toArray, List.set_cons_succ, List.set_cons_zero]
                          refine wpAnyH_ready (rs := [14]) (by decide +kernel) (by simp) (AllReadyH.cons (o := ⟨none, .store 26 (.tmp 213) (.tmp 211), _, _, _, none⟩) rfl (fun K hK => ?_) AllReadyH.nil)
                          go_simp
                          refine hK.out _ _ ?_ (fun hH3 => ?_)
                          · go_simp
                          clear hK K
                          try simp only [Act.put, List.setIfInBounds_toArray, List.set_cons_succ, List.set_cons_zero]
                          refine wpAnyH_done (by decide +kernel) ?_ _
                          go_wp2_with fail
                          go_meet
                          obtain ⟨B5, g1, g2⟩ := hD4.out.more (s := plain 5 i ByteArray.empty) hbel1 (nil_bytes _) (by simp [Value.ownBlock]) ⟨by simp, by simp⟩ hown2 ht2 hw2
                          exact ⟨_, B5, Lib.hid g1, hbq4.trans g2⟩
                      case rest => as_aux_lemma =>
                        obtain ⟨lv5, B5, hD5, hbq5⟩ := hcut
                        clear hc0 hc1 hown hp1 hnw hbq4 hD4 hlen4
                        have hc1 := hD5.out.c1
                        have hz1 := hD5.out.fz 1
                        have hp1 : q < wc.heap.size := hD5.out.plt
                        have hi1 : (i : Int) + 1 = ((i + 1 : Nat) : Int) := by omega
                        have hnext : Hid (DiskR q (wc.setCell ⟨q, 1, none⟩ (.int .i64 ((i : Int) + 1))) q lv5 (L3 ++ [plain 5 i ByteArray.empty]) (i + 1) 0 B5 ∧ (L3 ++ [plain 5 i ByteArray.empty]).map shp = outN l R keep torn (i + 1)) := Lib.hid ⟨by rw [hi1]; exact (hD5.out.setBorn (i + 1)).1, by rw [hd.out, ← hL3]; simp [shp, plain, appendStep]⟩
                        have hbq6 : Below q w4 (wc.setCell ⟨q, 1, none⟩ (.int .i64 ((i : Int) + 1))) := hbq5.trans (by rw [hi1]; exact Turns.below (hD5.out.setBorn (i + 1)).2 hD5.out.nle (fun b hb => (hD5.out.low b hb).1))
                        clear hD5 hd hL3
                        have hi2 := Lib.hid hi1
                        clear hi1
                        go_wp2
                        go_roundw
                        case rel => exact ⟨i + 1, lv5, _, B5, congrArg (Value.int .i64) hi2.out, by omega, hnext, hbq6⟩
                        case measure => simp [intOf]; omega
                · as_aux_lemma =>
                  have hex : Hid (DiskR q wr q lv2 L2 R.length 0 B2 ∧ L2.map shp = outN l R keep torn R.length) := Lib.hid (by
                    have e : i = R.length := by omega
                    rw [← e]; exact hso.out)
                  have hil' : ¬ (i : Int) < R.length := by omega
                  have hlen2 : (L2.map stCells).length ≤ 50000 := by
                    have h1 := congrArg List.length hex.out.2
                    have h2 := outN_len l R keep torn R.length
                    rw [List.length_map] at h1 ⊢
                    omega
                  have hc0 := hex.out.1.c0
                  have hown := hex.out.1.own
                  have hp1 : q < wr.heap.size := hex.out.1.plt
                  have hnw := hex.out.1.nle
                  clear hso
                  go_upto_region 32 with fail
                  go_cut [] from 221 (fun wx => ∃ lv5 B5, Hid (DiskR q wx q lv5 (L2 ++ [plain 6 0 ByteArray.empty]) R.length 0 B5) ∧ Below q w4 wx)
                  case first => as_aux_lemma =>
                    go_wp2_with (at_builtin; refine append_rows elemS rfl (.tmp 225) (.tmp 227) rfl q rfl (hown.alloc _) rfl (st_box wr _ 6 0 (plain 6 0 ByteArray.empty) rfl rfl) (by simp) (st_one rfl) (by simp at hlen2; simp; omega) (by simp; omega) ?_; intro v2 w2 hown2 ht2 hw2; obtain ⟨A2, m2, c2, rfl⟩ := hown2.form; obtain ⟨hr1, hr2⟩ := hex.out.1.ready (below_box1 wr _) ht2)
                    go_meet
                    obtain ⟨B5, g1, g2⟩ := hex.out.1.more (s := plain 6 0 ByteArray.empty) (below_box1 wr _) (nil_bytes _) (by simp [Value.ownBlock]) ⟨by simp, by simp⟩ hown2 ht2 hw2
                    exact ⟨_, B5, Lib.hid g1, hbq.trans g2⟩
                  case rest => as_aux_lemma =>
                    obtain ⟨lv5, B5, hD5, hbq5⟩ := hcut
                    clear hc0 hown hp1 hnw hbq
                    obtain ⟨L5, hL5⟩ : ∃ L5, L2 ++ [plain 6 0 ByteArray.empty] = L5 := ⟨_, rfl⟩
                    rw [hL5] at hD5
                    have hsh : Hid (L5.map shp = outN l R keep torn R.length ++ [(6, 0, ByteArray.empty, [])]) := Lib.hid (by rw [← hL5, List.map_append, hex.out.2]; rfl)
                    have hc0 := hD5.out.c0
                    have hc2 := hD5.out.c2
                    have hz2 := hD5.out.fz 2
                    have hl5 := fun W => hD5.out.steps.len (ty := 3) W
                    have hp1 : q < wc.heap.size := hD5.out.plt
                    clear hL5 hex hlen2
                    go_wp2
                    go_ret
                    obtain ⟨g1, g2⟩ := hD5.out.setBase L5.length
                    exact ⟨q, rfl, lv5, L5, B5, R.length, g1.lower hwq, hsh.out, rfl, hbel.trans ((hbq5.trans (Turns.below g2 hD5.out.nle (fun b hb => (hD5.out.low b hb).1))).mono hwq)⟩
end Go.Proofs.Ytpkiapjcilapoaa
