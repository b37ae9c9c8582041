/-
  Names, the document's own disk: all names, rising.
-/
import Derived.Test.YtpkiapjcilapoaaFiApp
import Derived.Test.YtpkiapjcilapoaaStore
namespace Go.Proofs.Ytpkiapjcilapoaa
open Go.RowKit Go.Sort

theorem elemStr : ElemK Try.prog 44 9 (.string ByteArray.empty) 1 16 := ⟨Try.underlying44, by kernel_rfl, rfl, by omega, by omega, fun W => by kernel_rfl⟩
def strs (l : List ByteArray) : List Value := l.map Value.string
theorem strs_len (l : List ByteArray) : (strs l).length = l.length := by simp [strs]
theorem ones_flat : ∀ (xs : List Value), (xs.map fun x => [x]).flatten = xs
  | [] => rfl
  | x :: t => by rw [List.map_cons, List.flatten_cons, ones_flat t]; rfl
theorem OwnRow.rows1 {w : World} {base : Nat} {e : TypeId} {v : Value} {xs : List Value} (h : OwnRow w base e v xs) : OwnRows w base e 1 v (xs.map fun x => [x]) := by
  refine ⟨by rw [List.length_map, ones_flat]; exact h, fun x hx => ?_⟩
  obtain ⟨y, _, rfl⟩ := List.mem_map.1 hx
  rfl
theorem OwnRows.row1 {w : World} {base : Nat} {e : TypeId} {v : Value} {xs : List Value} (h : OwnRows w base e 1 v (xs.map fun x => [x])) : OwnRow w base e v xs := by
  have := h.1
  rwa [List.length_map, ones_flat] at this

def lessS (a b : ByteArray) : Bool := Op.bytesLess a.toList b.toList
/-- x goes down, past all that are greater; ahead of it R (the nearest first), behind it S. -/
def sinkR : List ByteArray → ByteArray → List ByteArray → List ByteArray
  | [], x, S => x :: S
  | y :: R, x, S => if lessS x y = true then sinkR R x (y :: S) else (y :: R).reverse ++ x :: S
def insF (l : List ByteArray) (x : ByteArray) : List ByteArray := sinkR l.reverse x []
def namesF (l : Nms) : List ByteArray := l.foldl (fun o p => insF o p.1) []
theorem namesF_snoc (l : Nms) (p : ByteArray × Nat) : namesF (l ++ [p]) = insF (namesF l) p.1 := by simp [namesF]
theorem sinkR_len : ∀ (R : List ByteArray) (x : ByteArray) (S : List ByteArray), (sinkR R x S).length = R.length + 1 + S.length
  | [], x, S => by simp [sinkR]; omega
  | y :: R, x, S => by
    unfold sinkR
    split
    · rw [sinkR_len R x (y :: S)]; simp; omega
    · simp; omega
theorem namesF_len : ∀ (l : Nms) (i : Nat), (namesF (l.take i)).length ≤ i := by
  intro l i
  induction i with
  | zero => simp [namesF]
  | succ i ih =>
    rcases Nat.lt_or_ge i l.length with h | h
    · rw [take_snoc (List.getElem?_eq_getElem h), namesF_snoc, insF, sinkR_len]
      simp; omega
    · rw [List.take_of_length_le (by omega)]
      rw [List.take_of_length_le h] at ih
      omega

theorem strs_at (R : List ByteArray) (x : ByteArray) (S : List ByteArray) : (strs (R.reverse ++ x :: S))[R.length]? = some (.string x) := by
  simp [strs]
theorem strs_swap (R : List ByteArray) (x y : ByteArray) (S : List ByteArray) : ((strs ((y :: R).reverse ++ x :: S)).set (R.length + 1) (.string y)).set R.length (.string x) = strs (R.reverse ++ x :: (y :: S)) := by
  simp [strs]

set_option maxRecDepth 20000 in
set_option maxHeartbeats 4000000 in
theorem refNames_any {n p born base : Nat} {w : World} {lv : Value} {L : List FStep} {B : List Nat} (h : DiskR n w p lv L born base B) (hl : L.length ≤ 10000) :
    Calls Try.prog 43 #[.pointer (some ⟨p, 0, none⟩)] w fun e' w' => ∃ v', e' = .returned v' ∧ OwnRow w' w.heap.size 9 v' (strs (namesF (nowF L))) ∧ Below w.heap.size w w' := by
  have hc0 := h.c0
  have cN := hide (refNow_any lv L w h.steps h.kinds (by omega))
  have hnl := nowF_len L
  obtain ⟨l, hl2⟩ : ∃ l, nowF L = l := ⟨_, rfl⟩
  rw [hl2] at cN hnl ⊢
  have hl100 : l.length ≤ 10000 := by omega
  clear hl2 hnl hl h
  go_enter Try.func43, Try.ntmps43
  go_wp2_with (go_at_call 62; refine cN.out.mono ?_; rintro e' w1 ⟨v1, rfl, hn1, hb1⟩; have hlv := fun W => hn1.len (ty := 3) W; have hn1 := Lib.hid hn1)
  go_loopw [4, 5] (fun o' t wr => ∃ (o : Value) (i : Nat), o = o' ∧ t = .int .i64 i ∧ i ≤ l.length ∧ OwnRow wr w1.heap.size 9 o (strs (namesF (l.take i))) ∧ Below w1.heap.size w1 wr) (fun _ t _ => l.length - (intOf t).toNat)
  case atStart => exact ⟨_, 0, rfl, rfl, by omega, OwnRow.none_ _ _ _, Below.refl _ _⟩
  case round =>
    obtain ⟨o, i, rfl, rfl, hi, hown, hbel⟩ := hrel
    rcases Nat.lt_or_ge i l.length with hil | hil
    · obtain ⟨q, hq⟩ : ∃ q, l[i]? = some q := ⟨_, List.getElem?_eq_getElem hil⟩
      obtain ⟨b, off, hix, hc, _, _⟩ := (RowsAt.below hn1.out hbel).index elemN.ht elemN.hs (names_at hq)
      have k0 : wr.cell? ⟨b, off, none⟩ = some (.string q.1) := hc 0 _ rfl
      have hd := namesF_snoc (l.take i) q
      rw [← take_snoc hq] at hd
      have hlen := namesF_len l i
      obtain ⟨P, hP⟩ : ∃ P, namesF (l.take i) = P := ⟨_, rfl⟩
      rw [hP] at hown hlen hd
      obtain ⟨x, qf⟩ := q
      dsimp only at k0 hd
      have hd := Lib.hid hd
      clear hc hq hP
      go_wp2_with (at_builtin; refine append_rows elemStr rfl (.tmp 19) (.tmp 25) rfl w1.heap.size rfl (hown.rows1.alloc _) rfl (rows_box (k := 1) wr _ [.string x] rfl _ rfl) (by simp) (by intro y hy u hu; simp at hy; subst hy; simp at hu; subst hu; rfl) (by rw [List.length_map, strs_len]; simp; omega) (by have := hbel.size; simp; omega) ?_; intro v2 w2 hown2 ht2 _; have hbel2 : Below w1.heap.size w1 w2 := (then_box hbel _).trans (own_below (hown.rows1.alloc _) ht2 (by have := hbel.size; simp; omega)); have ho2 : OwnRow w2 w1.heap.size 9 v2 (strs (P ++ [x])) := OwnRows.row1 (by simpa [strs] using hown2); have hlo : ∀ W, (Builtin.len_ #[44] 3 #[v2]).run Try.prog W = .ok (.int .i64 ((P.length : Int) + 1)) W := (fun W => by have := ho2.row.len elemStr.ht (ty := 3) W; rwa [strs_len, List.length_append] at this))
      clear hown hown2 ht2 hlo hbel
      go_loopw [6] (fun t wr => ∃ (R S : List ByteArray), t = .int .i64 (R.length : Nat) ∧ R.length ≤ 20000 ∧ OwnRow wr w1.heap.size 9 v2 (strs (R.reverse ++ x :: S)) ∧ Hid (sinkR R x S = insF P x) ∧ Below w1.heap.size w1 wr) (fun t _ => (intOf t).toNat)
      case atStart => exact ⟨P.reverse, [], by simp, by simp; omega, by simpa using ho2, Lib.hid rfl, hbel2⟩
      case round =>
        clear ho2 hbel2
        obtain ⟨R, S, rfl, hR, hown, hso, hbel⟩ := hrel
        cases R with
        | nil =>
          have hfin : Hid (x :: S = insF P x) := Lib.hid hso.out
          go_wp2
          go_quiet (fail)
          go_wp2
          go_roundw
          case rel => exact ⟨v2, i + 1, rfl, by go_num, by omega, by rw [hd.out, ← hfin.out]; exact hown, below_drewN hbel _⟩
          case measure => simp [intOf]; omega
        | cons y R =>
          obtain ⟨ad, ha, hac, haf, hab1, hab2, haset⟩ := hown.store elemStr.ht elemStr.hs (k := R.length + 1) (by rw [strs_len]; simp; try omega)
          obtain ⟨bd, hb, hbc, hbf, hbb1, hbb2, _⟩ := hown.store elemStr.ht elemStr.hs (k := R.length) (by rw [strs_len]; simp; try omega)
          rw [show (strs ((y :: R).reverse ++ x :: S))[R.length + 1]? = some (.string x) from strs_at (y :: R) x S] at hac
          rw [show (strs ((y :: R).reverse ++ x :: S))[R.length]? = some (.string y) by rw [show (y :: R).reverse ++ x :: S = R.reverse ++ y :: (x :: S) by simp]; exact strs_at R y (x :: S)] at hbc
          have ha : ∀ W, (Instr.indexAt 44 v2 (.int .i64 ((R.length : Int) + 1))).run Try.prog W = .ok (.pointer (some ad)) W := ha
          have hRl : R.length ≤ 20000 := by simp at hR; omega
          have hst := hso.out
          rw [sinkR] at hst
          rcases Bool.eq_false_or_eq_true (lessS x y) with hless | hless
          · rw [if_pos hless] at hst
            have hst := Lib.hid hst
            obtain ⟨hown2, hbe2⟩ := haset (.string y)
            obtain ⟨bd', hb', hbc', hbf', _, _, hbset⟩ := hown2.store elemStr.ht elemStr.hs (k := R.length) (by rw [List.length_set, strs_len]; simp; try omega)
            have hbd : bd' = bd := by
              have h1 := hb' wr
              rw [hb wr] at h1
              injection h1 with h1
              injection h1 with h1
              injection h1 with h1
              exact h1.symm
            subst hbd
            obtain ⟨hown3, hbe3⟩ := hbset (.string x)
            rw [strs_swap] at hown3
            have hle3 : Below w1.heap.size w1 ((wr.setCell ad (.string y)).setCell bd' (.string x)) := (hbel.trans hbe2).trans hbe3
            have hsome : ∃ u, (wr.setCell ad (.string y)).cell? bd' = some u := by
              have hlt : R.length < ((strs ((y :: R).reverse ++ x :: S)).set (R.length + 1) (.string y)).length := by rw [List.length_set, strs_len]; simp; try omega
              exact ⟨_, hbc'.trans (List.getElem?_eq_getElem hlt)⟩
            obtain ⟨u, hsome⟩ := hsome
            have hcb : ∀ k, ((wr.drewN k).setCell ad (.string y)).cell? bd' = some u := fun _ => hsome
            have hless : Op.bytesLess x.toList y.toList = true := hless
            clear hbc' hbset haset hbe2 hbe3 hown2 hso hsome
            go_wp2
            go_quiet (fail)
            go_wp2
            go_roundw
            case rel => exact ⟨R, y :: S, rfl, hRl, hown3, hst, ⟨hle3.os, hle3.tape, hle3.output, hle3.size, hle3.block⟩⟩
            case measure => simp [intOf]; try omega
          · rw [if_neg (by rw [hless]; decide)] at hst
            have hst := Lib.hid hst
            have hless : Op.bytesLess x.toList y.toList = false := hless
            clear haset hso
            go_wp2
            go_quiet (fail)
            go_wp2
            go_roundw
            case rel => exact ⟨v2, i + 1, rfl, by go_num, by omega, by rw [hd.out, ← hst.out]; exact hown, below_drewN hbel _⟩
            case measure => simp [intOf]; omega
    · have hd : l.take i = l := List.take_of_length_le hil
      rw [hd] at hown
      clear hd
      go_wp2
      go_ret
      exact ⟨_, rfl, hown.lower hb1.size, then_call hb1 hbel⟩
end Go.Proofs.Ytpkiapjcilapoaa
