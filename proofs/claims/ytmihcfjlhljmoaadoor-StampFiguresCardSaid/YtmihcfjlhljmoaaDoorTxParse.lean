/-
  What stamp.Parse and the document's own answer hand back: the stamp whose text it is, or an error.
-/
import Derived.Test.YtmihcfjlhljmoaaDoorTxWrite
import Derived.Laws.ResultCell
namespace Go.Proofs.YtmihcfjlhljmoaaDoor
open Go.RowKit Go.Sort Go.Lib

/-- What a reading of a text hands back. -/
def readV (l : List UInt8) (v : Value) : Prop := (good l ∧ v = .tuple #[.agg #[.int .i64 (pn l), .int .i64 (pr l)], .int .i64 0]) ∨ (¬ good l ∧ v = .tuple #[.agg #[.int .i64 0, .int .i64 0], .int .i64 12])
def ReadEnd (l : List UInt8) (w : World) : Ending → World → Prop := fun e w' => ∃ v, readV l v ∧ e = .returned v ∧ Below w.heap.size w w'

theorem later_box {w w' : World} {b : Nat} {o : Obj} (hb : Below w.heap.size w w') (h : w.heap[b]? = some o) : w'.heap[b]? = some o :=
  (hb.block b (by rcases Nat.lt_or_ge b w.heap.size with h' | h'; exact h'; rw [Array.getElem?_eq_none h'] at h; cases h)).trans h
theorem new_box (w : World) (o : Obj) : ∃ W, w.alloc o = W ∧ W.heap.size = w.heap.size + 1 ∧ Below w.heap.size w W ∧ W.heap[w.heap.size]? = some o := ⟨_, rfl, by simp, below_box1 _ _, Go.heap_alloc_new w o⟩
theorem parse_boxes (w : World) (s : ByteArray) : ∃ W, (((w.alloc (.cells #[.string s] 9)).alloc (.cells #[.int .i64 0, .int .i64 0] 23)).alloc (.cells #[.int .i64 0] 3)).alloc (.cells #[.int .i64 0, .int .i64 0] 23) = W ∧ Below w.heap.size w W ∧ W.heap.size = w.heap.size + 4 ∧
    W.heap[w.heap.size]? = some (.cells #[.string s] 9) ∧ W.heap[w.heap.size + 1]? = some (.cells #[.int .i64 0, .int .i64 0] 23) ∧ W.heap[w.heap.size + 1 + 1]? = some (.cells #[.int .i64 0] 3) ∧ W.heap[w.heap.size + 1 + 1 + 1]? = some (.cells #[.int .i64 0, .int .i64 0] 23) := by
  obtain ⟨w1, h1, s1, b1, n1⟩ := new_box w (.cells #[.string s] 9)
  obtain ⟨w2, h2, s2, b2, n2⟩ := new_box w1 (.cells #[.int .i64 0, .int .i64 0] 23)
  obtain ⟨w3, h3, s3, b3, n3⟩ := new_box w2 (.cells #[.int .i64 0] 3)
  obtain ⟨w4, h4, s4, b4, n4⟩ := new_box w3 (.cells #[.int .i64 0, .int .i64 0] 23)
  rw [h1, h2, h3, h4]
  refine ⟨w4, rfl, ((b1.trans (b2.mono (by omega))).trans (b3.mono (by omega))).trans (b4.mono (by omega)), by omega, later_box b4 (later_box b3 (later_box b2 n1)), ?_, ?_, ?_⟩
  · rw [← s1]; exact later_box b4 (later_box b3 n2)
  · rw [← s1, ← s2]; exact later_box b4 n3
  · rw [← s1, ← s2, ← s3]; exact n4

theorem two_cells {w : World} {b : Nat} {x y : Value} {t : TypeId} (h : w.heap[b]? = some (.cells #[x, y] t)) : w.cell? ⟨b, 0, none⟩ = some x ∧ w.cell? ⟨b, 1, none⟩ = some y ∧ w.frozen? ⟨b, 0, none⟩ = false ∧ w.frozen? ⟨b, 1, none⟩ = false :=
  ⟨by rw [cell_of_row _ _ _ _ _ _ h]; rfl, by rw [cell_of_row _ _ _ _ _ _ h]; rfl, frozen_of_row _ _ _ _ _ h, frozen_of_row _ _ _ _ _ h⟩
theorem set0 {w : World} {b : Nat} {x y : Value} {t : TypeId} (h : w.heap[b]? = some (.cells #[x, y] t)) (u : Value) : (w.setCell ⟨b, 0, none⟩ u).heap[b]? = some (.cells #[u, y] t) := by rw [heap_setCell_same w b 0 _ _ _ h]; rfl
theorem set1 {w : World} {b : Nat} {x y : Value} {t : TypeId} (h : w.heap[b]? = some (.cells #[x, y] t)) (u : Value) : (w.setCell ⟨b, 1, none⟩ u).heap[b]? = some (.cells #[x, u] t) := by rw [heap_setCell_same w b 1 _ _ _ h]; rfl
theorem keep_set {w : World} {b : Nat} {o : Option Obj} (h : w.heap[b]? = o) {a : Addr} (ha : b ≠ a.block) (u : Value) : (w.setCell a u).heap[b]? = o := (heap_setCell_other w a b u ha).trans h
theorem keep_only {w w' : World} {b A : Nat} {o : Obj} (hg : w.grownBy w' (some A)) (h : w.heap[b]? = some o) (hne : b ≠ A) : w'.heap[b]? = some o :=
  (hg.block b (by rcases Nat.lt_or_ge b w.heap.size with h' | h'; exact h'; rw [Array.getElem?_eq_none h'] at h; cases h) (fun e => hne (Option.some.inj e))).trans h
theorem below_only {w w1 w' : World} {A : Nat} (h : Below w.heap.size w w1) (hg : w1.grownBy w' (some A)) (hA : w.heap.size ≤ A) : Below w.heap.size w w' := h.grown hg h.size (fun k hk => by cases hk; exact hA)

theorem infoS : (Tryd.prog.info? 23).map (·.size) = some 2 := by kernel_rfl
theorem results_stamp {fn : Func} {p u : Tmp} (h : fn.results = #[.cell p 23, .tmp u]) (tmps : Array Value) (w : World) (b : Nat) (x y : Value) (hp : tmps.getD p undef = .pointer (some ⟨b, 0, none⟩)) (hv : w.heap[b]? = some (.cells #[x, y] 23)) :
    (results fn tmps).run Tryd.prog w = .ok (.tuple #[.agg #[x, y], tmps.getD u undef]) w := by
  rw [results_cell_tmp h, hp]
  have e : (asAddr (.pointer (some ⟨b, 0, none⟩))).run Tryd.prog w = .ok ⟨b, 0, none⟩ w := rfl
  rw [e]
  simp only [Result.andThen_ok]
  rw [run_loadVar_row w b 23 23 _ _ _ hv Tryd.underlying23 rfl infoS]
  rfl

theorem pr_eq {l : List UInt8} {k : Nat} (h : l.drop k = (fg l 0).2) : (fg (l.drop (k + 1)) 0).1 = pr l := by
  unfold pr
  rw [← h, List.drop_drop]

set_option maxHeartbeats 2000000 in
theorem parse_any (s : ByteArray) (w : World) (T : Tab w) (hs : s.size ≤ 9223372036854775700) :
    Calls Tryd.prog 6 #[.string s] w (ReadEnd s.data.toList w) := by
  obtain ⟨W, hW, hb, hsz, bS, bR, bA, bX⟩ := parse_boxes w s
  go_enter Tryd.func6, Tryd.ntmps6
  go_wp2_with fail
  clear hW
  refine (figures_any s (w.heap.size + 1 + 1) w.heap.size 0 _ (by omega) (by omega) (by exact_mod_cast bA) bS).mono ?_
  rintro e w1 ⟨rfl, k, F, hr⟩
  replace bR := keep_only F.only bR (by omega)
  replace bX := keep_only F.only bX (by omega)
  replace hb := below_only hb F.only (by omega)
  replace bA := F.at'
  replace bS := F.str
  have hk : k ≤ s.size := by have := F.place; omega
  clear F hsz
  rw [List.drop_zero] at hr ⊢
  have hpr := Lib.hid (pr_eq hr)
  clear hr
  have epn : (fg s.data.toList 0).1 = pn s.data.toList := rfl
  rw [epn]
  obtain ⟨x0, x1, z0, z1⟩ := two_cells bX
  have cA := cell_of_one bA
  have zA := free_of_one bA
  have N1 := set0 bX (.int .i64 (pn s.data.toList))
  have A1 := one_setCell (u := .int .i64 ((k : Int) + 1)) (keep_set bA (a := ⟨w.heap.size + 1 + 1 + 1, 0, none⟩) (by simp) (.int .i64 (pn s.data.toList)))
  have N2 := keep_set N1 (a := ⟨w.heap.size + 1 + 1, 0, none⟩) (by first | (simp; done) | (simp; omega)) (.int .i64 ((k : Int) + 1))
  have R2 := keep_set (keep_set bR (a := ⟨w.heap.size + 1 + 1 + 1, 0, none⟩) (by first | (simp; done) | (simp; omega)) (.int .i64 (pn s.data.toList))) (a := ⟨w.heap.size + 1 + 1, 0, none⟩) (by simp) (.int .i64 ((k : Int) + 1))
  have S2 := keep_set (keep_set bS (a := ⟨w.heap.size + 1 + 1 + 1, 0, none⟩) (by first | (simp; done) | (simp; omega)) (.int .i64 (pn s.data.toList))) (a := ⟨w.heap.size + 1 + 1, 0, none⟩) (by first | (simp; done) | (simp; omega)) (.int .i64 ((k : Int) + 1))
  have hb2 := (hb.setCell (p := ⟨w.heap.size + 1 + 1 + 1, 0, none⟩) (by first | (simp; done) | (simp; omega)) (.int .i64 (pn s.data.toList))).setCell (p := ⟨w.heap.size + 1 + 1, 0, none⟩) (by first | (simp; done) | (simp; omega)) (.int .i64 ((k : Int) + 1))
  clear bX bA bS bR hb N1
  have A1 := Lib.hid A1
  have N2 := Lib.hid N2
  have R2 := Lib.hid R2
  have S2 := Lib.hid S2
  have hb2 := Lib.hid hb2
  go_wp2_with fail
  refine (figures_any s (w.heap.size + 1 + 1) w.heap.size (k + 1) _ (by omega) (by omega) (by exact_mod_cast A1.out) S2.out).mono ?_
  rintro e w3 ⟨rfl, k2, F, -⟩
  rw [hpr.out]
  have bS := F.str
  have bR := keep_only F.only R2.out (by omega)
  have bX := keep_only F.only N2.out (by omega)
  have hb := below_only hb2.out F.only (by omega)
  clear F A1 N2 R2 S2 hb2 hpr x0 x1 z0 z1 cA zA hk
  obtain ⟨x0, x1, z0, z1⟩ := two_cells bX
  have X4 := set1 bX (.int .i64 (pr s.data.toList))
  have R4 := Lib.hid (keep_set bR (a := ⟨w.heap.size + 1 + 1 + 1, 1, none⟩) (by first | (simp; done) | (simp; omega)) (.int .i64 (pr s.data.toList)))
  have S4 := Lib.hid (keep_set bS (a := ⟨w.heap.size + 1 + 1 + 1, 1, none⟩) (by first | (simp; done) | (simp; omega)) (.int .i64 (pr s.data.toList)))
  have hb4 := Lib.hid (hb.setCell (p := ⟨w.heap.size + 1 + 1 + 1, 1, none⟩) (by first | (simp; done) | (simp; omega)) (.int .i64 (pr s.data.toList)))
  clear bX bR bS hb
  obtain ⟨y0, y1, -, -⟩ := two_cells X4
  have X4 := Lib.hid X4
  go_wp2_with fail
  refine (text_any _ _ _ (T.after hb4.out)).mono ?_
  rintro e w5 ⟨rfl, hb5⟩
  have y0 := cell_later hb5 y0
  have y1 := cell_later hb5 y1
  have R5 := later_box hb5 R4.out
  have cS := cell_of_one (later_box hb5 S4.out)
  have hb := then_call hb4.out hb5
  clear hb5 R4 hb4 X4 S4
  obtain ⟨q0, q1, f0, f1⟩ := two_cells R5
  have key : (good s.data.toList ∧ (str (txt (pn s.data.toList) (pr s.data.toList))).toList.isEmpty = false ∧ ((str (txt (pn s.data.toList) (pr s.data.toList))).toList == s.toList) = true) ∨ (¬ good s.data.toList ∧ (str (txt (pn s.data.toList) (pr s.data.toList))).toList.isEmpty = true) ∨
      (¬ good s.data.toList ∧ (str (txt (pn s.data.toList) (pr s.data.toList))).toList.isEmpty = false ∧ ((str (txt (pn s.data.toList) (pr s.data.toList))).toList == s.toList) = false) := by
    rw [str_toList, ByteArray.toList_eq]
    generalize ht : txt (pn s.data.toList) (pr s.data.toList) = t
    by_cases he : t = []
    · refine .inr (.inl ⟨?_, by rw [he]; rfl⟩)
      rintro ⟨h1, h2⟩
      rw [ht, he] at h1
      exact h2 h1.symm
    · have hi : t.isEmpty = false := by cases t with | nil => exact absurd rfl he | cons _ _ => rfl
      by_cases h2 : t = s.data.toList
      · exact .inl ⟨⟨ht.trans h2, h2 ▸ he⟩, hi, by rw [← h2]; exact beq_self_eq_true _⟩
      · exact .inr (.inr ⟨fun h => h2 (ht.symm.trans h.1), hi, beq_eq_false_iff_ne.2 h2⟩)
  rcases key with ⟨g, e1, e2⟩ | ⟨g, e1⟩ | ⟨g, e1, e2⟩
  · have g := Lib.hid g
    have fin := Lib.hid (set1 (set0 R5 (.int .i64 (pn s.data.toList))) (.int .i64 (pr s.data.toList)))
    have R5 := Lib.hid R5
    go_wp2
    refine bodyPost_ret (results_stamp rfl _ _ _ _ _ rfl fin.out) rfl ⟨_, .inl ⟨g.out, rfl⟩, rfl, (hb.setCell (by first | (simp; done) | (simp; omega)) _).setCell (by first | (simp; done) | (simp; omega)) _⟩
  all_goals
    have g := Lib.hid g
    have fin := Lib.hid (set1 (set0 R5 (.int .i64 0)) (.int .i64 0))
    have R5 := Lib.hid R5
    go_wp2
    refine bodyPost_ret (results_stamp rfl _ _ _ _ _ rfl fin.out) rfl ⟨_, .inr ⟨g.out, rfl⟩, rfl, (hb.setCell (by first | (simp; done) | (simp; omega)) _).setCell (by first | (simp; done) | (simp; omega)) _⟩

end Go.Proofs.YtmihcfjlhljmoaaDoor
