/-
  What the program puts at the end of a history: a change, the call at which it was done; a call that made all durable.
-/
import Derived.Test.YtpkiapjcilapoaaFkDisk
import Derived.Deep.RegionLaw
namespace Go.Proofs.Ytpkiapjcilapoaa
open Go.RowKit Go.Sort

theorem elemB : ElemK Try.prog 73 30 (.slice none 0 0) 1 24 := ⟨Try.underlying73, by kernel_rfl, rfl, by omega, by omega, fun W => by kernel_rfl⟩
theorem elemI : ElemK Try.prog 60 3 (.int .i64 0) 1 8 := ⟨Try.underlying60, by kernel_rfl, rfl, by omega, by omega, fun W => by kernel_rfl⟩
theorem elemNam : ElemK Try.prog 59 83 (.agg #[.pointer none, .string ByteArray.empty, .string ByteArray.empty]) 3 40 := ⟨Try.underlying59, by kernel_rfl, rfl, by omega, by omega, fun W => by kernel_rfl⟩

theorem own_form {w : World} {base k : Nat} {e : TypeId} {v : Value} {xs : List (List Value)} (h : OwnRows w base e k v xs) : ∃ A m c, v = .slice A m c := by
  obtain ⟨A, c, h1, _⟩ := h.rows
  exact ⟨A, _, c, h1⟩
theorem ints_snoc (ks : List Nat) (c : Nat) : (ks ++ [c]).map intCell = ks.map intCell ++ [intCell c] := by simp

/-- A block's cells, kept. -/
theorem cells_kept {F : List Nat} {w w' : World} {q : Nat} {cs : Array Value} {t : TypeId} (hq : w.heap[q]? = some (.cells cs t (0, 0))) (ht : Turns F w w') (hF : q ∉ F) : w'.heap[q]? = some (.cells cs t (0, 0)) :=
  (ht.block q (Array.getElem?_eq_some_iff.1 hq).1 hF).trans hq
theorem cell_at {w : World} {q i : Nat} {cs : Array Value} {t : TypeId} {v : Value} (hq : w.heap[q]? = some (.cells cs t (0, 0))) (hi : cs[i]? = some v) : w.cell? ⟨q, i, none⟩ = some v := by simp [World.cell?, hq, hi]
theorem frozen_at {w : World} {q : Nat} (i : Nat) {cs : Array Value} {t : TypeId} (hq : w.heap[q]? = some (.cells cs t (0, 0))) : w.frozen? ⟨q, i, none⟩ = false := by simp [World.frozen?, hq]

theorem one_cell {x : Value} (h : x.oneCell' = true) : ∀ y ∈ [[x]], ∀ u ∈ y, u.oneCell' = true := by
  intro y hy u hu
  simp at hy; subst hy; simp at hu; subst hu; exact h
theorem le_alloc {n : Nat} {w : World} (h : n ≤ w.heap.size) (o : Obj) : n ≤ (w.alloc o).heap.size := Nat.le_trans h (below_box1 w o).size
theorem le_set {n : Nat} {w : World} (h : n ≤ w.heap.size) (a : Addr) (v : Value) : n ≤ (w.setCell a v).heap.size := by simpa [World.setCell] using h
theorem le_turn {F : List Nat} {n : Nat} {w w' : World} (h : n ≤ w.heap.size) (ht : Turns F w w') : n ≤ w'.heap.size := Nat.le_trans h ht.size
theorem fits_one {α : Type} {l : List α} {m : List α} (h : l.length ≤ 10000) (hm : m.length ≤ 1) : (l.length + m.length) * 64 ≤ 140737488355328 := by omega

theorem rows_box_at {k : Nat} (w : World) (b : Nat) (hb : b = w.heap.size) (e : TypeId) (x : List Value) (hk : x.length = k) (cs : Array Value) (hcs : cs.toList = x) : RowsAt k (w.alloc (.cells cs e)) (.slice (some ⟨b, 0, none⟩) 1 1) [x] := by
  subst hb; exact rows_box w e x hk cs hcs
theorem set_size (w : World) (a : Addr) (v : Value) : w.heap.size = (w.setCell a v).heap.size := by simp [World.setCell]

theorem nam_one (a : Nam) : ∀ y ∈ [namCells a], ∀ u ∈ y, u.oneCell' = true := by
  intro y hy u hu
  simp at hy; subst hy
  simp [namCells] at hu
  rcases hu with rfl | rfl | rfl <;> rfl

/-- Two rows that grew, one behind the other, and were stored each in its cell. -/
theorem hist_done {n q i j k : Nat} {e e' : TypeId} {w w1 w2 w4 : World} {o : Obj} {cv kv v2 v4 : Value} {X Y : List (List Value)} (hqlt : q < w.heap.size) (hx1 : cv.ownBlock ≠ some q) (hx2 : kv.ownBlock ≠ some q) (hx3 : ∀ b, cv.ownBlock = some b → kv.ownBlock ≠ some b)
    (hkb : ∀ b, kv.ownBlock = some b → b < w.heap.size) (h1 : Below w.heap.size w w1) (h2 : Turns cv.ownBlock.toList w1 w2) (hown2 : OwnRows w2 n e k v2 X) (hw2 : ∀ b, v2.ownBlock = some b → cv.ownBlock = some b ∨ w1.heap.size ≤ b)
    (h4 : Turns kv.ownBlock.toList ((w2.setCell ⟨q, i, none⟩ v2).alloc o) w4) (hown4 : OwnRows w4 n e' 1 v4 Y) (hw4 : ∀ b, v4.ownBlock = some b → kv.ownBlock = some b ∨ ((w2.setCell ⟨q, i, none⟩ v2).alloc o).heap.size ≤ b) :
    OwnRows (w4.setCell ⟨q, j, none⟩ v4) n e k v2 X ∧ OwnRows (w4.setCell ⟨q, j, none⟩ v4) n e' 1 v4 Y ∧ Turns (q :: (cv.ownBlock.toList ++ kv.ownBlock.toList)) w (w4.setCell ⟨q, j, none⟩ v4) ∧
      (∀ b, v2.ownBlock = some b → cv.ownBlock = some b ∨ w.heap.size ≤ b) ∧ (∀ b, v4.ownBlock = some b → kv.ownBlock = some b ∨ w.heap.size ≤ b) ∧ (∀ b, v2.ownBlock = some b → v4.ownBlock ≠ some b) := by
  have s1 := h1.size
  have s2 := h2.size
  have s3 : w2.heap.size ≤ ((w2.setCell ⟨q, i, none⟩ v2).alloc o).heap.size := le_alloc (le_set (Nat.le_refl _) _ _) _
  have b2 : ∀ b, v2.ownBlock = some b → b < w2.heap.size := fun b hb => (hown2.block b hb).2
  have q2 : v2.ownBlock ≠ some q := fun hv => by
    rcases hw2 q hv with h | h
    · exact hx1 h
    · omega
  have q4 : v4.ownBlock ≠ some q := fun hv => by
    rcases hw4 q hv with h | h
    · exact hx2 h
    · omega
  have l2 : ∀ b, v2.ownBlock = some b → cv.ownBlock = some b ∨ w.heap.size ≤ b := fun b hb => by
    rcases hw2 b hb with h | h
    · exact .inl h
    · exact .inr (by omega)
  have d2 : ∀ b, v2.ownBlock = some b → kv.ownBlock ≠ some b := fun b hb hk => by
    rcases l2 b hb with h | h
    · exact hx3 b h hk
    · have := hkb b hk; omega
  have t3 : Turns [q] w2 ((w2.setCell ⟨q, i, none⟩ v2).alloc o) := (Turns.set (F := [q]) w2 v2 (a := ⟨q, i, none⟩) (by simp)).box o
  have t5 : Turns [q] w4 (w4.setCell ⟨q, j, none⟩ v4) := Turns.set _ _ (by simp)
  refine ⟨((hown2.turns t3 (fun b hb => by simp; rintro rfl; exact q2 hb)).turns h4 (fun b hb => by simpa using d2 b hb)).turns t5 (fun b hb => by simp; rintro rfl; exact q2 hb), hown4.turns t5 (fun b hb => by simp; rintro rfl; exact q4 hb), ?_, l2, ?_, ?_⟩
  · have k1 : Turns (q :: (cv.ownBlock.toList ++ kv.ownBlock.toList)) w w1 := (Turns.of_below (F := []) h1).mono (by simp)
    have k2 := k1.trans h2 (fun b hb => .inl (by simp at hb; simp [hb]))
    have k3 := k2.trans t3 (fun b hb => .inl (by simp at hb; simp [hb]))
    have k4 := k3.trans h4 (fun b hb => .inl (by simp at hb; simp [hb]))
    exact k4.trans t5 (fun b hb => .inl (by simp at hb; simp [hb]))
  · intro b hb
    rcases hw4 b hb with h | h
    · exact .inl h
    · exact .inr (by omega)
  · intro b hb h4'
    rcases hw4 b h4' with h | h
    · exact d2 b hb h
    · have := b2 b hb; omega

theorem sync_done {n q j : Nat} {e : TypeId} {w w1 w4 : World} {sv v4 : Value} {Y : List (List Value)} (hqlt : q < w.heap.size) (hx1 : sv.ownBlock ≠ some q) (h1 : Below w.heap.size w w1) (hown4 : OwnRows w4 n e 1 v4 Y) (h4 : Turns sv.ownBlock.toList w1 w4)
    (hw4 : ∀ b, v4.ownBlock = some b → sv.ownBlock = some b ∨ w1.heap.size ≤ b) :
    OwnRows (w4.setCell ⟨q, j, none⟩ v4) n e 1 v4 Y ∧ Turns (q :: sv.ownBlock.toList) w (w4.setCell ⟨q, j, none⟩ v4) ∧ (∀ b, v4.ownBlock = some b → sv.ownBlock = some b ∨ w.heap.size ≤ b) := by
  have s1 := h1.size
  have q4 : v4.ownBlock ≠ some q := fun hv => by
    rcases hw4 q hv with h | h
    · exact hx1 h
    · omega
  have t5 : Turns [q] w4 (w4.setCell ⟨q, j, none⟩ v4) := Turns.set _ _ (by simp)
  refine ⟨hown4.turns t5 (fun b hb => by simp; rintro rfl; exact q4 hb), ?_, ?_⟩
  · have k1 : Turns (q :: sv.ownBlock.toList) w w1 := (Turns.of_below (F := []) h1).mono (by simp)
    have k4 := k1.trans h4 (fun b hb => .inl (by simp at hb; simp [hb]))
    exact k4.trans t5 (fun b hb => .inl (by simp at hb; simp [hb]))
  · intro b hb
    rcases hw4 b hb with h | h
    · exact .inl h
    · exact .inr (by omega)

set_option maxRecDepth 20000 in
set_option maxHeartbeats 4000000 in
theorem histAddB_any {n q : Nat} {w : World} {cv kv sv z : Value} {xs : List (List Value)} {ks : List Nat} (hq : w.heap[q]? = some (.cells #[cv, kv, sv, z] 77 (0, 0))) (hc : OwnRows w n 30 1 cv xs) (hk : OwnRows w n 3 1 kv (ks.map intCell))
    (hx1 : cv.ownBlock ≠ some q) (hx2 : kv.ownBlock ≠ some q) (hx3 : ∀ b, cv.ownBlock = some b → kv.ownBlock ≠ some b) (hl : xs.length ≤ 10000) (hlk : ks.length ≤ 10000) (hn : n ≤ w.heap.size) (A : Option Addr) (m cp c : Nat) :
    Calls Try.prog 58 #[.pointer (some ⟨q, 0, none⟩), .int .i64 (c : Nat), .slice A m cp] w fun e w' => e = .returned (.tuple #[]) ∧ ∃ cv' kv', w'.heap[q]? = some (.cells #[cv', kv', sv, z] 77 (0, 0)) ∧
      OwnRows w' n 30 1 cv' (xs ++ [[.slice A m cp]]) ∧ OwnRows w' n 3 1 kv' ((ks ++ [c]).map intCell) ∧ Turns (q :: (cv.ownBlock.toList ++ kv.ownBlock.toList)) w w' ∧
      (∀ b, cv'.ownBlock = some b → cv.ownBlock = some b ∨ w.heap.size ≤ b) ∧ (∀ b, kv'.ownBlock = some b → kv.ownBlock = some b ∨ w.heap.size ≤ b) ∧ (∀ b, cv'.ownBlock = some b → kv'.ownBlock ≠ some b) := by
  have hqlt : q < w.heap.size := (Array.getElem?_eq_some_iff.1 hq).1
  have hc0 : w.cell? ⟨q, 0, none⟩ = some cv := cell_at hq rfl
  have hk' := Lib.hid hk
  have hlk' : (ks.map intCell).length ≤ 10000 := by simpa using hlk
  go_enter Try.func58, Try.ntmps58
  go_wp2_with (first
    | (at_builtin; refine append_rows (v := cv) elemB rfl (.tmp 10) (.tmp 12) rfl n rfl (hc.alloc _) rfl (rows_box w _ [.slice A m cp] rfl _ rfl) (by simp) (one_cell (x := .slice A m cp) rfl) (fits_one hl (by simp)) (le_alloc hn _) ?_; intro v2 w2 hown2 ht2 hw2; obtain ⟨A2, m2, c2, rfl⟩ := own_form hown2; have hq2 := cells_kept (cells_kept hq (Turns.of_below (below_box1 w _)) (List.not_mem_nil)) ht2 (by simpa using hx1); have hk3 := ((hk'.out.alloc (.cells #[.slice A m cp] 30)).turns ht2 (fun b hb => by simp; exact fun h => hx3 b h hb)).turns (F := [q]) (Turns.set _ (.slice A2 m2 c2) (a := ⟨q, 0, none⟩) (by simp)) (fun b hb => by simp; rintro rfl; exact hx2 hb); have hq3 := heap_set_at hq2 0 (.slice A2 m2 c2); have hr1 := cell_at (i := 0) hq2 rfl; have hr2 := frozen_at 0 hq2; have hr3 := cell_at (i := 1) hq2 rfl; have hn3 := le_set (le_turn (le_alloc hn _) ht2) ⟨q, 0, none⟩ (.slice A2 m2 c2))
    | (at_builtin; refine append_rows (v := kv) elemI rfl (.tmp 20) (.tmp 22) rfl n rfl (hk3.alloc _) rfl (rows_box_at (w2.setCell ⟨q, 0, none⟩ (.slice A2 m2 c2)) _ (set_size _ _ _) _ [.int .i64 (c : Nat)] rfl #[.int .i64 (c : Nat)] rfl) (by simp) (one_cell (x := .int .i64 (c : Nat)) rfl) (fits_one hlk' (by simp)) (le_alloc hn3 _) ?_; intro v4 w4 hown4 ht4 hw4; obtain ⟨A4, m4, c4, rfl⟩ := own_form hown4; have hq4 := cells_kept (cells_kept hq3 (Turns.of_below (below_box1 _ _)) (List.not_mem_nil)) ht4 (by simpa using hx2); have hr4 := cell_at (i := 1) hq4 rfl; have hr5 := frozen_at 1 hq4))
  go_end0
  obtain ⟨r1, r2, r3, r4, r5, r6⟩ := hist_done (j := 1) hqlt hx1 hx2 hx3 (fun b hb => (hk.block b hb).2) (below_box1 w _) ht2 hown2 hw2 ht4 hown4 hw4
  exact ⟨rfl, _, _, by simpa using heap_set_at hq4 1 (.slice A4 m4 c4), r1, by rw [ints_snoc]; exact r2, r3, r4, r5, r6⟩

set_option maxRecDepth 20000 in
set_option maxHeartbeats 4000000 in
theorem histAddN_any {n q : Nat} {w : World} {mv cv kv sv z : Value} {xs : List (List Value)} {ks : List Nat} (hq : w.heap[q]? = some (.cells #[mv, cv, kv, sv, z] 64 (0, 0))) (hc : OwnRows w n 83 3 cv xs) (hk : OwnRows w n 3 1 kv (ks.map intCell))
    (hx1 : cv.ownBlock ≠ some q) (hx2 : kv.ownBlock ≠ some q) (hx3 : ∀ b, cv.ownBlock = some b → kv.ownBlock ≠ some b) (hl : xs.length ≤ 10000) (hlk : ks.length ≤ 10000) (hn : n ≤ w.heap.size) (a : Nam) (c : Nat) :
    Calls Try.prog 59 #[.pointer (some ⟨q, 1, none⟩), .int .i64 (c : Nat), .agg #[.pointer (some ⟨a.q, 0, none⟩), .string a.from_, .string a.to]] w fun e w' => e = .returned (.tuple #[]) ∧ ∃ cv' kv', w'.heap[q]? = some (.cells #[mv, cv', kv', sv, z] 64 (0, 0)) ∧
      OwnRows w' n 83 3 cv' (xs ++ [namCells a]) ∧ OwnRows w' n 3 1 kv' ((ks ++ [c]).map intCell) ∧ Turns (q :: (cv.ownBlock.toList ++ kv.ownBlock.toList)) w w' ∧
      (∀ b, cv'.ownBlock = some b → cv.ownBlock = some b ∨ w.heap.size ≤ b) ∧ (∀ b, kv'.ownBlock = some b → kv.ownBlock = some b ∨ w.heap.size ≤ b) ∧ (∀ b, cv'.ownBlock = some b → kv'.ownBlock ≠ some b) := by
  have hqlt : q < w.heap.size := (Array.getElem?_eq_some_iff.1 hq).1
  have hk' := Lib.hid hk
  have hlk' : (ks.map intCell).length ≤ 10000 := by simpa using hlk
  have hkb : ∀ b, kv.ownBlock = some b → b < w.heap.size := fun b hb => (hk.block b hb).2
  go_enter Try.func59, Try.ntmps59
  go_wp2
  obtain ⟨W1, hW1⟩ : ∃ W1, (w.alloc (.cells #[.pointer (some ⟨a.q, 0, none⟩), .string a.from_, .string a.to] 83)) = W1 := ⟨_, rfl⟩
  have hb1 : Below w.heap.size w W1 := by rw [← hW1]; exact below_box1 _ _
  have hbx : W1.heap[w.heap.size]? = some (.cells #[.pointer (some ⟨a.q, 0, none⟩), .string a.from_, .string a.to] 83 (0, 0)) := by rw [← hW1]; exact heap_alloc_new w _
  have hq1 := cells_kept hq (Turns.of_below hb1) (List.not_mem_nil)
  have e0 := cell_at (i := 0) hbx rfl
  have e1 := cell_at (i := 1) hbx rfl
  have e2 := cell_at (i := 2) hbx rfl
  have g1 := cell_at (i := 1) hq1 rfl
  have hn1 : n ≤ W1.drew.heap.size := Nat.le_trans hn hb1.size
  have hc1 : OwnRows W1.drew n 83 3 cv xs := (hc.below hb1).drew
  have hk1 := Lib.hid (hk.below hb1).drew
  have hq1' : W1.drew.heap[q]? = _ := hq1
  have hb1d := Lib.hid (Below.drew hb1)
  have hqW : q < W1.heap.size := by have := hb1.size; omega
  have hwW : w.heap.size < W1.heap.size := (Array.getElem?_eq_some_iff.1 hbx).1
  rw [hW1]
  clear hc hk hW1
  go_region_law (refine step_append_rows (v := cv) elemNam (by rfl) (.tmp 10) (.tmp 12) (by rfl) n (by rfl) (hc1.alloc _) (by rfl) (rows_box W1.drew _ (namCells a) rfl #[.pointer (some ⟨a.q, 0, none⟩), .string a.from_, .string a.to] rfl) (by simp) (nam_one a) (fits_one hl (by simp)) (le_alloc hn1 _) ?_; intro A2 m2 c2 w2 hown2 ht2 hw2; have hq2 := cells_kept (cells_kept hq1' (Turns.of_below (below_box1 W1.drew _)) (List.not_mem_nil)) ht2 (by simpa using hx1); have hr1 := cell_at (i := 1) hq2 rfl; have hr2 := frozen_at 1 hq2; have hr3 := cell_at (i := 2) hq2 rfl)
  all_goals
    have hk3 := ((hk1.out.alloc (.cells #[.pointer (some ⟨a.q, 0, none⟩), .string a.from_, .string a.to] 83)).turns ht2 (fun b hb => by simp; exact fun h => hx3 b h hb)).turns (F := [q]) (Turns.set _ (.slice A2 m2 c2) (a := ⟨q, 1, none⟩) (by simp)) (fun b hb => by simp; rintro rfl; exact hx2 hb)
    have hq3 := heap_set_at hq2 1 (.slice A2 m2 c2)
    have hn3 := le_set (le_turn (le_alloc hn1 (.cells #[.pointer (some ⟨a.q, 0, none⟩), .string a.from_, .string a.to] 83)) ht2) ⟨q, 1, none⟩ (.slice A2 m2 c2)
    go_wp2_with (at_builtin; refine append_rows (v := kv) elemI rfl (.tmp 20) (.tmp 22) rfl n rfl (hk3.alloc _) rfl (rows_box_at (w2.setCell ⟨q, 1, none⟩ (.slice A2 m2 c2)) _ (set_size _ _ _) _ [.int .i64 (c : Nat)] rfl #[.int .i64 (c : Nat)] rfl) (by simp) (one_cell (x := .int .i64 (c : Nat)) rfl) (fits_one hlk' (by simp)) (le_alloc hn3 _) ?_; intro v4 w4 hown4 ht4 hw4; obtain ⟨A4, m4, c4, rfl⟩ := own_form hown4; have hq4 := cells_kept (cells_kept hq3 (Turns.of_below (below_box1 _ _)) (List.not_mem_nil)) ht4 (by simpa using hx2); have hr4 := cell_at (i := 2) hq4 rfl; have hr5 := frozen_at 2 hq4)
    go_end0
    obtain ⟨r1, r2, r3, r4, r5, r6⟩ := hist_done (j := 2) hqlt hx1 hx2 hx3 hkb (hb1d.out.trans ((below_box1 W1.drew _).mono hb1.size)) ht2 hown2 hw2 ht4 hown4 hw4
    exact ⟨rfl, _, _, by simpa using heap_set_at hq4 2 (.slice A4 m4 c4), r1, by rw [ints_snoc]; exact r2, r3, r4, r5, r6⟩

set_option maxRecDepth 20000 in
set_option maxHeartbeats 4000000 in
theorem histSyncB_any {n q : Nat} {w : World} {cv kv sv z : Value} {ss : List Nat} (hq : w.heap[q]? = some (.cells #[cv, kv, sv, z] 77 (0, 0))) (hk : OwnRows w n 3 1 sv (ss.map intCell))
    (hx1 : sv.ownBlock ≠ some q) (hlk : ss.length ≤ 10000) (hn : n ≤ w.heap.size) (c : Nat) :
    Calls Try.prog 29 #[.pointer (some ⟨q, 0, none⟩), .int .i64 (c : Nat)] w fun e w' => e = .returned (.tuple #[]) ∧ ∃ sv', w'.heap[q]? = some (.cells #[cv, kv, sv', z] 77 (0, 0)) ∧
      OwnRows w' n 3 1 sv' ((ss ++ [c]).map intCell) ∧ Turns (q :: sv.ownBlock.toList) w w' ∧ (∀ b, sv'.ownBlock = some b → sv.ownBlock = some b ∨ w.heap.size ≤ b) := by
  have hqlt : q < w.heap.size := (Array.getElem?_eq_some_iff.1 hq).1
  have hc0 : w.cell? ⟨q, 2, none⟩ = some sv := cell_at hq rfl
  have hlk' : (ss.map intCell).length ≤ 10000 := by simpa using hlk
  go_enter Try.func29, Try.ntmps29
  go_wp2_with (at_builtin; refine append_rows (v := sv) elemI rfl (.tmp 8) (.tmp 10) rfl n rfl (hk.alloc _) rfl (rows_box w _ [.int .i64 (c : Nat)] rfl #[.int .i64 (c : Nat)] rfl) (by simp) (one_cell (x := .int .i64 (c : Nat)) rfl) (fits_one hlk' (by simp)) (le_alloc hn _) ?_; intro v4 w4 hown4 ht4 hw4; obtain ⟨A4, m4, c4, rfl⟩ := own_form hown4; have hq4 := cells_kept (cells_kept hq (Turns.of_below (below_box1 _ _)) (List.not_mem_nil)) ht4 (by simpa using hx1); have hr4 := cell_at (i := 2) hq4 rfl; have hr5 := frozen_at 2 hq4)
  go_end0
  obtain ⟨r1, r2, r3⟩ := sync_done (j := 2) hqlt hx1 (below_box1 w _) hown4 ht4 hw4
  exact ⟨rfl, _, by simpa using heap_set_at hq4 2 (.slice A4 m4 c4), by rw [ints_snoc]; exact r1, r2, r3⟩

set_option maxRecDepth 20000 in
set_option maxHeartbeats 4000000 in
theorem histSyncN_any {n q : Nat} {w : World} {mv cv kv sv z : Value} {ss : List Nat} (hq : w.heap[q]? = some (.cells #[mv, cv, kv, sv, z] 64 (0, 0))) (hk : OwnRows w n 3 1 sv (ss.map intCell))
    (hx1 : sv.ownBlock ≠ some q) (hlk : ss.length ≤ 10000) (hn : n ≤ w.heap.size) (c : Nat) :
    Calls Try.prog 31 #[.pointer (some ⟨q, 1, none⟩), .int .i64 (c : Nat)] w fun e w' => e = .returned (.tuple #[]) ∧ ∃ sv', w'.heap[q]? = some (.cells #[mv, cv, kv, sv', z] 64 (0, 0)) ∧
      OwnRows w' n 3 1 sv' ((ss ++ [c]).map intCell) ∧ Turns (q :: sv.ownBlock.toList) w w' ∧ (∀ b, sv'.ownBlock = some b → sv.ownBlock = some b ∨ w.heap.size ≤ b) := by
  have hqlt : q < w.heap.size := (Array.getElem?_eq_some_iff.1 hq).1
  have hc0 : w.cell? ⟨q, 3, none⟩ = some sv := cell_at hq rfl
  have hlk' : (ss.map intCell).length ≤ 10000 := by simpa using hlk
  go_enter Try.func31, Try.ntmps31
  go_wp2_with (at_builtin; refine append_rows (v := sv) elemI rfl (.tmp 8) (.tmp 10) rfl n rfl (hk.alloc _) rfl (rows_box w _ [.int .i64 (c : Nat)] rfl #[.int .i64 (c : Nat)] rfl) (by simp) (one_cell (x := .int .i64 (c : Nat)) rfl) (fits_one hlk' (by simp)) (le_alloc hn _) ?_; intro v4 w4 hown4 ht4 hw4; obtain ⟨A4, m4, c4, rfl⟩ := own_form hown4; have hq4 := cells_kept (cells_kept hq (Turns.of_below (below_box1 _ _)) (List.not_mem_nil)) ht4 (by simpa using hx1); have hr4 := cell_at (i := 3) hq4 rfl; have hr5 := frozen_at 3 hq4)
  go_end0
  obtain ⟨r1, r2, r3⟩ := sync_done (j := 3) hqlt hx1 (below_box1 w _) hown4 ht4 hw4
  exact ⟨rfl, _, by simpa using heap_set_at hq4 3 (.slice A4 m4 c4), by rw [ints_snoc]; exact r1, r2, r3⟩
end Go.Proofs.Ytpkiapjcilapoaa
