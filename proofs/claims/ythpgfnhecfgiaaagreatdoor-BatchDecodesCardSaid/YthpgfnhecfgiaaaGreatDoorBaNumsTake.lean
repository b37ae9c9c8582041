/-
  An operation's numbers handed out one by one, in the order of their columns, to each of three closures.
-/
import Derived.Test.YthpgfnhecfgiaaaGreatDoorBaNums
namespace Go.Proofs.YthpgfnhecfgiaaaGreatDoor
open Go.RowKit Go.Sort
set_option maxRecDepth 20000
set_option maxHeartbeats 4000000 in
theorem numbers_take {c0 c1 c2 : Value} {b off : Nat} {Inv : List (Nat × Obj) → Nat → World → Prop} (hI : Hands 53 [c0, c1, c2] b off Inv) (H : List (Nat × Obj)) (W : World) (h0 : Inv H 0 W) :
    Calls Tryz.prog 44 #[.pointer (some ⟨b, off, none⟩), .func (.func 53) #[] #[c0, c1, c2]] W fun e W' => e = .returned (.tuple #[]) ∧ ∃ x, Inv (x :: H) 21 W' := by
  obtain ⟨box, drw, held, call⟩ := hI
  have call0 : ∀ K, Inv H 0 K → Calls Tryz.prog 53 #[.int .i64 1, .pointer (some ⟨b, off, none⟩), c0, c1, c2] K fun e W' => e = .returned (.tuple #[]) ∧ Inv H 1 W' := fun K h => call H 0 K (by omega) h
  have call1 : ∀ K, Inv H 1 K → Calls Tryz.prog 53 #[.int .i64 0, .pointer (some ⟨b, off + 1, none⟩), c0, c1, c2] K fun e W' => e = .returned (.tuple #[]) ∧ Inv H 2 W' := fun K h => call H 1 K (by omega) h
  have call2 : ∀ K, Inv H 2 K → Calls Tryz.prog 53 #[.int .i64 1, .pointer (some ⟨b, off + 2, none⟩), c0, c1, c2] K fun e W' => e = .returned (.tuple #[]) ∧ Inv H 3 W' := fun K h => call H 2 K (by omega) h
  have call3 : ∀ K, Inv H 3 K → Calls Tryz.prog 53 #[.int .i64 1, .pointer (some ⟨b, off + 3, none⟩), c0, c1, c2] K fun e W' => e = .returned (.tuple #[]) ∧ Inv H 4 W' := fun K h => call H 3 K (by omega) h
  have call4 : ∀ K, Inv H 4 K → Calls Tryz.prog 53 #[.int .i64 1, .pointer (some ⟨b, off + 4, none⟩), c0, c1, c2] K fun e W' => e = .returned (.tuple #[]) ∧ Inv H 5 W' := fun K h => call H 4 K (by omega) h
  have call5 : ∀ K, Inv H 5 K → Calls Tryz.prog 53 #[.int .i64 1, .pointer (some ⟨b, off + 5, none⟩), c0, c1, c2] K fun e W' => e = .returned (.tuple #[]) ∧ Inv H 6 W' := fun K h => call H 5 K (by omega) h
  have call6 : ∀ K, Inv H 6 K → Calls Tryz.prog 53 #[.int .i64 1, .pointer (some ⟨b, off + 6, none⟩), c0, c1, c2] K fun e W' => e = .returned (.tuple #[]) ∧ Inv H 7 W' := fun K h => call H 6 K (by omega) h
  have call7 : ∀ K, Inv H 7 K → Calls Tryz.prog 53 #[.int .i64 1, .pointer (some ⟨b, off + 7, none⟩), c0, c1, c2] K fun e W' => e = .returned (.tuple #[]) ∧ Inv H 8 W' := fun K h => call H 7 K (by omega) h
  have call8 : ∀ K, Inv H 8 K → Calls Tryz.prog 53 #[.int .i64 1, .pointer (some ⟨b, off + 8, none⟩), c0, c1, c2] K fun e W' => e = .returned (.tuple #[]) ∧ Inv H 9 W' := fun K h => call H 8 K (by omega) h
  have call9 : ∀ K, Inv H 9 K → Calls Tryz.prog 53 #[.int .i64 1, .pointer (some ⟨b, off + 9, none⟩), c0, c1, c2] K fun e W' => e = .returned (.tuple #[]) ∧ Inv H 10 W' := fun K h => call H 9 K (by omega) h
  have call10 : ∀ K, Inv H 10 K → Calls Tryz.prog 53 #[.int .i64 0, .pointer (some ⟨b, off + 10, none⟩), c0, c1, c2] K fun e W' => e = .returned (.tuple #[]) ∧ Inv H 11 W' := fun K h => call H 10 K (by omega) h
  have call11 : ∀ K, Inv H 11 K → Calls Tryz.prog 53 #[.int .i64 1, .pointer (some ⟨b, off + 11, none⟩), c0, c1, c2] K fun e W' => e = .returned (.tuple #[]) ∧ Inv H 12 W' := fun K h => call H 11 K (by omega) h
  have call12 : ∀ K, Inv H 12 K → Calls Tryz.prog 53 #[.int .i64 0, .pointer (some ⟨b, off + 12, none⟩), c0, c1, c2] K fun e W' => e = .returned (.tuple #[]) ∧ Inv H 13 W' := fun K h => call H 12 K (by omega) h
  have call13 : ∀ K, Inv H 13 K → Calls Tryz.prog 53 #[.int .i64 0, .pointer (some ⟨b, off + 13, none⟩), c0, c1, c2] K fun e W' => e = .returned (.tuple #[]) ∧ Inv H 14 W' := fun K h => call H 13 K (by omega) h
  have call14 : ∀ K, Inv H 14 K → Calls Tryz.prog 53 #[.int .i64 0, .pointer (some ⟨b, off + 14, none⟩), c0, c1, c2] K fun e W' => e = .returned (.tuple #[]) ∧ Inv H 15 W' := fun K h => call H 14 K (by omega) h
  go_enter Tryz.func44, Tryz.ntmps44
  go_wp2_with (first | (go_at_call 53; refine (call1 _ h1).mono ?_; rintro e W2 ⟨rfl, h2⟩; clear h1 call1) | (go_at_call 53; refine (call0 _ h0).mono ?_; rintro e W1 ⟨rfl, h1⟩; clear h0 call0))
  refine wp_loop_rounds 9 ?_
  rw [rounds_succ]
  go_wp2_with (go_at_call 53; refine (call2 _ h2).mono ?_; rintro e W3 ⟨rfl, h3⟩; clear h2 call2)
  rw [rounds_succ]
  go_wp2_with (go_at_call 53; refine (call3 _ h3).mono ?_; rintro e W4 ⟨rfl, h4⟩; clear h3 call3)
  rw [rounds_succ]
  go_wp2_with (go_at_call 53; refine (call4 _ h4).mono ?_; rintro e W5 ⟨rfl, h5⟩; clear h4 call4)
  rw [rounds_succ]
  go_wp2_with (go_at_call 53; refine (call5 _ h5).mono ?_; rintro e W6 ⟨rfl, h6⟩; clear h5 call5)
  rw [rounds_succ]
  go_wp2_with (go_at_call 53; refine (call6 _ h6).mono ?_; rintro e W7 ⟨rfl, h7⟩; clear h6 call6)
  rw [rounds_succ]
  go_wp2_with (go_at_call 53; refine (call7 _ h7).mono ?_; rintro e W8 ⟨rfl, h8⟩; clear h7 call7)
  rw [rounds_succ]
  go_wp2_with (go_at_call 53; refine (call8 _ h8).mono ?_; rintro e W9 ⟨rfl, h9⟩; clear h8 call8)
  rw [rounds_succ]
  go_wp2_with (go_at_call 53; refine (call9 _ h9).mono ?_; rintro e W10 ⟨rfl, h10⟩; clear h9 call9)
  rw [rounds_succ]
  go_wp2_with (first | (go_at_call 53; refine (call14 _ h14).mono ?_; rintro e W15 ⟨rfl, h15⟩; clear h14 call14) | (go_at_call 53; refine (call13 _ h13).mono ?_; rintro e W14 ⟨rfl, h14⟩; clear h13 call13) | (go_at_call 53; refine (call12 _ h12).mono ?_; rintro e W13 ⟨rfl, h13⟩; clear h12 call12) | (go_at_call 53; refine (call11 _ h11).mono ?_; rintro e W12 ⟨rfl, h12⟩; clear h11 call11) | (go_at_call 53; refine (call10 _ h10).mono ?_; rintro e W11 ⟨rfl, h11⟩; clear h10 call10))
  go_region
  have h15 := drw _ _ _ (box H 15 W15 (Obj.cells #[.pointer (some ⟨b, off + 15, none⟩), .pointer (some ⟨b, off + 20, none⟩), .pointer (some ⟨b, off + 23, none⟩)] 131) h15)
  obtain ⟨q, hq⟩ : ∃ q, W15.heap.size = q := ⟨_, rfl⟩
  obtain ⟨W, hW⟩ : ∃ X, (W15.alloc (Obj.cells #[.pointer (some ⟨b, off + 15, none⟩), .pointer (some ⟨b, off + 20, none⟩), .pointer (some ⟨b, off + 23, none⟩)] 131)).drew = X := ⟨_, rfl⟩
  rw [hW, hq] at h15
  rw [hW]
  try rw [hq]
  obtain ⟨H2, hH2⟩ : ∃ H2, (q, (Obj.cells #[.pointer (some ⟨b, off + 15, none⟩), .pointer (some ⟨b, off + 20, none⟩), .pointer (some ⟨b, off + 23, none⟩)] 131)) :: H = H2 := ⟨_, rfl⟩
  have held2 : ∀ k K, Inv H2 k K → K.heap[q]? = some (Obj.cells #[.pointer (some ⟨b, off + 15, none⟩), .pointer (some ⟨b, off + 20, none⟩), .pointer (some ⟨b, off + 23, none⟩)] 131) := fun k K h => held H2 k K q _ h (by rw [← hH2]; exact List.mem_cons_self)
  rw [hH2] at h15
  have call15 : ∀ K, Inv H2 15 K → Calls Tryz.prog 53 #[.int .i64 0, .pointer (some ⟨b, off + 15, none⟩), c0, c1, c2] K fun e W' => e = .returned (.tuple #[]) ∧ Inv H2 16 W' := fun K h => call H2 15 K (by omega) h
  have call16 : ∀ K, Inv H2 16 K → Calls Tryz.prog 53 #[.int .i64 0, .pointer (some ⟨b, off + 16, none⟩), c0, c1, c2] K fun e W' => e = .returned (.tuple #[]) ∧ Inv H2 17 W' := fun K h => call H2 16 K (by omega) h
  have call17 : ∀ K, Inv H2 17 K → Calls Tryz.prog 53 #[.int .i64 0, .pointer (some ⟨b, off + 20, none⟩), c0, c1, c2] K fun e W' => e = .returned (.tuple #[]) ∧ Inv H2 18 W' := fun K h => call H2 17 K (by omega) h
  have call18 : ∀ K, Inv H2 18 K → Calls Tryz.prog 53 #[.int .i64 0, .pointer (some ⟨b, off + 21, none⟩), c0, c1, c2] K fun e W' => e = .returned (.tuple #[]) ∧ Inv H2 19 W' := fun K h => call H2 18 K (by omega) h
  have call19 : ∀ K, Inv H2 19 K → Calls Tryz.prog 53 #[.int .i64 0, .pointer (some ⟨b, off + 23, none⟩), c0, c1, c2] K fun e W' => e = .returned (.tuple #[]) ∧ Inv H2 20 W' := fun K h => call H2 19 K (by omega) h
  have call20 : ∀ K, Inv H2 20 K → Calls Tryz.prog 53 #[.int .i64 0, .pointer (some ⟨b, off + 24, none⟩), c0, c1, c2] K fun e W' => e = .returned (.tuple #[]) ∧ Inv H2 21 W' := fun K h => call H2 20 K (by omega) h
  clear call held box drw hW
  have e0 := cell_held (k := 0) (held2 _ _ h15) rfl
  go_wp2_with fail
  refine wp_loop_rounds 4 ?_
  rw [rounds_succ]
  go_wp2_with (first | (go_at_call 53; refine (call16 _ h16).mono ?_; rintro e W17 ⟨rfl, h17⟩; clear h16 call16; have e1 := cell_held (k := 1) (held2 _ _ h17) rfl) | (go_at_call 53; refine (call15 _ h15).mono ?_; rintro e W16 ⟨rfl, h16⟩; clear h15 call15))
  rw [rounds_succ]
  go_wp2_with (first | (go_at_call 53; refine (call18 _ h18).mono ?_; rintro e W19 ⟨rfl, h19⟩; clear h18 call18; have e2 := cell_held (k := 2) (held2 _ _ h19) rfl) | (go_at_call 53; refine (call17 _ h17).mono ?_; rintro e W18 ⟨rfl, h18⟩; clear h17 call17))
  rw [rounds_succ]
  go_wp2_with (first | (go_at_call 53; refine (call20 _ h20).mono ?_; rintro e W21 ⟨rfl, h21⟩; clear h20 call20) | (go_at_call 53; refine (call19 _ h19).mono ?_; rintro e W20 ⟨rfl, h20⟩; clear h19 call19))
  rw [rounds_succ]
  go_wp2_with fail
  refine bodyPost_end (results_none rfl _ _ _) rfl ?_
  subst hH2
  exact ⟨rfl, _, h21⟩
end Go.Proofs.YthpgfnhecfgiaaaGreatDoor
