/-
  ops.Sort: a copy of the operations, by rising stamps, what is of one stamp as it stood.
-/
import Derived.Test.YteclkaecjogbjaaSoStable
import Derived.Lib.SliceRun
namespace Go.Proofs.Yteclkaecjogbjaa
open Go.RowKit Go.Sort

theorem append_rows0 {P : Program} {t e : TypeId} {z : Value} {k bytes base : Nat} {w : World} {v : Value} {xs : List (List Value)} (E : ElemK P t e z k bytes) {ops : Array Oper} {rest : List Oper} {o : Oper} {a : Act} {Q : Exit → Act → World → Prop} (hgd : o.guard = none) (sv sx : Operand)
    (ho : o.op = .call { callee := .builtin .append, args := #[sv, sx], argTypes := #[t, t] }) {x : Value} {M : List (List Value)}
    (hs : a.eval sv = v) (hown : OwnRows w base e k v xs) (hx : a.eval sx = x) (hr : RowsAt k w x M) (h1 : ∀ y ∈ M, ∀ u ∈ y, u.oneCell' = true) (hle : (xs.length + M.length) * 4096 ≤ 140737488355328) (hbase : base ≤ w.heap.size)
    (h : ∀ A m c w', OwnRows w' base e k (.slice A m c) (xs ++ M) → Below base w w' → wpList P ops Q rest (a.put o.dst (.slice A m c)) w') : wpList P ops Q (o :: rest) a w := by
  obtain ⟨A, m, c, w', hr, h2, _, h4⟩ := run_append_rows0 E o.type hown hr h1 hle hbase
  refine wpList_plain hgd fun K hK => ?_
  unfold Oper.wp execOp
  simp only [ho, resolve, invoke, builtin, Sem.run_bind, Sem.run_pure, Result.andThen_ok, List.map_toArray, List.map_cons, List.map_nil, hs, hx, hr]
  exact hK _ _ (h _ _ _ w' h2 h4)

set_option maxRecDepth 20000 in
set_option maxHeartbeats 2000000 in
theorem cloneOps_any (l : List OpV) (v : Value) (w : World) (h : OpsAt w v l) (hl : l.length ≤ 60) :
    Calls Try.prog 34 #[v] w fun e w' => ∃ v', e = .returned v' ∧ OwnRows w' w.heap.size 31 26 v' (l.map opL) ∧ Below w.heap.size w w' := by
  have hq : ∀ (w : World) (a : Option Addr) (n c n' c' : Nat), (binOp .eql 34 (.slice a n c) (.slice none n' c')).run Try.prog w = .ok (.bool a.isNone) w := fun w a n c n' c' => Lib.run_eql_slice_nil w _ _ a n c n' c' Try.underlying34
  obtain ⟨A, c, rfl, h1, h2, h3, h4, h5⟩ := id h
  have hrow := Lib.hid h
  rcases A with _ | ad
  · have hc := h5 rfl
    subst hc
    rw [List.length_map] at h1
    have hl0 : l = [] := List.eq_nil_of_length_eq_zero (by omega)
    subst hl0
    go_enter Try.func34, Try.ntmps34
    go_wp2
    go_ret
    exact ⟨_, rfl, OwnRows.none_ _ _ _ _, Below.refl _ _⟩
  · obtain ⟨n, hn⟩ : ∃ n, (l.map opL).length = n := ⟨_, rfl⟩
    have hrow2 := hrow.out
    unfold OpsAt at hrow2
    rw [hn] at hrow2 ⊢
    have hrow := Lib.hid hrow2
    clear hrow2 h1 h2 h3 h4 h5 h
    go_enter Try.func34, Try.ntmps34
    go_wp2_with (at_builtin; refine append_rows0 elemO rfl (.tmp 5) (.tmp 6) rfl rfl (own_madeK w _ 26) rfl (hrow.out.below (below_box1 _ _)) (ops_one l) (by simp; omega) (by simp) ?_; intro A2 m2 c2 w2 hO hB)
    go_ret
    exact ⟨_, rfl, by simpa using hO, (below_box1 _ _).trans hB⟩

def lst (l : List OpV) (t : Nat) : OpV := (l[t]?).getD ⟨0, 0, fun _ => 0, 0, 0, 0, 0, 0, 0, 0, ByteArray.empty, ByteArray.empty, ByteArray.empty, 0, 0, false, 0, 0, false⟩
theorem lst_at {l : List OpV} {t : Nat} (h : t < l.length) : l[t]? = some (lst l t) := by unfold lst; rw [List.getElem?_eq_getElem h]; rfl

/-- l' is l by rising stamps, what is of one stamp as it stood. -/
def SortOf (l l' : List OpV) : Prop := ∃ s, Per 0 l.length (fun t => t) s ∧ Srt (lst l) 0 l.length s ∧ l' = (List.range l.length).map fun t => lst l (s t)

theorem Hold.of_own {w : World} {base g n cap : Nat} {l : List OpV} (h : OwnRows w base 31 26 (.slice (some ⟨g, 0, none⟩) n cap) (l.map opL)) : n = l.length ∧ base ≤ g ∧ n ≤ cap ∧ cap ≤ maxLen ∧ Hold w g n (fun t => lst l t) := by
  have hr := h.rows
  rcases h.1.2 with ⟨h0, _⟩ | ⟨g', cap', cur, hv, hbg, hg, hnc, hcm, hcs, htake⟩
  · simp at h0
  injection hv with hv1 hv2 hv3
  injection hv1 with hv1
  injection hv1 with hv1
  subst hv1 hv3
  rw [List.length_map] at hv2 hnc
  subst hv2
  obtain ⟨A, c, hv, _, _, _, hc, _⟩ := hr
  injection hv with hv1 hv2 hv3
  refine ⟨rfl, hbg, hnc, hcm, ⟨fun i hi => ?_, fun j hj => ⟨?_, ?_⟩, ?_⟩⟩
  · obtain ⟨b, off, e1, _, e2⟩ := hc (by rw [List.length_map]; omega)
    rw [← hv1] at e1
    injection e1 with e1
    injection e1 with e1 e3
    subst e1 e3
    have := e2 i (opL (lst l i)) (by rw [List.getElem?_map, lst_at hi]; rfl)
    rwa [Nat.zero_add] at this
  · unfold World.cell?
    simp only [hg]
    have h26 : l.length * 26 ≤ cap * 26 := Nat.mul_le_mul_right _ hnc
    simp
    omega
  · simp [World.frozen?, hg]
  · exact (Array.getElem?_eq_some_iff.1 hg).1

theorem Hold.ops {w : World} {g n cap : Nat} {D : Nat → OpV} (h : Hold w g n D) (h1 : n ≤ cap) (h2 : cap ≤ maxLen) : OpsAt w (.slice (some ⟨g, 0, none⟩) n cap) ((List.range n).map D) := by
  refine ⟨some ⟨g, 0, none⟩, cap, by simp, by simpa using h1, h2, fun x hx => ?_, fun _ => ⟨g, 0, rfl, h.lt, fun i x hx => ?_⟩, fun h => by simp at h⟩
  · obtain ⟨o, _, rfl⟩ := List.mem_map.1 hx; rfl
  · rw [List.map_map, List.getElem?_map] at hx
    have hi : i < n := by
      rcases Nat.lt_or_ge i n with h | h
      · exact h
      · rw [List.getElem?_eq_none (by simpa using h)] at hx; simp at hx
    rw [List.getElem?_range hi] at hx
    simp at hx
    rw [← hx, Nat.zero_add]
    exact h.el i hi

set_option maxRecDepth 20000 in
set_option maxHeartbeats 2000000 in
theorem insertion_nil (w : World) : Calls Try.prog 54 #[.slice none 0 0, .int .i64 0, .int .i64 0, .func (.func 36) #[] #[]] w fun e w' => e = .returned (.tuple #[]) ∧ Below w.heap.size w w' := by
  go_enter Try.func54, Try.ntmps54
  go_wp2
  go_loopw [8, 9] (fun i _ wr => i = .int .i64 1 ∧ Below w.heap.size w wr) (fun _ _ _ => 0)
  case atStart => exact ⟨rfl, Below.refl _ _⟩
  case round =>
    obtain ⟨rfl, hw⟩ := hrel
    go_wp2
    go_end0
    exact ⟨rfl, hw⟩
set_option maxRecDepth 20000 in
set_option maxHeartbeats 2000000 in
theorem stable_nil (w : World) : Calls Try.prog 47 #[.slice none 0 0, .int .i64 0, .func (.func 36) #[] #[]] w fun e w' => e = .returned (.tuple #[]) ∧ Below w.heap.size w w' := by
  go_enter Try.func47, Try.ntmps47
  go_wp2
  go_loopw [7, 8] (fun i j wr => i = .int .i64 0 ∧ j = .int .i64 20 ∧ Below w.heap.size w wr) (fun _ _ _ => 0)
  case atStart => exact ⟨rfl, rfl, Below.refl _ _⟩
  case round =>
    obtain ⟨rfl, rfl, hw⟩ := hrel
    go_wp2_with (go_at_call 54; refine (insertion_nil _).mono ?_; rintro e w1 ⟨rfl, h1⟩)
    replace hw := hw.trans (h1.mono hw.size)
    clear h1
    go_loopw [6, 7, 8, 9] (fun z i j _ wr => z = .int .i64 20 ∧ Below w.heap.size w wr) (fun _ _ _ _ _ => 0)
    case atStart => exact ⟨rfl, hw⟩
    case round =>
      obtain ⟨rfl, hw⟩ := hrel
      go_wp2
      go_end0
      exact ⟨rfl, hw⟩

set_option maxRecDepth 20000 in
set_option maxHeartbeats 2000000 in
theorem sortStable_any (l : List OpV) (hl : l.length ≤ 60) (v : Value) (base : Nat) (w : World) (h : OwnRows w base 31 26 v (l.map opL)) (hbase : base ≤ w.heap.size) :
    Calls Try.prog 35 #[v, .func (.func 36) #[] #[]] w fun e w' => e = .returned (.tuple #[]) ∧ ∃ l', OpsAt w' v l' ∧ SortOf l l' ∧ Below base w w' := by
  obtain ⟨A, c, rfl, _⟩ := id h.rows
  rcases h.1.2 with ⟨h0, h1⟩ | ⟨g, cap, cur, hv, hbg, hg, _⟩
  · rw [List.length_map] at h1
    have hl0 := List.eq_nil_of_length_eq_zero h1
    subst hl0
    have ho := Lib.hid (OwnRows.ops h)
    injection h0 with e1 e2 e3
    subst e1 e3
    go_enter Try.func35, Try.ntmps35
    go_wp2_with (go_at_call 47; refine (stable_nil _).mono ?_; rintro e w1 ⟨rfl, h1⟩)
    go_end0
    exact ⟨rfl, [], ho.out.below h1, ⟨fun t => t, .refl _, fun t u _ _ h => absurd h (Nat.not_lt_zero _), rfl⟩, h1.mono hbase⟩
  · injection hv with e1 e2 e3
    subst e1 e3
    obtain ⟨q1, q2, q3, q4, q5⟩ := Hold.of_own h
    rw [List.length_map] at q5 q3 ⊢
    have hI := Lib.hid (fun W hW => stable_any (lst l) g l.length c hl W hW)
    have q5 := Lib.hid q5
    go_enter Try.func35, Try.ntmps35
    go_wp2_with (go_at_call 47; refine (hI.out _ q5.out).mono ?_; rintro e w1 ⟨rfl, s, k1, k2, k3, k4⟩)
    go_end0
    exact ⟨rfl, _, k1.ops q3 q4, ⟨s, k3, k4, rfl⟩, k2.below hbase (by simpa using hbg)⟩

set_option maxRecDepth 20000 in
set_option maxHeartbeats 2000000 in
theorem sort_any (l : List OpV) (hl : l.length ≤ 60) (v : Value) (w : World) (h : OpsAt w v l) :
    Calls Try.prog 12 #[v] w fun e w' => ∃ v' l', e = .returned v' ∧ OpsAt w' v' l' ∧ SortOf l l' ∧ Below w.heap.size w w' := by
  have h := Lib.hid h
  go_enter Try.func12, Try.ntmps12
  go_wp2_with (first
    | (go_at_call 34; refine (cloneOps_any l _ _ h.out hl).mono ?_; rintro e w1 ⟨v1, rfl, h1, h2⟩)
    | (go_at_call 35; refine (sortStable_any l hl _ w.heap.size _ h1 h2.size).mono ?_; rintro e w2 ⟨rfl, l', k1, k2, k3⟩))
  go_ret
  exact ⟨_, l', rfl, k1, k2, h2.trans k3⟩
end Go.Proofs.Yteclkaecjogbjaa
