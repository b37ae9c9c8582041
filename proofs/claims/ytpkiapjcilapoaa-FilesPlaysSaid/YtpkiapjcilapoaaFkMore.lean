/-
  The program's own disk behind a change: no two of its blocks are one. No program in here.
-/
import Derived.Test.YtpkiapjcilapoaaFkHist
namespace Go.Proofs.Ytpkiapjcilapoaa
open Go.RowKit Go.Sort Go.Maps

theorem opt_nodup (x : Option Nat) : x.toList.Nodup := by cases x <;> simp

/-- A block and four more, and all the others: where each of the four is the elder one, or a new one, and no two are one. -/
theorem wb_nodup {p N : Nat} {m c k s m' c' k' s' : Option Nat} {F : List Nat} (h : (p :: (m.toList ++ (c.toList ++ (k.toList ++ (s.toList ++ F))))).Nodup)
    (hlow : ∀ b ∈ p :: F, b < N) (hm : ∀ b, m' = some b → m = some b ∨ N ≤ b) (hc : ∀ b, c' = some b → c = some b ∨ N ≤ b) (hk : ∀ b, k' = some b → k = some b ∨ N ≤ b) (hs : ∀ b, s' = some b → s = some b ∨ N ≤ b)
    (h1 : ∀ b, m' = some b → c' ≠ some b) (h2 : ∀ b, m' = some b → k' ≠ some b) (h3 : ∀ b, m' = some b → s' ≠ some b) (h4 : ∀ b, c' = some b → k' ≠ some b) (h5 : ∀ b, c' = some b → s' ≠ some b) (h6 : ∀ b, k' = some b → s' ≠ some b) :
    (p :: (m'.toList ++ (c'.toList ++ (k'.toList ++ (s'.toList ++ F))))).Nodup := by
  simp only [List.nodup_cons, List.nodup_append, List.mem_append, Option.mem_toList, opt_nodup, true_and, not_or, ne_eq] at h ⊢
  have lp := hlow p (by simp)
  have lF : ∀ b ∈ F, b < N := fun b hb => hlow b (by simp [hb])
  obtain ⟨⟨pm, pc, pk, ps, pF⟩, ⟨⟨⟨nF, sF⟩, kF⟩, cF⟩, mF⟩ := h
  refine ⟨⟨?_, ?_, ?_, ?_, pF⟩, ⟨⟨⟨nF, ?_⟩, ?_⟩, ?_⟩, ?_⟩
  · intro hh; rcases hm p hh with e | e; exact pm e; omega
  · intro hh; rcases hc p hh with e | e; exact pc e; omega
  · intro hh; rcases hk p hh with e | e; exact pk e; omega
  · intro hh; rcases hs p hh with e | e; exact ps e; omega
  · rintro a ha b hb rfl
    rcases hs a ha with e | e
    · exact sF a e a hb rfl
    · have := lF a hb; omega
  · rintro a ha b (hb | hb) rfl
    · exact h6 a ha hb
    · rcases hk a ha with e | e
      · exact kF a e a (.inr hb) rfl
      · have := lF a hb; omega
  · rintro a ha b (hb | hb | hb) rfl
    · exact h4 a ha hb
    · exact h5 a ha hb
    · rcases hc a ha with e | e
      · exact cF a e a (.inr (.inr hb)) rfl
      · have := lF a hb; omega
  · rintro a ha b (hb | hb | hb | hb) rfl
    · exact h1 a ha hb
    · exact h2 a ha hb
    · exact h3 a ha hb
    · rcases hm a ha with e | e
      · exact mF a e a (.inr (.inr (.inr hb))) rfl
      · have := lF a hb; omega

/-- The disk's own blocks, without the files'. -/
def CDisk.own (d : CDisk) (p : Nat) : List Nat := p :: (d.mb.toList ++ (d.cv.ownBlock.toList ++ (d.kv.ownBlock.toList ++ d.sv.ownBlock.toList)))
theorem CDisk.wb_eq (d : CDisk) (p : Nat) : d.wb p = d.own p ++ d.fs.flatMap CFile.wb := by simp [CDisk.wb, CDisk.own]

section
variable {n p : Nat} {w w' : World} {d d' : CDisk}

theorem DiskK.wlt (h : DiskK n w p d) : ∀ b ∈ d.wb p, b < w.heap.size := fun b hb => (h.low b (List.mem_append_left _ hb)).2

/-- The disk's own rows anew; the files as they were. -/
theorem DiskK.swap (h : DiskK n w p d) (hfs : d'.fs = d.fs) (ht : Turns (d.own p) w w')
    (disk : w'.heap[p]? = some (.cells #[.map d'.mb, d'.cv, d'.kv, d'.sv, .int .i64 (d'.calls : Nat)] 64 (0, 0))) (map : NamesM w' d'.mb d'.nam.length (namesOf d'.nam))
    (ch : OwnRows w' n 83 3 d'.cv (d'.nam.map namCells)) (ca : OwnRows w' n 3 1 d'.kv (d'.ks.map intCell)) (sy : OwnRows w' n 3 1 d'.sv (d'.ss.map intCell)) (named : Named (namesOf d'.nam) d'.fs)
    (hm : ∀ b, d'.mb = some b → d.mb = some b ∨ w.heap.size ≤ b) (hc : ∀ b, d'.cv.ownBlock = some b → d.cv.ownBlock = some b ∨ w.heap.size ≤ b) (hk : ∀ b, d'.kv.ownBlock = some b → d.kv.ownBlock = some b ∨ w.heap.size ≤ b) (hs : ∀ b, d'.sv.ownBlock = some b → d.sv.ownBlock = some b ∨ w.heap.size ≤ b)
    (h1 : ∀ b, d'.mb = some b → d'.cv.ownBlock ≠ some b) (h2 : ∀ b, d'.mb = some b → d'.kv.ownBlock ≠ some b) (h3 : ∀ b, d'.mb = some b → d'.sv.ownBlock ≠ some b) (h4 : ∀ b, d'.cv.ownBlock = some b → d'.kv.ownBlock ≠ some b) (h5 : ∀ b, d'.cv.ownBlock = some b → d'.sv.ownBlock ≠ some b) (h6 : ∀ b, d'.kv.ownBlock = some b → d'.sv.ownBlock ≠ some b) :
    DiskK n w' p d' ∧ (∀ b ∈ d'.bs p, b ∈ d.bs p ∨ w.heap.size ≤ b) := by
  have hwlt := h.wlt
  have hin : ∀ b ∈ d'.wb p, b ∈ d.wb p ∨ w.heap.size ≤ b := by
    intro b hb
    simp only [CDisk.wb, hfs, List.mem_cons, List.mem_append, Option.mem_toList] at hb ⊢
    rcases hb with rfl | hb | hb | hb | hb | hb
    · exact .inl (.inl rfl)
    · rcases hm b hb with e | e
      · exact .inl (.inr (.inl e))
      · exact .inr e
    · rcases hc b hb with e | e
      · exact .inl (.inr (.inr (.inl e)))
      · exact .inr e
    · rcases hk b hb with e | e
      · exact .inl (.inr (.inr (.inr (.inl e))))
      · exact .inr e
    · rcases hs b hb with e | e
      · exact .inl (.inr (.inr (.inr (.inr (.inl e)))))
      · exact .inr e
    · exact .inl (.inr (.inr (.inr (.inr (.inr hb)))))
  have hrb : d'.rb = d.rb := by simp [CDisk.rb, hfs]
  have hnd : (d'.wb p).Nodup := by
    unfold CDisk.wb
    rw [hfs]
    refine wb_nodup h.nodup (N := w.heap.size) (fun b hb => hwlt b ?_) hm hc hk hs h1 h2 h3 h4 h5 h6
    simp only [List.mem_cons] at hb
    simp only [CDisk.wb, List.mem_cons, List.mem_append]
    rcases hb with hb | hb
    · exact .inl hb
    · exact .inr (.inr (.inr (.inr (.inr hb))))
  have hfo : ∀ f ∈ d.fs, (∀ b ∈ f.wb, b ∉ d.own p) ∧ (∀ b ∈ f.rb, b ∉ d.own p) := by
    intro f hf
    have hnd := h.nodup
    rw [CDisk.wb_eq] at hnd
    have hap := (List.nodup_append.1 hnd).2.2
    refine ⟨fun b hb ho => hap b ho b (List.mem_flatMap.2 ⟨f, hf, hb⟩) rfl, fun b hb ho => h.ro b (CDisk.rb_file hf b hb) ?_⟩
    rw [CDisk.wb_eq]
    exact List.mem_append_left _ ho
  refine ⟨⟨disk, map, ch, ca, sy, ?_, named, hnd, ?_, ?_⟩, ?_⟩
  · rw [hfs]
    intro f hf
    exact (h.files f hf).turns ht (hfo f hf).1 (hfo f hf).2
  · rw [hrb]
    intro b hb hw
    rcases hin b hw with e | e
    · exact h.ro b hb e
    · have := (h.low b (List.mem_append_right _ hb)).2; omega
  · intro b hb
    rcases List.mem_append.1 hb with hb | hb
    · rcases hin b hb with e | e
      · have := h.low b (List.mem_append_left _ e)
        exact ⟨this.1, Nat.lt_of_lt_of_le this.2 ht.size⟩
      · refine ⟨Nat.le_trans h.nle e, ?_⟩
        simp only [CDisk.wb, hfs, List.mem_cons, List.mem_append, Option.mem_toList] at hb
        rcases hb with rfl | hb | hb | hb | hb | hb
        · exact (Array.getElem?_eq_some_iff.1 disk).1
        · exact map.block b hb
        · exact (ch.block b hb).2
        · exact (ca.block b hb).2
        · exact (sy.block b hb).2
        · have := hwlt b (by rw [CDisk.wb_eq]; exact List.mem_append_right _ hb); omega
    · rw [hrb] at hb
      have := h.low b (List.mem_append_right _ hb)
      exact ⟨this.1, Nat.lt_of_lt_of_le this.2 ht.size⟩
  · intro b hb
    rcases List.mem_append.1 hb with hb | hb
    · rcases hin b hb with e | e
      · exact .inl (List.mem_append_left _ e)
      · exact .inr e
    · rw [hrb] at hb
      exact .inl (List.mem_append_right _ hb)

theorem perm_file (P X : List Nat) (A B : List CFile) (f : CFile) : (P ++ (A ++ f :: B).flatMap CFile.wb).Perm (f.q :: ((none : Option Nat).toList ++ (f.cv.ownBlock.toList ++ (f.kv.ownBlock.toList ++ (f.sv.ownBlock.toList ++ (P ++ (A.flatMap CFile.wb ++ B.flatMap CFile.wb))))))) := by
  have _ := X
  rw [List.perm_iff_count]
  intro a
  simp only [List.flatMap_append, List.flatMap_cons, List.count_append, List.count_cons, CFile.wb, Option.toList_none, List.count_nil]
  omega

theorem Named.swap {D : DW} {A B : List CFile} {f f' : CFile} (h : Named D (A ++ f :: B)) (hq : f'.q = f.q) : Named D (A ++ f' :: B) := by
  refine ⟨fun nm q hn => ?_, h.one⟩
  obtain ⟨g, hg, hgq⟩ := h.file nm q hn
  rw [List.mem_append, List.mem_cons] at hg
  rcases hg with hg | rfl | hg
  · exact ⟨g, by simp [hg], hgq⟩
  · exact ⟨f', by simp, by rw [hq]; exact hgq⟩
  · exact ⟨g, by simp [hg], hgq⟩

/-- A file anew; all else as it was. -/
theorem DiskK.swapFile (h : DiskK n w p d) {A B : List CFile} {f f' : CFile} (hfs : d.fs = A ++ f :: B) (hd' : d' = { d with fs := A ++ f' :: B }) (hq : f'.q = f.q) (ht : Turns f.wb w w') (hf' : FileK n w' f')
    (hc : ∀ b, f'.cv.ownBlock = some b → f.cv.ownBlock = some b ∨ w.heap.size ≤ b) (hk : ∀ b, f'.kv.ownBlock = some b → f.kv.ownBlock = some b ∨ w.heap.size ≤ b) (hs : ∀ b, f'.sv.ownBlock = some b → f.sv.ownBlock = some b ∨ w.heap.size ≤ b)
    (h4 : ∀ b, f'.cv.ownBlock = some b → f'.kv.ownBlock ≠ some b) (h5 : ∀ b, f'.cv.ownBlock = some b → f'.sv.ownBlock ≠ some b) (h6 : ∀ b, f'.kv.ownBlock = some b → f'.sv.ownBlock ≠ some b)
    (hr : ∀ b ∈ f'.rb, b ∈ f.rb ∨ (w.heap.size ≤ b ∧ b < w'.heap.size ∧ b ∉ f'.wb)) :
    DiskK n w' p d' ∧ (∀ b ∈ d'.bs p, b ∈ d.bs p ∨ w.heap.size ≤ b) := by
  have hwlt := h.wlt
  have hf : f ∈ d.fs := by rw [hfs]; simp
  have hd'fs : d'.fs = A ++ f' :: B := by rw [hd']
  have hown : d'.own p = d.own p := by rw [hd']; rfl
  have hwb : d'.wb p = d.own p ++ (A ++ f' :: B).flatMap CFile.wb := by rw [CDisk.wb_eq, hown, hd'fs]
  have hwb0 : d.wb p = d.own p ++ (A ++ f :: B).flatMap CFile.wb := by rw [CDisk.wb_eq, hfs]
  have hnd0 := h.nodup
  rw [hwb0] at hnd0
  have hnd1 := (perm_file (d.own p) [] A B f).nodup_iff.1 hnd0
  -- the file's blocks are no others'
  have hsep : ∀ b ∈ f.wb, b ∉ d.own p ∧ b ∉ A.flatMap CFile.wb ∧ b ∉ B.flatMap CFile.wb := by
    intro b hb
    have hp2 : (f.wb ++ (d.own p ++ (A.flatMap CFile.wb ++ B.flatMap CFile.wb))).Nodup := by
      have : (f.wb ++ (d.own p ++ (A.flatMap CFile.wb ++ B.flatMap CFile.wb))) = (f.q :: ((none : Option Nat).toList ++ (f.cv.ownBlock.toList ++ (f.kv.ownBlock.toList ++ (f.sv.ownBlock.toList ++ (d.own p ++ (A.flatMap CFile.wb ++ B.flatMap CFile.wb))))))) := by simp [CFile.wb]
      rw [this]; exact hnd1
    have hap := (List.nodup_append.1 hp2).2.2
    refine ⟨fun hh => hap b hb b (by simp [hh]) rfl, fun hh => hap b hb b ?_ rfl, fun hh => hap b hb b ?_ rfl⟩
    · exact List.mem_append_right _ (List.mem_append_left _ hh)
    · exact List.mem_append_right _ (List.mem_append_right _ hh)
  have hin : ∀ b ∈ f'.wb, b ∈ f.wb ∨ w.heap.size ≤ b := by
    intro b hb
    simp only [CFile.wb, List.mem_cons, List.mem_append, Option.mem_toList] at hb ⊢
    rcases hb with rfl | hb | hb | hb
    · exact .inl (.inl hq)
    · rcases hc b hb with e | e
      · exact .inl (.inr (.inl e))
      · exact .inr e
    · rcases hk b hb with e | e
      · exact .inl (.inr (.inr (.inl e)))
      · exact .inr e
    · rcases hs b hb with e | e
      · exact .inl (.inr (.inr (.inr e)))
      · exact .inr e
  have hwin : ∀ b ∈ d'.wb p, b ∈ d.wb p ∨ (w.heap.size ≤ b ∧ b ∈ f'.wb) := by
    intro b hb
    rw [hwb] at hb
    rw [hwb0]
    simp only [List.flatMap_append, List.flatMap_cons, List.mem_append] at hb ⊢
    rcases hb with hb | hb | hb | hb
    · exact .inl (.inl hb)
    · exact .inl (.inr (.inl hb))
    · rcases hin b hb with e | e
      · exact .inl (.inr (.inr (.inl e)))
      · exact .inr ⟨e, hb⟩
    · exact .inl (.inr (.inr (.inr hb)))
  have hrin : ∀ b ∈ d'.rb, b ∈ d.rb ∨ (w.heap.size ≤ b ∧ b < w'.heap.size ∧ b ∉ f'.wb) := by
    intro b hb
    simp only [CDisk.rb, hd'fs, hfs, List.flatMap_append, List.flatMap_cons, List.mem_append] at hb ⊢
    rcases hb with hb | hb | hb
    · exact .inl (.inl hb)
    · rcases hr b hb with e | e
      · exact .inl (.inr (.inl e))
      · exact .inr e
    · exact .inl (.inr (.inr hb))
  have hnd : (d'.wb p).Nodup := by
    rw [hwb, (perm_file (d.own p) [] A B f').nodup_iff, hq]
    refine wb_nodup hnd1 (N := w.heap.size) (fun b hb => hwlt b ?_) (by simp) hc hk hs (by simp) (by simp) (by simp) h4 h5 h6
    rw [hwb0]
    simp only [List.mem_cons, List.mem_append] at hb
    simp only [List.flatMap_append, List.flatMap_cons, List.mem_append]
    rcases hb with rfl | hb | hb | hb
    · exact .inr (.inr (.inl (by simp [CFile.wb])))
    · exact .inl hb
    · exact .inr (.inl hb)
    · exact .inr (.inr (.inr hb))
  have hmine : ∀ b ∈ d.own p, b ∉ f.wb := fun b hb hfb => (hsep b hfb).1 hb
  have hp : p ∈ d.own p := by simp [CDisk.own]
  have e1 : d'.mb = d.mb ∧ d'.cv = d.cv ∧ d'.kv = d.kv ∧ d'.sv = d.sv ∧ d'.nam = d.nam ∧ d'.ks = d.ks ∧ d'.ss = d.ss ∧ d'.calls = d.calls := by rw [hd']; exact ⟨rfl, rfl, rfl, rfl, rfl, rfl, rfl, rfl⟩
  obtain ⟨e1, e2, e3, e4, e5, e6, e7, e8⟩ := e1
  refine ⟨⟨?_, ?_, ?_, ?_, ?_, ?_, ?_, hnd, ?_, ?_⟩, ?_⟩
  · rw [e1, e2, e3, e4, e8]
    exact cells_kept h.disk ht (hmine p hp)
  · rw [e1, e5]; exact h.map.turns ht (fun b hb => hmine b (by simp [CDisk.own, hb]))
  · rw [e2, e5]; exact h.ch.turns ht (fun b hb => hmine b (by simp [CDisk.own, hb]))
  · rw [e3, e6]; exact h.ca.turns ht (fun b hb => hmine b (by simp [CDisk.own, hb]))
  · rw [e4, e7]; exact h.sy.turns ht (fun b hb => hmine b (by simp [CDisk.own, hb]))
  · rw [hd'fs]
    intro g hg
    rw [List.mem_append, List.mem_cons] at hg
    have hro : ∀ g ∈ d.fs, ∀ b ∈ g.rb, b ∉ f.wb := fun g hg b hb hfb => h.ro b (CDisk.rb_file hg b hb) (CDisk.wb_file hf b hfb)
    rcases hg with hg | rfl | hg
    · exact (h.files g (by rw [hfs]; simp [hg])).turns ht (fun b hb hfb => (hsep b hfb).2.1 (List.mem_flatMap.2 ⟨g, hg, hb⟩)) (hro g (by rw [hfs]; simp [hg]))
    · exact hf'
    · exact (h.files g (by rw [hfs]; simp [hg])).turns ht (fun b hb hfb => (hsep b hfb).2.2 (List.mem_flatMap.2 ⟨g, hg, hb⟩)) (hro g (by rw [hfs]; simp [hg]))
  · rw [e5, hd'fs]
    have := h.named
    rw [hfs] at this
    exact this.swap hq
  · intro b hb hw
    rcases hrin b hb with e | ⟨e, _, e'⟩
    · rcases hwin b hw with k | ⟨k, _⟩
      · exact h.ro b e k
      · have := (h.low b (List.mem_append_right _ e)).2; omega
    · rcases hwin b hw with k | ⟨_, k⟩
      · have := hwlt b k; omega
      · exact e' k
  · intro b hb
    rcases List.mem_append.1 hb with hb | hb
    · rcases hwin b hb with e | ⟨e, e'⟩
      · have := h.low b (List.mem_append_left _ e)
        exact ⟨this.1, Nat.lt_of_lt_of_le this.2 ht.size⟩
      · exact ⟨Nat.le_trans h.nle e, hf'.wlt b e'⟩
    · rcases hrin b hb with e | ⟨e, e', _⟩
      · have := h.low b (List.mem_append_right _ e)
        exact ⟨this.1, Nat.lt_of_lt_of_le this.2 ht.size⟩
      · exact ⟨Nat.le_trans h.nle e, e'⟩
  · intro b hb
    rcases List.mem_append.1 hb with hb | hb
    · rcases hwin b hb with e | ⟨e, _⟩
      · exact .inl (List.mem_append_left _ e)
      · exact .inr e
    · rcases hrin b hb with e | ⟨e, _⟩
      · exact .inl (List.mem_append_right _ e)
      · exact .inr e

/-- A file that is made: empty, in a block of its own. -/
abbrev newFile (q : Nat) : CFile := ⟨q, .slice none 0 0, .slice none 0 0, .slice none 0 0, [], [], []⟩

theorem DiskK.addFile (h : DiskK n w p d) (hd' : d' = { d with fs := d.fs ++ [newFile w.heap.size] }) :
    DiskK n (w.alloc (.cells #[.slice none 0 0, .slice none 0 0, .slice none 0 0, .int .i64 0] 77)) p d' ∧ (∀ b ∈ d'.bs p, b ∈ d.bs p ∨ w.heap.size ≤ b) := by
  have hwlt := h.wlt
  have hb := below_box1 w (.cells #[.slice none 0 0, .slice none 0 0, .slice none 0 0, .int .i64 0] 77)
  have hsz : w.heap.size < (w.alloc (.cells #[.slice none 0 0, .slice none 0 0, .slice none 0 0, .int .i64 0] 77)).heap.size := by simp
  have h' := h.below hb
  have hwb : d'.wb p = d.wb p ++ [w.heap.size] := by rw [hd']; simp [CDisk.wb, CFile.wb, Value.ownBlock]
  have hrb : d'.rb = d.rb := by rw [hd']; simp [CDisk.rb, CFile.rb]
  have hbs : ∀ b ∈ d'.bs p, b ∈ d.bs p ∨ b = w.heap.size := by
    intro b hb
    simp only [CDisk.bs, hwb, hrb, List.mem_append, List.mem_singleton] at hb ⊢
    rcases hb with (hb | hb) | hb
    · exact .inl (.inl hb)
    · exact .inr hb
    · exact .inl (.inr hb)
  refine ⟨⟨?_, ?_, ?_, ?_, ?_, ?_, ?_, ?_, ?_, ?_⟩, fun b hb => (hbs b hb).imp id (fun e => by omega)⟩
  · rw [hd']; exact h'.disk
  · rw [hd']; exact h'.map
  · rw [hd']; exact h'.ch
  · rw [hd']; exact h'.ca
  · rw [hd']; exact h'.sy
  · rw [hd']
    intro f hf
    rcases List.mem_append.1 hf with hf | hf
    · exact h'.files f hf
    · simp at hf
      subst hf
      exact ⟨heap_alloc_new w _, OwnRows.none_ _ _ _ _, OwnRows.none_ _ _ _ _, OwnRows.none_ _ _ _ _, by simp⟩
  · rw [hd']
    refine ⟨fun nm q hn => ?_, h.named.one⟩
    obtain ⟨g, hg, hgq⟩ := h.named.file nm q hn
    exact ⟨g, by simp [hg], hgq⟩
  · rw [hwb, List.nodup_append]
    refine ⟨h.nodup, by simp, ?_⟩
    intro a ha b hb
    simp at hb
    have := hwlt a ha
    omega
  · rw [hwb, hrb]
    intro b hb hw
    rcases List.mem_append.1 hw with hw | hw
    · exact h.ro b hb hw
    · simp at hw
      have := (h.low b (List.mem_append_right _ hb)).2
      omega
  · intro b hb
    rcases hbs b hb with e | e
    · have := h'.low b e; exact this
    · have := h.nle; omega
end
end Go.Proofs.Ytpkiapjcilapoaa
