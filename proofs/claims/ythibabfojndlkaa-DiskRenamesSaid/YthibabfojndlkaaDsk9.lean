/- What a disk's calls leave, as a disk in memory; goes, Crash, New, Restore, Room, Arm. -/
import Derived.Test.YthibabfojndlkaaCr9
namespace Go.Proofs.Ythibabfojndlkaa
open Go.RowKit Go.Lib
set_option maxRecDepth 100000

theorem Left.trans {d : Nat} {own own1 : List Nat} {w w1 w2 : World} {k2 : Dk} (t : Touch own w w1) (ho : ∀ i ∈ own1, i ∈ own ∨ w.heap.size ≤ i) (h : Left d own1 w1 k2 w2) : Left d own w k2 w2 := by
  obtain ⟨own2, h1, h2, h3⟩ := h
  refine ⟨own2, h1, t.trans h2 ho, fun i hi => ?_⟩
  rcases h3 i hi with h4 | h4
  · exact ho i h4
  · exact .inr (Nat.le_trans t.size h4)
theorem Left.same {d : Nat} {own : List Nat} {w w' : World} {k : Dk} (h : Dsk w d k own) (t : Touch [] w w') : Left d own w k w' :=
  ⟨own, h.touch t (by simp), t.mono (by simp), fun i hi => .inl hi⟩

theorem crash_name : ∀ (l : List Fl) (ks : List Int), ∀ x ∈ crashL l ks, ∃ f ∈ l, x.name = f.name
  | [], _, x, hx => by simp [crashL] at hx
  | f :: r, ks, x, hx => by
    rw [crashL] at hx
    rcases List.mem_append.1 hx with h | h
    · split at h
      · simp at h; subst h; exact ⟨f, by simp, rfl⟩
      · simp at h
    · obtain ⟨g, hg, e⟩ := crash_name r ks.tail x h
      exact ⟨g, by simp [hg], e⟩
theorem sorted_crash : ∀ {l : List Fl} (ks : List Int), Sorted l → Sorted (crashL l ks)
  | [], _, _ => by simp [crashL, Sorted]
  | f :: r, ks, h => by
    have hr := (List.pairwise_cons.1 h).2
    have hf := (List.pairwise_cons.1 h).1
    rw [crashL]
    split
    · refine List.pairwise_cons.2 ⟨fun x hx => ?_, sorted_crash ks.tail hr⟩
      obtain ⟨g, hg, e⟩ := crash_name r ks.tail x hx
      rw [e]
      exact hf g hg
    · exact sorted_crash ks.tail hr
theorem crash_len : ∀ (l : List Fl) (ks : List Int), (crashL l ks).length ≤ l.length
  | [], _ => by simp [crashL]
  | f :: r, ks => by
    have := crash_len r ks.tail
    rw [crashL]
    split <;> simp <;> omega
theorem own_ne_disk {w : World} {d : Nat} {cs : Array Value} {x : Px} (hd : w.heap[d]? = some (.cells cs tDisk (0, 0))) (h : FileAt w x) : ∀ i ∈ x.own, i ≠ d := by
  intro i hi
  simp only [Px.own, List.mem_cons] at hi
  rcases hi with rfl | rfl | hi
  · exact ne_type h.head hd (by decide)
  · exact ne_type h.pool hd (by decide)
  · intro e
    subst e
    exact h.pv.ne hd (by decide) _ hi (by simp)
theorem row_ne_disk {w : World} {d : Nat} {cs : Array Value} {e : TypeId} {base n : Nat} {v : Value} {xs : List Value} (hd : w.heap[d]? = some (.cells cs tDisk (0, 0))) (h : w.ownsRow base e 1 v n xs) (he : e ≠ tDisk) : ∀ i ∈ v.ownBlock.toList, i ≠ d := by
  intro i hi
  rcases h.2 with ⟨rfl, _⟩ | ⟨g, cap, cur, rfl, hb, hg, _⟩
  · simp [Value.ownBlock] at hi
  · simp [Value.ownBlock] at hi
    subst hi
    exact ne_type hg hd he
theorem mem_own {d : Nat} {rv kv : Value} {L : List Px} {i : Nat} : i ∈ ownOf d rv kv L ↔ i = d ∨ i ∈ rv.ownBlock.toList ∨ i ∈ kv.ownBlock.toList ∨ ∃ x ∈ L, i ∈ x.own := by
  simp only [ownOf, List.mem_cons, List.mem_append, List.mem_flatMap, or_assoc]
theorem DiskIs.lt {w : World} {d : Nat} {k : Dk} {rv kv : Value} {L : List Px} (h : DiskIs w d k rv kv L) : ∀ i ∈ ownOf d rv kv L, i < w.heap.size := by
  intro i hi
  rcases mem_own.1 hi with rfl | hi | hi | ⟨x, hx, hi⟩
  · exact lt_of_block h.cells
  · exact own_lt h.row i hi
  · exact own_lt h.keep i hi
  · exact (h.each x hx).lt i hi
/-- A disk in memory, whose own blocks are told. -/
theorem DiskIs.leaves {w w' : World} {d : Nat} {own : List Nat} {k' : Dk} {rv kv : Value} {L : List Px} (h : DiskIs w' d k' rv kv L) (t : Touch own w w') (ho : ∀ i ∈ ownOf d rv kv L, i ∈ own ∨ w.heap.size ≤ i) : Left d own w k' w' :=
  ⟨ownOf d rv kv L, ⟨rv, kv, L, h, fun _ hi => hi, h.lt⟩, t, ho⟩

theorem crash_any {w : World} {d : Nat} {k : Dk} {own : List Nat} {x : Option Addr} {ks : List Int} {c : Nat} (h : Dsk w d k own) (hk : IntsR w x ks) (hkl : ks.length ≤ 1000000) (hu : used k.files ≤ 70368744177664) :
    Calls Try.prog 21 #[ptr d, .slice x ks.length c] w fun e w' => e = .returned (.int .i64 (lostD k ks : Nat)) ∧ Left d own w (crashD k ks) w' := by
  have h0 := h
  obtain ⟨rv, kv, L, hD, hO, hB⟩ := h
  cases hon : k.on
  · refine (crash_off hD.cells hon).mono ?_
    rintro e w' ⟨rfl, rfl⟩
    unfold lostD crashD
    rw [hon, if_neg (by simp), if_neg (by simp)]
    exact ⟨rfl, Left.same h0 (Touch.refl _ _)⟩
  · refine (crash_on hD hon hk hkl hu).mono ?_
    rintro e w' ⟨rfl, sv, S, wr, hS, rfl⟩
    unfold lostD crashD
    rw [hon, if_pos rfl, if_pos rfl]
    refine ⟨rfl, ?_⟩
    have hlen : L.length ≤ 200 := by have := hD.many; rw [← hD.files, List.length_map] at this; exact this
    have hf : S.map (·.f) = crashL k.files ks := by
      have := hS.files
      rw [List.drop_of_length_le (by simp), crashL, List.append_nil, hD.files] at this
      exact this
    have d1 := (hS.touch.block d (lt_of_block hD.cells) (by simp)).trans hD.cells
    have t1 : Touch [d] wr (((((wr.setCell ⟨d, 3, none⟩ sv).setCell ⟨d, 1, none⟩ (.bool false)).setCell ⟨d, 4, none⟩ (.bool false)).setCell ⟨d, 5, none⟩ (.int .i64 0)).setCell ⟨d, 6, none⟩ (.slice none 0 0)) :=
      (((((Touch.refl _ _).setCell (.inl (by simp)) _).setCell (.inl (by simp)) _).setCell (.inl (by simp)) _).setCell (.inl (by simp)) _).setCell (.inl (by simp)) _
    refine DiskIs.leaves (k' := { k with files := crashL k.files ks, on := false, armed := false, left := 0, keep := [] }) (rv := sv) (kv := .slice none 0 0) (L := S) ⟨?_, ?_, hf, fun x hx => (hS.each x hx).touch t1 (fun i hi => by simpa using own_ne_disk d1 (hS.each x hx) i hi), hS.apart, World.ownsRow_nil _ _ _ _, sorted_crash _ hD.sorted, Nat.le_trans (crash_len _ _) hD.many, Nat.zero_le _⟩ ?_ ?_
    · have := heap_set (i := 6) (heap_set (i := 5) (heap_set (i := 4) (heap_set (i := 1) (heap_set (i := 3) d1 sv) (.bool false)) (.bool false)) (.int .i64 0)) (.slice none 0 0)
      exact this
    · exact own_touch (own_zero hS.own) t1 (fun i hi => by simpa using row_ne_disk d1 hS.own (by decide) i hi)
    · have hd : d ∈ own := hO d (by simp [ownOf])
      exact (hS.touch.mono (G := own) (by simp)).trans t1 (fun i hi => by simp at hi; subst hi; exact .inl hd)
    · intro i hi
      rcases mem_own.1 hi with rfl | hi | hi | ⟨x, hx, hi⟩
      · exact .inl (hO _ (by simp [ownOf]))
      · exact .inr (own_base hS.own i hi)
      · simp [Value.ownBlock] at hi
      · rcases hS.from_ x hx i hi with h1 | ⟨j, hj, _, h2⟩
        · exact .inr h1
        · exact .inl (hO i (mem_own.2 (.inr (.inr (.inr ⟨_, List.getElem_mem hj, h2⟩)))))

set_option maxHeartbeats 1000000 in
theorem goes_any {w : World} {d : Nat} {k : Dk} {own : List Nat} (h : Dsk w d k own) (hkl : k.keep.length ≤ 1000000) (hu : used k.files ≤ 70368744177664) :
    Calls Try.prog 40 #[ptr d] w fun e w' => e = .returned (.int .i64 (goesD k).1) ∧ Left d own w (goesD k).2 w' := by
  have h0 := h
  obtain ⟨rv, kv, L, hD, hO, hB⟩ := h
  obtain ⟨-, -, -, -, c4, c5, c6⟩ := dk_cell hD.cells
  have hd : d ∈ own := hO d (by simp [ownOf])
  have f5 := free_of hD.cells 5
  unfold goesD
  by_cases ha : k.armed = true
  rotate_left
  · rw [if_neg ha]
    replace ha : k.armed = false := by simpa using ha
    rw [ha] at c4
    have hl : Hid (Left d own w k w) := hid (Left.same h0 (Touch.refl _ _))
    unfold ptr
    clear h0 hD hO hB ha hkl hu c5 c6
    generalize Left d own w k = M at *
    go_enter Try.func40, Try.ntmps40
    go_wp2
    go_ret
    exact ⟨rfl, hl.out⟩
  · rw [if_pos ha]
    rw [ha] at c4
    by_cases hl : 0 < k.left
    · rw [if_pos hl]
      have hl2 := hD.left
      have hfin : Hid (Left d own w { k with left := k.left - 1 } (w.setCell ⟨d, 5, none⟩ (.int .i64 ((k.left : Int) - 1)))) := hid (by
        have t1 : Touch [d] w (w.setCell ⟨d, 5, none⟩ (.int .i64 ((k.left : Int) - 1))) := (Touch.refl _ _).setCell (.inl (by simp)) _
        refine DiskIs.leaves (k' := { k with left := k.left - 1 }) (rv := rv) (kv := kv) (L := L) ⟨?_, ?_, hD.files, fun x hx => (hD.each x hx).touch t1 (fun i hi => by simpa using own_ne_disk hD.cells (hD.each x hx) i hi), hD.apart, ?_, hD.sorted, hD.many, by show k.left - 1 ≤ _; omega⟩ (t1.mono (by simp [hd])) (fun i hi => .inl (hO i hi))
        · have := heap_set (i := 5) hD.cells (.int .i64 ((k.left : Int) - 1))
          rw [show (k.left : Int) - 1 = ((k.left - 1 : Nat) : Int) by omega] at this ⊢
          exact this
        · exact own_touch hD.row t1 (fun i hi => by simpa using row_ne_disk hD.cells hD.row (by decide) i hi)
        · exact own_touch hD.keep t1 (fun i hi => by simpa using row_ne_disk hD.cells hD.keep (by decide) i hi))
      unfold ptr
      generalize Left d own w { k with left := k.left - 1 } = M at *
      generalize k.left = n at *
      have q1 : (0 : Int) < n := by omega
      have q2 : (n : Int) - 1 ≤ 9223372036854775807 := by omega
      have q3 : (0 : Int) ≤ (n : Int) - 1 := by omega
      clear h0 hD hO hB ha hkl hu c6 hl
      go_enter Try.func40, Try.ntmps40
      go_wp2
      go_ret
      exact ⟨rfl, hfin.out⟩
    · rw [if_neg hl]
      have hl0 : k.left = 0 := by omega
      rw [hl0] at c5
      obtain ⟨x, c, hkv, hkr⟩ := ints_own hD.keep
      have C := hid (crash_any (c := c) h0 hkr hkl hu)
      rw [hkv] at c6
      unfold ptr at C ⊢
      generalize Left d own w (crashD k k.keep) = M at *
      generalize k.keep.length = n at *
      clear h0 hD hO hB ha hkl hu hl hl0 hkr hkv
      go_enter Try.func40, Try.ntmps40
      go_wp2_with (go_at_call 21; with_reducible refine C.out.mono ?_; rintro e w1 ⟨rfl, hm⟩; have HM := hid hm; clear hm)
      go_ret
      exact ⟨rfl, HM.out⟩

def newD (room : Int) : Dk := ⟨true, room, [], false, 0, []⟩
theorem new_any (room : Int) (w : World) :
    Calls Try.prog 26 #[.int .i64 room] w fun e w' => ∃ d, e = .returned (.pointer (some ⟨d, 0, none⟩)) ∧ ∃ own, Dsk w' d (newD room) own ∧ Touch [] w w' ∧ ∀ i ∈ own, w.heap.size ≤ i := by
  have hf : Hid (∃ own, Dsk (w.alloc (.cells #[.bool true, .bool true, .int .i64 room, .slice none 0 0, .bool false, .int .i64 0, .slice none 0 0] tDisk)) w.heap.size (newD room) own ∧ Touch [] w (w.alloc (.cells #[.bool true, .bool true, .int .i64 room, .slice none 0 0, .bool false, .int .i64 0, .slice none 0 0] tDisk)) ∧ ∀ i ∈ own, w.heap.size ≤ i) := hid (by
    have hD : DiskIs (w.alloc (.cells #[.bool true, .bool true, .int .i64 room, .slice none 0 0, .bool false, .int .i64 0, .slice none 0 0] tDisk)) w.heap.size (newD room) (.slice none 0 0) (.slice none 0 0) [] :=
      ⟨heap_alloc_new w _, World.ownsRow_nil _ _ _ _, rfl, by simp, by simp [Apart], World.ownsRow_nil _ _ _ _, by simp [newD, Sorted], by simp [newD], by simp [newD]⟩
    refine ⟨ownOf w.heap.size (.slice none 0 0) (.slice none 0 0) [], ⟨_, _, _, hD, fun _ h => h, hD.lt⟩, (Touch.refl _ _).alloc _, ?_⟩
    intro i hi
    simp [ownOf, Value.ownBlock] at hi
    omega)
  go_enter Try.func26, Try.ntmps26
  go_wp2
  go_ret
  exact ⟨_, rfl, hf.out⟩

/-- A change of one of the disk's own cells that is no list. -/
theorem disk_set {w : World} {d : Nat} {k k' : Dk} {own : List Nat} {i : Nat} {u : Value} (h : Dsk w d k own) (hc : ∀ rv kv, (dkCells k rv kv).setIfInBounds i u = dkCells k' rv kv) (hf : k'.files = k.files) (hk : k'.keep = k.keep) (hl : k'.left = k.left) : Left d own w k' (w.setCell ⟨d, i, none⟩ u) := by
  obtain ⟨rv, kv, L, hD, hO, hB⟩ := h
  have t1 : Touch [d] w (w.setCell ⟨d, i, none⟩ u) := (Touch.refl _ _).setCell (.inl (by simp)) _
  refine DiskIs.leaves (k' := k') (rv := rv) (kv := kv) (L := L) ⟨?_, ?_, by rw [hf]; exact hD.files, fun x hx => (hD.each x hx).touch t1 (fun i hi => by simpa using own_ne_disk hD.cells (hD.each x hx) i hi), hD.apart, ?_, by rw [hf]; exact hD.sorted, by rw [hf]; exact hD.many, by rw [hl]; exact hD.left⟩ (t1.mono (by simp [hO d (by simp [ownOf])])) (fun i hi => .inl (hO i hi))
  · rw [← hc]; exact heap_set hD.cells u
  · exact own_touch hD.row t1 (fun i hi => by simpa using row_ne_disk hD.cells hD.row (by decide) i hi)
  · rw [hk]; exact own_touch hD.keep t1 (fun i hi => by simpa using row_ne_disk hD.cells hD.keep (by decide) i hi)

theorem restore_any {w : World} {d : Nat} {k : Dk} {own : List Nat} (h : Dsk w d k own) :
    Calls Try.prog 10 #[ptr d] w fun e w' => e = .returned (.tuple #[]) ∧ Left d own w { k with on := true } w' := by
  have h0 := hid (disk_set (k' := { k with on := true }) (i := 1) (u := .bool true) h (fun _ _ => rfl) rfl rfl rfl)
  obtain ⟨rv, kv, L, hD, hO, hB⟩ := h
  obtain ⟨c0, c1, -⟩ := dk_cell hD.cells
  have f1 := free_of hD.cells 1
  unfold ptr
  generalize Left d own w { k with on := true } = M at *
  clear hD hO hB
  go_enter Try.func10, Try.ntmps10
  go_wp2
  exact bodyPost_end (results_none rfl _ _ _) rfl ⟨rfl, h0.out⟩
end Go.Proofs.Ythibabfojndlkaa
