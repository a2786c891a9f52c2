/- What a disk's calls leave, as a disk in memory; goes, Crash, New, Restore, Room, Arm. A file that is put into a disk. Sync, Truncate, Remove, Rename. Remove, Rename. -/
import Derived.Test.YtjjocnkockeacaaGreatDoorZf
namespace Go.Proofs.YtjjocnkockeacaaGreatDoor
open Go.RowKit Go.Lib
set_option maxRecDepth 100000

theorem Left.trans {d : Nat} {own own1 : List Nat} {w w1 w2 : World} {k2 : Dk} (t : Touch own w w1) (ho : ∀ i ∈ own1, i ∈ own ∨ w.heap.size ≤ i) (h : Left d own1 w1 k2 w2) : Left d own w k2 w2 := by
  obtain ⟨own2, h1, h2, h3⟩ := h
  refine ⟨own2, h1, t.trans h2 ho, fun i hi => ?_⟩
  rcases h3 i hi with h4 | h4
  · exact ho i h4
  · exact .inr (Nat.le_trans t.size h4)
theorem Left.same {d : Nat} {own : List Nat} {w w' : World} {k : Dk} (h : Dsk w d k own) (t : Touch [] w w') : Left d own w k w' :=
  ⟨own, h.touch t (by simp), t.mono (by simp), fun i hi => .inl hi⟩

theorem crash_name : ∀ (l : List Fl) (ks : List Int), ∀ x ∈ crashL l ks, ∃ f ∈ l, x.name = f.name
  | [], _, x, hx => by simp [crashL] at hx
  | f :: r, ks, x, hx => by
    rw [crashL] at hx
    rcases List.mem_append.1 hx with h | h
    · split at h
      · simp at h; subst h; exact ⟨f, by simp, rfl⟩
      · simp at h
    · obtain ⟨g, hg, e⟩ := crash_name r ks.tail x h
      exact ⟨g, by simp [hg], e⟩
theorem sorted_crash : ∀ {l : List Fl} (ks : List Int), Sorted l → Sorted (crashL l ks)
  | [], _, _ => by simp [crashL, Sorted]
  | f :: r, ks, h => by
    have hr := (List.pairwise_cons.1 h).2
    have hf := (List.pairwise_cons.1 h).1
    rw [crashL]
    split
    · refine List.pairwise_cons.2 ⟨fun x hx => ?_, sorted_crash ks.tail hr⟩
      obtain ⟨g, hg, e⟩ := crash_name r ks.tail x hx
      rw [e]
      exact hf g hg
    · exact sorted_crash ks.tail hr
theorem crash_len : ∀ (l : List Fl) (ks : List Int), (crashL l ks).length ≤ l.length
  | [], _ => by simp [crashL]
  | f :: r, ks => by
    have := crash_len r ks.tail
    rw [crashL]
    split <;> simp <;> omega
theorem own_ne_disk {w : World} {d : Nat} {cs : Array Value} {x : Px} (hd : w.heap[d]? = some (.cells cs tDisk (0, 0))) (h : FileAt w x) : ∀ i ∈ x.own, i ≠ d := by
  intro i hi
  simp only [Px.own, List.mem_cons] at hi
  rcases hi with rfl | rfl | hi
  · exact ne_type h.head hd (by decide)
  · exact ne_type h.pool hd (by decide)
  · intro e
    subst e
    exact h.pv.ne hd (by decide) _ hi (by simp)
theorem row_ne_disk {w : World} {d : Nat} {cs : Array Value} {e : TypeId} {base n : Nat} {v : Value} {xs : List Value} (hd : w.heap[d]? = some (.cells cs tDisk (0, 0))) (h : w.ownsRow base e 1 v n xs) (he : e ≠ tDisk) : ∀ i ∈ v.ownBlock.toList, i ≠ d := by
  intro i hi
  rcases h.2 with ⟨rfl, _⟩ | ⟨g, cap, cur, rfl, hb, hg, _⟩
  · simp [Value.ownBlock] at hi
  · simp [Value.ownBlock] at hi
    subst hi
    exact ne_type hg hd he
theorem mem_own {d : Nat} {rv kv : Value} {L : List Px} {i : Nat} : i ∈ ownOf d rv kv L ↔ i = d ∨ i ∈ rv.ownBlock.toList ∨ i ∈ kv.ownBlock.toList ∨ ∃ x ∈ L, i ∈ x.own := by
  simp only [ownOf, List.mem_cons, List.mem_append, List.mem_flatMap, or_assoc]
theorem DiskIs.lt {w : World} {d : Nat} {k : Dk} {rv kv : Value} {L : List Px} (h : DiskIs w d k rv kv L) : ∀ i ∈ ownOf d rv kv L, i < w.heap.size := by
  intro i hi
  rcases mem_own.1 hi with rfl | hi | hi | ⟨x, hx, hi⟩
  · exact lt_of_block h.cells
  · exact own_lt h.row i hi
  · exact own_lt h.keep i hi
  · exact (h.each x hx).lt i hi
/-- A disk in memory, whose own blocks are told. -/
theorem DiskIs.leaves {w w' : World} {d : Nat} {own : List Nat} {k' : Dk} {rv kv : Value} {L : List Px} (h : DiskIs w' d k' rv kv L) (t : Touch own w w') (ho : ∀ i ∈ ownOf d rv kv L, i ∈ own ∨ w.heap.size ≤ i) : Left d own w k' w' :=
  ⟨ownOf d rv kv L, ⟨rv, kv, L, h, fun _ hi => hi, h.lt⟩, t, ho⟩

theorem crash_any {w : World} {d : Nat} {k : Dk} {own : List Nat} {x : Option Addr} {ks : List Int} {c : Nat} (h : Dsk w d k own) (hk : IntsR w x ks) (hkl : ks.length ≤ 1000000) (hu : used k.files ≤ 70368744177664) :
    Calls Tryz.prog 30 #[ptr d, .slice x ks.length c] w fun e w' => e = .returned (.int .i64 (lostD k ks : Nat)) ∧ Left d own w (crashD k ks) w' := by
  have h0 := h
  obtain ⟨rv, kv, L, hD, hO, hB⟩ := h
  cases hon : k.on
  · refine (crash_off hD.cells hon).mono ?_
    rintro e w' ⟨rfl, rfl⟩
    unfold lostD crashD
    rw [hon, if_neg (by simp), if_neg (by simp)]
    exact ⟨rfl, Left.same h0 (Touch.refl _ _)⟩
  · refine (crash_on hD hon hk hkl hu).mono ?_
    rintro e w' ⟨rfl, sv, S, wr, hS, rfl⟩
    unfold lostD crashD
    rw [hon, if_pos rfl, if_pos rfl]
    refine ⟨rfl, ?_⟩
    have hlen : L.length ≤ 200 := by have := hD.many; rw [← hD.files, List.length_map] at this; exact this
    have hf : S.map (·.f) = crashL k.files ks := by
      have := hS.files
      rw [List.drop_of_length_le (by simp), crashL, List.append_nil, hD.files] at this
      exact this
    have d1 := (hS.touch.block d (lt_of_block hD.cells) (by simp)).trans hD.cells
    have t1 : Touch [d] wr (((((wr.setCell ⟨d, 3, none⟩ sv).setCell ⟨d, 1, none⟩ (.bool false)).setCell ⟨d, 4, none⟩ (.bool false)).setCell ⟨d, 5, none⟩ (.int .i64 0)).setCell ⟨d, 6, none⟩ (.slice none 0 0)) :=
      (((((Touch.refl _ _).setCell (.inl (by simp)) _).setCell (.inl (by simp)) _).setCell (.inl (by simp)) _).setCell (.inl (by simp)) _).setCell (.inl (by simp)) _
    refine DiskIs.leaves (k' := { k with files := crashL k.files ks, on := false, armed := false, left := 0, keep := [] }) (rv := sv) (kv := .slice none 0 0) (L := S) ⟨?_, ?_, hf, fun x hx => (hS.each x hx).touch t1 (fun i hi => by simpa using own_ne_disk d1 (hS.each x hx) i hi), hS.apart, World.ownsRow_nil _ _ _ _, sorted_crash _ hD.sorted, Nat.le_trans (crash_len _ _) hD.many, Nat.zero_le _⟩ ?_ ?_
    · have := heap_set (i := 6) (heap_set (i := 5) (heap_set (i := 4) (heap_set (i := 1) (heap_set (i := 3) d1 sv) (.bool false)) (.bool false)) (.int .i64 0)) (.slice none 0 0)
      exact this
    · exact own_touch (own_zero hS.own) t1 (fun i hi => by simpa using row_ne_disk d1 hS.own (by decide) i hi)
    · have hd : d ∈ own := hO d (by simp [ownOf])
      exact (hS.touch.mono (G := own) (by simp)).trans t1 (fun i hi => by simp at hi; subst hi; exact .inl hd)
    · intro i hi
      rcases mem_own.1 hi with rfl | hi | hi | ⟨x, hx, hi⟩
      · exact .inl (hO _ (by simp [ownOf]))
      · exact .inr (own_base hS.own i hi)
      · simp [Value.ownBlock] at hi
      · rcases hS.from_ x hx i hi with h1 | ⟨j, hj, _, h2⟩
        · exact .inr h1
        · exact .inl (hO i (mem_own.2 (.inr (.inr (.inr ⟨_, List.getElem_mem hj, h2⟩)))))

set_option maxHeartbeats 1000000 in
theorem goes_any {w : World} {d : Nat} {k : Dk} {own : List Nat} (h : Dsk w d k own) (hkl : k.keep.length ≤ 1000000) (hu : used k.files ≤ 70368744177664) :
    Calls Tryz.prog 77 #[ptr d] w fun e w' => e = .returned (.int .i64 (goesD k).1) ∧ Left d own w (goesD k).2 w' := by
  have h0 := h
  obtain ⟨rv, kv, L, hD, hO, hB⟩ := h
  obtain ⟨-, -, -, -, c4, c5, c6⟩ := dk_cell hD.cells
  have hd : d ∈ own := hO d (by simp [ownOf])
  have f5 := free_of hD.cells 5
  unfold goesD
  by_cases ha : k.armed = true
  rotate_left
  · rw [if_neg ha]
    replace ha : k.armed = false := by simpa using ha
    rw [ha] at c4
    have hl : Hid (Left d own w k w) := hid (Left.same h0 (Touch.refl _ _))
    unfold ptr
    clear h0 hD hO hB ha hkl hu c5 c6
    generalize Left d own w k = M at *
    go_enter Tryz.func77, Tryz.ntmps77
    go_wp2
    go_ret
    exact ⟨rfl, hl.out⟩
  · rw [if_pos ha]
    rw [ha] at c4
    by_cases hl : 0 < k.left
    · rw [if_pos hl]
      have hl2 := hD.left
      have hfin : Hid (Left d own w { k with left := k.left - 1 } (w.setCell ⟨d, 5, none⟩ (.int .i64 ((k.left : Int) - 1)))) := hid (by
        have t1 : Touch [d] w (w.setCell ⟨d, 5, none⟩ (.int .i64 ((k.left : Int) - 1))) := (Touch.refl _ _).setCell (.inl (by simp)) _
        refine DiskIs.leaves (k' := { k with left := k.left - 1 }) (rv := rv) (kv := kv) (L := L) ⟨?_, ?_, hD.files, fun x hx => (hD.each x hx).touch t1 (fun i hi => by simpa using own_ne_disk hD.cells (hD.each x hx) i hi), hD.apart, ?_, hD.sorted, hD.many, by show k.left - 1 ≤ _; omega⟩ (t1.mono (by simp [hd])) (fun i hi => .inl (hO i hi))
        · have := heap_set (i := 5) hD.cells (.int .i64 ((k.left : Int) - 1))
          rw [show (k.left : Int) - 1 = ((k.left - 1 : Nat) : Int) by omega] at this ⊢
          exact this
        · exact own_touch hD.row t1 (fun i hi => by simpa using row_ne_disk hD.cells hD.row (by decide) i hi)
        · exact own_touch hD.keep t1 (fun i hi => by simpa using row_ne_disk hD.cells hD.keep (by decide) i hi))
      unfold ptr
      generalize Left d own w { k with left := k.left - 1 } = M at *
      generalize k.left = n at *
      have q1 : (0 : Int) < n := by omega
      have q2 : (n : Int) - 1 ≤ 9223372036854775807 := by omega
      have q3 : (0 : Int) ≤ (n : Int) - 1 := by omega
      clear h0 hD hO hB ha hkl hu c6 hl
      go_enter Tryz.func77, Tryz.ntmps77
      go_wp2
      go_ret
      exact ⟨rfl, hfin.out⟩
    · rw [if_neg hl]
      have hl0 : k.left = 0 := by omega
      rw [hl0] at c5
      obtain ⟨x, c, hkv, hkr⟩ := ints_own hD.keep
      have C := hid (crash_any (c := c) h0 hkr hkl hu)
      rw [hkv] at c6
      unfold ptr at C ⊢
      generalize Left d own w (crashD k k.keep) = M at *
      generalize k.keep.length = n at *
      clear h0 hD hO hB ha hkl hu hl hl0 hkr hkv
      go_enter Tryz.func77, Tryz.ntmps77
      go_wp2_with (go_at_call 30; with_reducible refine C.out.mono ?_; rintro e w1 ⟨rfl, hm⟩; have HM := hid hm; clear hm)
      go_ret
      exact ⟨rfl, HM.out⟩

def newD (room : Int) : Dk := ⟨true, room, [], false, 0, []⟩
theorem new_any (room : Int) (w : World) :
    Calls Tryz.prog 10 #[.int .i64 room] w fun e w' => ∃ d, e = .returned (.pointer (some ⟨d, 0, none⟩)) ∧ ∃ own, Dsk w' d (newD room) own ∧ Touch [] w w' ∧ ∀ i ∈ own, w.heap.size ≤ i := by
  have hf : Hid (∃ own, Dsk (w.alloc (.cells #[.bool true, .bool true, .int .i64 room, .slice none 0 0, .bool false, .int .i64 0, .slice none 0 0] tDisk)) w.heap.size (newD room) own ∧ Touch [] w (w.alloc (.cells #[.bool true, .bool true, .int .i64 room, .slice none 0 0, .bool false, .int .i64 0, .slice none 0 0] tDisk)) ∧ ∀ i ∈ own, w.heap.size ≤ i) := hid (by
    have hD : DiskIs (w.alloc (.cells #[.bool true, .bool true, .int .i64 room, .slice none 0 0, .bool false, .int .i64 0, .slice none 0 0] tDisk)) w.heap.size (newD room) (.slice none 0 0) (.slice none 0 0) [] :=
      ⟨heap_alloc_new w _, World.ownsRow_nil _ _ _ _, rfl, by simp, by simp [Apart], World.ownsRow_nil _ _ _ _, by simp [newD, Sorted], by simp [newD], by simp [newD]⟩
    refine ⟨ownOf w.heap.size (.slice none 0 0) (.slice none 0 0) [], ⟨_, _, _, hD, fun _ h => h, hD.lt⟩, (Touch.refl _ _).alloc _, ?_⟩
    intro i hi
    simp [ownOf, Value.ownBlock] at hi
    omega)
  go_enter Tryz.func10, Tryz.ntmps10
  go_wp2
  go_ret
  exact ⟨_, rfl, hf.out⟩

/-- A change of one of the disk's own cells that is no list. -/
theorem disk_set {w : World} {d : Nat} {k k' : Dk} {own : List Nat} {i : Nat} {u : Value} (h : Dsk w d k own) (hc : ∀ rv kv, (dkCells k rv kv).setIfInBounds i u = dkCells k' rv kv) (hf : k'.files = k.files) (hk : k'.keep = k.keep) (hl : k'.left = k.left) : Left d own w k' (w.setCell ⟨d, i, none⟩ u) := by
  obtain ⟨rv, kv, L, hD, hO, hB⟩ := h
  have t1 : Touch [d] w (w.setCell ⟨d, i, none⟩ u) := (Touch.refl _ _).setCell (.inl (by simp)) _
  refine DiskIs.leaves (k' := k') (rv := rv) (kv := kv) (L := L) ⟨?_, ?_, by rw [hf]; exact hD.files, fun x hx => (hD.each x hx).touch t1 (fun i hi => by simpa using own_ne_disk hD.cells (hD.each x hx) i hi), hD.apart, ?_, by rw [hf]; exact hD.sorted, by rw [hf]; exact hD.many, by rw [hl]; exact hD.left⟩ (t1.mono (by simp [hO d (by simp [ownOf])])) (fun i hi => .inl (hO i hi))
  · rw [← hc]; exact heap_set hD.cells u
  · exact own_touch hD.row t1 (fun i hi => by simpa using row_ne_disk hD.cells hD.row (by decide) i hi)
  · rw [hk]; exact own_touch hD.keep t1 (fun i hi => by simpa using row_ne_disk hD.cells hD.keep (by decide) i hi)

theorem restore_any {w : World} {d : Nat} {k : Dk} {own : List Nat} (h : Dsk w d k own) :
    Calls Tryz.prog 27 #[ptr d] w fun e w' => e = .returned (.tuple #[]) ∧ Left d own w { k with on := true } w' := by
  have h0 := hid (disk_set (k' := { k with on := true }) (i := 1) (u := .bool true) h (fun _ _ => rfl) rfl rfl rfl)
  obtain ⟨rv, kv, L, hD, hO, hB⟩ := h
  obtain ⟨c0, c1, -⟩ := dk_cell hD.cells
  have f1 := free_of hD.cells 1
  unfold ptr
  generalize Left d own w { k with on := true } = M at *
  clear hD hO hB
  go_enter Tryz.func27, Tryz.ntmps27
  go_wp2
  exact bodyPost_end (results_none rfl _ _ _) rfl ⟨rfl, h0.out⟩
end Go.Proofs.YtjjocnkockeacaaGreatDoor

namespace Go.Proofs.YtjjocnkockeacaaGreatDoor
open Go.RowKit Go.Lib
set_option maxRecDepth 100000

theorem left_out {d : Nat} {own : List Nat} {w w' : World} {k : Dk} (h : Left d own w k w') : ∃ (own' : List Nat) (rv kv : Value) (L : List Px), DiskIs w' d k rv kv L ∧ (∀ i ∈ ownOf d rv kv L, i ∈ own') ∧ Touch own w w' ∧ ∀ i ∈ own', i ∈ own ∨ w.heap.size ≤ i := by
  obtain ⟨own', ⟨rv, kv, L, h1, h2, _⟩, h4, h5⟩ := h
  exact ⟨own', rv, kv, L, h1, h2, h4, h5⟩
theorem apart_of {L : List Px} {x z : Px} {nm : ByteArray} (h : Apart L) (hx : x ∈ L) (hz : z ∈ L) (h1 : cmpN x.f.name nm = 0) (h2 : cmpN z.f.name nm ≠ 0) : ∀ i ∈ x.own, i ∉ z.own := by
  obtain ⟨a, ha, rfl⟩ := List.getElem_of_mem hx
  obtain ⟨b, hb, rfl⟩ := List.getElem_of_mem hz
  intro i hi hiz
  rcases Nat.lt_trichotomy a b with h3 | h3 | h3
  · exact List.pairwise_iff_getElem.1 h a b ha hb h3 i hi hiz
  · subst h3; exact h2 h1
  · exact List.pairwise_iff_getElem.1 h b a hb ha h3 i hiz hi
theorem mut_type {w : World} {x : Px} (h : FileAt w x) {i : Nat} (hi : i ∈ x.mut) {cs : Array Value} {t : TypeId} {fz : Nat × Nat} {b : Nat} (hb : w.heap[b]? = some (.cells cs t fz)) (h1 : t ≠ tPool) (h2 : t ≠ tU8) : i ≠ b := by
  simp only [Px.mut, List.mem_cons] at hi
  rcases hi with rfl | hi
  · exact ne_type h.pool hb (Ne.symm h1)
  · intro e
    subst e
    exact h.pv.ne hb h2 _ hi (by simp)
theorem mut_row {w : World} {x : Px} (h : FileAt w x) {i : Nat} (hi : i ∈ x.mut) {base n : Nat} {v : Value} {xs : List Value} {t : TypeId} (ho : w.ownsRow base t 1 v n xs) (h1 : t ≠ tPool) (h2 : t ≠ tU8) : i ∉ v.ownBlock.toList := by
  intro hm
  rcases ho.2 with ⟨rfl, _⟩ | ⟨g, cap, cur, rfl, hb, hg, _⟩
  · simp [Value.ownBlock] at hm
  · simp [Value.ownBlock] at hm
    subst hm
    exact mut_type h hi hg h1 h2 rfl

theorem mem_putP {L : List Px} {y z : Px} (hs : Sorted (L.map (·.f))) (h : z ∈ putP L y) : z = y ∨ (z ∈ L ∧ cmpN z.f.name y.f.name ≠ 0) := by
  unfold putP at h
  rcases List.mem_append.1 h with h | h
  · right
    obtain ⟨i, hi, rfl⟩ := List.getElem_of_mem h
    simp only [List.length_take] at hi
    rw [List.getElem_take]
    refine ⟨List.getElem_mem _, ?_⟩
    have := plc_lt hs (nm := y.f.name) i (by simp; omega) (by omega)
    simp at this
    omega
  · rcases List.mem_cons.1 h with h | h
    · exact .inl h
    · right
      obtain ⟨i, hi, rfl⟩ := List.getElem_of_mem h
      simp only [List.length_drop] at hi
      rw [List.getElem_drop]
      refine ⟨List.getElem_mem _, ?_⟩
      have := plc_gt hs (nm := y.f.name) ((if (getF (L.map (·.f)) y.f.name).isSome then plc (L.map (·.f)) y.f.name + 1 else plc (L.map (·.f)) y.f.name) + i) (by simp; omega) (by omega)
      simp at this
      omega

/-- What is done to memory ahead of put. -/
structure Ahead (w : World) (d : Nat) (k : Dk) (rv kv : Value) (L : List Px) (own F : List Nat) (y : Px) (w1 : World) : Prop where
  disk : DiskIs w d k rv kv L
  owned : ∀ i ∈ ownOf d rv kv L, i ∈ own
  file : FileAt w1 y
  touch : Touch F w w1
  which : ∀ i ∈ F, ∃ x ∈ L, cmpN x.f.name y.f.name = 0 ∧ i ∈ x.mut
  blocks : ∀ b ∈ y.own, w.heap.size ≤ b ∨ (b ∈ own ∧ ∀ z ∈ L, cmpN z.f.name y.f.name ≠ 0 → b ∉ z.own)

theorem Ahead.ok {w w1 : World} {d : Nat} {k : Dk} {rv kv : Value} {L : List Px} {own F : List Nat} {y : Px} (h : Ahead w d k rv kv L own F y w1) :
    w1.heap[d]? = some (.cells (dkCells k rv kv) tDisk (0, 0)) ∧ RowOk w1 d rv L ∧ HeadAt w1 y := by
  have hd : w1.heap[d]? = some (.cells (dkCells k rv kv) tDisk (0, 0)) := (h.touch.block d (lt_of_block h.disk.cells) (fun hm => by
    obtain ⟨x, hx, _, hi⟩ := h.which d hm
    exact mut_type (h.disk.each x hx) hi h.disk.cells (by decide) (by decide) rfl)).trans h.disk.cells
  have ok := h.disk.ok
  refine ⟨hd, ⟨(dk_cell hd).2.2.2.1, own_touch ok.row h.touch (fun i hi hm => ?_), fun z hz => (ok.heads z hz).touch h.touch (fun hm => ?_), ok.sorted, ok.len⟩, h.file.head⟩
  · obtain ⟨x, hx, _, hi2⟩ := h.which i hm
    exact mut_row (h.disk.each x hx) hi2 ok.row (by decide) (by decide) hi
  · obtain ⟨x, hx, _, hi2⟩ := h.which _ hm
    exact mut_type (h.disk.each x hx) hi2 (ok.heads z hz) (by decide) (by decide) rfl

theorem Ahead.put {w w1 w2 : World} {d : Nat} {k : Dk} {rv kv : Value} {L : List Px} {own F : List Nat} {y : Px} {e : Ending} (h : Ahead w d k rv kv L own F y w1) (hp : RowPost d k kv (putP L y) w1 e w2) (hm : (putF k.files y.f).length ≤ 200) :
    Left d own w { k with files := putF k.files y.f } w2 := by
  obtain ⟨-, rv', d2, hr, ho, t2⟩ := hp
  have hs : Sorted (L.map (·.f)) := by rw [h.disk.files]; exact h.disk.sorted
  obtain ⟨hd1, -, -⟩ := h.ok
  have hfz : ∀ z ∈ L, cmpN z.f.name y.f.name ≠ 0 → FileAt w1 z := by
    intro z hz hn
    refine (h.disk.each z hz).touch h.touch (fun i hi hmF => ?_)
    obtain ⟨x, hx, hx0, hi2⟩ := h.which i hmF
    exact apart_of h.disk.apart hx hz hx0 hn i (mut_own hi2) hi
  have hkv1 : KeepAt w1 kv k.keep := own_touch h.disk.keep h.touch (fun i hi hmF => by
    obtain ⟨x, hx, _, hi2⟩ := h.which i hmF
    exact mut_row (h.disk.each x hx) hi2 h.disk.keep (by decide) (by decide) hi)
  have hfz2 : ∀ z ∈ putP L y, FileAt w2 z := by
    intro z hz
    rcases mem_putP hs hz with rfl | ⟨hz, hn⟩
    · exact h.file.touch t2 (fun i hi => by simpa using own_ne_disk hd1 h.file i hi)
    · exact (hfz z hz hn).touch t2 (fun i hi => by simpa using own_ne_disk hd1 (hfz z hz hn) i hi)
  refine DiskIs.leaves (k' := { k with files := putF k.files y.f }) (rv := rv') (kv := kv) (L := putP L y) ⟨d2, hr, by rw [putP_files hs, h.disk.files], hfz2, ?_, own_touch hkv1 t2 (fun i hi => by simpa using row_ne_disk hd1 hkv1 (by decide) i hi), sorted_putF h.disk.sorted, hm, h.disk.left⟩ ?_ ?_
  · unfold Apart putP
    have hyz : ∀ z ∈ L, cmpN z.f.name y.f.name ≠ 0 → ∀ i ∈ y.own, i ∉ z.own := by
      intro z hz hn i hi hiz
      rcases h.blocks i hi with h1 | ⟨_, h1⟩
      · have := (h.disk.each z hz).lt i hiz; omega
      · exact h1 z hz hn hiz
    have htk : ∀ z ∈ L.take (plc (L.map (·.f)) y.f.name), z ∈ L ∧ cmpN z.f.name y.f.name ≠ 0 := by
      intro z hz
      obtain ⟨i, hi, rfl⟩ := List.getElem_of_mem hz
      simp only [List.length_take] at hi
      rw [List.getElem_take]
      refine ⟨List.getElem_mem _, ?_⟩
      have := plc_lt hs (nm := y.f.name) i (by simp; omega) (by omega)
      simp at this
      omega
    have hdr : ∀ z ∈ L.drop (if (getF (L.map (·.f)) y.f.name).isSome then plc (L.map (·.f)) y.f.name + 1 else plc (L.map (·.f)) y.f.name), z ∈ L ∧ cmpN z.f.name y.f.name ≠ 0 := by
      intro z hz
      obtain ⟨i, hi, rfl⟩ := List.getElem_of_mem hz
      simp only [List.length_drop] at hi
      rw [List.getElem_drop]
      refine ⟨List.getElem_mem _, ?_⟩
      have := plc_gt hs (nm := y.f.name) ((if (getF (L.map (·.f)) y.f.name).isSome then plc (L.map (·.f)) y.f.name + 1 else plc (L.map (·.f)) y.f.name) + i) (by simp; omega) (by omega)
      simp at this
      omega
    rw [List.pairwise_append]
    refine ⟨h.disk.apart.sublist (List.take_sublist _ _), List.pairwise_cons.2 ⟨fun z hz => hyz z (hdr z hz).1 (hdr z hz).2, h.disk.apart.sublist (List.drop_sublist _ _)⟩, ?_⟩
    intro a ha b hb i hi hib
    rcases List.mem_cons.1 hb with rfl | hb
    · exact hyz a (htk a ha).1 (htk a ha).2 i hib hi
    · have hle : plc (L.map (·.f)) y.f.name ≤ (if (getF (L.map (·.f)) y.f.name).isSome then plc (L.map (·.f)) y.f.name + 1 else plc (L.map (·.f)) y.f.name) := by split <;> omega
      obtain ⟨p, hp, rfl⟩ := List.getElem_of_mem ha
      obtain ⟨q, hq, rfl⟩ := List.getElem_of_mem hb
      simp only [List.length_take, List.length_drop] at hp hq
      rw [List.getElem_take] at hi
      rw [List.getElem_drop] at hib
      exact List.pairwise_iff_getElem.1 h.disk.apart p _ (by omega) (by omega) (by omega) i hi hib
  · have hdo : d ∈ own := h.owned d (by simp [ownOf])
    refine (h.touch.mono (G := own) (fun i hi => ?_)).trans t2 (fun i hi => by simp at hi; subst hi; exact .inl hdo)
    obtain ⟨x, hx, _, hi2⟩ := h.which i hi
    exact .inl (h.owned i (mem_own.2 (.inr (.inr (.inr ⟨x, hx, mut_own hi2⟩)))))
  · intro i hi0
    rcases mem_own.1 hi0 with rfl | hi | hi | ⟨x, hx, hi⟩
    · exact .inl (h.owned _ (by simp [ownOf]))
    · exact .inr (Nat.le_trans h.touch.size (ho i hi))
    · exact .inl (h.owned i (mem_own.2 (.inr (.inr (.inl hi)))))
    · clear hi0
      rcases mem_putP hs hx with e | ⟨hx, _⟩
      · rw [e] at hi
        rcases h.blocks i hi with h1 | ⟨h1, _⟩
        · exact .inr h1
        · exact .inl h1
      · exact .inl (h.owned i (mem_own.2 (.inr (.inr (.inr ⟨x, hx, hi⟩)))))

/-- The file of that name, and where it is loaded from. -/
theorem fetch {w : World} {d : Nat} {k k1 : Dk} {rv kv : Value} {L : List Px} {nm : ByteArray} (h : DiskIs w d k1 rv kv L) (hk : k1.files = k.files) (he : placeE k nm = 0) :
    ∃ x b c, x ∈ L ∧ x.f = fileD k nm ∧ cmpN x.f.name nm = 0 ∧ plc k.files nm < L.length ∧ L.length ≤ c ∧ L.length ≤ 200 ∧ w.cell? ⟨d, 3, none⟩ = some (.slice (some ⟨b, 0, none⟩) L.length c) ∧ w.cell? ⟨b, plc k.files nm, none⟩ = some (.pointer (some ⟨x.b, 0, none⟩)) ∧ L[plc k.files nm]? = some x := by
  have hs : Sorted k.files := by rw [← hk]; exact h.sorted
  have hl : L.length = k.files.length := by rw [← hk, ← h.files, List.length_map]
  have h3 := find_plc (nm := nm) hs
  have hg : ∃ f, getF k.files nm = some f := by
    unfold placeE at he
    split at he
    · rename_i h1; exact absurd he h1
    · split at he
      · omega
      · rename_i h2; exact Option.ne_none_iff_exists'.1 h2
  obtain ⟨f, hf⟩ := hg
  rw [hf] at h3
  have hp : plc k.files nm < k.files.length := by
    rcases Nat.lt_or_ge (plc k.files nm) k.files.length with h5 | h5
    · exact h5
    · rw [List.getElem?_eq_none h5] at h3
      cases h3
  rw [List.getElem?_eq_getElem hp] at h3
  simp only [Option.bind_some] at h3
  have hp2 : plc k.files nm < L.length := by omega
  have hfx : L[plc k.files nm].f = k.files[plc k.files nm] := by
    have : (L.map (·.f))[plc k.files nm]? = k.files[plc k.files nm]? := by rw [h.files, hk]
    rw [List.getElem?_map, List.getElem?_eq_getElem hp2, List.getElem?_eq_getElem hp] at this
    simpa using this
  split at h3
  · rename_i h4
    obtain ⟨x, c, hrv, hc, hm, -, hcell⟩ := row_cell h.row
    obtain ⟨b, rfl, hb⟩ := hcell _ hp2
    have h6 : f = k.files[plc k.files nm] := by simpa using h3
    refine ⟨L[plc k.files nm], b, c, List.getElem_mem _, ?_, ?_, hp2, hc, by have := h.many; rw [hk] at this; omega, ?_, hb, List.getElem?_eq_getElem hp2⟩
    · rw [hfx, fileD, hf, ← h6]; rfl
    · rw [hfx]; exact h4
    · rw [← hrv]; exact (dk_cell h.cells).2.2.2.1
  · cases h3
end Go.Proofs.YtjjocnkockeacaaGreatDoor

namespace Go.Proofs.YtjjocnkockeacaaGreatDoor
open Go.RowKit Go.Lib
set_option maxRecDepth 100000

theorem goes_files {k : Dk} (h : (goesD k).1 = 0) : (goesD k).2.files = k.files ∧ (goesD k).2.keep = k.keep := by
  unfold goesD at *
  split at h
  · split at h
    · simp_all
    · simp at h
  · simp_all

/-- What a contract of a change is told of. -/
structure Fit (w : World) (d : Nat) (k : Dk) (own : List Nat) : Prop where
  disk : Dsk w d k own
  keep : k.keep.length ≤ 1000000
  used : used k.files ≤ 70368744177664

theorem made_ahead {w w1 : World} {d : Nat} {k : Dk} {rv kv : Value} {L : List Px} {own F : List Nat} {x y : Px} (hD : DiskIs w d k rv kv L) (hO : ∀ i ∈ ownOf d rv kv L, i ∈ own) (hx : x ∈ L) (hn : cmpN x.f.name y.f.name = 0)
    (hy : FileAt w1 y) (t : Touch F w w1) (hF : ∀ i ∈ F, i ∈ x.mut) (hb : ∀ b ∈ y.own, b ∈ x.mut ∨ w.heap.size ≤ b) : Ahead w d k rv kv L own F y w1 :=
  ⟨hD, hO, hy, t, fun i hi => ⟨x, hx, hn, hF i hi⟩, fun b hb' => by
    rcases hb b hb' with h1 | h1
    · exact .inr ⟨hO b (mem_own.2 (.inr (.inr (.inr ⟨x, hx, mut_own h1⟩)))), fun z hz hz0 => apart_of hD.apart hx hz hn hz0 b (mut_own h1)⟩
    · exact .inl h1⟩
theorem put_same_len {l : List Fl} {f : Fl} {nm : ByteArray} (hs : Sorted l) (h : (getF l nm).isSome) (hn : f.name = nm) : (putF l f).length = l.length := by
  subst hn
  rw [put_plc hs, if_pos h]
  have : plc l f.name < l.length := by
    have h3 := find_plc (nm := f.name) hs
    rcases Nat.lt_or_ge (plc l f.name) l.length with h5 | h5
    · exact h5
    · rw [List.getElem?_eq_none h5] at h3
      rw [h3] at h
      cases h
  simp; omega
theorem place_some {k : Dk} {nm : ByteArray} (he : placeE k nm = 0) : (getF k.files nm).isSome ∧ getF k.files nm = some (fileD k nm) := by
  unfold placeE at he
  split at he
  · rename_i h1; exact absurd he h1
  · split at he
    · omega
    · rename_i h2
      obtain ⟨f, hf⟩ := Option.ne_none_iff_exists'.1 h2
      rw [fileD, hf]
      exact ⟨rfl, rfl⟩

theorem lastF_name (f : Fl) : (lastF f).name = f.name := rfl
theorem cutF_name (f : Fl) (n : Nat) : (cutF f n).name = f.name := rfl
theorem nil_mem {P : Nat → Prop} : ∀ i ∈ ([] : List Nat), P i := by simp
/-- Behind goes: the file that is loaded, and what put leaves. -/
theorem after_goes {w w1 : World} {d : Nat} {k k1 : Dk} {own : List Nat} {nm : ByteArray} (hm : Left d own w k1 w1) (hk : k1.files = k.files) (he : placeE k nm = 0) :
    ∃ (n b c : Nat) (x : Px), w1.cell? ⟨d, 3, none⟩ = some (.slice (some ⟨b, 0, none⟩) n c) ∧ w1.cell? ⟨b, plc k.files nm, none⟩ = some (.pointer (some ⟨x.b, 0, none⟩)) ∧ plc k.files nm < n ∧ n ≤ c ∧ n ≤ 200 ∧ FileAt w1 x ∧ x.f = fileD k nm ∧
      (∀ (f' : Fl) (F : List Nat) (y : Px) (w2 : World), f'.name = x.f.name → (∀ i ∈ F, i ∈ x.mut) → y.f = f' → FileAt w2 y → (∀ q ∈ y.own, q ∈ x.mut ∨ w1.heap.size ≤ q) → Touch F w1 w2 →
        Calls Tryz.prog 78 #[.pointer (some ⟨d, 0, none⟩), .pointer (some ⟨y.b, 0, none⟩)] w2 fun e w3 => e = .returned (.tuple #[]) ∧ Left d own w { k1 with files := putF k.files f' } w3) := by
  obtain ⟨own1, rv1, kv1, L1, hD, hO, t, ho⟩ := left_out hm
  obtain ⟨x, b, c, hx, hxf, hxn, hp, hc, hl, g3, g4, -⟩ := fetch hD hk he
  refine ⟨L1.length, b, c, x, g3, g4, hp, hc, hl, hD.each x hx, hxf, ?_⟩
  intro f' F y w2 hn hF hy hfy hb t2
  have hyn : cmpN x.f.name y.f.name = 0 := by rw [hy, hn]; exact cmpN_self _
  have hA := made_ahead hD hO hx hyn hfy t2 hF hb
  obtain ⟨q1, q2, q3⟩ := hA.ok
  refine (put_any q1 q2 q3).mono ?_
  intro e w3 hr
  refine ⟨hr.1, Left.trans t ho ?_⟩
  have hs : Sorted k.files := by rw [← hk]; exact hD.sorted
  have hlen : (putF k1.files y.f).length ≤ 200 := by
    rw [hk, put_same_len hs (place_some he).1 (by rw [hy, hn]; exact cmpN_eq hxn)]
    rw [← hk]; exact hD.many
  have := hA.put hr hlen
  rw [hy, hk] at this
  exact this
theorem drop_disk {w w' : World} {d : Nat} {k : Dk} {rv kv : Value} {L : List Px} {p : Nat} {e : Ending} (h : DiskIs w d k rv kv L) (hr : RowPost d k kv (L.take p ++ L.drop (p + 1)) w e w') :
    ∃ rv', DiskIs w' d { k with files := k.files.take p ++ k.files.drop (p + 1) } rv' kv (L.take p ++ L.drop (p + 1)) ∧ Touch [d] w w' ∧ ∀ i ∈ rv'.ownBlock.toList, w.heap.size ≤ i := by
  obtain ⟨-, rv', d2, hrow, ho, t2⟩ := hr
  have hsub : (L.take p ++ L.drop (p + 1)).Sublist L := by
    conv => rhs; rw [← List.take_append_drop p L]
    exact List.Sublist.append_left (by rw [show p + 1 = p + 1 from rfl, ← List.drop_drop]; exact (List.drop_sublist 1 _)) _
  have hf : (L.take p ++ L.drop (p + 1)).map (·.f) = k.files.take p ++ k.files.drop (p + 1) := by rw [← h.files]; simp [List.map_take, List.map_drop]
  have hsubf : (k.files.take p ++ k.files.drop (p + 1)).Sublist k.files := by rw [← hf, ← h.files]; exact hsub.map _
  refine ⟨rv', ⟨d2, hrow, hf, fun x hx => (h.each x (hsub.subset hx)).touch t2 (fun i hi => by simpa using own_ne_disk h.cells (h.each x (hsub.subset hx)) i hi), h.apart.sublist hsub, own_touch h.keep t2 (fun i hi => by simpa using row_ne_disk h.cells h.keep (by decide) i hi), List.Pairwise.sublist hsubf h.sorted, Nat.le_trans hsubf.length_le h.many, h.left⟩, t2, ho⟩
theorem mem_drop_own {d : Nat} {rv rv' kv : Value} {L L' : List Px} {i : Nat} (hs : L'.Sublist L) (h : i ∈ ownOf d rv' kv L') : i ∈ rv'.ownBlock.toList ∨ i ∈ ownOf d rv kv L := by
  rcases mem_own.1 h with h | h | h | ⟨x, hx, h⟩
  · exact .inr (mem_own.2 (.inl h))
  · exact .inl h
  · exact .inr (mem_own.2 (.inr (.inr (.inl h))))
  · exact .inr (mem_own.2 (.inr (.inr (.inr ⟨x, hs.subset hx, h⟩))))

set_option maxHeartbeats 2000000 in
theorem sync_any {w : World} {d : Nat} {k : Dk} {own : List Nat} (h : Fit w d k own) (nm : ByteArray) :
    Calls Tryz.prog 40 #[ptr d, .string nm] w fun e w' => e = .returned (.int .i64 (syncD k nm).1) ∧ Left d own w (syncD k nm).2 w' := by
  have h0 := h.disk
  have CG := hid (goes_any h.disk h.keep h.used)
  obtain ⟨rv, kv, L, hD, hO, hB⟩ := h.disk
  have CP := hid (place_any hD nm)
  have hsame := hid (Left.same h0 (Touch.refl [] w))
  unfold syncD
  by_cases hP : placeE k nm = 0
  rotate_left
  · rw [if_pos hP]
    unfold ptr at CP ⊢
    generalize Left d own w k = M at *
    simp only []
    generalize placeE k nm = E at *
    clear h h0 CG hD hO hB
    go_enter Tryz.func40, Tryz.ntmps40
    go_wp2_with (go_at_call 76; with_reducible refine CP.out.mono ?_; rintro e w1 ⟨rfl, rfl⟩)
    go_ret
    exact ⟨rfl, hsame.out⟩
  rw [if_neg (by simpa using hP)]
  have hPP : placeP k nm = plc k.files nm := by unfold placeP; rw [if_pos hP]
  rw [hP, hPP] at CP
  by_cases hG : (goesD k).1 = 0
  rotate_left
  · rw [if_pos hG]
    unfold ptr at CP CG ⊢
    generalize Left d own w (goesD k).2 = M at *
    generalize (goesD k).1 = E at *
    generalize plc k.files nm = p at *
    clear h h0 hD hO hB hsame hPP hP
    go_enter Tryz.func40, Tryz.ntmps40
    go_wp2_with (first
      | (go_at_call 76; with_reducible refine CP.out.mono ?_; rintro e w1 ⟨rfl, rfl⟩)
      | (go_at_call 77; with_reducible refine CG.out.mono ?_; rintro e w2 ⟨rfl, hm⟩; have HM := hid hm; clear hm))
    go_ret
    exact ⟨rfl, HM.out⟩
  rw [if_neg (by simpa using hG)]
  rw [hG] at CG
  obtain ⟨gf, -⟩ := goes_files hG
  have hAG := hid fun (w1 : World) (hm : Left d own w (goesD k).2 w1) => after_goes (nm := nm) hm gf hP
  clear hsame h h0 hD hO hB
  have hp200 : plc k.files nm ≤ plc k.files nm := Nat.le_refl _
  unfold ptr at CP CG ⊢
  generalize plc k.files nm = p at *
  go_enter Tryz.func40, Tryz.ntmps40
  go_wp2_with (first
    | (go_at_call 76; with_reducible refine CP.out.mono ?_; rintro e w1 ⟨rfl, rfl⟩)
    | (go_at_call 77; with_reducible refine CG.out.mono ?_; rintro e w2 ⟨rfl, hm⟩; obtain ⟨n, b, c, x, g3, g4, hpn, hnc, hn2, hfx, hxf, hput⟩ := hAG.out _ hm; have HP := hid hput; have CL := hid (lasting_any hfx); unfold ptr at CL; have HX := hid (And.intro hfx hxf); clear hm hput hfx hxf)
    | (go_at_call 59; with_reducible refine CL.out.mono ?_; intro e w3 hh; obtain ⟨y, hyf, he, hfy, hyb, hyo, ty⟩ := made_out hh; unfold ptr at he; subst he; have CT := hid (HP.out (lastF x.f) [] y w3 (lastF_name _) nil_mem hyf hfy hyo ty); clear hyf hfy hyb hyo ty)
    | (go_at_call 78; with_reducible refine CT.out.mono ?_; rintro e w4 ⟨rfl, hm4⟩; have HM4 := hid hm4; clear hm4))
  go_ret
  refine ⟨rfl, ?_⟩
  have := HM4.out
  rw [HX.out.2] at this
  exact this

set_option maxHeartbeats 2000000 in
theorem trunc_any {w : World} {d : Nat} {k : Dk} {own : List Nat} (h : Fit w d k own) (nm : ByteArray) (m : Int) :
    Calls Tryz.prog 81 #[ptr d, .string nm, .int .i64 m] w fun e w' => e = .returned (.int .i64 (truncD k nm m).1) ∧ Left d own w (truncD k nm m).2 w' := by
  have h0 := h.disk
  have CG := hid (goes_any h.disk h.keep h.used)
  obtain ⟨rv, kv, L, hD, hO, hB⟩ := h.disk
  have CP := hid (place_any hD nm)
  have hsame := hid (Left.same h0 (Touch.refl [] w))
  unfold truncD
  by_cases hP : placeE k nm = 0
  rotate_left
  · rw [if_pos hP]
    unfold ptr at CP ⊢
    generalize Left d own w k = M at *
    simp only []
    generalize placeE k nm = E at *
    clear h h0 CG hD hO hB
    go_enter Tryz.func81, Tryz.ntmps81
    go_wp2_with (go_at_call 76; with_reducible refine CP.out.mono ?_; rintro e w1 ⟨rfl, rfl⟩)
    go_ret
    exact ⟨rfl, hsame.out⟩
  rw [if_neg (by simpa using hP)]
  have hPP : placeP k nm = plc k.files nm := by unfold placeP; rw [if_pos hP]
  rw [hP, hPP] at CP
  obtain ⟨x0, b0, c0, hx0, hxf0, hxn0, hp0, hc0, hl0, g3, g4, -⟩ := fetch hD rfl hP
  have g5 := (head_cells (hD.each x0 hx0).head).2.2.1
  have hsm0 := (hD.each x0 hx0).small
  rw [hxf0] at g5 hsm0
  by_cases hR : m < 0 ∨ ((fileD k nm).data.size : Int) < m
  · rw [if_pos hR]
    unfold ptr at CP ⊢
    generalize Left d own w k = M at *
    generalize (fileD k nm).data.size = sz at *
    generalize plc k.files nm = p at *
    generalize L.length = n at *
    generalize x0.b = xb at *
    clear h h0 hD hO hB hPP hP CG hx0 hxf0 hxn0
    by_cases hm0 : m < 0
    · have q1 : decide (m < 0) = true := by simpa using hm0
      clear hR
      go_enter Tryz.func81, Tryz.ntmps81
      go_wp2_with (go_at_call 76; with_reducible refine CP.out.mono ?_; rintro e w1 ⟨rfl, rfl⟩)
      go_ret
      exact ⟨rfl, hsame.out⟩
    · have q0 : decide (m < 0) = false := by simpa using hm0
      have q1 : decide ((sz : Int) < m) = true := by rw [decide_eq_true_eq]; omega
      have q2 : (sz : Int) < m := by omega
      clear hR
      go_enter Tryz.func81, Tryz.ntmps81
      go_wp2_with (go_at_call 76; with_reducible refine CP.out.mono ?_; rintro e w1 ⟨rfl, rfl⟩)
      go_ret
      exact ⟨rfl, hsame.out⟩
  rw [if_neg hR]
  obtain ⟨mm, rfl⟩ : ∃ mm : Nat, m = mm := ⟨m.toNat, by omega⟩
  have hmm : mm ≤ (fileD k nm).data.size := by omega
  have hmm2 := hid hmm
  have r0 : decide ((mm : Int) < 0) = false := by rw [decide_eq_false_iff_not]; omega
  have r1 : decide (((fileD k nm).data.size : Int) < (mm : Int)) = false := by rw [decide_eq_false_iff_not]; omega
  have r2 : decide ((fileD k nm).data.size < mm) = false := by rw [decide_eq_false_iff_not]; omega
  rw [Int.toNat_natCast]
  generalize hsz : (fileD k nm).data.size = sz at g5 r1 r2 hsm0 hmm
  generalize hLn : L.length = Ln at *
  generalize x0.b = xb at *
  clear hR hx0 hxf0 hxn0
  by_cases hG : (goesD k).1 = 0
  rotate_left
  · rw [if_pos hG]
    unfold ptr at CP CG ⊢
    generalize Left d own w (goesD k).2 = M at *
    generalize (goesD k).1 = E at *
    generalize plc k.files nm = p at *
    clear h h0 hD hO hB hsame hPP hP
    go_enter Tryz.func81, Tryz.ntmps81
    go_wp2_with (first
      | (go_at_call 76; with_reducible refine CP.out.mono ?_; rintro e w1 ⟨rfl, rfl⟩)
      | (go_at_call 77; with_reducible refine CG.out.mono ?_; rintro e w2 ⟨rfl, hm⟩; have HM := hid hm; clear hm))
    go_ret
    exact ⟨rfl, HM.out⟩
  rw [if_neg (by simpa using hG)]
  rw [hG] at CG
  obtain ⟨gf, -⟩ := goes_files hG
  have hAG := hid fun (w1 : World) (hm : Left d own w (goesD k).2 w1) => after_goes (nm := nm) hm gf hP
  clear hsame h h0 hD hO hB
  have hp200 : plc k.files nm ≤ plc k.files nm := Nat.le_refl _
  unfold ptr at CP CG ⊢
  generalize plc k.files nm = p at *
  go_enter Tryz.func81, Tryz.ntmps81
  go_wp2_with (first
    | (go_at_call 76; with_reducible refine CP.out.mono ?_; rintro e w1 ⟨rfl, rfl⟩)
    | (go_at_call 77; with_reducible refine CG.out.mono ?_; rintro e w2 ⟨rfl, hm⟩; obtain ⟨n, b, c, x, g3, g4, hpn, hnc, hn2, hfx, hxf, hput⟩ := hAG.out _ hm; have HP := hid hput; have CL := hid (cut_any hfx mm (by rw [hxf]; exact hmm2.out)); unfold ptr at CL; have HX := hid (And.intro hfx hxf); clear hm hput hfx hxf)
    | (go_at_call 58; with_reducible refine CL.out.mono ?_; intro e w3 hh; obtain ⟨y, hyf, he, hfy, hyb, hyo, ty⟩ := made_out hh; unfold ptr at he; subst he; have CT := hid (HP.out (cutF x.f mm) [] y w3 (cutF_name _ _) nil_mem hyf hfy hyo ty); clear hyf hfy hyb hyo ty)
    | (go_at_call 78; with_reducible refine CT.out.mono ?_; rintro e w4 ⟨rfl, hm4⟩; have HM4 := hid hm4; clear hm4))
  go_ret
  refine ⟨rfl, ?_⟩
  have := HM4.out
  rw [HX.out.2] at this
  exact this
end Go.Proofs.YtjjocnkockeacaaGreatDoor

namespace Go.Proofs.YtjjocnkockeacaaGreatDoor
open Go.RowKit Go.Lib
set_option maxRecDepth 100000

theorem putF_len_le : ∀ (l : List Fl) (f : Fl), (putF l f).length ≤ l.length + 1
  | [], _ => by simp [putF]
  | a :: r, f => by
    have := putF_len_le r f
    rw [putF]
    split
    · simp; omega
    · split <;> simp
theorem after_drop {w w1 : World} {d : Nat} {k k1 : Dk} {own : List Nat} {nm : ByteArray} (hm : Left d own w k1 w1) (hk : k1.files = k.files) (he : placeE k nm = 0) :
    Calls Tryz.prog 105 #[.pointer (some ⟨d, 0, none⟩), .int .i64 (plc k.files nm : Nat)] w1 fun e w3 => e = .returned (.tuple #[]) ∧ Left d own w { k1 with files := dropF k.files nm } w3 := by
  obtain ⟨own1, rv1, kv1, L1, hD, hO, t, ho⟩ := left_out hm
  obtain ⟨x, b, c, hx, hxf, hxn, hp, hc, hl, g3, g4, -⟩ := fetch hD hk he
  refine (drop_any hD.cells hD.ok hp).mono ?_
  intro e w3 hr
  obtain ⟨rv', hD', t', ho'⟩ := drop_disk hD hr
  have hs : Sorted k.files := by rw [← hk]; exact hD.sorted
  refine ⟨hr.1, Left.trans t ho ?_⟩
  rw [drop_plc hs (place_some he).1]
  rw [hk] at hD'
  refine hD'.leaves (t'.mono (fun i hi => by simp at hi; subst hi; exact .inl (hO _ (by simp [ownOf])))) (fun i hi => ?_)
  have hsub : (L1.take (plc k.files nm) ++ L1.drop (plc k.files nm + 1)).Sublist L1 := by
    conv => rhs; rw [← List.take_append_drop (plc k.files nm) L1]
    exact List.Sublist.append_left (by rw [← List.drop_drop]; exact (List.drop_sublist 1 _)) _
  rcases mem_drop_own (rv := rv1) hsub hi with h1 | h1
  · exact .inr (ho' i h1)
  · exact .inl (hO i h1)

theorem after_ren {w w1 : World} {d : Nat} {k k1 : Dk} {own : List Nat} {nm : ByteArray} (hm : Left d own w k1 w1) (hk : k1.files = k.files) (he : placeE k nm = 0) :
    ∃ (n b c : Nat) (x : Px), w1.cell? ⟨d, 3, none⟩ = some (.slice (some ⟨b, 0, none⟩) n c) ∧ w1.cell? ⟨b, plc k.files nm, none⟩ = some (.pointer (some ⟨x.b, 0, none⟩)) ∧ plc k.files nm < n ∧ n ≤ c ∧ n ≤ 200 ∧ FileAt w1 x ∧ x.f = fileD k nm ∧
      (∀ (f' : Fl) (y : Px) (w2 : World), y.f = f' → FileAt w2 y → (∀ q ∈ y.own, q ∈ x.mut ∨ w1.heap.size ≤ q) → Touch [] w1 w2 →
        Calls Tryz.prog 105 #[.pointer (some ⟨d, 0, none⟩), .int .i64 (plc k.files nm : Nat)] w2 fun e w3 => e = .returned (.tuple #[]) ∧
          Calls Tryz.prog 78 #[.pointer (some ⟨d, 0, none⟩), .pointer (some ⟨y.b, 0, none⟩)] w3 fun e w4 => e = .returned (.tuple #[]) ∧ Left d own w { k1 with files := putF (dropF k.files nm) f' } w4) := by
  obtain ⟨own1, rv1, kv1, L1, hD, hO, t, ho⟩ := left_out hm
  obtain ⟨x, b, c, hx, hxf, hxn, hp, hc, hl, g3, g4, hLx⟩ := fetch hD hk he
  refine ⟨L1.length, b, c, x, g3, g4, hp, hc, hl, hD.each x hx, hxf, ?_⟩
  intro f' y w2 hy hfy hb t2
  have hD2 := hD.touch t2 (by simp)
  refine (drop_any hD2.cells hD2.ok hp).mono ?_
  intro e w3 hr
  obtain ⟨rv', hD3, t3, ho3⟩ := drop_disk hD2 hr
  have hs : Sorted k.files := by rw [← hk]; exact hD.sorted
  refine ⟨hr.1, ?_⟩
  have hsub : (L1.take (plc k.files nm) ++ L1.drop (plc k.files nm + 1)).Sublist L1 := by
    conv => rhs; rw [← List.take_append_drop (plc k.files nm) L1]
    exact List.Sublist.append_left (by rw [← List.drop_drop]; exact (List.drop_sublist 1 _)) _
  have hap : ∀ z ∈ L1.take (plc k.files nm) ++ L1.drop (plc k.files nm + 1), ∀ i ∈ x.own, i ∉ z.own := by
    intro z hz i hi hiz
    have hx0 : L1[plc k.files nm] = x := by
      rw [List.getElem?_eq_getElem hp] at hLx
      simpa using hLx
    rcases List.mem_append.1 hz with h1 | h1
    · obtain ⟨j, hj, rfl⟩ := List.getElem_of_mem h1
      simp only [List.length_take] at hj
      rw [List.getElem_take] at hiz
      refine List.pairwise_iff_getElem.1 hD.apart j (plc k.files nm) (by omega) hp (by omega) i hiz ?_
      rw [hx0]; exact hi
    · obtain ⟨j, hj, rfl⟩ := List.getElem_of_mem h1
      simp only [List.length_drop] at hj
      rw [List.getElem_drop] at hiz
      refine List.pairwise_iff_getElem.1 hD.apart (plc k.files nm) (plc k.files nm + 1 + j) hp (by omega) (by omega) i ?_ hiz
      rw [hx0]; exact hi
  have hfy3 : FileAt w3 y := hfy.touch t3 (fun i hi => by simpa using own_ne_disk hD2.cells hfy i hi)
  have hA : Ahead w3 d _ rv' kv1 _ (own1 ++ (y.own ++ rv'.ownBlock.toList)) [] y w3 := ⟨hD3, fun i hi => by
      rcases mem_drop_own (rv := rv1) hsub hi with h1 | h1
      · simp [Option.mem_toList.1 h1]
      · simp [hO i h1], hfy3, Touch.refl _ _, by simp, fun q hq => .inr ⟨by simp [hq], fun z hz _ hqz => by
        rcases hb q hq with h1 | h1
        · exact hap z hz q (mut_own h1) hqz
        · have := (hD.each z (hsub.subset hz)).lt q hqz; omega⟩⟩
  obtain ⟨q1, q2, q3⟩ := hA.ok
  refine (put_any q1 q2 q3).mono ?_
  intro e w4 hr4
  refine ⟨hr4.1, ?_⟩
  have hdl := drop_plc hs (place_some he).1
  have hkl : k.files.length = L1.length := by rw [← hk, ← hD.files, List.length_map]
  have hpl : plc k.files nm < k.files.length := by omega
  have hl4 : (putF (k1.files.take (plc k.files nm) ++ k1.files.drop (plc k.files nm + 1)) y.f).length ≤ 200 := by
    have h1 := putF_len_le (k1.files.take (plc k.files nm) ++ k1.files.drop (plc k.files nm + 1)) y.f
    have h2 := hD.many
    rw [hk] at h1 h2 ⊢
    simp only [List.length_append, List.length_take, List.length_drop] at h1
    omega
  have hL := hA.put hr4 hl4
  have : Left d (own1 ++ (y.own ++ rv'.ownBlock.toList)) w3 { k1 with files := putF (dropF k.files nm) f' } w4 := by
    rw [hk, hy] at hL
    rw [hdl]
    exact hL
  refine Left.trans (own1 := own1 ++ (y.own ++ rv'.ownBlock.toList)) ?_ ?_ this
  · refine (t.trans (t2.mono (G := own1) (by simp)) ho).trans t3 (fun i hi => ?_)
    simp at hi; subst hi
    exact ho _ (hO _ (by simp [ownOf]))
  · intro i hi
    rcases List.mem_append.1 hi with h1 | h1
    · exact ho i h1
    · rcases List.mem_append.1 h1 with h1 | h1
      · rcases hb i h1 with h2 | h2
        · exact ho i (hO i (mem_own.2 (.inr (.inr (.inr ⟨x, hx, mut_own h2⟩)))))
        · exact .inr (Nat.le_trans t.size h2)
      · exact .inr (Nat.le_trans t.size (Nat.le_trans t2.size (ho3 i h1)))

theorem refuse_len {k : Dk} {nm : ByteArray} (h : refuse k nm = 0) : nm.size ≤ 40 := by
  unfold refuse at h
  split at h
  · split at h
    · omega
    · omega
  · omega
set_option maxHeartbeats 2000000 in
theorem remove_any {w : World} {d : Nat} {k : Dk} {own : List Nat} (h : Fit w d k own) (nm : ByteArray) :
    Calls Tryz.prog 69 #[ptr d, .string nm] w fun e w' => e = .returned (.int .i64 (removeD k nm).1) ∧ Left d own w (removeD k nm).2 w' := by
  have h0 := h.disk
  have CG := hid (goes_any h.disk h.keep h.used)
  obtain ⟨rv, kv, L, hD, hO, hB⟩ := h.disk
  have CP := hid (place_any hD nm)
  have hsame := hid (Left.same h0 (Touch.refl [] w))
  unfold removeD
  by_cases hP : placeE k nm = 0
  rotate_left
  · rw [if_pos hP]
    unfold ptr at CP ⊢
    generalize Left d own w k = M at *
    simp only []
    generalize placeE k nm = E at *
    clear h h0 CG hD hO hB
    go_enter Tryz.func69, Tryz.ntmps69
    go_wp2_with (go_at_call 76; with_reducible refine CP.out.mono ?_; rintro e w1 ⟨rfl, rfl⟩)
    go_ret
    exact ⟨rfl, hsame.out⟩
  rw [if_neg (by simpa using hP)]
  have hPP : placeP k nm = plc k.files nm := by unfold placeP; rw [if_pos hP]
  rw [hP, hPP] at CP
  by_cases hG : (goesD k).1 = 0
  rotate_left
  · rw [if_pos hG]
    unfold ptr at CP CG ⊢
    generalize Left d own w (goesD k).2 = M at *
    generalize (goesD k).1 = E at *
    generalize plc k.files nm = p at *
    clear h h0 hD hO hB hsame hPP hP
    go_enter Tryz.func69, Tryz.ntmps69
    go_wp2_with (first
      | (go_at_call 76; with_reducible refine CP.out.mono ?_; rintro e w1 ⟨rfl, rfl⟩)
      | (go_at_call 77; with_reducible refine CG.out.mono ?_; rintro e w2 ⟨rfl, hm⟩; have HM := hid hm; clear hm))
    go_ret
    exact ⟨rfl, HM.out⟩
  rw [if_neg (by simpa using hG)]
  rw [hG] at CG
  obtain ⟨gf, -⟩ := goes_files hG
  have hAG := hid fun (w1 : World) (hm : Left d own w (goesD k).2 w1) => after_drop (nm := nm) hm gf hP
  clear hsame h h0 hD hO hB
  unfold ptr at CP CG ⊢
  generalize plc k.files nm = p at *
  go_enter Tryz.func69, Tryz.ntmps69
  go_wp2_with (first
    | (go_at_call 76; with_reducible refine CP.out.mono ?_; rintro e w1 ⟨rfl, rfl⟩)
    | (go_at_call 77; with_reducible refine CG.out.mono ?_; rintro e w2 ⟨rfl, hm⟩; have HP := hid (hAG.out _ hm); clear hm)
    | (go_at_call 105; with_reducible refine HP.out.mono ?_; rintro e w4 ⟨rfl, hm4⟩; have HM4 := hid hm4; clear hm4))
  go_ret
  exact ⟨rfl, HM4.out⟩

set_option maxHeartbeats 2000000 in
theorem rename_any {w : World} {d : Nat} {k : Dk} {own : List Nat} (h : Fit w d k own) (nm nt : ByteArray) :
    Calls Tryz.prog 92 #[ptr d, .string nm, .string nt] w fun e w' => e = .returned (.int .i64 (renameD k nm nt).1) ∧ Left d own w (renameD k nm nt).2 w' := by
  have h0 := h.disk
  have CG := hid (goes_any h.disk h.keep h.used)
  obtain ⟨rv, kv, L, hD, hO, hB⟩ := h.disk
  have CP := hid (place_any hD nm)
  have CR := hid (refuses_any hD.cells nt)
  have hsame := hid (Left.same h0 (Touch.refl [] w))
  unfold renameD
  by_cases hR : refuse k nt = 0
  rotate_left
  · rw [if_pos hR]
    unfold ptr at CR ⊢
    generalize Left d own w k = M at *
    simp only []
    generalize refuse k nt = E at *
    clear h h0 CG hD hO hB CP
    go_enter Tryz.func92, Tryz.ntmps92
    go_wp2_with (go_at_call 84; with_reducible refine CR.out.mono ?_; rintro e w1 ⟨rfl, rfl⟩)
    go_ret
    exact ⟨rfl, hsame.out⟩
  rw [if_neg (by simpa using hR)]
  have hnt := hid (refuse_len hR)
  rw [hR] at CR
  clear hR
  by_cases hP : placeE k nm = 0
  rotate_left
  · rw [if_pos hP]
    unfold ptr at CP CR ⊢
    generalize Left d own w k = M at *
    simp only []
    generalize placeE k nm = E at *
    clear h h0 CG hD hO hB
    go_enter Tryz.func92, Tryz.ntmps92
    go_wp2_with (first | (go_at_call 84; with_reducible refine CR.out.mono ?_; rintro e w0 ⟨rfl, rfl⟩) | (go_at_call 76; with_reducible refine CP.out.mono ?_; rintro e w1 ⟨rfl, rfl⟩))
    go_ret
    exact ⟨rfl, hsame.out⟩
  rw [if_neg (by simpa using hP)]
  have hPP : placeP k nm = plc k.files nm := by unfold placeP; rw [if_pos hP]
  rw [hP, hPP] at CP
  by_cases hG : (goesD k).1 = 0
  rotate_left
  · rw [if_pos hG]
    unfold ptr at CP CG CR ⊢
    generalize Left d own w (goesD k).2 = M at *
    generalize (goesD k).1 = E at *
    generalize plc k.files nm = p at *
    clear h h0 hD hO hB hsame hPP hP
    go_enter Tryz.func92, Tryz.ntmps92
    go_wp2_with (first
      | (go_at_call 84; with_reducible refine CR.out.mono ?_; rintro e w0 ⟨rfl, rfl⟩)
      | (go_at_call 76; with_reducible refine CP.out.mono ?_; rintro e w1 ⟨rfl, rfl⟩)
      | (go_at_call 77; with_reducible refine CG.out.mono ?_; rintro e w2 ⟨rfl, hm⟩; have HM := hid hm; clear hm))
    go_ret
    exact ⟨rfl, HM.out⟩
  rw [if_neg (by simpa using hG)]
  rw [hG] at CG
  obtain ⟨gf, -⟩ := goes_files hG
  have hAG := hid fun (w1 : World) (hm : Left d own w (goesD k).2 w1) => after_ren (nm := nm) hm gf hP
  clear hsame h h0 hD hO hB
  unfold ptr at CP CG CR ⊢
  generalize plc k.files nm = p at *
  go_enter Tryz.func92, Tryz.ntmps92
  go_wp2_with (first
    | (go_at_call 84; with_reducible refine CR.out.mono ?_; rintro e w0 ⟨rfl, rfl⟩)
    | (go_at_call 76; with_reducible refine CP.out.mono ?_; rintro e w1 ⟨rfl, rfl⟩)
    | (go_at_call 77; with_reducible refine CG.out.mono ?_; rintro e w2 ⟨rfl, hm⟩; obtain ⟨n, b, c, x, g3, g4, hpn, hnc, hn2, hfx, hxf, hput⟩ := hAG.out _ hm; have HP := hid hput; have CL := hid (named_any hfx nt hnt.out); unfold ptr at CL; have HX := hid (And.intro hfx hxf); clear hm hput hfx hxf)
    | (go_at_call 121; with_reducible refine CL.out.mono ?_; intro e w3 hh; obtain ⟨y, hyf, he, hfy, hyb, hyo, ty⟩ := made_out hh; unfold ptr at he; subst he; have CT := hid (HP.out (namedF x.f nt) y w3 hyf hfy hyo ty); clear hyf hfy hyb hyo ty)
    | (go_at_call 105; with_reducible refine CT.out.mono ?_; rintro e w4 ⟨rfl, hm4⟩; have CU := hid hm4; clear hm4)
    | (go_at_call 78; with_reducible refine CU.out.mono ?_; rintro e w5 ⟨rfl, hm5⟩; have HM5 := hid hm5; clear hm5))
  go_ret
  refine ⟨rfl, ?_⟩
  have := HM5.out
  rw [HX.out.2] at this
  exact this
end Go.Proofs.YtjjocnkockeacaaGreatDoor
