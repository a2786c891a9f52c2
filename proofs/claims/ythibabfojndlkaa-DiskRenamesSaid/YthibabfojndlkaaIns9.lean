/- A file that is put into a disk. -/
import Derived.Test.YthibabfojndlkaaDsk9
namespace Go.Proofs.Ythibabfojndlkaa
open Go.RowKit Go.Lib
set_option maxRecDepth 100000

theorem left_out {d : Nat} {own : List Nat} {w w' : World} {k : Dk} (h : Left d own w k w') : ∃ (own' : List Nat) (rv kv : Value) (L : List Px), DiskIs w' d k rv kv L ∧ (∀ i ∈ ownOf d rv kv L, i ∈ own') ∧ Touch own w w' ∧ ∀ i ∈ own', i ∈ own ∨ w.heap.size ≤ i := by
  obtain ⟨own', ⟨rv, kv, L, h1, h2, _⟩, h4, h5⟩ := h
  exact ⟨own', rv, kv, L, h1, h2, h4, h5⟩
theorem apart_of {L : List Px} {x z : Px} {nm : ByteArray} (h : Apart L) (hx : x ∈ L) (hz : z ∈ L) (h1 : cmpN x.f.name nm = 0) (h2 : cmpN z.f.name nm ≠ 0) : ∀ i ∈ x.own, i ∉ z.own := by
  obtain ⟨a, ha, rfl⟩ := List.getElem_of_mem hx
  obtain ⟨b, hb, rfl⟩ := List.getElem_of_mem hz
  intro i hi hiz
  rcases Nat.lt_trichotomy a b with h3 | h3 | h3
  · exact List.pairwise_iff_getElem.1 h a b ha hb h3 i hi hiz
  · subst h3; exact h2 h1
  · exact List.pairwise_iff_getElem.1 h b a hb ha h3 i hiz hi
theorem mut_type {w : World} {x : Px} (h : FileAt w x) {i : Nat} (hi : i ∈ x.mut) {cs : Array Value} {t : TypeId} {fz : Nat × Nat} {b : Nat} (hb : w.heap[b]? = some (.cells cs t fz)) (h1 : t ≠ tPool) (h2 : t ≠ tU8) : i ≠ b := by
  simp only [Px.mut, List.mem_cons] at hi
  rcases hi with rfl | hi
  · exact ne_type h.pool hb (Ne.symm h1)
  · intro e
    subst e
    exact h.pv.ne hb h2 _ hi (by simp)
theorem mut_row {w : World} {x : Px} (h : FileAt w x) {i : Nat} (hi : i ∈ x.mut) {base n : Nat} {v : Value} {xs : List Value} {t : TypeId} (ho : w.ownsRow base t 1 v n xs) (h1 : t ≠ tPool) (h2 : t ≠ tU8) : i ∉ v.ownBlock.toList := by
  intro hm
  rcases ho.2 with ⟨rfl, _⟩ | ⟨g, cap, cur, rfl, hb, hg, _⟩
  · simp [Value.ownBlock] at hm
  · simp [Value.ownBlock] at hm
    subst hm
    exact mut_type h hi hg h1 h2 rfl

theorem mem_putP {L : List Px} {y z : Px} (hs : Sorted (L.map (·.f))) (h : z ∈ putP L y) : z = y ∨ (z ∈ L ∧ cmpN z.f.name y.f.name ≠ 0) := by
  unfold putP at h
  rcases List.mem_append.1 h with h | h
  · right
    obtain ⟨i, hi, rfl⟩ := List.getElem_of_mem h
    simp only [List.length_take] at hi
    rw [List.getElem_take]
    refine ⟨List.getElem_mem _, ?_⟩
    have := plc_lt hs (nm := y.f.name) i (by simp; omega) (by omega)
    simp at this
    omega
  · rcases List.mem_cons.1 h with h | h
    · exact .inl h
    · right
      obtain ⟨i, hi, rfl⟩ := List.getElem_of_mem h
      simp only [List.length_drop] at hi
      rw [List.getElem_drop]
      refine ⟨List.getElem_mem _, ?_⟩
      have := plc_gt hs (nm := y.f.name) ((if (getF (L.map (·.f)) y.f.name).isSome then plc (L.map (·.f)) y.f.name + 1 else plc (L.map (·.f)) y.f.name) + i) (by simp; omega) (by omega)
      simp at this
      omega

/-- What is done to memory ahead of put. -/
structure Ahead (w : World) (d : Nat) (k : Dk) (rv kv : Value) (L : List Px) (own F : List Nat) (y : Px) (w1 : World) : Prop where
  disk : DiskIs w d k rv kv L
  owned : ∀ i ∈ ownOf d rv kv L, i ∈ own
  file : FileAt w1 y
  touch : Touch F w w1
  which : ∀ i ∈ F, ∃ x ∈ L, cmpN x.f.name y.f.name = 0 ∧ i ∈ x.mut
  blocks : ∀ b ∈ y.own, w.heap.size ≤ b ∨ (b ∈ own ∧ ∀ z ∈ L, cmpN z.f.name y.f.name ≠ 0 → b ∉ z.own)

theorem Ahead.ok {w w1 : World} {d : Nat} {k : Dk} {rv kv : Value} {L : List Px} {own F : List Nat} {y : Px} (h : Ahead w d k rv kv L own F y w1) :
    w1.heap[d]? = some (.cells (dkCells k rv kv) tDisk (0, 0)) ∧ RowOk w1 d rv L ∧ HeadAt w1 y := by
  have hd : w1.heap[d]? = some (.cells (dkCells k rv kv) tDisk (0, 0)) := (h.touch.block d (lt_of_block h.disk.cells) (fun hm => by
    obtain ⟨x, hx, _, hi⟩ := h.which d hm
    exact mut_type (h.disk.each x hx) hi h.disk.cells (by decide) (by decide) rfl)).trans h.disk.cells
  have ok := h.disk.ok
  refine ⟨hd, ⟨(dk_cell hd).2.2.2.1, own_touch ok.row h.touch (fun i hi hm => ?_), fun z hz => (ok.heads z hz).touch h.touch (fun hm => ?_), ok.sorted, ok.len⟩, h.file.head⟩
  · obtain ⟨x, hx, _, hi2⟩ := h.which i hm
    exact mut_row (h.disk.each x hx) hi2 ok.row (by decide) (by decide) hi
  · obtain ⟨x, hx, _, hi2⟩ := h.which _ hm
    exact mut_type (h.disk.each x hx) hi2 (ok.heads z hz) (by decide) (by decide) rfl

theorem Ahead.put {w w1 w2 : World} {d : Nat} {k : Dk} {rv kv : Value} {L : List Px} {own F : List Nat} {y : Px} {e : Ending} (h : Ahead w d k rv kv L own F y w1) (hp : RowPost d k kv (putP L y) w1 e w2) (hm : (putF k.files y.f).length ≤ 200) :
    Left d own w { k with files := putF k.files y.f } w2 := by
  obtain ⟨-, rv', d2, hr, ho, t2⟩ := hp
  have hs : Sorted (L.map (·.f)) := by rw [h.disk.files]; exact h.disk.sorted
  obtain ⟨hd1, -, -⟩ := h.ok
  have hfz : ∀ z ∈ L, cmpN z.f.name y.f.name ≠ 0 → FileAt w1 z := by
    intro z hz hn
    refine (h.disk.each z hz).touch h.touch (fun i hi hmF => ?_)
    obtain ⟨x, hx, hx0, hi2⟩ := h.which i hmF
    exact apart_of h.disk.apart hx hz hx0 hn i (mut_own hi2) hi
  have hkv1 : KeepAt w1 kv k.keep := own_touch h.disk.keep h.touch (fun i hi hmF => by
    obtain ⟨x, hx, _, hi2⟩ := h.which i hmF
    exact mut_row (h.disk.each x hx) hi2 h.disk.keep (by decide) (by decide) hi)
  have hfz2 : ∀ z ∈ putP L y, FileAt w2 z := by
    intro z hz
    rcases mem_putP hs hz with rfl | ⟨hz, hn⟩
    · exact h.file.touch t2 (fun i hi => by simpa using own_ne_disk hd1 h.file i hi)
    · exact (hfz z hz hn).touch t2 (fun i hi => by simpa using own_ne_disk hd1 (hfz z hz hn) i hi)
  refine DiskIs.leaves (k' := { k with files := putF k.files y.f }) (rv := rv') (kv := kv) (L := putP L y) ⟨d2, hr, by rw [putP_files hs, h.disk.files], hfz2, ?_, own_touch hkv1 t2 (fun i hi => by simpa using row_ne_disk hd1 hkv1 (by decide) i hi), sorted_putF h.disk.sorted, hm, h.disk.left⟩ ?_ ?_
  · unfold Apart putP
    have hyz : ∀ z ∈ L, cmpN z.f.name y.f.name ≠ 0 → ∀ i ∈ y.own, i ∉ z.own := by
      intro z hz hn i hi hiz
      rcases h.blocks i hi with h1 | ⟨_, h1⟩
      · have := (h.disk.each z hz).lt i hiz; omega
      · exact h1 z hz hn hiz
    have htk : ∀ z ∈ L.take (plc (L.map (·.f)) y.f.name), z ∈ L ∧ cmpN z.f.name y.f.name ≠ 0 := by
      intro z hz
      obtain ⟨i, hi, rfl⟩ := List.getElem_of_mem hz
      simp only [List.length_take] at hi
      rw [List.getElem_take]
      refine ⟨List.getElem_mem _, ?_⟩
      have := plc_lt hs (nm := y.f.name) i (by simp; omega) (by omega)
      simp at this
      omega
    have hdr : ∀ z ∈ L.drop (if (getF (L.map (·.f)) y.f.name).isSome then plc (L.map (·.f)) y.f.name + 1 else plc (L.map (·.f)) y.f.name), z ∈ L ∧ cmpN z.f.name y.f.name ≠ 0 := by
      intro z hz
      obtain ⟨i, hi, rfl⟩ := List.getElem_of_mem hz
      simp only [List.length_drop] at hi
      rw [List.getElem_drop]
      refine ⟨List.getElem_mem _, ?_⟩
      have := plc_gt hs (nm := y.f.name) ((if (getF (L.map (·.f)) y.f.name).isSome then plc (L.map (·.f)) y.f.name + 1 else plc (L.map (·.f)) y.f.name) + i) (by simp; omega) (by omega)
      simp at this
      omega
    rw [List.pairwise_append]
    refine ⟨h.disk.apart.sublist (List.take_sublist _ _), List.pairwise_cons.2 ⟨fun z hz => hyz z (hdr z hz).1 (hdr z hz).2, h.disk.apart.sublist (List.drop_sublist _ _)⟩, ?_⟩
    intro a ha b hb i hi hib
    rcases List.mem_cons.1 hb with rfl | hb
    · exact hyz a (htk a ha).1 (htk a ha).2 i hib hi
    · have hle : plc (L.map (·.f)) y.f.name ≤ (if (getF (L.map (·.f)) y.f.name).isSome then plc (L.map (·.f)) y.f.name + 1 else plc (L.map (·.f)) y.f.name) := by split <;> omega
      obtain ⟨p, hp, rfl⟩ := List.getElem_of_mem ha
      obtain ⟨q, hq, rfl⟩ := List.getElem_of_mem hb
      simp only [List.length_take, List.length_drop] at hp hq
      rw [List.getElem_take] at hi
      rw [List.getElem_drop] at hib
      exact List.pairwise_iff_getElem.1 h.disk.apart p _ (by omega) (by omega) (by omega) i hi hib
  · have hdo : d ∈ own := h.owned d (by simp [ownOf])
    refine (h.touch.mono (G := own) (fun i hi => ?_)).trans t2 (fun i hi => by simp at hi; subst hi; exact .inl hdo)
    obtain ⟨x, hx, _, hi2⟩ := h.which i hi
    exact .inl (h.owned i (mem_own.2 (.inr (.inr (.inr ⟨x, hx, mut_own hi2⟩)))))
  · intro i hi0
    rcases mem_own.1 hi0 with rfl | hi | hi | ⟨x, hx, hi⟩
    · exact .inl (h.owned _ (by simp [ownOf]))
    · exact .inr (Nat.le_trans h.touch.size (ho i hi))
    · exact .inl (h.owned i (mem_own.2 (.inr (.inr (.inl hi)))))
    · clear hi0
      rcases mem_putP hs hx with e | ⟨hx, _⟩
      · rw [e] at hi
        rcases h.blocks i hi with h1 | ⟨h1, _⟩
        · exact .inr h1
        · exact .inl h1
      · exact .inl (h.owned i (mem_own.2 (.inr (.inr (.inr ⟨x, hx, hi⟩)))))

/-- The file of that name, and where it is loaded from. -/
theorem fetch {w : World} {d : Nat} {k k1 : Dk} {rv kv : Value} {L : List Px} {nm : ByteArray} (h : DiskIs w d k1 rv kv L) (hk : k1.files = k.files) (he : placeE k nm = 0) :
    ∃ x b c, x ∈ L ∧ x.f = fileD k nm ∧ cmpN x.f.name nm = 0 ∧ plc k.files nm < L.length ∧ L.length ≤ c ∧ L.length ≤ 200 ∧ w.cell? ⟨d, 3, none⟩ = some (.slice (some ⟨b, 0, none⟩) L.length c) ∧ w.cell? ⟨b, plc k.files nm, none⟩ = some (.pointer (some ⟨x.b, 0, none⟩)) ∧ L[plc k.files nm]? = some x := by
  have hs : Sorted k.files := by rw [← hk]; exact h.sorted
  have hl : L.length = k.files.length := by rw [← hk, ← h.files, List.length_map]
  have h3 := find_plc (nm := nm) hs
  have hg : ∃ f, getF k.files nm = some f := by
    unfold placeE at he
    split at he
    · rename_i h1; exact absurd he h1
    · split at he
      · omega
      · rename_i h2; exact Option.ne_none_iff_exists'.1 h2
  obtain ⟨f, hf⟩ := hg
  rw [hf] at h3
  have hp : plc k.files nm < k.files.length := by
    rcases Nat.lt_or_ge (plc k.files nm) k.files.length with h5 | h5
    · exact h5
    · rw [List.getElem?_eq_none h5] at h3
      cases h3
  rw [List.getElem?_eq_getElem hp] at h3
  simp only [Option.bind_some] at h3
  have hp2 : plc k.files nm < L.length := by omega
  have hfx : L[plc k.files nm].f = k.files[plc k.files nm] := by
    have : (L.map (·.f))[plc k.files nm]? = k.files[plc k.files nm]? := by rw [h.files, hk]
    rw [List.getElem?_map, List.getElem?_eq_getElem hp2, List.getElem?_eq_getElem hp] at this
    simpa using this
  split at h3
  · rename_i h4
    obtain ⟨x, c, hrv, hc, hm, -, hcell⟩ := row_cell h.row
    obtain ⟨b, rfl, hb⟩ := hcell _ hp2
    have h6 : f = k.files[plc k.files nm] := by simpa using h3
    refine ⟨L[plc k.files nm], b, c, List.getElem_mem _, ?_, ?_, hp2, hc, by have := h.many; rw [hk] at this; omega, ?_, hb, List.getElem?_eq_getElem hp2⟩
    · rw [hfx, fileD, hf, ← h6]; rfl
    · rw [hfx]; exact h4
    · rw [← hrv]; exact (dk_cell h.cells).2.2.2.1
  · cases h3
end Go.Proofs.Ythibabfojndlkaa
