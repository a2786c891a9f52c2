/- Entries that are sorted: slices.SortFunc with index.compare, of a row of one's own. -/
import Derived.Shelf.SlSortCmp.WholeK
import Derived.Shelf.SlSortCmp.NoneTotal
import Derived.Test.YtnkflmimnpolcaaShelf
import Derived.Test.YtnkflmimnpolcaaCm14
import Derived.Test.YtnkflmimnpolcaaEx14
namespace Go.Proofs.Ytnkflmimnpolcaa
open Go.RowKit Go.Lib Go.Shelf Go.Sort
set_option maxRecDepth 100000

theorem swo_cmp : SWO (ltOf cmpE) where
  irrefl x := by unfold ltOf; rw [cmpE_lt]; simpa using ltE_irrefl x
  trans x y z h1 h2 := by
    unfold ltOf at *
    rw [cmpE_lt, decide_eq_true_eq] at *
    exact ltE_trans h1 h2
  ntrans x y z h1 h2 := by
    unfold ltOf at *
    rw [cmpE_lt, decide_eq_false_iff_not] at *
    intro h3
    rcases ltE_tri x y with e | e | e
    · subst e; exact h2 h3
    · exact h1 e
    · rcases ltE_tri y z with k | k | k
      · subst k; exact h1 h3
      · exact h2 k
      · exact ltE_asymm h3 (ltE_trans k e)
theorem cmpLays (blk off size : Nat) (w : World) : CmpLays Try.prog 43 #[] enc3 3 cmpE blk off size w := fun _ _ _ _ x y => compare_lays x y _
theorem flat_envals (d : Array En) : (flatK enc3 3 d).toList = envals d.toList := by
  apply List.ext_getElem
  · rw [envals_len]; simp
  · intro t h1 h2
    have h1' : t < d.size * 3 := by simpa using h1
    have e1 : (flatK enc3 3 d).toList[t] = (enc3 d[t / 3]!)[t % 3]! := by
      rw [Array.getElem_toList]
      have := get_flatK enc3 3 d t h1'
      rw [getElem!_pos (flatK enc3 3 d) t (by simpa using h1')] at this
      exact this
    rw [e1]
    have key : ∀ (l : List En) (i : Nat) (h : i < l.length), (envals l)[i * 3]? = some (.int .i64 l[i].1) ∧ (envals l)[i * 3 + 1]? = some (.int .i64 l[i].2.1) ∧ (envals l)[i * 3 + 2]? = some (.int .i64 l[i].2.2) := by
      intro l
      induction l with
      | nil => intro i h; simp at h
      | cons e l ih =>
        intro i h
        cases i with
        | zero => simp [envals, enc3]
        | succ i =>
          have := ih i (by simpa using h)
          have e1 : (i + 1) * 3 = i * 3 + 3 := by omega
          rw [e1]
          simpa [envals, enc3] using this
    have hd : t / 3 < d.toList.length := by simp; omega
    obtain ⟨k0, k1, k2⟩ := key d.toList (t / 3) hd
    have hg : d[t / 3]! = d.toList[t / 3] := by
      rw [getElem!_pos d (t / 3) (by simpa using hd)]; simp
    rw [hg]
    have e3 : (envals d.toList)[t]? = some ((envals d.toList)[t]) := List.getElem?_eq_getElem h2
    have hm : t % 3 = 0 ∨ t % 3 = 1 ∨ t % 3 = 2 := by omega
    rcases hm with hm | hm | hm
    · rw [show t / 3 * 3 = t by omega, e3] at k0
      rw [hm]; exact (Option.some.inj k0).symm ▸ rfl
    · rw [show t / 3 * 3 + 1 = t by omega, e3] at k1
      rw [hm]; exact (Option.some.inj k1).symm ▸ rfl
    · rw [show t / 3 * 3 + 2 = t by omega, e3] at k2
      rw [hm]; exact (Option.some.inj k2).symm ▸ rfl
theorem holds_row {w : World} {base b n c : Nat} {l : List En} (h : w.ownsRow base TEn 3 (.slice (some ⟨b, 0, none⟩) n c) n (envals l)) : HoldsK enc3 3 w b 0 l.toArray := by
  intro j hj
  have hc := h.cells (g := b) rfl j
  rw [← flat_envals l.toArray] at hc
  rcases h.2 with ⟨e, _⟩ | ⟨g, cap, cur, e, _, hg, _⟩
  · cases e
  · cases e
    refine ⟨?_, free_of hg _⟩
    have := hc (flatK enc3 3 l.toArray)[j]! (by
      rw [Array.getElem?_toList, getElem!_pos _ j hj, Array.getElem?_eq_getElem hj])
    rw [Nat.zero_add]
    rw [show (⟨b, 0, none⟩ : Addr).add j = ⟨b, j, none⟩ by unfold Addr.add; split <;> simp_all] at this
    exact this
theorem sort_row {w : World} {base b n c : Nat} {l : List En} (h : w.ownsRow base TEn 3 (.slice (some ⟨b, 0, none⟩) n c) n (envals l)) (d' : Array En) (hd : d'.size = l.length) (m : Nat) (os : Array Obj) :
    (sortWorldK enc3 3 w b 0 m d' os).ownsRow base TEn 3 (.slice (some ⟨b, 0, none⟩) n c) n (envals d'.toList) ∧ Touch [b] w (sortWorldK enc3 3 w b 0 m d' os) := by
  obtain ⟨hlen, h2⟩ := h
  rcases h2 with ⟨e, _⟩ | ⟨g, cap, cur, e, hb, hg, hnc, hcm, hcs, htake⟩
  · cases e
  · cases e
    have hlt := lt_of_block hg
    have hn : n = l.length := by rw [envals_len] at hlen; omega
    have hh : ∀ k, k < w.heap.size → (sortWorldK enc3 3 w b 0 m d' os).heap[k]? = (w.heap.modify b (onCells (putCells id 0 (flatK enc3 3 d'))))[k]? := fun k hk => by
      show ((mapBlock (Sort.ahead w m) b _).heap ++ os)[k]? = _
      rw [Array.getElem?_append_left (by simpa [mapBlock, Sort.ahead] using hk)]
      rfl
    have hbk : (sortWorldK enc3 3 w b 0 m d' os).heap[b]? = some (.cells (putCells id 0 (flatK enc3 3 d') cur) TEn (0, 0)) := by
      rw [hh b hlt, Array.getElem?_modify, if_pos rfl, hg]
      rfl
    refine ⟨⟨by rw [envals_len]; simp; omega, .inr ⟨b, c, _, rfl, hb, hbk, hnc, hcm, by simpa [putCells] using hcs, ?_⟩⟩, rfl, rfl, rfl, ?_, ?_⟩
    · rw [← flat_envals]
      apply List.ext_getElem
      · simp [putCells, hcs]; rw [hd]; have : n * 3 ≤ c * 3 := Nat.mul_le_mul_right 3 hnc; omega
      · intro t k1 k2
        have hF : t < (flatK enc3 3 d').size := by simpa using k2
        rw [List.getElem_take]
        simp only [putCells, Array.getElem_toList, Array.getElem_mapIdx]
        rw [if_pos (by omega), Nat.sub_zero, getElem!_pos _ t hF]
        rfl
    · show _ ≤ ((mapBlock (Sort.ahead w m) b _).heap ++ os).size
      simp [mapBlock, Sort.ahead]
    · intro k hk hkb
      rw [hh k hk, Array.getElem?_modify, if_neg (fun e => hkb (by simp [e]))]
theorem perm_sorted {l : List En} (hnd : l.Nodup) {d' : Array En} (hp : PermIn 0 l.length l.toArray d') (hs : SortedIn (ltOf cmpE) 0 l.length d') : SortedE d'.toList ∧ (∀ z, z ∈ d'.toList ↔ z ∈ l) ∧ d'.size = l.length := by
  obtain ⟨h1, -, h3⟩ := hp
  have hsz : d'.size = l.length := by simpa using h1
  have hperm : d'.toList.Perm l := by
    have e1 : d'.extract 0 l.length = d' := by rw [← hsz]; simp
    have e2 : l.toArray.extract 0 l.length = l.toArray := by
      have h9 : l.toArray.extract 0 l.toArray.size = l.toArray := Array.extract_size
      exact h9
    rw [e1, e2] at h3
    simpa using h3
  refine ⟨?_, fun z => hperm.mem_iff, hsz⟩
  have hnd' : d'.toList.Nodup := hperm.nodup_iff.2 hnd
  refine List.pairwise_iff_getElem.2 fun i j hi hj hij => ?_
  have hi' : i < d'.size := by simpa using hi
  have hj' : j < d'.size := by simpa using hj
  have := hs i j (Nat.zero_le _) hij (by omega)
  unfold ltOf at this
  rw [cmpE_lt, decide_eq_false_iff_not, getElem!_pos d' i hi', getElem!_pos d' j hj'] at this
  rcases ltE_tri d'.toList[i] d'.toList[j] with e | e | e
  · exact absurd e ((List.pairwise_iff_getElem.1 hnd') i j hi hj hij)
  · exact e
  · exact absurd (by simpa using e) this
theorem eg_cmp : ∀ args w, (callFunc 43 args).run Try.prog w = .ok (.enter 43 args) w := enters_of Try.func43 (by kernel_rfl) rfl
theorem enc3_len (x : En) : (enc3 x).length = 3 := rfl
/-- A row of entries that is sorted. -/
structure SortP (base b n c : Nat) (l : List En) (w w' : World) : Prop where
  ex : ∃ l' : List En, (SortedE l' ∧ (∀ z, z ∈ l' ↔ z ∈ l) ∧ l'.length = l.length) ∧ w'.ownsRow base TEn 3 (.slice (some ⟨b, 0, none⟩) n c) n (envals l')
  t : Touch [b] w w'
theorem sortEns_some (base b n c : Nat) (l : List En) (w : World) (h : w.ownsRow base TEn 3 (.slice (some ⟨b, 0, none⟩) n c) n (envals l)) (hnd : l.Nodup) (hl : l.length ≤ 1000000) :
    Calls Try.prog 42 #[.slice (some ⟨b, 0, none⟩) n c, .func (.func 43) #[] #[]] w fun e w' => e = .returned (.tuple #[]) ∧ SortP base b n c l w w' := by
  have hn : n = l.length := by have := h.1; rw [envals_len] at this; omega
  have hblk : b < w.heap.size := (h.lt b rfl).2
  have hcon := AnyQ.slices_SortFunc Try.sortEns 3 Try.isAgg32 Try.sizeOf32 enc3 enc3_len enc3_one cmpE swo_cmp 43 #[] b 0 c l.toArray w eg_cmp (cmpLays b 0 _ w) (holds_row h) hblk (by simp; omega)
  change Calls Try.prog 42 _ _ _ at hcon
  rw [hn]
  rw [hn] at h
  simp only [List.size_toArray] at hcon
  refine hcon.mono ?_
  rintro e w' ⟨rfl, d', m, os, hp, hs, rfl⟩
  obtain ⟨k1, k2, k3⟩ := perm_sorted hnd hp hs
  obtain ⟨r1, r2⟩ := sort_row h d' k3 m os
  exact ⟨rfl, ⟨d'.toList, ⟨k1, k2, by simpa using k3⟩, r1⟩, r2⟩
set_option maxHeartbeats 2000000 in
theorem sortTab_some (base b n c : Nat) (l : List En) (w : World) (h : w.ownsRow base TEn 3 (.slice (some ⟨b, 0, none⟩) n c) n (envals l)) (hnd : l.Nodup) (hl : l.length ≤ 1000000) :
    Calls Try.prog 54 #[.slice (some ⟨b, 0, none⟩) n c, .func (.func 43) #[] #[]] w fun e w' => e = .returned (.tuple #[]) ∧ SortP base b n c l w w' := by
  have hn : n = l.length := by have := h.1; rw [envals_len] at this; omega
  have hblk : b < w.heap.size := (h.lt b rfl).2
  have hsz : l.toArray.size < 4611686018427387904 := by simp; omega
  have hlim : Lib.bitLen l.toArray.size < 4611686018427387904 := Nat.lt_of_le_of_lt (Lib.bitLen_le l.toArray.size 62 (by omega) (by omega)) (by omega)
  have hH := holds_row h
  have hp := AnyQ.pdqsortCmpFunc_all (P := Try.prog) (ρ := Try.sortEns_ren) { Try.sortEns with } 3 Try.isAgg32 Try.sizeOf32 enc3 cmpE 43 #[] swo_cmp b 0 c l.toArray w eg_cmp (cmpLays b 0 _ w) ⟨enc3_len, enc3_one, hH, hblk⟩ (l.toArray.size + 1) 0 l.toArray.size (Lib.bitLen l.toArray.size) l.toArray w (by omega) rfl (SWK.start hH) (Nat.zero_le _) (Nat.le_refl _) hsz hlim (Or.inl rfl)
  have hl2 : Calls Try.prog 61 #[.int .u64 (l.length : Int)] w fun e w' => e = .returned (.int .i64 (Lib.bitLen l.length : Nat)) ∧ w' = w := by
    have h := Try.bits_Len (l.length : Int) w (by omega) (by omega)
    rwa [Int.toNat_natCast] at h
  change Calls Try.prog 60 _ _ _ at hp
  simp only [List.size_toArray] at hp
  have hpost : ∀ (e : Ending) (w' : World), (e = .returned (.tuple #[]) ∧ SWK enc3 3 w b 0 (pdq (ltOf cmpE) l.toArray 0 l.length (Lib.bitLen l.length) true true) w') → e = .returned (.tuple #[]) ∧ SortP base b n c l w w' := by
    rintro e w' ⟨rfl, m, os, rfl⟩
    have hps := pdq_sorts (ltOf cmpE) swo_cmp l.toArray 0 l.toArray.size (Lib.bitLen l.toArray.size) true true (Nat.zero_le _) (Nat.le_refl _) (Or.inl rfl)
    simp only [List.size_toArray] at hps
    obtain ⟨k1, k2, k3⟩ := perm_sorted hnd hps.1 hps.2
    obtain ⟨r1, r2⟩ := sort_row h _ k3 m os
    exact ⟨rfl, ⟨_, ⟨k1, k2, by simpa using k3⟩, r1⟩, r2⟩
  have PO := hid hpost
  have HP := hid hp
  clear hp hpost hH
  rw [hn]
  rw [hn] at PO
  have wr : IntKind.u64.wrap (l.length : Int) = l.length := by simp [IntKind.wrap, IntKind.bits, IntKind.signed]; omega
  clear h hnd hn hlim hsz hblk
  generalize l.length = N at *
  go_enter Try.func54, Try.ntmps54
  go_wp2_with (first | (go_at_call 61; refine hl2.mono ?_; rintro e w' ⟨rfl, rfl⟩) | (go_at_call 60; refine HP.out.mono ?_; intro e w' hh; have HH := hid (PO.out e w' hh); clear hh; obtain ⟨rfl, -⟩ := HH.out))
  go_end0
  exact ⟨rfl, HH.out.2⟩
theorem sortEns_none (w : World) : Calls Try.prog 42 #[.slice none 0 0, .func (.func 43) #[] #[]] w fun e w' => e = .returned (.tuple #[]) ∧ w' = w :=
  AnyF.slices_SortFunc_none Try.sortEns none 0 (.func (.func 43) #[] #[]) w
theorem sortTab_none (w : World) : Calls Try.prog 54 #[.slice none 0 0, .func (.func 43) #[] #[]] w fun e w' => e = .returned (.tuple #[]) ∧ w' = w := by
  have hp := fun (lim : Int) W => AnyF.pdqsortCmpFunc_none (P := Try.prog) (ρ := Try.sortEns_ren) { Try.sortEns with } none 0 lim (.func (.func 43) #[] #[]) W
  change ∀ (lim : Int) W, Calls Try.prog 60 _ _ _ at hp
  have hl2 : ∀ w, Calls Try.prog 61 #[.int .u64 0] w fun e w' => e = .returned (.int .i64 (Lib.bitLen 0 : Nat)) ∧ w' = w := fun w => by
    have h := Try.bits_Len 0 w (by omega) (by omega)
    exact h
  generalize ((Lib.bitLen 0 : Nat) : Int) = bl at *
  go_enter Try.func54, Try.ntmps54
  go_wp2_with (first | (go_at_call 61; refine (hl2 _).mono ?_; rintro e w' ⟨rfl, rfl⟩) | (go_at_call 60; refine (hp _ _).mono ?_; rintro e w' ⟨rfl, rfl⟩))
  go_end0
  exact ⟨rfl, rfl⟩
/-- What a sort of a row of one's own leaves: the same entries, in order; of the blocks that were there only the row's own may be turned. -/
structure SortV (base : Nat) (u : Value) (l : List En) (w w' : World) : Prop where
  ex : ∃ l' : List En, (SortedE l' ∧ (∀ z, z ∈ l' ↔ z ∈ l) ∧ l'.length = l.length) ∧ w'.ownsRow base TEn 3 u l'.length (envals l')
  t : ∀ w0, Touch [] w0 w → w0.heap.size ≤ base → Touch [] w0 w'
theorem sortV_some {base b n c : Nat} {l : List En} {w w' : World} (hn : n = l.length) (hb : base ≤ b) (h : SortP base b n c l w w') : SortV base (.slice (some ⟨b, 0, none⟩) n c) l w w' := by
  obtain ⟨⟨l', h1, h2⟩, t⟩ := h
  refine ⟨⟨l', h1, by rw [h1.2.2, ← hn]; exact h2⟩, fun w0 t0 h0 => t0.trans t (fun x hx => ?_)⟩
  simp at hx
  subst hx
  exact .inr (by omega)
theorem sortV_none {base : Nat} {l : List En} {w : World} (hl : l.length = 0) : SortV base (.slice none 0 0) l w w := by
  obtain rfl : l = [] := List.eq_nil_of_length_eq_zero hl
  exact ⟨⟨[], ⟨by simp [SortedE], by simp, rfl⟩, World.ownsRow_nil _ _ _ _⟩, fun w0 t _ => t⟩
theorem sortTab_any (base n : Nat) (u : Value) (l : List En) (w : World) (h : w.ownsRow base TEn 3 u n (envals l)) (hnd : l.Nodup) (hl : l.length ≤ 1000000) :
    Calls Try.prog 54 #[u, .func (.func 43) #[] #[]] w fun e w' => e = .returned (.tuple #[]) ∧ SortV base u l w w' := by
  have hn : n = l.length := by have := h.1; rw [envals_len] at this; omega
  rcases h.2 with ⟨rfl, h0⟩ | ⟨g, cap, cur, rfl, hb, _⟩
  · refine (sortTab_none w).mono ?_
    rintro e w' ⟨rfl, rfl⟩
    exact ⟨rfl, sortV_none (by omega)⟩
  · refine (sortTab_some base g n cap l w h hnd hl).mono ?_
    rintro e w' ⟨rfl, hs⟩
    exact ⟨rfl, sortV_some hn hb hs⟩
theorem sortEns_any (base n : Nat) (u : Value) (l : List En) (w : World) (h : w.ownsRow base TEn 3 u n (envals l)) (hnd : l.Nodup) (hl : l.length ≤ 1000000) :
    Calls Try.prog 42 #[u, .func (.func 43) #[] #[]] w fun e w' => e = .returned (.tuple #[]) ∧ SortV base u l w w' := by
  have hn : n = l.length := by have := h.1; rw [envals_len] at this; omega
  rcases h.2 with ⟨rfl, h0⟩ | ⟨g, cap, cur, rfl, hb, _⟩
  · refine (sortEns_none w).mono ?_
    rintro e w' ⟨rfl, rfl⟩
    exact ⟨rfl, sortV_none (by omega)⟩
  · refine (sortEns_some base g n cap l w h hnd hl).mono ?_
    rintro e w' ⟨rfl, hs⟩
    exact ⟨rfl, sortV_some hn hb hs⟩
end Go.Proofs.Ytnkflmimnpolcaa
