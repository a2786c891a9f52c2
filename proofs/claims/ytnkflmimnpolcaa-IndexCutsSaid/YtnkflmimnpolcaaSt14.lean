/- What an index holds, all told: its entries, how many are in memory, how many tables each level has. -/
import Derived.Test.YtnkflmimnpolcaaFw14
import Derived.Test.YtnkflmimnpolcaaAl12
namespace Go.Proofs.Ytnkflmimnpolcaa
open Go.RowKit Go.Lib Go.Shelf
set_option maxRecDepth 100000

/-- An index with the entries S, of which M are in memory, and C tables a level. -/
structure IxS (w : World) (xb room most : Nat) (S : List En) (M : Nat) (C : List Nat) : Prop where
  ex : ∃ T L, IxAt w xb room most T L ∧ SortedE T.io ∧ (T.io ++ flatT (tabsL L)).Perm S ∧ T.io.length = M ∧ cnts L = C
structure OkS (S : List En) (C : List Nat) : Prop where
  s : SortedE S
  ok : ∀ e ∈ S, okE e ∧ wfE e
  len : S.length ≤ 100000
  lv : C.length ≤ 50000
theorem OkS.inv {S : List En} {C : List Nat} (h : OkS S C) {T : Tr} {L : List LvV} (hs : SortedE T.io) (hp : (T.io ++ flatT (tabsL L)).Perm S) : Inv T L :=
  ⟨hs, fun e he => h.ok e (hp.subset (List.mem_append_left _ he)), hp.nodup_iff.2 (sorted_nodup h.s), by rw [hp.length_eq]; exact h.len⟩
theorem rest_touch_ix {w w' : World} {xb : Nat} {cs : Array Value} {t : TypeId} (hb : w.heap[xb]? = some (.cells cs t)) (h : Touch [xb] w w') : Rest [t] w w' := fun b cs' t' fz hx hn => by
  refine touch_other h hx ?_
  intro e
  obtain rfl := List.mem_singleton.1 e
  rw [hb] at hx
  cases hx
  exact hn (by simp)
/-- One entry into memory. -/
theorem memadd_any {w : World} {xb room most : Nat} {T : Tr} {L : List LvV} (h : IxAt w xb room most T L) (hs : SortedE T.io) (hlen : T.io.length ≤ 100000) (b : Nat) (e : En) (hB : EnB w b e) :
    Calls Try.prog 8 #[.pointer (some ⟨xb, 2, none⟩), .slice (some ⟨b, 0, none⟩) 1 1] w fun r w' => ∃ T', r = .returned (.int .i64 (((put1 T.io e).length - T.io.length : Nat) : Int)) ∧ IxAt w' xb room most T' L ∧ T'.io = put1 T.io e ∧ Touch [xb] w w' := by
  obtain ⟨⟨r, x, c, h1, h2, h3⟩, h4, h5⟩ := h
  have hne : b ≠ xb := by
    rintro rfl
    have : w.heap[b]? = _ := hB
    rw [h1] at this
    injection this with this
    injection this with _ ht
    exact absurd ht (by decide)
  refine (add_any xb 2 _ TIx T (some ⟨b, 0, none⟩) [e] 1 1 rfl w ⟨h1, by decide, r, rfl, h2⟩ hs (by omega) ?_).mono ?_
  · intro w' t i hi
    obtain rfl : i = 0 := by simpa using hi
    have hb' : w'.heap[b]? = some (.cells #[.int .i64 e.1, .int .i64 e.2.1, .int .i64 e.2.2] TEn) := touch_other t hB (by simpa using hne)
    exact ⟨b, 0, rfl, cell_of hb' 0, cell_of hb' 1, cell_of hb' 2⟩
  · rintro r' w' ⟨T', cs', hcs, rfl, hT, hio, t⟩
    have hio' : T'.io = put1 T.io e := hio
    have R := rest_touch_ix h1 t
    have hL : LvsAt w' x c L := ⟨R.row h3.own (by decide), fun v hv => (h3.lv v hv).rest R (by decide) (by decide)⟩
    refine ⟨T', rfl, ⟨?_, h4, h5⟩, hio', t⟩
    obtain ⟨g1, g2, r2, g3, g4⟩ := hT
    rcases hcs with rfl | ⟨r3, rfl⟩
    · cases g3
      exact ⟨_, x, c, g1, g4, hL⟩
    · cases g3
      exact ⟨_, x, c, g1, g4, hL⟩
theorem put1_same {l : List En} (hs : SortedE l) {e : En} (h : e ∈ l ∨ ¬ okE e) : put1 l e = l :=
  sorted_ext (sorted_put1 hs e) hs fun z => by
    rw [mem_put1]
    constructor
    · rintro (h1 | ⟨rfl, h1⟩)
      · exact h1
      · exact h.resolve_right (fun h2 => h2 h1)
    · exact .inl
theorem put1_new {l : List En} (hs : SortedE l) {e : En} (h : e ∉ l) (ho : okE e) : (put1 l e).Perm (e :: l) := by
  refine (List.perm_ext_iff_of_nodup (sorted_nodup (sorted_put1 hs e)) (List.nodup_cons.2 ⟨h, sorted_nodup hs⟩)).2 fun z => ?_
  rw [mem_put1, List.mem_cons]
  constructor
  · rintro (h1 | ⟨rfl, _⟩)
    · exact .inr h1
    · exact .inl rfl
  · rintro (rfl | h1)
    · exact .inr ⟨rfl, ho⟩
    · exact .inl h1
/-- What one entry more does to the numbers. -/
def stepC (room most : Nat) (p : Nat × List Nat) : Nat × List Nat := if room ≤ p.1 + 1 then (0, car most 1 p.2) else (p.1 + 1, p.2)
def itC (room most : Nat) (p : Nat × List Nat) : Nat → Nat × List Nat
  | 0 => p
  | n + 1 => stepC room most (itC room most p n)
theorem stepC_len (room most : Nat) (p : Nat × List Nat) : (stepC room most p).2.length ≤ p.2.length + 1 := by
  unfold stepC
  split
  · exact (car_len most 1 p.2).2
  · exact Nat.le_succ _
theorem itC_len (room most : Nat) (p : Nat × List Nat) : ∀ n, (itC room most p n).2.length ≤ p.2.length + n
  | 0 => Nat.le_refl _
  | n + 1 => by
    have h1 := itC_len room most p n
    have h2 := stepC_len room most (itC room most p n)
    show (stepC room most (itC room most p n)).2.length ≤ _
    omega
theorem IxS.t0 {w w' : World} {xb room most : Nat} {S : List En} {M : Nat} {C : List Nat} (h : IxS w xb room most S M C) (t : Touch [] w w') : IxS w' xb room most S M C := by
  obtain ⟨T, L, h1, h2⟩ := h.ex
  exact ⟨T, L, h1.t0 t, h2⟩
theorem IxS.memLe {w : World} {xb room most : Nat} {S : List En} {M : Nat} {C : List Nat} (h : IxS w xb room most S M C) : M ≤ S.length := by
  obtain ⟨T, L, h1, h2, h3, h4, h5⟩ := h.ex
  have := h3.length_eq
  rw [List.length_append] at this
  omega
theorem ixs_flush {w : World} {xb room most : Nat} {S : List En} {M : Nat} {C : List Nat} (h : IxS w xb room most S M C) (hS : OkS S C) (hM : M ≠ 0) :
    Calls Try.prog 11 #[.pointer (some ⟨xb, 0, none⟩)] w fun e w' => e = .returned (.bool true) ∧ IxS w' xb room most S 0 (car most 1 C) ∧ Touch [xb] w w' := by
  obtain ⟨T, L, h1, h2, h3, h4, h5⟩ := h.ex
  have hne : T.io ≠ [] := fun e => hM (by rw [← h4, e]; rfl)
  refine (flush_any h1 (hS.inv h2 h3) hne (by have := hS.lv; rw [← h5, cnts_len] at this; exact this)).mono ?_
  rintro e w' ⟨L', rfl, hI, hc, hp, t⟩
  exact ⟨rfl, ⟨.nil, L', hI, by simp [Tr.io, SortedE], by simpa [Tr.io] using hp.trans h3, rfl, by rw [hc, h5]⟩, t⟩
theorem ixs_flush0 {w : World} {xb room most : Nat} {S : List En} {C : List Nat} (h : IxS w xb room most S 0 C) :
    Calls Try.prog 11 #[.pointer (some ⟨xb, 0, none⟩)] w fun e w' => e = .returned (.bool false) ∧ w' = w := by
  obtain ⟨T, L, h1, h2, h3, h4, h5⟩ := h.ex
  have CM := hid (mem_any h1)
  rw [h4] at CM
  clear h1 h2 h3 h4 h5 h
  go_enter Try.func11, Try.ntmps11
  go_wp2_with (go_at_call 25; refine CM.out.mono ?_; rintro e w1 ⟨rfl, h⟩; have h := h.symm; subst h)
  go_ret
  exact ⟨rfl, rfl⟩
theorem ixs_mem {w : World} {xb room most : Nat} {S : List En} {M : Nat} {C : List Nat} (h : IxS w xb room most S M C) :
    Calls Try.prog 25 #[.pointer (some ⟨xb, 0, none⟩)] w fun e w' => e = .returned (.int .i64 M) ∧ w' = w := by
  obtain ⟨T, L, h1, h2, h3, h4, h5⟩ := h.ex
  have := mem_any h1
  rwa [h4] at this
theorem cntL_eq (L : List LvV) : cntL L = (cnts L).map (fun n : Nat => (n : Int)) := by simp [cntL, cnts]
theorem ixs_levels {w : World} {xb room most : Nat} {S : List En} {M : Nat} {C : List Nat} (h : IxS w xb room most S M C) (hS : OkS S C) :
    Calls Try.prog 26 #[.pointer (some ⟨xb, 0, none⟩)] w fun e w' => ∃ u, e = .returned u ∧ w'.ownsRow w.heap.size TInt 1 u C.length (intV (C.map fun n : Nat => (n : Int))) ∧ Touch [] w w' := by
  obtain ⟨T, L, h1, h2, h3, h4, h5⟩ := h.ex
  have hl : L.length = C.length := by rw [← h5, cnts_len]
  have := levels_any h1 (by have := hS.lv; omega)
  rwa [hl, cntL_eq, h5] at this
theorem sum_flat (ts : List TabV) : sumT ts = (flatT ts).length := by
  induction ts with
  | nil => rfl
  | cons t ts ih => rw [flatT_cons, List.length_append, ← ih]; simp [sumT]
theorem ixs_tabs {w : World} {xb room most : Nat} {T : Tr} {L : List LvV} {S : List En} {C : List Nat} (h : IxAt w xb room most T L) (hS : OkS S C) (hp : (T.io ++ flatT (tabsL L)).Perm S) (hc : cnts L = C) : (∀ t ∈ tabsL L, t.At w) ∧ L.length ≤ 50000 ∧ (tabsL L).length ≤ 100000 ∧ T.io.length ≤ 100000 ∧ (flatT (tabsL L)).length ≤ 100000 := by
  obtain ⟨r, x, c, -, -, hL⟩ := h.blk
  have h1 := hp.length_eq
  have h2 := hS.len
  rw [List.length_append] at h1
  have h3 := tabs_le (tabsL L) fun t ht => (hL.tab t ht).good.2.2.1
  have h4 := hS.lv
  rw [← hc, cnts_len] at h4
  exact ⟨hL.tab, h4, by omega, by omega, by omega⟩
theorem ixs_len {w : World} {xb room most : Nat} {S : List En} {M : Nat} {C : List Nat} (h : IxS w xb room most S M C) (hS : OkS S C) :
    Calls Try.prog 21 #[.pointer (some ⟨xb, 0, none⟩)] w fun e w' => e = .returned (.int .i64 (S.length : Nat)) ∧ Touch [] w w' := by
  obtain ⟨T, L, h1, h2, h3, h4, h5⟩ := h.ex
  obtain ⟨g1, g2, g3, g4, g5⟩ := ixs_tabs h1 hS h3 h5
  have := len_any14 xb room most T L w h1 g1 (by omega) (by omega) (by omega)
  rwa [sum_flat, ← List.length_append, h3.length_eq] at this
/-- A new one came into memory; nothing is flushed yet. -/
structure AddN (w3 : World) (xb room most : Nat) (S : List En) (M : Nat) (C : List Nat) : Prop where
  c0 : w3.cell? ⟨xb, 0, none⟩ = some (.int .i64 room)
  len : ∀ W, Touch [] w3 W → Calls Try.prog 22 #[.pointer (some ⟨xb, 2, none⟩)] W fun e w' => e = .returned (.int .i64 (M : Nat)) ∧ w' = W
  st : IxS w3 xb room most S M C
theorem IxAt.addN {w : World} {xb room most : Nat} {T : Tr} {L : List LvV} {S : List En} {C : List Nat} (h : IxAt w xb room most T L) (hs : SortedE T.io) (hp : (T.io ++ flatT (tabsL L)).Perm S) (hc : cnts L = C) : AddN w xb room most S T.io.length C := by
  refine ⟨?_, fun W t => ?_, ⟨T, L, h, hs, hp, rfl, hc⟩⟩
  · obtain ⟨r, x, c, h1, -, -⟩ := h.blk
    exact cell_of h1 0
  · have := tablen_any W (h.t0 t).mem
    rwa [T.ct_io] at this
theorem inTabs_iff (L : List LvV) (e : En) : inTabs L e = true ↔ e ∈ flatT (tabsL L) := by
  unfold inTabs flatT
  rw [List.any_eq_true, List.mem_flatten]
  constructor
  · rintro ⟨t, ht, h⟩
    exact ⟨t.l, List.mem_map_of_mem ht, by simpa using h⟩
  · rintro ⟨l, hl, h⟩
    obtain ⟨t, ht, rfl⟩ := List.mem_map.1 hl
    exact ⟨t, ht, by simpa using h⟩
/-- What tabled tells, and what memory's Add then does. -/
theorem ixs_add1 {w : World} {xb room most : Nat} {S : List En} {M : Nat} {C : List Nat} (h : IxS w xb room most S M C) (hS : OkS S C) (a : En) :
    ∃ b : Bool, (∀ W, Touch [] w W → Calls Try.prog 29 #[.pointer (some ⟨xb, 0, none⟩), enV a] W fun r w' => r = .returned (.bool b) ∧ Touch [] W w') ∧
      (b = true → put1 S a = S) ∧
      (b = false → (put1 S a = S ∧ ∀ W i, Touch [] w W → EnB W i a → Calls Try.prog 8 #[.pointer (some ⟨xb, 2, none⟩), .slice (some ⟨i, 0, none⟩) 1 1] W fun r w' => r = .returned (.int .i64 0) ∧ IxS w' xb room most S M C ∧ Touch [xb] W w') ∨
        ((put1 S a).length = S.length + 1 ∧ ∀ W i, Touch [] w W → EnB W i a → Calls Try.prog 8 #[.pointer (some ⟨xb, 2, none⟩), .slice (some ⟨i, 0, none⟩) 1 1] W fun r w' => r = .returned (.int .i64 1) ∧ AddN w' xb room most (put1 S a) (M + 1) C ∧ Touch [xb] W w')) := by
  obtain ⟨T, L, h1, h2, h3, h4, h5⟩ := h.ex
  obtain ⟨g1, g2, g3, g4, g5⟩ := ixs_tabs h1 hS h3 h5
  refine ⟨inTabs L a, fun W t => tabled_any xb room most T L a W (h1.t0 t) (fun t' ht => (g1 t' ht).t0 t) (by omega) (by omega), fun hb => ?_, fun hb => ?_⟩
  · have hm := (inTabs_iff L a).1 hb
    exact put1_same hS.s (.inl (h3.subset (List.mem_append_right _ hm)))
  · have hm : a ∉ flatT (tabsL L) := fun hh => by rw [(inTabs_iff L a).2 hh] at hb; cases hb
    by_cases ho : a ∈ T.io ∨ ¬ okE a
    · left
      have e1 := put1_same h2 ho
      refine ⟨put1_same hS.s (ho.imp (fun hh => h3.subset (List.mem_append_left _ hh)) id), fun W i t hB => ?_⟩
      refine (memadd_any (h1.t0 t) h2 g4 i a hB).mono ?_
      rintro r w' ⟨T', rfl, hI, hio, t'⟩
      rw [e1] at hio ⊢
      rw [Nat.sub_self]
      exact ⟨rfl, ⟨T', L, hI, by rw [hio]; exact h2, by rw [hio]; exact h3, by rw [hio]; exact h4, h5⟩, t'⟩
    · right
      rw [not_or, Decidable.not_not] at ho
      have hnS : a ∉ S := fun hh => by
        rcases List.mem_append.1 (h3.symm.subset hh) with hh | hh
        · exact ho.1 hh
        · exact hm hh
      have p1 := put1_new h2 ho.1 ho.2
      have p2 := put1_new hS.s hnS ho.2
      refine ⟨by rw [p2.length_eq]; rfl, fun W i t hB => ?_⟩
      refine (memadd_any (h1.t0 t) h2 g4 i a hB).mono ?_
      rintro r w' ⟨T', rfl, hI, hio, t'⟩
      have hl := p1.length_eq
      rw [List.length_cons] at hl
      have hp' : (T'.io ++ flatT (tabsL L)).Perm (put1 S a) := by
        rw [hio]
        exact (p1.append_right _).trans ((h3.cons a).trans p2.symm)
      have := hI.addN (by rw [hio]; exact sorted_put1 h2 a) hp' h5
      rw [hio, hl, h4] at this
      exact ⟨by rw [hl, Nat.add_sub_cancel_left]; rfl, this, t'⟩
end Go.Proofs.Ytnkflmimnpolcaa
