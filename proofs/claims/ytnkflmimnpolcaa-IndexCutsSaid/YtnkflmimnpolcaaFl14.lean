/- Flush. -/
import Derived.Test.YtnkflmimnpolcaaPf14
import Derived.Test.YtnkflmimnpolcaaTq14
import Derived.Deep.RegionLaw
namespace Go.Proofs.Ytnkflmimnpolcaa
open Go.RowKit Go.Lib Go.Shelf
set_option maxRecDepth 100000

theorem rowV_cells {w : World} {x : Option Addr} {vs : List Value} (h : RowV w x vs) : ∀ b, x = some b → ∀ j u, vs[j]? = some u → w.cell? (b.add j) = some u := fun b hb j u hj => by
  obtain ⟨hjl, rfl⟩ := List.getElem?_eq_some_iff.mp hj
  obtain ⟨g, off, e', hk⟩ := h j hjl
  rw [hb] at e'
  cases e'
  rw [show (⟨g, off, none⟩ : Addr).add j = ⟨g, off + j, none⟩ by unfold Addr.add; split <;> simp_all]
  exact hk
theorem clone14_any (x : Option Addr) (c : Nat) (L : List LvV) (w : World) (hL : LvsAt w x c L) (hn : L.length ≤ 1000000) :
    Calls Try.prog 31 #[.slice x L.length c] w fun e w' => ∃ x' c', e = .returned (.slice x' L.length c') ∧ w'.ownsRow w.heap.size TTbs 1 (.slice x' L.length c') L.length (L.map LvV.val) ∧ Touch [] w w' := by
  have q22 : ∀ (w : World) (a : Option Addr) (n c n' c' : Nat), (binOp .eql TLvs (.slice a n c) (.slice none n' c')).run Try.prog w = .ok (.bool a.isNone) w := fun w a n c n' c' => Lib.run_eql_slice_nil w _ _ a n c n' c' rfl
  have hc := row_cap hL.own
  cases x with
  | none =>
    have hl : L.length = 0 := by have := hc.2 rfl; omega
    obtain rfl := List.eq_nil_of_length_eq_zero hl
    obtain rfl := hc.2 rfl
    clear hL hc
    go_enter Try.func31, Try.ntmps31
    go_wp2
    go_ret
    exact ⟨_, _, rfl, World.ownsRow_nil _ _ _ _, Touch.refl _ _⟩
  | some ad =>
    have A := hid (rowV_cells hL.row ad rfl)
    have H1 := hid (show ∀ u ∈ L.map LvV.val, u.oneCell' = true by
      intro u hu
      obtain ⟨v, _, rfl⟩ := List.mem_map.1 hu
      rfl)
    have HL := hid (show (L.map LvV.val).length = L.length * 1 by simp)
    obtain ⟨i0, hi, hz0, hz1, hz2⟩ := info_parts infoTbs
    clear hL hc
    generalize L.map LvV.val = vs at *
    generalize L.length = n at *
    go_enter Try.func31, Try.ntmps31
    go_wp2_with (at_builtin; refine wpList_append_own _ rfl _ _ TLvs rfl w.heap.size TTbs i0 (.slice none 0 0) 1 24 Try.underlying49 hi hz0 hz1 hz2 rfl (by omega) _ _ _ rfl (World.ownsRow_made w #[] 0 (Nat.le_refl _) (Nat.zero_le _) (by simp)) ad n c vs rfl ?qc1 ?qc2 ?qc3 ?qc4 ?qc5 ?qc6 ?_)
    case qc1 => exact HL.out
    case qc2 =>
      intro j u hj
      exact Lib.cell?_alloc_some _ (A.out j u hj)
    case qc3 => exact H1.out
    case qc4 => rw [Nat.zero_add]; unfold maxLen; omega
    case qc5 => rw [Nat.zero_add]; omega
    case qc6 => simp
    intro v' w1 hown hgrow hnil
    obtain ⟨y, cap, rfl, -, -⟩ := slice_form hown
    have HO := hid hown
    have HG := hid hgrow
    clear hown hgrow hnil
    go_wp2
    go_ret
    refine ⟨_, _, rfl, HO.out, ?_⟩
    exact ((Touch.refl [] w).alloc _).grown HG.out (by intro k hk; simp [Value.ownBlock] at hk; exact .inr (by omega))
/-- What an index holds, purely. -/
structure Inv (T : Tr) (L : List LvV) : Prop where
  s : SortedE T.io
  ok : ∀ e ∈ T.io, okE e ∧ wfE e
  nd : (T.io ++ flatT (tabsL L)).Nodup
  tot : (T.io ++ flatT (tabsL L)).length ≤ 100000
/-- What Flush's loop holds, at level k. -/
structure FlI (w : World) (most : Nat) (T : Tr) (L : List LvV) (k : Nat) (x : Option Addr) (c : Nat) (L' : List LvV) (W : World) : Prop where
  own : W.ownsRow w.heap.size TTbs 1 (.slice x L'.length c) L'.length (L'.map LvV.val)
  lv : ∀ v ∈ L', v.At W
  t : Touch [] w W
  cnt : AtC most (cnts L) (cnts L') k
  ent : (flatT (tabsL L')).Perm (T.io ++ flatT (tabsL L))
theorem tabs_le (ts : List TabV) (h : ∀ t ∈ ts, t.l ≠ []) : ts.length ≤ (flatT ts).length := by
  induction ts with
  | nil => simp
  | cons t ts ih =>
    have h1 := ih fun t ht => h t (List.mem_cons_of_mem _ ht)
    have h2 := List.length_pos_iff.2 (h t (List.mem_cons_self))
    rw [flatT_cons, List.length_append, List.length_cons]
    omega
theorem lv_sub {L : List LvV} {v : LvV} (hv : v ∈ L) : v.ts.Sublist (tabsL L) := by
  unfold tabsL
  rw [List.flatMap_def]
  exact List.sublist_flatten_of_mem (List.mem_map_of_mem hv)
theorem flatT_sub {a b : List TabV} (h : a.Sublist b) : (flatT a).Sublist (flatT b) := by
  induction h with
  | slnil => exact List.Sublist.refl _
  | cons t h ih => rw [flatT_cons]; exact ih.trans (List.sublist_append_right _ _)
  | cons_cons t h ih => rw [flatT_cons, flatT_cons]; exact ih.append_left _
theorem FlI.tabs {w W : World} {most k c : Nat} {T : Tr} {L L' : List LvV} {x : Option Addr} (h : FlI w most T L k x c L' W) (hI : Inv T L) : (flatT (tabsL L')).length ≤ 100000 ∧ (flatT (tabsL L')).Nodup ∧ (∀ t ∈ tabsL L', t.At W) ∧ (tabsL L').length ≤ 100000 := by
  have h1 : (flatT (tabsL L')).length ≤ 100000 := by rw [h.ent.length_eq]; exact hI.tot
  have h3 : ∀ t ∈ tabsL L', t.At W := fun t ht => by
    obtain ⟨v, hv, hvt⟩ := List.mem_flatMap.1 ht
    exact (h.lv v hv).tab t hvt
  exact ⟨h1, (h.ent.nodup_iff).2 hI.nd, h3, Nat.le_trans (tabs_le _ fun t ht => (h3 t ht).good.2.2.1) h1⟩
theorem good_of {l F : List En} (hs : SortedE l) (hm : ∀ z, z ∈ l ↔ z ∈ F) (hl : l.length = F.length) (hne : F ≠ []) (hF : ∀ z ∈ F, okE z ∧ wfE z) (hlen : F.length ≤ 100000) : Good l :=
  ⟨hs, fun e he => hF e ((hm e).1 he), fun e => hne (List.eq_nil_of_length_eq_zero (by rw [← hl, e]; rfl)), by omega⟩
theorem sorted_nodup {l : List En} (h : SortedE l) : l.Nodup := h.imp fun hab => ltE_ne hab
theorem flatT_ok {W : World} {ts : List TabV} (h : ∀ t ∈ ts, t.At W) : ∀ z ∈ flatT ts, okE z ∧ wfE z := fun z hz => by
  obtain ⟨l, hl, hzl⟩ := List.mem_flatten.1 hz
  obtain ⟨t, ht, rfl⟩ := List.mem_map.1 hl
  exact (h t ht).good.2.1 z hzl
/-- A level, merged. -/
theorem lvmerged_any {w W : World} {most k c : Nat} {T : Tr} {L L' : List LvV} {x : Option Addr} (h : FlI w most T L k x c L' W) (hI : Inv T L) (hm : 2 ≤ most) (hk : k < L'.length) (hb : most ≤ L'[k].ts.length) :
    Calls Try.prog 33 #[L'[k].val] W fun e w2 => ∃ t : TabV, e = .returned t.val ∧ t.At w2 ∧ t.l.Perm (flatT L'[k].ts) ∧ Touch [] W w2 := by
  obtain ⟨h1, h2, h3, h4⟩ := h.tabs hI
  have hv := List.getElem_mem hk
  have hsub := lv_sub hv
  have hfs := flatT_sub hsub
  have hat : ∀ t ∈ L'[k].ts, t.At W := fun t ht => h3 t (hsub.subset ht)
  have hle := hfs.length_le
  have hnd := h2.sublist hfs
  refine (merged14_any L'[k].x L'[k].c L'[k].ts W (h.lv _ hv).row (fun t ht => (hat t ht).wk) (by have := hsub.length_le; omega) (by omega) hnd).mono ?_
  rintro e w2 ⟨u, l', rfl, ⟨hs, hmm, hl⟩, ho, t⟩
  obtain ⟨y, cap, rfl, -, -⟩ := slice_form ho
  have hne : flatT L'[k].ts ≠ [] := fun e => by
    have := tabs_le L'[k].ts fun t ht => (hat t ht).good.2.2.1
    rw [e, List.length_nil] at this
    omega
  refine ⟨⟨y, cap, l'⟩, rfl, ⟨row_base ho (Nat.zero_le _), good_of hs hmm hl hne (flatT_ok hat) (by omega)⟩, ?_, t⟩
  exact (List.perm_ext_iff_of_nodup (sorted_nodup hs) hnd).2 hmm
/-- One more table behind level k + 1, and level k's are let go of. -/
theorem flwith_any {w W w2 : World} {most k c : Nat} {T : Tr} {L L' : List LvV} {x : Option Addr} (h : FlI w most T L k x c L' W) (hI : Inv T L) (hm : 2 ≤ most) (hk : k < L'.length) (hb : most ≤ L'[k].ts.length) (nL : L.length ≤ 50000)
    {t : TabV} (ht : t.At w2) (hp : t.l.Perm (flatT L'[k].ts)) (T2 : Touch [] W w2) :
    Calls Try.prog 30 #[.slice x L'.length c, .int .i64 ((k + 1 : Nat) : Int), t.val] w2 fun e w3 => ∃ g c1 n1 L2 v, e = .returned (.slice (some ⟨g, 0, none⟩) n1 c1) ∧ n1 = L2.length ∧ k < n1 ∧ w3.cell? ⟨g, k, none⟩ = some v ∧ w3.frozen? ⟨g, k, none⟩ = false ∧ FlI w most T L (k + 1) (some ⟨g, 0, none⟩) c1 L2 (w3.setCell ⟨g, k, none⟩ (.slice none 0 0)) := by
  obtain ⟨h1, h2, h3, h4⟩ := h.tabs hI
  have hlen := h.cnt.len
  rw [cnts_len, cnts_len] at hlen
  refine (with14_any (k + 1) (owns_touch h.own T2) (fun v hv => (h.lv v hv).t0 T2) ht hk (Nat.le_trans h.t.size T2.size) (by omega) (fun v hv => by have := (lv_sub hv).length_le; omega)).mono ?_
  rintro e w3 ⟨x', c', L1, rfl, R, hL1⟩
  have hc1 := putT_cnt hL1
  have hl1 : k < L1.length := by
    have := congrArg List.length hL1
    simp only [putT, List.length_map, List.length_modify] at this
    split at this <;> simp at this <;> omega
  obtain ⟨g, rfl⟩ : ∃ g : Nat, x' = some ⟨g, 0, none⟩ := by
    rcases R.own.2 with ⟨_, h0⟩ | ⟨g', cap, cur, e', _⟩
    · omega
    · cases e'; exact ⟨g', rfl⟩
  have hcell := row_cell R.own (i := k) (by simpa using hl1)
  have hg : w.heap.size ≤ g := by
    rcases R.own.2 with ⟨e', h0⟩ | ⟨g', cap, cur, e', hh, _⟩
    · cases e'
    · cases e'; exact hh
  refine ⟨g, c', L1.length, L1.set k ⟨none, 0, []⟩, _, rfl, by simp, hl1, hcell.1, hcell.2, ?_, ?_, ?_, ?_, ?_⟩
  · have := row_set R.own hl1 (.slice none 0 0)
    rw [List.map_set, List.length_set]
    exact this
  · intro v hv
    rcases List.mem_or_eq_of_mem_set hv with hv | rfl
    · exact (R.lv v hv).rest (rest_set (ts := [TTbs]) R.own (by simp) _) (by decide) (by decide)
    · exact ⟨World.ownsRow_nil _ _ _ _, by simp⟩
  · exact (R.touch w (h.t.trans T2 (by simp)) (Nat.le_refl _)).setCell (.inr hg) _
  · have hkc : k < (cnts L').length := by rw [cnts_len]; exact hk
    have := h.cnt.big hm hkc (by simpa [cnts] using hb)
    rw [← hc1] at this
    have e : cnts (L1.set k ⟨none, 0, []⟩) = (cnts L1).set k 0 := by simp [cnts, List.map_set]
    rw [e]
    exact this
  · exact (step_perm hk hL1 hp none 0 hl1).trans h.ent
end Go.Proofs.Ytnkflmimnpolcaa
