/- The book's Texts: one more list. -/
import Derived.Test.YtmaainnfflapiaaEmpty
import Derived.Deep.RegionHeld3
import Derived.Deep.RegionLaw
import Derived.StillTailTactics
import Derived.Deep.CutBlock
namespace Go.Proofs.Ytmaainnfflapiaa
set_option maxRecDepth 100000
open Go.RowKit Go.Lib Go.ChangeShapes Go.WideShapes

abbrev TStrs : TypeId := 37
theorem infoStrs : (Try.prog.info? TStrs).map (fun i => (i.zero, i.size, i.bytes)) = some (some nilS, 1, 24) := by kernel_rfl
/-- The lists that are kept: where each lies, and what is in it. -/
structure Kept (W : World) (kb base : Nat) (tv wv : Value) (vs us : List Value) (Ls : List (List ByteArray)) : Prop where
  blk : BkBlk W kb tv wv
  ge : base ≤ kb
  n1 : vs.length = Ls.length
  n2 : us.length = Ls.length
  own1 : W.ownsRow base TStrs 1 tv Ls.length vs
  own2 : W.ownsRow base TStrs 1 wv Ls.length us
  far : Far tv wv
  r1 : ∀ i (h : i < Ls.length) (h1 : i < vs.length), W.ownsRow base TStr 1 vs[i] Ls[i].length (svals Ls[i])
  r2 : ∀ i (h : i < Ls.length) (h2 : i < us.length), W.ownsRow base TStr 1 us[i] Ls[i].length (svals Ls[i])
  ap : (vs ++ us).Pairwise Far
  sz : ∀ L ∈ Ls, L.length ≤ 100000 ∧ ∀ s ∈ L, s.size ≤ maxLen
  few : Ls.length ≤ 250
/-- Blocks of other types stay. -/
def Others (W W' : World) : Prop := ∀ (b : Nat) (cs : Array Value) (t : TypeId) (fz : Nat × Nat), W.heap[b]? = some (.cells cs t fz) → t ≠ TBook → t ≠ TStrs → W'.heap[b]? = some (.cells cs t fz)
theorem Others.refl (W : World) : Others W W := fun _ _ _ _ h _ _ => h
theorem Others.trans {a b c : World} (h1 : Others a b) (h2 : Others b c) : Others a c := fun x cs t fz h n1 n2 => h2 x cs t fz (h1 x cs t fz h n1 n2) n1 n2
theorem Others.touch {W W' : World} (h : Touch [] W W') : Others W W' := fun _ _ _ _ hb _ _ => touch_other h hb (by simp)
theorem Others.row {W W' : World} (h : Others W W') {base n : Nat} {v : Value} {xs : List Value} (hv : W.ownsRow base TStr 1 v n xs) : W'.ownsRow base TStr 1 v n xs := by
  refine ⟨hv.1, ?_⟩
  rcases hv.2 with h2 | ⟨b, cap, cur, he, hb, hh, r⟩
  · exact .inl h2
  · exact .inr ⟨b, cap, cur, he, hb, h b cur TStr (0, 0) hh (by decide) (by decide), r⟩
theorem Others.set {W : World} {kb : Nat} {tv wv : Value} (h : BkBlk W kb tv wv) (i : Nat) (u : Value) : Others W (W.setCell ⟨kb, i, none⟩ u) := fun b cs t fz hb n1 _ => by
  rw [Below.heap_setCell _ _ _ _ (fun e => ?_)]
  · exact hb
  · simp only at e
    subst e
    rw [h] at hb
    cases hb
    exact n1 rfl
theorem Grew.others {w w' : World} {base n m : Nat} {v v' : Value} {xs news : List Value} (h : Grew w w' base TStrs 1 v v' n m xs news) (hv : w.ownsRow base TStrs 1 v n xs) : Others w w' := fun _ _ _ _ hb _ n2 => h.block hv hb n2

theorem Kept.row {W : World} {kb base : Nat} {tv wv : Value} {vs us : List Value} {Ls : List (List ByteArray)} (h : Kept W kb base tv wv vs us Ls) : ∀ x ∈ vs ++ us, ∃ n xs, W.ownsRow base TStr 1 x n xs := fun x hx => by
  rw [List.mem_append] at hx
  rcases hx with hx | hx
  · obtain ⟨i, hi, rfl⟩ := List.getElem_of_mem hx
    exact ⟨_, _, h.r1 i (by rw [← h.n1]; exact hi) hi⟩
  · obtain ⟨i, hi, rfl⟩ := List.getElem_of_mem hx
    exact ⟨_, _, h.r2 i (by rw [← h.n2]; exact hi) hi⟩
theorem Grew.size {w w' : World} {base n m size : Nat} {e : TypeId} {v v' : Value} {xs news : List Value} (h : Grew w w' base e size v v' n m xs news) : w.heap.size ≤ w'.heap.size := by
  rcases h.at' with ⟨_, hg, _⟩ | ⟨_, hg⟩
  · exact hg.size
  · exact hg.size
/-- A row stays while the book's own block is written. -/
theorem own_set_book {w : World} {kb : Nat} {tv wv : Value} (hB : BkBlk w kb tv wv) {b : Nat} {e : TypeId} {s n : Nat} {v : Value} {xs : List Value} (h : w.ownsRow b e s v n xs) (he : e ≠ TBook) (i : Nat) (u : Value) : (w.setCell ⟨kb, i, none⟩ u).ownsRow b e s v n xs := by
  refine ownsRow_setCell_other h (fun hk => ?_) u
  rcases h.2 with ⟨rfl, _⟩ | ⟨g, cap, cur, rfl, _, hh, _⟩
  · cases hk
  · simp only [Value.ownBlock, Option.some.injEq] at hk
    subst hk
    rw [hB] at hh
    cases hh
    exact he rfl
theorem pairwise_add {vs us : List Value} {v u : Value} (h : (vs ++ us).Pairwise Far) (hv : ∀ x ∈ vs ++ us, Far x v) (hu : ∀ x ∈ vs ++ us, Far x u) (hvu : Far v u) : ((vs ++ [v]) ++ (us ++ [u])).Pairwise Far := by
  rw [List.pairwise_append] at h
  obtain ⟨h1, h2, h3⟩ := h
  rw [List.pairwise_append, List.pairwise_append, List.pairwise_append]
  refine ⟨⟨h1, by simp, fun a ha b hb => ?_⟩, ⟨h2, by simp, fun a ha b hb => ?_⟩, fun a ha b hb => ?_⟩
  · simp at hb; subst hb; exact hv a (List.mem_append_left _ ha)
  · simp at hb; subst hb; exact hu a (List.mem_append_right _ ha)
  · rw [List.mem_append] at ha hb
    rcases ha with ha | ha
    · rcases hb with hb | hb
      · exact h3 a ha b hb
      · simp at hb; subst hb; exact hu a (List.mem_append_left _ ha)
    · simp at ha; subst ha
      rcases hb with hb | hb
      · exact (hv b (List.mem_append_right _ hb)).symm
      · simp at hb; subst hb; exact hvu

/-- A call of a function of the program's, at a step of a region that draws its order. -/
theorem step_call {P : Program} (w : World) {ops : Array Oper} {o : Oper} {a : Act} {K : Act → World → Prop} {Q : Exit → Act → World → Prop} {E : Prop} {f : FuncId} {args : Array Value} {R : Ending → World → Prop} (hgd : o.guard = none)
    (hop : (execOp a.eval o).run P w = .ok (.enter f args) w) (hc : Calls P f args w R) (h : ∀ e w', R e w' → ∃ v, e = .returned v ∧ K (a.put o.dst v) w') :
    if Region.wanted o (yielded ops a.tmps) = true then Oper.wp P o a w K Q else E := by
  rw [if_pos (by simp [Region.wanted, hgd])]
  unfold Oper.wp
  rw [hop, Oper.upon_enter]
  exact hc.mono fun e w' hR => by obtain ⟨v, rfl, hK⟩ := h e w' hR; exact hK

set_option maxHeartbeats 2000000 in
set_option maxRecDepth 100000 in
theorem texts_any (kb base : Nat) (tv wv : Value) (vs us : List Value) (Ls : List (List ByteArray)) (v : Value) (bv : Nat) (L : List ByteArray) (W : World) (hK : Kept W kb base tv wv vs us Ls) (hv : W.ownsRow bv TStr 1 v L.length (svals L)) (hbv : base ≤ bv) (hf : ∀ u ∈ vs ++ us, Far u v) (hn : Ls.length < 250) (hL : L.length ≤ 100000 ∧ ∀ s ∈ L, s.size ≤ maxLen) (hb : base ≤ W.heap.size) :
    Calls Try.prog 18 #[.pointer (some ⟨kb, 0, none⟩), v] W fun e W' => e = .returned (.tuple #[]) ∧ Others W W' ∧ (∀ W0, Touch [] W0 W → W0.heap.size ≤ base → Touch [] W0 W') ∧ ∃ tv' wv' u, Kept W' kb base tv' wv' (vs ++ [v]) (us ++ [u]) (Ls ++ [L]) ∧ ∀ k, u.ownBlock = some k → W.heap.size ≤ k := by
  obtain ⟨i0, hi0, hz0, hz1, hz2⟩ := info_parts infoStrs
  obtain ⟨y1, c1, rfl, hy1, hy1'⟩ := slice_form hK.own1
  obtain ⟨y2, c2, rfl, hy2, hy2'⟩ := slice_form hK.own2
  obtain ⟨yv, cv, rfl, hyv, hyv'⟩ := slice_form hv
  have k0 := cell_of hK.blk 0
  have k1 := cell_of hK.blk 1
  have f0 := free_of hK.blk 0
  have HK := hid hK
  have HV := hid hv
  have hnI : (Ls.length : Int) < 250 := by omega
  clear hK hv
  go_enter Try.func18, Try.ntmps18
  have KO := hid (HK.out.own1)
  go_wp2_with (at_builtin; refine wpList_append_row _ rfl (.tmp 14) (.tmp 16) 29 rfl base TStrs i0 nilS 24 Try.underlying29 hi0 hz0 hz1 hz2 rfl (.slice y1 Ls.length c1) Ls.length vs rfl (KO.out.alloc _) (.slice (some ⟨W.heap.size, 0, none⟩) 1 1) 1 0 [.slice yv L.length cv] rfl (World.ownsRow_lit W #[.slice yv L.length cv] 1 (Nat.zero_le _) (by decide) rfl) (by intro u hu; simp at hu; subst hu; rfl) (by omega) (by decide) (by simp; omega) ?_; intro y3 c3 w1 hG; (have b1 := hG.block (KO.out.alloc _) (heap_alloc_keep HK.out.blk _) (by decide)); (have k10 := cell_of b1 0); (have f10 := free_of b1 0); have B1 := hid b1; have G := hid hG; clear hG b1 k0 k1 f0)
  go_upto_region 2 with fail
  have OW : Hid (Others W (w1.setCell ⟨kb, 0, none⟩ (.slice y3 (Ls.length + 1) c3))) := hid (((Others.touch ((Touch.refl [] W).alloc _)).trans (G.out.others (KO.out.alloc _))).trans (Others.set B1.out 0 _))
  have O1 := hid (own_set_book B1.out G.out.own (by decide) 0 (.slice y3 (Ls.length + 1) c3))
  have O2 := hid (own_set_book B1.out (G.out.other HK.out.far (HK.out.own2.alloc _)) (by decide) 0 (.slice y3 (Ls.length + 1) c3))
  have F2 := hid (G.out.far HK.out.far (HK.out.own2.alloc _))
  have T2 : Hid (∀ W0, Touch [] W0 W → W0.heap.size ≤ base → Touch [] W0 (w1.setCell ⟨kb, 0, none⟩ (.slice y3 (Ls.length + 1) c3))) := hid (fun W0 ht hs => (G.out.touch (KO.out.alloc _) (ht.alloc _) hs).setCell (.inr (Nat.le_trans hs HK.out.ge)) _)
  have hb2 : BkBlk (w1.setCell ⟨kb, 0, none⟩ (.slice y3 (Ls.length + 1) c3)) kb (.slice y3 (Ls.length + 1) c3) (.slice y2 Ls.length c2) := heap_set B1.out _
  have Z2 : Hid (base ≤ (w1.setCell ⟨kb, 0, none⟩ (.slice y3 (Ls.length + 1) c3)).heap.size) := hid (Nat.le_trans HK.out.ge (Nat.le_of_lt (lt_of_block hb2)))
  have ZW : Hid (W.heap.size ≤ (w1.setCell ⟨kb, 0, none⟩ (.slice y3 (Ls.length + 1) c3)).heap.size) := hid (by have := G.out.size; simp at this ⊢; omega)
  clear k10 f10 B1 G KO
  generalize w1.setCell ⟨kb, 0, none⟩ (.slice y3 (Ls.length + 1) c3) = w2 at *
  have B2 := hid hb2
  have k21 := cell_of hb2 1
  clear hb2
  have CT := hid (fun w (t : Touch [] w2 w) => copyTexts_any (.slice yv L.length cv) L.length bv L w (owns_touch (OW.out.row HV.out) t) hL.1)
  have k2d : w2.drew.cell? ⟨kb, 1, none⟩ = some (.slice y2 Ls.length c2) := k21
  go_region_law (first
      | (refine step_call _ rfl (f := 32) (args := #[.slice yv L.length cv]) (by simp [go_sem, Act.eval]) (CT.out _ ((Touch.refl [] w2).drew)) ?_
         rintro e w3 ⟨u, rfl, hu, t3⟩
         obtain ⟨yu, cu, rfl, _, _⟩ := slice_form hu
         refine ⟨_, rfl, ?_⟩
         have T3 : Hid (Touch [] w2 w3) := hid (((Touch.refl [] w2).drew).trans t3 (by simp))
         have HU := hid hu
         have B3 : Hid (BkBlk w3 kb (.slice y3 (Ls.length + 1) c3) (.slice y2 Ls.length c2)) := hid (touch_other T3.out B2.out (by simp))
         have k31 := cell_of B3.out 1
         have k32 := fun o : Obj => cell_alloc B3.out 1 o
         clear hu t3)
      | (refine step_append_row _ rfl (.tmp 24) (.tmp 27) 29 rfl base TStrs i0 nilS 24 Try.underlying29 hi0 hz0 hz1 hz2 rfl (.slice y2 Ls.length c2) Ls.length us (by simp [Act.eval]) ((owns_touch O2.out T3.out).alloc _) w3.heap.size 1 1 0 [.slice yu L.length cu] (by simp [Act.eval]) (World.ownsRow_lit w3 #[.slice yu L.length cu] 1 (Nat.zero_le _) (by decide) rfl) (by intro x hx; simp at hx; subst hx; rfl) (by omega) (by decide) (by have := Z2.out; have := T3.out.size; simp; omega) ?_
         intro y4 c4 w4 hG4
         have B4 : Hid (BkBlk w4 kb (.slice y3 (Ls.length + 1) c3) (.slice y2 Ls.length c2)) := hid (hG4.block ((owns_touch O2.out T3.out).alloc _) (heap_alloc_keep B3.out _) (by decide))
         have G4 := hid hG4
         have k41 := cell_of B4.out 1
         have f41 := free_of B4.out 1
         clear hG4))
  all_goals
    go_wp2
    go_end0
    have b5 : BkBlk (w4.setCell ⟨kb, 1, none⟩ (.slice y4 (Ls.length + 1) c4)) kb (.slice y3 (Ls.length + 1) c3) (.slice y4 (Ls.length + 1) c4) := heap_set B4.out _
    have O2' := (owns_touch O2.out T3.out).alloc (.cells #[.slice yu L.length cu] TStrs)
    have OW4 : Others W w4 := ((OW.out.trans (Others.touch T3.out)).trans (Others.touch ((Touch.refl [] w3).alloc (.cells #[.slice yu L.length cu] TStrs)))).trans (G4.out.others O2')
    have OW5 : Others W (w4.setCell ⟨kb, 1, none⟩ (.slice y4 (Ls.length + 1) c4)) := OW4.trans (Others.set B4.out 1 _)
    have O1' := (owns_touch O1.out T3.out).alloc (.cells #[.slice yu L.length cu] TStrs)
    have F4 : Far (.slice y4 (Ls.length + 1) c4) (.slice y3 (Ls.length + 1) c3) := G4.out.far F2.out.symm O1'
    have U5 := own_set_book B4.out (G4.out.other (far_types O2' (HU.out.alloc _) (by decide)) (HU.out.alloc _)) (by decide) 1 (.slice y4 (Ls.length + 1) c4)
    have hWs : W.heap.size ≤ w2.drew.heap.size := ZW.out
    have hBs : base ≤ w2.drew.heap.size := Z2.out
    have hlen : (Ls ++ [L]).length = Ls.length + 1 := by simp
    have hn1 := HK.out.n1
    have hn2 := HK.out.n2
    refine ⟨rfl, OW5, fun W0 ht hs => (G4.out.touch O2' (((T2.out W0 ht hs).trans T3.out (by simp)).alloc _) hs).setCell (.inr (Nat.le_trans hs HK.out.ge)) _, _, _, .slice yu L.length cu, ⟨b5, HK.out.ge, by simp [hn1], by simp [hn2], ?_, ?_, F4.symm, ?_, ?_, ?_, ?_, ?_⟩, fun k hk => Nat.le_trans hWs (U5.lt k hk).1⟩
    · rw [hlen]
      exact own_set_book B4.out (G4.out.other F2.out.symm O1') (by decide) 1 _
    · rw [hlen]
      exact own_set_book B4.out G4.out.own (by decide) 1 _
    · intro i h h1
      by_cases hi : i < Ls.length
      · have := OW5.row (HK.out.r1 i hi (by omega))
        simpa only [List.getElem_append_left hi, List.getElem_append_left (show i < vs.length by omega)] using this
      · obtain rfl : i = Ls.length := by rw [hlen] at h; omega
        have e1 : (vs ++ [Value.slice yv L.length cv])[Ls.length]'h1 = .slice yv L.length cv := by simp [← hn1]
        have e2 : (Ls ++ [L])[Ls.length]'h = L := by simp
        rw [e1, e2]
        exact own_up (OW5.row HV.out) hbv
    · intro i h h1
      by_cases hi : i < Ls.length
      · have := OW5.row (HK.out.r2 i hi (by omega))
        simpa only [List.getElem_append_left hi, List.getElem_append_left (show i < us.length by omega)] using this
      · obtain rfl : i = Ls.length := by rw [hlen] at h; omega
        have e1 : (us ++ [Value.slice yu L.length cu])[Ls.length]'h1 = .slice yu L.length cu := by simp [← hn2]
        have e2 : (Ls ++ [L])[Ls.length]'h = L := by simp
        rw [e1, e2]
        exact own_up U5 hBs
    · refine pairwise_add HK.out.ap hf (fun x hx => ?_) (far_new HV.out U5 hWs)
      obtain ⟨n, xs, hr⟩ := HK.out.row x hx
      exact far_new hr U5 hWs
    · intro M hM
      rw [List.mem_append] at hM
      rcases hM with hM | hM
      · exact HK.out.sz M hM
      · simp at hM; subst hM; exact hL
    · rw [hlen]; omega
end Go.Proofs.Ytmaainnfflapiaa
