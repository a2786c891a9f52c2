/- The book's growTexts, markedTexts. -/
import Derived.Test.YtmaainnfflapiaaPutM
namespace Go.Proofs.Ytmaainnfflapiaa
set_option maxRecDepth 100000
open Go.RowKit Go.Lib Go.ChangeShapes Go.WideShapes

/-- The lists that are kept, marked, and those that came of them, longer. -/
structure Grown (W : World) (kb base : Nat) (tv wv : Value) (vs gs : List Value) (ns : Nat → Nat) : Prop where
  r : Rows1 W kb base tv wv vs ns (fun j => marks j 0 (ns j))
  g1 : ∀ j (h : j < gs.length), W.ownsRow base TStr 1 gs[j] (ns j + 72) (svals (marks j 0 (ns j + 72)))
  le : gs.length ≤ vs.length
  ap : gs.Pairwise Far
  apart : ∀ i j (h1 : i < gs.length) (h2 : j < vs.length), i ≠ j → Far gs[i] vs[j]
theorem Grown.touch {W W' : World} {kb base : Nat} {tv wv : Value} {vs gs : List Value} {ns : Nat → Nat} (h : Grown W kb base tv wv vs gs ns) (t : Touch [] W W') : Grown W' kb base tv wv vs gs ns :=
  ⟨h.r.touch t, fun j hj => owns_touch (h.g1 j hj) t, h.le, h.ap, h.apart⟩
/-- List i is grown in place, or anew. -/
theorem Grown.grew {W W' : World} {kb base i n m : Nat} {tv wv l l' : Value} {vs gs : List Value} {ns : Nat → Nat} {xs news : List Value} (h : Grown W kb base tv wv vs gs ns) (hi : i < vs.length) (hg : gs.length ≤ i)
    (hl : W.ownsRow base TStr 1 l n xs) (hfar : ∀ u, (∃ j, ∃ h : j < gs.length, u = gs[j]) ∨ (∃ j, ∃ h : j < vs.length, j ≠ i ∧ u = vs[j]) → Far l u) (hself : W'.ownsRow base TStr 1 vs[i] (ns i) (svals (marks i 0 (ns i)))) (G : Grew W W' base TStr 1 l l' n m xs news) :
    Grown W' kb base tv wv vs gs ns := by
  refine ⟨⟨G.block hl h.r.blk (by decide), h.r.ge, G.other (far_types hl h.r.own1 (by decide)) h.r.own1, fun j hj => ?_, h.r.ap, h.r.few, h.r.small⟩, fun j hj => ?_, h.le, h.ap, h.apart⟩
  · by_cases hji : j = i
    · subst hji; exact hself
    · exact G.other (hfar _ (.inr ⟨j, hj, hji, rfl⟩)) (h.r.r1 j hj)
  · exact G.other (hfar _ (.inl ⟨j, hj, rfl⟩)) (h.g1 j hj)

/-- What l is while list i grows: t texts longer; and the list itself is as it was. -/
structure Longer (W : World) (kb base : Nat) (tv wv : Value) (vs gs : List Value) (ns : Nat → Nat) (i t : Nat) (l : Value) : Prop where
  g : Grown W kb base tv wv vs gs ns
  own : W.ownsRow base TStr 1 l (ns i + t) (svals (marks i 0 (ns i + t)))
  far : ∀ u, (∃ j, ∃ h : j < gs.length, u = gs[j]) ∨ (∃ j, ∃ h : j < vs.length, j ≠ i ∧ u = vs[j]) → Far l u
  self : ∀ h : i < vs.length, Far l vs[i] ∨ ∃ y c, vs[i] = .slice y (ns i) c ∧ l = .slice y (ns i + t) c
theorem Longer.touch {W W' : World} {kb base i t : Nat} {tv wv l : Value} {vs gs : List Value} {ns : Nat → Nat} (h : Longer W kb base tv wv vs gs ns i t l) (ht : Touch [] W W') : Longer W' kb base tv wv vs gs ns i t l :=
  ⟨h.g.touch ht, owns_touch h.own ht, h.far, h.self⟩
theorem Longer.rows {W : World} {kb base i t : Nat} {tv wv l : Value} {vs gs : List Value} {ns : Nat → Nat} (h : Longer W kb base tv wv vs gs ns i t l) : ∀ u, (∃ j, ∃ h : j < gs.length, u = gs[j]) ∨ (∃ j, ∃ h : j < vs.length, j ≠ i ∧ u = vs[j]) → ∃ n xs, W.ownsRow base TStr 1 u n xs := fun u hu => by
  rcases hu with ⟨j, hj, rfl⟩ | ⟨j, hj, _, rfl⟩
  · exact ⟨_, _, h.g.g1 j hj⟩
  · exact ⟨_, _, h.g.r.r1 j hj⟩
/-- One step further. -/
theorem Longer.next {W W' : World} {kb base i t m : Nat} {tv wv l l' : Value} {vs gs : List Value} {ns : Nat → Nat} (h : Longer W kb base tv wv vs gs ns i t l) (hi : i < vs.length) (hg : gs.length ≤ i)
    (G : Grew W W' base TStr 1 l l' (ns i + t) m (svals (marks i 0 (ns i + t))) (svals (marks i (ns i + t) m))) : Longer W' kb base tv wv vs gs ns i (t + m) l' := by
  have hself : W'.ownsRow base TStr 1 vs[i] (ns i) (svals (marks i 0 (ns i))) := by
    rcases h.self hi with hf | ⟨y, c, e1, e2⟩
    · exact G.other hf (h.g.r.r1 i hi)
    · have ho := G.old
      rw [e2] at ho
      rw [e1]
      have hm : marks i 0 (ns i + t) = marks i 0 (ns i) ++ marks i (ns i) t := by
        have := marks_add i 0 (ns i) t
        rw [Nat.zero_add] at this
        exact this.symm
      rw [hm, ← svals_app] at ho
      obtain ⟨y', c', e3, hy1, hy2⟩ := slice_form ho
      simp only [Value.slice.injEq, true_and] at e3
      obtain ⟨rfl, rfl⟩ := e3
      cases y with
      | none =>
        obtain ⟨h1, h2⟩ := hy1 rfl
        have h3 : ns i = 0 := by omega
        have h4 : marks i 0 0 = [] := rfl
        rw [h1, h3, h4]
        exact World.ownsRow_nil _ _ _ _
      | some a =>
        obtain ⟨g, rfl⟩ := hy2 a rfl
        exact own_short ho (by rw [svals_len, marks_len, Nat.mul_one])
  refine ⟨h.g.grew hi hg h.own h.far hself G, ?_, fun u hu => ?_, fun _ => ?_⟩
  · have := G.own
    rw [svals_app] at this
    have hm := marks_add i 0 (ns i + t) m
    rw [Nat.zero_add] at hm
    rw [hm, Nat.add_assoc] at this
    exact this
  · obtain ⟨n, xs, hr⟩ := h.rows u hu
    exact G.far (h.far u hu) hr
  · rcases h.self hi with hf | ⟨y, c, e1, e2⟩
    · exact .inl (G.far hf (h.g.r.r1 i hi))
    · rcases G.at' with ⟨_, _, y', c', e3, e4⟩ | ⟨h1, _⟩
      · right
        rw [e2] at e3
        simp only [Value.slice.injEq, true_and] at e3
        obtain ⟨rfl, rfl⟩ := e3
        exact ⟨y, c, e1, by rw [e4, Nat.add_assoc]⟩
      · left
        intro k hk hk2
        rw [h1] at hk
        have := ((h.g.r.r1 i hi).lt k hk2).2
        cases hk
        omega
/-- The first one: the list itself. -/
theorem Grown.start {W : World} {kb base i : Nat} {tv wv : Value} {vs gs : List Value} {ns : Nat → Nat} (h : Grown W kb base tv wv vs gs ns) (hi : i < vs.length) (hg : gs.length = i) : Longer W kb base tv wv vs gs ns i 0 vs[i] := by
  refine ⟨h, h.r.r1 i hi, fun u hu => ?_, fun _ => ?_⟩
  · rcases hu with ⟨j, hj, rfl⟩ | ⟨j, hj, hne, rfl⟩
    · exact (h.apart j i hj hi (by omega)).symm
    · exact far_of_pair h.r.ap hi hj (fun e => hne e.symm)
  · obtain ⟨y, c, e, _, _⟩ := slice_form (h.r.r1 i hi)
    exact .inr ⟨y, c, e, e⟩
/-- The last one: one more that came. -/
theorem Longer.done {W : World} {kb base i : Nat} {tv wv l : Value} {vs gs : List Value} {ns : Nat → Nat} (h : Longer W kb base tv wv vs gs ns i 72 l) (hi : i < vs.length) (hg : gs.length = i) : Grown W kb base tv wv vs (gs ++ [l]) ns := by
  have hl : (gs ++ [l]).length = i + 1 := by simp [hg]
  refine ⟨h.g.r, fun j hj => ?_, by rw [hl]; omega, ?_, fun a b ha hb hne => ?_⟩
  · by_cases hj2 : j < gs.length
    · have := h.g.g1 j hj2
      simpa only [List.getElem_append_left hj2] using this
    · obtain rfl : j = i := by rw [hl] at hj; omega
      have e : (gs ++ [l])[j]'hj = l := by simp [← hg]
      rw [e]
      exact h.own
  · rw [List.pairwise_append]
    refine ⟨h.g.ap, by simp, fun a ha b hb => ?_⟩
    simp at hb
    subst hb
    obtain ⟨j, hj, rfl⟩ := List.getElem_of_mem ha
    exact (h.far _ (.inl ⟨j, hj, rfl⟩)).symm
  · by_cases ha2 : a < gs.length
    · have := h.g.apart a b ha2 hb hne
      simpa only [List.getElem_append_left ha2] using this
    · obtain rfl : a = i := by rw [hl] at ha; omega
      have e : (gs ++ [l])[a]'ha = l := by simp [← hg]
      rw [e]
      exact h.far _ (.inr ⟨b, hb, fun e => hne e.symm, rfl⟩)
/-- A list of lists of its own was grown. -/
theorem Grown.strs {W W' : World} {kb base b n m : Nat} {tv wv o o' : Value} {vs gs xs news : List Value} {ns : Nat → Nat} (h : Grown W kb base tv wv vs gs ns) (hf : Far o tv) (ho : W.ownsRow b TStrs 1 o n xs) (G : Grew W W' b TStrs 1 o o' n m xs news) : Grown W' kb base tv wv vs gs ns :=
  ⟨⟨G.block ho h.r.blk (by decide), h.r.ge, G.other hf h.r.own1, fun j hj => G.other (far_types ho (h.r.r1 j hj) (by decide)) (h.r.r1 j hj), h.r.ap, h.r.few, h.r.small⟩, fun j hj => G.other (far_types ho (h.g1 j hj) (by decide)) (h.g1 j hj), h.le, h.ap, h.apart⟩
theorem Newer.grew {W W1 W2 : World} {base n m : Nat} {e : TypeId} {v v' : Value} {xs news : List Value} {b s : Nat} (h : Newer W base W1) (G : Grew W1 W2 b e s v v' n m xs news) (hv : W1.ownsRow b e s v n xs) (hb : base ≤ b) : Newer W base W2 := fun W0 h0 hs => G.touch hv (h W0 h0 hs) (Nat.le_trans hs hb)

set_option maxHeartbeats 4000000 in
set_option maxRecDepth 100000 in
theorem growTexts_any (kb base : Nat) (tv wv : Value) (vs : List Value) (ns : Nat → Nat) (W : World) (hR : Rows1 W kb base tv wv vs ns (fun j => marks j 0 (ns j))) (hb : base ≤ W.heap.size) :
    Calls Try.prog 45 #[.pointer (some ⟨kb, 0, none⟩)] W fun e W' => ∃ ov gs, e = .returned ov ∧ gs.length = vs.length ∧ Newer W base W' ∧ Grown W' kb base tv wv vs gs ns ∧ W'.ownsRow W.heap.size TStrs 1 ov gs.length gs := by
  obtain ⟨y1, c1, rfl, hy1, hy1'⟩ := slice_form hR.own1
  obtain ⟨i0, hi0, hz0, hz1, hz2⟩ := info_parts infoStrP
  obtain ⟨i1, hi1, hy0, hyy1, hyy2⟩ := info_parts infoStrs
  have HR := hid hR
  have HB := hid hb
  have hn250 : (vs.length : Int) ≤ 250 := by have := hR.few; omega
  clear hR hb
  go_enter Try.func45, Try.ntmps45
  go_wp2
  go_loopw [3, 4] (fun ov iv wr => ∃ (i : Nat) (gs : List Value), i ≤ vs.length ∧ iv = .int .i64 i ∧ gs.length = i ∧ Newer W base wr ∧ W.heap.size ≤ wr.heap.size ∧ Grown wr kb base (.slice y1 vs.length c1) wv vs gs ns ∧ wr.ownsRow W.heap.size TStrs 1 ov gs.length gs) (fun _ iv _ => vs.length - (RowKit.intOf iv).toNat)
  case atStart => exact ⟨0, [], Nat.zero_le _, rfl, rfl, Newer.refl _ _, Nat.le_refl _, ⟨HR.out, fun j h => absurd h (Nat.not_lt_zero j), Nat.zero_le _, by simp, fun a b h => absurd h (Nat.not_lt_zero a)⟩, World.ownsRow_nil _ _ _ _⟩
  case round =>
    obtain ⟨i, gs, hi, rfl, hgs, hN, hz, hG, hO⟩ := hrel
    obtain ⟨yo, co, rfl, hyo, hyo'⟩ := slice_form hO
    have HN := hid hN
    have HZ := hid hz
    have HQ := hid hG
    have HO := hid hO
    have HGS := hid hgs
    have k0 := cell_of hG.r.blk 0
    clear hN hG hz hO hgs
    by_cases hlt : i < vs.length
    · have hl2 : decide (i < vs.length) = true := by simpa using hlt
      have hkI : (i : Int) < vs.length := by omega
      have hk0 : (0 : Int) ≤ i := by omega
      obtain ⟨g1, q1, e1, a1, hg1⟩ := strs_at HQ.out.r.own1 i hlt hlt
      simp only [Value.slice.injEq, true_and] at e1
      obtain ⟨rfl, rfl⟩ := e1
      obtain ⟨yi, ci, ei, hyi, hyi'⟩ := slice_form (HQ.out.r.r1 i hlt)
      rw [ei] at a1
      have LS := HQ.out.start hlt HGS.out
      rw [ei] at LS
      have HLS := hid LS
      have hsm := HQ.out.r.small i
      have hsmI : (ns i : Int) ≤ 3100 := by omega
      have hsm0 : (0 : Int) ≤ ns i := by omega
      have HSM := hid hsm
      have h250 : i ≤ 1000 := by omega
      clear ei hg1 LS hsm
      go_wp2
      go_loopw [5, 6] (fun lv nv wq => ∃ t : Nat, t ≤ 12 ∧ nv = .int .i64 t ∧ Longer wq kb base (.slice (some ⟨g1, 0, none⟩) vs.length c1) wv vs gs ns i t lv ∧ wq.ownsRow W.heap.size TStrs 1 (.slice yo gs.length co) gs.length gs ∧ Newer W base wq ∧ W.heap.size ≤ wq.heap.size) (fun _ nv _ => 12 - (RowKit.intOf nv).toNat)
      case atStart => exact ⟨0, Nat.zero_le _, rfl, HLS.out, HO.out, HN.out, HZ.out⟩
      case round =>
        obtain ⟨t, ht, rfl, hL, hO2, hN2, hZ2⟩ := hrel
        obtain ⟨yl, cl, rfl, hyl, hyl'⟩ := slice_form hL.own
        have HL := hid hL
        have HO2 := hid hO2
        have HN2 := hid hN2
        have HZ2 := hid hZ2
        have htI : (t : Int) ≤ 12 := by omega
        have ht0 : (0 : Int) ≤ t := by omega
        clear hL hO2 hN2 hZ2
        by_cases htl : t < 12
        · have htl2 : (t : Int) < 12 := by omega
          have MT : Hid (∀ w, Calls Try.prog 76 #[.int .i64 i, .int .i64 ((ns i : Int) + t), .int .i64 1] w fun e w' => ∃ v, e = .returned v ∧ w'.ownsRow w.heap.size TStr 1 v 1 (svals (marks i (ns i + t) 1)) ∧ Touch [] w w') := fun w => by
            have h := markTexts_any i (ns i + t) 1 w h250 (by have := HSM.out; omega)
            rw [show ((ns i + t : Nat) : Int) = (ns i : Int) + t from by omega] at h
            exact h
          go_wp2_with fail
          refine (MT.out _).mono ?_
          rintro e w2 ⟨mv, rfl, hm, t2⟩
          obtain ⟨ym, cm, rfl, _, _⟩ := slice_form hm
          have HM := hid hm
          have T2 := hid t2
          have L2 := hid (HL.out.touch t2)
          have O2 := hid (owns_touch HO2.out t2)
          clear hm t2 MT
          go_wp2_with (at_builtin; refine wpList_append_row _ rfl (.tmp 27) (.tmp 31) 37 rfl base TStr i0 (.string ⟨#[]⟩) 16 Try.underlying37 hi0 hz0 hz1 hz2 rfl (.slice yl (ns i + t) cl) (ns i + t) (svals (marks i 0 (ns i + t))) rfl L2.out.own (.slice ym 1 cm) 1 wr.heap.size (svals (marks i (ns i + t) 1)) rfl HM.out (svals_one _) (by have := HSM.out; omega) (by decide) (by have := HB.out; have := HZ2.out; have := T2.out.size; omega) ?_; intro y3 c3 w3 hG3; have G3 := hid hG3; clear hG3)
          go_roundw
          case rel => exact ⟨t + 1, by omega, by go_num, L2.out.next hlt (by have := HGS.out; omega) G3.out, G3.out.other (far_types L2.out.own O2.out (by decide)) O2.out, (HN2.out.touch T2.out).grew G3.out L2.out.own (Nat.le_refl _), by have := HZ2.out; have := T2.out.size; have := G3.out.size; omega⟩
          case measure => simp [RowKit.intOf]; omega
        · obtain rfl : t = 12 := by omega
          have MT : Hid (∀ w, Calls Try.prog 76 #[.int .i64 i, .int .i64 ((ns i : Int) + 12), .int .i64 60] w fun e w' => ∃ v, e = .returned v ∧ w'.ownsRow w.heap.size TStr 1 v 60 (svals (marks i (ns i + 12) 60)) ∧ Touch [] w w') := fun w => by
            have h := markTexts_any i (ns i + 12) 60 w h250 (by have := HSM.out; omega)
            rw [show ((ns i + 12 : Nat) : Int) = (ns i : Int) + 12 from by omega] at h
            exact h
          go_wp2_with fail
          refine (MT.out _).mono ?_
          rintro e w2 ⟨mv, rfl, hm, t2⟩
          obtain ⟨ym, cm, rfl, _, _⟩ := slice_form hm
          have HM := hid hm
          have T2 := hid t2
          have L2 := hid (HL.out.touch t2)
          have O2 := hid (owns_touch HO2.out t2)
          have Z2 := hid (show W.heap.size ≤ w2.heap.size by have := HZ2.out; have := t2.size; omega)
          clear hm t2 MT
          go_wp2_with (first | (at_builtin; refine wpList_append_row _ rfl (.tmp 34) (.tmp 38) 37 rfl base TStr i0 (.string ⟨#[]⟩) 16 Try.underlying37 hi0 hz0 hz1 hz2 rfl (.slice yl (ns i + 12) cl) (ns i + 12) (svals (marks i 0 (ns i + 12))) rfl L2.out.own (.slice ym 60 cm) 60 wr.heap.size (svals (marks i (ns i + 12) 60)) rfl HM.out (svals_one _) (by have := HSM.out; omega) (by decide) (by have := HB.out; have := Z2.out; omega) ?_; intro y3 c3 w3 hG3; have G3 := hid hG3; have O3 := hid (hG3.other (far_types L2.out.own O2.out (by decide)) O2.out); clear hG3) | (at_builtin; refine wpList_append_row _ rfl (.tmp 33) (.tmp 40) 29 rfl W.heap.size TStrs i1 nilS 24 Try.underlying29 hi1 hy0 hyy1 hyy2 rfl (.slice yo gs.length co) gs.length gs rfl (O3.out.alloc _) (.slice (some ⟨w3.heap.size, 0, none⟩) 1 1) 1 0 [.slice y3 (ns i + 12 + 60) c3] rfl (World.ownsRow_lit w3 #[.slice y3 (ns i + 12 + 60) c3] 1 (Nat.zero_le _) (by decide) rfl) (by intro u hu; simp at hu; subst hu; rfl) (by have := HGS.out; omega) (by decide) (by have := Z2.out; have := G3.out.size; simp; omega) ?_; intro y4 c4 w4 hG4; have G4 := hid hG4; clear hG4))
          have D3 := hid ((L2.out.next hlt (by have := HGS.out; omega) G3.out).done hlt HGS.out)
          have N3 := hid ((HN2.out.touch T2.out).grew G3.out L2.out.own (Nat.le_refl _))
          have tvfar := hid (far_new HR.out.own1 (O3.out.alloc (.cells #[.slice y3 (ns i + 12 + 60) c3] TStrs)) (Nat.le_refl _))
          have D4 := hid ((D3.out.touch ((Touch.refl [] w3).alloc (.cells #[.slice y3 (ns i + 12 + 60) c3] TStrs))).strs tvfar.out.symm (O3.out.alloc _) G4.out)
          refine ⟨⟨i + 1, gs ++ [.slice y3 (ns i + 12 + 60) c3], by omega, by go_num, by simp [HGS.out], ?_, ?_, D4.out, ?_⟩, by simp [RowKit.intOf]; omega⟩
          · exact (N3.out.touch ((Touch.refl [] w3).alloc (.cells #[.slice y3 (ns i + 12 + 60) c3] TStrs))).grew G4.out (O3.out.alloc _) HB.out
          · have h1 := Z2.out
            have h2 := G3.out.size
            have h3 := G4.out.size
            simp at h3
            omega
          · rw [show (gs ++ [Value.slice y3 (ns i + 12 + 60) c3]).length = gs.length + 1 by simp]
            exact G4.out.own
    · obtain rfl : i = vs.length := by omega
      have hl2 : decide (vs.length < vs.length) = false := by simp
      clear hlt hi
      go_wp2
      go_ret
      exact ⟨_, gs, rfl, HGS.out, HN.out, HQ.out, HO.out⟩
end Go.Proofs.Ytmaainnfflapiaa
