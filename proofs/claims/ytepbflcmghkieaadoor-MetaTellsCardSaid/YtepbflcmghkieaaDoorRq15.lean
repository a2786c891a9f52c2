/- The laws' own part, Parse, Floor. -/
import Derived.Test.YtepbflcmghkieaaDoorRt15
import Derived.Test.YtepbflcmghkieaaDoorPa15
import Derived.Test.YtepbflcmghkieaaDoorFl15
namespace Go.Proofs.YtepbflcmghkieaaDoor
open Go.RowKit Go.Lib
set_option maxRecDepth 100000

theorem pre_take (l p : List UInt8) : hasPrefix l p = decide (l.take p.length = p) := by
  unfold hasPrefix
  rw [Bool.eq_iff_iff, decide_eq_true_eq, List.isPrefixOf_iff_prefix, List.prefix_iff_eq_take]
  exact ⟨fun h => h.symm, fun h => h.symm⟩
theorem part_any (s q : ByteArray) (w : World) (hs : s.size ≤ 1000000) (hq : q.size ≤ 10) :
    Calls Tryd.prog 25 #[.string s, .string q] w fun e w' => e = .returned (.tuple #[.int .i64 (partP s.data.toList q.data.toList).1, .bool (partP s.data.toList q.data.toList).2]) ∧ w = w' := by
  have hsl := list_len s
  have hql := list_len q
  by_cases h1 : s.size ≤ q.size
  · have hp : partP s.data.toList q.data.toList = (0, false) := by unfold partP; rw [if_pos (.inl (by omega))]
    rw [hp]
    have d1 : decide (s.size ≤ q.size) = true := by simpa using h1
    clear hp h1 hsl hql
    go_enter Tryd.func25, Tryd.ntmps25
    go_wp2
    go_ret2
    exact ⟨rfl, rfl⟩
  · have d1 : decide (s.size ≤ q.size) = false := by simpa using h1
    have hx : (s.extract 0 q.size).data.toList = s.data.toList.take q.size := by
      simp [ByteArray.extract, ByteArray.copySlice]
    by_cases h2 : s.data.toList.take q.size = q.data.toList
    · have hp : partP s.data.toList q.data.toList = ((numP (s.data.toList.drop q.size)).1, decide ((numP (s.data.toList.drop q.size)).2 = 0)) := by
        unfold partP
        rw [if_neg (by rw [pre_take, hql, decide_eq_true h2]; simp; omega), hql]
      rw [hp]
      have hy : (s.extract q.size s.size).data.toList = s.data.toList.drop q.size := by
        simp [ByteArray.extract, ByteArray.copySlice]
        rw [List.take_of_length_le (by rw [List.length_drop, ← hsl]; simp)]
      have CN := refNumber_any (s.extract q.size s.size) w
      rw [hy, numP_eq] at CN
      have CN := hid CN
      have e1 : ((s.extract 0 q.size).toList == q.toList) = true := by rw [ByteArray.toList_eq, ByteArray.toList_eq, hx, h2]; simp
      have NE := numP_err (s.data.toList.drop q.size)
      generalize numP (s.data.toList.drop q.size) = nn at *
      obtain ⟨nv, ne⟩ := nn
      dsimp only at *
      have i1 : (q.size : Int) ≤ s.size := by omega
      have i2 : q.size ≤ s.size := by omega
      clear hp h1 h2 hx hy hsl hql
      go_enter Tryd.func25, Tryd.ntmps25
      go_wp2_with (go_at_call 36; refine CN.out.mono ?_; rintro e w' ⟨rfl, rfl⟩)
      go_ret2
      refine ⟨?_, rfl⟩
      rcases NE with h | h <;> subst h <;> rfl
    · have hp : partP s.data.toList q.data.toList = (0, false) := by unfold partP; rw [if_pos (.inr (by rw [pre_take, hql]; exact decide_eq_false h2))]
      rw [hp]
      have e1 : ((s.extract 0 q.size).toList == q.toList) = false := by rw [ByteArray.toList_eq, ByteArray.toList_eq, hx, beq_eq_false_iff_ne]; exact h2
      have i1 : (q.size : Int) ≤ s.size := by omega
      have i2 : q.size ≤ s.size := by omega
      clear hp h1 h2 hx hsl hql
      go_enter Tryd.func25, Tryd.ntmps25
      go_wp2
      go_ret2
      exact ⟨rfl, rfl⟩
theorem refM_take (ws : List ByteArray) (k : Nat) (h : k < ws.length) : refM ((ws.take (k + 1)).map (·.data.toList)) = refStep (refM ((ws.take k).map (·.data.toList))) ws[k].data.toList := by
  unfold refM
  rw [List.take_succ_eq_append_getElem h, List.map_append, List.foldl_append]
  rfl
theorem cell_keep {F : List Nat} {w w' : World} (t : Touch F w w') {a : Addr} {v : Value} (hv : w.cell? a = some v) (ha : a.block ∉ F) : w'.cell? a = some v := by
  rw [World.cell?_of_block (w := w) (a := a) (t.block a.block (World.block_lt_of_cell? w _ hv) ha)]
  exact hv
theorem rows_at {w : World} {base n : Nat} {v : Value} {l : List ByteArray} (h : w.ownsRow base TStr 1 v n (svals l)) : ∃ x c, v = .slice x l.length c ∧ ∀ k (hk : k < l.length), ∃ b off, x = some ⟨b, off, none⟩ ∧ base ≤ b ∧ w.cell? ⟨b, off + k, none⟩ = some (.string l[k]) := by
  have hn : n = l.length := by have := h.1; rw [svals_len] at this; omega
  subst hn
  obtain ⟨y, cap, rfl, h1, h2⟩ := slice_form h
  refine ⟨y, cap, rfl, fun k hk => ?_⟩
  rcases h.2 with ⟨e, h0⟩ | ⟨g, cap', cur, e, _, hg, hnc, _⟩
  · omega
  · cases e
    refine ⟨g, 0, rfl, (h.lt g rfl).1, ?_⟩
    have := h.cells (g := g) rfl k (.string l[k]) (by unfold svals; rw [List.getElem?_map, List.getElem?_eq_getElem hk]; rfl)
    rwa [show (⟨g, 0, none⟩ : Addr).add k = ⟨g, 0 + k, none⟩ from by unfold Addr.add; split <;> simp_all] at this
theorem refStep_eq (m : MetaD) (l : List UInt8) : refStep m l =
    (if (partP l bB).2 = true then setM (if (partP l aB).2 = true then setM (if (partP l cB).2 = true then setM m 0 (partP l cB).1 else m) 1 (partP l aB).1 else (if (partP l cB).2 = true then setM m 0 (partP l cB).1 else m)) 2 (partP l bB).1 else
      (if (partP l aB).2 = true then setM (if (partP l cB).2 = true then setM m 0 (partP l cB).1 else m) 1 (partP l aB).1 else (if (partP l cB).2 = true then setM m 0 (partP l cB).1 else m))) := by
  unfold refStep
  generalize partP l cB = pc
  generalize partP l aB = pa
  generalize partP l bB = pb
  obtain ⟨pc, _ | _⟩ := pc <;> obtain ⟨pa, _ | _⟩ := pa <;> obtain ⟨pb, _ | _⟩ := pb <;> rfl
/-- How the loop over the words stands. -/
structure RpI (w1 : World) (n : Nat) (m : MetaD) (wr : World) : Prop where
  m : MetaB wr (n + 1) m
  r : MetaB wr n (0, 0, 0)
  t : Touch [n + 1] w1 wr
theorem RpI.set {w1 wr : World} {n : Nat} {m : MetaD} (h : RpI w1 n m wr) {k : Nat} (hk : k < 3) (v : Int) : RpI w1 n (setM m k v) (wr.setCell ⟨n + 1, k, none⟩ (.int .i64 v)) :=
  ⟨h.m.set hk v, (heap_set_other _ (by simp)).trans h.r, h.t.setCell (.inl (by simp)) _⟩
set_option maxHeartbeats 8000000 in
theorem refParse_any (s : ByteArray) (w : World) (hs : s.size ≤ 3000) : Calls Tryd.prog 11 #[.string s] w fun e w' => e = .returned (parseV (parseL s.data.toList)) ∧ Touch [] w w' := by
  have CW := hid fun W => refWords_any s W hs
  have CT := hid fun m W => refText_any m W
  have CP : Hid (∀ (t : ByteArray) (q : ByteArray) W, t.size ≤ 1000000 → q.size ≤ 10 → Calls Tryd.prog 25 #[.string t, .string q] W fun e w' => e = .returned (.tuple #[.int .i64 (partP t.data.toList q.data.toList).1, .bool (partP t.data.toList q.data.toList).2]) ∧ W = w') := hid fun t q W h1 h2 => part_any t q W h1 h2
  have WZ : Hid (∀ t ∈ wordsB s.data.toList, t.size ≤ 3000) := hid fun t ht => by
    have := wordsB_size s.data.toList t ht
    rw [list_len] at this
    omega
  have PR := hid (parse_ref s.data.toList)
  obtain ⟨ws, hws⟩ : ∃ ws, ws = wordsB s.data.toList := ⟨_, rfl⟩
  rw [← hws] at CW WZ PR
  have SL : Hid (txt s.data.toList = s) := hid (arr_eq rfl).symm
  obtain ⟨W0, hW0⟩ : ∃ W0, W0 = (w.alloc (.cells #[.int .i64 0, .int .i64 0, .int .i64 0] TMeta)).alloc (.cells #[.int .i64 0, .int .i64 0, .int .i64 0] TMeta) := ⟨_, rfl⟩
  have R0 : MetaB W0 w.heap.size (0, 0, 0) := by rw [hW0]; exact heap_alloc_keep (heap_alloc_new w _) _
  have M0 : MetaB W0 (w.heap.size + 1) (0, 0, 0) := by
    rw [hW0]
    have := heap_alloc_new (w.alloc (.cells #[.int .i64 0, .int .i64 0, .int .i64 0] TMeta)) (.cells #[.int .i64 0, .int .i64 0, .int .i64 0] TMeta)
    rwa [World.size_alloc] at this
  have T0 : Touch [] w W0 := by rw [hW0]; exact ((Touch.refl [] w).alloc _).alloc _
  have TW := hid T0
  have HR := hid R0
  have HM := hid M0
  clear hws R0 M0 T0
  go_enter Tryd.func11, Tryd.ntmps11
  go_upto_region 2 with fail
  rw [← hW0]
  clear hW0
  go_wp2_with (go_at_call 24; refine (CW.out _).mono ?_; rintro e w1 ⟨v, rfl, ow, hwl, t1⟩; obtain ⟨x, c, rfl, HX⟩ := rows_at ow; have HX := hid HX; have T1 := hid t1; clear ow t1)
  have HA := fun k hk => HX.out k hk
  have HA := hid HA
  clear HX
  go_loopw [6] (fun iv wr => ∃ k : Nat, k ≤ ws.length ∧ iv = .int .i64 k ∧ Hid (RpI w1 w.heap.size (refM ((ws.take k).map (·.data.toList))) wr)) (fun iv _ => ws.length - (RowKit.intOf iv).toNat)
  case atStart => exact ⟨0, Nat.zero_le _, rfl, hid ⟨HM.out.t T1.out, HR.out.t T1.out, Touch.refl _ _⟩⟩
  case round =>
    obtain ⟨k, hk, rfl, HI⟩ := hrel
    by_cases hlt : k < ws.length
    · have hlt2 : decide (k < ws.length) = true := by simpa using hlt
      have hI : (k : Int) < ws.length := by omega
      have h3000 : k < 3001 := by omega
      obtain ⟨b, off, rfl, hbb, g0⟩ := HA.out k hlt
      have g1 := cell_keep HI.out.t g0 (by have := HM.out.lt; simp; omega)
      have TS := hid (refM_take ws k hlt)
      have SE := hid (refStep_eq (refM ((ws.take k).map (·.data.toList))) ws[k].data.toList)
      have WZk := WZ.out ws[k] (List.getElem_mem hlt)
      generalize ws[k] = t at *
      have C0 : Hid (∀ W, Calls Tryd.prog 25 #[.string t, .string ⟨#[99, 111, 117, 110, 116, 61]⟩] W fun e w' => e = .returned (.tuple #[.int .i64 (partP t.data.toList cB).1, .bool (partP t.data.toList cB).2]) ∧ W = w') := hid fun W => CP.out t (txt cB) W (by omega) (by decide)
      have C1 : Hid (∀ W, Calls Tryd.prog 25 #[.string t, .string ⟨#[97, 103, 101, 61]⟩] W fun e w' => e = .returned (.tuple #[.int .i64 (partP t.data.toList aB).1, .bool (partP t.data.toList aB).2]) ∧ W = w') := hid fun W => CP.out t (txt aB) W (by omega) (by decide)
      have C2 : Hid (∀ W, Calls Tryd.prog 25 #[.string t, .string ⟨#[98, 101, 102, 111, 114, 101, 61]⟩] W fun e w' => e = .returned (.tuple #[.int .i64 (partP t.data.toList bB).1, .bool (partP t.data.toList bB).2]) ∧ W = w') := hid fun W => CP.out t (txt bB) W (by omega) (by decide)
      generalize partP t.data.toList cB = p0 at *
      generalize partP t.data.toList aB = p1 at *
      generalize partP t.data.toList bB = p2 at *
      generalize refM ((ws.take k).map (·.data.toList)) = m at *
      obtain ⟨v0, b0⟩ := p0
      obtain ⟨v1, b1⟩ := p1
      obtain ⟨v2, b2⟩ := p2
      dsimp only at *
      have TS2 := hid (TS.out.trans SE.out)
      obtain ⟨f0, f1, f2⟩ := HI.out.m.f
      obtain ⟨c0, c1, c2⟩ := HI.out.m.c
      clear TS SE g0 hbb CP HA WZ
      cases b0 <;> cases b1 <;> cases b2
      all_goals
        go_wp2_with fail
        refine (C0.out _).mono ?_
        rintro e w2 ⟨rfl, rfl⟩
        go_wp2_with fail
        refine (C1.out _).mono ?_
        rintro e w2 ⟨rfl, rfl⟩
        go_wp2_with fail
        refine (C2.out _).mono ?_
        rintro e w2 ⟨rfl, rfl⟩
        go_wp2
        go_roundw
        case measure => simp [RowKit.intOf]; omega
        case rel =>
          refine ⟨k + 1, by omega, by go_num, hid ?_⟩
          rw [TS2.out]
          first
            | exact HI.out
            | exact HI.out.set (k := 0) (by decide) _
            | exact HI.out.set (k := 1) (by decide) _
            | exact HI.out.set (k := 2) (by decide) _
            | exact (HI.out.set (k := 0) (by decide) _).set (k := 1) (by decide) _
            | exact (HI.out.set (k := 0) (by decide) _).set (k := 2) (by decide) _
            | exact (HI.out.set (k := 1) (by decide) _).set (k := 2) (by decide) _
            | exact ((HI.out.set (k := 0) (by decide) _).set (k := 1) (by decide) _).set (k := 2) (by decide) _
            | fail
    · obtain rfl : k = ws.length := by omega
      have hlt2 : decide (ws.length < ws.length) = false := by simp
      rw [List.take_length] at HI
      generalize refM (ws.map (·.data.toList)) = m at *
      have CM := hid (CT.out m wr)
      unfold metaV at CM
      obtain ⟨c0, c1, c2⟩ := HI.out.m.c
      have KD : Hid (∀ w3, Touch [] wr w3 → MetaB w3 (w.heap.size + 1) m ∧ MetaB w3 w.heap.size (0, 0, 0) ∧ Touch [] w w3) := hid fun w3 t =>
        ⟨HI.out.m.t t, HI.out.r.t t, ((TW.out.trans T1.out (by simp)).trans HI.out.t (by simp)).trans t (by simp)⟩
      clear CP CT CW WZ HA HI
      by_cases hok : okM m = true
      · have hv : textV m = .tuple #[.string (txt (textL m)), .int .i64 0] := by unfold textV; rw [if_pos hok]
        rw [hv] at CM
        by_cases hte : textL m = s.data.toList
        · rw [if_pos ⟨hok, hte⟩] at PR
          rw [hte, SL.out] at CM
          clear hv hok hte
          go_wp2_with (go_at_call 9; refine CM.out.mono ?_; rintro e w3 ⟨rfl, t3⟩; obtain ⟨km, kr, kt⟩ := KD.out _ t3; obtain ⟨g0, g1, g2⟩ := km.c; obtain ⟨z0, z1, z2⟩ := kr.c; obtain ⟨y0, y1, y2⟩ := kr.f; have K3 := hid (KD.out _ t3); clear km kr kt t3)
          obtain ⟨-, kr, kt⟩ := K3.out
          have A1 := kr.put m
          have KT : Touch [] w (((w3.setCell ⟨w.heap.size, 0, none⟩ (.int .i64 (m : MetaD).1)).setCell ⟨w.heap.size, 1, none⟩ (.int .i64 (m : MetaD).2.1)).setCell ⟨w.heap.size, 2, none⟩ (.int .i64 (m : MetaD).2.2)) := ((kt.setCell (.inr (by simp)) _).setCell (.inr (by simp)) _).setCell (.inr (by simp)) _
          revert A1 KT
          try dsimp only
          generalize (((w3.setCell ⟨w.heap.size, 0, none⟩ _).setCell ⟨w.heap.size, 1, none⟩ _).setCell ⟨w.heap.size, 2, none⟩ _) = W9
          intro A1 KT
          obtain ⟨x0, x1, x2⟩ := A1.c
          rw [PR.out]
          exact bodyPost_ret (v := .tuple #[metaV (m : MetaD).1 (m : MetaD).2.1 (m : MetaD).2.2, .int .i64 0]) (by simp [results, Tryd.results11, go_sem, x0, x1, x2, metaV]) rfl ⟨rfl, KT⟩
        · rw [if_neg (fun h => hte h.2)] at PR
          have n1 : ((txt (textL m)).toList == s.toList) = false := by
            rw [ByteArray.toList_eq, ByteArray.toList_eq, beq_eq_false_iff_ne]
            exact hte
          have n2 : (s.toList == (txt (textL m)).toList) = false := by
            rw [ByteArray.toList_eq, ByteArray.toList_eq, beq_eq_false_iff_ne]
            exact fun e => hte e.symm
          clear hv hok hte
          generalize txt (textL m) = tt at *
          go_wp2_with (go_at_call 9; refine CM.out.mono ?_; rintro e w3 ⟨rfl, t3⟩; obtain ⟨km, kr, kt⟩ := KD.out _ t3; obtain ⟨g0, g1, g2⟩ := km.c; obtain ⟨z0, z1, z2⟩ := kr.c; obtain ⟨y0, y1, y2⟩ := kr.f; have K3 := hid (KD.out _ t3); clear km kr kt t3)
          obtain ⟨-, kr, kt⟩ := K3.out
          have A1 := kr.put (0, 0, 0)
          have KT : Touch [] w (((w3.setCell ⟨w.heap.size, 0, none⟩ (.int .i64 ((0, 0, 0) : MetaD).1)).setCell ⟨w.heap.size, 1, none⟩ (.int .i64 ((0, 0, 0) : MetaD).2.1)).setCell ⟨w.heap.size, 2, none⟩ (.int .i64 ((0, 0, 0) : MetaD).2.2)) := ((kt.setCell (.inr (by simp)) _).setCell (.inr (by simp)) _).setCell (.inr (by simp)) _
          revert A1 KT
          try dsimp only
          generalize (((w3.setCell ⟨w.heap.size, 0, none⟩ _).setCell ⟨w.heap.size, 1, none⟩ _).setCell ⟨w.heap.size, 2, none⟩ _) = W9
          intro A1 KT
          obtain ⟨x0, x1, x2⟩ := A1.c
          rw [PR.out]
          exact bodyPost_ret (v := .tuple #[metaV ((0, 0, 0) : MetaD).1 ((0, 0, 0) : MetaD).2.1 ((0, 0, 0) : MetaD).2.2, .int .i64 6]) (by simp [results, Tryd.results11, go_sem, x0, x1, x2, metaV]) rfl ⟨rfl, KT⟩
      · rw [if_neg (fun h => hok h.1)] at PR
        have hv : textV m = .tuple #[.string ⟨#[]⟩, .int .i64 1] := by unfold textV; rw [if_neg hok]
        rw [hv] at CM
        clear hv hok
        go_wp2_with (go_at_call 9; refine CM.out.mono ?_; rintro e w3 ⟨rfl, t3⟩; obtain ⟨km, kr, kt⟩ := KD.out _ t3; obtain ⟨g0, g1, g2⟩ := km.c; obtain ⟨z0, z1, z2⟩ := kr.c; obtain ⟨y0, y1, y2⟩ := kr.f; have K3 := hid (KD.out _ t3); clear km kr kt t3)
        obtain ⟨-, kr, kt⟩ := K3.out
        have A1 := kr.put (0, 0, 0)
        have KT : Touch [] w (((w3.setCell ⟨w.heap.size, 0, none⟩ (.int .i64 ((0, 0, 0) : MetaD).1)).setCell ⟨w.heap.size, 1, none⟩ (.int .i64 ((0, 0, 0) : MetaD).2.1)).setCell ⟨w.heap.size, 2, none⟩ (.int .i64 ((0, 0, 0) : MetaD).2.2)) := ((kt.setCell (.inr (by simp)) _).setCell (.inr (by simp)) _).setCell (.inr (by simp)) _
        revert A1 KT
        try dsimp only
        generalize (((w3.setCell ⟨w.heap.size, 0, none⟩ _).setCell ⟨w.heap.size, 1, none⟩ _).setCell ⟨w.heap.size, 2, none⟩ _) = W9
        intro A1 KT
        obtain ⟨x0, x1, x2⟩ := A1.c
        rw [PR.out]
        exact bodyPost_ret (v := .tuple #[metaV ((0, 0, 0) : MetaD).1 ((0, 0, 0) : MetaD).2.1 ((0, 0, 0) : MetaD).2.2, .int .i64 6]) (by simp [results, Tryd.results11, go_sem, x0, x1, x2, metaV]) rfl ⟨rfl, KT⟩
end Go.Proofs.YtepbflcmghkieaaDoor
