/- The book: one more list; is each still what it was: Ints. -/
import Derived.Test.YtdjcpdlfapfmkaaBkIa
import Derived.Test.YtdjcpdlfapfmkaaHeld
namespace Go.Proofs.Ytdjcpdlfapfmkaa
set_option maxRecDepth 100000
open Go.RowKit Go.Lib Go.ChangeShapes Go.WideShapes

set_option maxHeartbeats 4000000 in
theorem putI1_any (kb base : Nat) (c : Cs) (vs us : List Value) (Ls : List (List Int)) (v : Value) (bv : Nat) (L : List Int) (W : World) (hB : BkBlk W kb c) (hge : base ≤ kb) (hK : Kept kdI W base (c 2) (c 3) vs us Ls) (hv : W.ownsRow bv TInt 1 v L.length (intV L)) (hbv : base ≤ bv) (hf : ∀ u ∈ vs ++ us, Far u v) (hn : Ls.length < 250) (hL : L.length ≤ 3100) (hb : base ≤ W.heap.size) :
    Calls Try.prog 20 #[.pointer (some ⟨kb, 0, none⟩), v] W fun e W' => e = .returned (.tuple #[]) ∧ Rest [TBook, TInts] W W' ∧ Newer W base W' ∧ W.heap.size ≤ W'.heap.size ∧ ∃ tv' wv' u, BkBlk W' kb (upd (upd c 2 tv') 3 wv') ∧ Kept kdI W' base tv' wv' (vs ++ [v]) (us ++ [u]) (Ls ++ [L]) ∧ (∀ k, u.ownBlock = some k → W.heap.size ≤ k) := by
  obtain ⟨i0, hi0, hz0, hz1, hz2⟩ := info_parts infoSSI
  obtain ⟨y1, c1, e1, hy1, hy1'⟩ := slice_form hK.own1
  obtain ⟨y2, c2, e2, hy2, hy2'⟩ := slice_form hK.own2
  obtain ⟨yv, cv, rfl, hyv, hyv'⟩ := slice_form hv
  have k0 := bk_cell hB 2 (by decide)
  have f0 := free_of hB 2
  have HB0 := hid hB
  have E1 := hid e1
  have E2 := hid e2
  rw [show c ⟨2, by decide⟩ = .slice y1 Ls.length c1 from e1] at k0
  have HK := hid hK
  have HV := hid hv
  have hnI : (Ls.length : Int) < 250 := by omega
  clear hK hv hB e1 e2
  have KO : Hid (W.ownsRow base TInts 1 (.slice y1 Ls.length c1) Ls.length vs) := hid (by have := HK.out.own1; rwa [E1.out] at this)
  have KO2 : Hid (W.ownsRow base TInts 1 (.slice y2 Ls.length c2) Ls.length us) := hid (by have := HK.out.own2; rwa [E2.out] at this)
  have KF : Hid (Far (.slice y1 Ls.length c1) (.slice y2 Ls.length c2)) := hid (by have := HK.out.far; rwa [E1.out, E2.out] at this)
  go_enter Try.func20, Try.ntmps20
  go_wp2_with (at_builtin; refine wpList_append_grew _ rfl (.tmp 14) (.tmp 16) TSSI rfl base TInts i0 nilS 1 24 Try.underlying29 hi0 hz0 hz1 hz2 rfl (by decide) (.slice y1 Ls.length c1) Ls.length vs rfl (KO.out.alloc _) (.slice (some ⟨W.heap.size, 0, none⟩) 1 1) 1 0 [.slice yv L.length cv] rfl (lit_one _ _ _ _ rfl) (by intro u hu; simp at hu; subst hu; rfl) (by omega) (by decide) (by simp; omega) ?_; intro y3 c3 w1 hG; (have b1 : BkBlk w1 kb c := hG.block (KO.out.alloc _) (heap_alloc_keep HB0.out _) (by decide)); (have k10 := bk_cell b1 2 (by decide)); (have f10 := free_of b1 2); have B1 := hid b1; have G := hid hG; clear hG b1 k0 f0)
  go_upto_region 2 with fail
  have OW : Hid (Rest [TBook, TInts] W (w1.setCell ⟨kb, 2, none⟩ (.slice y3 (Ls.length + 1) c3))) := hid (((Rest.touch ((Touch.refl [] W).alloc _)).trans (G.out.rest (KO.out.alloc _) (by simp))).trans (Rest.set B1.out 2 _ (by simp)))
  have O1 := hid (own_set_book B1.out G.out.own (by decide) 2 (.slice y3 (Ls.length + 1) c3))
  have O2 := hid (own_set_book B1.out (G.out.other KF.out (KO2.out.alloc _)) (by decide) 2 (.slice y3 (Ls.length + 1) c3))
  have F2 := hid (G.out.far KF.out (KO2.out.alloc _))
  have T2 : Hid (Newer W base (w1.setCell ⟨kb, 2, none⟩ (.slice y3 (Ls.length + 1) c3))) := hid ((((Newer.refl W base).touch ((Touch.refl [] W).alloc _)).grew G.out (KO.out.alloc _) (Nat.le_refl _)).set hge _)
  have hb2 : BkBlk (w1.setCell ⟨kb, 2, none⟩ (.slice y3 (Ls.length + 1) c3)) kb (upd c 2 (.slice y3 (Ls.length + 1) c3)) := bk_set B1.out 2 (by decide) _
  have ZW : Hid (W.heap.size ≤ (w1.setCell ⟨kb, 2, none⟩ (.slice y3 (Ls.length + 1) c3)).heap.size) := hid (by have := G.out.size; simp at this ⊢; omega)
  clear k10 f10 B1 G KO
  generalize w1.setCell ⟨kb, 2, none⟩ (.slice y3 (Ls.length + 1) c3) = w2 at *
  have B2 := hid hb2
  have C2 : Hid (∀ w, Touch [] w2 w → w.cell? ⟨kb, 3, none⟩ = some (.slice y2 Ls.length c2)) := hid fun w t => by
    have h := bk_cell (bk_touch B2.out t) 3 (by decide)
    rw [show upd c 2 (.slice y3 (Ls.length + 1) c3) ⟨3, by decide⟩ = .slice y2 Ls.length c2 from (upd_other c _ (by decide)).trans E2.out] at h
    exact h
  have k21 := C2.out _ (Touch.refl _ _)
  clear hb2
  have CT := hid (fun w (t : Touch [] w2 w) => copyI_any (.slice yv L.length cv) L.length bv L w (owns_touch (OW.out.row HV.out (by decide)) t) (by omega))
  have k2d : w2.drew.cell? ⟨kb, 3, none⟩ = some (.slice y2 Ls.length c2) := k21
  go_region_law (first
      | (refine step_call _ rfl (f := 45) (args := #[.slice yv L.length cv]) (by simp [go_sem, Act.eval]) (CT.out _ ((Touch.refl [] w2).drew)) ?_
         rintro e w3 ⟨u, rfl, hu, t3⟩
         obtain ⟨yu, cu, rfl, _, _⟩ := slice_form hu
         refine ⟨_, rfl, ?_⟩
         have T3 : Hid (Touch [] w2 w3) := hid (((Touch.refl [] w2).drew).trans t3 (by simp))
         have HU := hid hu
         have B3 : Hid (BkBlk w3 kb (upd c 2 (.slice y3 (Ls.length + 1) c3))) := hid (bk_touch B2.out T3.out)
         have k31 := C2.out _ T3.out
         have k32 := fun o : Obj => C2.out _ (T3.out.alloc o)
         clear hu t3)
      | (refine step_append_grew _ rfl (.tmp 24) (.tmp 27) TSSI rfl base TInts i0 nilS 1 24 Try.underlying29 hi0 hz0 hz1 hz2 rfl (by decide) (.slice y2 Ls.length c2) Ls.length us (by simp [Act.eval]) ((owns_touch O2.out T3.out).alloc _) ⟨w3.heap.size, 0, none⟩ 1 1 [.slice yu L.length cu] (by simp [Act.eval]) rfl (fun j x hj => (lit_one w3 (.slice yu L.length cu) TInts _ rfl).cells (g := w3.heap.size) rfl j x hj) (by intro x hx; simp at hx; subst hx; rfl) (by omega) (by decide) (by have := ZW.out; have := T3.out.size; simp; omega) ?_
         intro y4 c4 w4 hG4
         have B4 : Hid (BkBlk w4 kb (upd c 2 (.slice y3 (Ls.length + 1) c3))) := hid (hG4.block ((owns_touch O2.out T3.out).alloc _) (heap_alloc_keep B3.out _) (by decide))
         have G4 := hid hG4
         have k41 := bk_cell B4.out 3 (by decide)
         have f41 := free_of B4.out 3
         clear hG4))
  all_goals
    go_wp2
    go_end0
    have b5 : BkBlk (w4.setCell ⟨kb, 3, none⟩ (.slice y4 (Ls.length + 1) c4)) kb (upd (upd c 2 (.slice y3 (Ls.length + 1) c3)) 3 (.slice y4 (Ls.length + 1) c4)) := bk_set B4.out 3 (by decide) _
    have O2' := (owns_touch O2.out T3.out).alloc (.cells #[.slice yu L.length cu] TInts)
    have OW4 : Rest [TBook, TInts] W w4 := ((OW.out.trans (Rest.touch T3.out)).trans (Rest.touch ((Touch.refl [] w3).alloc (.cells #[.slice yu L.length cu] TInts)))).trans (G4.out.rest O2' (by simp))
    have OW5 : Rest [TBook, TInts] W (w4.setCell ⟨kb, 3, none⟩ (.slice y4 (Ls.length + 1) c4)) := OW4.trans (Rest.set B4.out 3 _ (by simp))
    have O1' := (owns_touch O1.out T3.out).alloc (.cells #[.slice yu L.length cu] TInts)
    have F4 : Far (.slice y4 (Ls.length + 1) c4) (.slice y3 (Ls.length + 1) c3) := G4.out.far F2.out.symm O1'
    have U5 := own_set_book B4.out (G4.out.other (far_types O2' (HU.out.alloc _) (by decide)) (HU.out.alloc _)) (by decide) 3 (.slice y4 (Ls.length + 1) c4)
    have hWs : W.heap.size ≤ w2.drew.heap.size := ZW.out
    have hBs : base ≤ w2.drew.heap.size := Nat.le_trans hb hWs
    have hlen : (Ls ++ [L]).length = Ls.length + 1 := by simp
    have hn1 := HK.out.n1
    have hn2 := HK.out.n2
    refine ⟨rfl, OW5, ((T2.out.touch (T3.out.alloc (.cells #[.slice yu L.length cu] TInts))).grew G4.out O2' (Nat.le_refl _)).set hge _, by have h1 := G4.out.size; have h2 := T3.out.size; have h3 := ZW.out; simp at h1 ⊢; omega, _, _, .slice yu L.length cu, b5, ⟨by simp [hn1], by simp [hn2], ?_, ?_, F4.symm, ?_, ?_, ?_, ?_, ?_⟩, fun k hk => Nat.le_trans hWs (U5.lt k hk).1⟩
    · rw [hlen]
      exact own_set_book B4.out (G4.out.other F2.out.symm O1') (by decide) 3 _
    · rw [hlen]
      exact own_set_book B4.out G4.out.own (by decide) 3 _
    · intro i h h1
      by_cases hi : i < Ls.length
      · have := OW5.row (HK.out.r1 i hi (by omega)) (by decide)
        simpa only [List.getElem_append_left hi, List.getElem_append_left (show i < vs.length by omega)] using this
      · obtain rfl : i = Ls.length := by rw [hlen] at h; omega
        have e1 : (vs ++ [Value.slice yv L.length cv])[Ls.length]'h1 = .slice yv L.length cv := by simp [← hn1]
        have e2 : (Ls ++ [L])[Ls.length]'h = L := by simp
        rw [e1, e2]
        exact own_up (OW5.row HV.out (by decide)) hbv
    · intro i h h1
      by_cases hi : i < Ls.length
      · have := OW5.row (HK.out.r2 i hi (by omega)) (by decide)
        simpa only [List.getElem_append_left hi, List.getElem_append_left (show i < us.length by omega)] using this
      · obtain rfl : i = Ls.length := by rw [hlen] at h; omega
        have e1 : (us ++ [Value.slice yu L.length cu])[Ls.length]'h1 = .slice yu L.length cu := by simp [← hn2]
        have e2 : (Ls ++ [L])[Ls.length]'h = L := by simp
        rw [e1, e2]
        exact own_up U5 hBs
    · refine pairwise_add HK.out.ap hf (fun x hx => ?_) (far_new HV.out U5 hWs)
      obtain ⟨n, xs, hr⟩ := HK.out.row x hx
      exact far_new hr U5 hWs
    · intro M hM
      rw [List.mem_append] at hM
      rcases hM with hM | hM
      · exact HK.out.sz M hM
      · simp at hM; subst hM; exact hL
    · rw [hlen]; omega

set_option maxHeartbeats 2000000 in
theorem stillI_any (kb base : Nat) (c : Cs) (vs us : List Value) (Ls : List (List Int)) (W : World) (hB : BkBlk W kb c) (hK : Kept kdI W base (c 2) (c 3) vs us Ls) :
    Calls Try.prog 49 #[.pointer (some ⟨kb, 0, none⟩)] W fun e W' => e = .returned (.bool true) ∧ Touch [] W W' := by
  obtain ⟨y1, c1, e1, hy1, hy1'⟩ := slice_form hK.own1
  obtain ⟨y2, c2, e2, hy2, hy2'⟩ := slice_form hK.own2
  have HK := hid hK
  have hn250 : (Ls.length : Int) ≤ 250 := by have := hK.few; omega
  have KO : Hid (W.ownsRow base TInts 1 (.slice y1 Ls.length c1) Ls.length vs) := hid (by have := hK.own1; rwa [e1] at this)
  have KO2 : Hid (W.ownsRow base TInts 1 (.slice y2 Ls.length c2) Ls.length us) := hid (by have := hK.own2; rwa [e2] at this)
  have CA : Hid (∀ w, Touch [] W w → w.cell? ⟨kb, 2, none⟩ = some (.slice y1 Ls.length c1) ∧ w.cell? ⟨kb, 3, none⟩ = some (.slice y2 Ls.length c2)) := hid fun w t => by
    have h0 := bk_cell (bk_touch hB t) 2 (by decide)
    have h1 := bk_cell (bk_touch hB t) 3 (by decide)
    rw [show c ⟨2, by decide⟩ = .slice y1 Ls.length c1 from e1] at h0
    rw [show c ⟨3, by decide⟩ = .slice y2 Ls.length c2 from e2] at h1
    exact ⟨h0, h1⟩
  clear hK hB e1 e2
  go_enter Try.func49, Try.ntmps49
  go_wp2
  go_loopw [3] (fun iv wr => ∃ k : Nat, k ≤ Ls.length ∧ iv = .int .i64 k ∧ Touch [] W wr) (fun iv _ => Ls.length - (RowKit.intOf iv).toNat)
  case atStart => exact ⟨0, Nat.zero_le _, rfl, Touch.refl _ _⟩
  case round =>
    obtain ⟨k, hk, rfl, ht⟩ := hrel
    have HT := hid ht
    obtain ⟨k0, -⟩ := CA.out _ ht
    clear ht
    by_cases hlt : k < Ls.length
    · have hl2 : decide (k < Ls.length) = true := by simpa using hlt
      have hkI : (k : Int) < Ls.length := by omega
      have hk0 : (0 : Int) ≤ k := by omega
      have hv1 : k < vs.length := by rw [HK.out.n1]; exact hlt
      have hv2 : k < us.length := by rw [HK.out.n2]; exact hlt
      obtain ⟨g1, q1, e1, a1, _⟩ := rows_at KO.out k hlt hv1
      obtain ⟨g2, q2, e2, a2, _⟩ := rows_at KO2.out k hlt hv2
      simp only [Value.slice.injEq, true_and] at e1 e2
      obtain ⟨rfl, rfl⟩ := e1
      obtain ⟨rfl, rfl⟩ := e2
      have hsz := (HK.out.sz Ls[k] (List.getElem_mem hlt))
      have ra := HK.out.r1 k hlt hv1
      have rb := HK.out.r2 k hlt hv2
      obtain ⟨ya, ca, ea, _, _⟩ := slice_form ra
      obtain ⟨yb, cb, eb, _, _⟩ := slice_form rb
      rw [ea] at a1 ra
      rw [eb] at a2 rb
      have ST := hid (fun (w : World) (t : Touch [] W w) => sameI_rows (owns_touch ra t) (owns_touch rb t) (by omega))
      clear ra rb ea eb hsz
      generalize Ls[k] = M at *
      go_upto_region 4 with fail
      obtain ⟨ι, f, ⟨θ0, hθ0⟩, inst, FT, FE⟩ := held_class wr
      have TT := hid fun θ => HT.out.trans (FT.out θ) (by simp)
      have F0 : ∀ θ, (f θ).cell? ⟨kb, 2, none⟩ = some (.slice (some ⟨g1, 0, none⟩) Ls.length c1) := fun θ => (CA.out _ (TT.out θ)).1
      have F1 : ∀ θ, (f θ).cell? ⟨kb, 3, none⟩ = some (.slice (some ⟨g2, 0, none⟩) Ls.length c2) := fun θ => (CA.out _ (TT.out θ)).2
      have F2 : ∀ θ, (f θ).cell? ⟨g1, k, none⟩ = some (.slice ya M.length ca) := fun θ => (TT.out θ).cell a1
      have F3 : ∀ θ, (f θ).cell? ⟨g2, k, none⟩ = some (.slice yb M.length cb) := fun θ => (TT.out θ).cell a2
      have FC : Hid (∀ θ, Calls Try.prog 26 #[.slice ya M.length ca, .slice yb M.length cb] (f θ) fun e w'' => e = .returned (.bool true) ∧ ∃ θ', w'' = f θ') := hid fun θ => (ST.out _ (TT.out θ)).mono fun e w'' ⟨he, h2⟩ => ⟨he, FE.out _ ((FT.out θ).trans h2 (by simp))⟩
      clear ST a1 a2 k0
      refine wp_region_held f θ0 (by kernel_rfl) (by kernel_rfl) hθ0 ?_
      repeat go_big_quiet_step (exact FC.out _)
      refine wpQuiet_nil ?_
      rintro _ ⟨θ, rfl⟩
      have T4 := hid (TT.out θ)
      go_wp2
      go_roundw
      case rel => exact ⟨k + 1, by omega, by go_num, T4.out⟩
      case measure => simp [RowKit.intOf]; omega
    · obtain rfl : k = Ls.length := by omega
      have hl2 : decide (Ls.length < Ls.length) = false := by simp
      clear hlt hk
      go_wp2
      go_ret
      exact ⟨rfl, HT.out⟩
end Go.Proofs.Ytdjcpdlfapfmkaa
