/- Remove, Rename. -/
import Derived.Test.YthibabfojndlkaaMe9
namespace Go.Proofs.Ythibabfojndlkaa
open Go.RowKit Go.Lib
set_option maxRecDepth 100000

theorem putF_len_le : ∀ (l : List Fl) (f : Fl), (putF l f).length ≤ l.length + 1
  | [], _ => by simp [putF]
  | a :: r, f => by
    have := putF_len_le r f
    rw [putF]
    split
    · simp; omega
    · split <;> simp
theorem after_drop {w w1 : World} {d : Nat} {k k1 : Dk} {own : List Nat} {nm : ByteArray} (hm : Left d own w k1 w1) (hk : k1.files = k.files) (he : placeE k nm = 0) :
    Calls Try.prog 44 #[.pointer (some ⟨d, 0, none⟩), .int .i64 (plc k.files nm : Nat)] w1 fun e w3 => e = .returned (.tuple #[]) ∧ Left d own w { k1 with files := dropF k.files nm } w3 := by
  obtain ⟨own1, rv1, kv1, L1, hD, hO, t, ho⟩ := left_out hm
  obtain ⟨x, b, c, hx, hxf, hxn, hp, hc, hl, g3, g4, -⟩ := fetch hD hk he
  refine (drop_any hD.cells hD.ok hp).mono ?_
  intro e w3 hr
  obtain ⟨rv', hD', t', ho'⟩ := drop_disk hD hr
  have hs : Sorted k.files := by rw [← hk]; exact hD.sorted
  refine ⟨hr.1, Left.trans t ho ?_⟩
  rw [drop_plc hs (place_some he).1]
  rw [hk] at hD'
  refine hD'.leaves (t'.mono (fun i hi => by simp at hi; subst hi; exact .inl (hO _ (by simp [ownOf])))) (fun i hi => ?_)
  have hsub : (L1.take (plc k.files nm) ++ L1.drop (plc k.files nm + 1)).Sublist L1 := by
    conv => rhs; rw [← List.take_append_drop (plc k.files nm) L1]
    exact List.Sublist.append_left (by rw [← List.drop_drop]; exact (List.drop_sublist 1 _)) _
  rcases mem_drop_own (rv := rv1) hsub hi with h1 | h1
  · exact .inr (ho' i h1)
  · exact .inl (hO i h1)

theorem after_ren {w w1 : World} {d : Nat} {k k1 : Dk} {own : List Nat} {nm : ByteArray} (hm : Left d own w k1 w1) (hk : k1.files = k.files) (he : placeE k nm = 0) :
    ∃ (n b c : Nat) (x : Px), w1.cell? ⟨d, 3, none⟩ = some (.slice (some ⟨b, 0, none⟩) n c) ∧ w1.cell? ⟨b, plc k.files nm, none⟩ = some (.pointer (some ⟨x.b, 0, none⟩)) ∧ plc k.files nm < n ∧ n ≤ c ∧ n ≤ 200 ∧ FileAt w1 x ∧ x.f = fileD k nm ∧
      (∀ (f' : Fl) (y : Px) (w2 : World), y.f = f' → FileAt w2 y → (∀ q ∈ y.own, q ∈ x.mut ∨ w1.heap.size ≤ q) → Touch [] w1 w2 →
        Calls Try.prog 44 #[.pointer (some ⟨d, 0, none⟩), .int .i64 (plc k.files nm : Nat)] w2 fun e w3 => e = .returned (.tuple #[]) ∧
          Calls Try.prog 38 #[.pointer (some ⟨d, 0, none⟩), .pointer (some ⟨y.b, 0, none⟩)] w3 fun e w4 => e = .returned (.tuple #[]) ∧ Left d own w { k1 with files := putF (dropF k.files nm) f' } w4) := by
  obtain ⟨own1, rv1, kv1, L1, hD, hO, t, ho⟩ := left_out hm
  obtain ⟨x, b, c, hx, hxf, hxn, hp, hc, hl, g3, g4, hLx⟩ := fetch hD hk he
  refine ⟨L1.length, b, c, x, g3, g4, hp, hc, hl, hD.each x hx, hxf, ?_⟩
  intro f' y w2 hy hfy hb t2
  have hD2 := hD.touch t2 (by simp)
  refine (drop_any hD2.cells hD2.ok hp).mono ?_
  intro e w3 hr
  obtain ⟨rv', hD3, t3, ho3⟩ := drop_disk hD2 hr
  have hs : Sorted k.files := by rw [← hk]; exact hD.sorted
  refine ⟨hr.1, ?_⟩
  have hsub : (L1.take (plc k.files nm) ++ L1.drop (plc k.files nm + 1)).Sublist L1 := by
    conv => rhs; rw [← List.take_append_drop (plc k.files nm) L1]
    exact List.Sublist.append_left (by rw [← List.drop_drop]; exact (List.drop_sublist 1 _)) _
  have hap : ∀ z ∈ L1.take (plc k.files nm) ++ L1.drop (plc k.files nm + 1), ∀ i ∈ x.own, i ∉ z.own := by
    intro z hz i hi hiz
    have hx0 : L1[plc k.files nm] = x := by
      rw [List.getElem?_eq_getElem hp] at hLx
      simpa using hLx
    rcases List.mem_append.1 hz with h1 | h1
    · obtain ⟨j, hj, rfl⟩ := List.getElem_of_mem h1
      simp only [List.length_take] at hj
      rw [List.getElem_take] at hiz
      refine List.pairwise_iff_getElem.1 hD.apart j (plc k.files nm) (by omega) hp (by omega) i hiz ?_
      rw [hx0]; exact hi
    · obtain ⟨j, hj, rfl⟩ := List.getElem_of_mem h1
      simp only [List.length_drop] at hj
      rw [List.getElem_drop] at hiz
      refine List.pairwise_iff_getElem.1 hD.apart (plc k.files nm) (plc k.files nm + 1 + j) hp (by omega) (by omega) i ?_ hiz
      rw [hx0]; exact hi
  have hfy3 : FileAt w3 y := hfy.touch t3 (fun i hi => by simpa using own_ne_disk hD2.cells hfy i hi)
  have hA : Ahead w3 d _ rv' kv1 _ (own1 ++ (y.own ++ rv'.ownBlock.toList)) [] y w3 := ⟨hD3, fun i hi => by
      rcases mem_drop_own (rv := rv1) hsub hi with h1 | h1
      · simp [Option.mem_toList.1 h1]
      · simp [hO i h1], hfy3, Touch.refl _ _, by simp, fun q hq => .inr ⟨by simp [hq], fun z hz _ hqz => by
        rcases hb q hq with h1 | h1
        · exact hap z hz q (mut_own h1) hqz
        · have := (hD.each z (hsub.subset hz)).lt q hqz; omega⟩⟩
  obtain ⟨q1, q2, q3⟩ := hA.ok
  refine (put_any q1 q2 q3).mono ?_
  intro e w4 hr4
  refine ⟨hr4.1, ?_⟩
  have hdl := drop_plc hs (place_some he).1
  have hkl : k.files.length = L1.length := by rw [← hk, ← hD.files, List.length_map]
  have hpl : plc k.files nm < k.files.length := by omega
  have hl4 : (putF (k1.files.take (plc k.files nm) ++ k1.files.drop (plc k.files nm + 1)) y.f).length ≤ 200 := by
    have h1 := putF_len_le (k1.files.take (plc k.files nm) ++ k1.files.drop (plc k.files nm + 1)) y.f
    have h2 := hD.many
    rw [hk] at h1 h2 ⊢
    simp only [List.length_append, List.length_take, List.length_drop] at h1
    omega
  have hL := hA.put hr4 hl4
  have : Left d (own1 ++ (y.own ++ rv'.ownBlock.toList)) w3 { k1 with files := putF (dropF k.files nm) f' } w4 := by
    rw [hk, hy] at hL
    rw [hdl]
    exact hL
  refine Left.trans (own1 := own1 ++ (y.own ++ rv'.ownBlock.toList)) ?_ ?_ this
  · refine (t.trans (t2.mono (G := own1) (by simp)) ho).trans t3 (fun i hi => ?_)
    simp at hi; subst hi
    exact ho _ (hO _ (by simp [ownOf]))
  · intro i hi
    rcases List.mem_append.1 hi with h1 | h1
    · exact ho i h1
    · rcases List.mem_append.1 h1 with h1 | h1
      · rcases hb i h1 with h2 | h2
        · exact ho i (hO i (mem_own.2 (.inr (.inr (.inr ⟨x, hx, mut_own h2⟩)))))
        · exact .inr (Nat.le_trans t.size h2)
      · exact .inr (Nat.le_trans t.size (Nat.le_trans t2.size (ho3 i h1)))

theorem refuse_len {k : Dk} {nm : ByteArray} (h : refuse k nm = 0) : nm.size ≤ 40 := by
  unfold refuse at h
  split at h
  · split at h
    · omega
    · omega
  · omega
set_option maxHeartbeats 2000000 in
theorem remove_any {w : World} {d : Nat} {k : Dk} {own : List Nat} (h : Fit w d k own) (nm : ByteArray) :
    Calls Try.prog 19 #[ptr d, .string nm] w fun e w' => e = .returned (.int .i64 (removeD k nm).1) ∧ Left d own w (removeD k nm).2 w' := by
  have h0 := h.disk
  have CG := hid (goes_any h.disk h.keep h.used)
  obtain ⟨rv, kv, L, hD, hO, hB⟩ := h.disk
  have CP := hid (place_any hD nm)
  have hsame := hid (Left.same h0 (Touch.refl [] w))
  unfold removeD
  by_cases hP : placeE k nm = 0
  rotate_left
  · rw [if_pos hP]
    unfold ptr at CP ⊢
    generalize Left d own w k = M at *
    simp only []
    generalize placeE k nm = E at *
    clear h h0 CG hD hO hB
    go_enter Try.func19, Try.ntmps19
    go_wp2_with (go_at_call 33; with_reducible refine CP.out.mono ?_; rintro e w1 ⟨rfl, rfl⟩)
    go_ret
    exact ⟨rfl, hsame.out⟩
  rw [if_neg (by simpa using hP)]
  have hPP : placeP k nm = plc k.files nm := by unfold placeP; rw [if_pos hP]
  rw [hP, hPP] at CP
  by_cases hG : (goesD k).1 = 0
  rotate_left
  · rw [if_pos hG]
    unfold ptr at CP CG ⊢
    generalize Left d own w (goesD k).2 = M at *
    generalize (goesD k).1 = E at *
    generalize plc k.files nm = p at *
    clear h h0 hD hO hB hsame hPP hP
    go_enter Try.func19, Try.ntmps19
    go_wp2_with (first
      | (go_at_call 33; with_reducible refine CP.out.mono ?_; rintro e w1 ⟨rfl, rfl⟩)
      | (go_at_call 40; with_reducible refine CG.out.mono ?_; rintro e w2 ⟨rfl, hm⟩; have HM := hid hm; clear hm))
    go_ret
    exact ⟨rfl, HM.out⟩
  rw [if_neg (by simpa using hG)]
  rw [hG] at CG
  obtain ⟨gf, -⟩ := goes_files hG
  have hAG := hid fun (w1 : World) (hm : Left d own w (goesD k).2 w1) => after_drop (nm := nm) hm gf hP
  clear hsame h h0 hD hO hB
  unfold ptr at CP CG ⊢
  generalize plc k.files nm = p at *
  go_enter Try.func19, Try.ntmps19
  go_wp2_with (first
    | (go_at_call 33; with_reducible refine CP.out.mono ?_; rintro e w1 ⟨rfl, rfl⟩)
    | (go_at_call 40; with_reducible refine CG.out.mono ?_; rintro e w2 ⟨rfl, hm⟩; have HP := hid (hAG.out _ hm); clear hm)
    | (go_at_call 44; with_reducible refine HP.out.mono ?_; rintro e w4 ⟨rfl, hm4⟩; have HM4 := hid hm4; clear hm4))
  go_ret
  exact ⟨rfl, HM4.out⟩

set_option maxHeartbeats 2000000 in
theorem rename_any {w : World} {d : Nat} {k : Dk} {own : List Nat} (h : Fit w d k own) (nm nt : ByteArray) :
    Calls Try.prog 18 #[ptr d, .string nm, .string nt] w fun e w' => e = .returned (.int .i64 (renameD k nm nt).1) ∧ Left d own w (renameD k nm nt).2 w' := by
  have h0 := h.disk
  have CG := hid (goes_any h.disk h.keep h.used)
  obtain ⟨rv, kv, L, hD, hO, hB⟩ := h.disk
  have CP := hid (place_any hD nm)
  have CR := hid (refuses_any hD.cells nt)
  have hsame := hid (Left.same h0 (Touch.refl [] w))
  unfold renameD
  by_cases hR : refuse k nt = 0
  rotate_left
  · rw [if_pos hR]
    unfold ptr at CR ⊢
    generalize Left d own w k = M at *
    simp only []
    generalize refuse k nt = E at *
    clear h h0 CG hD hO hB CP
    go_enter Try.func18, Try.ntmps18
    go_wp2_with (go_at_call 35; with_reducible refine CR.out.mono ?_; rintro e w1 ⟨rfl, rfl⟩)
    go_ret
    exact ⟨rfl, hsame.out⟩
  rw [if_neg (by simpa using hR)]
  have hnt := hid (refuse_len hR)
  rw [hR] at CR
  clear hR
  by_cases hP : placeE k nm = 0
  rotate_left
  · rw [if_pos hP]
    unfold ptr at CP CR ⊢
    generalize Left d own w k = M at *
    simp only []
    generalize placeE k nm = E at *
    clear h h0 CG hD hO hB
    go_enter Try.func18, Try.ntmps18
    go_wp2_with (first | (go_at_call 35; with_reducible refine CR.out.mono ?_; rintro e w0 ⟨rfl, rfl⟩) | (go_at_call 33; with_reducible refine CP.out.mono ?_; rintro e w1 ⟨rfl, rfl⟩))
    go_ret
    exact ⟨rfl, hsame.out⟩
  rw [if_neg (by simpa using hP)]
  have hPP : placeP k nm = plc k.files nm := by unfold placeP; rw [if_pos hP]
  rw [hP, hPP] at CP
  by_cases hG : (goesD k).1 = 0
  rotate_left
  · rw [if_pos hG]
    unfold ptr at CP CG CR ⊢
    generalize Left d own w (goesD k).2 = M at *
    generalize (goesD k).1 = E at *
    generalize plc k.files nm = p at *
    clear h h0 hD hO hB hsame hPP hP
    go_enter Try.func18, Try.ntmps18
    go_wp2_with (first
      | (go_at_call 35; with_reducible refine CR.out.mono ?_; rintro e w0 ⟨rfl, rfl⟩)
      | (go_at_call 33; with_reducible refine CP.out.mono ?_; rintro e w1 ⟨rfl, rfl⟩)
      | (go_at_call 40; with_reducible refine CG.out.mono ?_; rintro e w2 ⟨rfl, hm⟩; have HM := hid hm; clear hm))
    go_ret
    exact ⟨rfl, HM.out⟩
  rw [if_neg (by simpa using hG)]
  rw [hG] at CG
  obtain ⟨gf, -⟩ := goes_files hG
  have hAG := hid fun (w1 : World) (hm : Left d own w (goesD k).2 w1) => after_ren (nm := nm) hm gf hP
  clear hsame h h0 hD hO hB
  unfold ptr at CP CG CR ⊢
  generalize plc k.files nm = p at *
  go_enter Try.func18, Try.ntmps18
  go_wp2_with (first
    | (go_at_call 35; with_reducible refine CR.out.mono ?_; rintro e w0 ⟨rfl, rfl⟩)
    | (go_at_call 33; with_reducible refine CP.out.mono ?_; rintro e w1 ⟨rfl, rfl⟩)
    | (go_at_call 40; with_reducible refine CG.out.mono ?_; rintro e w2 ⟨rfl, hm⟩; obtain ⟨n, b, c, x, g3, g4, hpn, hnc, hn2, hfx, hxf, hput⟩ := hAG.out _ hm; have HP := hid hput; have CL := hid (named_any hfx nt hnt.out); unfold ptr at CL; have HX := hid (And.intro hfx hxf); clear hm hput hfx hxf)
    | (go_at_call 43; with_reducible refine CL.out.mono ?_; intro e w3 hh; obtain ⟨y, hyf, he, hfy, hyb, hyo, ty⟩ := made_out hh; unfold ptr at he; subst he; have CT := hid (HP.out (namedF x.f nt) y w3 hyf hfy hyo ty); clear hyf hfy hyb hyo ty)
    | (go_at_call 44; with_reducible refine CT.out.mono ?_; rintro e w4 ⟨rfl, hm4⟩; have CU := hid hm4; clear hm4)
    | (go_at_call 38; with_reducible refine CU.out.mono ?_; rintro e w5 ⟨rfl, hm5⟩; have HM5 := hid hm5; clear hm5))
  go_ret
  refine ⟨rfl, ?_⟩
  have := HM5.out
  rw [HX.out.2] at this
  exact this
end Go.Proofs.Ythibabfojndlkaa
