/- Sync, Truncate, Remove, Rename. -/
import Derived.Test.YthibabfojndlkaaIns9
namespace Go.Proofs.Ythibabfojndlkaa
open Go.RowKit Go.Lib
set_option maxRecDepth 100000

theorem goes_files {k : Dk} (h : (goesD k).1 = 0) : (goesD k).2.files = k.files ∧ (goesD k).2.keep = k.keep := by
  unfold goesD at *
  split at h
  · split at h
    · simp_all
    · simp at h
  · simp_all

/-- What a contract of a change is told of. -/
structure Fit (w : World) (d : Nat) (k : Dk) (own : List Nat) : Prop where
  disk : Dsk w d k own
  keep : k.keep.length ≤ 1000000
  used : used k.files ≤ 70368744177664

theorem made_ahead {w w1 : World} {d : Nat} {k : Dk} {rv kv : Value} {L : List Px} {own F : List Nat} {x y : Px} (hD : DiskIs w d k rv kv L) (hO : ∀ i ∈ ownOf d rv kv L, i ∈ own) (hx : x ∈ L) (hn : cmpN x.f.name y.f.name = 0)
    (hy : FileAt w1 y) (t : Touch F w w1) (hF : ∀ i ∈ F, i ∈ x.mut) (hb : ∀ b ∈ y.own, b ∈ x.mut ∨ w.heap.size ≤ b) : Ahead w d k rv kv L own F y w1 :=
  ⟨hD, hO, hy, t, fun i hi => ⟨x, hx, hn, hF i hi⟩, fun b hb' => by
    rcases hb b hb' with h1 | h1
    · exact .inr ⟨hO b (mem_own.2 (.inr (.inr (.inr ⟨x, hx, mut_own h1⟩)))), fun z hz hz0 => apart_of hD.apart hx hz hn hz0 b (mut_own h1)⟩
    · exact .inl h1⟩
theorem put_same_len {l : List Fl} {f : Fl} {nm : ByteArray} (hs : Sorted l) (h : (getF l nm).isSome) (hn : f.name = nm) : (putF l f).length = l.length := by
  subst hn
  rw [put_plc hs, if_pos h]
  have : plc l f.name < l.length := by
    have h3 := find_plc (nm := f.name) hs
    rcases Nat.lt_or_ge (plc l f.name) l.length with h5 | h5
    · exact h5
    · rw [List.getElem?_eq_none h5] at h3
      rw [h3] at h
      cases h
  simp; omega
theorem place_some {k : Dk} {nm : ByteArray} (he : placeE k nm = 0) : (getF k.files nm).isSome ∧ getF k.files nm = some (fileD k nm) := by
  unfold placeE at he
  split at he
  · rename_i h1; exact absurd he h1
  · split at he
    · omega
    · rename_i h2
      obtain ⟨f, hf⟩ := Option.ne_none_iff_exists'.1 h2
      rw [fileD, hf]
      exact ⟨rfl, rfl⟩

theorem lastF_name (f : Fl) : (lastF f).name = f.name := rfl
theorem cutF_name (f : Fl) (n : Nat) : (cutF f n).name = f.name := rfl
theorem nil_mem {P : Nat → Prop} : ∀ i ∈ ([] : List Nat), P i := by simp
/-- Behind goes: the file that is loaded, and what put leaves. -/
theorem after_goes {w w1 : World} {d : Nat} {k k1 : Dk} {own : List Nat} {nm : ByteArray} (hm : Left d own w k1 w1) (hk : k1.files = k.files) (he : placeE k nm = 0) :
    ∃ (n b c : Nat) (x : Px), w1.cell? ⟨d, 3, none⟩ = some (.slice (some ⟨b, 0, none⟩) n c) ∧ w1.cell? ⟨b, plc k.files nm, none⟩ = some (.pointer (some ⟨x.b, 0, none⟩)) ∧ plc k.files nm < n ∧ n ≤ c ∧ n ≤ 200 ∧ FileAt w1 x ∧ x.f = fileD k nm ∧
      (∀ (f' : Fl) (F : List Nat) (y : Px) (w2 : World), f'.name = x.f.name → (∀ i ∈ F, i ∈ x.mut) → y.f = f' → FileAt w2 y → (∀ q ∈ y.own, q ∈ x.mut ∨ w1.heap.size ≤ q) → Touch F w1 w2 →
        Calls Try.prog 38 #[.pointer (some ⟨d, 0, none⟩), .pointer (some ⟨y.b, 0, none⟩)] w2 fun e w3 => e = .returned (.tuple #[]) ∧ Left d own w { k1 with files := putF k.files f' } w3) := by
  obtain ⟨own1, rv1, kv1, L1, hD, hO, t, ho⟩ := left_out hm
  obtain ⟨x, b, c, hx, hxf, hxn, hp, hc, hl, g3, g4, -⟩ := fetch hD hk he
  refine ⟨L1.length, b, c, x, g3, g4, hp, hc, hl, hD.each x hx, hxf, ?_⟩
  intro f' F y w2 hn hF hy hfy hb t2
  have hyn : cmpN x.f.name y.f.name = 0 := by rw [hy, hn]; exact cmpN_self _
  have hA := made_ahead hD hO hx hyn hfy t2 hF hb
  obtain ⟨q1, q2, q3⟩ := hA.ok
  refine (put_any q1 q2 q3).mono ?_
  intro e w3 hr
  refine ⟨hr.1, Left.trans t ho ?_⟩
  have hs : Sorted k.files := by rw [← hk]; exact hD.sorted
  have hlen : (putF k1.files y.f).length ≤ 200 := by
    rw [hk, put_same_len hs (place_some he).1 (by rw [hy, hn]; exact cmpN_eq hxn)]
    rw [← hk]; exact hD.many
  have := hA.put hr hlen
  rw [hy, hk] at this
  exact this
theorem drop_disk {w w' : World} {d : Nat} {k : Dk} {rv kv : Value} {L : List Px} {p : Nat} {e : Ending} (h : DiskIs w d k rv kv L) (hr : RowPost d k kv (L.take p ++ L.drop (p + 1)) w e w') :
    ∃ rv', DiskIs w' d { k with files := k.files.take p ++ k.files.drop (p + 1) } rv' kv (L.take p ++ L.drop (p + 1)) ∧ Touch [d] w w' ∧ ∀ i ∈ rv'.ownBlock.toList, w.heap.size ≤ i := by
  obtain ⟨-, rv', d2, hrow, ho, t2⟩ := hr
  have hsub : (L.take p ++ L.drop (p + 1)).Sublist L := by
    conv => rhs; rw [← List.take_append_drop p L]
    exact List.Sublist.append_left (by rw [show p + 1 = p + 1 from rfl, ← List.drop_drop]; exact (List.drop_sublist 1 _)) _
  have hf : (L.take p ++ L.drop (p + 1)).map (·.f) = k.files.take p ++ k.files.drop (p + 1) := by rw [← h.files]; simp [List.map_take, List.map_drop]
  have hsubf : (k.files.take p ++ k.files.drop (p + 1)).Sublist k.files := by rw [← hf, ← h.files]; exact hsub.map _
  refine ⟨rv', ⟨d2, hrow, hf, fun x hx => (h.each x (hsub.subset hx)).touch t2 (fun i hi => by simpa using own_ne_disk h.cells (h.each x (hsub.subset hx)) i hi), h.apart.sublist hsub, own_touch h.keep t2 (fun i hi => by simpa using row_ne_disk h.cells h.keep (by decide) i hi), List.Pairwise.sublist hsubf h.sorted, Nat.le_trans hsubf.length_le h.many, h.left⟩, t2, ho⟩
theorem mem_drop_own {d : Nat} {rv rv' kv : Value} {L L' : List Px} {i : Nat} (hs : L'.Sublist L) (h : i ∈ ownOf d rv' kv L') : i ∈ rv'.ownBlock.toList ∨ i ∈ ownOf d rv kv L := by
  rcases mem_own.1 h with h | h | h | ⟨x, hx, h⟩
  · exact .inr (mem_own.2 (.inl h))
  · exact .inl h
  · exact .inr (mem_own.2 (.inr (.inr (.inl h))))
  · exact .inr (mem_own.2 (.inr (.inr (.inr ⟨x, hs.subset hx, h⟩))))

set_option maxHeartbeats 2000000 in
theorem sync_any {w : World} {d : Nat} {k : Dk} {own : List Nat} (h : Fit w d k own) (nm : ByteArray) :
    Calls Try.prog 16 #[ptr d, .string nm] w fun e w' => e = .returned (.int .i64 (syncD k nm).1) ∧ Left d own w (syncD k nm).2 w' := by
  have h0 := h.disk
  have CG := hid (goes_any h.disk h.keep h.used)
  obtain ⟨rv, kv, L, hD, hO, hB⟩ := h.disk
  have CP := hid (place_any hD nm)
  have hsame := hid (Left.same h0 (Touch.refl [] w))
  unfold syncD
  by_cases hP : placeE k nm = 0
  rotate_left
  · rw [if_pos hP]
    unfold ptr at CP ⊢
    generalize Left d own w k = M at *
    simp only []
    generalize placeE k nm = E at *
    clear h h0 CG hD hO hB
    go_enter Try.func16, Try.ntmps16
    go_wp2_with (go_at_call 33; with_reducible refine CP.out.mono ?_; rintro e w1 ⟨rfl, rfl⟩)
    go_ret
    exact ⟨rfl, hsame.out⟩
  rw [if_neg (by simpa using hP)]
  have hPP : placeP k nm = plc k.files nm := by unfold placeP; rw [if_pos hP]
  rw [hP, hPP] at CP
  by_cases hG : (goesD k).1 = 0
  rotate_left
  · rw [if_pos hG]
    unfold ptr at CP CG ⊢
    generalize Left d own w (goesD k).2 = M at *
    generalize (goesD k).1 = E at *
    generalize plc k.files nm = p at *
    clear h h0 hD hO hB hsame hPP hP
    go_enter Try.func16, Try.ntmps16
    go_wp2_with (first
      | (go_at_call 33; with_reducible refine CP.out.mono ?_; rintro e w1 ⟨rfl, rfl⟩)
      | (go_at_call 40; with_reducible refine CG.out.mono ?_; rintro e w2 ⟨rfl, hm⟩; have HM := hid hm; clear hm))
    go_ret
    exact ⟨rfl, HM.out⟩
  rw [if_neg (by simpa using hG)]
  rw [hG] at CG
  obtain ⟨gf, -⟩ := goes_files hG
  have hAG := hid fun (w1 : World) (hm : Left d own w (goesD k).2 w1) => after_goes (nm := nm) hm gf hP
  clear hsame h h0 hD hO hB
  have hp200 : plc k.files nm ≤ plc k.files nm := Nat.le_refl _
  unfold ptr at CP CG ⊢
  generalize plc k.files nm = p at *
  go_enter Try.func16, Try.ntmps16
  go_wp2_with (first
    | (go_at_call 33; with_reducible refine CP.out.mono ?_; rintro e w1 ⟨rfl, rfl⟩)
    | (go_at_call 40; with_reducible refine CG.out.mono ?_; rintro e w2 ⟨rfl, hm⟩; obtain ⟨n, b, c, x, g3, g4, hpn, hnc, hn2, hfx, hxf, hput⟩ := hAG.out _ hm; have HP := hid hput; have CL := hid (lasting_any hfx); unfold ptr at CL; have HX := hid (And.intro hfx hxf); clear hm hput hfx hxf)
    | (go_at_call 41; with_reducible refine CL.out.mono ?_; intro e w3 hh; obtain ⟨y, hyf, he, hfy, hyb, hyo, ty⟩ := made_out hh; unfold ptr at he; subst he; have CT := hid (HP.out (lastF x.f) [] y w3 (lastF_name _) nil_mem hyf hfy hyo ty); clear hyf hfy hyb hyo ty)
    | (go_at_call 38; with_reducible refine CT.out.mono ?_; rintro e w4 ⟨rfl, hm4⟩; have HM4 := hid hm4; clear hm4))
  go_ret
  refine ⟨rfl, ?_⟩
  have := HM4.out
  rw [HX.out.2] at this
  exact this

set_option maxHeartbeats 2000000 in
theorem trunc_any {w : World} {d : Nat} {k : Dk} {own : List Nat} (h : Fit w d k own) (nm : ByteArray) (m : Int) :
    Calls Try.prog 17 #[ptr d, .string nm, .int .i64 m] w fun e w' => e = .returned (.int .i64 (truncD k nm m).1) ∧ Left d own w (truncD k nm m).2 w' := by
  have h0 := h.disk
  have CG := hid (goes_any h.disk h.keep h.used)
  obtain ⟨rv, kv, L, hD, hO, hB⟩ := h.disk
  have CP := hid (place_any hD nm)
  have hsame := hid (Left.same h0 (Touch.refl [] w))
  unfold truncD
  by_cases hP : placeE k nm = 0
  rotate_left
  · rw [if_pos hP]
    unfold ptr at CP ⊢
    generalize Left d own w k = M at *
    simp only []
    generalize placeE k nm = E at *
    clear h h0 CG hD hO hB
    go_enter Try.func17, Try.ntmps17
    go_wp2_with (go_at_call 33; with_reducible refine CP.out.mono ?_; rintro e w1 ⟨rfl, rfl⟩)
    go_ret
    exact ⟨rfl, hsame.out⟩
  rw [if_neg (by simpa using hP)]
  have hPP : placeP k nm = plc k.files nm := by unfold placeP; rw [if_pos hP]
  rw [hP, hPP] at CP
  obtain ⟨x0, b0, c0, hx0, hxf0, hxn0, hp0, hc0, hl0, g3, g4, -⟩ := fetch hD rfl hP
  have g5 := (head_cells (hD.each x0 hx0).head).2.2.1
  have hsm0 := (hD.each x0 hx0).small
  rw [hxf0] at g5 hsm0
  by_cases hR : m < 0 ∨ ((fileD k nm).data.size : Int) < m
  · rw [if_pos hR]
    unfold ptr at CP ⊢
    generalize Left d own w k = M at *
    generalize (fileD k nm).data.size = sz at *
    generalize plc k.files nm = p at *
    generalize L.length = n at *
    generalize x0.b = xb at *
    clear h h0 hD hO hB hPP hP CG hx0 hxf0 hxn0
    by_cases hm0 : m < 0
    · have q1 : decide (m < 0) = true := by simpa using hm0
      clear hR
      go_enter Try.func17, Try.ntmps17
      go_wp2_with (go_at_call 33; with_reducible refine CP.out.mono ?_; rintro e w1 ⟨rfl, rfl⟩)
      go_ret
      exact ⟨rfl, hsame.out⟩
    · have q0 : decide (m < 0) = false := by simpa using hm0
      have q1 : decide ((sz : Int) < m) = true := by rw [decide_eq_true_eq]; omega
      have q2 : (sz : Int) < m := by omega
      clear hR
      go_enter Try.func17, Try.ntmps17
      go_wp2_with (go_at_call 33; with_reducible refine CP.out.mono ?_; rintro e w1 ⟨rfl, rfl⟩)
      go_ret
      exact ⟨rfl, hsame.out⟩
  rw [if_neg hR]
  obtain ⟨mm, rfl⟩ : ∃ mm : Nat, m = mm := ⟨m.toNat, by omega⟩
  have hmm : mm ≤ (fileD k nm).data.size := by omega
  have hmm2 := hid hmm
  have r0 : decide ((mm : Int) < 0) = false := by rw [decide_eq_false_iff_not]; omega
  have r1 : decide (((fileD k nm).data.size : Int) < (mm : Int)) = false := by rw [decide_eq_false_iff_not]; omega
  have r2 : decide ((fileD k nm).data.size < mm) = false := by rw [decide_eq_false_iff_not]; omega
  rw [Int.toNat_natCast]
  generalize hsz : (fileD k nm).data.size = sz at g5 r1 r2 hsm0 hmm
  generalize hLn : L.length = Ln at *
  generalize x0.b = xb at *
  clear hR hx0 hxf0 hxn0
  by_cases hG : (goesD k).1 = 0
  rotate_left
  · rw [if_pos hG]
    unfold ptr at CP CG ⊢
    generalize Left d own w (goesD k).2 = M at *
    generalize (goesD k).1 = E at *
    generalize plc k.files nm = p at *
    clear h h0 hD hO hB hsame hPP hP
    go_enter Try.func17, Try.ntmps17
    go_wp2_with (first
      | (go_at_call 33; with_reducible refine CP.out.mono ?_; rintro e w1 ⟨rfl, rfl⟩)
      | (go_at_call 40; with_reducible refine CG.out.mono ?_; rintro e w2 ⟨rfl, hm⟩; have HM := hid hm; clear hm))
    go_ret
    exact ⟨rfl, HM.out⟩
  rw [if_neg (by simpa using hG)]
  rw [hG] at CG
  obtain ⟨gf, -⟩ := goes_files hG
  have hAG := hid fun (w1 : World) (hm : Left d own w (goesD k).2 w1) => after_goes (nm := nm) hm gf hP
  clear hsame h h0 hD hO hB
  have hp200 : plc k.files nm ≤ plc k.files nm := Nat.le_refl _
  unfold ptr at CP CG ⊢
  generalize plc k.files nm = p at *
  go_enter Try.func17, Try.ntmps17
  go_wp2_with (first
    | (go_at_call 33; with_reducible refine CP.out.mono ?_; rintro e w1 ⟨rfl, rfl⟩)
    | (go_at_call 40; with_reducible refine CG.out.mono ?_; rintro e w2 ⟨rfl, hm⟩; obtain ⟨n, b, c, x, g3, g4, hpn, hnc, hn2, hfx, hxf, hput⟩ := hAG.out _ hm; have HP := hid hput; have CL := hid (cut_any hfx mm (by rw [hxf]; exact hmm2.out)); unfold ptr at CL; have HX := hid (And.intro hfx hxf); clear hm hput hfx hxf)
    | (go_at_call 42; with_reducible refine CL.out.mono ?_; intro e w3 hh; obtain ⟨y, hyf, he, hfy, hyb, hyo, ty⟩ := made_out hh; unfold ptr at he; subst he; have CT := hid (HP.out (cutF x.f mm) [] y w3 (cutF_name _ _) nil_mem hyf hfy hyo ty); clear hyf hfy hyb hyo ty)
    | (go_at_call 38; with_reducible refine CT.out.mono ?_; rintro e w4 ⟨rfl, hm4⟩; have HM4 := hid hm4; clear hm4))
  go_ret
  refine ⟨rfl, ?_⟩
  have := HM4.out
  rw [HX.out.2] at this
  exact this
end Go.Proofs.Ythibabfojndlkaa
