/- Append. -/
import Derived.Test.YtjjocnkockeacaaGreatDoorZg
import Derived.Test.YtjjocnkockeacaaGreatDoorYFw9
namespace Go.Proofs.YtjjocnkockeacaaGreatDoor
open Go.RowKit Go.Lib
set_option maxRecDepth 100000

theorem used_putF : ∀ {l : List Fl} {f : Fl}, Sorted l → used (putF l f) + ((getF l f.name).map fun g => g.data.size).getD 0 = used l + f.data.size
  | [], f, _ => by simp [putF, getF, used]
  | a :: r, f, h => by
    have ih := used_putF (f := f) (List.pairwise_cons.1 h).2
    rw [putF, getF]
    by_cases h1 : cmpN a.name f.name < 0
    · have e0 : ¬ cmpN a.name f.name = 0 := by omega
      simp only [if_pos h1, if_neg e0]
      simp only [used, List.map_cons, List.sum_cons] at ih ⊢
      omega
    · by_cases h2 : cmpN a.name f.name = 0
      · simp only [if_neg h1, if_pos h2]
        simp [used]
        omega
      · simp only [if_neg h1, if_neg h2]
        rw [getF_none fun x hx => by have := sorted_above h h1 x hx; omega]
        simp [used]
        omega
theorem getF_name {l : List Fl} {nm : ByteArray} {f : Fl} (h : getF l nm = some f) : f ∈ l ∧ f.name = nm := by
  induction l with
  | nil => simp [getF] at h
  | cons a r ih =>
    rw [getF] at h
    split at h
    · rename_i h1
      simp at h; subst h
      exact ⟨by simp, cmpN_eq h1⟩
    · obtain ⟨h2, h3⟩ := ih h
      exact ⟨by simp [h2], h3⟩
theorem used_with {l : List Fl} {nm s : ByteArray} (h : Sorted l) : used (putF l (withF ((getF l nm).getD (freshF nm)) s)) = used l + s.size := by
  have h1 := used_putF (l := l) (f := withF ((getF l nm).getD (freshF nm)) s) h
  cases hg : getF l nm with
  | none =>
    rw [hg] at h1
    simp only [Option.getD_none] at h1 ⊢
    have e : (withF (freshF nm) s).name = nm := rfl
    have e2 : (withF (freshF nm) s).data.size = s.size := by
      show ((⟨#[]⟩ : ByteArray) ++ s).size = s.size
      rw [ByteArray.size_append]
      show 0 + s.size = s.size
      omega
    rw [e, hg, e2] at h1
    simpa using h1
  | some f =>
    rw [hg] at h1
    simp only [Option.getD_some] at h1 ⊢
    have e : (withF f s).name = nm := (getF_name hg).2
    have e2 : (withF f s).data.size = f.data.size + s.size := by simp [withF, ByteArray.size_append]
    rw [e, hg, e2] at h1
    simp at h1
    omega
theorem file_le {l : List Fl} {f : Fl} (h : f ∈ l) : f.data.size ≤ used l := by
  induction l with
  | nil => simp at h
  | cons a r ih =>
    simp only [used, List.map_cons, List.sum_cons]
    rcases List.mem_cons.1 h with rfl | h
    · omega
    · have := ih h
      simp only [used] at this
      omega
theorem put_len {l : List Fl} {f : Fl} (hs : Sorted l) : (putF l f).length = if (getF l f.name).isSome then l.length else l.length + 1 := by
  cases hg : (getF l f.name).isSome
  · rw [if_neg (by simp), put_plc hs, hg, if_neg (by simp)]
    have := plc_le l f.name
    simp; omega
  · rw [if_pos rfl]
    exact put_same_len hs hg rfl

/-- put, and what goes behind it leaves. -/
theorem app_put {w w2 : World} {d : Nat} {k : Dk} {rv kv : Value} {L : List Px} {own F : List Nat} {y : Px} {f' : Fl} (hA : Ahead w d k rv kv L own F y w2) (hy : y.f = f') (hl : (putF k.files f').length ≤ 200) (hk : k.keep.length ≤ 1000000) (hu : used (putF k.files f') ≤ 70368744177664) :
    Calls Tryz.prog 78 #[.pointer (some ⟨d, 0, none⟩), .pointer (some ⟨y.b, 0, none⟩)] w2 fun e w3 => e = .returned (.tuple #[]) ∧
      Calls Tryz.prog 77 #[.pointer (some ⟨d, 0, none⟩)] w3 fun e w4 => e = .returned (.int .i64 (goesD { k with files := putF k.files f' }).1) ∧ Left d own w (goesD { k with files := putF k.files f' }).2 w4 := by
  subst hy
  obtain ⟨q1, q2, q3⟩ := hA.ok
  refine (put_any q1 q2 q3).mono ?_
  intro e w3 hr
  refine ⟨hr.1, ?_⟩
  obtain ⟨own3, hD3, t3, ho3⟩ := hA.put hr hl
  refine (goes_any hD3 hk hu).mono ?_
  rintro e w4 ⟨rfl, h4⟩
  exact ⟨rfl, Left.trans t3 ho3 h4⟩

theorem used_q {w : World} {d : Nat} {k : Dk} {rv kv : Value} {L : List Px} (h : DiskIs w d k rv kv L) (hu : used k.files ≤ 70368744177664) (n : Nat) :
    Calls Tryz.prog 86 #[.pointer (some ⟨d, 0, none⟩)] (w.drewN n) fun e w' => e = .returned (.int .i64 (used k.files : Nat)) ∧ ∃ m, w' = w.drewN m :=
  (used_any (h.touch ((Touch.refl [] w).drewN n) (by simp)) hu).mono fun _ _ ⟨he, hw⟩ => ⟨he, n, hw⟩

set_option maxHeartbeats 1200000 in
theorem append_any {w : World} {d : Nat} {k : Dk} {own : List Nat} (h : Fit w d k own) (nm s : ByteArray) (hs : used k.files + s.size ≤ 70368744177664) (hroom : -9223372036854775808 ≤ k.room ∧ k.room ≤ 9223372036854775807) :
    Calls Tryz.prog 46 #[ptr d, .string nm, .string s] w fun e w' => e = .returned (.int .i64 (appendD k nm s).1) ∧ Left d own w (appendD k nm s).2 w' := by
  have h0 := h.disk
  obtain ⟨rv, kv, L, hD, hO, hB⟩ := h.disk
  have CR := hid (refuses_any hD.cells nm)
  have CF := hid (find_any hD.ok nm)
  rw [hD.files] at CF
  have CU := hid fun n => used_q hD h.used n
  have hsame := hid (Left.same h0 (Touch.refl [] w))
  have hu := h.used
  have hkl := h.keep
  have hlen : L.length = k.files.length := by rw [← hD.files, List.length_map]
  have hmany := hD.many
  obtain ⟨rx, rc, hrv, hrc, -, -, -⟩ := row_cell hD.row
  obtain ⟨-, -, c2, c3, -⟩ := dk_cell hD.cells
  rw [hrv] at c3
  unfold appendD
  by_cases hR : refuse k nm = 0
  rotate_left
  · rw [if_pos hR]
    unfold ptr at CR ⊢
    generalize Left d own w k = M at *
    simp only []
    generalize refuse k nm = E at *
    clear h h0 CF CU hD hO hB c2 c3 hs hroom hu hkl hlen hmany hrc
    go_enter Tryz.func46, Tryz.ntmps46
    go_wp2_with (go_at_call 84; with_reducible refine CR.out.mono ?_; rintro e w1 ⟨rfl, rfl⟩)
    go_ret
    exact ⟨rfl, hsame.out⟩
  have hnl := refuse_len hR
  rw [if_neg (by simpa using hR)]
  rw [hR] at CR
  have hput : Hid (¬ ((getF k.files nm = none ∧ 200 ≤ k.files.length) ∨ (0 < k.room ∧ k.room - used k.files < s.size)) → ∀ (F : List Nat) (y : Px) (w2 : World), Ahead w d k rv kv L own F y w2 → y.f = withF ((getF k.files nm).getD (freshF nm)) s →
      Calls Tryz.prog 78 #[.pointer (some ⟨d, 0, none⟩), .pointer (some ⟨y.b, 0, none⟩)] w2 fun e w3 => e = .returned (.tuple #[]) ∧
      Calls Tryz.prog 77 #[.pointer (some ⟨d, 0, none⟩)] w3 fun e w4 => e = .returned (.int .i64 (goesD { k with files := putF k.files (withF ((getF k.files nm).getD (freshF nm)) s) }).1) ∧ Left d own w (goesD { k with files := putF k.files (withF ((getF k.files nm).getD (freshF nm)) s) }).2 w4) := hid (by
    intro hno F y w2 hA hy
    refine app_put hA hy ?_ hkl (by rw [used_with hD.sorted]; exact hs)
    rw [put_len hD.sorted]
    have hn : (withF ((getF k.files nm).getD (freshF nm)) s).name = nm := by
      cases hg : getF k.files nm with
      | none => rfl
      | some f => exact (getF_name hg).2
    rw [hn]
    cases hg : getF k.files nm with
    | some f => simp; exact hmany
    | none =>
      simp
      have : ¬ 200 ≤ k.files.length := fun h2 => hno (.inl ⟨hg, h2⟩)
      omega)
  have hfresh : Hid (getF k.files nm = none → ∀ (n : Nat) (y0 y : Px) (w1 w2 : World), y0.f = freshF nm → (w.drewN n).heap.size ≤ y0.b → (∀ q ∈ y0.own, q ∈ ([] : List Nat) ∨ (w.drewN n).heap.size ≤ q) → Touch [] (w.drewN n) w1 → y.f = withF y0.f s → FileAt w2 y → (∀ q ∈ y.own, q ∈ y0.mut ∨ w1.heap.size ≤ q) → Touch y0.mut w1 w2 →
      Ahead w d k rv kv L own [] y w2 ∧ y.f = withF (freshF nm) s) := hid (by
    intro _ n y0 y w1 w2 e0 _ o0 t0 e1 f1 o1 t1
    rw [drewN_heap] at o0
    have t0' : Touch [] w w1 := ((Touch.refl [] w).drewN n).trans t0 (by simp)
    have hm : ∀ q ∈ y0.mut, w.heap.size ≤ q := fun q hq => by
      rcases o0 q (mut_own hq) with h1 | h1
      · simp at h1
      · exact h1
    refine ⟨⟨hD, hO, f1, t0'.trans t1 (fun q hq => .inr (hm q hq)), by simp, fun q hq => .inl ?_⟩, by rw [e1, e0]⟩
    rcases o1 q hq with h1 | h1
    · exact hm q h1
    · exact Nat.le_trans t0'.size h1)
  have hthere : Hid (∀ f, getF k.files nm = some f → ∃ (x : Px) (b : Nat), rx = some ⟨b, 0, none⟩ ∧ plc k.files nm < L.length ∧ w.cell? ⟨b, plc k.files nm, none⟩ = some (.pointer (some ⟨x.b, 0, none⟩)) ∧ FileAt w x ∧ x.f = f ∧
      ∀ (w1 : World) (y : Px) (w2 : World), Touch [] w w1 → y.f = withF x.f s → FileAt w2 y → (∀ q ∈ y.own, q ∈ x.mut ∨ w1.heap.size ≤ q) → Touch x.mut w1 w2 → Ahead w d k rv kv L own x.mut y w2 ∧ y.f = withF f s) := hid (by
    intro f hf
    have hP : placeE k nm = 0 := by unfold placeE; rw [if_neg (by simpa using hR), if_neg (by rw [hf]; simp)]
    obtain ⟨x, b, c, hx, hxf, hxn, hp, -, -, g3, g4, -⟩ := fetch hD rfl hP
    rw [c3] at g3
    have hrx : rx = some ⟨b, 0, none⟩ := by simp at g3; exact g3.1
    refine ⟨x, b, hrx, hp, g4, hD.each x hx, by rw [hxf, fileD, hf]; rfl, ?_⟩
    intro w1 y w2 t1 hy hfy hyo t
    have hxf' : x.f = f := by rw [hxf, fileD, hf]; rfl
    exact ⟨made_ahead hD hO hx (by rw [hy]; exact cmpN_self _) hfy ((t1.mono (by simp)).trans t (fun i hi => .inl hi)) (fun i hi => hi) (fun q hq => (hyo q hq).imp id (fun h => Nat.le_trans t1.size h)), by rw [hy, hxf']⟩)
  have hsz : Hid (∀ f, getF k.files nm = some f → f.data.size + s.size ≤ 70368744177664) := hid (fun f hf => by have := file_le (getF_name hf).1; omega)
  have hso := hid hs
  have hnl' := hid hnl
  have q0 : (0 : Int) ≤ used k.files := by omega
  have q1 : k.room - (used k.files : Int) ≤ 9223372036854775807 := by omega
  have hrl : (k.files.length : Int) ≤ 200 := by omega
  have hll : L.length = k.files.length := hlen
  unfold ptr at CR CF ⊢
  clear h h0 hD hO hB hkl hrv hnl hR
  have hsame2 : Hid (∀ n, Left d own w k (w.drewN n)) := hid fun n => by
    obtain ⟨o1, a1, a2, a3⟩ := hsame.out
    exact ⟨o1, a1.touch ((Touch.refl [] w).drewN n) (by simp), a2.drewN n, a3⟩
  cases hg : getF k.files nm with
  | none =>
    rw [hg] at CF
    simp only [Option.isSome_none] at CF
    by_cases hF : 200 ≤ k.files.length
    · rw [if_pos (.inl ⟨rfl, hF⟩)]
      have r1 : (200 : Int) ≤ L.length := by omega
      have r2 : decide (200 ≤ L.length) = true := by simp; omega
      have r2' : decide ((200 : Int) ≤ (L.length : Int)) = true := by rw [decide_eq_true_eq]; omega
      clear hput hfresh hthere hsz hso hlen hll hF hmany hrl
      go_enter Tryz.func46, Tryz.ntmps46
      go_wp2_with (first | (go_at_call 84; with_reducible refine CR.out.mono ?_; rintro e w0 ⟨rfl, rfl⟩) | (go_at_call 85; with_reducible refine CF.out.mono ?_; rintro e w1 ⟨rfl, rfl⟩))
      go_quiet ((go_at_call 86; exact CU.out _))
      go_wp2
      go_ret
      exact ⟨rfl, hsame2.out _⟩
    have r1 : (L.length : Int) < 200 := by omega
    have r2 : decide (200 ≤ L.length) = false := by simp; omega
    have r2' : decide ((200 : Int) ≤ (L.length : Int)) = false := by rw [decide_eq_false_iff_not]; omega
    by_cases hrm : 0 < k.room
    · have r3 : decide (0 < k.room) = true := by simpa using hrm
      by_cases hD : k.room - used k.files < s.size
      · rw [if_pos (.inr ⟨hrm, hD⟩)]
        have r4 : decide (k.room - (used k.files : Int) < (s.size : Int)) = true := by rw [decide_eq_true_eq]; exact hD
        clear hput hfresh hthere hsz hso hlen hll hF hmany hrl
        go_enter Tryz.func46, Tryz.ntmps46
        go_wp2_with (first | (go_at_call 84; with_reducible refine CR.out.mono ?_; rintro e w0 ⟨rfl, rfl⟩) | (go_at_call 85; with_reducible refine CF.out.mono ?_; rintro e w1 ⟨rfl, rfl⟩))
        go_quiet ((go_at_call 86; exact CU.out _))
        go_wp2
        go_ret
        exact ⟨rfl, hsame2.out _⟩
      · rw [if_neg (fun h => h.elim (fun a => hF a.2) (fun b => hD b.2))]
        have r4 : decide (k.room - (used k.files : Int) < (s.size : Int)) = false := by rw [decide_eq_false_iff_not]; exact hD
        have hpt := hid (hput.out (fun h => h.elim (fun a => hF a.2) (fun b => hD b.2)))
        have hfr := hid (hfresh.out hg)
        rw [hg] at hpt
        simp only [Option.getD_none] at hpt ⊢
        have CN := hid fun w1 => fresh_any nm w1 hnl'.out
        have hs0 := hid (show (freshF nm).data.size + s.size ≤ 70368744177664 by have := hso.out; show 0 + s.size ≤ _; omega)
        clear hput hfresh hthere hsz hso hlen hll hF hmany hrl hD
        go_enter Tryz.func46, Tryz.ntmps46
        go_wp2_with (first | (go_at_call 84; with_reducible refine CR.out.mono ?_; rintro e w0 ⟨rfl, rfl⟩) | (go_at_call 85; with_reducible refine CF.out.mono ?_; rintro e w1 ⟨rfl, rfl⟩))
        go_quiet ((go_at_call 86; exact CU.out _))
        go_wp2_with (first
          | (go_at_call 87; with_reducible refine (CN.out _).mono ?_; intro e wa hh; obtain ⟨y0, e0, he, f0, b0, o0, t0⟩ := made_out hh; unfold ptr at he; subst he; have CW := hid (with_any f0 s (by rw [e0]; exact hs0.out)); unfold ptr at CW; have H0 := hid (fun y w2 => hfr.out nq y0 y wa w2 e0 b0 o0 t0); clear e0 f0 b0 o0 t0)
          | (go_at_call 88; with_reducible refine CW.out.mono ?_; intro e wb hh; obtain ⟨y, e1, he, f1, b1, o1, t1⟩ := made_out hh; unfold ptr at he; subst he; have CP := hid (hpt.out [] y wb (H0.out y wb e1 f1 o1 t1).1 (H0.out y wb e1 f1 o1 t1).2); clear e1 f1 b1 o1 t1)
          | (go_at_call 78; with_reducible refine CP.out.mono ?_; rintro e w4 ⟨rfl, hm4⟩; have CG := hid hm4; clear hm4)
          | (go_at_call 77; with_reducible refine CG.out.mono ?_; rintro e w5 ⟨rfl, hm5⟩; have HM5 := hid hm5; clear hm5))
        go_ret
        exact ⟨rfl, HM5.out⟩
    · have r3 : decide (0 < k.room) = false := by simpa using hrm
      rw [if_neg (fun h => h.elim (fun a => hF a.2) (fun b => hrm b.1))]
      have hpt := hid (hput.out (fun h => h.elim (fun a => hF a.2) (fun b => hrm b.1)))
      have hfr := hid (hfresh.out hg)
      rw [hg] at hpt
      simp only [Option.getD_none] at hpt ⊢
      have CN := hid fun w1 => fresh_any nm w1 hnl'.out
      have hs0 := hid (show (freshF nm).data.size + s.size ≤ 70368744177664 by have := hso.out; show 0 + s.size ≤ _; omega)
      clear hput hfresh hthere hsz hso hlen hll hF hmany hrl hrm
      go_enter Tryz.func46, Tryz.ntmps46
      go_wp2_with (first | (go_at_call 84; with_reducible refine CR.out.mono ?_; rintro e w0 ⟨rfl, rfl⟩) | (go_at_call 85; with_reducible refine CF.out.mono ?_; rintro e w1 ⟨rfl, rfl⟩))
      go_quiet ((go_at_call 86; exact CU.out _))
      go_wp2_with (first
        | (go_at_call 87; with_reducible refine (CN.out _).mono ?_; intro e wa hh; obtain ⟨y0, e0, he, f0, b0, o0, t0⟩ := made_out hh; unfold ptr at he; subst he; have CW := hid (with_any f0 s (by rw [e0]; exact hs0.out)); unfold ptr at CW; have H0 := hid (fun y w2 => hfr.out nq y0 y wa w2 e0 b0 o0 t0); clear e0 f0 b0 o0 t0)
        | (go_at_call 88; with_reducible refine CW.out.mono ?_; intro e wb hh; obtain ⟨y, e1, he, f1, b1, o1, t1⟩ := made_out hh; unfold ptr at he; subst he; have CP := hid (hpt.out [] y wb (H0.out y wb e1 f1 o1 t1).1 (H0.out y wb e1 f1 o1 t1).2); clear e1 f1 b1 o1 t1)
        | (go_at_call 78; with_reducible refine CP.out.mono ?_; rintro e w4 ⟨rfl, hm4⟩; have CG := hid hm4; clear hm4)
        | (go_at_call 77; with_reducible refine CG.out.mono ?_; rintro e w5 ⟨rfl, hm5⟩; have HM5 := hid hm5; clear hm5))
      go_ret
      exact ⟨rfl, HM5.out⟩
  | some f =>
    rw [hg] at CF
    simp only [Option.isSome_some] at CF
    obtain ⟨x, b, rfl, hpl, g4, hfx, hxf, hth⟩ := hthere.out f hg
    have HTH := hid hth
    have CW := hid fun w1 (t : Touch [] w w1) => with_any (hfx.touch t (by simp)) s (by rw [hxf]; exact hsz.out f hg)
    have CN := hid fun w1 => fresh_any nm w1 hnl'.out
    unfold ptr at CW
    have hL200 : L.length ≤ 200 := by omega
    clear hth hxf hfx
    by_cases hrm : 0 < k.room
    · have r3 : decide (0 < k.room) = true := by simpa using hrm
      by_cases hD : k.room - used k.files < s.size
      · rw [if_pos (.inr ⟨hrm, hD⟩)]
        have r4 : decide (k.room - (used k.files : Int) < (s.size : Int)) = true := by rw [decide_eq_true_eq]; exact hD
        clear hput hfresh hthere hsz hso hlen hll hmany hrl CW HTH
        go_enter Tryz.func46, Tryz.ntmps46
        go_wp2_with (first | (go_at_call 84; with_reducible refine CR.out.mono ?_; rintro e w0 ⟨rfl, rfl⟩) | (go_at_call 85; with_reducible refine CF.out.mono ?_; rintro e w1 ⟨rfl, rfl⟩))
        go_quiet ((go_at_call 86; exact CU.out _))
        go_wp2
        go_ret
        exact ⟨rfl, hsame2.out _⟩
      · rw [if_neg (fun h => h.elim (fun a => by cases a.1) (fun b => hD b.2))]
        have r4 : decide (k.room - (used k.files : Int) < (s.size : Int)) = false := by rw [decide_eq_false_iff_not]; exact hD
        have hpt := hid (hput.out (fun h => h.elim (fun a => by rw [hg] at a; cases a.1) (fun b => hD b.2)))
        rw [hg] at hpt
        simp only [Option.getD_some] at hpt ⊢
        clear hput hfresh hthere hsz hso hlen hll hmany hrl hD
        generalize plc k.files nm = p at *
        go_enter Tryz.func46, Tryz.ntmps46
        go_wp2_with (first | (go_at_call 84; with_reducible refine CR.out.mono ?_; rintro e w0 ⟨rfl, rfl⟩) | (go_at_call 85; with_reducible refine CF.out.mono ?_; rintro e w1 ⟨rfl, rfl⟩))
        go_quiet ((go_at_call 86; exact CU.out _))
        go_wp2_with (first
          | (go_at_call 87; with_reducible refine (CN.out _).mono ?_; intro e wa hh; obtain ⟨y0, e0, he, f0, b0, o0, t0⟩ := made_out hh; unfold ptr at he; subst he; have TA := hid (((Touch.refl [] _).drewN nq).trans t0 nil_mem); have c3a := touch_cell TA.out c3 List.not_mem_nil; have g4a := touch_cell TA.out g4 List.not_mem_nil; clear e0 f0 b0 o0 t0)
          | (go_at_call 88; with_reducible refine (CW.out _ TA.out).mono ?_; intro e wb hh; obtain ⟨y, e1, he, f1, b1, o1, t1⟩ := made_out hh; unfold ptr at he; subst he; have CP := hid (hpt.out x.mut y wb (HTH.out _ y wb TA.out e1 f1 o1 t1).1 (HTH.out _ y wb TA.out e1 f1 o1 t1).2); clear e1 f1 b1 o1 t1)
          | (go_at_call 78; with_reducible refine CP.out.mono ?_; rintro e w4 ⟨rfl, hm4⟩; have CG := hid hm4; clear hm4)
          | (go_at_call 77; with_reducible refine CG.out.mono ?_; rintro e w5 ⟨rfl, hm5⟩; have HM5 := hid hm5; clear hm5))
        go_ret
        exact ⟨rfl, HM5.out⟩
    · have r3 : decide (0 < k.room) = false := by simpa using hrm
      rw [if_neg (fun h => h.elim (fun a => by cases a.1) (fun b => hrm b.1))]
      have hpt := hid (hput.out (fun h => h.elim (fun a => by rw [hg] at a; cases a.1) (fun b => hrm b.1)))
      rw [hg] at hpt
      simp only [Option.getD_some] at hpt ⊢
      clear hput hfresh hthere hsz hso hlen hll hmany hrl hrm
      generalize plc k.files nm = p at *
      go_enter Tryz.func46, Tryz.ntmps46
      go_wp2_with (first | (go_at_call 84; with_reducible refine CR.out.mono ?_; rintro e w0 ⟨rfl, rfl⟩) | (go_at_call 85; with_reducible refine CF.out.mono ?_; rintro e w1 ⟨rfl, rfl⟩))
      go_quiet ((go_at_call 86; exact CU.out _))
      go_wp2_with (first
        | (go_at_call 87; with_reducible refine (CN.out _).mono ?_; intro e wa hh; obtain ⟨y0, e0, he, f0, b0, o0, t0⟩ := made_out hh; unfold ptr at he; subst he; have TA := hid (((Touch.refl [] _).drewN nq).trans t0 nil_mem); have c3a := touch_cell TA.out c3 List.not_mem_nil; have g4a := touch_cell TA.out g4 List.not_mem_nil; clear e0 f0 b0 o0 t0)
        | (go_at_call 88; with_reducible refine (CW.out _ TA.out).mono ?_; intro e wb hh; obtain ⟨y, e1, he, f1, b1, o1, t1⟩ := made_out hh; unfold ptr at he; subst he; have CP := hid (hpt.out x.mut y wb (HTH.out _ y wb TA.out e1 f1 o1 t1).1 (HTH.out _ y wb TA.out e1 f1 o1 t1).2); clear e1 f1 b1 o1 t1)
        | (go_at_call 78; with_reducible refine CP.out.mono ?_; rintro e w4 ⟨rfl, hm4⟩; have CG := hid hm4; clear hm4)
        | (go_at_call 77; with_reducible refine CG.out.mono ?_; rintro e w5 ⟨rfl, hm5⟩; have HM5 := hid hm5; clear hm5))
      go_ret
      exact ⟨rfl, HM5.out⟩
end Go.Proofs.YtjjocnkockeacaaGreatDoor
