/- The walk of CodecReads over no steps. -/
import Derived.Test.YteaogpbbmekinaaDoorReads
import Derived.Test.YteaogpbbmekinaaDoorOps
namespace Go.Proofs.YteaogpbbmekinaaDoor
open Go.RowKit Go.Lib

set_option maxRecDepth 100000 in
set_option maxHeartbeats 4000000 in
theorem reads_none (en : Bool) (b0 : ByteArray) (xp : Option Addr) (cp : Nat) (w : World) (htab : Tab w) (hb : (b0.size : Int) ≤ 6000) :
    Calls Tryd.prog 4 #[.string b0, .bool false, .slice xp 0 cp, .bool en] w fun e w' => e = .returned (.bool true) ∧ Touch [] w w' := by
  have C0 := hid (alive_true w htab)
  have CL := hid (light_zero xp cp w)
  have Hb : Hid (b0.size ≤ 6000) := by unfold Hid; omega
  clear htab
  go_enter Tryd.func4, Tryd.ntmps4
  go_wp2_with (first | (go_at_call 13; refine CL.out.mono ?_; rintro e w1 ⟨rfl, rfl⟩) | (go_at_call 14; refine C0.out.mono ?_; rintro e w1 ⟨rfl, a1⟩))
  have A1 := hid a1; clear a1
  have C1 := hid (newIn_any b0 w1)
  go_wp2_with (go_at_call 29; refine C1.out.mono ?_; rintro e w2 ⟨rfl, b1, b2⟩)
  have hsz : Hid (w.heap.size ≤ w1.heap.size ∧ w1.heap.size < w2.heap.size) := ⟨A1.out.size, b1.lt⟩
  have hB0 : Hid (Both w1.heap.size w2.heap.size (b0.data.toList, 0) w (w2.alloc (.cells #[.string b0, .int .i64 0] tRIn))) := by
    refine ⟨b1.keep ((Touch.refl [] _).alloc _) (by simp), ⟨b0, heap_alloc_new _ _, fun _ => rfl⟩, (A1.out.trans b2 (by simp)).alloc _, ?_⟩
    show b0.data.toList.length ≤ 6000
    rw [list_len]; exact Hb.out
  generalize hI : w1.heap.size = I at *
  have HI := hid hI; clear hI b1 b2
  generalize hX : w2.heap.size = X at *
  have HX := hid hX; clear hX
  -- LOOP
  have HB := hB0; clear hB0
  generalize hwr : World.alloc _ _ = wr at *
  have Hwr := hid hwr; clear hwr
  generalize hst : (b0.data.toList, (0 : Int)) = st at *
  have Hst := hid hst; clear hst
  refine wp_loop_rounds 1 ?_
  rw [rounds_succ]
  have hIX : Hid (I ≠ X) := by unfold Hid; have := hsz.out.2; omega
  have hI0 : Hid (w.heap.size ≤ I) := hsz.out.1
  have hX0 : Hid (w.heap.size ≤ X) := by unfold Hid; have := hsz.out; omega
  cases en
  · go_upto_region 29 with fail
    go_quiet (fail)
    go_wp2
    go_ret
    exact ⟨rfl, (HB.out.drewN _).2.2.1⟩
  · have C := hid fun (wx : World) (h : Touch [] wr wx) => end_st I st wx (HB.out.1.keep h (by simp))
    have D := hid fun (wx w1 wy : World) (h : Touch [] wr wx) (h1 : InPost I (iEnd st) wx w1) (h2 : Touch [] w1 wy) => rEnd_st X st wy (((HB.out.2.1.keep h (by simp)).keep h1.2 (by simp; exact fun e => hIX.out e.symm)).keep h2 (by simp)) HB.out.1.2
    have E := hid fun (wx w1 wy w2 : World) (h : Touch [] wr wx) (h1 : InPost I (iEnd st) wx w1) (h2 : Touch [] w1 wy) (h3 : RPost X (iEnd st) wy w2) => HB.out.step hI0.out hX0.out hIX.out (st' := iEnd st) ((h1.on h2).up (h.mono (by simp))) h3 (iEnd_le st)
    have G := hid fun (wx w1 wy w2 wz : World) (h : Touch [] wr wx) (h1 : InPost I (iEnd st) wx w1) (h2 : Touch [] w1 wy) (h3 : RPost X (iEnd st) wy w2) (h4 : Touch [] w2 wz) => err_st I (iEnd st) wz ((E.out wx w1 wy w2 h h1 h2 h3).1.keep h4 (by simp))
    have q1 : ((iEnd st).2 == (iEnd st).2) = true := by simp
    generalize iEnd st = st2 at *
    go_upto_region 29 with fail
    go_region_with (first | (go_at_call 42; refine (C.out _ ?_).mono ?_; (first | exact Touch.refl _ _ | exact drewN_touch _ _ | exact (Touch.refl _ _).drew); rintro e w3 ⟨rfl, hp⟩) | (go_at_call 43; refine (D.out _ _ _ ?_ hp ?_).mono ?_; (first | exact Touch.refl _ _ | exact drewN_touch _ _ | exact (Touch.refl _ _).drew); (first | exact Touch.refl _ _ | exact drewN_touch _ _ | exact (Touch.refl _ _).drew); rintro e w4 ⟨rfl, hq⟩; obtain ⟨BX, hBX, _⟩ := hq.1; have cX := cell_of hBX 1) | (go_at_call 40; refine (G.out _ _ _ _ _ ?_ hp ?_ hq ?_).mono ?_; (first | exact Touch.refl _ _ | exact drewN_touch _ _ | exact (Touch.refl _ _).drew); (first | exact Touch.refl _ _ | exact drewN_touch _ _ | exact (Touch.refl _ _).drew); (first | exact Touch.refl _ _ | exact drewN_touch _ _ | exact (Touch.refl _ _).drew); rintro e w5 ⟨rfl, rfl⟩))
    all_goals go_wp2
    all_goals go_ret
    all_goals (refine ⟨by first | rfl | (go_simp; done) | (simp [go_sem]; done), ?_⟩; first | exact (E.out _ _ _ _ (by first | exact Touch.refl _ _ | exact drewN_touch _ _ | exact (Touch.refl _ _).drew) hp (by first | exact Touch.refl _ _ | exact drewN_touch _ _ | exact (Touch.refl _ _).drew) hq).2.2.1 | exact ((E.out _ _ _ _ (by first | exact Touch.refl _ _ | exact drewN_touch _ _ | exact (Touch.refl _ _).drew) hp (by first | exact Touch.refl _ _ | exact drewN_touch _ _ | exact (Touch.refl _ _).drew) hq).2.2.1).drew | exact ((E.out _ _ _ _ (by first | exact Touch.refl _ _ | exact drewN_touch _ _ | exact (Touch.refl _ _).drew) hp (by first | exact Touch.refl _ _ | exact drewN_touch _ _ | exact (Touch.refl _ _).drew) hq).2.2.1).drewN _)

set_option maxRecDepth 100000 in
set_option maxHeartbeats 4000000 in
theorem reads_none_z (en : Bool) (b0 : ByteArray) (xp : Option Addr) (cp : Nat) (w : World) (htab : Tab w) (hb : (b0.size : Int) ≤ 6000) :
    Calls Tryd.prog 4 #[.string b0, .bool true, .slice xp 0 cp, .bool en] w fun e w' => e = .returned (.bool true) ∧ Touch [] w w' := by
  have C0 := hid (alive_true w htab)
  have CL := hid (light_zero xp cp w)
  have Hb : Hid (b0.size ≤ 6000) := by unfold Hid; omega
  clear htab
  go_enter Tryd.func4, Tryd.ntmps4
  go_wp2_with (first | (go_at_call 13; refine CL.out.mono ?_; rintro e w1 ⟨rfl, rfl⟩) | (go_at_call 14; refine C0.out.mono ?_; rintro e w1 ⟨rfl, a1⟩))
  have A1 := hid a1; clear a1
  have C1 := hid (newIn_any b0 w1)
  go_wp2_with (go_at_call 29; refine C1.out.mono ?_; rintro e w2 ⟨rfl, b1, b2⟩)
  have s1 : (w2.alloc (.cells #[.string b0, .int .i64 0] tRIn)).heap.size = w2.heap.size + 1 := alloc_size1 _ _
  have s2 : ((w2.alloc (.cells #[.string b0, .int .i64 0] tRIn)).alloc (.cells #[.string ⟨#[]⟩, .int .i64 0] tIn)).heap.size = w2.heap.size + 1 + 1 := by rw [alloc_size1, alloc_size1]
  have g1 := heap_alloc_new (w2.alloc (.cells #[.string b0, .int .i64 0] tRIn)) (.cells #[.string ⟨#[]⟩, .int .i64 0] tIn)
  have g2 := heap_alloc_new ((w2.alloc (.cells #[.string b0, .int .i64 0] tRIn)).alloc (.cells #[.string ⟨#[]⟩, .int .i64 0] tIn)) (.cells #[.string ⟨#[]⟩, .int .i64 0] tRIn)
  rw [s1] at g1; rw [s2] at g2
  have hsz : Hid (w.heap.size ≤ w2.heap.size + 1 ∧ w2.heap.size + 1 < w2.heap.size + 1 + 1) := ⟨by have := A1.out.size; have := b1.lt; omega, by omega⟩
  have hB0 : Hid (Both (w2.heap.size + 1) (w2.heap.size + 1 + 1) ([], 0) w (((w2.alloc (.cells #[.string b0, .int .i64 0] tRIn)).alloc (.cells #[.string ⟨#[]⟩, .int .i64 0] tIn)).alloc (.cells #[.string ⟨#[]⟩, .int .i64 0] tRIn))) := by
    refine ⟨(show InIs _ _ _ from ⟨g1, fun h => absurd rfl h⟩).keep ((Touch.refl [] _).alloc _) (by simp), ⟨⟨#[]⟩, g2, fun _ => rfl⟩, (((A1.out.trans b2 (by simp)).alloc _).alloc _).alloc _, by simp⟩
  clear s1 s2 g1 g2
  generalize hI : w2.heap.size + 1 = I at *
  have HI := hid hI; clear hI b1 b2
  generalize hX : I + 1 = X at *
  have HX := hid hX; clear hX
  -- LOOP
  have HB := hB0; clear hB0
  generalize hwr : World.alloc (World.alloc (World.alloc _ _) _) _ = wr at *
  have Hwr := hid hwr; clear hwr
  generalize hst : (([], 0) : List UInt8 × Int) = st at *
  have Hst := hid hst; clear hst
  refine wp_loop_rounds 1 ?_
  rw [rounds_succ]
  have hIX : Hid (I ≠ X) := by unfold Hid; have := hsz.out.2; omega
  have hI0 : Hid (w.heap.size ≤ I) := hsz.out.1
  have hX0 : Hid (w.heap.size ≤ X) := by unfold Hid; have := hsz.out; omega
  cases en
  · go_upto_region 29 with fail
    go_quiet (fail)
    go_wp2
    go_ret
    exact ⟨rfl, (HB.out.drewN _).2.2.1⟩
  · have C := hid fun (wx : World) (h : Touch [] wr wx) => end_st I st wx (HB.out.1.keep h (by simp))
    have D := hid fun (wx w1 wy : World) (h : Touch [] wr wx) (h1 : InPost I (iEnd st) wx w1) (h2 : Touch [] w1 wy) => rEnd_st X st wy (((HB.out.2.1.keep h (by simp)).keep h1.2 (by simp; exact fun e => hIX.out e.symm)).keep h2 (by simp)) HB.out.1.2
    have E := hid fun (wx w1 wy w2 : World) (h : Touch [] wr wx) (h1 : InPost I (iEnd st) wx w1) (h2 : Touch [] w1 wy) (h3 : RPost X (iEnd st) wy w2) => HB.out.step hI0.out hX0.out hIX.out (st' := iEnd st) ((h1.on h2).up (h.mono (by simp))) h3 (iEnd_le st)
    have G := hid fun (wx w1 wy w2 wz : World) (h : Touch [] wr wx) (h1 : InPost I (iEnd st) wx w1) (h2 : Touch [] w1 wy) (h3 : RPost X (iEnd st) wy w2) (h4 : Touch [] w2 wz) => err_st I (iEnd st) wz ((E.out wx w1 wy w2 h h1 h2 h3).1.keep h4 (by simp))
    have q1 : ((iEnd st).2 == (iEnd st).2) = true := by simp
    generalize iEnd st = st2 at *
    go_upto_region 29 with fail
    go_region_with (first | (go_at_call 42; refine (C.out _ ?_).mono ?_; (first | exact Touch.refl _ _ | exact drewN_touch _ _ | exact (Touch.refl _ _).drew); rintro e w3 ⟨rfl, hp⟩) | (go_at_call 43; refine (D.out _ _ _ ?_ hp ?_).mono ?_; (first | exact Touch.refl _ _ | exact drewN_touch _ _ | exact (Touch.refl _ _).drew); (first | exact Touch.refl _ _ | exact drewN_touch _ _ | exact (Touch.refl _ _).drew); rintro e w4 ⟨rfl, hq⟩; obtain ⟨BX, hBX, _⟩ := hq.1; have cX := cell_of hBX 1) | (go_at_call 40; refine (G.out _ _ _ _ _ ?_ hp ?_ hq ?_).mono ?_; (first | exact Touch.refl _ _ | exact drewN_touch _ _ | exact (Touch.refl _ _).drew); (first | exact Touch.refl _ _ | exact drewN_touch _ _ | exact (Touch.refl _ _).drew); (first | exact Touch.refl _ _ | exact drewN_touch _ _ | exact (Touch.refl _ _).drew); rintro e w5 ⟨rfl, rfl⟩))
    all_goals go_wp2
    all_goals go_ret
    all_goals (refine ⟨by first | rfl | (go_simp; done) | (simp [go_sem]; done), ?_⟩; first | exact (E.out _ _ _ _ (by first | exact Touch.refl _ _ | exact drewN_touch _ _ | exact (Touch.refl _ _).drew) hp (by first | exact Touch.refl _ _ | exact drewN_touch _ _ | exact (Touch.refl _ _).drew) hq).2.2.1 | exact ((E.out _ _ _ _ (by first | exact Touch.refl _ _ | exact drewN_touch _ _ | exact (Touch.refl _ _).drew) hp (by first | exact Touch.refl _ _ | exact drewN_touch _ _ | exact (Touch.refl _ _).drew) hq).2.2.1).drew | exact ((E.out _ _ _ _ (by first | exact Touch.refl _ _ | exact drewN_touch _ _ | exact (Touch.refl _ _).drew) hp (by first | exact Touch.refl _ _ | exact drewN_touch _ _ | exact (Touch.refl _ _).drew) hq).2.2.1).drewN _)
end Go.Proofs.YteaogpbbmekinaaDoor
