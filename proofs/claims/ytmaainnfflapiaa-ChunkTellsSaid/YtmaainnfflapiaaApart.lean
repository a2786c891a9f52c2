/- The book's Apart. -/
import Derived.Test.YtmaainnfflapiaaMarkedM
namespace Go.Proofs.Ytmaainnfflapiaa
set_option maxRecDepth 100000
open Go.RowKit Go.Lib Go.ChangeShapes Go.WideShapes

theorem Kept.rows1 {W : World} {kb base : Nat} {tv wv : Value} {vs us : List Value} {Ls : List (List ByteArray)} (h : Kept W kb base tv wv vs us Ls) (hs : ∀ L ∈ Ls, L.length ≤ 3100) : Rows1 W kb base tv wv vs (fun j => (Ls[j]?.getD []).length) (fun j => Ls[j]?.getD []) := by
  refine ⟨h.blk, h.ge, by rw [h.n1]; exact h.own1, fun j hj => ?_, ?_, by rw [h.n1]; exact h.few, fun j => ?_⟩
  · have hj2 : j < Ls.length := by rw [← h.n1]; exact hj
    have := h.r1 j hj2 hj
    simpa only [List.getElem?_eq_getElem hj2, Option.getD_some] using this
  · have := h.ap
    rw [List.pairwise_append] at this
    exact this.1
  · show (Ls[j]?.getD []).length ≤ 3100
    cases hj : Ls[j]? with
    | none => simp
    | some L => exact hs L (List.mem_of_getElem? hj)
theorem Rows1.marked {W : World} {kb base : Nat} {tv wv : Value} {vs : List Value} {ns : Nat → Nat} {M : Nat → List ByteArray} (h : Rows1 W kb base tv wv vs ns (part ns M vs.length)) : Rows1 W kb base tv wv vs ns (fun j => marks j 0 (ns j)) :=
  ⟨h.blk, h.ge, h.own1, fun j hj => by have := h.r1 j hj; unfold part at this; rwa [if_pos hj] at this, h.ap, h.few, h.small⟩

set_option maxHeartbeats 8000000 in
set_option maxRecDepth 100000 in
theorem apart_walk (kb base : Nat) (tv wv : Value) (vs : List Value) (ns : Nat → Nat) (M : Nat → List ByteArray) (W : World) (hR : Rows1 W kb base tv wv vs ns M) (hst : Calls Try.prog 33 #[.pointer (some ⟨kb, 0, none⟩)] W fun e W' => e = .returned (.bool true) ∧ Touch [] W W') (hb : base ≤ W.heap.size) :
    Calls Try.prog 20 #[.pointer (some ⟨kb, 0, none⟩)] W fun e W' => e = .returned (.bool true) ∧ Newer W base W' := by
  obtain ⟨y1, c1, rfl, _, _⟩ := slice_form hR.own1
  have SI := hid (fun w h => stillInts_any kb (.slice y1 vs.length c1) wv w h)
  have SS := hid (fun w h => stillStored_any kb (.slice y1 vs.length c1) wv w h)
  have SE := hid (fun w h => stillEntries_any kb (.slice y1 vs.length c1) wv w h)
  have SP := hid (fun w h => stillPackets_any kb (.slice y1 vs.length c1) wv w h)
  have SQ := hid (fun w h => stillSteps_any kb (.slice y1 vs.length c1) wv w h)
  have PI := hid (fun w h => putInts_any kb (.slice y1 vs.length c1) wv w h)
  have PS := hid (fun w h => putStored_any kb (.slice y1 vs.length c1) wv w h)
  have PE := hid (fun w h => putEntries_any kb (.slice y1 vs.length c1) wv w h)
  have PP := hid (fun w h => putPackets_any kb (.slice y1 vs.length c1) wv w h)
  have PQ := hid (fun w h => putSteps_any kb (.slice y1 vs.length c1) wv w h)
  have GI := hid (fun w h => growInts_any kb (.slice y1 vs.length c1) wv w h)
  have GS := hid (fun w h => growStored_any kb (.slice y1 vs.length c1) wv w h)
  have GE := hid (fun w h => growEntries_any kb (.slice y1 vs.length c1) wv w h)
  have GP := hid (fun w h => growPackets_any kb (.slice y1 vs.length c1) wv w h)
  have GQ := hid (fun w h => growSteps_any kb (.slice y1 vs.length c1) wv w h)
  have MI := hid (fun w => markedInts_any w)
  have MS := hid (fun w => markedStored_any w)
  have ME := hid (fun w => markedEntries_any w)
  have MP := hid (fun w => markedPackets_any w)
  have MQ := hid (fun w => markedSteps_any w)
  have ST := hid hst
  have R0 := hid hR
  have HB := hid hb
  clear hst hR hb
  go_enter Try.func20, Try.ntmps20
  go_wp2_with fail
  refine ST.out.mono ?_
  rintro e w1 ⟨rfl, t1⟩
  have R1 := hid (R0.out.touch t1)
  have B1 := hid R1.out.blk
  have N1 := hid ((Newer.refl W base).touch t1)
  have Z1 := hid (show base ≤ w1.heap.size by have := HB.out; have := t1.size; omega)
  clear t1 ST
  have PT := hid (putTexts_any kb base _ wv vs ns M w1 R1.out)
  go_wp2_with (first
    | (go_at_call 34; refine (SI.out _ B1.out).mono ?_; rintro e w' ⟨rfl, rfl⟩)
    | (go_at_call 35; refine (SS.out _ B1.out).mono ?_; rintro e w' ⟨rfl, rfl⟩)
    | (go_at_call 36; refine (SE.out _ B1.out).mono ?_; rintro e w' ⟨rfl, rfl⟩)
    | (go_at_call 37; refine (SP.out _ B1.out).mono ?_; rintro e w' ⟨rfl, rfl⟩)
    | (go_at_call 38; refine (SQ.out _ B1.out).mono ?_; rintro e w' ⟨rfl, rfl⟩)
    | (go_at_call 39; refine (PQ.out _ B1.out).mono ?_; rintro e w' ⟨rfl, rfl⟩))
  refine PT.out.mono ?_
  rintro e w2 ⟨rfl, n2, z2, r2⟩
  have R2 := hid r2.marked
  have B2 := hid R2.out.blk
  have N2 := hid (N1.out.trans n2)
  have Z2 := hid (show base ≤ w2.heap.size by have := Z1.out; omega)
  clear n2 z2 r2 PT
  have GT := hid (growTexts_any kb base _ wv vs ns w2 R2.out Z2.out)
  go_wp2_with (first
    | (go_at_call 41; refine (PI.out _ B2.out).mono ?_; rintro e w' ⟨rfl, rfl⟩)
    | (go_at_call 42; refine (PS.out _ B2.out).mono ?_; rintro e w' ⟨rfl, rfl⟩)
    | (go_at_call 43; refine (PE.out _ B2.out).mono ?_; rintro e w' ⟨rfl, rfl⟩)
    | (go_at_call 44; refine (PP.out _ B2.out).mono ?_; rintro e w' ⟨rfl, rfl⟩))
  refine GT.out.mono ?_
  rintro e w3 ⟨ov, gs, rfl, hgl, n3, hg3, ho3⟩
  obtain ⟨yo, co, rfl, _, _⟩ := slice_form ho3
  have G3 := hid hg3
  have B3 := hid G3.out.r.blk
  have N3 := hid (N2.out.trans n3)
  have O3 := hid ho3
  have MG := hid (markedTexts_any _ gs (fun j => ns j + 72) _ base w3 ho3 hg3.g1 (by rw [hgl]; exact hg3.r.few) (fun j => by have := hg3.r.small j; show ns j + 72 ≤ 3200; omega))
  have MV := hid (fun (w : World) (t : Touch [] w3 w) => markedTexts_any (.slice y1 vs.length c1) vs ns base base w (hg3.touch t).r.own1 (hg3.touch t).r.r1 hg3.r.few (fun j => by have := hg3.r.small j; omega))
  clear n3 hg3 ho3 GT hgl
  go_wp2_with (first
    | (go_at_call 46; refine (GI.out _ B3.out).mono ?_; rintro e w' ⟨rfl, rfl⟩)
    | (go_at_call 47; refine (GS.out _ B3.out).mono ?_; rintro e w' ⟨rfl, rfl⟩)
    | (go_at_call 48; refine (GE.out _ B3.out).mono ?_; rintro e w' ⟨rfl, rfl⟩)
    | (go_at_call 49; refine (GP.out _ B3.out).mono ?_; rintro e w' ⟨rfl, rfl⟩)
    | (go_at_call 50; refine (GQ.out _ B3.out).mono ?_; rintro e w' ⟨rfl, rfl⟩))
  refine MG.out.mono ?_
  rintro e w4 ⟨rfl, t4⟩
  have T4 := hid t4
  have l40 := cell_of (touch_other t4 B3.out (by simp)) 0
  clear t4 MG
  go_wp2_with fail
  refine (MV.out _ T4.out).mono ?_
  rintro e w5 ⟨rfl, t5⟩
  have T5 := hid (T4.out.trans t5 (by simp))
  have l52 := cell_of (touch_other T5.out B3.out (by simp)) 2
  have l54 := cell_of (touch_other T5.out B3.out (by simp)) 4
  have l56 := cell_of (touch_other T5.out B3.out (by simp)) 6
  have l58 := cell_of (touch_other T5.out B3.out (by simp)) 8
  have l510 := cell_of (touch_other T5.out B3.out (by simp)) 10
  clear t5 MV l40
  go_wp2_with (first
    | (go_at_call 52; refine (MI.out _).mono ?_; rintro e w' ⟨rfl, rfl⟩)
    | (go_at_call 53; refine (MS.out _).mono ?_; rintro e w' ⟨rfl, rfl⟩)
    | (go_at_call 54; refine (ME.out _).mono ?_; rintro e w' ⟨rfl, rfl⟩)
    | (go_at_call 55; refine (MP.out _).mono ?_; rintro e w' ⟨rfl, rfl⟩)
    | (go_at_call 56; refine (MQ.out _).mono ?_; rintro e w' ⟨rfl, rfl⟩))
  go_ret
  exact ⟨rfl, N3.out.touch T5.out⟩
theorem apart_any (kb base : Nat) (tv wv : Value) (vs us : List Value) (Ls : List (List ByteArray)) (W : World) (hK : Kept W kb base tv wv vs us Ls) (hs : ∀ L ∈ Ls, L.length ≤ 3100) (hb : base ≤ W.heap.size) :
    Calls Try.prog 20 #[.pointer (some ⟨kb, 0, none⟩)] W fun e W' => e = .returned (.bool true) ∧ Newer W base W' :=
  apart_walk kb base tv wv vs _ _ W (hK.rows1 hs) (stillTexts_any kb base tv wv vs us Ls W hK) hb
end Go.Proofs.Ytmaainnfflapiaa
