/- Package guard: First, of functions that each run a job. -/
import Derived.Test.YtjakkjjohpkcjaaGfirst
import Derived.Deep.LoopGhost
namespace Go.Proofs.Ytjakkjjohpkcjaa
open Go.RowKit Go.Lib

@[reducible] def clos (bl bh b : Nat) : Value := .func (.func 17) #[] #[.pointer (some ⟨bl, 0, none⟩), .pointer (some ⟨b, 0, none⟩), .pointer (some ⟨bh, 0, none⟩)]

/-- The loop of First: behind k functions. -/
def FirstL (X : World) (g len W fr : Nat) (gh : Nat) (t9 : Value) (wr : World) : Prop := ∃ k : Nat, k ≤ W ∧ gh = len - k ∧ t9 = .int .i64 k ∧ wr.heap[g]? = some (.cells (cnt len k) 3 (0, 0)) ∧ wr.heap[fr]? = some (.cells #[.int .i64 0, .int .i64 0, .string none8] TFault (0, 0)) ∧ Touch [g] X wr

def FirstP (X : World) (g len W : Nat) (f : FltD) (e : Ending) (w' : World) : Prop := e = .returned (.tuple #[.int .i64 W, f.val]) ∧ w'.heap[g]? = some (.cells (cnt len W) 3 (0, 0)) ∧ Touch [g] X w'

set_option maxRecDepth 100000 in
set_option maxHeartbeats 4000000 in
theorem first_any (js : List JobD) (W : Nat) (hW : IsW js W) (w0 X : World) (x y : Option Addr) (c cp len : Nat) (hlen : len = js.length) (bl bh g : Nat) (ibs : Nat → Nat) (hv : Jobs w0 (.slice x js.length c) js) (hT : Touch [] w0 X) (hg0 : w0.heap.size ≤ g) (h40 : js.length ≤ 40)
    (hl : X.heap[bl]? = some (jobsO (.slice x js.length c))) (hbh : X.heap[bh]? = some (intsO g js.length)) (hg : X.heap[g]? = some (.cells (cnt js.length 0) 3 (0, 0))) (hib : ∀ i, i < js.length → X.heap[ibs i]? = some (intO i) ∧ ibs i ≠ g)
    (hf : ∀ i, i < js.length → ∃ gf, y = some ⟨gf, 0, none⟩ ∧ gf ≠ g ∧ X.cell? ⟨gf, i, none⟩ = some (clos bl bh (ibs i))) (n1 : bl ≠ g) (n2 : bh ≠ g) :
    Calls Try.prog 18 #[.slice y len cp] X (FirstP X g len W (toldAt js W)) := by
  have HV := hid hv
  have HTT := hid hT
  have HL := hid hl
  have HBH := hid hbh
  have HG := hid hg
  have HIB := hid hib
  have HF := hid hf
  have HLEN := hid hlen
  have hW' := hid hW
  have hWl : W ≤ len := by rw [hlen]; exact hW.le
  have gX := lt_of_block hg
  have l40 : len ≤ 40 := by omega
  clear hv hT hl hbh hg hib hf hlen hW
  go_enter Try.func18, Try.ntmps18
  go_wp2
  go_loopg [9] len (fun gh t9 wr => FirstL X g len W X.heap.size gh t9 wr)
  case atStart => exact ⟨0, Nat.zero_le _, rfl, rfl, by rw [HLEN.out]; exact heap_alloc_keep HG.out _, heap_alloc_new _ _, (Touch.refl _ _).alloc _⟩
  case round =>
    obtain ⟨k, hk, rfl, rfl, hgk, hfr, ht⟩ := hrel
    have HGK := hid hgk
    have HFR := hid hfr
    have HT := hid ht
    clear hgk hfr ht
    have k0 : (0 : Int) ≤ k := by omega
    have k1 : (k : Int) ≤ 40 := by omega
    by_cases hlt : k < len
    · have hkI : (k : Int) < len := by omega
      have hkj : k < js.length := by rw [← HLEN.out]; exact hlt
      obtain ⟨gf, rfl, ngf, hcl⟩ := HF.out k hkj
      obtain ⟨hib, nib⟩ := HIB.out k hkj
      have hlb := World.block_lt_of_cell? X _ hcl
      simp only at hlb
      have cl : wr.cell? ⟨gf, k, none⟩ = some (clos bl bh (ibs k)) := by
        rw [World.cell?_of_block (w := X) (HT.out.block gf hlb (by simpa using ngf))]
        exact hcl
      have D := hid (do_run _ _ _ _ _ _ _ _ wr (lt_of_block HGK.out) (enters_first _ _ _) (first_one js x c k bl (ibs k) bh g (cnt len k) (wr.alloc (.cells #[.int .i64 0, .int .i64 0, .string none8] TFault)) (HV.out.touch ((HTT.out.trans HT.out (by simpa using hg0)).alloc _)) hkj h40
        (heap_alloc_keep (touch_other HT.out HL.out (by simpa using n1)) _) (heap_alloc_keep (touch_other HT.out hib (by simpa using nib)) _) (heap_alloc_keep (touch_other HT.out HBH.out (by simpa using n2)) _) (heap_alloc_keep HGK.out _) (by rw [cnt_at hlt]; simp)))
      have HX := hid (incs_alone hkj)
      have HC := hid hcl
      have HI := hid hib
      clear hcl hib
      go_wp2_with fail
      refine D.out.mono ?_
      rintro e w2 ⟨rfl, hg2, t2⟩
      have lfr := lt_of_block HFR.out
      have hfr2 := touch_other t2 HFR.out (by simp; omega)
      have T2 := hid (HT.out.trans t2 (by simp))
      have HFR2 := hid hfr2
      have HG2 := hid hg2
      by_cases hkW : k = W
      · have hbad := hW'.out.bad (by omega)
        rw [← hkW] at hbad
        have hm : incsAt [js[k]] 0 = 0 := by
          rcases HX.out with ⟨h1, _⟩ | ⟨_, h2⟩
          · rw [h1] at hbad; simp at hbad
          · exact h2
        have HG3 : Hid (w2.heap[g]? = some (.cells (cnt len k) 3 (0, 0))) := by
          have h := HG2.out
          rw [hm, cnt_same hlt] at h
          exact hid h
        have HKW := hid hkW
        have HTW : Hid (toldAt js k = toldAt js W) := hid (by rw [hkW])
        obtain ⟨_, c9, c10, c11⟩ := cell_three hfr2
        have fz : ∀ (i : Nat) (o : Obj), (w2.alloc o).frozen? ⟨X.heap.size, i, none⟩ = false := fun i o => free_of (heap_alloc_keep hfr2 o) i
        clear hfr2 hg2 t2 D HX hkW HG2 hm hW'
        generalize toldAt js k = t at *
        have q1 : (t.err != 0) = true := by simpa using hbad
        clear hbad
        go_wp2
        go_region
        go_wp2
        have S := heap_set (heap_set (heap_set (heap_alloc_keep HFR2.out (.cells #[.int .i64 t.err, .int .i64 t.kind, .string t.text] TFault)) (i := 0) (.int .i64 t.err)) (i := 1) (.int .i64 t.kind)) (i := 2) (.string t.text)
        have T : Touch [X.heap.size] w2 ((((w2.alloc (.cells #[.int .i64 t.err, .int .i64 t.kind, .string t.text] TFault)).setCell ⟨X.heap.size, 0, none⟩ (.int .i64 t.err)).setCell ⟨X.heap.size, 1, none⟩ (.int .i64 t.kind)).setCell ⟨X.heap.size, 2, none⟩ (.string t.text)).drew :=
          (((((Touch.refl _ _).alloc _).setCell (.inl (by simp)) _).setCell (.inl (by simp)) _).setCell (.inl (by simp)) _).drew
        have S2 : ((((w2.alloc (.cells #[.int .i64 t.err, .int .i64 t.kind, .string t.text] TFault)).setCell ⟨X.heap.size, 0, none⟩ (.int .i64 t.err)).setCell ⟨X.heap.size, 1, none⟩ (.int .i64 t.kind)).setCell ⟨X.heap.size, 2, none⟩ (.string t.text)).drew.heap[X.heap.size]? = some (.cells #[.int .i64 t.err, .int .i64 t.kind, .string t.text] TFault (0, 0)) := S
        clear S c9 c10 c11 fz
        generalize ((((w2.alloc (.cells #[.int .i64 t.err, .int .i64 t.kind, .string t.text] TFault)).setCell ⟨X.heap.size, 0, none⟩ (.int .i64 t.err)).setCell ⟨X.heap.size, 1, none⟩ (.int .i64 t.kind)).setCell ⟨X.heap.size, 2, none⟩ (.string t.text)).drew = wz at S2 T ⊢
        have z0 := cell_of S2 0
        have z1 := cell_of S2 1
        have z2 := cell_of S2 2
        exact bodyPost_ret (v := .tuple #[.int .i64 k, t.val]) (by simp [results, Try.results18, go_sem, z0, z1, z2]) rfl ⟨by rw [← HTW.out, ← HKW.out], by rw [← HKW.out]; exact touch_other T HG3.out (by simp; omega), T2.out.trans T (by simp)⟩
      · have hfine := hW'.out.fine k (by omega)
        have hm : incsAt [js[k]] 0 = 1 := by
          rcases HX.out with ⟨_, h2⟩ | ⟨h1, _⟩
          · exact h2
          · rw [hfine] at h1; simp at h1
        have HG3 : Hid (w2.heap[g]? = some (.cells (cnt len (k + 1)) 3 (0, 0))) := by
          have h := HG2.out
          rw [hm, cnt_set hlt] at h
          exact hid h
        clear hfr2 hg2 t2 D HX HG2 hm
        rw [hfine]
        clear hfine
        go_wp2
        go_roundg (len - (k + 1))
        case measure => omega
        case rel => exact ⟨k + 1, by omega, rfl, by go_num, heap_alloc_keep HG3.out _, heap_alloc_keep HFR2.out _, T2.out.alloc _⟩
    · obtain rfl : k = len := by omega
      obtain rfl : W = k := by omega
      have hfine : toldAt js W = fine := told_past (by rw [← HLEN.out]; exact Nat.le_refl _)
      have HFI := hid hfine
      obtain ⟨⟨c0, c1, c2⟩, _⟩ := cell_three HFR.out
      have fz : ∀ (i : Nat), wr.frozen? ⟨X.heap.size, i, none⟩ = false := fun i => free_of HFR.out i
      clear hfine
      go_wp2
      have S2 := heap_set (heap_set (heap_set HFR.out (i := 0) (.int .i64 0)) (i := 1) (.int .i64 0)) (i := 2) (.string none8)
      have T : Touch [X.heap.size] wr (((wr.setCell ⟨X.heap.size, 0, none⟩ (.int .i64 0)).setCell ⟨X.heap.size, 1, none⟩ (.int .i64 0)).setCell ⟨X.heap.size, 2, none⟩ (.string none8)) :=
        (((Touch.refl _ _).setCell (.inl (by simp)) _).setCell (.inl (by simp)) _).setCell (.inl (by simp)) _
      clear c0 c1 c2 fz
      generalize ((wr.setCell ⟨X.heap.size, 0, none⟩ (.int .i64 0)).setCell ⟨X.heap.size, 1, none⟩ (.int .i64 0)).setCell ⟨X.heap.size, 2, none⟩ (.string none8) = wz at S2 T ⊢
      have z0 := cell_of S2 0
      have z1 := cell_of S2 1
      have z2 := cell_of S2 2
      exact bodyPost_ret (v := .tuple #[.int .i64 W, fine.val]) (by simp [results, Try.results18, go_sem, z0, z1, z2]) rfl ⟨by rw [HFI.out], touch_other T HGK.out (by simp; omega), HT.out.trans T (by simp)⟩
end Go.Proofs.Ytjakkjjohpkcjaa
