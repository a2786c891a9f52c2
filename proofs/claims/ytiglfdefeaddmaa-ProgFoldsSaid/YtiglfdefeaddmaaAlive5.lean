/- chapter 5's first call. -/
import Derived.Test.YtiglfdefeaddmaaPParse
import Derived.Test.YtiglfdefeaddmaaPRun
namespace Go.Proofs.Ytiglfdefeaddmaa
open Go.RowKit Go.Lib

def env0 : EnvD := ⟨0, 0, none8, none8, 0, 0⟩
def env1 : EnvD := ⟨4611686018427387904, 0, none8, none8, 4602678819172646912, 0⟩
theorem env0_ok : env0.Ok := ⟨by decide, by decide, by decide, by decide, by decide⟩
theorem env1_ok : env1.Ok := ⟨by decide, by decide, by decide, by decide, by decide⟩
def aText : ByteArray := ⟨#[115, 116, 97, 116, 101, 32, 118, 97, 108, 117, 101, 32, 97, 100, 100]⟩
def aWords : List ByteArray := [⟨wState.toArray⟩, ⟨wValue.toArray⟩, ⟨wAdd.toArray⟩]
def bWords : List ByteArray := [⟨wAdd.toArray⟩]
theorem aWords_of : wordsB aText.data.toList = aWords := by rfl
theorem bWords_of : wordsB (ByteArray.mk #[97, 100, 100]).data.toList = bWords := by rfl
theorem aCheck : checkOf aWords = (0, 0) := by rfl
theorem bCheck : checkOf bWords = (0, 0) := by rfl
theorem aRun : runOf env1 aWords = (4612811918334230528, fine) := by
  have h : exec env1 (wordsL aWords) [] = .ok [can (ar .add (can 4611686018427387904) (can 4602678819172646912))] := rfl
  unfold runOf
  rw [aCheck, if_pos rfl, h]
  have : can (ar .add (can 4611686018427387904) (can 4602678819172646912)) = 4612811918334230528 := by decide +kernel
  rw [this]; rfl
theorem bRun : runOf env0 bWords = (0, runtimeF) := by
  have h : exec env0 (wordsL bWords) [] = .bad runtimeF := rfl
  unfold runOf
  rw [bCheck, if_pos rfl, h]; rfl

set_option maxHeartbeats 4000000 in
set_option maxRecDepth 100000 in
theorem alive_any (W : World) : Calls Try.prog 10 #[] W fun e w' => e = .returned (.bool true) ∧ Touch [] W w' := by
  have P1 := hid (progParse_any aText W (by decide))
  rw [aWords_of, parsePost_ok (by rw [aCheck])] at P1
  unfold aText at P1
  have P2 := hid (fun w => progParse_any ⟨#[97, 100, 100]⟩ w (by decide))
  have P3 : Hid (∀ w, Calls Try.prog 26 #[.string ⟨#[97, 100, 100]⟩] w (fun e W' => Touch [] w W' ∧ ∃ v n, e = .returned (.tuple #[.agg #[v], .int .i64 0, .int .i64 0]) ∧ W'.ownsRow w.heap.size TStr 1 v n (svals bWords) ∧ n = bWords.length)) := fun w => by
    have h := P2.out w
    rw [bWords_of, parsePost_ok (by rw [bCheck])] at h
    exact h
  clear P2
  have hsf := store_flt
  go_enter Try.func10, Try.ntmps10
  go_wp2_with fail
  refine P1.out.mono ?_
  rintro e w1 ⟨ht1, v1, n1, rfl, hown1, hn1⟩
  obtain ⟨x1, c1, rfl, _, _, htx1⟩ := texts_own hown1 hn1 (by intro s hs; simp [aWords] at hs; rcases hs with rfl | rfl | rfl <;> decide)
  have HTX1 := hid htx1
  have HT1 := hid ht1
  clear htx1 ht1 hown1 hn1 P1
  go_wp2_with fail
  have R1 := hid (run_any x1 c1 aWords env1 (w1.alloc (.cells #[.slice x1 aWords.length c1] TProg)) env1_ok (by decide) (HTX1.out.touch ((Touch.refl _ _).alloc _)))
  rw [aRun] at R1
  refine R1.out.mono ?_
  rintro e w2 ⟨rfl, h2⟩
  have B1 := hid (touch_other h2 (heap_alloc_new w1 (.cells #[.slice x1 aWords.length c1] TProg)) (by simp))
  have HT2 := hid (HT1.out.trans ((Touch.refl [] w1).alloc (.cells #[.slice x1 aWords.length c1] TProg)) (by simp) |>.trans h2 (by simp))
  clear h2 R1 HT1 HTX1
  go_wp2_with fail
  refine (P3.out _).mono ?_
  rintro e w3 ⟨h3, v3, n3, rfl, hown3, hn3⟩
  obtain ⟨x3, c3, rfl, _, _, htx3⟩ := texts_own hown3 hn3 (by intro s hs; simp [bWords] at hs; subst hs; decide)
  have B3 := hid (touch_other h3 (heap_alloc_keep B1.out (.cells fine.cells TFault)) (by simp))
  have F3 := hid (touch_other h3 (heap_alloc_new w2 (.cells fine.cells TFault)) (by simp))
  have HT3 := hid ((HT2.out.alloc (.cells fine.cells TFault)).trans h3 (by simp))
  have HTX3 := hid htx3
  clear h3 htx3 hown3 hn3 P3 HT2 B1
  go_wp2_with fail
  have R2 := hid (run_any x3 c3 bWords env0 (w3.alloc (.cells #[.slice x3 bWords.length c3] TProg)) env0_ok (by decide) (HTX3.out.touch ((Touch.refl _ _).alloc _)))
  rw [bRun] at R2
  refine R2.out.mono ?_
  rintro e w4 ⟨rfl, h4⟩
  have b4 := touch_other h4 (heap_alloc_keep B3.out (.cells #[.slice x3 bWords.length c3] TProg)) (by simp)
  have f4 := touch_other h4 (heap_alloc_keep F3.out (.cells #[.slice x3 bWords.length c3] TProg)) (by simp)
  have HT4 := hid ((HT3.out.alloc (.cells #[.slice x3 bWords.length c3] TProg)).trans h4 (by simp))
  have b40 := fun o : Obj => cell_alloc b4 0 o
  have f40 := fun o : Obj => cell_alloc f4 0 o
  have f41 := fun o : Obj => cell_alloc f4 1 o
  have f42 := fun o : Obj => cell_alloc f4 2 o
  have hle : ((aWords.length : Int) == 3) = true := rfl
  clear b4 f4 h4 R2 HT3 HTX3 B3 F3
  go_wp2
  go_ret
  exact ⟨rfl, HT4.out.alloc _⟩
end Go.Proofs.Ytiglfdefeaddmaa
