/- A log's small functions: file, fails, clones; what is told of it. -/
import Derived.Test.YtjjocnkockeacaaGreatDoorYLc11
import Derived.Test.YtjjocnkockeacaaGreatDoorZi
import Derived.Test.YtjjocnkockeacaaGreatDoorYCb11
import Derived.Test.YtjjocnkockeacaaGreatDoorHeld
namespace Go.Proofs.YtjjocnkockeacaaGreatDoor
open Go.RowKit Go.Lib
set_option maxRecDepth 100000

/-! ### file -/
theorem digits_small (n : Nat) (h : n < 100) (w : World) : Calls Tryz.prog 79 #[.int .i64 n] w fun e w' => e = .returned (.string ⟨(Lib.decDigits n).toArray⟩) ∧ w' = w := by
  have C := hid (Tryz.strconv_Itoa_small n h w)
  clear h
  go_enter Tryz.func79, Tryz.ntmps79
  go_wp2_with (go_at_call 110; refine C.out.mono ?_; rintro e w1 ⟨rfl, rfl⟩)
  go_ret
  exact ⟨rfl, rfl⟩
def dgB (n : Nat) : ByteArray := ⟨(Lib.decDigits n).toArray⟩
theorem dgB_size : ∀ n < 100, (dgB n).size ≤ 2 := by decide +kernel
theorem name_of : ∀ n < 100, (nmP ++ ⟨(Lib.repeatL [48] (6 - (dgB n).size)).toArray⟩) ++ dgB n = nameK n := by decide +kernel
theorem file_any {w : World} {b d : Nat} {S : Lg} {pv lv : Value} (h : w.heap[b]? = some (.cells (lgCells d S pv lv) tLog (0, 0))) (n : Nat) (hn : n < 100) :
    Calls Tryz.prog 41 #[.pointer (some ⟨b, 0, none⟩), .int .i64 n] w fun e w' => e = .returned (.string (nameK n)) ∧ Touch [] w w' := by
  obtain ⟨-, c1, -⟩ := lg_cell h
  have D := hid (digits_small n hn w)
  have hz := dgB_size n hn
  have hnm := hid (name_of n hn)
  have hR := hid fun w => Tryz.strings_Repeat ⟨#[48]⟩ (6 - (dgB n).size) w (by omega) (by
    rw [show (⟨#[48]⟩ : ByteArray).size = 1 from rfl]; omega)
  rw [show (⟨(Lib.decDigits n).toArray⟩ : ByteArray) = dgB n from rfl] at D
  have hr : ((6 - (dgB n).size : Nat) : Int) = 6 - ((dgB n).size : Int) := by omega
  rw [hr] at hR
  rw [show (⟨#[48]⟩ : ByteArray).data.toList = [48] from rfl] at hR
  obtain ⟨Z, hZ⟩ : ∃ Z : ByteArray, Z = ⟨(Lib.repeatL [48] (6 - (dgB n).size)).toArray⟩ := ⟨_, rfl⟩
  rw [← hZ] at hR hnm
  have hzs : Z.size ≤ 7 := by
    have e := congrArg ByteArray.size hnm.out
    simp only [ByteArray.size_append, nameK_size] at e
    omega
  clear hZ h hr
  generalize dgB n = dg at *
  generalize nameK n = nm at *
  have hps : nmP.size = 1 := rfl
  have HN := hid hnm.out
  clear hnm
  generalize nmP = pp at *
  obtain ⟨ι, f, ⟨θ0, hθ0⟩, inst, FT, FE⟩ := held_class w
  have F1 : ∀ θ, (f θ).cell? ⟨b, 1, none⟩ = some (.string pp) := fun θ => (FT.out θ).cell c1
  have FR := hid fun θ => (hR.out (f θ)).mono fun e w'' ⟨he, h2⟩ => And.intro he (FE.out w'' ((FT.out θ).trans (Touch.of_below h2) (by simp)))
  have z1 : ¬ 9223372036854775807 < pp.size + Z.size := by omega
  have z2 : ¬ 9223372036854775807 < (pp ++ Z).size + dg.size := by rw [ByteArray.size_append]; omega
  go_enter Tryz.func41, Tryz.ntmps41
  go_wp2_with (go_at_call 79; refine D.out.mono ?_; rintro e w1 ⟨rfl, rfl⟩)
  refine wp_region_held f θ0 (by kernel_rfl) (by kernel_rfl) hθ0 ?_
  repeat go_big_quiet_step (exact FR.out _)
  refine wpQuiet_nil ?_
  rintro _ ⟨θ, rfl⟩
  have TT := hid (FT.out θ)
  go_wp2
  go_ret
  exact ⟨by rw [HN.out]; rfl, TT.out⟩
theorem lfails_full {w : World} {b : Nat} : Calls Tryz.prog 38 #[.pointer (some ⟨b, 0, none⟩), .int .i64 20] w fun e w' => e = .returned (.int .i64 20) ∧ w' = w := by
  go_enter Tryz.func38, Tryz.ntmps38
  go_wp2
  go_ret
  exact ⟨rfl, rfl⟩
theorem lfails_any {w : World} {b d : Nat} {S : Lg} {pv lv : Value} (h : w.heap[b]? = some (.cells (lgCells d S pv lv) tLog (0, 0))) (x : Int) (hx : x ≠ 20) :
    Calls Tryz.prog 38 #[.pointer (some ⟨b, 0, none⟩), .int .i64 x] w fun e w' => e = .returned (.int .i64 x) ∧ w' = w.setCell ⟨b, 9, none⟩ (.int .i64 x) := by
  obtain ⟨-, -, -, -, -, -, -, -, -, c9⟩ := lg_cell h
  have f9 := free_of h 9
  have hx' : (x != 20) = true := by simpa using hx
  clear h
  go_enter Tryz.func38, Tryz.ntmps38
  go_wp2
  go_ret
  exact ⟨rfl, rfl⟩
/-! ### What is told of it -/
theorem llen_any {w : World} {b d : Nat} {S : Lg} {pv lv : Value} (h : w.heap[b]? = some (.cells (lgCells d S pv lv) tLog (0, 0))) :
    Calls Tryz.prog 17 #[.pointer (some ⟨b, 0, none⟩)] w fun e w' => e = .returned (.int .i64 S.bodies.length) ∧ w' = w := by
  obtain ⟨-, -, -, -, -, -, c6, -⟩ := lg_cell h
  clear h
  go_enter Tryz.func17, Tryz.ntmps17
  go_wp2
  go_ret
  exact ⟨rfl, rfl⟩
theorem lmarked_any {w : World} {b d : Nat} {S : Lg} {pv lv : Value} (h : w.heap[b]? = some (.cells (lgCells d S pv lv) tLog (0, 0))) :
    Calls Tryz.prog 19 #[.pointer (some ⟨b, 0, none⟩)] w fun e w' => e = .returned (.int .i64 (min (S.mark : Int) S.bodies.length)) ∧ Touch [] w w' := by
  obtain ⟨-, -, -, -, -, -, -, -, c8, -⟩ := lg_cell h
  have C := hid fun w' (t : Touch [] w w') => llen_any (t.heap h (by simp))
  clear h
  obtain ⟨ι, f, ⟨θ0, hθ0⟩, inst, FT, FE⟩ := held_class w
  have F1 : ∀ θ, (f θ).cell? ⟨b, 8, none⟩ = some (.int .i64 S.mark) := fun θ => (FT.out θ).cell c8
  have FR := hid fun θ => (C.out (f θ) (FT.out θ)).mono fun e w'' ⟨he, h2⟩ => And.intro he (FE.out w'' (by rw [h2]; exact FT.out θ))
  go_enter Tryz.func19, Tryz.ntmps19
  go_wp2_with fail
  refine wp_region_held f θ0 (by kernel_rfl) (by kernel_rfl) hθ0 ?_
  repeat go_big_quiet_step (exact FR.out _)
  refine wpQuiet_nil ?_
  rintro _ ⟨θ, rfl⟩
  have TT := hid (FT.out θ)
  go_wp2
  go_ret
  exact ⟨rfl, TT.out⟩
/-! ### clones -/
theorem clones_any {w : World} {x : Option Addr} {c n : Nat} {l : List ByteArray} (h : TxR w x l) (hl : l.length = n) (hn : n ≤ 100000) (hs : ∀ s ∈ l, s.size ≤ 281474976710656) :
    Calls Tryz.prog 52 #[.slice x n c] w fun e w' => ∃ v, e = .returned v ∧ w'.ownsRow w.heap.size tStg 1 v n (txtVals l) ∧ Touch [] w w' := by
  have H := hid h
  have HS := hid hs
  clear h hs
  go_enter Tryz.func52, Tryz.ntmps52
  go_wp2_with fail
  go_loopw [3, 8] (fun sv iv wr => ∃ (i : Nat) (sx : Option Addr) (sc : Nat), i ≤ n ∧ iv = .int .i64 i ∧ sv = .slice sx i sc ∧ Hid (wr.ownsRow w.heap.size tStg 1 (.slice sx i sc) i (txtVals (l.take i)) ∧ Touch [] w wr)) (fun _ iv _ => n - (RowKit.intOf iv).toNat)
  case atStart => exact ⟨0, none, 0, Nat.zero_le _, rfl, rfl, hid ⟨World.ownsRow_nil _ _ _ _, Touch.refl _ _⟩⟩
  case round =>
    obtain ⟨i, sx, sc, hi, rfl, rfl, I⟩ := hrel
    by_cases hlt : i < n
    · have hlt' : decide (i < n) = true := by simpa using hlt
      obtain ⟨g, off, rfl, g0⟩ := H.out i (by omega)
      have g1 := I.out.2.cell g0
      have CC := hid (fun w => clone_any l[i] w (HS.out _ (List.getElem_mem _)))
      have hst : Hid (txtVals (l.take (i + 1)) = txtVals (l.take i) ++ [.string l[i]]) := hid (by rw [List.take_succ_eq_append_getElem (by omega), ← txtVals_app]; rfl)
      clear g0
      generalize l[i] = s at *
      go_wp2_with (first
        | (go_at_call 32; with_reducible refine (CC.out _).mono ?_; rintro e wb ⟨rfl, tb⟩; have P3 := hid (own_touch I.out.1 tb (by simp)); have TB := hid (I.out.2.trans tb (by simp)); clear tb)
        | (at_builtin; refine wpList_append_lies _ rfl _ _ 43 rfl w.heap.size tStg _ (.string ⟨#[]⟩) 1 16 rfl rfl rfl rfl rfl rfl (by omega) _ i _ rfl (P3.out.alloc _) ⟨wb.heap.size, 0, none⟩ 1 1 [.string s] rfl rfl (World.news_of_block (heap_alloc_new wb _)) (by intro u hu; simp at hu; subst hu; rfl) (by omega) (by unfold maxLen; omega) (by omega) (by have := TB.out.size; simp; omega) _ rfl ?_; intro gg cap w3 hown hgrow hat hlt3; have O3 := hid (And.intro hown (And.intro hgrow hat)); clear hown hgrow hat hlt3))
      go_roundw
      case rel =>
        refine ⟨i + 1, some ⟨gg, 0, none⟩, cap, by omega, by go_num, by go_num, hid ⟨?_, (TB.out.alloc _).grown O3.out.2.1 (fun k hk => .inr (own_base I.out.1 k (Option.mem_toList.2 hk)))⟩⟩
        rw [hst.out]
        exact O3.out.1
      case measure => simp [RowKit.intOf]; omega
    · obtain rfl : i = n := by omega
      have hI := hid I.out
      rw [List.take_of_length_le (by omega)] at hI
      clear I
      go_wp2
      go_ret
      exact ⟨_, rfl, hI.out.1, hI.out.2⟩
end Go.Proofs.YtjjocnkockeacaaGreatDoor
