/- The walk of CodecEnds. -/
import Derived.Test.YteaogpbbmekinaaDoorAlive
namespace Go.Proofs.YteaogpbbmekinaaDoor
open Go.RowKit Go.Lib

theorem ends_early (a : Int) (rest : ByteArray) (w : World) (htab : Tab w) (h : a < 0 ∨ 255 < a ∨ 300 < rest.size) :
    Calls Tryd.prog 11 #[.int .i64 a, .string rest] w fun e w' => e = .returned (.bool true) ∧ Touch [] w w' := by
  have C0 := hid (alive_true w htab)
  clear htab
  by_cases h0 : a < 0
  · clear h
    go_enter Tryd.func11, Tryd.ntmps11
    go_wp2_with (go_at_call 14; refine C0.out.mono ?_; rintro e w1 ⟨rfl, a1⟩)
    go_ret
    exact ⟨rfl, a1⟩
  · have h0' : 0 ≤ a := by omega
    clear h0
    by_cases h1 : 255 < a
    · clear h
      go_enter Tryd.func11, Tryd.ntmps11
      go_wp2_with (go_at_call 14; refine C0.out.mono ?_; rintro e w1 ⟨rfl, a1⟩)
      go_ret
      exact ⟨rfl, a1⟩
    · have h2 : a ≤ 255 := by omega
      have h3 : (300 : Int) < rest.size := by omega
      clear h h1
      go_enter Tryd.func11, Tryd.ntmps11
      go_wp2_with (go_at_call 14; refine C0.out.mono ?_; rintro e w1 ⟨rfl, a1⟩)
      go_ret
      exact ⟨rfl, a1⟩

theorem ends_full (n : Nat) (rest : ByteArray) (w : World) (htab : Tab w) (h1 : (n : Int) ≤ 255) (h3 : (rest.size : Int) ≤ 300) :
    Calls Tryd.prog 11 #[.int .i64 n, .string rest] w fun e w' => e = .returned (.bool true) ∧ Touch [] w w' := by
  have C0 := hid (alive_true w htab)
  clear htab
  have h2 : (0 : Int) ≤ n := by omega
  obtain ⟨bN, hbN⟩ : ∃ b : ByteArray, b = ⟨#[UInt8.ofNat n]⟩ := ⟨_, rfl⟩
  have HbN := hid hbN
  have hconv : ∀ w1 : World, (convert 31 9 (.slice (some ⟨w1.heap.size, 0, none⟩) 1 1)).run Tryd.prog (w1.alloc (.cells #[.int .u8 n] 5)) = .ok (.string bN) (w1.alloc (.cells #[.int .u8 n] 5)) := fun w1 => by
    rw [hbN]
    exact run_convert_bytes_back (P := Tryd.prog) _ 31 9 5 ⟨w1.heap.size, 0, none⟩ 1 [UInt8.ofNat n] rfl rfl rfl (fun j hj => by
      obtain rfl : j = 0 := by simpa using hj
      have hadd : (⟨w1.heap.size, 0, none⟩ : Addr).add 0 = ⟨w1.heap.size, 0, none⟩ := by unfold Addr.add; split <;> simp_all
      rw [hadd, cell_of (heap_alloc_new w1 (.cells #[.int .u8 n] 5)) 0]
      simp
      omega)
  have hb1 : bN.size ≤ 1 := by rw [hbN]; exact Nat.le_refl 1
  have hb2 : rest.size ≤ 300 := by omega
  clear hbN
  have hS : (bN ++ rest).data.toList = UInt8.ofNat n :: rest.data.toList := by rw [HbN.out]; simp
  have hv : val (iTake (UInt8.ofNat n :: rest.data.toList, 0) 1).1 = n ∧ (iTake (UInt8.ofNat n :: rest.data.toList, 0) 1).2 = (rest.data.toList, 0) := by
    constructor
    · simp [iTake, val]; omega
    · simp [iTake]
  have Hv := hid hv; clear hv
  have HS := hid hS; clear hS
  have C1 := hid (fun w1 : World => newIn_any (bN ++ rest) w1)
  have hl : (rest.data.toList.length : Int) = rest.size := by rw [list_len]
  have Hl := hid hl; clear hl
  have He : Hid (rest.data.toList ≠ [] → iEnd (rest.data.toList, 0) = ([], 6)) := fun h => by simp [iEnd, h]
  by_cases hr : rest.data.toList = []
  · obtain rfl : rest = ⟨#[]⟩ := str_eq hr
    clear hr
    go_enter Tryd.func11, Tryd.ntmps11
    go_wp2_with (go_at_call 14; refine C0.out.mono ?_; rintro e w1 ⟨rfl, a1⟩)
    have A1 := hid a1; clear a1
    go_wp2_with (go_at_call 29; refine (C1.out _).mono ?_; rintro e w2 ⟨rfl, b1, b2⟩)
    rw [HS.out, World.size_alloc] at b1
    have C2 := hid (inU8_st _ _ _ b1)
    rw [Hv.out.1, Hv.out.2] at C2
    have A2 : Hid (Touch [] w w2) := (A1.out.alloc _).trans b2 (by simp)
    have hsz : Hid (w.heap.size ≤ w1.heap.size) := A1.out.size
    clear b1 b2
    go_wp2_with (go_at_call 30; refine C2.out.mono ?_; rintro e w3 ⟨rfl, c1, c2⟩)
    have C3 := hid (left_st _ _ _ c1)
    have C4 := hid (end_st _ _ _ c1)
    have he0 : iEnd (([] : List UInt8), 0) = ([], 0) := by simp [iEnd]
    rw [he0] at C4
    clear he0
    rw [Hl.out] at C3
    have A3 : Hid (Touch [] w w3) := A2.out.trans c2 (by intro x hx; simp at hx; subst hx; right; have := hsz.out; omega)
    clear c1 c2
    go_wp2_with (first | (go_at_call 41; refine C3.out.mono ?_; rintro e w4 ⟨rfl, rfl⟩) | (go_at_call 42; refine C4.out.mono ?_; rintro e w4 ⟨rfl, d1, d2⟩))
    have A4 : Hid (Touch [] w w4) := A3.out.trans d2 (by intro x hx; simp at hx; subst hx; right; have := hsz.out; omega)
    go_ret
    exact ⟨rfl, A4.out⟩
  · have hr1 : rest.toList.isEmpty = false := by rw [ByteArray.toList_eq]; simpa using hr
    go_enter Tryd.func11, Tryd.ntmps11
    go_wp2_with (go_at_call 14; refine C0.out.mono ?_; rintro e w1 ⟨rfl, a1⟩)
    have A1 := hid a1; clear a1
    go_wp2_with (go_at_call 29; refine (C1.out _).mono ?_; rintro e w2 ⟨rfl, b1, b2⟩)
    rw [HS.out, World.size_alloc] at b1
    have C2 := hid (inU8_st _ _ _ b1)
    rw [Hv.out.1, Hv.out.2] at C2
    have A2 : Hid (Touch [] w w2) := (A1.out.alloc _).trans b2 (by simp)
    have hsz : Hid (w.heap.size ≤ w1.heap.size) := A1.out.size
    clear b1 b2
    go_wp2_with (go_at_call 30; refine C2.out.mono ?_; rintro e w3 ⟨rfl, c1, c2⟩)
    have C3 := hid (left_st _ _ _ c1)
    have C4 := hid (end_st _ _ _ c1)
    rw [He.out hr] at C4
    rw [Hl.out] at C3
    have A3 : Hid (Touch [] w w3) := A2.out.trans c2 (by intro x hx; simp at hx; subst hx; right; have := hsz.out; omega)
    clear c1 c2
    go_wp2_with (first | (go_at_call 41; refine C3.out.mono ?_; rintro e w4 ⟨rfl, rfl⟩) | (go_at_call 42; refine C4.out.mono ?_; rintro e w4 ⟨rfl, d1, d2⟩))
    have C5 := hid (err_st _ _ _ d1)
    have A4 : Hid (Touch [] w w4) := A3.out.trans d2 (by intro x hx; simp at hx; subst hx; right; have := hsz.out; omega)
    clear d1 d2
    go_wp2_with (go_at_call 40; refine C5.out.mono ?_; rintro e w5 ⟨rfl, rfl⟩)
    go_ret
    exact ⟨rfl, A4.out⟩

theorem walk_CodecEnds (a : Int) (_wa : (Lit.int .i64 a).wf = true) (rest : ByteArray) (_wr : rest.size ≤ maxLen) (w : World) (htab : Tab w) :
    Calls Tryd.prog 11 #[.int .i64 a, .string rest] w fun e w' => e = .returned (.bool true) ∧ Touch [] w w' := by
  by_cases h : a < 0 ∨ 255 < a ∨ 300 < rest.size
  · exact ends_early a rest w htab h
  · obtain ⟨n, rfl⟩ := Int.eq_ofNat_of_zero_le (show 0 ≤ a by omega)
    exact ends_full n rest w htab (by omega) (by omega)
end Go.Proofs.YteaogpbbmekinaaDoor
