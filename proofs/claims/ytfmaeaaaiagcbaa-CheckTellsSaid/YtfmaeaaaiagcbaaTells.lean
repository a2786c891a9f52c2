/- The walk of CheckTells. -/
import Derived.Test.YtfmaeaaaiagcbaaChke
import Derived.Test.YtfmaeaaaiagcbaaBookb
namespace Go.Proofs.Ytfmaeaaaiagcbaa
open Go.RowKit Go.Lib

def joinB (l : List ByteArray) : ByteArray := ⟨(cat l).toArray⟩
theorem joinB_list (l : List ByteArray) : (joinB l).data.toList = cat l := by simp [joinB]
theorem joinB_size (l : List ByteArray) : (joinB l).size = (cat l).length := by rw [← list_len, joinB_list]
theorem joinB_snoc (l : List ByteArray) (s : ByteArray) : joinB (l ++ [s]) = joinB l ++ s := by
  apply bytes_ext
  rw [joinB_list, cat_snoc]
  simp [joinB_list]
theorem cat_take_le (l : List ByteArray) (k : Nat) : (cat (l.take k)).length ≤ (cat l).length := by
  have h : cat l = cat (l.take k) ++ cat (l.drop k) := by
    unfold cat
    rw [← List.flatMap_append, List.take_append_drop]
  rw [h, List.length_append]; omega
theorem cat_get_le (l : List ByteArray) (k : Nat) (h : k < l.length) : (cat (l.take k)).length + l[k].size ≤ (cat l).length := by
  have h1 := cat_take_le l (k + 1)
  rw [List.take_succ_eq_append_getElem h, cat_snoc, List.length_append, list_len] at h1
  exact h1

theorem open_both (b : ByteArray) (hs : b.size ≤ 100000) : ∃ (u : ByteArray) (f : Int), (∀ w, Calls Try.prog 10 #[.string b] w fun e w' => e = .returned (.tuple #[.string u, .int .i64 f]) ∧ Touch [] w w') ∧
    (∀ w, Calls Try.prog 11 #[.string b] w fun e w' => e = .returned (.tuple #[.string u, .int .i64 f]) ∧ Touch [] w w') := by
  by_cases h : b.size < 4
  · refine ⟨⟨#[]⟩, 5, fun w => (open_short b w (by omega)).mono ?_, fun w => (refOpen_short b w (by omega)).mono ?_⟩
    · rintro e w' ⟨rfl, rfl⟩; exact ⟨rfl, Touch.refl _ _⟩
    · rintro e w' ⟨rfl, rfl⟩; exact ⟨rfl, Touch.refl _ _⟩
  · have h1 := fun w => open_long b w (by omega) hs
    have h2 := fun w => refOpen_long b w (by omega) hs
    unfold openOf at h1 h2
    by_cases he : b.extract 0 4 = ⟨(four (crc (b.extract 4 b.size).data.toList)).toArray⟩
    · simp only [if_pos he] at h1 h2
      exact ⟨_, _, h1, h2⟩
    · simp only [if_neg he] at h1 h2
      exact ⟨_, _, h1, h2⟩

set_option maxHeartbeats 4000000 in
theorem walk_CheckTells (v : Value) (l : List ByteArray) (b : ByteArray) (_wb : b.size ≤ maxLen) (w : World) (hv : Strs w v l) :
    Calls Try.prog 3 #[v, .string b] w fun e w' => e = .returned (.bool true) ∧ Touch [] w w' := by
  obtain ⟨x, c, rfl, hl, hx, hn⟩ := hv
  have HX := hid hx
  have HL := hid hl
  have HN := hid hn
  clear hx hl hn
  go_enter Try.func3, Try.ntmps3
  go_wp2_with fail
  refine (short_any 60 6000 x c l w HL.out HX.out (by decide) (by decide) (by decide)).mono ?_
  rintro e w1 ⟨r, rfl, a1, hr⟩
  have A1 := hid a1
  have C0 := hid (alive_true w1)
  clear a1
  cases r with
  | false =>
    clear hr
    go_wp2_with (go_at_call 8; refine C0.out.mono ?_; rintro e w2 ⟨rfl, a2⟩)
    go_ret
    exact ⟨rfl, A1.out.trans a2 (by simp)⟩
  | true =>
    obtain ⟨h60, h6000⟩ := hr rfl
    by_cases hb : (3000 : Int) < b.size
    · go_wp2_with (go_at_call 8; refine C0.out.mono ?_; rintro e w2 ⟨rfl, a2⟩)
      go_ret
      exact ⟨rfl, A1.out.trans a2 (by simp)⟩
    · have hb2 : (b.size : Int) ≤ 3000 := by omega
      clear hb C0
      go_wp2
      go_loop [5, 6] (fun tv iv => ∃ k : Nat, k ≤ l.length ∧ iv = .int .i64 k ∧ tv = .string (joinB (l.take k))) (fun _ iv => l.length - (RowKit.intOf iv).toNat)
      case atStart => exact ⟨0, Nat.zero_le _, rfl, rfl⟩
      case round =>
        obtain ⟨k, hk, rfl, rfl⟩ := hrel
        by_cases hlt : k < l.length
        · obtain ⟨p, off, rfl, g1, _⟩ := HX.out k hlt
          have g2 := A1.out.cell g1
          have hj : Hid (joinB (l.take (k + 1)) = joinB (l.take k) ++ l[k]) := by rw [List.take_succ_eq_append_getElem hlt, joinB_snoc]; rfl
          have hz : (joinB (l.take k)).size + l[k].size ≤ 9223372036854775807 := by have := cat_get_le l k hlt; rw [joinB_size]; omega
          clear g1
          generalize l[k] = s at *
          generalize joinB (l.take k) = t at *
          have hl2 : decide (k < l.length) = true := by simpa using hlt
          go_wp2
          go_round
          case rel => exact ⟨k + 1, by omega, by go_num, by rw [hj.out]⟩
          case measure => simp [RowKit.intOf]; omega
        · have hke : l.take k = l := List.take_of_length_le (by omega)
          rw [hke]
          have hl2 : decide (k < l.length) = false := by simpa using hlt
          have CL := hid (lent_any x c l w1 (by omega) (HX.out.touch A1.out) HN.out)
          obtain ⟨u, f, hO, hRO⟩ := open_both b (by omega)
          have CO := hid hO
          have CR := hid hRO
          have CS := hid fun (w9 : World) => seal_any b w9 (by omega)
          have CT := hid fun (w9 : World) => refSeal_any b w9 (by omega)
          have CM := hid fun (w9 : World) => refSum_any (joinB l) w9 (by rw [joinB_size]; unfold maxLen; omega)
          rw [joinB_list] at CM
          have CN := hid fun (w9 : World) (g : Nat) (cap : Nat) (h : Lent w9 g cap l) => sum_some g 0 cap l w9 (by omega) h.2.2.1
          have CY := hid fun (w9 : World) (g : Nat) (cap : Nat) (h : Lent w9 g cap l) (h2 : Touch [] w w9) => staysTexts_any g cap x c l w9 (by omega) h (HX.out.touch h2)
          have CA := hid fun (w9 : World) => alive_true w9
          generalize sealed b = sb at *
          generalize crc (cat l) = n at *
          generalize joinB l = t at *
          clear hke hlt hk hO hRO h6000 h60 hb2
          go_wp2_with (first | (go_at_call 9; refine CL.out.mono ?_; rintro e w2 ⟨g, cap, rfl, hg, hL2, a2⟩; have A2 : Hid (Touch [] w w2) := A1.out.trans a2 (by simp)) | (go_at_call 10; refine (CO.out _).mono ?_; rintro e w3 ⟨rfl, a3⟩; have L3 := hid (hL2.touch a3); have A3 : Hid (Touch [] w w3) := A2.out.trans a3 (by simp)) | (go_at_call 11; refine (CR.out _).mono ?_; rintro e w4 ⟨rfl, a4⟩; have L4 := hid (L3.out.touch a4); have A4 : Hid (Touch [] w w4) := A3.out.trans a4 (by simp)) | (go_at_call 8; refine (CA.out _).mono ?_; rintro e w5 ⟨rfl, a5⟩; have L5 := hid (L4.out.touch a5); have A5 : Hid (Touch [] w w5) := A4.out.trans a5 (by simp)) | (go_at_call 12; refine (CN.out _ _ _ L5.out).mono ?_; rintro e w6 ⟨rfl, a6⟩; have L6 := hid (L5.out.touch a6); have A6 : Hid (Touch [] w w6) := A5.out.trans a6 (by simp)) | (go_at_call 13; refine (CM.out _).mono ?_; rintro e w60 ⟨rfl, rfl⟩) | (go_at_call 14; refine (CS.out _).mono ?_; rintro e w7 ⟨rfl, a7⟩; have L7 := hid (L6.out.touch a7); have A7 : Hid (Touch [] w w7) := A6.out.trans a7 (by simp)) | (go_at_call 15; refine (CT.out _).mono ?_; rintro e w8 ⟨rfl, a8⟩; have L8 := hid (L7.out.touch a8); have A8 : Hid (Touch [] w w8) := A7.out.trans a8 (by simp)) | (go_at_call 16; refine (CY.out _ _ _ L8.out A8.out).mono ?_; rintro e w9 ⟨rfl, a9⟩; have A9 : Hid (Touch [] w w9) := A8.out.trans a9 (by simp)))
          go_ret
          exact ⟨rfl, A9.out⟩
end Go.Proofs.Ytfmaeaaaiagcbaa
