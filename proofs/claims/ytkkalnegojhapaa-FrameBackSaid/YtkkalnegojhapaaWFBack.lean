/- FrameBack, walked. -/
import Derived.Test.YtkkalnegojhapaaFrs
namespace Go.Proofs.Ytkkalnegojhapaa
open Go.RowKit Go.Lib Go.ChangeShapes
set_option maxRecDepth 100000

set_option maxHeartbeats 4000000 in
theorem fback_full (x : Option Addr) (c : Nat) (l : List ByteArray) (w : World) (hc : TextsX w x l) (hl : l.length ≤ 9223372036854775807) :
    Calls Try.prog 6 #[.slice x l.length c] w fun e w' => e = .returned (.bool true) ∧ Touch [] w w' := by
  have HC := hid hc
  have CS := hid (fun w (h : TextsX w x l) => short_any 30 3000 x c l w hl h (by decide) (by decide) (by decide))
  clear hc hl
  go_enter Try.func6, Try.ntmps6
  go_wp2_with fail
  refine (CS.out _ HC.out).mono ?_
  rintro e w1 ⟨r, rfl, t1, hr⟩
  have T1 := hid t1
  have C0 := hid (fun w => alive8_true w)
  clear t1
  cases r with
  | false =>
    clear hr
    go_wp2_with (go_at_call 8; refine (C0.out _).mono ?_; rintro e w2 ⟨rfl, a2⟩)
    go_ret
    exact ⟨rfl, T1.out.trans a2 (by simp)⟩
  | true =>
    obtain ⟨h30, h3000⟩ := hr rfl
    have H3 := hid h3000
    clear hr h3000
    go_wp2
    go_loopw [3, 4] (fun sv iv wr => ∃ k : Nat, k ≤ l.length ∧ iv = .int .i64 k ∧ sv = .string (frS (l.take k)) ∧ Touch [] w wr) (fun _ iv _ => l.length - (RowKit.intOf iv).toNat)
    case atStart => exact ⟨0, Nat.zero_le _, rfl, rfl, T1.out⟩
    case round =>
      obtain ⟨k, hk, rfl, rfl, ht⟩ := hrel
      have HT := hid ht
      clear ht
      by_cases hlt : k < l.length
      · obtain ⟨b, off, rfl, g1, _⟩ := HC.out k hlt
        have g2 := HT.out.cell g1
        clear g1
        have hz : l[k].size ≤ 3000 := by have := get_le hlt; have := H3.out; omega
        have hsn := hid (frS_snoc hlt (by omega))
        have hfz := frS_size (l.take k)
        have hct := cat_take_le l k
        have hfb : ¬ 9223372036854775807 < (frS (l.take k)).size + (frB l[k]).size := by
          have := (frB_ok (s := l[k]) (by omega)).2.2
          rw [hfz, List.length_take]; have := H3.out; omega
        obtain ⟨_, hE, hB⟩ := frB_ok (s := l[k]) (by omega)
        have CP := hid (fun w => frPut_any l[k] w (by omega))
        rw [hE] at CP
        have q1 : (((frB l[k]).size : Int) != (l[k].size : Int) + 12) = false := by rw [bne_eq_false_iff_eq]; omega
        have hz2 : (l[k].size : Int) ≤ 3000 := by omega
        clear hE hB hfz hct
        generalize frS (l.take k) = S at *
        generalize frB l[k] = X at *
        generalize l[k] = s at *
        have hl2 : decide (k < l.length) = true := by simpa using hlt
        have hklt : (k : Int) < l.length := by omega
        go_wp2_with (go_at_call 9; refine (CP.out _).mono ?_; rintro e w2 ⟨rfl, a2⟩; have g3 := a2.cell g2)
        go_roundw
        case rel => exact ⟨k + 1, hlt, by go_num, by rw [← hsn.out], HT.out.trans a2 (by simp)⟩
        case measure => simp [RowKit.intOf]; omega
      · obtain rfl : k = l.length := by omega
        have hl2 : decide (l.length < l.length) = false := by simp
        rw [List.take_of_length_le (Nat.le_refl _)]
        clear hlt hk
        go_wp2
        go_loopw [3, 7] (fun sv iv wr => ∃ (k : Nat) (z : Int), k ≤ l.length ∧ iv = .int .i64 z ∧ z = (k : Int) - 1 ∧ sv = .string (frS (l.take k)) ∧ Touch [] w wr) (fun _ iv _ => (RowKit.intOf iv + 1).toNat)
        case atStart => exact ⟨l.length, _, Nat.le_refl _, rfl, rfl, by rw [List.take_of_length_le (Nat.le_refl _)], HT.out⟩
        case round =>
          obtain ⟨k, z, hk, rfl, rfl, rfl, ht⟩ := hrel
          have HT := hid ht
          clear ht
          cases k with
          | zero =>
            have hz0 : ((0 : Nat) : Int) - 1 = -1 := rfl
            rw [show frS (l.take 0) = ⟨#[]⟩ from rfl]
            have CL := hid (fun w => frLast_any ⟨#[]⟩ w (by decide))
            rw [show LastV ⟨#[]⟩ = .tuple #[.string ⟨#[]⟩, .int .i64 0, .int .i64 5] from rfl] at CL
            go_wp2_with (first | (go_at_call 13; refine (CL.out _).mono ?_; rintro e w2 ⟨rfl, a2⟩) | (go_at_call 8; refine (C0.out _).mono ?_; rintro e w3 ⟨rfl, a3⟩))
            go_ret
            exact ⟨rfl, (HT.out.trans a2 (by simp)).trans a3 (by simp)⟩
          | succ j =>
            have hlt : j < l.length := by omega
            have hzj : ((j + 1 : Nat) : Int) - 1 = (j : Int) := by omega
            rw [hzj]
            obtain ⟨b, off, rfl, g1, _⟩ := HC.out j hlt
            have g2 := HT.out.cell g1
            clear g1
            have hz : l[j].size ≤ 3000 := by have := get_le hlt; have := H3.out; omega
            have hcz := snoc_size hlt
            have hcut := hid (cut_take hlt)
            have hct := cat_take_le l (j + 1)
            have hfz := frS_size (l.take (j + 1))
            have hbig : (frS (l.take (j + 1))).size ≤ 1000000000 := by rw [hfz, List.length_take]; have := H3.out; omega
            have CL := hid (fun w => frLast_any (frS (l.take (j + 1))) w hbig)
            unfold LastV at CL
            rw [last_take hlt (by omega)] at CL
            simp only [bytesT_data] at CL
            clear hfz hct
            generalize l[j] = s at *
            obtain ⟨m, hm⟩ : ∃ m, m = s.size + 12 := ⟨_, rfl⟩
            rw [← hm] at CL hcz
            generalize frS (l.take (j + 1)) = S2 at *
            have hp : (frS (l.take j)).size ≤ S2.size := by omega
            have hw1 : wrap64 ((S2.size : Int) - (m : Int)) = (((frS (l.take j)).size : Nat) : Int) := by unfold wrap64; omega
            have sl1 := sl_to S2 (frS (l.take j)).size (((frS (l.take j)).size : Nat) : Int) rfl hp
            rw [hcut.out] at sl1
            have hS : Hid (frS (l.take j) = frS (l.take j)) := rfl
            generalize hS1 : frS (l.take j) = S1 at *
            have HS1 := hid hS1
            have q1 : ((m : Int) != (s.size : Int) + 12) = false := by rw [bne_eq_false_iff_eq]; omega
            have q2 : (s.toList == s.toList) = true := by simp
            have hjl : (j : Int) < l.length := by omega
            have hl3 : decide (j < l.length) = true := by simpa using hlt
            have hsz : (s.size : Int) ≤ 3000 := by omega
            clear hcz hbig hm hp hS1 hS hcut hk hzj hl2
            go_wp2_with (go_at_call 13; refine (CL.out _).mono ?_; rintro e w2 ⟨rfl, a2⟩; have g3 := a2.cell g2)
            go_roundw
            case rel => exact ⟨j, _, by omega, rfl, by go_num, by rw [HS1.out], HT.out.trans a2 (by simp)⟩
            case measure => simp [RowKit.intOf]

theorem walk_FrameBack (v : Value) (l : List ByteArray) (w : World) (hv : Strs w v l) :
    Calls Try.prog 6 #[v] w fun e w' => e = .returned (.bool true) ∧ Touch [] w w' := by
  obtain ⟨x, c, rfl, hl, hc, _⟩ := hv
  exact fback_full x c l w hc hl
end Go.Proofs.Ytkkalnegojhapaa
