/- What name.Unlink and the laws' own Unlink, name.Link, OfCategory and OfType tell. -/
import Derived.Test.YtmgglmoiepjebaaNCut
import Derived.Test.YtmgglmoiepjebaaRefNum
import Derived.Lib.LaidTab
namespace Go.Proofs.Ytmgglmoiepjebaa
set_option maxRecDepth 100000
open Go.RowKit Go.Lib

theorem numSpec_form (l : List UInt8) : ∃ a e : Int, numSpec l = .tuple #[.int .i64 a, .int .i64 e] := by
  unfold numSpec
  split
  · exact ⟨_, _, rfl⟩
  · unfold numRes
    split
    · exact ⟨_, _, rfl⟩
    · exact ⟨_, _, rfl⟩

/-- What a link leads to, its number read as a, with the error e. -/
def unlV (l : List UInt8) (a e : Int) : Value := if e = 0 ∧ 0 ≤ a ∧ strm (tlB 64 l) = true then .tuple #[.int .i64 a, .string (txt (tlB 64 l)), .int .i64 0] else .tuple #[.int .i64 0, .string ⟨#[]⟩, .int .i64 6]

theorem unl_any (s : ByteArray) (a e : Int) (w : World) (hs : s.size ≤ 281474976710656) (hN : numSpec (hdB 64 s.data.toList) = .tuple #[.int .i64 a, .int .i64 e]) :
    Calls Try.prog 34 #[.string s] w fun x w' => x = .returned (unlV s.data.toList a e) ∧ Touch [] w w' := by
  have hsl := list_len s
  obtain ⟨H, hH⟩ : ∃ H, H = txt (hdB 64 s.data.toList) := ⟨_, rfl⟩
  obtain ⟨T, hT⟩ : ∃ T, T = txt (tlB 64 s.data.toList) := ⟨_, rfl⟩
  have hHl : H.data.toList = hdB 64 s.data.toList := by rw [hH]; rfl
  have hTl : T.data.toList = tlB 64 s.data.toList := by rw [hT]; rfl
  have hHs : H.size ≤ s.size := by rw [hH, txt_size]; have := hdB_le 64 s.data.toList; omega
  have hTs : T.size ≤ s.size := by rw [hT, txt_size]; have := tlB_le 64 s.data.toList; omega
  have C1 := hid (cut_at s 64 w (by omega))
  unfold CutPost at C1
  rw [← hH, ← hT] at C1
  have C2 := hid (fun w => number_any H w (by omega))
  rw [hHl, hN] at C2
  have C3 := hid (fun w => stm_any T w)
  rw [hTl] at C3
  have C4 := hid (fun w => ncl_any T w (by omega))
  generalize decide (64 ∈ s.data.toList) = f at *
  have Hbad := fun (h : ¬ (e = 0 ∧ 0 ≤ a ∧ strm (tlB 64 s.data.toList) = true)) => hid (show unlV s.data.toList a e = .tuple #[.int .i64 0, .string ⟨#[]⟩, .int .i64 6] by unfold unlV; rw [if_neg h])
  by_cases he : e = 0
  · by_cases ha : 0 ≤ a
    · by_cases hb : strm (tlB 64 s.data.toList) = true
      · have hv := hid (show unlV s.data.toList a e = .tuple #[.int .i64 a, .string T, .int .i64 0] by unfold unlV; rw [if_pos ⟨he, ha, hb⟩, hT])
        rw [hb] at C3
        clear hsl hH hT hHl hTl hHs hTs hN hb hs Hbad
        go_enter Try.func34, Try.ntmps34
        go_wp2_with (first | (go_at_call 43; refine C1.out.mono ?_; rintro e w1 ⟨rfl, n, rfl⟩) | (go_at_call 44; refine (C2.out _).mono ?_; rintro e w2 ⟨rfl, a2⟩) | (go_at_call 45; refine (C3.out _).mono ?_; rintro e w3 ⟨rfl, a3⟩) | (go_at_call 32; refine (C4.out _).mono ?_; rintro e w4 ⟨rfl, a4⟩))
        refine bodyPost_ret (v := .tuple #[.int .i64 a, .string T, .int .i64 0]) (by simp [results, Try.results34, go_sem]) rfl ⟨by rw [hv.out], ((((Touch.refl _ _).drewN n).trans a2 (by simp)).trans a3 (by simp)).trans a4 (by simp)⟩
      · have hb2 : strm (tlB 64 s.data.toList) = false := by simpa using hb
        have hv := Hbad (fun h => hb h.2.2)
        rw [hb2] at C3
        clear hsl hH hT hHl hTl hHs hTs hN hb hb2 hs Hbad
        go_enter Try.func34, Try.ntmps34
        go_wp2_with (first | (go_at_call 43; refine C1.out.mono ?_; rintro e w1 ⟨rfl, n, rfl⟩) | (go_at_call 44; refine (C2.out _).mono ?_; rintro e w2 ⟨rfl, a2⟩) | (go_at_call 45; refine (C3.out _).mono ?_; rintro e w3 ⟨rfl, a3⟩) | (go_at_call 32; refine (C4.out _).mono ?_; rintro e w4 ⟨rfl, a4⟩))
        refine bodyPost_ret (v := .tuple #[.int .i64 0, .string ⟨#[]⟩, .int .i64 6]) (by simp [results, Try.results34, go_sem]) rfl ⟨by rw [hv.out], (((Touch.refl _ _).drewN n).trans a2 (by simp)).trans a3 (by simp)⟩
    · have hv := Hbad (fun h => ha h.2.1)
      have ha2 : a < 0 := by omega
      clear hsl hH hT hHl hTl hHs hTs hN hs Hbad ha
      go_enter Try.func34, Try.ntmps34
      go_wp2_with (first | (go_at_call 43; refine C1.out.mono ?_; rintro e w1 ⟨rfl, n, rfl⟩) | (go_at_call 44; refine (C2.out _).mono ?_; rintro e w2 ⟨rfl, a2⟩) | (go_at_call 45; refine (C3.out _).mono ?_; rintro e w3 ⟨rfl, a3⟩) | (go_at_call 32; refine (C4.out _).mono ?_; rintro e w4 ⟨rfl, a4⟩))
      refine bodyPost_ret (v := .tuple #[.int .i64 0, .string ⟨#[]⟩, .int .i64 6]) (by simp [results, Try.results34, go_sem]) rfl ⟨by rw [hv.out], ((Touch.refl _ _).drewN n).trans a2 (by simp)⟩
  · have hv := Hbad (fun h => he h.1)
    have he2 : (e != 0) = true := by simpa using he
    clear hsl hH hT hHl hTl hHs hTs hN hs Hbad he
    go_enter Try.func34, Try.ntmps34
    go_wp2_with (first | (go_at_call 43; refine C1.out.mono ?_; rintro e w1 ⟨rfl, n, rfl⟩) | (go_at_call 44; refine (C2.out _).mono ?_; rintro e w2 ⟨rfl, a2⟩) | (go_at_call 45; refine (C3.out _).mono ?_; rintro e w3 ⟨rfl, a3⟩) | (go_at_call 32; refine (C4.out _).mono ?_; rintro e w4 ⟨rfl, a4⟩))
    refine bodyPost_ret (v := .tuple #[.int .i64 0, .string ⟨#[]⟩, .int .i64 6]) (by simp [results, Try.results34, go_sem]) rfl ⟨by rw [hv.out], ((Touch.refl _ _).drewN n).trans a2 (by simp)⟩

theorem ext_head (s : ByteArray) (k : Nat) : (s.extract 0 k).data.toList = s.data.toList.take k := by rw [← txt_head]; rfl
theorem ext_tail (s : ByteArray) (k : Nat) : (s.extract k s.size).data.toList = s.data.toList.drop k := by rw [← txt_tail]; rfl

set_option maxRecDepth 100000 in
set_option maxHeartbeats 1000000 in
theorem refUnl_any (s : ByteArray) (a e : Int) (w : World) (hs : s.size ≤ 281474976710656) (hN : numSpec (hdB 64 s.data.toList) = .tuple #[.int .i64 a, .int .i64 e]) :
    Calls Try.prog 13 #[.string s] w fun x w' => x = .returned (unlV s.data.toList a e) ∧ Touch [] w w' := by
  have hsl := list_len s
  have Hsl := hid hsl
  have Hs := hid hs
  have HN := hid hN
  clear hsl hs hN
  go_enter Try.func13, Try.ntmps13
  go_wp2
  go_loop [5] (fun kv => ∃ k : Nat, k ≤ s.size ∧ kv = .int .i64 k ∧ 64 ∉ s.data.toList.take k) (fun kv => s.size - (RowKit.intOf kv).toNat)
  case atStart => exact ⟨0, Nat.zero_le _, rfl, by simp⟩
  case round =>
    obtain ⟨k, hk, rfl, hall⟩ := hrel
    have Hall := hid hall; clear hall
    by_cases hlt : k < s.size
    · have hltI : (k : Int) < s.size := by omega
      have hb1 : (k : Int) < 9223372036854775807 := by have := Hs.out; omega
      by_cases q5 : (s[k].toNat : Int) = 64
      · have q6 : ((s[k].toNat : Int) == 64) = true := by simpa using q5
        have hat := hdB_at (c := 64) (show k < s.data.toList.length by rw [list_len]; exact hlt) (UInt8.toNat_inj.1 (show s[k].toNat = 64 by omega)) Hall.out
        have C2 := hid (fun w => refNumber_any (s.extract 0 k) w)
        rw [ext_head, ← hat.1, HN.out] at C2
        have C3 := hid (fun w => refStm_any (s.extract (k + 1) s.size) w)
        rw [ext_tail, ← hat.2.1] at C3
        have q7 : (k : Int) ≤ s.size := by omega
        have w1 : IntKind.i64.wrap ((k : Int) + 1) = k + 1 := IntWalk.i64_in _ (by omega)
        have w2 : (0 : Int) ≤ (k : Int) + 1 := by omega
        have w3 : ((k : Int) + 1).toNat = k + 1 := by omega
        have w4 : (k : Int) + 1 ≤ s.size := by omega
        have Hbad := fun (h : ¬ (e = 0 ∧ 0 ≤ a ∧ strm (tlB 64 s.data.toList) = true)) => hid (show unlV s.data.toList a e = .tuple #[.int .i64 0, .string ⟨#[]⟩, .int .i64 6] by unfold unlV; rw [if_neg h])
        have hT : txt (tlB 64 s.data.toList) = s.extract (k + 1) s.size := by rw [hat.2.1, txt_tail]
        by_cases he : e = 0
        · by_cases ha : 0 ≤ a
          · by_cases hb : strm (tlB 64 s.data.toList) = true
            · have hv := hid (show unlV s.data.toList a e = .tuple #[.int .i64 a, .string (s.extract (k + 1) s.size), .int .i64 0] by unfold unlV; rw [if_pos ⟨he, ha, hb⟩, hT])
              rw [hb] at C3
              clear Hbad hT hat q5 hb HN
              have a0 : decide (a < 0) = false := by simpa using ha
              clear ha
              go_upto_region 8 with (first | (go_at_call 21; refine (C2.out _).mono ?_; rintro e w2 ⟨rfl, rfl⟩) | (go_at_call 22; refine (C3.out _).mono ?_; rintro e w3 ⟨rfl, rfl⟩))
              go_quiet (fail)
              go_wp2
              refine bodyPost_ret (v := .tuple #[.int .i64 a, .string (s.extract (k + 1) s.size), .int .i64 0]) (by simp [results, Try.results13, go_sem]) rfl ⟨by rw [hv.out], (Touch.refl _ _).drewN nq⟩
            · have hb2 : strm (tlB 64 s.data.toList) = false := by simpa using hb
              have hv := Hbad (fun h => hb h.2.2)
              rw [hb2] at C3
              clear Hbad hT hat q5 hb hb2 HN
              go_wp2_with (first | (go_at_call 21; refine (C2.out _).mono ?_; rintro e w2 ⟨rfl, rfl⟩) | (go_at_call 22; refine (C3.out _).mono ?_; rintro e w3 ⟨rfl, rfl⟩))
              refine bodyPost_ret (v := .tuple #[.int .i64 0, .string ⟨#[]⟩, .int .i64 6]) (by simp [results, Try.results13, go_sem]) rfl ⟨by rw [hv.out], Touch.refl _ _⟩
          · have hv := Hbad (fun h => ha h.2.1)
            have ha2 : a < 0 := by omega
            clear Hbad hT hat q5 ha HN
            go_wp2_with (first | (go_at_call 21; refine (C2.out _).mono ?_; rintro e w2 ⟨rfl, rfl⟩) | (go_at_call 22; refine (C3.out _).mono ?_; rintro e w3 ⟨rfl, rfl⟩))
            refine bodyPost_ret (v := .tuple #[.int .i64 0, .string ⟨#[]⟩, .int .i64 6]) (by simp [results, Try.results13, go_sem]) rfl ⟨by rw [hv.out], Touch.refl _ _⟩
        · have hv := Hbad (fun h => he h.1)
          have he2 : (e != 0) = true := by simpa using he
          clear Hbad hT hat q5 he HN
          go_wp2_with (first | (go_at_call 21; refine (C2.out _).mono ?_; rintro e w2 ⟨rfl, rfl⟩) | (go_at_call 22; refine (C3.out _).mono ?_; rintro e w3 ⟨rfl, rfl⟩))
          refine bodyPost_ret (v := .tuple #[.int .i64 0, .string ⟨#[]⟩, .int .i64 6]) (by simp [results, Try.results13, go_sem]) rfl ⟨by rw [hv.out], Touch.refl _ _⟩
      · have q6 : ((s[k].toNat : Int) == 64) = false := by simpa using q5
        have hnx := hid (show 64 ∉ s.data.toList.take (k + 1) by
          rw [List.take_succ_eq_append_getElem (show k < s.data.toList.length by rw [list_len]; exact hlt), List.mem_append, not_or]
          refine ⟨Hall.out, fun e => ?_⟩
          have : (64 : UInt8) = s[k] := List.mem_singleton.1 e
          rw [← this] at q5
          exact q5 rfl)
        clear q5
        go_wp2
        go_round
        case rel => exact ⟨k + 1, by omega, by go_num, hnx.out⟩
        case measure => simp [RowKit.intOf]; omega
    · obtain rfl : k = s.size := by omega
      have hv := hid (show unlV s.data.toList a e = .tuple #[.int .i64 0, .string ⟨#[]⟩, .int .i64 6] by
        unfold unlV
        have := Hall.out
        rw [← Hsl.out, List.take_length] at this
        rw [if_neg]
        rintro ⟨_, _, h⟩
        rw [(hdB_none this).2] at h
        cases h)
      clear hlt
      go_wp2
      refine bodyPost_ret (v := .tuple #[.int .i64 0, .string ⟨#[]⟩, .int .i64 6]) (by simp [results, Try.results13, go_sem]) rfl ⟨by rw [hv.out], Touch.refl _ _⟩

/-! ### Link, OfCategory, OfType -/
end Go.Proofs.Ytmgglmoiepjebaa
