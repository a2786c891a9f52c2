/- The walk of CodecNumbers. -/
import Derived.Test.YteaogpbbmekinaaDoorAlive
import Derived.Test.YteaogpbbmekinaaDoorDig
import Derived.OpenShut
namespace Go.Proofs.YteaogpbbmekinaaDoor
open Go.RowKit Go.Lib Go.ChangeShapes

theorem numbers_long (v : Int) (S : ByteArray) (w : World) (htab : Tab w) (h0 : -9223372036854775808 ≤ v) (h1 : v ≤ 9223372036854775807) (hS : S = ⟨(itoa v).toArray⟩) (h : v < -999999999999999999 ∨ (-999999999999999999 ≤ v ∧ 999999999999999999 < v)) :
    Calls Tryd.prog 12 #[.int .i64 v] w fun e w' => e = .returned (.bool true) ∧ Touch [] w w' := by
  have hN := numSpec_long v (by omega)
  have C1 := hid (digits_any v w h0 h1 htab)
  rw [← hS] at C1
  have hd : S.data.toList = itoa v := by rw [hS]
  have hlen := itoa_len v h0 h1
  have hsz : S.size ≤ 21 := by rw [← list_len, hd]; exact hlen
  have hsz2 : (19 : Int) ≤ S.size := by rw [← list_len, hd]; have := hN.2; omega
  have Ht := hid htab
  have C2 := hid (fun w1 => number_any S w1 (by omega))
  rw [hd, hN.1] at C2
  clear hS hN hd hlen htab h0 h1
  rcases h with h | ⟨h2, h3⟩
  all_goals
    go_enter Tryd.func12, Tryd.ntmps12
    go_wp2_with (go_at_call 46; refine C1.out.mono ?_; rintro e w1 ⟨rfl, a1⟩)
    have A1 := hid a1; clear a1
    go_wp2_with (go_at_call 44; refine (C2.out _).mono ?_; rintro e w2 ⟨rfl, a2⟩)
    have A2 : Hid (Touch [] w w2) := A1.out.trans a2 (by simp)
    have C3 := hid (alive_true w2 (Ht.out.touch A2.out))
    clear a2
    go_wp2_with (go_at_call 14; refine C3.out.mono ?_; rintro e w3 ⟨rfl, a3⟩)
    go_ret
    exact ⟨rfl, A2.out.trans a3 (by simp)⟩

theorem numbers_short (v : Int) (S : ByteArray) (w : World) (htab : Tab w) (hS : S = ⟨(itoa v).toArray⟩) (h0 : -999999999999999999 ≤ v) (h1 : v ≤ 999999999999999999) :
    Calls Tryd.prog 12 #[.int .i64 v] w fun e w' => e = .returned (.bool true) ∧ Touch [] w w' := by
  have hN := numSpec_itoa v h0 h1
  have C1 := hid (digits_any v w (by omega) (by omega) htab)
  rw [← hS] at C1
  have hd : S.data.toList = itoa v := by rw [hS]
  have hlen := itoa_len v (by omega) (by omega)
  have hsz : S.size ≤ 21 := by rw [← list_len, hd]; exact hlen
  have Ht := hid htab
  have C2 := hid (fun w1 => number_any S w1 (by omega))
  rw [hd, hN] at C2
  have C4 := hid (fun w1 => number_any ((⟨#[48]⟩ : ByteArray) ++ S) w1 (by rw [ByteArray.size_append]; show 1 + S.size ≤ _; omega))
  rw [show ((⟨#[48]⟩ : ByteArray) ++ S).data.toList = 48 :: itoa v by simp [hd], numSpec_nought] at C4
  have C5 := hid (fun w1 => number_any ((⟨#[43]⟩ : ByteArray) ++ S) w1 (by rw [ByteArray.size_append]; show 1 + S.size ≤ _; omega))
  rw [show ((⟨#[43]⟩ : ByteArray) ++ S).data.toList = 43 :: itoa v by simp [hd], numSpec_plus] at C5
  have C6 := hid (fun w1 => number_any (S ++ (⟨#[32]⟩ : ByteArray)) w1 (by rw [ByteArray.size_append]; show S.size + 1 ≤ _; omega))
  rw [show (S ++ (⟨#[32]⟩ : ByteArray)).data.toList = itoa v ++ [32] by simp [hd], numSpec_blank] at C6
  clear hS hN hd hlen htab
  go_enter Tryd.func12, Tryd.ntmps12
  go_wp2_with (go_at_call 46; refine C1.out.mono ?_; rintro e w1 ⟨rfl, a1⟩)
  have A1 := hid a1; clear a1
  go_wp2_with fail
  refine (C2.out _).mono ?_
  rintro e w2 ⟨rfl, a2⟩
  have A2 : Hid (Touch [] w w2) := A1.out.trans a2 (by simp)
  clear a2
  go_wp2_with fail
  refine (C4.out _).mono ?_
  rintro e w3 ⟨rfl, a2⟩
  have A3 : Hid (Touch [] w w3) := A2.out.trans a2 (by simp)
  clear a2
  go_wp2_with fail
  refine (C5.out _).mono ?_
  rintro e w4 ⟨rfl, a2⟩
  have A4 : Hid (Touch [] w w4) := A3.out.trans a2 (by simp)
  clear a2
  go_wp2_with fail
  refine (C6.out _).mono ?_
  rintro e w5 ⟨rfl, a2⟩
  have A5 : Hid (Touch [] w w5) := A4.out.trans a2 (by simp)
  have C3 := hid (alive_true w5 (Ht.out.touch A5.out))
  clear a2
  go_wp2_with (go_at_call 14; refine C3.out.mono ?_; rintro e w6 ⟨rfl, a3⟩)
  go_ret
  exact ⟨rfl, A5.out.trans a3 (by simp)⟩

theorem walk_CodecNumbers (v : Int) (wv : (Lit.int .i64 v).wf = true) (w : World) (htab : Tab w) :
    Calls Tryd.prog 12 #[.int .i64 v] w fun e w' => e = .returned (.bool true) ∧ Touch [] w w' := by
  obtain ⟨v0, v1⟩ := bounds_i64 wv
  by_cases h : v < -999999999999999999 ∨ (-999999999999999999 ≤ v ∧ 999999999999999999 < v)
  · exact numbers_long v _ w htab v0 v1 rfl h
  · exact numbers_short v _ w htab rfl (by omega) (by omega)
end Go.Proofs.YteaogpbbmekinaaDoor
