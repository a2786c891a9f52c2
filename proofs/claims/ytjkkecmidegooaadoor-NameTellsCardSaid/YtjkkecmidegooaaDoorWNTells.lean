/- The walk of NameTells. -/
import Derived.Test.YtjkkecmidegooaaDoorNAlive
import Derived.Test.YtjkkecmidegooaaDoorNHash
namespace Go.Proofs.YtjkkecmidegooaaDoor
open Go.RowKit Go.Lib Go.ChangeShapes

theorem tells_long (s : ByteArray) (v : Int) (w : World) (htab : Tab w) (h : (300 : Int) < s.size) :
    Calls Tryd.prog 3 #[.string s, .int .i64 v] w fun e w' => e = .returned (.bool true) ∧ Touch [] w w' := by
  have C0 := hid (alive_true w htab)
  clear htab
  go_enter Tryd.func3, Tryd.ntmps3
  go_wp2_with (go_at_call 8; refine C0.out.mono ?_; rintro e w1 ⟨rfl, a1⟩)
  go_ret
  exact ⟨rfl, a1⟩

theorem catV_form (l : List UInt8) : ∃ (c : ByteArray) (b : Bool), catV l = .tuple #[.string c, .bool b] := by
  unfold catV
  split
  · exact ⟨_, _, rfl⟩
  · exact ⟨_, _, rfl⟩
theorem unlV_form (l : List UInt8) (a e : Int) : ∃ (v : Int) (t : ByteArray) (f : Int), unlV l a e = .tuple #[.int .i64 v, .string t, .int .i64 f] := by
  unfold unlV
  split
  · exact ⟨_, _, _, rfl⟩
  · exact ⟨_, _, _, rfl⟩

set_option maxRecDepth 100000 in
set_option maxHeartbeats 4000000 in
theorem tells_short (s : ByteArray) (v : Int) (w : World) (htab : Tab w) (h : (s.size : Int) ≤ 300) (v0 : -9223372036854775808 ≤ v) (v1 : v ≤ 9223372036854775807) :
    Calls Tryd.prog 3 #[.string s, .int .i64 v] w fun e w' => e = .returned (.bool true) ∧ Touch [] w w' := by
  obtain ⟨c, b, hc⟩ := catV_form s.data.toList
  obtain ⟨a, er, hN⟩ := numSpec_form (hdB 64 s.data.toList)
  obtain ⟨x, t, f, hu⟩ := unlV_form s.data.toList a er
  have D1 := hid (fun w => cat_any s w (by omega))
  have D2 := hid (fun w => refCat_any s w (by omega))
  rw [hc] at D1 D2
  have D3 := hid (fun w => unl_any s a er w (by omega) hN)
  have D4 := hid (fun w => refUnl_any s a er w (by omega) hN)
  rw [hu] at D3 D4
  have D5 := hid (fun w => stm_any s w)
  have D6 := hid (fun w => refStm_any s w)
  have D7 := hid (fun w => typ_any s w)
  have D8 := hid (fun w => sys_any s w)
  have D9 := hid (fun w => refSys_any s w)
  have D10 := hid (fun w => hash_any s w (by omega))
  have D11 := hid (fun w => refHash_any s w (by omega))
  have D12 := hid (fun w h => link_any v s w v0 v1 (by omega) h)
  have D13 := hid (fun w => refDigits_any v w v0 v1)
  have D14 := hid (fun w => ofc_any s w (by omega))
  have D15 := hid (fun w => oft_any s w (by omega))
  have hq : (⟨(itoa v).toArray⟩ : ByteArray).size ≤ 21 := itoa_len v v0 v1
  unfold linkB at D12
  generalize (⟨(itoa v).toArray⟩ : ByteArray) = q at *
  generalize strm s.data.toList = g at *
  generalize sysB s.data.toList = y at *
  generalize hashN s.data.toList = z at *
  have Ht := hid htab
  clear hc hN hu htab v0 v1
  go_enter Tryd.func3, Tryd.ntmps3
  go_wp2_with (first | (go_at_call 9; refine (D1.out _).mono ?_; rintro e w1 ⟨rfl, a1⟩) | (go_at_call 10; refine (D2.out _).mono ?_; rintro e w2 ⟨rfl, rfl⟩) | (go_at_call 11; refine (D3.out _).mono ?_; rintro e w3 ⟨rfl, a3⟩) | (go_at_call 12; refine (D4.out _).mono ?_; rintro e w4 ⟨rfl, a4⟩))
  have A4 : Hid (Touch [] w w4) := (a1.trans a3 (by simp)).trans a4 (by simp)
  clear a1 a3 a4 D1 D2 D3 D4
  have C0 := hid (alive_true w4 (Ht.out.touch A4.out))
  go_wp2_with (first | (go_at_call 8; refine C0.out.mono ?_; rintro e w5 ⟨rfl, a5⟩) | (go_at_call 13; refine (D5.out _).mono ?_; rintro e w6 ⟨rfl, a6⟩) | (go_at_call 14; refine (D6.out _).mono ?_; rintro e w7 ⟨rfl, rfl⟩) | (go_at_call 15; refine (D7.out _).mono ?_; rintro e w8 ⟨rfl, a8⟩))
  have A8 : Hid (Touch [] w w8) := ((A4.out.trans a5 (by simp)).trans a6 (by simp)).trans a8 (by simp)
  clear a5 a6 a8 A4 C0 D5 D6 D7
  go_wp2_with (first | (go_at_call 16; refine (D8.out _).mono ?_; rintro e w9 ⟨rfl, rfl⟩) | (go_at_call 17; refine (D9.out _).mono ?_; rintro e w10 ⟨rfl, rfl⟩) | (go_at_call 18; refine (D10.out _).mono ?_; rintro e w11 ⟨rfl, a11⟩) | (go_at_call 19; refine (D11.out _).mono ?_; rintro e w12 ⟨rfl, rfl⟩))
  have A11 : Hid (Touch [] w w11) := A8.out.trans a11 (by simp)
  clear a11 A8 D8 D9 D10 D11
  have D16 := hid (D12.out w11 (Ht.out.touch A11.out))
  clear D12
  go_wp2_with (first | (go_at_call 20; refine D16.out.mono ?_; rintro e w13 ⟨rfl, a13⟩) | (go_at_call 21; refine (D13.out _).mono ?_; rintro e w14 ⟨rfl, a14⟩) | (go_at_call 22; refine (D14.out _).mono ?_; rintro e w15 ⟨rfl, rfl⟩) | (go_at_call 23; refine (D15.out _).mono ?_; rintro e w16 ⟨rfl, rfl⟩))
  go_ret
  exact ⟨rfl, (A11.out.trans a13 (by simp)).trans a14 (by simp)⟩

theorem walk_NameTells (s : ByteArray) (_ws : s.size ≤ maxLen) (v : Int) (wv : (Lit.int .i64 v).wf = true) (w : World) (htab : Tab w) :
    Calls Tryd.prog 3 #[.string s, .int .i64 v] w fun e w' => e = .returned (.bool true) ∧ Touch [] w w' := by
  obtain ⟨v0, v1⟩ := bounds_i64 wv
  by_cases h : (300 : Int) < s.size
  · exact tells_long s v w htab h
  · exact tells_short s v w htab (by omega) v0 v1
end Go.Proofs.YtjkkecmidegooaaDoor
