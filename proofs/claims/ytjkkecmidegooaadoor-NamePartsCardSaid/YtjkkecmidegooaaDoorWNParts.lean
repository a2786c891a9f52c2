/- The walk of NameParts. -/
import Derived.Test.YtjkkecmidegooaaDoorWNBack
import Derived.BigRegion
namespace Go.Proofs.YtjkkecmidegooaaDoor
open Go.RowKit Go.Lib Go.ChangeShapes

theorem parts_early (s : ByteArray) (c at_ : Int) (w : World) (htab : Tab w)
    (h : (100 : Int) < s.size ∨ ((s.size : Int) ≤ 100 ∧ at_ < 0) ∨ ((s.size : Int) ≤ 100 ∧ 0 ≤ at_ ∧ c < 0) ∨ ((s.size : Int) ≤ 100 ∧ 0 ≤ at_ ∧ 0 ≤ c ∧ 255 < c)) :
    Calls Tryd.prog 6 #[.string s, .int .i64 c, .int .i64 at_] w fun e w' => e = .returned (.bool true) ∧ Touch [] w w' := by
  have C0 := hid (alive_true w htab)
  clear htab
  rcases h with h | ⟨h1, h2⟩ | ⟨h1, h2, h3⟩ | ⟨h1, h2, h3, h4⟩
  all_goals
    go_enter Tryd.func6, Tryd.ntmps6
    go_wp2_with (go_at_call 8; refine C0.out.mono ?_; rintro e w1 ⟨rfl, a1⟩)
    go_ret
    exact ⟨rfl, a1⟩

theorem all_ins (l : List UInt8) (k : Nat) (c : UInt8) : (l.take k ++ c :: l.drop k).all okB = (l.all okB && okB c) := by
  have h : l.all okB = ((l.take k).all okB && (l.drop k).all okB) := by rw [← List.all_append, List.take_append_drop]
  rw [List.all_append, List.all_cons, h]
  cases (l.take k).all okB <;> cases (l.drop k).all okB <;> cases okB c <;> rfl
theorem strm_ins (l : List UInt8) (k : Nat) (c : UInt8) : strm (l.take k ++ c :: l.drop k) = ((l == [] || strm l) && okB c && decide (l.length + 1 ≤ 60)) := by
  have hlen : (l.take k ++ c :: l.drop k).length = l.length + 1 := by
    rw [List.length_append, List.length_cons, List.length_take, List.length_drop]; omega
  unfold strm
  rw [hlen, all_ins]
  by_cases h60 : l.length + 1 ≤ 60
  · rw [decide_eq_true h60, decide_eq_true (show 1 ≤ l.length + 1 by omega), decide_eq_true (show l.length ≤ 60 by omega)]
    cases l with
    | nil => simp
    | cons a r => simp
  · rw [decide_eq_false h60]
    simp
theorem strm_dollar (l : List UInt8) : strm (36 :: l) = ((l == [] || strm l) && decide (l.length + 1 ≤ 60)) := by
  have := strm_ins l 0 36
  rw [show okB 36 = true by decide] at this
  simpa using this
theorem conv_one (n : Nat) (B : ByteArray) (hB : B = ⟨#[UInt8.ofNat n]⟩) (hn : (n : Int) ≤ 255) (w1 : World) :
    (convert 36 9 (.slice (some ⟨w1.heap.size, 0, none⟩) 1 1)).run Tryd.prog (w1.alloc (.cells #[.int .u8 n] 5)).drew = .ok (.string B) (w1.alloc (.cells #[.int .u8 n] 5)).drew := by
  rw [hB]
  refine run_convert_bytes_back (P := Tryd.prog) _ 36 9 5 ⟨w1.heap.size, 0, none⟩ 1 [UInt8.ofNat n] rfl rfl rfl (fun j hj => ?_)
  obtain rfl : j = 0 := by simpa using hj
  have hadd : (⟨w1.heap.size, 0, none⟩ : Addr).add 0 = ⟨w1.heap.size, 0, none⟩ := by unfold Addr.add; split <;> simp_all
  rw [hadd]
  show (w1.alloc (.cells #[.int .u8 n] 5)).cell? _ = _
  rw [cell_of (heap_alloc_new w1 (.cells #[.int .u8 n] 5)) 0]
  simp
  omega

set_option maxRecDepth 100000 in
set_option maxHeartbeats 4000000 in
theorem parts_nil (s : ByteArray) (n m k : Nat) (T B X : ByteArray) (w : World) (htab : Tab w) (h1 : (s.size : Int) ≤ 100) (hn : (n : Int) ≤ 255) (hB : B = ⟨#[UInt8.ofNat n]⟩) (hk : (k : Int) ≤ s.size) (hmin : min (m : Int) (s.size : Int) = (k : Int)) (hT : s.extract 0 k ++ B ++ s.extract k s.size = T)
    (hX : (⟨#[36]⟩ : ByteArray) ++ s = X) (hs : (s.toList == []) = true) (hT1 : (T.size : Int) ≤ 60)
    (h : (n < 33 ∧ strm T.data.toList = false) ∨ (33 ≤ n ∧ 126 < n ∧ strm T.data.toList = false) ∨ (33 ≤ n ∧ n ≤ 126 ∧ n = 64 ∧ strm T.data.toList = false) ∨ (33 ≤ n ∧ n ≤ 126 ∧ n ≠ 64 ∧ strm T.data.toList = true)) :
    Calls Tryd.prog 6 #[.string s, .int .i64 n, .int .i64 m] w fun e w' => e = .returned (.bool true) ∧ Touch [] w w' := by
  have h2 : (0 : Int) ≤ m := by omega
  have h3 : (0 : Int) ≤ n := by omega
  have h4 : (0 : Int) ≤ k := by omega
  have hBs : B.size = 1 := by rw [hB]; rfl
  have hwr : IntKind.u8.wrap (n : Int) = n := IntWalk.u8_in _ (by omega)
  have hconv := conv_one n B hB hn
  have C1 := hid (fun w => stm_any s w)
  have C2 := hid (fun w => stm_any T w)
  have C3 := hid (fun w => stm_any X w)
  have C4 := hid (fun w => sys_any X w)
  have C5 := hid (fun w => stm_any ⟨#[]⟩ w)
  rw [show strm (⟨#[]⟩ : ByteArray).data.toList = false by decide] at C5
  rw [show sysB X.data.toList = true by rw [← hX]; simp [sysB]] at C4
  have Ht := hid htab
  have HT := hid hT
  have HX := hid hX
  clear htab hB hT hX
  go_enter Tryd.func6, Tryd.ntmps6
  go_upto_region 4 with fail
  clear hmin
  go_region
  rw [HT.out]
  have A1 : Hid (Touch [] w (w.alloc (.cells #[.int .u8 (n : Int)] 5)).drew) := ((Touch.refl [] w).alloc _).drew
  generalize (w.alloc (.cells #[.int .u8 (n : Int)] 5)).drew = w1 at *
  have hX := HX.out
  clear hconv hwr h2 h4 hBs HT HX
  rcases h with ⟨q1, q2⟩ | ⟨q1, q2, q3⟩ | ⟨q1, q2, q3, q4⟩ | ⟨q1, q2, q3, q4⟩
  · rw [q2] at C2
    have g1 : decide (33 ≤ n) = false := by simp; omega
    have g2 : decide ((33 : Int) ≤ n) = false := by simp; omega
    clear q1 q2 hn h3
    have C0 := hid (alive_true w1 (Ht.out.touch A1.out))
    go_wp2_with fail
    refine C0.out.mono ?_
    rintro e w2 ⟨rfl, a2⟩
    go_wp2_with fail
    refine (C2.out _).mono ?_
    rintro e w3 ⟨rfl, a3⟩
    go_wp2_with fail
    refine (C4.out _).mono ?_
    rintro e w4 ⟨rfl, rfl⟩
    go_wp2_with fail
    refine (C5.out _).mono ?_
    rintro e w5 ⟨rfl, a5⟩
    go_wp2
    go_ret
    exact ⟨rfl, ((A1.out.trans a2 (by simp)).trans a3 (by simp)).trans a5 (by simp)⟩
  · rw [q3] at C2
    have g1 : decide (33 ≤ n) = true := by simp; omega
    have g2 : decide ((33 : Int) ≤ n) = true := by simp; omega
    have g3 : decide (n ≤ 126) = false := by simp; omega
    have g4 : decide ((n : Int) ≤ 126) = false := by simp; omega
    clear q1 q2 q3 hn h3
    have C0 := hid (alive_true w1 (Ht.out.touch A1.out))
    go_wp2_with fail
    refine C0.out.mono ?_
    rintro e w2 ⟨rfl, a2⟩
    go_wp2_with fail
    refine (C2.out _).mono ?_
    rintro e w3 ⟨rfl, a3⟩
    go_wp2_with fail
    refine (C4.out _).mono ?_
    rintro e w4 ⟨rfl, rfl⟩
    go_wp2_with fail
    refine (C5.out _).mono ?_
    rintro e w5 ⟨rfl, a5⟩
    go_wp2
    go_ret
    exact ⟨rfl, ((A1.out.trans a2 (by simp)).trans a3 (by simp)).trans a5 (by simp)⟩
  · rw [q4] at C2
    have g1 : decide (33 ≤ n) = true := by simp; omega
    have g2 : decide ((33 : Int) ≤ n) = true := by simp; omega
    have g3 : decide (n ≤ 126) = true := by simp; omega
    have g4 : decide ((n : Int) ≤ 126) = true := by simp; omega
    have g5 : (n != 64) = false := by simp; omega
    have g6 : ((n : Int) != 64) = false := by simp; omega
    clear q1 q2 q3 q4 hn h3
    have C0 := hid (alive_true w1 (Ht.out.touch A1.out))
    go_wp2_with fail
    refine C0.out.mono ?_
    rintro e w2 ⟨rfl, a2⟩
    go_wp2_with fail
    refine (C2.out _).mono ?_
    rintro e w3 ⟨rfl, a3⟩
    go_wp2_with fail
    refine (C4.out _).mono ?_
    rintro e w4 ⟨rfl, rfl⟩
    go_wp2_with fail
    refine (C5.out _).mono ?_
    rintro e w5 ⟨rfl, a5⟩
    go_wp2
    go_ret
    exact ⟨rfl, ((A1.out.trans a2 (by simp)).trans a3 (by simp)).trans a5 (by simp)⟩
  · rw [q4] at C2
    have g1 : decide (33 ≤ n) = true := by simp; omega
    have g2 : decide ((33 : Int) ≤ n) = true := by simp; omega
    have g3 : decide (n ≤ 126) = true := by simp; omega
    have g4 : decide ((n : Int) ≤ 126) = true := by simp; omega
    have g5 : (n != 64) = true := by simp; omega
    have g6 : ((n : Int) != 64) = true := by simp; omega
    clear q1 q2 q3 q4 hn h3
    have C0 := hid (alive_true w1 (Ht.out.touch A1.out))
    go_wp2_with fail
    refine C0.out.mono ?_
    rintro e w2 ⟨rfl, a2⟩
    go_wp2_with fail
    refine (C2.out _).mono ?_
    rintro e w3 ⟨rfl, a3⟩
    go_wp2_with fail
    refine (C4.out _).mono ?_
    rintro e w4 ⟨rfl, rfl⟩
    go_wp2_with fail
    refine (C5.out _).mono ?_
    rintro e w5 ⟨rfl, a5⟩
    go_wp2
    go_ret
    exact ⟨rfl, ((A1.out.trans a2 (by simp)).trans a3 (by simp)).trans a5 (by simp)⟩

set_option maxRecDepth 100000 in
set_option maxHeartbeats 4000000 in
theorem parts_bad (s : ByteArray) (n m k : Nat) (T B X : ByteArray) (w : World) (htab : Tab w) (h1 : (s.size : Int) ≤ 100) (hn : (n : Int) ≤ 255) (hB : B = ⟨#[UInt8.ofNat n]⟩) (hk : (k : Int) ≤ s.size) (hmin : min (m : Int) (s.size : Int) = (k : Int)) (hT : s.extract 0 k ++ B ++ s.extract k s.size = T)
    (hX : (⟨#[36]⟩ : ByteArray) ++ s = X) (hs : (s.toList == []) = false) (hb : strm s.data.toList = false) (hbT : strm T.data.toList = false) (hbX : strm X.data.toList = false) :
    Calls Tryd.prog 6 #[.string s, .int .i64 n, .int .i64 m] w fun e w' => e = .returned (.bool true) ∧ Touch [] w w' := by
  have h2 : (0 : Int) ≤ m := by omega
  have h3 : (0 : Int) ≤ n := by omega
  have h4 : (0 : Int) ≤ k := by omega
  have hBs : B.size = 1 := by rw [hB]; rfl
  have hwr : IntKind.u8.wrap (n : Int) = n := IntWalk.u8_in _ (by omega)
  have hconv := conv_one n B hB hn
  have C1 := hid (fun w => stm_any s w)
  have C2 := hid (fun w => stm_any T w)
  have C3 := hid (fun w => stm_any X w)
  have C4 := hid (fun w => sys_any X w)
  have C5 := hid (fun w => stm_any ⟨#[]⟩ w)
  rw [show strm (⟨#[]⟩ : ByteArray).data.toList = false by decide] at C5
  rw [show sysB X.data.toList = true by rw [← hX]; simp [sysB]] at C4
  have Ht := hid htab
  have HT := hid hT
  have HX := hid hX
  clear htab hB hT hX
  go_enter Tryd.func6, Tryd.ntmps6
  go_upto_region 4 with fail
  clear hmin
  go_region
  rw [HT.out]
  have A1 : Hid (Touch [] w (w.alloc (.cells #[.int .u8 (n : Int)] 5)).drew) := ((Touch.refl [] w).alloc _).drew
  generalize (w.alloc (.cells #[.int .u8 (n : Int)] 5)).drew = w1 at *
  have hX := HX.out
  clear hconv hwr h2 h4 hBs HT HX
  · rw [hb] at C1
    rw [hbT] at C2
    rw [hbX] at C3
    clear hb hbT hbX hn h3
    go_wp2_with fail
    refine (C1.out _).mono ?_
    rintro e w2 ⟨rfl, a2⟩
    have A2 : Hid (Touch [] w w2) := A1.out.trans a2 (by simp)
    clear a2
    have C0 := hid (alive_true w2 (Ht.out.touch A2.out))
    go_wp2_with fail
    refine C0.out.mono ?_
    rintro e w3 ⟨rfl, a3⟩
    go_wp2_with fail
    refine (C2.out _).mono ?_
    rintro e w4 ⟨rfl, a4⟩
    have A4 : Hid (Touch [] w w4) := (A2.out.trans a3 (by simp)).trans a4 (by simp)
    clear a3 a4 C0 A2 A1
    go_wp2_with fail
    refine (C4.out _).mono ?_
    rintro e w5 ⟨rfl, rfl⟩
    go_wp2_with fail
    refine (C3.out _).mono ?_
    rintro e w6 ⟨rfl, a6⟩
    go_wp2_with fail
    refine (C1.out _).mono ?_
    rintro e w7 ⟨rfl, a7⟩
    go_wp2_with fail
    refine (C5.out _).mono ?_
    rintro e w8 ⟨rfl, a8⟩
    go_wp2
    go_ret
    exact ⟨rfl, ((A4.out.trans a6 (by simp)).trans a7 (by simp)).trans a8 (by simp)⟩

set_option maxRecDepth 100000 in
set_option maxHeartbeats 4000000 in
theorem parts_good (s : ByteArray) (n m k : Nat) (T B X : ByteArray) (w : World) (htab : Tab w) (h1 : (s.size : Int) ≤ 100) (hn : (n : Int) ≤ 255) (hB : B = ⟨#[UInt8.ofNat n]⟩) (hk : (k : Int) ≤ s.size) (hmin : min (m : Int) (s.size : Int) = (k : Int)) (hT : s.extract 0 k ++ B ++ s.extract k s.size = T)
    (hX : (⟨#[36]⟩ : ByteArray) ++ s = X) (hs : (s.toList == []) = false) (hb : strm s.data.toList = true) (hbX : strm X.data.toList = true) (hT1 : (T.size : Int) ≤ 60) (hs1 : (s.size : Int) < 60) (h : (n < 33 ∧ strm T.data.toList = false) ∨ (33 ≤ n ∧ 126 < n ∧ strm T.data.toList = false) ∨ (33 ≤ n ∧ n ≤ 126 ∧ n = 64 ∧ strm T.data.toList = false) ∨ (33 ≤ n ∧ n ≤ 126 ∧ n ≠ 64 ∧ strm T.data.toList = true)) :
    Calls Tryd.prog 6 #[.string s, .int .i64 n, .int .i64 m] w fun e w' => e = .returned (.bool true) ∧ Touch [] w w' := by
  have h2 : (0 : Int) ≤ m := by omega
  have h3 : (0 : Int) ≤ n := by omega
  have h4 : (0 : Int) ≤ k := by omega
  have hBs : B.size = 1 := by rw [hB]; rfl
  have hwr : IntKind.u8.wrap (n : Int) = n := IntWalk.u8_in _ (by omega)
  have hconv := conv_one n B hB hn
  have C1 := hid (fun w => stm_any s w)
  have C2 := hid (fun w => stm_any T w)
  have C3 := hid (fun w => stm_any X w)
  have C4 := hid (fun w => sys_any X w)
  have C5 := hid (fun w => stm_any ⟨#[]⟩ w)
  rw [show strm (⟨#[]⟩ : ByteArray).data.toList = false by decide] at C5
  rw [show sysB X.data.toList = true by rw [← hX]; simp [sysB]] at C4
  have Ht := hid htab
  have HT := hid hT
  have HX := hid hX
  clear htab hB hT hX
  go_enter Tryd.func6, Tryd.ntmps6
  go_upto_region 4 with fail
  clear hmin
  go_region
  rw [HT.out]
  have A1 : Hid (Touch [] w (w.alloc (.cells #[.int .u8 (n : Int)] 5)).drew) := ((Touch.refl [] w).alloc _).drew
  generalize (w.alloc (.cells #[.int .u8 (n : Int)] 5)).drew = w1 at *
  have hX := HX.out
  clear hconv hwr h2 h4 hBs HT HX
  rw [hb] at C1
  rw [hbX] at C3
  clear hb hbX
  rcases h with ⟨q1, q2⟩ | ⟨q1, q2, q3⟩ | ⟨q1, q2, q3, q4⟩ | ⟨q1, q2, q3, q4⟩
  · rw [q2] at C2
    have g1 : decide (33 ≤ n) = false := by simp; omega
    have g2 : decide ((33 : Int) ≤ n) = false := by simp; omega
    clear q1 q2 hn h3
    go_wp2_with fail
    refine (C1.out _).mono ?_
    rintro e w2 ⟨rfl, a2⟩
    have A2 : Hid (Touch [] w w2) := A1.out.trans a2 (by simp)
    clear a2
    have C0 := hid (alive_true w2 (Ht.out.touch A2.out))
    go_wp2_with fail
    refine C0.out.mono ?_
    rintro e w3 ⟨rfl, a3⟩
    go_wp2_with fail
    refine (C2.out _).mono ?_
    rintro e w4 ⟨rfl, a4⟩
    have A4 : Hid (Touch [] w w4) := (A2.out.trans a3 (by simp)).trans a4 (by simp)
    clear a3 a4 C0 A2 A1
    go_wp2_with fail
    refine (C4.out _).mono ?_
    rintro e w5 ⟨rfl, rfl⟩
    go_wp2_with fail
    refine (C3.out _).mono ?_
    rintro e w6 ⟨rfl, a6⟩
    go_wp2_with fail
    refine (C1.out _).mono ?_
    rintro e w7 ⟨rfl, a7⟩
    go_wp2_with fail
    refine (C5.out _).mono ?_
    rintro e w8 ⟨rfl, a8⟩
    go_wp2
    go_ret
    exact ⟨rfl, ((A4.out.trans a6 (by simp)).trans a7 (by simp)).trans a8 (by simp)⟩
  · rw [q3] at C2
    have g1 : decide (33 ≤ n) = true := by simp; omega
    have g2 : decide ((33 : Int) ≤ n) = true := by simp; omega
    have g3 : decide (n ≤ 126) = false := by simp; omega
    have g4 : decide ((n : Int) ≤ 126) = false := by simp; omega
    clear q1 q2 q3 hn h3
    go_wp2_with fail
    refine (C1.out _).mono ?_
    rintro e w2 ⟨rfl, a2⟩
    have A2 : Hid (Touch [] w w2) := A1.out.trans a2 (by simp)
    clear a2
    have C0 := hid (alive_true w2 (Ht.out.touch A2.out))
    go_wp2_with fail
    refine C0.out.mono ?_
    rintro e w3 ⟨rfl, a3⟩
    go_wp2_with fail
    refine (C2.out _).mono ?_
    rintro e w4 ⟨rfl, a4⟩
    have A4 : Hid (Touch [] w w4) := (A2.out.trans a3 (by simp)).trans a4 (by simp)
    clear a3 a4 C0 A2 A1
    go_wp2_with fail
    refine (C4.out _).mono ?_
    rintro e w5 ⟨rfl, rfl⟩
    go_wp2_with fail
    refine (C3.out _).mono ?_
    rintro e w6 ⟨rfl, a6⟩
    go_wp2_with fail
    refine (C1.out _).mono ?_
    rintro e w7 ⟨rfl, a7⟩
    go_wp2_with fail
    refine (C5.out _).mono ?_
    rintro e w8 ⟨rfl, a8⟩
    go_wp2
    go_ret
    exact ⟨rfl, ((A4.out.trans a6 (by simp)).trans a7 (by simp)).trans a8 (by simp)⟩
  · rw [q4] at C2
    have g1 : decide (33 ≤ n) = true := by simp; omega
    have g2 : decide ((33 : Int) ≤ n) = true := by simp; omega
    have g3 : decide (n ≤ 126) = true := by simp; omega
    have g4 : decide ((n : Int) ≤ 126) = true := by simp; omega
    have g5 : (n != 64) = false := by simp; omega
    have g6 : ((n : Int) != 64) = false := by simp; omega
    clear q1 q2 q3 q4 hn h3
    go_wp2_with fail
    refine (C1.out _).mono ?_
    rintro e w2 ⟨rfl, a2⟩
    have A2 : Hid (Touch [] w w2) := A1.out.trans a2 (by simp)
    clear a2
    have C0 := hid (alive_true w2 (Ht.out.touch A2.out))
    go_wp2_with fail
    refine C0.out.mono ?_
    rintro e w3 ⟨rfl, a3⟩
    go_wp2_with fail
    refine (C2.out _).mono ?_
    rintro e w4 ⟨rfl, a4⟩
    have A4 : Hid (Touch [] w w4) := (A2.out.trans a3 (by simp)).trans a4 (by simp)
    clear a3 a4 C0 A2 A1
    go_wp2_with fail
    refine (C4.out _).mono ?_
    rintro e w5 ⟨rfl, rfl⟩
    go_wp2_with fail
    refine (C3.out _).mono ?_
    rintro e w6 ⟨rfl, a6⟩
    go_wp2_with fail
    refine (C1.out _).mono ?_
    rintro e w7 ⟨rfl, a7⟩
    go_wp2_with fail
    refine (C5.out _).mono ?_
    rintro e w8 ⟨rfl, a8⟩
    go_wp2
    go_ret
    exact ⟨rfl, ((A4.out.trans a6 (by simp)).trans a7 (by simp)).trans a8 (by simp)⟩
  · rw [q4] at C2
    have g1 : decide (33 ≤ n) = true := by simp; omega
    have g2 : decide ((33 : Int) ≤ n) = true := by simp; omega
    have g3 : decide (n ≤ 126) = true := by simp; omega
    have g4 : decide ((n : Int) ≤ 126) = true := by simp; omega
    have g5 : (n != 64) = true := by simp; omega
    have g6 : ((n : Int) != 64) = true := by simp; omega
    clear q1 q2 q3 q4 hn h3
    go_wp2_with fail
    refine (C1.out _).mono ?_
    rintro e w2 ⟨rfl, a2⟩
    have A2 : Hid (Touch [] w w2) := A1.out.trans a2 (by simp)
    clear a2
    have C0 := hid (alive_true w2 (Ht.out.touch A2.out))
    go_wp2_with fail
    refine C0.out.mono ?_
    rintro e w3 ⟨rfl, a3⟩
    go_wp2_with fail
    refine (C2.out _).mono ?_
    rintro e w4 ⟨rfl, a4⟩
    have A4 : Hid (Touch [] w w4) := (A2.out.trans a3 (by simp)).trans a4 (by simp)
    clear a3 a4 C0 A2 A1
    go_wp2_with fail
    refine (C4.out _).mono ?_
    rintro e w5 ⟨rfl, rfl⟩
    go_wp2_with fail
    refine (C3.out _).mono ?_
    rintro e w6 ⟨rfl, a6⟩
    go_wp2_with fail
    refine (C1.out _).mono ?_
    rintro e w7 ⟨rfl, a7⟩
    go_wp2_with fail
    refine (C5.out _).mono ?_
    rintro e w8 ⟨rfl, a8⟩
    go_wp2
    go_ret
    exact ⟨rfl, ((A4.out.trans a6 (by simp)).trans a7 (by simp)).trans a8 (by simp)⟩

set_option maxRecDepth 100000 in
set_option maxHeartbeats 4000000 in
theorem parts_full (s : ByteArray) (n m k : Nat) (T B X : ByteArray) (w : World) (htab : Tab w) (h1 : (s.size : Int) ≤ 100) (hn : (n : Int) ≤ 255) (hB : B = ⟨#[UInt8.ofNat n]⟩) (hk : (k : Int) ≤ s.size) (hmin : min (m : Int) (s.size : Int) = (k : Int)) (hT : s.extract 0 k ++ B ++ s.extract k s.size = T)
    (hX : (⟨#[36]⟩ : ByteArray) ++ s = X) (hs : (s.toList == []) = false) (hb : strm s.data.toList = true) (hbX : strm X.data.toList = false) (hT1 : decide ((T.size : Int) ≤ 60) = false) (hs1 : decide ((s.size : Int) < 60) = false) (h : (n < 33 ∧ strm T.data.toList = false) ∨ (33 ≤ n ∧ 126 < n ∧ strm T.data.toList = false) ∨ (33 ≤ n ∧ n ≤ 126 ∧ n = 64 ∧ strm T.data.toList = false) ∨ (33 ≤ n ∧ n ≤ 126 ∧ n ≠ 64 ∧ strm T.data.toList = false)) :
    Calls Tryd.prog 6 #[.string s, .int .i64 n, .int .i64 m] w fun e w' => e = .returned (.bool true) ∧ Touch [] w w' := by
  have h2 : (0 : Int) ≤ m := by omega
  have h3 : (0 : Int) ≤ n := by omega
  have h4 : (0 : Int) ≤ k := by omega
  have hBs : B.size = 1 := by rw [hB]; rfl
  have hwr : IntKind.u8.wrap (n : Int) = n := IntWalk.u8_in _ (by omega)
  have hconv := conv_one n B hB hn
  have C1 := hid (fun w => stm_any s w)
  have C2 := hid (fun w => stm_any T w)
  have C3 := hid (fun w => stm_any X w)
  have C4 := hid (fun w => sys_any X w)
  have C5 := hid (fun w => stm_any ⟨#[]⟩ w)
  rw [show strm (⟨#[]⟩ : ByteArray).data.toList = false by decide] at C5
  rw [show sysB X.data.toList = true by rw [← hX]; simp [sysB]] at C4
  have Ht := hid htab
  have HT := hid hT
  have HX := hid hX
  clear htab hB hT hX
  go_enter Tryd.func6, Tryd.ntmps6
  go_upto_region 4 with fail
  clear hmin
  go_region
  rw [HT.out]
  have A1 : Hid (Touch [] w (w.alloc (.cells #[.int .u8 (n : Int)] 5)).drew) := ((Touch.refl [] w).alloc _).drew
  generalize (w.alloc (.cells #[.int .u8 (n : Int)] 5)).drew = w1 at *
  have hX := HX.out
  clear hconv hwr h2 h4 hBs HT HX
  rw [hb] at C1
  rw [hbX] at C3
  clear hb hbX
  rcases h with ⟨q1, q2⟩ | ⟨q1, q2, q3⟩ | ⟨q1, q2, q3, q4⟩ | ⟨q1, q2, q3, q4⟩
  · rw [q2] at C2
    have g1 : decide (33 ≤ n) = false := by simp; omega
    have g2 : decide ((33 : Int) ≤ n) = false := by simp; omega
    clear q1 q2 hn h3
    go_wp2_with fail
    refine (C1.out _).mono ?_
    rintro e w2 ⟨rfl, a2⟩
    have A2 : Hid (Touch [] w w2) := A1.out.trans a2 (by simp)
    clear a2
    have C0 := hid (alive_true w2 (Ht.out.touch A2.out))
    go_wp2_with fail
    refine C0.out.mono ?_
    rintro e w3 ⟨rfl, a3⟩
    go_wp2_with fail
    refine (C2.out _).mono ?_
    rintro e w4 ⟨rfl, a4⟩
    have A4 : Hid (Touch [] w w4) := (A2.out.trans a3 (by simp)).trans a4 (by simp)
    clear a3 a4 C0 A2 A1
    go_wp2_with fail
    refine (C4.out _).mono ?_
    rintro e w5 ⟨rfl, rfl⟩
    go_wp2_with fail
    refine (C3.out _).mono ?_
    rintro e w6 ⟨rfl, a6⟩
    go_wp2_with fail
    refine (C1.out _).mono ?_
    rintro e w7 ⟨rfl, a7⟩
    go_wp2_with fail
    refine (C5.out _).mono ?_
    rintro e w8 ⟨rfl, a8⟩
    go_wp2
    go_ret
    exact ⟨rfl, ((A4.out.trans a6 (by simp)).trans a7 (by simp)).trans a8 (by simp)⟩
  · rw [q3] at C2
    have g1 : decide (33 ≤ n) = true := by simp; omega
    have g2 : decide ((33 : Int) ≤ n) = true := by simp; omega
    have g3 : decide (n ≤ 126) = false := by simp; omega
    have g4 : decide ((n : Int) ≤ 126) = false := by simp; omega
    clear q1 q2 q3 hn h3
    go_wp2_with fail
    refine (C1.out _).mono ?_
    rintro e w2 ⟨rfl, a2⟩
    have A2 : Hid (Touch [] w w2) := A1.out.trans a2 (by simp)
    clear a2
    have C0 := hid (alive_true w2 (Ht.out.touch A2.out))
    go_wp2_with fail
    refine C0.out.mono ?_
    rintro e w3 ⟨rfl, a3⟩
    go_wp2_with fail
    refine (C2.out _).mono ?_
    rintro e w4 ⟨rfl, a4⟩
    have A4 : Hid (Touch [] w w4) := (A2.out.trans a3 (by simp)).trans a4 (by simp)
    clear a3 a4 C0 A2 A1
    go_wp2_with fail
    refine (C4.out _).mono ?_
    rintro e w5 ⟨rfl, rfl⟩
    go_wp2_with fail
    refine (C3.out _).mono ?_
    rintro e w6 ⟨rfl, a6⟩
    go_wp2_with fail
    refine (C1.out _).mono ?_
    rintro e w7 ⟨rfl, a7⟩
    go_wp2_with fail
    refine (C5.out _).mono ?_
    rintro e w8 ⟨rfl, a8⟩
    go_wp2
    go_ret
    exact ⟨rfl, ((A4.out.trans a6 (by simp)).trans a7 (by simp)).trans a8 (by simp)⟩
  · rw [q4] at C2
    have g1 : decide (33 ≤ n) = true := by simp; omega
    have g2 : decide ((33 : Int) ≤ n) = true := by simp; omega
    have g3 : decide (n ≤ 126) = true := by simp; omega
    have g4 : decide ((n : Int) ≤ 126) = true := by simp; omega
    have g5 : (n != 64) = false := by simp; omega
    have g6 : ((n : Int) != 64) = false := by simp; omega
    clear q1 q2 q3 q4 hn h3
    go_wp2_with fail
    refine (C1.out _).mono ?_
    rintro e w2 ⟨rfl, a2⟩
    have A2 : Hid (Touch [] w w2) := A1.out.trans a2 (by simp)
    clear a2
    have C0 := hid (alive_true w2 (Ht.out.touch A2.out))
    go_wp2_with fail
    refine C0.out.mono ?_
    rintro e w3 ⟨rfl, a3⟩
    go_wp2_with fail
    refine (C2.out _).mono ?_
    rintro e w4 ⟨rfl, a4⟩
    have A4 : Hid (Touch [] w w4) := (A2.out.trans a3 (by simp)).trans a4 (by simp)
    clear a3 a4 C0 A2 A1
    go_wp2_with fail
    refine (C4.out _).mono ?_
    rintro e w5 ⟨rfl, rfl⟩
    go_wp2_with fail
    refine (C3.out _).mono ?_
    rintro e w6 ⟨rfl, a6⟩
    go_wp2_with fail
    refine (C1.out _).mono ?_
    rintro e w7 ⟨rfl, a7⟩
    go_wp2_with fail
    refine (C5.out _).mono ?_
    rintro e w8 ⟨rfl, a8⟩
    go_wp2
    go_ret
    exact ⟨rfl, ((A4.out.trans a6 (by simp)).trans a7 (by simp)).trans a8 (by simp)⟩
  · rw [q4] at C2
    have g1 : decide (33 ≤ n) = true := by simp; omega
    have g2 : decide ((33 : Int) ≤ n) = true := by simp; omega
    have g3 : decide (n ≤ 126) = true := by simp; omega
    have g4 : decide ((n : Int) ≤ 126) = true := by simp; omega
    have g5 : (n != 64) = true := by simp; omega
    have g6 : ((n : Int) != 64) = true := by simp; omega
    clear q1 q2 q3 q4 hn h3
    go_wp2_with fail
    refine (C1.out _).mono ?_
    rintro e w2 ⟨rfl, a2⟩
    have A2 : Hid (Touch [] w w2) := A1.out.trans a2 (by simp)
    clear a2
    have C0 := hid (alive_true w2 (Ht.out.touch A2.out))
    go_wp2_with fail
    refine C0.out.mono ?_
    rintro e w3 ⟨rfl, a3⟩
    go_wp2_with fail
    refine (C2.out _).mono ?_
    rintro e w4 ⟨rfl, a4⟩
    have A4 : Hid (Touch [] w w4) := (A2.out.trans a3 (by simp)).trans a4 (by simp)
    clear a3 a4 C0 A2 A1
    go_wp2_with fail
    refine (C4.out _).mono ?_
    rintro e w5 ⟨rfl, rfl⟩
    go_wp2_with fail
    refine (C3.out _).mono ?_
    rintro e w6 ⟨rfl, a6⟩
    go_wp2_with fail
    refine (C1.out _).mono ?_
    rintro e w7 ⟨rfl, a7⟩
    go_wp2_with fail
    refine (C5.out _).mono ?_
    rintro e w8 ⟨rfl, a8⟩
    go_wp2
    go_ret
    exact ⟨rfl, ((A4.out.trans a6 (by simp)).trans a7 (by simp)).trans a8 (by simp)⟩

theorem walk_NameParts (s : ByteArray) (_ws : s.size ≤ maxLen) (c : Int) (_wc : (Lit.int .i64 c).wf = true) (a : Int) (_wa : (Lit.int .i64 a).wf = true) (w : World) (htab : Tab w) :
    Calls Tryd.prog 6 #[.string s, .int .i64 c, .int .i64 a] w fun e w' => e = .returned (.bool true) ∧ Touch [] w w' := by
  by_cases g1 : (100 : Int) < s.size
  · exact parts_early s c a w htab (.inl g1)
  have h1 : (s.size : Int) ≤ 100 := by omega
  by_cases g2 : a < 0
  · exact parts_early s c a w htab (.inr (.inl ⟨h1, g2⟩))
  by_cases g3 : c < 0
  · exact parts_early s c a w htab (.inr (.inr (.inl ⟨h1, by omega, g3⟩)))
  by_cases g4 : 255 < c
  · exact parts_early s c a w htab (.inr (.inr (.inr ⟨h1, by omega, by omega, g4⟩)))
  obtain ⟨n, rfl⟩ : ∃ n : Nat, c = n := ⟨c.toNat, by omega⟩
  obtain ⟨m, rfl⟩ : ∃ m : Nat, a = m := ⟨a.toNat, by omega⟩
  obtain ⟨k, hk⟩ : ∃ k : Nat, k = min m s.size := ⟨_, rfl⟩
  obtain ⟨T, hT⟩ : ∃ T, s.extract 0 k ++ (⟨#[UInt8.ofNat n]⟩ : ByteArray) ++ s.extract k s.size = T := ⟨_, rfl⟩
  obtain ⟨X, hX⟩ : ∃ X, (⟨#[36]⟩ : ByteArray) ++ s = X := ⟨_, rfl⟩
  have hTl : T.data.toList = s.data.toList.take k ++ UInt8.ofNat n :: s.data.toList.drop k := by
    rw [← hT]
    simp only [ByteArray.data_append, Array.toList_append, ext_head, ext_tail, List.append_assoc]
    rfl
  have hXl : X.data.toList = 36 :: s.data.toList := by rw [← hX]; simp
  have hsl := list_len s
  have hTs : T.size = s.size + 1 := by rw [← list_len, hTl, List.length_append, List.length_cons, List.length_take, List.length_drop, list_len]; omega
  have hST := strm_ins s.data.toList k (UInt8.ofNat n)
  rw [← hTl, hsl] at hST
  have hSX := strm_dollar s.data.toList
  rw [← hXl, hsl] at hSX
  have hcn : (UInt8.ofNat n).toNat = n := by rw [UInt8.toNat_ofNat']; omega
  have hmin : min (m : Int) (s.size : Int) = (k : Int) := by omega
  have hkI : (k : Int) ≤ s.size := by omega
  have b1 : n < 33 → okB (UInt8.ofNat n) = false := fun h => bad_at (by omega)
  have b2 : 126 < n → okB (UInt8.ofNat n) = false := fun h => bad_at (by omega)
  have b3 : n = 64 → okB (UInt8.ofNat n) = false := fun h => bad_at (by omega)
  have b4 : 33 ≤ n → n ≤ 126 → n ≠ 64 → okB (UInt8.ofNat n) = true := fun h h' h'' => ok_at (by omega) (by omega) (by omega)
  have hnl := toList_nil (s := s) rfl
  by_cases hs : s.data.toList = []
  · have hs0 : s.size = 0 := by rw [← hsl, hs]; rfl
    rw [hs] at hST
    refine parts_nil s n m k T _ X w htab h1 (by omega) rfl hkI hmin hT hX (by rw [hnl, hs]; rfl) (by omega) ?_
    rw [hST, hs0]
    by_cases q1 : n < 33
    · exact .inl ⟨q1, by rw [b1 q1]; rfl⟩
    · by_cases q2 : 126 < n
      · exact .inr (.inl ⟨by omega, q2, by rw [b2 q2]; rfl⟩)
      · by_cases q3 : n = 64
        · exact .inr (.inr (.inl ⟨by omega, by omega, q3, by rw [b3 q3]; rfl⟩))
        · exact .inr (.inr (.inr ⟨by omega, by omega, q3, by rw [b4 (by omega) (by omega) q3]; rfl⟩))
  · have hne : (s.data.toList == []) = false := by simpa using hs
    rw [hne] at hST hSX
    have hs' : (s.toList == []) = false := by rw [hnl, hne]
    by_cases hb : strm s.data.toList = true
    rotate_left
    · have hb2 : strm s.data.toList = false := by simpa using hb
      rw [hb2] at hST hSX
      exact parts_bad s n m k T _ X w htab h1 (by omega) rfl hkI hmin hT hX hs' hb2 (by rw [hST]; rfl) (by rw [hSX]; rfl)
    rw [hb] at hST hSX
    by_cases hs1 : s.size < 60
    · rw [decide_eq_true (show s.size + 1 ≤ 60 by omega)] at hST hSX
      refine parts_good s n m k T _ X w htab h1 (by omega) rfl hkI hmin hT hX hs' hb (by rw [hSX]; rfl) (by omega) (by omega) ?_
      rw [hST]
      by_cases q1 : n < 33
      · exact .inl ⟨q1, by rw [b1 q1]; rfl⟩
      · by_cases q2 : 126 < n
        · exact .inr (.inl ⟨by omega, q2, by rw [b2 q2]; rfl⟩)
        · by_cases q3 : n = 64
          · exact .inr (.inr (.inl ⟨by omega, by omega, q3, by rw [b3 q3]; rfl⟩))
          · exact .inr (.inr (.inr ⟨by omega, by omega, q3, by rw [b4 (by omega) (by omega) q3]; rfl⟩))
    · rw [decide_eq_false (show ¬ s.size + 1 ≤ 60 by omega)] at hST hSX
      have hf : strm T.data.toList = false := by rw [hST]; simp
      refine parts_full s n m k T _ X w htab h1 (by omega) rfl hkI hmin hT hX hs' hb (by rw [hSX]; rfl) (by simp; omega) (by simp; omega) ?_
      by_cases q1 : n < 33
      · exact .inl ⟨q1, hf⟩
      · by_cases q2 : 126 < n
        · exact .inr (.inl ⟨by omega, q2, hf⟩)
        · by_cases q3 : n = 64
          · exact .inr (.inr (.inl ⟨by omega, by omega, q3, hf⟩))
          · exact .inr (.inr (.inr ⟨by omega, by omega, q3, hf⟩))
end Go.Proofs.YtjkkecmidegooaaDoor
