/- The walk of NameHash. -/
import Derived.Test.YtjkkecmidegooaaDoorNAlive
import Derived.Test.YtjkkecmidegooaaDoorNHash
namespace Go.Proofs.YtjkkecmidegooaaDoor
open Go.RowKit Go.Lib Go.ChangeShapes

/-- Category of c, '-', rest, where c is a plain name without '-'. -/
theorem cat_of {c r : List UInt8} (hc : strm c = true) (hs : sysB c = false) (h45 : 45 ∉ c) : catV (c ++ 45 :: r) = if strm (c ++ 45 :: r) = true then .tuple #[.string (txt c), .bool true] else .tuple #[.string ⟨#[]⟩, .bool false] := by
  have hne : c ≠ [] := fun e => by rw [e] at hc; cases hc
  have h := hdB_at (c := 45) (l := c ++ 45 :: r) (i := c.length) (by simp) (by simp) (by simpa using h45)
  have hh : hdB 45 (c ++ 45 :: r) = c := by rw [h.1]; simp
  have hy : sysB (c ++ 45 :: r) = false := by
    unfold sysB at *
    cases c with
    | nil => exact absurd rfl hne
    | cons a l => exact hs
  unfold catV catIs
  rw [hh, hy, decide_eq_true h.2.2, show (c == []) = false by simpa using hne]
  cases strm (c ++ 45 :: r) <;> rfl
theorem toList_ext {x y : ByteArray} (h : x.data.toList = y.data.toList) : x = y := by rw [← txt_self x, ← txt_self y, h]
theorem hash_early (c r : ByteArray) (w : World) (htab : Tab w) (hcs : c.size ≤ 140737488355328) (hrs : r.size ≤ 140737488355328)
    (h : (c.size : Int) < 1 ∨ ((1 : Int) ≤ c.size ∧ (50 : Int) < (c.size : Int) + r.size) ∨ ((1 : Int) ≤ c.size ∧ (c.size : Int) + r.size ≤ 50 ∧ strm c.data.toList = false) ∨ ((1 : Int) ≤ c.size ∧ (c.size : Int) + r.size ≤ 50 ∧ strm c.data.toList = true ∧ sysB c.data.toList = true)) :
    Calls Tryd.prog 5 #[.string c, .string r] w fun e w' => e = .returned (.bool true) ∧ Touch [] w w' := by
  have Ht := hid htab; clear htab
  have C1 := hid (fun w => stm_any c w)
  have C2 := hid (fun w => sys_any c w)
  rcases h with h | ⟨h1, h2⟩ | ⟨h1, h2, h3⟩ | ⟨h1, h2, h3, h4⟩
  · have C0 := hid (alive_true w Ht.out)
    go_enter Tryd.func5, Tryd.ntmps5
    go_wp2_with (go_at_call 8; refine C0.out.mono ?_; rintro e w1 ⟨rfl, a1⟩)
    go_ret
    exact ⟨rfl, a1⟩
  · have C0 := hid (alive_true w Ht.out)
    go_enter Tryd.func5, Tryd.ntmps5
    go_wp2_with (go_at_call 8; refine C0.out.mono ?_; rintro e w1 ⟨rfl, a1⟩)
    go_ret
    exact ⟨rfl, a1⟩
  · rw [h3] at C1
    clear h3
    go_enter Tryd.func5, Tryd.ntmps5
    go_wp2_with (go_at_call 13; refine (C1.out _).mono ?_; rintro e w1 ⟨rfl, a1⟩)
    have A1 := hid a1; clear a1
    have C0 := hid (alive_true w1 (Ht.out.touch A1.out))
    go_wp2_with (go_at_call 8; refine C0.out.mono ?_; rintro e w2 ⟨rfl, a2⟩)
    go_ret
    exact ⟨rfl, A1.out.trans a2 (by simp)⟩
  · rw [h3] at C1
    rw [h4] at C2
    clear h3 h4
    go_enter Tryd.func5, Tryd.ntmps5
    go_wp2_with (first | (go_at_call 13; refine (C1.out _).mono ?_; rintro e w1 ⟨rfl, a1⟩) | (go_at_call 16; refine (C2.out _).mono ?_; rintro e w2 ⟨rfl, rfl⟩))
    have A1 := hid a1; clear a1
    have C0 := hid (alive_true w1 (Ht.out.touch A1.out))
    go_wp2_with (go_at_call 8; refine C0.out.mono ?_; rintro e w2 ⟨rfl, a2⟩)
    go_ret
    exact ⟨rfl, A1.out.trans a2 (by simp)⟩

set_option maxRecDepth 100000 in
set_option maxHeartbeats 1000000 in
theorem hash_late (c r : ByteArray) (w : World) (htab : Tab w) (h1 : (1 : Int) ≤ c.size) (h2 : (c.size : Int) + r.size ≤ 50) (h3 : strm c.data.toList = true) (h4 : sysB c.data.toList = false) :
    Calls Tryd.prog 5 #[.string c, .string r] w fun e w' => e = .returned (.bool true) ∧ Touch [] w w' := by
  have Ht := hid htab; clear htab
  have C1 := hid (fun w => stm_any c w)
  have C2 := hid (fun w => sys_any c w)
  rw [h3] at C1
  rw [h4] at C2
  have H3 := hid h3
  have H4 := hid h4
  have Hsl := hid (list_len c)
  clear h3 h4
  go_enter Tryd.func5, Tryd.ntmps5
  go_wp2_with (first | (go_at_call 13; refine (C1.out _).mono ?_; rintro e w1 ⟨rfl, a1⟩) | (go_at_call 16; refine (C2.out _).mono ?_; rintro e w2 ⟨rfl, rfl⟩))
  have A1 := hid a1
  clear a1 C1 C2
  have C0 := hid (alive_true w1 (Ht.out.touch A1.out))
  go_loop [5] (fun kv => ∃ k : Nat, k ≤ c.size ∧ kv = .int .i64 k ∧ 45 ∉ c.data.toList.take k) (fun kv => c.size - (RowKit.intOf kv).toNat)
  case atStart => exact ⟨0, Nat.zero_le _, rfl, by simp⟩
  case round =>
    obtain ⟨k, hk, rfl, hall⟩ := hrel
    have Hall := hid hall; clear hall
    by_cases hlt : k < c.size
    · have hltI : (k : Int) < c.size := by omega
      by_cases q5 : (c[k].toNat : Int) = 45
      · have q6 : ((c[k].toNat : Int) == 45) = true := by simpa using q5
        clear q5 h2
        go_wp2_with (go_at_call 8; refine C0.out.mono ?_; rintro e w2 ⟨rfl, a2⟩)
        go_ret
        exact ⟨rfl, A1.out.trans a2 (by simp)⟩
      · have q6 : ((c[k].toNat : Int) == 45) = false := by simpa using q5
        have hnx := hid (show 45 ∉ c.data.toList.take (k + 1) by
          rw [List.take_succ_eq_append_getElem (show k < c.data.toList.length by rw [list_len]; exact hlt), List.mem_append, not_or]
          refine ⟨Hall.out, fun e => ?_⟩
          have : (45 : UInt8) = c[k] := List.mem_singleton.1 e
          rw [← this] at q5
          exact q5 rfl)
        have hb1 : (k : Int) < 9223372036854775807 := by omega
        clear q5 h2
        go_wp2
        go_round
        case rel => exact ⟨k + 1, by omega, by go_num, hnx.out⟩
        case measure => simp [RowKit.intOf]; omega
    · obtain rfl : k = c.size := by omega
      have h45 : 45 ∉ c.data.toList := by have := Hall.out; rw [← Hsl.out, List.take_length] at this; exact this
      obtain ⟨S, hS⟩ : ∃ S, S = c ++ ⟨#[45]⟩ ++ r := ⟨_, rfl⟩
      have hSl : S.data.toList = c.data.toList ++ 45 :: r.data.toList := by rw [hS]; simp
      have hSs : S.size ≤ 60 := by rw [← list_len, hSl, List.length_append, List.length_cons, list_len, list_len]; omega
      have C3 := hid (fun w => cat_any S w (by omega))
      rw [hSl, cat_of H3.out H4.out h45, ← hSl, txt_self] at C3
      have C4 := hid (fun w => hash_any S w (by omega))
      obtain ⟨x0, x1⟩ := hash_range S.data.toList
      generalize hashN S.data.toList = x at *
      have C5 := hid (fun w => stm_any S w)
      clear h45 hSl hSs Hall hlt C0
      generalize hb : strm S.data.toList = b at *
      clear hb
      have hS1 : c ++ ⟨#[45]⟩ ++ r = S := hS.symm
      clear hS h1
      cases b
      all_goals
        go_wp2_with (first | (go_at_call 9; refine (C3.out _).mono ?_; rintro e w2 ⟨rfl, a2⟩) | (go_at_call 18; refine (C4.out _).mono ?_; rintro e w3 ⟨rfl, a3⟩))
        have A3 : Hid (Touch [] w w3) := (A1.out.trans a2 (by simp)).trans a3 (by simp)
        clear a2 a3
        have C0 := hid (alive_true w3 (Ht.out.touch A3.out))
        go_wp2_with (first | (go_at_call 8; refine C0.out.mono ?_; rintro e w4 ⟨rfl, a4⟩) | (go_at_call 13; refine (C5.out _).mono ?_; rintro e w5 ⟨rfl, a5⟩))
        go_ret
        exact ⟨rfl, (A3.out.trans a4 (by simp)).trans a5 (by simp)⟩

theorem walk_NameHash (c : ByteArray) (_wc : c.size ≤ 140737488355328) (r : ByteArray) (_wr : r.size ≤ 140737488355328) (w : World) (htab : Tab w) :
    Calls Tryd.prog 5 #[.string c, .string r] w fun e w' => e = .returned (.bool true) ∧ Touch [] w w' := by
  by_cases g1 : (c.size : Int) < 1
  · exact hash_early c r w htab _wc _wr (.inl g1)
  have h1 : (1 : Int) ≤ c.size := by omega
  by_cases g2 : (50 : Int) < (c.size : Int) + r.size
  · exact hash_early c r w htab _wc _wr (.inr (.inl ⟨h1, g2⟩))
  have h2 : (c.size : Int) + r.size ≤ 50 := by omega
  by_cases g3 : strm c.data.toList = true
  rotate_left
  · exact hash_early c r w htab _wc _wr (.inr (.inr (.inl ⟨h1, h2, by simpa using g3⟩)))
  by_cases g4 : sysB c.data.toList = true
  · exact hash_early c r w htab _wc _wr (.inr (.inr (.inr ⟨h1, h2, g3, g4⟩)))
  exact hash_late c r w htab h1 h2 g3 (by simpa using g4)
end Go.Proofs.YtjkkecmidegooaaDoor
