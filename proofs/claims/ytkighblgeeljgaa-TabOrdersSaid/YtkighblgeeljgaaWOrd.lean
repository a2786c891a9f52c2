/- TabOrders, walked. -/
import Derived.Test.YtkighblgeeljgaaNi12
namespace Go.Proofs.Ytkighblgeeljgaa
open Go.RowKit Go.Lib
set_option maxRecDepth 100000

theorem lastnil_any (h : Int) (w : World) : Calls Try.prog 21 #[.pointer none, .int .i64 h] w fun e w' => e = .returned (.tuple #[.agg #[.int .i64 0, .int .i64 0, .int .i64 0], .bool false]) ∧ Touch [] w w' :=
  last_any (p := none) (T := .nil) h w (.inl ⟨rfl, rfl⟩) (by simp [Tr.io])
theorem lennil_any (w : World) : Calls Try.prog 28 #[.pointer none] w fun e w' => e = .returned (.int .i64 0) ∧ Touch [] w w' :=
  (tablen_any (p := none) (T := .nil) w (.inl ⟨rfl, rfl⟩)).mono fun e w' ⟨he, h⟩ => ⟨he, by rw [h]; exact Touch.refl _ _⟩
theorem own_zero {w : World} {base size : Nat} {e : TypeId} {v : Value} {xs : List Value} (h : w.ownsRow base e size v 0 xs) : ∃ x c, v = .slice x 0 c := by
  rcases h.2 with ⟨rfl, _⟩ | ⟨g, cap, cur, rfl, _⟩
  · exact ⟨_, _, rfl⟩
  · exact ⟨_, _, rfl⟩
theorem allnil_any (w : World) : Calls Try.prog 16 #[.pointer none] w fun e w' => ∃ x c, e = .returned (.slice x 0 c) ∧ Touch [] w w' :=
  (all_any none .nil (by simp [Tr.io]) (by simp [Tr.io]) w (.inl ⟨rfl, rfl⟩)).mono fun e w' ⟨v, he, hr, t⟩ => by
    obtain ⟨x, c, rfl⟩ := own_zero hr
    exact ⟨x, c, he, t⟩
theorem findnil_any (h v : Int) (w : World) : Calls Try.prog 18 #[.pointer none, .int .i64 h, .int .i64 v] w fun e w' => ∃ x c, e = .returned (.slice x 0 c) ∧ Touch [] w w' :=
  (find_any h v none .nil (by simp [Tr.io]) (by simp [Tr.io]) w (.inl ⟨rfl, rfl⟩)).mono fun e w' ⟨v, he, hr, t⟩ => by
    obtain ⟨x, c, rfl⟩ := own_zero hr
    exact ⟨x, c, he, t⟩

set_option maxHeartbeats 16000000 in
theorem walk_TabOrders (a : En) (oka : True) (b : En) (okb : True) (c : En) (okc : True) (W : World) :
    Calls Try.prog 4 #[enV a, enV b, enV c] W fun e W' => e = .returned (.bool true) ∧ Touch [] W W' := by
  clear oka okb okc
  have L0 := hid fun w' => lastnil_any a.1 w'
  have L1 := hid fun w' => alive12_true w'
  have L2 := hid fun x y w' => less_any x y w'
  have L3 := hid fun v w' => addnil_any v w'
  have L4 := hid fun w' => cutnil_any 0 w'
  have L5 := hid fun w' => lennil_any w'
  have L6 := hid fun w' => allnil_any w'
  have L7 := hid fun w' => findnil_any 1 1 w'
  have L8 := hid fun w' => rangenil_any 1 0 9 w'
  have daa : decide (ltE a a) = false := by rw [decide_eq_false_iff_not]; exact ltE_irrefl a
  have key : Hid ((a = b) ∨ (ltE a b ∧ ltE b c ∧ ltE a c) ∨ (ltE a b ∧ ¬ ltE b c) ∨ ltE b a) := hid (by
    rcases ltE_tri a b with h | h | h
    · exact .inl h
    · by_cases h2 : ltE b c
      · exact .inr (.inl ⟨h, h2, ltE_trans h h2⟩)
      · exact .inr (.inr (.inl ⟨h, h2⟩))
    · exact .inr (.inr (.inr h)))
  obtain ⟨x1, hx1⟩ : ∃ x, x = W.heap.size := ⟨_, rfl⟩
  obtain ⟨x2, hx2⟩ : ∃ x, x = W.heap.size + 1 := ⟨_, rfl⟩
  obtain ⟨x3, hx3⟩ : ∃ x, x = W.heap.size + 1 + 1 := ⟨_, rfl⟩
  obtain ⟨w1, hw1⟩ : ∃ w1, w1 = ((W.alloc (.cells #[.int .i64 a.1, .int .i64 a.2.1, .int .i64 a.2.2] TEn)).alloc (.cells #[.int .i64 b.1, .int .i64 b.2.1, .int .i64 b.2.2] TEn)).alloc (.cells #[.int .i64 c.1, .int .i64 c.2.1, .int .i64 c.2.2] TEn) := ⟨_, rfl⟩
  have B1 : EnB w1 x1 a := by rw [hw1, hx1]; exact heap_alloc_keep (heap_alloc_keep (heap_alloc_new W _) _) _
  have B2 : EnB w1 x2 b := by rw [hw1, hx2]; exact heap_alloc_keep (new_at (W.alloc _) _ _ (by simp)) _
  have B3 : EnB w1 x3 c := by rw [hw1, hx3]; exact new_at _ _ _ (by simp)
  have T1 : Hid (Touch [] W w1) := hid (by rw [hw1]; exact (((Touch.refl [] W).alloc _).alloc _).alloc _)
  have S := hid fun w' (t : Touch [] w1 w') => And.intro (B1.t t).c (And.intro (B2.t t).c (B3.t t).c)
  obtain ⟨q0, q1, q2⟩ := B1.c
  go_enter Try.func4, Try.ntmps4
  go_upto_region 1 with fail
  rw [← hw1, ← hx3, ← hx2, ← hx1]
  clear hw1 hx1 hx2 hx3 B1 B2 B3
  have TW := hid (Touch.refl [] w1)
  have KK := key.out
  clear key
  rcases KK with h | ⟨h1, h2, h3⟩ | ⟨h1, h2⟩ | h1
  · subst h
    go_wp2_with (first
    | (go_at_call 30; refine (L2.out _ _ _).mono ?_; rintro e w3 ⟨rfl, t3⟩; have TT := hid (TW.out.trans t3 (by simp)); clear t3 TW; have TW := TT; clear TT; (try clear p0 p1 p2 p3 p4 p5 p6 p7 p8); obtain ⟨⟨p0, p1, p2⟩, ⟨p3, p4, p5⟩, p6, p7, p8⟩ := S.out w3 TW.out)
    | (go_at_call 21; refine (L0.out _).mono ?_; rintro e w3 ⟨rfl, t3⟩; have TT := hid (TW.out.trans t3 (by simp)); clear t3 TW; have TW := TT; clear TT; (try clear p0 p1 p2 p3 p4 p5 p6 p7 p8); obtain ⟨⟨p0, p1, p2⟩, ⟨p3, p4, p5⟩, p6, p7, p8⟩ := S.out w3 TW.out)
    | (go_at_call 7; (refine (L1.out _).mono ?_; rintro e w3 ⟨rfl, t3⟩; have TT := hid ((TW.out.alloc _).trans t3 (by simp)); clear t3 TW; have TW := TT; clear TT; (try clear p0 p1 p2 p3 p4 p5 p6 p7 p8); obtain ⟨⟨p0, p1, p2⟩, ⟨p3, p4, p5⟩, p6, p7, p8⟩ := S.out w3 TW.out))
    | (go_at_call 14; refine (L3.out _ _).mono ?_; rintro e w3 ⟨rfl, t3⟩; have TT := hid ((TW.out.alloc _).trans t3 (by simp)); clear t3 TW; have TW := TT; clear TT; (try clear p0 p1 p2 p3 p4 p5 p6 p7 p8); obtain ⟨⟨p0, p1, p2⟩, ⟨p3, p4, p5⟩, p6, p7, p8⟩ := S.out w3 TW.out)
    | (go_at_call 10; refine (L4.out _).mono ?_; rintro e w3 ⟨rfl, t3⟩; have TT := hid (TW.out.trans t3 (by simp)); clear t3 TW; have TW := TT; clear TT; (try clear p0 p1 p2 p3 p4 p5 p6 p7 p8); obtain ⟨⟨p0, p1, p2⟩, ⟨p3, p4, p5⟩, p6, p7, p8⟩ := S.out w3 TW.out)
    | (go_at_call 28; refine (L5.out _).mono ?_; rintro e w3 ⟨rfl, t3⟩; have TT := hid (TW.out.trans t3 (by simp)); clear t3 TW; have TW := TT; clear TT; (try clear p0 p1 p2 p3 p4 p5 p6 p7 p8); obtain ⟨⟨p0, p1, p2⟩, ⟨p3, p4, p5⟩, p6, p7, p8⟩ := S.out w3 TW.out)
    | (go_at_call 16; refine (L6.out _).mono ?_; rintro e w3 ⟨_, _, rfl, t3⟩; have TT := hid (TW.out.trans t3 (by simp)); clear t3 TW; have TW := TT; clear TT; (try clear p0 p1 p2 p3 p4 p5 p6 p7 p8); obtain ⟨⟨p0, p1, p2⟩, ⟨p3, p4, p5⟩, p6, p7, p8⟩ := S.out w3 TW.out)
    | (go_at_call 18; refine (L7.out _).mono ?_; rintro e w3 ⟨_, _, rfl, t3⟩; have TT := hid (TW.out.trans t3 (by simp)); clear t3 TW; have TW := TT; clear TT; (try clear p0 p1 p2 p3 p4 p5 p6 p7 p8); obtain ⟨⟨p0, p1, p2⟩, ⟨p3, p4, p5⟩, p6, p7, p8⟩ := S.out w3 TW.out)
    | (go_at_call 17; refine (L8.out _).mono ?_; rintro e w3 ⟨rfl, t3⟩; have TT := hid (TW.out.trans t3 (by simp)); clear t3 TW; have TW := TT; clear TT; (try clear p0 p1 p2 p3 p4 p5 p6 p7 p8); obtain ⟨⟨p0, p1, p2⟩, ⟨p3, p4, p5⟩, p6, p7, p8⟩ := S.out w3 TW.out))
    go_ret
    exact ⟨rfl, T1.out.trans TW.out (by simp)⟩
  · have EQ := en_ne (ltE_ne h1)
    have dab : decide (ltE a b) = true := by rw [decide_eq_true_eq]; assumption
    have dba : decide (ltE b a) = false := by rw [decide_eq_false_iff_not]; exact ltE_asymm h1
    have dbc : decide (ltE b c) = true := by rw [decide_eq_true_eq]; assumption
    have dac : decide (ltE a c) = true := by rw [decide_eq_true_eq]; assumption
    clear h1 h2 h3
    go_wp2_with (first
    | (go_at_call 30; refine (L2.out _ _ _).mono ?_; rintro e w3 ⟨rfl, t3⟩; have TT := hid (TW.out.trans t3 (by simp)); clear t3 TW; have TW := TT; clear TT; (try clear p0 p1 p2 p3 p4 p5 p6 p7 p8); obtain ⟨⟨p0, p1, p2⟩, ⟨p3, p4, p5⟩, p6, p7, p8⟩ := S.out w3 TW.out)
    | (go_at_call 21; refine (L0.out _).mono ?_; rintro e w3 ⟨rfl, t3⟩; have TT := hid (TW.out.trans t3 (by simp)); clear t3 TW; have TW := TT; clear TT; (try clear p0 p1 p2 p3 p4 p5 p6 p7 p8); obtain ⟨⟨p0, p1, p2⟩, ⟨p3, p4, p5⟩, p6, p7, p8⟩ := S.out w3 TW.out)
    | (go_at_call 7; (refine (L1.out _).mono ?_; rintro e w3 ⟨rfl, t3⟩; have TT := hid ((TW.out.alloc _).trans t3 (by simp)); clear t3 TW; have TW := TT; clear TT; (try clear p0 p1 p2 p3 p4 p5 p6 p7 p8); obtain ⟨⟨p0, p1, p2⟩, ⟨p3, p4, p5⟩, p6, p7, p8⟩ := S.out w3 TW.out))
    | (go_at_call 14; refine (L3.out _ _).mono ?_; rintro e w3 ⟨rfl, t3⟩; have TT := hid ((TW.out.alloc _).trans t3 (by simp)); clear t3 TW; have TW := TT; clear TT; (try clear p0 p1 p2 p3 p4 p5 p6 p7 p8); obtain ⟨⟨p0, p1, p2⟩, ⟨p3, p4, p5⟩, p6, p7, p8⟩ := S.out w3 TW.out)
    | (go_at_call 10; refine (L4.out _).mono ?_; rintro e w3 ⟨rfl, t3⟩; have TT := hid (TW.out.trans t3 (by simp)); clear t3 TW; have TW := TT; clear TT; (try clear p0 p1 p2 p3 p4 p5 p6 p7 p8); obtain ⟨⟨p0, p1, p2⟩, ⟨p3, p4, p5⟩, p6, p7, p8⟩ := S.out w3 TW.out)
    | (go_at_call 28; refine (L5.out _).mono ?_; rintro e w3 ⟨rfl, t3⟩; have TT := hid (TW.out.trans t3 (by simp)); clear t3 TW; have TW := TT; clear TT; (try clear p0 p1 p2 p3 p4 p5 p6 p7 p8); obtain ⟨⟨p0, p1, p2⟩, ⟨p3, p4, p5⟩, p6, p7, p8⟩ := S.out w3 TW.out)
    | (go_at_call 16; refine (L6.out _).mono ?_; rintro e w3 ⟨_, _, rfl, t3⟩; have TT := hid (TW.out.trans t3 (by simp)); clear t3 TW; have TW := TT; clear TT; (try clear p0 p1 p2 p3 p4 p5 p6 p7 p8); obtain ⟨⟨p0, p1, p2⟩, ⟨p3, p4, p5⟩, p6, p7, p8⟩ := S.out w3 TW.out)
    | (go_at_call 18; refine (L7.out _).mono ?_; rintro e w3 ⟨_, _, rfl, t3⟩; have TT := hid (TW.out.trans t3 (by simp)); clear t3 TW; have TW := TT; clear TT; (try clear p0 p1 p2 p3 p4 p5 p6 p7 p8); obtain ⟨⟨p0, p1, p2⟩, ⟨p3, p4, p5⟩, p6, p7, p8⟩ := S.out w3 TW.out)
    | (go_at_call 17; refine (L8.out _).mono ?_; rintro e w3 ⟨rfl, t3⟩; have TT := hid (TW.out.trans t3 (by simp)); clear t3 TW; have TW := TT; clear TT; (try clear p0 p1 p2 p3 p4 p5 p6 p7 p8); obtain ⟨⟨p0, p1, p2⟩, ⟨p3, p4, p5⟩, p6, p7, p8⟩ := S.out w3 TW.out))
    go_ret
    exact ⟨rfl, T1.out.trans TW.out (by simp)⟩
  · have EQ := en_ne (ltE_ne h1)
    have dab : decide (ltE a b) = true := by rw [decide_eq_true_eq]; assumption
    have dba : decide (ltE b a) = false := by rw [decide_eq_false_iff_not]; exact ltE_asymm h1
    have dbc : decide (ltE b c) = false := by rw [decide_eq_false_iff_not]; exact h2
    clear h1 h2
    go_wp2_with (first
    | (go_at_call 30; refine (L2.out _ _ _).mono ?_; rintro e w3 ⟨rfl, t3⟩; have TT := hid (TW.out.trans t3 (by simp)); clear t3 TW; have TW := TT; clear TT; (try clear p0 p1 p2 p3 p4 p5 p6 p7 p8); obtain ⟨⟨p0, p1, p2⟩, ⟨p3, p4, p5⟩, p6, p7, p8⟩ := S.out w3 TW.out)
    | (go_at_call 21; refine (L0.out _).mono ?_; rintro e w3 ⟨rfl, t3⟩; have TT := hid (TW.out.trans t3 (by simp)); clear t3 TW; have TW := TT; clear TT; (try clear p0 p1 p2 p3 p4 p5 p6 p7 p8); obtain ⟨⟨p0, p1, p2⟩, ⟨p3, p4, p5⟩, p6, p7, p8⟩ := S.out w3 TW.out)
    | (go_at_call 7; (refine (L1.out _).mono ?_; rintro e w3 ⟨rfl, t3⟩; have TT := hid ((TW.out.alloc _).trans t3 (by simp)); clear t3 TW; have TW := TT; clear TT; (try clear p0 p1 p2 p3 p4 p5 p6 p7 p8); obtain ⟨⟨p0, p1, p2⟩, ⟨p3, p4, p5⟩, p6, p7, p8⟩ := S.out w3 TW.out))
    | (go_at_call 14; refine (L3.out _ _).mono ?_; rintro e w3 ⟨rfl, t3⟩; have TT := hid ((TW.out.alloc _).trans t3 (by simp)); clear t3 TW; have TW := TT; clear TT; (try clear p0 p1 p2 p3 p4 p5 p6 p7 p8); obtain ⟨⟨p0, p1, p2⟩, ⟨p3, p4, p5⟩, p6, p7, p8⟩ := S.out w3 TW.out)
    | (go_at_call 10; refine (L4.out _).mono ?_; rintro e w3 ⟨rfl, t3⟩; have TT := hid (TW.out.trans t3 (by simp)); clear t3 TW; have TW := TT; clear TT; (try clear p0 p1 p2 p3 p4 p5 p6 p7 p8); obtain ⟨⟨p0, p1, p2⟩, ⟨p3, p4, p5⟩, p6, p7, p8⟩ := S.out w3 TW.out)
    | (go_at_call 28; refine (L5.out _).mono ?_; rintro e w3 ⟨rfl, t3⟩; have TT := hid (TW.out.trans t3 (by simp)); clear t3 TW; have TW := TT; clear TT; (try clear p0 p1 p2 p3 p4 p5 p6 p7 p8); obtain ⟨⟨p0, p1, p2⟩, ⟨p3, p4, p5⟩, p6, p7, p8⟩ := S.out w3 TW.out)
    | (go_at_call 16; refine (L6.out _).mono ?_; rintro e w3 ⟨_, _, rfl, t3⟩; have TT := hid (TW.out.trans t3 (by simp)); clear t3 TW; have TW := TT; clear TT; (try clear p0 p1 p2 p3 p4 p5 p6 p7 p8); obtain ⟨⟨p0, p1, p2⟩, ⟨p3, p4, p5⟩, p6, p7, p8⟩ := S.out w3 TW.out)
    | (go_at_call 18; refine (L7.out _).mono ?_; rintro e w3 ⟨_, _, rfl, t3⟩; have TT := hid (TW.out.trans t3 (by simp)); clear t3 TW; have TW := TT; clear TT; (try clear p0 p1 p2 p3 p4 p5 p6 p7 p8); obtain ⟨⟨p0, p1, p2⟩, ⟨p3, p4, p5⟩, p6, p7, p8⟩ := S.out w3 TW.out)
    | (go_at_call 17; refine (L8.out _).mono ?_; rintro e w3 ⟨rfl, t3⟩; have TT := hid (TW.out.trans t3 (by simp)); clear t3 TW; have TW := TT; clear TT; (try clear p0 p1 p2 p3 p4 p5 p6 p7 p8); obtain ⟨⟨p0, p1, p2⟩, ⟨p3, p4, p5⟩, p6, p7, p8⟩ := S.out w3 TW.out))
    go_ret
    exact ⟨rfl, T1.out.trans TW.out (by simp)⟩
  · have EQ := en_ne (ltE_ne h1).symm
    have dab : decide (ltE a b) = false := by rw [decide_eq_false_iff_not]; exact ltE_asymm h1
    have dba : decide (ltE b a) = true := by rw [decide_eq_true_eq]; assumption
    clear h1
    go_wp2_with (first
    | (go_at_call 30; refine (L2.out _ _ _).mono ?_; rintro e w3 ⟨rfl, t3⟩; have TT := hid (TW.out.trans t3 (by simp)); clear t3 TW; have TW := TT; clear TT; (try clear p0 p1 p2 p3 p4 p5 p6 p7 p8); obtain ⟨⟨p0, p1, p2⟩, ⟨p3, p4, p5⟩, p6, p7, p8⟩ := S.out w3 TW.out)
    | (go_at_call 21; refine (L0.out _).mono ?_; rintro e w3 ⟨rfl, t3⟩; have TT := hid (TW.out.trans t3 (by simp)); clear t3 TW; have TW := TT; clear TT; (try clear p0 p1 p2 p3 p4 p5 p6 p7 p8); obtain ⟨⟨p0, p1, p2⟩, ⟨p3, p4, p5⟩, p6, p7, p8⟩ := S.out w3 TW.out)
    | (go_at_call 7; (refine (L1.out _).mono ?_; rintro e w3 ⟨rfl, t3⟩; have TT := hid ((TW.out.alloc _).trans t3 (by simp)); clear t3 TW; have TW := TT; clear TT; (try clear p0 p1 p2 p3 p4 p5 p6 p7 p8); obtain ⟨⟨p0, p1, p2⟩, ⟨p3, p4, p5⟩, p6, p7, p8⟩ := S.out w3 TW.out))
    | (go_at_call 14; refine (L3.out _ _).mono ?_; rintro e w3 ⟨rfl, t3⟩; have TT := hid ((TW.out.alloc _).trans t3 (by simp)); clear t3 TW; have TW := TT; clear TT; (try clear p0 p1 p2 p3 p4 p5 p6 p7 p8); obtain ⟨⟨p0, p1, p2⟩, ⟨p3, p4, p5⟩, p6, p7, p8⟩ := S.out w3 TW.out)
    | (go_at_call 10; refine (L4.out _).mono ?_; rintro e w3 ⟨rfl, t3⟩; have TT := hid (TW.out.trans t3 (by simp)); clear t3 TW; have TW := TT; clear TT; (try clear p0 p1 p2 p3 p4 p5 p6 p7 p8); obtain ⟨⟨p0, p1, p2⟩, ⟨p3, p4, p5⟩, p6, p7, p8⟩ := S.out w3 TW.out)
    | (go_at_call 28; refine (L5.out _).mono ?_; rintro e w3 ⟨rfl, t3⟩; have TT := hid (TW.out.trans t3 (by simp)); clear t3 TW; have TW := TT; clear TT; (try clear p0 p1 p2 p3 p4 p5 p6 p7 p8); obtain ⟨⟨p0, p1, p2⟩, ⟨p3, p4, p5⟩, p6, p7, p8⟩ := S.out w3 TW.out)
    | (go_at_call 16; refine (L6.out _).mono ?_; rintro e w3 ⟨_, _, rfl, t3⟩; have TT := hid (TW.out.trans t3 (by simp)); clear t3 TW; have TW := TT; clear TT; (try clear p0 p1 p2 p3 p4 p5 p6 p7 p8); obtain ⟨⟨p0, p1, p2⟩, ⟨p3, p4, p5⟩, p6, p7, p8⟩ := S.out w3 TW.out)
    | (go_at_call 18; refine (L7.out _).mono ?_; rintro e w3 ⟨_, _, rfl, t3⟩; have TT := hid (TW.out.trans t3 (by simp)); clear t3 TW; have TW := TT; clear TT; (try clear p0 p1 p2 p3 p4 p5 p6 p7 p8); obtain ⟨⟨p0, p1, p2⟩, ⟨p3, p4, p5⟩, p6, p7, p8⟩ := S.out w3 TW.out)
    | (go_at_call 17; refine (L8.out _).mono ?_; rintro e w3 ⟨rfl, t3⟩; have TT := hid (TW.out.trans t3 (by simp)); clear t3 TW; have TW := TT; clear TT; (try clear p0 p1 p2 p3 p4 p5 p6 p7 p8); obtain ⟨⟨p0, p1, p2⟩, ⟨p3, p4, p5⟩, p6, p7, p8⟩ := S.out w3 TW.out))
    go_ret
    exact ⟨rfl, T1.out.trans TW.out (by simp)⟩
end Go.Proofs.Ytkighblgeeljgaa
