/- pick; the words that take two numbers. -/
import Derived.Test.YtiglfdefeaddmaaWords
namespace Go.Proofs.Ytiglfdefeaddmaa
open Go.RowKit Go.Lib

theorem does_pick (E : EnvD) (g : Nat) (s : List Nat) (W : World) (h : Mach E g s W) (hs : s.length ≤ 90000) : Calls Try.prog 59 #[.pointer (some ⟨g, 0, none⟩)] W (Post E g (stepK E .pick s) W) := by
  have hlt := h.lt
  rcases s with _ | ⟨c, _ | ⟨b, _ | ⟨a, s⟩⟩⟩
  · have C := hid (pop_none E g W h)
    clear h hs
    go_enter Try.func59, Try.ntmps59
    go_wp2_with (go_at_call 55; refine C.out.mono ?_; rintro e w1 ⟨⟨pv, rfl, ht⟩, h2⟩)
    exact ⟨rfl, ⟨_, rfl, ht⟩, h2⟩
  · have C := hid (pop_some E g [] c W h (by simp))
    have D := hid (fun (w1 : World) (h1 : Mach E g [] w1) => pop_none E g w1 h1)
    clear h hs
    go_enter Try.func59, Try.ntmps59
    go_wp2_with fail
    refine C.out.mono ?_
    rintro e w1 ⟨rfl, h1, ht⟩
    go_wp2_with fail
    refine (D.out _ h1).mono ?_
    rintro e w2 ⟨⟨pv, rfl, ht2⟩, h2⟩
    go_wp2
    exact ⟨rfl, Faults.after ⟨⟨_, rfl, ht2⟩, h2⟩ (below_pop ht hlt)⟩
  · have C := hid (pop_some E g [b] c W h (by simp))
    have C2 := hid (fun (w1 : World) (h1 : Mach E g [b] w1) => pop_some E g [] b w1 h1 (by simp))
    have D := hid (fun (w1 : World) (h1 : Mach E g [] w1) => pop_none E g w1 h1)
    clear h hs
    go_enter Try.func59, Try.ntmps59
    go_wp2_with fail
    refine C.out.mono ?_
    rintro e w1 ⟨rfl, h1, ht⟩
    go_wp2_with fail
    refine (C2.out _ h1).mono ?_
    rintro e w2 ⟨rfl, h2, ht2⟩
    go_wp2_with fail
    refine (D.out _ h2).mono ?_
    rintro e w3 ⟨⟨pv, rfl, ht3⟩, h3⟩
    go_wp2
    exact ⟨rfl, Faults.after (Faults.after ⟨⟨_, rfl, ht3⟩, h3⟩ (below_pop ht2 h1.lt)) (below_pop ht hlt)⟩
  · have hc : Wd c := h.wd c (by simp)
    have hb : Wd b := h.wd b (by simp)
    have ha : Wd a := h.wd a (by simp)
    have C := hid (pop_some E g (b :: a :: s) c W h (by simp at hs ⊢; omega))
    have C2 := hid (fun (w1 : World) (h1 : Mach E g (b :: a :: s) w1) => pop_some E g (a :: s) b w1 h1 (by simp at hs ⊢; omega))
    have C3 := hid (fun (w1 : World) (h1 : Mach E g (a :: s) w1) => pop_some E g s a w1 h1 (by simp at hs; omega))
    have K := hid (fun w1 : World => class_any c w1 hc)
    have hp : (stepK E .pick (c :: b :: a :: s)) = .ok (can (if cls c = 0 ∨ cls c = 3 ∨ cls c = 4 then b else a) :: s) := rfl
    rw [hp]
    have P := hid (fun (x : Nat) (hx : Wd x) (w1 : World) (h1 : Mach E g s w1) => push_any E g s x w1 h1 hx (by simp at hs; omega))
    clear h hs hp
    have hcl : Hid (cls c = 0 ∨ cls c = 3 ∨ cls c = 4 ∨ (¬ cls c = 0 ∧ ¬ cls c = 3 ∧ ¬ cls c = 4)) := by unfold Hid; omega
    have HB := hid hb
    have HA := hid ha
    clear hb ha hc
    generalize cls c = q at *
    rcases hcl.out with rfl | rfl | rfl | ⟨q0, q3, q4⟩
    · clear hcl
      rw [if_pos (by omega)]
      go_enter Try.func59, Try.ntmps59
      go_wp2_with fail
      refine C.out.mono ?_
      rintro e w1 ⟨rfl, h1, ht⟩
      go_wp2_with fail
      refine (C2.out _ h1).mono ?_
      rintro e w2 ⟨rfl, h2, ht2⟩
      go_wp2_with fail
      refine (C3.out _ h2).mono ?_
      rintro e w3 ⟨rfl, h3, ht3⟩
      go_wp2_with (go_at_call 69; refine (K.out _).mono ?_; rintro e w' ⟨rfl, rfl⟩)
      refine (P.out b HB.out _ h3).mono ?_
      rintro e w4 ⟨rfl, h4, ht4⟩
      go_wp2
      go_end0
      exact Goes.after (Goes.after (Goes.after ⟨rfl, h4, ht4⟩ (below_pop ht3 h2.lt)) (below_pop ht2 h1.lt)) (below_pop ht hlt)
    · clear hcl
      rw [if_pos (by omega)]
      go_enter Try.func59, Try.ntmps59
      go_wp2_with fail
      refine C.out.mono ?_
      rintro e w1 ⟨rfl, h1, ht⟩
      go_wp2_with fail
      refine (C2.out _ h1).mono ?_
      rintro e w2 ⟨rfl, h2, ht2⟩
      go_wp2_with fail
      refine (C3.out _ h2).mono ?_
      rintro e w3 ⟨rfl, h3, ht3⟩
      go_wp2_with (go_at_call 69; refine (K.out _).mono ?_; rintro e w' ⟨rfl, rfl⟩)
      refine (P.out b HB.out _ h3).mono ?_
      rintro e w4 ⟨rfl, h4, ht4⟩
      go_wp2
      go_end0
      exact Goes.after (Goes.after (Goes.after ⟨rfl, h4, ht4⟩ (below_pop ht3 h2.lt)) (below_pop ht2 h1.lt)) (below_pop ht hlt)
    · clear hcl
      rw [if_pos (by omega)]
      go_enter Try.func59, Try.ntmps59
      go_wp2_with fail
      refine C.out.mono ?_
      rintro e w1 ⟨rfl, h1, ht⟩
      go_wp2_with fail
      refine (C2.out _ h1).mono ?_
      rintro e w2 ⟨rfl, h2, ht2⟩
      go_wp2_with fail
      refine (C3.out _ h2).mono ?_
      rintro e w3 ⟨rfl, h3, ht3⟩
      go_wp2_with (go_at_call 69; refine (K.out _).mono ?_; rintro e w' ⟨rfl, rfl⟩)
      refine (P.out b HB.out _ h3).mono ?_
      rintro e w4 ⟨rfl, h4, ht4⟩
      go_wp2
      go_end0
      exact Goes.after (Goes.after (Goes.after ⟨rfl, h4, ht4⟩ (below_pop ht3 h2.lt)) (below_pop ht2 h1.lt)) (below_pop ht hlt)
    · clear hcl
      rw [if_neg (by omega)]
      go_enter Try.func59, Try.ntmps59
      go_wp2_with fail
      refine C.out.mono ?_
      rintro e w1 ⟨rfl, h1, ht⟩
      go_wp2_with fail
      refine (C2.out _ h1).mono ?_
      rintro e w2 ⟨rfl, h2, ht2⟩
      go_wp2_with fail
      refine (C3.out _ h2).mono ?_
      rintro e w3 ⟨rfl, h3, ht3⟩
      go_wp2_with (go_at_call 69; refine (K.out _).mono ?_; rintro e w' ⟨rfl, rfl⟩)
      refine (P.out a HA.out _ h3).mono ?_
      rintro e w4 ⟨rfl, h4, ht4⟩
      go_wp2
      go_end0
      exact Goes.after (Goes.after (Goes.after ⟨rfl, h4, ht4⟩ (below_pop ht3 h2.lt)) (below_pop ht2 h1.lt)) (below_pop ht hlt)

theorem touch_below' {g : Nat} {W W1 : World} (h : Touch [] W W1) (hg : g < W.heap.size) : ∀ B, B ≤ g → Below B W W1 := fun B hB => h.below (by omega) (by simp)
/-- A function of two numbers, by what it comes to. -/
def TwoFn (fn : FuncId) (op : Nat → Nat → Nat) : Prop :=
  (∀ (a : Array Value) (w : World), (callFunc fn a).run Try.prog w = .ok (.enter fn a) w) ∧
    ∀ (a b : Nat) (w : World), Wd a → Wd b → Calls Try.prog fn #[.float .f64 a, .float .f64 b] w fun e w' => ∃ r, e = .returned (.float .f64 r) ∧ Wd r ∧ can r = can (op a b) ∧ Touch [] w w'
/-- What a word that takes two numbers comes to. -/
def stepTwo (op : Nat → Nat → Nat) (s : List Nat) : Out :=
  match s with
  | b :: a :: s => .ok (can (op a b) :: s)
  | _ => .bad runtimeF

theorem does_two (fn : FuncId) (op : Nat → Nat → Nat) (hf : TwoFn fn op) (E : EnvD) (g : Nat) (s : List Nat) (W : World) (c : Nat) (hcg : c ≠ g) (hc : W.cell? ⟨c, 0, none⟩ = some (.func (.func fn) #[] #[])) (h : Mach E g s W) (hs : s.length ≤ 90000) :
    Calls Try.prog 63 #[.pointer (some ⟨g, 0, none⟩), .pointer (some ⟨c, 0, none⟩)] W (Post E g (stepTwo op s) W) := by
  have hlt := h.lt
  rcases s with _ | ⟨b, _ | ⟨a, s⟩⟩
  · have C := hid (pop_none E g W h)
    clear h hs hf hc
    go_enter Try.func63, Try.ntmps63
    go_wp2_with (go_at_call 55; refine C.out.mono ?_; rintro e w1 ⟨⟨pv, rfl, ht⟩, h2⟩)
    exact ⟨rfl, ⟨_, rfl, ht⟩, h2⟩
  · have C := hid (pop_some E g [] b W h (by simp))
    have D := hid (fun (w1 : World) (h1 : Mach E g [] w1) => pop_none E g w1 h1)
    clear h hs hf hc
    go_enter Try.func63, Try.ntmps63
    go_wp2_with fail
    refine C.out.mono ?_
    rintro e w1 ⟨rfl, h1, ht⟩
    go_wp2_with fail
    refine (D.out _ h1).mono ?_
    rintro e w2 ⟨⟨pv, rfl, ht2⟩, h2⟩
    go_wp2
    exact ⟨rfl, Faults.after ⟨⟨_, rfl, ht2⟩, h2⟩ (below_pop ht hlt)⟩
  · have hb : Wd b := h.wd b (by simp)
    have ha : Wd a := h.wd a (by simp)
    have C := hid (pop_some E g (a :: s) b W h (by simp at hs ⊢; omega))
    have D := hid (fun (w1 : World) (h1 : Mach E g (a :: s) w1) => pop_some E g s a w1 h1 (by simp at hs; omega))
    have P := hid (fun (x : Nat) (hx : Wd x) (w1 : World) (h1 : Mach E g s w1) => push_any E g s x w1 h1 hx (by simp at hs; omega))
    have F := hid (fun (w1 : World) => hf.2 a b w1 ha hb)
    have en := hf.1
    have HC := hid (fun (w1 w2 : World) (t1 : Touch [g] W w1) (t2 : Touch [g] w1 w2) => ((World.cell?_of_block (w := W) (a := ⟨c, 0, none⟩) ((t1.trans t2 (by simp)).block c (World.block_lt_of_cell? W _ hc) (by simp; exact hcg))).trans hc : w2.cell? ⟨c, 0, none⟩ = some (.func (.func fn) #[] #[])))
    clear h hs hf hc ha hb
    go_enter Try.func63, Try.ntmps63
    go_wp2_with fail
    refine C.out.mono ?_
    rintro e w1 ⟨rfl, h1, ht⟩
    go_wp2_with fail
    refine (D.out _ h1).mono ?_
    rintro e w2 ⟨rfl, h2, ht2⟩
    have hc2 := HC.out w1 w2 ht ht2
    go_wp2_with fail
    refine (F.out _).mono ?_
    rintro e w3 ⟨r, rfl, hr, hrc, ht3⟩
    have h3 := h2.touch ht3
    have HRC := hid hrc
    clear hrc hc2
    go_wp2_with fail
    refine (P.out r hr _ h3).mono ?_
    rintro e w4 ⟨rfl, h4, ht4⟩
    go_wp2
    go_end0
    rw [HRC.out] at h4
    exact Goes.after (Goes.after (Goes.after ⟨rfl, h4, ht4⟩ (touch_below' ht3 h2.lt)) (below_pop ht2 h1.lt)) (below_pop ht hlt)
end Go.Proofs.Ytiglfdefeaddmaa
