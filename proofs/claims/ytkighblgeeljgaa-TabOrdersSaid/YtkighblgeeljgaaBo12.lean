/- The tree of an entry between two sides, further. -/
import Derived.Test.YtkighblgeeljgaaBl12
namespace Go.Proofs.Ytkighblgeeljgaa
open Go.RowKit Go.Lib
set_option maxRecDepth 100000

set_option maxHeartbeats 4000000 in
theorem bal_B2 {pl pr : Option Addr} {l rl rr : Tr} {re : En} (e : En) (w : World) (hl : TreeAt w pl l) (hr : TreeAt w pr (.node rl re rr)) (hc : l.ct + (Tr.node rl re rr).ct ≤ 900000)
    (h1 : l.ht + 1 < (Tr.node rl re rr).ht) (h2 : ¬ rr.ht < rl.ht) :
    Calls Try.prog 68 #[.pointer pl, enV e, .pointer pr] w fun x w' => ∃ p, x = .returned (.pointer p) ∧ TreeAt w' p (.node (.node l e rl) re rr) ∧ Touch [] w w' := by
  have b1 := Tr.ht_ct (.node rl re rr)
  have b2 := Tr.ht_ct l
  have CL := hid fun w' (t : Touch [] w w') => theight_any w' (hl.t0 t)
  have CR := hid fun w' (t : Touch [] w w') => theight_any w' (hr.t0 t)
  have CL2 := hid CL.out
  have CR2 := hid CR.out
  obtain ⟨nl, pi, prr, rfl, NL, hi, hrr⟩ := hr
  have CI := hid fun w' (t : Touch [] w w') => theight_any w' (hi.t0 t)
  have CLL := hid fun w' (t : Touch [] w w') => theight_any w' (hrr.t0 t)
  have b3 := Nat.le_trans b1 (Nat.le_trans (Nat.le_add_left _ _) hc)
  simp only [Tr.ct] at hc
  have J1 := hid fun w' (t : Touch [] w w') => joined_any e w' (hl.t0 t) (hi.t0 t) (by omega)
  have J2 := hid fun w' p2 (t : Touch [] w w') (k2 : TreeAt w' p2 (.node l e rl)) => joined_any re w' k2 (hrr.t0 t) (by simp only [Tr.ct]; omega)
  have d0 : IntKind.i64.wrap (((Tr.node rl re rr).ht : Int) + 1) = ((Tr.node rl re rr).ht : Int) + 1 := IntWalk.i64_in _ (by omega)
  have d0' : IntKind.i64.wrap ((l.ht : Int) + 1) = (l.ht : Int) + 1 := IntWalk.i64_in _ (by omega)
  have d1 : decide (((Tr.node rl re rr).ht : Int) + 1 < (l.ht : Int)) = false := by rw [decide_eq_false_iff_not]; omega
  have d1' : decide ((l.ht : Int) + 1 < ((Tr.node rl re rr).ht : Int)) = true := by rw [decide_eq_true_eq]; omega
  have d2 : decide (rr.ht < rl.ht) = false := by rw [decide_eq_false_iff_not]; omega
  generalize (Tr.node rl re rr).ht = HL at *
  generalize (Tr.node rl re rr).ct = KL at *
  clear b1 b2 b3 h1 hc hl hi hrr
  go_enter Try.func68, Try.ntmps68
  go_upto_region 1 with fail
  obtain ⟨x1, hx1⟩ : ∃ x, x = w.heap.size := ⟨_, rfl⟩
  obtain ⟨w1, hw1⟩ : ∃ w1, w1 = w.alloc (.cells #[.int .i64 e.1, .int .i64 e.2.1, .int .i64 e.2.2] 55) := ⟨_, rfl⟩
  have B1 : EnB w1 x1 e := by rw [hw1, hx1]; exact heap_alloc_new w _
  have T1 : Hid (Touch [] w w1) := hid (by rw [hw1]; exact (Touch.refl [] w).alloc _)
  rw [← hw1, ← hx1]
  clear hw1 hx1
  have T1d : Hid (Touch [] w w1.drew) := hid T1.out.drew
  have S3 : Hid (∀ w', Touch [] w1 w' → w'.cell? ⟨x1, 0, none⟩ = some (.int .i64 e.1) ∧ w'.cell? ⟨x1, 1, none⟩ = some (.int .i64 e.2.1) ∧ w'.cell? ⟨x1, 2, none⟩ = some (.int .i64 e.2.2)) := hid fun w' t => (B1.t t).c
  have N1 := NL.t T1.out
  obtain ⟨n0, n1, n2, n3, n4⟩ := N1.c
  have S1 : Hid (∀ w', Touch [] w1 w' → w'.cell? ⟨nl, 0, none⟩ = some (.int .i64 re.1) ∧ w'.cell? ⟨nl, 1, none⟩ = some (.int .i64 re.2.1) ∧ w'.cell? ⟨nl, 2, none⟩ = some (.int .i64 re.2.2) ∧ w'.cell? ⟨nl, 3, none⟩ = some (.pointer pi) ∧ w'.cell? ⟨nl, 4, none⟩ = some (.pointer prr)) := hid fun w' t => (N1.t t).c
  clear N1 B1 NL
  go_upto_region 8 with (first
    | (go_at_call 80; refine (CL.out _ T1.out).mono ?_; clear CL; rintro e w' ⟨rfl, h⟩; have h := h.symm; subst h)
    | (go_at_call 80; refine (CR.out _ T1.out).mono ?_; clear CR; rintro e w' ⟨rfl, h⟩; have h := h.symm; subst h)
    | (go_at_call 80; refine (CR2.out _ T1.out).mono ?_; clear CR2; rintro e w' ⟨rfl, h⟩; have h := h.symm; subst h)
    | (go_at_call 80; refine (CL2.out _ T1.out).mono ?_; clear CL2; rintro e w' ⟨rfl, h⟩; have h := h.symm; subst h))
  have l3 : w1.drew.cell? ⟨nl, 4, none⟩ = some (.pointer prr) := n4
  go_region_held3 (fun w' => w'.cell? ⟨nl, 4, none⟩ = some (.pointer prr)) (first | go_keep | assumption) ((first
    | (go_at_call 80; refine (CI.out _ T1d.out).mono ?_; clear CI; rintro e w' ⟨rfl, h⟩; have h := h.symm; subst h)
    | (go_at_call 80; refine (CLL.out _ T1d.out).mono ?_; clear CLL; rintro e w' ⟨rfl, h⟩; have h := h.symm; subst h)))
  clear n0 n1 n2 n3 n4 l3 T1d d0 d1 d0' d1'
  go_upto_region 10 with fail
  have T2 : Touch [] w1 w1.drew.drew := (Touch.refl [] w1).drew.drew
  have Z : (fun w' => (w'.cell? ⟨nl, 0, none⟩ = some (.int .i64 re.1) ∧ w'.cell? ⟨nl, 1, none⟩ = some (.int .i64 re.2.1) ∧ w'.cell? ⟨nl, 2, none⟩ = some (.int .i64 re.2.2) ∧ w'.cell? ⟨nl, 3, none⟩ = some (.pointer pi) ∧ w'.cell? ⟨nl, 4, none⟩ = some (.pointer prr)) ∧ (w'.cell? ⟨x1, 0, none⟩ = some (.int .i64 e.1) ∧ w'.cell? ⟨x1, 1, none⟩ = some (.int .i64 e.2.1) ∧ w'.cell? ⟨x1, 2, none⟩ = some (.int .i64 e.2.2))) w1.drew.drew := ⟨S1.out _ T2, S3.out _ T2⟩
  go_region_held3 (fun w' => (w'.cell? ⟨nl, 0, none⟩ = some (.int .i64 re.1) ∧ w'.cell? ⟨nl, 1, none⟩ = some (.int .i64 re.2.1) ∧ w'.cell? ⟨nl, 2, none⟩ = some (.int .i64 re.2.2) ∧ w'.cell? ⟨nl, 3, none⟩ = some (.pointer pi) ∧ w'.cell? ⟨nl, 4, none⟩ = some (.pointer prr)) ∧ (w'.cell? ⟨x1, 0, none⟩ = some (.int .i64 e.1) ∧ w'.cell? ⟨x1, 1, none⟩ = some (.int .i64 e.2.1) ∧ w'.cell? ⟨x1, 2, none⟩ = some (.int .i64 e.2.2))) (first | go_keep | exact ⟨S1.out _ (by assumption), S3.out _ (by assumption)⟩) ((first
    | (go_at_call 67; refine (J1.out _ (T1.out.trans T2 (by simp))).mono ?_; clear J1; rintro e w2 ⟨p1, rfl, h1, t2⟩; have T3 : Touch [] w1 w2 := T2.trans t2 (by simp); have H1 := hid h1; clear t2 h1)
    | (go_at_call 67; refine (J2.out _ _ (T1.out.trans T3 (by simp)) H1.out).mono ?_; clear J2; rintro e w4 ⟨p3, rfl, h3, t4⟩; have T5 : Touch [] w1 w4 := T3.trans t4 (by simp); have H4 := hid h3; clear t4 h3)))
  all_goals go_wp2_with fail
  all_goals go_ret
  all_goals exact ⟨_, rfl, H4.out, T1.out.trans T5 (by simp)⟩
end Go.Proofs.Ytkighblgeeljgaa
