/- The tree of an entry between two sides, further. The tree of an entry between two sides, further. The tree of an entry between two sides, further. The tree of an entry between two sides, further. An entry put into a tree. -/
import Derived.Test.YtnkflmimnpolcaaBl12
namespace Go.Proofs.Ytnkflmimnpolcaa
open Go.RowKit Go.Lib
set_option maxRecDepth 100000

set_option maxHeartbeats 4000000 in
theorem bal_A2 {pl pr : Option Addr} {ll lr r : Tr} {le : En} (e : En) (w : World) (hl : TreeAt w pl (.node ll le lr)) (hr : TreeAt w pr r) (hc : (Tr.node ll le lr).ct + r.ct ≤ 900000)
    (h1 : r.ht + 1 < (Tr.node ll le lr).ht) (h2 : ¬ ll.ht < lr.ht) :
    Calls Try.prog 50 #[.pointer pl, enV e, .pointer pr] w fun x w' => ∃ p, x = .returned (.pointer p) ∧ TreeAt w' p (.node ll le (.node lr e r)) ∧ Touch [] w w' := by
  have b1 := Tr.ht_ct (.node ll le lr)
  have b2 := Tr.ht_ct r
  have CL := hid fun w' (t : Touch [] w w') => theight_any w' (hl.t0 t)
  have CR := hid fun w' (t : Touch [] w w') => theight_any w' (hr.t0 t)
  obtain ⟨nl, pll, pi, rfl, NL, hll, hi⟩ := hl
  have CI := hid fun w' (t : Touch [] w w') => theight_any w' (hi.t0 t)
  have CLL := hid fun w' (t : Touch [] w w') => theight_any w' (hll.t0 t)
  simp only [Tr.ct] at hc
  have J1 := hid fun w' (t : Touch [] w w') => joined_any e w' (hi.t0 t) (hr.t0 t) (by omega)
  have J2 := hid fun w' p2 (t : Touch [] w w') (k2 : TreeAt w' p2 (.node lr e r)) => joined_any le w' (hll.t0 t) k2 (by simp only [Tr.ct]; omega)
  have d0 : IntKind.i64.wrap ((r.ht : Int) + 1) = (r.ht : Int) + 1 := IntWalk.i64_in _ (by omega)
  have d1 : decide ((r.ht : Int) + 1 < ((Tr.node ll le lr).ht : Int)) = true := by rw [decide_eq_true_eq]; omega
  have d2 : decide (ll.ht < lr.ht) = false := by rw [decide_eq_false_iff_not]; omega
  generalize (Tr.node ll le lr).ht = HL at *
  generalize (Tr.node ll le lr).ct = KL at *
  clear b1 b2 h1 hc hll hi hr
  go_enter Try.func50, Try.ntmps50
  go_upto_region 1 with fail
  obtain ⟨x1, hx1⟩ : ∃ x, x = w.heap.size := ⟨_, rfl⟩
  obtain ⟨w1, hw1⟩ : ∃ w1, w1 = w.alloc (.cells #[.int .i64 e.1, .int .i64 e.2.1, .int .i64 e.2.2] 32) := ⟨_, rfl⟩
  have B1 : EnB w1 x1 e := by rw [hw1, hx1]; exact heap_alloc_new w _
  have T1 : Hid (Touch [] w w1) := hid (by rw [hw1]; exact (Touch.refl [] w).alloc _)
  rw [← hw1, ← hx1]
  clear hw1 hx1
  have T1d : Hid (Touch [] w w1.drew) := hid T1.out.drew
  have S3 : Hid (∀ w', Touch [] w1 w' → w'.cell? ⟨x1, 0, none⟩ = some (.int .i64 e.1) ∧ w'.cell? ⟨x1, 1, none⟩ = some (.int .i64 e.2.1) ∧ w'.cell? ⟨x1, 2, none⟩ = some (.int .i64 e.2.2)) := hid fun w' t => (B1.t t).c
  have N1 := NL.t T1.out
  obtain ⟨n0, n1, n2, n3, n4⟩ := N1.c
  have S1 : Hid (∀ w', Touch [] w1 w' → w'.cell? ⟨nl, 0, none⟩ = some (.int .i64 le.1) ∧ w'.cell? ⟨nl, 1, none⟩ = some (.int .i64 le.2.1) ∧ w'.cell? ⟨nl, 2, none⟩ = some (.int .i64 le.2.2) ∧ w'.cell? ⟨nl, 3, none⟩ = some (.pointer pll) ∧ w'.cell? ⟨nl, 4, none⟩ = some (.pointer pi)) := hid fun w' t => (N1.t t).c
  clear N1 B1 NL
  go_upto_region 3 with (first
    | (go_at_call 65; refine (CL.out _ T1.out).mono ?_; clear CL; rintro e w' ⟨rfl, h⟩; have h := h.symm; subst h)
    | (go_at_call 65; refine (CR.out _ T1.out).mono ?_; clear CR; rintro e w' ⟨rfl, h⟩; have h := h.symm; subst h))
  have l3 : w1.drew.cell? ⟨nl, 3, none⟩ = some (.pointer pll) := n3
  go_region_held3 (fun w' => w'.cell? ⟨nl, 3, none⟩ = some (.pointer pll)) (first | go_keep | assumption) ((first
    | (go_at_call 65; refine (CI.out _ T1d.out).mono ?_; clear CI; rintro e w' ⟨rfl, h⟩; have h := h.symm; subst h)
    | (go_at_call 65; refine (CLL.out _ T1d.out).mono ?_; clear CLL; rintro e w' ⟨rfl, h⟩; have h := h.symm; subst h)))
  clear n0 n1 n2 n3 n4 l3 T1d d0 d1
  go_upto_region 5 with fail
  have T2 : Touch [] w1 w1.drew.drew := (Touch.refl [] w1).drew.drew
  have Z : (fun w' => (w'.cell? ⟨nl, 0, none⟩ = some (.int .i64 le.1) ∧ w'.cell? ⟨nl, 1, none⟩ = some (.int .i64 le.2.1) ∧ w'.cell? ⟨nl, 2, none⟩ = some (.int .i64 le.2.2) ∧ w'.cell? ⟨nl, 3, none⟩ = some (.pointer pll) ∧ w'.cell? ⟨nl, 4, none⟩ = some (.pointer pi)) ∧ (w'.cell? ⟨x1, 0, none⟩ = some (.int .i64 e.1) ∧ w'.cell? ⟨x1, 1, none⟩ = some (.int .i64 e.2.1) ∧ w'.cell? ⟨x1, 2, none⟩ = some (.int .i64 e.2.2))) w1.drew.drew := ⟨S1.out _ T2, S3.out _ T2⟩
  go_region_held3 (fun w' => (w'.cell? ⟨nl, 0, none⟩ = some (.int .i64 le.1) ∧ w'.cell? ⟨nl, 1, none⟩ = some (.int .i64 le.2.1) ∧ w'.cell? ⟨nl, 2, none⟩ = some (.int .i64 le.2.2) ∧ w'.cell? ⟨nl, 3, none⟩ = some (.pointer pll) ∧ w'.cell? ⟨nl, 4, none⟩ = some (.pointer pi)) ∧ (w'.cell? ⟨x1, 0, none⟩ = some (.int .i64 e.1) ∧ w'.cell? ⟨x1, 1, none⟩ = some (.int .i64 e.2.1) ∧ w'.cell? ⟨x1, 2, none⟩ = some (.int .i64 e.2.2))) (first | go_keep | exact ⟨S1.out _ (by assumption), S3.out _ (by assumption)⟩) ((first
    | (go_at_call 49; refine (J1.out _ (T1.out.trans T2 (by simp))).mono ?_; clear J1; rintro e w2 ⟨p1, rfl, h1, t2⟩; have T3 : Touch [] w1 w2 := T2.trans t2 (by simp); have H1 := hid h1; clear t2 h1)
    | (go_at_call 49; refine (J2.out _ _ (T1.out.trans T3 (by simp)) H1.out).mono ?_; clear J2; rintro e w4 ⟨p3, rfl, h3, t4⟩; have T5 : Touch [] w1 w4 := T3.trans t4 (by simp); have H4 := hid h3; clear t4 h3)))
  all_goals go_wp2_with fail
  all_goals go_ret
  all_goals exact ⟨_, rfl, H4.out, T1.out.trans T5 (by simp)⟩
end Go.Proofs.Ytnkflmimnpolcaa

namespace Go.Proofs.Ytnkflmimnpolcaa
open Go.RowKit Go.Lib
set_option maxRecDepth 100000

set_option maxHeartbeats 4000000 in
theorem bal_B1 {pl pr : Option Addr} {l a b rr : Tr} {re ie : En} (e : En) (w : World) (hl : TreeAt w pl l) (hr : TreeAt w pr (.node (.node a ie b) re rr)) (hc : l.ct + (Tr.node (.node a ie b) re rr).ct ≤ 900000)
    (h1 : l.ht + 1 < (Tr.node (.node a ie b) re rr).ht) (h2 : rr.ht < (Tr.node a ie b).ht) :
    Calls Try.prog 50 #[.pointer pl, enV e, .pointer pr] w fun x w' => ∃ p, x = .returned (.pointer p) ∧ TreeAt w' p (.node (.node l e a) ie (.node b re rr)) ∧ Touch [] w w' := by
  have b1 := Tr.ht_ct (.node (.node a ie b) re rr)
  have b2 := Tr.ht_ct l
  have CL := hid fun w' (t : Touch [] w w') => theight_any w' (hl.t0 t)
  have CR := hid fun w' (t : Touch [] w w') => theight_any w' (hr.t0 t)
  have CL2 := hid CL.out
  have CR2 := hid CR.out
  obtain ⟨nl, pi, prr, rfl, NL, hi, hrr⟩ := hr
  have CI := hid fun w' (t : Touch [] w w') => theight_any w' (hi.t0 t)
  have CLL := hid fun w' (t : Touch [] w w') => theight_any w' (hrr.t0 t)
  obtain ⟨ni, pa, pb, rfl, NI, ha, hb⟩ := hi
  have b3 := Nat.le_trans b1 (Nat.le_trans (Nat.le_add_left _ _) hc)
  simp only [Tr.ct] at hc
  have J1 := hid fun w' (t : Touch [] w w') => joined_any e w' (hl.t0 t) (ha.t0 t) (by omega)
  have J2 := hid fun w' (t : Touch [] w w') => joined_any re w' (hb.t0 t) (hrr.t0 t) (by omega)
  have J3 := hid fun w' p1 p2 (k1 : TreeAt w' p1 (.node l e a)) (k2 : TreeAt w' p2 (.node b re rr)) => joined_any ie w' k1 k2 (by simp only [Tr.ct]; omega)
  have d0 : IntKind.i64.wrap (((Tr.node (.node a ie b) re rr).ht : Int) + 1) = ((Tr.node (.node a ie b) re rr).ht : Int) + 1 := IntWalk.i64_in _ (by omega)
  have d0' : IntKind.i64.wrap ((l.ht : Int) + 1) = (l.ht : Int) + 1 := IntWalk.i64_in _ (by omega)
  have d1 : decide (((Tr.node (.node a ie b) re rr).ht : Int) + 1 < (l.ht : Int)) = false := by rw [decide_eq_false_iff_not]; omega
  have d1' : decide ((l.ht : Int) + 1 < ((Tr.node (.node a ie b) re rr).ht : Int)) = true := by rw [decide_eq_true_eq]; omega
  have d2 : decide (rr.ht < (Tr.node a ie b).ht) = true := by rw [decide_eq_true_eq]; omega
  generalize (Tr.node (.node a ie b) re rr).ht = HL at *
  generalize (Tr.node a ie b).ht = HI at *
  generalize (Tr.node (.node a ie b) re rr).ct = KL at *
  generalize (Tr.node a ie b).ct = KI at *
  clear b1 b2 b3 h1 h2 hc hl ha hb hrr
  go_enter Try.func50, Try.ntmps50
  go_upto_region 1 with fail
  obtain ⟨x1, hx1⟩ : ∃ x, x = w.heap.size := ⟨_, rfl⟩
  obtain ⟨w1, hw1⟩ : ∃ w1, w1 = w.alloc (.cells #[.int .i64 e.1, .int .i64 e.2.1, .int .i64 e.2.2] 32) := ⟨_, rfl⟩
  have B1 : EnB w1 x1 e := by rw [hw1, hx1]; exact heap_alloc_new w _
  have T1 : Hid (Touch [] w w1) := hid (by rw [hw1]; exact (Touch.refl [] w).alloc _)
  rw [← hw1, ← hx1]
  clear hw1 hx1
  have T1d : Hid (Touch [] w w1.drew) := hid T1.out.drew
  have S3 : Hid (∀ w', Touch [] w1 w' → w'.cell? ⟨x1, 0, none⟩ = some (.int .i64 e.1) ∧ w'.cell? ⟨x1, 1, none⟩ = some (.int .i64 e.2.1) ∧ w'.cell? ⟨x1, 2, none⟩ = some (.int .i64 e.2.2)) := hid fun w' t => (B1.t t).c
  have N1 := NL.t T1.out
  have N2 := NI.t T1.out
  obtain ⟨n0, n1, n2, n3, n4⟩ := N1.c
  have S1 : Hid (∀ w', Touch [] w1 w' → w'.cell? ⟨nl, 0, none⟩ = some (.int .i64 re.1) ∧ w'.cell? ⟨nl, 1, none⟩ = some (.int .i64 re.2.1) ∧ w'.cell? ⟨nl, 2, none⟩ = some (.int .i64 re.2.2) ∧ w'.cell? ⟨nl, 3, none⟩ = some (.pointer (some ⟨ni, 0, none⟩)) ∧ w'.cell? ⟨nl, 4, none⟩ = some (.pointer prr)) := hid fun w' t => (N1.t t).c
  have S2 : Hid (∀ w', Touch [] w1 w' → w'.cell? ⟨ni, 0, none⟩ = some (.int .i64 ie.1) ∧ w'.cell? ⟨ni, 1, none⟩ = some (.int .i64 ie.2.1) ∧ w'.cell? ⟨ni, 2, none⟩ = some (.int .i64 ie.2.2) ∧ w'.cell? ⟨ni, 3, none⟩ = some (.pointer pa) ∧ w'.cell? ⟨ni, 4, none⟩ = some (.pointer pb)) := hid fun w' t => (N2.t t).c
  clear N1 N2 B1 NL NI
  go_upto_region 8 with (first
    | (go_at_call 65; refine (CL.out _ T1.out).mono ?_; clear CL; rintro e w' ⟨rfl, h⟩; have h := h.symm; subst h)
    | (go_at_call 65; refine (CR.out _ T1.out).mono ?_; clear CR; rintro e w' ⟨rfl, h⟩; have h := h.symm; subst h)
    | (go_at_call 65; refine (CR2.out _ T1.out).mono ?_; clear CR2; rintro e w' ⟨rfl, h⟩; have h := h.symm; subst h)
    | (go_at_call 65; refine (CL2.out _ T1.out).mono ?_; clear CL2; rintro e w' ⟨rfl, h⟩; have h := h.symm; subst h))
  have l3 : w1.drew.cell? ⟨nl, 4, none⟩ = some (.pointer prr) := n4
  go_region_held3 (fun w' => w'.cell? ⟨nl, 4, none⟩ = some (.pointer prr)) (first | go_keep | assumption) ((first
    | (go_at_call 65; refine (CI.out _ T1d.out).mono ?_; clear CI; rintro e w' ⟨rfl, h⟩; have h := h.symm; subst h)
    | (go_at_call 65; refine (CLL.out _ T1d.out).mono ?_; clear CLL; rintro e w' ⟨rfl, h⟩; have h := h.symm; subst h)))
  clear n0 n1 n2 n3 n4 l3 T1d d0 d1 d0' d1'
  go_upto_region 9 with fail
  have T2 : Touch [] w1 w1.drew.drew := (Touch.refl [] w1).drew.drew
  have Z : (fun w' => (w'.cell? ⟨nl, 0, none⟩ = some (.int .i64 re.1) ∧ w'.cell? ⟨nl, 1, none⟩ = some (.int .i64 re.2.1) ∧ w'.cell? ⟨nl, 2, none⟩ = some (.int .i64 re.2.2) ∧ w'.cell? ⟨nl, 3, none⟩ = some (.pointer (some ⟨ni, 0, none⟩)) ∧ w'.cell? ⟨nl, 4, none⟩ = some (.pointer prr)) ∧ (w'.cell? ⟨ni, 0, none⟩ = some (.int .i64 ie.1) ∧ w'.cell? ⟨ni, 1, none⟩ = some (.int .i64 ie.2.1) ∧ w'.cell? ⟨ni, 2, none⟩ = some (.int .i64 ie.2.2) ∧ w'.cell? ⟨ni, 3, none⟩ = some (.pointer pa) ∧ w'.cell? ⟨ni, 4, none⟩ = some (.pointer pb)) ∧ (w'.cell? ⟨x1, 0, none⟩ = some (.int .i64 e.1) ∧ w'.cell? ⟨x1, 1, none⟩ = some (.int .i64 e.2.1) ∧ w'.cell? ⟨x1, 2, none⟩ = some (.int .i64 e.2.2))) w1.drew.drew := ⟨S1.out _ T2, S2.out _ T2, S3.out _ T2⟩
  go_region_held3 (fun w' => (w'.cell? ⟨nl, 0, none⟩ = some (.int .i64 re.1) ∧ w'.cell? ⟨nl, 1, none⟩ = some (.int .i64 re.2.1) ∧ w'.cell? ⟨nl, 2, none⟩ = some (.int .i64 re.2.2) ∧ w'.cell? ⟨nl, 3, none⟩ = some (.pointer (some ⟨ni, 0, none⟩)) ∧ w'.cell? ⟨nl, 4, none⟩ = some (.pointer prr)) ∧ (w'.cell? ⟨ni, 0, none⟩ = some (.int .i64 ie.1) ∧ w'.cell? ⟨ni, 1, none⟩ = some (.int .i64 ie.2.1) ∧ w'.cell? ⟨ni, 2, none⟩ = some (.int .i64 ie.2.2) ∧ w'.cell? ⟨ni, 3, none⟩ = some (.pointer pa) ∧ w'.cell? ⟨ni, 4, none⟩ = some (.pointer pb)) ∧ (w'.cell? ⟨x1, 0, none⟩ = some (.int .i64 e.1) ∧ w'.cell? ⟨x1, 1, none⟩ = some (.int .i64 e.2.1) ∧ w'.cell? ⟨x1, 2, none⟩ = some (.int .i64 e.2.2))) (first | go_keep | exact ⟨S1.out _ (by assumption), S2.out _ (by assumption), S3.out _ (by assumption)⟩) ((first
    | (go_at_call 49; refine (J1.out _ (T1.out.trans T2 (by simp))).mono ?_; clear J1; rintro e w2 ⟨p1, rfl, h1, t2⟩; have T3 : Touch [] w1 w2 := T2.trans t2 (by simp); have H1 := hid h1; clear t2 h1)
    | (go_at_call 49; refine (J2.out _ (T1.out.trans T3 (by simp))).mono ?_; clear J2; rintro e w3 ⟨p2, rfl, h2, t3⟩; have T4 : Touch [] w1 w3 := T3.trans t3 (by simp); have H2 := hid h2; have H3 := hid (H1.out.t0 t3); clear t3 h2)
    | (go_at_call 49; refine (J3.out _ _ _ H3.out H2.out).mono ?_; clear J3; rintro e w4 ⟨p3, rfl, h3, t4⟩; have T5 : Touch [] w1 w4 := T4.trans t4 (by simp); have H4 := hid h3; clear t4 h3)))
  all_goals go_wp2_with fail
  all_goals go_ret
  all_goals exact ⟨_, rfl, H4.out, T1.out.trans T5 (by simp)⟩
end Go.Proofs.Ytnkflmimnpolcaa

namespace Go.Proofs.Ytnkflmimnpolcaa
open Go.RowKit Go.Lib
set_option maxRecDepth 100000

set_option maxHeartbeats 4000000 in
theorem bal_B2 {pl pr : Option Addr} {l rl rr : Tr} {re : En} (e : En) (w : World) (hl : TreeAt w pl l) (hr : TreeAt w pr (.node rl re rr)) (hc : l.ct + (Tr.node rl re rr).ct ≤ 900000)
    (h1 : l.ht + 1 < (Tr.node rl re rr).ht) (h2 : ¬ rr.ht < rl.ht) :
    Calls Try.prog 50 #[.pointer pl, enV e, .pointer pr] w fun x w' => ∃ p, x = .returned (.pointer p) ∧ TreeAt w' p (.node (.node l e rl) re rr) ∧ Touch [] w w' := by
  have b1 := Tr.ht_ct (.node rl re rr)
  have b2 := Tr.ht_ct l
  have CL := hid fun w' (t : Touch [] w w') => theight_any w' (hl.t0 t)
  have CR := hid fun w' (t : Touch [] w w') => theight_any w' (hr.t0 t)
  have CL2 := hid CL.out
  have CR2 := hid CR.out
  obtain ⟨nl, pi, prr, rfl, NL, hi, hrr⟩ := hr
  have CI := hid fun w' (t : Touch [] w w') => theight_any w' (hi.t0 t)
  have CLL := hid fun w' (t : Touch [] w w') => theight_any w' (hrr.t0 t)
  have b3 := Nat.le_trans b1 (Nat.le_trans (Nat.le_add_left _ _) hc)
  simp only [Tr.ct] at hc
  have J1 := hid fun w' (t : Touch [] w w') => joined_any e w' (hl.t0 t) (hi.t0 t) (by omega)
  have J2 := hid fun w' p2 (t : Touch [] w w') (k2 : TreeAt w' p2 (.node l e rl)) => joined_any re w' k2 (hrr.t0 t) (by simp only [Tr.ct]; omega)
  have d0 : IntKind.i64.wrap (((Tr.node rl re rr).ht : Int) + 1) = ((Tr.node rl re rr).ht : Int) + 1 := IntWalk.i64_in _ (by omega)
  have d0' : IntKind.i64.wrap ((l.ht : Int) + 1) = (l.ht : Int) + 1 := IntWalk.i64_in _ (by omega)
  have d1 : decide (((Tr.node rl re rr).ht : Int) + 1 < (l.ht : Int)) = false := by rw [decide_eq_false_iff_not]; omega
  have d1' : decide ((l.ht : Int) + 1 < ((Tr.node rl re rr).ht : Int)) = true := by rw [decide_eq_true_eq]; omega
  have d2 : decide (rr.ht < rl.ht) = false := by rw [decide_eq_false_iff_not]; omega
  generalize (Tr.node rl re rr).ht = HL at *
  generalize (Tr.node rl re rr).ct = KL at *
  clear b1 b2 b3 h1 hc hl hi hrr
  go_enter Try.func50, Try.ntmps50
  go_upto_region 1 with fail
  obtain ⟨x1, hx1⟩ : ∃ x, x = w.heap.size := ⟨_, rfl⟩
  obtain ⟨w1, hw1⟩ : ∃ w1, w1 = w.alloc (.cells #[.int .i64 e.1, .int .i64 e.2.1, .int .i64 e.2.2] 32) := ⟨_, rfl⟩
  have B1 : EnB w1 x1 e := by rw [hw1, hx1]; exact heap_alloc_new w _
  have T1 : Hid (Touch [] w w1) := hid (by rw [hw1]; exact (Touch.refl [] w).alloc _)
  rw [← hw1, ← hx1]
  clear hw1 hx1
  have T1d : Hid (Touch [] w w1.drew) := hid T1.out.drew
  have S3 : Hid (∀ w', Touch [] w1 w' → w'.cell? ⟨x1, 0, none⟩ = some (.int .i64 e.1) ∧ w'.cell? ⟨x1, 1, none⟩ = some (.int .i64 e.2.1) ∧ w'.cell? ⟨x1, 2, none⟩ = some (.int .i64 e.2.2)) := hid fun w' t => (B1.t t).c
  have N1 := NL.t T1.out
  obtain ⟨n0, n1, n2, n3, n4⟩ := N1.c
  have S1 : Hid (∀ w', Touch [] w1 w' → w'.cell? ⟨nl, 0, none⟩ = some (.int .i64 re.1) ∧ w'.cell? ⟨nl, 1, none⟩ = some (.int .i64 re.2.1) ∧ w'.cell? ⟨nl, 2, none⟩ = some (.int .i64 re.2.2) ∧ w'.cell? ⟨nl, 3, none⟩ = some (.pointer pi) ∧ w'.cell? ⟨nl, 4, none⟩ = some (.pointer prr)) := hid fun w' t => (N1.t t).c
  clear N1 B1 NL
  go_upto_region 8 with (first
    | (go_at_call 65; refine (CL.out _ T1.out).mono ?_; clear CL; rintro e w' ⟨rfl, h⟩; have h := h.symm; subst h)
    | (go_at_call 65; refine (CR.out _ T1.out).mono ?_; clear CR; rintro e w' ⟨rfl, h⟩; have h := h.symm; subst h)
    | (go_at_call 65; refine (CR2.out _ T1.out).mono ?_; clear CR2; rintro e w' ⟨rfl, h⟩; have h := h.symm; subst h)
    | (go_at_call 65; refine (CL2.out _ T1.out).mono ?_; clear CL2; rintro e w' ⟨rfl, h⟩; have h := h.symm; subst h))
  have l3 : w1.drew.cell? ⟨nl, 4, none⟩ = some (.pointer prr) := n4
  go_region_held3 (fun w' => w'.cell? ⟨nl, 4, none⟩ = some (.pointer prr)) (first | go_keep | assumption) ((first
    | (go_at_call 65; refine (CI.out _ T1d.out).mono ?_; clear CI; rintro e w' ⟨rfl, h⟩; have h := h.symm; subst h)
    | (go_at_call 65; refine (CLL.out _ T1d.out).mono ?_; clear CLL; rintro e w' ⟨rfl, h⟩; have h := h.symm; subst h)))
  clear n0 n1 n2 n3 n4 l3 T1d d0 d1 d0' d1'
  go_upto_region 10 with fail
  have T2 : Touch [] w1 w1.drew.drew := (Touch.refl [] w1).drew.drew
  have Z : (fun w' => (w'.cell? ⟨nl, 0, none⟩ = some (.int .i64 re.1) ∧ w'.cell? ⟨nl, 1, none⟩ = some (.int .i64 re.2.1) ∧ w'.cell? ⟨nl, 2, none⟩ = some (.int .i64 re.2.2) ∧ w'.cell? ⟨nl, 3, none⟩ = some (.pointer pi) ∧ w'.cell? ⟨nl, 4, none⟩ = some (.pointer prr)) ∧ (w'.cell? ⟨x1, 0, none⟩ = some (.int .i64 e.1) ∧ w'.cell? ⟨x1, 1, none⟩ = some (.int .i64 e.2.1) ∧ w'.cell? ⟨x1, 2, none⟩ = some (.int .i64 e.2.2))) w1.drew.drew := ⟨S1.out _ T2, S3.out _ T2⟩
  go_region_held3 (fun w' => (w'.cell? ⟨nl, 0, none⟩ = some (.int .i64 re.1) ∧ w'.cell? ⟨nl, 1, none⟩ = some (.int .i64 re.2.1) ∧ w'.cell? ⟨nl, 2, none⟩ = some (.int .i64 re.2.2) ∧ w'.cell? ⟨nl, 3, none⟩ = some (.pointer pi) ∧ w'.cell? ⟨nl, 4, none⟩ = some (.pointer prr)) ∧ (w'.cell? ⟨x1, 0, none⟩ = some (.int .i64 e.1) ∧ w'.cell? ⟨x1, 1, none⟩ = some (.int .i64 e.2.1) ∧ w'.cell? ⟨x1, 2, none⟩ = some (.int .i64 e.2.2))) (first | go_keep | exact ⟨S1.out _ (by assumption), S3.out _ (by assumption)⟩) ((first
    | (go_at_call 49; refine (J1.out _ (T1.out.trans T2 (by simp))).mono ?_; clear J1; rintro e w2 ⟨p1, rfl, h1, t2⟩; have T3 : Touch [] w1 w2 := T2.trans t2 (by simp); have H1 := hid h1; clear t2 h1)
    | (go_at_call 49; refine (J2.out _ _ (T1.out.trans T3 (by simp)) H1.out).mono ?_; clear J2; rintro e w4 ⟨p3, rfl, h3, t4⟩; have T5 : Touch [] w1 w4 := T3.trans t4 (by simp); have H4 := hid h3; clear t4 h3)))
  all_goals go_wp2_with fail
  all_goals go_ret
  all_goals exact ⟨_, rfl, H4.out, T1.out.trans T5 (by simp)⟩
end Go.Proofs.Ytnkflmimnpolcaa

namespace Go.Proofs.Ytnkflmimnpolcaa
open Go.RowKit Go.Lib
set_option maxRecDepth 100000

set_option maxHeartbeats 4000000 in
theorem bal_C {pl pr : Option Addr} {l r : Tr} (e : En) (w : World) (hl : TreeAt w pl l) (hr : TreeAt w pr r) (hc : l.ct + r.ct ≤ 900000) (h1 : ¬ r.ht + 1 < l.ht) (h2 : ¬ l.ht + 1 < r.ht) :
    Calls Try.prog 50 #[.pointer pl, enV e, .pointer pr] w fun x w' => ∃ p, x = .returned (.pointer p) ∧ TreeAt w' p (.node l e r) ∧ Touch [] w w' := by
  have b1 := Tr.ht_ct l
  have b2 := Tr.ht_ct r
  have CL := hid fun w' (t : Touch [] w w') => theight_any w' (hl.t0 t)
  have CR := hid fun w' (t : Touch [] w w') => theight_any w' (hr.t0 t)
  have CL2 := hid CL.out
  have CR2 := hid CR.out
  have J1 := hid fun w' (t : Touch [] w w') => joined_any e w' (hl.t0 t) (hr.t0 t) (by omega)
  have d0 : IntKind.i64.wrap ((r.ht : Int) + 1) = (r.ht : Int) + 1 := IntWalk.i64_in _ (by omega)
  have d0' : IntKind.i64.wrap ((l.ht : Int) + 1) = (l.ht : Int) + 1 := IntWalk.i64_in _ (by omega)
  have d1 : decide ((r.ht : Int) + 1 < (l.ht : Int)) = false := by rw [decide_eq_false_iff_not]; omega
  have d1' : decide ((l.ht : Int) + 1 < (r.ht : Int)) = false := by rw [decide_eq_false_iff_not]; omega
  clear b1 b2 h1 h2 hc hl hr
  go_enter Try.func50, Try.ntmps50
  go_upto_region 1 with fail
  obtain ⟨x1, hx1⟩ : ∃ x, x = w.heap.size := ⟨_, rfl⟩
  obtain ⟨w1, hw1⟩ : ∃ w1, w1 = w.alloc (.cells #[.int .i64 e.1, .int .i64 e.2.1, .int .i64 e.2.2] 32) := ⟨_, rfl⟩
  have B1 : EnB w1 x1 e := by rw [hw1, hx1]; exact heap_alloc_new w _
  have T1 : Hid (Touch [] w w1) := hid (by rw [hw1]; exact (Touch.refl [] w).alloc _)
  rw [← hw1, ← hx1]
  clear hw1 hx1
  have T1d : Hid (Touch [] w w1.drew) := hid T1.out.drew
  have S3 : Hid (∀ w', Touch [] w1 w' → w'.cell? ⟨x1, 0, none⟩ = some (.int .i64 e.1) ∧ w'.cell? ⟨x1, 1, none⟩ = some (.int .i64 e.2.1) ∧ w'.cell? ⟨x1, 2, none⟩ = some (.int .i64 e.2.2)) := hid fun w' t => (B1.t t).c
  obtain ⟨p1, p2, p3⟩ := B1.c
  clear B1
  go_wp2_with (first
    | (go_at_call 65; refine (CL.out _ T1.out).mono ?_; clear CL; rintro e w' ⟨rfl, h⟩; have h := h.symm; subst h)
    | (go_at_call 65; refine (CR.out _ T1.out).mono ?_; clear CR; rintro e w' ⟨rfl, h⟩; have h := h.symm; subst h)
    | (go_at_call 65; refine (CR2.out _ T1.out).mono ?_; clear CR2; rintro e w' ⟨rfl, h⟩; have h := h.symm; subst h)
    | (go_at_call 65; refine (CL2.out _ T1.out).mono ?_; clear CL2; rintro e w' ⟨rfl, h⟩; have h := h.symm; subst h)
    | (go_at_call 49; refine (J1.out _ T1.out).mono ?_; clear J1; rintro e w4 ⟨p3, rfl, h3, t4⟩; have T5 : Touch [] w1 w4 := t4; have H4 := hid h3; clear t4 h3))
  all_goals go_ret
  all_goals exact ⟨_, rfl, H4.out, T1.out.trans T5 (by simp)⟩
end Go.Proofs.Ytnkflmimnpolcaa

namespace Go.Proofs.Ytnkflmimnpolcaa
open Go.RowKit Go.Lib
set_option maxRecDepth 100000

theorem balanced_any {pl pr : Option Addr} {l r : Tr} (e : En) (w : World) (hl : TreeAt w pl l) (hr : TreeAt w pr r) (hc : l.ct + r.ct ≤ 900000) :
    Calls Try.prog 50 #[.pointer pl, enV e, .pointer pr] w fun x w' => ∃ p, x = .returned (.pointer p) ∧ TreeAt w' p (bal l e r) ∧ Touch [] w w' := by
  unfold bal
  by_cases h1 : r.ht + 1 < l.ht
  · rw [if_pos h1]
    cases l with
    | nil => simp [Tr.ht] at h1
    | node ll le lr =>
      dsimp only
      by_cases h2 : ll.ht < lr.ht
      · rw [if_pos h2]
        cases lr with
        | nil => simp [Tr.ht] at h2
        | node a ie b => exact bal_A1 e w hl hr hc h1 h2
      · rw [if_neg h2]
        exact bal_A2 e w hl hr hc h1 h2
  · rw [if_neg h1]
    by_cases h3 : l.ht + 1 < r.ht
    · rw [if_pos h3]
      cases r with
      | nil => simp [Tr.ht] at h3
      | node rl re rr =>
        dsimp only
        by_cases h2 : rr.ht < rl.ht
        · rw [if_pos h2]
          cases rl with
          | nil => simp [Tr.ht] at h2
          | node a ie b => exact bal_B1 e w hl hr hc h3 h2
        · rw [if_neg h2]
          exact bal_B2 e w hl hr hc h3 h2
    · rw [if_neg h3]
      exact bal_C e w hl hr hc h1 h3

theorem with0_any (e : En) (w : World) :
    Calls Try.prog 27 #[.pointer none, enV e] w fun x w' => ∃ p, x = .returned (.pointer p) ∧ TreeAt w' p (.node .nil e .nil) ∧ Touch [] w w' := by
  have J1 := hid fun w' => joined_any (pl := none) (pr := none) (l := .nil) (r := .nil) e w' rfl rfl (by decide)
  go_enter Try.func27, Try.ntmps27
  go_upto_region 1 with fail
  obtain ⟨w1, hw1⟩ : ∃ w1, w1 = w.alloc (.cells #[.int .i64 e.1, .int .i64 e.2.1, .int .i64 e.2.2] 32) := ⟨_, rfl⟩
  have T1 : Hid (Touch [] w w1) := hid (by rw [hw1]; exact (Touch.refl [] w).alloc _)
  have B1 : EnB w1 w.heap.size e := by rw [hw1]; exact heap_alloc_new w _
  rw [← hw1]
  clear hw1
  obtain ⟨p1, p2, p3⟩ := B1.c
  go_wp2_with (go_at_call 49; refine (J1.out _).mono ?_; clear J1; rintro e w4 ⟨p3, rfl, h3, t4⟩; have T5 : Touch [] w1 w4 := t4; have H4 := hid h3; clear t4 h3)
  go_ret
  exact ⟨_, rfl, H4.out, T1.out.trans T5 (by simp)⟩
theorem en_ne {x e : En} (h : x ≠ e) (W : World) : (if x.1 = e.1 then
  if x.2.1 = e.2.1 then
    if x.2.2 = e.2.2 then Result.ok (Next.value (Value.bool true)) W
    else Result.ok (Next.value (Value.bool false)) W
  else Result.ok (Next.value (Value.bool false)) W
else Result.ok (Next.value (Value.bool false)) W) = Result.ok (Next.value (Value.bool false)) W := by
  obtain ⟨x1, x2, x3⟩ := x
  obtain ⟨e1, e2, e3⟩ := e
  simp only [ne_eq, Prod.mk.injEq] at h
  dsimp only
  repeat' split
  all_goals first
    | rfl
    | (exfalso; apply h; refine ⟨?_, ?_, ?_⟩ <;> assumption)
set_option maxHeartbeats 4000000 in
theorem with_any (e : En) (t : Tr) : ∀ (p : Option Addr) (w : World), TreeAt w p t → SortedE t.io → t.ct ≤ 800000 →
    Calls Try.prog 27 #[.pointer p, enV e] w fun x w' => ∃ p, x = .returned (.pointer p) ∧ TreeAt w' p (wi t e) ∧ Touch [] w w' := by
  induction t with
  | nil =>
    intro p w h _ _
    obtain rfl : p = none := h
    exact with0_any e w
  | node l x r ihl ihr =>
    intro p w h hs hc
    have hself := h
    obtain ⟨b, pl, pr, rfl, N, hl, hr⟩ := h
    have hs1 := List.pairwise_append.1 hs
    have hs2 := (List.pairwise_cons.1 hs1.2.1).2
    simp only [Tr.ct] at hc
    have cl := wi_ct l e hs1.1
    have cr := wi_ct r e hs2
    have IL := hid fun w' (t : Touch [] w w') => ihl pl w' (hl.t0 t) hs1.1 (by omega)
    have IR := hid fun w' (t : Touch [] w w') => ihr pr w' (hr.t0 t) hs2 (by omega)
    have BL := hid fun w' p' (t : Touch [] w w') (k : TreeAt w' p' (wi l e)) => balanced_any x w' k (hr.t0 t) (by omega)
    have BR := hid fun w' p' (t : Touch [] w w') (k : TreeAt w' p' (wi r e)) => balanced_any x w' (hl.t0 t) k (by omega)
    have LS := hid fun w' => less_any e x w'
    clear ihl ihr
    by_cases hxe : x = e
    · subst hxe
      have hwi : wi (.node l x r) x = .node l x r := by unfold wi; rw [if_pos rfl]
      rw [hwi]
      clear IL IR BL BR LS hs hs1 hs2 cl cr hc hl hr
      go_enter Try.func27, Try.ntmps27
      go_upto_region 1 with fail
      obtain ⟨x1, hx1⟩ : ∃ x, x = w.heap.size := ⟨_, rfl⟩
      obtain ⟨w1, hw1⟩ : ∃ w1, w1 = w.alloc (.cells #[.int .i64 x.1, .int .i64 x.2.1, .int .i64 x.2.2] 32) := ⟨_, rfl⟩
      have T1 : Hid (Touch [] w w1) := hid (by rw [hw1]; exact (Touch.refl [] w).alloc _)
      have B1 : EnB w1 x1 x := by rw [hw1, hx1]; exact heap_alloc_new w _
      rw [← hw1, ← hx1]
      clear hw1 hx1
      have N1 := N.t T1.out
      obtain ⟨n0, n1, n2, n3, n4⟩ := N1.c
      obtain ⟨p1, p2, p3⟩ := B1.c
      have HS := hid (hself.t0 T1.out.drew)
      clear N N1 B1 hself
      go_upto_region 3 with fail
      have l0 : w1.drew.cell? ⟨b, 0, none⟩ = some (.int .i64 x.1) := n0
      have l1 : w1.drew.cell? ⟨b, 1, none⟩ = some (.int .i64 x.2.1) := n1
      have l2 : w1.drew.cell? ⟨b, 2, none⟩ = some (.int .i64 x.2.2) := n2
      have m0 : w1.drew.cell? ⟨x1, 0, none⟩ = some (.int .i64 x.1) := p1
      have m1 : w1.drew.cell? ⟨x1, 1, none⟩ = some (.int .i64 x.2.1) := p2
      have m2 : w1.drew.cell? ⟨x1, 2, none⟩ = some (.int .i64 x.2.2) := p3
      go_region
      all_goals go_wp2_with fail
      go_ret
      exact ⟨_, rfl, HS.out, T1.out.drew⟩
    · have EQ := en_ne hxe
      have hwi : wi (.node l x r) e = if ltE e x then bal (wi l e) x r else bal l x (wi r e) := by conv => lhs; unfold wi; rw [if_neg hxe]
      by_cases hlt : ltE e x
      · skip
        rw [hwi, if_pos hlt]
        have hlt' : decide (ltE e x) = true := by simpa using hlt
        clear hlt IR BR
        clear hs hs1 hs2 cl cr hc hl hr hxe hself
        go_enter Try.func27, Try.ntmps27
        go_upto_region 1 with fail
        obtain ⟨x1, hx1⟩ : ∃ x, x = w.heap.size := ⟨_, rfl⟩
        obtain ⟨w1, hw1⟩ : ∃ w1, w1 = w.alloc (.cells #[.int .i64 e.1, .int .i64 e.2.1, .int .i64 e.2.2] 32) := ⟨_, rfl⟩
        have T1 : Hid (Touch [] w w1) := hid (by rw [hw1]; exact (Touch.refl [] w).alloc _)
        have B1 : EnB w1 x1 e := by rw [hw1, hx1]; exact heap_alloc_new w _
        rw [← hw1, ← hx1]
        clear hw1 hx1
        have N1 := N.t T1.out
        obtain ⟨n0, n1, n2, n3, n4⟩ := N1.c
        obtain ⟨p1, p2, p3⟩ := B1.c
        have S1 : Hid (∀ w', Touch [] w1 w' → w'.cell? ⟨b, 0, none⟩ = some (.int .i64 x.1) ∧ w'.cell? ⟨b, 1, none⟩ = some (.int .i64 x.2.1) ∧ w'.cell? ⟨b, 2, none⟩ = some (.int .i64 x.2.2) ∧ w'.cell? ⟨b, 3, none⟩ = some (.pointer pl) ∧ w'.cell? ⟨b, 4, none⟩ = some (.pointer pr)) := hid fun w' t => (N1.t t).c
        have S3 : Hid (∀ w', Touch [] w1 w' → w'.cell? ⟨x1, 0, none⟩ = some (.int .i64 e.1) ∧ w'.cell? ⟨x1, 1, none⟩ = some (.int .i64 e.2.1) ∧ w'.cell? ⟨x1, 2, none⟩ = some (.int .i64 e.2.2)) := hid fun w' t => (B1.t t).c
        clear N N1 B1
        go_upto_region 3 with fail
        have l0 : w1.drew.cell? ⟨b, 0, none⟩ = some (.int .i64 x.1) := n0
        have l1 : w1.drew.cell? ⟨b, 1, none⟩ = some (.int .i64 x.2.1) := n1
        have l2 : w1.drew.cell? ⟨b, 2, none⟩ = some (.int .i64 x.2.2) := n2
        have m0 : w1.drew.cell? ⟨x1, 0, none⟩ = some (.int .i64 e.1) := p1
        have m1 : w1.drew.cell? ⟨x1, 1, none⟩ = some (.int .i64 e.2.1) := p2
        have m2 : w1.drew.cell? ⟨x1, 2, none⟩ = some (.int .i64 e.2.2) := p3
        go_region
        all_goals clear n0 n1 n2 n3 n4 p1 p2 p3 l0 l1 l2 m0 m1 m2 EQ
        all_goals go_upto_region 5 with fail
        have T2 : Touch [] w1 w1.drew.drew := (Touch.refl [] w1).drew.drew
        have Z : (fun w' => (w'.cell? ⟨b, 0, none⟩ = some (.int .i64 x.1) ∧ w'.cell? ⟨b, 1, none⟩ = some (.int .i64 x.2.1) ∧ w'.cell? ⟨b, 2, none⟩ = some (.int .i64 x.2.2) ∧ w'.cell? ⟨b, 3, none⟩ = some (.pointer pl) ∧ w'.cell? ⟨b, 4, none⟩ = some (.pointer pr)) ∧ (w'.cell? ⟨x1, 0, none⟩ = some (.int .i64 e.1) ∧ w'.cell? ⟨x1, 1, none⟩ = some (.int .i64 e.2.1) ∧ w'.cell? ⟨x1, 2, none⟩ = some (.int .i64 e.2.2))) w1.drew.drew := ⟨S1.out _ T2, S3.out _ T2⟩
        go_region_held3 (fun w' => (w'.cell? ⟨b, 0, none⟩ = some (.int .i64 x.1) ∧ w'.cell? ⟨b, 1, none⟩ = some (.int .i64 x.2.1) ∧ w'.cell? ⟨b, 2, none⟩ = some (.int .i64 x.2.2) ∧ w'.cell? ⟨b, 3, none⟩ = some (.pointer pl) ∧ w'.cell? ⟨b, 4, none⟩ = some (.pointer pr)) ∧ (w'.cell? ⟨x1, 0, none⟩ = some (.int .i64 e.1) ∧ w'.cell? ⟨x1, 1, none⟩ = some (.int .i64 e.2.1) ∧ w'.cell? ⟨x1, 2, none⟩ = some (.int .i64 e.2.2))) (first | go_keep | exact ⟨S1.out _ (by assumption), S3.out _ (by assumption)⟩) ((first
          | (go_at_call 39; refine (LS.out _).mono ?_; clear LS; rintro e w2 ⟨rfl, t2⟩; have T3 : Touch [] w1 w2 := T2.trans t2 (by simp); clear t2)))
        clear Z T2
        go_upto_region 6 with fail
        have T2 : Touch [] w1 w2.drew := T3.drew
        have Z : (fun w' => (w'.cell? ⟨b, 0, none⟩ = some (.int .i64 x.1) ∧ w'.cell? ⟨b, 1, none⟩ = some (.int .i64 x.2.1) ∧ w'.cell? ⟨b, 2, none⟩ = some (.int .i64 x.2.2) ∧ w'.cell? ⟨b, 3, none⟩ = some (.pointer pl) ∧ w'.cell? ⟨b, 4, none⟩ = some (.pointer pr)) ∧ (w'.cell? ⟨x1, 0, none⟩ = some (.int .i64 e.1) ∧ w'.cell? ⟨x1, 1, none⟩ = some (.int .i64 e.2.1) ∧ w'.cell? ⟨x1, 2, none⟩ = some (.int .i64 e.2.2))) w2.drew := ⟨S1.out _ T2, S3.out _ T2⟩
        go_region_held3 (fun w' => (w'.cell? ⟨b, 0, none⟩ = some (.int .i64 x.1) ∧ w'.cell? ⟨b, 1, none⟩ = some (.int .i64 x.2.1) ∧ w'.cell? ⟨b, 2, none⟩ = some (.int .i64 x.2.2) ∧ w'.cell? ⟨b, 3, none⟩ = some (.pointer pl) ∧ w'.cell? ⟨b, 4, none⟩ = some (.pointer pr)) ∧ (w'.cell? ⟨x1, 0, none⟩ = some (.int .i64 e.1) ∧ w'.cell? ⟨x1, 1, none⟩ = some (.int .i64 e.2.1) ∧ w'.cell? ⟨x1, 2, none⟩ = some (.int .i64 e.2.2))) (first | go_keep | exact ⟨S1.out _ (by assumption), S3.out _ (by assumption)⟩) ((first
          | (go_at_call 27; refine (IL.out _ (T1.out.trans T2 (by simp))).mono ?_; clear IL; rintro e w3 ⟨p4, rfl, h3, t4⟩; have T4 : Touch [] w1 w3 := T2.trans t4 (by simp); have H3 := hid h3; clear t4 h3)
          | (go_at_call 50; refine (BL.out _ _ (T1.out.trans T4 (by simp)) H3.out).mono ?_; clear BL; rintro e w5 ⟨p5, rfl, h5, t5⟩; have T5 : Touch [] w1 w5 := T4.trans t5 (by simp); have H5 := hid h5; clear t5 h5)))
        all_goals go_wp2_with fail
        all_goals go_ret
        all_goals exact ⟨_, rfl, H5.out, T1.out.trans T5 (by simp)⟩
      · skip
        rw [hwi, if_neg hlt]
        have hlt' : decide (ltE e x) = false := by simpa using hlt
        clear hlt IL BL
        clear hs hs1 hs2 cl cr hc hl hr hxe hself
        go_enter Try.func27, Try.ntmps27
        go_upto_region 1 with fail
        obtain ⟨x1, hx1⟩ : ∃ x, x = w.heap.size := ⟨_, rfl⟩
        obtain ⟨w1, hw1⟩ : ∃ w1, w1 = w.alloc (.cells #[.int .i64 e.1, .int .i64 e.2.1, .int .i64 e.2.2] 32) := ⟨_, rfl⟩
        have T1 : Hid (Touch [] w w1) := hid (by rw [hw1]; exact (Touch.refl [] w).alloc _)
        have B1 : EnB w1 x1 e := by rw [hw1, hx1]; exact heap_alloc_new w _
        rw [← hw1, ← hx1]
        clear hw1 hx1
        have N1 := N.t T1.out
        obtain ⟨n0, n1, n2, n3, n4⟩ := N1.c
        obtain ⟨p1, p2, p3⟩ := B1.c
        have S1 : Hid (∀ w', Touch [] w1 w' → w'.cell? ⟨b, 0, none⟩ = some (.int .i64 x.1) ∧ w'.cell? ⟨b, 1, none⟩ = some (.int .i64 x.2.1) ∧ w'.cell? ⟨b, 2, none⟩ = some (.int .i64 x.2.2) ∧ w'.cell? ⟨b, 3, none⟩ = some (.pointer pl) ∧ w'.cell? ⟨b, 4, none⟩ = some (.pointer pr)) := hid fun w' t => (N1.t t).c
        have S3 : Hid (∀ w', Touch [] w1 w' → w'.cell? ⟨x1, 0, none⟩ = some (.int .i64 e.1) ∧ w'.cell? ⟨x1, 1, none⟩ = some (.int .i64 e.2.1) ∧ w'.cell? ⟨x1, 2, none⟩ = some (.int .i64 e.2.2)) := hid fun w' t => (B1.t t).c
        clear N N1 B1
        go_upto_region 3 with fail
        have l0 : w1.drew.cell? ⟨b, 0, none⟩ = some (.int .i64 x.1) := n0
        have l1 : w1.drew.cell? ⟨b, 1, none⟩ = some (.int .i64 x.2.1) := n1
        have l2 : w1.drew.cell? ⟨b, 2, none⟩ = some (.int .i64 x.2.2) := n2
        have m0 : w1.drew.cell? ⟨x1, 0, none⟩ = some (.int .i64 e.1) := p1
        have m1 : w1.drew.cell? ⟨x1, 1, none⟩ = some (.int .i64 e.2.1) := p2
        have m2 : w1.drew.cell? ⟨x1, 2, none⟩ = some (.int .i64 e.2.2) := p3
        go_region
        all_goals clear n0 n1 n2 n3 n4 p1 p2 p3 l0 l1 l2 m0 m1 m2 EQ
        all_goals go_upto_region 5 with fail
        have T2 : Touch [] w1 w1.drew.drew := (Touch.refl [] w1).drew.drew
        have Z : (fun w' => (w'.cell? ⟨b, 0, none⟩ = some (.int .i64 x.1) ∧ w'.cell? ⟨b, 1, none⟩ = some (.int .i64 x.2.1) ∧ w'.cell? ⟨b, 2, none⟩ = some (.int .i64 x.2.2) ∧ w'.cell? ⟨b, 3, none⟩ = some (.pointer pl) ∧ w'.cell? ⟨b, 4, none⟩ = some (.pointer pr)) ∧ (w'.cell? ⟨x1, 0, none⟩ = some (.int .i64 e.1) ∧ w'.cell? ⟨x1, 1, none⟩ = some (.int .i64 e.2.1) ∧ w'.cell? ⟨x1, 2, none⟩ = some (.int .i64 e.2.2))) w1.drew.drew := ⟨S1.out _ T2, S3.out _ T2⟩
        go_region_held3 (fun w' => (w'.cell? ⟨b, 0, none⟩ = some (.int .i64 x.1) ∧ w'.cell? ⟨b, 1, none⟩ = some (.int .i64 x.2.1) ∧ w'.cell? ⟨b, 2, none⟩ = some (.int .i64 x.2.2) ∧ w'.cell? ⟨b, 3, none⟩ = some (.pointer pl) ∧ w'.cell? ⟨b, 4, none⟩ = some (.pointer pr)) ∧ (w'.cell? ⟨x1, 0, none⟩ = some (.int .i64 e.1) ∧ w'.cell? ⟨x1, 1, none⟩ = some (.int .i64 e.2.1) ∧ w'.cell? ⟨x1, 2, none⟩ = some (.int .i64 e.2.2))) (first | go_keep | exact ⟨S1.out _ (by assumption), S3.out _ (by assumption)⟩) ((first
          | (go_at_call 39; refine (LS.out _).mono ?_; clear LS; rintro e w2 ⟨rfl, t2⟩; have T3 : Touch [] w1 w2 := T2.trans t2 (by simp); clear t2)))
        clear Z T2
        go_upto_region 7 with fail
        have T2 : Touch [] w1 w2.drew := T3.drew
        have Z : (fun w' => (w'.cell? ⟨b, 0, none⟩ = some (.int .i64 x.1) ∧ w'.cell? ⟨b, 1, none⟩ = some (.int .i64 x.2.1) ∧ w'.cell? ⟨b, 2, none⟩ = some (.int .i64 x.2.2) ∧ w'.cell? ⟨b, 3, none⟩ = some (.pointer pl) ∧ w'.cell? ⟨b, 4, none⟩ = some (.pointer pr)) ∧ (w'.cell? ⟨x1, 0, none⟩ = some (.int .i64 e.1) ∧ w'.cell? ⟨x1, 1, none⟩ = some (.int .i64 e.2.1) ∧ w'.cell? ⟨x1, 2, none⟩ = some (.int .i64 e.2.2))) w2.drew := ⟨S1.out _ T2, S3.out _ T2⟩
        go_region_held3 (fun w' => (w'.cell? ⟨b, 0, none⟩ = some (.int .i64 x.1) ∧ w'.cell? ⟨b, 1, none⟩ = some (.int .i64 x.2.1) ∧ w'.cell? ⟨b, 2, none⟩ = some (.int .i64 x.2.2) ∧ w'.cell? ⟨b, 3, none⟩ = some (.pointer pl) ∧ w'.cell? ⟨b, 4, none⟩ = some (.pointer pr)) ∧ (w'.cell? ⟨x1, 0, none⟩ = some (.int .i64 e.1) ∧ w'.cell? ⟨x1, 1, none⟩ = some (.int .i64 e.2.1) ∧ w'.cell? ⟨x1, 2, none⟩ = some (.int .i64 e.2.2))) (first | go_keep | exact ⟨S1.out _ (by assumption), S3.out _ (by assumption)⟩) ((first
          | (go_at_call 27; refine (IR.out _ (T1.out.trans T2 (by simp))).mono ?_; clear IR; rintro e w3 ⟨p4, rfl, h3, t4⟩; have T4 : Touch [] w1 w3 := T2.trans t4 (by simp); have H3 := hid h3; clear t4 h3)
          | (go_at_call 50; refine (BR.out _ _ (T1.out.trans T4 (by simp)) H3.out).mono ?_; clear BR; rintro e w5 ⟨p5, rfl, h5, t5⟩; have T5 : Touch [] w1 w5 := T4.trans t5 (by simp); have H5 := hid h5; clear t5 h5)))
        all_goals go_wp2_with fail
        all_goals go_ret
        all_goals exact ⟨_, rfl, H5.out, T1.out.trans T5 (by simp)⟩
end Go.Proofs.Ytnkflmimnpolcaa
