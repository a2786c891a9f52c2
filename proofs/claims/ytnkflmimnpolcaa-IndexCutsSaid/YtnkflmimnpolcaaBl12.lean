/- The tree of an entry between two sides of which one may be higher by two. -/
import Derived.Test.YtnkflmimnpolcaaMn12
namespace Go.Proofs.Ytnkflmimnpolcaa
open Go.RowKit Go.Lib
set_option maxRecDepth 100000

theorem NodeB.c {w : World} {b : Nat} {e : En} {pl pr : Option Addr} {h c : Nat} (H : NodeB w b e pl pr h c) : w.cell? ⟨b, 0, none⟩ = some (.int .i64 e.1) ∧ w.cell? ⟨b, 1, none⟩ = some (.int .i64 e.2.1) ∧ w.cell? ⟨b, 2, none⟩ = some (.int .i64 e.2.2) ∧ w.cell? ⟨b, 3, none⟩ = some (.pointer pl) ∧ w.cell? ⟨b, 4, none⟩ = some (.pointer pr) :=
  ⟨cell_of H 0, cell_of H 1, cell_of H 2, cell_of H 3, cell_of H 4⟩
theorem NodeB.t {w w' : World} {b : Nat} {e : En} {pl pr : Option Addr} {h c : Nat} (H : NodeB w b e pl pr h c) (t : Touch [] w w') : NodeB w' b e pl pr h c := touch_other t H (by simp)
theorem EnB.t {w w' : World} {b : Nat} {e : En} (H : EnB w b e) (t : Touch [] w w') : EnB w' b e := touch_other t H (by simp)

set_option maxHeartbeats 4000000 in
theorem bal_A1 {pl pr : Option Addr} {ll a b r : Tr} {le ie : En} (e : En) (w : World) (hl : TreeAt w pl (.node ll le (.node a ie b))) (hr : TreeAt w pr r) (hc : (Tr.node ll le (.node a ie b)).ct + r.ct ≤ 900000)
    (h1 : r.ht + 1 < (Tr.node ll le (.node a ie b)).ht) (h2 : ll.ht < (Tr.node a ie b).ht) :
    Calls Try.prog 50 #[.pointer pl, enV e, .pointer pr] w fun x w' => ∃ p, x = .returned (.pointer p) ∧ TreeAt w' p (.node (.node ll le a) ie (.node b e r)) ∧ Touch [] w w' := by
  have b1 := Tr.ht_ct (.node ll le (.node a ie b))
  have b2 := Tr.ht_ct r
  have CL := hid fun w' (t : Touch [] w w') => theight_any w' (hl.t0 t)
  have CR := hid fun w' (t : Touch [] w w') => theight_any w' (hr.t0 t)
  obtain ⟨nl, pll, pi, rfl, NL, hll, hi⟩ := hl
  have CI := hid fun w' (t : Touch [] w w') => theight_any w' (hi.t0 t)
  have CLL := hid fun w' (t : Touch [] w w') => theight_any w' (hll.t0 t)
  obtain ⟨ni, pa, pb, rfl, NI, ha, hb⟩ := hi
  simp only [Tr.ct] at hc
  have J1 := hid fun w' (t : Touch [] w w') => joined_any le w' (hll.t0 t) (ha.t0 t) (by omega)
  have J2 := hid fun w' (t : Touch [] w w') => joined_any e w' (hb.t0 t) (hr.t0 t) (by omega)
  have J3 := hid fun w' p1 p2 (k1 : TreeAt w' p1 (.node ll le a)) (k2 : TreeAt w' p2 (.node b e r)) => joined_any ie w' k1 k2 (by simp only [Tr.ct]; omega)
  have d0 : IntKind.i64.wrap ((r.ht : Int) + 1) = (r.ht : Int) + 1 := IntWalk.i64_in _ (by omega)
  have d1 : decide ((r.ht : Int) + 1 < ((Tr.node ll le (.node a ie b)).ht : Int)) = true := by rw [decide_eq_true_eq]; omega
  have d2 : decide (ll.ht < (Tr.node a ie b).ht) = true := by rw [decide_eq_true_eq]; omega
  generalize (Tr.node ll le (.node a ie b)).ht = HL at *
  generalize (Tr.node a ie b).ht = HI at *
  generalize (Tr.node ll le (.node a ie b)).ct = KL at *
  generalize (Tr.node a ie b).ct = KI at *
  clear b1 b2 h1 h2 hc hll ha hb hr
  go_enter Try.func50, Try.ntmps50
  go_upto_region 1 with fail
  obtain ⟨x1, hx1⟩ : ∃ x, x = w.heap.size := ⟨_, rfl⟩
  obtain ⟨w1, hw1⟩ : ∃ w1, w1 = w.alloc (.cells #[.int .i64 e.1, .int .i64 e.2.1, .int .i64 e.2.2] 32) := ⟨_, rfl⟩
  have B1 : EnB w1 x1 e := by rw [hw1, hx1]; exact heap_alloc_new w _
  have T1 : Hid (Touch [] w w1) := hid (by rw [hw1]; exact (Touch.refl [] w).alloc _)
  rw [← hw1, ← hx1]
  clear hw1 hx1
  have N1 := NL.t T1.out
  have N2 := NI.t T1.out
  obtain ⟨n0, n1, n2, n3, n4⟩ := N1.c
  obtain ⟨i0, i1, i2, i3, i4⟩ := N2.c
  obtain ⟨⟨p1, p2, p3⟩, -⟩ := B1.all
  have T1d : Hid (Touch [] w w1.drew) := hid T1.out.drew
  have S1 := hid fun w' (t : Touch [] w1 w') => (N1.t t).c
  have S2 := hid fun w' (t : Touch [] w1 w') => (N2.t t).c
  have S3 : Hid (∀ w', Touch [] w1 w' → w'.cell? ⟨x1, 0, none⟩ = some (.int .i64 e.1) ∧ w'.cell? ⟨x1, 1, none⟩ = some (.int .i64 e.2.1) ∧ w'.cell? ⟨x1, 2, none⟩ = some (.int .i64 e.2.2)) := hid fun w' t => (B1.t t).c
  clear N1 N2 B1 NL NI
  go_upto_region 3 with (first
    | (go_at_call 65; refine (CL.out _ T1.out).mono ?_; clear CL; rintro e w' ⟨rfl, h⟩; have h := h.symm; subst h)
    | (go_at_call 65; refine (CR.out _ T1.out).mono ?_; clear CR; rintro e w' ⟨rfl, h⟩; have h := h.symm; subst h))
  have l3 : w1.drew.cell? ⟨nl, 3, none⟩ = some (.pointer pll) := n3
  go_region_held3 (fun w' => w'.cell? ⟨nl, 3, none⟩ = some (.pointer pll)) (first | go_keep | assumption) ((first
    | (go_at_call 65; refine (CI.out _ T1d.out).mono ?_; clear CI; rintro e w' ⟨rfl, h⟩; have h := h.symm; subst h)
    | (go_at_call 65; refine (CLL.out _ T1d.out).mono ?_; clear CLL; rintro e w' ⟨rfl, h⟩; have h := h.symm; subst h)))
  clear n0 n1 n2 n3 n4 i0 i1 i2 i3 i4 p1 p2 p3 l3 T1d d0 d1
  go_upto_region 4 with fail
  have T2 : Touch [] w1 w1.drew.drew := (Touch.refl [] w1).drew.drew
  have Z : ((fun w' => (w'.cell? ⟨nl, 0, none⟩ = some (.int .i64 le.1) ∧ w'.cell? ⟨nl, 1, none⟩ = some (.int .i64 le.2.1) ∧ w'.cell? ⟨nl, 2, none⟩ = some (.int .i64 le.2.2) ∧ w'.cell? ⟨nl, 3, none⟩ = some (.pointer pll) ∧ w'.cell? ⟨nl, 4, none⟩ = some (.pointer (some ⟨ni, 0, none⟩))) ∧ (w'.cell? ⟨ni, 0, none⟩ = some (.int .i64 ie.1) ∧ w'.cell? ⟨ni, 1, none⟩ = some (.int .i64 ie.2.1) ∧ w'.cell? ⟨ni, 2, none⟩ = some (.int .i64 ie.2.2) ∧ w'.cell? ⟨ni, 3, none⟩ = some (.pointer pa) ∧ w'.cell? ⟨ni, 4, none⟩ = some (.pointer pb)) ∧ (w'.cell? ⟨x1, 0, none⟩ = some (.int .i64 e.1) ∧ w'.cell? ⟨x1, 1, none⟩ = some (.int .i64 e.2.1) ∧ w'.cell? ⟨x1, 2, none⟩ = some (.int .i64 e.2.2)))) w1.drew.drew := ⟨S1.out _ T2, S2.out _ T2, S3.out _ T2⟩
  go_region_held3 (fun w' => (w'.cell? ⟨nl, 0, none⟩ = some (.int .i64 le.1) ∧ w'.cell? ⟨nl, 1, none⟩ = some (.int .i64 le.2.1) ∧ w'.cell? ⟨nl, 2, none⟩ = some (.int .i64 le.2.2) ∧ w'.cell? ⟨nl, 3, none⟩ = some (.pointer pll) ∧ w'.cell? ⟨nl, 4, none⟩ = some (.pointer (some ⟨ni, 0, none⟩))) ∧ (w'.cell? ⟨ni, 0, none⟩ = some (.int .i64 ie.1) ∧ w'.cell? ⟨ni, 1, none⟩ = some (.int .i64 ie.2.1) ∧ w'.cell? ⟨ni, 2, none⟩ = some (.int .i64 ie.2.2) ∧ w'.cell? ⟨ni, 3, none⟩ = some (.pointer pa) ∧ w'.cell? ⟨ni, 4, none⟩ = some (.pointer pb)) ∧ (w'.cell? ⟨x1, 0, none⟩ = some (.int .i64 e.1) ∧ w'.cell? ⟨x1, 1, none⟩ = some (.int .i64 e.2.1) ∧ w'.cell? ⟨x1, 2, none⟩ = some (.int .i64 e.2.2))) (first | go_keep | exact ⟨S1.out _ (by assumption), S2.out _ (by assumption), S3.out _ (by assumption)⟩) ((first
    | (go_at_call 49; refine (J1.out _ (T1.out.trans T2 (by simp))).mono ?_; clear J1; rintro e w2 ⟨p1, rfl, h1, t2⟩; have T3 : Touch [] w1 w2 := T2.trans t2 (by simp); have H1 := hid h1; clear t2 h1)
    | (go_at_call 49; refine (J2.out _ (T1.out.trans T3 (by simp))).mono ?_; clear J2; rintro e w3 ⟨p2, rfl, h2, t3⟩; have T4 : Touch [] w1 w3 := T3.trans t3 (by simp); have H2 := hid h2; have H3 := hid (H1.out.t0 t3); clear t3 h2)
    | (go_at_call 49; refine (J3.out _ _ _ H3.out H2.out).mono ?_; clear J3; rintro e w4 ⟨p3, rfl, h3, t4⟩; have T5 : Touch [] w1 w4 := T4.trans t4 (by simp); have H4 := hid h3; clear t4 h3)))
  all_goals go_wp2_with fail
  all_goals go_ret
  all_goals exact ⟨_, rfl, H4.out, T1.out.trans T5 (by simp)⟩
end Go.Proofs.Ytnkflmimnpolcaa
