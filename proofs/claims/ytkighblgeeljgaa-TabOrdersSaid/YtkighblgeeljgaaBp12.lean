/- The tree of an entry between two sides, further. -/
import Derived.Test.YtkighblgeeljgaaBl12
namespace Go.Proofs.Ytkighblgeeljgaa
open Go.RowKit Go.Lib
set_option maxRecDepth 100000

set_option maxHeartbeats 4000000 in
theorem bal_C {pl pr : Option Addr} {l r : Tr} (e : En) (w : World) (hl : TreeAt w pl l) (hr : TreeAt w pr r) (hc : l.ct + r.ct ≤ 900000) (h1 : ¬ r.ht + 1 < l.ht) (h2 : ¬ l.ht + 1 < r.ht) :
    Calls Try.prog 68 #[.pointer pl, enV e, .pointer pr] w fun x w' => ∃ p, x = .returned (.pointer p) ∧ TreeAt w' p (.node l e r) ∧ Touch [] w w' := by
  have b1 := Tr.ht_ct l
  have b2 := Tr.ht_ct r
  have CL := hid fun w' (t : Touch [] w w') => theight_any w' (hl.t0 t)
  have CR := hid fun w' (t : Touch [] w w') => theight_any w' (hr.t0 t)
  have CL2 := hid CL.out
  have CR2 := hid CR.out
  have J1 := hid fun w' (t : Touch [] w w') => joined_any e w' (hl.t0 t) (hr.t0 t) (by omega)
  have d0 : IntKind.i64.wrap ((r.ht : Int) + 1) = (r.ht : Int) + 1 := IntWalk.i64_in _ (by omega)
  have d0' : IntKind.i64.wrap ((l.ht : Int) + 1) = (l.ht : Int) + 1 := IntWalk.i64_in _ (by omega)
  have d1 : decide ((r.ht : Int) + 1 < (l.ht : Int)) = false := by rw [decide_eq_false_iff_not]; omega
  have d1' : decide ((l.ht : Int) + 1 < (r.ht : Int)) = false := by rw [decide_eq_false_iff_not]; omega
  clear b1 b2 h1 h2 hc hl hr
  go_enter Try.func68, Try.ntmps68
  go_upto_region 1 with fail
  obtain ⟨x1, hx1⟩ : ∃ x, x = w.heap.size := ⟨_, rfl⟩
  obtain ⟨w1, hw1⟩ : ∃ w1, w1 = w.alloc (.cells #[.int .i64 e.1, .int .i64 e.2.1, .int .i64 e.2.2] 55) := ⟨_, rfl⟩
  have B1 : EnB w1 x1 e := by rw [hw1, hx1]; exact heap_alloc_new w _
  have T1 : Hid (Touch [] w w1) := hid (by rw [hw1]; exact (Touch.refl [] w).alloc _)
  rw [← hw1, ← hx1]
  clear hw1 hx1
  have T1d : Hid (Touch [] w w1.drew) := hid T1.out.drew
  have S3 : Hid (∀ w', Touch [] w1 w' → w'.cell? ⟨x1, 0, none⟩ = some (.int .i64 e.1) ∧ w'.cell? ⟨x1, 1, none⟩ = some (.int .i64 e.2.1) ∧ w'.cell? ⟨x1, 2, none⟩ = some (.int .i64 e.2.2)) := hid fun w' t => (B1.t t).c
  obtain ⟨p1, p2, p3⟩ := B1.c
  clear B1
  go_wp2_with (first
    | (go_at_call 80; refine (CL.out _ T1.out).mono ?_; clear CL; rintro e w' ⟨rfl, h⟩; have h := h.symm; subst h)
    | (go_at_call 80; refine (CR.out _ T1.out).mono ?_; clear CR; rintro e w' ⟨rfl, h⟩; have h := h.symm; subst h)
    | (go_at_call 80; refine (CR2.out _ T1.out).mono ?_; clear CR2; rintro e w' ⟨rfl, h⟩; have h := h.symm; subst h)
    | (go_at_call 80; refine (CL2.out _ T1.out).mono ?_; clear CL2; rintro e w' ⟨rfl, h⟩; have h := h.symm; subst h)
    | (go_at_call 67; refine (J1.out _ T1.out).mono ?_; clear J1; rintro e w4 ⟨p3, rfl, h3, t4⟩; have T5 : Touch [] w1 w4 := t4; have H4 := hid h3; clear t4 h3))
  all_goals go_ret
  all_goals exact ⟨_, rfl, H4.out, T1.out.trans T5 (by simp)⟩
end Go.Proofs.Ytkighblgeeljgaa
