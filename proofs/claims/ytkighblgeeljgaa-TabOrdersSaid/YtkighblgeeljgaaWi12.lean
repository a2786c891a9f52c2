/- An entry put into a tree. -/
import Derived.Test.YtkighblgeeljgaaBm12
import Derived.Test.YtkighblgeeljgaaBn12
import Derived.Test.YtkighblgeeljgaaBo12
import Derived.Test.YtkighblgeeljgaaBp12
namespace Go.Proofs.Ytkighblgeeljgaa
open Go.RowKit Go.Lib
set_option maxRecDepth 100000

theorem balanced_any {pl pr : Option Addr} {l r : Tr} (e : En) (w : World) (hl : TreeAt w pl l) (hr : TreeAt w pr r) (hc : l.ct + r.ct ≤ 900000) :
    Calls Try.prog 68 #[.pointer pl, enV e, .pointer pr] w fun x w' => ∃ p, x = .returned (.pointer p) ∧ TreeAt w' p (bal l e r) ∧ Touch [] w w' := by
  unfold bal
  by_cases h1 : r.ht + 1 < l.ht
  · rw [if_pos h1]
    cases l with
    | nil => simp [Tr.ht] at h1
    | node ll le lr =>
      dsimp only
      by_cases h2 : ll.ht < lr.ht
      · rw [if_pos h2]
        cases lr with
        | nil => simp [Tr.ht] at h2
        | node a ie b => exact bal_A1 e w hl hr hc h1 h2
      · rw [if_neg h2]
        exact bal_A2 e w hl hr hc h1 h2
  · rw [if_neg h1]
    by_cases h3 : l.ht + 1 < r.ht
    · rw [if_pos h3]
      cases r with
      | nil => simp [Tr.ht] at h3
      | node rl re rr =>
        dsimp only
        by_cases h2 : rr.ht < rl.ht
        · rw [if_pos h2]
          cases rl with
          | nil => simp [Tr.ht] at h2
          | node a ie b => exact bal_B1 e w hl hr hc h3 h2
        · rw [if_neg h2]
          exact bal_B2 e w hl hr hc h3 h2
    · rw [if_neg h3]
      exact bal_C e w hl hr hc h1 h3

theorem with0_any (e : En) (w : World) :
    Calls Try.prog 34 #[.pointer none, enV e] w fun x w' => ∃ p, x = .returned (.pointer p) ∧ TreeAt w' p (.node .nil e .nil) ∧ Touch [] w w' := by
  have J1 := hid fun w' => joined_any (pl := none) (pr := none) (l := .nil) (r := .nil) e w' rfl rfl (by decide)
  go_enter Try.func34, Try.ntmps34
  go_upto_region 1 with fail
  obtain ⟨w1, hw1⟩ : ∃ w1, w1 = w.alloc (.cells #[.int .i64 e.1, .int .i64 e.2.1, .int .i64 e.2.2] 55) := ⟨_, rfl⟩
  have T1 : Hid (Touch [] w w1) := hid (by rw [hw1]; exact (Touch.refl [] w).alloc _)
  have B1 : EnB w1 w.heap.size e := by rw [hw1]; exact heap_alloc_new w _
  rw [← hw1]
  clear hw1
  obtain ⟨p1, p2, p3⟩ := B1.c
  go_wp2_with (go_at_call 67; refine (J1.out _).mono ?_; clear J1; rintro e w4 ⟨p3, rfl, h3, t4⟩; have T5 : Touch [] w1 w4 := t4; have H4 := hid h3; clear t4 h3)
  go_ret
  exact ⟨_, rfl, H4.out, T1.out.trans T5 (by simp)⟩
theorem en_ne {x e : En} (h : x ≠ e) (W : World) : (if x.1 = e.1 then
  if x.2.1 = e.2.1 then
    if x.2.2 = e.2.2 then Result.ok (Next.value (Value.bool true)) W
    else Result.ok (Next.value (Value.bool false)) W
  else Result.ok (Next.value (Value.bool false)) W
else Result.ok (Next.value (Value.bool false)) W) = Result.ok (Next.value (Value.bool false)) W := by
  obtain ⟨x1, x2, x3⟩ := x
  obtain ⟨e1, e2, e3⟩ := e
  simp only [ne_eq, Prod.mk.injEq] at h
  dsimp only
  repeat' split
  all_goals first
    | rfl
    | (exfalso; apply h; refine ⟨?_, ?_, ?_⟩ <;> assumption)
set_option maxHeartbeats 4000000 in
theorem with_any (e : En) (t : Tr) : ∀ (p : Option Addr) (w : World), TreeAt w p t → SortedE t.io → t.ct ≤ 800000 →
    Calls Try.prog 34 #[.pointer p, enV e] w fun x w' => ∃ p, x = .returned (.pointer p) ∧ TreeAt w' p (wi t e) ∧ Touch [] w w' := by
  induction t with
  | nil =>
    intro p w h _ _
    obtain rfl : p = none := h
    exact with0_any e w
  | node l x r ihl ihr =>
    intro p w h hs hc
    have hself := h
    obtain ⟨b, pl, pr, rfl, N, hl, hr⟩ := h
    have hs1 := List.pairwise_append.1 hs
    have hs2 := (List.pairwise_cons.1 hs1.2.1).2
    simp only [Tr.ct] at hc
    have cl := wi_ct l e hs1.1
    have cr := wi_ct r e hs2
    have IL := hid fun w' (t : Touch [] w w') => ihl pl w' (hl.t0 t) hs1.1 (by omega)
    have IR := hid fun w' (t : Touch [] w w') => ihr pr w' (hr.t0 t) hs2 (by omega)
    have BL := hid fun w' p' (t : Touch [] w w') (k : TreeAt w' p' (wi l e)) => balanced_any x w' k (hr.t0 t) (by omega)
    have BR := hid fun w' p' (t : Touch [] w w') (k : TreeAt w' p' (wi r e)) => balanced_any x w' (hl.t0 t) k (by omega)
    have LS := hid fun w' => less_any e x w'
    clear ihl ihr
    by_cases hxe : x = e
    · subst hxe
      have hwi : wi (.node l x r) x = .node l x r := by unfold wi; rw [if_pos rfl]
      rw [hwi]
      clear IL IR BL BR LS hs hs1 hs2 cl cr hc hl hr
      go_enter Try.func34, Try.ntmps34
      go_upto_region 1 with fail
      obtain ⟨x1, hx1⟩ : ∃ x, x = w.heap.size := ⟨_, rfl⟩
      obtain ⟨w1, hw1⟩ : ∃ w1, w1 = w.alloc (.cells #[.int .i64 x.1, .int .i64 x.2.1, .int .i64 x.2.2] 55) := ⟨_, rfl⟩
      have T1 : Hid (Touch [] w w1) := hid (by rw [hw1]; exact (Touch.refl [] w).alloc _)
      have B1 : EnB w1 x1 x := by rw [hw1, hx1]; exact heap_alloc_new w _
      rw [← hw1, ← hx1]
      clear hw1 hx1
      have N1 := N.t T1.out
      obtain ⟨n0, n1, n2, n3, n4⟩ := N1.c
      obtain ⟨p1, p2, p3⟩ := B1.c
      have HS := hid (hself.t0 T1.out.drew)
      clear N N1 B1 hself
      go_upto_region 3 with fail
      have l0 : w1.drew.cell? ⟨b, 0, none⟩ = some (.int .i64 x.1) := n0
      have l1 : w1.drew.cell? ⟨b, 1, none⟩ = some (.int .i64 x.2.1) := n1
      have l2 : w1.drew.cell? ⟨b, 2, none⟩ = some (.int .i64 x.2.2) := n2
      have m0 : w1.drew.cell? ⟨x1, 0, none⟩ = some (.int .i64 x.1) := p1
      have m1 : w1.drew.cell? ⟨x1, 1, none⟩ = some (.int .i64 x.2.1) := p2
      have m2 : w1.drew.cell? ⟨x1, 2, none⟩ = some (.int .i64 x.2.2) := p3
      go_region
      all_goals go_wp2_with fail
      go_ret
      exact ⟨_, rfl, HS.out, T1.out.drew⟩
    · have EQ := en_ne hxe
      have hwi : wi (.node l x r) e = if ltE e x then bal (wi l e) x r else bal l x (wi r e) := by conv => lhs; unfold wi; rw [if_neg hxe]
      by_cases hlt : ltE e x
      · skip
        rw [hwi, if_pos hlt]
        have hlt' : decide (ltE e x) = true := by simpa using hlt
        clear hlt IR BR
        clear hs hs1 hs2 cl cr hc hl hr hxe hself
        go_enter Try.func34, Try.ntmps34
        go_upto_region 1 with fail
        obtain ⟨x1, hx1⟩ : ∃ x, x = w.heap.size := ⟨_, rfl⟩
        obtain ⟨w1, hw1⟩ : ∃ w1, w1 = w.alloc (.cells #[.int .i64 e.1, .int .i64 e.2.1, .int .i64 e.2.2] 55) := ⟨_, rfl⟩
        have T1 : Hid (Touch [] w w1) := hid (by rw [hw1]; exact (Touch.refl [] w).alloc _)
        have B1 : EnB w1 x1 e := by rw [hw1, hx1]; exact heap_alloc_new w _
        rw [← hw1, ← hx1]
        clear hw1 hx1
        have N1 := N.t T1.out
        obtain ⟨n0, n1, n2, n3, n4⟩ := N1.c
        obtain ⟨p1, p2, p3⟩ := B1.c
        have S1 : Hid (∀ w', Touch [] w1 w' → w'.cell? ⟨b, 0, none⟩ = some (.int .i64 x.1) ∧ w'.cell? ⟨b, 1, none⟩ = some (.int .i64 x.2.1) ∧ w'.cell? ⟨b, 2, none⟩ = some (.int .i64 x.2.2) ∧ w'.cell? ⟨b, 3, none⟩ = some (.pointer pl) ∧ w'.cell? ⟨b, 4, none⟩ = some (.pointer pr)) := hid fun w' t => (N1.t t).c
        have S3 : Hid (∀ w', Touch [] w1 w' → w'.cell? ⟨x1, 0, none⟩ = some (.int .i64 e.1) ∧ w'.cell? ⟨x1, 1, none⟩ = some (.int .i64 e.2.1) ∧ w'.cell? ⟨x1, 2, none⟩ = some (.int .i64 e.2.2)) := hid fun w' t => (B1.t t).c
        clear N N1 B1
        go_upto_region 3 with fail
        have l0 : w1.drew.cell? ⟨b, 0, none⟩ = some (.int .i64 x.1) := n0
        have l1 : w1.drew.cell? ⟨b, 1, none⟩ = some (.int .i64 x.2.1) := n1
        have l2 : w1.drew.cell? ⟨b, 2, none⟩ = some (.int .i64 x.2.2) := n2
        have m0 : w1.drew.cell? ⟨x1, 0, none⟩ = some (.int .i64 e.1) := p1
        have m1 : w1.drew.cell? ⟨x1, 1, none⟩ = some (.int .i64 e.2.1) := p2
        have m2 : w1.drew.cell? ⟨x1, 2, none⟩ = some (.int .i64 e.2.2) := p3
        go_region
        all_goals clear n0 n1 n2 n3 n4 p1 p2 p3 l0 l1 l2 m0 m1 m2 EQ
        all_goals go_upto_region 5 with fail
        have T2 : Touch [] w1 w1.drew.drew := (Touch.refl [] w1).drew.drew
        have Z : (fun w' => (w'.cell? ⟨b, 0, none⟩ = some (.int .i64 x.1) ∧ w'.cell? ⟨b, 1, none⟩ = some (.int .i64 x.2.1) ∧ w'.cell? ⟨b, 2, none⟩ = some (.int .i64 x.2.2) ∧ w'.cell? ⟨b, 3, none⟩ = some (.pointer pl) ∧ w'.cell? ⟨b, 4, none⟩ = some (.pointer pr)) ∧ (w'.cell? ⟨x1, 0, none⟩ = some (.int .i64 e.1) ∧ w'.cell? ⟨x1, 1, none⟩ = some (.int .i64 e.2.1) ∧ w'.cell? ⟨x1, 2, none⟩ = some (.int .i64 e.2.2))) w1.drew.drew := ⟨S1.out _ T2, S3.out _ T2⟩
        go_region_held3 (fun w' => (w'.cell? ⟨b, 0, none⟩ = some (.int .i64 x.1) ∧ w'.cell? ⟨b, 1, none⟩ = some (.int .i64 x.2.1) ∧ w'.cell? ⟨b, 2, none⟩ = some (.int .i64 x.2.2) ∧ w'.cell? ⟨b, 3, none⟩ = some (.pointer pl) ∧ w'.cell? ⟨b, 4, none⟩ = some (.pointer pr)) ∧ (w'.cell? ⟨x1, 0, none⟩ = some (.int .i64 e.1) ∧ w'.cell? ⟨x1, 1, none⟩ = some (.int .i64 e.2.1) ∧ w'.cell? ⟨x1, 2, none⟩ = some (.int .i64 e.2.2))) (first | go_keep | exact ⟨S1.out _ (by assumption), S3.out _ (by assumption)⟩) ((first
          | (go_at_call 30; refine (LS.out _).mono ?_; clear LS; rintro e w2 ⟨rfl, t2⟩; have T3 : Touch [] w1 w2 := T2.trans t2 (by simp); clear t2)))
        clear Z T2
        go_upto_region 6 with fail
        have T2 : Touch [] w1 w2.drew := T3.drew
        have Z : (fun w' => (w'.cell? ⟨b, 0, none⟩ = some (.int .i64 x.1) ∧ w'.cell? ⟨b, 1, none⟩ = some (.int .i64 x.2.1) ∧ w'.cell? ⟨b, 2, none⟩ = some (.int .i64 x.2.2) ∧ w'.cell? ⟨b, 3, none⟩ = some (.pointer pl) ∧ w'.cell? ⟨b, 4, none⟩ = some (.pointer pr)) ∧ (w'.cell? ⟨x1, 0, none⟩ = some (.int .i64 e.1) ∧ w'.cell? ⟨x1, 1, none⟩ = some (.int .i64 e.2.1) ∧ w'.cell? ⟨x1, 2, none⟩ = some (.int .i64 e.2.2))) w2.drew := ⟨S1.out _ T2, S3.out _ T2⟩
        go_region_held3 (fun w' => (w'.cell? ⟨b, 0, none⟩ = some (.int .i64 x.1) ∧ w'.cell? ⟨b, 1, none⟩ = some (.int .i64 x.2.1) ∧ w'.cell? ⟨b, 2, none⟩ = some (.int .i64 x.2.2) ∧ w'.cell? ⟨b, 3, none⟩ = some (.pointer pl) ∧ w'.cell? ⟨b, 4, none⟩ = some (.pointer pr)) ∧ (w'.cell? ⟨x1, 0, none⟩ = some (.int .i64 e.1) ∧ w'.cell? ⟨x1, 1, none⟩ = some (.int .i64 e.2.1) ∧ w'.cell? ⟨x1, 2, none⟩ = some (.int .i64 e.2.2))) (first | go_keep | exact ⟨S1.out _ (by assumption), S3.out _ (by assumption)⟩) ((first
          | (go_at_call 34; refine (IL.out _ (T1.out.trans T2 (by simp))).mono ?_; clear IL; rintro e w3 ⟨p4, rfl, h3, t4⟩; have T4 : Touch [] w1 w3 := T2.trans t4 (by simp); have H3 := hid h3; clear t4 h3)
          | (go_at_call 68; refine (BL.out _ _ (T1.out.trans T4 (by simp)) H3.out).mono ?_; clear BL; rintro e w5 ⟨p5, rfl, h5, t5⟩; have T5 : Touch [] w1 w5 := T4.trans t5 (by simp); have H5 := hid h5; clear t5 h5)))
        all_goals go_wp2_with fail
        all_goals go_ret
        all_goals exact ⟨_, rfl, H5.out, T1.out.trans T5 (by simp)⟩
      · skip
        rw [hwi, if_neg hlt]
        have hlt' : decide (ltE e x) = false := by simpa using hlt
        clear hlt IL BL
        clear hs hs1 hs2 cl cr hc hl hr hxe hself
        go_enter Try.func34, Try.ntmps34
        go_upto_region 1 with fail
        obtain ⟨x1, hx1⟩ : ∃ x, x = w.heap.size := ⟨_, rfl⟩
        obtain ⟨w1, hw1⟩ : ∃ w1, w1 = w.alloc (.cells #[.int .i64 e.1, .int .i64 e.2.1, .int .i64 e.2.2] 55) := ⟨_, rfl⟩
        have T1 : Hid (Touch [] w w1) := hid (by rw [hw1]; exact (Touch.refl [] w).alloc _)
        have B1 : EnB w1 x1 e := by rw [hw1, hx1]; exact heap_alloc_new w _
        rw [← hw1, ← hx1]
        clear hw1 hx1
        have N1 := N.t T1.out
        obtain ⟨n0, n1, n2, n3, n4⟩ := N1.c
        obtain ⟨p1, p2, p3⟩ := B1.c
        have S1 : Hid (∀ w', Touch [] w1 w' → w'.cell? ⟨b, 0, none⟩ = some (.int .i64 x.1) ∧ w'.cell? ⟨b, 1, none⟩ = some (.int .i64 x.2.1) ∧ w'.cell? ⟨b, 2, none⟩ = some (.int .i64 x.2.2) ∧ w'.cell? ⟨b, 3, none⟩ = some (.pointer pl) ∧ w'.cell? ⟨b, 4, none⟩ = some (.pointer pr)) := hid fun w' t => (N1.t t).c
        have S3 : Hid (∀ w', Touch [] w1 w' → w'.cell? ⟨x1, 0, none⟩ = some (.int .i64 e.1) ∧ w'.cell? ⟨x1, 1, none⟩ = some (.int .i64 e.2.1) ∧ w'.cell? ⟨x1, 2, none⟩ = some (.int .i64 e.2.2)) := hid fun w' t => (B1.t t).c
        clear N N1 B1
        go_upto_region 3 with fail
        have l0 : w1.drew.cell? ⟨b, 0, none⟩ = some (.int .i64 x.1) := n0
        have l1 : w1.drew.cell? ⟨b, 1, none⟩ = some (.int .i64 x.2.1) := n1
        have l2 : w1.drew.cell? ⟨b, 2, none⟩ = some (.int .i64 x.2.2) := n2
        have m0 : w1.drew.cell? ⟨x1, 0, none⟩ = some (.int .i64 e.1) := p1
        have m1 : w1.drew.cell? ⟨x1, 1, none⟩ = some (.int .i64 e.2.1) := p2
        have m2 : w1.drew.cell? ⟨x1, 2, none⟩ = some (.int .i64 e.2.2) := p3
        go_region
        all_goals clear n0 n1 n2 n3 n4 p1 p2 p3 l0 l1 l2 m0 m1 m2 EQ
        all_goals go_upto_region 5 with fail
        have T2 : Touch [] w1 w1.drew.drew := (Touch.refl [] w1).drew.drew
        have Z : (fun w' => (w'.cell? ⟨b, 0, none⟩ = some (.int .i64 x.1) ∧ w'.cell? ⟨b, 1, none⟩ = some (.int .i64 x.2.1) ∧ w'.cell? ⟨b, 2, none⟩ = some (.int .i64 x.2.2) ∧ w'.cell? ⟨b, 3, none⟩ = some (.pointer pl) ∧ w'.cell? ⟨b, 4, none⟩ = some (.pointer pr)) ∧ (w'.cell? ⟨x1, 0, none⟩ = some (.int .i64 e.1) ∧ w'.cell? ⟨x1, 1, none⟩ = some (.int .i64 e.2.1) ∧ w'.cell? ⟨x1, 2, none⟩ = some (.int .i64 e.2.2))) w1.drew.drew := ⟨S1.out _ T2, S3.out _ T2⟩
        go_region_held3 (fun w' => (w'.cell? ⟨b, 0, none⟩ = some (.int .i64 x.1) ∧ w'.cell? ⟨b, 1, none⟩ = some (.int .i64 x.2.1) ∧ w'.cell? ⟨b, 2, none⟩ = some (.int .i64 x.2.2) ∧ w'.cell? ⟨b, 3, none⟩ = some (.pointer pl) ∧ w'.cell? ⟨b, 4, none⟩ = some (.pointer pr)) ∧ (w'.cell? ⟨x1, 0, none⟩ = some (.int .i64 e.1) ∧ w'.cell? ⟨x1, 1, none⟩ = some (.int .i64 e.2.1) ∧ w'.cell? ⟨x1, 2, none⟩ = some (.int .i64 e.2.2))) (first | go_keep | exact ⟨S1.out _ (by assumption), S3.out _ (by assumption)⟩) ((first
          | (go_at_call 30; refine (LS.out _).mono ?_; clear LS; rintro e w2 ⟨rfl, t2⟩; have T3 : Touch [] w1 w2 := T2.trans t2 (by simp); clear t2)))
        clear Z T2
        go_upto_region 7 with fail
        have T2 : Touch [] w1 w2.drew := T3.drew
        have Z : (fun w' => (w'.cell? ⟨b, 0, none⟩ = some (.int .i64 x.1) ∧ w'.cell? ⟨b, 1, none⟩ = some (.int .i64 x.2.1) ∧ w'.cell? ⟨b, 2, none⟩ = some (.int .i64 x.2.2) ∧ w'.cell? ⟨b, 3, none⟩ = some (.pointer pl) ∧ w'.cell? ⟨b, 4, none⟩ = some (.pointer pr)) ∧ (w'.cell? ⟨x1, 0, none⟩ = some (.int .i64 e.1) ∧ w'.cell? ⟨x1, 1, none⟩ = some (.int .i64 e.2.1) ∧ w'.cell? ⟨x1, 2, none⟩ = some (.int .i64 e.2.2))) w2.drew := ⟨S1.out _ T2, S3.out _ T2⟩
        go_region_held3 (fun w' => (w'.cell? ⟨b, 0, none⟩ = some (.int .i64 x.1) ∧ w'.cell? ⟨b, 1, none⟩ = some (.int .i64 x.2.1) ∧ w'.cell? ⟨b, 2, none⟩ = some (.int .i64 x.2.2) ∧ w'.cell? ⟨b, 3, none⟩ = some (.pointer pl) ∧ w'.cell? ⟨b, 4, none⟩ = some (.pointer pr)) ∧ (w'.cell? ⟨x1, 0, none⟩ = some (.int .i64 e.1) ∧ w'.cell? ⟨x1, 1, none⟩ = some (.int .i64 e.2.1) ∧ w'.cell? ⟨x1, 2, none⟩ = some (.int .i64 e.2.2))) (first | go_keep | exact ⟨S1.out _ (by assumption), S3.out _ (by assumption)⟩) ((first
          | (go_at_call 34; refine (IR.out _ (T1.out.trans T2 (by simp))).mono ?_; clear IR; rintro e w3 ⟨p4, rfl, h3, t4⟩; have T4 : Touch [] w1 w3 := T2.trans t4 (by simp); have H3 := hid h3; clear t4 h3)
          | (go_at_call 68; refine (BR.out _ _ (T1.out.trans T4 (by simp)) H3.out).mono ?_; clear BR; rintro e w5 ⟨p5, rfl, h5, t5⟩; have T5 : Touch [] w1 w5 := T4.trans t5 (by simp); have H5 := hid h5; clear t5 h5)))
        all_goals go_wp2_with fail
        all_goals go_ret
        all_goals exact ⟨_, rfl, H5.out, T1.out.trans T5 (by simp)⟩
end Go.Proofs.Ytkighblgeeljgaa
