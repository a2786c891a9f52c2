/- A tree's nodes in memory. -/
import Derived.Test.YtnkflmimnpolcaaMm12
namespace Go.Proofs.Ytnkflmimnpolcaa
open Go.RowKit Go.Lib
set_option maxRecDepth 100000

theorem len0_any (w : World) : Calls Try.prog 46 #[.pointer none] w fun e w' => e = .returned (.int .i64 0) ∧ w' = w := by
  go_enter Try.func46, Try.ntmps46
  go_wp2
  go_ret
  exact ⟨rfl, rfl⟩
theorem height0_any (w : World) : Calls Try.prog 65 #[.pointer none] w fun e w' => e = .returned (.int .i64 0) ∧ w' = w := by
  go_enter Try.func65, Try.ntmps65
  go_wp2
  go_ret
  exact ⟨rfl, rfl⟩
/-- A node's block. -/
def NodeB (w : World) (b : Nat) (e : En) (pl pr : Option Addr) (h c : Nat) : Prop :=
  w.heap[b]? = some (.cells #[.int .i64 e.1, .int .i64 e.2.1, .int .i64 e.2.2, .pointer pl, .pointer pr, .int .i64 h, .int .i64 c] 67)
theorem len_any {b : Nat} {e : En} {pl pr : Option Addr} {h c : Nat} (w : World) (H : NodeB w b e pl pr h c) : Calls Try.prog 46 #[.pointer (some ⟨b, 0, none⟩)] w fun e w' => e = .returned (.int .i64 c) ∧ w' = w := by
  have c6 := cell_of H 6
  clear H
  go_enter Try.func46, Try.ntmps46
  go_wp2
  go_ret
  exact ⟨rfl, rfl⟩
theorem height_any {b : Nat} {e : En} {pl pr : Option Addr} {h c : Nat} (w : World) (H : NodeB w b e pl pr h c) : Calls Try.prog 65 #[.pointer (some ⟨b, 0, none⟩)] w fun e w' => e = .returned (.int .i64 h) ∧ w' = w := by
  have c5 := cell_of H 5
  clear H
  go_enter Try.func65, Try.ntmps65
  go_wp2
  go_ret
  exact ⟨rfl, rfl⟩

/-- How a tree lies in memory. -/
def TreeAt (w : World) : Option Addr → Tr → Prop
  | p, .nil => p = none
  | p, .node l e r => ∃ (b : Nat) (pl pr : Option Addr), p = some ⟨b, 0, none⟩ ∧ NodeB w b e pl pr (Tr.node l e r).ht (Tr.node l e r).ct ∧ TreeAt w pl l ∧ TreeAt w pr r
theorem TreeAt.touch {F : List Nat} {w w' : World} (t : Touch F w w') : ∀ {p : Option Addr} {T : Tr}, (∀ b ∈ F, ¬ ∃ cs, w.heap[b]? = some (.cells cs 67)) → TreeAt w p T → TreeAt w' p T
  | _, .nil, _, h => h
  | _, .node _ _ _, hF, ⟨b, pl, pr, hp, hb, hl, hr⟩ => ⟨b, pl, pr, hp, touch_other t hb (fun hi => hF b hi ⟨_, hb⟩), hl.touch t hF, hr.touch t hF⟩
theorem TreeAt.t0 {w w' : World} {p : Option Addr} {T : Tr} (h : TreeAt w p T) (t : Touch [] w w') : TreeAt w' p T := h.touch t (by simp)
theorem tlen_any {p : Option Addr} {T : Tr} (w : World) (h : TreeAt w p T) : Calls Try.prog 46 #[.pointer p] w fun e w' => e = .returned (.int .i64 T.ct) ∧ w' = w := by
  cases T with
  | nil => obtain rfl : p = none := h; exact len0_any w
  | node l x r => obtain ⟨b, pl, pr, rfl, hb, _, _⟩ := h; exact len_any w hb
theorem theight_any {p : Option Addr} {T : Tr} (w : World) (h : TreeAt w p T) : Calls Try.prog 65 #[.pointer p] w fun e w' => e = .returned (.int .i64 T.ht) ∧ w' = w := by
  cases T with
  | nil => obtain rfl : p = none := h; exact height0_any w
  | node l x r => obtain ⟨b, pl, pr, rfl, hb, _, _⟩ := h; exact height_any w hb
theorem node_new {pl pr : Option Addr} {l r : Tr} (e : En) (w w1 : World) (T : Touch [] w w1) (hl : TreeAt w pl l) (hr : TreeAt w pr r) (hc : l.ct + r.ct ≤ 1000000) (m : Nat) (hm : max l.ht r.ht = m) :
    ∃ p, Ending.returned (.pointer (some ⟨w1.heap.size, 0, none⟩)) = Ending.returned (.pointer p) ∧ TreeAt (w1.alloc (.cells #[.int .i64 e.1, .int .i64 e.2.1, .int .i64 e.2.2, .pointer pl, .pointer pr, .int .i64 (IntKind.i64.wrap ((m : Int) + 1)), .int .i64 (IntKind.i64.wrap (IntKind.i64.wrap ((l.ct : Int) + (r.ct : Int)) + 1))] 67)).drew p (.node l e r) ∧ Touch [] w (w1.alloc (.cells #[.int .i64 e.1, .int .i64 e.2.1, .int .i64 e.2.2, .pointer pl, .pointer pr, .int .i64 (IntKind.i64.wrap ((m : Int) + 1)), .int .i64 (IntKind.i64.wrap (IntKind.i64.wrap ((l.ct : Int) + (r.ct : Int)) + 1))] 67)).drew := by
  have h1 := l.ht_ct
  have h2 := r.ht_ct
  have k1 : IntKind.i64.wrap ((l.ct : Int) + (r.ct : Int)) = (l.ct : Int) + (r.ct : Int) := IntWalk.i64_in _ (by omega)
  have k2 : IntKind.i64.wrap ((l.ct : Int) + (r.ct : Int) + 1) = ((l.ct + r.ct + 1 : Nat) : Int) := IntWalk.i64_in _ (by omega)
  have k3 : IntKind.i64.wrap ((m : Int) + 1) = ((m + 1 : Nat) : Int) := IntWalk.i64_in _ (by omega)
  rw [k1, k2, k3]
  have T2 : Touch [] w (w1.alloc (.cells #[.int .i64 e.1, .int .i64 e.2.1, .int .i64 e.2.2, .pointer pl, .pointer pr, .int .i64 ((m + 1 : Nat) : Int), .int .i64 ((l.ct + r.ct + 1 : Nat) : Int)] 67)).drew := (T.alloc _).drew
  refine ⟨_, rfl, ⟨_, pl, pr, rfl, ?_, hl.t0 T2, hr.t0 T2⟩, T2⟩
  unfold NodeB
  simp only [Tr.ht, Tr.ct, hm]
  exact heap_alloc_new w1 _
set_option maxHeartbeats 1000000 in
theorem joined_any {pl pr : Option Addr} {l r : Tr} (e : En) (w : World) (hl : TreeAt w pl l) (hr : TreeAt w pr r) (hc : l.ct + r.ct ≤ 1000000) :
    Calls Try.prog 49 #[.pointer pl, enV e, .pointer pr] w fun x w' => ∃ p, x = .returned (.pointer p) ∧ TreeAt w' p (.node l e r) ∧ Touch [] w w' := by
  have h1 := l.ht_ct
  have h2 := r.ht_ct
  have k1 : wrap64 ((l.ct : Int) + (r.ct : Int)) = (l.ct : Int) + (r.ct : Int) := by unfold wrap64; omega
  have k2 : wrap64 ((l.ct : Int) + (r.ct : Int) + 1) = (l.ct : Int) + (r.ct : Int) + 1 := by unfold wrap64; omega
  by_cases hm : l.ht < r.ht
  case' pos => have hm' : max (l.ht : Int) (r.ht : Int) = r.ht := by omega
  case' neg => have hm' : max (l.ht : Int) (r.ht : Int) = l.ht := by omega
  all_goals
    go_enter Try.func49, Try.ntmps49
    go_wp2_with fail
    obtain ⟨x1, hx1⟩ : ∃ x, x = w.heap.size := ⟨_, rfl⟩
    obtain ⟨w1, hw1⟩ : ∃ w1, w1 = w.alloc (.cells #[.int .i64 e.1, .int .i64 e.2.1, .int .i64 e.2.2] 32) := ⟨_, rfl⟩
    have B1 : EnB w1 x1 e := by rw [hw1, hx1]; exact heap_alloc_new w _
    obtain ⟨⟨p1, p2, p3⟩, A0, A1, A2⟩ := B1.all
    have T1 : Hid (Touch [] w w1) := hid (by rw [hw1]; exact (Touch.refl [] w).alloc _)
    have a1 := hid (theight_any w1.drew (hl.t0 T1.out.drew))
    have a2 := hid (theight_any w1.drew (hr.t0 T1.out.drew))
    have a3 := hid (tlen_any w1.drew (hl.t0 T1.out.drew))
    have a4 := hid (tlen_any w1.drew (hr.t0 T1.out.drew))
    rw [← hw1, ← hx1]
    clear hw1 hx1
    go_region_held3 (fun w' => w'.cell? ⟨x1, 0, none⟩ = some (.int .i64 e.1) ∧ w'.cell? ⟨x1, 1, none⟩ = some (.int .i64 e.2.1) ∧ w'.cell? ⟨x1, 2, none⟩ = some (.int .i64 e.2.2)) (first | go_keep | exact ⟨p1, p2, p3⟩ | exact ⟨A0 _, A1 _, A2 _⟩ | assumption) ((first
      | (go_at_call 65; refine a1.out.mono ?_; clear a1; rintro e w' ⟨rfl, rfl⟩)
      | (go_at_call 65; refine a2.out.mono ?_; clear a2; rintro e w' ⟨rfl, rfl⟩)
      | (go_at_call 46; refine a3.out.mono ?_; clear a3; rintro e w' ⟨rfl, rfl⟩)
      | (go_at_call 46; refine a4.out.mono ?_; clear a4; rintro e w' ⟨rfl, rfl⟩)))
    all_goals go_wp2_with fail
    all_goals go_ret
    all_goals exact node_new _ w w1 T1.out hl hr hc _ (by omega)
end Go.Proofs.Ytnkflmimnpolcaa
