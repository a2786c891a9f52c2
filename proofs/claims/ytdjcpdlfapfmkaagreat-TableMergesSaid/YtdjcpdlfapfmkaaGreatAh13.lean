/- How many entries of a table stand ahead of one. -/
import Derived.Test.YtdjcpdlfapfmkaaGreatPt13
namespace Go.Proofs.YtdjcpdlfapfmkaaGreat
open Go.RowKit Go.Lib
set_option maxRecDepth 100000

theorem ahead2_any (bl be : Nat) (x : Option Addr) (c : Nat) (l : List En) (e : En) (k : Nat) (W : World) (hbl : W.cell? ⟨bl, 0, none⟩ = some (.slice x l.length c)) (hx : EntX W x l) (hE : EnB W be e) (hk : k < l.length) (hl : l.length ≤ 1000000) :
    Calls Tryz.prog 97 (#[.int .i64 k] ++ #[.pointer (some ⟨bl, 0, none⟩), .pointer (some ⟨be, 0, none⟩)]) W fun r w' => r = .returned (.bool (!decide (ltE l[k] e))) ∧ Touch [] W w' := by
  obtain ⟨b, off, rfl, c0, c1, c2⟩ := hx k hk
  obtain ⟨d0, d1, d2⟩ := hE.c
  have LE := fun w => less_any l[k] e w
  generalize l[k] = s at *
  have hkI : (k : Int) < l.length := by omega
  clear hx hE
  obtain ⟨ι, f, ⟨θ0, hθ0⟩, inst, FT, FE⟩ := held_class W
  have F0 : ∀ θ, (f θ).cell? ⟨bl, 0, none⟩ = some (.slice (some ⟨b, off, none⟩) l.length c) := fun θ => (FT.out θ).cell hbl
  have F1 : ∀ θ, (f θ).cell? ⟨b, off + k * 3, none⟩ = some (.int .i64 s.1) := fun θ => (FT.out θ).cell c0
  have F2 : ∀ θ, (f θ).cell? ⟨b, off + k * 3 + 1, none⟩ = some (.int .i64 s.2.1) := fun θ => (FT.out θ).cell c1
  have F3 : ∀ θ, (f θ).cell? ⟨b, off + k * 3 + 2, none⟩ = some (.int .i64 s.2.2) := fun θ => (FT.out θ).cell c2
  have G1 : ∀ θ, (f θ).cell? ⟨be, 0, none⟩ = some (.int .i64 e.1) := fun θ => (FT.out θ).cell d0
  have G2 : ∀ θ, (f θ).cell? ⟨be, 1, none⟩ = some (.int .i64 e.2.1) := fun θ => (FT.out θ).cell d1
  have G3 : ∀ θ, (f θ).cell? ⟨be, 2, none⟩ = some (.int .i64 e.2.2) := fun θ => (FT.out θ).cell d2
  have LL : Hid (∀ θ, Calls Tryz.prog 80 #[enV s, enV e] (f θ) fun r w'' => r = .returned (.bool (decide (ltE s e))) ∧ ∃ θ', w'' = f θ') := hid fun θ => (LE (f θ)).mono fun r w'' ⟨h1, h2⟩ => ⟨h1, FE.out _ ((FT.out θ).trans h2 (by simp))⟩
  clear LE c0 c1 c2 d0 d1 d2 hbl
  go_enter Tryz.func97, Tryz.ntmps97
  go_wp2_with fail
  refine wp_region_held f θ0 (by kernel_rfl) (by kernel_rfl) hθ0 ?_
  repeat go_big_quiet_step (exact LL.out _)
  refine wpQuiet_nil ?_
  rintro _ ⟨θ, rfl⟩
  have k3 := hid (FT.out θ)
  generalize f θ = w6 at *
  go_wp2
  go_ret
  exact ⟨rfl, k3.out⟩

theorem entX_part {w : World} {x : Option Addr} {l : List En} (h : EntX w x l) (f n : Nat) (hn : f + n ≤ l.length) (y : Option Addr) (hy : y = x.map (·.add (f * 3)) ∨ n = 0) : EntX w y ((l.drop f).take n) := fun i hi => by
  have hi2 : i < n := by rw [List.length_take] at hi; omega
  obtain ⟨b, off, rfl, c0, c1, c2⟩ := h (f + i) (by omega)
  have e : ((l.drop f).take n)[i]'hi = l[f + i]'(by omega) := by simp
  rw [e]
  rcases hy with rfl | hy
  · refine ⟨b, off + f * 3, ?_, ?_, ?_, ?_⟩
    · simp [Addr.add]
    · rw [show off + f * 3 + i * 3 = off + (f + i) * 3 by omega]; exact c0
    · rw [show off + f * 3 + i * 3 + 1 = off + (f + i) * 3 + 1 by omega]; exact c1
    · rw [show off + f * 3 + i * 3 + 2 = off + (f + i) * 3 + 2 by omega]; exact c2
  · omega

set_option maxHeartbeats 2000000 in
theorem ahead_any {p : Option Addr} {l : List En} (e : En) {w : World} (ht : TblAt w p l) (hs : SortedE l) (hlen : l.length ≤ 1000000) :
    Calls Tryz.prog 52 #[.pointer p, enV e] w fun r w' => r = .returned (.int .i64 (cntE l e : Nat)) ∧ Touch [] w w' := by
  have LI := hid fun w' (t : Touch [] w w') => list_any (ht.t0 t)
  have hc := cnt_le l e
  have HI := hid (cnt_iff hs e)
  generalize cntE l e = k at *
  obtain ⟨q, hq1, hq2⟩ : ∃ q, k ≤ 8 * q ∧ 8 * q < k + 8 := ⟨(k + 7) / 8, by omega, by omega⟩
  have eg1 : ∀ args w, (callFunc 96 args).run Tryz.prog w = .ok (.enter 96 args) w := enters_of Tryz.func96 (by kernel_rfl) rfl
  have eg2 : ∀ args w, (callFunc 97 args).run Tryz.prog w = .ok (.enter 97 args) w := enters_of Tryz.func97 (by kernel_rfl) rfl
  have EG1 := hid eg1
  have EG2 := hid eg2
  clear ht hs eg1 eg2
  go_enter Tryz.func52, Tryz.ntmps52
  go_wp2_with fail
  refine (LI.out _ ((Touch.refl [] w).alloc _)).mono ?_
  rintro r w' ⟨x, c, rfl, ⟨hcc, -⟩, hx, rfl⟩
  have T1 := hid (((Touch.refl [] w).alloc (.cells #[.int .i64 e.1, .int .i64 e.2.1, .int .i64 e.2.2] TEn)).alloc (.cells #[.slice x l.length c] TEns))
  have E0 : EnB (w.alloc (.cells #[.int .i64 e.1, .int .i64 e.2.1, .int .i64 e.2.2] TEn)) w.heap.size e := heap_alloc_new w _
  have E1 := hid (show EnB ((w.alloc (.cells #[.int .i64 e.1, .int .i64 e.2.1, .int .i64 e.2.2] TEn)).alloc (.cells #[.slice x l.length c] TEns)) w.heap.size e from heap_alloc_keep E0 _)
  have B1 := hid (show ((w.alloc (.cells #[.int .i64 e.1, .int .i64 e.2.1, .int .i64 e.2.2] TEn)).alloc (.cells #[.slice x l.length c] TEns)).heap[w.heap.size + 1]? = some (.cells #[.slice x l.length c] TEns) from new_at (w.alloc (.cells #[.int .i64 e.1, .int .i64 e.2.1, .int .i64 e.2.2] TEn)) _ _ (by simp))
  have X1 := hid (hx.t0 ((Touch.refl [] _).alloc (.cells #[.slice x l.length c] TEns)))
  obtain ⟨bl, hbl⟩ : ∃ bl, bl = w.heap.size + 1 := ⟨_, rfl⟩
  obtain ⟨be, hbe⟩ : ∃ be, be = w.heap.size := ⟨_, rfl⟩
  obtain ⟨w2, hw2⟩ : ∃ w2, w2 = (w.alloc (.cells #[.int .i64 e.1, .int .i64 e.2.1, .int .i64 e.2.2] TEn)).alloc (.cells #[.slice x l.length c] TEns) := ⟨_, rfl⟩
  rw [← hbl] at B1
  rw [← hbe] at E1
  rw [← hw2] at T1 E1 B1 X1
  clear hx E0 LI
  go_wp2_with fail
  rw [← hw2, ← hbl, ← hbe]
  clear hw2 hbl hbe
  rw [show ((l.length : Int) + 8 - 1) / 8 = (((l.length + 7) / 8 : Nat) : Int) by omega]
  have S1 := hid (search_any 96 #[.pointer (some ⟨bl, 0, none⟩), .pointer (some ⟨be, 0, none⟩)] ((l.length + 7) / 8) (q) (by omega) w2 EG1.out (by omega)
    (fun w' i hi t => by
      have h := ahead1_any bl be x c l e i w' (t.cell (cell_of B1.out 0)) (X1.out.t0 t) (touch_other t E1.out (by simp)) (by omega) hlen
      have hd : decide (ltE (l[8 * i]'(by omega)) e) = decide (i < q) := by rw [decide_eq_decide, HI.out]; omega
      rw [hd] at h
      exact h))
  refine S1.out.mono ?_
  clear S1
  rintro r w3 ⟨rfl, t3⟩
  have T3 := hid t3
  clear t3
  by_cases h0 : k = 0
  · subst h0
    obtain rfl : q = 0 := by omega
    go_wp2
    go_ret
    exact ⟨rfl, T1.out.trans T3.out (by simp)⟩
  · have hq0 : 0 < q := by omega
    have h1 : decide (q = 0) = false := by rw [decide_eq_false_iff_not]; omega
    have c3 := T3.out.cell (cell_of B1.out 0)
    have S2 : Hid (∀ (y : Option Addr) (n c' : Nat) (hn : (q - 1) * 8 + 1 + n ≤ l.length) (hk : k ≤ (q - 1) * 8 + 1 + n) (hy : y = x.map (·.add (((q - 1) * 8 + 1) * 3)) ∨ n = 0),
        Calls Tryz.prog 95 #[.int .i64 n, .func (.func 97) #[] #[.pointer (some ⟨w3.heap.size, 0, none⟩), .pointer (some ⟨be, 0, none⟩)]] (w3.alloc (.cells #[.slice y n c'] TEns)) fun r w' => r = .returned (.int .i64 ((k - ((q - 1) * 8 + 1) : Nat) : Int)) ∧ Touch [] w w') := hid fun y n c' hn hk hy =>
      (search_any 97 #[.pointer (some ⟨w3.heap.size, 0, none⟩), .pointer (some ⟨be, 0, none⟩)] n (k - ((q - 1) * 8 + 1)) (by omega) (w3.alloc (.cells #[.slice y n c'] TEns)) EG2.out (by omega)
        (fun w' i hi t => by
          have hl : ((l.drop ((q - 1) * 8 + 1)).take n).length = n := by rw [List.length_take, List.length_drop]; omega
          have T4 : Touch [] w2 w' := (T3.out.alloc _).trans t (by simp)
          have hb := t.cell (cell_of (heap_alloc_new w3 (.cells #[.slice y n c'] TEns)) 0)
          have h := ahead2_any w3.heap.size be y c' ((l.drop ((q - 1) * 8 + 1)).take n) e i w' (by rw [hl]; exact hb) (entX_part (X1.out.t0 T4) _ n hn y hy) (touch_other T4 E1.out (by simp)) (by rw [hl]; exact hi) (by rw [hl]; omega)
          have hd : decide (ltE (((l.drop ((q - 1) * 8 + 1)).take n)[i]'(by rw [hl]; exact hi)) e) = decide (i < k - ((q - 1) * 8 + 1)) := by
            rw [decide_eq_decide]
            have e1 : ((l.drop ((q - 1) * 8 + 1)).take n)[i]'(by rw [hl]; exact hi) = l[(q - 1) * 8 + 1 + i]'(by omega) := by simp
            rw [e1, HI.out]
            omega
          rw [hd] at h
          exact h)).mono fun r w' ⟨h1, h2⟩ => ⟨h1, (((T1.out.trans T3.out (by simp)).alloc _).trans h2 (by simp))⟩
    go_wp2_with fail
    all_goals
      refine (S2.out _ _ _ (by omega) (by omega) (by first | exact .inl rfl | exact .inr (by omega))).mono ?_
      rintro r w4 ⟨rfl, t4⟩
      have T4 := hid t4
      clear t4 S2 HI X1 B1 E1 c3
      go_wp2
      go_ret
      exact ⟨by show Ending.returned (.int .i64 (((q : Int) - 1) * 8 + 1 + ((k - ((q - 1) * 8 + 1) : Nat) : Int))) = _; congr 2; omega, T4.out⟩
end Go.Proofs.YtdjcpdlfapfmkaaGreat
