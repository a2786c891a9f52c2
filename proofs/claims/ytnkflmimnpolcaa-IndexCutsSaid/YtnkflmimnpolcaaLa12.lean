/- The last entry of a hash; how many there are; a new tab. -/
import Derived.Test.YtnkflmimnpolcaaFt12
namespace Go.Proofs.Ytnkflmimnpolcaa
open Go.RowKit Go.Lib
set_option maxRecDepth 100000

def lu : Tr → Int → Option En → Option En
  | .nil, _, acc => acc
  | .node l x r, h, acc => if h < x.1 then lu l h acc else lu r h (some x)
theorem lu_io (t : Tr) (h : Int) : ∀ acc, SortedE t.io → lu t h acc = ((t.io.filter fun e => decide (e.1 ≤ h)).getLast?).or acc := by
  induction t with
  | nil => intro acc _; simp [lu, Tr.io]
  | node l x r hl hr =>
    intro acc hs
    have hp := List.pairwise_append.1 hs
    have hq := List.pairwise_cons.1 hp.2.1
    unfold lu
    have hio : (Tr.node l x r).io = l.io ++ x :: r.io := rfl
    rw [hio, List.filter_append]
    split
    · next hx =>
      have h1 : (x :: r.io).filter (fun e => decide (e.1 ≤ h)) = [] := by
        rw [List.filter_eq_nil_iff]
        intro y hy
        have : x.1 ≤ y.1 := by
          rcases List.mem_cons.1 hy with rfl | hy
          · omega
          · have := hq.1 y hy; unfold ltE at this; omega
        simp; omega
      rw [h1, List.append_nil, hl acc hp.1]
    · next hx =>
      have hx' : x.1 ≤ h := by omega
      rw [hr (some x) hq.2, List.filter_cons, if_pos (by simpa using hx'), List.getLast?_append, List.getLast?_cons]
      cases hg : (r.io.filter fun e => decide (e.1 ≤ h)).getLast? <;> simp [hg]
/-- A node of an entry, or none. -/
def AccAt (w : World) (q : Option Addr) : Option En → Prop
  | none => q = none
  | some e => ∃ (b : Nat) (pl pr : Option Addr) (h c : Nat), q = some ⟨b, 0, none⟩ ∧ NodeB w b e pl pr h c
theorem AccAt.t0 {w w' : World} {q : Option Addr} {a : Option En} (h : AccAt w q a) (t : Touch [] w w') : AccAt w' q a := by
  cases a with
  | none => exact h
  | some e => obtain ⟨b, pl, pr, hh, c, hq, hb⟩ := h; exact ⟨b, pl, pr, hh, c, hq, hb.t t⟩

set_option maxHeartbeats 1000000 in
theorem lastup_any (h : Int) (p0 : Option Addr) (T : Tr) (w : World) (ht : TreeAt w p0 T) :
    Calls Try.prog 40 #[.pointer p0, .int .i64 h] w fun e w' => ∃ q, e = .returned (.pointer q) ∧ AccAt w' q (lu T h none) ∧ Touch [] w w' := by
  go_enter Try.func40, Try.ntmps40
  go_wp2
  go_loopg [0, 5] T.ht (fun g pv lv wr => ∃ p t q acc, pv = .pointer p ∧ lv = .pointer q ∧ TreeAt wr p t ∧ AccAt wr q acc ∧ g = t.ht ∧ lu t h acc = lu T h none ∧ Touch [] w wr)
  case atStart => exact ⟨p0, T, none, none, rfl, rfl, ht, rfl, rfl, rfl, Touch.refl [] w⟩
  case round =>
    obtain ⟨p, t, q, acc, rfl, rfl, h1, h2, rfl, h3, h4⟩ := hrel
    cases t with
    | nil =>
      obtain rfl : p = none := h1
      go_wp2
      go_ret
      exact ⟨q, rfl, by rw [← h3]; exact h2, h4⟩
    | node l x r =>
      obtain ⟨b, pl, pr, rfl, N, hl, hr⟩ := h1
      have hlu : lu (.node l x r) h acc = if h < x.1 then lu l h acc else lu r h (some x) := rfl
      rw [hlu] at h3
      have N0 := hid N
      obtain ⟨n0, n1, n2, n3, n4⟩ := N.c
      clear N
      by_cases hx : h < x.1
      · rw [if_pos hx] at h3
        go_wp2
        go_roundg l.ht
        case measure => simp only [Tr.ht]; omega
        case rel => exact ⟨pl, l, q, acc, rfl, rfl, hl, h2, rfl, h3, h4⟩
      · rw [if_neg hx] at h3
        have n4d : wr.drew.cell? ⟨b, 4, none⟩ = some (.pointer pr) := n4
        go_wp2
        go_region
        go_wp2
        go_roundg r.ht
        case measure => simp only [Tr.ht]; omega
        case rel => exact ⟨pr, r, _, some x, rfl, rfl, hr.t0 (Touch.refl [] wr).drew, ⟨b, pl, pr, _, _, rfl, N0.out.t (Touch.refl [] wr).drew⟩, rfl, h3, h4.drew⟩

theorem new_any (w : World) : Calls Try.prog 7 #[] w fun e w' => e = .returned (.pointer (some ⟨w.heap.size, 0, none⟩)) ∧ w' = w.alloc (.cells #[.pointer none] 47) := by
  go_enter Try.func7, Try.ntmps7
  go_wp2
  go_ret
  exact ⟨rfl, rfl⟩
theorem tablen_any {p : Option Addr} {T : Tr} (w : World) (h : TabAt w p T) : Calls Try.prog 22 #[.pointer p] w fun e w' => e = .returned (.int .i64 T.ct) ∧ w' = w := by
  rcases h with ⟨rfl, rfl⟩ | ⟨b, o, cs, ty, rfl, hin⟩
  · go_enter Try.func22, Try.ntmps22
    go_wp2
    go_ret
    exact ⟨rfl, rfl⟩
  · obtain ⟨r, c0, hr⟩ := hin.cell
    have C := hid (tlen_any w hr)
    clear hin hr
    go_enter Try.func22, Try.ntmps22
    go_wp2_with (go_at_call 46; refine C.out.mono ?_; rintro e w' ⟨rfl, h⟩; have h := h.symm; subst h)
    go_ret
    exact ⟨rfl, rfl⟩

/-- The last entry of a hash. -/
def lastE (l : List En) (h : Int) : Option En := ((l.filter fun e => decide (e.1 ≤ h)).getLast?).filter fun e => decide (e.1 = h)
/-- What Last tells. -/
def lastV (o : Option En) : Value := .tuple #[enV (o.getD (0, 0, 0)), .bool o.isSome]
theorem en_set {w : World} {x : Nat} {e : En} (h : EnB w x e) (f : En) : EnB (((w.setCell ⟨x, 0, none⟩ (.int .i64 f.1)).setCell ⟨x, 1, none⟩ (.int .i64 f.2.1)).setCell ⟨x, 2, none⟩ (.int .i64 f.2.2)) x f := by
  have h1 := heap_set (i := 0) h (.int .i64 f.1)
  have h2 := heap_set (i := 1) h1 (.int .i64 f.2.1)
  exact heap_set (i := 2) h2 (.int .i64 f.2.2)
set_option maxHeartbeats 1000000 in
theorem last_any (h : Int) {p : Option Addr} {T : Tr} (w : World) (ht : TabAt w p T) (hs : SortedE T.io) :
    Calls Try.prog 14 #[.pointer p, .int .i64 h] w fun e w' => e = .returned (lastV (lastE T.io h)) ∧ Touch [] w w' := by
  have hlu := lu_io T h none hs
  rw [Option.or_none] at hlu
  unfold lastE
  rw [← hlu]
  obtain ⟨x1, hx1⟩ : ∃ x, x = w.heap.size := ⟨_, rfl⟩
  obtain ⟨w1, hw1⟩ : ∃ w1, w1 = w.alloc (.cells #[.int .i64 0, .int .i64 0, .int .i64 0] 32) := ⟨_, rfl⟩
  have B1 : EnB w1 x1 (0, 0, 0) := by rw [hw1, hx1]; exact heap_alloc_new w _
  have T1 : Hid (Touch [] w w1) := hid (by rw [hw1]; exact (Touch.refl [] w).alloc _)
  have hx : w.heap.size ≤ x1 := by omega
  have FIN : ∀ w3, Touch [] w1 w3 → ∀ u1 u2 u3, Touch [] w (((w3.setCell ⟨x1, 0, none⟩ u1).setCell ⟨x1, 1, none⟩ u2).setCell ⟨x1, 2, none⟩ u3) := fun w3 t u1 u2 u3 =>
    (((T1.out.trans t (by simp)).setCell (p := ⟨x1, 0, none⟩) (.inr hx) u1).setCell (p := ⟨x1, 1, none⟩) (.inr hx) u2).setCell (p := ⟨x1, 2, none⟩) (.inr hx) u3
  rcases ht with ⟨rfl, rfl⟩ | ⟨b, o, cs, ty, rfl, hin⟩
  · obtain ⟨p0, p1, p2⟩ := B1.c
    have f0 := free_of B1 0
    have f1 := free_of B1 1
    have f2 := free_of B1 2
    go_enter Try.func14, Try.ntmps14
    go_upto_region 1 with fail
    rw [← hw1, ← hx1]
    go_wp2
    refine bodyPost_ret (v := lastV none) (by simp [results, Try.results14, go_sem, lastV]) rfl ⟨by simp [Tr.io], (Touch.refl [] w).alloc _⟩
  · obtain ⟨r, c0, hr⟩ := (hin.t0 T1.out).cell
    have C := hid (lastup_any h r T w1 hr)
    generalize lu T h none = acc at *
    cases acc with
    | none =>
      clear hin hr hlu
      go_enter Try.func14, Try.ntmps14
      go_upto_region 1 with fail
      rw [← hw1, ← hx1]
      clear hw1 hx1
      go_wp2_with (go_at_call 40; refine C.out.mono ?_; clear C; rintro e w3 ⟨q, rfl, rfl, t3⟩; have B3 := B1.t t3; obtain ⟨p0, p1, p2⟩ := B3.c; have f0 := free_of B3 0; have f1 := free_of B3 1; have f2 := free_of B3 2)
      have E := (en_set B3 (0, 0, 0)).c
      have TT := FIN w3 t3 (.int .i64 0) (.int .i64 0) (.int .i64 0)
      revert E TT
      dsimp only
      generalize (((w3.setCell ⟨x1, 0, none⟩ (.int .i64 0)).setCell ⟨x1, 1, none⟩ (.int .i64 0)).setCell ⟨x1, 2, none⟩ (.int .i64 0)) = WW
      rintro ⟨r0, r1, r2⟩ TT
      refine bodyPost_ret (v := lastV none) ?_ rfl ⟨rfl, TT⟩
      simp [results, Try.results14, go_sem, lastV, r0, r1, r2]
    | some e =>
      have HIT := hid (fun h' : e.1 = h => (show Option.filter (fun e : En => decide (e.1 = h)) (some e) = some e by simp [h']))
      have MISS := hid (fun h' : ¬ e.1 = h => (show Option.filter (fun e : En => decide (e.1 = h)) (some e) = none by simp [h']))
      generalize Option.filter (fun e : En => decide (e.1 = h)) (some e) = out at *
      clear hin hr hlu
      go_enter Try.func14, Try.ntmps14
      go_upto_region 1 with fail
      rw [← hw1, ← hx1]
      clear hw1 hx1
      by_cases hh : e.1 = h
      · have ho := HIT.out hh
        clear MISS HIT
        obtain ⟨e1, e2, e3⟩ := e
        dsimp only at hh
        subst hh
        go_wp2_with (go_at_call 40; refine C.out.mono ?_; clear C; rintro e w3 ⟨q, rfl, ⟨b', pl, pr, hh, cc, rfl, NB⟩, t3⟩; have B3 := B1.t t3; obtain ⟨p0, p1, p2⟩ := B3.c; have f0 := free_of B3 0; have f1 := free_of B3 1; have f2 := free_of B3 2; obtain ⟨n0, n1, n2, n3, n4⟩ := NB.c)
        have E := (en_set B3 (e1, e2, e3)).c
        have TT := FIN w3 t3 (.int .i64 e1) (.int .i64 e2) (.int .i64 e3)
        revert E TT
        dsimp only
        generalize (((w3.setCell ⟨x1, 0, none⟩ (.int .i64 e1)).setCell ⟨x1, 1, none⟩ (.int .i64 e2)).setCell ⟨x1, 2, none⟩ (.int .i64 e3)) = WW
        rintro ⟨r0, r1, r2⟩ TT
        refine bodyPost_ret (v := lastV (some (e1, e2, e3))) ?_ rfl ⟨by rw [ho], TT⟩
        simp [results, Try.results14, go_sem, lastV, r0, r1, r2]
      · have ho := MISS.out hh
        clear MISS HIT
        go_wp2_with (go_at_call 40; refine C.out.mono ?_; clear C; rintro e w3 ⟨q, rfl, ⟨b', pl, pr, hh, cc, rfl, NB⟩, t3⟩; have B3 := B1.t t3; obtain ⟨p0, p1, p2⟩ := B3.c; have f0 := free_of B3 0; have f1 := free_of B3 1; have f2 := free_of B3 2; obtain ⟨n0, n1, n2, n3, n4⟩ := NB.c)
        have E := (en_set B3 (0, 0, 0)).c
        have TT := FIN w3 t3 (.int .i64 0) (.int .i64 0) (.int .i64 0)
        revert E TT
        dsimp only
        generalize (((w3.setCell ⟨x1, 0, none⟩ (.int .i64 0)).setCell ⟨x1, 1, none⟩ (.int .i64 0)).setCell ⟨x1, 2, none⟩ (.int .i64 0)) = WW
        rintro ⟨r0, r1, r2⟩ TT
        refine bodyPost_ret (v := lastV none) ?_ rfl ⟨by rw [ho], TT⟩
        simp [results, Try.results14, go_sem, lastV, r0, r1, r2]
end Go.Proofs.Ytnkflmimnpolcaa
