/- Going through a tab: what the iterator promises. -/
import Derived.Test.YtnkflmimnpolcaaFs12
namespace Go.Proofs.Ytnkflmimnpolcaa
open Go.RowKit Go.Lib Go.Shelf
set_option maxRecDepth 100000

/-- How a tab lies in memory: in a cell of a block that is neither a node nor of entries; its root, and the tree. -/
structure TabIn (w : World) (tb o : Nat) (cs : Array Value) (t : TypeId) (T : Tr) : Prop where
  hb : w.heap[tb]? = some (.cells cs t)
  ty : t ≠ 67 ∧ t ≠ 32
  root : ∃ r, cs[o]? = some (.pointer r) ∧ TreeAt w r T
theorem TabIn.t0 {w w' : World} {tb o : Nat} {cs : Array Value} {ty : TypeId} {T : Tr} (h : TabIn w tb o cs ty T) (t : Touch [] w w') : TabIn w' tb o cs ty T := by
  obtain ⟨h1, h2, r, h3, h4⟩ := h
  exact ⟨touch_other t h1 (by simp), h2, r, h3, h4.t0 t⟩
/-- A tab, nil or not. -/
def TabAt (w : World) (p : Option Addr) (T : Tr) : Prop := (p = none ∧ T = .nil) ∨ ∃ (b o : Nat) (cs : Array Value) (t : TypeId), p = some ⟨b, o, none⟩ ∧ TabIn w b o cs t T
theorem TabIn.at {w : World} {tb o : Nat} {cs : Array Value} {ty : TypeId} {T : Tr} (h : TabIn w tb o cs ty T) : TabAt w (some ⟨tb, o, none⟩) T := .inr ⟨tb, o, cs, ty, rfl, h⟩
theorem TabAt.t0 {w w' : World} {p : Option Addr} {T : Tr} (h : TabAt w p T) (t : Touch [] w w') : TabAt w' p T := by
  rcases h with ⟨rfl, rfl⟩ | ⟨b, o, cs, ty, rfl, h⟩
  · exact .inl ⟨rfl, rfl⟩
  · exact .inr ⟨b, o, cs, ty, rfl, h.t0 t⟩
theorem TabIn.cell {w : World} {tb o : Nat} {cs : Array Value} {ty : TypeId} {T : Tr} (h : TabIn w tb o cs ty T) : ∃ r, w.cell? ⟨tb, o, none⟩ = some (.pointer r) ∧ TreeAt w r T := by
  obtain ⟨h1, h2, r, h3, h4⟩ := h
  exact ⟨r, (cell_of h1 o).trans h3, h4⟩

theorem tabfrom_any (p : Option Addr) (first : En) (w : World) :
    Calls Try.prog 44 #[.pointer p, enV first] w fun e w' => e = .returned (.func (.func 62) #[] #[.pointer (some ⟨w.heap.size, 0, none⟩), .pointer (some ⟨w.heap.size + 1, 0, none⟩)]) ∧ w' = (w.alloc (.cells #[.pointer p] 25)).alloc (.cells #[.int .i64 first.1, .int .i64 first.2.1, .int .i64 first.2.2] 32) := by
  go_enter Try.func44, Try.ntmps44
  go_wp2
  go_ret
  exact ⟨by simp, rfl⟩

set_option maxHeartbeats 1000000 in
theorem from1_any (l B : Nat) (first : En) (J Jx : List En → World → Prop) (hJ : AbidesFrom B J) (T : Tr) (hT : SortedE T.io)
    (hY : ∀ m pre x W, J pre W → pre.length < (fromE T.io first).length → YieldAt Fence.wide m Try.prog l #[enV x] W fun e W' =>
      (e = .returned (.bool true) ∧ J (pre ++ [x]) W' ∧ KpE W W') ∨ (e = .returned (.bool false) ∧ Jx (pre ++ [x]) W'))
    (p : Option Addr) (W : World) (b1 b2 : Nat) (h1 : W.cell? ⟨b1, 0, none⟩ = some (.pointer p)) (h2 : EnB W b2 first) (ht : TabAt W p T) (h0 : J [] W) :
    Calls Try.prog 62 #[.func (.yield l) #[] #[], .pointer (some ⟨b1, 0, none⟩), .pointer (some ⟨b2, 0, none⟩)] W fun e W' => (∃ v, e = .returned v) ∧
      ((∃ ys, ys = fromE T.io first ∧ J ys W') ∨ (∃ pre, pre <+: fromE T.io first ∧ Jx pre W')) := by
  obtain ⟨q0, q1, q2⟩ := h2.c
  rcases ht with ⟨rfl, rfl⟩ | ⟨b, o, cs, ty, rfl, hin⟩
  · go_enter Try.func62, Try.ntmps62
    go_wp2
    go_end0
    exact ⟨⟨_, rfl⟩, .inl ⟨_, rfl, by simpa [Tr.io, fromE] using h0⟩⟩
  · obtain ⟨r, c0, hr⟩ := hin.cell
    have C := hid (callsIn_wide.1 (from_in l (fromE T.io first).length B first J Jx hJ hY T 1 r [] W.drew (hr.t0 (Touch.refl [] W).drew) hT (hJ _ _ _ none h0 (Touch.refl [] W).drew.grownBy (fun r e => by cases e)) (by simp)))
    clear hin hr hY h0 hJ hT h2
    go_enter Try.func62, Try.ntmps62
    go_upto_region 1 with fail
    go_still_tail 6, (by kernel_rfl)
    change wpList _ _ _ _ _ W.drew
    go_wp2_with (go_at_call 63; refine C.out.mono ?_; clear C; rintro e w3 ⟨rr, rfl, h3⟩; have H3 := hid h3; clear h3)
    go_end0
    refine ⟨⟨_, rfl⟩, ?_⟩
    rcases H3.out with ⟨_, hj, _⟩ | ⟨_, q, hq, hx⟩
    · exact .inl ⟨_, rfl, by simpa using hj⟩
    · exact .inr ⟨q, hq, by simpa using hx⟩

theorem tab_stops (n : Nat) (first : En) (T : Tr) (hT : SortedE T.io) (p : Option Addr) (w : World) (b1 b2 : Nat) (h1 : w.cell? ⟨b1, 0, none⟩ = some (.pointer p)) (_hb1 : b1 < w.heap.size) (h2 : EnB w b2 first) (ht : TabAt w p T) :
    SeqStopsK Fence.wide n Try.prog 62 #[.pointer (some ⟨b1, 0, none⟩), .pointer (some ⟨b2, 0, none⟩)] (fun x : En => #[enV x]) KpE (fun ys => ys = fromE T.io first) (fun pre => pre <+: fromE T.io first) (fromE T.io first).length w :=
  fun l J Jx W hW hJ _ hY h0 =>
    have t : Touch [] w W := Touch.of_below hW
    callsIn_wide.2 (from1_any l _ first J Jx hJ T hT (fun m pre x W1 hj hl => yield_anyDepth rfl m (hY pre x W1 hj hl)) p W b1 b2 (t.cell h1) (h2.t t) (ht.t0 t) h0)
end Go.Proofs.Ytnkflmimnpolcaa
