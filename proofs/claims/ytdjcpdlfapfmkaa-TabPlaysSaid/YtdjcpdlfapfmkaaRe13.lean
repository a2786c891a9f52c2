/- Entries that are handed in, and held against what they were. -/
import Derived.Test.YtdjcpdlfapfmkaaRc13
namespace Go.Proofs.Ytdjcpdlfapfmkaa
open Go.RowKit Go.Lib Go.ChangeShapes Go.WideShapes
set_option maxRecDepth 100000

/-- append of entries of a list, nil or not, at a plain region's list. -/
theorem wpList_append_tens (w : World) {ops : Array Oper} {rest : List Oper} {o : Oper} {a : Act} {Q : Exit → Act → World → Prop} (hgd : o.guard = none) (s x : Operand)
    (ho : o.op = .call { callee := .builtin .append, args := #[s, x], argTypes := #[TEns, TEns] })
    (w0 : World) (v : Value) (n : Nat) (xs : List Value) (hs : a.eval s = v) (hown : w.ownsRow w0.heap.size TEn 3 v n xs) (ht : Touch [] w0 w)
    (y : Option Addr) (c : Nat) (m : List En) (hx : a.eval x = .slice y m.length c) (hc : y = none → c = 0 ∧ m = []) (hX : EntX w y m) (h63 : n + m.length ≤ 1000000000)
    (h : ∀ y' cap w', w'.ownsRow w0.heap.size TEn 3 (.slice y' (n + m.length) cap) (n + m.length) (xs ++ envals m) → Touch [] w0 w' → wpList Try.prog ops Q rest (a.put o.dst (.slice y' (n + m.length) cap)) w') :
    wpList Try.prog ops Q (o :: rest) a w := by
  obtain ⟨i0, hi, hz0, hz1, hz2⟩ := info_parts infoEn
  cases y with
  | some ad => exact wpList_append_cells w hgd s x TEns ho w0.heap.size TEn i0 (.agg #[.int .i64 0, .int .i64 0, .int .i64 0]) 3 24 Try.underlying36 hi hz0 hz1 hz2 rfl (by decide) v n xs hs hown ad m.length c (envals m) hx (envals_len m) (entX_cells2 hX) (envals_one m) h63 (by decide) ht.size fun y' cap w' G => h y' cap w' G.own (G.touch hown ht (Nat.le_refl _))
  | none =>
    obtain ⟨rfl, rfl⟩ := hc rfl
    obtain ⟨yv, cap, rfl, _, _⟩ := slice_form hown
    exact wpList_append_own_none hgd s x TEns ho w0.heap.size TEn i0 3 Try.underlying36 hi _ n xs hs hown hx (h yv cap w (by simpa [envals] using hown) ht)
theorem entX_lit (w : World) (e : En) : EntX (w.alloc (.cells #[.int .i64 e.1, .int .i64 e.2.1, .int .i64 e.2.2] TEn)) (some ⟨w.heap.size, 0, none⟩) [e] := fun i hi => by
  obtain rfl : i = 0 := by simpa using hi
  have h : EnB (w.alloc (.cells #[.int .i64 e.1, .int .i64 e.2.1, .int .i64 e.2.2] TEn)) w.heap.size e := heap_alloc_new w _
  exact ⟨_, _, rfl, by simp only [Nat.zero_mul, Nat.add_zero]; exact h.c.1, by simp only [Nat.zero_mul, Nat.add_zero]; exact h.c.2.1, by simp only [Nat.zero_mul, Nat.add_zero]; exact h.c.2.2⟩

/-- What LentEntries hands out: the list, and one more behind it. -/
def LentE (w : World) (B : Nat) (v : Value) (l : List En) : Prop := ∃ y cap, v = .slice (some y) l.length cap ∧ w.ownsRow B TEn 3 (.slice (some y) (l.length + 1) cap) (l.length + 1) (envals (l ++ [(0, 0, -77)]))
theorem LentE.t {w w' : World} {B : Nat} {v : Value} {l : List En} (h : LentE w B v l) (t : Touch [] w w') : LentE w' B v l := by
  obtain ⟨y, cap, rfl, h⟩ := h
  exact ⟨y, cap, rfl, owns_touch h t⟩
theorem own_some {w : World} {B n cap size : Nat} {e : TypeId} {y : Option Addr} {xs : List Value} (h : w.ownsRow B e size (.slice y (n + 1) cap) (n + 1) xs) : ∃ g, y = some ⟨g, 0, none⟩ ∧ n + 1 ≤ cap := by
  rcases h.2 with ⟨h1, h0⟩ | ⟨g, cap', cur, hv, _, _, hnc, _⟩
  · omega
  · injection hv with h1 h2 h3
    subst h3
    exact ⟨g, h1, hnc⟩
theorem LentE.x {w : World} {B : Nat} {v : Value} {l : List En} (h : LentE w B v l) : ∃ g c, v = .slice (some ⟨g, 0, none⟩) l.length c ∧ l.length + 1 ≤ c ∧ EntX w (some ⟨g, 0, none⟩) (l ++ [(0, 0, -77)]) := by
  obtain ⟨y, cap, rfl, h⟩ := h
  obtain ⟨g, hy, hc⟩ := own_some h
  cases hy
  refine ⟨g, cap, rfl, hc, ?_⟩
  obtain ⟨x, c', hv, hn, hx⟩ := entX_own h
  injection hv with h1 h2 h3
  rw [h1]
  exact hx

set_option maxHeartbeats 2000000 in
theorem lentE_any (x : Option Addr) (c : Nat) (l : List En) (w : World) (hx : EntX w x l) (hc : x = none → c = 0 ∧ l = []) (hlen : l.length ≤ 1000000) :
    Calls Try.prog 11 #[.slice x l.length c] w fun e w' => ∃ u, e = .returned u ∧ LentE w' w.heap.size u l ∧ Touch [] w w' := by
  have HX := hid hx
  have HC := hid hc
  clear hx hc
  go_enter Try.func11, Try.ntmps11
  go_wp2_with (first
    | (at_builtin; refine wpList_append_tens _ rfl (.const (.slice none 0 0)) (.tmp 3) rfl w (.slice none 0 0) 0 [] rfl (World.ownsRow_nil _ _ _ _) (Touch.refl [] w) x c l rfl (fun h => HC.out h) HX.out (by omega) ?_; rw [Nat.zero_add, List.nil_append]; intro y1 c1 w2 hG1 hT1; have G1 := hid hG1; have U1 := hid hT1; clear hG1 hT1)
    | (at_builtin; refine wpList_append_tens _ rfl (.tmp 4) (.tmp 6) rfl w (.slice y1 l.length c1) l.length (envals l) rfl (owns_touch G1.out ((Touch.refl [] _).alloc _)) (U1.out.alloc _) (some ⟨w2.heap.size, 0, none⟩) 1 [(0, 0, -77)] rfl (fun h => by cases h) (entX_lit w2 (0, 0, -77)) (by simp; omega) ?_; rw [List.length_singleton]; intro y2 c2 w3 hG1 hT1; have G2 := hid hG1; have U2 := hid hT1; clear hG1 hT1; obtain ⟨g2, hy2, hc2⟩ := own_some G2.out; subst hy2; have hc3 : l.length ≤ c2 := by omega))
  go_ret
  exact ⟨_, rfl, ⟨_, _, rfl, by rw [envals_append]; exact G2.out⟩, U2.out⟩

theorem EntX.pre {w : World} {x : Option Addr} {l m : List En} (h : EntX w x (l ++ m)) : EntX w x l := fun i hi => by
  have := h i (by simp; omega)
  rw [List.getElem_append_left hi] at this
  exact this
set_option maxHeartbeats 2000000 in
theorem staysE_any (v : Value) (B : Nat) (x : Option Addr) (c : Nat) (l : List En) (w : World) (hm : LentE w B v l) (hx : EntX w x l) (hlen : l.length ≤ 1000000) :
    Calls Try.prog 15 #[v, .slice x l.length c] w fun e w' => e = .returned (.bool true) ∧ Touch [] w w' := by
  obtain ⟨g, cm, rfl, hcm, hX⟩ := hm.x
  have S := hid (sameEntries_any (some ⟨g, 0, none⟩) x cm c l l w hlen hlen hX.pre hx)
  have L := hid (hX l.length (by simp))
  clear hm hx hX
  have hcI : ((l.length : Int) + 1) ≤ cm := by omega
  go_enter Try.func15, Try.ntmps15
  go_wp2_with fail
  refine S.out.mono ?_
  rintro e w1 ⟨rfl, t1⟩
  obtain ⟨b, off, hb, g0, g1, g2⟩ := L.out
  cases hb
  have e2 := t1.cell g2
  have T1 := hid t1
  clear t1 g0 g1 g2
  rw [List.getElem_append_right (Nat.le_refl _)] at e2
  simp only [Nat.sub_self, List.getElem_cons_zero, Nat.zero_add] at e2
  go_wp2
  go_ret
  exact ⟨rfl, T1.out⟩
end Go.Proofs.Ytdjcpdlfapfmkaa
