/- How it stands with a tab, the laws' own list and the book, while a tab is played. -/
import Derived.Test.YtdjcpdlfapfmkaaKb13
import Derived.Test.YtdjcpdlfapfmkaaRe13
import Derived.Test.YtdjcpdlfapfmkaaRd13
import Derived.Test.YtdjcpdlfapfmkaaOa12
namespace Go.Proofs.Ytdjcpdlfapfmkaa
open Go.RowKit Go.Lib Go.ChangeShapes Go.WideShapes
set_option maxRecDepth 100000

abbrev TMTab : TypeId := 79
abbrev TNode : TypeId := 89
theorem Rest.tab {w w' : World} {tb : Nat} {T : Tr} (h : TabB w tb T) (t : Touch [tb] w w') : Rest [TMTab] w w' := fun b cs ty fz hb hn => touch_other t hb (by
  intro hm
  obtain ⟨r, h1, _⟩ := h
  simp only [List.mem_singleton] at hm
  subst hm
  rw [h1] at hb
  cases hb
  exact hn (by simp))
theorem TabB.rest {w w' : World} {tb : Nat} {T : Tr} {ts : List TypeId} (h : TabB w tb T) (r : Rest ts w w') (hs : w.heap.size ≤ w'.heap.size) (h1 : TMTab ∉ ts) (h2 : TNode ∉ ts) (h3 : TEn ∉ ts) : TabB w' tb T := by
  obtain ⟨r0, hb, ht⟩ := h
  refine ⟨r0, r _ _ _ _ hb h1, ht.kp ⟨hs, fun k o ho hk => ?_⟩⟩
  obtain ⟨cs, hc⟩ := hk
  rcases hc with ⟨rfl, _⟩ | rfl
  · exact r _ _ _ _ ho h3
  · exact r _ _ _ _ ho h2
theorem LentE.rest {w w' : World} {B : Nat} {v : Value} {l : List En} {ts : List TypeId} (h : LentE w B v l) (r : Rest ts w w') (h1 : TEn ∉ ts) : LentE w' B v l := by
  obtain ⟨y, cap, rfl, h⟩ := h
  exact ⟨y, cap, rfl, r.row h h1⟩
theorem LentE.pre {w : World} {B g c : Nat} {l : List En} (h : LentE w B (.slice (some ⟨g, 0, none⟩) l.length c) l) : EntX w (some ⟨g, 0, none⟩) l := by
  obtain ⟨g', c', e, _, hx⟩ := h.x
  cases e
  exact hx.pre
theorem put1_told {l : List En} (h : SortedE l) (e : En) : (put1 l e).length = l.length + (if okE e ∧ e ∉ l then 1 else 0) := by
  unfold put1
  by_cases h1 : okE e
  · rw [if_pos h1, len_ins h]
    unfold news
    by_cases h2 : e ∈ l <;> simp [h1, h2]
  · simp [h1]
theorem ok_cutL {l : List En} (h : OkL l) (q : Int) : OkL (cutL l q) := fun x hx => h x (List.mem_filter.1 hx).1
theorem sorted_cutL {l : List En} (h : SortedE l) (q : Int) : SortedE (cutL l q) := h.filter _
theorem posV_intV (m : List En) : posV m = intV (m.map fun e => e.2.2) := by simp [posV, intV]

structure Pl (W w : World) (tb kb : Nat) (rv : Value) (lr : List En) (T : Tr) (k m : Nat) : Prop where
  tab : TabB w tb T
  srt : SortedE T.io
  ok : OkL T.io
  len : T.io.length ≤ 30 * m
  row : w.ownsRow W.heap.size TREn 3 rv lr.length (envals lr)
  book : KBk w W.heap.size kb (2 * k) k [] []
  ge : W.heap.size ≤ tb
  t : Touch [] W w
theorem Pl.touch {W w w' : World} {tb kb : Nat} {rv : Value} {lr : List En} {T : Tr} {k m : Nat} (h : Pl W w tb kb rv lr T k m) (t : Touch [] w w') : Pl W w' tb kb rv lr T k m :=
  ⟨h.tab.t0 t, h.srt, h.ok, h.len, owns_touch h.row t, h.book.touch t, h.ge, h.t.trans t (by simp)⟩
theorem Pl.newrow {W w w' : World} {tb kb B : Nat} {rv rv' : Value} {lr lr' : List En} {T : Tr} {k m : Nat} (h : Pl W w tb kb rv lr T k m) (t : Touch [] w w') (hr : w'.ownsRow B TREn 3 rv' lr'.length (envals lr')) (hB : W.heap.size ≤ B) : Pl W w' tb kb rv' lr' T k m :=
  { h.touch t with row := own_up hr hB }
theorem Pl.newtab {W w w' : World} {tb kb : Nat} {rv : Value} {lr : List En} {T T' : Tr} {k m m' : Nat} (h : Pl W w tb kb rv lr T k m) (t : Touch [tb] w w') (h' : TabB w' tb T') (hs : SortedE T'.io) (ho : OkL T'.io) (hl : T'.io.length ≤ 30 * m') : Pl W w' tb kb rv lr T' k m' := by
  have r := Rest.tab h.tab t
  exact ⟨h', hs, ho, hl, r.row h.row (by decide), h.book.rest r (by decide) (by decide) (by decide) (by decide) (by decide), h.ge, h.t.trans t (fun j hj => by right; simp at hj; subst hj; exact h.ge)⟩
theorem Pl.more {W w : World} {tb kb : Nat} {rv : Value} {lr : List En} {T : Tr} {k m m' : Nat} (h : Pl W w tb kb rv lr T k m) (hm : m ≤ m') : Pl W w tb kb rv lr T k m' :=
  { h with len := by have := h.len; omega }
theorem KBk.sub {w : World} {b0 kb nE nI : Nat} {pE pI pE' pI' : List Value} (h : KBk w b0 kb nE nI pE pI) (h1 : ∀ p ∈ pE', p ∈ pE) (h2 : ∀ p ∈ pI', p ∈ pI) : KBk w b0 kb nE nI pE' pI' := by
  obtain ⟨ge, c, vsE, usE, LsE, vsI, usI, LsI, hB, hE, hI, z0, z4, z8, z10, n1, n2, p1, p2⟩ := h
  exact ⟨ge, c, vsE, usE, LsE, vsI, usI, LsI, hB, hE, hI, z0, z4, z8, z10, n1, n2, fun p hp => p1 p (h1 p hp), fun p hp => p2 p (h2 p hp)⟩
/-- An entry that is laid into a box. -/
theorem en_box (w : World) (a b c : Int) : EnB ((((w.alloc (.cells #[.int .i64 0, .int .i64 0, .int .i64 0] TEn)).setCell ⟨w.heap.size, 0, none⟩ (.int .i64 a)).setCell ⟨w.heap.size, 1, none⟩ (.int .i64 b)).setCell ⟨w.heap.size, 2, none⟩ (.int .i64 c)) w.heap.size (a, b, c) ∧
    Touch [] w ((((w.alloc (.cells #[.int .i64 0, .int .i64 0, .int .i64 0] TEn)).setCell ⟨w.heap.size, 0, none⟩ (.int .i64 a)).setCell ⟨w.heap.size, 1, none⟩ (.int .i64 b)).setCell ⟨w.heap.size, 2, none⟩ (.int .i64 c)) := by
  have h0 : EnB (w.alloc (.cells #[.int .i64 0, .int .i64 0, .int .i64 0] TEn)) w.heap.size (0, 0, 0) := heap_alloc_new w _
  exact ⟨en_set h0 (a, b, c), ((((Touch.refl [] w).alloc _).setCell (p := ⟨w.heap.size, 0, none⟩) (.inr (Nat.le_refl _)) _).setCell (p := ⟨w.heap.size, 1, none⟩) (.inr (Nat.le_refl _)) _).setCell (p := ⟨w.heap.size, 2, none⟩) (.inr (Nat.le_refl _)) _⟩
theorem ren_box (w : World) (a b c : Int) : REnB ((((w.alloc (.cells #[.int .i64 0, .int .i64 0, .int .i64 0] TREn)).setCell ⟨w.heap.size, 0, none⟩ (.int .i64 a)).setCell ⟨w.heap.size, 1, none⟩ (.int .i64 b)).setCell ⟨w.heap.size, 2, none⟩ (.int .i64 c)) w.heap.size (a, b, c) ∧
    Touch [] w ((((w.alloc (.cells #[.int .i64 0, .int .i64 0, .int .i64 0] TREn)).setCell ⟨w.heap.size, 0, none⟩ (.int .i64 a)).setCell ⟨w.heap.size, 1, none⟩ (.int .i64 b)).setCell ⟨w.heap.size, 2, none⟩ (.int .i64 c)) := by
  have h0 : REnB (w.alloc (.cells #[.int .i64 0, .int .i64 0, .int .i64 0] TREn)) w.heap.size (0, 0, 0) := heap_alloc_new w _
  exact ⟨ren_set h0 (a, b, c), ((((Touch.refl [] w).alloc _).setCell (p := ⟨w.heap.size, 0, none⟩) (.inr (Nat.le_refl _)) _).setCell (p := ⟨w.heap.size, 1, none⟩) (.inr (Nat.le_refl _)) _).setCell (p := ⟨w.heap.size, 2, none⟩) (.inr (Nat.le_refl _)) _⟩
theorem isR_rngL (l : List En) (h f t : Int) : rngL l h f t = l.filter (isR h f t) := rfl
end Go.Proofs.Ytdjcpdlfapfmkaa
