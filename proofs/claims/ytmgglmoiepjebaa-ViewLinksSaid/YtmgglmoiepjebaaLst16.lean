/- LentStored, StaysStored. -/
import Derived.Test.YtmgglmoiepjebaaRsv16
import Derived.Laws.AppendOwnNone
namespace Go.Proofs.Ytmgglmoiepjebaa
open Go.RowKit Go.Lib Go.ChangeShapes Go.WideShapes Go.Shelf
set_option maxRecDepth 100000

theorem sameS_refl (s : StoD) : sameS s s = true := sameS_iff.2 rfl

def markSto : StoD := ⟨0, none8, none8, 0, none8, 0, -77, 0⟩
/-- What LentStored leaves. -/
def LentSto (l : List StoD) (W : World) (e : Ending) (W' : World) : Prop :=
  ∃ g cap, e = .returned (.slice (some ⟨g, 0, none⟩) l.length cap) ∧ l.length + 1 ≤ cap ∧ cap ≤ maxLen ∧ W'.ownsRow W.heap.size TSto 8 (.slice (some ⟨g, 0, none⟩) (l.length + 1) cap) (l.length + 1) (stoVals (l ++ [markSto])) ∧ Touch [] W W'
theorem sto_row {W : World} {base n : Nat} {v : Value} {xs : List Value} (h : W.ownsRow base TSto 8 v (n + 1) xs) : ∃ g cap, v = .slice (some ⟨g, 0, none⟩) (n + 1) cap ∧ n + 1 ≤ cap ∧ cap ≤ maxLen := by
  rcases h.2 with ⟨_, h0⟩ | ⟨g, cap, cur, rfl, _, _, hc, hm, _⟩
  · cases h0
  · exact ⟨g, cap, rfl, hc, hm⟩

set_option maxHeartbeats 2000000 in
set_option maxRecDepth 100000 in
theorem lentSto_any (x : Option Addr) (c : Nat) (l : List StoD) (W : World) (hl : l.length ≤ 1000) (hx : StoX W x l) (hn : x = none → c = 0 ∧ l = []) :
    Calls Try.prog 10 #[.slice x l.length c] W (LentSto l W) := by
  obtain ⟨i0, z0, hi, hz0, hz1, hz2, hz3⟩ := info_sto
  have hsf := store_flt
  cases x with
  | none =>
    obtain ⟨rfl, rfl⟩ := hn rfl
    go_enter Try.func10, Try.ntmps10
    go_wp2_with (at_builtin; refine wpList_append_own _ rfl (.tmp 4) (.tmp 6) 22 rfl W.heap.size TSto i0 z0 8 88 Try.underlying22 hi hz0 hz1 hz2 hz3 (by decide) (.slice none 0 0) 0 [] rfl (World.ownsRow_nil _ _ _ _) ⟨W.heap.size, 0, none⟩ 1 1 markSto.list rfl rfl (World.news_of_block (cs := markSto.list.toArray) (t := TSto) (fr := (0, 0)) (heap_alloc_new W _)) (by intro u hu; simp [StoD.list] at hu; rcases hu with rfl | rfl | rfl | rfl | rfl | rfl | rfl | rfl <;> rfl) (by unfold maxLen; omega) (by omega) (by simp) ?_; intro v2 w2 hown2 hg2 _; obtain ⟨g, cap, rfl, hcap, hcm⟩ := sto_row hown2; (have hcI : (0 : Int) ≤ cap := by omega); (have O2 := hid hown2); (have G2 := hid hg2); clear hown2 hg2)
    go_ret
    exact ⟨g, cap, rfl, hcap, hcm, by simpa [stoVals] using O2.out, ((Touch.refl [] W).alloc _).grown G2.out (fun k hk => by cases hk)⟩
  | some ad =>
    have HNW : Hid (∀ j u, (stoVals l)[j]? = some u → W.cell? (ad.add j) = some u) := fun j u hu => by
      have hj := (List.getElem?_eq_some_iff.1 hu).1
      rw [stoVals_len] at hj
      obtain ⟨b, off, e, _, _⟩ := hx 0 (by omega)
      simp at e
      subst e
      rw [add_at]
      exact stoX_cells hx j u hu
    have HL := hid hl
    have hlI : (l.length : Int) ≤ 1000 := by omega
    clear hx hn hl
    go_enter Try.func10, Try.ntmps10
    go_wp2_with (first | (at_builtin; refine wpList_append_own _ rfl (.const (.slice none 0 0)) (.tmp 3) 22 rfl W.heap.size TSto i0 z0 8 88 Try.underlying22 hi hz0 hz1 hz2 hz3 (by decide) (.slice none 0 0) 0 [] rfl (World.ownsRow_nil _ _ _ _) ad l.length c (stoVals l) rfl (stoVals_len l) HNW.out (stoVals_one l) (by unfold maxLen; omega) (by omega) (Nat.le_refl _) ?_; intro v1 w1 hown1 hg1 _; simp only [Nat.zero_add, List.nil_append] at hown1; have O1 := hid hown1; have T1 : Hid (Touch [] W w1) := hid ((Touch.refl [] W).grown hg1 (fun k hk => by cases hk)); clear hown1 hg1) | (at_builtin; refine wpList_append_own _ rfl (.tmp 4) (.tmp 6) 22 rfl W.heap.size TSto i0 z0 8 88 Try.underlying22 hi hz0 hz1 hz2 hz3 (by decide) v1 l.length (stoVals l) rfl (O1.out.alloc _) ⟨w1.heap.size, 0, none⟩ 1 1 markSto.list rfl rfl (World.news_of_block (cs := markSto.list.toArray) (t := TSto) (fr := (0, 0)) (heap_alloc_new w1 _)) (by intro u hu; simp [StoD.list] at hu; rcases hu with rfl | rfl | rfl | rfl | rfl | rfl | rfl | rfl <;> rfl) (by unfold maxLen; omega) (by omega) (by have := T1.out.size; simp; omega) ?_; intro v2 w2 hown2 hg2 _; obtain ⟨g, cap, rfl, hcap, hcm⟩ := sto_row hown2; (have hcI : (l.length : Int) ≤ cap := by omega); (have O2 := hid hown2); (have T2 : Hid (Touch [] W w2) := hid ((T1.out.alloc _).grown hg2 (fun k hk => .inr (own_row' O1.out k hk)))); clear hown2 hg2))
    go_ret
    exact ⟨g, cap, rfl, hcap, hcm, by rw [← stoVals_snoc]; exact O2.out, T2.out⟩

/-- A row with the mark behind it. -/
def Marked (W : World) (base g cap : Nat) (l : List StoD) : Prop := W.ownsRow base TSto 8 (.slice (some ⟨g, 0, none⟩) (l.length + 1) cap) (l.length + 1) (stoVals (l ++ [markSto]))
theorem Marked.touch {W W' : World} {base g cap : Nat} {l : List StoD} (h : Marked W base g cap l) (t : Touch [] W W') : Marked W' base g cap l := by
  refine ⟨h.1, ?_⟩
  rcases h.2 with h2 | ⟨b, cap, cur, hv, hb, hh, r⟩
  · exact .inl h2
  · exact .inr ⟨b, cap, cur, hv, hb, (t.block b (lt_of_block hh) (by simp)).trans hh, r⟩
theorem Marked.cell {W : World} {base g cap : Nat} {l : List StoD} (h : Marked W base g cap l) (j : Nat) (u : Value) (hu : (stoVals (l ++ [markSto]))[j]? = some u) : W.cell? ⟨g, j, none⟩ = some u := by
  have := h.cells (g := g) rfl j u hu
  rwa [add_at, Nat.zero_add] at this
theorem Marked.list {W : World} {base g cap : Nat} {l : List StoD} (h : Marked W base g cap l) (hok : ∀ s ∈ l, s.Ok) : StoX W (some ⟨g, 0, none⟩) l := by
  refine stoX_of (fun j u hu => ?_) hok
  rw [Nat.zero_add]
  refine h.cell j u ?_
  rw [← stoVals_snoc, List.getElem?_append_left (List.getElem?_eq_some_iff.1 hu).1]
  exact hu
theorem Marked.mark {W : World} {base g cap : Nat} {l : List StoD} (h : Marked W base g cap l) : W.cell? ⟨g, l.length * 8 + 6, none⟩ = some (.int .i64 (-77)) := by
  refine h.cell _ _ ?_
  rw [stoVals_at (l ++ [markSto]) l.length 6 (by simp) (by decide)]
  simp [StoD.list, markSto]

set_option maxHeartbeats 2000000 in
set_option maxRecDepth 100000 in
theorem stays_any (g cap base : Nat) (x : Option Addr) (c : Nat) (l : List StoD) (W : World) (hl : l.length ≤ 1000) (hcap : l.length + 1 ≤ cap) (hm : Marked W base g cap l) (hx : StoX W x l) (hok : ∀ s ∈ l, s.Ok) :
    Calls Try.prog 12 #[.slice (some ⟨g, 0, none⟩) l.length cap, .slice x l.length c] W fun e w' => e = .returned (.bool true) ∧ Touch [] W w' := by
  have S := hid (sameList_any x (some ⟨g, 0, none⟩) c cap l l W rfl (fun i h => sameS_refl _) hl hx (hm.list hok))
  have HM := hid hm
  have h1 : (l.length : Int) ≤ 1000 := by omega
  have h2 : (l.length : Int) + 1 ≤ cap := by omega
  clear hl hcap hm hx hok
  go_enter Try.func12, Try.ntmps12
  go_wp2_with fail
  refine S.out.mono ?_
  rintro e w1 ⟨rfl, t1⟩
  have hmk := (HM.out.touch t1).mark
  have T1 := hid t1
  clear t1 S
  go_wp2
  go_ret
  exact ⟨rfl, T1.out⟩

end Go.Proofs.Ytmgglmoiepjebaa
