/- A table put behind those of a level. -/
import Derived.Lib.AppendZeros
import Derived.Test.YtnkflmimnpolcaaClm14
namespace Go.Proofs.Ytnkflmimnpolcaa
open Go.RowKit Go.Lib Go.Shelf
set_option maxRecDepth 100000

theorem infoTbs : (Try.prog.info? TTbs).map (fun i => (i.zero, i.size, i.bytes)) = some (some (.slice none 0 0), 1, 24) := by kernel_rfl
theorem clip_any (x : Option Addr) (n c : Nat) (w : World) (hc : n ≤ c) (hz : x = none → c = 0) (hn : n ≤ 1000000) :
    Calls Try.prog 52 #[.slice x n c] w fun e w' => e = .returned (.slice x n n) ∧ w' = w := by
  have h1 : ¬ ((n : Int) < 0) := by omega
  have h2 : ¬ c < n := by omega
  have h3 : ¬ ((c : Int) < n) := by omega
  go_enter Try.func52, Try.ntmps52
  cases x with
  | none =>
    obtain rfl := hz rfl
    obtain rfl : n = 0 := by omega
    go_wp2
    go_ret
    exact ⟨rfl, rfl⟩
  | some b =>
    go_wp2
    go_ret
    exact ⟨rfl, rfl⟩
theorem row_base {w : World} {B B' n m : Nat} {e : TypeId} {v : Value} {xs : List Value} (h : w.ownsRow B e m v n xs) (hb : B' ≤ B) : w.ownsRow B' e m v n xs := by
  refine ⟨h.1, ?_⟩
  rcases h.2 with h2 | ⟨g, cap, cur, e', h1, h2⟩
  · exact .inl h2
  · exact .inr ⟨g, cap, cur, e', Nat.le_trans hb h1, h2⟩
/-- The levels' tables with one more behind those of level k. -/
def putT {α : Type} (ls : List (List α)) (k : Nat) (t : α) : List (List α) := (if k = ls.length then ls ++ [[]] else ls).modify k (· ++ [t])
structure WithR (w w' : World) (B : Nat) (x : Option Addr) (c : Nat) (L : List LvV) : Prop where
  own : w'.ownsRow B TTbs 1 (.slice x L.length c) L.length (L.map LvV.val)
  lv : ∀ v ∈ L, v.At w'
  rest : Rest [TTbs] w w'
  size : w.heap.size ≤ w'.heap.size
  touch : ∀ w0, Touch [] w0 w → w0.heap.size ≤ B → Touch [] w0 w'
theorem with_end {B g k c : Nat} {L1 : List LvV} {W1 w2 : World} (own1 : W1.ownsRow B TTbs 1 (.slice (some ⟨g, 0, none⟩) L1.length c) L1.length (L1.map LvV.val)) (lv : ∀ v ∈ L1, v.At W1) (hk : k < L1.length) (t : TabV) (ht : t.At W1) (y : Option Addr) (cc : Nat)
    (own2 : w2.ownsRow W1.heap.size TTb 1 (.slice y (L1[k].ts.length + 1) cc) (L1[k].ts.length + 1) (L1[k].ts.map TabV.val ++ [t.val])) (T : Touch [] W1 w2) :
    WithR W1 (w2.setCell ⟨g, k, none⟩ (.slice y (L1[k].ts.length + 1) cc)) B (some ⟨g, 0, none⟩) c (L1.set k ⟨y, cc, L1[k].ts ++ [t]⟩) := by
  have o2 := owns_touch own1 T
  have hg : B ≤ g := by
    rcases own1.2 with ⟨e', h0⟩ | ⟨g', cap, cur, e', h1, _⟩
    · cases e'
    · cases e'; exact h1
  have hR := rest_set (ts := [TTbs]) (i := k) o2 (by simp) (.slice y (L1[k].ts.length + 1) cc)
  refine ⟨?_, ?_, (Rest.touch T).trans hR, ?_, fun w0 h0 hB => ((h0.trans T (by simp)).setCell (.inr (by simp; omega)) _)⟩
  · have := row_set o2 hk (.slice y (L1[k].ts.length + 1) cc)
    rw [List.map_set, List.length_set]
    simpa [LvV.val] using this
  · intro v hv
    rcases List.mem_or_eq_of_mem_set hv with h | rfl
    · exact ((lv v h).t0 T).rest hR (by decide) (by decide)
    · have hv : LvV.At w2 ⟨y, cc, L1[k].ts ++ [t]⟩ := ⟨by simpa [LvV.val] using (row_base own2 (Nat.zero_le _)), fun t' ht' => by
        rcases List.mem_append.1 ht' with h | h
        · exact ((lv _ (List.getElem_mem hk)).tab t' h).t0 T
        · obtain rfl := List.mem_singleton.1 h
          exact ht.t0 T⟩
      exact hv.rest hR (by decide) (by decide)
  · have := T.size
    simpa using this
theorem tvals_one' (l : List TabV) : ∀ u ∈ l.map TabV.val, u.oneCell' = true := by
  intro u hu
  obtain ⟨t, _, rfl⟩ := List.mem_map.1 hu
  rfl
theorem map_set_ts (L : List LvV) (k : Nat) (hk : k < L.length) (y : Option Addr) (cc : Nat) (t : TabV) : (L.set k ⟨y, cc, L[k].ts ++ [t]⟩).map LvV.ts = (L.map LvV.ts).modify k (· ++ [t]) := by
  refine List.ext_getElem? fun j => ?_
  rw [List.map_set, List.getElem?_modify, List.getElem?_set]
  by_cases h : k = j
  · subst h
    simp [hk]
  · simp [h]
theorem WithR.after {w w1 w3 : World} {B c : Nat} {x : Option Addr} {L : List LvV} (h : WithR w1 w3 B x c L) (r : Rest [TTbs] w w1) (s : w.heap.size ≤ w1.heap.size) (t : ∀ w0, Touch [] w0 w → w0.heap.size ≤ B → Touch [] w0 w1) : WithR w w3 B x c L :=
  ⟨h.own, h.lv, r.trans h.rest, Nat.le_trans s h.size, fun w0 h0 hB => h.touch w0 (t w0 h0 hB) hB⟩
theorem with_new {B : Nat} {x y : Option Addr} {c c' : Nat} {L : List LvV} {t : TabV} {w w1 : World} (own : w.ownsRow B TTbs 1 (.slice x L.length c) L.length (L.map LvV.val)) (lv : ∀ v ∈ L, v.At w) (ht : t.At w) (hB : B ≤ w.heap.size)
    (hG : Grew (w.alloc (.cells #[.slice none 0 0] TTbs)) w1 B TTbs 1 (.slice x L.length c) (.slice y (L.length + 1) c') L.length 1 (L.map LvV.val) [.slice none 0 0]) :
    ∃ g yy cc w2 L', y = some ⟨g, 0, none⟩ ∧ w1.cell? ⟨g, L.length, none⟩ = some (.slice none 0 0) ∧ (Builtin.append_ #[TTbs, TTbs] TTbs #[.slice none 0 0, .slice (some ⟨w1.heap.size, 0, none⟩) 1 1]).run Try.prog (w1.alloc (.cells #[t.val] TTb)) = .ok (.slice yy 1 cc) w2 ∧
      w2.cell? ⟨g, L.length, none⟩ = some (.slice none 0 0) ∧ w2.frozen? ⟨g, L.length, none⟩ = false ∧ WithR w (w2.setCell ⟨g, L.length, none⟩ (.slice yy 1 cc)) B (some ⟨g, 0, none⟩) c' L' ∧ L'.length = L.length + 1 ∧ L'.map LvV.ts = putT (L.map LvV.ts) L.length t := by
  have ra : Rest [TTbs] w w1 := (Rest.touch ((Touch.refl [] w).alloc _)).trans (hG.rest (own.alloc _) (by simp))
  have hgr := hG.grown
  have hs : w.heap.size ≤ w1.heap.size := by have := hgr.size; simp at this; omega
  have ha : ∀ w0, Touch [] w0 w → w0.heap.size ≤ B → Touch [] w0 w1 := fun w0 h0 hb => hG.touch (own.alloc _) (h0.alloc _) hb
  have lv1 : ∀ v ∈ L ++ [(⟨none, 0, []⟩ : LvV)], LvV.At w1 v := fun v hv => by
    rcases List.mem_append.1 hv with h | h
    · exact (lv v h).rest ra (by decide) (by decide)
    · obtain rfl := List.mem_singleton.1 h
      exact ⟨World.ownsRow_nil _ _ _ _, by simp⟩
  have ht1 : t.At w1 := ht.rest ra (by decide)
  obtain ⟨g, cur, rfl⟩ : ∃ (g : Nat) (_ : Nat), y = some ⟨g, 0, none⟩ := by
    rcases hG.own.2 with ⟨_, h0⟩ | ⟨g', cap, cur, e', _⟩
    · omega
    · cases e'; exact ⟨g', 0, rfl⟩
  have o1 : w1.ownsRow B TTbs 1 (.slice (some ⟨g, 0, none⟩) (L ++ [(⟨none, 0, []⟩ : LvV)]).length c') (L ++ [(⟨none, 0, []⟩ : LvV)]).length ((L ++ [(⟨none, 0, []⟩ : LvV)]).map LvV.val) := by
    rw [List.length_append, List.map_append]
    exact hG.own
  have hk : L.length < (L ++ [(⟨none, 0, []⟩ : LvV)]).length := by simp
  have hget : (L ++ [(⟨none, 0, []⟩ : LvV)])[L.length] = ⟨none, 0, []⟩ := by simp
  obtain ⟨yy, cc, w2, hr, own2, T⟩ := append_clip w1 none 0 [] (fun i hi => absurd hi (by simp)) (by simp) rfl (fun _ => rfl) (by omega) t.val rfl TTbs
  have E := with_end o1 lv1 hk t ht1 yy cc (by rw [hget]; exact own2) T
  have M := map_set_ts (L ++ [(⟨none, 0, []⟩ : LvV)]) L.length hk yy cc t
  have c1 := row_cell o1 (i := L.length) (by simp)
  have c2 := row_cell (owns_touch o1 T) (i := L.length) (by simp)
  have hv : ((L ++ [(⟨none, 0, []⟩ : LvV)]).map LvV.val)[L.length]'(by simp) = .slice none 0 0 := by simp [LvV.val]
  rw [hv] at c1 c2
  simp only [hget] at E M
  refine ⟨g, yy, cc, w2, (L ++ [(⟨none, 0, []⟩ : LvV)]).set L.length ⟨yy, cc, [] ++ [t]⟩, rfl, c1.1, hr, c2.1, c2.2, WithR.after E ra hs ha, by simp, ?_⟩
  rw [M]
  unfold putT
  rw [if_pos (by simp)]
  simp
set_option maxHeartbeats 2000000 in
theorem with14_any {B : Nat} {x : Option Addr} {c : Nat} {L : List LvV} (k : Nat) {t : TabV} {w : World} (own : w.ownsRow B TTbs 1 (.slice x L.length c) L.length (L.map LvV.val)) (lv : ∀ v ∈ L, v.At w) (ht : t.At w) (hk : k ≤ L.length) (hB : B ≤ w.heap.size) (nL : L.length ≤ 100000) (nT : ∀ v ∈ L, v.ts.length ≤ 100000) :
    Calls Try.prog 30 #[.slice x L.length c, .int .i64 k, t.val] w fun e w' => ∃ x' c' L', e = .returned (.slice x' L'.length c') ∧ WithR w w' B x' c' L' ∧ L'.map LvV.ts = putT (L.map LvV.ts) k t := by
  by_cases hkl : k = L.length
  · subst hkl
    obtain ⟨i0, hi, hz0, hz1, hz2⟩ := info_parts infoTbs
    have NEW := hid fun (y : Option Addr) (c' : Nat) (w1 : World) hG => with_new (y := y) (c' := c') (w1 := w1) own lv ht hB hG
    have HO := hid own
    have CL := hid fun w1 => clip_any none 0 0 w1 (Nat.le_refl _) (fun _ => rfl) (by omega)
    have hd : decide (L.length = L.length) = true := by simp
    generalize hp : putT (L.map LvV.ts) L.length t = P at *
    clear hp own lv ht nT
    generalize L.map LvV.val = vs at *
    generalize L.length = n at *
    have hI : (n : Int) < (n : Int) + 1 := by omega
    have hI2 : n < n + 1 := by omega
    unfold TabV.val at *
    go_enter Try.func30, Try.ntmps30
    go_wp2_with (first
      | (go_at_call 52; refine (CL.out _).mono ?_; rintro e w1 ⟨rfl, h⟩; have h := h.symm; subst h)
      | (at_builtin; refine wpList_append_run _ rfl _ _ _ _ rfl _ _ rfl rfl _ _ hr ?_)
      | (at_builtin; refine wpList_append_grew _ rfl _ _ TLvs rfl B TTbs i0 (.slice none 0 0) 1 24 Try.underlying49 hi hz0 hz1 hz2 rfl (by decide) _ n vs rfl (HO.out.alloc _) (.slice (some ⟨w.heap.size, 0, none⟩) 1 1) 1 0 [.slice none 0 0] rfl (lit_one _ _ _ _ rfl) (by intro u hu; simp at hu; subst hu; rfl) (by omega) (by decide) (by simp; omega) ?_; intro y c1 w1 hG; obtain ⟨g, yy, cc, w2, L', rfl, e1, hr, e2, f2, R, hl, hm⟩ := NEW.out _ _ _ hG; have R := hid R; clear hG))
    go_ret
    exact ⟨_, _, L', by rw [hl]; rfl, R.out, hm⟩
  · have hlt : k < L.length := by omega
    have hI : (k : Int) < L.length := by omega
    obtain ⟨x', c', e', -, hform⟩ := slice_form own
    cases e'
    cases x with
    | none => 
      rcases own.2 with ⟨_, h0⟩ | ⟨g', cap, cur, e', _⟩
      · omega
      · cases e'
    | some ad =>
    obtain ⟨g, rfl⟩ := hform ad rfl
    have hc := row_cell own (i := k) (by simpa using hlt)
    rw [List.getElem_map] at hc
    have hv := lv _ (List.getElem_mem hlt)
    obtain ⟨y, cc, w2, hr, own2, T⟩ := append_clip w L[k].x L[k].ts.length (L[k].ts.map TabV.val) hv.row (tvals_one' _) (by simp) (fun h => by have := row_cap hv.own; have := this.2 h; omega) (by have := nT _ (List.getElem_mem hlt); omega) t.val rfl TTbs
    have o2 := owns_touch own T
    have hc2 := (row_cell o2 (i := k) (by simpa using hlt)).2
    have E := hid (with_end own lv hlt t ht y cc own2 T)
    have M := hid (map_set_ts L k hlt y cc t)
    have SL := hid (show (L.set k ⟨y, cc, L[k].ts ++ [t]⟩).length = L.length from List.length_set)
    have CL := hid (clip_any L[k].x L[k].ts.length L[k].c w (row_cap hv.own).1 (row_cap hv.own).2 (by have := nT _ (List.getElem_mem hlt); omega))
    have hd : decide (k = L.length) = false := by simpa using hkl
    obtain ⟨c0, f0⟩ := hc
    have c2 := T.cell c0
    have hp : putT (L.map LvV.ts) k t = (L.map LvV.ts).modify k (· ++ [t]) := by unfold putT; rw [if_neg (by simpa using hkl)]
    rw [hp]
    clear hp own2 T o2 own lv ht hv nT hform
    generalize L.set k ⟨y, cc, L[k].ts ++ [t]⟩ = L' at *
    generalize L[k] = v at *
    unfold LvV.val TabV.val at *
    go_enter Try.func30, Try.ntmps30
    go_wp2_with (first
      | (go_at_call 52; refine CL.out.mono ?_; rintro e w1 ⟨rfl, h⟩; have h := h.symm; subst h)
      | (at_builtin; refine wpList_append_run _ rfl _ _ _ _ rfl _ _ rfl rfl _ _ hr ?_))
    go_ret
    exact ⟨_, _, L', by rw [SL.out]; rfl, E.out, M.out⟩
end Go.Proofs.Ytnkflmimnpolcaa
