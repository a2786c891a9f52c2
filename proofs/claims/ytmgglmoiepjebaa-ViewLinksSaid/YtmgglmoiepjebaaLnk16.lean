/- Links: all copied, then each put in its place. -/
import Derived.Test.YtmgglmoiepjebaaLst16
namespace Go.Proofs.Ytmgglmoiepjebaa
open Go.RowKit Go.Lib Go.ChangeShapes Go.WideShapes Go.Shelf
set_option maxRecDepth 100000

@[reducible] def setR (W : World) (b o : Nat) (s : StoD) : World :=
  (((((((W.setCell ⟨b, o, none⟩ (.int .i64 s.id)).setCell ⟨b, o + 1, none⟩ (.string s.typ)).setCell ⟨b, o + 2, none⟩ (.string s.data)).setCell ⟨b, o + 3, none⟩ (.float .f64 s.value)).setCell ⟨b, o + 4, none⟩ (.string s.stream)).setCell ⟨b, o + 5, none⟩ (.int .i64 s.version)).setCell ⟨b, o + 6, none⟩ (.int .i64 s.position)).setCell ⟨b, o + 7, none⟩ (.int .i64 s.time)
def setL (cur : List Value) (o : Nat) (s : StoD) : List Value := (((((((cur.set o (.int .i64 s.id)).set (o + 1) (.string s.typ)).set (o + 2) (.string s.data)).set (o + 3) (.float .f64 s.value)).set (o + 4) (.string s.stream)).set (o + 5) (.int .i64 s.version)).set (o + 6) (.int .i64 s.position)).set (o + 7) (.int .i64 s.time)
theorem setL_other {cur : List Value} {o j : Nat} {s : StoD} (h : j < o ∨ o + 8 ≤ j) : (setL cur o s)[j]? = cur[j]? := by
  unfold setL
  repeat rw [List.getElem?_set_ne (by omega)]
theorem setL_at {cur : List Value} {o r : Nat} {s : StoD} (h : o + 8 ≤ cur.length) (hr : r < 8) : (setL cur o s)[o + r]? = s.list[r]? := by
  unfold setL StoD.list
  match r, hr with
  | 0, _ => (repeat (first | rw [List.getElem?_set_ne (by omega)] | rw [List.getElem?_set_self (by first | omega | (simp; omega))])); first | rfl | (simp; done) | (simp only [Nat.add_zero]; rw [List.getElem?_set_self (by omega)]; rfl)
  | 1, _ => (repeat (first | rw [List.getElem?_set_ne (by omega)] | rw [List.getElem?_set_self (by first | omega | (simp; omega))])); first | rfl | (simp; done) | (simp only [Nat.add_zero]; rw [List.getElem?_set_self (by omega)]; rfl)
  | 2, _ => (repeat (first | rw [List.getElem?_set_ne (by omega)] | rw [List.getElem?_set_self (by first | omega | (simp; omega))])); first | rfl | (simp; done) | (simp only [Nat.add_zero]; rw [List.getElem?_set_self (by omega)]; rfl)
  | 3, _ => (repeat (first | rw [List.getElem?_set_ne (by omega)] | rw [List.getElem?_set_self (by first | omega | (simp; omega))])); first | rfl | (simp; done) | (simp only [Nat.add_zero]; rw [List.getElem?_set_self (by omega)]; rfl)
  | 4, _ => (repeat (first | rw [List.getElem?_set_ne (by omega)] | rw [List.getElem?_set_self (by first | omega | (simp; omega))])); first | rfl | (simp; done) | (simp only [Nat.add_zero]; rw [List.getElem?_set_self (by omega)]; rfl)
  | 5, _ => (repeat (first | rw [List.getElem?_set_ne (by omega)] | rw [List.getElem?_set_self (by first | omega | (simp; omega))])); first | rfl | (simp; done) | (simp only [Nat.add_zero]; rw [List.getElem?_set_self (by omega)]; rfl)
  | 6, _ => (repeat (first | rw [List.getElem?_set_ne (by omega)] | rw [List.getElem?_set_self (by first | omega | (simp; omega))])); first | rfl | (simp; done) | (simp only [Nat.add_zero]; rw [List.getElem?_set_self (by omega)]; rfl)
  | 7, _ => (repeat (first | rw [List.getElem?_set_ne (by omega)] | rw [List.getElem?_set_self (by first | omega | (simp; omega))])); first | rfl | (simp; done) | (simp only [Nat.add_zero]; rw [List.getElem?_set_self (by omega)]; rfl)
theorem setL_len {cur : List Value} {o : Nat} {s : StoD} : (setL cur o s).length = cur.length := by unfold setL; simp
theorem setL_take {cur : List Value} {xs : List StoD} {k : Nat} {s : StoD} (hk : k < xs.length) (h : cur.take (xs.length * 8) = stoVals xs) : (setL cur (k * 8) s).take (xs.length * 8) = stoVals (xs.set k s) := by
  have hlen : xs.length * 8 ≤ cur.length := by
    have := congrArg List.length h
    rw [List.length_take, stoVals_len] at this
    omega
  refine List.ext_getElem? fun j => ?_
  by_cases hj : j < xs.length * 8
  · rw [List.getElem?_take_of_lt hj]
    obtain ⟨q, r, hr, rfl⟩ : ∃ q r, r < 8 ∧ j = q * 8 + r := ⟨j / 8, j % 8, Nat.mod_lt _ (by decide), by omega⟩
    have hq : q < xs.length := by omega
    rw [stoVals_at (xs.set k s) q r (by rw [List.length_set]; exact hq) hr, List.getElem_set]
    by_cases hqk : k = q
    · subst hqk
      rw [if_pos rfl, setL_at (by omega) hr]
    · rw [if_neg hqk, setL_other (by omega)]
      have h2 : cur[q * 8 + r]? = (stoVals xs)[q * 8 + r]? := by rw [← h, List.getElem?_take_of_lt hj]
      rw [h2, stoVals_at xs q r hq hr]
  · rw [List.getElem?_eq_none (by rw [List.length_take]; omega), List.getElem?_eq_none (by rw [stoVals_len, List.length_set]; omega)]

theorem row_put {W : World} {base n cap b off k : Nat} {xs : List StoD} (h : W.ownsRow base TSto 8 (.slice (some ⟨b, off, none⟩) n cap) n (stoVals xs)) (hn : n = xs.length) (hk : k < xs.length) (s : StoD) :
    (setR W b (off + k * 8) s).ownsRow base TSto 8 (.slice (some ⟨b, off, none⟩) n cap) n (stoVals (xs.set k s)) := by
  refine ⟨by rw [stoVals_len, List.length_set, hn], .inr ?_⟩
  rcases h.2 with ⟨hv, _⟩ | ⟨g, cap', cur, hv, hb, hh, hc, hm, hs, ht⟩
  · cases hv
  · simp only [Value.slice.injEq, Option.some.injEq, Addr.mk.injEq, and_true, true_and] at hv
    obtain ⟨⟨rfl, rfl⟩, rfl⟩ := hv
    have q := heap_set (i := 0 + k * 8 + 7) (heap_set (i := 0 + k * 8 + 6) (heap_set (i := 0 + k * 8 + 5) (heap_set (i := 0 + k * 8 + 4) (heap_set (i := 0 + k * 8 + 3) (heap_set (i := 0 + k * 8 + 2) (heap_set (i := 0 + k * 8 + 1) (heap_set (i := 0 + k * 8) hh (.int .i64 s.id)) (.string s.typ)) (.string s.data)) (.float .f64 s.value)) (.string s.stream)) (.int .i64 s.version)) (.int .i64 s.position)) (.int .i64 s.time)
    refine ⟨b, cap, _, rfl, hb, q, hc, hm, by simp [hs], ?_⟩
    have e : n * 8 = xs.length * 8 := by rw [hn]
    rw [e] at ht ⊢
    rw [← setL_take hk ht]
    unfold setL
    simp
theorem row_free {W : World} {base n cap b off : Nat} {xs : List Value} (h : W.ownsRow base TSto 8 (.slice (some ⟨b, off, none⟩) n cap) n xs) (i : Nat) : W.frozen? ⟨b, i, none⟩ = false := by
  rcases h.2 with ⟨hv, _⟩ | ⟨g, cap', cur, hv, hb, hh, _⟩
  · cases hv
  · simp only [Value.slice.injEq, Option.some.injEq, Addr.mk.injEq, and_true, true_and] at hv
    obtain ⟨⟨rfl, rfl⟩, rfl⟩ := hv
    exact free_of hh i
theorem row_base {W : World} {base n cap b off : Nat} {xs : List Value} (h : W.ownsRow base TSto 8 (.slice (some ⟨b, off, none⟩) n cap) n xs) : base ≤ b := own_row h b rfl
theorem setR_touch {F : List Nat} {w W : World} {b o : Nat} {s : StoD} (t : Touch F w W) (h : b ∈ F ∨ w.heap.size ≤ b) : Touch F w (setR W b o s) := by
  unfold setR
  repeat' refine Touch.setCell ?_ h _
  exact t
theorem mix_set {L : List StoD} {f : StoD → StoD} {k : Nat} (hk : k < L.length) : ((L.take k).map f ++ L.drop k).set k (f L[k]) = (L.take (k + 1)).map f ++ L.drop (k + 1) := by
  have hl : ((L.take k).map f).length = k := by simp; omega
  rw [List.set_append_right _ _ (by omega), hl, Nat.sub_self, List.drop_eq_getElem_cons hk, List.set_cons_zero, List.take_succ_eq_append_getElem hk, List.map_append, List.append_assoc]
  rfl
theorem mix_at {L : List StoD} {f : StoD → StoD} {k : Nat} (hk : k < L.length) : ((L.take k).map f ++ L.drop k)[k]? = some L[k] := by
  have hl : ((L.take k).map f).length = k := by simp; omega
  rw [List.getElem?_append_right (by omega), hl, Nat.sub_self, List.drop_eq_getElem_cons hk]
  rfl
theorem row_elt {W : World} {base n cap b off k : Nat} {xs : List StoD} {s : StoD} (h : W.ownsRow base TSto 8 (.slice (some ⟨b, off, none⟩) n cap) n (stoVals xs)) (hk : xs[k]? = some s) : StoAt W b off k s := by
  rcases h.2 with ⟨hv, _⟩ | ⟨g, cap', cur, hv, _⟩
  · cases hv
  · simp only [Value.slice.injEq, Option.some.injEq, Addr.mk.injEq, and_true, true_and] at hv
    obtain ⟨⟨rfl, rfl⟩, rfl⟩ := hv
    obtain ⟨hk', rfl⟩ := List.getElem?_eq_some_iff.1 hk
    have key : ∀ j u, j < 8 → xs[k].list[j]? = some u → W.cell? ⟨b, 0 + k * 8 + j, none⟩ = some u := fun j u hj hu => by
      have := h.cells (g := b) rfl (k * 8 + j) u (by rw [stoVals_at xs k j hk' hj]; exact hu)
      rwa [add_at, ← Nat.add_assoc] at this
    exact ⟨key 0 _ (by decide) rfl, key 1 _ (by decide) rfl, key 2 _ (by decide) rfl, key 3 _ (by decide) rfl, key 4 _ (by decide) rfl, key 5 _ (by decide) rfl, key 6 _ (by decide) rfl, key 7 _ (by decide) rfl⟩

end Go.Proofs.Ytmgglmoiepjebaa
