/- A row of numbers of one's own as a stack: its parts by slices; append of a list of numbers onto it. -/
import Derived.Test.YtiglfdefeaddmaaAppT
import Derived.Test.YtiglfdefeaddmaaRefOrd
import Derived.Test.YtiglfdefeaddmaaStep
import Derived.Laws.OwnMore
namespace Go.Proofs.Ytiglfdefeaddmaa
open Go.RowKit Go.Lib

/-- The stack s (the last number first) lies in a row of its own. -/
structure Stk (base : Nat) (s : List Nat) (y : Option Addr) (cap : Nat) (W : World) : Prop where
  own : W.ownsRow base TFlt 1 (.slice y s.length cap) s.length (fvals s.reverse)
  ok : ∀ x ∈ s, Wd x ∧ can x = x

theorem flt_slice {w : World} {base n : Nat} {v : Value} {xs : List Value} (h : w.ownsRow base TFlt 1 v n xs) : ∃ y cap, v = .slice y n cap := by
  rcases h.2 with ⟨rfl, h0⟩ | ⟨g, cap, cur, rfl, _⟩
  · exact ⟨none, 0, by rw [h0]⟩
  · exact ⟨_, cap, rfl⟩
theorem flt_len {w : World} {base n : Nat} {v : Value} {l : List Nat} (h : w.ownsRow base TFlt 1 v n (fvals l)) : n = l.length := by
  have := h.1
  simp [fvals] at this
  exact this.symm
/-- A number of a row. -/
theorem flt_at {w : World} {base n cap g : Nat} {l : List Nat} (h : w.ownsRow base TFlt 1 (.slice (some ⟨g, 0, none⟩) n cap) n (fvals l)) (i : Nat) (hi : i < l.length) : w.cell? ⟨g, i, none⟩ = some (.float .f64 l[i]) := by
  have := h.cells (g := g) rfl i (.float .f64 l[i]) (by simp [fvals, hi])
  rwa [show (⟨g, 0, none⟩ : Addr).add i = ⟨g, i, none⟩ from by unfold Addr.add; split <;> simp_all] at this

theorem sizeOf_flt (w : World) : (sizeOf (Try.prog.elem 53)).run Try.prog w = .ok 1 w := by kernel_rfl
theorem elem_flt : Try.prog.underlying 53 = some (.slice (Try.prog.elem 53)) := by kernel_rfl

theorem stk_parts {base : Nat} {top rest : List Nat} {y : Option Addr} {cap : Nat} {W : World} (h : Stk base (top ++ rest) y cap W) :
    (∃ ax cx, (∀ w, (Instr.slice 53 (.slice y (top ++ rest).length cap) (some (.int .i64 (rest.length : Int))) none none).run Try.prog w = .ok (.slice ax top.length cx) w) ∧ Flts W ax top.reverse) ∧
    (∀ w, (Instr.slice 53 (.slice y (top ++ rest).length cap) none (some (.int .i64 (rest.length : Int))) none).run Try.prog w = .ok (.slice y rest.length cap) w) ∧ Flts W y rest.reverse ∧ (y = none → cap = 0 ∧ rest = []) := by
  have hlen : (top ++ rest).length = top.length + rest.length := by simp
  have hcapl : (top ++ rest).length ≤ cap ∨ (y = none ∧ cap = 0 ∧ top = [] ∧ rest = []) := by
    rcases h.own.2 with ⟨he, h0⟩ | ⟨g, cap', cur, he, _, _, hc, _⟩
    · right
      simp only [Value.slice.injEq] at he
      rw [hlen] at h0
      exact ⟨he.1, he.2.2, List.eq_nil_of_length_eq_zero (by omega), List.eq_nil_of_length_eq_zero (by omega)⟩
    · left
      simp only [Value.slice.injEq] at he
      rw [he.2.2]; exact hc
  have hcap2 : rest.length ≤ cap := by
    rcases hcapl with h1 | ⟨_, _, _, rfl⟩
    · omega
    · simp
  have hsub : (top ++ rest).length - rest.length = top.length := by omega
  have hy : ∀ x ∈ top ++ rest, Wd x := fun x hx => (h.ok x hx).1
  have hrev : (top ++ rest).reverse = rest.reverse ++ top.reverse := List.reverse_append
  refine ⟨?_, ?_, ?_, ?_⟩
  · refine ⟨if cap = rest.length then y else y.map (·.add (rest.length * 1)), cap - rest.length, fun w => ?_, fun i hi => ?_⟩
    · rw [run_slice_l (ht := elem_flt) (h0 := by omega) (h1 := by rw [hlen]; omega), sizeOf_flt, Result.andThen_ok]
      unfold sliced
      rw [Int.toNat_natCast, hsub]
    · have hi2 : i < top.length := by simpa using hi
      rcases h.own.2 with ⟨he, h0⟩ | ⟨g, cap', cur, he, _, _, hc, _⟩
      · rw [hlen] at h0; omega
      · simp only [Value.slice.injEq] at he
        obtain ⟨rfl, _, rfl⟩ := he
        have hat := flt_at (g := g) h.own (rest.length + i) (by simp; omega)
        rw [if_neg (by rw [hlen] at hc; omega)]
        refine ⟨g, rest.length, by (simp [Addr.add]; try (rintro rfl; rfl)), ?_, hy _ (List.mem_append_left _ (List.mem_reverse.1 (List.getElem_mem hi)))⟩
        rw [hat]
        congr 2
        have : (top ++ rest).reverse[rest.length + i]'(by simp; omega) = top.reverse[i] := by
          simp only [hrev]
          rw [List.getElem_append_right (by simp)]
          simp
        exact this
  · intro w
    rw [run_slice_h (ht := elem_flt) (h0 := by omega) (h2 := by omega), sizeOf_flt, Result.andThen_ok]
    unfold sliced
    have : (if cap = 0 then y else y.map (·.add (0 * 1))) = y := by
      split
      · rfl
      · cases y with
        | none => rfl
        | some a => simp [Addr.add]
    rw [Int.toNat_natCast, this]; rfl
  · intro i hi
    have hi2 : i < rest.length := by simpa using hi
    rcases h.own.2 with ⟨he, h0⟩ | ⟨g, cap', cur, he, _, _, hc, _⟩
    · rw [hlen] at h0; omega
    · simp only [Value.slice.injEq] at he
      obtain ⟨rfl, _, rfl⟩ := he
      have hat := flt_at (g := g) h.own i (by simp; omega)
      refine ⟨g, 0, rfl, ?_, ?_⟩
      · rw [Nat.zero_add, hat]
        congr 2
        simp only [hrev]
        rw [List.getElem_append_left hi]
      · exact hy _ (List.mem_append_right _ (List.mem_reverse.1 (List.getElem_mem hi)))
  · rintro rfl
    rcases hcapl with h1 | ⟨_, h2, _, h4⟩
    · rcases h.own.2 with ⟨he, h0⟩ | ⟨g, cap', cur, he, _⟩
      · simp only [Value.slice.injEq] at he
        rw [hlen] at h0
        exact ⟨he.2.2, List.eq_nil_of_length_eq_zero (by omega)⟩
      · simp at he
    · exact ⟨h2, h4⟩

theorem wpList_append_flts {w : World} {ops : Array Oper} {rest : List Oper} {o : Oper} {a : Act} {Q : Exit → Act → World → Prop} (hgd : o.guard = none) (s x : Operand)
    (ho : o.op = .call { callee := .builtin .append, args := #[s, x], argTypes := #[53, 53] })
    (base : Nat) (v : Value) (n : Nat) (xs : List Nat) (hs : a.eval s = v) (hown : w.ownsRow base TFlt 1 v n (fvals xs))
    (ax : Option Addr) (m c : Nat) (l : List Nat) (hx : a.eval x = .slice ax m c) (hm : m = l.length) (htx : Flts w ax l) (hnone : ax = none → c = 0 ∧ l = []) (hb : n + m ≤ 1000000) (hbase : base ≤ w.heap.size)
    (h : ∀ y cap w', w'.ownsRow base TFlt 1 (.slice y (n + m) cap) (n + m) (fvals (xs ++ l)) → w.grownBy w' v.ownBlock → wpList Try.prog ops Q rest (a.put o.dst (.slice y (n + m) cap)) w') : wpList Try.prog ops Q (o :: rest) a w := by
  obtain ⟨i0, hi, hz0, hz1, hz2⟩ := info_parts Try.infoFlt
  subst hm
  cases ax with
  | none =>
    obtain ⟨rfl, rfl⟩ := hnone rfl
    refine wpList_append_own_none hgd s x 53 ho base TFlt i0 1 Try.underlying53 hi v n (fvals xs) hs hown hx ?_
    obtain ⟨y, cap, rfl⟩ := flt_slice hown
    exact h y cap w (by simpa using hown) ⟨rfl, rfl, rfl, Nat.le_refl _, fun _ _ _ => rfl⟩
  | some ad =>
    have hnews : ∀ j u, (fvals l)[j]? = some u → w.cell? (ad.add j) = some u := fun j u hu => by
      unfold fvals at hu
      rw [List.getElem?_map] at hu
      cases hj : l[j]? with
      | none => rw [hj] at hu; cases hu
      | some t =>
        rw [hj] at hu
        obtain ⟨hlt, rfl⟩ := List.getElem?_eq_some_iff.1 hj
        obtain ⟨b, off, he, h2, _⟩ := htx j hlt
        obtain rfl := Option.some.inj he
        rw [show (⟨b, off, none⟩ : Addr).add j = ⟨b, off + j, none⟩ from by unfold Addr.add; split <;> simp_all, h2]
        exact hu
    refine wpList_append_own _ hgd s x 53 ho base TFlt i0 (.float .f64 0) 1 8 Try.underlying53 hi hz0 hz1 hz2 rfl (by decide) v n (fvals xs) hs hown ad l.length c (fvals l) hx (by simp [fvals]) hnews (fvals_one l) (by unfold maxLen; omega) (by omega) hbase ?_
    intro v' w' hown' hg _
    obtain ⟨y, cap, rfl⟩ := flt_slice hown'
    exact h y cap w' (by unfold fvals at *; rw [List.map_append]; exact hown') hg
end Go.Proofs.Ytiglfdefeaddmaa
