/- Frames ahead of any bytes; a list of texts put behind a row of one's own. -/
import Derived.Test.YtkkalnegojhapaaCut8
import Derived.Test.YtkkalnegojhapaaFrn8
import Derived.Laws.AppendOwnNone
import Derived.Deep.AppendLies
namespace Go.Proofs.Ytkkalnegojhapaa
open Go.RowKit Go.Lib Go.ChangeShapes
set_option maxRecDepth 100000

theorem frS_join (l : List ByteArray) (h : ∀ s ∈ l, s.size ≤ 4000) (more : ByteArray) :
    allOf (frS l ++ more).data.toList = (dat l ++ (allOf more.data.toList).1, (frS l).size + (allOf more.data.toList).2) := by
  have e : (frS l ++ more).data.toList = frames (dat l) ++ more.data.toList := by rw [← frS_toList]; simp
  rw [e, all_frames _ _ (fun d hd => by
    obtain ⟨s, hs, rfl⟩ := List.mem_map.1 hd
    rw [list_len]; exact h s hs), frS_size, frames_len]

/-- A list of texts put behind a row of the call's own, in a step with a guard. -/
theorem wpList_append_texts {w : World} {ops : Array Oper} {rest : List Oper} {o : Oper} {a : Act} {Q : Exit → Act → World → Prop} (hw : Region.wanted o (yielded ops a.tmps) = true) (s x : Operand)
    (ho : o.op = .call { callee := .builtin .append, args := #[s, x], argTypes := #[37, 37] })
    (base : Nat) (v : Value) (n : Nat) (xs : List Value) (hs : a.eval s = v) (hown : w.ownsRow base tStr 1 v n xs)
    (y : Option Addr) (l : List ByteArray) (c : Nat) (hx : a.eval x = .slice y l.length c) (hT : TextsX w y l) (hnone : y = none → c = 0 ∧ l = []) (h63 : n + l.length ≤ 1000000) (hbase : base ≤ w.heap.size)
    (h : ∀ v' w', w'.ownsRow base tStr 1 v' (n + l.length) (xs ++ l.map Value.string) → (w' = w ∧ v' = v ∨ w.grownBy w' v.ownBlock) → wpList Try.prog ops Q rest (a.put o.dst v') w') : wpList Try.prog ops Q (o :: rest) a w := by
  obtain ⟨i0, hi, hz0, hz1, hz2⟩ := info_parts Try.infoStr
  cases y with
  | none =>
    obtain ⟨rfl, rfl⟩ := hnone rfl
    refine wpList_step fun _ hK => ?_
    rw [if_pos hw]
    have hrun := run_append_owned_none (P := Try.prog) (w := w) base 37 o.type tStr i0 1 Try.underlying37 hi v n xs hown
    have hx2 : a.eval x = .slice none 0 0 := hx
    unfold Oper.wp
    simp [execOp, ho, resolve, invoke, builtin, hs, hx2, hrun, Result.andThen]
    exact hK _ _ (h v w (by simpa using hown) (.inl ⟨rfl, rfl⟩))
  | some ad =>
    refine wpList_append_own_g w hw s x 37 ho base tStr i0 (.string ⟨#[]⟩) 1 16 Try.underlying37 hi hz0 hz1 hz2 rfl (by decide) v n xs hs hown ad l.length c (l.map Value.string) hx (by simp) (fun j u hu => ?_) (by intro u hu; obtain ⟨t, _, rfl⟩ := List.mem_map.1 hu; rfl) (by unfold maxLen; omega) (by omega) hbase (fun v' w' h1 h2 _ => h v' w' h1 (.inr h2))
    have hj : j < l.length := by
      have := List.getElem?_eq_some_iff.1 hu
      obtain ⟨h1, _⟩ := this
      simpa using h1
    obtain ⟨b, off, e1, e2, _⟩ := hT j hj
    cases e1
    rw [show (⟨b, off, none⟩ : Addr).add j = ⟨b, off + j, none⟩ from by unfold Addr.add; split <;> simp_all, e2]
    rw [List.getElem?_map, List.getElem?_eq_getElem hj] at hu
    exact hu

theorem texts_of_row {w : World} {base n : Nat} {v : Value} {l : List ByteArray} {xs : List Value} (h : w.ownsRow base tStr 1 v n xs) (hn : n = l.length) (hxs : xs = l.map Value.string) (hz : ∀ s ∈ l, s.size ≤ maxLen) :
    ∃ x c, v = .slice x l.length c ∧ TextsX w x l ∧ (x = none → c = 0 ∧ l = []) := by
  subst hn hxs
  have hh := h
  rcases h.2 with ⟨rfl, h0⟩ | ⟨g, cap, cur, rfl, hb, _, hc, hm, _⟩
  · have hl := List.eq_nil_of_length_eq_zero h0
    subst hl
    exact ⟨none, 0, rfl, fun i hi => by simp at hi, fun _ => ⟨rfl, rfl⟩⟩
  · refine ⟨some ⟨g, 0, none⟩, cap, rfl, fun i hi => ?_, fun e => by cases e⟩
    refine ⟨g, 0, rfl, ?_, hz _ (List.getElem_mem hi)⟩
    have := hh.cells (g := g) rfl i (.string l[i]) (by simp [hi])
    rw [show (⟨g, 0, none⟩ : Addr).add i = ⟨g, i, none⟩ from by unfold Addr.add; split <;> simp_all] at this
    rw [Nat.zero_add]
    exact this
theorem all_row {w : World} {base : Nat} {v : Value} {L : List (List UInt8)} (h : w.ownsRow base tStr 1 v L.length (txtCells L)) (hz : ∀ d ∈ L, d.length ≤ 4000) :
    ∃ x c, v = .slice x (L.map bytesT).length c ∧ TextsX w x (L.map bytesT) ∧ (x = none → c = 0 ∧ L.map bytesT = []) :=
  texts_of_row h (by simp) (by unfold txtCells; rw [List.map_map]; rfl) (fun s hs => by
    obtain ⟨d, hd, rfl⟩ := List.mem_map.1 hs
    rw [bytesT_size]
    have := hz d hd
    unfold maxLen; omega)
end Go.Proofs.Ytkkalnegojhapaa
