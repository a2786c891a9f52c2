/- Chapter 12's first call; lists of entries held against each other. -/
import Derived.Test.YtdjcpdlfapfmkaaAd12
import Derived.Test.YtdjcpdlfapfmkaaFi12
namespace Go.Proofs.Ytdjcpdlfapfmkaa
open Go.RowKit Go.Lib
set_option maxRecDepth 100000

theorem entX_block {w : World} {b c : Nat} {cs : Array Value} {l : List En} (hb : w.heap[b]? = some (.cells cs TEn)) (hl : cs.toList.take c = envals l) (hc : c = l.length * 3) : EntX w (some ⟨b, 0, none⟩) l := by
  have key : ∀ (l : List En) (i : Nat) (h : i < l.length), (envals l)[i * 3]? = some (.int .i64 (l[i]'h).1) ∧ (envals l)[i * 3 + 1]? = some (.int .i64 (l[i]'h).2.1) ∧ (envals l)[i * 3 + 2]? = some (.int .i64 (l[i]'h).2.2) := by
    intro l
    induction l with
    | nil => intro i h; simp at h
    | cons e l ih =>
      intro i h
      cases i with
      | zero => simp [envals, enc3]
      | succ i =>
        have := ih i (by simpa using h)
        have e1 : (i + 1) * 3 = i * 3 + 3 := by omega
        rw [e1]
        simpa [envals, enc3] using this
  intro i h
  obtain ⟨k0, k1, k2⟩ := key l i h
  rw [← hl] at k0 k1 k2
  have conv : ∀ j u, (cs.toList.take c)[j]? = some u → w.cell? ⟨b, j, none⟩ = some u := by
    intro j u hj
    rw [cell_of hb j]
    rw [List.getElem?_take] at hj
    split at hj
    · simpa using hj
    · cases hj
  exact ⟨b, 0, rfl, by simpa using conv _ _ k0, by simpa using conv _ _ k1, by simpa using conv _ _ k2⟩
theorem entX_own {w : World} {base n : Nat} {v : Value} {l : List En} (h : w.ownsRow base TEn 3 v n (envals l)) : ∃ x c, v = .slice x n c ∧ n = l.length ∧ EntX w x l := by
  have hn : n = l.length := by have := h.1; rw [envals_len] at this; omega
  rcases h.2 with ⟨rfl, h0⟩ | ⟨g, cap, cur, rfl, _, hg, hnc, _, hcs, ht⟩
  · refine ⟨none, 0, by rw [h0], hn, fun i hi => ?_⟩
    omega
  · exact ⟨_, _, rfl, hn, entX_block hg ht (by rw [hn])⟩
theorem EntX.t0 {w w' : World} {x : Option Addr} {l : List En} (h : EntX w x l) (t : Touch [] w w') : EntX w' x l := fun i hi => by
  obtain ⟨b, off, hx, c0, c1, c2⟩ := h i hi
  exact ⟨b, off, hx, t.cell c0, t.cell c1, t.cell c2⟩

theorem tabB_new (w : World) : TabB (w.alloc (.cells #[.pointer none] 79)) w.heap.size .nil := ⟨none, heap_alloc_new w _, rfl⟩
theorem last_two {p : Option Addr} {T : Tr} {w : World} (ht : TabAt w p T) (hio : T.io = [(5, 0, 3), (5, 1, 7)]) :
    Calls Try.prog 21 #[.pointer p, .int .i64 5] w fun e w' => e = .returned (.tuple #[.agg #[.int .i64 5, .int .i64 1, .int .i64 7], .bool true]) ∧ Touch [] w w' := by
  have hs : SortedE T.io := by rw [hio]; decide
  have := last_any 5 w ht hs
  rw [hio, show lastE [(5, 0, 3), (5, 1, 7)] 5 = some (5, 1, 7) by decide] at this
  exact this
theorem len_two {p : Option Addr} {T : Tr} {w : World} (ht : TabAt w p T) (hio : T.io = [(5, 0, 3), (5, 1, 7)]) :
    Calls Try.prog 28 #[.pointer p] w fun e w' => e = .returned (.int .i64 2) ∧ w' = w := by
  have := tablen_any w ht
  rw [T.ct_io, hio] at this
  exact this
set_option maxHeartbeats 1000000 in
theorem alive12_true (w : World) : Calls Try.prog 7 #[] w fun e w' => e = .returned (.bool true) ∧ Touch [] w w' := by
  obtain ⟨w1, hw1⟩ : ∃ w1, w1 = w.alloc (.cells #[.pointer none] 79) := ⟨_, rfl⟩
  obtain ⟨tb, htb⟩ : ∃ tb, tb = w.heap.size := ⟨_, rfl⟩
  have hT : TabB w1 tb .nil := by rw [hw1, htb]; exact tabB_new w
  have T1 : Touch [tb] w w1 := by rw [hw1]; exact (Touch.refl _ _).alloc _
  obtain ⟨w2, hw2⟩ : ∃ w2, w2 = w1.alloc (.cells #[.int .i64 5, .int .i64 1, .int .i64 7, .int .i64 5, .int .i64 0, .int .i64 3] TEn) := ⟨_, rfl⟩
  have T2 : Touch [] w1 w2 := by rw [hw2]; exact (Touch.refl _ _).alloc _
  have hb : w2.heap[w1.heap.size]? = some (.cells #[.int .i64 5, .int .i64 1, .int .i64 7, .int .i64 5, .int .i64 0, .int .i64 3] TEn) := by rw [hw2]; exact heap_alloc_new w1 _
  have hne : w1.heap.size ∉ [tb] := by
    obtain ⟨r, h, _⟩ := hT
    have := lt_of_block h
    simp; omega
  have e1 : addAll Tr.nil.io [(5, 1, 7), (5, 0, 3)] = [(5, 0, 3), (5, 1, 7)] := by decide
  have CA : Hid (Calls Try.prog 14 #[.pointer (some ⟨tb, 0, none⟩), .slice (some ⟨w1.heap.size, 0, none⟩) 2 2] w2 fun e w' => ∃ T', e = .returned (.int .i64 2) ∧ TabB w' tb T' ∧ T'.io = [(5, 0, 3), (5, 1, 7)] ∧ Touch [tb] w2 w') := by
    have := add_any tb .nil (some ⟨w1.heap.size, 0, none⟩) [(5, 1, 7), (5, 0, 3)] 2 2 rfl w2 (hT.t0 T2) (by simp [Tr.io]) (by simp [Tr.io]) (fun w' t => entX_block (touch_other t hb hne) (c := 6) rfl rfl)
    rw [e1] at this
    exact hid this
  have hs1 : w1.heap.size = w.heap.size + 1 := by rw [hw1]; simp
  have CN := new_any w
  rw [← hw1, ← htb] at CN
  have CNH := hid CN
  have hx2 := hid hw2
  have HTB := hid htb
  have TT : Hid (∀ w3, Touch [tb] w2 w3 → Touch [tb] w w3) := hid fun w3 t3 => (T1.trans (T2.mono (G := [tb]) (by simp)) (by simp)).trans t3 (by simp)
  clear hT hb e1 hw1 CN hw2 hs1 htb hne T1 T2
  go_enter Try.func7, Try.ntmps7
  go_wp2_with (first
    | (go_at_call 8; refine CNH.out.mono ?_; clear CNH; rintro e w' ⟨rfl, h⟩; have h := h.symm; subst h)
    | (go_at_call 14; rw [← hx2.out]; clear hx2; (refine CA.out.mono ?_; clear CA; rintro e w3 ⟨T', rfl, hT', hio, t3⟩; have HT := hid hT'; have HIO := hid hio; have T3 := hid (TT.out w3 t3); have CL := hid (last_two hT'.at hio); clear hT' hio t3))
    | (go_at_call 21; (refine CL.out.mono ?_; clear CL; rintro e w4 ⟨rfl, t4⟩; have T4 := hid t4; have CE := hid (fun o : Obj => len_two ((HT.out.t0 t4).t0 ((Touch.refl [] w4).alloc o)).at HIO.out); clear t4))
    | (go_at_call 28; refine (CE.out _).mono ?_; clear CE; rintro e w5 ⟨rfl, h⟩; have h := h.symm; subst h))
  go_ret
  exact ⟨rfl, ((T3.out.trans T4.out (by simp)).alloc _).mono (by rw [HTB.out]; simp)⟩
end Go.Proofs.Ytdjcpdlfapfmkaa
