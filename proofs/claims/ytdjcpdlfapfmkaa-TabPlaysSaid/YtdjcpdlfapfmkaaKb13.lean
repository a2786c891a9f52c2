/- The book of lists of entries and of ints, with what is about to be kept. -/
import Derived.Test.YtdjcpdlfapfmkaaBkApEI
namespace Go.Proofs.Ytdjcpdlfapfmkaa
set_option maxRecDepth 100000
open Go.RowKit Go.Lib Go.ChangeShapes Go.WideShapes

/-- What the book holds: so many lists of entries, of ints; and what lies apart from them. -/
structure KBk (w : World) (b0 kb nE nI : Nat) (pE pI : List Value) : Prop where
  ge : b0 ≤ kb
  ex : ∃ (c : Cs) (vsE usE : List Value) (LsE : List (List En)) (vsI usI : List Value) (LsI : List (List Int)), BkBlk w kb c ∧ Kept kdE w b0 (c 6) (c 7) vsE usE LsE ∧ Kept kdI w b0 (c 2) (c 3) vsI usI LsI ∧ c 0 = nilS ∧ c 4 = nilS ∧ c 8 = nilS ∧ c 10 = nilS ∧ LsE.length = nE ∧ LsI.length = nI ∧ (∀ p ∈ pE, ∀ u ∈ vsE ++ usE, Far u p) ∧ (∀ p ∈ pI, ∀ u ∈ vsI ++ usI, Far u p)
theorem KBk.rest {w w' : World} {b0 kb nE nI : Nat} {pE pI : List Value} {ts : List TypeId} (h : KBk w b0 kb nE nI pE pI) (r : Rest ts w w') (h1 : TBook ∉ ts) (h2 : TEn ∉ ts) (h3 : TEns ∉ ts) (h4 : TInt ∉ ts) (h5 : TInts ∉ ts) : KBk w' b0 kb nE nI pE pI := by
  obtain ⟨ge, c, vsE, usE, LsE, vsI, usI, LsI, hB, hE, hI, r4⟩ := h
  exact ⟨ge, c, vsE, usE, LsE, vsI, usI, LsI, r.blk hB h1, hE.rest r h2 h3, hI.rest r h4 h5, r4⟩
theorem KBk.touch {w w' : World} {b0 kb nE nI : Nat} {pE pI : List Value} (h : KBk w b0 kb nE nI pE pI) (t : Touch [] w w') : KBk w' b0 kb nE nI pE pI :=
  h.rest (ts := []) (Rest.touch t) (by simp) (by simp) (by simp) (by simp) (by simp)
theorem KBk.pendE {w w' : World} {b0 kb nE nI n : Nat} {pE pI : List Value} {v : Value} {xs : List Value} (h : KBk w b0 kb nE nI pE pI) (t : Touch [] w w') (hv : w'.ownsRow w.heap.size TEn 3 v n xs) : KBk w' b0 kb nE nI (v :: pE) pI := by
  obtain ⟨ge, c, vsE, usE, LsE, vsI, usI, LsI, hB, hE, hI, z0, z4, z8, z10, n1, n2, p1, p2⟩ := h
  refine ⟨ge, c, vsE, usE, LsE, vsI, usI, LsI, bk_touch hB t, hE.touch t, hI.touch t, z0, z4, z8, z10, n1, n2, fun p hp u hu => ?_, p2⟩
  rcases List.mem_cons.1 hp with rfl | hp
  · obtain ⟨m, ys, hr⟩ := hE.row u hu
    exact far_new hr hv (Nat.le_refl _)
  · exact p1 p hp u hu
theorem KBk.pendI {w w' : World} {b0 kb nE nI n : Nat} {pE pI : List Value} {v : Value} {xs : List Value} (h : KBk w b0 kb nE nI pE pI) (t : Touch [] w w') (hv : w'.ownsRow w.heap.size TInt 1 v n xs) : KBk w' b0 kb nE nI pE (v :: pI) := by
  obtain ⟨ge, c, vsE, usE, LsE, vsI, usI, LsI, hB, hE, hI, z0, z4, z8, z10, n1, n2, p1, p2⟩ := h
  refine ⟨ge, c, vsE, usE, LsE, vsI, usI, LsI, bk_touch hB t, hE.touch t, hI.touch t, z0, z4, z8, z10, n1, n2, p1, fun p hp u hu => ?_⟩
  rcases List.mem_cons.1 hp with rfl | hp
  · obtain ⟨m, ys, hr⟩ := hI.row u hu
    exact far_new hr hv (Nat.le_refl _)
  · exact p2 p hp u hu
theorem KBk.putE {w : World} {b0 kb nE nI : Nat} {pE pI : List Value} {v : Value} {L : List En} {bv : Nat} (h : KBk w b0 kb nE nI (v :: pE) pI) (hv : w.ownsRow bv TEn 3 v L.length (envals L)) (hbv : b0 ≤ bv) (hf : ∀ p ∈ pE, Far v p ∧ ∃ b n xs, w.ownsRow b TEn 3 p n xs) (hn : nE < 250) (hL : L.length ≤ 3100) (hb : b0 ≤ w.heap.size) :
    Calls Try.prog 19 #[.pointer (some ⟨kb, 0, none⟩), v] w fun e w' => e = .returned (.tuple #[]) ∧ Rest [TBook, TEns] w w' ∧ Newer w b0 w' ∧ w.heap.size ≤ w'.heap.size ∧ KBk w' b0 kb (nE + 1) nI pE pI := by
  obtain ⟨ge, c, vsE, usE, LsE, vsI, usI, LsI, hB, hE, hI, z0, z4, z8, z10, n1, n2, p1, p2⟩ := h
  refine (putE1_any kb b0 c vsE usE LsE v bv L w hB ge hE hv hbv (p1 v (by simp)) (by omega) hL hb).mono ?_
  rintro e w' ⟨rfl, r, new, sz, tv', wv', u, hB', hK', hu⟩
  refine ⟨rfl, r, new, sz, ge, _, _, _, _, vsI, usI, LsI, hB', by simpa only [upd_same, upd_other _ _ (show (6 : Fin 12) ≠ 7 by decide)] using hK', ?_, by simpa [upd] using z0, by simpa [upd] using z4, by simpa [upd] using z8, by simpa [upd] using z10, by simp; omega, n2, fun p hp x hx => ?_, p2⟩
  · have := hI.rest r (by decide) (by decide)
    simpa [upd] using this
  · obtain ⟨f1, b, n, xs, hr⟩ := hf p hp
    have hx2 : x ∈ vsE ++ usE ∨ x = v ∨ x = u := by
      simp only [List.mem_append, List.mem_cons, List.not_mem_nil, or_false] at hx ⊢
      rcases hx with (h1 | h1) | (h1 | h1) <;> simp [h1]
    rcases hx2 with h1 | rfl | rfl
    · exact p1 p (List.mem_cons_of_mem _ hp) x h1
    · exact f1
    · intro k hk hk2
      have h1 := hu k hk
      have h2 := (hr.lt k hk2).2
      omega
theorem KBk.putI {w : World} {b0 kb nE nI : Nat} {pE pI : List Value} {v : Value} {L : List Int} {bv : Nat} (h : KBk w b0 kb nE nI pE (v :: pI)) (hv : w.ownsRow bv TInt 1 v L.length (intV L)) (hbv : b0 ≤ bv) (hf : ∀ p ∈ pI, Far v p ∧ ∃ b n xs, w.ownsRow b TInt 1 p n xs) (hn : nI < 250) (hL : L.length ≤ 3100) (hb : b0 ≤ w.heap.size) :
    Calls Try.prog 20 #[.pointer (some ⟨kb, 0, none⟩), v] w fun e w' => e = .returned (.tuple #[]) ∧ Rest [TBook, TInts] w w' ∧ Newer w b0 w' ∧ w.heap.size ≤ w'.heap.size ∧ KBk w' b0 kb nE (nI + 1) pE pI := by
  obtain ⟨ge, c, vsE, usE, LsE, vsI, usI, LsI, hB, hE, hI, z0, z4, z8, z10, n1, n2, p1, p2⟩ := h
  refine (putI1_any kb b0 c vsI usI LsI v bv L w hB ge hI hv hbv (p2 v (by simp)) (by omega) hL hb).mono ?_
  rintro e w' ⟨rfl, r, new, sz, tv', wv', u, hB', hK', hu⟩
  refine ⟨rfl, r, new, sz, ge, _, vsE, usE, LsE, _, _, _, hB', ?_, by simpa only [upd_same, upd_other _ _ (show (2 : Fin 12) ≠ 3 by decide)] using hK', by simpa [upd] using z0, by simpa [upd] using z4, by simpa [upd] using z8, by simpa [upd] using z10, n1, by simp; omega, p1, fun p hp x hx => ?_⟩
  · have := hE.rest r (by decide) (by decide)
    simpa [upd] using this
  · obtain ⟨f1, b, n, xs, hr⟩ := hf p hp
    have hx2 : x ∈ vsI ++ usI ∨ x = v ∨ x = u := by
      simp only [List.mem_append, List.mem_cons, List.not_mem_nil, or_false] at hx ⊢
      rcases hx with (h1 | h1) | (h1 | h1) <;> simp [h1]
    rcases hx2 with h1 | rfl | rfl
    · exact p2 p (List.mem_cons_of_mem _ hp) x h1
    · exact f1
    · intro k hk hk2
      have h1 := hu k hk
      have h2 := (hr.lt k hk2).2
      omega
theorem KBk.apart {w : World} {b0 kb nE nI : Nat} {pE pI : List Value} (h : KBk w b0 kb nE nI pE pI) (hb : b0 ≤ w.heap.size) :
    Calls Try.prog 29 #[.pointer (some ⟨kb, 0, none⟩)] w fun e w' => e = .returned (.bool true) ∧ Newer w b0 w' := by
  obtain ⟨ge, c, vsE, usE, LsE, vsI, usI, LsI, hB, hE, hI, z0, z4, z8, z10, n1, n2, p1, p2⟩ := h
  exact apartEI_any kb b0 c vsE usE LsE vsI usI LsI w hB hI hE z0 z4 z8 z10 hb
theorem KBk.start {w : World} {b0 kb : Nat} (ge : b0 ≤ kb) (hB : BkBlk w kb (fun _ => nilS)) : KBk w b0 kb 0 0 [] [] :=
  ⟨ge, _, [], [], [], [], [], [], hB, Kept.none _ _ _, Kept.none _ _ _, rfl, rfl, rfl, rfl, rfl, rfl, by simp, by simp⟩
end Go.Proofs.Ytdjcpdlfapfmkaa
