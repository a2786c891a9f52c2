/- Crash: what stays of a row of files. -/
import Derived.Test.YthibabfojndlkaaDrop9
namespace Go.Proofs.Ythibabfojndlkaa
open Go.RowKit Go.Lib
set_option maxRecDepth 100000

/-- A list of ints that can be read. -/
def IntsR (w : World) (x : Option Addr) (ks : List Int) : Prop := ∀ i (hi : i < ks.length), ∃ b o, x = some ⟨b, o, none⟩ ∧ w.cell? ⟨b, o + i, none⟩ = some (.int .i64 ks[i])
theorem IntsR.touch {w w' : World} {x : Option Addr} {ks : List Int} (h : IntsR w x ks) (t : Touch [] w w') : IntsR w' x ks := by
  intro i hi
  obtain ⟨b, o, e, c⟩ := h i hi
  exact ⟨b, o, e, touch_cell t c (by simp)⟩
theorem ints_own {base : Nat} {v : Value} {ks : List Int} {w : World} (h : w.ownsRow base tInt 1 v ks.length (intVals ks)) : ∃ x c, v = .slice x ks.length c ∧ IntsR w x ks := by
  obtain ⟨x, c, hv, -, -, -, hc⟩ := own_form h
  refine ⟨x, c, hv, fun i hi => ?_⟩
  obtain ⟨b, hb, hcc⟩ := hc i (by simpa [intVals] using hi)
  exact ⟨b, 0, hb, by simpa [intVals] using hcc⟩

theorem keepN_le (f : Fl) (k : Int) (h : f.syn ≤ f.data.size) : keepN f k ≤ f.data.size := by unfold keepN; omega
theorem unsynced_q {w : World} {x : Px} (h : FileAt w x) (n : Nat) : Calls Try.prog 47 #[.pointer (some ⟨x.b, 0, none⟩)] (w.drewN n) fun e w' => e = .returned (.int .i64 ((x.f.data.size - x.f.syn : Nat) : Int)) ∧ ∃ m, w' = w.drewN m := by
  have t : Touch [] w (w.drewN n) := (Touch.refl _ _).drewN n
  refine (unsynced_any (h.touch t (by simp))).mono ?_
  rintro e w' ⟨rfl, m, rfl⟩
  exact ⟨rfl, n + m, by simp [World.drewN, Nat.add_assoc]⟩

/-- How far the walk through the row is: i files are done, S stays of them, 'lost' bytes are lost. -/
structure CrSt (w : World) (L : List Px) (ks : List Int) (i : Nat) (sv : Value) (lost : Nat) (S : List Px) (wr : World) : Prop where
  le : i ≤ L.length
  own : wr.ownsRow w.heap.size tPF 1 sv S.length (rowVals S)
  files : S.map (·.f) ++ crashL ((L.map (·.f)).drop i) (ks.drop i) = crashL (L.map (·.f)) ks
  lost : lost + lostL ((L.map (·.f)).drop i) (ks.drop i) = lostL (L.map (·.f)) ks
  slen : S.length ≤ i
  each : ∀ x ∈ S, FileAt wr x
  from_ : ∀ x ∈ S, ∀ b ∈ x.own, w.heap.size ≤ b ∨ ∃ j, ∃ (hj : j < L.length), j < i ∧ b ∈ L[j].own
  apart : Apart S
  touch : Touch [] w wr

theorem crst_skip {w wr wr' : World} {L : List Px} {ks : List Int} {i : Nat} {sv : Value} {lost lost' : Nat} {S : List Px} (h : CrSt w L ks i sv lost S wr) (hi : i < L.length) (t : Touch [] wr wr')
    (hz : ¬ (0 < keepN L[i].f ((ks.drop i).headD 0) ∨ L[i].f.last = true)) (hl : lost' = lost + (L[i].f.data.size - keepN L[i].f ((ks.drop i).headD 0))) : CrSt w L ks (i + 1) sv lost' S wr' := by
  have e1 : (L.map (·.f)).drop i = L[i].f :: (L.map (·.f)).drop (i + 1) := by rw [List.drop_eq_getElem_cons (by simpa using hi)]; simp
  have e2 : (ks.drop i).tail = ks.drop (i + 1) := by rw [List.tail_drop]
  refine ⟨by omega, own_touch h.own t (by simp), ?_, ?_, by have := h.slen; omega, fun x hx => (h.each x hx).touch t (by simp), fun x hx b hb => ?_, h.apart, h.touch.trans t (by simp)⟩
  · have := h.files
    rw [e1, crashL, if_neg hz, List.nil_append, e2] at this
    exact this
  · have := h.lost
    rw [e1, lostL, e2] at this
    omega
  · rcases h.from_ x hx b hb with h1 | ⟨j, hj, h1, h2⟩
    · exact .inl h1
    · exact .inr ⟨j, hj, by omega, h2⟩

theorem crst_stay {w wr w1 : World} {L : List Px} {ks : List Int} {i : Nat} {sv sv' : Value} {lost lost' : Nat} {S : List Px} {y : Px} (h : CrSt w L ks i sv lost S wr) (hi : i < L.length) (hL : Apart L) (hlt : ∀ x ∈ L, ∀ b ∈ x.own, b < w.heap.size) (t : Touch (sv.ownBlock.toList) wr w1)
    (hz : 0 < keepN L[i].f ((ks.drop i).headD 0) ∨ L[i].f.last = true) (hl : lost' = lost + (L[i].f.data.size - keepN L[i].f ((ks.drop i).headD 0)))
    (hy : y.f = lastF (cutF L[i].f (keepN L[i].f ((ks.drop i).headD 0)))) (hfy : FileAt w1 y) (hyo : ∀ b ∈ y.own, b ∈ L[i].own ∨ wr.heap.size ≤ b) (hown : w1.ownsRow w.heap.size tPF 1 sv' (S.length + 1) (rowVals (S ++ [y]))) : CrSt w L ks (i + 1) sv' lost' (S ++ [y]) w1 := by
  have e1 : (L.map (·.f)).drop i = L[i].f :: (L.map (·.f)).drop (i + 1) := by rw [List.drop_eq_getElem_cons (by simpa using hi)]; simp
  have e2 : (ks.drop i).tail = ks.drop (i + 1) := by rw [List.tail_drop]
  have hob := own_base h.own
  have hne : ∀ x ∈ S, ∀ k ∈ x.own, k ∉ sv.ownBlock.toList := by
    intro x hx k hk hm
    rcases h.own.2 with ⟨e, _⟩ | ⟨g, cap, cur, e, hb, hg, _⟩
    · rw [e] at hm; simp [Value.ownBlock] at hm
    · rw [e] at hm
      simp [Value.ownBlock] at hm
      subst hm
      have hf := h.each x hx
      simp only [Px.own, List.mem_cons] at hk
      rcases hk with hk | hk | hk
      · subst hk; exact ne_type hg hf.head (by decide) rfl
      · subst hk; exact ne_type hg hf.pool (by decide) rfl
      · exact hf.pv.ne hg (by decide) _ hk (by simp)
  refine ⟨by omega, by simpa using hown, ?_, ?_, by have := h.slen; simp; omega, ?_, ?_, ?_, h.touch.trans t (fun k hk => .inr (hob k hk))⟩
  · have := h.files
    rw [e1, crashL, if_pos hz, e2] at this
    rw [List.map_append, List.append_assoc, List.map_singleton, hy]
    exact this
  · have := h.lost
    rw [e1, lostL, e2] at this
    omega
  · intro x hx
    rcases List.mem_append.1 hx with hx | hx
    · exact (h.each x hx).touch t (hne x hx)
    · simp at hx; subst hx; exact hfy
  · intro x hx b hb
    rcases List.mem_append.1 hx with hx | hx
    · rcases h.from_ x hx b hb with h1 | ⟨j, hj, h1, h2⟩
      · exact .inl h1
      · exact .inr ⟨j, hj, by omega, h2⟩
    · simp at hx; subst hx
      rcases hyo b hb with h1 | h1
      · exact .inr ⟨i, hi, by omega, h1⟩
      · exact .inl (Nat.le_trans h.touch.size h1)
  · unfold Apart
    rw [List.pairwise_append]
    refine ⟨h.apart, by simp, ?_⟩
    intro x hx z hz' k hk hkz
    simp at hz'
    subst hz'
    have h3 := (h.each x hx).lt k hk
    rcases hyo k hkz with h1 | h1
    · rcases h.from_ x hx k hk with h2 | ⟨j, hj, h2, h4⟩
      · have := hlt _ (List.getElem_mem hi) k h1; omega
      · exact List.pairwise_iff_getElem.1 hL j i hj hi h2 k h4 h1
    · omega
end Go.Proofs.Ythibabfojndlkaa
