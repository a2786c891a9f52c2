/- ViewPages, walked. -/
import Derived.Test.YtmgglmoiepjebaaAl16
import Derived.Test.YtmgglmoiepjebaaAg16
import Derived.Deep.DeepCutAuto
import Derived.Deep.CutBlock
namespace Go.Proofs.Ytmgglmoiepjebaa
open Go.RowKit Go.Lib Go.Shelf
set_option maxRecDepth 100000

theorem stoX_row {W : World} {base n c : Nat} {y : Option Addr} {l : List StoD} (h : W.ownsRow base TSto 8 (.slice y n c) n (stoVals l)) (hn : n = l.length) (hok : ∀ s ∈ l, s.Ok) : StoX W y l := by
  rcases h.2 with ⟨hv, h0⟩ | ⟨g, cap, cur, hv, _⟩
  · have hl : l = [] := List.eq_nil_of_length_eq_zero (by omega)
    subst hl
    intro i hi
    exact absurd hi (Nat.not_lt_zero i)
  · simp only [Value.slice.injEq] at hv
    obtain ⟨rfl, -, rfl⟩ := hv
    exact stoX_of (fun j u hu => by have := h.cells (g := g) rfl j u hu; rwa [add_at] at this) hok
/-- The first k are where they may be, and rising. -/
def okQ (L : List StoD) (k : Nat) : Prop := ∀ j (h : j < L.length), j < k → 0 ≤ L[j].position ∧ L[j].position ≤ 1099511627776 ∧ ∀ (i : Nat) (hi : i < L.length), i + 1 = j → L[i].position < L[j].position
theorem okQ_zero (L : List StoD) : okQ L 0 := fun _ _ h => absurd h (Nat.not_lt_zero _)
theorem okQ_succ {L : List StoD} {k : Nat} (h : okQ L k) (hk : k < L.length) (h0 : 0 ≤ L[k].position) (h1 : L[k].position ≤ 1099511627776) (h2 : ∀ (i : Nat) (hi : i < L.length), i + 1 = k → L[i].position < L[k].position) : okQ L (k + 1) := by
  intro j hj hjk
  by_cases e : j = k
  · subst e
    exact ⟨h0, h1, h2⟩
  · exact h j hj (by omega)
abbrev Rising (L : List StoD) : Prop := L.Pairwise fun a b => a.position < b.position
theorem okQ_rising {L : List StoD} (h : okQ L L.length) : Rising L := by
  rw [Rising, List.pairwise_iff_getElem]
  have key : ∀ d i (hi : i < L.length) (hj : i + d + 1 < L.length), L[i].position < L[i + d + 1].position := by
    intro d
    induction d with
    | zero => intro i hi hj; exact (h (i + 0 + 1) hj hj).2.2 i hi rfl
    | succ d ih =>
      intro i hi hj
      have a := ih i hi (by omega)
      have b := (h (i + (d + 1) + 1) hj hj).2.2 (i + d + 1) (by omega) (by omega)
      omega
  intro i j hi hj hij
  obtain ⟨d, rfl⟩ : ∃ d, j = i + d + 1 := ⟨j - i - 1, by omega⟩
  exact key d i hi hj
theorem okQ_pos {L : List StoD} (h : okQ L L.length) : ∀ s ∈ L, 0 ≤ s.position ∧ s.position ≤ 1099511627776 := fun s hs => by
  obtain ⟨i, hi, rfl⟩ := List.getElem_of_mem hs
  exact ⟨(h i hi hi).1, (h i hi hi).2.1⟩
theorem rising_can {l : List StoD} (h : Rising l) : Rising (l.map canS) := by
  rw [Rising, List.pairwise_map]
  exact h
theorem fwdL_rising {L : List StoD} (h : Rising L) (from_ n : Int) : Rising (fwdL L from_ n) := rising_can ((h.sublist List.filter_sublist).sublist (List.take_sublist _ _))
abbrev Falling (L : List StoD) : Prop := L.Pairwise fun a b => b.position < a.position
theorem bwdL_falling {L : List StoD} (h : Rising L) (from_ n : Int) : Falling (bwdL L from_ n) := by
  have h1 : Falling L.reverse := List.pairwise_reverse.2 h
  rw [Falling, bwdL, List.pairwise_map]
  exact (h1.sublist List.filter_sublist).sublist (List.take_sublist _ _)
theorem fwdL_side (L : List StoD) (from_ n : Int) : ∀ s ∈ fwdL L from_ n, from_ ≤ s.position := by
  intro s hs
  unfold fwdL at hs
  rw [List.mem_map] at hs
  obtain ⟨t, ht, rfl⟩ := hs
  have := (List.mem_filter.1 (List.mem_of_mem_take ht)).2
  simpa [fwdP, canS] using this
theorem bwdL_side (L : List StoD) (from_ n : Int) : ∀ s ∈ bwdL L from_ n, s.position ≤ from_ := by
  intro s hs
  unfold bwdL at hs
  rw [List.mem_map] at hs
  obtain ⟨t, ht, rfl⟩ := hs
  have := (List.mem_filter.1 (List.mem_of_mem_take ht)).2
  simpa [bwdP, canS] using this
theorem fwdL_ok {L : List StoD} (h : ∀ s ∈ L, Good s) (from_ n : Int) : ∀ s ∈ fwdL L from_ n, s.Ok := by
  intro s hs
  unfold fwdL at hs
  rw [List.mem_map] at hs
  obtain ⟨t, ht, rfl⟩ := hs
  exact canS_ok (h t (List.mem_filter.1 (List.mem_of_mem_take ht)).1).1
theorem bwdL_ok {L : List StoD} (h : ∀ s ∈ L, Good s) (from_ n : Int) : ∀ s ∈ bwdL L from_ n, s.Ok := by
  intro s hs
  unfold bwdL at hs
  rw [List.mem_map] at hs
  obtain ⟨t, ht, rfl⟩ := hs
  exact canS_ok (h t (List.mem_reverse.1 (List.mem_filter.1 (List.mem_of_mem_take ht)).1)).1
/-- How many of the first k. -/
def cntU (p : StoD → Bool) (L : List StoD) (k : Nat) : Nat := ((L.take k).filter p).length
theorem cntU_le (p : StoD → Bool) (L : List StoD) (k : Nat) : cntU p L k ≤ L.length := by
  have h1 := List.length_filter_le p (L.take k)
  have h2 := List.length_take_le k L
  unfold cntU
  rw [List.length_take] at h1
  omega
theorem cntU_succ (p : StoD → Bool) (L : List StoD) {k : Nat} (h : k < L.length) : cntU p L (k + 1) = cntU p L k + if p L[k] = true then 1 else 0 := by
  unfold cntU
  rw [List.take_succ_eq_append_getElem h, List.filter_append, List.length_append]
  congr 1
  by_cases hp : p L[k] = true <;> simp [hp]
theorem fwd_len (L : List StoD) (from_ n : Int) (hn : 1 ≤ n) : (((fwdL L from_ n).length : Nat) : Int) = min ((cntU (fwdP from_) L L.length : Nat) : Int) n := by
  unfold fwdL cntU
  rw [List.length_map, List.length_take, List.take_length]
  omega
theorem bwd_len (L : List StoD) (from_ n : Int) (hn : 1 ≤ n) : (((bwdL L from_ n).length : Nat) : Int) = min ((cntU (bwdP from_) L L.length : Nat) : Int) n := by
  unfold bwdL cntU
  rw [List.length_map, List.length_take, List.take_length, List.filter_reverse, List.length_reverse]
  omega
theorem fwd_end (L : List StoD) (from_ n : Int) (hn : 1 ≤ n) : fwdE L from_ n = decide (((cntU (fwdP from_) L L.length : Nat) : Int) ≤ n) := by
  unfold fwdE cntU
  rw [List.take_length, decide_eq_decide]
  omega
theorem bwd_end (L : List StoD) (from_ n : Int) (hn : 1 ≤ n) : bwdE L from_ n = decide (((cntU (bwdP from_) L L.length : Nat) : Int) ≤ n) := by
  unfold bwdE cntU
  rw [List.take_length, decide_eq_decide, List.filter_reverse, List.length_reverse]
  omega
theorem few_good {n : Nat} {l : List StoD} (h : fewB n l = true) (hok : ∀ s ∈ l, s.Ok) : ∀ s ∈ l, Good s := fun s hs => by
  have := (few_parts h).2 s hs
  exact ⟨hok s hs, by omega, by omega, by omega⟩
theorem stoX_ok {W : World} {x : Option Addr} {l : List StoD} (h : StoX W x l) : ∀ s ∈ l, s.Ok := fun s hs => by
  obtain ⟨i, hi, rfl⟩ := List.getElem_of_mem hs
  obtain ⟨_, _, _, _, h3⟩ := h i hi
  exact h3
end Go.Proofs.Ytmgglmoiepjebaa
