/- Entries added to a tab. -/
import Derived.Test.YtdjcpdlfapfmkaaGreatLa12
import Derived.Test.YtdjcpdlfapfmkaaGreatWi12
namespace Go.Proofs.YtdjcpdlfapfmkaaGreat
open Go.RowKit Go.Lib
set_option maxRecDepth 100000

/-- May an entry be? -/
def okE (e : En) : Prop := 0 ≤ e.1 ∧ 0 ≤ e.2.1 ∧ 0 ≤ e.2.2
instance (e : En) : Decidable (okE e) := by unfold okE; infer_instance
def put1 (l : List En) (e : En) : List En := if okE e then ins l e else l
def addAll (l : List En) (es : List En) : List En := es.foldl put1 l
theorem sorted_put1 {l : List En} (h : SortedE l) (e : En) : SortedE (put1 l e) := by
  unfold put1
  split
  · exact sorted_ins h e
  · exact h
theorem sorted_addAll : ∀ (es : List En) {l : List En}, SortedE l → SortedE (addAll l es)
  | [], _, h => h
  | e :: es, _, h => sorted_addAll es (sorted_put1 h e)
theorem put1_len {l : List En} (h : SortedE l) (e : En) : l.length ≤ (put1 l e).length ∧ (put1 l e).length ≤ l.length + 1 := by
  unfold put1
  split
  · rw [len_ins h]; unfold news; split <;> omega
  · omega
theorem addAll_len : ∀ (es : List En) {l : List En}, SortedE l → l.length ≤ (addAll l es).length ∧ (addAll l es).length ≤ l.length + es.length
  | [], _, _ => by simp [addAll]
  | e :: es, l, h => by
    have h1 := put1_len h e
    have h2 := addAll_len es (sorted_put1 h e)
    have : addAll l (e :: es) = addAll (put1 l e) es := rfl
    rw [this, List.length_cons]
    omega
theorem addAll_snoc (l es : List En) (e : En) : addAll l (es ++ [e]) = put1 (addAll l es) e := by simp [addAll, List.foldl_append]

/-- Entries of a slice, wherever it lies. -/
def EntX (w : World) (x : Option Addr) (l : List En) : Prop := ∀ (i : Nat) (h : i < l.length), ∃ b off, x = some ⟨b, off, none⟩ ∧ w.cell? ⟨b, off + i * 3, none⟩ = some (.int .i64 (l[i]'h).1) ∧ w.cell? ⟨b, off + i * 3 + 1, none⟩ = some (.int .i64 (l[i]'h).2.1) ∧ w.cell? ⟨b, off + i * 3 + 2, none⟩ = some (.int .i64 (l[i]'h).2.2)
theorem min_ok {a : En} (h : okE a) : ((if a.2.2 < if a.2.1 < a.1 then a.2.1 else a.1 then a.2.2 else if a.2.1 < a.1 then a.2.1 else a.1) < 0) = False := by
  unfold okE at h
  rw [eq_iff_iff, iff_false]
  repeat' split
  all_goals omega
theorem min_bad {a : En} (h : ¬ okE a) : ((if a.2.2 < if a.2.1 < a.1 then a.2.1 else a.1 then a.2.2 else if a.2.1 < a.1 then a.2.1 else a.1) < 0) = True := by
  unfold okE at h
  rw [eq_iff_iff, iff_true]
  repeat' split
  all_goals omega
end Go.Proofs.YtdjcpdlfapfmkaaGreat
