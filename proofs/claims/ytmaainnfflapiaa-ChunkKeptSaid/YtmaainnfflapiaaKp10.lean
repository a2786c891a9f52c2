/- A chunk as a text: its start and records; where each record ends. -/
import Derived.Test.YtmaainnfflapiaaAl10
namespace Go.Proofs.Ytmaainnfflapiaa
open Go.RowKit Go.Lib Go.ChangeShapes
set_option maxRecDepth 100000

def chS (n : Nat) (l : List ByteArray) : ByteArray := bytesT (frL (stL n 9000) ++ recs (dat l))
theorem chS_list (n : Nat) (l : List ByteArray) : (chS n l).data.toList = frL (stL n 9000) ++ recs (dat l) := bytesT_toList _
theorem recs_len (l : List ByteArray) : (recs (dat l)).length = (cat l).length + 13 * l.length := by
  induction l with
  | nil => rfl
  | cons s l ih =>
    have h := frL_len (1 :: s.data.toList)
    have e1 : (recs (dat (s :: l))).length = (frL (1 :: s.data.toList)).length + (recs (dat l)).length := by simp [recs, dat]
    have e2 : (cat (s :: l)).length = s.data.toList.length + (cat l).length := by simp [cat]
    rw [e1, e2, ih, h, List.length_cons, List.length_cons]
    omega
theorem chS_size (n : Nat) (l : List ByteArray) : (chS n l).size = 33 + (cat l).length + 13 * l.length := by
  unfold chS
  rw [bytesT_size, List.length_append, frSt_len, recs_len]
  omega
theorem chS_nil (n : Nat) : chS n [] = bytesT (frL (stL n 9000)) := by unfold chS; simp [recs, dat]
theorem recs_snoc {l : List ByteArray} {k : Nat} (h : k < l.length) : recs (dat (l.take (k + 1))) = recs (dat (l.take k)) ++ frL (1 :: l[k].data.toList) := by
  rw [List.take_succ_eq_append_getElem h, show dat (l.take k ++ [l[k]]) = dat (l.take k) ++ [l[k].data.toList] by unfold dat; rw [List.map_append]; rfl, recs_app]
  simp [recs]
theorem chS_snoc {l : List ByteArray} {k : Nat} (n : Nat) (h : k < l.length) : chS n (l.take k) ++ recB l[k] = chS n (l.take (k + 1)) := by
  apply str_eq
  rw [recs_snoc h, ← List.append_assoc, ← chS_list]
  simp [recB, bytesT]
theorem chS_step {l : List ByteArray} {k : Nat} (n : Nat) (h : k < l.length) : (chS n (l.take (k + 1))).size = (chS n (l.take k)).size + (l[k].size + 13) := by
  rw [chS_size, chS_size, List.take_succ_eq_append_getElem h, cat_snoc, List.length_append, List.length_append, list_len, List.length_singleton]
  omega
theorem recB_size (s : ByteArray) : (recB s).size = s.size + 13 := by unfold recB; rw [bytesT_size, frL_len, List.length_cons, list_len]
def endsC (n : Nat) (l : List ByteArray) (k : Nat) : List Value := (List.range k).map fun j => .int .i64 ((chS n (l.take (j + 1))).size : Int)
theorem endsC_snoc (n : Nat) (l : List ByteArray) (k : Nat) : endsC n l (k + 1) = endsC n l k ++ [.int .i64 ((chS n (l.take (k + 1))).size : Int)] := by simp [endsC, List.range_succ]
abbrev tInt10 : TypeId := 3
theorem infoInt10 : (Try.prog.info? 3).map (fun i => (i.zero, i.size, i.bytes)) = some (some (.int .i64 0), 1, 8) := by kernel_rfl
theorem endsC_of {w : World} {base m n : Nat} {v : Value} {l : List ByteArray} (h : w.ownsRow base tInt10 1 v m (endsC n l m)) :
    ∃ y c, v = .slice y m c ∧ ∀ j, j < m → ∃ g, y = some ⟨g, 0, none⟩ ∧ w.cell? ⟨g, j, none⟩ = some (.int .i64 ((chS n (l.take (j + 1))).size : Int)) := by
  have hh := h
  rcases h.2 with ⟨rfl, h0⟩ | ⟨g, cap, cur, rfl, hb, _, hc, hm, _⟩
  · rw [h0]
    exact ⟨none, 0, rfl, fun j hj => by omega⟩
  · refine ⟨some ⟨g, 0, none⟩, cap, rfl, fun j hj => ⟨g, rfl, ?_⟩⟩
    have := hh.cells (g := g) rfl j (.int .i64 ((chS n (l.take (j + 1))).size : Int)) (by simp [endsC, hj])
    rw [show (⟨g, 0, none⟩ : Addr).add j = ⟨g, j, none⟩ from by unfold Addr.add; split <;> simp_all] at this
    exact this
theorem ownsI_blk {w : World} {base n : Nat} {v : Value} {xs : List Value} (h : w.ownsRow base tInt10 1 v n xs) : ∀ g, v.ownBlock = some g → base ≤ g := by
  intro g hg
  obtain ⟨_, ⟨rfl, _⟩ | ⟨g', cap, cur, rfl, h3, _, _⟩⟩ := h
  · simp [Value.ownBlock] at hg
  · simp [Value.ownBlock] at hg
    subst hg
    exact h3
theorem ownsI_same {w w' : World} {base n : Nat} {v : Value} {xs : List Value} (h : w.ownsRow base tInt10 1 v n xs) (t : Touch [] w w') : w'.ownsRow base tInt10 1 v n xs := by
  obtain ⟨h1, h2 | ⟨g, cap, cur, hv, h3, h4, h5⟩⟩ := h
  · exact ⟨h1, .inl h2⟩
  · exact ⟨h1, .inr ⟨g, cap, cur, hv, h3, touch_blk0 t h4, h5⟩⟩

/-- Some first bytes of it, the start among them. -/
theorem read_cut (n : Nat) (l : List ByteArray) (h : ∀ s ∈ l, s.size ≤ 3999) (m k : Nat) (hn : n ≤ 999999) (hm : m ≤ l.length) (h1 : (chS n (l.take m)).size ≤ k) (h2 : m < l.length → k < (chS n (l.take (m + 1))).size) :
    Begins ((chS n l).extract 0 k).data.toList n 9000 ∧ recOf (((chS n l).extract 0 k).data.toList.drop 33) = (dat (l.take m), (recs (dat (l.take m))).length) ∧ doneAt n (((chS n l).extract 0 k).data.toList.drop 33) = false ∧ goodAt n (((chS n l).extract 0 k).data.toList.drop 33) = (chS n (l.take m)).size := by
  have hk : 33 ≤ k := by rw [chS_size] at h1; omega
  have e : ((chS n l).extract 0 k).data.toList = frL (stL n 9000) ++ (recs (dat l)).take (k - 33) := by
    rw [extract_data, chS_list, List.drop_zero, Nat.sub_zero, List.take_append, List.take_of_length_le (by rw [frSt_len]; omega), frSt_len]
  have z : ∀ j, (chS n (l.take j)).size = 33 + (recs ((dat l).take j)).length := fun j => by rw [chS_size, ← dat_take, recs_len]; omega
  rw [z] at h1
  have hc := rec_cut (dat l) (fun d hd => by
    obtain ⟨s, hs, rfl⟩ := List.mem_map.1 hd
    rw [list_len]
    exact h s hs) m (k - 33) (by rw [dat_len]; exact hm) (by omega) (fun hlt => by
    rw [dat_len] at hlt
    have := h2 hlt
    rw [z] at this
    omega)
  rw [e]
  refine ⟨begins_st hn (by decide) (by decide) _, ?_⟩
  rw [drop_st, dat_take]
  refine ⟨hc.1, hc.2 n, ?_⟩
  unfold goodAt
  rw [hc.2 n, hc.1, z]
  simp
theorem short_none (n : Nat) (l : List ByteArray) (k : Nat) (hk : k < 33) : ∀ a z, ¬ Begins ((chS n l).extract 0 k).data.toList a z := fun a z h => by
  have := begins_len h
  rw [extract_data, List.length_take] at this
  omega
/-- All of it, an end, and more behind it. -/
theorem read_done (n : Nat) (l : List ByteArray) (h : ∀ s ∈ l, s.size ≤ 3999) (hn : n ≤ 999999) (more : ByteArray) :
    Begins (chS n l ++ bytesT (frL (finL n l.length)) ++ more).data.toList n 9000 ∧ recOf ((chS n l ++ bytesT (frL (finL n l.length)) ++ more).data.toList.drop 33) = (dat l, (recs (dat l)).length) ∧ doneAt n ((chS n l ++ bytesT (frL (finL n l.length)) ++ more).data.toList.drop 33) = true ∧ goodAt n ((chS n l ++ bytesT (frL (finL n l.length)) ++ more).data.toList.drop 33) = (chS n l).size + 33 := by
  have e : (chS n l ++ bytesT (frL (finL n l.length)) ++ more).data.toList = frL (stL n 9000) ++ (recs (dat l) ++ (frL (finL n l.length) ++ more.data.toList)) := by
    have e1 : (chS n l ++ bytesT (frL (finL n l.length)) ++ more).data.toList = (chS n l).data.toList ++ (bytesT (frL (finL n l.length))).data.toList ++ more.data.toList := by simp
    rw [e1, chS_list, bytesT_toList]
    simp only [List.append_assoc]
  have hc := rec_end (dat l) (fun d hd => by
    obtain ⟨s, hs, rfl⟩ := List.mem_map.1 hd
    rw [list_len]
    exact h s hs) n n l.length more.data.toList
  rw [dat_len] at hc
  have hd : doneAt n (recs (dat l) ++ (frL (finL n l.length) ++ more.data.toList)) = true := by rw [hc.2]; simp
  rw [e]
  refine ⟨begins_st hn (by decide) (by decide) _, ?_⟩
  rw [drop_st]
  refine ⟨hc.1, hd, ?_⟩
  unfold goodAt
  rw [hd, hc.1, chS_size, recs_len]
  simp only [if_true]
  omega
end Go.Proofs.Ytmaainnfflapiaa
