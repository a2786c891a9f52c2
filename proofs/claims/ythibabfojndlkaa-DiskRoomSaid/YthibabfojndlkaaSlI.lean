/- slices.Insert of one file into a row that the call may write into. -/
import Derived.Test.YthibabfojndlkaaSlw
import Derived.Shelf.Spec.SlicesInsertGrow
import Derived.Deep.AppendLies
namespace Go.Proofs.Ythibabfojndlkaa
open Go.RowKit Go.Lib
set_option maxRecDepth 100000

def InsPost (base n i : Nat) (v : Value) (xs : List Value) (x : Value) (w : World) (e : Ending) (w' : World) : Prop :=
  ∃ v', e = .returned v' ∧ w'.ownsRow base tPF 1 v' (n + 1) (xs.take i ++ x :: xs.drop i) ∧ Touch v.ownBlock.toList w w' ∧ ∀ k ∈ v'.ownBlock.toList, k ∈ v.ownBlock.toList ∨ w.heap.size ≤ k

set_option maxHeartbeats 1000000 in
theorem insert_end {base n : Nat} {v : Value} {xs : List Value} {w : World} {vb : Nat} {x : Value} (h : w.ownsRow base tPF 1 v n xs) (hb : base ≤ w.heap.size) (hx : w.heap[vb]? = some (.cells #[x] tPF (0, 0))) (h1 : x.oneCell' = true) (hn : n ≤ 1000000) :
    Calls Try.prog 54 #[v, .int .i64 n, .slice (some ⟨vb, 0, none⟩) 1 1] w (InsPost base n n v xs x w) := by
  have hxl : xs.length = n := by have := h.1; omega
  have hxs : xs.take n ++ x :: xs.drop n = xs ++ [x] := by rw [List.take_of_length_le (by omega), List.drop_of_length_le (by omega)]
  unfold InsPost
  rw [hxs]
  have O := hid h
  have HX := hid hx
  have mixed : Try.prog.follows Departure.mixedOrders = true := rfl
  have hfrm := hid (own_form h)
  have hlt := hid (own_lt h)
  obtain ⟨y, c, rfl, hnc, hc63, hob, -⟩ := hfrm.out
  have hc0 : n ≤ 9223372036854775807 := by omega
  have hc1 : c ≤ 9223372036854775807 := by unfold maxLen at hc63; exact hc63
  have hbh := hid hb
  have he : ∀ cc, (Value.slice y n cc).ownBlock = (Value.slice y n c).ownBlock := by intro cc; cases y <;> rfl
  have hb2 : ∀ (cc : Nat) (w1 : World) (g : Nat), w.grownBy w1 (Value.slice y n cc).ownBlock → (Value.slice y n cc).ownBlock = some g ∨ g = w.heap.size → (Touch (Value.slice y n c).ownBlock.toList w w1 ∧ ∀ k ∈ (Value.slice (some ⟨g, 0, none⟩) (n + 1) c).ownBlock.toList, k ∈ (Value.slice y n c).ownBlock.toList ∨ w.heap.size ≤ k) := by
    intro cc w1 g hg hat
    rw [he cc] at hg hat
    refine ⟨(Touch.refl _ w).grown hg (fun k hk => .inl (by simp [hk])), fun k hk => ?_⟩
    simp [Value.ownBlock] at hk
    subst hk
    rcases hat with h | h
    · exact .inl (by simp [h])
    · exact .inr (by omega)
  have B2 := hid hb2
  have hn2 := hid hn
  clear hb2 he hfrm h hx hb hxs hlt hob hc63 hn
  go_enter Try.func54, Try.ntmps54
  go_wp2_with (at_builtin; go_loud (refine wpList_append_lies w rfl _ _ 55 rfl base tPF _ (.pointer none) 1 8 rfl rfl rfl rfl rfl rfl (by omega) _ n xs rfl O.out ⟨vb, 0, none⟩ 1 1 [x] rfl rfl (World.news_of_block HX.out) (by simpa using h1) (by omega) (by have := hn2.out; unfold maxLen; omega) (by have := hn2.out; omega) hbh.out _ rfl ?_))
  all_goals
    intro g cap w1 hown hgrow hat hltg
    have HO := hid hown
    have HG := hid (B2.out _ w1 g hgrow hat)
    clear hown hgrow hat
    go_wp2
    go_ret
    exact ⟨_, rfl, HO.out, HG.out.1, HG.out.2⟩

theorem ins_list (cur : List Value) (n i : Nat) (xs : List Value) (x : Value) (ht : cur.take n = xs) (hi : i < n) (hn : n + 1 ≤ cur.length) :
    (((cur.take (i + 1) ++ xs.drop i ++ cur.drop (i + 1 + (n - i))).take i ++ [x] ++ (cur.take (i + 1) ++ xs.drop i ++ cur.drop (i + 1 + (n - i))).drop (i + [x].length)).take (n + 1)) = xs.take i ++ x :: xs.drop i := by
  have hl : xs.length = n := by rw [← ht, List.length_take]; omega
  have e1 : (cur.take (i + 1) ++ xs.drop i ++ cur.drop (i + 1 + (n - i))).take i = xs.take i := by
    rw [List.append_assoc, List.take_append_of_le_length (by rw [List.length_take]; omega), List.take_take, ← ht, List.take_take]
    congr 1
    omega
  have e2 : (cur.take (i + 1) ++ xs.drop i ++ cur.drop (i + 1 + (n - i))).drop (i + [x].length) = xs.drop i ++ cur.drop (i + 1 + (n - i)) := by
    rw [List.append_assoc]
    exact List.drop_left' (by rw [List.length_take, List.length_singleton]; omega)
  rw [e1, e2, show xs.take i ++ [x] ++ (xs.drop i ++ cur.drop (i + 1 + (n - i))) = (xs.take i ++ x :: xs.drop i) ++ cur.drop (i + 1 + (n - i)) by simp]
  exact List.take_left' (by rw [List.length_append, List.length_take, List.length_cons, List.length_drop]; omega)

set_option maxHeartbeats 4000000 in
theorem insert_room {base n i g c : Nat} {cur : Array Value} {xs : List Value} {w : World} {vb : Nat} {x : Value} (hb : base ≤ g) (hg : w.heap[g]? = some (.cells cur tPF (0, 0))) (hm : c ≤ maxLen) (hs : cur.size = c) (ht : cur.toList.take n = xs)
    (hi : i < n) (hroom : n + 1 ≤ c) (hx : w.heap[vb]? = some (.cells #[x] tPF (0, 0))) (hvb : vb ≠ g) (h1 : x.oneCell' = true) (h1c : ∀ u ∈ xs, u.oneCell' = true) :
    Calls Try.prog 54 #[.slice (some ⟨g, 0, none⟩) n c, .int .i64 i, .slice (some ⟨vb, 0, none⟩) 1 1] w (InsPost base n i (.slice (some ⟨g, 0, none⟩) n c) xs x w) := by
  have hxl : xs.length = n := by rw [← ht]; simp; omega
  have hdl : (xs.drop i).length = n - i := by rw [List.length_drop, hxl]
  have hov : ∀ lb cb, (callFunc 60 #[.slice (some ⟨vb, 0, none⟩) 1 1, .slice (some ⟨g, i + 1, none⟩) lb cb]).run Try.prog w = .ok (.value (.bool false)) w := fun lb cb => by
    rw [run_callFunc_extern Try.func60 (by kernel_rfl) (by kernel_rfl) (by kernel_rfl) (e := Extern.SlicesOverlaps.overlaps #[55, 55] #[4]) (by kernel_rfl),
      Lib.run_overlaps_apart w 55 4 tPF rfl 1 (fun w => by kernel_rfl) ⟨vb, 0, none⟩ ⟨g, i + 1, none⟩ 1 1 lb cb hvb tPF tPF 1 c (by simp [World.shape?, hx]) (by simp [World.shape?, hg, hs]) (by omega) (free_of hx _) (free_of hx _)]
    rfl
  obtain ⟨W1, hW1⟩ : ∃ W1, W1 = w.drew.setCells g (0 + (i + 1)) (xs.drop i) := ⟨_, rfl⟩
  have hg1 : W1.heap[g]? = some (.cells (laidIn cur (0 + (i + 1)) (xs.drop i)) tPF (0, 0)) := by rw [hW1]; exact heap_setCells _ _ hg
  have hT1 : Touch [g] w W1 := by rw [hW1]; exact touch_setCells (.inl (by simp)) _ _ (Touch.refl [g] w).drew
  have hx1 : W1.heap[vb]? = some (.cells #[x] tPF (0, 0)) := (hT1.block vb (lt_of_block hx) (by simpa using hvb)).trans hx
  have hcell : ∀ j u, xs[j]? = some u → w.drew.cell? ⟨g, j, none⟩ = some u := by
    intro j u hu
    rw [cell_of (w := w.drew) hg]
    rw [← ht, List.getElem?_take] at hu
    split at hu
    · simpa using hu
    · cases hu
  have hcp1 : ∀ ty dc sc, (Builtin.copy_ #[55, 55] ty #[.slice (some ⟨g, i + 1, none⟩) (n - i) dc, .slice (some ⟨g, i, none⟩) (n + 1 - i) sc]).run Try.prog w.drew = .ok (goInt (xs.drop i).length) W1 := fun ty dc sc => by
    rw [hW1, show 0 + (i + 1) = i + 1 by omega]
    exact run_copy_cells w.drew _ _ ty tPF g (i + 1) (n - i) dc ⟨g, i, none⟩ (n + 1 - i) sc (xs.drop i) rfl rfl (by rw [hdl]; simp only [Nat.min_def]; split <;> omega)
      (fun j v hj => by rw [Addr.add_lit]; exact hcell (i + j) v (by rwa [List.getElem?_drop] at hj))
      (fun j hj => by rw [hdl] at hj; rw [cell_of (w := w.drew) hg, Array.getElem?_eq_getElem (by omega)]; rfl) (fun j hj => free_of (w := w.drew) hg _) (fun v hv => h1c v (List.mem_of_mem_drop hv))
  have hcp2 : ∀ ty dc, (Builtin.copy_ #[55, 55] ty #[.slice (some ⟨g, i, none⟩) (n + 1 - i) dc, .slice (some ⟨vb, 0, none⟩) 1 1]).run Try.prog W1 = .ok (goInt [x].length) (W1.setCells g i [x]) := fun ty dc =>
    run_copy_cells W1 _ _ ty tPF g i (n + 1 - i) dc ⟨vb, 0, none⟩ 1 1 [x] rfl rfl (by simp only [List.length_cons, List.length_nil, Nat.min_def]; split <;> omega)
      (World.news_of_block hx1)
      (fun j hj => by rw [cell_of hg1, Array.getElem?_eq_getElem (by rw [laid_size]; simp at hj; omega)]; rfl) (fun j hj => free_of hg1 _) (by simpa using h1)
  have hfin : InsPost base n i (.slice (some ⟨g, 0, none⟩) n c) xs x w (.returned (.slice (some ⟨g, 0, none⟩) (n + 1) c)) (W1.setCells g i [x]) := by
    refine ⟨_, rfl, ⟨by simp; omega, .inr ⟨g, c, _, rfl, hb, heap_setCells _ _ hg1, hroom, hm, by rw [laid_size, laid_size, hs]; omega, ?_⟩⟩, touch_setCells (.inl (by simp [Value.ownBlock])) _ _ (by simpa [Value.ownBlock] using hT1), fun k hk => .inl (by simpa [Value.ownBlock] using hk)⟩
    rw [laid_list _ _ _ (by rw [laid_size]; simp; omega), laid_list _ _ _ (by rw [hdl]; omega)]
    have := ins_list cur.toList n i xs x ht hi (by rw [Array.length_toList]; omega)
    rw [hdl, show 0 + (i + 1) = i + 1 by omega, Nat.mul_one]
    exact this
  have HF := hid hfin
  have mixed : Try.prog.follows Departure.mixedOrders = true := rfl
  have hz2 : ¬ ((i : Int) = (n : Int)) := by omega
  have hc63 : c ≤ 9223372036854775807 := hm
  have hw1 : IntKind.i64.wrap ((i : Int) + 1) = (i : Int) + 1 := by rw [IntKind.wrap_i64]; omega
  have hw2 : IntKind.i64.wrap ((n : Int) + 1) = (n : Int) + 1 := by rw [IntKind.wrap_i64]; omega
  have hb1 : (0 : Int) ≤ (i : Int) + 1 := by omega
  have hin : i ≤ n := by omega
  have htn : ((i : Int) + 1).toNat = i + 1 := by omega
  have htm : ((n : Int) + 1).toNat = n + 1 := by omega
  have hb2 : ¬ (c = i + 1) := by omega
  have hb3 : (i : Int) ≤ (n : Int) + 1 := by omega
  have hb4 : ¬ (c = i) := by omega
  have hb5 : (n : Int) + 1 ≤ (c : Int) := by omega
  clear hW1 hg1 hT1 hx1 hcell hfin hdl hxl ht hs hg hx h1 h1c hb hm
  go_enter Try.func54, Try.ntmps54
  go_wp2_with (simp only [hov])
  go_region_law_o (refine step_copy_runI rfl _ _ 55 55 rfl _ _ (by simp [Act.eval, Act.put]) (by simp [Act.eval, Act.put]) (hcp1 _ _ _) ?_)
  go_wp2_with (at_builtin; refine wpList_copy_runI _ rfl _ _ 55 55 rfl _ _ rfl rfl (hcp2 _ _) ?_)
  go_ret
  exact HF.out
end Go.Proofs.Ythibabfojndlkaa
