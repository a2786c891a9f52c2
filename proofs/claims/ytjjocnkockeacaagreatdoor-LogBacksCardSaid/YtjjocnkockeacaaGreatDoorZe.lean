/- A block behind stores into a stretch of it. slices.Delete of one file of a row. slices.Insert of one file into a row that the call may write into. slices.Insert, where there is no room: a new row; and all roads together. -/
import Derived.Test.YtjjocnkockeacaaGreatDoorZa
import Derived.Laws.IdiomCopy
import Derived.Shelf.RegionOpenPlain
import Derived.Lib.SliceRun
import Derived.Lib.SlicesDelete
import Derived.Shelf.Spec.SlicesInsertGrow
import Derived.Deep.AppendLies
namespace Go.Proofs.YtjjocnkockeacaaGreatDoor
open Go.RowKit Go.Lib
set_option maxRecDepth 100000

def laidIn (cur : Array Value) (o : Nat) : List Value → Array Value
  | [] => cur
  | v :: r => laidIn (cur.setIfInBounds o v) (o + 1) r
theorem laid_size : ∀ (vs : List Value) (cur : Array Value) (o : Nat), (laidIn cur o vs).size = cur.size
  | [], _, _ => rfl
  | v :: r, cur, o => by rw [laidIn, laid_size r]; simp
theorem heap_setCells {b : Nat} {t : TypeId} {fz : Nat × Nat} : ∀ (vs : List Value) (o : Nat) {cur : Array Value} {w : World}, w.heap[b]? = some (.cells cur t fz) → (w.setCells b o vs).heap[b]? = some (.cells (laidIn cur o vs) t fz)
  | [], _, _, _, h => h
  | v :: r, o, _, _, h => by
    rw [World.setCells, laidIn]
    exact heap_setCells r (o + 1) (heap_set h v)
theorem touch_setCells {F : List Nat} {b : Nat} {a : World} (hb : b ∈ F ∨ a.heap.size ≤ b) : ∀ (vs : List Value) (o : Nat) {w : World}, Touch F a w → Touch F a (w.setCells b o vs)
  | [], _, _, h => h
  | v :: r, o, _, h => by
    rw [World.setCells]
    exact touch_setCells hb r (o + 1) (h.setCell hb v)
theorem laid_get : ∀ (vs : List Value) (cur : Array Value) (o i : Nat), o + vs.length ≤ cur.size → (laidIn cur o vs)[i]? = if o ≤ i ∧ i < o + vs.length then vs[i - o]? else cur[i]?
  | [], cur, o, i, _ => by rw [laidIn, if_neg (by simp only [List.length_nil]; omega)]
  | v :: r, cur, o, i, h => by
    simp only [List.length_cons] at h
    rw [laidIn, laid_get r _ (o + 1) i (by simp; omega)]
    simp only [List.length_cons]
    by_cases h1 : i = o
    · subst h1
      rw [if_neg (by omega), if_pos (by omega), Nat.sub_self, List.getElem?_cons_zero, Array.getElem?_setIfInBounds, if_pos rfl, if_pos (by omega)]
    · by_cases h2 : o + 1 ≤ i ∧ i < o + 1 + r.length
      · rw [if_pos h2, if_pos (by omega)]
        obtain ⟨d, hd⟩ : ∃ d, i - o = d + 1 := ⟨i - o - 1, by omega⟩
        rw [hd, show i - (o + 1) = d by omega]
        simp
      · rw [if_neg h2, if_neg (by omega), Array.getElem?_setIfInBounds_ne (by omega)]
theorem laid_list (vs : List Value) (cur : Array Value) (o : Nat) (h : o + vs.length ≤ cur.size) : (laidIn cur o vs).toList = cur.toList.take o ++ vs ++ cur.toList.drop (o + vs.length) := by
  apply List.ext_getElem?
  intro i
  have := laid_get vs cur o i h
  rw [Array.getElem?_toList, this]
  by_cases h1 : i < o
  · rw [if_neg (by omega), List.append_assoc, List.getElem?_append_left (by simp; omega), List.getElem?_take_of_lt h1, Array.getElem?_toList]
  · by_cases h2 : i < o + vs.length
    · rw [if_pos (by omega), List.getElem?_append_left (by simp; omega), List.getElem?_append_right (by simp; omega)]
      simp
      congr 1
      omega
    · rw [if_neg (by omega), List.getElem?_append_right (by simp; omega), List.getElem?_drop]
      simp
      congr 1
      omega
end Go.Proofs.YtjjocnkockeacaaGreatDoor

namespace Go.Proofs.YtjjocnkockeacaaGreatDoor
open Go.RowKit Go.Lib
set_option maxRecDepth 100000

set_option maxHeartbeats 1000000 in
theorem delete_at {base n i j : Nat} (hj : j = i + 1) {v : Value} {xs : List Value} {w : World} (h : w.ownsRow base tPF 1 v n xs) (hi : i < n) (h1 : ∀ u ∈ xs, u.oneCell' = true) :
    Calls Tryz.prog 134 #[v, .int .i64 i, .int .i64 j] w fun e w' =>
      ∃ v', e = .returned v' ∧ v'.ownBlock = v.ownBlock ∧ w'.ownsRow base tPF 1 v' (n - 1) (xs.take i ++ xs.drop j) ∧ Touch v.ownBlock.toList w w' := by
  have hxl : xs.length = n := by have := h.1; omega
  rcases h.2 with ⟨rfl, rfl⟩ | ⟨g, cap, cur, rfl, hb, hg, hc, hm, hs, ht⟩
  · omega
  have hcs : cur.size = cap := by omega
  have htl : cur.toList.take n = xs := by simpa using ht
  have hd : (xs.drop j).length = n - j := by rw [List.length_drop, hxl]
  have hcell : ∀ (W : World), W.heap[g]? = some (.cells cur tPF (0, 0)) → ∀ j u, xs[j]? = some u → W.cell? ⟨g, j, none⟩ = some u := by
    intro W hW j u hu
    rw [cell_of hW]
    rw [← htl, List.getElem?_take] at hu
    split at hu
    · simpa using hu
    · cases hu
  have hsome : ∀ (W : World) (cs : Array Value), W.heap[g]? = some (.cells cs tPF (0, 0)) → cs.size = cap → ∀ j, j < cap → (W.cell? ⟨g, j, none⟩).isSome = true := by
    intro W cs hW hS j hj
    rw [cell_of hW, Array.getElem?_eq_getElem (by omega)]; rfl
  obtain ⟨A, hA, hsrc⟩ : ∃ A : Addr, (if cap = j then some (⟨g, 0, none⟩ : Addr) else some ⟨g, j, none⟩) = some A ∧ Hid (∀ t u, (xs.drop j)[t]? = some u → w.drew.cell? (A.add t) = some u) := by
    by_cases hq : cap = j
    · refine ⟨⟨g, 0, none⟩, by simp [hq], hid fun t u hu => ?_⟩
      have h0 : (xs.drop j).length = 0 := by rw [hd]; omega
      rw [List.length_eq_zero_iff.1 h0] at hu
      simp at hu
    · refine ⟨⟨g, j, none⟩, by simp [hq], hid fun t u hu => ?_⟩
      rw [Addr.add_lit]
      rw [List.getElem?_drop] at hu
      exact hcell w.drew hg _ u hu
  obtain ⟨W1, hW1⟩ : ∃ W1, W1 = w.drew.setCells g (0 + i * 1) (xs.drop j) := ⟨_, rfl⟩
  have hg1 : W1.heap[g]? = some (.cells (laidIn cur (0 + i * 1) (xs.drop j)) tPF (0, 0)) := by rw [hW1]; exact heap_setCells _ _ hg
  have hs1 : (laidIn cur (0 + i * 1) (xs.drop j)).size = cap := by rw [laid_size, hcs]
  have e1 : 0 + (i + (n - j)) = n - 1 := by omega
  have hcl : ∀ ty a, (Builtin.clear_ #[62] ty #[.slice (some ⟨g, i + (n - j), none⟩) (n - (i + (n - j))) a]).run Tryz.prog W1 = .ok (.tuple #[]) (W1.setCells g (i + (n - j)) (List.replicate (n - (i + (n - j))) (.pointer none))) := fun ty a =>
    Lib.run_clear_slice W1 _ tPF ty (.pointer none) rfl (fun w => by kernel_rfl) rfl rfl g (i + (n - j)) _ _ (by omega) (fun t ht => hsome W1 _ hg1 hs1 _ (by omega)) (fun t ht => free_of hg1 _)
  have hT1 : Touch [g] w W1 := by rw [hW1]; exact touch_setCells (.inl (by simp)) _ _ (Touch.refl [g] w).drew
  have hfin : (W1.setCells g (i + (n - j)) (List.replicate (n - (i + (n - j))) (.pointer none))).ownsRow base tPF 1 (.slice (some ⟨g, 0, none⟩) (i + (n - j)) cap) (n - 1) (xs.take i ++ xs.drop j) := by
    refine ⟨by simp; omega, .inr ⟨g, cap, _, by rw [show i + (n - j) = n - 1 by omega], hb, heap_setCells _ _ hg1, by omega, hm, by rw [laid_size, hs1]; omega, ?_⟩⟩
    rw [laid_list _ _ _ (by rw [hs1, List.length_replicate]; omega), laid_list _ _ _ (by rw [hcs, hd]; omega)]
    rw [List.append_assoc, List.take_append_of_le_length (by simp; omega)]
    rw [show i + (n - j) = n - 1 by omega, List.take_take, show min ((n - 1) * 1) (n - 1) = n - 1 by omega]
    rw [List.take_append_of_le_length (by simp; omega), List.take_of_length_le (by simp; omega)]
    congr 1
    rw [← htl, List.take_take]
    congr 1
    omega
  have X := hid hW1
  have HF := hid (And.intro hfin hT1)
  have hic : i ≤ cap := by omega
  have hjc : j ≤ cap := by omega
  have s3 : Hid (∀ t, t < (xs.drop j).length → (w.drew.cell? ⟨g, 0 + i * 1 + t, none⟩).isSome = true ∧ w.drew.frozen? ⟨g, 0 + i * 1 + t, none⟩ = false) := hid fun t ht => by
    rw [hd] at ht
    exact ⟨hsome w.drew cur hg hcs _ (by omega), free_of (w := w.drew) hg _⟩
  have s1 := hid (show (xs.drop j).length = (n - j) * 1 by omega)
  have s2 := hid (fun (u : Value) (hu : u ∈ xs.drop j) => h1 u (List.mem_of_mem_drop hu))
  have hb2 : ¬ ((i : Int) = (j : Int)) := by omega
  have hin : j ≤ n := by omega
  have hij : i ≤ j := by omega
  have s0 := hid (show i + (n - j) ≤ cap by omega)
  have mixed : Tryz.prog.follows Departure.mixedOrders = true := rfl
  clear hW1 hg1 hs1 hfin hT1 hcell hsome h ht htl hs hxl hd e1 h1 hj hi
  go_enter Tryz.func134, Tryz.ntmps134
  go_wp2_with fail
  go_region_law_o (refine step_append_room rfl (.tmp 22) (.tmp 25) 62 rfl tPF _ 1 rfl rfl rfl g 0 i cap (by simp [Act.eval, Act.put]) A (n - j) (cap - j) (xs.drop j) (by simp [Act.eval, Act.put]) s1.out hsrc.out s2.out s0.out s3.out ?_; rw [← X.out])
  go_wp2
  go_ret
  exact ⟨_, rfl, rfl, HF.out.1, touch_setCells (.inl (by simp [Value.ownBlock])) _ _ HF.out.2⟩
theorem delete_any {base n i : Nat} {j : Int} (hj : j = (i : Int) + 1) {v : Value} {xs : List Value} {w : World} (h : w.ownsRow base tPF 1 v n xs) (hi : i < n) (h1 : ∀ u ∈ xs, u.oneCell' = true) :
    Calls Tryz.prog 134 #[v, .int .i64 i, .int .i64 j] w fun e w' =>
      ∃ v', e = .returned v' ∧ v'.ownBlock = v.ownBlock ∧ w'.ownsRow base tPF 1 v' (n - 1) (xs.take i ++ xs.drop (i + 1)) ∧ Touch v.ownBlock.toList w w' := by
  subst hj
  exact delete_at rfl h hi h1
end Go.Proofs.YtjjocnkockeacaaGreatDoor

namespace Go.Proofs.YtjjocnkockeacaaGreatDoor
open Go.RowKit Go.Lib
set_option maxRecDepth 100000

def InsPost (base n i : Nat) (v : Value) (xs : List Value) (x : Value) (w : World) (e : Ending) (w' : World) : Prop :=
  ∃ v', e = .returned v' ∧ w'.ownsRow base tPF 1 v' (n + 1) (xs.take i ++ x :: xs.drop i) ∧ Touch v.ownBlock.toList w w' ∧ ∀ k ∈ v'.ownBlock.toList, k ∈ v.ownBlock.toList ∨ w.heap.size ≤ k

set_option maxHeartbeats 1000000 in
theorem insert_end {base n : Nat} {v : Value} {xs : List Value} {w : World} {vb : Nat} {x : Value} (h : w.ownsRow base tPF 1 v n xs) (hb : base ≤ w.heap.size) (hx : w.heap[vb]? = some (.cells #[x] tPF (0, 0))) (h1 : x.oneCell' = true) (hn : n ≤ 1000000) :
    Calls Tryz.prog 109 #[v, .int .i64 n, .slice (some ⟨vb, 0, none⟩) 1 1] w (InsPost base n n v xs x w) := by
  have hxl : xs.length = n := by have := h.1; omega
  have hxs : xs.take n ++ x :: xs.drop n = xs ++ [x] := by rw [List.take_of_length_le (by omega), List.drop_of_length_le (by omega)]
  unfold InsPost
  rw [hxs]
  have O := hid h
  have HX := hid hx
  have mixed : Tryz.prog.follows Departure.mixedOrders = true := rfl
  have hfrm := hid (own_form h)
  have hlt := hid (own_lt h)
  obtain ⟨y, c, rfl, hnc, hc63, hob, -⟩ := hfrm.out
  have hc0 : n ≤ 9223372036854775807 := by omega
  have hc1 : c ≤ 9223372036854775807 := by unfold maxLen at hc63; exact hc63
  have hbh := hid hb
  have he : ∀ cc, (Value.slice y n cc).ownBlock = (Value.slice y n c).ownBlock := by intro cc; cases y <;> rfl
  have hb2 : ∀ (cc : Nat) (w1 : World) (g : Nat), w.grownBy w1 (Value.slice y n cc).ownBlock → (Value.slice y n cc).ownBlock = some g ∨ g = w.heap.size → (Touch (Value.slice y n c).ownBlock.toList w w1 ∧ ∀ k ∈ (Value.slice (some ⟨g, 0, none⟩) (n + 1) c).ownBlock.toList, k ∈ (Value.slice y n c).ownBlock.toList ∨ w.heap.size ≤ k) := by
    intro cc w1 g hg hat
    rw [he cc] at hg hat
    refine ⟨(Touch.refl _ w).grown hg (fun k hk => .inl (by simp [hk])), fun k hk => ?_⟩
    simp [Value.ownBlock] at hk
    subst hk
    rcases hat with h | h
    · exact .inl (by simp [h])
    · exact .inr (by omega)
  have B2 := hid hb2
  have hn2 := hid hn
  clear hb2 he hfrm h hx hb hxs hlt hob hc63 hn
  go_enter Tryz.func109, Tryz.ntmps109
  go_wp2_with (at_builtin; go_loud (refine wpList_append_lies w rfl _ _ 62 rfl base tPF _ (.pointer none) 1 8 rfl rfl rfl rfl rfl rfl (by omega) _ n xs rfl O.out ⟨vb, 0, none⟩ 1 1 [x] rfl rfl (World.news_of_block HX.out) (by simpa using h1) (by omega) (by have := hn2.out; unfold maxLen; omega) (by have := hn2.out; omega) hbh.out _ rfl ?_))
  all_goals
    intro g cap w1 hown hgrow hat hltg
    have HO := hid hown
    have HG := hid (B2.out _ w1 g hgrow hat)
    clear hown hgrow hat
    go_wp2
    go_ret
    exact ⟨_, rfl, HO.out, HG.out.1, HG.out.2⟩

theorem ins_list (cur : List Value) (n i : Nat) (xs : List Value) (x : Value) (ht : cur.take n = xs) (hi : i < n) (hn : n + 1 ≤ cur.length) :
    (((cur.take (i + 1) ++ xs.drop i ++ cur.drop (i + 1 + (n - i))).take i ++ [x] ++ (cur.take (i + 1) ++ xs.drop i ++ cur.drop (i + 1 + (n - i))).drop (i + [x].length)).take (n + 1)) = xs.take i ++ x :: xs.drop i := by
  have hl : xs.length = n := by rw [← ht, List.length_take]; omega
  have e1 : (cur.take (i + 1) ++ xs.drop i ++ cur.drop (i + 1 + (n - i))).take i = xs.take i := by
    rw [List.append_assoc, List.take_append_of_le_length (by rw [List.length_take]; omega), List.take_take, ← ht, List.take_take]
    congr 1
    omega
  have e2 : (cur.take (i + 1) ++ xs.drop i ++ cur.drop (i + 1 + (n - i))).drop (i + [x].length) = xs.drop i ++ cur.drop (i + 1 + (n - i)) := by
    rw [List.append_assoc]
    exact List.drop_left' (by rw [List.length_take, List.length_singleton]; omega)
  rw [e1, e2, show xs.take i ++ [x] ++ (xs.drop i ++ cur.drop (i + 1 + (n - i))) = (xs.take i ++ x :: xs.drop i) ++ cur.drop (i + 1 + (n - i)) by simp]
  exact List.take_left' (by rw [List.length_append, List.length_take, List.length_cons, List.length_drop]; omega)

set_option maxHeartbeats 4000000 in
theorem insert_room {base n i g c : Nat} {cur : Array Value} {xs : List Value} {w : World} {vb : Nat} {x : Value} (hb : base ≤ g) (hg : w.heap[g]? = some (.cells cur tPF (0, 0))) (hm : c ≤ maxLen) (hs : cur.size = c) (ht : cur.toList.take n = xs)
    (hi : i < n) (hroom : n + 1 ≤ c) (hx : w.heap[vb]? = some (.cells #[x] tPF (0, 0))) (hvb : vb ≠ g) (h1 : x.oneCell' = true) (h1c : ∀ u ∈ xs, u.oneCell' = true) :
    Calls Tryz.prog 109 #[.slice (some ⟨g, 0, none⟩) n c, .int .i64 i, .slice (some ⟨vb, 0, none⟩) 1 1] w (InsPost base n i (.slice (some ⟨g, 0, none⟩) n c) xs x w) := by
  have hxl : xs.length = n := by rw [← ht]; simp; omega
  have hdl : (xs.drop i).length = n - i := by rw [List.length_drop, hxl]
  have hov : ∀ lb cb, (callFunc 136 #[.slice (some ⟨vb, 0, none⟩) 1 1, .slice (some ⟨g, i + 1, none⟩) lb cb]).run Tryz.prog w = .ok (.value (.bool false)) w := fun lb cb => by
    rw [run_callFunc_extern Tryz.func136 (by kernel_rfl) (by kernel_rfl) (by kernel_rfl) (e := Extern.SlicesOverlaps.overlaps #[62, 62] #[4]) (by kernel_rfl),
      Lib.run_overlaps_apart w 62 4 tPF rfl 1 (fun w => by kernel_rfl) ⟨vb, 0, none⟩ ⟨g, i + 1, none⟩ 1 1 lb cb hvb tPF tPF 1 c (by simp [World.shape?, hx]) (by simp [World.shape?, hg, hs]) (by omega) (free_of hx _) (free_of hx _)]
    rfl
  obtain ⟨W1, hW1⟩ : ∃ W1, W1 = w.drew.setCells g (0 + (i + 1)) (xs.drop i) := ⟨_, rfl⟩
  have hg1 : W1.heap[g]? = some (.cells (laidIn cur (0 + (i + 1)) (xs.drop i)) tPF (0, 0)) := by rw [hW1]; exact heap_setCells _ _ hg
  have hT1 : Touch [g] w W1 := by rw [hW1]; exact touch_setCells (.inl (by simp)) _ _ (Touch.refl [g] w).drew
  have hx1 : W1.heap[vb]? = some (.cells #[x] tPF (0, 0)) := (hT1.block vb (lt_of_block hx) (by simpa using hvb)).trans hx
  have hcell : ∀ j u, xs[j]? = some u → w.drew.cell? ⟨g, j, none⟩ = some u := by
    intro j u hu
    rw [cell_of (w := w.drew) hg]
    rw [← ht, List.getElem?_take] at hu
    split at hu
    · simpa using hu
    · cases hu
  have hcp1 : ∀ ty dc sc, (Builtin.copy_ #[62, 62] ty #[.slice (some ⟨g, i + 1, none⟩) (n - i) dc, .slice (some ⟨g, i, none⟩) (n + 1 - i) sc]).run Tryz.prog w.drew = .ok (goInt (xs.drop i).length) W1 := fun ty dc sc => by
    rw [hW1, show 0 + (i + 1) = i + 1 by omega]
    exact run_copy_cells w.drew _ _ ty tPF g (i + 1) (n - i) dc ⟨g, i, none⟩ (n + 1 - i) sc (xs.drop i) rfl rfl (by rw [hdl]; simp only [Nat.min_def]; split <;> omega)
      (fun j v hj => by rw [Addr.add_lit]; exact hcell (i + j) v (by rwa [List.getElem?_drop] at hj))
      (fun j hj => by rw [hdl] at hj; rw [cell_of (w := w.drew) hg, Array.getElem?_eq_getElem (by omega)]; rfl) (fun j hj => free_of (w := w.drew) hg _) (fun v hv => h1c v (List.mem_of_mem_drop hv))
  have hcp2 : ∀ ty dc, (Builtin.copy_ #[62, 62] ty #[.slice (some ⟨g, i, none⟩) (n + 1 - i) dc, .slice (some ⟨vb, 0, none⟩) 1 1]).run Tryz.prog W1 = .ok (goInt [x].length) (W1.setCells g i [x]) := fun ty dc =>
    run_copy_cells W1 _ _ ty tPF g i (n + 1 - i) dc ⟨vb, 0, none⟩ 1 1 [x] rfl rfl (by simp only [List.length_cons, List.length_nil, Nat.min_def]; split <;> omega)
      (World.news_of_block hx1)
      (fun j hj => by rw [cell_of hg1, Array.getElem?_eq_getElem (by rw [laid_size]; simp at hj; omega)]; rfl) (fun j hj => free_of hg1 _) (by simpa using h1)
  have hfin : InsPost base n i (.slice (some ⟨g, 0, none⟩) n c) xs x w (.returned (.slice (some ⟨g, 0, none⟩) (n + 1) c)) (W1.setCells g i [x]) := by
    refine ⟨_, rfl, ⟨by simp; omega, .inr ⟨g, c, _, rfl, hb, heap_setCells _ _ hg1, hroom, hm, by rw [laid_size, laid_size, hs]; omega, ?_⟩⟩, touch_setCells (.inl (by simp [Value.ownBlock])) _ _ (by simpa [Value.ownBlock] using hT1), fun k hk => .inl (by simpa [Value.ownBlock] using hk)⟩
    rw [laid_list _ _ _ (by rw [laid_size]; simp; omega), laid_list _ _ _ (by rw [hdl]; omega)]
    have := ins_list cur.toList n i xs x ht hi (by rw [Array.length_toList]; omega)
    rw [hdl, show 0 + (i + 1) = i + 1 by omega, Nat.mul_one]
    exact this
  have HF := hid hfin
  have mixed : Tryz.prog.follows Departure.mixedOrders = true := rfl
  have hz2 : ¬ ((i : Int) = (n : Int)) := by omega
  have hc63 : c ≤ 9223372036854775807 := hm
  have hw1 : IntKind.i64.wrap ((i : Int) + 1) = (i : Int) + 1 := by rw [IntKind.wrap_i64]; omega
  have hw2 : IntKind.i64.wrap ((n : Int) + 1) = (n : Int) + 1 := by rw [IntKind.wrap_i64]; omega
  have hb1 : (0 : Int) ≤ (i : Int) + 1 := by omega
  have hin : i ≤ n := by omega
  have htn : ((i : Int) + 1).toNat = i + 1 := by omega
  have htm : ((n : Int) + 1).toNat = n + 1 := by omega
  have hb2 : ¬ (c = i + 1) := by omega
  have hb3 : (i : Int) ≤ (n : Int) + 1 := by omega
  have hb4 : ¬ (c = i) := by omega
  have hb5 : (n : Int) + 1 ≤ (c : Int) := by omega
  clear hW1 hg1 hT1 hx1 hcell hfin hdl hxl ht hs hg hx h1 h1c hb hm
  go_enter Tryz.func109, Tryz.ntmps109
  go_wp2_with (simp only [hov])
  go_region_law_o (refine step_copy_runI rfl _ _ 62 62 rfl _ _ (by simp [Act.eval, Act.put]) (by simp [Act.eval, Act.put]) (hcp1 _ _ _) ?_)
  go_wp2_with (at_builtin; refine wpList_copy_runI _ rfl _ _ 62 62 rfl _ _ rfl rfl (hcp2 _ _) ?_)
  go_ret
  exact HF.out
end Go.Proofs.YtjjocnkockeacaaGreatDoor

namespace Go.Proofs.YtjjocnkockeacaaGreatDoor
open Go.RowKit Go.Lib
set_option maxRecDepth 100000

theorem ins_list2 (row : List Value) (n i : Nat) (xs zs : List Value) (x : Value) (hl : xs.length = n) (hi : i < n) (hr : row = xs.take i ++ zs) :
    ((((row.take i ++ [x] ++ row.drop (i + [x].length)).take (i + 1)) ++ xs.drop i ++ (row.take i ++ [x] ++ row.drop (i + [x].length)).drop (i + 1 + (n - i))).take (n + 1)) = xs.take i ++ x :: xs.drop i := by
  have e1 : row.take i = xs.take i := by rw [hr]; exact List.take_left' (by rw [List.length_take]; omega)
  have e2 : (row.take i ++ [x] ++ row.drop (i + [x].length)).take (i + 1) = xs.take i ++ [x] := by
    rw [e1]
    exact List.take_left' (by rw [List.length_append, List.length_take, List.length_singleton]; omega)
  rw [e2]
  rw [show xs.take i ++ [x] ++ xs.drop i = xs.take i ++ x :: xs.drop i by simp]
  exact List.take_left' (by rw [List.length_append, List.length_take, List.length_cons, List.length_drop]; omega)

set_option maxHeartbeats 4000000 in
theorem insert_grow {base n i g c : Nat} {cur : Array Value} {xs : List Value} {w : World} {vb : Nat} {x : Value} (hb : base ≤ w.heap.size) (hg : w.heap[g]? = some (.cells cur tPF (0, 0))) (hnc : n ≤ c) (hs : cur.size = c) (ht : cur.toList.take n = xs)
    (hi : i < n) (hroom : c < n + 1) (hx : w.heap[vb]? = some (.cells #[x] tPF (0, 0))) (h1 : x.oneCell' = true) (h1c : ∀ u ∈ xs, u.oneCell' = true) (hn : n ≤ 1000000) :
    Calls Tryz.prog 109 #[.slice (some ⟨g, 0, none⟩) n c, .int .i64 i, .slice (some ⟨vb, 0, none⟩) 1 1] w (InsPost base n i (.slice (some ⟨g, 0, none⟩) n c) xs x w) := by
  have hxl : xs.length = n := by rw [← ht]; simp; omega
  have hdl : (xs.drop i).length = n - i := by rw [List.length_drop, hxl]
  have hcell : ∀ (W : World), W.heap[g]? = some (.cells cur tPF (0, 0)) → ∀ j u, xs[j]? = some u → W.cell? ⟨g, j, none⟩ = some u := by
    intro W hW j u hu
    rw [cell_of hW]
    rw [← ht, List.getElem?_take] at hu
    split at hu
    · simpa using hu
    · cases hu
  have hold : (Builtin.firstCells 1 i (.slice (some ⟨g, 0, none⟩) i c)).run Tryz.prog w.drew = .ok (xs.take i).toArray w.drew :=
    run_firstCells_some w.drew 1 i ⟨g, 0, none⟩ i c (xs.take i) (by rw [List.length_take]; omega) (fun j v hj => by
      rw [Addr.add_lit, Nat.zero_add]
      rw [List.getElem?_take] at hj
      split at hj
      · exact hcell w.drew hg j v hj
      · cases hj)
  have hkk : (n : Int) + 1 - (i : Int) = ((n + 1 - i : Nat) : Int) := by omega
  have hik : i + (n + 1 - i) = n + 1 := by omega
  obtain ⟨G, hG⟩ : ∃ G, G = grownCap w (n + 1) c tPF := ⟨_, rfl⟩
  obtain ⟨ROW, hROW⟩ : ∃ ROW : Array Value, ROW = (xs.take i).toArray ++ Builtin.zeroCells (Value.pointer none).cells (n + 1 - i) ++ Builtin.zeroCells (Value.pointer none).cells (G - (n + 1)) := ⟨_, rfl⟩
  have hGn : n + 1 ≤ G := by rw [hG]; exact grownCap_ge w _ _ _
  have hGm : G ≤ maxLen := by rw [hG]; exact grownCap_le_maxLen w (n + 1) c tPF (by unfold maxLen; omega)
  have hRs : ROW.size = G := by
    rw [hROW]
    simp only [Array.size_append, List.size_toArray, size_zeroCells, List.length_take, hxl]
    simp [Value.cells]
    omega
  have hrz : ∀ ty, (Builtin.append_ #[62, 3] ty #[.slice (some ⟨g, 0, none⟩) i c, .int .i64 ((n : Int) + 1 - (i : Int))]).run Tryz.prog w =
      .ok (.slice (some ⟨w.heap.size, 0, none⟩) (n + 1) G) (w.drew.alloc (.cells ROW tPF)) := fun ty => by
    have h := Lib.run_append_grow_zeros (P := Tryz.prog) w 62 3 ty tPF _ (.pointer none) .i64 .i64 rfl rfl rfl rfl (some ⟨g, 0, none⟩) i c (xs.take i) hold (n + 1 - i) (by omega) (by decide) (by omega) (by omega) (by show (n + 1 - i) * 8 ≤ _; omega) (by rw [hik]; exact growslice_fits hroom (by show (n + 1) * 8 ≤ _; omega))
    rw [hik] at h
    rw [hkk, hROW, hG]
    exact h
  obtain ⟨W1, hW1⟩ : ∃ W1, W1 = w.drew.alloc (.cells ROW tPF) := ⟨_, rfl⟩
  have hgl := lt_of_block hg
  have hxl2 := lt_of_block hx
  obtain ⟨K, hK⟩ : ∃ K, K = w.heap.size := ⟨_, rfl⟩
  have hN1 : W1.heap[K]? = some (.cells ROW tPF (0, 0)) := by rw [hW1, hK]; exact heap_alloc_new w.drew _
  have hT1 : Touch [] w W1 := by rw [hW1]; exact ((Touch.refl [] w).drew).alloc _
  have hx1 : W1.heap[vb]? = some (.cells #[x] tPF (0, 0)) := (hT1.block vb hxl2 (by simp)).trans hx
  have hg1 : W1.heap[g]? = some (.cells cur tPF (0, 0)) := (hT1.block g hgl (by simp)).trans hg
  obtain ⟨W2, hW2⟩ : ∃ W2, W2 = W1.setCells K i [x] := ⟨_, rfl⟩
  have hN2 : W2.heap[K]? = some (.cells (laidIn ROW i [x]) tPF (0, 0)) := by rw [hW2]; exact heap_setCells _ _ hN1
  have hT2 : Touch [] w W2 := by rw [hW2]; exact touch_setCells (.inr (by omega)) _ _ hT1
  have hg2 : W2.heap[g]? = some (.cells cur tPF (0, 0)) := (hT2.block g hgl (by simp)).trans hg
  have hcpA : ∀ ty dc, (Builtin.copy_ #[62, 62] ty #[.slice (some ⟨K, i, none⟩) (n + 1 - i) dc, .slice (some ⟨vb, 0, none⟩) 1 1]).run Tryz.prog W1 = .ok (goInt [x].length) W2 := fun ty dc => by
    rw [hW2]
    exact run_copy_cells W1 _ _ ty tPF K i (n + 1 - i) dc ⟨vb, 0, none⟩ 1 1 [x] rfl rfl (by simp only [List.length_cons, List.length_nil, Nat.min_def]; split <;> omega)
      (World.news_of_block hx1) (fun j hj => by rw [cell_of hN1, Array.getElem?_eq_getElem (by simp at hj; omega)]; rfl) (fun j hj => free_of hN1 _) (by simpa using h1)
  have hcpB : ∀ ty dc sc, (Builtin.copy_ #[62, 62] ty #[.slice (some ⟨K, i + 1, none⟩) (n - i) dc, .slice (some ⟨g, i, none⟩) (n - i) sc]).run Tryz.prog W2.drew = .ok (goInt (xs.drop i).length) (W2.drew.setCells K (i + 1) (xs.drop i)) := fun ty dc sc =>
    run_copy_cells W2.drew _ _ ty tPF K (i + 1) (n - i) dc ⟨g, i, none⟩ (n - i) sc (xs.drop i) rfl rfl (by rw [hdl]; simp only [Nat.min_def]; split <;> omega)
      (fun j v hj => by rw [Addr.add_lit]; exact hcell W2.drew hg2 (i + j) v (by rwa [List.getElem?_drop] at hj))
      (fun j hj => by rw [hdl] at hj; rw [cell_of (w := W2.drew) hN2, Array.getElem?_eq_getElem (by rw [laid_size]; omega)]; rfl) (fun j hj => free_of (w := W2.drew) hN2 _) (fun v hv => h1c v (List.mem_of_mem_drop hv))
  have hfin : InsPost base n i (.slice (some ⟨g, 0, none⟩) n c) xs x w (.returned (.slice (some ⟨K, 0, none⟩) (n + 1) G)) (W2.drew.setCells K (i + 1) (xs.drop i)) := by
    refine ⟨_, rfl, ⟨by simp; omega, .inr ⟨K, G, _, rfl, by omega, heap_setCells _ _ (w := W2.drew) hN2, hGn, hGm, by rw [laid_size, laid_size, hRs]; omega, ?_⟩⟩, (touch_setCells (.inr (by omega)) _ _ hT2.drew).mono (by simp), fun k hk => .inr (by simp [Value.ownBlock] at hk; omega)⟩
    rw [laid_list _ _ _ (by rw [laid_size, hdl]; omega), laid_list _ _ _ (by simp; omega), hdl, Nat.mul_one]
    refine ins_list2 ROW.toList n i xs (Builtin.zeroCells (Value.pointer none).cells (n + 1 - i) ++ Builtin.zeroCells (Value.pointer none).cells (G - (n + 1))).toList x hxl hi ?_
    rw [hROW]; simp
  have HF := hid hfin
  have mixed : Tryz.prog.follows Departure.mixedOrders = true := rfl
  have hz2 : ¬ ((i : Int) = (n : Int)) := by omega
  have hz3 : (c : Int) < (n : Int) + 1 := by omega
  have hG63 : G ≤ 9223372036854775807 := hGm
  have hw1 : IntKind.i64.wrap ((i : Int) + 1) = (i : Int) + 1 := by rw [IntKind.wrap_i64]; omega
  have hw2 : IntKind.i64.wrap ((n : Int) + 1) = (n : Int) + 1 := by rw [IntKind.wrap_i64]; omega
  have hw3 : IntKind.i64.wrap ((n : Int) + 1 - (i : Int)) = (n : Int) + 1 - (i : Int) := by rw [IntKind.wrap_i64]; omega
  have hb1 : (0 : Int) ≤ (i : Int) + 1 := by omega
  have hin : i ≤ n := by omega
  have htn : ((i : Int) + 1).toNat = i + 1 := by omega
  have hGi : ¬ (G = i) := by omega
  have hGim : ¬ (G = i + 1) := by omega
  have hci : ¬ (c = i) := by omega
  have hb3 : (i : Int) + 1 ≤ (n : Int) + 1 := by omega
  have hb4 : (i : Int) ≤ (n : Int) + 1 := by omega
  have hsz : w.heap.size = K := hK.symm
  rw [← hW1] at hrz
  rw [← hK] at hrz
  have hWd : ∀ (k : Nat), True := fun _ => trivial
  clear hWd hW1 hW2 hN1 hT1 hx1 hg1 hN2 hT2 hg2 hcell hold hkk hik hG hROW hGm hRs hfin hdl hxl ht hs hg hx h1 h1c hb hgl hxl2 hK
  go_enter Tryz.func109, Tryz.ntmps109
  go_wp2_with (first
    | (at_builtin; refine Lib.wpList_append_run _ rfl _ _ _ _ rfl _ _ rfl rfl _ _ (hrz _) ?_)
    | (at_builtin; refine wpList_copy_runI _ rfl _ _ 62 62 rfl _ _ rfl rfl (hcpA _ _) ?_))
  go_region_law_o (refine step_copy_runI rfl _ _ 62 62 rfl (.slice (some ⟨K, i + 1, none⟩) (n - i) (G - (i + 1))) (.slice (some ⟨g, i, none⟩) (n - i) (c - i)) (by simp [Act.eval, Act.put]) (by simp [Act.eval, Act.put]) (hcpB 3 (G - (i + 1)) (c - i)) ?_)
  go_wp2
  go_ret
  exact HF.out

theorem insert_any {base n i : Nat} {v : Value} {xs : List Value} {w : World} {vb : Nat} {x : Value} (h : w.ownsRow base tPF 1 v n xs) (hb : base ≤ w.heap.size) (hi : i ≤ n) (hx : w.heap[vb]? = some (.cells #[x] tPF (0, 0))) (hvb : vb ∉ v.ownBlock.toList) (h1 : x.oneCell' = true) (h1c : ∀ u ∈ xs, u.oneCell' = true) (hn : n ≤ 1000000) :
    Calls Tryz.prog 109 #[v, .int .i64 i, .slice (some ⟨vb, 0, none⟩) 1 1] w (InsPost base n i v xs x w) := by
  rcases Nat.lt_or_eq_of_le hi with hlt | rfl
  · rcases h.2 with ⟨rfl, rfl⟩ | ⟨g, c, cur, rfl, hbg, hg, hnc, hm, hs, ht⟩
    · omega
    · have hs' : cur.size = c := by omega
      have ht' : cur.toList.take n = xs := by simpa using ht
      by_cases hr : n + 1 ≤ c
      · exact insert_room hbg hg hm hs' ht' hlt hr hx (by simpa [Value.ownBlock] using hvb) h1 h1c
      · exact insert_grow hb hg hnc hs' ht' hlt (by omega) hx h1 h1c hn
  · exact insert_end h hb hx h1 hn
end Go.Proofs.YtjjocnkockeacaaGreatDoor
