/- slices.Insert, where there is no room: a new row; and all roads together. -/
import Derived.Test.YthibabfojndlkaaSlI
namespace Go.Proofs.Ythibabfojndlkaa
open Go.RowKit Go.Lib
set_option maxRecDepth 100000

theorem ins_list2 (row : List Value) (n i : Nat) (xs zs : List Value) (x : Value) (hl : xs.length = n) (hi : i < n) (hr : row = xs.take i ++ zs) :
    ((((row.take i ++ [x] ++ row.drop (i + [x].length)).take (i + 1)) ++ xs.drop i ++ (row.take i ++ [x] ++ row.drop (i + [x].length)).drop (i + 1 + (n - i))).take (n + 1)) = xs.take i ++ x :: xs.drop i := by
  have e1 : row.take i = xs.take i := by rw [hr]; exact List.take_left' (by rw [List.length_take]; omega)
  have e2 : (row.take i ++ [x] ++ row.drop (i + [x].length)).take (i + 1) = xs.take i ++ [x] := by
    rw [e1]
    exact List.take_left' (by rw [List.length_append, List.length_take, List.length_singleton]; omega)
  rw [e2]
  rw [show xs.take i ++ [x] ++ xs.drop i = xs.take i ++ x :: xs.drop i by simp]
  exact List.take_left' (by rw [List.length_append, List.length_take, List.length_cons, List.length_drop]; omega)

set_option maxHeartbeats 4000000 in
theorem insert_grow {base n i g c : Nat} {cur : Array Value} {xs : List Value} {w : World} {vb : Nat} {x : Value} (hb : base ≤ w.heap.size) (hg : w.heap[g]? = some (.cells cur tPF (0, 0))) (hnc : n ≤ c) (hs : cur.size = c) (ht : cur.toList.take n = xs)
    (hi : i < n) (hroom : c < n + 1) (hx : w.heap[vb]? = some (.cells #[x] tPF (0, 0))) (h1 : x.oneCell' = true) (h1c : ∀ u ∈ xs, u.oneCell' = true) (hn : n ≤ 1000000) :
    Calls Try.prog 54 #[.slice (some ⟨g, 0, none⟩) n c, .int .i64 i, .slice (some ⟨vb, 0, none⟩) 1 1] w (InsPost base n i (.slice (some ⟨g, 0, none⟩) n c) xs x w) := by
  have hxl : xs.length = n := by rw [← ht]; simp; omega
  have hdl : (xs.drop i).length = n - i := by rw [List.length_drop, hxl]
  have hcell : ∀ (W : World), W.heap[g]? = some (.cells cur tPF (0, 0)) → ∀ j u, xs[j]? = some u → W.cell? ⟨g, j, none⟩ = some u := by
    intro W hW j u hu
    rw [cell_of hW]
    rw [← ht, List.getElem?_take] at hu
    split at hu
    · simpa using hu
    · cases hu
  have hold : (Builtin.firstCells 1 i (.slice (some ⟨g, 0, none⟩) i c)).run Try.prog w.drew = .ok (xs.take i).toArray w.drew :=
    run_firstCells_some w.drew 1 i ⟨g, 0, none⟩ i c (xs.take i) (by rw [List.length_take]; omega) (fun j v hj => by
      rw [Addr.add_lit, Nat.zero_add]
      rw [List.getElem?_take] at hj
      split at hj
      · exact hcell w.drew hg j v hj
      · cases hj)
  have hkk : (n : Int) + 1 - (i : Int) = ((n + 1 - i : Nat) : Int) := by omega
  have hik : i + (n + 1 - i) = n + 1 := by omega
  obtain ⟨G, hG⟩ : ∃ G, G = grownCap w (n + 1) c tPF := ⟨_, rfl⟩
  obtain ⟨ROW, hROW⟩ : ∃ ROW : Array Value, ROW = (xs.take i).toArray ++ Builtin.zeroCells (Value.pointer none).cells (n + 1 - i) ++ Builtin.zeroCells (Value.pointer none).cells (G - (n + 1)) := ⟨_, rfl⟩
  have hGn : n + 1 ≤ G := by rw [hG]; exact grownCap_ge w _ _ _
  have hGm : G ≤ maxLen := by rw [hG]; exact grownCap_le_maxLen w (n + 1) c tPF (by unfold maxLen; omega)
  have hRs : ROW.size = G := by
    rw [hROW]
    simp only [Array.size_append, List.size_toArray, size_zeroCells, List.length_take, hxl]
    simp [Value.cells]
    omega
  have hrz : ∀ ty, (Builtin.append_ #[55, 3] ty #[.slice (some ⟨g, 0, none⟩) i c, .int .i64 ((n : Int) + 1 - (i : Int))]).run Try.prog w =
      .ok (.slice (some ⟨w.heap.size, 0, none⟩) (n + 1) G) (w.drew.alloc (.cells ROW tPF)) := fun ty => by
    have h := Lib.run_append_grow_zeros (P := Try.prog) w 55 3 ty tPF _ (.pointer none) .i64 .i64 rfl rfl rfl rfl (some ⟨g, 0, none⟩) i c (xs.take i) hold (n + 1 - i) (by omega) (by decide) (by omega) (by omega) (by show (n + 1 - i) * 8 ≤ _; omega) (by rw [hik]; exact growslice_fits hroom (by show (n + 1) * 8 ≤ _; omega))
    rw [hik] at h
    rw [hkk, hROW, hG]
    exact h
  obtain ⟨W1, hW1⟩ : ∃ W1, W1 = w.drew.alloc (.cells ROW tPF) := ⟨_, rfl⟩
  have hgl := lt_of_block hg
  have hxl2 := lt_of_block hx
  obtain ⟨K, hK⟩ : ∃ K, K = w.heap.size := ⟨_, rfl⟩
  have hN1 : W1.heap[K]? = some (.cells ROW tPF (0, 0)) := by rw [hW1, hK]; exact heap_alloc_new w.drew _
  have hT1 : Touch [] w W1 := by rw [hW1]; exact ((Touch.refl [] w).drew).alloc _
  have hx1 : W1.heap[vb]? = some (.cells #[x] tPF (0, 0)) := (hT1.block vb hxl2 (by simp)).trans hx
  have hg1 : W1.heap[g]? = some (.cells cur tPF (0, 0)) := (hT1.block g hgl (by simp)).trans hg
  obtain ⟨W2, hW2⟩ : ∃ W2, W2 = W1.setCells K i [x] := ⟨_, rfl⟩
  have hN2 : W2.heap[K]? = some (.cells (laidIn ROW i [x]) tPF (0, 0)) := by rw [hW2]; exact heap_setCells _ _ hN1
  have hT2 : Touch [] w W2 := by rw [hW2]; exact touch_setCells (.inr (by omega)) _ _ hT1
  have hg2 : W2.heap[g]? = some (.cells cur tPF (0, 0)) := (hT2.block g hgl (by simp)).trans hg
  have hcpA : ∀ ty dc, (Builtin.copy_ #[55, 55] ty #[.slice (some ⟨K, i, none⟩) (n + 1 - i) dc, .slice (some ⟨vb, 0, none⟩) 1 1]).run Try.prog W1 = .ok (goInt [x].length) W2 := fun ty dc => by
    rw [hW2]
    exact run_copy_cells W1 _ _ ty tPF K i (n + 1 - i) dc ⟨vb, 0, none⟩ 1 1 [x] rfl rfl (by simp only [List.length_cons, List.length_nil, Nat.min_def]; split <;> omega)
      (World.news_of_block hx1) (fun j hj => by rw [cell_of hN1, Array.getElem?_eq_getElem (by simp at hj; omega)]; rfl) (fun j hj => free_of hN1 _) (by simpa using h1)
  have hcpB : ∀ ty dc sc, (Builtin.copy_ #[55, 55] ty #[.slice (some ⟨K, i + 1, none⟩) (n - i) dc, .slice (some ⟨g, i, none⟩) (n - i) sc]).run Try.prog W2.drew = .ok (goInt (xs.drop i).length) (W2.drew.setCells K (i + 1) (xs.drop i)) := fun ty dc sc =>
    run_copy_cells W2.drew _ _ ty tPF K (i + 1) (n - i) dc ⟨g, i, none⟩ (n - i) sc (xs.drop i) rfl rfl (by rw [hdl]; simp only [Nat.min_def]; split <;> omega)
      (fun j v hj => by rw [Addr.add_lit]; exact hcell W2.drew hg2 (i + j) v (by rwa [List.getElem?_drop] at hj))
      (fun j hj => by rw [hdl] at hj; rw [cell_of (w := W2.drew) hN2, Array.getElem?_eq_getElem (by rw [laid_size]; omega)]; rfl) (fun j hj => free_of (w := W2.drew) hN2 _) (fun v hv => h1c v (List.mem_of_mem_drop hv))
  have hfin : InsPost base n i (.slice (some ⟨g, 0, none⟩) n c) xs x w (.returned (.slice (some ⟨K, 0, none⟩) (n + 1) G)) (W2.drew.setCells K (i + 1) (xs.drop i)) := by
    refine ⟨_, rfl, ⟨by simp; omega, .inr ⟨K, G, _, rfl, by omega, heap_setCells _ _ (w := W2.drew) hN2, hGn, hGm, by rw [laid_size, laid_size, hRs]; omega, ?_⟩⟩, (touch_setCells (.inr (by omega)) _ _ hT2.drew).mono (by simp), fun k hk => .inr (by simp [Value.ownBlock] at hk; omega)⟩
    rw [laid_list _ _ _ (by rw [laid_size, hdl]; omega), laid_list _ _ _ (by simp; omega), hdl, Nat.mul_one]
    refine ins_list2 ROW.toList n i xs (Builtin.zeroCells (Value.pointer none).cells (n + 1 - i) ++ Builtin.zeroCells (Value.pointer none).cells (G - (n + 1))).toList x hxl hi ?_
    rw [hROW]; simp
  have HF := hid hfin
  have mixed : Try.prog.follows Departure.mixedOrders = true := rfl
  have hz2 : ¬ ((i : Int) = (n : Int)) := by omega
  have hz3 : (c : Int) < (n : Int) + 1 := by omega
  have hG63 : G ≤ 9223372036854775807 := hGm
  have hw1 : IntKind.i64.wrap ((i : Int) + 1) = (i : Int) + 1 := by rw [IntKind.wrap_i64]; omega
  have hw2 : IntKind.i64.wrap ((n : Int) + 1) = (n : Int) + 1 := by rw [IntKind.wrap_i64]; omega
  have hw3 : IntKind.i64.wrap ((n : Int) + 1 - (i : Int)) = (n : Int) + 1 - (i : Int) := by rw [IntKind.wrap_i64]; omega
  have hb1 : (0 : Int) ≤ (i : Int) + 1 := by omega
  have hin : i ≤ n := by omega
  have htn : ((i : Int) + 1).toNat = i + 1 := by omega
  have hGi : ¬ (G = i) := by omega
  have hGim : ¬ (G = i + 1) := by omega
  have hci : ¬ (c = i) := by omega
  have hb3 : (i : Int) + 1 ≤ (n : Int) + 1 := by omega
  have hb4 : (i : Int) ≤ (n : Int) + 1 := by omega
  have hsz : w.heap.size = K := hK.symm
  rw [← hW1] at hrz
  rw [← hK] at hrz
  have hWd : ∀ (k : Nat), True := fun _ => trivial
  clear hWd hW1 hW2 hN1 hT1 hx1 hg1 hN2 hT2 hg2 hcell hold hkk hik hG hROW hGm hRs hfin hdl hxl ht hs hg hx h1 h1c hb hgl hxl2 hK
  go_enter Try.func54, Try.ntmps54
  go_wp2_with (first
    | (at_builtin; refine Lib.wpList_append_run _ rfl _ _ _ _ rfl _ _ rfl rfl _ _ (hrz _) ?_)
    | (at_builtin; refine wpList_copy_runI _ rfl _ _ 55 55 rfl _ _ rfl rfl (hcpA _ _) ?_))
  go_region_law_o (refine step_copy_runI rfl _ _ 55 55 rfl (.slice (some ⟨K, i + 1, none⟩) (n - i) (G - (i + 1))) (.slice (some ⟨g, i, none⟩) (n - i) (c - i)) (by simp [Act.eval, Act.put]) (by simp [Act.eval, Act.put]) (hcpB 3 (G - (i + 1)) (c - i)) ?_)
  go_wp2
  go_ret
  exact HF.out

theorem insert_any {base n i : Nat} {v : Value} {xs : List Value} {w : World} {vb : Nat} {x : Value} (h : w.ownsRow base tPF 1 v n xs) (hb : base ≤ w.heap.size) (hi : i ≤ n) (hx : w.heap[vb]? = some (.cells #[x] tPF (0, 0))) (hvb : vb ∉ v.ownBlock.toList) (h1 : x.oneCell' = true) (h1c : ∀ u ∈ xs, u.oneCell' = true) (hn : n ≤ 1000000) :
    Calls Try.prog 54 #[v, .int .i64 i, .slice (some ⟨vb, 0, none⟩) 1 1] w (InsPost base n i v xs x w) := by
  rcases Nat.lt_or_eq_of_le hi with hlt | rfl
  · rcases h.2 with ⟨rfl, rfl⟩ | ⟨g, c, cur, rfl, hbg, hg, hnc, hm, hs, ht⟩
    · omega
    · have hs' : cur.size = c := by omega
      have ht' : cur.toList.take n = xs := by simpa using ht
      by_cases hr : n + 1 ≤ c
      · exact insert_room hbg hg hm hs' ht' hlt hr hx (by simpa [Value.ownBlock] using hvb) h1 h1c
      · exact insert_grow hb hg hnc hs' ht' hlt (by omega) hx h1 h1c hn
  · exact insert_end h hb hx h1 hn
end Go.Proofs.Ythibabfojndlkaa
