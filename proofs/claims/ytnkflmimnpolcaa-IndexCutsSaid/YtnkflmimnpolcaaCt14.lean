/- Cut of an index. -/
import Derived.Test.YtnkflmimnpolcaaIkm14
import Derived.Laws.AppendOwnNone
namespace Go.Proofs.Ytnkflmimnpolcaa
open Go.RowKit Go.Lib Go.Shelf
set_option maxRecDepth 100000

theorem cutL_append (a b : List En) (q : Int) : cutL (a ++ b) q = cutL a q ++ cutL b q := by simp [cutL]
theorem cutL_sorted {l : List En} (h : SortedE l) (q : Int) : SortedE (cutL l q) := h.sublist List.filter_sublist
theorem cutL_sub (l : List En) (q : Int) : ∀ e ∈ cutL l q, e ∈ l := fun e he => (List.mem_filter.1 he).1
theorem cutL_perm {a b : List En} (h : a.Perm b) (q : Int) : (cutL a q).Perm (cutL b q) := h.filter _
/-- Memory is cut. -/
theorem memcut_any {w : World} {xb room most : Nat} {T : Tr} {L : List LvV} (h : IxAt w xb room most T L) (hs : SortedE T.io) (hA : fromE T.io (0, 0, 0) = T.io) (hlen : T.io.length ≤ 100000) (q : Int) :
    Calls Try.prog 24 #[.pointer (some ⟨xb, 2, none⟩), .int .i64 q] w fun r w' => ∃ T' z, r = .returned (.int .i64 z) ∧ IxAt w' xb room most T' L ∧ T'.io = cutL T.io q ∧ Touch [xb] w w' := by
  obtain ⟨⟨r, x, c, h1, h2, h3⟩, h4, h5⟩ := h
  refine (cut_any q xb 2 _ TIx T hs hA (by omega) w ⟨h1, by decide, r, rfl, h2⟩).mono ?_
  rintro r' w' ⟨T', cs', hcs, rfl, hT, hio, t⟩
  have R := rest_touch_ix h1 t
  have hL : LvsAt w' x c L := ⟨R.row h3.own (by decide), fun v hv => (h3.lv v hv).rest R (by decide) (by decide)⟩
  refine ⟨T', _, rfl, ⟨?_, h4, h5⟩, hio, t⟩
  obtain ⟨g1, g2, r2, g3, g4⟩ := hT
  rcases hcs with rfl | ⟨r3, rfl⟩
  · cases g3
    exact ⟨_, x, c, g1, g4, hL⟩
  · cases g3
    exact ⟨_, x, c, g1, g4, hL⟩
abbrev nilV : LvV := ⟨none, 0, []⟩
theorem make_lvs (n : Nat) (hn : n ≤ 100000) (w : World) : (Instr.makeSlice TLvs (.int .i64 (n : Int)) (.int .i64 (n : Int))).run Try.prog w = .ok (.slice (some ⟨w.heap.size, 0, none⟩) n n) (w.alloc (.cells (madeCells #[.slice none 0 0] n) TTbs)) := by
  have := run_makeSlice (P := Try.prog) w TLvs TTbs _ (.slice none 0 0) rfl rfl rfl .i64 .i64 (n : Int) (n : Int) (by omega) (by omega) (by show (n : Int).toNat * 1 ≤ _; omega) (by show (24 : Int) * (n : Int) ≤ _; omega) (by omega)
  simp only [Int.toNat_natCast] at this
  rw [this]
  show Result.ok _ (w.alloc (.cells (madeCells #[.slice none 0 0] (n * 1)) TTbs)) = _
  rw [Nat.mul_one]
theorem made_list (n : Nat) : (madeCells #[Value.slice none 0 0] n).toList = List.replicate n (.slice none 0 0) := by
  rw [List.eq_replicate_iff]
  refine ⟨by simp [madeCells], fun b hb => ?_⟩
  simp only [madeCells, Array.toList_map, List.mem_map] at hb
  obtain ⟨i, -, rfl⟩ := hb
  simp [Nat.mod_one]
theorem made_own (n : Nat) (hn : n ≤ 100000) (w : World) : (w.alloc (.cells (madeCells #[.slice none 0 0] n) TTbs)).ownsRow w.heap.size TTbs 1 (.slice (some ⟨w.heap.size, 0, none⟩) n n) n ((List.replicate n nilV).map LvV.val) := by
  refine ⟨by simp, .inr ⟨w.heap.size, n, _, rfl, Nat.le_refl _, heap_alloc_new w _, Nat.le_refl _, by unfold maxLen; omega, by simp [madeCells], ?_⟩⟩
  rw [made_list]
  simp [LvV.val]
/-- What Cut's loops hold: at level k, of which j tables have been seen. Wk: as level k was begun; Dk: the levels ahead of it. -/
structure CutK (wB Wk wq : World) (g n c : Nat) (q : Int) (L : List LvV) (Dk : List LvV) (k j : Nat) (u0 : Nat) (uv : Nat) (v : LvV) : Prop where
  own : wq.ownsRow wB.heap.size TTbs 1 (.slice (some ⟨g, 0, none⟩) n c) n ((Dk ++ v :: List.replicate (n - k - 1) nilV).map LvV.val)
  row : wq.ownsRow Wk.heap.size TTb 1 v.val v.ts.length (v.ts.map TabV.val)
  tab : ∀ t ∈ v.ts, t.At wq
  t : Touch [g] Wk wq
  ent : flatT v.ts = cutL (flatT ((L[k]?.getD nilV).ts.take j)) q
  used : (v.ts = [] → uv = u0) ∧ (v.ts ≠ [] → uv = k + 1)
  len : v.ts.length ≤ j
/-- .. between two levels. -/
structure CutJ (wB wq : World) (g n c : Nat) (q : Int) (L : List LvV) (Dk : List LvV) (k uv : Nat) : Prop where
  own : wq.ownsRow wB.heap.size TTbs 1 (.slice (some ⟨g, 0, none⟩) n c) n ((Dk ++ List.replicate (n - k) nilV).map LvV.val)
  lv : ∀ v ∈ Dk, v.At wq
  t : Touch [] wB wq
  ent : flatT (tabsL Dk) = cutL (flatT (tabsL (L.take k))) q
  dk : Dk.length = k
  ul : uv ≤ k
  used : ∀ (i : Nat) (h : i < Dk.length), uv ≤ i → Dk[i].ts = []
theorem CutJ.start (wB : World) (g n c : Nat) (q : Int) (L : List LvV) {wq : World} (ho : wq.ownsRow wB.heap.size TTbs 1 (.slice (some ⟨g, 0, none⟩) n c) n ((List.replicate n nilV).map LvV.val)) (t : Touch [] wB wq) : CutJ wB wq g n c q L [] 0 0 :=
  ⟨by simpa using ho, fun v hv => (by cases hv), t, by simp [tabsL, flatT, cutL], rfl, Nat.le_refl _, fun i h => absurd h (Nat.not_lt_zero i)⟩
theorem rep_cons {n k : Nat} (h : k < n) : List.replicate (n - k) nilV = nilV :: List.replicate (n - k - 1) nilV := by
  rw [show n - k = (n - k - 1) + 1 by omega, List.replicate_succ]
  simp
theorem CutJ.level {wB wq : World} {g n c k uv : Nat} {q : Int} {L Dk : List LvV} (h : CutJ wB wq g n c q L Dk k uv) (hk : k < n) : CutK wB wq wq g n c q L Dk k 0 uv uv nilV := by
  refine ⟨?_, World.ownsRow_nil _ _ _ _, fun t ht => (by cases ht), Touch.refl _ _, by simp [flatT, cutL], ⟨fun _ => rfl, fun h => absurd rfl h⟩, Nat.le_refl _⟩
  have := h.own
  rwa [rep_cons hk] at this
theorem own_g {w : World} {B g n c : Nat} {e : TypeId} {xs : List Value} (h : w.ownsRow B e 1 (.slice (some ⟨g, 0, none⟩) n c) n xs) : B ≤ g ∧ ∃ cur, w.heap[g]? = some (.cells cur e (0, 0)) := by
  rcases h.2 with ⟨e', h0⟩ | ⟨g', cap, cur, e', hb, hg, _⟩
  · cases e'
  · cases e'
    exact ⟨hb, cur, hg⟩
theorem at_touch {w w' : World} {g : Nat} {cur : Array Value} (hg : w.heap[g]? = some (.cells cur TTbs (0, 0))) (t : Touch [g] w w') : Rest [TTbs] w w' := fun b cs ty fz hb hn => by
  refine touch_other t hb ?_
  intro e
  obtain rfl := List.mem_singleton.1 e
  rw [hg] at hb
  cases hb
  exact hn (by simp)
theorem CutK.done {wB Wk wq : World} {g n c k u0 uv : Nat} {q : Int} {L Dk : List LvV} {v : LvV} (h0 : CutJ wB Wk g n c q L Dk k u0) (h : CutK wB Wk wq g n c q L Dk k ((L[k]?.getD nilV).ts.length) u0 uv v) (hk : k < n) (hL : L.length = n) : CutJ wB wq g n c q L (Dk ++ [v]) (k + 1) uv := by
  obtain ⟨hb, cur, hg⟩ := own_g h0.own
  have hR := at_touch hg h.t
  refine ⟨?_, ?_, ?_, ?_, by rw [List.length_append, h0.dk]; rfl, ?_, ?_⟩
  · have := h.own
    rw [show n - (k + 1) = n - k - 1 by omega, List.append_assoc]
    exact this
  · intro v' hv'
    rcases List.mem_append.1 hv' with h1 | h1
    · exact (h0.lv v' h1).rest hR (by decide) (by decide)
    · obtain rfl := List.mem_singleton.1 h1
      exact ⟨row_base h.row (Nat.zero_le _), h.tab⟩
  · exact h0.t.trans h.t (by intro x hx; obtain rfl := List.mem_singleton.1 hx; exact .inr hb)
  · have hk2 : k < L.length := by omega
    have e1 : tabsL (Dk ++ [v]) = tabsL Dk ++ v.ts := by simp [tabsL]
    have e2 : tabsL (L.take (k + 1)) = tabsL (L.take k) ++ (L[k]?.getD nilV).ts := by
      rw [List.take_succ_eq_append_getElem hk2]
      unfold tabsL
      rw [List.flatMap_append]
      congr 1
      simp [hk2]
    rw [e1, e2, flatT_app, flatT_app, cutL_append, h0.ent, h.ent, List.take_length]
  · have := h0.ul
    by_cases hv : v.ts = []
    · rw [h.used.1 hv]; omega
    · rw [h.used.2 hv]
      omega
  · intro i hi hu
    have hd := h0.dk
    rw [List.length_append] at hi
    simp at hi
    by_cases hik : i < Dk.length
    · rw [List.getElem_append_left hik]
      by_cases hv : v.ts = []
      · rw [h.used.1 hv] at hu
        exact h0.used i hik hu
      · rw [h.used.2 hv] at hu
        omega
    · have : i = Dk.length := by omega
      subst this
      simp
      by_cases hv : v.ts = []
      · exact hv
      · rw [h.used.2 hv] at hu
        omega

theorem CutK.skip {wB Wk wq w1 : World} {g n c k j u0 uv : Nat} {q : Int} {L Dk : List LvV} {v : LvV} (h : CutK wB Wk wq g n c q L Dk k j u0 uv v) (t1 : Touch [] wq w1) (hj : j < (L[k]?.getD nilV).ts.length) (he : cutL ((L[k]?.getD nilV).ts[j]).l q = []) : CutK wB Wk w1 g n c q L Dk k (j + 1) u0 uv v :=
  ⟨owns_touch h.own t1, owns_touch h.row t1, fun t ht => (h.tab t ht).t0 t1, h.t.trans t1 (by simp), by rw [flatT_take hj, cutL_append, he, List.append_nil]; exact h.ent, h.used, Nat.le_succ_of_le h.len⟩
theorem set_mid (Dk : List LvV) (v v' : LvV) (R : List LvV) {k : Nat} (hd : Dk.length = k) : ((Dk ++ v :: R).map LvV.val).set k v'.val = (Dk ++ v' :: R).map LvV.val := by
  subst hd
  simp [List.set_append]
theorem CutK.cell {wB Wk wq : World} {g n c k j u0 uv : Nat} {q : Int} {L Dk : List LvV} {v : LvV} (h : CutK wB Wk wq g n c q L Dk k j u0 uv v) (hd : Dk.length = k) : wq.cell? ⟨g, k, none⟩ = some v.val ∧ wq.frozen? ⟨g, k, none⟩ = false := by
  have := row_cell h.own (i := k) (by simp; omega)
  rw [List.getElem_map] at this
  simpa [List.getElem_append, hd] using this
/-- One more table is kept. -/
theorem CutK.put {wB Wk wq w1 w2 : World} {g n c k j u0 uv cap : Nat} {q : Int} {L Dk : List LvV} {v : LvV} {kt : TabV} {y : Option Addr} (h : CutK wB Wk wq g n c q L Dk k j u0 uv v) (hd : Dk.length = k) (hk : k < n) (t1 : Touch [] wq w1) (hj : j < (L[k]?.getD nilV).ts.length) (ht : kt.At w1) (he : kt.l = cutL ((L[k]?.getD nilV).ts[j]).l q)
    (hg0 : g < Wk.heap.size) (hG : Grew (w1.alloc (.cells #[kt.val] TTb)) w2 Wk.heap.size TTb 1 v.val (.slice y (v.ts.length + 1) cap) v.ts.length 1 (v.ts.map TabV.val) [kt.val]) :
    (w2.cell? ⟨g, k, none⟩ = some v.val ∧ w2.frozen? ⟨g, k, none⟩ = false) ∧ CutK wB Wk (w2.setCell ⟨g, k, none⟩ (.slice y (v.ts.length + 1) cap)) g n c q L Dk k (j + 1) u0 (k + 1) ⟨y, cap, v.ts ++ [kt]⟩ := by
  have ta := t1.alloc (.cells #[kt.val] TTb)
  have hrow := owns_touch h.row ta
  have R1 : Rest [TTb] wq w2 := (Rest.touch ta).trans (hG.rest hrow (by simp))
  have R1' : Rest [TTb] w1 w2 := (Rest.touch ((Touch.refl [] w1).alloc _)).trans (hG.rest hrow (by simp))
  have own2 := R1.row h.own (by decide)
  have hgr := hG.grown
  have T2 : Touch [g] Wk w2 := (h.t.trans ta (by simp)).grown hgr (fun k' hk' => .inr (by
    rcases hrow.2 with ⟨e', h0⟩ | ⟨g', cap', cur, e', hb, hg, _⟩
    · rw [e'] at hk'; cases hk'
    · rw [e'] at hk'; simp [Value.ownBlock] at hk'; omega))
  have hR := rest_set (ts := [TTbs]) (i := k) own2 (by simp) (.slice y (v.ts.length + 1) cap)
  have hc := row_cell own2 (i := k) (by simp; omega)
  rw [List.getElem_map] at hc
  refine ⟨by simpa [List.getElem_append, hd] using hc, ?_, ?_, ?_, T2.setCell (.inl (by simp)) _, ?_, ⟨fun h => absurd h (by simp), fun _ => rfl⟩, ?_⟩
  · have := row_set own2 hk (.slice y (v.ts.length + 1) cap)
    have e := set_mid Dk v ⟨y, cap, v.ts ++ [kt]⟩ (List.replicate (n - k - 1) nilV) hd
    have hv : (⟨y, cap, v.ts ++ [kt]⟩ : LvV).val = .slice y (v.ts.length + 1) cap := by simp [LvV.val]
    rw [hv] at e
    rwa [e] at this
  · have := hR.row hG.own (by decide)
    simpa [LvV.val] using this
  · intro t' ht'
    rcases List.mem_append.1 ht' with h' | h'
    · exact ((h.tab t' h').rest R1 (by decide)).rest hR (by decide)
    · obtain rfl := List.mem_singleton.1 h'
      exact (ht.rest R1' (by decide)).rest hR (by decide)
  · rw [flatT_app, flatT_take hj, cutL_append, ← he, h.ent]
    simp [flatT]
  · rw [List.length_append]
    have := h.len
    simp
    omega
theorem kept_tab {w w' : World} {t : TabV} {q : Int} {y : Option Addr} {cc : Nat} (ht : t.At w) (ho : w'.ownsRow w.heap.size TEn 3 (.slice y (cutL t.l q).length cc) (cutL t.l q).length (envals (cutL t.l q))) (hne : cutL t.l q ≠ []) : (⟨y, cc, cutL t.l q⟩ : TabV).At w' :=
  ⟨row_base ho (Nat.zero_le _), cutL_sorted ht.good.1 q, fun e he => ht.good.2.1 e (cutL_sub _ _ e he), hne, by have h1 := cutL_len t.l q; have h2 := ht.good.2.2.2; dsimp only; omega⟩

theorem kpE_ix {w : World} {xb i : Nat} {cs : Array Value} (hb : w.heap[xb]? = some (.cells cs TIx)) (u : Value) : KpE w (w.setCell ⟨xb, i, none⟩ u) := by
  refine ⟨by simp, fun k o hk ⟨cs', ho⟩ => (heap_set_other u ?_).trans hk⟩
  rintro rfl
  rw [hb] at hk
  cases hk
  rcases ho with ⟨ho, _⟩ | ho
  · cases ho
  · cases ho
theorem tabs_take {Dk : List LvV} {u : Nat} (h : ∀ (i : Nat) (h : i < Dk.length), u ≤ i → Dk[i].ts = []) : tabsL (Dk.take u) = tabsL Dk := by
  conv => rhs; rw [← List.take_append_drop u Dk]
  have e : tabsL (Dk.drop u) = [] := by
    unfold tabsL
    rw [List.flatMap_eq_nil_iff]
    intro v hv
    obtain ⟨i, hi, rfl⟩ := List.getElem_of_mem hv
    rw [List.getElem_drop]
    exact h _ _ (Nat.le_add_right _ _)
  unfold tabsL at *
  rw [List.flatMap_append, e, List.append_nil]
/-- The index behind the cut. -/
theorem cut_end {w2 wr : World} {xb room most g n u c : Nat} {q : Int} {T : Tr} {L Dk : List LvV} {r x : Option Addr} (hb : wr.heap[xb]? = some (.cells #[.int .i64 room, .int .i64 most, .pointer r, .slice x L.length c] TIx)) (hT : TreeAt wr r T) (J : CutJ w2 wr g n n q L Dk n u) (h1 : 1 ≤ room) (h2 : 2 ≤ most) :
    IxAt (wr.setCell ⟨xb, 3, none⟩ (.slice (some ⟨g, 0, none⟩) u n)) xb room most T (Dk.take u) ∧ flatT (tabsL (Dk.take u)) = cutL (flatT (tabsL (L.take n))) q ∧ (Dk.take u).length = u := by
  have hl : (Dk.take u).length = u := by rw [List.length_take, J.dk]; have := J.ul; omega
  have R := rest_ix (i := 3) hb (.slice (some ⟨g, 0, none⟩) u n)
  refine ⟨⟨⟨r, some ⟨g, 0, none⟩, n, ?_, hT.kp (kpE_ix hb _), ?_⟩, h1, h2⟩, by rw [tabs_take J.used]; exact J.ent, hl⟩
  · rw [hl]
    exact heap_set hb _
  · refine ⟨?_, fun v hv => (J.lv v (List.mem_of_mem_take hv)).rest R (by decide) (by decide)⟩
    have ho := J.own
    rw [Nat.sub_self, List.replicate_zero, List.append_nil] at ho
    rw [hl]
    have e : n = u + (n - u) := by have := J.ul; omega
    have e2 : Dk.map LvV.val = (Dk.take u).map LvV.val ++ (Dk.drop u).map LvV.val := by rw [← List.map_append, List.take_append_drop]
    rw [e2] at ho
    have ho' : wr.ownsRow w2.heap.size TTbs 1 (.slice (some ⟨g, 0, none⟩) (u + (n - u)) n) (u + (n - u)) ((Dk.take u).map LvV.val ++ (Dk.drop u).map LvV.val) := by rw [← e]; exact ho
    exact R.row (row_base (own_short ho' (by rw [List.length_map, hl]; omega)) (Nat.zero_le _)) (by decide)
set_option maxHeartbeats 8000000 in
theorem ik_cut {w : World} {xb room most K : Nat} {S : List En} (h : Ik w xb room most S K) (hK : K ≤ 1000) (q : Int) :
    Calls Try.prog 23 #[.pointer (some ⟨xb, 0, none⟩), .int .i64 q] w fun e w' => e = .returned (.int .i64 ((S.length - (cutL S q).length : Nat) : Int)) ∧ Ik w' xb room most (cutL S q) K ∧ Touch [xb] w w' := by
  obtain ⟨M, C, hx, hS, hCK⟩ := h
  have CL := hid (ixs_len hx hS)
  obtain ⟨T, L, hI, hs, hp, hM, hC⟩ := hx.ex
  obtain ⟨-, nL, nTb, nT, -⟩ := ixs_tabs hI hS hp hC
  have CM := hid (made_any hI)
  have hA : fromE T.io (0, 0, 0) = T.io := from_zero fun e he => (hS.ok e (hp.subset (List.mem_append_left _ he))).1
  have CC := hid fun W (t : Touch [] w W) => memcut_any (hI.t0 t) hs hA nT q
  have hLK : L.length ≤ K := by rw [← cnts_len L, hC]; exact hCK
  have HP := hid hp
  have HOK := hid hS
  have hmk := make_lvs L.length (by omega)
  clear hA hI hx hM
  go_enter Try.func23, Try.ntmps23
  go_upto_region 4 with (first
    | (go_at_call 28; refine CM.out.mono ?_; clear CM; rintro e w1 ⟨rfl, h⟩; have h := h.symm; subst h)
    | (go_at_call 21; refine CL.out.mono ?_; clear CL; rintro e w1 ⟨rfl, t1⟩; have T1 := hid t1; clear t1))
  go_upto_region 5 with (go_at_call 24; refine (CC.out _ T1.out).mono ?_; clear CC; rintro e w2 ⟨T', z, rfl, hI2, hio, t2⟩; have HI2 := hid hI2; have HIO := hid hio; have T2 := hid ((T1.out.mono (G := [xb]) (by simp)).trans t2 (by simp)); clear hI2 hio t2)
  obtain ⟨⟨r, x, c, hb, htr, hL⟩, hroom, hmost⟩ := HI2.out
  have c3 := cell_of hb 3
  simp only [List.getElem?_toArray, List.getElem?_cons_zero, List.getElem?_cons_succ] at c3
  have c3m : ∀ o : Obj, (w2.alloc o).cell? ⟨xb, 3, none⟩ = some (.slice x L.length c) := fun o => ((Touch.refl [] w2).alloc o).cell c3
  have MO := hid (made_own L.length (by omega) w2)
  have HB := hid hb
  have HTR := hid htr
  have HL := hid hL
  have hxb := lt_of_block hb
  clear hb htr hL
  go_upto_region 6 with fail
  have J0 : Hid (CutJ w2 (w2.alloc (.cells (madeCells #[.slice none 0 0] L.length) TTbs)) w2.heap.size L.length L.length q L [] 0 0) := hid (CutJ.start w2 _ _ _ q L MO.out ((Touch.refl [] w2).alloc _))
  have c3' := c3m (.cells (madeCells #[.slice none 0 0] L.length) TTbs)
  clear MO c3m c3 hmk
  simp only [TTbs] at J0 c3'
  generalize w2.alloc (.cells (madeCells #[.slice none 0 0] L.length) 55) = w3 at *
  go_wp2
  go_loopw [7, 34] (fun uv kv wq => ∃ (k u : Nat) (Dk : List LvV), kv = .int .i64 k ∧ uv = .int .i64 u ∧ k ≤ L.length ∧ Hid (CutJ w2 wq w2.heap.size L.length L.length q L Dk k u)) (fun _ kv _ => L.length - (RowKit.intOf kv).toNat)
  case atStart => exact ⟨0, 0, [], rfl, rfl, Nat.zero_le _, J0⟩
  case round =>
    obtain ⟨k, u, Dk, rfl, rfl, hk, hJ⟩ := hrel
    clear J0
    by_cases hlt : k < L.length
    · have hlt2 : decide (k < L.length) = true := by simpa using hlt
      have hkI : (k : Int) < L.length := by omega
      obtain ⟨b, off, rfl, g0⟩ := HL.out.row k (by simpa using hlt)
      rw [List.getElem_map] at g0
      have e0 := hJ.out.t.cell g0
      have hv := hid (HL.out.lv _ (List.getElem_mem hlt))
      have hts : (L[k]).ts.length ≤ 100000 := Nat.le_trans (lv_sub (List.getElem_mem hlt)).length_le nTb
      have eL : L[k]?.getD nilV = L[k] := by simp [hlt]
      have DN := hid fun (wq : World) (uv : Nat) (v : LvV) (h : CutK w2 wr wq w2.heap.size L.length L.length q L Dk k (L[k].ts.length) u uv v) => CutK.done hJ.out (by rw [eL]; exact h) hlt rfl
      have K0 := hid (hJ.out.level hlt)
      have KT : Hid (∀ (j : Nat) (uv : Nat) (v : LvV) (wq : World), CutK w2 wr wq w2.heap.size L.length L.length q L Dk k j u uv v → Touch [] w2 wq) := hid fun j uv v wq h => hJ.out.t.trans h.t (by intro x hx; obtain rfl := List.mem_singleton.1 hx; exact .inr (Nat.le_refl _))
      have hDk := hJ.out.dk
      have hgl : w2.heap.size < wr.heap.size := by obtain ⟨-, cur, hh⟩ := own_g hJ.out.own; exact lt_of_block hh
      have CEL := hid fun (j uv : Nat) (v : LvV) (wq : World) (h : CutK w2 wr wq w2.heap.size L.length L.length q L Dk k j u uv v) => CutK.cell h hDk
      have hlv : ∃ lv, lv = L[k] := ⟨_, rfl⟩
      obtain ⟨lv, hlv⟩ := hlv
      rw [← hlv] at e0 hv hts eL DN
      have PUT := hid fun (j uv : Nat) (v : LvV) (wq w1 w5 : World) (cap : Nat) (kt : TabV) (y : Option Addr) (h : CutK w2 wr wq w2.heap.size L.length L.length q L Dk k j u uv v) (t1 : Touch [] wq w1) (hj : j < lv.ts.length) (ht : kt.At w1) (he : kt.l = cutL (lv.ts[j]).l q) hG => CutK.put (y := y) (cap := cap) (w2 := w5) h hDk hlt t1 (by rw [eL]; exact hj) ht (by simp only [eL]; exact he) hgl hG
      have SKIP := hid fun (j uv : Nat) (v : LvV) (wq w1 : World) (h : CutK w2 wr wq w2.heap.size L.length L.length q L Dk k j u uv v) (t1 : Touch [] wq w1) (hj : j < lv.ts.length) (he : cutL (lv.ts[j]).l q = []) => CutK.skip h t1 (by rw [eL]; exact hj) (by simp only [eL]; exact he)
      clear g0 hlv eL
      obtain ⟨lx, lc, ts⟩ := lv
      unfold LvV.val at e0
      dsimp only at e0 PUT SKIP DN hts
      obtain ⟨i0, hi, hz0, hz1, hz2⟩ := info_parts infoTb
      obtain ⟨wk, hwk⟩ : ∃ wk, wk = wr := ⟨_, rfl⟩
      subst hwk
      go_wp2
      go_loopw [7, 41] (fun uv jv wq => ∃ (j u1 : Nat) (v : LvV), jv = .int .i64 j ∧ uv = .int .i64 u1 ∧ j ≤ ts.length ∧ Hid (CutK w2 wk wq w2.heap.size L.length L.length q L Dk k j u u1 v)) (fun _ jv _ => ts.length - (RowKit.intOf jv).toNat)
      case atStart => exact ⟨0, u, nilV, rfl, rfl, Nat.zero_le _, K0⟩
      case round =>
        obtain ⟨j, u1, v, rfl, rfl, hj, hK⟩ := hrel
        by_cases hjt : j < ts.length
        · have hjt2 : decide (j < ts.length) = true := by simpa using hjt
          have hjI : (j : Int) < ts.length := by omega
          have tW := KT.out _ _ _ _ hK.out
          obtain ⟨bt, ot, rfl, d0⟩ := hv.out.row j (by simpa using hjt)
          rw [List.getElem_map] at d0
          have e3 := tW.cell d0
          have htt := (hv.out.tab _ (List.getElem_mem hjt)).t0 tW
          have CB := hid (below_any ts[j] q wr htt)
          have KTb := hid fun (w' : World) (y : Option Addr) (cc : Nat) ho hne => kept_tab (w' := w') (y := y) (cc := cc) (q := q) htt ho hne
          have PUTj := hid fun (w1 w5 : World) (cap : Nat) (kt : TabV) (y : Option Addr) (t1 : Touch [] wr w1) (ht : kt.At w1) (he : kt.l = cutL (ts[j]).l q) hG => PUT.out j u1 v wr w1 w5 cap kt y hK.out t1 hjt ht he hG
          have SKIPj := hid fun (w1 : World) (t1 : Touch [] wr w1) he => SKIP.out j u1 v wr w1 hK.out t1 hjt he
          have hvl := hK.out.len
          have hks := hK.out.t.size
          obtain ⟨cl0, cl1⟩ := CEL.out _ _ _ _ hK.out
          have CEw := hid fun (w1 : World) (t1 : Touch [] wr w1) => t1.cell cl0
          have ROW := hid hK.out.row
          clear d0 htt cl0 cl1
          generalize ts[j] = tv at *
          unfold TabV.val at e3
          by_cases hne : cutL tv.l q = []
          · have SK := hid fun w1 t1 => SKIPj.out w1 t1 hne
            have hl0 : (cutL tv.l q).length = 0 := by rw [hne]; rfl
            clear PUTj SKIPj KTb hne
            unfold TabV.val at CB
            generalize hcl : (cutL tv.l q).length = cl at *
            subst hl0
            go_wp2_with (go_at_call 47; refine CB.out.mono ?_; clear CB; rintro e w5 ⟨u5, rfl, ho, t5⟩; obtain ⟨y5, c5, rfl, -, -⟩ := slice_form ho; have T5 := hid t5; clear ho t5)
            go_roundw
            case rel => exact ⟨j + 1, u1, v, by go_num, rfl, by omega, hid (SK.out _ T5.out)⟩
            case measure => simp [RowKit.intOf]; omega
          · have hp0 : decide ((((cutL tv.l q).length : Nat) : Int) > 0) = true := by rw [decide_eq_true_eq]; have := List.length_pos_iff.2 hne; omega
            have hp1 : decide (0 < (cutL tv.l q).length) = true := by rw [decide_eq_true_eq]; exact List.length_pos_iff.2 hne
            have HNE := hid hne
            obtain ⟨vx, vc, vts⟩ := v
            unfold LvV.val at CEw ROW PUTj
            dsimp only at hvl CEw ROW PUTj
            unfold TabV.val at CB
            have hwu : IntKind.i64.wrap ((k : Int) + 1) = (k : Int) + 1 := IntWalk.i64_in _ (by omega)
            clear SKIPj hne
            go_wp2_with (first
              | (go_at_call 47; refine CB.out.mono ?_; clear CB; rintro e w5 ⟨u5, rfl, ho, t5⟩; obtain ⟨y5, c5, rfl, -, -⟩ := slice_form ho; have T5 := hid t5; have KT5 := hid (KTb.out w5 y5 c5 ho HNE.out); have g5 := CEw.out w5 t5; have g5a := fun o : Obj => ((Touch.refl [] w5).alloc o).cell g5; clear ho t5)
              | (at_builtin; refine wpList_append_grew _ rfl (.tmp 56) (.tmp 58) TTbs rfl wk.heap.size TTb i0 (.slice none 0 0) 1 24 Try.underlying55 hi hz0 hz1 hz2 rfl (by decide) _ vts.length (vts.map TabV.val) rfl (owns_touch ROW.out (T5.out.alloc _)) (.slice (some ⟨w5.heap.size, 0, none⟩) 1 1) 1 0 [.slice y5 (cutL tv.l q).length c5] rfl (lit_one _ _ _ _ rfl) (by intro u hu; simp at hu; subst hu; rfl) (by omega) (by decide) (by have b := T5.out.size; simp; omega) ?_; intro y8 c8 w8 hG; obtain ⟨⟨d0, d1⟩, hK8⟩ := PUTj.out w5 w8 c8 ⟨y5, c5, cutL tv.l q⟩ y8 T5.out KT5.out rfl hG; have K8 := hid hK8; clear hK8 hG))
            go_roundw
            case rel => exact ⟨j + 1, k + 1, _, by go_num, by go_num, by omega, K8⟩
            case measure => simp [RowKit.intOf]; omega
        · obtain rfl : j = ts.length := by omega
          have hjt2 : decide (ts.length < ts.length) = false := by simp
          have JN := hid (DN.out _ _ _ hK.out)
          go_wp2
          go_roundw
          case rel => exact ⟨k + 1, u1, Dk ++ [v], by go_num, rfl, by omega, JN⟩
          case measure => simp [RowKit.intOf]; omega
    · obtain rfl : k = L.length := by omega
      have hlt2 : decide (L.length < L.length) = false := by simp
      have HBr := hid (touch_other hJ.out.t HB.out (by simp))
      obtain ⟨hI9, hf9, hl9⟩ := cut_end HBr.out (HTR.out.t0 hJ.out.t) hJ.out hroom hmost
      have hul := hJ.out.ul
      have hulI : (u : Int) ≤ L.length := by omega
      have TJ := hid hJ.out.t
      rw [List.take_length] at hf9
      have hx9 : IxS (wr.setCell ⟨xb, 3, none⟩ (.slice (some ⟨w2.heap.size, 0, none⟩) u L.length)) xb room most (cutL S q) T'.io.length (cnts (Dk.take u)) :=
        ⟨T', Dk.take u, hI9, by rw [HIO.out]; exact cutL_sorted hs q, by rw [HIO.out, hf9, ← cutL_append]; exact cutL_perm HP.out q, rfl, rfl⟩
      have hc9 : (cnts (Dk.take u)).length ≤ K := by rw [cnts_len, hl9]; omega
      have hS9 : OkS (cutL S q) (cnts (Dk.take u)) := ⟨cutL_sorted HOK.out.s q, fun e he => HOK.out.ok e (cutL_sub _ _ e he), Nat.le_trans (cutL_len S q) HOK.out.len, by omega⟩
      have CL9 := hid (ixs_len hx9 hS9)
      have HX9 := hid hx9
      have HS9 := hid hS9
      have HC9 := hid hc9
      have hle := cutL_len S q
      have hSl := HOK.out.len
      have hw9 : IntKind.i64.wrap ((S.length : Int) - ((cutL S q).length : Nat)) = ((S.length - (cutL S q).length : Nat) : Int) := by rw [IntWalk.i64_in _ (by omega)]; omega
      have c3r := cell_of HBr.out 3
      have f3r := free_of HBr.out 3
      simp only [List.getElem?_toArray, List.getElem?_cons_zero, List.getElem?_cons_succ] at c3r
      clear hI9 hf9 hl9 hx9 hS9 hc9 hs hp hC hJ
      go_wp2_with (go_at_call 21; refine CL9.out.mono ?_; clear CL9; rintro e w9 ⟨rfl, t9⟩; have T9 := hid t9; clear t9)
      go_ret
      exact ⟨rfl, ⟨_, _, HX9.out.t0 T9.out, HS9.out, HC9.out⟩, (((T2.out.trans TJ.out (by simp)).setCell (.inl (by simp)) _).trans T9.out (by simp))⟩
end Go.Proofs.Ytnkflmimnpolcaa
