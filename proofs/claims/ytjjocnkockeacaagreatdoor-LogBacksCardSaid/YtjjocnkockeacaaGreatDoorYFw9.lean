/- A file with more bytes; a fresh one. -/
import Derived.Test.YtjjocnkockeacaaGreatDoorYFi9
import Derived.Deep.RegionLaw
namespace Go.Proofs.YtjjocnkockeacaaGreatDoor
open Go.RowKit Go.Lib
set_option maxRecDepth 100000

theorem run_append_pv {w : World} {ty : TypeId} {v : Value} {bs : List UInt8} {g : Option Nat} {n : Nat} {s : ByteArray} (h : Pv w v bs g) (hn : bs.length = n) (hb : n + s.size ≤ 140737488355328) :
    ∃ y c g' w', (Builtin.append_ #[117, 9] ty #[v, .string s]).run Tryz.prog w = .ok (.slice y (n + s.size) c) w' ∧ Pv w' (.slice y (n + s.size) c) (bs ++ s.data.toList) g' ∧ w.grownBy w' g ∧ (∀ k ∈ g'.toList, k ∈ g.toList ∨ w.heap.size ≤ k) := by
  subst hn
  have hlen : (bs ++ s.data.toList).length = bs.length + s.size := by rw [List.length_append, list_len]
  rcases h with ⟨rfl, rfl, rfl⟩ | ⟨b, c, rfl, hB, rfl⟩
  · obtain ⟨v', w', hr, ho, hg, _⟩ := run_append_own_string (P := Tryz.prog) w w.heap.size 117 9 ty tU8 _ rfl rfl rfl rfl rfl rfl (.slice none 0 0) 0 [] (World.ownsRow_nil _ _ _ _) s (by unfold maxLen; simp at hb; omega) (by simpa using hb) (Nat.le_refl _)
    obtain ⟨g', q1, q2⟩ := pv_of_own (bs := s.data.toList) (by have h2 := ho; rw [Nat.zero_add, List.nil_append] at h2; exact h2) (by rw [list_len])
    obtain ⟨y, c, rfl, _, _⟩ := pv_form q1
    rw [list_len] at hr q1
    refine ⟨y, c, g', w', by simpa using hr, by simpa using q1, hg, fun k hk => .inr ?_⟩
    subst q2
    exact own_base ho k (by simpa [Value.ownBlock] using hk)
  · obtain ⟨g', cap', w', hr, h2, h3, h4⟩ := run_append_bts (P := Tryz.prog) w 117 9 ty tU8 _ rfl rfl rfl rfl rfl rfl b bs.length c bs rfl hB s hb
    refine ⟨_, cap', some g', w', hr, .inr ⟨g', cap', by rw [hlen], h2, rfl⟩, h3, fun k hk => ?_⟩
    simp at hk
    subst hk
    rcases h4 with rfl | rfl
    · exact .inl (by simp)
    · exact .inr (Nat.le_refl _)

theorem step_append_pv {w : World} {ops : Array Oper} {o : Oper} {a : Act} {K : Act → World → Prop} {Q : Exit → Act → World → Prop} {E : Prop} (hgd : o.guard = none) (sl x : Operand)
    (ho : o.op = .call { callee := .builtin .append, args := #[sl, x], argTypes := #[117, 9] })
    {v : Value} {bs : List UInt8} {g : Option Nat} {n : Nat} {s : ByteArray} (h : Pv w v bs g) (hn : bs.length = n) (hb : n + s.size ≤ 140737488355328) (hs : a.eval sl = v) (hx : a.eval x = .string s)
    (hK : ∀ y c g' w', Pv w' (.slice y (n + s.size) c) (bs ++ s.data.toList) g' → w.grownBy w' g → (∀ k ∈ g'.toList, k ∈ g.toList ∨ w.heap.size ≤ k) → K (a.put o.dst (.slice y (n + s.size) c)) w') :
    if Region.wanted o (yielded ops a.tmps) = true then Oper.wp Tryz.prog o a w K Q else E := by
  have hw : Region.wanted o (yielded ops a.tmps) = true := by simp [Region.wanted, hgd]
  rw [if_pos hw]
  obtain ⟨y, c, g', w', hr, h2, h3, h4⟩ := run_append_pv (ty := o.type) h hn hb
  unfold Oper.wp execOp
  simp only [ho, resolve, invoke, builtin, Sem.run_bind, Sem.run_pure, Result.andThen_ok, List.map_toArray, List.map_cons, List.map_nil, hs, hx, hr]
  exact hK y c g' w' h2 h3 h4

set_option maxHeartbeats 1000000 in
theorem fresh_any (nm : ByteArray) (w : World) (hn : nm.size ≤ 40) : Calls Tryz.prog 87 #[.string nm] w (Made [] (freshF nm) [] w) := by
  have C := hid fun w => clone_any nm w (by omega)
  have hf : Hid (∀ w' b p, Touch [] w w' → w.heap.size ≤ b → w.heap.size ≤ p → w'.heap[b]? = some (.cells #[.string nm, .pointer (some ⟨p, 0, none⟩), .int .i64 0, .int .i64 0, .bool false] tFile (0, 0)) →
      w'.heap[p]? = some (.cells #[.slice none 0 0] tPool (0, 0)) → Made [] (freshF nm) [] w (.returned (.pointer (some ⟨b, 0, none⟩))) w') :=
    hid fun w' b p t hb hp hh hpp => made_new (g := none) t hb hp (by simp) hh hpp (.inl ⟨rfl, rfl, rfl⟩) (Nat.le_refl _) hn (Nat.zero_le _)
  generalize Made [] (freshF nm) [] w = M at *
  clear hn
  go_enter Tryz.func87, Tryz.ntmps87
  go_wp2_with (go_at_call 32; with_reducible refine (C.out _).mono ?_; rintro e w1 ⟨rfl, t1⟩; have T1 := hid t1; clear t1)
  exact hf.out _ (w1.heap.size + 1) w1.heap.size ((T1.out.alloc _).alloc _) (Nat.le_succ_of_le T1.out.size) T1.out.size (by have := heap_alloc_new (w1.alloc (.cells #[.slice none 0 0] tPool)) (.cells #[.string nm, .pointer (some ⟨w1.heap.size, 0, none⟩), .int .i64 0, .int .i64 0, .bool false] tFile); simpa using this) ((Below.heap_alloc _ _ _ (by simp)).trans (heap_alloc_new w1 _))

/-- What with leaves. -/
theorem with_fin {w W w1 : World} {x : Px} {s : ByteArray} {y : Option Addr} {c : Nat} {g' : Option Nat} (h : FileAt w x) (hs : x.f.data.size + s.size ≤ 70368744177664) (T : Touch [] w W)
    (hW : W.heap[w.heap.size]? = some (.cells #[.string x.f.name, .pointer (some ⟨x.p, 0, none⟩), .int .i64 x.f.data.size, .int .i64 x.f.syn, .bool x.f.last] tFile (0, 0)))
    (hp : Pv w1 (.slice y (x.f.data.size + s.size) c) (x.f.data.data.toList ++ s.data.toList) g') (hg : W.drew.grownBy w1 x.g) (hk : ∀ k ∈ g'.toList, k ∈ x.g.toList ∨ W.drew.heap.size ≤ k) :
    Made x.mut (withF x.f s) x.mut w (.returned (.pointer (some ⟨w.heap.size, 0, none⟩))) ((w1.setCell ⟨x.p, 0, none⟩ (.slice y (x.f.data.size + s.size) c)).setCell ⟨w.heap.size, 2, none⟩ (.int .i64 ((x.f.data.size : Int) + s.size))) := by
  have hxl := h.lt
  have t1 : Touch x.g.toList W.drew w1 := (Touch.refl _ _).grown hg (fun k hk => .inl (by simp [hk]))
  have b1 : w1.heap[w.heap.size]? = _ := (t1.block w.heap.size (lt_of_block (w := W) hW) (fun hm => by have := hxl _ (show w.heap.size ∈ x.own from by simp only [Px.own, List.mem_cons]; exact .inr (.inr hm)); omega)).trans hW
  have hpW : W.drew.heap[x.p]? = some (.cells #[x.v] tPool (0, 0)) := (T.block x.p (lt_of_block h.pool) (by simp)).trans h.pool
  have hpg : x.p ∉ x.g.toList := fun hm => (h.pv.ne h.pool (by decide)) x.p hm (by simp)
  have p1 : w1.heap[x.p]? = some (.cells #[x.v] tPool (0, 0)) := (t1.block x.p (lt_of_block hpW) hpg).trans hpW
  have hpb : x.p ≠ w.heap.size := by have := lt_of_block h.pool; omega
  have tt : Touch [x.p] w1 (w1.setCell ⟨x.p, 0, none⟩ (.slice y (x.f.data.size + s.size) c)) := (Touch.refl _ _).setCell (.inl (by simp)) _
  have t2 : Touch [w.heap.size] (w1.setCell ⟨x.p, 0, none⟩ (.slice y (x.f.data.size + s.size) c)) ((w1.setCell ⟨x.p, 0, none⟩ (.slice y (x.f.data.size + s.size) c)).setCell ⟨w.heap.size, 2, none⟩ (.int .i64 ((x.f.data.size : Int) + s.size))) := (Touch.refl _ _).setCell (.inl (by simp)) _
  have q1 := hp.touch tt (hp.ne p1 (by decide))
  have bb := (heap_set_other (p := ⟨x.p, 0, none⟩) (.slice y (x.f.data.size + s.size) c) (show w.heap.size ≠ x.p from hpb.symm)).trans b1
  have q2 := q1.touch t2 (q1.ne bb (by decide))
  refine ⟨⟨withF x.f s, w.heap.size, x.p, .slice y (x.f.data.size + s.size) c, g'⟩, rfl, rfl, ⟨?_, ?_, ?_, ?_, h.len, ?_⟩, Nat.le_refl _, ?_, ?_⟩
  · unfold HeadAt
    rw [heap_set bb]
    simp [flCells, withF, ptr, ByteArray.size_append]
  · exact (heap_set_other _ hpb).trans (heap_set (i := 0) p1 _)
  · simpa [withF, ByteArray.data_append] using q2
  · have := h.syn
    simp only [withF, ByteArray.size_append]; omega
  · simp only [withF, ByteArray.size_append]; omega
  · intro k hk'
    simp only [Px.own, List.mem_cons] at hk'
    rcases hk' with rfl | rfl | hk'
    · exact .inr (Nat.le_refl _)
    · exact .inl (by simp [Px.mut])
    · rcases hk k hk' with h1 | h1
      · exact .inl (by simp only [Px.mut, List.mem_cons]; exact .inr h1)
      · exact .inr (Nat.le_trans T.size h1)
  · refine Touch.trans (Touch.trans (F := x.mut) (T.drew.mono (by simp)) t1 (fun k hk => .inl (by simp only [Px.mut, List.mem_cons]; exact .inr hk))) (G := [x.p, w.heap.size]) ((tt.mono (by simp)).trans t2 (by simp)) (fun k hk => ?_)
    simp at hk
    rcases hk with rfl | rfl
    · exact .inl (by simp [Px.mut])
    · exact .inr (Nat.le_refl _)

set_option maxHeartbeats 2000000 in
theorem with_any {w : World} {x : Px} (h : FileAt w x) (s : ByteArray) (hs : x.f.data.size + s.size ≤ 70368744177664) : Calls Tryz.prog 88 #[ptr x.b, .string s] w (Made x.mut (withF x.f s) x.mut w) := by
  obtain ⟨c0, c1, c2, c3, c4⟩ := head_cells h.head
  have k1 := alloc_cell c1
  have k2 := alloc_cell c2
  have d0 : w.cell? ⟨x.p, 0, none⟩ = some x.v := cell_of h.pool 0
  have e0 := alloc_cell d0
  obtain ⟨y, c, hv, hc, hm⟩ := pv_form h.pv
  have hl := hid (list_len x.f.data)
  rw [hl.out] at hv hc
  rw [hv] at d0 e0
  have hsz : x.f.data.size ≤ 70368744177664 := h.small
  have H := hid h
  have hP := hid (hv ▸ h.pv)
  have hV := hid hv
  have hF := hid fun W w1 y c g' T hW hp hg hk => with_fin (w := w) (W := W) (w1 := w1) (x := x) (s := s) (y := y) (c := c) (g' := g') h hs T hW hp hg hk
  have hpl := lt_of_block h.pool
  have hpg : some x.p ≠ x.g := fun e => (h.pv.ne h.pool (by decide)) x.p (by rw [← e]; simp) (by simp)
  have hbg : some w.heap.size ≠ x.g := fun e => by have := h.lt w.heap.size (by simp only [Px.own, List.mem_cons]; exact .inr (.inr (by rw [← e]; simp))); omega
  have hPG := hid (And.intro hpg hbg)
  have hfr := hid (fun (W : World) (T : Touch [] w W) => (And.intro ((T.block x.p (lt_of_block h.pool) (by simp)).trans h.pool) (h.pv.touch T (by simp))))
  unfold ptr
  generalize hM : Made x.mut (withF x.f s) x.mut w = M at hF ⊢
  have hq : x.f.data.size + s.size ≤ 140737488355328 := by omega
  have hq1 : (x.f.data.size : Int) + s.size ≤ 9223372036854775807 := by omega
  have hqh := hid hq
  clear h hv hM hpg hbg hs hq
  generalize x.f.data.size = n at *
  generalize x.f.syn = m at *
  generalize x.f.name = nm at *
  generalize x.f.last = q at *
  generalize x.p = p at *
  go_enter Tryz.func88, Tryz.ntmps88
  go_wp2
  go_quiet (fail)
  obtain ⟨W, hW⟩ : ∃ W, W = (w.alloc (.cells #[.string nm, .pointer (some ⟨p, 0, none⟩), .int .i64 n, .int .i64 m, .bool q] tFile)).drewN nq := ⟨_, rfl⟩
  have hT : Touch [] w W := by rw [hW]; exact ((Touch.refl [] w).alloc _).drewN _
  have hWb : W.heap[w.heap.size]? = some (.cells #[.string nm, .pointer (some ⟨p, 0, none⟩), .int .i64 n, .int .i64 m, .bool q] tFile (0, 0)) := by rw [hW, drewN_heap]; exact heap_alloc_new w _
  rw [← hW]
  have a1 : W.cell? ⟨w.heap.size, 1, none⟩ = some (.pointer (some ⟨p, 0, none⟩)) := cell_of hWb 1
  have a2 : W.cell? ⟨w.heap.size, 2, none⟩ = some (.int .i64 n) := cell_of hWb 2
  have a4 : W.cell? ⟨p, 0, none⟩ = some (.slice y n c) := touch_cell hT d0 (by simp)
  have a5 : W.frozen? ⟨p, 0, none⟩ = false := free_of (hfr.out W hT).1 0
  have a6 : W.frozen? ⟨w.heap.size, 2, none⟩ = false := free_of hWb 2
  have HWb := hid hWb
  have HT := hid hT
  have hWl := hid (lt_of_block hWb)
  have hplW := hid (Nat.lt_of_lt_of_le hpl hT.size)
  clear hW hT hWb
  go_wp2
  go_region_law ((refine step_append_pv rfl (.tmp 34) (.tmp 35) rfl (v := .slice y n c) (n := n) (s := s) (g := x.g) (by first | exact ((hV.out ▸ (hfr.out _ HT.out).2)) | skip) hl.out hqh.out (by simp [Act.eval]) (by simp [Act.eval]) ?_); (intro y' c' g' w1 hp1 hg1 hk1); (have e1 : w1.cell? ⟨w.heap.size, 1, none⟩ = some (.pointer (some ⟨p, 0, none⟩)) := hg1.cell (w := W.drew) a1 hPG.out.2); (have e2 : w1.cell? ⟨w.heap.size, 2, none⟩ = some (.int .i64 n) := hg1.cell (w := W.drew) a2 hPG.out.2); (have e4 : w1.cell? ⟨p, 0, none⟩ = some (.slice y n c) := hg1.cell (w := W.drew) a4 hPG.out.1); (have e5 : w1.frozen? ⟨p, 0, none⟩ = false := (hg1.frozen_far ⟨p, 0, none⟩ hplW.out hPG.out.1).trans a5); (have e6 : w1.frozen? ⟨w.heap.size, 2, none⟩ = false := (hg1.frozen_far ⟨w.heap.size, 2, none⟩ hWl.out hPG.out.2).trans a6); (have HE := hid (And.intro hp1 (And.intro hg1 hk1))); clear hp1 hg1 hk1)
  all_goals
    have hne : ¬ (w.heap.size = p) := by omega
    have hne2 : ¬ (p = w.heap.size) := by omega
    go_wp2
    exact hF.out W w1 y' c' g' HT.out HWb.out HE.out.1 HE.out.2.1 HE.out.2.2
end Go.Proofs.YtjjocnkockeacaaGreatDoor
