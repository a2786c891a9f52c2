/- A log's lists: cut, copies. -/
import Derived.Test.YtjjocnkockeacaaGreatDoorZc
import Derived.Test.YtjjocnkockeacaaGreatDoorYFi9
namespace Go.Proofs.YtjjocnkockeacaaGreatDoor
open Go.RowKit Go.Lib
set_option maxRecDepth 100000

theorem clone_tx_some (b c n : Nat) (l : List ByteArray) (w : World) (hl : l.length = n) (hn : n ≤ 1000000) (hc : TxR w (some ⟨b, 0, none⟩) l) :
    Calls Tryz.prog 83 #[.slice (some ⟨b, 0, none⟩) n c] w fun e w' => ∃ v', e = .returned v' ∧ w'.ownsRow w.heap.size tStg 1 v' n (txtVals l) ∧ Touch [] w w' := by
  have q22 : ∀ (w : World) (a : Option Addr) (n c n' c' : Nat), (binOp .eql 43 (.slice a n c) (.slice none n' c')).run Tryz.prog w = .ok (.bool a.isNone) w := fun w a n c n' c' => Lib.run_eql_slice_nil w _ _ a n c n' c' rfl
  have A := hid hc.news
  have L1 := hid (txtVals_one l)
  have L2 := hid (txtVals_len l)
  clear hc
  go_enter Tryz.func83, Tryz.ntmps83
  go_wp2_with (at_builtin; refine wpList_append_own _ rfl _ _ 43 rfl w.heap.size tStg _ (.string ⟨#[]⟩) 1 16 rfl rfl rfl rfl rfl rfl (by omega) _ _ _ rfl (World.ownsRow_made w #[] 0 (Nat.le_refl _) (Nat.zero_le _) (by simp)) ⟨b, 0, none⟩ n c (txtVals l) rfl ?qc1 ?qc2 ?qc3 ?qc4 ?qc5 ?qc6 ?_)
  case qc1 => rw [L2.out]; omega
  case qc2 =>
    intro j u hj
    exact Lib.cell?_alloc_some _ (A.out j u hj)
  case qc3 => exact L1.out
  case qc4 => rw [Nat.zero_add]; unfold maxLen; omega
  case qc5 => rw [Nat.zero_add]; omega
  case qc6 => simp
  intro v' w1 hown hgrow hnil
  go_wp2
  go_ret
  refine ⟨v', rfl, by simpa using hown, ?_⟩
  exact ((Touch.refl [] w).alloc _).grown hgrow (by intro k hk; simp [Value.ownBlock] at hk; exact .inr (by omega))
theorem clone_tx {w : World} {x : Option Addr} {c n : Nat} {l : List ByteArray} {own : List Nat} (h : RowS w x c l own) (hl : l.length = n) (hn : n ≤ 1000000) :
    Calls Tryz.prog 83 #[.slice x n c] w fun e w' => ∃ v', e = .returned v' ∧ w'.ownsRow w.heap.size tStg 1 v' n (txtVals l) ∧ Touch [] w w' := by
  cases x with
  | none =>
    obtain ⟨rfl, rfl⟩ := h.no rfl
    obtain rfl : n = 0 := hl.symm
    refine (clone_tx_nil w).mono ?_
    rintro e w' ⟨rfl, rfl⟩
    exact ⟨_, rfl, World.ownsRow_nil _ _ _ _, Touch.refl _ _⟩
  | some a =>
    obtain ⟨ha, -⟩ := h.at_ a rfl
    rw [ha]
    exact clone_tx_some a.block c n l w hl hn (ha ▸ h.r)
theorem RowS.take {w : World} {x : Option Addr} {c : Nat} {l : List ByteArray} {own : List Nat} (h : RowS w x c l own) (n : Nat) (hn : n ≤ l.length) : RowS w x c (l.take n) own := by
  refine ⟨fun i hi => ?_, by rw [List.length_take]; have := h.le; omega, h.cap, fun e => ?_, h.at_⟩
  · rw [List.length_take] at hi
    obtain ⟨g, off, e, hc⟩ := h.r i (by omega)
    exact ⟨g, off, e, by rw [List.getElem_take]; exact hc⟩
  · obtain ⟨h1, h2⟩ := h.no e
    rw [h1]
    exact ⟨List.take_nil, h2⟩

theorem own_form_tx {w : World} {base n : Nat} {v : Value} {xs : List Value} (h : w.ownsRow base tStg 1 v n xs) : ∃ y c, v = .slice y n c := by
  rcases h.2 with ⟨rfl, h0⟩ | ⟨g, cap, cur, rfl, _⟩
  · exact ⟨none, 0, by rw [h0]⟩
  · exact ⟨_, cap, rfl⟩
theorem own_weak {base base' : Nat} {e : TypeId} {size : Nat} {v : Value} {n : Nat} {xs : List Value} {w : World} (h : w.ownsRow base e size v n xs) (hb : base' ≤ base) : w.ownsRow base' e size v n xs := by
  refine ⟨h.1, ?_⟩
  rcases h.2 with h2 | ⟨b, cap, cur, hv, hb2, r⟩
  · exact .inl h2
  · exact .inr ⟨b, cap, cur, hv, Nat.le_trans hb hb2, r⟩
abbrev tLst : TypeId := 28
/-- The end of a function that tells the list in its result's block. -/
theorem two_boxes (w : World) (a0 a1 : Value) : ∃ W1, W1 = ((w.alloc (.cells #[a0, a1] tLst)).alloc (.cells #[.pointer none, .int .i64 0] tLst)) ∧ Touch [] w W1 ∧ W1.heap[w.heap.size]? = some (.cells #[a0, a1] tLst (0, 0)) ∧ W1.heap[w.heap.size + 1]? = some (.cells #[.pointer none, .int .i64 0] tLst (0, 0)) := by
  refine ⟨_, rfl, ((Touch.refl [] w).alloc _).alloc _, heap_alloc_keep (heap_alloc_new w _) _, ?_⟩
  have := heap_alloc_new (w.alloc (.cells #[a0, a1] tLst)) (.cells #[.pointer none, .int .i64 0] tLst)
  simpa using this
theorem Touch.heap {F : List Nat} {w w' : World} (t : Touch F w w') {k : Nat} {cs : Array Value} {ty : TypeId} {fz : Nat × Nat} (h : w.heap[k]? = some (.cells cs ty fz)) (hF : k ∉ F) : w'.heap[k]? = some (.cells cs ty fz) := touch_other t h hF
theorem box_four {W : World} {B : Nat} {x0 x1 : Value} (h1 : W.heap[B + 1]? = some (.cells #[x0, x1] tLst (0, 0))) (u0 u1 v0 v1 : Value) :
    ∃ W5, W5 = ((((W.setCell ⟨B, 0, none⟩ u0).setCell ⟨B, 1, none⟩ u1).setCell ⟨B + 1, 0, none⟩ v0).setCell ⟨B + 1, 1, none⟩ v1) ∧ W5.heap[B + 1]? = some (.cells #[v0, v1] tLst (0, 0)) ∧ Touch [B, B + 1] W W5 := by
  refine ⟨_, rfl, ?_, ((((Touch.refl _ _).setCell (.inl (by simp)) _).setCell (.inl (by simp)) _).setCell (.inl (by simp)) _).setCell (.inl (by simp)) _⟩
  exact heap_set (heap_set ((heap_set_other _ (by simp)).trans ((heap_set_other _ (by simp)).trans h1)) _) _
/-- A list in a new pool of its own. -/
theorem list_new {w w3 W5 : World} {B : Nat} {l : List ByteArray} {y : Option Addr} {k n : Nat} (hn : l.length = n) (T3 : Touch [] w w3) (hB : B = w.heap.size) (C1 : ∃ cs ty fz, w3.heap[B + 1]? = some (.cells cs ty fz)) (HO : w3.ownsRow (B + 2) tStg 1 (.slice y n k) n (txtVals l)) (t5 : Touch [B, B + 1] (w3.alloc (.cells #[.slice y n k] tLPool)) W5) :
    LstAt W5 (.pointer (some ⟨w3.heap.size, 0, none⟩)) l (w3.heap.size :: (Value.slice y n k).ownBlock.toList) ∧ (∀ i ∈ w3.heap.size :: (Value.slice y n k).ownBlock.toList, w.heap.size ≤ i) ∧ Touch [] w W5 := by
  subst hB hn
  obtain ⟨cs, ty, fz, hc⟩ := C1
  have hlt := lt_of_block hc
  have hb := own_base HO
  have hl := own_lt HO
  refine ⟨.inr ⟨_, _, rfl, ?_, ?_, rfl⟩, ?_, ?_⟩
  · exact t5.heap (heap_alloc_new w3 _) (by simp; omega)
  · have h1 := own_zero HO
    refine own_touch (own_touch h1 ((Touch.refl [] w3).alloc _) (by simp)) t5 fun i hi => ?_
    have := hb i hi
    simp
    omega
  · intro i hi
    rcases List.mem_cons.1 hi with rfl | hi
    · omega
    · have := hb i hi; omega
  · exact (T3.alloc _).trans t5 (by intro i hi; right; have : i = w.heap.size ∨ i = w.heap.size + 1 := by simpa using hi
                                    omega)
set_option maxHeartbeats 1000000 in
theorem lcut_less {w : World} {lv : Value} {l : List ByteArray} {own : List Nat} (h : LstAt w lv l own) (hn : l.length ≤ 100000) (n : Nat) (hlt : n < l.length) :
    Calls Tryz.prog 44 #[.agg #[lv, .int .i64 l.length], .int .i64 n] w (ListRet w own (l.take n)) := by
  have LB := hid fun w1 (t : Touch [] w w1) => lbodies_any (h.touch t (by simp)) (by omega : l.length ≤ 1000000)
  have hlt' : decide (n < l.length) = true := by simpa using hlt
  have hlt'' : decide ((n : Int) < (l.length : Int)) = true := by rw [decide_eq_true_eq]; omega
  obtain ⟨W1, hW, T1, b0, b1⟩ := two_boxes w lv (.int .i64 l.length)
  have hlv : ∃ q, lv = .pointer q := by
    rcases h with ⟨rfl, _⟩ | ⟨p, v, rfl, _⟩
    · exact ⟨_, rfl⟩
    · exact ⟨_, rfl⟩
  obtain ⟨q, rfl⟩ := hlv
  clear h
  go_enter Tryz.func44, Tryz.ntmps44
  go_wp2_with fail
  rw [← hW]
  refine (LB.out _ T1).mono ?_
  rintro e w2 ⟨⟨x, c, rfl, hR⟩, t2⟩
  have hnc : n ≤ c := by have := hR.le; omega
  have hR2 := hid (hR.take n (by omega))
  have B0 := hid (t2.heap b0 (by simp))
  have B1 := hid (t2.heap b1 (by simp))
  have T2 := hid (T1.trans t2 (by simp))
  have hlen : (l.take n).length = n := by rw [List.length_take]; omega
  have CT := hid fun w3 (t : Touch [] w2 w3) => clone_tx (hR2.out.touch t) hlen (by omega : n ≤ 1000000)
  have hc1 : c ≤ 9223372036854775807 := hR.cap
  clear hR t2 b0 b1 T1 hW
  go_wp2_with fail
  refine (CT.out _ (Touch.refl _ _)).mono ?_
  rintro e w3 ⟨v', rfl, hO, t3⟩
  obtain ⟨y, k, rfl⟩ := own_form_tx hO
  have C0 := hid (t3.heap B0.out (by simp))
  have C1 := hid (t3.heap B1.out (by simp))
  have T3 := hid (T2.out.trans t3 (by simp))
  have HO := hid hO
  clear t3 hO CT
  have s0 : ∀ o : Obj, (w3.alloc o).cell? ⟨w.heap.size, 0, none⟩ = some (.pointer q) := fun o => cell_alloc C0.out 0 o
  have s1 : ∀ o : Obj, (w3.alloc o).cell? ⟨w.heap.size, 1, none⟩ = some (.int .i64 l.length) := fun o => cell_alloc C0.out 1 o
  have z0 : ∀ o : Obj, (w3.alloc o).frozen? ⟨w.heap.size, 0, none⟩ = false := fun o => free_of (heap_alloc_keep C0.out o) 0
  have z1 : ∀ o : Obj, (w3.alloc o).frozen? ⟨w.heap.size, 1, none⟩ = false := fun o => free_of (heap_alloc_keep C0.out o) 1
  have v0 : ∀ o : Obj, (w3.alloc o).cell? ⟨w.heap.size + 1, 0, none⟩ = some (.pointer none) := fun o => cell_alloc C1.out 0 o
  have v1 : ∀ o : Obj, (w3.alloc o).cell? ⟨w.heap.size + 1, 1, none⟩ = some (.int .i64 0) := fun o => cell_alloc C1.out 1 o
  have y0 : ∀ o : Obj, (w3.alloc o).frozen? ⟨w.heap.size + 1, 0, none⟩ = false := fun o => free_of (heap_alloc_keep C1.out o) 0
  have y1 : ∀ o : Obj, (w3.alloc o).frozen? ⟨w.heap.size + 1, 1, none⟩ = false := fun o => free_of (heap_alloc_keep C1.out o) 1
  have HB := hid (lt_of_block B1.out)
  go_wp2_with fail
  obtain ⟨W5, hW5, e5, t5⟩ := box_four (heap_alloc_keep C1.out (.cells #[.slice y n k] tLPool)) (.pointer (some ⟨w3.heap.size, 0, none⟩)) (.int .i64 n) (.pointer (some ⟨w3.heap.size, 0, none⟩)) (.int .i64 n)
  rw [← hW5]
  have r0 : W5.cell? ⟨w.heap.size + 1, 0, none⟩ = some (.pointer (some ⟨w3.heap.size, 0, none⟩)) := cell_of e5 0
  have r1 : W5.cell? ⟨w.heap.size + 1, 1, none⟩ = some (.int .i64 n) := cell_of e5 1
  refine bodyPost_ret (v := .agg #[.pointer (some ⟨w3.heap.size, 0, none⟩), .int .i64 n]) (by simp [results, Tryz.results44, go_sem, r0, r1]) rfl ?_
  obtain ⟨h1, h2, h3⟩ := list_new hlen T3.out rfl ⟨_, _, _, C1.out⟩ (own_weak HO.out (by have := HB.out; omega)) t5
  exact ⟨_, _, by rw [hlen], h1, fun i hi => .inr (h2 i hi), h3.mono (by simp)⟩
set_option maxHeartbeats 1000000 in
theorem lcut_same {w : World} {lv : Value} {l : List ByteArray} {own : List Nat} (h : LstAt w lv l own) :
    Calls Tryz.prog 44 #[.agg #[lv, .int .i64 l.length], .int .i64 l.length] w (ListRet w own l) := by
  have hlt' : decide (l.length < l.length) = false := by simp
  have hlt'' : decide ((l.length : Int) < (l.length : Int)) = false := by simp
  have hlv : ∃ q, lv = .pointer q := by
    rcases h with ⟨rfl, _⟩ | ⟨p, v, rfl, _⟩
    · exact ⟨_, rfl⟩
    · exact ⟨_, rfl⟩
  obtain ⟨q, rfl⟩ := hlv
  have H := hid h
  clear h
  go_enter Tryz.func44, Tryz.ntmps44
  go_wp2_with fail
  have e5 := heap_alloc_new (w.alloc (.cells #[.pointer q, .int .i64 l.length] tLst)) (.cells #[.pointer q, .int .i64 l.length] tLst)
  have t5 : Touch [] w ((w.alloc (.cells #[.pointer q, .int .i64 l.length] tLst)).alloc (.cells #[.pointer q, .int .i64 l.length] tLst)) := ((Touch.refl [] w).alloc _).alloc _
  obtain ⟨W5, hW5⟩ : ∃ W5, W5 = ((w.alloc (.cells #[.pointer q, .int .i64 l.length] tLst)).alloc (.cells #[.pointer q, .int .i64 l.length] tLst)) := ⟨_, rfl⟩
  rw [← hW5] at e5 t5
  show bodyPost _ _ _ _ _ ((w.alloc (.cells #[.pointer q, .int .i64 l.length] tLst)).alloc (.cells #[.pointer q, .int .i64 l.length] tLst))
  rw [← hW5]
  have e6 : W5.heap[w.heap.size + 1]? = some (.cells #[.pointer q, .int .i64 l.length] tLst (0, 0)) := by simpa using e5
  have r0 : W5.cell? ⟨w.heap.size + 1, 0, none⟩ = some (.pointer q) := cell_of e6 0
  have r1 : W5.cell? ⟨w.heap.size + 1, 1, none⟩ = some (.int .i64 l.length) := cell_of e6 1
  refine bodyPost_ret (v := .agg #[.pointer q, .int .i64 l.length]) (by simp [results, Tryz.results44, go_sem, r0, r1]) rfl ?_
  exact ⟨_, own, rfl, H.out.touch t5 (by simp), fun i hi => .inl hi, t5.mono (by simp)⟩
theorem lcut_any {w : World} {lv : Value} {l : List ByteArray} {own : List Nat} (h : LstAt w lv l own) (hn : l.length ≤ 100000) (n : Nat) (hlt : n ≤ l.length) :
    Calls Tryz.prog 44 #[.agg #[lv, .int .i64 l.length], .int .i64 n] w (ListRet w own (l.take n)) := by
  rcases Nat.lt_or_ge n l.length with h1 | h1
  · exact lcut_less h hn n h1
  · obtain rfl : n = l.length := by omega
    rw [List.take_length]
    exact lcut_same h
end Go.Proofs.YtjjocnkockeacaaGreatDoor
