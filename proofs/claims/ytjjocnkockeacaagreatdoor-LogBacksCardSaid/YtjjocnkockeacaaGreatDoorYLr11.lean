/- What is read of a log. -/
import Derived.Test.YtjjocnkockeacaaGreatDoorYLf11
import Derived.Test.YtjjocnkockeacaaGreatDoorZe
import Derived.Test.YtjjocnkockeacaaGreatDoorShelf
namespace Go.Proofs.YtjjocnkockeacaaGreatDoor
open Go.RowKit Go.Lib
set_option maxRecDepth 100000

theorem take_min {α : Type} (l : List α) (m : Nat) : l.take (min m l.length) = l.take m := by
  rcases Nat.le_total m l.length with h | h
  · rw [Nat.min_eq_left h]
  · rw [Nat.min_eq_right h, List.take_length, List.take_of_length_le h]
theorem TxR.sub {w : World} {x : Option Addr} {l : List ByteArray} (h : TxR w x l) (n q : Nat) : TxR w (x.map (·.add n)) ((l.drop n).take q) := by
  intro i hi
  rw [List.length_take, List.length_drop] at hi
  obtain ⟨g, off, rfl, hc⟩ := h (n + i) (by omega)
  refine ⟨g, off + n, ?_, ?_⟩
  · simp [Addr.add]
  · rw [List.getElem_take, List.getElem_drop, Nat.add_assoc]
    exact hc
theorem lsynced_any {w : World} {b d : Nat} {S : Lg} {pv lv : Value} (h : w.heap[b]? = some (.cells (lgCells d S pv lv) tLog (0, 0))) :
    Calls Tryz.prog 18 #[.pointer (some ⟨b, 0, none⟩)] w fun e w' => e = .returned (.int .i64 S.synced) ∧ w' = w := by
  obtain ⟨-, -, -, -, -, -, -, c7, -⟩ := lg_cell h
  clear h
  go_enter Tryz.func18, Tryz.ntmps18
  go_wp2
  go_ret
  exact ⟨rfl, rfl⟩
theorem lend_any {w : World} {b d : Nat} {S : Lg} {pv lv : Value} {own : List Nat} (h : LgIs w d b S pv lv own) (m u : Nat) (hm : S.parts.length = m + 1) (hm2 : m < 100) (hu : u ≤ 1000000000) (hz : ∀ p ∈ S.parts, 100 ≤ p.1 ∧ p.1 ≤ 1000000) :
    Calls Tryz.prog 71 #[.pointer (some ⟨b, 0, none⟩), .int .i64 u] w fun e w' => e = .returned (.int .i64 ((33 + u : Nat) : Int)) ∧ Touch [] w w' := by
  obtain ⟨-, -, -, c3, -⟩ := lg_cell h.cells
  obtain ⟨x, c, rfl, hc, -, hp⟩ := part_form h.parts
  obtain ⟨g, rfl, g1, g2⟩ := hp m (by omega)
  have hzm := hz _ (List.getElem_mem (show m < S.parts.length by omega))
  have CS := hid (start_any m (S.parts[m]'(by omega)).1 w (by omega))
  have hS : StartV m (S.parts[m]'(by omega)).1 = .tuple #[.string (stB (S.parts[m]'(by omega)).1 m), .int .i64 0] := by
    unfold StartV stB
    rw [if_neg (by omega)]
    rfl
  rw [hS] at CS
  have hsz := stB_size (S.parts[m]'(by omega)).1 m
  generalize stB (S.parts[m]'(by omega)).1 m = sb at *
  generalize (S.parts[m]'(by omega)).1 = z at *
  rw [hm] at c3 hc
  clear h hp hm hz hS g2
  have i1 : decide (m < m + 1) = true := by simp
  have w1 : Hid (wrap64 (33 + (u : Int)) = 33 + (u : Int)) := hid (by unfold wrap64; omega)
  go_enter Tryz.func71, Tryz.ntmps71
  go_wp2_with (go_at_call 31; refine CS.out.mono ?_; rintro e w2 ⟨rfl, t2⟩; have T2 := hid t2; clear t2)
  go_ret
  exact ⟨by rw [Int.natCast_add]; rfl, T2.out⟩
theorem lget_any {w : World} {b d : Nat} {S : Lg} {pv lv : Value} {own : List Nat} (h : LgIs w d b S pv lv own) (hb : S.broken = 0) (n : Nat) (hn : n < S.bodies.length) (hl : S.bodies.length ≤ 100000) (hs : (S.bodies[n]).size ≤ 281474976710656) :
    Calls Tryz.prog 12 #[.pointer (some ⟨b, 0, none⟩), .int .i64 n] w fun e w' => e = .returned (.tuple #[.string S.bodies[n], .int .i64 0]) ∧ Touch [] w w' := by
  obtain ⟨-, -, -, -, -, c5, c6, -⟩ := lg_cell h.cells
  have CR := hid (lrefuses_any h.cells)
  have CL := hid fun w' (t : Touch [] w w') => llen_any (h.cells |> fun x => t.heap x (by simp))
  rw [hb] at CR
  have CB := hid fun w' (t : Touch [] w w') => lbodies_any (h.list.touch t (by simp)) (by omega : S.bodies.length ≤ 1000000)
  have d1 : decide (n < S.bodies.length) = true := by simpa using hn
  go_enter Tryz.func12, Tryz.ntmps12
  have CC := hid (fun w => clone_any (S.bodies[n]) w hs)
  clear h hs hb
  go_wp2_with (first
    | (go_at_call 35; refine CR.out.mono ?_; rintro e w1 ⟨rfl, rfl⟩)
    | (go_at_call 17; with_reducible refine (CL.out _ (Touch.refl _ _)).mono ?_; rintro e w2 ⟨rfl, rfl⟩))
  refine (CB.out _ (Touch.refl _ _)).mono ?_
  rintro e w3 ⟨⟨x, c, rfl, hR⟩, t3⟩
  have T3 := hid t3
  obtain ⟨g, off, rfl, hcell⟩ := hR.r n hn
  clear t3 hR
  go_wp2_with (go_at_call 32; with_reducible refine (CC.out _).mono ?_; rintro e w4 ⟨rfl, t4⟩; have T4 := hid (T3.out.trans t4 (by simp)); clear t4)
  go_ret2
  exact ⟨rfl, T4.out⟩
theorem lrange_any {w : World} {b d : Nat} {S : Lg} {pv lv : Value} {own : List Nat} (h : LgIs w d b S pv lv own) (n m : Nat) (hn : n < S.bodies.length) (hm : m ≤ 100000) (hl : S.bodies.length ≤ 100000) (hs : ∀ s ∈ S.bodies, s.size ≤ 281474976710656) :
    Calls Tryz.prog 20 #[.pointer (some ⟨b, 0, none⟩), .int .i64 n, .int .i64 m] w fun e w' => ∃ v, e = .returned v ∧ w'.ownsRow w.heap.size tStg 1 v ((S.bodies.drop n).take m).length (txtVals ((S.bodies.drop n).take m)) ∧ Touch [] w w' := by
  obtain ⟨-, -, -, -, -, c5, c6, -⟩ := lg_cell h.cells
  have CL := hid fun w' (t : Touch [] w w') => llen_any (h.cells |> fun x => t.heap x (by simp))
  have CB := hid fun w' (t : Touch [] w w') => lbodies_any (h.list.touch t (by simp)) (by omega : S.bodies.length ≤ 1000000)
  have d1 : decide (n < S.bodies.length) = true := by simpa using hn
  clear h
  obtain ⟨q, hq⟩ : ∃ q, q = min m (S.bodies.length - n) := ⟨_, rfl⟩
  have hqi : min (m : Int) ((S.bodies.length : Int) - (n : Int)) = (q : Int) := by rw [hq]; omega
  have hq2 : n + q ≤ S.bodies.length := by omega
  have CC := hid fun (w' : World) (x : Option Addr) (c : Nat) (hx : TxR w' x ((S.bodies.drop n).take q)) => clones_any (c := c) hx (n := q) (by rw [List.length_take, List.length_drop]; omega) (by omega) (fun s hs' => hs s (List.mem_of_mem_drop (List.mem_of_mem_take hs')))
  have HL : Hid ((S.bodies.drop n).take m = (S.bodies.drop n).take q ∧ ((S.bodies.drop n).take q).length = q) := hid ⟨by rw [hq, ← List.length_drop]; exact (take_min _ _).symm, by rw [List.length_take, List.length_drop]; omega⟩
  clear hq
  go_enter Tryz.func20, Tryz.ntmps20
  go_wp2_with (first
    | (go_at_call 17; with_reducible refine (CL.out _ (Touch.refl _ _)).mono ?_; rintro e w2 ⟨rfl, rfl⟩))
  refine (CB.out _ (Touch.refl _ _)).mono ?_
  rintro e w3 ⟨⟨x, c, rfl, hR⟩, t3⟩
  have T3 := hid t3
  have hle := hR.le
  have hcap : c ≤ 9223372036854775807 := hR.cap
  have HR := hid hR
  clear t3 hR
  go_wp2_with fail
  refine (CC.out _ _ _ (HR.out.r.sub n q)).mono ?_
  rintro e w4 ⟨v, rfl, hO, t4⟩
  have HO := hid hO
  have T4 := hid (T3.out.trans t4 (by simp))
  have B4 := hid T3.out.size
  clear hO t4
  go_wp2_with fail
  go_ret
  refine ⟨v, rfl, ?_, T4.out⟩
  rw [HL.out.1, HL.out.2]
  exact own_weak HO.out B4.out
/-- slices.Reverse of a row of texts. -/
theorem rev_tx {w : World} {base n : Nat} {v : Value} {l : List ByteArray} (h : w.ownsRow base tStg 1 v n (txtVals l)) (hl : l.length = n) (hn : n ≤ 1000000) :
    Calls Tryz.prog 53 #[v] w fun e w' => e = .returned (.tuple #[]) ∧ w'.ownsRow base tStg 1 v n (txtVals l.reverse) ∧ Touch v.ownBlock.toList w w' := by
  subst hl
  rcases h.2 with ⟨rfl, h0⟩ | ⟨g, cap, cur, rfl, hb, hg, hc, hm, hs, ht⟩
  · refine (Tryz.slices_Reverse_string_empty none 0 w).mono ?_
    rintro e w' ⟨rfl, rfl⟩
    have : l = [] := List.eq_nil_of_length_eq_zero h0
    subst this
    exact ⟨rfl, h, Touch.refl _ _⟩
  · have hcell : ∀ i (hi : i < l.length), w.cell? ⟨g, 0 + i, none⟩ = some (.string l[i]) := fun i hi => by
      have := h.cells (g := g) rfl i (.string l[i]) (by simp [txtVals, hi])
      rw [show (⟨g, 0, none⟩ : Addr).add i = ⟨g, 0 + i, none⟩ from by unfold Addr.add; split <;> simp_all] at this
      exact this
    refine (Tryz.slices_Reverse_string_cells g 0 l.length cap (fun i => l.getD i ⟨#[]⟩) w (by omega) (fun i hi => by rw [hcell i hi]; simp [hi]) (fun j hj => free_of hg _)).mono ?_
    rintro e w' ⟨rfl, q, rfl⟩
    have hv : ((Lib.strsOf (fun i => l.getD i ⟨#[]⟩) l.length).reverse.map encStr) = txtVals l.reverse := by
      have e1 : Lib.strsOf (fun i => l.getD i ⟨#[]⟩) l.length = l.map fun s => s.data.toList := by
        apply List.ext_getElem
        · simp [Lib.strsOf]
        · intro i h1 h2
          simp [Lib.strsOf] at h1 ⊢
          rw [List.getElem?_eq_getElem h1]
          rfl
      rw [e1, ← List.map_reverse]
      simp [txtVals, encStr]
    rw [hv]
    have hg2 : (w.drewN q).heap[g]? = some (.cells cur tStg (0, 0)) := by rw [drewN_heap]; exact hg
    refine ⟨rfl, ⟨by simp [txtVals], .inr ⟨g, cap, laidIn cur 0 (txtVals l.reverse), rfl, hb, heap_setCells _ _ hg2, hc, hm, ?_, ?_⟩⟩, ?_⟩
    · have := laid_list (txtVals l.reverse) cur 0 (by simp [txtVals]; omega)
      have e2 := congrArg List.length this
      have e3 : cur.toList.length = cur.size := by simp
      have e4 : (laidIn cur 0 (txtVals l.reverse)).toList.length = (laidIn cur 0 (txtVals l.reverse)).size := by simp
      rw [e4, List.take_zero, List.nil_append, List.length_append, List.length_drop, e3, txtVals_len, List.length_reverse] at e2
      omega
    · rw [laid_list (txtVals l.reverse) cur 0 (by simp [txtVals]; omega), List.take_zero, List.nil_append, List.take_append_of_le_length (by simp [txtVals]), List.take_of_length_le (by simp [txtVals])]
    · exact touch_setCells (.inl (by simp [Value.ownBlock])) _ _ ((Touch.refl _ w).drewN q)
theorem lback_any {w : World} {b d : Nat} {S : Lg} {pv lv : Value} {own : List Nat} (h : LgIs w d b S pv lv own) (n m a q : Nat) (ha : a = min n (S.bodies.length - 1)) (hq : q = min m (a + 1)) (hn : S.bodies.length ≠ 0) (hm : m ≤ 100000) (h1 : 1 ≤ m) (hl : S.bodies.length ≤ 100000) (hs : ∀ s ∈ S.bodies, s.size ≤ 281474976710656) :
    Calls Tryz.prog 21 #[.pointer (some ⟨b, 0, none⟩), .int .i64 n, .int .i64 m] w fun e w' => ∃ v, e = .returned v ∧ w'.ownsRow w.heap.size tStg 1 v q (txtVals ((S.bodies.drop (a + 1 - q)).take q).reverse) ∧ Touch [] w w' := by
  obtain ⟨-, -, -, -, -, c5, c6, -⟩ := lg_cell h.cells
  have CL := hid fun w' (t : Touch [] w w') => llen_any (h.cells |> fun x => t.heap x (by simp))
  have CB := hid fun w' (t : Touch [] w w') => lbodies_any (h.list.touch t (by simp)) (by omega : S.bodies.length ≤ 1000000)
  clear h
  have hai : min (n : Int) ((S.bodies.length : Int) - 1) = (a : Int) := by rw [ha]; omega
  have hqi : min (m : Int) ((a : Int) + 1) = (q : Int) := by rw [hq]; omega
  have hq0 : 1 ≤ q := by omega
  have hal : a + 1 ≤ S.bodies.length := by omega
  have hqa : q ≤ a + 1 := by omega
  obtain ⟨lo, hlo⟩ : ∃ lo, lo = a + 1 - q := ⟨_, rfl⟩
  have hli : (a : Int) + 1 - (q : Int) = (lo : Int) := by omega
  have hlq : lo + q = a + 1 := by omega
  have hlen : ((S.bodies.drop lo).take q).length = q := by rw [List.length_take, List.length_drop]; omega
  have CC := hid fun (w' : World) (x : Option Addr) (c : Nat) (hx : TxR w' x ((S.bodies.drop lo).take q)) => clones_any (c := c) hx (n := q) hlen (by omega) (fun s hs' => hs s (List.mem_of_mem_drop (List.mem_of_mem_take hs')))
  have RV := hid fun (w' : World) (v : Value) (base : Nat) (h : w'.ownsRow base tStg 1 v q (txtVals ((S.bodies.drop lo).take q))) => rev_tx h hlen (by omega)
  rw [← hlo]
  have hlq2 : a + 1 - lo = q := by omega
  have hlc : ¬ lo = a + 1 := by omega
  clear ha hq hs hlo
  go_enter Tryz.func21, Tryz.ntmps21
  go_wp2_with (first
    | (go_at_call 17; with_reducible refine (CL.out _ (Touch.refl _ _)).mono ?_; rintro e w2 ⟨rfl, rfl⟩))
  refine (CB.out _ (Touch.refl _ _)).mono ?_
  rintro e w3 ⟨⟨x, c, rfl, hR⟩, t3⟩
  have T3 := hid t3
  have hle := hR.le
  have hcap : c ≤ 9223372036854775807 := hR.cap
  have HR := hid hR
  have hlc2 : lo ≤ c := by omega
  clear t3 hR
  go_wp2_with fail
  try rw [hlq2]
  refine (CC.out _ _ _ (HR.out.r.sub lo q)).mono ?_
  rintro e w4 ⟨v, rfl, hO, t4⟩
  have HO := hid hO
  have T4 := hid (T3.out.trans t4 (by simp))
  clear hO t4
  obtain ⟨y, k, rfl⟩ := own_form_tx HO.out
  go_wp2_with fail
  refine (RV.out _ _ _ HO.out).mono ?_
  rintro e w5 ⟨rfl, hO5, t5⟩
  have T5 : Hid (Touch [] w2 w5) := hid (T4.out.trans t5 (fun i hi => .inr (Nat.le_trans T3.out.size (own_base HO.out i hi))))
  have O5 := hid (own_weak hO5 T3.out.size)
  clear hO5 t5
  go_wp2_with fail
  go_ret
  exact ⟨_, rfl, O5.out, T5.out⟩
theorem lchunks_any {w : World} {b d : Nat} {S : Lg} {pv lv : Value} {own : List Nat} (h : LgIs w d b S pv lv own) (hl : S.parts.length ≤ 1000) :
    Calls Tryz.prog 22 #[.pointer (some ⟨b, 0, none⟩)] w fun e w' => ∃ v, e = .returned v ∧ w'.ownsRow w.heap.size tInt 1 v S.parts.length (S.parts.map fun p => .int .i64 (p.2 : Int)) ∧ Touch [] w w' := by
  obtain ⟨-, -, -, c3, -⟩ := lg_cell h.cells
  obtain ⟨x, c, rfl, hc, -, hp⟩ := part_form h.parts
  have HP := hid hp
  obtain ⟨n, hn⟩ : ∃ n, n = S.parts.length := ⟨_, rfl⟩
  rw [← hn] at hl c3 hc ⊢
  generalize S.parts = ps at *
  clear h hp
  go_enter Tryz.func22, Tryz.ntmps22
  go_wp2_with fail
  go_loopw [3, 13] (fun sv iv wr => ∃ (i : Nat) (sx : Option Addr) (sc : Nat), i ≤ n ∧ iv = .int .i64 i ∧ sv = .slice sx i sc ∧ Hid (wr.ownsRow w.heap.size tInt 1 (.slice sx i sc) i ((ps.take i).map fun p => .int .i64 (p.2 : Int)) ∧ Touch [] w wr)) (fun _ iv _ => n - (RowKit.intOf iv).toNat)
  case atStart => exact ⟨0, none, 0, Nat.zero_le _, rfl, rfl, hid ⟨World.ownsRow_nil _ _ _ _, Touch.refl _ _⟩⟩
  case round =>
    obtain ⟨i, sx, sc, hi, rfl, rfl, I⟩ := hrel
    by_cases hlt : i < n
    · have hlt' : decide (i < n) = true := by simpa using hlt
      obtain ⟨g, rfl, g1, g2⟩ := HP.out i (by omega)
      have q1 := I.out.2.cell g1
      have q2 := I.out.2.cell g2
      have hst : Hid (((ps.take (i + 1)).map fun p => Value.int .i64 (p.2 : Int)) = ((ps.take i).map fun p => Value.int .i64 (p.2 : Int)) ++ [.int .i64 ((ps[i]'(by omega)).2 : Int)]) := hid (by rw [List.take_succ_eq_append_getElem (by omega), List.map_append]; rfl)
      clear g1 g2
      generalize ps[i]'(by omega) = a at *
      have IA := fun o : Obj => own_touch I.out.1 ((Touch.refl [] wr).alloc o) (by simp)
      go_wp2_with (at_builtin; refine wpList_append_lies _ rfl _ _ 45 rfl w.heap.size tInt _ (.int .i64 0) 1 8 rfl rfl rfl rfl rfl rfl (by omega) _ i _ rfl ((IA _).alloc _) ⟨wr.heap.size + 1, 0, none⟩ 1 1 [.int .i64 a.2] rfl rfl (World.news_of_block (by have := heap_alloc_new (wr.alloc (.cells #[.int .i64 a.1, .int .i64 a.2] tPart)) (.cells #[.int .i64 a.2] tInt); simpa using this)) (by intro u hu; simp at hu; subst hu; rfl) (by omega) (by unfold maxLen; omega) (by omega) (by have := I.out.2.size; simp; omega) _ rfl ?_; intro gg cap w3 hown hgrow hat hlt3; have O3 := hid (And.intro hown (And.intro hgrow hat)); clear hown hgrow hat hlt3)
      go_roundw
      case rel =>
        refine ⟨i + 1, some ⟨gg, 0, none⟩, cap, by omega, by go_num, by go_num, hid ⟨?_, ((I.out.2.alloc _).alloc _).grown O3.out.2.1 (fun k hk => .inr (own_base I.out.1 k (Option.mem_toList.2 hk)))⟩⟩
        rw [hst.out]
        exact O3.out.1
      case measure => simp [RowKit.intOf]; omega
    · obtain rfl : i = n := by omega
      have hI := hid I.out
      rw [List.take_of_length_le (by omega)] at hI
      clear I
      go_wp2
      go_ret
      exact ⟨_, rfl, hI.out.1, hI.out.2⟩
end Go.Proofs.YtjjocnkockeacaaGreatDoor
