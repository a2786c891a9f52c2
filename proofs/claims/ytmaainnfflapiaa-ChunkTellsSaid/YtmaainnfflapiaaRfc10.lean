/- The laws' own Chunk, by the same words as Read. -/
import Derived.Test.YtmaainnfflapiaaRd10
import Derived.Test.YtmaainnfflapiaaRef10
namespace Go.Proofs.Ytmaainnfflapiaa
open Go.RowKit Go.Lib
set_option maxRecDepth 100000

abbrev tRSc : TypeId := 39
/-- How it stands in the round. -/
structure Rk (l : List UInt8) (w W : World) (xb : Nat) (n z : Nat) (lv : Value) (g : Nat) (L : List (List UInt8)) : Prop where
  x : W.heap[xb]? = some (.cells #[.int .i64 n, .int .i64 z, lv, .int .i64 (g : Int), .bool false] tRSc (0, 0))
  r : W.heap[w.heap.size]? = some (.cells #[.int .i64 0, .int .i64 0, .slice none 0 0, .int .i64 0, .bool false] tRSc (0, 0))
  o : W.ownsRow (xb + 1) tStr 1 lv L.length (txtCells L)
  t : Touch [] w W
  ge : 33 + 12 * L.length ≤ g
  le : g ≤ l.length
  e1 : (recOf (l.drop 33)).1 = L ++ (recOf (l.drop g)).1
  e2 : 33 + (recOf (l.drop 33)).2 = g + (recOf (l.drop g)).2
theorem rk_stop {l : List UInt8} {g n : Nat} {L : List (List UInt8)} (e1 : (recOf (l.drop 33)).1 = L ++ (recOf (l.drop g)).1) (e2 : 33 + (recOf (l.drop 33)).2 = g + (recOf (l.drop g)).2) (hr : recOf (l.drop g) = ([], 0)) :
    (recOf (l.drop 33)).1 = L ∧ doneAt n (l.drop 33) = decide ((l.drop g).take 33 = frL (finL n L.length)) ∧ goodAt n (l.drop 33) = g + (if decide ((l.drop g).take 33 = frL (finL n L.length)) then 33 else 0) := by
  rw [hr] at e1 e2
  simp only [List.append_nil, Nat.add_zero] at e1 e2
  have hd : doneAt n (l.drop 33) = decide ((l.drop g).take 33 = frL (finL n L.length)) := by
    unfold doneAt
    rw [e1, List.drop_drop, e2]
  refine ⟨e1, hd, ?_⟩
  unfold goodAt
  rw [hd, ← e2]
/-- What is told when the round ends. -/
theorem read_end {l : List UInt8} {w W w' : World} {xb n z g : Nat} {lv : Value} {L : List (List UInt8)} {d : Bool} {e : Ending} {F : List Nat} (HB : Begins l n z) (h1 : (recOf (l.drop 33)).1 = L) (h2 : doneAt n (l.drop 33) = d) (h3 : goodAt n (l.drop 33) = g)
    (he : e = .returned (.tuple #[.agg #[.int .i64 n, .int .i64 z, lv, .int .i64 (g : Int), .bool d], .int .i64 0])) (o : W.ownsRow (xb + 1) tStr 1 lv L.length (txtCells L)) (tw : Touch F W w') (hF : ∀ f ∈ F, f ≤ xb) (hx : w.heap.size < xb) (t : Touch [] w w') : ReadV l w e w' := by
  refine ⟨.inl ⟨n, z, lv, HB, ?_, ?_⟩, t⟩
  · rw [he, h2, h3]; rfl
  · rw [h1]
    exact own_keep o tw (fun f hf => by have := hF f hf; omega) (by omega)
def Opened (w wx : World) (xv : Value) (x1 x2 : Int) : Prop :=
  ∃ xb, xv = .pointer (some ⟨xb, 0, none⟩) ∧ wx.heap[xb]? = some (.cells #[.int .i64 x1, .int .i64 x2, .slice none 0 0, .int .i64 33, .bool false] tRSc (0, 0)) ∧ w.heap.size < xb ∧
    wx.heap[w.heap.size]? = some (.cells #[.int .i64 0, .int .i64 0, .slice none 0 0, .int .i64 0, .bool false] tRSc (0, 0)) ∧ Touch [] w wx
theorem set5 {w : World} {b : Nat} {c0 c1 c2 c3 c4 : Value} {ty : TypeId} (h : w.heap[b]? = some (.cells #[c0, c1, c2, c3, c4] ty (0, 0))) (a0 a1 a2 a3 a4 : Value) :
    (((((w.setCell ⟨b, 0, none⟩ a0).setCell ⟨b, 1, none⟩ a1).setCell ⟨b, 2, none⟩ a2).setCell ⟨b, 3, none⟩ a3).setCell ⟨b, 4, none⟩ a4).heap[b]? = some (.cells #[a0, a1, a2, a3, a4] ty (0, 0)) := by
  rw [heap_set (heap_set (heap_set (heap_set (heap_set h _) _) _) _) _]
  rfl
theorem other5 {w : World} {b k : Nat} (hk : k ≠ b) (a0 a1 a2 a3 a4 : Value) :
    (((((w.setCell ⟨b, 0, none⟩ a0).setCell ⟨b, 1, none⟩ a1).setCell ⟨b, 2, none⟩ a2).setCell ⟨b, 3, none⟩ a3).setCell ⟨b, 4, none⟩ a4).heap[k]? = w.heap[k]? := by
  rw [heap_set_other _ hk, heap_set_other _ hk, heap_set_other _ hk, heap_set_other _ hk, heap_set_other _ hk]
theorem opened_alloc {w w3 : World} (T : Touch [] w w3) (R : w3.heap[w.heap.size]? = some (.cells #[.int .i64 0, .int .i64 0, .slice none 0 0, .int .i64 0, .bool false] tRSc (0, 0))) (x1 x2 : Int) :
    Opened w (w3.alloc (.cells #[.int .i64 x1, .int .i64 x2, .slice none 0 0, .int .i64 33, .bool false] tRSc)) (.pointer (some ⟨w3.heap.size, 0, none⟩)) x1 x2 :=
  ⟨w3.heap.size, rfl, heap_alloc_new w3 _, lt_of_block R, touch_blk0 ((Touch.refl [] w3).alloc _) R, T.alloc _⟩
theorem opened_set {w w3 : World} {xb : Nat} {c0 c1 c2 c3 c4 : Value} (T : Touch [] w w3) (R : w3.heap[w.heap.size]? = some (.cells #[.int .i64 0, .int .i64 0, .slice none 0 0, .int .i64 0, .bool false] tRSc (0, 0)))
    (Z : w3.heap[xb]? = some (.cells #[c0, c1, c2, c3, c4] tRSc (0, 0))) (hlt : w.heap.size < xb) (x1 x2 : Int) :
    Opened w (((((w3.setCell ⟨xb, 0, none⟩ (.int .i64 x1)).setCell ⟨xb, 1, none⟩ (.int .i64 x2)).setCell ⟨xb, 2, none⟩ (.slice none 0 0)).setCell ⟨xb, 3, none⟩ (.int .i64 33)).setCell ⟨xb, 4, none⟩ (.bool false)) (.pointer (some ⟨xb, 0, none⟩)) x1 x2 :=
  ⟨xb, rfl, set5 Z _ _ _ _ _, hlt, (other5 (by omega) _ _ _ _ _).trans R, touch5 T (.inr (Nat.le_of_lt hlt)) _ _ _ _ _⟩
def measureR (xb N : Nat) (W : World) : Nat := N - (RowKit.intOf ((W.cell? ⟨xb, 3, none⟩).getD (.int .i64 0))).toNat
theorem measure_of {xb N g : Nat} {W : World} {c0 c1 c2 c4 : Value} (h : W.heap[xb]? = some (.cells #[c0, c1, c2, .int .i64 (g : Int), c4] tRSc (0, 0))) : measureR xb N W = N - g := by
  unfold measureR
  rw [cell_of h 3]
  simp [RowKit.intOf]
theorem rk_next {l t0 : List UInt8} {w wr w5 : World} {xb n z g k gg cap : Nat} {y : Option Addr} {c : Nat} {L : List (List UInt8)} (M : Rk l w wr xb n z (.slice y L.length c) g L) (LT : w.heap.size < xb) (HR : firstOf (l.drop g) = (1 :: t0, k, 0))
    (X7 : ((w5.setCell ⟨xb, 2, none⟩ (.slice (some ⟨gg, 0, none⟩) (L.length + 1) cap)).setCell ⟨xb, 3, none⟩ (.int .i64 ((g : Int) + (k : Int)))).heap[xb]? = some (.cells #[.int .i64 n, .int .i64 z, .slice (some ⟨gg, 0, none⟩) (L.length + 1) cap, .int .i64 ((g + k : Nat) : Int), .bool false] tRSc (0, 0)))
    (R5 : w5.heap[w.heap.size]? = some (.cells #[.int .i64 0, .int .i64 0, .slice none 0 0, .int .i64 0, .bool false] tRSc (0, 0))) (T5 : Touch [] w w5)
    (O5 : w5.ownsRow (xb + 1) tStr 1 (.slice (some ⟨gg, 0, none⟩) (L.length + 1) cap) (L.length + 1) (txtCells L ++ [.string (bytesT t0)])) (hk : 13 ≤ k) (hle : g + k ≤ l.length) :
    Rk l w ((w5.setCell ⟨xb, 2, none⟩ (.slice (some ⟨gg, 0, none⟩) (L.length + 1) cap)).setCell ⟨xb, 3, none⟩ (.int .i64 ((g : Int) + (k : Int)))) xb n z (.slice (some ⟨gg, 0, none⟩) (L.length + 1) cap) (g + k) (L ++ [t0]) := by
  have hs := rec_step HR
  rw [List.drop_drop] at hs
  refine ⟨X7, ?_, ?_, ((T5.setCell (.inr (Nat.le_of_lt LT)) _).setCell (.inr (Nat.le_of_lt LT)) _), ?_, hle, ?_, ?_⟩
  · rw [heap_set_other _ (by simp; omega), heap_set_other _ (by simp; omega)]
    exact R5
  · rw [txtCells_snoc, List.length_append]
    exact own_keep O5 (((Touch.refl [xb] w5).setCell (.inl (by simp)) _).setCell (.inl (by simp)) _) (fun f hf => by simp at hf; omega) (Nat.le_refl _)
  · have := M.ge
    simp
    omega
  · rw [M.e1, hs]
    simp
  · rw [M.e2, hs]
    simp only []
    omega

set_option maxHeartbeats 2000000 in
theorem refChunk_any (b : ByteArray) (w : World) (hs : b.size ≤ 1000000000) : Calls Try.prog 16 #[.string b] w (ReadV b.data.toList w) := by
  have hl := list_len b
  have Z1 := hid (heap_alloc_new w (.cells zScan tRSc))
  have S1 : Hid (Touch [] w (w.alloc (.cells zScan tRSc))) := (Touch.refl _ _).alloc _
  unfold zScan at Z1 S1
  simp only [tRSc] at Z1 S1
  have F := hid (fun w => refFirst_any b w hs)
  unfold FirstV at F
  by_cases he : (firstOf b.data.toList).2.2 = 0
  rotate_left
  · have hB : Hid (∀ n z, ¬ Begins b.data.toList n z) := fun n z h => he (by rw [begins_first h])
    have q : ((firstOf b.data.toList).2.2 != 0) = true := by simpa using he
    generalize firstOf b.data.toList = R at *
    clear he hl hs
    go_enter Try.func16, Try.ntmps16
    go_wp2_with fail
    generalize hW1 : w.alloc (.cells #[.int .i64 0, .int .i64 0, .slice none 0 0, .int .i64 0, .bool false] 39) = W1 at *
    clear hW1
    refine (F.out _).mono ?_
    rintro e w1 ⟨rfl, t1⟩
    obtain ⟨⟨z0, z1, z2, z3, z4⟩, y0, y1, y2, y3, y4⟩ := five (touch_blk0 t1 Z1.out)
    go_wp2
    refine bodyPost_ret (v := .tuple #[ScanV 0 0 (.slice none 0 0) 0 false, .int .i64 6]) (by simp [results, Try.results16, go_sem, ScanV, z0, z1, z2, z3, z4]) rfl ⟨.inr ⟨hB.out, rfl⟩, touch5 (S1.out.trans t1 (by simp)) (.inr (Nat.le_refl _)) _ _ _ _ _⟩
  obtain ⟨l, hb, h4, hf, _, hlen⟩ := first_ok he
  rw [hf] at F
  simp only [] at F
  by_cases h21 : l.length = 21
  rotate_left
  · have hB : Hid (∀ n z, ¬ Begins b.data.toList n z) := fun n z h => h21 (by
      have e := begins_first h
      rw [hf] at e
      rw [show l = stL n z from congrArg Prod.fst e, stL_len])
    have q : (((bytesT l).size : Int) != 21) = true := by rw [bytesT_size]; simp; omega
    generalize ((l.length + 12 : Nat) : Int) = k at *
    generalize bytesT l = x at *
    clear he hl hs hb h4 hf hlen h21
    go_enter Try.func16, Try.ntmps16
    go_wp2_with fail
    generalize hW1 : w.alloc (.cells #[.int .i64 0, .int .i64 0, .slice none 0 0, .int .i64 0, .bool false] 39) = W1 at *
    clear hW1
    refine (F.out _).mono ?_
    rintro e w1 ⟨rfl, t1⟩
    obtain ⟨⟨z0, z1, z2, z3, z4⟩, y0, y1, y2, y3, y4⟩ := five (touch_blk0 t1 Z1.out)
    go_wp2
    refine bodyPost_ret (v := .tuple #[ScanV 0 0 (.slice none 0 0) 0 false, .int .i64 6]) (by simp [results, Try.results16, go_sem, ScanV, z0, z1, z2, z3, z4]) rfl ⟨.inr ⟨hB.out, rfl⟩, touch5 (S1.out.trans t1 (by simp)) (.inr (Nat.le_refl _)) _ _ _ _ _⟩
  rw [show ((l.length + 12 : Nat) : Int) = 33 by omega] at F
  have sz : (bytesT l).size = 21 := by rw [bytesT_size, h21]
  have el : (bytesT l).data.toList = l := bytesT_toList l
  have sl1 := sl_both (bytesT l) 5 13 5 13 rfl rfl (by omega) (by omega)
  have sl2 := sl_from (bytesT l) 13 13 rfl (by omega)
  have e1 : ((bytesT l).extract 5 13).data.toList = (l.drop 5).take 8 := by rw [extract_data, el]
  have e2 : ((bytesT l).extract 13 (bytesT l).size).data.toList = l.drop 13 := by rw [extract_data, el]; exact List.take_of_length_le (by rw [List.length_drop]; omega)
  have V1 := hid (fun w => value_upto ((bytesT l).extract 5 13) w (by rw [← list_len, e1, List.length_take]; omega))
  have V2 := hid (fun w => value_upto ((bytesT l).extract 13 (bytesT l).size) w (by rw [← list_len, e2, List.length_drop]; omega))
  rw [e1] at V1
  rw [e2] at V2
  obtain ⟨x1, hx1⟩ : ∃ x, x = wrap64 (val ((l.drop 5).take 8)) := ⟨_, rfl⟩
  obtain ⟨x2, hx2⟩ : ∃ x, x = wrap64 (val (l.drop 13)) := ⟨_, rfl⟩
  rw [← hx1] at V1
  rw [← hx2] at V2
  have S := hid (fun w => refStart_any x1 x2 w)
  unfold StartV at S
  have hBn : ∀ n z, Begins b.data.toList n z → x1 = n ∧ x2 = z := fun n z h => by
    have e := begins_first h
    rw [hf] at e
    have e3 : l = stL n z := congrArg Prod.fst e
    rw [hx1, hx2, e3, stL_number z h.1, stL_size n h.2.2.1]
    have := h.1; have := h.2.2.1
    exact ⟨wrap_small (by omega), wrap_small (by omega)⟩
  have q2 : (((bytesT l).size : Int) != 21) = false := by rw [sz]; rfl
  have HS := hid hs
  have HL := hid hl
  have HF := hid hf
  have HBN := hid hBn
  have H21 := hid h21
  have HLEN := hid hlen
  have hx1m : Hid (-9223372036854775808 ≤ x1 ∧ x1 ≤ 9223372036854775807 ∧ -9223372036854775808 ≤ x2 ∧ x2 ≤ 9223372036854775807) := ⟨by rw [hx1]; unfold wrap64; omega, by rw [hx1]; unfold wrap64; omega, by rw [hx2]; unfold wrap64; omega, by rw [hx2]; unfold wrap64; omega⟩
  generalize (bytesT l).extract 13 (bytesT l).size = y2 at *
  generalize (bytesT l).extract 5 13 = y1 at *
  generalize bytesT l = x at *
  clear he hl hs hb h4 hf hlen h21 hx1 hx2 hBn el e1 e2
  go_enter Try.func16, Try.ntmps16
  go_wp2_with fail
  generalize hW1 : w.alloc (.cells #[.int .i64 0, .int .i64 0, .slice none 0 0, .int .i64 0, .bool false] 39) = W1 at *
  have HS1 : Hid (w.heap.size ≤ W1.heap.size) := S1.out.size
  clear hW1
  go_upto_region 4 with (go_at_call 27; refine (F.out _).mono ?_; rintro e w1 ⟨rfl, t1⟩)
  have T1 := hid t1
  clear t1 F
  go_cut [7] (fun xv wx => Opened w wx xv x1 x2)
  case first =>
    go_region_with (first
      | (go_at_call 28; with_reducible refine (V1.out _).mono ?_; rintro e w2 ⟨rfl, t2⟩; try (have Zb := hid (touch_blk0 t2 (heap_alloc_new w1 (.cells #[.int .i64 0, .int .i64 0, .slice none 0 0, .int .i64 0, .bool false] 39))); obtain ⟨⟨z0, z1, z2, z3, z4⟩, y0, y1, y2, y3, y4⟩ := five Zb.out))
      | (go_at_call 28; with_reducible refine (V2.out _).mono ?_; rintro e w3 ⟨rfl, t3⟩; try (first | (have Zc := hid (touch_blk0 t3 Zb.out); obtain ⟨⟨z0, z1, z2, z3, z4⟩, y0, y1, y2, y3, y4⟩ := five Zc.out) | (have Zc := hid (touch_blk0 t3 (heap_alloc_new w2 (.cells #[.int .i64 0, .int .i64 0, .slice none 0 0, .int .i64 0, .bool false] 39))); obtain ⟨⟨z0, z1, z2, z3, z4⟩, y0, y1, y2, y3, y4⟩ := five Zc.out))))
    · go_wp2
      go_meet
      have u2 := hid ((T1.out.drewN 1).trans t2 (by simp))
      exact opened_alloc ((S1.out.trans u2.out (by simp)).trans t3 (by simp)) (touch_blk0 (u2.out.trans t3 (by simp)) Z1.out) x1 x2
    · go_wp2
      go_meet
      have u2 := hid ((T1.out.drewN 1).trans t2 (by simp))
      exact opened_set (((S1.out.trans u2.out (by simp)).alloc _).trans t3 (by simp)) (touch_blk0 ((u2.out.alloc _).trans t3 (by simp)) Z1.out) Zc.out (lt_of_block (touch_blk0 u2.out Z1.out)) x1 x2
    · go_wp2
      go_meet
      have u2 := hid (((T1.out.alloc (.cells #[.int .i64 0, .int .i64 0, .slice none 0 0, .int .i64 0, .bool false] 39)).drewN 1).trans t2 (by simp))
      exact opened_set ((S1.out.trans u2.out (by simp)).trans t3 (by simp)) (touch_blk0 (u2.out.trans t3 (by simp)) Z1.out) Zc.out (lt_of_block (touch_blk0 T1.out Z1.out)) x1 x2
  case rest =>
    obtain ⟨xb, rfl, hX, hlt, hR, hT⟩ := hcut
    have X := hid hX
    have R := hid hR
    have T := hid hT
    have LT := hid hlt
    have HS2 := hid (lt_of_block hR)
    obtain ⟨⟨z0, z1, z2, z3, z4⟩, y0, y1, y2, y3, y4⟩ := five X.out
    clear V1 V2 sl1 sl2 sz q2 hX hR hT hlt T1 S1 Z1 HS1
    by_cases hv : x1 < 0 ∨ 999999 < x1 ∨ x2 < 100 ∨ 1000000 < x2
    · rw [if_pos hv] at S
      have hB : Hid (∀ n z, ¬ Begins b.data.toList n z) := fun n z h => by
        obtain ⟨e1, e2⟩ := HBN.out n z h
        have := h.1; have := h.2.1; have := h.2.2.1
        omega
      clear hv
      go_wp2_with (go_at_call 9; refine (S.out _).mono ?_; rintro e w2 ⟨rfl, t2⟩; (have T2 := hid (T.out.trans t2 (by simp))); obtain ⟨⟨r0, r1, r2, r3, r4⟩, s0, s1, s2, s3, s4⟩ := five (touch_blk0 t2 R.out))
      refine bodyPost_ret (v := .tuple #[ScanV 0 0 (.slice none 0 0) 0 false, .int .i64 6]) (by simp [results, Try.results16, go_sem, ScanV, r0, r1, r2, r3, r4]) rfl ⟨.inr ⟨hB.out, rfl⟩, touch5 T2.out (.inr (Nat.le_refl _)) _ _ _ _ _⟩
    rw [if_neg hv] at S
    obtain ⟨n, rfl⟩ := Int.eq_ofNat_of_zero_le (show 0 ≤ x1 by omega)
    obtain ⟨z, rfl⟩ := Int.eq_ofNat_of_zero_le (show 0 ≤ x2 by omega)
    rw [show ((n : Int)).toNat = n by omega, show ((z : Int)).toNat = z by omega] at S
    have hl33 : 33 ≤ b.size := by have := HLEN.out; have := HL.out; have := H21.out; omega
    have sl := sl_to b 33 33 rfl (by omega)
    have ee : (b.extract 0 33).data.toList = b.data.toList.take 33 := by rw [extract_data]; simp
    by_cases hq : b.data.toList.take 33 = frL (stL n z)
    rotate_left
    · have q : ((bytesT (frL (stL n z))).toList != (b.extract 0 33).toList) = true := by
        have := txt_ne (x := bytesT (frL (stL n z))) (y := b.extract 0 33) (by rw [ee, bytesT_toList]; exact fun e => hq e.symm)
        simp [bne, this]
      have q' : ((bytesT (frL (stL n z))).toList == (b.extract 0 33).toList) = false := txt_ne (by rw [ee, bytesT_toList]; exact fun e => hq e.symm)
      have hB : Hid (∀ n z, ¬ Begins b.data.toList n z) := fun n' z' h => by
        obtain ⟨e1, e2⟩ := HBN.out n' z' h
        obtain rfl : n = n' := by omega
        obtain rfl : z = z' := by omega
        exact hq h.2.2.2
      generalize b.extract 0 33 = c at *
      generalize bytesT (frL (stL n z)) = Z at *
      clear hv hq ee
      go_wp2_with (go_at_call 9; refine (S.out _).mono ?_; rintro e w2 ⟨rfl, t2⟩; (have T2 := hid (T.out.trans t2 (by simp))); obtain ⟨⟨r0, r1, r2, r3, r4⟩, s0, s1, s2, s3, s4⟩ := five (touch_blk0 t2 R.out))
      refine bodyPost_ret (v := .tuple #[ScanV 0 0 (.slice none 0 0) 0 false, .int .i64 6]) (by simp [results, Try.results16, go_sem, ScanV, r0, r1, r2, r3, r4]) rfl ⟨.inr ⟨hB.out, rfl⟩, touch5 T2.out (.inr (Nat.le_refl _)) _ _ _ _ _⟩
    have q : ((bytesT (frL (stL n z))).toList != (b.extract 0 33).toList) = false := by
      have := txt_same (x := bytesT (frL (stL n z))) (y := b.extract 0 33) (by rw [ee, bytesT_toList]; exact hq.symm)
      simp [bne, this]
    have q' : ((bytesT (frL (stL n z))).toList == (b.extract 0 33).toList) = true := txt_same (by rw [ee, bytesT_toList]; exact hq.symm)
    have HB : Hid (Begins b.data.toList n z) := hid ⟨by omega, by omega, by omega, hq⟩
    have hn : n ≤ 999999 := by omega
    generalize b.extract 0 33 = c at *
    generalize bytesT (frL (stL n z)) = Z at *
    clear hv hq ee
    go_wp2_with (go_at_call 9; refine (S.out _).mono ?_; rintro e w2 ⟨rfl, t2⟩; (have T2 := hid (T.out.trans t2 (by simp))); (have X2 := hid (touch_blk0 t2 X.out)); (have R2 := hid (touch_blk0 t2 R.out)))
    have HN := hid hn
    have FIN := hid (fun (k : Nat) (w : World) (hk : k ≤ 1000000000) => show Calls Try.prog 13 #[.int .i64 n, .int .i64 k] w fun e w' => e = .returned (.tuple #[.string (bytesT (frL (finL n k))), .int .i64 0]) ∧ Touch [] w w' by
      have h := refFinish_any n k w (by omega)
      unfold FinishV at h
      rw [if_neg (by have := HN.out; omega), show ((n : Int)).toNat = n by omega, show ((k : Int)).toNat = k by omega] at h
      exact h)
    clear S sl z0 z1 z2 z3 z4 y0 y1 y2 y3 y4 hl33 q q' t2 hn X R T
    obtain ⟨i0, hi, hz0, hz1, hz2⟩ := info_parts Try.infoStr
    go_loopw [5] (fun nv wr => ∃ (lv : Value) (g : Nat) (L : List (List UInt8)), Rk b.data.toList w wr xb n z lv g L) (fun _ wr => measureR xb b.size wr)
    case atStart => exact ⟨.slice none 0 0, 33, [], X2.out, R2.out, ⟨rfl, .inl ⟨rfl, rfl⟩⟩, T2.out, by simp, by have := HLEN.out; have := H21.out; omega, by simp, by omega⟩
    case round =>
      obtain ⟨lv, g, L, hM⟩ := hrel
      have M := hid hM
      clear hM
      obtain ⟨y, c, rfl, _⟩ := own_form M.out.o
      obtain ⟨⟨z0, z1, z2, z3, z4⟩, y0, y1, y2, y3, y4⟩ := five M.out.x
      have hgb : g ≤ b.size := by have := M.out.le; have := HL.out; omega
      have hgI : (g : Int) ≤ b.size := by omega
      have hg0 : (0 : Int) ≤ g := by omega
      have hLI : L.length ≤ 1000000000 := by have := M.out.ge; have := HS.out; omega
      have sl := sl_from b g (g : Int) rfl hgb
      have e0 : (b.extract g b.size).data.toList = b.data.toList.drop g := by rw [extract_data]; exact List.take_of_length_le (by rw [List.length_drop]; have := HL.out; omega)
      have s0 : (b.extract g b.size).size ≤ 1000000000 := by rw [← list_len, e0, List.length_drop]; have := HS.out; have := HL.out; omega
      have F := hid (fun w => refFirst_any (b.extract g b.size) w s0)
      unfold FirstV at F
      rw [e0] at F
      generalize b.extract g b.size = X at *
      clear e0 s0
      by_cases he : (firstOf (b.data.toList.drop g)).2.2 = 0
      rotate_left
      · have q : ((firstOf (b.data.toList.drop g)).2.2 != 0) = true := by simpa using he
        have hd : decide ((b.data.toList.drop g).take 33 = frL (finL n L.length)) = false := decide_eq_false (fun h => he (by rw [ends_first h]))
        obtain ⟨k1, k2, k3⟩ := rk_stop (n := n) M.out.e1 M.out.e2 (rec_stop (.inl he))
        rw [hd] at k2 k3
        have K := hid (And.intro k1 (And.intro k2 k3))
        generalize firstOf (b.data.toList.drop g) = V at *
        clear he hd k1 k2 k3
        go_wp2_with (go_at_call 27; refine (F.out _).mono ?_; rintro e w3 ⟨rfl, t3⟩; (have T3 := hid t3); (obtain ⟨⟨z0, z1, z2, z3, z4⟩, y0, y1, y2, y3, y4⟩ := five (touch_blk0 t3 M.out.x)); (obtain ⟨⟨r0, r1, r2, r3, r4⟩, s0, s1, s2, s3, s4⟩ := five (touch_blk0 t3 M.out.r)))
        refine bodyPost_ret (v := .tuple #[.agg #[.int .i64 n, .int .i64 z, .slice y L.length c, .int .i64 g, .bool false], .int .i64 0]) (by simp [results, Try.results16, go_sem, r0, r1, r2, r3, r4]) rfl ?_
        exact read_end HB.out K.out.1 K.out.2.1 K.out.2.2 rfl M.out.o ((T3.out.mono (G := [w.heap.size]) (by simp)).trans (touch5 (Touch.refl [w.heap.size] _) (.inl (by simp)) _ _ _ _ _) (fun x hx => .inl hx)) (by have := LT.out; simp; omega) LT.out (touch5 (M.out.t.trans T3.out (by simp)) (.inr (Nat.le_refl _)) _ _ _ _ _)
      obtain ⟨l', hbl, hl4, hR, hval, hlen⟩ := first_ok he
      rw [hR] at F
      rw [List.length_drop] at hlen
      simp only [] at F
      have HR := hid hR
      have HLN := hid hlen
      have HL4 := hid hl4
      clear he hR hbl hlen hl4 hval
      cases l' with
      | nil =>
        have hr0 : recOf (b.data.toList.drop g) = ([], 0) := rec_stop (.inr (by rw [HR.out]; simp))
        have hd : decide ((b.data.toList.drop g).take 33 = frL (finL n L.length)) = false := decide_eq_false (fun h => by
          have := ends_first h
          rw [HR.out] at this
          cases congrArg Prod.fst this)
        obtain ⟨k1, k2, k3⟩ := rk_stop (n := n) M.out.e1 M.out.e2 hr0
        rw [hd] at k2 k3
        have K := hid (And.intro k1 (And.intro k2 k3))
        have q : (bytesT []).toList.isEmpty = true := by rw [ByteArray.toList_eq, bytesT_toList]; rfl
        generalize bytesT [] = x0 at *
        clear hd k1 k2 k3 hr0
        go_wp2_with (go_at_call 27; refine (F.out _).mono ?_; rintro e w3 ⟨rfl, t3⟩; (have T3 := hid t3); (obtain ⟨⟨z0, z1, z2, z3, z4⟩, y0, y1, y2, y3, y4⟩ := five (touch_blk0 t3 M.out.x)); (obtain ⟨⟨r0, r1, r2, r3, r4⟩, s0, s1, s2, s3, s4⟩ := five (touch_blk0 t3 M.out.r)))
        refine bodyPost_ret (v := .tuple #[.agg #[.int .i64 n, .int .i64 z, .slice y L.length c, .int .i64 g, .bool false], .int .i64 0]) (by simp [results, Try.results16, go_sem, r0, r1, r2, r3, r4]) rfl ?_
        exact read_end HB.out K.out.1 K.out.2.1 K.out.2.2 rfl M.out.o ((T3.out.mono (G := [w.heap.size]) (by simp)).trans (touch5 (Touch.refl [w.heap.size] _) (.inl (by simp)) _ _ _ _ _) (fun x hx => .inl hx)) (by have := LT.out; simp; omega) LT.out (touch5 (M.out.t.trans T3.out (by simp)) (.inr (Nat.le_refl _)) _ _ _ _ _)
      | cons c0 t0 =>
        have qe : (bytesT (c0 :: t0)).toList.isEmpty = false := by rw [ByteArray.toList_eq, bytesT_toList]; rfl
        obtain ⟨k, hk⟩ : ∃ k, k = (c0 :: t0).length + 12 := ⟨_, rfl⟩
        rw [← hk] at F HR HLN
        have hgk : g + k ≤ b.size := by have := HLN.out; have := HL.out; omega
        have sl2 := sl_both b g (g + k) (g : Int) ((g : Int) + (k : Int)) rfl (by omega) (by omega) hgk
        have e2 : (b.extract g (g + k)).data.toList = (b.data.toList.drop g).take k := by rw [extract_data, show g + k - g = k by omega]
        have FN := hid (fun w => FIN.out L.length w hLI)
        have hki : (g : Int) + (k : Int) ≤ b.size := by omega
        have hk0 : (0 : Int) ≤ k := by omega
        have hbd : (g : Int) + (k : Int) ≤ 9223372036854775807 := by have := HS.out; omega
        have HK := hid hk
        have hk13 : 13 ≤ k := by rw [hk]; simp
        clear hk
        by_cases hend : (b.data.toList.drop g).take k = frL (finL n L.length)
        · have hk33 : k = 33 := by
            have e := congrArg List.length hend
            rw [frFin_len, List.length_take] at e
            have := HLN.out
            rw [List.length_drop] at e
            omega
          subst hk33
          have hwr : wrap64 ((g : Int) + 33) = (g : Int) + 33 := by unfold wrap64; omega
          have sl2 := sl_both b g (g + 33) (g : Int) ((g : Int) + 33) rfl (by omega) (by omega) hgk
          obtain ⟨k1, k2, k3⟩ := rk_stop (n := n) M.out.e1 M.out.e2 (ends_rec hend)
          rw [decide_eq_true hend] at k2 k3
          simp only [if_true] at k3
          have K := hid (And.intro k1 (And.intro k2 k3))
          have q : ((b.extract g (g + 33)).toList == (bytesT (frL (finL n L.length))).toList) = true := txt_same (by rw [e2, bytesT_toList]; exact hend)
          generalize b.extract g (g + 33) = X3 at *
          generalize bytesT (frL (finL n L.length)) = ZF at *
          generalize bytesT (c0 :: t0) = x0 at *
          clear e2 hend k1 k2 k3
          go_upto_region 14 with (first
            | (go_at_call 27; refine (F.out _).mono ?_; rintro e w3 ⟨rfl, t3⟩; (have T3 := hid t3); (obtain ⟨⟨z0, z1, z2, z3, z4⟩, y0, y1, y2, y3, y4⟩ := five (touch_blk0 t3 M.out.x)))
            | (go_at_call 13; refine (FN.out _).mono ?_; rintro e w4 ⟨rfl, t4⟩; (have T4 := hid (T3.out.trans t4 (by simp))); (obtain ⟨⟨z0, z1, z2, z3, z4⟩, y0, y1, y2, y3, y4⟩ := five (touch_blk0 T4.out M.out.x))))
          have Z5 := hid (touch_blk0 T4.out M.out.x)
          have Y5 := hid (touch_blk0 T4.out M.out.r)
          have Z6 : Hid (((w4.setCell ⟨xb, 3, none⟩ (.int .i64 ((g : Int) + 33))).setCell ⟨xb, 4, none⟩ (.bool true)).heap[xb]? = some (.cells #[.int .i64 n, .int .i64 z, .slice y L.length c, .int .i64 ((g : Int) + 33), .bool true] 39 (0, 0))) := hid (by rw [heap_set (heap_set Z5.out _) _]; rfl)
          have Y6 : Hid (((w4.setCell ⟨xb, 3, none⟩ (.int .i64 ((g : Int) + 33))).setCell ⟨xb, 4, none⟩ (.bool true)).heap[w.heap.size]? = some (.cells #[.int .i64 0, .int .i64 0, .slice none 0 0, .int .i64 0, .bool false] 39 (0, 0))) := hid (by rw [heap_set_other _ (by have := LT.out; simp; omega), heap_set_other _ (by have := LT.out; simp; omega)]; exact Y5.out)
          have T6 : Hid (Touch [] w ((w4.setCell ⟨xb, 3, none⟩ (.int .i64 ((g : Int) + 33))).setCell ⟨xb, 4, none⟩ (.bool true))) := hid (((M.out.t.trans T4.out (by simp)).setCell (.inr (Nat.le_of_lt LT.out)) _).setCell (.inr (Nat.le_of_lt LT.out)) _)
          have TW6 : Hid (Touch [xb] wr ((w4.setCell ⟨xb, 3, none⟩ (.int .i64 ((g : Int) + 33))).setCell ⟨xb, 4, none⟩ (.bool true))) := hid (((T4.out.mono (G := [xb]) (by simp)).setCell (.inl (by simp)) _).setCell (.inl (by simp)) _)
          generalize (w4.setCell ⟨xb, 3, none⟩ (.int .i64 ((g : Int) + 33))).setCell ⟨xb, 4, none⟩ (.bool true) = W6 at *
          clear z0 z1 z2 z3 z4 y0 y1 y2 y3 y4 Z5 Y5
          obtain ⟨⟨z0, z1, z2, z3, z4⟩, y0, y1, y2, y3, y4⟩ := five Z6.out
          obtain ⟨⟨r0, r1, r2, r3, r4⟩, s0, s1, s2, s3, s4⟩ := five Y6.out
          go_wp2
          refine bodyPost_ret (v := .tuple #[.agg #[.int .i64 n, .int .i64 z, .slice y L.length c, .int .i64 ((g : Int) + 33), .bool true], .int .i64 0]) (by simp [results, Try.results16, go_sem, r0, r1, r2, r3, r4]) rfl ?_
          exact read_end (g := g + 33) HB.out K.out.1 K.out.2.1 K.out.2.2 rfl M.out.o ((TW6.out.mono (G := [xb, w.heap.size]) (fun x hx => .inl (by simp at hx; simp [hx]))).trans (touch5 (Touch.refl [w.heap.size] _) (.inl (by simp)) _ _ _ _ _) (fun x hx => .inl (by simp at hx; simp [hx]))) (fun f hf => by have := LT.out; simp at hf; omega) LT.out (touch5 T6.out (.inr (Nat.le_refl _)) _ _ _ _ _)
        have hwr : wrap64 ((g : Int) + (k : Int)) = (g : Int) + (k : Int) := by unfold wrap64; omega
        have q : ((b.extract g (g + k)).toList == (bytesT (frL (finL n L.length))).toList) = false := txt_ne (by rw [e2, bytesT_toList]; exact hend)
        have hsz : (bytesT (c0 :: t0)).size = t0.length + 1 := by rw [bytesT_size]; rfl
        have hix : ∀ w, (Instr.index 9 (.string (bytesT (c0 :: t0))) (.int .i64 0)).run Try.prog w = .ok (.int .u8 (c0.toNat : Int)) w := fun w => by
          rw [run_index_string w 9 (bytesT (c0 :: t0)) .i64 0 (by kernel_rfl), dif_pos ⟨by omega, by omega⟩]
          rfl
        by_cases hc : c0 = 1
        rotate_left
        · have hr0 : recOf (b.data.toList.drop g) = ([], 0) := rec_stop (.inr (by rw [HR.out]; simpa using hc))
          have hd : decide ((b.data.toList.drop g).take 33 = frL (finL n L.length)) = false := decide_eq_false (fun h => by
            have h5 := ends_first h
            rw [HR.out] at h5
            have : k = 33 := congrArg (fun x => x.2.1) h5
            subst this
            exact hend h)
          obtain ⟨k1, k2, k3⟩ := rk_stop (n := n) M.out.e1 M.out.e2 hr0
          rw [hd] at k2 k3
          have K := hid (And.intro k1 (And.intro k2 k3))
          have qc : ((c0.toNat : Int) != 1) = true := by
            simp only [bne_iff_ne, ne_eq]
            intro h
            exact hc (UInt8.toNat_inj.1 (by rw [show (1 : UInt8).toNat = 1 from rfl]; omega))
          generalize b.extract g (g + k) = X3 at *
          generalize bytesT (frL (finL n L.length)) = ZF at *
          generalize bytesT (c0 :: t0) = x0 at *
          generalize (c0.toNat : Int) = cI at *
          clear e2 hend k1 k2 k3 hd hr0 hc
          go_wp2_with (first
            | (go_at_call 27; refine (F.out _).mono ?_; rintro e w3 ⟨rfl, t3⟩; (have T3 := hid t3); (obtain ⟨⟨z0, z1, z2, z3, z4⟩, y0, y1, y2, y3, y4⟩ := five (touch_blk0 t3 M.out.x)))
            | (go_at_call 13; refine (FN.out _).mono ?_; rintro e w4 ⟨rfl, t4⟩; (have T4 := hid (T3.out.trans t4 (by simp))); (obtain ⟨⟨z0, z1, z2, z3, z4⟩, y0, y1, y2, y3, y4⟩ := five (touch_blk0 T4.out M.out.x)); (obtain ⟨⟨r0, r1, r2, r3, r4⟩, s0, s1, s2, s3, s4⟩ := five (touch_blk0 T4.out M.out.r))))
          refine bodyPost_ret (v := .tuple #[.agg #[.int .i64 n, .int .i64 z, .slice y L.length c, .int .i64 g, .bool false], .int .i64 0]) (by simp [results, Try.results16, go_sem, r0, r1, r2, r3, r4]) rfl ?_
          exact read_end HB.out K.out.1 K.out.2.1 K.out.2.2 rfl M.out.o ((T4.out.mono (G := [w.heap.size]) (by simp)).trans (touch5 (Touch.refl [w.heap.size] _) (.inl (by simp)) _ _ _ _ _) (fun x hx => .inl hx)) (by have := LT.out; simp; omega) LT.out (touch5 (M.out.t.trans T4.out (by simp)) (.inr (Nat.le_refl _)) _ _ _ _ _)
        subst hc
        have sl3 := sl_from (bytesT (1 :: t0)) 1 1 rfl (by omega)
        have ex3 : (bytesT (1 :: t0)).extract 1 (bytesT (1 :: t0)).size = bytesT t0 := str_eq (by rw [extract_data, bytesT_toList]; exact List.take_of_length_le (by simp; omega))
        rw [ex3] at sl3
        have hix1 : ∀ w, (Instr.index 9 (.string (bytesT (1 :: t0))) (.int .i64 0)).run Try.prog w = .ok (.int .u8 1) w := hix
        generalize b.extract g (g + k) = X3 at *
        generalize bytesT (frL (finL n L.length)) = ZF at *
        generalize bytesT (1 :: t0) = x0 at *
        clear e2 hend hix ex3
        go_upto_region 17 with (first
          | (go_at_call 27; refine (F.out _).mono ?_; rintro e w3 ⟨rfl, t3⟩; (have T3 := hid t3); (obtain ⟨⟨z0, z1, z2, z3, z4⟩, y0, y1, y2, y3, y4⟩ := five (touch_blk0 t3 M.out.x)))
          | (go_at_call 13; refine (FN.out _).mono ?_; rintro e w4 ⟨rfl, t4⟩; (have T4 := hid (T3.out.trans t4 (by simp))); (obtain ⟨⟨z0, z1, z2, z3, z4⟩, y0, y1, y2, y3, y4⟩ := five (touch_blk0 T4.out M.out.x))))
        have OW4 := hid (ownsS_same M.out.o T4.out)
        have X4 := hid (touch_blk0 T4.out M.out.x)
        have R4 := hid (touch_blk0 T4.out M.out.r)
        have hxlt := hid (lt_of_block X4.out)
        have hrlt := hid (lt_of_block R4.out)
        have hown4 := hid (ownsS_blk OW4.out)
        have zA : (w4.alloc (.cells #[.string (bytesT t0)] 9)).cell? ⟨xb, 2, none⟩ = some (.slice y L.length c) := cell_of (touch_blk0 ((Touch.refl [] w4).alloc (.cells #[.string (bytesT t0)] 9)) X4.out) 2
        go_region_law ((refine step_append_lies _ rfl (.tmp 98) (.tmp 101) 37 rfl (xb + 1) tStr i0 (.string ⟨#[]⟩) 1 16 Try.underlying37 hi hz0 hz1 hz2 rfl (by decide) (.slice y L.length c) L.length (txtCells L) (by simp [Act.eval]) ((OW4.out.alloc _).drew) ⟨w4.heap.size, 0, none⟩ 1 1 [.string (bytesT t0)] (by simp [Act.eval]) rfl (World.news_of_block (cs := #[.string (bytesT t0)]) (t := tStr) (fr := (0, 0)) (heap_alloc_new w4 _)) (by intro u hu; simp at hu; subst hu; rfl) (by decide) (by unfold maxLen; omega) (by omega) (by have := hxlt.out; simp; omega) (w4.heap.size + 1) (by simp) ?_); (intro gg cap w5 hown hgrow hat hlt5); (have X5 := hid ((hgrow.block xb (by have := hxlt.out; simp; omega) (fun e => by have := hown4.out xb e.symm; omega)).trans (touch_blk0 (((Touch.refl [] w4).alloc (.cells #[.string (bytesT t0)] tStr)).drewN 1) X4.out))); (have R5 := hid ((hgrow.block w.heap.size (by have := hrlt.out; simp; omega) (fun e => by have := hown4.out _ e.symm; have := LT.out; omega)).trans (touch_blk0 (((Touch.refl [] w4).alloc (.cells #[.string (bytesT t0)] tStr)).drewN 1) R4.out))); (have T5 := hid ((((M.out.t.trans T4.out (by simp)).alloc (.cells #[.string (bytesT t0)] tStr)).drewN 1).grown hgrow (fun k hk => .inr (by have := hown4.out k hk; have := LT.out; omega)))); (have O5 := hid hown); (obtain ⟨⟨z0, z1, z2, z3, z4⟩, y0, y1, y2, y3, y4⟩ := five X5.out))
        all_goals
          have hX7 : ((w5.setCell ⟨xb, 2, none⟩ (.slice (some ⟨gg, 0, none⟩) (L.length + 1) cap)).setCell ⟨xb, 3, none⟩ (.int .i64 ((g : Int) + (k : Int)))).heap[xb]? = some (.cells #[.int .i64 n, .int .i64 z, .slice (some ⟨gg, 0, none⟩) (L.length + 1) cap, .int .i64 ((g + k : Nat) : Int), .bool false] tRSc (0, 0)) := by rw [heap_set (heap_set X5.out _) _, Int.natCast_add]; rfl
          have X7 := hid hX7
          clear hX7
          go_wp2
          go_roundw
          case rel => exact ⟨_, g + k, L ++ [t0], rk_next M.out LT.out HR.out X7.out R5.out T5.out O5.out hk13 (by have := HL.out; omega)⟩
          case measure => rw [measure_of X7.out, measure_of M.out.x]; omega
end Go.Proofs.Ytmaainnfflapiaa
