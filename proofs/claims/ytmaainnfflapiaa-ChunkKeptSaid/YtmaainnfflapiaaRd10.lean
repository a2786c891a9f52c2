/- chunk's Read. -/
import Derived.Test.YtmaainnfflapiaaRec10
namespace Go.Proofs.Ytmaainnfflapiaa
open Go.RowKit Go.Lib
set_option maxRecDepth 100000

/-- What Read tells. -/
def ReadV (l : List UInt8) (w : World) (e : Ending) (w' : World) : Prop :=
  ((∃ n z v, Begins l n z ∧ e = .returned (.tuple #[ScanV n z v (goodAt n (l.drop 33)) (doneAt n (l.drop 33)), .int .i64 0]) ∧ w'.ownsRow w.heap.size tStr 1 v (recOf (l.drop 33)).1.length (txtCells (recOf (l.drop 33)).1)) ∨
   ((∀ n z, ¬ Begins l n z) ∧ e = .returned (.tuple #[ScanV 0 0 (.slice none 0 0) 0 false, .int .i64 6]))) ∧ Touch [] w w'

theorem own_form {w : World} {base n : Nat} {v : Value} {xs : List Value} (h : w.ownsRow base tStr 1 v n xs) : ∃ y c, v = .slice y n c ∧ ∀ g, v.ownBlock = some g → base ≤ g := by
  have h2 := ownsS_blk h
  obtain ⟨_, ⟨rfl, rfl⟩ | ⟨g', cap, cur, rfl, h3, _, _⟩⟩ := h
  · exact ⟨none, 0, rfl, h2⟩
  · exact ⟨_, cap, rfl, h2⟩
theorem own_keep {F : List Nat} {w w' : World} {base base' n : Nat} {v : Value} {xs : List Value} (h : w.ownsRow base tStr 1 v n xs) (t : Touch F w w') (hF : ∀ f ∈ F, f < base) (hb : base' ≤ base) : w'.ownsRow base' tStr 1 v n xs := by
  obtain ⟨h1, h2 | ⟨g, cap, cur, hv, h3, h4, h5⟩⟩ := h
  · exact ⟨h1, .inl h2⟩
  · exact ⟨h1, .inr ⟨g, cap, cur, hv, Nat.le_trans hb h3, touch_blk0 t h4 (fun hm => by have := hF g hm; omega), h5⟩⟩
theorem pre_done (l : List UInt8) (n k : Nat) : Lib.hasPrefix l (frL (finL n k)) = decide (l.take 33 = frL (finL n k)) := by
  unfold Lib.hasPrefix
  rw [Bool.eq_iff_iff, List.isPrefixOf_iff_prefix, decide_eq_true_iff]
  constructor
  · rintro ⟨r, rfl⟩
    exact List.take_left' (frFin_len n k)
  · intro h
    rw [← h]
    exact List.take_prefix 33 l
set_option maxHeartbeats 2000000 in
theorem read_any (b : ByteArray) (w : World) (hs : b.size ≤ 1000000000) : Calls Try.prog 17 #[.string b] w (ReadV b.data.toList w) := by
  have hl := list_len b
  have B := hid (fun w => begun_any b w hs)
  have Z1 := hid (heap_alloc_new w (.cells zScan tScan))
  have S1 : Hid (Touch [] w (w.alloc (.cells zScan tScan))) := (Touch.refl _ _).alloc _
  unfold zScan at Z1 S1
  simp only [tScan] at Z1 S1
  go_enter Try.func17, Try.ntmps17
  go_wp2_with fail
  generalize hW1 : w.alloc (.cells #[.int .i64 0, .int .i64 0, .slice none 0 0, .int .i64 0, .bool false] 43) = W1 at *
  have HS : Hid (w.heap.size ≤ W1.heap.size) := S1.out.size
  clear hW1
  refine (B.out W1).mono ?_
  rintro e w1 ⟨hb, t1⟩
  unfold BegunV ScanV at hb
  rcases hb with ⟨n, z, hb, rfl⟩ | ⟨hb, rfl⟩
  rotate_left
  · obtain ⟨⟨z0, z1, z2, z3, z4⟩, y0, y1, y2, y3, y4⟩ := five (touch_blk0 (t1.alloc (.cells #[.int .i64 0, .int .i64 0, .slice none 0 0, .int .i64 0, .bool false] 43)) Z1.out)
    clear hl hs B
    go_wp2
    refine bodyPost_ret (v := .tuple #[ScanV 0 0 (.slice none 0 0) 0 false, .int .i64 6]) (by simp [results, Try.results17, go_sem, ScanV, z0, z1, z2, z3, z4]) rfl ⟨.inr ⟨hb, rfl⟩, touch5 ((S1.out.trans t1 (by simp)).alloc _) (.inr (Nat.le_refl _)) _ _ _ _ _⟩
  · have Z2 := hid (heap_alloc_new w1 (.cells #[.int .i64 n, .int .i64 z, .slice none 0 0, .int .i64 33, .bool false] tScan))
    have HB := hid hb
    have hlen := begins_len hb
    have h33 : (33 : Int) ≤ b.size := by omega
    have e0 : (b.extract 33 b.size).data.toList = b.data.toList.drop 33 := by rw [extract_data]; exact List.take_of_length_le (by rw [List.length_drop]; omega)
    have s0 : (b.extract 33 b.size).size ≤ 1000000000 := by rw [← list_len, e0, List.length_drop]; omega
    have R := hid (fun w => records_any (b.extract 33 b.size) w s0)
    unfold RecPost at R
    rw [e0] at R
    have hrl := recOf_len (b.data.toList.drop 33)
    rw [List.length_drop] at hrl
    have HG := hid (good_len (n := n) hlen)
    clear hb
    go_wp2_with fail
    refine (R.out _).mono ?_
    rintro e w2 ⟨v, rfl, ho, t2⟩
    obtain ⟨y, c, rfl, _⟩ := own_form ho
    have Z3 := hid (touch_blk0 t2 Z2.out)
    have Y2 := hid (touch_blk0 ((t1.alloc (.cells #[.int .i64 n, .int .i64 z, .slice none 0 0, .int .i64 33, .bool false] 43)).trans t2 (by simp)) Z1.out)
    have hn : n ≤ 999999 := HB.out.1
    have T3 := hid (((S1.out.trans t1 (by simp)).alloc (.cells #[.int .i64 n, .int .i64 z, .slice none 0 0, .int .i64 33, .bool false] 43)).trans t2 (by simp))
    have HLT : Hid (w.heap.size < w1.heap.size) := hid (lt_of_block (touch_blk0 t1 Z1.out))
    have hab : 33 + (recOf (b.data.toList.drop 33)).2 ≤ b.size := by omega
    have F := hid (fun w => finish_any n (recOf (b.data.toList.drop 33)).1.length w (by omega))
    unfold FinishV at F
    rw [if_neg (by omega), show ((n : Int)).toNat = n by omega, show (((recOf (b.data.toList.drop 33)).1.length : Int)).toNat = (recOf (b.data.toList.drop 33)).1.length by omega] at F
    have HP := hid (fun (x : ByteArray) (w : World) => Try.strings_HasPrefix x (bytesT (frL (finL n (recOf (b.data.toList.drop 33)).1.length))) w)
    have ep : (b.extract (33 + (recOf (b.data.toList.drop 33)).2) b.size).data.toList = (b.data.toList.drop 33).drop (recOf (b.data.toList.drop 33)).2 := by rw [extract_data, List.drop_drop]; exact List.take_of_length_le (by rw [List.length_drop]; omega)
    have HPX := hid (fun (w : World) => HP.out (b.extract (33 + (recOf (b.data.toList.drop 33)).2) b.size) w)
    rw [ep, bytesT_toList, pre_done] at HPX
    have sl := sl_from b (33 + (recOf (b.data.toList.drop 33)).2) ((33 : Int) + ((recOf (b.data.toList.drop 33)).2 : Int)) (by omega) hab
    have fz : (bytesT (frL (finL n (recOf (b.data.toList.drop 33)).1.length))).size = 33 := by rw [bytesT_size, frFin_len]
    have hfit : doneAt n (b.data.toList.drop 33) = true → 33 + (recOf (b.data.toList.drop 33)).2 + 33 ≤ b.size := fun h => by
      have := HG.out
      unfold goodAt at this
      rw [if_pos h] at this
      omega
    have HO : Hid (w2.ownsRow (w1.heap.size + 1) tStr 1 (.slice y (recOf (b.data.toList.drop 33)).1.length c) (recOf (b.data.toList.drop 33)).1.length (txtCells (recOf (b.data.toList.drop 33)).1)) := by
      have : (w1.alloc (.cells #[.int .i64 n, .int .i64 z, .slice none 0 0, .int .i64 33, .bool false] 43)).heap.size = w1.heap.size + 1 := by simp
      rw [this] at ho
      exact hid ho
    rw [show decide (((b.data.toList.drop 33).drop (recOf (b.data.toList.drop 33)).2).take 33 = frL (finL n (recOf (b.data.toList.drop 33)).1.length)) = doneAt n (b.data.toList.drop 33) from rfl] at HPX
    have hgd : goodAt n (b.data.toList.drop 33) = 33 + (recOf (b.data.toList.drop 33)).2 + (if doneAt n (b.data.toList.drop 33) then 33 else 0) := rfl
    have FIN : Hid (∀ e w', e = Ending.returned (.tuple #[.agg #[.int .i64 n, .int .i64 z, .slice y (recOf (b.data.toList.drop 33)).1.length c, .int .i64 ((33 + (recOf (b.data.toList.drop 33)).2 + (if doneAt n (b.data.toList.drop 33) then 33 else 0) : Nat) : Int), .bool (doneAt n (b.data.toList.drop 33))], .int .i64 0]) → w'.ownsRow w.heap.size tStr 1 (.slice y (recOf (b.data.toList.drop 33)).1.length c) (recOf (b.data.toList.drop 33)).1.length (txtCells (recOf (b.data.toList.drop 33)).1) → Touch [] w w' → ReadV b.data.toList w e w') := fun e w' h1 h2 h3 => ⟨.inl ⟨n, z, _, HB.out, by rw [h1, hgd]; rfl, h2⟩, h3⟩
    generalize bytesT (frL (finL n (recOf (b.data.toList.drop 33)).1.length)) = ZF at *
    generalize txtCells (recOf (b.data.toList.drop 33)).1 = TC at *
    generalize (recOf (b.data.toList.drop 33)).1.length = LN at *
    generalize (recOf (b.data.toList.drop 33)).2 = a at *
    generalize doneAt n (b.data.toList.drop 33) = DN at *
    generalize b.extract (33 + a) b.size = X2 at *
    obtain ⟨⟨z0, z1, z2, z3, z4⟩, y0, y1, y2, y3, y4⟩ := five Z3.out
    have ha : a ≤ 1000000000 := by omega
    clear Z2 ho t2 R e0 s0 hrl HG hgd ep hs hl HP
    go_wp2_with fail
    have Z4 : Hid (((w2.setCell ⟨w1.heap.size, 2, none⟩ (.slice y LN c)).setCell ⟨w1.heap.size, 3, none⟩ (.int .i64 (33 + (a : Int)))).heap[w1.heap.size]? = some (.cells #[.int .i64 n, .int .i64 z, .slice y LN c, .int .i64 (33 + (a : Int)), .bool false] 43 (0, 0))) := hid (by rw [heap_set (heap_set Z3.out _) _]; rfl)
    have Y4 : Hid (((w2.setCell ⟨w1.heap.size, 2, none⟩ (.slice y LN c)).setCell ⟨w1.heap.size, 3, none⟩ (.int .i64 (33 + (a : Int)))).heap[w.heap.size]? = some (.cells #[.int .i64 0, .int .i64 0, .slice none 0 0, .int .i64 0, .bool false] 43 (0, 0))) := hid (by rw [heap_set_other _ (by have := HLT.out; simp; omega), heap_set_other _ (by have := HLT.out; simp; omega)]; exact Y2.out)
    have T4 : Hid (Touch [] w ((w2.setCell ⟨w1.heap.size, 2, none⟩ (.slice y LN c)).setCell ⟨w1.heap.size, 3, none⟩ (.int .i64 (33 + (a : Int))))) := hid ((T3.out.setCell (.inr (Nat.le_of_lt HLT.out)) _).setCell (.inr (Nat.le_of_lt HLT.out)) _)
    have TW : Hid (Touch [w1.heap.size] w2 ((w2.setCell ⟨w1.heap.size, 2, none⟩ (.slice y LN c)).setCell ⟨w1.heap.size, 3, none⟩ (.int .i64 (33 + (a : Int))))) := hid (((Touch.refl _ _).setCell (.inl (by simp)) _).setCell (.inl (by simp)) _)
    generalize (w2.setCell ⟨w1.heap.size, 2, none⟩ (.slice y LN c)).setCell ⟨w1.heap.size, 3, none⟩ (.int .i64 (33 + (a : Int))) = W3 at *
    clear z0 z1 z2 z3 z4 y0 y1 y2 y3 y4 Z3 Y2
    refine (F.out _).mono ?_
    rintro e w4 ⟨rfl, t4⟩
    obtain ⟨⟨z0, z1, z2, z3, z4⟩, y0, y1, y2, y3, y4⟩ := five (touch_blk0 t4 Z4.out)
    obtain ⟨⟨r0, r1, r2, r3, r4⟩, s0, s1, s2, s3, s4⟩ := five (touch_blk0 t4 Y4.out)
    have ZB := hid (touch_blk0 t4 Z4.out)
    have YB := hid (touch_blk0 t4 Y4.out)
    have TW4 := hid (TW.out.trans t4 (by simp))
    have T5 := hid (T4.out.trans t4 (by simp))
    generalize w1.heap.size = sb at *
    clear TW T4 t4 F Z4 Y4 T3 t1
    cases DN with
    | false =>
      go_wp2_with (go_at_call 31; refine (HPX.out _).mono ?_; rintro e w5 ⟨rfl, rfl⟩)
      refine bodyPost_ret (v := .tuple #[.agg #[.int .i64 n, .int .i64 z, .slice y LN c, .int .i64 (33 + (a : Int)), .bool false], .int .i64 0]) (by simp [results, Try.results17, go_sem, r0, r1, r2, r3, r4]) rfl ?_
      refine FIN.out _ _ (by simp) (own_keep HO.out ((TW4.out.mono (G := [sb, w.heap.size]) (fun x hx => .inl (by simp at hx; simp [hx]))).trans (touch5 (Touch.refl [w.heap.size] _) (.inl (by simp)) _ _ _ _ _) ?_) ?_ ?_) (touch5 T5.out (.inr (Nat.le_refl _)) _ _ _ _ _)
      · intro x hx; simp at hx; subst hx; exact .inl (by simp)
      · intro f hf; simp at hf; have := HLT.out; omega
      · have := HLT.out; omega
    | true =>
      have hfit2 : (33 : Int) + a + 33 ≤ b.size := by have := hfit rfl; omega
      go_upto_region 9 with (go_at_call 31; refine (HPX.out _).mono ?_; rintro e w5 ⟨rfl, rfl⟩)
      have Z6 : Hid (((w5.setCell ⟨sb, 3, none⟩ (.int .i64 (33 + (a : Int) + 33))).setCell ⟨sb, 4, none⟩ (.bool true)).heap[sb]? = some (.cells #[.int .i64 n, .int .i64 z, .slice y LN c, .int .i64 (33 + (a : Int) + 33), .bool true] 43 (0, 0))) := hid (by rw [heap_set (heap_set ZB.out _) _]; rfl)
      have Y6 : Hid (((w5.setCell ⟨sb, 3, none⟩ (.int .i64 (33 + (a : Int) + 33))).setCell ⟨sb, 4, none⟩ (.bool true)).heap[w.heap.size]? = some (.cells #[.int .i64 0, .int .i64 0, .slice none 0 0, .int .i64 0, .bool false] 43 (0, 0))) := hid (by rw [heap_set_other _ (by have := HLT.out; simp; omega), heap_set_other _ (by have := HLT.out; simp; omega)]; exact YB.out)
      have T6 : Hid (Touch [] w ((w5.setCell ⟨sb, 3, none⟩ (.int .i64 (33 + (a : Int) + 33))).setCell ⟨sb, 4, none⟩ (.bool true))) := hid ((T5.out.setCell (.inr (Nat.le_of_lt HLT.out)) _).setCell (.inr (Nat.le_of_lt HLT.out)) _)
      have TW6 : Hid (Touch [sb] w2 ((w5.setCell ⟨sb, 3, none⟩ (.int .i64 (33 + (a : Int) + 33))).setCell ⟨sb, 4, none⟩ (.bool true))) := hid ((TW4.out.setCell (.inl (by simp)) _).setCell (.inl (by simp)) _)
      generalize (w5.setCell ⟨sb, 3, none⟩ (.int .i64 (33 + (a : Int) + 33))).setCell ⟨sb, 4, none⟩ (.bool true) = W6 at *
      clear z0 z1 z2 z3 z4 y0 y1 y2 y3 y4 r0 r1 r2 r3 r4 s0 s1 s2 s3 s4 TW4 T5
      obtain ⟨⟨z0, z1, z2, z3, z4⟩, y0, y1, y2, y3, y4⟩ := five Z6.out
      obtain ⟨⟨r0, r1, r2, r3, r4⟩, s0, s1, s2, s3, s4⟩ := five Y6.out
      go_wp2
      refine bodyPost_ret (v := .tuple #[.agg #[.int .i64 n, .int .i64 z, .slice y LN c, .int .i64 (33 + (a : Int) + 33), .bool true], .int .i64 0]) (by simp [results, Try.results17, go_sem, r0, r1, r2, r3, r4]) rfl ?_
      refine FIN.out _ _ (by simp) (own_keep HO.out ((TW6.out.mono (G := [sb, w.heap.size]) (fun x hx => .inl (by simp at hx; simp [hx]))).trans (touch5 (Touch.refl [w.heap.size] _) (.inl (by simp)) _ _ _ _ _) ?_) ?_ ?_) (touch5 T6.out (.inr (Nat.le_refl _)) _ _ _ _ _)
      · intro x hx; simp at hx; subst hx; exact .inl (by simp)
      · intro f hf; simp at hf; have := HLT.out; omega
      · have := HLT.out; omega
end Go.Proofs.Ytmaainnfflapiaa
