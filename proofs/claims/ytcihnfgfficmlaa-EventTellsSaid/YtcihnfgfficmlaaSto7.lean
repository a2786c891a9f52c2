/- The laws' own PutStored and SameStored. -/
import Derived.Test.YtcihnfgfficmlaaPut7
import Derived.Test.YtcihnfgfficmlaaEvSame
namespace Go.Proofs.Ytcihnfgfficmlaa
open Go.RowKit Go.Lib

abbrev tSto : TypeId := 44
/-- A stored event. -/
structure StD where
  e : EvD
  stream : ByteArray
  ver : Int
  pos : Int
  time : Int
def StD.agg (s : StD) : Value := .agg #[.int .i64 s.e.id, .string s.e.typ, .string s.e.data, .float .f64 s.e.val, .string s.stream, .int .i64 s.ver, .int .i64 s.pos, .int .i64 s.time]
def validS (s : StD) : Bool := validE s.e && strm s.stream.data.toList && inGreat s.ver && inGreat s.pos && inGreat s.time
def layS (s : StD) : List UInt8 := layE s.e ++ txtB s.stream ++ be 8 (u64 s.ver) ++ be 8 (u64 s.pos) ++ be 8 (u64 s.time)
/-- What PutStored tells. -/
def putSV (s : StD) : Value := if validS s = true then .tuple #[.string ⟨(layS s).toArray⟩, .int .i64 0] else .tuple #[.string ⟨#[]⟩, .int .i64 1]
def sameS (a b : StD) : Bool := sameE a.e b.e && decide (a.stream = b.stream) && decide (a.ver = b.ver) && decide (a.pos = b.pos) && decide (a.time = b.time)

theorem touch_blk {F : List Nat} {w w' : World} {b : Nat} {cs : Array Value} {ty : TypeId} {fz : Nat × Nat} (h : Touch F w w') (hb : w.heap[b]? = some (.cells cs ty fz)) (hn : b ∉ F) : w'.heap[b]? = some (.cells cs ty fz) := (h.block b (lt_of_block hb) hn).trans hb
theorem RoPost.blk {x b : Nat} {G : List Nat} {st : List UInt8 × Int} {w w' : World} {cs : Array Value} {ty : TypeId} {fz : Nat × Nat} (h : RoPost x G st w w') (hb : w.heap[b]? = some (.cells cs ty fz)) (hn : b ∉ G) : w'.heap[b]? = some (.cells cs ty fz) := by
  obtain ⟨_, _, ht, _⟩ := h
  exact touch_blk ht hb hn

set_option maxRecDepth 100000 in
set_option maxHeartbeats 4000000 in
theorem refPutS_bad (s : StD) (w : World) (h : validE s.e = false ∨ (validE s.e = true ∧ strm s.stream.data.toList = false) ∨ (validE s.e = true ∧ strm s.stream.data.toList = true ∧ s.ver < 0) ∨ (validE s.e = true ∧ strm s.stream.data.toList = true ∧ 0 ≤ s.ver ∧ 1099511627776 < s.ver) ∨
      (validE s.e = true ∧ strm s.stream.data.toList = true ∧ 0 ≤ s.ver ∧ s.ver ≤ 1099511627776 ∧ s.pos < 0) ∨ (validE s.e = true ∧ strm s.stream.data.toList = true ∧ 0 ≤ s.ver ∧ s.ver ≤ 1099511627776 ∧ 0 ≤ s.pos ∧ 1099511627776 < s.pos) ∨
      (validE s.e = true ∧ strm s.stream.data.toList = true ∧ 0 ≤ s.ver ∧ s.ver ≤ 1099511627776 ∧ 0 ≤ s.pos ∧ s.pos ≤ 1099511627776 ∧ s.time < 0) ∨ (validE s.e = true ∧ strm s.stream.data.toList = true ∧ 0 ≤ s.ver ∧ s.ver ≤ 1099511627776 ∧ 0 ≤ s.pos ∧ s.pos ≤ 1099511627776 ∧ 0 ≤ s.time ∧ 1099511627776 < s.time)) :
    Calls Try.prog 28 #[s.agg] w fun r w' => r = .returned (.tuple #[.string ⟨#[]⟩, .int .i64 1]) ∧ Touch [] w w' := by
  have C := hid (fun w => refValid_any s.e w)
  have D := hid (fun w => refStm_any s.stream w)
  unfold EvD.agg at C
  unfold StD.agg
  generalize validE s.e = g at *
  generalize strm s.stream.data.toList = k at *
  obtain ⟨⟨a0, a1, a2, a3⟩, a4, a5, a6, a7⟩ := s
  simp only [] at h C D ⊢
  rcases h with rfl | ⟨rfl, rfl⟩ | ⟨rfl, rfl, h⟩ | ⟨rfl, rfl, h1, h⟩ | ⟨rfl, rfl, h1, h2, h⟩ | ⟨rfl, rfl, h1, h2, h3, h⟩ | ⟨rfl, rfl, h1, h2, h3, h4, h⟩ | ⟨rfl, rfl, h1, h2, h3, h4, h5, h⟩
  all_goals
    go_enter Try.func28, Try.ntmps28
    go_wp2_with (first | (go_at_call 13; refine (C.out _).mono ?_; rintro e w2 ⟨rfl, t2⟩; have d4 := t2.cell (cell_of (heap_alloc_new w _) 4); have d5 := t2.cell (cell_of (heap_alloc_new w _) 5); have d6 := t2.cell (cell_of (heap_alloc_new w _) 6); have d7 := t2.cell (cell_of (heap_alloc_new w _) 7); simp at d4 d5 d6 d7) | (go_at_call 35; refine (D.out _).mono ?_; rintro e w3 ⟨rfl, rfl⟩))
    go_ret2
    exact ⟨rfl, ((Touch.refl _ _).alloc _).trans t2 (by simp)⟩

set_option maxRecDepth 100000 in
set_option maxHeartbeats 4000000 in
theorem refPutS_good (s : StD) (w : World) (hv : validE s.e = true) (hs : strm s.stream.data.toList = true) (h1 : 0 ≤ s.ver) (h2 : s.ver ≤ 1099511627776) (h3 : 0 ≤ s.pos) (h4 : s.pos ≤ 1099511627776) (h5 : 0 ≤ s.time) (h6 : s.time ≤ 1099511627776) :
    Calls Try.prog 28 #[s.agg] w fun r w' => r = .returned (.tuple #[.string ⟨(layS s).toArray⟩, .int .i64 0]) ∧ Touch [] w w' := by
  have C := hid (fun w => refValid_any s.e w)
  have D := hid (fun w => refStm_any s.stream w)
  have hty := strm_size (valid_iff.1 hv).2.1
  have hda := (valid_iff.1 hv).2.2
  have hst := strm_size hs
  rw [hv] at C
  rw [hs] at D
  have LE := hid (fun x G bs w (h : RoutIs w x G (bs, 0)) (hb : bs.length ≤ 100000) => refLay_st x G bs s.e w h hb hty hda)
  have hll := layE_len s.e
  unfold EvD.agg at C LE
  unfold StD.agg layS
  generalize layE s.e = BE at *
  obtain ⟨⟨a0, a1, a2, a3⟩, a4, a5, a6, a7⟩ := s
  simp only [] at hty hda hst C D LE hll h1 h2 h3 h4 h5 h6 ⊢
  have hbe : BE.length ≤ 1000 := by omega
  obtain ⟨W1, hW1⟩ : ∃ W1, W1 = w.alloc (.cells #[.int .i64 a0, .string a1, .string a2, .float .f64 a3, .string a4, .int .i64 a5, .int .i64 a6, .int .i64 a7] tSto) := ⟨_, rfl⟩
  have T1 : Hid (Touch [] w W1) := by rw [hW1]; exact hid ((Touch.refl [] w).alloc _)
  have S1 : Hid (w.heap.size < W1.heap.size) := by rw [hW1]; exact hid (by simp)
  have B : Hid (W1.heap[w.heap.size]? = some (.cells #[.int .i64 a0, .string a1, .string a2, .float .f64 a3, .string a4, .int .i64 a5, .int .i64 a6, .int .i64 a7] tSto (0, 0))) := by rw [hW1]; exact hid (heap_alloc_new w _)
  have u5 := u64_wrap a5
  have u6 := u64_wrap a6
  have u7 := u64_wrap a7
  have HST := hid hst
  have HBE := hid hbe
  clear hv hs hty hda hst hll hbe
  go_enter Try.func28, Try.ntmps28
  go_upto_region 1 with fail
  simp only [tSto] at hW1
  rw [← hW1]
  clear hW1
  have c0 := cell_of B.out 0; have c1 := cell_of B.out 1; have c2 := cell_of B.out 2; have c3 := cell_of B.out 3
  have q5 : decide (a5 < 0) = false := by simp; omega
  have q6 : decide (a6 < 0) = false := by simp; omega
  have q7 : decide (a7 < 0) = false := by simp; omega
  have r5 : decide (1099511627776 < a5) = false := by simp; omega
  have r6 : decide (1099511627776 < a6) = false := by simp; omega
  have r7 : decide (1099511627776 < a7) = false := by simp; omega
  clear h1 h2 h3 h4 h5 h6
  go_upto_region 3 with (first | (go_at_call 13; refine (C.out _).mono ?_; rintro e w2 ⟨rfl, t2⟩; have d4 := t2.cell (cell_of B.out 4); have d5 := t2.cell (cell_of B.out 5); have d6 := t2.cell (cell_of B.out 6); have d7 := t2.cell (cell_of B.out 7); simp at d4 d5 d6 d7) | (go_at_call 35; refine (D.out _).mono ?_; rintro e w3 ⟨rfl, rfl⟩))
  clear c0 c1 c2 c3 d4 d5 d6 d7 q5 q6 q7 r5 r6 r7 C D
  have A1 := hid t2
  have S2 := hid (Nat.lt_of_lt_of_le S1.out A1.out.size)
  have R0 := hid (rout_new w2)
  obtain ⟨W3, hW3⟩ : ∃ W3, W3 = w2.alloc (.cells #[.slice none 0 0, .int .i64 0] tROut) := ⟨_, rfl⟩
  have TA : Hid (Touch [] W1 W3) := by rw [hW3]; exact hid (A1.out.alloc _)
  have B3 := hid (touch_blk TA.out B.out (by simp))
  have T3 := hid (T1.out.trans TA.out (by simp))
  rw [← hW3] at R0
  have P0 := hid (RoPost.refl R0.out)
  have HB : Hid (w.heap.size ∉ [w2.heap.size]) := by have := S2.out; unfold Hid; simp; omega
  clear R0 t2 S1 B
  go_upto_region 4 with fail
  simp only [tROut] at hW3
  rw [← hW3]
  clear hW3
  obtain ⟨G', g1, g2, g3⟩ := P0.out
  have Q := hid (LE.out w2.heap.size G' [] W3 g1 (by simp))
  have G2 := hid g2
  have G3 := hid g3
  have c0 := cell_of B3.out 0; have c1 := cell_of B3.out 1; have c2 := cell_of B3.out 2; have c3 := cell_of B3.out 3
  clear g1 g2 g3 LE
  go_wp2_with fail
  refine Q.out.mono ?_
  rintro e v1 ⟨rfl, qq⟩
  have P1 := hid (qq.up G2.out G3.out)
  clear qq c0 c1 c2 c3 Q G2 G3
  have c4 := cell_of (P1.out.blk B3.out HB.out) 4
  go_wp2_with fail
  refine (roText_up a4 P1.out (by simp only [List.length_append, List.length_nil]; have := HBE.out; omega)).mono ?_
  rintro e v2 ⟨rfl, qq⟩
  rw [pText_txt _ _ (by have := HST.out; omega)] at qq
  have P2 := hid qq
  clear qq c4
  have c5 := cell_of (P2.out.blk B3.out HB.out) 5
  go_wp2_with fail
  refine (roNum_up 8 (u64 a5) P2.out (by decide) (by decide) (by simp only [List.length_append, txtB_len, List.length_nil]; have := HBE.out; have := HST.out; omega)).mono ?_
  rintro e v3 ⟨rfl, qq⟩
  rw [pPut_ok] at qq
  have P3 := hid qq
  clear qq c5
  have c6 := cell_of (P3.out.blk B3.out HB.out) 6
  go_wp2_with fail
  refine (roNum_up 8 (u64 a6) P3.out (by decide) (by decide) (by simp only [List.length_append, be_length, txtB_len, List.length_nil]; have := HBE.out; have := HST.out; omega)).mono ?_
  rintro e v4 ⟨rfl, qq⟩
  rw [pPut_ok] at qq
  have P4 := hid qq
  clear qq c6
  have c7 := cell_of (P4.out.blk B3.out HB.out) 7
  go_wp2_with fail
  refine (roNum_up 8 (u64 a7) P4.out (by decide) (by decide) (by simp only [List.length_append, be_length, txtB_len, List.length_nil]; have := HBE.out; have := HST.out; omega)).mono ?_
  rintro e v5 ⟨rfl, qq⟩
  rw [pPut_ok] at qq
  have P5 := hid qq
  clear qq c7
  obtain ⟨G', h1, h2, h3⟩ := P5.out
  have hd := roDone_st w2.heap.size G' _ v5 h1
  rw [pDone_ok] at hd
  have hb : [] ++ BE ++ txtB a4 ++ be 8 (u64 a5) ++ be 8 (u64 a6) ++ be 8 (u64 a7) = [] ++ BE ++ txtB a4 ++ be 8 (u64 a5) ++ be 8 (u64 a6) ++ be 8 (u64 a7) := rfl
  generalize hbs : [] ++ BE ++ txtB a4 ++ be 8 (u64 a5) ++ be 8 (u64 a6) ++ be 8 (u64 a7) = BS at hd
  rw [List.nil_append] at hbs
  have HBS := hid hbs
  have DN := hid hd
  have H2 := hid h2
  clear h1 h2 h3 hd hb hbs P1 P2 P3 P4 P5
  go_wp2_with (go_at_call 46; refine DN.out.mono ?_; rintro e v6 ⟨rfl, n, rfl⟩)
  go_ret2
  refine ⟨by rw [HBS.out]; rfl, (T3.out.trans H2.out (fun f hf => .inr ?_)).drewN n⟩
  simp at hf
  have := S2.out
  omega

theorem refPutS_any (s : StD) (w : World) : Calls Try.prog 28 #[s.agg] w fun r w' => r = .returned (putSV s) ∧ Touch [] w w' := by
  unfold putSV validS
  by_cases hv : validE s.e = true
  rotate_left
  · have hv2 : validE s.e = false := by simpa using hv
    rw [hv2, if_neg (by simp)]; exact refPutS_bad s w (.inl hv2)
  by_cases hs : strm s.stream.data.toList = true
  rotate_left
  · have hs2 : strm s.stream.data.toList = false := by simpa using hs
    rw [hs2, if_neg (by simp)]; exact refPutS_bad s w (.inr (.inl ⟨hv, hs2⟩))
  rw [hv, hs]
  by_cases a1 : s.ver < 0
  · rw [great_no (.inl a1), if_neg (by simp)]; exact refPutS_bad s w (.inr (.inr (.inl ⟨hv, hs, a1⟩)))
  by_cases a2 : 1099511627776 < s.ver
  · rw [great_no (.inr a2), if_neg (by simp)]; exact refPutS_bad s w (.inr (.inr (.inr (.inl ⟨hv, hs, by omega, a2⟩))))
  rw [great_yes (x := s.ver) (by omega) (by omega)]
  by_cases a3 : s.pos < 0
  · rw [great_no (.inl a3), if_neg (by simp)]; exact refPutS_bad s w (.inr (.inr (.inr (.inr (.inl ⟨hv, hs, by omega, by omega, a3⟩)))))
  by_cases a4 : 1099511627776 < s.pos
  · rw [great_no (.inr a4), if_neg (by simp)]; exact refPutS_bad s w (.inr (.inr (.inr (.inr (.inr (.inl ⟨hv, hs, by omega, by omega, by omega, a4⟩))))))
  rw [great_yes (x := s.pos) (by omega) (by omega)]
  by_cases a5 : s.time < 0
  · rw [great_no (.inl a5), if_neg (by simp)]; exact refPutS_bad s w (.inr (.inr (.inr (.inr (.inr (.inr (.inl ⟨hv, hs, by omega, by omega, by omega, by omega, a5⟩)))))))
  by_cases a6 : 1099511627776 < s.time
  · rw [great_no (.inr a6), if_neg (by simp)]; exact refPutS_bad s w (.inr (.inr (.inr (.inr (.inr (.inr (.inr ⟨hv, hs, by omega, by omega, by omega, by omega, by omega, a6⟩)))))))
  rw [great_yes (x := s.time) (by omega) (by omega)]
  rw [if_pos (by rfl)]
  exact refPutS_good s w hv hs (by omega) (by omega) (by omega) (by omega) (by omega) (by omega)

set_option maxRecDepth 100000 in
set_option maxHeartbeats 2000000 in
theorem refSameS_any (a b : StD) (w : World) : Calls Try.prog 31 #[a.agg, b.agg] w fun r w' => r = .returned (.bool (sameS a b)) ∧ Touch [] w w' := by
  have C := hid (fun w => refSameEvent_any a.e b.e w)
  unfold sameS
  unfold EvD.agg at C
  unfold StD.agg
  generalize sameE a.e b.e = g at *
  obtain ⟨⟨a0, a1, a2, a3⟩, a4, a5, a6, a7⟩ := a
  obtain ⟨⟨b0, b1, b2, b3⟩, b4, b5, b6, b7⟩ := b
  simp only [] at C ⊢
  obtain ⟨W2, hW2⟩ : ∃ W2, W2 = (w.alloc (.cells #[.int .i64 a0, .string a1, .string a2, .float .f64 a3, .string a4, .int .i64 a5, .int .i64 a6, .int .i64 a7] tSto)).alloc (.cells #[.int .i64 b0, .string b1, .string b2, .float .f64 b3, .string b4, .int .i64 b5, .int .i64 b6, .int .i64 b7] tSto) := ⟨_, rfl⟩
  have T2 : Hid (Touch [] w W2) := by rw [hW2]; exact hid (((Touch.refl [] w).alloc _).alloc _)
  have A : Hid (W2.heap[w.heap.size]? = some (.cells #[.int .i64 a0, .string a1, .string a2, .float .f64 a3, .string a4, .int .i64 a5, .int .i64 a6, .int .i64 a7] tSto (0, 0))) := by
    rw [hW2]; exact hid (touch_blk ((Touch.refl [] _).alloc _) (heap_alloc_new w _) (by simp))
  have B : Hid (W2.heap[w.heap.size + 1]? = some (.cells #[.int .i64 b0, .string b1, .string b2, .float .f64 b3, .string b4, .int .i64 b5, .int .i64 b6, .int .i64 b7] tSto (0, 0))) := by
    rw [hW2]
    have := heap_alloc_new (w.alloc (.cells #[.int .i64 a0, .string a1, .string a2, .float .f64 a3, .string a4, .int .i64 a5, .int .i64 a6, .int .i64 a7] tSto)) (.cells #[.int .i64 b0, .string b1, .string b2, .float .f64 b3, .string b4, .int .i64 b5, .int .i64 b6, .int .i64 b7] tSto)
    exact hid (by simpa using this)
  go_enter Try.func31, Try.ntmps31
  go_upto_region 1 with fail
  simp only [tSto] at hW2
  rw [← hW2]
  clear hW2
  have p0 := cell_of A.out 0; have p1 := cell_of A.out 1; have p2 := cell_of A.out 2; have p3 := cell_of A.out 3
  have q0 := cell_of B.out 0; have q1 := cell_of B.out 1; have q2 := cell_of B.out 2; have q3 := cell_of B.out 3
  by_cases h4 : a4 = b4
  · subst h4
    by_cases h5 : a5 = b5
    · subst h5
      by_cases h6 : a6 = b6
      · subst h6
        by_cases h7 : a7 = b7
        · subst h7
          cases g
          all_goals
            go_wp2_with (go_at_call 15; refine (C.out _).mono ?_; rintro e w3 ⟨rfl, t3⟩; have x4 := t3.cell (cell_of A.out 4); have x5 := t3.cell (cell_of A.out 5); have x6 := t3.cell (cell_of A.out 6); have x7 := t3.cell (cell_of A.out 7); have y4 := t3.cell (cell_of B.out 4); have y5 := t3.cell (cell_of B.out 5); have y6 := t3.cell (cell_of B.out 6); have y7 := t3.cell (cell_of B.out 7); simp at x4 x5 x6 x7 y4 y5 y6 y7)
            go_ret
            exact ⟨by simp, T2.out.trans t3 (by simp)⟩
        · have q : (a7 == b7) = false := by simpa using h7
          have HH := hid h7
          clear h7
          cases g
          all_goals
            go_wp2_with (go_at_call 15; refine (C.out _).mono ?_; rintro e w3 ⟨rfl, t3⟩; have x4 := t3.cell (cell_of A.out 4); have x5 := t3.cell (cell_of A.out 5); have x6 := t3.cell (cell_of A.out 6); have x7 := t3.cell (cell_of A.out 7); have y4 := t3.cell (cell_of B.out 4); have y5 := t3.cell (cell_of B.out 5); have y6 := t3.cell (cell_of B.out 6); have y7 := t3.cell (cell_of B.out 7); simp at x4 x5 x6 x7 y4 y5 y6 y7)
            go_ret
            exact ⟨by simp [HH.out], T2.out.trans t3 (by simp)⟩
      · have q : (a6 == b6) = false := by simpa using h6
        have HH := hid h6
        clear h6
        cases g
        all_goals
          go_wp2_with (go_at_call 15; refine (C.out _).mono ?_; rintro e w3 ⟨rfl, t3⟩; have x4 := t3.cell (cell_of A.out 4); have x5 := t3.cell (cell_of A.out 5); have x6 := t3.cell (cell_of A.out 6); have y4 := t3.cell (cell_of B.out 4); have y5 := t3.cell (cell_of B.out 5); have y6 := t3.cell (cell_of B.out 6); simp at x4 x5 x6 y4 y5 y6)
          go_ret
          exact ⟨by simp [HH.out], T2.out.trans t3 (by simp)⟩
    · have q : (a5 == b5) = false := by simpa using h5
      have HH := hid h5
      clear h5
      cases g
      all_goals
        go_wp2_with (go_at_call 15; refine (C.out _).mono ?_; rintro e w3 ⟨rfl, t3⟩; have x4 := t3.cell (cell_of A.out 4); have x5 := t3.cell (cell_of A.out 5); have y4 := t3.cell (cell_of B.out 4); have y5 := t3.cell (cell_of B.out 5); simp at x4 x5 y4 y5)
        go_ret
        exact ⟨by simp [HH.out], T2.out.trans t3 (by simp)⟩
  · have q := toList_ne h4
    have HH := hid h4
    clear h4
    cases g
    all_goals
      go_wp2_with (go_at_call 15; refine (C.out _).mono ?_; rintro e w3 ⟨rfl, t3⟩; have x4 := t3.cell (cell_of A.out 4); have y4 := t3.cell (cell_of B.out 4); simp at x4 y4)
      go_ret
      exact ⟨by simp [HH.out], T2.out.trans t3 (by simp)⟩
end Go.Proofs.Ytcihnfgfficmlaa
