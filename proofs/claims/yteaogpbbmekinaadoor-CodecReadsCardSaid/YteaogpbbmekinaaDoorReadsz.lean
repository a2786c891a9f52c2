/- The walk of CodecReads, both readers made empty. -/
import Derived.Test.YteaogpbbmekinaaDoorReads
namespace Go.Proofs.YteaogpbbmekinaaDoor
open Go.RowKit Go.Lib

set_option maxRecDepth 100000 in
set_option maxHeartbeats 4000000 in
theorem reads_loop_z (en : Bool) (b0 : ByteArray) (b off cap : Nat) (ops : List OpD) (w : World) (htab : Tab w) (hb : (b0.size : Int) ≤ 6000) (hlight : decide (IsLight ops) = true) 
    (hL : Hid (∀ w1, Touch [] w w1 → Calls Tryd.prog 13 #[.slice (some ⟨b, off, none⟩) ops.length cap] w1 fun e w' => e = .returned (.bool true) ∧ w1 = w'))
    (hc : ∀ i (h : i < ops.length), w.cell? ⟨b, off + i * 4, none⟩ = some (.int .i64 ops[i].kind) ∧ w.cell? ⟨b, off + i * 4 + 1, none⟩ = some (.int .i64 ops[i].n)) :
    Calls Tryd.prog 4 #[.string b0, .bool true, .slice (some ⟨b, off, none⟩) ops.length cap, .bool en] w fun e w' => e = .returned (.bool true) ∧ Touch [] w w' := by
  have C0 := hid (alive_true w htab)
  have CL := hid (hL.out w (Touch.refl _ _))
  have Hc := hid hc; have Hb : Hid (b0.size ≤ 6000) := by unfold Hid; omega
  have hlen60 := (of_decide_eq_true hlight).1
  clear hc htab hlight hL
  go_enter Tryd.func4, Tryd.ntmps4
  go_wp2_with (first | (go_at_call 13; refine CL.out.mono ?_; rintro e w1 ⟨rfl, rfl⟩) | (go_at_call 14; refine C0.out.mono ?_; rintro e w1 ⟨rfl, a1⟩))
  have A1 := hid a1; clear a1
  have C1 := hid (newIn_any b0 w1)
  go_wp2_with (go_at_call 29; refine C1.out.mono ?_; rintro e w2 ⟨rfl, b1, b2⟩)
  have s1 : (w2.alloc (.cells #[.string b0, .int .i64 0] tRIn)).heap.size = w2.heap.size + 1 := alloc_size1 _ _
  have s2 : ((w2.alloc (.cells #[.string b0, .int .i64 0] tRIn)).alloc (.cells #[.string ⟨#[]⟩, .int .i64 0] tIn)).heap.size = w2.heap.size + 1 + 1 := by rw [alloc_size1, alloc_size1]
  have g1 := heap_alloc_new (w2.alloc (.cells #[.string b0, .int .i64 0] tRIn)) (.cells #[.string ⟨#[]⟩, .int .i64 0] tIn)
  have g2 := heap_alloc_new ((w2.alloc (.cells #[.string b0, .int .i64 0] tRIn)).alloc (.cells #[.string ⟨#[]⟩, .int .i64 0] tIn)) (.cells #[.string ⟨#[]⟩, .int .i64 0] tRIn)
  rw [s1] at g1; rw [s2] at g2
  have hsz : Hid (w.heap.size ≤ w2.heap.size + 1 ∧ w2.heap.size + 1 < w2.heap.size + 1 + 1) := ⟨by have := A1.out.size; have := b1.lt; omega, by omega⟩
  have hB0 : Hid (Both (w2.heap.size + 1) (w2.heap.size + 1 + 1) ([], 0) w (((w2.alloc (.cells #[.string b0, .int .i64 0] tRIn)).alloc (.cells #[.string ⟨#[]⟩, .int .i64 0] tIn)).alloc (.cells #[.string ⟨#[]⟩, .int .i64 0] tRIn))) := by
    refine ⟨(show InIs _ _ _ from ⟨g1, fun h => absurd rfl h⟩).keep ((Touch.refl [] _).alloc _) (by simp), ⟨⟨#[]⟩, g2, fun _ => rfl⟩, (((A1.out.trans b2 (by simp)).alloc _).alloc _).alloc _, by simp⟩
  clear s1 s2 g1 g2
  generalize hI : w2.heap.size + 1 = I at *
  have HI := hid hI; clear hI b1 b2
  generalize hX : I + 1 = X at *
  have HX := hid hX; clear hX
  go_loopw [11] (fun kv wr => ∃ (k : Nat) (st : List UInt8 × Int), k ≤ ops.length ∧ kv = .int .i64 k ∧ Both I X st w wr) (fun kv _ => ops.length - (RowKit.intOf kv).toNat)
  case atStart => exact ⟨0, _, Nat.zero_le _, rfl, hB0.out⟩
  case round =>
    obtain ⟨k, st, hk, rfl, hB⟩ := hrel
    have HB := hid hB; clear hB
    by_cases hlt : k < ops.length
    · obtain ⟨hc1, hc2⟩ := ops_cells Hc.out HB.out.2.2.1 k hlt
      generalize ops[k].kind = K at *
      generalize ops[k].n = N at *
      have hl2 : decide (k < ops.length) = true := by simpa using hlt
      have hkI : (k : Int) < ops.length := by omega
      go_upto_block 2 with fail
      go_cut [12] (fun gv wx => gv = .bool true ∧ ∃ st', Both I X st' w wx)
      case first =>
        have hIX : Hid (I ≠ X) := by unfold Hid; have := hsz.out.2; omega
        have hI0 : Hid (w.heap.size ≤ I) := hsz.out.1
        have hX0 : Hid (w.heap.size ≤ X) := by unfold Hid; have := hsz.out; omega
        have hle : st.1.length ≤ 100000 := Nat.le_trans HB.out.2.2.2 (by decide)
        by_cases k1 : K = 1
        · subst k1
          have C := hid (inU8_st I st wr HB.out.1)
          have D := hid fun (w1 : World) (h : InPost I (iTake st 1).2 wr w1) => rNum_st X st 1 w1 (HB.out.mid hIX.out h) (by decide) hle
          have E := hid fun (w1 w2 : World) (h1 : InPost I (iTake st 1).2 wr w1) (h2 : RPost X (iTake st 1).2 w1 w2) => HB.out.step hI0.out hX0.out hIX.out h1 h2 (iTake_le st 1).2
          have hv : val (iTake st 1).1 < 256 := Nat.lt_of_lt_of_le (val_lt _) (Nat.le_trans (Nat.pow_le_pow_right (by decide) (iTake_len st 1)) (by decide))
          clear hle
          generalize iTake st 1 = r at *
          generalize val r.1 = v at *
          have hv1 : (v : Int) < 256 := by omega
          have hv2 : (0 : Int) ≤ v := by omega
          clear hv
          go_wp2_with (first | (go_at_call 30; refine C.out.mono ?_; rintro e w3 ⟨rfl, hp⟩) | (go_at_call 31; refine (D.out _ hp).mono ?_; rintro e w4 ⟨rfl, hq⟩))
          go_meet
          exact ⟨by simp, _, E.out _ _ hp hq⟩
        · have n1 : (K == 1) = false := by simpa using k1
          clear k1
          by_cases k2 : K = 2
          · subst k2
            clear n1
            have C := hid (inU32_st I st wr HB.out.1)
            have D := hid fun (w1 : World) (h : InPost I (iTake st 4).2 wr w1) => rNum_st X st 4 w1 (HB.out.mid hIX.out h) (by decide) hle
            have E := hid fun (w1 w2 : World) (h1 : InPost I (iTake st 4).2 wr w1) (h2 : RPost X (iTake st 4).2 w1 w2) => HB.out.step hI0.out hX0.out hIX.out h1 h2 (iTake_le st 4).2
            have hv : val (iTake st 4).1 < 4294967296 := Nat.lt_of_lt_of_le (val_lt _) (Nat.le_trans (Nat.pow_le_pow_right (by decide) (iTake_len st 4)) (by decide))
            clear hle
            generalize iTake st 4 = r at *
            generalize val r.1 = v at *
            have hv1 : (v : Int) < 4294967296 := by omega
            have hv2 : (0 : Int) ≤ v := by omega
            clear hv
            go_wp2_with (first | (go_at_call 32; refine C.out.mono ?_; rintro e w3 ⟨rfl, hp⟩) | (go_at_call 31; refine (D.out _ hp).mono ?_; rintro e w4 ⟨rfl, hq⟩))
            go_meet
            exact ⟨by simp, _, E.out _ _ hp hq⟩
          · have n2 : (K == 2) = false := by simpa using k2
            clear k2
            by_cases k3 : K = 3
            · subst k3
              clear n1 n2
              have C := hid (inU64_st I st wr HB.out.1)
              have D := hid fun (w1 : World) (h : InPost I (iTake st 8).2 wr w1) => rNum_st X st 8 w1 (HB.out.mid hIX.out h) (by decide) hle
              have E := hid fun (w1 w2 : World) (h1 : InPost I (iTake st 8).2 wr w1) (h2 : RPost X (iTake st 8).2 w1 w2) => HB.out.step hI0.out hX0.out hIX.out h1 h2 (iTake_le st 8).2
              clear hle
              generalize iTake st 8 = r at *
              generalize val r.1 = v at *
              go_wp2_with (first | (go_at_call 33; refine C.out.mono ?_; rintro e w3 ⟨rfl, hp⟩) | (go_at_call 31; refine (D.out _ hp).mono ?_; rintro e w4 ⟨rfl, hq⟩))
              go_meet
              exact ⟨by simp, _, E.out _ _ hp hq⟩
            · have n3 : (K == 3) = false := by simpa using k3
              clear k3
              by_cases k4 : K = 4
              · subst k4
                clear n1 n2 n3
                have C := hid (inI64_st I st wr HB.out.1)
                have D := hid fun (w1 : World) (h : InPost I (iTake st 8).2 wr w1) => rNum_st X st 8 w1 (HB.out.mid hIX.out h) (by decide) hle
                have E := hid fun (w1 w2 : World) (h1 : InPost I (iTake st 8).2 wr w1) (h2 : RPost X (iTake st 8).2 w1 w2) => HB.out.step hI0.out hX0.out hIX.out h1 h2 (iTake_le st 8).2
                clear hle
                generalize iTake st 8 = r at *
                generalize val r.1 = v at *
                go_wp2_with (first | (go_at_call 34; refine C.out.mono ?_; rintro e w3 ⟨rfl, hp⟩) | (go_at_call 31; refine (D.out _ hp).mono ?_; rintro e w4 ⟨rfl, hq⟩))
                go_meet
                exact ⟨by simp, _, E.out _ _ hp hq⟩
              · have n4 : (K == 4) = false := by simpa using k4
                clear k4
                by_cases k5 : K = 5
                · subst k5
                  clear n1 n2 n3 n4
                  have C := hid (inF64_st I st wr HB.out.1)
                  have D := hid fun (w1 : World) (h : InPost I (iTake st 8).2 wr w1) => rFloat_st X st w1 (HB.out.mid hIX.out h) hle
                  have E := hid fun (w1 w2 : World) (h1 : InPost I (iTake st 8).2 wr w1) (h2 : RPost X (iTake st 8).2 w1 w2) => HB.out.step hI0.out hX0.out hIX.out h1 h2 (iTake_le st 8).2
                  clear hle
                  generalize iTake st 8 = r at *
                  generalize val r.1 = v at *
                  go_wp2_with (first | (go_at_call 36; refine C.out.mono ?_; rintro e w3 ⟨rfl, hp⟩) | (go_at_call 37; refine (D.out _ hp).mono ?_; rintro e w4 ⟨rfl, hq⟩) | (go_at_call 35; refine (same_any _ _ _).mono ?_; rintro e w5 ⟨rfl, rfl⟩))
                  go_meet
                  exact ⟨by simp, _, E.out _ _ hp hq⟩
                · have n5 : (K == 5) = false := by simpa using k5
                  clear k5
                  have C := hid fun (wx : World) (h : Touch [] wr wx) => inText_st I st N wx (HB.out.1.keep h (by simp)) (Nat.le_trans HB.out.2.2.2 (by decide))
                  have D := hid fun (wx w1 wy : World) (h : Touch [] wr wx) (h1 : InPost I (iText st N).2 wx w1) (h2 : Touch [] w1 wy) => rText_st X st N wy (((HB.out.2.1.keep h (by simp)).keep h1.2 (by simp; exact fun e => hIX.out e.symm)).keep h2 (by simp)) hle
                  have S := hid fun (wx w1 : World) (h1 : InPost I (iText st N).2 wx w1) (h : Touch [] wr wx) => show w1.cell? ⟨b, off + k * 4 + 1, none⟩ = some (.int .i64 N) from by
                    have hbl : b < w.heap.size := World.block_lt_of_cell? w _ (Hc.out k hlt).2
                    have hbI : b ≠ I := by have := hI0.out; omega
                    rw [World.cell?_of_block (w := wx) (a := ⟨b, off + k * 4 + 1, none⟩) (h1.2.block b (by have := HB.out.2.2.1.size; have := h.size; omega) (by simpa using hbI))]
                    rw [World.cell?_of_block (w := wr) (a := ⟨b, off + k * 4 + 1, none⟩) (h.block b (by have := HB.out.2.2.1.size; omega) (by simp))]
                    exact hc2
                  have S2 := hid fun (wx w1 wy w2 : World) (h3 : RPost X (iText st N).2 wy w2) (h1 : InPost I (iText st N).2 wx w1) (h : Touch [] wr wx) (h2 : Touch [] w1 wy) => show w2.cell? ⟨b, off + k * 4 + 1, none⟩ = some (.int .i64 N) from by
                    have hbl : b < w.heap.size := World.block_lt_of_cell? w _ (Hc.out k hlt).2
                    have hbX : b ≠ X := by have := hX0.out; omega
                    have hs1 := HB.out.2.2.1.size; have hs2 := h.size; have hs3 := h1.2.size; have hs4 := h2.size
                    rw [World.cell?_of_block (w := wy) (a := ⟨b, off + k * 4 + 1, none⟩) (h3.2.block b (by omega) (by simpa using hbX))]
                    rw [World.cell?_of_block (w := w1) (a := ⟨b, off + k * 4 + 1, none⟩) (h2.block b (by omega) (by simp))]
                    exact S.out _ _ h1 h
                  have E := hid fun (wx w1 wy w2 : World) (h : Touch [] wr wx) (h1 : InPost I (iText st N).2 wx w1) (h2 : Touch [] w1 wy) (h3 : RPost X (iText st N).2 wy w2) => HB.out.step hI0.out hX0.out hIX.out (st' := (iText st N).2) ((h1.on h2).up (h.mono (by simp))) h3 (iText_le st N)
                  clear hle hc1
                  go_upto_region 13 with fail
                  go_region_held3 (fun w' => w'.cell? ⟨b, off + k * 4 + 1, none⟩ = some (.int .i64 N)) (first | go_keep | (refine S2.out _ _ _ _ hq hp ?_ ?_ <;> (first | exact Touch.refl _ _ | exact drewN_touch _ _ | exact (Touch.refl _ _).drew)) | exact S.out _ _ hp (by first | exact drewN_touch _ _ | exact Touch.refl _ _ | exact (Touch.refl _ _).drew | exact ((Touch.refl _ _).drew).drew) | (exact S.out _ _ (by assumption) (by first | exact drewN_touch _ _ | exact Touch.refl _ _ | exact (Touch.refl _ _).drew | exact ((Touch.refl _ _).drew).drew)))
                    (first | (go_at_call 38; refine (C.out _ ?_).mono ?_; (first | exact Touch.refl _ _ | exact drewN_touch _ _ | exact (Touch.refl _ _).drew); rintro e w3 ⟨rfl, hp⟩) | (go_at_call 39; refine (D.out _ _ _ ?_ hp ?_).mono ?_; (first | exact Touch.refl _ _ | exact drewN_touch _ _ | exact (Touch.refl _ _).drew); (first | exact Touch.refl _ _ | exact drewN_touch _ _ | exact (Touch.refl _ _).drew); rintro e w4 ⟨rfl, hq⟩))
                  all_goals go_wp2
                  all_goals go_meet
                  all_goals (refine ⟨by simp, _, E.out _ _ _ _ ?_ hp ?_ hq⟩ <;> (first | exact Touch.refl _ _ | exact drewN_touch _ _ | exact (Touch.refl _ _).drew))
      case rest =>
        obtain ⟨rfl, st', hB'⟩ := hcut
        obtain ⟨B, t0, t1, t2⟩ := hB'.tail
        have HB' := hid hB'; clear hB' HB hc1 hc2
        rcases t2 with ⟨e1, e2⟩ | ⟨e1, e2⟩
        · have q1 : (st'.2 != st'.2) = false := by simp
          have q2 : ((st'.1.length : Int) != 0) = false := by rw [e2]; rfl
          clear e2
          go_upto_region 27 with fail
          go_quiet (first | (go_at_call 40; exact err_q _ st' _ HB'.out.1 _) | (go_at_call 41; exact left_q _ st' _ HB'.out.1 _))
          go_wp2
          exact ⟨⟨k + 1, st', by omega, by go_num, HB'.out.drewN _⟩, by simp [RowKit.intOf]; omega⟩
        · have q1 : (st'.2 != st'.2) = false := by simp
          have q2 : ((st'.1.length : Int) != B.size) = false := by rw [e2]; simp
          clear e2
          go_upto_region 27 with fail
          go_quiet (first | (go_at_call 40; exact err_q _ st' _ HB'.out.1 _) | (go_at_call 41; exact left_q _ st' _ HB'.out.1 _))
          go_wp2
          exact ⟨⟨k + 1, st', by omega, by go_num, HB'.out.drewN _⟩, by simp [RowKit.intOf]; omega⟩
    · have hl2 : decide (k < ops.length) = false := by simpa using hlt
      clear hk hlt hlen60 Hc
      have hIX : Hid (I ≠ X) := by unfold Hid; have := hsz.out.2; omega
      have hI0 : Hid (w.heap.size ≤ I) := hsz.out.1
      have hX0 : Hid (w.heap.size ≤ X) := by unfold Hid; have := hsz.out; omega
      cases en
      · go_upto_region 29 with fail
        go_quiet (fail)
        go_wp2
        go_ret
        exact ⟨rfl, (HB.out.drewN _).2.2.1⟩
      · have C := hid fun (wx : World) (h : Touch [] wr wx) => end_st I st wx (HB.out.1.keep h (by simp))
        have D := hid fun (wx w1 wy : World) (h : Touch [] wr wx) (h1 : InPost I (iEnd st) wx w1) (h2 : Touch [] w1 wy) => rEnd_st X st wy (((HB.out.2.1.keep h (by simp)).keep h1.2 (by simp; exact fun e => hIX.out e.symm)).keep h2 (by simp)) HB.out.1.2
        have E := hid fun (wx w1 wy w2 : World) (h : Touch [] wr wx) (h1 : InPost I (iEnd st) wx w1) (h2 : Touch [] w1 wy) (h3 : RPost X (iEnd st) wy w2) => HB.out.step hI0.out hX0.out hIX.out (st' := iEnd st) ((h1.on h2).up (h.mono (by simp))) h3 (iEnd_le st)
        have G := hid fun (wx w1 wy w2 wz : World) (h : Touch [] wr wx) (h1 : InPost I (iEnd st) wx w1) (h2 : Touch [] w1 wy) (h3 : RPost X (iEnd st) wy w2) (h4 : Touch [] w2 wz) => err_st I (iEnd st) wz ((E.out wx w1 wy w2 h h1 h2 h3).1.keep h4 (by simp))
        have q1 : ((iEnd st).2 == (iEnd st).2) = true := by simp
        generalize iEnd st = st2 at *
        go_upto_region 29 with fail
        go_region_with (first | (go_at_call 42; refine (C.out _ ?_).mono ?_; (first | exact Touch.refl _ _ | exact drewN_touch _ _ | exact (Touch.refl _ _).drew); rintro e w3 ⟨rfl, hp⟩) | (go_at_call 43; refine (D.out _ _ _ ?_ hp ?_).mono ?_; (first | exact Touch.refl _ _ | exact drewN_touch _ _ | exact (Touch.refl _ _).drew); (first | exact Touch.refl _ _ | exact drewN_touch _ _ | exact (Touch.refl _ _).drew); rintro e w4 ⟨rfl, hq⟩; obtain ⟨BX, hBX, _⟩ := hq.1; have cX := cell_of hBX 1) | (go_at_call 40; refine (G.out _ _ _ _ _ ?_ hp ?_ hq ?_).mono ?_; (first | exact Touch.refl _ _ | exact drewN_touch _ _ | exact (Touch.refl _ _).drew); (first | exact Touch.refl _ _ | exact drewN_touch _ _ | exact (Touch.refl _ _).drew); (first | exact Touch.refl _ _ | exact drewN_touch _ _ | exact (Touch.refl _ _).drew); rintro e w5 ⟨rfl, rfl⟩))
        all_goals go_wp2
        all_goals go_ret
        all_goals (refine ⟨by first | rfl | (go_simp; done) | (simp [go_sem]; done), ?_⟩; first | exact (E.out _ _ _ _ (by first | exact Touch.refl _ _ | exact drewN_touch _ _ | exact (Touch.refl _ _).drew) hp (by first | exact Touch.refl _ _ | exact drewN_touch _ _ | exact (Touch.refl _ _).drew) hq).2.2.1 | exact ((E.out _ _ _ _ (by first | exact Touch.refl _ _ | exact drewN_touch _ _ | exact (Touch.refl _ _).drew) hp (by first | exact Touch.refl _ _ | exact drewN_touch _ _ | exact (Touch.refl _ _).drew) hq).2.2.1).drew | exact ((E.out _ _ _ _ (by first | exact Touch.refl _ _ | exact drewN_touch _ _ | exact (Touch.refl _ _).drew) hp (by first | exact Touch.refl _ _ | exact drewN_touch _ _ | exact (Touch.refl _ _).drew) hq).2.2.1).drewN _)
end Go.Proofs.YteaogpbbmekinaaDoor
