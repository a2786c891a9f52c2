/- FrameKept, walked. -/
import Derived.Test.YtkkalnegojhapaaCut8
import Derived.Test.YtkkalnegojhapaaWFChanged
import Derived.Lib.MinMax
import Derived.Deep.AppendLies
namespace Go.Proofs.Ytkkalnegojhapaa
open Go.RowKit Go.Lib Go.ChangeShapes
set_option maxRecDepth 100000

abbrev tInt8 : TypeId := 3
theorem infoInt8 : (Try.prog.info? 3).map (fun i => (i.zero, i.size, i.bytes)) = some (some (.int .i64 0), 1, 8) := by kernel_rfl

def endsL (l : List ByteArray) (k : Nat) : List Value := (List.range k).map fun j => .int .i64 ((frS (l.take (j + 1))).size : Int)
theorem endsL_len (l : List ByteArray) (k : Nat) : (endsL l k).length = k := by simp [endsL]
theorem endsL_snoc (l : List ByteArray) (k : Nat) : endsL l (k + 1) = endsL l k ++ [.int .i64 ((frS (l.take (k + 1))).size : Int)] := by simp [endsL, List.range_succ]
theorem ends_of_owns {w : World} {base n : Nat} {v : Value} {l : List ByteArray} (h : w.ownsRow base tInt8 1 v n (endsL l n)) :
    ∃ y c, v = .slice y n c ∧ ∀ j, j < n → ∃ g, y = some ⟨g, 0, none⟩ ∧ w.cell? ⟨g, j, none⟩ = some (.int .i64 ((frS (l.take (j + 1))).size : Int)) := by
  have hh := h
  rcases h.2 with ⟨rfl, h0⟩ | ⟨g, cap, cur, rfl, hb, _, hc, hm, _⟩
  · rw [h0]
    exact ⟨none, 0, rfl, fun j hj => by omega⟩
  · refine ⟨some ⟨g, 0, none⟩, cap, rfl, fun j hj => ⟨g, rfl, ?_⟩⟩
    have := hh.cells (g := g) rfl j (.int .i64 ((frS (l.take (j + 1))).size : Int)) (by simp [endsL, hj])
    rw [show (⟨g, 0, none⟩ : Addr).add j = ⟨g, j, none⟩ from by unfold Addr.add; split <;> simp_all] at this
    exact this
theorem ownsI_blk {w : World} {base n : Nat} {v : Value} {xs : List Value} (h : w.ownsRow base tInt8 1 v n xs) : ∀ g, v.ownBlock = some g → base ≤ g := by
  intro g hg
  obtain ⟨_, ⟨rfl, _⟩ | ⟨g', cap, cur, rfl, h3, _, _⟩⟩ := h
  · simp [Value.ownBlock] at hg
  · simp [Value.ownBlock] at hg
    subst hg
    exact h3
theorem ownsI_same {w w' : World} {base n : Nat} {v : Value} {xs : List Value} (h : w.ownsRow base tInt8 1 v n xs) (t : Touch [] w w') : w'.ownsRow base tInt8 1 v n xs := by
  obtain ⟨h1, h2 | ⟨g, cap, cur, hv, h3, h4, h5⟩⟩ := h
  · exact ⟨h1, .inl h2⟩
  · exact ⟨h1, .inr ⟨g, cap, cur, hv, h3, touch_blk0 t h4, h5⟩⟩

set_option maxHeartbeats 4000000 in
theorem fkept_full (x : Option Addr) (c : Nat) (l : List ByteArray) (cut : Int) (w : World) (hc : TextsX w x l) (hl : l.length ≤ 9223372036854775807) (hlc : l.length ≤ c) (hi0 : cut ≤ 9223372036854775807) :
    Calls Try.prog 4 #[.slice x l.length c, .int .i64 cut] w fun e w' => e = .returned (.bool true) ∧ Touch [] w w' := by
  have HC := hid hc
  have CS := hid (fun w (h : TextsX w x l) => short_any 30 5000 x c l w hl h (by decide) (by decide) (by decide))
  clear hc hl
  go_enter Try.func4, Try.ntmps4
  go_wp2_with fail
  refine (CS.out _ HC.out).mono ?_
  rintro e w1 ⟨r, rfl, t1, hr⟩
  have T1 := hid t1
  have C0 := hid (fun w => alive8_true w)
  clear t1
  cases r with
  | false =>
    clear hr
    go_wp2_with (go_at_call 8; refine (C0.out _).mono ?_; rintro e w2 ⟨rfl, a2⟩)
    go_ret
    exact ⟨rfl, T1.out.trans a2 (by simp)⟩
  | true =>
    obtain ⟨h30, h3000⟩ := hr rfl
    have H3 := hid h3000
    clear hr h3000
    by_cases hneg : cut < 0
    · go_wp2_with (go_at_call 8; refine (C0.out _).mono ?_; rintro e w2 ⟨rfl, a2⟩)
      go_ret
      exact ⟨rfl, T1.out.trans a2 (by simp)⟩
    obtain ⟨q, rfl⟩ := Int.eq_ofNat_of_zero_le (show 0 ≤ cut by omega)
    have hq0 : (0 : Int) ≤ q := by omega
    clear hneg
    go_wp2
    obtain ⟨i0, hi, hz0, hz1, hz2⟩ := info_parts infoInt8
    go_loopw [5, 6, 7] (fun sv ev iv wr => ∃ k : Nat, k ≤ l.length ∧ iv = .int .i64 k ∧ sv = .string (frS (l.take k)) ∧ (∀ s ∈ l.take k, s.size ≤ 4000) ∧ wr.ownsRow w.heap.size tInt8 1 ev k (endsL l k) ∧ Touch [] w wr) (fun _ _ iv _ => l.length - (RowKit.intOf iv).toNat)
    case atStart => exact ⟨0, Nat.zero_le _, rfl, rfl, fun s hs => by simp at hs, ⟨rfl, .inl ⟨rfl, rfl⟩⟩, T1.out⟩
    case round =>
      obtain ⟨k, hk, rfl, rfl, h4, hown, ht⟩ := hrel
      have HT := hid ht
      have H4 := hid h4
      have HO := hid hown
      clear ht h4 hown
      by_cases hlt : k < l.length
      · obtain ⟨b, off, rfl, g1, _⟩ := HC.out k hlt
        have g2 := HT.out.cell g1
        clear g1
        have hl2 : decide (k < l.length) = true := by simpa using hlt
        have hklt : (k : Int) < l.length := by omega
        have hzz : l[k].size ≤ 5000 := by have := get_le hlt; have := H3.out; omega
        by_cases hbig : (4000 : Int) < l[k].size
        · generalize l[k] = s at *
          go_wp2_with (go_at_call 8; refine (C0.out _).mono ?_; rintro e w2 ⟨rfl, a2⟩)
          go_ret
          exact ⟨rfl, HT.out.trans a2 (by simp)⟩
        have hz : l[k].size ≤ 4000 := by omega
        have hsn := hid (frS_snoc hlt hz)
        have hfz := frS_size (l.take k)
        have hct := cat_take_le l k
        have hsz := hid (snoc_size hlt)
        obtain ⟨_, hE, hB⟩ := frB_ok (s := l[k]) hz
        have hfz2 : (frS (l.take k)).size ≤ 5360 := by rw [hfz, List.length_take]; have := H3.out; omega
        have hfb : ¬ 9223372036854775807 < (frS (l.take k)).size + (frB l[k]).size := by omega
        have CP := hid (fun w => frPut_any l[k] w (by omega))
        rw [hE] at CP
        have q1 : (((frB l[k]).size : Int) != (l[k].size : Int) + 12) = false := by rw [bne_eq_false_iff_eq]; omega
        have hzs : (l[k].size : Int) ≤ 4000 := by omega
        have hsum : Hid (((frS (l.take k)).size : Int) + ((frB l[k]).size : Int) = ((frS (l.take (k + 1))).size : Int)) := by unfold Hid; have := hsz.out; omega
        have H5 : Hid (∀ s ∈ l.take (k + 1), s.size ≤ 4000) := fun s hs => by
          rw [List.take_succ_eq_append_getElem hlt, List.mem_append, List.mem_singleton] at hs
          rcases hs with hs | rfl
          · exact H4.out s hs
          · exact hz
        clear hE hB hfz hct hfz2 hbig hzz hz
        generalize frB l[k] = X at *
        generalize l[k] = s at *
        go_wp2_with (first
          | (go_at_call 9; refine (CP.out _).mono ?_; rintro e w2 ⟨rfl, a2⟩; have g3 := a2.cell g2)
          | (at_builtin; refine wpList_append_lies _ rfl (.tmp 62) (.tmp 65) 44 rfl w.heap.size tInt8 i0 (.int .i64 0) 1 8 Try.underlying44 hi hz0 hz1 hz2 rfl (by decide) u6 k (endsL l k) (by rfl) (ownsI_same HO.out (a2.alloc _)) ⟨w2.heap.size, 0, none⟩ 1 1 [.int .i64 (((frS (l.take k)).size : Int) + (X.size : Int))] (by rfl) rfl (World.news_of_block (cs := #[.int .i64 (((frS (l.take k)).size : Int) + (X.size : Int))]) (t := tInt8) (fr := (0, 0)) (heap_alloc_new w2 _)) (by intro u hu; simp at hu; subst hu; rfl) (by decide) (by unfold maxLen; omega) (by omega) (by have := HT.out.size; have := a2.size; simp; omega) (w2.heap.size + 1) (by simp) ?_; intro g cap w4 hown hgrow hat hlt4))
        go_roundw
        case rel => exact ⟨k + 1, hlt, by go_num, by rw [← hsn.out], H5.out, by rw [endsL_snoc, ← hsum.out]; exact hown, ((HT.out.trans a2 (by simp)).alloc _).grown hgrow (fun k hk => .inr (ownsI_blk HO.out k hk))⟩
        case measure => simp [RowKit.intOf]; omega
      · obtain rfl : k = l.length := by omega
        have hl2 : decide (l.length < l.length) = false := by simp
        have h4 := H4.out
        rw [List.take_of_length_le (Nat.le_refl _)] at h4 ⊢
        have H6 := hid h4
        obtain ⟨y, c2, rfl, hends⟩ := ends_of_owns HO.out
        have HE := hid hends
        obtain ⟨k, hk1⟩ : ∃ k : Nat, (k : Int) = min (q : Int) ((frS l).size : Int) := ⟨min q (frS l).size, by omega⟩
        have hk2 : k ≤ (frS l).size := by omega
        have hmin : min (q : Int) ((frS l).size : Int) = (k : Int) := hk1.symm
        have HK := hid hk2
        clear hends hlt hk h4 hk1 hk2 H4
        go_wp2
        go_loop [11] (fun nv => ∃ n : Nat, n ≤ l.length ∧ nv = .int .i64 n ∧ (frS (l.take n)).size ≤ k) (fun nv => l.length - (RowKit.intOf nv).toNat)
        case atStart => exact ⟨0, Nat.zero_le _, rfl, Nat.zero_le _⟩
        case round =>
          obtain ⟨n, hn, rfl, hnk⟩ := hrel
          by_cases hgo : n < l.length ∧ (frS (l.take (n + 1))).size ≤ k
          · obtain ⟨hlt, hle⟩ := hgo
            obtain ⟨g, rfl, g1⟩ := HE.out n hlt
            have HLE := hid hle
            have q1 : (((frS (l.take (n + 1))).size : Int) ≤ (k : Int)) := by omega
            generalize ((frS (l.take (n + 1))).size : Int) = z at *
            have hl3 : decide (n < l.length) = true := by simpa using hlt
            have hnI : (n : Int) < l.length := by omega
            clear hle
            go_wp2
            exact ⟨⟨n + 1, hlt, by go_num, HLE.out⟩, by simp [RowKit.intOf]; omega⟩
          · have hcut := hid (frS_cut l H6.out n k hn hnk (fun h => by
              by_cases h2 : (frS (l.take (n + 1))).size ≤ k
              · exact absurd ⟨h, h2⟩ hgo
              · omega))
            have hSz : (frS l).size ≤ 1000000000 := by rw [frS_size]; have := H3.out; omega
            have hkI : (k : Int) ≤ ((frS l).size : Int) := by have := HK.out; omega
            have sl1 := sl_to (frS l) k (k : Int) rfl HK.out
            have hXz : ((frS l).extract 0 k).size ≤ 1000000000 := by rw [ByteArray.size_extract]; have := HK.out; omega
            have CA := hid (fun w => frAll_any ((frS l).extract 0 k) w hXz)
            unfold AllPost at CA
            rw [hcut.out] at CA
            simp only [] at CA
            generalize (frS l).extract 0 k = X at *
            have sl2 := slice_texts x l.length c n (by omega)
            have hlen : (dat (l.take n)).length = n := by rw [dat_len, List.length_take]; omega
            have hlen2 : (l.take n).length = n := by rw [List.length_take]; omega
            have Hn := hid hn
            have HLC := hid hlc
            have HL30 := hid h30
            have hends0 : Hid (0 < n → ∃ g, y = some ⟨g, 0, none⟩ ∧ wr.cell? ⟨g, n - 1, none⟩ = some (.int .i64 ((frS (l.take n)).size : Int))) := fun h => by
              obtain ⟨g, e1, e2⟩ := HE.out (n - 1) (by omega)
              rw [show n - 1 + 1 = n by omega] at e2
              exact ⟨g, e1, e2⟩
            have hlast : Hid (0 < l.length → ∃ t : ByteArray, (∀ w : World, TextsX w x l → ∃ b off, x = some ⟨b, off, none⟩ ∧ w.cell? ⟨b, off + (l.length - 1), none⟩ = some (.string t)) ∧ t.size ≤ 4000 ∧ lastOf (frS l).data.toList = (t.data.toList, t.size + 12, 0)) := fun h => by
              have e := last_take (l := l) (k := l.length - 1) (by omega) (H6.out _ (List.getElem_mem _))
              rw [show l.length - 1 + 1 = l.length by omega, List.take_of_length_le (Nat.le_refl _)] at e
              refine ⟨l[l.length - 1], fun w hw => ?_, H6.out _ (List.getElem_mem _), e⟩
              obtain ⟨b, off, e1, e2, _⟩ := hw (l.length - 1) (by omega)
              exact ⟨b, off, e1, e2⟩
            have CL := hid (fun w => frLast_any (frS l) w hSz)
            unfold LastV at CL
            have hsame : Hid (∀ (v : Value) (w w' : World), w'.ownsRow w.heap.size tStr 1 v n (txtCells (dat (l.take n))) → TextsX w' x l → ∃ (x2 : Option Addr) (c2 : Nat), v = .slice x2 n c2 ∧ Calls Try.prog 18 #[.slice x2 n c2, .slice x n c] w' fun e w2 => e = .returned (.bool true) ∧ Touch [] w' w2) := fun v w w' ho hx => by
              have ho2 : w'.ownsRow w.heap.size tStr 1 v (dat (l.take n)).length (txtCells (dat (l.take n))) := by rw [hlen]; exact ho
              obtain ⟨x2, c2, e1, e2, _⟩ := texts_of_owns ho2 (fun d hd => by
                obtain ⟨s, hs, rfl⟩ := List.mem_map.1 hd
                rw [list_len]
                have := H6.out s (List.mem_of_mem_take hs)
                unfold maxLen; omega)
              rw [dat_back] at e2
              rw [hlen] at e1
              have := sameTexts_any x2 x c2 c (l.take n) (l.take n) w' (by rw [hlen2]; omega) (by rw [hlen2]; omega) e2 (hx.cut n)
              rw [hlen2, decide_eq_true rfl] at this
              exact ⟨x2, c2, e1, this⟩
            rw [hlen] at CA
            have hz0' : Hid (n = 0 → (frS (l.take n)).size = 0) := fun h => by rw [h]; rfl
            generalize (frS (l.take n)).size = Z at *
            generalize txtCells (dat (l.take n)) = tcs at *
            generalize frS l = S at *
            have C1 := hid CA
            clear hcut hlen hlen2 HO hSz hXz CA hnk H6 hlc
            have hE : (∃ (g : Nat) (z : Int), y = some ⟨g, 0, none⟩ ∧ wr.cell? ⟨g, n, none⟩ = some (.int .i64 z) ∧ (k : Int) < z ∧ n < l.length) ∨ n = l.length := by
              by_cases h : n < l.length
              · obtain ⟨g, e1, e2⟩ := HE.out n h
                refine .inl ⟨g, _, e1, e2, ?_, h⟩
                by_cases h2 : (frS (l.take (n + 1))).size ≤ k
                · exact absurd ⟨h, h2⟩ hgo
                · omega
              · exact .inr (by omega)
            clear HE hgo hn hl2
            have HS := hid hsame.out
            have HX := HC.out
            have HLS := hlast
            clear hsame hlast
            have hend : Hid (l.length = 0 ∨ ∃ (p : Nat) (t : ByteArray), l.length = p + 1 ∧ (∀ w : World, TextsX w x l → ∃ b off, x = some ⟨b, off, none⟩ ∧ w.cell? ⟨b, off + p, none⟩ = some (.string t)) ∧ t.size ≤ 4000 ∧ lastOf S.data.toList = (t.data.toList, t.size + 12, 0)) := by
              cases hN : l.length with
              | zero => exact .inl rfl
              | succ p =>
                obtain ⟨t, e1, e2, e3⟩ := HLS.out (by omega)
                refine .inr ⟨p, t, rfl, fun w hw => ?_, e2, e3⟩
                obtain ⟨b, off, e4, e5⟩ := e1 w hw
                rw [show l.length - 1 = p by omega] at e5
                exact ⟨b, off, e4, e5⟩
            clear HLS
            have HW : Hid (∀ w2 : World, Touch [] wr w2 → TextsX w2 x l) := fun w2 t2 => (HC.out.touch HT.out).touch t2
            generalize hN : l.length = N at *
            clear HC CS HX hN H3 T1
            rcases hE with ⟨g, z, rfl, g1, hzk, hlt⟩ | hlt
            case' inl =>
              have hl3 : decide (n < N) = true := by simpa using hlt
              have hnI : (n : Int) < N := by omega
              have Hlt : Hid (n ≤ N) := by unfold Hid; omega
              clear hlt
              go_upto_region 19 with fail
              clear g1 hzk hl3 hnI
            case' inr =>
              have hl3 : decide (n < N) = false := by simp; omega
              have Hlt : Hid (n ≤ N) := by unfold Hid; omega
              clear hlt
              go_upto_region 19 with fail
              clear hl3
            all_goals
              have hn0 : n = 0 ∨ ∃ m, n = m + 1 := by cases n with | zero => exact .inl rfl | succ m => exact .inr ⟨m, rfl⟩
              rcases hn0 with hn0 | ⟨m, hm⟩
              case' inl =>
                obtain rfl : Z = 0 := hz0'.out hn0
                have HnI : Hid (n = 0) := hn0
                clear hends0 hz0' hn0
                go_upto_region 20 with (go_at_call 16; refine (C1.out _).mono ?_; rintro e w2 ⟨v, rfl, h1, t2⟩; obtain ⟨x2, c3, rfl, C2⟩ := HS.out v wr w2 h1 (HW.out _ t2))
                have HT2 := hid t2
                clear h1 HS HL30 HLC t2
                go_upto_region 22 with (go_at_call 18; refine C2.mono ?_; rintro e w3 ⟨rfl, t3⟩; have hnI := HnI.out; subst hnI)
                have HT3 : Hid (Touch [] wr w3) := HT2.out.trans t3 (by simp)
                clear t3 HT2
                clear C2 sl1 sl2 hmin hkI HK Hlt HnI
                rcases hend.out with hN0 | ⟨p, t, hN1, ht, htz, hlo⟩
                · have hNb : ((N : Int) == 0) = true := by rw [hN0]; rfl
                  clear hend hN0 CL
                  go_wp2_with (go_at_call 8; refine (C0.out _).mono ?_; rintro e w4 ⟨rfl, a4⟩)
                  go_ret
                  exact ⟨rfl, (HT.out.trans HT3.out (by simp)).trans a4 (by simp)⟩
                · rw [hlo] at CL
                  simp only [bytesT_data] at CL
                  have hNb : ((N : Int) == 0) = false := by rw [hN1]; simp; omega
                  have hNp : (N : Int) - 1 = (p : Int) := by omega
                  have hpN : (p : Int) < N := by omega
                  have HXT := hid ht
                  have htI : (t.size : Int) ≤ 4000 := by omega
                  obtain ⟨m2, hm2⟩ : ∃ m2, m2 = t.size + 12 := ⟨_, rfl⟩
                  rw [← hm2] at CL
                  have q1 : ((m2 : Int) == (t.size : Int) + 12) = true := by rw [beq_iff_eq]; omega
                  have q2 : (t.toList == t.toList) = true := by simp
                  clear hend hN1 ht hlo hm2 htz
                  go_wp2_with (first
                    | (go_at_call 13; refine (CL.out _).mono ?_; rintro e w4 ⟨rfl, a4⟩; have HT4 : Hid (Touch [] wr w4) := HT3.out.trans a4 (by simp); clear a4)
                    | (go_at_call 8; refine (C0.out _).mono ?_; rintro e w5 ⟨rfl, a5⟩; have HT5 : Hid (Touch [] wr w5) := HT4.out.trans a5 (by simp); clear a5; obtain ⟨b, off, rfl, g9⟩ := HXT.out w5 (HW.out w5 HT5.out)))
                  go_ret
                  exact ⟨rfl, HT.out.trans HT5.out (by simp)⟩
              case' inr =>
                obtain ⟨g', hg', g2⟩ := hends0.out (by omega)
                cases hg'
                rw [show n - 1 = m by omega] at g2
                have HnI : Hid (n = m + 1) := hm
                clear hends0 hz0' hm
                go_upto_region 20 with (go_at_call 16; refine (C1.out _).mono ?_; rintro e w2 ⟨v, rfl, h1, t2⟩; obtain ⟨x2, c3, rfl, C2⟩ := HS.out v wr w2 h1 (HW.out _ t2))
                have HT2 := hid t2
                clear h1 HS HL30 HLC t2
                go_upto_region 22 with (go_at_call 18; refine C2.mono ?_; rintro e w3 ⟨rfl, t3⟩; have hnI := HnI.out; subst hnI; have g3 := (HT2.out.trans t3 (by simp)).cell g2; have hmN : (m : Int) < N := by (have := Hlt.out; omega))
                have HT3 : Hid (Touch [] wr w3) := HT2.out.trans t3 (by simp)
                clear t3 HT2
                clear C2 sl1 sl2 hmin hkI HK Hlt HnI
                rcases hend.out with hN0 | ⟨p, t, hN1, ht, htz, hlo⟩
                · have hNb : ((N : Int) == 0) = true := by rw [hN0]; rfl
                  clear hend hN0 CL
                  go_wp2_with (go_at_call 8; refine (C0.out _).mono ?_; rintro e w4 ⟨rfl, a4⟩)
                  go_ret
                  exact ⟨rfl, (HT.out.trans HT3.out (by simp)).trans a4 (by simp)⟩
                · rw [hlo] at CL
                  simp only [bytesT_data] at CL
                  have hNb : ((N : Int) == 0) = false := by rw [hN1]; simp; omega
                  have hNp : (N : Int) - 1 = (p : Int) := by omega
                  have hpN : (p : Int) < N := by omega
                  have HXT := hid ht
                  have htI : (t.size : Int) ≤ 4000 := by omega
                  obtain ⟨m2, hm2⟩ : ∃ m2, m2 = t.size + 12 := ⟨_, rfl⟩
                  rw [← hm2] at CL
                  have q1 : ((m2 : Int) == (t.size : Int) + 12) = true := by rw [beq_iff_eq]; omega
                  have q2 : (t.toList == t.toList) = true := by simp
                  clear hend hN1 ht hlo hm2 htz
                  go_wp2_with (first
                    | (go_at_call 13; refine (CL.out _).mono ?_; rintro e w4 ⟨rfl, a4⟩; have HT4 : Hid (Touch [] wr w4) := HT3.out.trans a4 (by simp); clear a4)
                    | (go_at_call 8; refine (C0.out _).mono ?_; rintro e w5 ⟨rfl, a5⟩; have HT5 : Hid (Touch [] wr w5) := HT4.out.trans a5 (by simp); clear a5; obtain ⟨b, off, rfl, g9⟩ := HXT.out w5 (HW.out w5 HT5.out)))
                  go_ret
                  exact ⟨rfl, HT.out.trans HT5.out (by simp)⟩

theorem walk_FrameKept (v : Value) (l : List ByteArray) (y : Int) (wy : (Lit.int .i64 y).wf = true) (w : World) (hv : StrsC w v l) :
    Calls Try.prog 4 #[v, .int .i64 y] w fun e w' => e = .returned (.bool true) ∧ Touch [] w w' := by
  obtain ⟨⟨x, c, rfl, hl, hc, _⟩, hcap⟩ := hv
  exact fkept_full x c l y w hc hl (hcap x l.length c rfl).1 (i64_range wy).2
end Go.Proofs.Ytkkalnegojhapaa
