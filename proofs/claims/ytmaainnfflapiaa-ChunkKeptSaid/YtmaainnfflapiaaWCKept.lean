/- ChunkKept, walked. -/
import Derived.Test.YtmaainnfflapiaaKp10
import Derived.Test.YtmaainnfflapiaaBookb
import Derived.Test.YtmaainnfflapiaaHeld
import Derived.Lib.MinMax
import Derived.Deep.AppendLies
namespace Go.Proofs.Ytmaainnfflapiaa
open Go.RowKit Go.Lib Go.ChangeShapes
set_option maxRecDepth 100000

def RdPost (n : Nat) (L : List ByteArray) (g : Nat) (d : Bool) (w : World) (e : Ending) (w' : World) : Prop :=
  ∃ y c, e = .returned (.tuple #[.agg #[.int .i64 n, .int .i64 9000, .slice y L.length c, .int .i64 g, .bool d], .int .i64 0]) ∧ TextsX w' y L ∧ Touch [] w w'
theorem rd_post {b : List UInt8} {n g R : Nat} {L : List ByteArray} {d : Bool} (HB : Begins b n 9000) (hr : recOf (b.drop 33) = (dat L, R)) (hd : doneAt n (b.drop 33) = d) (hg : goodAt n (b.drop 33) = g) (hz : ∀ s ∈ L, s.size ≤ 3999) {w w' : World} {e : Ending} (h : ReadV b w e w') : RdPost n L g d w e w' := by
  obtain ⟨y, c, he, ho, t⟩ := readV_some HB h
  rw [hd, hg, hr] at he
  rw [hr] at ho
  simp only [] at he ho
  obtain ⟨x, c', hv, hx, _⟩ := texts_of_owns ho (fun d hd => by
    obtain ⟨s, hs, rfl⟩ := List.mem_map.1 hd
    rw [list_len]
    have := hz s hs
    unfold maxLen; omega)
  cases hv
  rw [dat_back] at hx
  rw [dat_len] at he
  exact ⟨y, c, he, hx, t⟩
theorem same_yes (y x : Option Addr) (c2 c : Nat) (L : List ByteArray) (w : World) (hl : L.length ≤ 1000) (h1 : TextsX w y L) (h2 : TextsX w x L) :
    Calls Try.prog 19 #[.slice y L.length c2, .slice x L.length c] w fun e w' => e = .returned (.bool true) ∧ Touch [] w w' := by
  have := sameTexts_any y x c2 c L L w (by omega) (by omega) h1 h2
  rw [decide_eq_true rfl] at this
  exact this

set_option maxHeartbeats 8000000 in
theorem ckept_full (n : Int) (x : Option Addr) (c : Nat) (l : List ByteArray) (dn : Bool) (cut : Int) (more : ByteArray) (w : World) (hc : TextsX w x l) (hl : l.length ≤ 9223372036854775807) (hlc : l.length ≤ c) (hi0 : cut ≤ 9223372036854775807) :
    Calls Try.prog 4 #[.int .i64 n, .slice x l.length c, .bool dn, .int .i64 cut, .string more] w fun e w' => e = .returned (.bool true) ∧ Touch [] w w' := by
  have HC := hid hc
  have CS := hid (fun w (h : TextsX w x l) => short_any 30 5000 x c l w hl h (by decide) (by decide) (by decide))
  have C0 := hid (fun w => alive10_true w)
  clear hc hl
  by_cases hn0 : n < 0
  · go_enter Try.func4, Try.ntmps4
    go_wp2_with (go_at_call 7; refine (C0.out _).mono ?_; rintro e w2 ⟨rfl, a2⟩)
    go_ret
    exact ⟨rfl, a2⟩
  by_cases hn1 : 999999 < n
  · go_enter Try.func4, Try.ntmps4
    go_wp2_with (go_at_call 7; refine (C0.out _).mono ?_; rintro e w2 ⟨rfl, a2⟩)
    go_ret
    exact ⟨rfl, a2⟩
  obtain ⟨n, rfl⟩ := Int.eq_ofNat_of_zero_le (show 0 ≤ n by omega)
  go_enter Try.func4, Try.ntmps4
  go_wp2_with fail
  refine (CS.out _ HC.out).mono ?_
  rintro e w1 ⟨r, rfl, t1, hr⟩
  have T1 := hid t1
  clear t1
  cases r with
  | false =>
    clear hr
    go_wp2_with (go_at_call 7; refine (C0.out _).mono ?_; rintro e w2 ⟨rfl, a2⟩)
    go_ret
    exact ⟨rfl, T1.out.trans a2 (by simp)⟩
  | true =>
    obtain ⟨h30, h5000⟩ := hr rfl
    have H5 := hid h5000
    clear hr h5000
    by_cases hneg : cut < 0
    · go_wp2_with (go_at_call 7; refine (C0.out _).mono ?_; rintro e w2 ⟨rfl, a2⟩)
      go_ret
      exact ⟨rfl, T1.out.trans a2 (by simp)⟩
    by_cases hmo : (300 : Int) < more.size
    · go_wp2_with (go_at_call 7; refine (C0.out _).mono ?_; rintro e w2 ⟨rfl, a2⟩)
      go_ret
      exact ⟨rfl, T1.out.trans a2 (by simp)⟩
    obtain ⟨q, rfl⟩ := Int.eq_ofNat_of_zero_le (show 0 ≤ cut by omega)
    have hq0 : (0 : Int) ≤ q := by omega
    have hmo2 : (more.size : Int) ≤ 300 := by omega
    have hn9 : n ≤ 999999 := by omega
    have hn9I : (n : Int) ≤ 999999 := by omega
    have hnI : (0 : Int) ≤ n := by omega
    have CST := hid (fun w => start_any n 9000 w (by decide))
    rw [show StartV n 9000 = .tuple #[.string (chS n (l.take 0)), .int .i64 0] from by unfold StartV; rw [if_neg (by omega), List.take_zero, chS_nil]; rfl] at CST
    have hs0 : (chS n []).size = 33 := by rw [chS_size]; rfl
    clear hneg hmo hn0 hn1
    go_wp2_with (go_at_call 8; refine (CST.out _).mono ?_; rintro e w2 ⟨rfl, t2⟩; have T2 := hid (T1.out.trans t2 (by simp)))
    clear CST hs0
    obtain ⟨i0, hi, hz0, hz1, hz2⟩ := info_parts infoInt10
    go_loopw [11, 14, 15] (fun sv ev iv wr => ∃ k : Nat, k ≤ l.length ∧ iv = .int .i64 k ∧ sv = .string (chS n (l.take k)) ∧ (∀ s ∈ l.take k, s.size ≤ 3999) ∧ wr.ownsRow w.heap.size tInt10 1 ev k (endsC n l k) ∧ Touch [] w wr) (fun _ _ iv _ => l.length - (RowKit.intOf iv).toNat)
    case atStart => exact ⟨0, Nat.zero_le _, rfl, rfl, fun s hs => by simp at hs, ⟨rfl, .inl ⟨rfl, rfl⟩⟩, T2.out⟩
    case round =>
      obtain ⟨k, hk, rfl, rfl, h4, hown, ht⟩ := hrel
      have HT := hid ht
      have H4 := hid h4
      have HO := hid hown
      clear ht h4 hown
      by_cases hlt : k < l.length
      · obtain ⟨b, off, rfl, g1, _⟩ := HC.out k hlt
        have g2 := HT.out.cell g1
        clear g1
        have hl2 : decide (k < l.length) = true := by simpa using hlt
        have hklt : (k : Int) < l.length := by omega
        have hzz : l[k].size ≤ 5000 := by have := get_le hlt; have := H5.out; omega
        by_cases hbig : (4000 : Int) ≤ l[k].size
        · generalize l[k] = s at *
          go_wp2_with (go_at_call 7; refine (C0.out _).mono ?_; rintro e w2 ⟨rfl, a2⟩)
          go_ret
          exact ⟨rfl, HT.out.trans a2 (by simp)⟩
        have hz : l[k].size ≤ 3999 := by omega
        have hsn := hid (chS_snoc n hlt)
        have hfz := chS_size n (l.take k)
        have hct := cat_take_le l k
        have hsz := hid (chS_step n hlt)
        have hrz := recB_size l[k]
        have hfz2 : (chS n (l.take k)).size ≤ 6000 := by rw [hfz, List.length_take]; have := H5.out; omega
        have hfb : ¬ 9223372036854775807 < (chS n (l.take k)).size + (recB l[k]).size := by omega
        have CP := hid (fun w => record_any l[k] w (by omega))
        rw [show RecordV l[k] = .tuple #[.string (recB l[k]), .int .i64 0] from by unfold RecordV; rw [if_neg (by omega)]] at CP
        have q1 : (((recB l[k]).size : Int) != (l[k].size : Int) + 13) = false := by rw [bne_eq_false_iff_eq]; omega
        have hzs : (l[k].size : Int) ≤ 3999 := by omega
        have hsum : Hid (((chS n (l.take k)).size : Int) + ((recB l[k]).size : Int) = ((chS n (l.take (k + 1))).size : Int)) := by unfold Hid; have := hsz.out; omega
        have H6 : Hid (∀ s ∈ l.take (k + 1), s.size ≤ 3999) := fun s hs => by
          rw [List.take_succ_eq_append_getElem hlt, List.mem_append, List.mem_singleton] at hs
          rcases hs with hs | rfl
          · exact H4.out s hs
          · exact hz
        clear hfz hct hfz2 hbig hzz hz hrz
        generalize recB l[k] = X at *
        generalize l[k] = s at *
        go_wp2_with (first
          | (go_at_call 10; refine (CP.out _).mono ?_; rintro e w2 ⟨rfl, a2⟩; have g3 := a2.cell g2)
          | (at_builtin; refine wpList_append_lies _ rfl (.tmp 101) (.tmp 104) 50 rfl w.heap.size tInt10 i0 (.int .i64 0) 1 8 Try.underlying50 hi hz0 hz1 hz2 rfl (by decide) u14 k (endsC n l k) (by rfl) (ownsI_same HO.out (a2.alloc _)) ⟨w2.heap.size, 0, none⟩ 1 1 [.int .i64 (((chS n (l.take k)).size : Int) + (X.size : Int))] (by rfl) rfl (World.news_of_block (cs := #[.int .i64 (((chS n (l.take k)).size : Int) + (X.size : Int))]) (t := tInt10) (fr := (0, 0)) (heap_alloc_new w2 _)) (by intro u hu; simp at hu; subst hu; rfl) (by decide) (by unfold maxLen; omega) (by omega) (by have := HT.out.size; have := a2.size; simp; omega) (w2.heap.size + 1) (by simp) ?_; intro g cap w4 hown hgrow hat hlt4))
        go_roundw
        case rel => exact ⟨k + 1, hlt, by go_num, by rw [← hsn.out], H6.out, by rw [endsC_snoc, ← hsum.out]; exact hown, ((HT.out.trans a2 (by simp)).alloc _).grown hgrow (fun k hk => .inr (ownsI_blk HO.out k hk))⟩
        case measure => simp [RowKit.intOf]; omega
      · obtain rfl : k = l.length := by omega
        have hl2 : decide (l.length < l.length) = false := by simp
        have h4 := H4.out
        rw [List.take_of_length_le (Nat.le_refl _)] at h4 ⊢
        have H6 := hid h4
        obtain ⟨y, c2, rfl, hends⟩ := endsC_of HO.out
        have HE := hid hends
        clear hends hlt hk h4 H4
        have hSz : (chS n l).size ≤ 6000 := by rw [chS_size]; have := H5.out; omega
        have HSz := hid hSz
        go_upto_if 106 with fail
        go_cut [] (fun wx => Touch [] wr wx)
        case first =>
          cases dn
          case false =>
            go_wp2
            go_meet
            exact Touch.refl _ _
          case true =>
            have CF := hid (fun w => finish_any n l.length w (by omega))
            rw [show FinishV n l.length = .tuple #[.string (bytesT (frL (finL n l.length))), .int .i64 0] from by unfold FinishV; rw [if_neg (by omega)]; rfl] at CF
            have zf : (bytesT (frL (finL n l.length))).size = 33 := by rw [bytesT_size, frFin_len]
            have rd := read_done n l H6.out hn9 more
            have CR := hid (fun w => (read_any (chS n l ++ bytesT (frL (finL n l.length)) ++ more) w (by rw [ByteArray.size_append, ByteArray.size_append]; omega)).mono fun e w' h => rd_post rd.1 rd.2.1 rd.2.2.1 rd.2.2.2 H6.out h)
            clear rd
            unfold RdPost at CR
            have zfI : ((bytesT (frL (finL n l.length))).size : Int) = 33 := by omega
            have cc1 : ¬ 9223372036854775807 < (chS n l).size + (bytesT (frL (finL n l.length))).size := by omega
            have cc2 : ¬ 9223372036854775807 < (chS n l).size + (bytesT (frL (finL n l.length))).size + more.size := by omega
            have cc3 : ¬ 9223372036854775807 < (chS n l ++ bytesT (frL (finL n l.length))).size + more.size := by rw [ByteArray.size_append]; omega
            have hg : (((chS n l).size + 33 : Nat) : Int) = ((chS n l).size : Int) + 33 := by omega
            rw [hg] at CR
            generalize bytesT (frL (finL n l.length)) = ZF at *
            go_wp2_with (first
              | (go_at_call 12; refine (CF.out _).mono ?_; rintro e w2 ⟨rfl, t2⟩)
              | (go_at_call 17; refine (CR.out _).mono ?_; rintro e w3 ⟨yr, cr, rfl, xr, t3⟩; have XR := hid xr; clear xr)
              | (go_at_call 19; refine (same_yes _ _ _ _ l _ (by omega) (XR.out.touch ((Touch.refl [] w3).alloc _)) ((HC.out.touch HT.out).touch (((t2.trans t3 (by simp))).alloc _))).mono ?_; rintro e w4 ⟨rfl, t4⟩))
            go_meet
            exact (((t2.trans t3 (by simp)).alloc _).trans t4 (by simp))
        case rest =>
          have HQ : Hid (Touch [] wr wc) := hcut
          generalize wc = wq at *
          clear hcut
          have hSz := HSz.out
          have hS33 : 33 ≤ (chS n l).size := by rw [chS_size]; omega
          obtain ⟨k, hk1⟩ : ∃ k : Nat, (k : Int) = min (max (q : Int) 33) ((chS n l).size : Int) := ⟨min (max q 33) (chS n l).size, by omega⟩
          have hk2 : k ≤ (chS n l).size := by omega
          have hk33 : 33 ≤ k := by omega
          have hmin : min (max (q : Int) 33) ((chS n l).size : Int) = (k : Int) := hk1.symm
          have HK := hid hk2
          have HK33 := hid hk33
          clear hk1 hk2 hk33
          go_wp2
          go_loop [23] (fun nv => ∃ m : Nat, m ≤ l.length ∧ nv = .int .i64 m ∧ (chS n (l.take m)).size ≤ k) (fun nv => l.length - (RowKit.intOf nv).toNat)
          case atStart => exact ⟨0, Nat.zero_le _, rfl, by rw [List.take_zero, chS_size]; exact HK33.out⟩
          case round =>
            obtain ⟨m, hm, rfl, hnk⟩ := hrel
            by_cases hgo : m < l.length ∧ (chS n (l.take (m + 1))).size ≤ k
            · obtain ⟨hlt, hle⟩ := hgo
              obtain ⟨g, rfl, g1⟩ := HE.out m hlt
              have g2 := HQ.out.cell g1
              have HLE := hid hle
              have q1 : (((chS n (l.take (m + 1))).size : Int) ≤ (k : Int)) := by omega
              generalize ((chS n (l.take (m + 1))).size : Int) = z at *
              have hl3 : decide (m < l.length) = true := by simpa using hlt
              have hmI : (m : Int) < l.length := by omega
              clear hle g1
              go_wp2
              exact ⟨⟨m + 1, hlt, by go_num, HLE.out⟩, by simp [RowKit.intOf]; omega⟩
            · have hcut := read_cut n l H6.out m k hn9 hm hnk (fun h => by
                by_cases h2 : (chS n (l.take (m + 1))).size ≤ k
                · exact absurd ⟨h, h2⟩ hgo
                · omega)
              have hz3 : ∀ s ∈ l.take m, s.size ≤ 3999 := fun s hs => H6.out s (List.mem_of_mem_take hs)
              have hkI : (k : Int) ≤ ((chS n l).size : Int) := by have := HK.out; omega
              have sl1 := sl_to (chS n l) k (k : Int) rfl HK.out
              have hXz : ((chS n l).extract 0 k).size ≤ 1000000000 := by rw [ByteArray.size_extract]; have := HK.out; omega
              have CA := hid (fun w => (read_any ((chS n l).extract 0 k) w hXz).mono fun e w' h => rd_post hcut.1 hcut.2.1 hcut.2.2.1 hcut.2.2.2 hz3 h)
              obtain ⟨k2, hk2⟩ : ∃ k2 : Nat, k2 = min q 32 := ⟨_, rfl⟩
              have hmin2 : min (q : Int) 32 = (k2 : Int) := by omega
              have hk2I : (k2 : Int) ≤ ((chS n l).size : Int) := by omega
              have sl2 := sl_to (chS n l) k2 (k2 : Int) rfl (by omega)
              have hYz : ((chS n l).extract 0 k2).size ≤ 1000000000 := by rw [ByteArray.size_extract]; omega
              have hsn := short_none n l k2 (by omega)
              have CB := hid (fun w => (read_any ((chS n l).extract 0 k2) w hYz).mono fun e w' h => readV_none hsn h)
              have hlen2 : (l.take m).length = m := by rw [List.length_take]; omega
              unfold RdPost at CA
              rw [hlen2] at CA
              unfold ScanV at CB
              have sl3 := slice_texts x l.length c m (by omega)
              have hSM := hid (fun (y : Option Addr) (c2 : Nat) (w : World) (h1 : TextsX w y (l.take m)) (h2 : TextsX w x l) => by
                have h := same_yes y x c2 c (l.take m) w (by omega) h1 (h2.cut m)
                rw [hlen2] at h
                exact h)
              have hends0 : Hid (0 < m → ∃ g, y = some ⟨g, 0, none⟩ ∧ wq.cell? ⟨g, m - 1, none⟩ = some (.int .i64 ((chS n (l.take m)).size : Int))) := fun h => by
                obtain ⟨g, e1, e2⟩ := HE.out (m - 1) (by omega)
                rw [show m - 1 + 1 = m by omega] at e2
                exact ⟨g, e1, HQ.out.cell e2⟩
              have hz0' : Hid (m = 0 → (chS n (l.take m)).size = 33) := fun h => by rw [h, List.take_zero, chS_size]; rfl
              have hE : (∃ (g : Nat) (z : Int), y = some ⟨g, 0, none⟩ ∧ wq.cell? ⟨g, m, none⟩ = some (.int .i64 z) ∧ (k : Int) < z ∧ m < l.length) ∨ m = l.length := by
                by_cases h : m < l.length
                · obtain ⟨g, e1, e2⟩ := HE.out m h
                  refine .inl ⟨g, _, e1, HQ.out.cell e2, ?_, h⟩
                  by_cases h2 : (chS n (l.take (m + 1))).size ≤ k
                  · exact absurd ⟨h, h2⟩ hgo
                  · omega
                · exact .inr (by omega)
              have HXL : Hid (∀ w2 : World, Touch [] wr w2 → TextsX w2 x l) := fun w2 t2 => (HC.out.touch HT.out).touch t2
              generalize (chS n (l.take m)).size = Z at *
              generalize (chS n l).extract 0 k = X1 at *
              generalize (chS n l).extract 0 k2 = X2 at *
              generalize chS n l = S at *
              clear hk2 hcut hz3 hXz hYz hsn hlen2 HE hgo hnk HO H6 hSz hS33 HSz H5
              rcases hE with ⟨g, z, rfl, g1, hzk, hlt⟩ | hlt
              case' inl =>
                have hl3 : decide (m < l.length) = true := by simpa using hlt
                have hmI : (m : Int) < l.length := by omega
                have Hlt : Hid (m ≤ l.length) := by unfold Hid; omega
                clear hlt
                go_upto_if 171 with fail
                clear g1 hzk hl3 hmI
              case' inr =>
                have hl3 : decide (m < l.length) = false := by simp; omega
                have Hlt : Hid (m ≤ l.length) := by unfold Hid; omega
                clear hlt
                go_upto_if 171 with fail
                clear hl3
              all_goals
                go_cut [24] (fun gv wx => gv = .int .i64 (Z : Int) ∧ wx = wq)
                case first =>
                  have hm0 : m = 0 ∨ ∃ j, m = j + 1 := by cases m with | zero => exact .inl rfl | succ j => exact .inr ⟨j, rfl⟩
                  rcases hm0 with hm0 | ⟨j, hj⟩
                  · obtain rfl : Z = 33 := hz0'.out hm0
                    subst hm0
                    go_wp2
                    go_meet
                    exact ⟨rfl, rfl⟩
                  · obtain ⟨g', hg', g2⟩ := hends0.out (by omega)
                    cases hg'
                    subst hj
                    rw [show j + 1 - 1 = j by omega] at g2
                    have hjl : (j : Int) < l.length := by have := Hlt.out; omega
                    go_wp2
                    go_meet
                    exact ⟨rfl, rfl⟩
                case rest =>
                  obtain ⟨rfl, rfl⟩ := hcut
                  clear hends0 hz0'
                  go_upto_region 34 with (first
                    | (go_at_call 17; with_reducible refine (CA.out _).mono ?_; rintro e w5 ⟨y5, c5, rfl, x5, t5⟩; (have X5 := hid x5); (have T5 := hid (HQ.out.trans t5 (by simp))); clear x5 t5 CA)
                    | (go_at_call 17; with_reducible refine (CB.out _).mono ?_; rintro e w6 ⟨rfl, t6⟩; (have T6 := hid t6); clear t6 CB))
                  have TX : Hid (Touch [] w5 (w6.alloc (.cells #[.int .i64 0, .int .i64 0, .slice none 0 0, .int .i64 0, .bool false] 43))) := hid ((((Touch.refl [] w5).alloc _).trans T6.out (by simp)).alloc _)
                  have BX : Hid ((w6.alloc (.cells #[.int .i64 0, .int .i64 0, .slice none 0 0, .int .i64 0, .bool false] 43)).heap[w5.heap.size]? = some (.cells #[.int .i64 n, .int .i64 9000, .slice y5 m c5, .int .i64 Z, .bool false] 43 (0, 0))) := hid (touch_blk0 (T6.out.alloc _) (heap_alloc_new w5 _))
                  generalize hWX : w6.alloc (.cells #[.int .i64 0, .int .i64 0, .slice none 0 0, .int .i64 0, .bool false] 43) = WX at *
                  clear hWX T6
                  obtain ⟨ι, f, ⟨θ0, hθ0⟩, F0, F2, F3, F4, FT, FA, FS⟩ : ∃ (ι : Type) (f : ι → World), (∃ θ, f θ = WX.drew) ∧ (∀ θ, (f θ).cell? ⟨w5.heap.size, 0, none⟩ = some (.int .i64 n)) ∧ (∀ θ, (f θ).cell? ⟨w5.heap.size, 2, none⟩ = some (.slice y5 m c5)) ∧
                      (∀ θ, (f θ).cell? ⟨w5.heap.size, 3, none⟩ = some (.int .i64 Z)) ∧ (∀ θ, (f θ).cell? ⟨w5.heap.size, 4, none⟩ = some (.bool false)) ∧ Hid (∀ θ, Touch [] WX (f θ)) ∧
                      Hid (∀ θ, Calls Try.prog 7 #[] (f θ) fun e w'' => e = .returned (.bool true) ∧ ∃ θ', w'' = f θ') ∧
                      Hid (∀ θ, Calls Try.prog 19 #[.slice y5 m c5, .slice x m c] (f θ) fun e w'' => e = .returned (.bool true) ∧ ∃ θ', w'' = f θ') :=
                    ⟨{wx // Touch [] WX wx}, Subtype.val, ⟨⟨_, (Touch.refl [] WX).drewN 1⟩, rfl⟩, fun θ => cell_of (touch_blk0 θ.2 BX.out) 0, fun θ => cell_of (touch_blk0 θ.2 BX.out) 2, fun θ => cell_of (touch_blk0 θ.2 BX.out) 3, fun θ => cell_of (touch_blk0 θ.2 BX.out) 4, hid fun θ => θ.2,
                      hid fun θ => (C0.out _).mono fun e w'' ⟨he, h2⟩ => ⟨he, ⟨⟨w'', θ.2.trans h2 (by simp)⟩, rfl⟩⟩,
                      hid fun θ => (hSM.out y5 c5 _ (X5.out.touch (TX.out.trans θ.2 (by simp))) (HXL.out _ (T5.out.trans (TX.out.trans θ.2 (by simp)) (by simp)))).mono fun e w'' ⟨he, h2⟩ => ⟨he, ⟨⟨w'', θ.2.trans h2 (by simp)⟩, rfl⟩⟩⟩
                  have Hθ := hid hθ0
                  have inst : Nonempty ι := ⟨θ0⟩
                  clear hθ0
                  refine wp_region_held f θ0 (by kernel_rfl) (by kernel_rfl) Hθ.out ?_
                  repeat go_big_quiet_step (first | exact FA.out _ | exact FS.out _)
                  refine wpQuiet_nil ?_
                  intro _ hw'
                  obtain ⟨θ, hw''⟩ := hw'
                  subst hw''
                  have TT := hid (FT.out θ)
                  go_wp2
                  go_ret
                  exact ⟨rfl, (HT.out.trans (T5.out.trans TX.out (by simp)) (by simp)).trans TT.out (by simp)⟩
theorem i64_top {x : Int} (h : (Lit.int .i64 x).wf = true) : x ≤ 9223372036854775807 := by
  have e1 : IntKind.i64.min = -9223372036854775808 := rfl
  have e2 : IntKind.i64.max = 9223372036854775807 := rfl
  simp only [Lit.wf, e1, e2, Bool.and_eq_true, decide_eq_true_eq] at h
  exact h.2
theorem walk_ChunkKept (n : Int) (_wn : (Lit.int .i64 n).wf = true) (v : Value) (l : List ByteArray) (dn : Bool) (y : Int) (wy : (Lit.int .i64 y).wf = true) (more : ByteArray) (_wm : more.size ≤ maxLen) (w : World) (hv : StrsC w v l) :
    Calls Try.prog 4 #[.int .i64 n, v, .bool dn, .int .i64 y, .string more] w fun e w' => e = .returned (.bool true) ∧ Touch [] w w' := by
  obtain ⟨⟨x, c, rfl, hl, hc, _⟩, hcap⟩ := hv
  exact ckept_full n x c l dn y more w hc hl (hcap x l.length c rfl).1 (i64_top wy)
end Go.Proofs.Ytmaainnfflapiaa
