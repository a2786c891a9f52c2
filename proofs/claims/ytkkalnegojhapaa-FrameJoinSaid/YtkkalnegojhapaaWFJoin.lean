/- FrameJoin, walked. -/
import Derived.Test.YtkkalnegojhapaaJoin8
namespace Go.Proofs.Ytkkalnegojhapaa
open Go.RowKit Go.Lib Go.ChangeShapes
set_option maxRecDepth 100000

theorem app_touch0 {w w' : World} {v : Value} (g : w' = w ∧ v = .slice none 0 0 ∨ w.grownBy w' (Value.slice none 0 0).ownBlock) : Touch [] w w' := by
  rcases g with ⟨rfl, _⟩ | g
  · exact Touch.refl _ _
  · exact (Touch.refl _ _).grown g (fun b hb => by simp [Value.ownBlock] at hb)
theorem app_touch {w4 w5 w6 : World} {v5 v6 : Value} {n : Nat} {xs : List Value} (T5 : Touch [] w4 w5) (h5 : w5.ownsRow w4.heap.size tStr 1 v5 n xs) (g6 : w6 = w5 ∧ v6 = v5 ∨ w5.grownBy w6 v5.ownBlock) : Touch [] w4 w6 := by
  rcases g6 with ⟨rfl, _⟩ | g6
  · exact T5
  · exact T5.grown g6 (fun b hb => .inr (ownsS_blk h5 b hb))
theorem same_app (x2 x6 : Option Addr) (c2 c6 : Nat) (l l2 : List ByteArray) (w : World) (h : l.length + l2.length ≤ 2000) (h2 : TextsX w x2 (l ++ l2)) (h6 : TextsX w x6 (l ++ l2)) :
    Calls Try.prog 18 #[.slice x2 (l.length + l2.length) c2, .slice x6 (l.length + l2.length) c6] w fun e w' => e = .returned (.bool true) ∧ Touch [] w w' := by
  have := sameTexts_any x2 x6 c2 c6 (l ++ l2) (l ++ l2) w (by rw [List.length_append]; omega) (by rw [List.length_append]; omega) h2 h6
  rw [List.length_append, decide_eq_true rfl] at this
  exact this

set_option maxHeartbeats 4000000 in
theorem fjoin_full (x : Option Addr) (c : Nat) (l : List ByteArray) (more : ByteArray) (w : World) (hc : TextsX w x l) (hl : l.length ≤ 9223372036854775807) (hnone : x = none → c = 0 ∧ l = []) :
    Calls Try.prog 7 #[.slice x l.length c, .string more] w fun e w' => e = .returned (.bool true) ∧ Touch [] w w' := by
  have HC := hid hc
  have HN := hid hnone
  have CS := hid (fun w (h : TextsX w x l) => short_any 20 3000 x c l w hl h (by decide) (by decide) (by decide))
  clear hc hl hnone
  go_enter Try.func7, Try.ntmps7
  go_wp2_with fail
  refine (CS.out _ HC.out).mono ?_
  rintro e w1 ⟨r, rfl, t1, hr⟩
  have T1 := hid t1
  have C0 := hid (fun w => alive8_true w)
  clear t1
  cases r with
  | false =>
    clear hr
    go_wp2_with (go_at_call 8; refine (C0.out _).mono ?_; rintro e w2 ⟨rfl, a2⟩)
    go_ret
    exact ⟨rfl, T1.out.trans a2 (by simp)⟩
  | true =>
    obtain ⟨h20, h3000⟩ := hr rfl
    have H3 := hid h3000
    clear hr h3000
    by_cases hbig : (1000 : Int) < more.size
    · go_wp2_with (go_at_call 8; refine (C0.out _).mono ?_; rintro e w2 ⟨rfl, a2⟩)
      go_ret
      exact ⟨rfl, T1.out.trans a2 (by simp)⟩
    have hmz : (more.size : Int) ≤ 1000 := by omega
    clear hbig
    go_wp2
    go_loopw [5, 6] (fun sv iv wr => ∃ k : Nat, k ≤ l.length ∧ iv = .int .i64 k ∧ sv = .string (frS (l.take k)) ∧ Touch [] w wr) (fun _ iv _ => l.length - (RowKit.intOf iv).toNat)
    case atStart => exact ⟨0, Nat.zero_le _, rfl, rfl, T1.out⟩
    case round =>
      obtain ⟨k, hk, rfl, rfl, ht⟩ := hrel
      have HT := hid ht
      clear ht
      by_cases hlt : k < l.length
      · obtain ⟨b, off, rfl, g1, _⟩ := HC.out k hlt
        have g2 := HT.out.cell g1
        clear g1
        have hz : l[k].size ≤ 3000 := by have := get_le hlt; have := H3.out; omega
        have hsn := hid (frS_snoc hlt (by omega))
        have hfz := frS_size (l.take k)
        have hct := cat_take_le l k
        have hfb : ¬ 9223372036854775807 < (frS (l.take k)).size + (frB l[k]).size := by
          have := (frB_ok (s := l[k]) (by omega)).2.2
          rw [hfz, List.length_take]; have := H3.out; omega
        obtain ⟨_, hE, hB⟩ := frB_ok (s := l[k]) (by omega)
        have CP := hid (fun w => frPut_any l[k] w (by omega))
        rw [hE] at CP
        have q1 : (((frB l[k]).size : Int) != (l[k].size : Int) + 12) = false := by rw [bne_eq_false_iff_eq]; omega
        have hz2 : (l[k].size : Int) ≤ 3000 := by omega
        clear hE hB hfz hct hz
        generalize frS (l.take k) = S at *
        generalize frB l[k] = X at *
        generalize l[k] = s at *
        have hl2 : decide (k < l.length) = true := by simpa using hlt
        have hklt : (k : Int) < l.length := by omega
        go_wp2_with (go_at_call 9; refine (CP.out _).mono ?_; rintro e w2 ⟨rfl, a2⟩; have g3 := a2.cell g2)
        go_roundw
        case rel => exact ⟨k + 1, hlt, by go_num, by rw [← hsn.out], HT.out.trans a2 (by simp)⟩
        case measure => simp [RowKit.intOf]; omega
      · obtain rfl : k = l.length := by omega
        have hl2 : decide (l.length < l.length) = false := by simp
        rw [List.take_of_length_le (Nat.le_refl _)]
        have hall4 : ∀ s ∈ l, s.size ≤ 4000 := fun s hs => by
          obtain ⟨i, hi, rfl⟩ := List.mem_iff_getElem.1 hs
          have := get_le hi; have := H3.out; omega
        have hSz : (frS l).size ≤ 3360 := by rw [frS_size]; have := H3.out; omega
        have hjoin := frS_join l hall4 more
        have CA := hid (fun w => frAll_any (frS l ++ more) w (by rw [ByteArray.size_append]; omega))
        have CB := hid (fun w => frAll_any more w (by omega))
        unfold AllPost at CA CB
        rw [hjoin] at CA
        simp only [] at CA
        have hL2 := allOf_small more.data.toList
        have hL3 := allOf_len more.data.toList
        rw [list_len] at hL3
        generalize (allOf more.data.toList).2 = K at *
        generalize (allOf more.data.toList).1 = L2 at *
        have h1000 : L2.length ≤ 1000 := by omega
        have hsmall1 : Hid (∀ d ∈ dat l ++ L2, d.length ≤ 4000) := fun d hd => by
          rcases List.mem_append.1 hd with hd | hd
          · obtain ⟨s, hs, rfl⟩ := List.mem_map.1 hd
            rw [list_len]; exact hall4 s hs
          · exact hL2 d hd
        have hsmall2 := hid hL2
        have hT : Hid ((dat l ++ L2).map bytesT = l ++ L2.map bytesT) := by unfold Hid; rw [List.map_append, dat_back]
        have hsizes : Hid (∀ s ∈ l ++ L2.map bytesT, s.size ≤ maxLen) := fun s hs => by
          rcases List.mem_append.1 hs with hs | hs
          · have := hall4 s hs; unfold maxLen; omega
          · obtain ⟨d, hd, rfl⟩ := List.mem_map.1 hs
            rw [bytesT_size]
            have := hL2 d hd; unfold maxLen; omega
        have hcat : ¬ 9223372036854775807 < (frS l).size + more.size := by omega
        have hlen2 : Hid ((L2.map bytesT).length = L2.length) := by unfold Hid; simp
        obtain ⟨Nn, hNn⟩ : ∃ Nn, Nn = (frS l).size + K := ⟨_, rfl⟩
        rw [← hNn] at CA
        have q1 : ((Nn : Int) == ((frS l).size : Int) + (K : Int)) = true := by rw [beq_iff_eq]; omega
        have hKI : (K : Int) ≤ 1000 := by omega
        have hSI : ((frS l).size : Int) ≤ 3360 := by omega
        have HL20 := hid h20
        have H1000 := hid h1000
        clear hjoin hall4 hL2 hL3 hNn hSz hlt hk h20 h1000
        generalize frS l = S at *
        go_upto_region 13 with (first
          | (go_at_call 16; first | (with_reducible refine (CA.out _).mono ?_; rintro e w2 ⟨v2, rfl, h2, a2⟩) | (with_reducible refine (CB.out _).mono ?_; rintro e w3 ⟨v3, rfl, h3, a3⟩)))
        obtain ⟨x2, c2, e2, X2, _⟩ := all_row h2 hsmall1.out
        rw [hT.out] at e2 X2
        subst e2
        obtain ⟨x3, c3, e3, X3, n3⟩ := all_row h3 hsmall2.out
        have hl2n : Hid ((L2.map bytesT).length ≤ 1000) := by unfold Hid; rw [hlen2.out]; exact H1000.out
        clear h2 h3 hsmall1 hsmall2 hT hlen2 H1000 CA CB CS hcat
        generalize L2.map bytesT = l2 at *
        subst e3
        have HX2 := hid X2
        have HX3 := hid X3
        have HN3 := hid n3
        have T3 : Hid (Touch [] w w3) := (HT.out.trans a2 (by simp)).trans a3 (by simp)
        have T23 : Hid (Touch [] w2 w3) := a3
        have HNN : Hid (l.length ≤ 20) := by have := HL20.out; unfold Hid; omega
        clear X2 X3 n3 a2 a3 HL20 H3 T1 HT
        have hsum : Hid (l.length + l2.length ≤ 2000) := by have := HNN.out; have := hl2n.out; unfold Hid; omega
        go_wp2_with (first
          | (go_at_call 8; refine (C0.out _).mono ?_; rintro e w4 ⟨rfl, a4⟩; have T4 : Hid (Touch [] w3 w4) := a4; clear a4)
          | (at_builtin; (refine wpList_append_texts (by rfl) (.const (.slice none 0 0)) (.tmp 71) (by rfl) w4.heap.size (.slice none 0 0) 0 [] (by rfl) (World.ownsRow_nil _ _ _ _) x l c (by rfl) ((HC.out.touch T3.out).touch T4.out) HN.out (by have := HNN.out; omega) (Nat.le_refl _) ?_; intro v5 w5 h5 g5; have T5 := hid (app_touch0 g5)))
          | (at_builtin; go_loud (refine wpList_append_texts (by rfl) (.tmp 72) (.tmp 73) (by rfl) w4.heap.size v5 (0 + l.length) ([] ++ l.map Value.string) (by rfl) h5 x3 l2 c3 (by rfl) ((HX3.out.touch T4.out).touch T5.out) HN3.out (by have := HNN.out; have := hl2n.out; omega) T5.out.size ?_; intro v6 w6 h6 g6; have T6 := hid (app_touch T5.out h5 g6); obtain ⟨x6, c6, rfl, X6, _⟩ := texts_of_row (l := l ++ l2) h6 (by simp) (by simp) hsizes.out))
          | (go_at_call 18; refine (same_app x2 x6 c2 c6 l l2 _ hsum.out (((HX2.out.touch T23.out).touch T4.out).touch T6.out) X6).mono ?_; rintro e w7 ⟨rfl, a7⟩))
        go_ret
        exact ⟨rfl, ((T3.out.trans T4.out (by simp)).trans T6.out (by simp)).trans a7 (by simp)⟩

theorem walk_FrameJoin (v : Value) (l : List ByteArray) (more : ByteArray) (_wm : more.size ≤ maxLen) (w : World) (hv : Strs w v l) :
    Calls Try.prog 7 #[v, .string more] w fun e w' => e = .returned (.bool true) ∧ Touch [] w w' := by
  obtain ⟨x, c, rfl, hl, hc, hn⟩ := hv
  exact fjoin_full x c l more w hc hl hn
end Go.Proofs.Ytkkalnegojhapaa
