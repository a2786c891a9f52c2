/- What the laws' own reader's Text returns and leaves; their test of the steps. -/
import Derived.Test.YtcihnfgfficmlaaRefIn
namespace Go.Proofs.Ytcihnfgfficmlaa
set_option maxRecDepth 100000
open Go.RowKit Go.Lib

set_option maxHeartbeats 400000 in
theorem rText_st (x : Nat) (st : List UInt8 × Int) (most : Int) (w : World) (h : RefIs w x st) (hl : st.1.length ≤ 100000) :
    Calls Try.prog 50 #[.pointer (some ⟨x, 0, none⟩), .int .i64 most] w fun e w' => e = .returned (.string ⟨(iText st most).1.toArray⟩) ∧ RPost x (iText st most).2 w w' := by
  have C := hid (rNum_st x st 4 w h (by decide) hl)
  obtain ⟨B, hB, _⟩ := h
  have c0 : w.cell? ⟨x, 0, none⟩ = some (.string B) := cell_of hB 0
  have hz := iTake_err st 4
  have hv : val (iTake st 4).1 < 4294967296 := Nat.lt_of_lt_of_le (val_lt _) (Nat.le_trans (Nat.pow_le_pow_right (by decide) (iTake_len st 4)) (by decide))
  have hle := (iTake_le st 4).2
  have hT : Hid (iText st most = if (iTake st 4).2.2 = 0 ∧ most < (val (iTake st 4).1 : Int) then ([], ([], 2)) else iTake (iTake st 4).2 (val (iTake st 4).1)) := rfl
  have HT := hid hT.out
  clear hT
  generalize iText st most = R at *
  generalize iTake st 4 = r at *
  generalize hn : val r.1 = n at *
  obtain ⟨r1, r2, er⟩ := r
  simp only [] at *
  have n1 : (n : Int) < 4294967296 := by omega
  have n2 : (0 : Int) ≤ n := by omega
  clear hB hv hn
  go_enter Try.func50, Try.ntmps50
  go_wp2_with fail
  refine C.out.mono ?_
  rintro e w1 ⟨rfl, hp⟩
  obtain ⟨⟨B1, hB1, hb1⟩, ht⟩ := hp
  simp only [] at hB1 hb1
  have d0 : w1.cell? ⟨x, 0, none⟩ = some (.string B1) := cell_of hB1 0
  have d1 : w1.cell? ⟨x, 1, none⟩ = some (.int .i64 er) := cell_of hB1 1
  have f0 : w1.frozen? ⟨x, 0, none⟩ = false := free_of hB1 0
  have H1 := hid hB1; have T1 := hid ht; have Hb1 := hid hb1
  clear hB1 hb1 ht
  by_cases he : er = 0
  · subst he
    have hB := Hb1.out rfl
    have hlen : B1.size = r2.length := by rw [← hB, list_len]
    by_cases hm : most < (n : Int)
    · have hR : Hid (R = ([], ([], 2))) := by have := HT.out; unfold Hid; rw [this, if_pos ⟨rfl, hm⟩]
      have hs : Hid ((w1.setCell ⟨x, 0, none⟩ (.string B)).heap[x]? = some (.cells #[.string B, .int .i64 0] tRIn (0, 0))) := by unfold Hid; rw [heap_set H1.out]; simp
      have C2 := hid (rFail_any x B 2 _ hs.out)
      clear hB hlen HT hz hle
      go_wp2_with (go_at_call 80; refine C2.out.mono ?_; rintro e w2 ⟨rfl, hp1, hp2⟩)
      have P1 := hid hp1
      go_ret
      rw [hR.out]
      exact ⟨rfl, ⟨B, P1.out, fun h => absurd h (by decide)⟩, (T1.out.setCell (.inl (by simp)) _).trans hp2 (by simp)⟩
    · have hm2 : decide (most < (n : Int)) = false := by simp; omega
      have hR : Hid (R = iTake (r2, 0) n) := by have := HT.out; unfold Hid; rw [this, if_neg (fun h => hm h.2)]
      by_cases hs : r2.length < n
      · have hR2 : Hid (R = ([], ([], 5))) := by have := hR.out; unfold Hid; rw [this, iTake_short r2 n hs]
        have h1 : (B1.size : Int) < n := by omega
        have hs2 : Hid ((w1.setCell ⟨x, 0, none⟩ (.string B)).heap[x]? = some (.cells #[.string B, .int .i64 0] tRIn (0, 0))) := by unfold Hid; rw [heap_set H1.out]; simp
        have C2 := hid (rFail_any x B 5 _ hs2.out)
        clear hB hlen HT hR hz hm hle hs
        have hR := hR2; clear hR2
        go_wp2_with (go_at_call 80; refine C2.out.mono ?_; rintro e w2 ⟨rfl, hp1, hp2⟩)
        have P1 := hid hp1
        go_ret
        rw [hR.out]
        exact ⟨rfl, ⟨B, P1.out, fun h => absurd h (by decide)⟩, (T1.out.setCell (.inl (by simp)) _).trans hp2 (by simp)⟩
      · have hR2 : Hid (R = (r2.take n, (r2.drop n, 0))) := by have := hR.out; unfold Hid; rw [this, iTake_good r2 n (by omega)]
        have h1 : (n : Int) ≤ B1.size := by omega
        have e1 := hid (str_eq (show (B1.extract 0 n).data.toList = r2.take n by rw [extract_data, hB]; simp))
        have e2 := hid (show (B1.extract n B1.size).data.toList = r2.drop n by rw [extract_data, hB, hlen]; apply List.take_of_length_le; simp)
        clear hB hlen HT hR hz hm hle hs
        have hR := hR2; clear hR2
        have K1 := hid h1; clear h1
        go_upto_region 9 with fail
        have t2 : decide (B1.size < n) = false := by have := K1.out; simp; omega
        have N2 := hid n2
        clear hm2 n1 n2
        go_upto_region 13 with fail
        have h1 := K1.out
        have n2 := N2.out
        clear t2
        go_wp2
        go_ret
        rw [hR.out]
        refine ⟨by rw [← e1.out]; rfl, ⟨B1.extract n B1.size, ?_, fun _ => e2.out⟩, T1.out.setCell (.inl (by simp)) _⟩
        rw [heap_set H1.out]; simp
  · have h1 : (er != 0) = true := by simpa using he
    have hR : Hid (R = ([], (r2, er))) := by have := HT.out; unfold Hid; rw [this, if_neg (fun h => he h.1), iTake_bad _ _ he]
    clear HT hz he hle
    go_wp2
    go_ret
    rw [hR.out]
    exact ⟨rfl, ⟨B1, H1.out, Hb1.out⟩, T1.out⟩
end Go.Proofs.Ytcihnfgfficmlaa
