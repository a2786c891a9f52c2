/- ProgParses, walked. -/
import Derived.Test.YtiglfdefeaddmaaGreatJoin
import Derived.Test.YtiglfdefeaddmaaGreatApart
import Derived.Test.YtiglfdefeaddmaaGreatAlive5
import Derived.Test.YtiglfdefeaddmaaGreatTakes
namespace Go.Proofs.YtiglfdefeaddmaaGreat
open Go.RowKit Go.Lib Go.ChangeShapes Go.WideShapes

def POk (s : ByteArray) (L : List ByteArray) : Prop := ∀ w : World, Calls Tryz.prog 7 #[.string s] w fun e W' => ∃ y c, e = .returned (.tuple #[.agg #[.slice y L.length c], .int .i64 0, .int .i64 0]) ∧ W'.ownsRow w.heap.size TStr 1 (.slice y L.length c) L.length (svals L) ∧ Touch [] w W'
def PNo (s : ByteArray) (c1 c2 : Int) : Prop := ∀ w : World, Calls Tryz.prog 7 #[.string s] w fun e W' => ∃ y c, e = .returned (.tuple #[.agg #[.slice y 0 c], .int .i64 c1, .int .i64 c2]) ∧ W'.ownsRow w.heap.size TStr 1 (.slice y 0 c) 0 [] ∧ Touch [] w W'
theorem parse_ways (s t : ByteArray) (L : List ByteArray) (hs : s.size ≤ 100000) (ht : t.size ≤ 100000) (h1 : wordsB s.data.toList = L) (h2 : wordsB t.data.toList = L) : ((checkOf L).1 = 0 ∧ (checkOf L).2 = 0 ∧ POk s L ∧ POk t L) ∨ ((checkOf L).1 ≠ 0 ∧ PNo s (checkOf L).1 (checkOf L).2) := by
  by_cases hz : (checkOf L).1 = 0
  · left
    have key : ∀ u : ByteArray, u.size ≤ 100000 → wordsB u.data.toList = L → POk u L := fun u hu he w => by
      have h := progParse_any u w hu
      rw [he, parsePost_ok hz] at h
      refine h.mono fun e W' ⟨ht, v, n, he, ho, hn⟩ => ?_
      subst hn
      obtain ⟨y, c, rfl⟩ := slice_own ho
      exact ⟨y, c, he, ho, ht⟩
    exact ⟨hz, check_zero_at hz, key s hs h1, key t ht h2⟩
  · right
    refine ⟨hz, fun w => ?_⟩
    have h := progParse_any s w hs
    rw [h1, parsePost_no hz] at h
    refine h.mono fun e W' ⟨ht, v, n, he, ho, hn⟩ => ?_
    subst hn
    obtain ⟨y, c, rfl, _, _⟩ := slice_form ho
    exact ⟨y, c, he, ho, ht⟩

theorem Kept.touch {W W' : World} {kb base : Nat} {tv wv : Value} {vs us : List Value} {Ls : List (List ByteArray)} (h : Kept W kb base tv wv vs us Ls) (t : Touch [] W W') : Kept W' kb base tv wv vs us Ls :=
  ⟨touch_other t h.blk (by simp), h.ge, h.n1, h.n2, owns_touch h.own1 t, owns_touch h.own2 t, h.far, fun i h1 h2 => owns_touch (h.r1 i h1 h2) t, fun i h1 h2 => owns_touch (h.r2 i h1 h2) t, h.ap, h.sz, h.few⟩
/-- How it stands at the loop's head. -/
structure ParsesR (W wr : World) (yl : Option Addr) (cl : Nat) (L : List ByteArray) (k : Nat) : Prop where
  kept : ∃ tv wv vs us Ls, Kept wr W.heap.size W.heap.size tv wv vs us Ls ∧ Ls.length = k ∧ ∀ M ∈ Ls, M.length ≤ 3100
  own : wr.ownsRow W.heap.size TStr 1 (.slice yl L.length cl) L.length (svals L)
  t : Touch [] W wr

theorem parses_long (s : ByteArray) (W : World) (h : (3000 : Int) < s.size) :
    Calls Tryz.prog 3 #[.string s] W fun e w' => e = .returned (.bool true) ∧ Touch [] W w' := by
  have AL := hid (fun w => alive_any w)
  go_enter Tryz.func3, Tryz.ntmps3
  go_wp2_with (go_at_call 4; refine (AL.out _).mono ?_; rintro e w1 ⟨rfl, t1⟩)
  go_ret
  exact ⟨rfl, t1⟩

set_option maxHeartbeats 8000000 in
set_option maxRecDepth 100000 in
theorem parses_in (s : ByteArray) (W : World) (hs : s.size ≤ 3000) :
    Calls Tryz.prog 3 #[.string s] W fun e w' => e = .returned (.bool true) ∧ Touch [] W w' := by
  have AL := hid (fun w => alive_any w)
  have hsI : (s.size : Int) ≤ 3000 := by omega
  have WD := hid (fun w => refWords_any s w hs)
  have HSZ : Hid (∀ t ∈ wordsB s.data.toList, t.size ≤ 3000) := hid (fun t ht => by have := wordsB_size s.data.toList t ht; rw [list_len] at this; omega)
  have HJ : Hid ((joinL (wordsB s.data.toList)).length ≤ 3001) := hid (by have := joinL_words s.data.toList; rw [list_len] at this; omega)
  have HWJ := hid (parse_ways s ⟨(joinL (wordsB s.data.toList)).toArray⟩ (wordsB s.data.toList) (by omega) (by have := HJ.out; show (joinL (wordsB s.data.toList)).length ≤ 100000; omega) rfl (words_joinL (wordsB s.data.toList) (wordsB_good _)))
  generalize wordsB s.data.toList = L at *
  go_enter Tryz.func3, Tryz.ntmps3
  go_wp2_with fail
  refine (WD.out _).mono ?_
  rintro e w1 ⟨lv, rfl, hl, hln, t1⟩
  obtain ⟨yl, cl, rfl, hyl, hyl'⟩ := slice_form hl
  have HL := hid hl
  have T1 := hid t1
  have HLN := hid hln
  have hln' : (L.length : Int) ≤ 3001 := by omega
  clear hl t1 hln WD
  have CK := hid (fun (w : World) (t : Touch [] w1 w) => refCheck_any yl cl L w (by have := HLN.out; omega) ((texts_row HL.out (fun x hx => by have := HSZ.out x hx; unfold maxLen; omega)).1.touch t) (fun x hx => by have := HSZ.out x hx; omega))
  have B1 := hid (touch_other T1.out (heap_alloc_new W (.cells #[nilS, nilS, nilS, nilS, nilS, nilS, nilS, nilS, nilS, nilS, nilS, nilS] TBook)) (by simp))
  have R1 : Hid (ParsesR W w1 yl cl L 0) := hid ⟨⟨nilS, nilS, [], [], [], ⟨B1.out, Nat.le_refl _, rfl, rfl, World.ownsRow_nil _ _ _ _, World.ownsRow_nil _ _ _ _, far_nil _ _ _, fun i h => absurd h (Nat.not_lt_zero i), fun i h => absurd h (Nat.not_lt_zero i), by simp, by simp, Nat.zero_le _⟩, rfl, by simp⟩, own_up HL.out (by simp), ((Touch.refl [] W).alloc _).trans T1.out (by simp)⟩
  generalize (checkOf L).1 = d1 at *
  generalize (checkOf L).2 = d2 at *
  go_wp2_with fail
  refine (CK.out _ (Touch.refl _ _)).mono ?_
  rintro e w2 ⟨rfl, rfl⟩
  clear CK T1 HL B1
  go_wp2
  go_loopw [7] (fun kv wr => ∃ k : Nat, k ≤ 2 ∧ kv = .int .i64 k ∧ ParsesR W wr yl cl L k) (fun kv _ => 2 - (RowKit.intOf kv).toNat)
  case atStart => exact ⟨0, by omega, rfl, R1.out⟩
  case round =>
    obtain ⟨k, hk, rfl, hR⟩ := hrel
    have HR := hid hR
    clear hR
    by_cases hlt : k < 2
    · have hkI : (k : Int) < 2 := by omega
      have hk0 : (0 : Int) ≤ k := by omega
      obtain ⟨tv, wv, vs, us, Ls, hkept, hlen, hsm⟩ := HR.out.kept
      have HKT := hid hkept
      have HLS := hid hlen
      have HSM := hid hsm
      clear hkept hlen hsm
      rcases HWJ.out with ⟨rfl, rfl, hp1, hp2⟩ | ⟨hne, hp1⟩
      · have P1 := hid hp1
        have P2 := hid hp2
        clear hp1 hp2
        go_wp2_with fail
        refine (P1.out _).mono ?_
        rintro e w3 ⟨y3, c3, rfl, ho3, t3⟩
        have O3 := hid ho3
        have T3 := hid t3
        clear ho3 t3
        have TX := hid (texts_any W.heap.size W.heap.size tv wv vs us Ls (.slice y3 L.length c3) wr.heap.size L (w3.alloc (.cells #[.slice y3 L.length c3] TProg)) ((HKT.out.touch T3.out).touch ((Touch.refl [] w3).alloc _)) (O3.out.alloc _) HR.out.t.size (fun u hu => by
          obtain ⟨n, xs, hr⟩ := HKT.out.row u hu
          exact far_new hr O3.out (Nat.le_refl _)) (by have := HLS.out; omega) ⟨by have := HLN.out; omega, fun x hx => by have := HSZ.out x hx; unfold maxLen; omega⟩ (by have := HR.out.t.size; have := T3.out.size; simp; omega))
        go_wp2_with fail
        refine TX.out.mono ?_
        rintro e w5 ⟨rfl, oth, new, tv', wv', u', hk5, _⟩
        have pb5 := oth _ _ _ _ (heap_alloc_new w3 (.cells #[.slice y3 L.length c3] TProg)) (by decide) (by decide)
        have K5 := hid hk5
        have O5 := hid (oth.row (O3.out.alloc _))
        have L5 := hid (oth.row ((owns_touch HR.out.own T3.out).alloc (.cells #[.slice y3 L.length c3] TProg)))
        have T5 := hid (new W ((HR.out.t.trans T3.out (by simp)).alloc _) (Nat.le_refl _))
        have p5 := cell_of pb5 0
        have PB := hid pb5
        clear oth new hk5 TX pb5
        have S5 := hid (same_rows O5.out L5.out (fun x hx => by have := HSZ.out x hx; unfold maxLen; omega) (by have := HLN.out; omega))
        go_wp2_with fail
        refine S5.out.mono ?_
        rintro e w6 ⟨rfl, t6⟩
        have T6 := hid t6
        have p6 := cell_of (touch_other t6 PB.out (by simp)) 0
        have X6 := hid (text_any (.slice y3 L.length c3) wr.heap.size L w6 (owns_touch O5.out t6) (by have := HJ.out; omega) (by have := HLN.out; omega))
        clear t6 S5 p5
        go_wp2_with fail
        refine X6.out.mono ?_
        rintro e w7 ⟨rfl, t7⟩
        have T7 := hid (T6.out.trans t7 (by simp))
        clear t7 X6 p6
        go_wp2_with fail
        refine (P2.out _).mono ?_
        rintro e w8 ⟨y8, c8, rfl, ho8, t8⟩
        have T8 := hid (T7.out.trans t8 (by simp))
        have S8 := hid (same_rows (ho8.alloc (.cells #[.slice y8 L.length c8] TProg)) ((owns_touch L5.out T8.out).alloc (.cells #[.slice y8 L.length c8] TProg)) (fun x hx => by have := HSZ.out x hx; unfold maxLen; omega) (by have := HLN.out; omega))
        clear ho8 t8
        go_wp2_with fail
        refine S8.out.mono ?_
        rintro e w9 ⟨rfl, t9⟩
        have T9 := hid ((T8.out.alloc (.cells #[.slice y8 L.length c8] TProg)).trans t9 (by simp))
        clear t9 S8
        go_wp2
        go_roundw
        case rel => exact ⟨k + 1, by omega, by go_num, ⟨⟨tv', wv', _, _, _, K5.out.touch T9.out, by simp; exact HLS.out, fun M hM => by
          rw [List.mem_append] at hM
          rcases hM with hM | hM
          · exact HSM.out M hM
          · simp at hM; subst hM; have := HLN.out; omega⟩, owns_touch L5.out T9.out, T5.out.trans T9.out (by simp)⟩⟩
        case measure => simp [RowKit.intOf]; omega
      · have P1 := hid hp1
        have hne1 : (d1 == 0) = false := by simpa using hne
        have hne2 : (d1 != 0) = true := by simpa using hne
        clear hp1 hne
        go_wp2_with fail
        refine (P1.out _).mono ?_
        rintro e w3 ⟨y3, c3, rfl, ho3, t3⟩
        have O3 := hid ho3
        have T3 := hid t3
        clear ho3 t3
        have TX := hid (texts_any W.heap.size W.heap.size tv wv vs us Ls (.slice y3 0 c3) wr.heap.size [] (w3.alloc (.cells #[.slice y3 0 c3] TProg)) ((HKT.out.touch T3.out).touch ((Touch.refl [] w3).alloc _)) (O3.out.alloc _) HR.out.t.size (fun u hu => by
          obtain ⟨n, xs, hr⟩ := HKT.out.row u hu
          exact far_new hr O3.out (Nat.le_refl _)) (by have := HLS.out; omega) ⟨by simp, fun x hx => by simp at hx⟩ (by have := HR.out.t.size; have := T3.out.size; simp; omega))
        go_wp2_with fail
        refine TX.out.mono ?_
        rintro e w5 ⟨rfl, oth, new, tv', wv', u', hk5, _⟩
        have pb5 := oth _ _ _ _ (heap_alloc_new w3 (.cells #[.slice y3 0 c3] TProg)) (by decide) (by decide)
        have K5 := hid hk5
        have L5 := hid (oth.row ((owns_touch HR.out.own T3.out).alloc (.cells #[.slice y3 0 c3] TProg)))
        have T5 := hid (new W ((HR.out.t.trans T3.out (by simp)).alloc _) (Nat.le_refl _))
        have p5 := cell_of pb5 0
        clear oth new hk5 TX pb5
        go_wp2
        go_roundw
        case rel => exact ⟨k + 1, by omega, by go_num, ⟨⟨tv', wv', _, _, _, K5.out, by simp; exact HLS.out, fun M hM => by
          rw [List.mem_append] at hM
          rcases hM with hM | hM
          · exact HSM.out M hM
          · simp at hM; subst hM; simp⟩, L5.out, T5.out⟩⟩
        case measure => simp [RowKit.intOf]; omega
    · obtain rfl : k = 2 := by omega
      obtain ⟨tv, wv, vs, us, Ls, hkept, hlen, hsm⟩ := HR.out.kept
      have HKT := hid hkept
      have HSM := hid hsm
      clear hkept hlen hsm HWJ
      go_wp2_with fail
      refine (AL.out _).mono ?_
      rintro e w3 ⟨rfl, t3⟩
      have T3 := hid (HR.out.t.trans t3 (by simp))
      have AP := hid (apart_any W.heap.size W.heap.size tv wv vs us Ls w3 (HKT.out.touch t3) HSM.out T3.out.size)
      clear t3
      go_wp2_with fail
      refine AP.out.mono ?_
      rintro e w4 ⟨rfl, n4⟩
      have T4 := hid (n4 W T3.out (Nat.le_refl _))
      clear n4 AP
      go_wp2
      go_ret
      exact ⟨rfl, T4.out⟩
theorem walk_ProgParses (s : ByteArray) (_ : s.size ≤ maxLen) (W : World) :
    Calls Tryz.prog 3 #[.string s] W fun e w' => e = .returned (.bool true) ∧ Touch [] W w' := by
  by_cases h : s.size ≤ 3000
  · exact parses_in s W h
  · exact parses_long s W (by omega)
end Go.Proofs.YtiglfdefeaddmaaGreat
