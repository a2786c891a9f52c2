/- The book's methods over kinds of which nothing was kept. The book's marks and copies of lists: Entries. The book: one more list; is each still what it was: Entries. The book: marks are put: Entries. The book: lists are grown, and marks looked at: Entries. The book's marks and copies of lists: Ints. The book: one more list; is each still what it was: Ints. The book: marks are put: Ints. The book: lists are grown, and marks looked at: Ints. The book's Apart: Ints, Entries. The book of lists of entries and of ints, with what is about to be kept. -/
import Derived.Test.YtdjcpdlfapfmkaaGreatBg13
import Derived.Test.YtdjcpdlfapfmkaaGreatBt13
import Derived.Test.YtdjcpdlfapfmkaaGreatSe12
import Derived.Test.YtdjcpdlfapfmkaaGreatSi13
import Derived.Test.YtdjcpdlfapfmkaaGreatSw12
import Derived.Test.YtdjcpdlfapfmkaaGreatHeld
namespace Go.Proofs.YtdjcpdlfapfmkaaGreat
set_option maxRecDepth 100000
open Go.RowKit Go.Lib

theorem none_stillTexts (kb : Nat) (W : World) (c0 : W.cell? ⟨kb, 0, none⟩ = some nilS) : Calls Tryz.prog 53 #[.pointer (some ⟨kb, 0, none⟩)] W fun e w' => e = .returned (.bool true) ∧ W = w' := by
  go_enter Tryz.func53, Tryz.ntmps53
  go_wp2
  refine wp_loop_rounds 1 ?_
  rw [rounds_succ]
  go_wp2
  go_ret
  exact ⟨rfl, rfl⟩
theorem none_putTexts (kb : Nat) (W : World) (c0 : W.cell? ⟨kb, 0, none⟩ = some nilS) : Calls Tryz.prog 60 #[.pointer (some ⟨kb, 0, none⟩)] W fun e w' => e = .returned (.tuple #[]) ∧ W = w' := by
  go_enter Tryz.func60, Tryz.ntmps60
  go_wp2
  refine wp_loop_rounds 1 ?_
  rw [rounds_succ]
  go_wp2
  go_end0
  exact ⟨rfl, rfl⟩
theorem none_growTexts (kb : Nat) (W : World) (c0 : W.cell? ⟨kb, 0, none⟩ = some nilS) : Calls Tryz.prog 65 #[.pointer (some ⟨kb, 0, none⟩)] W fun e w' => e = .returned nilS ∧ W = w' := by
  go_enter Tryz.func65, Tryz.ntmps65
  go_wp2
  refine wp_loop_rounds 1 ?_
  rw [rounds_succ]
  go_wp2
  go_ret
  exact ⟨rfl, rfl⟩
theorem none_markedTexts (W : World) : Calls Tryz.prog 71 #[nilS] W fun e w' => e = .returned (.bool true) ∧ W = w' := by
  go_enter Tryz.func71, Tryz.ntmps71
  go_wp2
  refine wp_loop_rounds 1 ?_
  rw [rounds_succ]
  go_wp2
  go_ret
  exact ⟨rfl, rfl⟩
theorem none_stillInts (kb : Nat) (W : World) (c0 : W.cell? ⟨kb, 2, none⟩ = some nilS) : Calls Tryz.prog 54 #[.pointer (some ⟨kb, 0, none⟩)] W fun e w' => e = .returned (.bool true) ∧ W = w' := by
  go_enter Tryz.func54, Tryz.ntmps54
  go_wp2
  refine wp_loop_rounds 1 ?_
  rw [rounds_succ]
  go_wp2
  go_ret
  exact ⟨rfl, rfl⟩
theorem none_putInts (kb : Nat) (W : World) (c0 : W.cell? ⟨kb, 2, none⟩ = some nilS) : Calls Tryz.prog 61 #[.pointer (some ⟨kb, 0, none⟩)] W fun e w' => e = .returned (.tuple #[]) ∧ W = w' := by
  go_enter Tryz.func61, Tryz.ntmps61
  go_wp2
  refine wp_loop_rounds 1 ?_
  rw [rounds_succ]
  go_wp2
  go_end0
  exact ⟨rfl, rfl⟩
theorem none_growInts (kb : Nat) (W : World) (c0 : W.cell? ⟨kb, 2, none⟩ = some nilS) : Calls Tryz.prog 66 #[.pointer (some ⟨kb, 0, none⟩)] W fun e w' => e = .returned nilS ∧ W = w' := by
  go_enter Tryz.func66, Tryz.ntmps66
  go_wp2
  refine wp_loop_rounds 1 ?_
  rw [rounds_succ]
  go_wp2
  go_ret
  exact ⟨rfl, rfl⟩
theorem none_markedInts (W : World) : Calls Tryz.prog 72 #[nilS] W fun e w' => e = .returned (.bool true) ∧ W = w' := by
  go_enter Tryz.func72, Tryz.ntmps72
  go_wp2
  refine wp_loop_rounds 1 ?_
  rw [rounds_succ]
  go_wp2
  go_ret
  exact ⟨rfl, rfl⟩
theorem none_stillStored (kb : Nat) (W : World) (c0 : W.cell? ⟨kb, 4, none⟩ = some nilS) : Calls Tryz.prog 55 #[.pointer (some ⟨kb, 0, none⟩)] W fun e w' => e = .returned (.bool true) ∧ W = w' := by
  go_enter Tryz.func55, Tryz.ntmps55
  go_wp2
  refine wp_loop_rounds 1 ?_
  rw [rounds_succ]
  go_wp2
  go_ret
  exact ⟨rfl, rfl⟩
theorem none_putStored (kb : Nat) (W : World) (c0 : W.cell? ⟨kb, 4, none⟩ = some nilS) : Calls Tryz.prog 62 #[.pointer (some ⟨kb, 0, none⟩)] W fun e w' => e = .returned (.tuple #[]) ∧ W = w' := by
  go_enter Tryz.func62, Tryz.ntmps62
  go_wp2
  refine wp_loop_rounds 1 ?_
  rw [rounds_succ]
  go_wp2
  go_end0
  exact ⟨rfl, rfl⟩
theorem none_growStored (kb : Nat) (W : World) (c0 : W.cell? ⟨kb, 4, none⟩ = some nilS) : Calls Tryz.prog 67 #[.pointer (some ⟨kb, 0, none⟩)] W fun e w' => e = .returned nilS ∧ W = w' := by
  go_enter Tryz.func67, Tryz.ntmps67
  go_wp2
  refine wp_loop_rounds 1 ?_
  rw [rounds_succ]
  go_wp2
  go_ret
  exact ⟨rfl, rfl⟩
theorem none_markedStored (W : World) : Calls Tryz.prog 73 #[nilS] W fun e w' => e = .returned (.bool true) ∧ W = w' := by
  go_enter Tryz.func73, Tryz.ntmps73
  go_wp2
  refine wp_loop_rounds 1 ?_
  rw [rounds_succ]
  go_wp2
  go_ret
  exact ⟨rfl, rfl⟩
theorem none_stillEntries (kb : Nat) (W : World) (c0 : W.cell? ⟨kb, 6, none⟩ = some nilS) : Calls Tryz.prog 56 #[.pointer (some ⟨kb, 0, none⟩)] W fun e w' => e = .returned (.bool true) ∧ W = w' := by
  go_enter Tryz.func56, Tryz.ntmps56
  go_wp2
  refine wp_loop_rounds 1 ?_
  rw [rounds_succ]
  go_wp2
  go_ret
  exact ⟨rfl, rfl⟩
theorem none_putEntries (kb : Nat) (W : World) (c0 : W.cell? ⟨kb, 6, none⟩ = some nilS) : Calls Tryz.prog 63 #[.pointer (some ⟨kb, 0, none⟩)] W fun e w' => e = .returned (.tuple #[]) ∧ W = w' := by
  go_enter Tryz.func63, Tryz.ntmps63
  go_wp2
  refine wp_loop_rounds 1 ?_
  rw [rounds_succ]
  go_wp2
  go_end0
  exact ⟨rfl, rfl⟩
theorem none_growEntries (kb : Nat) (W : World) (c0 : W.cell? ⟨kb, 6, none⟩ = some nilS) : Calls Tryz.prog 68 #[.pointer (some ⟨kb, 0, none⟩)] W fun e w' => e = .returned nilS ∧ W = w' := by
  go_enter Tryz.func68, Tryz.ntmps68
  go_wp2
  refine wp_loop_rounds 1 ?_
  rw [rounds_succ]
  go_wp2
  go_ret
  exact ⟨rfl, rfl⟩
theorem none_markedEntries (W : World) : Calls Tryz.prog 74 #[nilS] W fun e w' => e = .returned (.bool true) ∧ W = w' := by
  go_enter Tryz.func74, Tryz.ntmps74
  go_wp2
  refine wp_loop_rounds 1 ?_
  rw [rounds_succ]
  go_wp2
  go_ret
  exact ⟨rfl, rfl⟩
theorem none_stillPackets (kb : Nat) (W : World) (c0 : W.cell? ⟨kb, 8, none⟩ = some nilS) : Calls Tryz.prog 57 #[.pointer (some ⟨kb, 0, none⟩)] W fun e w' => e = .returned (.bool true) ∧ W = w' := by
  go_enter Tryz.func57, Tryz.ntmps57
  go_wp2
  refine wp_loop_rounds 1 ?_
  rw [rounds_succ]
  go_wp2
  go_ret
  exact ⟨rfl, rfl⟩
theorem none_putPackets (kb : Nat) (W : World) (c0 : W.cell? ⟨kb, 8, none⟩ = some nilS) : Calls Tryz.prog 64 #[.pointer (some ⟨kb, 0, none⟩)] W fun e w' => e = .returned (.tuple #[]) ∧ W = w' := by
  go_enter Tryz.func64, Tryz.ntmps64
  go_wp2
  refine wp_loop_rounds 1 ?_
  rw [rounds_succ]
  go_wp2
  go_end0
  exact ⟨rfl, rfl⟩
theorem none_growPackets (kb : Nat) (W : World) (c0 : W.cell? ⟨kb, 8, none⟩ = some nilS) : Calls Tryz.prog 69 #[.pointer (some ⟨kb, 0, none⟩)] W fun e w' => e = .returned nilS ∧ W = w' := by
  go_enter Tryz.func69, Tryz.ntmps69
  go_wp2
  refine wp_loop_rounds 1 ?_
  rw [rounds_succ]
  go_wp2
  go_ret
  exact ⟨rfl, rfl⟩
theorem none_markedPackets (W : World) : Calls Tryz.prog 75 #[nilS] W fun e w' => e = .returned (.bool true) ∧ W = w' := by
  go_enter Tryz.func75, Tryz.ntmps75
  go_wp2
  refine wp_loop_rounds 1 ?_
  rw [rounds_succ]
  go_wp2
  go_ret
  exact ⟨rfl, rfl⟩
theorem none_stillSteps (kb : Nat) (W : World) (c0 : W.cell? ⟨kb, 10, none⟩ = some nilS) : Calls Tryz.prog 58 #[.pointer (some ⟨kb, 0, none⟩)] W fun e w' => e = .returned (.bool true) ∧ W = w' := by
  go_enter Tryz.func58, Tryz.ntmps58
  go_wp2
  refine wp_loop_rounds 1 ?_
  rw [rounds_succ]
  go_wp2
  go_ret
  exact ⟨rfl, rfl⟩
theorem none_putSteps (kb : Nat) (W : World) (c0 : W.cell? ⟨kb, 10, none⟩ = some nilS) : Calls Tryz.prog 59 #[.pointer (some ⟨kb, 0, none⟩)] W fun e w' => e = .returned (.tuple #[]) ∧ W = w' := by
  go_enter Tryz.func59, Tryz.ntmps59
  go_wp2
  refine wp_loop_rounds 1 ?_
  rw [rounds_succ]
  go_wp2
  go_end0
  exact ⟨rfl, rfl⟩
theorem none_growSteps (kb : Nat) (W : World) (c0 : W.cell? ⟨kb, 10, none⟩ = some nilS) : Calls Tryz.prog 70 #[.pointer (some ⟨kb, 0, none⟩)] W fun e w' => e = .returned nilS ∧ W = w' := by
  go_enter Tryz.func70, Tryz.ntmps70
  go_wp2
  refine wp_loop_rounds 1 ?_
  rw [rounds_succ]
  go_wp2
  go_ret
  exact ⟨rfl, rfl⟩
theorem none_markedSteps (W : World) : Calls Tryz.prog 76 #[nilS] W fun e w' => e = .returned (.bool true) ∧ W = w' := by
  go_enter Tryz.func76, Tryz.ntmps76
  go_wp2
  refine wp_loop_rounds 1 ?_
  rw [rounds_succ]
  go_wp2
  go_ret
  exact ⟨rfl, rfl⟩
end Go.Proofs.YtdjcpdlfapfmkaaGreat

namespace Go.Proofs.YtdjcpdlfapfmkaaGreat
set_option maxRecDepth 100000
open Go.RowKit Go.Lib Go.ChangeShapes Go.WideShapes


abbrev TSSE : TypeId := 36
theorem infoSSE : (Tryz.prog.info? TEns).map (fun i => (i.zero, i.size, i.bytes)) = some (some nilS, 1, 24) := by kernel_rfl
def markE (i k : Nat) : En := (0, 0, -1000 * (i : Int) - (k : Int) - 1)
abbrev kdE : Kd := { α := En, TE := TEn, TSS := TEns, sz := 3, enc := envals, mar := markE }
theorem kdokE : KdOk kdE := ⟨fun l => envals_len l, fun l m => envals_append l m, fun l => envals_one l, by show TEn ≠ TBook; decide, by show TEns ≠ TBook; decide, by show TEn ≠ TEns; decide⟩

set_option maxHeartbeats 1000000 in
theorem markE_any (i f n : Nat) (W : World) (hi : i ≤ 1000) (hf : f + n ≤ 100000) :
    Calls Tryz.prog 106 #[.int .i64 i, .int .i64 f, .int .i64 n] W fun e w' => ∃ v, e = .returned v ∧ w'.ownsRow W.heap.size TEn 3 v n (envals (marks kdE i f n)) ∧ Touch [] W w' := by
  obtain ⟨i0, hi0, hz0, hz1, hz2⟩ := info_parts infoEn
  have b1 : (f : Int) + n ≤ 100000 := by omega
  have b2 : (0 : Int) ≤ f := by omega
  have b3 : (0 : Int) ≤ n := by omega
  have b0 : (i : Int) ≤ 1000 := by omega
  have b00 : (0 : Int) ≤ i := by omega
  go_enter Tryz.func106, Tryz.ntmps106
  go_wp2
  go_loopw [7, 8] (fun ov kv wr => ∃ j : Nat, j ≤ n ∧ kv = .int .i64 ((f : Int) + j) ∧ wr.ownsRow W.heap.size TEn 3 ov j (envals (marks kdE i f j)) ∧ Touch [] W wr) (fun _ kv _ => f + n - (RowKit.intOf kv).toNat)
  case atStart => exact ⟨0, Nat.zero_le _, by simp, World.ownsRow_nil _ _ _ _, Touch.refl _ _⟩
  case round =>
    obtain ⟨j, hj, rfl, hown, ht⟩ := hrel
    obtain ⟨yu, cu, rfl, -, -⟩ := slice_form hown
    have HO := hid hown
    have HT := hid ht
    clear hown ht
    have b4 : (0 : Int) ≤ j := by omega
    have b5 : (f : Int) + j ≤ 100000 := by omega
    by_cases hlt : j < n
    · have hlt2 : ((f : Int) + j < (f : Int) + n) := by omega
      have hmk := hid (marks_snoc kdE i f j)
      rw [show kdE.mar i (f + j) = ((0, 0, -1000 * (i : Int) - ((f : Int) + (j : Int)) - 1) : En) by show markE i (f + j) = _; unfold markE; rw [Int.natCast_add]] at hmk
      go_wp2_with (at_builtin; refine wpList_append_grew _ rfl _ _ TEns rfl W.heap.size TEn i0 (.agg #[.int .i64 0, .int .i64 0, .int .i64 0]) 3 24 Tryz.underlying22 hi0 hz0 hz1 hz2 rfl (by decide) _ j (envals (marks kdE i f j)) rfl (HO.out.alloc _) (.slice (some ⟨wr.heap.size, 0, none⟩) 1 1) 1 0 (enc3 (0, 0, -1000 * (i : Int) - ((f : Int) + (j : Int)) - 1)) rfl (lit_en _ (0, 0, -1000 * (i : Int) - ((f : Int) + (j : Int)) - 1) _ rfl) (enc3_one _) (by omega) (by decide) (by have := HT.out.size; simp; omega) ?_; intro y cap w2 hG; have G := hid hG; clear hG)
      go_roundw
      case rel => exact ⟨j + 1, by omega, by go_num, by rw [← hmk.out]; exact (by rw [envals_append]; simpa [envals] using G.out.own), G.out.touch (HO.out.alloc _) (HT.out.alloc _) (Nat.le_refl _)⟩
      case measure => simp [RowKit.intOf]; omega
    · obtain rfl : j = n := by omega
      go_wp2
      go_ret
      exact ⟨_, rfl, HO.out, HT.out⟩

theorem copyE_any (v : Value) (n bv : Nat) (l : List En) (W : World) (hv : W.ownsRow bv TEn 3 v n (envals l)) (hn : n ≤ 100000) :
    Calls Tryz.prog 50 #[v] W fun e w' => ∃ u, e = .returned u ∧ w'.ownsRow W.heap.size TEn 3 u n (envals l) ∧ Touch [] W w' := by
  obtain ⟨i0, hi0, hz0, hz1, hz2⟩ := info_parts infoEn
  have HV := hid hv
  clear hv
  go_enter Tryz.func50, Tryz.ntmps50
  go_wp2_with (at_builtin; refine wpList_append_grew _ rfl _ _ TEns rfl W.heap.size TEn i0 (.agg #[.int .i64 0, .int .i64 0, .int .i64 0]) 3 24 Tryz.underlying22 hi0 hz0 hz1 hz2 rfl (by decide) (.slice none 0 0) 0 [] rfl (World.ownsRow_nil _ _ _ _) v n bv (envals l) rfl HV.out (envals_one l) (by omega) (by decide) (Nat.le_refl _) ?_; intro y cap w2 hG; have G := hid hG; clear hG)
  go_ret
  exact ⟨_, rfl, by have := G.out.own; simpa using this, G.out.touch (World.ownsRow_nil _ _ _ _) (Touch.refl _ _) (Nat.le_refl _)⟩

theorem sameE_rows {w : World} {b1 b2 n1 n2 : Nat} {u v : Value} {l : List En} (hu : w.ownsRow b1 TEn 3 u n1 (envals l)) (hv : w.ownsRow b2 TEn 3 v n2 (envals l)) (hl : l.length ≤ 1000000) :
    Calls Tryz.prog 21 #[u, v] w fun e w' => e = .returned (.bool true) ∧ Touch [] w w' :=
  sameEns_rows hu hv hl (fun x1 x2 c1 c2 h1 h2 => sameEntries_any x1 x2 c1 c2 l l w hl hl h1 h2)
end Go.Proofs.YtdjcpdlfapfmkaaGreat

namespace Go.Proofs.YtdjcpdlfapfmkaaGreat
set_option maxRecDepth 100000
open Go.RowKit Go.Lib Go.ChangeShapes Go.WideShapes

set_option maxHeartbeats 4000000 in
theorem putE1_any (kb base : Nat) (c : Cs) (vs us : List Value) (Ls : List (List En)) (v : Value) (bv : Nat) (L : List En) (W : World) (hB : BkBlk W kb c) (hge : base ≤ kb) (hK : Kept kdE W base (c 6) (c 7) vs us Ls) (hv : W.ownsRow bv TEn 3 v L.length (envals L)) (hbv : base ≤ bv) (hf : ∀ u ∈ vs ++ us, Far u v) (hn : Ls.length < 250) (hL : L.length ≤ 3100) (hb : base ≤ W.heap.size) :
    Calls Tryz.prog 17 #[.pointer (some ⟨kb, 0, none⟩), v] W fun e W' => e = .returned (.tuple #[]) ∧ Rest [TBook, TEns] W W' ∧ Newer W base W' ∧ W.heap.size ≤ W'.heap.size ∧ ∃ tv' wv' u, BkBlk W' kb (upd (upd c 6 tv') 7 wv') ∧ Kept kdE W' base tv' wv' (vs ++ [v]) (us ++ [u]) (Ls ++ [L]) ∧ (∀ k, u.ownBlock = some k → W.heap.size ≤ k) := by
  obtain ⟨i0, hi0, hz0, hz1, hz2⟩ := info_parts infoSSE
  obtain ⟨y1, c1, e1, hy1, hy1'⟩ := slice_form hK.own1
  obtain ⟨y2, c2, e2, hy2, hy2'⟩ := slice_form hK.own2
  obtain ⟨yv, cv, rfl, hyv, hyv'⟩ := slice_form hv
  have k0 := bk_cell hB 6 (by decide)
  have f0 := free_of hB 6
  have HB0 := hid hB
  have E1 := hid e1
  have E2 := hid e2
  rw [show c ⟨6, by decide⟩ = .slice y1 Ls.length c1 from e1] at k0
  have HK := hid hK
  have HV := hid hv
  have hnI : (Ls.length : Int) < 250 := by omega
  clear hK hv hB e1 e2
  have KO : Hid (W.ownsRow base TEns 1 (.slice y1 Ls.length c1) Ls.length vs) := hid (by have := HK.out.own1; rwa [E1.out] at this)
  have KO2 : Hid (W.ownsRow base TEns 1 (.slice y2 Ls.length c2) Ls.length us) := hid (by have := HK.out.own2; rwa [E2.out] at this)
  have KF : Hid (Far (.slice y1 Ls.length c1) (.slice y2 Ls.length c2)) := hid (by have := HK.out.far; rwa [E1.out, E2.out] at this)
  go_enter Tryz.func17, Tryz.ntmps17
  go_wp2_with (at_builtin; refine wpList_append_grew _ rfl (.tmp 14) (.tmp 16) TSSE rfl base TEns i0 nilS 1 24 Tryz.underlying36 hi0 hz0 hz1 hz2 rfl (by decide) (.slice y1 Ls.length c1) Ls.length vs rfl (KO.out.alloc _) (.slice (some ⟨W.heap.size, 0, none⟩) 1 1) 1 0 [.slice yv L.length cv] rfl (lit_one _ _ _ _ rfl) (by intro u hu; simp at hu; subst hu; rfl) (by omega) (by decide) (by simp; omega) ?_; intro y3 c3 w1 hG; (have b1 : BkBlk w1 kb c := hG.block (KO.out.alloc _) (heap_alloc_keep HB0.out _) (by decide)); (have k10 := bk_cell b1 6 (by decide)); (have f10 := free_of b1 6); have B1 := hid b1; have G := hid hG; clear hG b1 k0 f0)
  go_upto_region 2 with fail
  have OW : Hid (Rest [TBook, TEns] W (w1.setCell ⟨kb, 6, none⟩ (.slice y3 (Ls.length + 1) c3))) := hid (((Rest.touch ((Touch.refl [] W).alloc _)).trans (G.out.rest (KO.out.alloc _) (by simp))).trans (Rest.set B1.out 6 _ (by simp)))
  have O1 := hid (own_set_book B1.out G.out.own (by decide) 6 (.slice y3 (Ls.length + 1) c3))
  have O2 := hid (own_set_book B1.out (G.out.other KF.out (KO2.out.alloc _)) (by decide) 6 (.slice y3 (Ls.length + 1) c3))
  have F2 := hid (G.out.far KF.out (KO2.out.alloc _))
  have T2 : Hid (Newer W base (w1.setCell ⟨kb, 6, none⟩ (.slice y3 (Ls.length + 1) c3))) := hid ((((Newer.refl W base).touch ((Touch.refl [] W).alloc _)).grew G.out (KO.out.alloc _) (Nat.le_refl _)).set hge _)
  have hb2 : BkBlk (w1.setCell ⟨kb, 6, none⟩ (.slice y3 (Ls.length + 1) c3)) kb (upd c 6 (.slice y3 (Ls.length + 1) c3)) := bk_set B1.out 6 (by decide) _
  have ZW : Hid (W.heap.size ≤ (w1.setCell ⟨kb, 6, none⟩ (.slice y3 (Ls.length + 1) c3)).heap.size) := hid (by have := G.out.size; simp at this ⊢; omega)
  clear k10 f10 B1 G KO
  generalize w1.setCell ⟨kb, 6, none⟩ (.slice y3 (Ls.length + 1) c3) = w2 at *
  have B2 := hid hb2
  have C2 : Hid (∀ w, Touch [] w2 w → w.cell? ⟨kb, 7, none⟩ = some (.slice y2 Ls.length c2)) := hid fun w t => by
    have h := bk_cell (bk_touch B2.out t) 7 (by decide)
    rw [show upd c 6 (.slice y3 (Ls.length + 1) c3) ⟨7, by decide⟩ = .slice y2 Ls.length c2 from (upd_other c _ (by decide)).trans E2.out] at h
    exact h
  have k21 := C2.out _ (Touch.refl _ _)
  clear hb2
  have CT := hid (fun w (t : Touch [] w2 w) => copyE_any (.slice yv L.length cv) L.length bv L w (owns_touch (OW.out.row HV.out (by decide)) t) (by omega))
  have k2d : w2.drew.cell? ⟨kb, 7, none⟩ = some (.slice y2 Ls.length c2) := k21
  go_region_law (first
      | (refine step_call _ rfl (f := 50) (args := #[.slice yv L.length cv]) (by simp [go_sem, Act.eval]) (CT.out _ ((Touch.refl [] w2).drew)) ?_
         rintro e w3 ⟨u, rfl, hu, t3⟩
         obtain ⟨yu, cu, rfl, _, _⟩ := slice_form hu
         refine ⟨_, rfl, ?_⟩
         have T3 : Hid (Touch [] w2 w3) := hid (((Touch.refl [] w2).drew).trans t3 (by simp))
         have HU := hid hu
         have B3 : Hid (BkBlk w3 kb (upd c 6 (.slice y3 (Ls.length + 1) c3))) := hid (bk_touch B2.out T3.out)
         have k31 := C2.out _ T3.out
         have k32 := fun o : Obj => C2.out _ (T3.out.alloc o)
         clear hu t3)
      | (refine step_append_grew _ rfl (.tmp 24) (.tmp 27) TSSE rfl base TEns i0 nilS 1 24 Tryz.underlying36 hi0 hz0 hz1 hz2 rfl (by decide) (.slice y2 Ls.length c2) Ls.length us (by simp [Act.eval]) ((owns_touch O2.out T3.out).alloc _) ⟨w3.heap.size, 0, none⟩ 1 1 [.slice yu L.length cu] (by simp [Act.eval]) rfl (fun j x hj => (lit_one w3 (.slice yu L.length cu) TEns _ rfl).cells (g := w3.heap.size) rfl j x hj) (by intro x hx; simp at hx; subst hx; rfl) (by omega) (by decide) (by have := ZW.out; have := T3.out.size; simp; omega) ?_
         intro y4 c4 w4 hG4
         have B4 : Hid (BkBlk w4 kb (upd c 6 (.slice y3 (Ls.length + 1) c3))) := hid (hG4.block ((owns_touch O2.out T3.out).alloc _) (heap_alloc_keep B3.out _) (by decide))
         have G4 := hid hG4
         have k41 := bk_cell B4.out 7 (by decide)
         have f41 := free_of B4.out 7
         clear hG4))
  all_goals
    go_wp2
    go_end0
    have b5 : BkBlk (w4.setCell ⟨kb, 7, none⟩ (.slice y4 (Ls.length + 1) c4)) kb (upd (upd c 6 (.slice y3 (Ls.length + 1) c3)) 7 (.slice y4 (Ls.length + 1) c4)) := bk_set B4.out 7 (by decide) _
    have O2' := (owns_touch O2.out T3.out).alloc (.cells #[.slice yu L.length cu] TEns)
    have OW4 : Rest [TBook, TEns] W w4 := ((OW.out.trans (Rest.touch T3.out)).trans (Rest.touch ((Touch.refl [] w3).alloc (.cells #[.slice yu L.length cu] TEns)))).trans (G4.out.rest O2' (by simp))
    have OW5 : Rest [TBook, TEns] W (w4.setCell ⟨kb, 7, none⟩ (.slice y4 (Ls.length + 1) c4)) := OW4.trans (Rest.set B4.out 7 _ (by simp))
    have O1' := (owns_touch O1.out T3.out).alloc (.cells #[.slice yu L.length cu] TEns)
    have F4 : Far (.slice y4 (Ls.length + 1) c4) (.slice y3 (Ls.length + 1) c3) := G4.out.far F2.out.symm O1'
    have U5 := own_set_book B4.out (G4.out.other (far_types O2' (HU.out.alloc _) (by decide)) (HU.out.alloc _)) (by decide) 7 (.slice y4 (Ls.length + 1) c4)
    have hWs : W.heap.size ≤ w2.drew.heap.size := ZW.out
    have hBs : base ≤ w2.drew.heap.size := Nat.le_trans hb hWs
    have hlen : (Ls ++ [L]).length = Ls.length + 1 := by simp
    have hn1 := HK.out.n1
    have hn2 := HK.out.n2
    refine ⟨rfl, OW5, ((T2.out.touch (T3.out.alloc (.cells #[.slice yu L.length cu] TEns))).grew G4.out O2' (Nat.le_refl _)).set hge _, by have h1 := G4.out.size; have h2 := T3.out.size; have h3 := ZW.out; simp at h1 ⊢; omega, _, _, .slice yu L.length cu, b5, ⟨by simp [hn1], by simp [hn2], ?_, ?_, F4.symm, ?_, ?_, ?_, ?_, ?_⟩, fun k hk => Nat.le_trans hWs (U5.lt k hk).1⟩
    · rw [hlen]
      exact own_set_book B4.out (G4.out.other F2.out.symm O1') (by decide) 7 _
    · rw [hlen]
      exact own_set_book B4.out G4.out.own (by decide) 7 _
    · intro i h h1
      by_cases hi : i < Ls.length
      · have := OW5.row (HK.out.r1 i hi (by omega)) (by decide)
        simpa only [List.getElem_append_left hi, List.getElem_append_left (show i < vs.length by omega)] using this
      · obtain rfl : i = Ls.length := by rw [hlen] at h; omega
        have e1 : (vs ++ [Value.slice yv L.length cv])[Ls.length]'h1 = .slice yv L.length cv := by simp [← hn1]
        have e2 : (Ls ++ [L])[Ls.length]'h = L := by simp
        rw [e1, e2]
        exact own_up (OW5.row HV.out (by decide)) hbv
    · intro i h h1
      by_cases hi : i < Ls.length
      · have := OW5.row (HK.out.r2 i hi (by omega)) (by decide)
        simpa only [List.getElem_append_left hi, List.getElem_append_left (show i < us.length by omega)] using this
      · obtain rfl : i = Ls.length := by rw [hlen] at h; omega
        have e1 : (us ++ [Value.slice yu L.length cu])[Ls.length]'h1 = .slice yu L.length cu := by simp [← hn2]
        have e2 : (Ls ++ [L])[Ls.length]'h = L := by simp
        rw [e1, e2]
        exact own_up U5 hBs
    · refine pairwise_add HK.out.ap hf (fun x hx => ?_) (far_new HV.out U5 hWs)
      obtain ⟨n, xs, hr⟩ := HK.out.row x hx
      exact far_new hr U5 hWs
    · intro M hM
      rw [List.mem_append] at hM
      rcases hM with hM | hM
      · exact HK.out.sz M hM
      · simp at hM; subst hM; exact hL
    · rw [hlen]; omega

set_option maxHeartbeats 2000000 in
theorem stillE_any (kb base : Nat) (c : Cs) (vs us : List Value) (Ls : List (List En)) (W : World) (hB : BkBlk W kb c) (hK : Kept kdE W base (c 6) (c 7) vs us Ls) :
    Calls Tryz.prog 56 #[.pointer (some ⟨kb, 0, none⟩)] W fun e W' => e = .returned (.bool true) ∧ Touch [] W W' := by
  obtain ⟨y1, c1, e1, hy1, hy1'⟩ := slice_form hK.own1
  obtain ⟨y2, c2, e2, hy2, hy2'⟩ := slice_form hK.own2
  have HK := hid hK
  have hn250 : (Ls.length : Int) ≤ 250 := by have := hK.few; omega
  have KO : Hid (W.ownsRow base TEns 1 (.slice y1 Ls.length c1) Ls.length vs) := hid (by have := hK.own1; rwa [e1] at this)
  have KO2 : Hid (W.ownsRow base TEns 1 (.slice y2 Ls.length c2) Ls.length us) := hid (by have := hK.own2; rwa [e2] at this)
  have CA : Hid (∀ w, Touch [] W w → w.cell? ⟨kb, 6, none⟩ = some (.slice y1 Ls.length c1) ∧ w.cell? ⟨kb, 7, none⟩ = some (.slice y2 Ls.length c2)) := hid fun w t => by
    have h0 := bk_cell (bk_touch hB t) 6 (by decide)
    have h1 := bk_cell (bk_touch hB t) 7 (by decide)
    rw [show c ⟨6, by decide⟩ = .slice y1 Ls.length c1 from e1] at h0
    rw [show c ⟨7, by decide⟩ = .slice y2 Ls.length c2 from e2] at h1
    exact ⟨h0, h1⟩
  clear hK hB e1 e2
  go_enter Tryz.func56, Tryz.ntmps56
  go_wp2
  go_loopw [3] (fun iv wr => ∃ k : Nat, k ≤ Ls.length ∧ iv = .int .i64 k ∧ Touch [] W wr) (fun iv _ => Ls.length - (RowKit.intOf iv).toNat)
  case atStart => exact ⟨0, Nat.zero_le _, rfl, Touch.refl _ _⟩
  case round =>
    obtain ⟨k, hk, rfl, ht⟩ := hrel
    have HT := hid ht
    obtain ⟨k0, -⟩ := CA.out _ ht
    clear ht
    by_cases hlt : k < Ls.length
    · have hl2 : decide (k < Ls.length) = true := by simpa using hlt
      have hkI : (k : Int) < Ls.length := by omega
      have hk0 : (0 : Int) ≤ k := by omega
      have hv1 : k < vs.length := by rw [HK.out.n1]; exact hlt
      have hv2 : k < us.length := by rw [HK.out.n2]; exact hlt
      obtain ⟨g1, q1, e1, a1, _⟩ := rows_at KO.out k hlt hv1
      obtain ⟨g2, q2, e2, a2, _⟩ := rows_at KO2.out k hlt hv2
      simp only [Value.slice.injEq, true_and] at e1 e2
      obtain ⟨rfl, rfl⟩ := e1
      obtain ⟨rfl, rfl⟩ := e2
      have hsz := (HK.out.sz Ls[k] (List.getElem_mem hlt))
      have ra := HK.out.r1 k hlt hv1
      have rb := HK.out.r2 k hlt hv2
      obtain ⟨ya, ca, ea, _, _⟩ := slice_form ra
      obtain ⟨yb, cb, eb, _, _⟩ := slice_form rb
      rw [ea] at a1 ra
      rw [eb] at a2 rb
      have ST := hid (fun (w : World) (t : Touch [] W w) => sameE_rows (owns_touch ra t) (owns_touch rb t) (by omega))
      clear ra rb ea eb hsz
      generalize Ls[k] = M at *
      go_upto_region 4 with fail
      obtain ⟨ι, f, ⟨θ0, hθ0⟩, inst, FT, FE⟩ := held_class wr
      have TT := hid fun θ => HT.out.trans (FT.out θ) (by simp)
      have F0 : ∀ θ, (f θ).cell? ⟨kb, 6, none⟩ = some (.slice (some ⟨g1, 0, none⟩) Ls.length c1) := fun θ => (CA.out _ (TT.out θ)).1
      have F1 : ∀ θ, (f θ).cell? ⟨kb, 7, none⟩ = some (.slice (some ⟨g2, 0, none⟩) Ls.length c2) := fun θ => (CA.out _ (TT.out θ)).2
      have F2 : ∀ θ, (f θ).cell? ⟨g1, k, none⟩ = some (.slice ya M.length ca) := fun θ => (TT.out θ).cell a1
      have F3 : ∀ θ, (f θ).cell? ⟨g2, k, none⟩ = some (.slice yb M.length cb) := fun θ => (TT.out θ).cell a2
      have FC : Hid (∀ θ, Calls Tryz.prog 21 #[.slice ya M.length ca, .slice yb M.length cb] (f θ) fun e w'' => e = .returned (.bool true) ∧ ∃ θ', w'' = f θ') := hid fun θ => (ST.out _ (TT.out θ)).mono fun e w'' ⟨he, h2⟩ => ⟨he, FE.out _ ((FT.out θ).trans h2 (by simp))⟩
      clear ST a1 a2 k0
      refine wp_region_held f θ0 (by kernel_rfl) (by kernel_rfl) hθ0 ?_
      repeat go_big_quiet_step (exact FC.out _)
      refine wpQuiet_nil ?_
      rintro _ ⟨θ, rfl⟩
      have T4 := hid (TT.out θ)
      go_wp2
      go_roundw
      case rel => exact ⟨k + 1, by omega, by go_num, T4.out⟩
      case measure => simp [RowKit.intOf]; omega
    · obtain rfl : k = Ls.length := by omega
      have hl2 : decide (Ls.length < Ls.length) = false := by simp
      clear hlt hk
      go_wp2
      go_ret
      exact ⟨rfl, HT.out⟩
end Go.Proofs.YtdjcpdlfapfmkaaGreat

namespace Go.Proofs.YtdjcpdlfapfmkaaGreat
set_option maxRecDepth 100000
open Go.RowKit Go.Lib Go.ChangeShapes Go.WideShapes

theorem putE_step (M L : List En) (k : Nat) (h : k < M.length) (hl : L.length = M.length) : ((((envals (M.take k ++ L.drop k)).set (k * 3) (.int .i64 M[k].1)).set (k * 3 + 1) (.int .i64 M[k].2.1)).set (k * 3 + 2) (.int .i64 M[k].2.2)) = envals (M.take (k + 1) ++ L.drop (k + 1)) := by
  have hs : (M.take k ++ L.drop k).set k M[k] = M.take (k + 1) ++ L.drop (k + 1) := by
    rw [List.set_append_right _ _ (by simp; omega), List.take_succ_eq_append_getElem h, List.append_assoc]
    congr 1
    have : k - (M.take k).length = 0 := by simp; omega
    rw [this, List.drop_eq_getElem_cons (show k < L.length by omega)]
    rfl
  rw [← hs, envals_set _ k M[k] (by simp; omega)]
theorem get_cells (l : List En) (k : Nat) (h : k < l.length) : (envals l)[k * 3]? = some (.int .i64 l[k].1) ∧ (envals l)[k * 3 + 1]? = some (.int .i64 l[k].2.1) ∧ (envals l)[k * 3 + 2]? = some (.int .i64 l[k].2.2) := by
  induction l generalizing k with
  | nil => simp at h
  | cons e l ih =>
    cases k with
    | zero => simp [envals, enc3]
    | succ k =>
      have := ih k (by simpa using h)
      rw [show (k + 1) * 3 = k * 3 + 3 by omega]
      simpa [envals, enc3] using this

set_option maxHeartbeats 4000000 in
theorem putmE_any (kb base : Nat) (c : Cs) (vs : List Value) (ns : Nat → Nat) (M : Nat → List En) (W : World) (hB : BkBlk W kb c) (hR : Rows1 kdE W base (c 6) vs ns M) :
    Calls Tryz.prog 63 #[.pointer (some ⟨kb, 0, none⟩)] W fun e W' => e = .returned (.tuple #[]) ∧ Rest [TEn] W W' ∧ Newer W base W' ∧ W.heap.size ≤ W'.heap.size ∧ Rows1 kdE W' base (c 6) vs ns (part kdE ns M vs.length) := by
  obtain ⟨y1, c1, e1, hy1, hy1'⟩ := slice_form hR.own1
  have CE := hid e1
  rw [e1] at hR
  rw [e1]
  have HR := hid hR
  have HBK := hid hB
  have CB : Hid (∀ w, Rest [TEn] W w → w.cell? ⟨kb, 6, none⟩ = some (.slice y1 vs.length c1)) := hid fun w t => by
    have h0 := bk_cell (t.blk hB (by decide)) 6 (by decide)
    rwa [show c ⟨6, by decide⟩ = .slice y1 vs.length c1 from e1] at h0
  have hn250 : (vs.length : Int) ≤ 250 := by have := hR.few; omega
  clear hR hB e1
  go_enter Tryz.func63, Tryz.ntmps63
  go_wp2
  go_loopw [2] (fun iv wr => ∃ i : Nat, i ≤ vs.length ∧ iv = .int .i64 i ∧ Rest [TEn] W wr ∧ Newer W base wr ∧ W.heap.size ≤ wr.heap.size ∧ Rows1 kdE wr base (.slice y1 vs.length c1) vs ns (part kdE ns M i)) (fun iv _ => vs.length - (RowKit.intOf iv).toNat)
  case atStart => exact ⟨0, Nat.zero_le _, rfl, Rest.refl _ _, Newer.refl _ _, Nat.le_refl _, by rw [part_zero]; exact HR.out⟩
  case round =>
    obtain ⟨i, hi, rfl, hS, hN, hz, hr⟩ := hrel
    have HS := hid hS
    have HN := hid hN
    have HZ := hid hz
    have HQ := hid hr
    have k0 := CB.out _ hS
    clear hN hr hz hS
    by_cases hlt : i < vs.length
    · have hl2 : decide (i < vs.length) = true := by simpa using hlt
      have hkI : (i : Int) < vs.length := by omega
      have hk0 : (0 : Int) ≤ i := by omega
      obtain ⟨g1, q1, e1, a1, hg1⟩ := rows_at HQ.out.own1 i hlt hlt
      simp only [Value.slice.injEq, true_and] at e1
      obtain ⟨rfl, rfl⟩ := e1
      have HG1 := hid hg1
      have HOI := hid (HQ.out.r1 i hlt)
      obtain ⟨yi, ci, ei, hyi, hyi'⟩ := slice_form HOI.out
      have HEI := hid ei
      rw [ei] at a1
      have hsm := HQ.out.small i
      have hsmI : (ns i : Int) ≤ 3100 := by omega
      have hfw := HR.out.few
      have MT := hid (fun w => markE_any i 0 (ns i) w (by omega) (by omega))
      simp only [Int.natCast_zero] at MT
      clear ei hg1 hsm hfw
      go_wp2_with fail
      refine (MT.out _).mono ?_
      rintro e w2 ⟨mv, rfl, hm, t2⟩
      obtain ⟨ym, cm, rfl, hym, hym'⟩ := slice_form hm
      have HM := hid hm
      have T2 := hid t2
      have R2 := hid (HQ.out.touch t2)
      have HOI2 := hid (R2.out.r1 i hlt)
      have far2 := hid (far_new HOI.out hm (Nat.le_refl _))
      have S2 := hid (HS.out.trans (Rest.touch t2))
      clear hm t2 a1 k0
      go_wp2
      go_loopw [4] (fun kv wq => ∃ k : Nat, k ≤ ns i ∧ kv = .int .i64 k ∧ wq.ownsRow base TEn 3 vs[i] (ns i) (envals ((marks kdE i 0 (ns i)).take k ++ (part kdE ns M i i).drop k)) ∧ Touch (vs[i].ownBlock.toList) w2 wq ∧ Rest [TEn] w2 wq) (fun kv _ => ns i - (RowKit.intOf kv).toNat)
      case atStart => exact ⟨0, Nat.zero_le _, rfl, by have h := R2.out.r1 i hlt; simpa only [List.take_zero, List.nil_append, List.drop_zero] using h, Touch.refl _ _, Rest.refl _ _⟩
      case round =>
        obtain ⟨k, hk, rfl, ho, ht, hs3⟩ := hrel
        have HO := hid ho
        have HT := hid ht
        have HS3 := hid hs3
        clear ho ht hs3
        by_cases hkl : k < ns i
        · have hl3 : decide (k < ns i) = true := by simpa using hkl
          have hkI2 : (k : Int) < ns i := by omega
          have hk02 : (0 : Int) ≤ k := by omega
          have hml : k < (marks kdE i 0 (ns i)).length := by rw [marks_len]; exact hkl
          have ho2 := HO.out
          rw [HEI.out] at ho2
          obtain ⟨g, q, eg, _, _⟩ := ho2.form (by omega)
          simp only [Value.slice.injEq, true_and] at eg
          obtain ⟨rfl, rfl⟩ := eg
          have hF : Hid ((vs[i].ownBlock).toList = [g]) := hid (by rw [HEI.out]; rfl)
          have hob : Hid (vs[i].ownBlock = some g) := hid (by rw [HEI.out]; rfl)
          obtain ⟨gm, qm, em, _, _⟩ := HM.out.form (show 0 < ns i by omega)
          simp only [Value.slice.injEq, true_and] at em
          obtain ⟨rfl, rfl⟩ := em
          have ngm : g ≠ gm := fun e => far2.out g hob.out (by rw [e]; rfl)
          have ngk : g ≠ kb := not_book (S2.out.blk HBK.out (by decide)) HOI2.out (by decide) hob.out
          have ng1 : g ≠ g1 := fun e => far_types HOI2.out R2.out.own1 (by decide) g hob.out (by rw [e]; rfl)
          have HTg := hid (show Touch [g] w2 wr by have := HT.out; rwa [hF.out] at this)
          have SW := S2.out.trans HS3.out
          have l0 := CB.out _ SW
          have l1 : wr.cell? ⟨g1, i, none⟩ = some (.slice (some ⟨g, 0, none⟩) (ns i) ci) := by
            obtain ⟨g4, q4, e4, a4, _⟩ := rows_at (HS3.out.row R2.out.own1 (by decide)) i hlt hlt
            simp only [Value.slice.injEq, Option.some.injEq, Addr.mk.injEq, and_true, true_and] at e4
            obtain ⟨rfl, rfl⟩ := e4
            rw [a4, HEI.out]
          have hM2 := own_touch_far HM.out HTg.out (fun k hk => by simp [Value.ownBlock] at hk; subst hk; simp; exact fun e => ngm e.symm)
          obtain ⟨gc0, gc1, gc2⟩ := get_cells (marks kdE i 0 (ns i)) k hml
          have l20 : wr.cell? ⟨gm, k * 3, none⟩ = some (.int .i64 (marks kdE i 0 (ns i))[k].1) := by rw [hM2.cellAt (k * 3) (by omega)]; exact gc0
          have l21 : wr.cell? ⟨gm, k * 3 + 1, none⟩ = some (.int .i64 (marks kdE i 0 (ns i))[k].2.1) := by rw [hM2.cellAt (k * 3 + 1) (by omega)]; exact gc1
          have l22 : wr.cell? ⟨gm, k * 3 + 2, none⟩ = some (.int .i64 (marks kdE i 0 (ns i))[k].2.2) := by rw [hM2.cellAt (k * 3 + 2) (by omega)]; exact gc2
          have l3 : ∀ j, j < ns i * 3 → ∃ z, wr.cell? ⟨g, j, none⟩ = some z := fun j hj => by
            rw [ho2.cellAt j (by omega)]
            have := ho2.1
            exact ⟨_, List.getElem?_eq_getElem (by omega)⟩
          obtain ⟨z0, l30⟩ := l3 (k * 3) (by omega)
          obtain ⟨z1, l31⟩ := l3 (k * 3 + 1) (by omega)
          obtain ⟨z2, l32⟩ := l3 (k * 3 + 2) (by omega)
          clear gc0 gc1 gc2 l3
          have l4 := fun j => ho2.frozenAt j
          have l40 := l4 (k * 3)
          have l41 := l4 (k * 3 + 1)
          have l42 := l4 (k * 3 + 2)
          clear l4
          have hML : Hid ((part kdE ns M i i).length = (marks kdE i 0 (ns i)).length) := hid (by have := HOI.out.1; rw [kdokE.len, show kdE.sz = 3 from rfl] at this; rw [marks_len]; omega)
          have hst := hid (putE_step (marks kdE i 0 (ns i)) (part kdE ns M i i) k hml hML.out)
          generalize (marks kdE i 0 (ns i))[k] = tx at *
          go_upto_region 7 with fail
          go_region_held3 (fun w' => w'.cell? ⟨kb, 6, none⟩ = some (.slice (some ⟨g1, 0, none⟩) vs.length c1) ∧ w'.cell? ⟨g1, i, none⟩ = some (.slice (some ⟨g, 0, none⟩) (ns i) ci) ∧ w'.cell? ⟨gm, k * 3, none⟩ = some (.int .i64 tx.1) ∧ w'.cell? ⟨gm, k * 3 + 1, none⟩ = some (.int .i64 tx.2.1) ∧ w'.cell? ⟨gm, k * 3 + 2, none⟩ = some (.int .i64 tx.2.2)) (go_keep) (fail)
          all_goals
            go_wp2
            go_roundw
            case rel =>
              refine ⟨k + 1, by omega, by go_num, ?_, ?_, ?_⟩
              · rw [HEI.out, ← hst.out]
                exact ((((owns_touch ho2 ((Touch.refl [] wr).drew)).stored (k * 3) _).1.stored (k * 3 + 1) _).1.stored (k * 3 + 2) _).1
              · rw [hF.out]
                exact (((HTg.out.drew).setCell (p := ⟨g, k * 3, none⟩) (.inl (by simp)) _).setCell (p := ⟨g, k * 3 + 1, none⟩) (.inl (by simp)) _).setCell (p := ⟨g, k * 3 + 2, none⟩) (.inl (by simp)) _
              · exact HS3.out.trans (((((Rest.touch ((Touch.refl [] wr).drew)).set_own (owns_touch ho2 ((Touch.refl [] wr).drew)) (k * 3) _)).set_own ((owns_touch ho2 ((Touch.refl [] wr).drew)).stored (k * 3) _).1 (k * 3 + 1) _).set_own (((owns_touch ho2 ((Touch.refl [] wr).drew)).stored (k * 3) _).1.stored (k * 3 + 1) _).1 (k * 3 + 2) _)
            case measure => simp [RowKit.intOf]; omega
        · obtain rfl : k = ns i := by omega
          have hl3 : decide (ns i < ns i) = false := by simp
          have hfin := HO.out
          have hML : (part kdE ns M i i).length = ns i := by have := HOI.out.1; rw [kdokE.len, show kdE.sz = 3 from rfl] at this; omega
          rw [List.take_of_length_le (by rw [marks_len]; exact Nat.le_refl _), List.drop_of_length_le (by omega), List.append_nil] at hfin
          have hFb : Hid (∀ k ∈ vs[i].ownBlock.toList, vs[i].ownBlock = some k) := hid (fun k hk => by simpa using hk)
          have R3 := R2.out.turn kdokE hlt hFb.out HT.out hfin
          rw [part_step] at R3
          have R4 := hid R3
          clear R3 hfin hk
          go_wp2
          go_roundw
          case rel => exact ⟨i + 1, by omega, by go_num, S2.out.trans HS3.out, (HN.out.touch T2.out).block HT.out (fun k hk => own_row HOI.out k (hFb.out k hk)), by have := HZ.out; have := T2.out.size; have := HT.out.size; omega, R4.out⟩
          case measure => simp [RowKit.intOf]; omega
    · obtain rfl : i = vs.length := by omega
      have hl2 : decide (vs.length < vs.length) = false := by simp
      clear hlt hi
      go_wp2
      go_end0
      exact ⟨rfl, HS.out, HN.out, HZ.out, HQ.out⟩
end Go.Proofs.YtdjcpdlfapfmkaaGreat

namespace Go.Proofs.YtdjcpdlfapfmkaaGreat
set_option maxRecDepth 100000
open Go.RowKit Go.Lib Go.ChangeShapes Go.WideShapes

set_option maxHeartbeats 4000000 in
theorem growE_any (kb base : Nat) (c : Cs) (vs : List Value) (ns : Nat → Nat) (W : World) (hB : BkBlk W kb c) (hR : Rows1 kdE W base (c 6) vs ns (fun j => marks kdE j 0 (ns j))) (hb : base ≤ W.heap.size) :
    Calls Tryz.prog 68 #[.pointer (some ⟨kb, 0, none⟩)] W fun e W' => ∃ ov gs, e = .returned ov ∧ gs.length = vs.length ∧ Rest [TEn, TEns] W W' ∧ Newer W base W' ∧ W.heap.size ≤ W'.heap.size ∧ Grown kdE W' base (c 6) vs gs ns ∧ W'.ownsRow W.heap.size TEns 1 ov gs.length gs := by
  obtain ⟨y1, c1, e1, hy1, hy1'⟩ := slice_form hR.own1
  rw [e1] at hR
  rw [e1]
  obtain ⟨i0, hi0, hz0, hz1, hz2⟩ := info_parts infoEn
  obtain ⟨i1, hi1, hy0, hyy1, hyy2⟩ := info_parts infoSSE
  have HR := hid hR
  have HB := hid hb
  have CB : Hid (∀ w, Rest [TEn, TEns] W w → w.cell? ⟨kb, 6, none⟩ = some (.slice y1 vs.length c1)) := hid fun w t => by
    have h0 := bk_cell (t.blk hB (by decide)) 6 (by decide)
    rwa [show c ⟨6, by decide⟩ = .slice y1 vs.length c1 from e1] at h0
  have hn250 : (vs.length : Int) ≤ 250 := by have := hR.few; omega
  clear hR hb hB e1
  go_enter Tryz.func68, Tryz.ntmps68
  go_wp2
  go_loopw [3, 4] (fun ov iv wr => ∃ (i : Nat) (gs : List Value), i ≤ vs.length ∧ iv = .int .i64 i ∧ gs.length = i ∧ Rest [TEn, TEns] W wr ∧ Newer W base wr ∧ W.heap.size ≤ wr.heap.size ∧ Grown kdE wr base (.slice y1 vs.length c1) vs gs ns ∧ wr.ownsRow W.heap.size TEns 1 ov gs.length gs) (fun _ iv _ => vs.length - (RowKit.intOf iv).toNat)
  case atStart => exact ⟨0, [], Nat.zero_le _, rfl, rfl, Rest.refl _ _, Newer.refl _ _, Nat.le_refl _, ⟨HR.out, fun j h => absurd h (Nat.not_lt_zero j), Nat.zero_le _, by simp, fun a b h => absurd h (Nat.not_lt_zero a)⟩, World.ownsRow_nil _ _ _ _⟩
  case round =>
    obtain ⟨i, gs, hi, rfl, hgs, hS, hN, hz, hG, hO⟩ := hrel
    obtain ⟨yo, co, rfl, hyo, hyo'⟩ := slice_form hO
    have HS := hid hS
    have HN := hid hN
    have HZ := hid hz
    have HQ := hid hG
    have HO := hid hO
    have HGS := hid hgs
    have k0 := CB.out _ hS
    clear hN hG hz hO hgs hS
    by_cases hlt : i < vs.length
    · have hl2 : decide (i < vs.length) = true := by simpa using hlt
      have hkI : (i : Int) < vs.length := by omega
      have hk0 : (0 : Int) ≤ i := by omega
      obtain ⟨g1, q1, e1, a1, hg1⟩ := rows_at HQ.out.r.own1 i hlt hlt
      simp only [Value.slice.injEq, true_and] at e1
      obtain ⟨rfl, rfl⟩ := e1
      obtain ⟨yi, ci, ei, hyi, hyi'⟩ := slice_form (HQ.out.r.r1 i hlt)
      rw [ei] at a1
      have LS := HQ.out.start hlt HGS.out
      rw [ei] at LS
      have HLS := hid LS
      have hsm := HQ.out.r.small i
      have hsmI : (ns i : Int) ≤ 3100 := by omega
      have hsm0 : (0 : Int) ≤ ns i := by omega
      have HSM := hid hsm
      have h250 : i ≤ 1000 := by have := HR.out.few; omega
      clear ei hg1 LS hsm
      go_wp2
      go_loopw [5, 6] (fun lv nv wq => ∃ t : Nat, t ≤ 12 ∧ nv = .int .i64 t ∧ Longer kdE wq base (.slice (some ⟨g1, 0, none⟩) vs.length c1) vs gs ns i t lv ∧ wq.ownsRow W.heap.size TEns 1 (.slice yo gs.length co) gs.length gs ∧ Rest [TEn, TEns] W wq ∧ Newer W base wq ∧ W.heap.size ≤ wq.heap.size) (fun _ nv _ => 12 - (RowKit.intOf nv).toNat)
      case atStart => exact ⟨0, Nat.zero_le _, rfl, HLS.out, HO.out, HS.out, HN.out, HZ.out⟩
      case round =>
        obtain ⟨t, ht, rfl, hL, hO2, hS2, hN2, hZ2⟩ := hrel
        obtain ⟨yl, cl, rfl, hyl, hyl'⟩ := slice_form hL.own
        have HL := hid hL
        have HO2 := hid hO2
        have HS2 := hid hS2
        have HN2 := hid hN2
        have HZ2 := hid hZ2
        have htI : (t : Int) ≤ 12 := by omega
        have ht0 : (0 : Int) ≤ t := by omega
        clear hL hO2 hN2 hZ2 hS2
        by_cases htl : t < 12
        · have htl2 : (t : Int) < 12 := by omega
          have MT : Hid (∀ w, Calls Tryz.prog 106 #[.int .i64 i, .int .i64 ((ns i : Int) + t), .int .i64 1] w fun e w' => ∃ v, e = .returned v ∧ w'.ownsRow w.heap.size TEn 3 v 1 (envals (marks kdE i (ns i + t) 1)) ∧ Touch [] w w') := fun w => by
            have h := markE_any i (ns i + t) 1 w h250 (by have := HSM.out; omega)
            rw [show ((ns i + t : Nat) : Int) = (ns i : Int) + t from by omega] at h
            exact h
          go_wp2_with fail
          refine (MT.out _).mono ?_
          rintro e w2 ⟨mv, rfl, hm, t2⟩
          obtain ⟨ym, cm, rfl, _, _⟩ := slice_form hm
          have HM := hid hm
          have T2 := hid t2
          have L2 := hid (HL.out.touch t2)
          have O2 := hid (owns_touch HO2.out t2)
          clear hm t2 MT
          go_wp2_with (at_builtin; refine wpList_append_grew _ rfl (.tmp 27) (.tmp 31) TEns rfl base TEn i0 (.agg #[.int .i64 0, .int .i64 0, .int .i64 0]) 3 24 Tryz.underlying22 hi0 hz0 hz1 hz2 rfl (by decide) (.slice yl (ns i + t) cl) (ns i + t) (envals (marks kdE i 0 (ns i + t))) rfl L2.out.own (.slice ym 1 cm) 1 wr.heap.size (envals (marks kdE i (ns i + t) 1)) rfl HM.out (envals_one _) (by have := HSM.out; omega) (by decide) (by have := HB.out; have := HZ2.out; have := T2.out.size; omega) ?_; intro y3 c3 w3 hG3; have G3 := hid hG3; clear hG3)
          go_roundw
          case rel => exact ⟨t + 1, by omega, by go_num, L2.out.next kdokE hlt (by have := HGS.out; omega) G3.out, G3.out.other (far_types L2.out.own O2.out (by decide)) O2.out, (HS2.out.trans (Rest.touch T2.out)).trans (G3.out.rest L2.out.own (by simp)), (HN2.out.touch T2.out).grew G3.out L2.out.own (Nat.le_refl _), by have := HZ2.out; have := T2.out.size; have := G3.out.size; omega⟩
          case measure => simp [RowKit.intOf]; omega
        · obtain rfl : t = 12 := by omega
          have MT : Hid (∀ w, Calls Tryz.prog 106 #[.int .i64 i, .int .i64 ((ns i : Int) + 12), .int .i64 60] w fun e w' => ∃ v, e = .returned v ∧ w'.ownsRow w.heap.size TEn 3 v 60 (envals (marks kdE i (ns i + 12) 60)) ∧ Touch [] w w') := fun w => by
            have h := markE_any i (ns i + 12) 60 w h250 (by have := HSM.out; omega)
            rw [show ((ns i + 12 : Nat) : Int) = (ns i : Int) + 12 from by omega] at h
            exact h
          go_wp2_with fail
          refine (MT.out _).mono ?_
          rintro e w2 ⟨mv, rfl, hm, t2⟩
          obtain ⟨ym, cm, rfl, _, _⟩ := slice_form hm
          have HM := hid hm
          have T2 := hid t2
          have L2 := hid (HL.out.touch t2)
          have O2 := hid (owns_touch HO2.out t2)
          have Z2 := hid (show W.heap.size ≤ w2.heap.size by have := HZ2.out; have := t2.size; omega)
          clear hm t2 MT
          go_wp2_with (first | (at_builtin; refine wpList_append_grew _ rfl (.tmp 34) (.tmp 38) TEns rfl base TEn i0 (.agg #[.int .i64 0, .int .i64 0, .int .i64 0]) 3 24 Tryz.underlying22 hi0 hz0 hz1 hz2 rfl (by decide) (.slice yl (ns i + 12) cl) (ns i + 12) (envals (marks kdE i 0 (ns i + 12))) rfl L2.out.own (.slice ym 60 cm) 60 wr.heap.size (envals (marks kdE i (ns i + 12) 60)) rfl HM.out (envals_one _) (by have := HSM.out; omega) (by decide) (by have := HB.out; have := Z2.out; omega) ?_; intro y3 c3 w3 hG3; have G3 := hid hG3; have O3 := hid (hG3.other (far_types L2.out.own O2.out (by decide)) O2.out); clear hG3) | (at_builtin; refine wpList_append_grew _ rfl (.tmp 33) (.tmp 40) TSSE rfl W.heap.size TEns i1 nilS 1 24 Tryz.underlying36 hi1 hy0 hyy1 hyy2 rfl (by decide) (.slice yo gs.length co) gs.length gs rfl (O3.out.alloc _) (.slice (some ⟨w3.heap.size, 0, none⟩) 1 1) 1 0 [.slice y3 (ns i + 12 + 60) c3] rfl (lit_one _ _ _ _ rfl) (by intro u hu; simp at hu; subst hu; rfl) (by have := HGS.out; omega) (by decide) (by have := Z2.out; have := G3.out.size; simp; omega) ?_; intro y4 c4 w4 hG4; have G4 := hid hG4; clear hG4))
          have D3 := hid ((L2.out.next kdokE hlt (by have := HGS.out; omega) G3.out).done hlt HGS.out)
          have N3 := hid ((HN2.out.touch T2.out).grew G3.out L2.out.own (Nat.le_refl _))
          have tvfar := hid (far_new HR.out.own1 (O3.out.alloc (.cells #[.slice y3 (ns i + 12 + 60) c3] TEns)) (Nat.le_refl _))
          have D4 := hid ((D3.out.touch ((Touch.refl [] w3).alloc (.cells #[.slice y3 (ns i + 12 + 60) c3] TEns))).strs kdokE tvfar.out.symm (O3.out.alloc _) G4.out)
          refine ⟨⟨i + 1, gs ++ [.slice y3 (ns i + 12 + 60) c3], by omega, by go_num, by simp [HGS.out], ?_, ?_, ?_, D4.out, ?_⟩, by simp [RowKit.intOf]; omega⟩
          · exact (((HS2.out.trans (Rest.touch T2.out)).trans (G3.out.rest L2.out.own (by simp))).trans (Rest.touch ((Touch.refl [] w3).alloc (.cells #[.slice y3 (ns i + 12 + 60) c3] TEns)))).trans (G4.out.rest (O3.out.alloc _) (by simp))
          · exact (N3.out.touch ((Touch.refl [] w3).alloc (.cells #[.slice y3 (ns i + 12 + 60) c3] TEns))).grew G4.out (O3.out.alloc _) HB.out
          · have h1 := Z2.out
            have h2 := G3.out.size
            have h3 := G4.out.size
            simp at h3
            omega
          · rw [show (gs ++ [Value.slice y3 (ns i + 12 + 60) c3]).length = gs.length + 1 by simp]
            exact G4.out.own
    · obtain rfl : i = vs.length := by omega
      have hl2 : decide (vs.length < vs.length) = false := by simp
      clear hlt hi
      go_wp2
      go_ret
      exact ⟨_, gs, rfl, HGS.out, HS.out, HN.out, HZ.out, HQ.out, HO.out⟩

set_option maxHeartbeats 4000000 in
theorem markedE_any (v : Value) (gs : List Value) (ms : Nat → Nat) (bo bg : Nat) (W : World) (hO : W.ownsRow bo TEns 1 v gs.length gs) (hr : ∀ j (h : j < gs.length), W.ownsRow bg TEn 3 gs[j] (ms j) (envals (marks kdE j 0 (ms j)))) (hfew : gs.length ≤ 250) (hsm : ∀ j, ms j ≤ 3200) :
    Calls Tryz.prog 74 #[v] W fun e W' => e = .returned (.bool true) ∧ Touch [] W W' := by
  obtain ⟨y1, c1, rfl, hy1, hy1'⟩ := slice_form hO
  have HO := hid hO
  have HR := hid hr
  have HS := hid hsm
  have hn250 : (gs.length : Int) ≤ 250 := by omega
  have HF := hid hfew
  clear hO hr hsm hfew
  go_enter Tryz.func74, Tryz.ntmps74
  go_wp2
  go_loopw [3] (fun iv wr => ∃ k : Nat, k ≤ gs.length ∧ iv = .int .i64 k ∧ Touch [] W wr) (fun iv _ => gs.length - (RowKit.intOf iv).toNat)
  case atStart => exact ⟨0, Nat.zero_le _, rfl, Touch.refl _ _⟩
  case round =>
    obtain ⟨k, hk, rfl, ht⟩ := hrel
    have HT := hid ht
    clear ht
    by_cases hlt : k < gs.length
    · have hl2 : decide (k < gs.length) = true := by simpa using hlt
      have hkI : (k : Int) < gs.length := by omega
      have hk0 : (0 : Int) ≤ k := by omega
      obtain ⟨g1, q1, e1, a1, _⟩ := rows_at (owns_touch HO.out HT.out) k hlt hlt
      simp only [Value.slice.injEq, true_and] at e1
      obtain ⟨rfl, rfl⟩ := e1
      have hrow := owns_touch (HR.out k hlt) HT.out
      obtain ⟨yi, ci, ei, hyi, hyi'⟩ := slice_form hrow
      rw [ei] at a1 hrow
      have HROW := hid hrow
      have hsmk := HS.out k
      have hsmI : (ms k : Int) ≤ 3200 := by omega
      have MT : Hid (∀ w, Calls Tryz.prog 106 #[.int .i64 k, .int .i64 0, .int .i64 (ms k)] w fun e w' => ∃ v, e = .returned v ∧ w'.ownsRow w.heap.size TEn 3 v (ms k) (envals (marks kdE k 0 (ms k))) ∧ Touch [] w w') := fun w => markE_any k 0 (ms k) w (by have := HF.out; omega) (by omega)
      have HSM := hid hsmk
      have a1d : wr.drew.cell? ⟨g1, k, none⟩ = some (.slice yi (ms k) ci) := a1
      clear hrow ei hsmk
      go_upto_region 4 with fail
      go_region_law (first
        | (refine step_call _ rfl (f := 106) (args := #[.int .i64 k, .int .i64 0, .int .i64 (ms k)]) (by simp [go_sem, Act.eval]) (MT.out _) ?_
           rintro e w2 ⟨mv, rfl, hm, t2⟩
           obtain ⟨ym, cm, rfl, _, _⟩ := slice_form hm
           refine ⟨_, rfl, ?_⟩
           have T2 : Hid (Touch [] wr w2) := hid (((Touch.refl [] wr).drew).trans t2 (by simp))
           have HM := hid hm
           have a2 := T2.out.cell a1
           clear hm t2)
        | (refine step_call _ rfl (f := 21) (args := #[.slice yi (ms k) ci, .slice ym (ms k) cm]) (by simp [go_sem, Act.eval]) (sameE_rows (owns_touch HROW.out T2.out) HM.out (by rw [marks_len]; have := HSM.out; omega)) ?_
           rintro e w3 ⟨rfl, t3⟩
           refine ⟨_, rfl, ?_⟩
           have T3 : Hid (Touch [] wr w3) := hid (T2.out.trans t3 (by simp))
           have a3 := T3.out.cell a1
           clear t3))
      all_goals
        go_wp2
        go_roundw
        case rel => exact ⟨k + 1, by omega, by go_num, HT.out.trans T3.out (by simp)⟩
        case measure => simp [RowKit.intOf]; omega
    · obtain rfl : k = gs.length := by omega
      have hl2 : decide (gs.length < gs.length) = false := by simp
      clear hlt hk
      go_wp2
      go_ret
      exact ⟨rfl, HT.out⟩
end Go.Proofs.YtdjcpdlfapfmkaaGreat

namespace Go.Proofs.YtdjcpdlfapfmkaaGreat
set_option maxRecDepth 100000
open Go.RowKit Go.Lib Go.ChangeShapes Go.WideShapes

theorem intV_one (l : List Int) : ∀ u ∈ intV l, u.oneCell' = true := by
  intro u hu
  simp only [intV, List.mem_map] at hu
  obtain ⟨e, _, rfl⟩ := hu
  rfl
theorem intV_len1 (l : List Int) : (intV l).length = l.length * 1 := by rw [intV_len, Nat.mul_one]
theorem intV_app (l m : List Int) : intV (l ++ m) = intV l ++ intV m := by simp [intV]

abbrev TSSI : TypeId := 34
theorem infoSSI : (Tryz.prog.info? TInts).map (fun i => (i.zero, i.size, i.bytes)) = some (some nilS, 1, 24) := by kernel_rfl
def markI (i k : Nat) : Int := (-1000000 * (i : Int) - (k : Int) - 7)
abbrev kdI : Kd := { α := Int, TE := TInt, TSS := TInts, sz := 1, enc := intV, mar := markI }
theorem kdokI : KdOk kdI := ⟨fun l => intV_len1 l, fun l m => intV_app l m, fun l => intV_one l, by show TInt ≠ TBook; decide, by show TInts ≠ TBook; decide, by show TInt ≠ TInts; decide⟩

set_option maxHeartbeats 1000000 in
theorem markI_any (i f n : Nat) (W : World) (hi : i ≤ 1000) (hf : f + n ≤ 100000) :
    Calls Tryz.prog 104 #[.int .i64 i, .int .i64 f, .int .i64 n] W fun e w' => ∃ v, e = .returned v ∧ w'.ownsRow W.heap.size TInt 1 v n (intV (marks kdI i f n)) ∧ Touch [] W w' := by
  obtain ⟨i0, hi0, hz0, hz1, hz2⟩ := info_parts infoInt
  have b1 : (f : Int) + n ≤ 100000 := by omega
  have b2 : (0 : Int) ≤ f := by omega
  have b3 : (0 : Int) ≤ n := by omega
  have b0 : (i : Int) ≤ 1000 := by omega
  have b00 : (0 : Int) ≤ i := by omega
  go_enter Tryz.func104, Tryz.ntmps104
  go_wp2
  go_loopw [7, 8] (fun ov kv wr => ∃ j : Nat, j ≤ n ∧ kv = .int .i64 ((f : Int) + j) ∧ wr.ownsRow W.heap.size TInt 1 ov j (intV (marks kdI i f j)) ∧ Touch [] W wr) (fun _ kv _ => f + n - (RowKit.intOf kv).toNat)
  case atStart => exact ⟨0, Nat.zero_le _, by simp, World.ownsRow_nil _ _ _ _, Touch.refl _ _⟩
  case round =>
    obtain ⟨j, hj, rfl, hown, ht⟩ := hrel
    obtain ⟨yu, cu, rfl, -, -⟩ := slice_form hown
    have HO := hid hown
    have HT := hid ht
    clear hown ht
    have b4 : (0 : Int) ≤ j := by omega
    have b5 : (f : Int) + j ≤ 100000 := by omega
    by_cases hlt : j < n
    · have hlt2 : ((f : Int) + j < (f : Int) + n) := by omega
      have hmk := hid (marks_snoc kdI i f j)
      rw [show kdI.mar i (f + j) = -1000000 * (i : Int) - ((f : Int) + (j : Int)) - 7 by show markI i (f + j) = _; unfold markI; rw [Int.natCast_add]] at hmk
      go_wp2_with (at_builtin; refine wpList_append_grew _ rfl _ _ TInts rfl W.heap.size TInt i0 (.int .i64 0) 1 8 Tryz.underlying48 hi0 hz0 hz1 hz2 rfl (by decide) _ j (intV (marks kdI i f j)) rfl (HO.out.alloc _) (.slice (some ⟨wr.heap.size, 0, none⟩) 1 1) 1 0 [.int .i64 (-1000000 * (i : Int) - ((f : Int) + (j : Int)) - 7)] rfl (lit_one _ _ _ _ rfl) (by intro u hu; simp at hu; subst hu; rfl) (by omega) (by decide) (by have := HT.out.size; simp; omega) ?_; intro y cap w2 hG; have G := hid hG; clear hG)
      go_roundw
      case rel => exact ⟨j + 1, by omega, by go_num, by rw [← hmk.out]; exact (by rw [intV_app]; simpa [intV] using G.out.own), G.out.touch (HO.out.alloc _) (HT.out.alloc _) (Nat.le_refl _)⟩
      case measure => simp [RowKit.intOf]; omega
    · obtain rfl : j = n := by omega
      go_wp2
      go_ret
      exact ⟨_, rfl, HO.out, HT.out⟩

theorem copyI_any (v : Value) (n bv : Nat) (l : List Int) (W : World) (hv : W.ownsRow bv TInt 1 v n (intV l)) (hn : n ≤ 100000) :
    Calls Tryz.prog 51 #[v] W fun e w' => ∃ u, e = .returned u ∧ w'.ownsRow W.heap.size TInt 1 u n (intV l) ∧ Touch [] W w' := by
  obtain ⟨i0, hi0, hz0, hz1, hz2⟩ := info_parts infoInt
  have HV := hid hv
  clear hv
  go_enter Tryz.func51, Tryz.ntmps51
  go_wp2_with (at_builtin; refine wpList_append_grew _ rfl _ _ TInts rfl W.heap.size TInt i0 (.int .i64 0) 1 8 Tryz.underlying48 hi0 hz0 hz1 hz2 rfl (by decide) (.slice none 0 0) 0 [] rfl (World.ownsRow_nil _ _ _ _) v n bv (intV l) rfl HV.out (intV_one l) (by omega) (by decide) (Nat.le_refl _) ?_; intro y cap w2 hG; have G := hid hG; clear hG)
  go_ret
  exact ⟨_, rfl, by have := G.out.own; simpa using this, G.out.touch (World.ownsRow_nil _ _ _ _) (Touch.refl _ _) (Nat.le_refl _)⟩

theorem sameI_rows {w : World} {b1 b2 n1 n2 : Nat} {u v : Value} {l : List Int} (hu : w.ownsRow b1 TInt 1 u n1 (intV l)) (hv : w.ownsRow b2 TInt 1 v n2 (intV l)) (hl : l.length ≤ 1000000) :
    Calls Tryz.prog 24 #[u, v] w fun e w' => e = .returned (.bool true) ∧ Touch [] w w' :=
  sameInts_rows hu hv hl
end Go.Proofs.YtdjcpdlfapfmkaaGreat

namespace Go.Proofs.YtdjcpdlfapfmkaaGreat
set_option maxRecDepth 100000
open Go.RowKit Go.Lib Go.ChangeShapes Go.WideShapes

set_option maxHeartbeats 4000000 in
theorem putI1_any (kb base : Nat) (c : Cs) (vs us : List Value) (Ls : List (List Int)) (v : Value) (bv : Nat) (L : List Int) (W : World) (hB : BkBlk W kb c) (hge : base ≤ kb) (hK : Kept kdI W base (c 2) (c 3) vs us Ls) (hv : W.ownsRow bv TInt 1 v L.length (intV L)) (hbv : base ≤ bv) (hf : ∀ u ∈ vs ++ us, Far u v) (hn : Ls.length < 250) (hL : L.length ≤ 3100) (hb : base ≤ W.heap.size) :
    Calls Tryz.prog 18 #[.pointer (some ⟨kb, 0, none⟩), v] W fun e W' => e = .returned (.tuple #[]) ∧ Rest [TBook, TInts] W W' ∧ Newer W base W' ∧ W.heap.size ≤ W'.heap.size ∧ ∃ tv' wv' u, BkBlk W' kb (upd (upd c 2 tv') 3 wv') ∧ Kept kdI W' base tv' wv' (vs ++ [v]) (us ++ [u]) (Ls ++ [L]) ∧ (∀ k, u.ownBlock = some k → W.heap.size ≤ k) := by
  obtain ⟨i0, hi0, hz0, hz1, hz2⟩ := info_parts infoSSI
  obtain ⟨y1, c1, e1, hy1, hy1'⟩ := slice_form hK.own1
  obtain ⟨y2, c2, e2, hy2, hy2'⟩ := slice_form hK.own2
  obtain ⟨yv, cv, rfl, hyv, hyv'⟩ := slice_form hv
  have k0 := bk_cell hB 2 (by decide)
  have f0 := free_of hB 2
  have HB0 := hid hB
  have E1 := hid e1
  have E2 := hid e2
  rw [show c ⟨2, by decide⟩ = .slice y1 Ls.length c1 from e1] at k0
  have HK := hid hK
  have HV := hid hv
  have hnI : (Ls.length : Int) < 250 := by omega
  clear hK hv hB e1 e2
  have KO : Hid (W.ownsRow base TInts 1 (.slice y1 Ls.length c1) Ls.length vs) := hid (by have := HK.out.own1; rwa [E1.out] at this)
  have KO2 : Hid (W.ownsRow base TInts 1 (.slice y2 Ls.length c2) Ls.length us) := hid (by have := HK.out.own2; rwa [E2.out] at this)
  have KF : Hid (Far (.slice y1 Ls.length c1) (.slice y2 Ls.length c2)) := hid (by have := HK.out.far; rwa [E1.out, E2.out] at this)
  go_enter Tryz.func18, Tryz.ntmps18
  go_wp2_with (at_builtin; refine wpList_append_grew _ rfl (.tmp 14) (.tmp 16) TSSI rfl base TInts i0 nilS 1 24 Tryz.underlying34 hi0 hz0 hz1 hz2 rfl (by decide) (.slice y1 Ls.length c1) Ls.length vs rfl (KO.out.alloc _) (.slice (some ⟨W.heap.size, 0, none⟩) 1 1) 1 0 [.slice yv L.length cv] rfl (lit_one _ _ _ _ rfl) (by intro u hu; simp at hu; subst hu; rfl) (by omega) (by decide) (by simp; omega) ?_; intro y3 c3 w1 hG; (have b1 : BkBlk w1 kb c := hG.block (KO.out.alloc _) (heap_alloc_keep HB0.out _) (by decide)); (have k10 := bk_cell b1 2 (by decide)); (have f10 := free_of b1 2); have B1 := hid b1; have G := hid hG; clear hG b1 k0 f0)
  go_upto_region 2 with fail
  have OW : Hid (Rest [TBook, TInts] W (w1.setCell ⟨kb, 2, none⟩ (.slice y3 (Ls.length + 1) c3))) := hid (((Rest.touch ((Touch.refl [] W).alloc _)).trans (G.out.rest (KO.out.alloc _) (by simp))).trans (Rest.set B1.out 2 _ (by simp)))
  have O1 := hid (own_set_book B1.out G.out.own (by decide) 2 (.slice y3 (Ls.length + 1) c3))
  have O2 := hid (own_set_book B1.out (G.out.other KF.out (KO2.out.alloc _)) (by decide) 2 (.slice y3 (Ls.length + 1) c3))
  have F2 := hid (G.out.far KF.out (KO2.out.alloc _))
  have T2 : Hid (Newer W base (w1.setCell ⟨kb, 2, none⟩ (.slice y3 (Ls.length + 1) c3))) := hid ((((Newer.refl W base).touch ((Touch.refl [] W).alloc _)).grew G.out (KO.out.alloc _) (Nat.le_refl _)).set hge _)
  have hb2 : BkBlk (w1.setCell ⟨kb, 2, none⟩ (.slice y3 (Ls.length + 1) c3)) kb (upd c 2 (.slice y3 (Ls.length + 1) c3)) := bk_set B1.out 2 (by decide) _
  have ZW : Hid (W.heap.size ≤ (w1.setCell ⟨kb, 2, none⟩ (.slice y3 (Ls.length + 1) c3)).heap.size) := hid (by have := G.out.size; simp at this ⊢; omega)
  clear k10 f10 B1 G KO
  generalize w1.setCell ⟨kb, 2, none⟩ (.slice y3 (Ls.length + 1) c3) = w2 at *
  have B2 := hid hb2
  have C2 : Hid (∀ w, Touch [] w2 w → w.cell? ⟨kb, 3, none⟩ = some (.slice y2 Ls.length c2)) := hid fun w t => by
    have h := bk_cell (bk_touch B2.out t) 3 (by decide)
    rw [show upd c 2 (.slice y3 (Ls.length + 1) c3) ⟨3, by decide⟩ = .slice y2 Ls.length c2 from (upd_other c _ (by decide)).trans E2.out] at h
    exact h
  have k21 := C2.out _ (Touch.refl _ _)
  clear hb2
  have CT := hid (fun w (t : Touch [] w2 w) => copyI_any (.slice yv L.length cv) L.length bv L w (owns_touch (OW.out.row HV.out (by decide)) t) (by omega))
  have k2d : w2.drew.cell? ⟨kb, 3, none⟩ = some (.slice y2 Ls.length c2) := k21
  go_region_law (first
      | (refine step_call _ rfl (f := 51) (args := #[.slice yv L.length cv]) (by simp [go_sem, Act.eval]) (CT.out _ ((Touch.refl [] w2).drew)) ?_
         rintro e w3 ⟨u, rfl, hu, t3⟩
         obtain ⟨yu, cu, rfl, _, _⟩ := slice_form hu
         refine ⟨_, rfl, ?_⟩
         have T3 : Hid (Touch [] w2 w3) := hid (((Touch.refl [] w2).drew).trans t3 (by simp))
         have HU := hid hu
         have B3 : Hid (BkBlk w3 kb (upd c 2 (.slice y3 (Ls.length + 1) c3))) := hid (bk_touch B2.out T3.out)
         have k31 := C2.out _ T3.out
         have k32 := fun o : Obj => C2.out _ (T3.out.alloc o)
         clear hu t3)
      | (refine step_append_grew _ rfl (.tmp 24) (.tmp 27) TSSI rfl base TInts i0 nilS 1 24 Tryz.underlying34 hi0 hz0 hz1 hz2 rfl (by decide) (.slice y2 Ls.length c2) Ls.length us (by simp [Act.eval]) ((owns_touch O2.out T3.out).alloc _) ⟨w3.heap.size, 0, none⟩ 1 1 [.slice yu L.length cu] (by simp [Act.eval]) rfl (fun j x hj => (lit_one w3 (.slice yu L.length cu) TInts _ rfl).cells (g := w3.heap.size) rfl j x hj) (by intro x hx; simp at hx; subst hx; rfl) (by omega) (by decide) (by have := ZW.out; have := T3.out.size; simp; omega) ?_
         intro y4 c4 w4 hG4
         have B4 : Hid (BkBlk w4 kb (upd c 2 (.slice y3 (Ls.length + 1) c3))) := hid (hG4.block ((owns_touch O2.out T3.out).alloc _) (heap_alloc_keep B3.out _) (by decide))
         have G4 := hid hG4
         have k41 := bk_cell B4.out 3 (by decide)
         have f41 := free_of B4.out 3
         clear hG4))
  all_goals
    go_wp2
    go_end0
    have b5 : BkBlk (w4.setCell ⟨kb, 3, none⟩ (.slice y4 (Ls.length + 1) c4)) kb (upd (upd c 2 (.slice y3 (Ls.length + 1) c3)) 3 (.slice y4 (Ls.length + 1) c4)) := bk_set B4.out 3 (by decide) _
    have O2' := (owns_touch O2.out T3.out).alloc (.cells #[.slice yu L.length cu] TInts)
    have OW4 : Rest [TBook, TInts] W w4 := ((OW.out.trans (Rest.touch T3.out)).trans (Rest.touch ((Touch.refl [] w3).alloc (.cells #[.slice yu L.length cu] TInts)))).trans (G4.out.rest O2' (by simp))
    have OW5 : Rest [TBook, TInts] W (w4.setCell ⟨kb, 3, none⟩ (.slice y4 (Ls.length + 1) c4)) := OW4.trans (Rest.set B4.out 3 _ (by simp))
    have O1' := (owns_touch O1.out T3.out).alloc (.cells #[.slice yu L.length cu] TInts)
    have F4 : Far (.slice y4 (Ls.length + 1) c4) (.slice y3 (Ls.length + 1) c3) := G4.out.far F2.out.symm O1'
    have U5 := own_set_book B4.out (G4.out.other (far_types O2' (HU.out.alloc _) (by decide)) (HU.out.alloc _)) (by decide) 3 (.slice y4 (Ls.length + 1) c4)
    have hWs : W.heap.size ≤ w2.drew.heap.size := ZW.out
    have hBs : base ≤ w2.drew.heap.size := Nat.le_trans hb hWs
    have hlen : (Ls ++ [L]).length = Ls.length + 1 := by simp
    have hn1 := HK.out.n1
    have hn2 := HK.out.n2
    refine ⟨rfl, OW5, ((T2.out.touch (T3.out.alloc (.cells #[.slice yu L.length cu] TInts))).grew G4.out O2' (Nat.le_refl _)).set hge _, by have h1 := G4.out.size; have h2 := T3.out.size; have h3 := ZW.out; simp at h1 ⊢; omega, _, _, .slice yu L.length cu, b5, ⟨by simp [hn1], by simp [hn2], ?_, ?_, F4.symm, ?_, ?_, ?_, ?_, ?_⟩, fun k hk => Nat.le_trans hWs (U5.lt k hk).1⟩
    · rw [hlen]
      exact own_set_book B4.out (G4.out.other F2.out.symm O1') (by decide) 3 _
    · rw [hlen]
      exact own_set_book B4.out G4.out.own (by decide) 3 _
    · intro i h h1
      by_cases hi : i < Ls.length
      · have := OW5.row (HK.out.r1 i hi (by omega)) (by decide)
        simpa only [List.getElem_append_left hi, List.getElem_append_left (show i < vs.length by omega)] using this
      · obtain rfl : i = Ls.length := by rw [hlen] at h; omega
        have e1 : (vs ++ [Value.slice yv L.length cv])[Ls.length]'h1 = .slice yv L.length cv := by simp [← hn1]
        have e2 : (Ls ++ [L])[Ls.length]'h = L := by simp
        rw [e1, e2]
        exact own_up (OW5.row HV.out (by decide)) hbv
    · intro i h h1
      by_cases hi : i < Ls.length
      · have := OW5.row (HK.out.r2 i hi (by omega)) (by decide)
        simpa only [List.getElem_append_left hi, List.getElem_append_left (show i < us.length by omega)] using this
      · obtain rfl : i = Ls.length := by rw [hlen] at h; omega
        have e1 : (us ++ [Value.slice yu L.length cu])[Ls.length]'h1 = .slice yu L.length cu := by simp [← hn2]
        have e2 : (Ls ++ [L])[Ls.length]'h = L := by simp
        rw [e1, e2]
        exact own_up U5 hBs
    · refine pairwise_add HK.out.ap hf (fun x hx => ?_) (far_new HV.out U5 hWs)
      obtain ⟨n, xs, hr⟩ := HK.out.row x hx
      exact far_new hr U5 hWs
    · intro M hM
      rw [List.mem_append] at hM
      rcases hM with hM | hM
      · exact HK.out.sz M hM
      · simp at hM; subst hM; exact hL
    · rw [hlen]; omega

set_option maxHeartbeats 2000000 in
theorem stillI_any (kb base : Nat) (c : Cs) (vs us : List Value) (Ls : List (List Int)) (W : World) (hB : BkBlk W kb c) (hK : Kept kdI W base (c 2) (c 3) vs us Ls) :
    Calls Tryz.prog 54 #[.pointer (some ⟨kb, 0, none⟩)] W fun e W' => e = .returned (.bool true) ∧ Touch [] W W' := by
  obtain ⟨y1, c1, e1, hy1, hy1'⟩ := slice_form hK.own1
  obtain ⟨y2, c2, e2, hy2, hy2'⟩ := slice_form hK.own2
  have HK := hid hK
  have hn250 : (Ls.length : Int) ≤ 250 := by have := hK.few; omega
  have KO : Hid (W.ownsRow base TInts 1 (.slice y1 Ls.length c1) Ls.length vs) := hid (by have := hK.own1; rwa [e1] at this)
  have KO2 : Hid (W.ownsRow base TInts 1 (.slice y2 Ls.length c2) Ls.length us) := hid (by have := hK.own2; rwa [e2] at this)
  have CA : Hid (∀ w, Touch [] W w → w.cell? ⟨kb, 2, none⟩ = some (.slice y1 Ls.length c1) ∧ w.cell? ⟨kb, 3, none⟩ = some (.slice y2 Ls.length c2)) := hid fun w t => by
    have h0 := bk_cell (bk_touch hB t) 2 (by decide)
    have h1 := bk_cell (bk_touch hB t) 3 (by decide)
    rw [show c ⟨2, by decide⟩ = .slice y1 Ls.length c1 from e1] at h0
    rw [show c ⟨3, by decide⟩ = .slice y2 Ls.length c2 from e2] at h1
    exact ⟨h0, h1⟩
  clear hK hB e1 e2
  go_enter Tryz.func54, Tryz.ntmps54
  go_wp2
  go_loopw [3] (fun iv wr => ∃ k : Nat, k ≤ Ls.length ∧ iv = .int .i64 k ∧ Touch [] W wr) (fun iv _ => Ls.length - (RowKit.intOf iv).toNat)
  case atStart => exact ⟨0, Nat.zero_le _, rfl, Touch.refl _ _⟩
  case round =>
    obtain ⟨k, hk, rfl, ht⟩ := hrel
    have HT := hid ht
    obtain ⟨k0, -⟩ := CA.out _ ht
    clear ht
    by_cases hlt : k < Ls.length
    · have hl2 : decide (k < Ls.length) = true := by simpa using hlt
      have hkI : (k : Int) < Ls.length := by omega
      have hk0 : (0 : Int) ≤ k := by omega
      have hv1 : k < vs.length := by rw [HK.out.n1]; exact hlt
      have hv2 : k < us.length := by rw [HK.out.n2]; exact hlt
      obtain ⟨g1, q1, e1, a1, _⟩ := rows_at KO.out k hlt hv1
      obtain ⟨g2, q2, e2, a2, _⟩ := rows_at KO2.out k hlt hv2
      simp only [Value.slice.injEq, true_and] at e1 e2
      obtain ⟨rfl, rfl⟩ := e1
      obtain ⟨rfl, rfl⟩ := e2
      have hsz := (HK.out.sz Ls[k] (List.getElem_mem hlt))
      have ra := HK.out.r1 k hlt hv1
      have rb := HK.out.r2 k hlt hv2
      obtain ⟨ya, ca, ea, _, _⟩ := slice_form ra
      obtain ⟨yb, cb, eb, _, _⟩ := slice_form rb
      rw [ea] at a1 ra
      rw [eb] at a2 rb
      have ST := hid (fun (w : World) (t : Touch [] W w) => sameI_rows (owns_touch ra t) (owns_touch rb t) (by omega))
      clear ra rb ea eb hsz
      generalize Ls[k] = M at *
      go_upto_region 4 with fail
      obtain ⟨ι, f, ⟨θ0, hθ0⟩, inst, FT, FE⟩ := held_class wr
      have TT := hid fun θ => HT.out.trans (FT.out θ) (by simp)
      have F0 : ∀ θ, (f θ).cell? ⟨kb, 2, none⟩ = some (.slice (some ⟨g1, 0, none⟩) Ls.length c1) := fun θ => (CA.out _ (TT.out θ)).1
      have F1 : ∀ θ, (f θ).cell? ⟨kb, 3, none⟩ = some (.slice (some ⟨g2, 0, none⟩) Ls.length c2) := fun θ => (CA.out _ (TT.out θ)).2
      have F2 : ∀ θ, (f θ).cell? ⟨g1, k, none⟩ = some (.slice ya M.length ca) := fun θ => (TT.out θ).cell a1
      have F3 : ∀ θ, (f θ).cell? ⟨g2, k, none⟩ = some (.slice yb M.length cb) := fun θ => (TT.out θ).cell a2
      have FC : Hid (∀ θ, Calls Tryz.prog 24 #[.slice ya M.length ca, .slice yb M.length cb] (f θ) fun e w'' => e = .returned (.bool true) ∧ ∃ θ', w'' = f θ') := hid fun θ => (ST.out _ (TT.out θ)).mono fun e w'' ⟨he, h2⟩ => ⟨he, FE.out _ ((FT.out θ).trans h2 (by simp))⟩
      clear ST a1 a2 k0
      refine wp_region_held f θ0 (by kernel_rfl) (by kernel_rfl) hθ0 ?_
      repeat go_big_quiet_step (exact FC.out _)
      refine wpQuiet_nil ?_
      rintro _ ⟨θ, rfl⟩
      have T4 := hid (TT.out θ)
      go_wp2
      go_roundw
      case rel => exact ⟨k + 1, by omega, by go_num, T4.out⟩
      case measure => simp [RowKit.intOf]; omega
    · obtain rfl : k = Ls.length := by omega
      have hl2 : decide (Ls.length < Ls.length) = false := by simp
      clear hlt hk
      go_wp2
      go_ret
      exact ⟨rfl, HT.out⟩
end Go.Proofs.YtdjcpdlfapfmkaaGreat

namespace Go.Proofs.YtdjcpdlfapfmkaaGreat
set_option maxRecDepth 100000
open Go.RowKit Go.Lib Go.ChangeShapes Go.WideShapes

theorem putI_step (M L : List Int) (k : Nat) (h : k < M.length) (hl : L.length = M.length) : (intV (M.take k ++ L.drop k)).set k (.int .i64 M[k]) = intV (M.take (k + 1) ++ L.drop (k + 1)) := by
  unfold intV
  rw [← List.map_set]
  congr 1
  rw [List.set_append_right _ _ (by simp; omega), List.take_succ_eq_append_getElem h, List.append_assoc]
  congr 1
  have : k - (M.take k).length = 0 := by simp; omega
  rw [this, List.drop_eq_getElem_cons (show k < L.length by omega)]
  rfl

set_option maxHeartbeats 4000000 in
theorem putmI_any (kb base : Nat) (c : Cs) (vs : List Value) (ns : Nat → Nat) (M : Nat → List Int) (W : World) (hB : BkBlk W kb c) (hR : Rows1 kdI W base (c 2) vs ns M) :
    Calls Tryz.prog 61 #[.pointer (some ⟨kb, 0, none⟩)] W fun e W' => e = .returned (.tuple #[]) ∧ Rest [TInt] W W' ∧ Newer W base W' ∧ W.heap.size ≤ W'.heap.size ∧ Rows1 kdI W' base (c 2) vs ns (part kdI ns M vs.length) := by
  obtain ⟨y1, c1, e1, hy1, hy1'⟩ := slice_form hR.own1
  have CE := hid e1
  rw [e1] at hR
  rw [e1]
  have HR := hid hR
  have HBK := hid hB
  have CB : Hid (∀ w, Rest [TInt] W w → w.cell? ⟨kb, 2, none⟩ = some (.slice y1 vs.length c1)) := hid fun w t => by
    have h0 := bk_cell (t.blk hB (by decide)) 2 (by decide)
    rwa [show c ⟨2, by decide⟩ = .slice y1 vs.length c1 from e1] at h0
  have hn250 : (vs.length : Int) ≤ 250 := by have := hR.few; omega
  clear hR hB e1
  go_enter Tryz.func61, Tryz.ntmps61
  go_wp2
  go_loopw [2] (fun iv wr => ∃ i : Nat, i ≤ vs.length ∧ iv = .int .i64 i ∧ Rest [TInt] W wr ∧ Newer W base wr ∧ W.heap.size ≤ wr.heap.size ∧ Rows1 kdI wr base (.slice y1 vs.length c1) vs ns (part kdI ns M i)) (fun iv _ => vs.length - (RowKit.intOf iv).toNat)
  case atStart => exact ⟨0, Nat.zero_le _, rfl, Rest.refl _ _, Newer.refl _ _, Nat.le_refl _, by rw [part_zero]; exact HR.out⟩
  case round =>
    obtain ⟨i, hi, rfl, hS, hN, hz, hr⟩ := hrel
    have HS := hid hS
    have HN := hid hN
    have HZ := hid hz
    have HQ := hid hr
    have k0 := CB.out _ hS
    clear hN hr hz hS
    by_cases hlt : i < vs.length
    · have hl2 : decide (i < vs.length) = true := by simpa using hlt
      have hkI : (i : Int) < vs.length := by omega
      have hk0 : (0 : Int) ≤ i := by omega
      obtain ⟨g1, q1, e1, a1, hg1⟩ := rows_at HQ.out.own1 i hlt hlt
      simp only [Value.slice.injEq, true_and] at e1
      obtain ⟨rfl, rfl⟩ := e1
      have HG1 := hid hg1
      have HOI := hid (HQ.out.r1 i hlt)
      obtain ⟨yi, ci, ei, hyi, hyi'⟩ := slice_form HOI.out
      have HEI := hid ei
      rw [ei] at a1
      have hsm := HQ.out.small i
      have hsmI : (ns i : Int) ≤ 3100 := by omega
      have hfw := HR.out.few
      have MT := hid (fun w => markI_any i 0 (ns i) w (by omega) (by omega))
      simp only [Int.natCast_zero] at MT
      clear ei hg1 hsm hfw
      go_wp2_with fail
      refine (MT.out _).mono ?_
      rintro e w2 ⟨mv, rfl, hm, t2⟩
      obtain ⟨ym, cm, rfl, hym, hym'⟩ := slice_form hm
      have HM := hid hm
      have T2 := hid t2
      have R2 := hid (HQ.out.touch t2)
      have HOI2 := hid (R2.out.r1 i hlt)
      have far2 := hid (far_new HOI.out hm (Nat.le_refl _))
      have S2 := hid (HS.out.trans (Rest.touch t2))
      clear hm t2 a1 k0
      go_wp2
      go_loopw [4] (fun kv wq => ∃ k : Nat, k ≤ ns i ∧ kv = .int .i64 k ∧ wq.ownsRow base TInt 1 vs[i] (ns i) (intV ((marks kdI i 0 (ns i)).take k ++ (part kdI ns M i i).drop k)) ∧ Touch (vs[i].ownBlock.toList) w2 wq ∧ Rest [TInt] w2 wq) (fun kv _ => ns i - (RowKit.intOf kv).toNat)
      case atStart => exact ⟨0, Nat.zero_le _, rfl, by have h := R2.out.r1 i hlt; simpa only [List.take_zero, List.nil_append, List.drop_zero] using h, Touch.refl _ _, Rest.refl _ _⟩
      case round =>
        obtain ⟨k, hk, rfl, ho, ht, hs3⟩ := hrel
        have HO := hid ho
        have HT := hid ht
        have HS3 := hid hs3
        clear ho ht hs3
        by_cases hkl : k < ns i
        · have hl3 : decide (k < ns i) = true := by simpa using hkl
          have hkI2 : (k : Int) < ns i := by omega
          have hk02 : (0 : Int) ≤ k := by omega
          have hml : k < (marks kdI i 0 (ns i)).length := by rw [marks_len]; exact hkl
          have ho2 := HO.out
          rw [HEI.out] at ho2
          obtain ⟨g, q, eg, _, _⟩ := ho2.form (by omega)
          simp only [Value.slice.injEq, true_and] at eg
          obtain ⟨rfl, rfl⟩ := eg
          have hF : Hid ((vs[i].ownBlock).toList = [g]) := hid (by rw [HEI.out]; rfl)
          have hob : Hid (vs[i].ownBlock = some g) := hid (by rw [HEI.out]; rfl)
          obtain ⟨gm, qm, em, _, _⟩ := HM.out.form (show 0 < ns i by omega)
          simp only [Value.slice.injEq, true_and] at em
          obtain ⟨rfl, rfl⟩ := em
          have ngm : g ≠ gm := fun e => far2.out g hob.out (by rw [e]; rfl)
          have ngk : g ≠ kb := not_book (S2.out.blk HBK.out (by decide)) HOI2.out (by decide) hob.out
          have ng1 : g ≠ g1 := fun e => far_types HOI2.out R2.out.own1 (by decide) g hob.out (by rw [e]; rfl)
          have HTg := hid (show Touch [g] w2 wr by have := HT.out; rwa [hF.out] at this)
          have SW := S2.out.trans HS3.out
          have l0 := CB.out _ SW
          have l1 : wr.cell? ⟨g1, i, none⟩ = some (.slice (some ⟨g, 0, none⟩) (ns i) ci) := by
            obtain ⟨g4, q4, e4, a4, _⟩ := rows_at (HS3.out.row R2.out.own1 (by decide)) i hlt hlt
            simp only [Value.slice.injEq, Option.some.injEq, Addr.mk.injEq, and_true, true_and] at e4
            obtain ⟨rfl, rfl⟩ := e4
            rw [a4, HEI.out]
          have hM2 := own_touch_far HM.out HTg.out (fun k hk => by simp [Value.ownBlock] at hk; subst hk; simp; exact fun e => ngm e.symm)
          have l2 : wr.cell? ⟨gm, k, none⟩ = some (.int .i64 (marks kdI i 0 (ns i))[k]) := by
            rw [hM2.cellAt k (by omega)]
            simp [intV, hml]
          have l3 : ∃ z, wr.cell? ⟨g, k, none⟩ = some z := by
            rw [ho2.cellAt k (by omega)]
            have := ho2.1
            exact ⟨_, List.getElem?_eq_getElem (by omega)⟩
          obtain ⟨z, l3⟩ := l3
          have l4 := fun j => ho2.frozenAt j
          have l40 := l4 k
          clear l4
          have hML : Hid ((part kdI ns M i i).length = (marks kdI i 0 (ns i)).length) := hid (by have := HOI.out.1; rw [kdokI.len, show kdI.sz = 1 from rfl] at this; rw [marks_len]; omega)
          have hst := hid (putI_step (marks kdI i 0 (ns i)) (part kdI ns M i i) k hml hML.out)
          generalize (marks kdI i 0 (ns i))[k] = tx at *
          go_upto_region 7 with fail
          go_region_held3 (fun w' => w'.cell? ⟨kb, 2, none⟩ = some (.slice (some ⟨g1, 0, none⟩) vs.length c1) ∧ w'.cell? ⟨g1, i, none⟩ = some (.slice (some ⟨g, 0, none⟩) (ns i) ci) ∧ w'.cell? ⟨gm, k, none⟩ = some (.int .i64 tx)) (go_keep) (fail)
          all_goals
            go_wp2
            go_roundw
            case rel =>
              refine ⟨k + 1, by omega, by go_num, ?_, ?_, ?_⟩
              · rw [HEI.out, ← hst.out]
                exact ((owns_touch ho2 ((Touch.refl [] wr).drew)).stored k _).1
              · rw [hF.out]
                exact (HTg.out.drew).setCell (.inl (by simp)) _
              · exact HS3.out.trans ((Rest.touch ((Touch.refl [] wr).drew)).set_own (owns_touch ho2 ((Touch.refl [] wr).drew)) k _)
            case measure => simp [RowKit.intOf]; omega
        · obtain rfl : k = ns i := by omega
          have hl3 : decide (ns i < ns i) = false := by simp
          have hfin := HO.out
          have hML : (part kdI ns M i i).length = ns i := by have := HOI.out.1; rw [kdokI.len, show kdI.sz = 1 from rfl] at this; omega
          rw [List.take_of_length_le (by rw [marks_len]; exact Nat.le_refl _), List.drop_of_length_le (by omega), List.append_nil] at hfin
          have hFb : Hid (∀ k ∈ vs[i].ownBlock.toList, vs[i].ownBlock = some k) := hid (fun k hk => by simpa using hk)
          have R3 := R2.out.turn kdokI hlt hFb.out HT.out hfin
          rw [part_step] at R3
          have R4 := hid R3
          clear R3 hfin hk
          go_wp2
          go_roundw
          case rel => exact ⟨i + 1, by omega, by go_num, S2.out.trans HS3.out, (HN.out.touch T2.out).block HT.out (fun k hk => own_row HOI.out k (hFb.out k hk)), by have := HZ.out; have := T2.out.size; have := HT.out.size; omega, R4.out⟩
          case measure => simp [RowKit.intOf]; omega
    · obtain rfl : i = vs.length := by omega
      have hl2 : decide (vs.length < vs.length) = false := by simp
      clear hlt hi
      go_wp2
      go_end0
      exact ⟨rfl, HS.out, HN.out, HZ.out, HQ.out⟩
end Go.Proofs.YtdjcpdlfapfmkaaGreat

namespace Go.Proofs.YtdjcpdlfapfmkaaGreat
set_option maxRecDepth 100000
open Go.RowKit Go.Lib Go.ChangeShapes Go.WideShapes

set_option maxHeartbeats 4000000 in
theorem growI_any (kb base : Nat) (c : Cs) (vs : List Value) (ns : Nat → Nat) (W : World) (hB : BkBlk W kb c) (hR : Rows1 kdI W base (c 2) vs ns (fun j => marks kdI j 0 (ns j))) (hb : base ≤ W.heap.size) :
    Calls Tryz.prog 66 #[.pointer (some ⟨kb, 0, none⟩)] W fun e W' => ∃ ov gs, e = .returned ov ∧ gs.length = vs.length ∧ Rest [TInt, TInts] W W' ∧ Newer W base W' ∧ W.heap.size ≤ W'.heap.size ∧ Grown kdI W' base (c 2) vs gs ns ∧ W'.ownsRow W.heap.size TInts 1 ov gs.length gs := by
  obtain ⟨y1, c1, e1, hy1, hy1'⟩ := slice_form hR.own1
  rw [e1] at hR
  rw [e1]
  obtain ⟨i0, hi0, hz0, hz1, hz2⟩ := info_parts infoInt
  obtain ⟨i1, hi1, hy0, hyy1, hyy2⟩ := info_parts infoSSI
  have HR := hid hR
  have HB := hid hb
  have CB : Hid (∀ w, Rest [TInt, TInts] W w → w.cell? ⟨kb, 2, none⟩ = some (.slice y1 vs.length c1)) := hid fun w t => by
    have h0 := bk_cell (t.blk hB (by decide)) 2 (by decide)
    rwa [show c ⟨2, by decide⟩ = .slice y1 vs.length c1 from e1] at h0
  have hn250 : (vs.length : Int) ≤ 250 := by have := hR.few; omega
  clear hR hb hB e1
  go_enter Tryz.func66, Tryz.ntmps66
  go_wp2
  go_loopw [3, 4] (fun ov iv wr => ∃ (i : Nat) (gs : List Value), i ≤ vs.length ∧ iv = .int .i64 i ∧ gs.length = i ∧ Rest [TInt, TInts] W wr ∧ Newer W base wr ∧ W.heap.size ≤ wr.heap.size ∧ Grown kdI wr base (.slice y1 vs.length c1) vs gs ns ∧ wr.ownsRow W.heap.size TInts 1 ov gs.length gs) (fun _ iv _ => vs.length - (RowKit.intOf iv).toNat)
  case atStart => exact ⟨0, [], Nat.zero_le _, rfl, rfl, Rest.refl _ _, Newer.refl _ _, Nat.le_refl _, ⟨HR.out, fun j h => absurd h (Nat.not_lt_zero j), Nat.zero_le _, by simp, fun a b h => absurd h (Nat.not_lt_zero a)⟩, World.ownsRow_nil _ _ _ _⟩
  case round =>
    obtain ⟨i, gs, hi, rfl, hgs, hS, hN, hz, hG, hO⟩ := hrel
    obtain ⟨yo, co, rfl, hyo, hyo'⟩ := slice_form hO
    have HS := hid hS
    have HN := hid hN
    have HZ := hid hz
    have HQ := hid hG
    have HO := hid hO
    have HGS := hid hgs
    have k0 := CB.out _ hS
    clear hN hG hz hO hgs hS
    by_cases hlt : i < vs.length
    · have hl2 : decide (i < vs.length) = true := by simpa using hlt
      have hkI : (i : Int) < vs.length := by omega
      have hk0 : (0 : Int) ≤ i := by omega
      obtain ⟨g1, q1, e1, a1, hg1⟩ := rows_at HQ.out.r.own1 i hlt hlt
      simp only [Value.slice.injEq, true_and] at e1
      obtain ⟨rfl, rfl⟩ := e1
      obtain ⟨yi, ci, ei, hyi, hyi'⟩ := slice_form (HQ.out.r.r1 i hlt)
      rw [ei] at a1
      have LS := HQ.out.start hlt HGS.out
      rw [ei] at LS
      have HLS := hid LS
      have hsm := HQ.out.r.small i
      have hsmI : (ns i : Int) ≤ 3100 := by omega
      have hsm0 : (0 : Int) ≤ ns i := by omega
      have HSM := hid hsm
      have h250 : i ≤ 1000 := by have := HR.out.few; omega
      clear ei hg1 LS hsm
      go_wp2
      go_loopw [5, 6] (fun lv nv wq => ∃ t : Nat, t ≤ 12 ∧ nv = .int .i64 t ∧ Longer kdI wq base (.slice (some ⟨g1, 0, none⟩) vs.length c1) vs gs ns i t lv ∧ wq.ownsRow W.heap.size TInts 1 (.slice yo gs.length co) gs.length gs ∧ Rest [TInt, TInts] W wq ∧ Newer W base wq ∧ W.heap.size ≤ wq.heap.size) (fun _ nv _ => 12 - (RowKit.intOf nv).toNat)
      case atStart => exact ⟨0, Nat.zero_le _, rfl, HLS.out, HO.out, HS.out, HN.out, HZ.out⟩
      case round =>
        obtain ⟨t, ht, rfl, hL, hO2, hS2, hN2, hZ2⟩ := hrel
        obtain ⟨yl, cl, rfl, hyl, hyl'⟩ := slice_form hL.own
        have HL := hid hL
        have HO2 := hid hO2
        have HS2 := hid hS2
        have HN2 := hid hN2
        have HZ2 := hid hZ2
        have htI : (t : Int) ≤ 12 := by omega
        have ht0 : (0 : Int) ≤ t := by omega
        clear hL hO2 hN2 hZ2 hS2
        by_cases htl : t < 12
        · have htl2 : (t : Int) < 12 := by omega
          have MT : Hid (∀ w, Calls Tryz.prog 104 #[.int .i64 i, .int .i64 ((ns i : Int) + t), .int .i64 1] w fun e w' => ∃ v, e = .returned v ∧ w'.ownsRow w.heap.size TInt 1 v 1 (intV (marks kdI i (ns i + t) 1)) ∧ Touch [] w w') := fun w => by
            have h := markI_any i (ns i + t) 1 w h250 (by have := HSM.out; omega)
            rw [show ((ns i + t : Nat) : Int) = (ns i : Int) + t from by omega] at h
            exact h
          go_wp2_with fail
          refine (MT.out _).mono ?_
          rintro e w2 ⟨mv, rfl, hm, t2⟩
          obtain ⟨ym, cm, rfl, _, _⟩ := slice_form hm
          have HM := hid hm
          have T2 := hid t2
          have L2 := hid (HL.out.touch t2)
          have O2 := hid (owns_touch HO2.out t2)
          clear hm t2 MT
          go_wp2_with (at_builtin; refine wpList_append_grew _ rfl (.tmp 27) (.tmp 31) TInts rfl base TInt i0 (.int .i64 0) 1 8 Tryz.underlying48 hi0 hz0 hz1 hz2 rfl (by decide) (.slice yl (ns i + t) cl) (ns i + t) (intV (marks kdI i 0 (ns i + t))) rfl L2.out.own (.slice ym 1 cm) 1 wr.heap.size (intV (marks kdI i (ns i + t) 1)) rfl HM.out (intV_one _) (by have := HSM.out; omega) (by decide) (by have := HB.out; have := HZ2.out; have := T2.out.size; omega) ?_; intro y3 c3 w3 hG3; have G3 := hid hG3; clear hG3)
          go_roundw
          case rel => exact ⟨t + 1, by omega, by go_num, L2.out.next kdokI hlt (by have := HGS.out; omega) G3.out, G3.out.other (far_types L2.out.own O2.out (by decide)) O2.out, (HS2.out.trans (Rest.touch T2.out)).trans (G3.out.rest L2.out.own (by simp)), (HN2.out.touch T2.out).grew G3.out L2.out.own (Nat.le_refl _), by have := HZ2.out; have := T2.out.size; have := G3.out.size; omega⟩
          case measure => simp [RowKit.intOf]; omega
        · obtain rfl : t = 12 := by omega
          have MT : Hid (∀ w, Calls Tryz.prog 104 #[.int .i64 i, .int .i64 ((ns i : Int) + 12), .int .i64 60] w fun e w' => ∃ v, e = .returned v ∧ w'.ownsRow w.heap.size TInt 1 v 60 (intV (marks kdI i (ns i + 12) 60)) ∧ Touch [] w w') := fun w => by
            have h := markI_any i (ns i + 12) 60 w h250 (by have := HSM.out; omega)
            rw [show ((ns i + 12 : Nat) : Int) = (ns i : Int) + 12 from by omega] at h
            exact h
          go_wp2_with fail
          refine (MT.out _).mono ?_
          rintro e w2 ⟨mv, rfl, hm, t2⟩
          obtain ⟨ym, cm, rfl, _, _⟩ := slice_form hm
          have HM := hid hm
          have T2 := hid t2
          have L2 := hid (HL.out.touch t2)
          have O2 := hid (owns_touch HO2.out t2)
          have Z2 := hid (show W.heap.size ≤ w2.heap.size by have := HZ2.out; have := t2.size; omega)
          clear hm t2 MT
          go_wp2_with (first | (at_builtin; refine wpList_append_grew _ rfl (.tmp 34) (.tmp 38) TInts rfl base TInt i0 (.int .i64 0) 1 8 Tryz.underlying48 hi0 hz0 hz1 hz2 rfl (by decide) (.slice yl (ns i + 12) cl) (ns i + 12) (intV (marks kdI i 0 (ns i + 12))) rfl L2.out.own (.slice ym 60 cm) 60 wr.heap.size (intV (marks kdI i (ns i + 12) 60)) rfl HM.out (intV_one _) (by have := HSM.out; omega) (by decide) (by have := HB.out; have := Z2.out; omega) ?_; intro y3 c3 w3 hG3; have G3 := hid hG3; have O3 := hid (hG3.other (far_types L2.out.own O2.out (by decide)) O2.out); clear hG3) | (at_builtin; refine wpList_append_grew _ rfl (.tmp 33) (.tmp 40) TSSI rfl W.heap.size TInts i1 nilS 1 24 Tryz.underlying34 hi1 hy0 hyy1 hyy2 rfl (by decide) (.slice yo gs.length co) gs.length gs rfl (O3.out.alloc _) (.slice (some ⟨w3.heap.size, 0, none⟩) 1 1) 1 0 [.slice y3 (ns i + 12 + 60) c3] rfl (lit_one _ _ _ _ rfl) (by intro u hu; simp at hu; subst hu; rfl) (by have := HGS.out; omega) (by decide) (by have := Z2.out; have := G3.out.size; simp; omega) ?_; intro y4 c4 w4 hG4; have G4 := hid hG4; clear hG4))
          have D3 := hid ((L2.out.next kdokI hlt (by have := HGS.out; omega) G3.out).done hlt HGS.out)
          have N3 := hid ((HN2.out.touch T2.out).grew G3.out L2.out.own (Nat.le_refl _))
          have tvfar := hid (far_new HR.out.own1 (O3.out.alloc (.cells #[.slice y3 (ns i + 12 + 60) c3] TInts)) (Nat.le_refl _))
          have D4 := hid ((D3.out.touch ((Touch.refl [] w3).alloc (.cells #[.slice y3 (ns i + 12 + 60) c3] TInts))).strs kdokI tvfar.out.symm (O3.out.alloc _) G4.out)
          refine ⟨⟨i + 1, gs ++ [.slice y3 (ns i + 12 + 60) c3], by omega, by go_num, by simp [HGS.out], ?_, ?_, ?_, D4.out, ?_⟩, by simp [RowKit.intOf]; omega⟩
          · exact (((HS2.out.trans (Rest.touch T2.out)).trans (G3.out.rest L2.out.own (by simp))).trans (Rest.touch ((Touch.refl [] w3).alloc (.cells #[.slice y3 (ns i + 12 + 60) c3] TInts)))).trans (G4.out.rest (O3.out.alloc _) (by simp))
          · exact (N3.out.touch ((Touch.refl [] w3).alloc (.cells #[.slice y3 (ns i + 12 + 60) c3] TInts))).grew G4.out (O3.out.alloc _) HB.out
          · have h1 := Z2.out
            have h2 := G3.out.size
            have h3 := G4.out.size
            simp at h3
            omega
          · rw [show (gs ++ [Value.slice y3 (ns i + 12 + 60) c3]).length = gs.length + 1 by simp]
            exact G4.out.own
    · obtain rfl : i = vs.length := by omega
      have hl2 : decide (vs.length < vs.length) = false := by simp
      clear hlt hi
      go_wp2
      go_ret
      exact ⟨_, gs, rfl, HGS.out, HS.out, HN.out, HZ.out, HQ.out, HO.out⟩

set_option maxHeartbeats 4000000 in
theorem markedI_any (v : Value) (gs : List Value) (ms : Nat → Nat) (bo bg : Nat) (W : World) (hO : W.ownsRow bo TInts 1 v gs.length gs) (hr : ∀ j (h : j < gs.length), W.ownsRow bg TInt 1 gs[j] (ms j) (intV (marks kdI j 0 (ms j)))) (hfew : gs.length ≤ 250) (hsm : ∀ j, ms j ≤ 3200) :
    Calls Tryz.prog 72 #[v] W fun e W' => e = .returned (.bool true) ∧ Touch [] W W' := by
  obtain ⟨y1, c1, rfl, hy1, hy1'⟩ := slice_form hO
  have HO := hid hO
  have HR := hid hr
  have HS := hid hsm
  have hn250 : (gs.length : Int) ≤ 250 := by omega
  have HF := hid hfew
  clear hO hr hsm hfew
  go_enter Tryz.func72, Tryz.ntmps72
  go_wp2
  go_loopw [3] (fun iv wr => ∃ k : Nat, k ≤ gs.length ∧ iv = .int .i64 k ∧ Touch [] W wr) (fun iv _ => gs.length - (RowKit.intOf iv).toNat)
  case atStart => exact ⟨0, Nat.zero_le _, rfl, Touch.refl _ _⟩
  case round =>
    obtain ⟨k, hk, rfl, ht⟩ := hrel
    have HT := hid ht
    clear ht
    by_cases hlt : k < gs.length
    · have hl2 : decide (k < gs.length) = true := by simpa using hlt
      have hkI : (k : Int) < gs.length := by omega
      have hk0 : (0 : Int) ≤ k := by omega
      obtain ⟨g1, q1, e1, a1, _⟩ := rows_at (owns_touch HO.out HT.out) k hlt hlt
      simp only [Value.slice.injEq, true_and] at e1
      obtain ⟨rfl, rfl⟩ := e1
      have hrow := owns_touch (HR.out k hlt) HT.out
      obtain ⟨yi, ci, ei, hyi, hyi'⟩ := slice_form hrow
      rw [ei] at a1 hrow
      have HROW := hid hrow
      have hsmk := HS.out k
      have hsmI : (ms k : Int) ≤ 3200 := by omega
      have MT : Hid (∀ w, Calls Tryz.prog 104 #[.int .i64 k, .int .i64 0, .int .i64 (ms k)] w fun e w' => ∃ v, e = .returned v ∧ w'.ownsRow w.heap.size TInt 1 v (ms k) (intV (marks kdI k 0 (ms k))) ∧ Touch [] w w') := fun w => markI_any k 0 (ms k) w (by have := HF.out; omega) (by omega)
      have HSM := hid hsmk
      have a1d : wr.drew.cell? ⟨g1, k, none⟩ = some (.slice yi (ms k) ci) := a1
      clear hrow ei hsmk
      go_upto_region 4 with fail
      go_region_law (first
        | (refine step_call _ rfl (f := 104) (args := #[.int .i64 k, .int .i64 0, .int .i64 (ms k)]) (by simp [go_sem, Act.eval]) (MT.out _) ?_
           rintro e w2 ⟨mv, rfl, hm, t2⟩
           obtain ⟨ym, cm, rfl, _, _⟩ := slice_form hm
           refine ⟨_, rfl, ?_⟩
           have T2 : Hid (Touch [] wr w2) := hid (((Touch.refl [] wr).drew).trans t2 (by simp))
           have HM := hid hm
           have a2 := T2.out.cell a1
           clear hm t2)
        | (refine step_call _ rfl (f := 24) (args := #[.slice yi (ms k) ci, .slice ym (ms k) cm]) (by simp [go_sem, Act.eval]) (sameI_rows (owns_touch HROW.out T2.out) HM.out (by rw [marks_len]; have := HSM.out; omega)) ?_
           rintro e w3 ⟨rfl, t3⟩
           refine ⟨_, rfl, ?_⟩
           have T3 : Hid (Touch [] wr w3) := hid (T2.out.trans t3 (by simp))
           have a3 := T3.out.cell a1
           clear t3))
      all_goals
        go_wp2
        go_roundw
        case rel => exact ⟨k + 1, by omega, by go_num, HT.out.trans T3.out (by simp)⟩
        case measure => simp [RowKit.intOf]; omega
    · obtain rfl : k = gs.length := by omega
      have hl2 : decide (gs.length < gs.length) = false := by simp
      clear hlt hk
      go_wp2
      go_ret
      exact ⟨rfl, HT.out⟩
end Go.Proofs.YtdjcpdlfapfmkaaGreat

namespace Go.Proofs.YtdjcpdlfapfmkaaGreat
set_option maxRecDepth 100000
open Go.RowKit Go.Lib Go.ChangeShapes Go.WideShapes

set_option maxHeartbeats 8000000 in
theorem apartEI_any (kb base : Nat) (c : Cs) (vsE usE : List Value) (LsE : List (List En)) (vsI usI : List Value) (LsI : List (List Int)) (W : World) (hB : BkBlk W kb c) (hKI : Kept kdI W base (c 2) (c 3) vsI usI LsI) (hKE : Kept kdE W base (c 6) (c 7) vsE usE LsE) (nT : c 0 = nilS) (nS : c 4 = nilS) (nP : c 8 = nilS) (nQ : c 10 = nilS) (hb : base ≤ W.heap.size) :
    Calls Tryz.prog 28 #[.pointer (some ⟨kb, 0, none⟩)] W fun e W' => e = .returned (.bool true) ∧ Newer W base W' := by
  have CT : Hid (∀ w, BkBlk w kb c → w.cell? ⟨kb, 0, none⟩ = some nilS) := hid fun w h => by have := bk_cell h 0 (by decide); rwa [show c ⟨0, by decide⟩ = nilS from nT] at this
  have CI : Hid (∀ w, BkBlk w kb c → w.cell? ⟨kb, 2, none⟩ = some (c 2)) := hid fun w h => bk_cell h 2 (by decide)
  have CS : Hid (∀ w, BkBlk w kb c → w.cell? ⟨kb, 4, none⟩ = some nilS) := hid fun w h => by have := bk_cell h 4 (by decide); rwa [show c ⟨4, by decide⟩ = nilS from nS] at this
  have CE : Hid (∀ w, BkBlk w kb c → w.cell? ⟨kb, 6, none⟩ = some (c 6)) := hid fun w h => bk_cell h 6 (by decide)
  have CP : Hid (∀ w, BkBlk w kb c → w.cell? ⟨kb, 8, none⟩ = some nilS) := hid fun w h => by have := bk_cell h 8 (by decide); rwa [show c ⟨8, by decide⟩ = nilS from nP] at this
  have CQ : Hid (∀ w, BkBlk w kb c → w.cell? ⟨kb, 10, none⟩ = some nilS) := hid fun w h => by have := bk_cell h 10 (by decide); rwa [show c ⟨10, by decide⟩ = nilS from nQ] at this
  have B0 := hid hB
  have KE0 := hid hKE
  have KI0 := hid hKI
  have N0 := hid (Newer.refl W base)
  have Z0 := hid hb
  clear hB hb hKE hKI nT nS nP nQ
  go_enter Tryz.func28, Tryz.ntmps28
  go_wp2_with fail
  refine (none_stillTexts kb _ (CT.out _ B0.out)).mono ?_
  rintro e w' ⟨rfl, rfl⟩
  go_wp2_with fail
  refine (stillI_any kb base c vsI usI LsI _ B0.out KI0.out).mono ?_
  rintro e w1 ⟨rfl, t1⟩
  have B1 := hid (bk_touch B0.out t1)
  have KE1 := hid (KE0.out.touch t1)
  have KI1 := hid (KI0.out.touch t1)
  have N1 := hid (N0.out.touch t1)
  have Z1 := hid (Nat.le_trans Z0.out t1.size)
  clear t1 KE0 KI0 N0 Z0 B0
  go_wp2_with fail
  refine (none_stillStored kb _ (CS.out _ B1.out)).mono ?_
  rintro e w' ⟨rfl, rfl⟩
  go_wp2_with fail
  refine (stillE_any kb base c vsE usE LsE _ B1.out KE1.out).mono ?_
  rintro e w2 ⟨rfl, t2⟩
  have B2 := hid (bk_touch B1.out t2)
  have KE2 := hid (KE1.out.touch t2)
  have KI2 := hid (KI1.out.touch t2)
  have N2 := hid (N1.out.touch t2)
  have Z2 := hid (Nat.le_trans Z1.out t2.size)
  clear t2 KE1 KI1 N1 Z1 B1
  go_wp2_with fail
  refine (none_stillPackets kb _ (CP.out _ B2.out)).mono ?_
  rintro e w' ⟨rfl, rfl⟩
  go_wp2_with fail
  refine (none_stillSteps kb _ (CQ.out _ B2.out)).mono ?_
  rintro e w' ⟨rfl, rfl⟩
  have RE2 := hid (KE2.out.rows1)
  clear KE2
  generalize hnsE : (fun j : Nat => (LsE[j]?.getD []).length) = nsE at *
  generalize hME : (fun j : Nat => LsE[j]?.getD []) = ME at *
  clear hnsE hME
  have RI2 := hid (KI2.out.rows1)
  clear KI2
  generalize hnsI : (fun j : Nat => (LsI[j]?.getD []).length) = nsI at *
  generalize hMI : (fun j : Nat => LsI[j]?.getD []) = MI at *
  clear hnsI hMI
  go_wp2_with fail
  refine (none_putSteps kb _ (CQ.out _ B2.out)).mono ?_
  rintro e w' ⟨rfl, rfl⟩
  go_wp2_with fail
  refine (none_putTexts kb _ (CT.out _ B2.out)).mono ?_
  rintro e w' ⟨rfl, rfl⟩
  go_wp2_with fail
  refine (putmI_any kb base c vsI nsI MI _ B2.out RI2.out).mono ?_
  rintro e w3 ⟨rfl, s3, x3, z3, r3⟩
  have B3 := hid (s3.blk B2.out (by decide))
  have RE3 := hid (RE2.out.rest s3 (by decide) (by decide))
  have RI3 := hid r3.marked
  have N3 := hid (N2.out.trans x3)
  have Z3 := hid (Nat.le_trans Z2.out z3)
  clear s3 x3 z3 r3 RE2 RI2 N2 Z2 B2
  go_wp2_with fail
  refine (none_putStored kb _ (CS.out _ B3.out)).mono ?_
  rintro e w' ⟨rfl, rfl⟩
  go_wp2_with fail
  refine (putmE_any kb base c vsE nsE ME _ B3.out RE3.out).mono ?_
  rintro e w4 ⟨rfl, s4, x4, z4, r4⟩
  have B4 := hid (s4.blk B3.out (by decide))
  have RE4 := hid r4.marked
  have RI4 := hid (RI3.out.rest s4 (by decide) (by decide))
  have N4 := hid (N3.out.trans x4)
  have Z4 := hid (Nat.le_trans Z3.out z4)
  clear s4 x4 z4 r4 RE3 RI3 N3 Z3 B3
  go_wp2_with fail
  refine (none_putPackets kb _ (CP.out _ B4.out)).mono ?_
  rintro e w' ⟨rfl, rfl⟩
  go_wp2_with fail
  refine (none_growTexts kb _ (CT.out _ B4.out)).mono ?_
  rintro e w' ⟨rfl, rfl⟩
  go_wp2_with fail
  refine (growI_any kb base c vsI nsI _ B4.out RI4.out Z4.out).mono ?_
  rintro e w5 ⟨ovI, gsI, rfl, glI, s5, x5, z5, g5, o5⟩
  have B5 := hid (s5.blk B4.out (by decide))
  have RE5 := hid (RE4.out.rest s5 (by decide) (by decide))
  have GI5 := hid g5
  have OI5 := hid (own_up (base' := 0) o5 (Nat.zero_le _))
  have LI := hid glI
  have N5 := hid (N4.out.trans x5)
  have Z5 := hid (Nat.le_trans Z4.out z5)
  clear s5 x5 z5 g5 o5 glI RE4 RI4 N4 Z4 B4
  go_wp2_with fail
  refine (none_growStored kb _ (CS.out _ B5.out)).mono ?_
  rintro e w' ⟨rfl, rfl⟩
  go_wp2_with fail
  refine (growE_any kb base c vsE nsE _ B5.out RE5.out Z5.out).mono ?_
  rintro e w6 ⟨ovE, gsE, rfl, glE, s6, x6, z6, g6, o6⟩
  have B6 := hid (s6.blk B5.out (by decide))
  have GE6 := hid g6
  have OE6 := hid (own_up (base' := 0) o6 (Nat.zero_le _))
  have LE := hid glE
  have GI6 := hid (GI5.out.rest s6 (by decide) (by decide))
  have OI6 := hid (s6.row OI5.out (by decide))
  have N6 := hid (N5.out.trans x6)
  have Z6 := hid (Nat.le_trans Z5.out z6)
  clear s6 x6 z6 g6 o6 glE RE5 GI5 OI5 N5 Z5 B5
  go_wp2_with fail
  refine (none_growPackets kb _ (CP.out _ B6.out)).mono ?_
  rintro e w' ⟨rfl, rfl⟩
  go_wp2_with fail
  refine (none_growSteps kb _ (CQ.out _ B6.out)).mono ?_
  rintro e w' ⟨rfl, rfl⟩
  have lT0 := CT.out _ B6.out
  go_wp2_with fail
  refine (none_markedTexts _).mono ?_
  rintro e w' ⟨rfl, rfl⟩
  clear lT0
  have lT1 := CT.out _ B6.out
  go_wp2_with fail
  refine (none_markedTexts _).mono ?_
  rintro e w' ⟨rfl, rfl⟩
  clear lT1
  have lI0 := CI.out _ B6.out
  go_wp2_with fail
  refine (markedI_any ovI gsI (fun j => nsI j + 72) 0 base _ OI6.out GI6.out.g1 (by have := GI6.out.r.few; have := LI.out; omega) (fun j => by have := GI6.out.r.small j; show nsI j + 72 ≤ 3200; omega)).mono ?_
  rintro e w7 ⟨rfl, t7⟩
  have B7 := hid (bk_touch B6.out t7)
  have GE7 := hid (GE6.out.touch t7)
  have OE7 := hid (owns_touch OE6.out t7)
  have GI7 := hid (GI6.out.touch t7)
  have OI7 := hid (owns_touch OI6.out t7)
  have N7 := hid (N6.out.touch t7)
  clear t7 GE6 OE6 GI6 OI6 N6 B6
  clear lI0
  have lI1 := CI.out _ B7.out
  go_wp2_with fail
  refine (markedI_any (c 2) vsI nsI base base _ GI7.out.r.own1 GI7.out.r.r1 GI7.out.r.few (fun j => by have := GI7.out.r.small j; omega)).mono ?_
  rintro e w8 ⟨rfl, t8⟩
  have B8 := hid (bk_touch B7.out t8)
  have GE8 := hid (GE7.out.touch t8)
  have OE8 := hid (owns_touch OE7.out t8)
  have GI8 := hid (GI7.out.touch t8)
  have OI8 := hid (owns_touch OI7.out t8)
  have N8 := hid (N7.out.touch t8)
  clear t8 GE7 OE7 GI7 OI7 N7 B7
  clear lI1
  have lS0 := CS.out _ B8.out
  go_wp2_with fail
  refine (none_markedStored _).mono ?_
  rintro e w' ⟨rfl, rfl⟩
  clear lS0
  have lS1 := CS.out _ B8.out
  go_wp2_with fail
  refine (none_markedStored _).mono ?_
  rintro e w' ⟨rfl, rfl⟩
  clear lS1
  have lE0 := CE.out _ B8.out
  go_wp2_with fail
  refine (markedE_any ovE gsE (fun j => nsE j + 72) 0 base _ OE8.out GE8.out.g1 (by have := GE8.out.r.few; have := LE.out; omega) (fun j => by have := GE8.out.r.small j; show nsE j + 72 ≤ 3200; omega)).mono ?_
  rintro e w9 ⟨rfl, t9⟩
  have B9 := hid (bk_touch B8.out t9)
  have GE9 := hid (GE8.out.touch t9)
  have OE9 := hid (owns_touch OE8.out t9)
  have GI9 := hid (GI8.out.touch t9)
  have OI9 := hid (owns_touch OI8.out t9)
  have N9 := hid (N8.out.touch t9)
  clear t9 GE8 OE8 GI8 OI8 N8 B8
  clear lE0
  have lE1 := CE.out _ B9.out
  go_wp2_with fail
  refine (markedE_any (c 6) vsE nsE base base _ GE9.out.r.own1 GE9.out.r.r1 GE9.out.r.few (fun j => by have := GE9.out.r.small j; omega)).mono ?_
  rintro e w10 ⟨rfl, t10⟩
  have B10 := hid (bk_touch B9.out t10)
  have GE10 := hid (GE9.out.touch t10)
  have OE10 := hid (owns_touch OE9.out t10)
  have GI10 := hid (GI9.out.touch t10)
  have OI10 := hid (owns_touch OI9.out t10)
  have N10 := hid (N9.out.touch t10)
  clear t10 GE9 OE9 GI9 OI9 N9 B9
  clear lE1
  have lP0 := CP.out _ B10.out
  go_wp2_with fail
  refine (none_markedPackets _).mono ?_
  rintro e w' ⟨rfl, rfl⟩
  clear lP0
  have lP1 := CP.out _ B10.out
  go_wp2_with fail
  refine (none_markedPackets _).mono ?_
  rintro e w' ⟨rfl, rfl⟩
  clear lP1
  have lQ0 := CQ.out _ B10.out
  go_wp2_with fail
  refine (none_markedSteps _).mono ?_
  rintro e w' ⟨rfl, rfl⟩
  clear lQ0
  have lQ1 := CQ.out _ B10.out
  go_wp2_with fail
  refine (none_markedSteps _).mono ?_
  rintro e w' ⟨rfl, rfl⟩
  clear lQ1
  go_wp2
  go_ret
  exact ⟨rfl, N10.out⟩
end Go.Proofs.YtdjcpdlfapfmkaaGreat

namespace Go.Proofs.YtdjcpdlfapfmkaaGreat
set_option maxRecDepth 100000
open Go.RowKit Go.Lib Go.ChangeShapes Go.WideShapes

/-- What the book holds: so many lists of entries, of ints; and what lies apart from them. -/
structure KBk (w : World) (b0 kb nE nI : Nat) (pE pI : List Value) : Prop where
  ge : b0 ≤ kb
  ex : ∃ (c : Cs) (vsE usE : List Value) (LsE : List (List En)) (vsI usI : List Value) (LsI : List (List Int)), BkBlk w kb c ∧ Kept kdE w b0 (c 6) (c 7) vsE usE LsE ∧ Kept kdI w b0 (c 2) (c 3) vsI usI LsI ∧ c 0 = nilS ∧ c 4 = nilS ∧ c 8 = nilS ∧ c 10 = nilS ∧ LsE.length = nE ∧ LsI.length = nI ∧ (∀ p ∈ pE, ∀ u ∈ vsE ++ usE, Far u p) ∧ (∀ p ∈ pI, ∀ u ∈ vsI ++ usI, Far u p)
theorem KBk.rest {w w' : World} {b0 kb nE nI : Nat} {pE pI : List Value} {ts : List TypeId} (h : KBk w b0 kb nE nI pE pI) (r : Rest ts w w') (h1 : TBook ∉ ts) (h2 : TEn ∉ ts) (h3 : TEns ∉ ts) (h4 : TInt ∉ ts) (h5 : TInts ∉ ts) : KBk w' b0 kb nE nI pE pI := by
  obtain ⟨ge, c, vsE, usE, LsE, vsI, usI, LsI, hB, hE, hI, r4⟩ := h
  exact ⟨ge, c, vsE, usE, LsE, vsI, usI, LsI, r.blk hB h1, hE.rest r h2 h3, hI.rest r h4 h5, r4⟩
theorem KBk.touch {w w' : World} {b0 kb nE nI : Nat} {pE pI : List Value} (h : KBk w b0 kb nE nI pE pI) (t : Touch [] w w') : KBk w' b0 kb nE nI pE pI :=
  h.rest (ts := []) (Rest.touch t) (by simp) (by simp) (by simp) (by simp) (by simp)
theorem KBk.pendE {w w' : World} {b0 kb nE nI n : Nat} {pE pI : List Value} {v : Value} {xs : List Value} (h : KBk w b0 kb nE nI pE pI) (t : Touch [] w w') (hv : w'.ownsRow w.heap.size TEn 3 v n xs) : KBk w' b0 kb nE nI (v :: pE) pI := by
  obtain ⟨ge, c, vsE, usE, LsE, vsI, usI, LsI, hB, hE, hI, z0, z4, z8, z10, n1, n2, p1, p2⟩ := h
  refine ⟨ge, c, vsE, usE, LsE, vsI, usI, LsI, bk_touch hB t, hE.touch t, hI.touch t, z0, z4, z8, z10, n1, n2, fun p hp u hu => ?_, p2⟩
  rcases List.mem_cons.1 hp with rfl | hp
  · obtain ⟨m, ys, hr⟩ := hE.row u hu
    exact far_new hr hv (Nat.le_refl _)
  · exact p1 p hp u hu
theorem KBk.pendI {w w' : World} {b0 kb nE nI n : Nat} {pE pI : List Value} {v : Value} {xs : List Value} (h : KBk w b0 kb nE nI pE pI) (t : Touch [] w w') (hv : w'.ownsRow w.heap.size TInt 1 v n xs) : KBk w' b0 kb nE nI pE (v :: pI) := by
  obtain ⟨ge, c, vsE, usE, LsE, vsI, usI, LsI, hB, hE, hI, z0, z4, z8, z10, n1, n2, p1, p2⟩ := h
  refine ⟨ge, c, vsE, usE, LsE, vsI, usI, LsI, bk_touch hB t, hE.touch t, hI.touch t, z0, z4, z8, z10, n1, n2, p1, fun p hp u hu => ?_⟩
  rcases List.mem_cons.1 hp with rfl | hp
  · obtain ⟨m, ys, hr⟩ := hI.row u hu
    exact far_new hr hv (Nat.le_refl _)
  · exact p2 p hp u hu
theorem KBk.putE {w : World} {b0 kb nE nI : Nat} {pE pI : List Value} {v : Value} {L : List En} {bv : Nat} (h : KBk w b0 kb nE nI (v :: pE) pI) (hv : w.ownsRow bv TEn 3 v L.length (envals L)) (hbv : b0 ≤ bv) (hf : ∀ p ∈ pE, Far v p ∧ ∃ b n xs, w.ownsRow b TEn 3 p n xs) (hn : nE < 250) (hL : L.length ≤ 3100) (hb : b0 ≤ w.heap.size) :
    Calls Tryz.prog 17 #[.pointer (some ⟨kb, 0, none⟩), v] w fun e w' => e = .returned (.tuple #[]) ∧ Rest [TBook, TEns] w w' ∧ Newer w b0 w' ∧ w.heap.size ≤ w'.heap.size ∧ KBk w' b0 kb (nE + 1) nI pE pI := by
  obtain ⟨ge, c, vsE, usE, LsE, vsI, usI, LsI, hB, hE, hI, z0, z4, z8, z10, n1, n2, p1, p2⟩ := h
  refine (putE1_any kb b0 c vsE usE LsE v bv L w hB ge hE hv hbv (p1 v (by simp)) (by omega) hL hb).mono ?_
  rintro e w' ⟨rfl, r, new, sz, tv', wv', u, hB', hK', hu⟩
  refine ⟨rfl, r, new, sz, ge, _, _, _, _, vsI, usI, LsI, hB', by simpa only [upd_same, upd_other _ _ (show (6 : Fin 12) ≠ 7 by decide)] using hK', ?_, by simpa [upd] using z0, by simpa [upd] using z4, by simpa [upd] using z8, by simpa [upd] using z10, by simp; omega, n2, fun p hp x hx => ?_, p2⟩
  · have := hI.rest r (by decide) (by decide)
    simpa [upd] using this
  · obtain ⟨f1, b, n, xs, hr⟩ := hf p hp
    have hx2 : x ∈ vsE ++ usE ∨ x = v ∨ x = u := by
      simp only [List.mem_append, List.mem_cons, List.not_mem_nil, or_false] at hx ⊢
      rcases hx with (h1 | h1) | (h1 | h1) <;> simp [h1]
    rcases hx2 with h1 | rfl | rfl
    · exact p1 p (List.mem_cons_of_mem _ hp) x h1
    · exact f1
    · intro k hk hk2
      have h1 := hu k hk
      have h2 := (hr.lt k hk2).2
      omega
theorem KBk.putI {w : World} {b0 kb nE nI : Nat} {pE pI : List Value} {v : Value} {L : List Int} {bv : Nat} (h : KBk w b0 kb nE nI pE (v :: pI)) (hv : w.ownsRow bv TInt 1 v L.length (intV L)) (hbv : b0 ≤ bv) (hf : ∀ p ∈ pI, Far v p ∧ ∃ b n xs, w.ownsRow b TInt 1 p n xs) (hn : nI < 250) (hL : L.length ≤ 3100) (hb : b0 ≤ w.heap.size) :
    Calls Tryz.prog 18 #[.pointer (some ⟨kb, 0, none⟩), v] w fun e w' => e = .returned (.tuple #[]) ∧ Rest [TBook, TInts] w w' ∧ Newer w b0 w' ∧ w.heap.size ≤ w'.heap.size ∧ KBk w' b0 kb nE (nI + 1) pE pI := by
  obtain ⟨ge, c, vsE, usE, LsE, vsI, usI, LsI, hB, hE, hI, z0, z4, z8, z10, n1, n2, p1, p2⟩ := h
  refine (putI1_any kb b0 c vsI usI LsI v bv L w hB ge hI hv hbv (p2 v (by simp)) (by omega) hL hb).mono ?_
  rintro e w' ⟨rfl, r, new, sz, tv', wv', u, hB', hK', hu⟩
  refine ⟨rfl, r, new, sz, ge, _, vsE, usE, LsE, _, _, _, hB', ?_, by simpa only [upd_same, upd_other _ _ (show (2 : Fin 12) ≠ 3 by decide)] using hK', by simpa [upd] using z0, by simpa [upd] using z4, by simpa [upd] using z8, by simpa [upd] using z10, n1, by simp; omega, p1, fun p hp x hx => ?_⟩
  · have := hE.rest r (by decide) (by decide)
    simpa [upd] using this
  · obtain ⟨f1, b, n, xs, hr⟩ := hf p hp
    have hx2 : x ∈ vsI ++ usI ∨ x = v ∨ x = u := by
      simp only [List.mem_append, List.mem_cons, List.not_mem_nil, or_false] at hx ⊢
      rcases hx with (h1 | h1) | (h1 | h1) <;> simp [h1]
    rcases hx2 with h1 | rfl | rfl
    · exact p2 p (List.mem_cons_of_mem _ hp) x h1
    · exact f1
    · intro k hk hk2
      have h1 := hu k hk
      have h2 := (hr.lt k hk2).2
      omega
theorem KBk.apart {w : World} {b0 kb nE nI : Nat} {pE pI : List Value} (h : KBk w b0 kb nE nI pE pI) (hb : b0 ≤ w.heap.size) :
    Calls Tryz.prog 28 #[.pointer (some ⟨kb, 0, none⟩)] w fun e w' => e = .returned (.bool true) ∧ Newer w b0 w' := by
  obtain ⟨ge, c, vsE, usE, LsE, vsI, usI, LsI, hB, hE, hI, z0, z4, z8, z10, n1, n2, p1, p2⟩ := h
  exact apartEI_any kb b0 c vsE usE LsE vsI usI LsI w hB hI hE z0 z4 z8 z10 hb
theorem KBk.start {w : World} {b0 kb : Nat} (ge : b0 ≤ kb) (hB : BkBlk w kb (fun _ => nilS)) : KBk w b0 kb 0 0 [] [] :=
  ⟨ge, _, [], [], [], [], [], [], hB, Kept.none _ _ _, Kept.none _ _ _, rfl, rfl, rfl, rfl, rfl, rfl, by simp, by simp⟩
end Go.Proofs.YtdjcpdlfapfmkaaGreat
