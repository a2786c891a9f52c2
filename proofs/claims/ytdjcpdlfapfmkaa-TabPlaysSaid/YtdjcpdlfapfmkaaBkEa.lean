/- The book's marks and copies of lists: Entries. -/
import Derived.Test.YtdjcpdlfapfmkaaBg13
import Derived.Test.YtdjcpdlfapfmkaaBt13
import Derived.Test.YtdjcpdlfapfmkaaSe12
import Derived.Test.YtdjcpdlfapfmkaaSi13
import Derived.Test.YtdjcpdlfapfmkaaSw12
namespace Go.Proofs.Ytdjcpdlfapfmkaa
set_option maxRecDepth 100000
open Go.RowKit Go.Lib Go.ChangeShapes Go.WideShapes


abbrev TSSE : TypeId := 31
theorem infoSSE : (Try.prog.info? TEns).map (fun i => (i.zero, i.size, i.bytes)) = some (some nilS, 1, 24) := by kernel_rfl
def markE (i k : Nat) : En := (0, 0, -1000 * (i : Int) - (k : Int) - 1)
abbrev kdE : Kd := { α := En, TE := TEn, TSS := TEns, sz := 3, enc := envals, mar := markE }
theorem kdokE : KdOk kdE := ⟨fun l => envals_len l, fun l m => envals_append l m, fun l => envals_one l, by show TEn ≠ TBook; decide, by show TEns ≠ TBook; decide, by show TEn ≠ TEns; decide⟩

set_option maxHeartbeats 1000000 in
theorem markE_any (i f n : Nat) (W : World) (hi : i ≤ 1000) (hf : f + n ≤ 100000) :
    Calls Try.prog 102 #[.int .i64 i, .int .i64 f, .int .i64 n] W fun e w' => ∃ v, e = .returned v ∧ w'.ownsRow W.heap.size TEn 3 v n (envals (marks kdE i f n)) ∧ Touch [] W w' := by
  obtain ⟨i0, hi0, hz0, hz1, hz2⟩ := info_parts infoEn
  have b1 : (f : Int) + n ≤ 100000 := by omega
  have b2 : (0 : Int) ≤ f := by omega
  have b3 : (0 : Int) ≤ n := by omega
  have b0 : (i : Int) ≤ 1000 := by omega
  have b00 : (0 : Int) ≤ i := by omega
  go_enter Try.func102, Try.ntmps102
  go_wp2
  go_loopw [7, 8] (fun ov kv wr => ∃ j : Nat, j ≤ n ∧ kv = .int .i64 ((f : Int) + j) ∧ wr.ownsRow W.heap.size TEn 3 ov j (envals (marks kdE i f j)) ∧ Touch [] W wr) (fun _ kv _ => f + n - (RowKit.intOf kv).toNat)
  case atStart => exact ⟨0, Nat.zero_le _, by simp, World.ownsRow_nil _ _ _ _, Touch.refl _ _⟩
  case round =>
    obtain ⟨j, hj, rfl, hown, ht⟩ := hrel
    obtain ⟨yu, cu, rfl, -, -⟩ := slice_form hown
    have HO := hid hown
    have HT := hid ht
    clear hown ht
    have b4 : (0 : Int) ≤ j := by omega
    have b5 : (f : Int) + j ≤ 100000 := by omega
    by_cases hlt : j < n
    · have hlt2 : ((f : Int) + j < (f : Int) + n) := by omega
      have hmk := hid (marks_snoc kdE i f j)
      rw [show kdE.mar i (f + j) = ((0, 0, -1000 * (i : Int) - ((f : Int) + (j : Int)) - 1) : En) by show markE i (f + j) = _; unfold markE; rw [Int.natCast_add]] at hmk
      go_wp2_with (at_builtin; refine wpList_append_grew _ rfl _ _ TEns rfl W.heap.size TEn i0 (.agg #[.int .i64 0, .int .i64 0, .int .i64 0]) 3 24 Try.underlying36 hi0 hz0 hz1 hz2 rfl (by decide) _ j (envals (marks kdE i f j)) rfl (HO.out.alloc _) (.slice (some ⟨wr.heap.size, 0, none⟩) 1 1) 1 0 (enc3 (0, 0, -1000 * (i : Int) - ((f : Int) + (j : Int)) - 1)) rfl (lit_en _ (0, 0, -1000 * (i : Int) - ((f : Int) + (j : Int)) - 1) _ rfl) (enc3_one _) (by omega) (by decide) (by have := HT.out.size; simp; omega) ?_; intro y cap w2 hG; have G := hid hG; clear hG)
      go_roundw
      case rel => exact ⟨j + 1, by omega, by go_num, by rw [← hmk.out]; exact (by rw [envals_append]; simpa [envals] using G.out.own), G.out.touch (HO.out.alloc _) (HT.out.alloc _) (Nat.le_refl _)⟩
      case measure => simp [RowKit.intOf]; omega
    · obtain rfl : j = n := by omega
      go_wp2
      go_ret
      exact ⟨_, rfl, HO.out, HT.out⟩

theorem copyE_any (v : Value) (n bv : Nat) (l : List En) (W : World) (hv : W.ownsRow bv TEn 3 v n (envals l)) (hn : n ≤ 100000) :
    Calls Try.prog 44 #[v] W fun e w' => ∃ u, e = .returned u ∧ w'.ownsRow W.heap.size TEn 3 u n (envals l) ∧ Touch [] W w' := by
  obtain ⟨i0, hi0, hz0, hz1, hz2⟩ := info_parts infoEn
  have HV := hid hv
  clear hv
  go_enter Try.func44, Try.ntmps44
  go_wp2_with (at_builtin; refine wpList_append_grew _ rfl _ _ TEns rfl W.heap.size TEn i0 (.agg #[.int .i64 0, .int .i64 0, .int .i64 0]) 3 24 Try.underlying36 hi0 hz0 hz1 hz2 rfl (by decide) (.slice none 0 0) 0 [] rfl (World.ownsRow_nil _ _ _ _) v n bv (envals l) rfl HV.out (envals_one l) (by omega) (by decide) (Nat.le_refl _) ?_; intro y cap w2 hG; have G := hid hG; clear hG)
  go_ret
  exact ⟨_, rfl, by have := G.out.own; simpa using this, G.out.touch (World.ownsRow_nil _ _ _ _) (Touch.refl _ _) (Nat.le_refl _)⟩

theorem sameE_rows {w : World} {b1 b2 n1 n2 : Nat} {u v : Value} {l : List En} (hu : w.ownsRow b1 TEn 3 u n1 (envals l)) (hv : w.ownsRow b2 TEn 3 v n2 (envals l)) (hl : l.length ≤ 1000000) :
    Calls Try.prog 23 #[u, v] w fun e w' => e = .returned (.bool true) ∧ Touch [] w w' :=
  sameEns_rows hu hv hl (fun x1 x2 c1 c2 h1 h2 => sameEntries_any x1 x2 c1 c2 l l w hl hl h1 h2)
end Go.Proofs.Ytdjcpdlfapfmkaa
