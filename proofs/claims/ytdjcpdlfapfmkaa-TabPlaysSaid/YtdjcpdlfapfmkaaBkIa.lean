/- The book's marks and copies of lists: Ints. -/
import Derived.Test.YtdjcpdlfapfmkaaBg13
import Derived.Test.YtdjcpdlfapfmkaaSi13
namespace Go.Proofs.Ytdjcpdlfapfmkaa
set_option maxRecDepth 100000
open Go.RowKit Go.Lib Go.ChangeShapes Go.WideShapes

theorem intV_one (l : List Int) : ∀ u ∈ intV l, u.oneCell' = true := by
  intro u hu
  simp only [intV, List.mem_map] at hu
  obtain ⟨e, _, rfl⟩ := hu
  rfl
theorem intV_len1 (l : List Int) : (intV l).length = l.length * 1 := by rw [intV_len, Nat.mul_one]
theorem intV_app (l m : List Int) : intV (l ++ m) = intV l ++ intV m := by simp [intV]

abbrev TSSI : TypeId := 29
theorem infoSSI : (Try.prog.info? TInts).map (fun i => (i.zero, i.size, i.bytes)) = some (some nilS, 1, 24) := by kernel_rfl
def markI (i k : Nat) : Int := (-1000000 * (i : Int) - (k : Int) - 7)
abbrev kdI : Kd := { α := Int, TE := TInt, TSS := TInts, sz := 1, enc := intV, mar := markI }
theorem kdokI : KdOk kdI := ⟨fun l => intV_len1 l, fun l m => intV_app l m, fun l => intV_one l, by show TInt ≠ TBook; decide, by show TInts ≠ TBook; decide, by show TInt ≠ TInts; decide⟩

set_option maxHeartbeats 1000000 in
theorem markI_any (i f n : Nat) (W : World) (hi : i ≤ 1000) (hf : f + n ≤ 100000) :
    Calls Try.prog 100 #[.int .i64 i, .int .i64 f, .int .i64 n] W fun e w' => ∃ v, e = .returned v ∧ w'.ownsRow W.heap.size TInt 1 v n (intV (marks kdI i f n)) ∧ Touch [] W w' := by
  obtain ⟨i0, hi0, hz0, hz1, hz2⟩ := info_parts infoInt
  have b1 : (f : Int) + n ≤ 100000 := by omega
  have b2 : (0 : Int) ≤ f := by omega
  have b3 : (0 : Int) ≤ n := by omega
  have b0 : (i : Int) ≤ 1000 := by omega
  have b00 : (0 : Int) ≤ i := by omega
  go_enter Try.func100, Try.ntmps100
  go_wp2
  go_loopw [7, 8] (fun ov kv wr => ∃ j : Nat, j ≤ n ∧ kv = .int .i64 ((f : Int) + j) ∧ wr.ownsRow W.heap.size TInt 1 ov j (intV (marks kdI i f j)) ∧ Touch [] W wr) (fun _ kv _ => f + n - (RowKit.intOf kv).toNat)
  case atStart => exact ⟨0, Nat.zero_le _, by simp, World.ownsRow_nil _ _ _ _, Touch.refl _ _⟩
  case round =>
    obtain ⟨j, hj, rfl, hown, ht⟩ := hrel
    obtain ⟨yu, cu, rfl, -, -⟩ := slice_form hown
    have HO := hid hown
    have HT := hid ht
    clear hown ht
    have b4 : (0 : Int) ≤ j := by omega
    have b5 : (f : Int) + j ≤ 100000 := by omega
    by_cases hlt : j < n
    · have hlt2 : ((f : Int) + j < (f : Int) + n) := by omega
      have hmk := hid (marks_snoc kdI i f j)
      rw [show kdI.mar i (f + j) = -1000000 * (i : Int) - ((f : Int) + (j : Int)) - 7 by show markI i (f + j) = _; unfold markI; rw [Int.natCast_add]] at hmk
      go_wp2_with (at_builtin; refine wpList_append_grew _ rfl _ _ TInts rfl W.heap.size TInt i0 (.int .i64 0) 1 8 Try.underlying51 hi0 hz0 hz1 hz2 rfl (by decide) _ j (intV (marks kdI i f j)) rfl (HO.out.alloc _) (.slice (some ⟨wr.heap.size, 0, none⟩) 1 1) 1 0 [.int .i64 (-1000000 * (i : Int) - ((f : Int) + (j : Int)) - 7)] rfl (lit_one _ _ _ _ rfl) (by intro u hu; simp at hu; subst hu; rfl) (by omega) (by decide) (by have := HT.out.size; simp; omega) ?_; intro y cap w2 hG; have G := hid hG; clear hG)
      go_roundw
      case rel => exact ⟨j + 1, by omega, by go_num, by rw [← hmk.out]; exact (by rw [intV_app]; simpa [intV] using G.out.own), G.out.touch (HO.out.alloc _) (HT.out.alloc _) (Nat.le_refl _)⟩
      case measure => simp [RowKit.intOf]; omega
    · obtain rfl : j = n := by omega
      go_wp2
      go_ret
      exact ⟨_, rfl, HO.out, HT.out⟩

theorem copyI_any (v : Value) (n bv : Nat) (l : List Int) (W : World) (hv : W.ownsRow bv TInt 1 v n (intV l)) (hn : n ≤ 100000) :
    Calls Try.prog 45 #[v] W fun e w' => ∃ u, e = .returned u ∧ w'.ownsRow W.heap.size TInt 1 u n (intV l) ∧ Touch [] W w' := by
  obtain ⟨i0, hi0, hz0, hz1, hz2⟩ := info_parts infoInt
  have HV := hid hv
  clear hv
  go_enter Try.func45, Try.ntmps45
  go_wp2_with (at_builtin; refine wpList_append_grew _ rfl _ _ TInts rfl W.heap.size TInt i0 (.int .i64 0) 1 8 Try.underlying51 hi0 hz0 hz1 hz2 rfl (by decide) (.slice none 0 0) 0 [] rfl (World.ownsRow_nil _ _ _ _) v n bv (intV l) rfl HV.out (intV_one l) (by omega) (by decide) (Nat.le_refl _) ?_; intro y cap w2 hG; have G := hid hG; clear hG)
  go_ret
  exact ⟨_, rfl, by have := G.out.own; simpa using this, G.out.touch (World.ownsRow_nil _ _ _ _) (Touch.refl _ _) (Nat.le_refl _)⟩

theorem sameI_rows {w : World} {b1 b2 n1 n2 : Nat} {u v : Value} {l : List Int} (hu : w.ownsRow b1 TInt 1 u n1 (intV l)) (hv : w.ownsRow b2 TInt 1 v n2 (intV l)) (hl : l.length ≤ 1000000) :
    Calls Try.prog 26 #[u, v] w fun e w' => e = .returned (.bool true) ∧ Touch [] w w' :=
  sameInts_rows hu hv hl
end Go.Proofs.Ytdjcpdlfapfmkaa
