/- What a table finds; its midpoints. -/
import Derived.Test.YtdjcpdlfapfmkaaGreatBt13
import Derived.Test.YtdjcpdlfapfmkaaGreatGr13
import Derived.OwnWalk
namespace Go.Proofs.YtdjcpdlfapfmkaaGreat
open Go.RowKit Go.Lib
set_option maxRecDepth 100000

theorem posV_one (l : List En) : ∀ u ∈ posV l, u.oneCell' = true := by
  intro u hu
  simp only [posV, List.mem_map] at hu
  obtain ⟨e, _, rfl⟩ := hu
  rfl
theorem posV_take {l : List En} {k : Nat} (h : k < l.length) : posV (l.take (k + 1)) = posV (l.take k) ++ [.int .i64 l[k].2.2] := by
  rw [List.take_succ_eq_append_getElem h]; unfold posV; rw [List.map_append]; rfl

set_option maxHeartbeats 2000000 in
theorem tbfind_any {p : Option Addr} {l : List En} (h v : Int) {w : World} (ht : TblAt w p l) (hs : SortedE l) (hm : OkM l) (hlen : l.length ≤ 1000000) :
    Calls Tryz.prog 15 #[.pointer p, .int .i64 h, .int .i64 v] w fun e w' => ∃ u, e = .returned u ∧ w'.ownsRow w.heap.size TInt 1 u (l.filter (isHV h v)).length (posV (l.filter (isHV h v))) ∧ Touch [] w w' := by
  have B := hid (between_any (h, v, 0) (h, v, 9223372036854775807) ht hs hlen)
  rw [btw_find hm] at B
  have hle : (l.filter (isHV h v)).length ≤ 1000000 := Nat.le_trans (List.length_filter_le _ _) hlen
  generalize l.filter (isHV h v) = m at *
  obtain ⟨i0, hi, hz0, hz1, hz2⟩ := info_parts infoInt
  clear ht hs hm hlen
  go_enter Tryz.func15, Tryz.ntmps15
  go_wp2_with fail
  refine B.out.mono ?_
  rintro r w1 ⟨x, c, rfl, -, hx, t1⟩
  have T1 := hid t1
  have HX := hid hx
  clear t1 hx B
  go_wp2_with fail
  go_loopw [7, 19] (fun uv iv wr => ∃ k : Nat, k ≤ m.length ∧ iv = .int .i64 k ∧ wr.ownsRow w1.heap.size TInt 1 uv k (posV (m.take k)) ∧ Touch [] w1 wr) (fun _ iv _ => m.length - (RowKit.intOf iv).toNat)
  case atStart => exact ⟨0, Nat.zero_le _, rfl, World.ownsRow_nil _ _ _ _, Touch.refl _ _⟩
  case round =>
    obtain ⟨k, hk, rfl, hown, ht⟩ := hrel
    obtain ⟨yu, cu, rfl, -, -⟩ := slice_form hown
    have HT := hid ht
    have HO := hid hown
    clear ht hown
    by_cases hlt : k < m.length
    · have hlt2 : decide (k < m.length) = true := by simpa using hlt
      have hI : (k : Int) < m.length := by omega
      obtain ⟨b, off, rfl, g0, g1, g2⟩ := HX.out k hlt
      have e0 := HT.out.cell g0
      have e1 := HT.out.cell g1
      have e2 := HT.out.cell g2
      have PT := hid (posV_take hlt)
      clear g0 g1 g2
      generalize m[k] = s at *
      go_wp2_with (at_builtin; refine wpList_append_grew _ rfl _ _ TInts rfl w1.heap.size TInt i0 (.int .i64 0) 1 8 Tryz.underlying48 hi hz0 hz1 hz2 rfl (by decide) _ k (posV (m.take k)) rfl ((HO.out.alloc _).alloc _) (.slice (some ⟨wr.heap.size + 1, 0, none⟩) 1 1) 1 0 [.int .i64 s.2.2] rfl (lit_one _ _ _ _ (by simp)) (by intro u hu; simp at hu; subst hu; rfl) (by omega) (by decide) (by have := HT.out.size; simp; omega) ?_; intro y cap w2 hG; have G := hid hG; clear hG)
      go_roundw
      case rel => exact ⟨k + 1, by omega, by go_num, by rw [PT.out]; exact G.out.own, G.out.touch ((HO.out.alloc _).alloc _) ((HT.out.alloc _).alloc _) (Nat.le_refl _)⟩
      case measure => simp [RowKit.intOf]; omega
    · obtain rfl : k = m.length := by omega
      go_wp2
      go_ret
      rw [List.take_length] at HO
      exact ⟨_, rfl, own_up HO.out T1.out.size, T1.out.trans HT.out (by simp)⟩
end Go.Proofs.YtdjcpdlfapfmkaaGreat
