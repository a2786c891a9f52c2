/- A table that is built and opened; alive of chapter 13. -/
import Derived.Test.YtdjcpdlfapfmkaaGreatOx13
namespace Go.Proofs.YtdjcpdlfapfmkaaGreat
open Go.RowKit Go.Lib Go.ChangeShapes
set_option maxRecDepth 100000

theorem openR_tab {l : List En} (h : fitE l) : openR (sealed (tabT l)) = (some l, 0) := by
  unfold openR
  rw [if_neg (by rw [sealed_size]; omega), sealed_head, sealed_tail, if_pos rfl, openL_tab h]
theorem open_tab {l : List En} (h : fitE l) (w : World) (hs : l.length ≤ 4000) :
    Calls Tryz.prog 11 #[.string (sealed (tabT l))] w fun e w' => ∃ tb, e = .returned (.tuple #[.pointer (some ⟨tb, 0, none⟩), .int .i64 0]) ∧ TblAt w' (some ⟨tb, 0, none⟩) l ∧ Touch [] w w' := by
  have := open_any (sealed (tabT l)) w (by rw [sealed_size, tabT_size]; omega)
  rw [openR_tab h] at this
  refine this.mono ?_
  rintro e w' ⟨p, rfl, hp, t⟩
  rcases hp with ⟨h1, _⟩ | ⟨l', tb, h1, h2, h3, h4⟩
  · cases h1
  · cases h1
    subst h3
    exact ⟨tb, rfl, h4.at, t⟩
theorem build_fit {x : Option Addr} {c : Nat} {l : List En} {w : World} (hx : EntX w x l) (hlen : l.length ≤ 4000) (h : fitE l) :
    Calls Tryz.prog 8 #[.slice x l.length c] w fun e w' => e = .returned (.tuple #[.string (sealed (tabT l)), .int .i64 0]) ∧ Touch [] w w' := by
  have := build_any x c l w hx hlen
  unfold buildV at this
  rwa [if_pos h] at this

def aliveE (k : Nat) : List En := (List.range k).map fun (i : Nat) => ((1, Int.ofNat i, Int.ofNat i) : En)
theorem aliveE_len (k : Nat) : (aliveE k).length = k := by simp [aliveE]
theorem aliveE_succ (k : Nat) : aliveE (k + 1) = aliveE k ++ [(1, (k : Int), (k : Int))] := by simp [aliveE, List.range_succ]

set_option maxHeartbeats 4000000 in
theorem alive13_true (w : World) : Calls Tryz.prog 5 #[] w fun e w' => e = .returned (.bool true) ∧ Touch [] w w' := by
  obtain ⟨i0, hi, hz0, hz1, hz2⟩ := info_parts infoEn
  have hfit : Hid (fitE (aliveE 9)) := hid (by decide)
  go_enter Tryz.func5, Tryz.ntmps5
  go_wp2
  go_loopw [1, 2] (fun uv iv wr => ∃ k : Nat, k ≤ 9 ∧ iv = .int .i64 k ∧ wr.ownsRow w.heap.size TEn 3 uv k (envals (aliveE k)) ∧ Touch [] w wr) (fun _ iv _ => 9 - (RowKit.intOf iv).toNat)
  case atStart => exact ⟨0, Nat.zero_le _, rfl, World.ownsRow_nil _ _ _ _, Touch.refl _ _⟩
  case round =>
    obtain ⟨k, hk, rfl, hown, ht⟩ := hrel
    obtain ⟨yu, cu, rfl, -, -⟩ := slice_form hown
    have HT := hid ht
    have HO := hid hown
    clear ht hown
    by_cases hlt : k < 9
    · have hI : (k : Int) < 9 := by omega
      go_wp2_with (at_builtin; refine wpList_append_grew _ rfl _ _ TEns rfl w.heap.size TEn i0 (.agg #[.int .i64 0, .int .i64 0, .int .i64 0]) 3 24 Tryz.underlying22 hi hz0 hz1 hz2 rfl (by decide) _ k (envals (aliveE k)) rfl (HO.out.alloc _) (.slice (some ⟨wr.heap.size, 0, none⟩) 1 1) 1 0 (enc3 (1, (k : Int), (k : Int))) rfl (lit_en _ (1, (k : Int), (k : Int)) _ rfl) (enc3_one _) (by omega) (by decide) (by have := HT.out.size; simp; omega) ?_; intro y cap w2 hG; have G := hid hG; clear hG)
      go_roundw
      case rel => exact ⟨k + 1, by omega, by go_num, by rw [aliveE_succ, envals_append]; simpa [envals] using G.out.own, G.out.touch (HO.out.alloc _) (HT.out.alloc _) (Nat.le_refl _)⟩
      case measure => simp [RowKit.intOf]; omega
    · obtain rfl : k = 9 := by omega
      obtain ⟨x, c, hv, -, hx⟩ := entX_own HO.out
      cases hv
      have BU := hid (build_fit (c := cu) hx (by rw [aliveE_len]; decide) hfit.out)
      rw [aliveE_len] at BU
      have HT9 := hid (hfit.out)
      have OP := hid fun w' => open_tab hfit.out w' (by rw [aliveE_len]; decide)
      generalize sealed (tabT (aliveE 9)) = st at *
      clear hx HO
      go_wp2_with fail
      refine BU.out.mono ?_
      rintro r w3 ⟨rfl, t3⟩
      have T3 := hid (HT.out.trans t3 (by simp))
      clear t3 BU HT
      go_wp2_with fail
      refine (OP.out _).mono ?_
      rintro r w4 ⟨tb, rfl, ht4, t4⟩
      have T4 := hid (T3.out.trans t4 (by simp))
      have A4 := hid ht4
      clear ht4 t4 OP T3
      have LE := hid (tblen_any A4.out)
      rw [aliveE_len] at LE
      have MI := hid (tbmids_any A4.out (by rw [aliveE_len]; decide))
      rw [show (midsE (aliveE 9)).length = 2 by decide] at MI
      have FI := hid fun w' (t : Touch [] w4 w') => tbfind_any 1 4 (A4.out.t0 t) hfit.out.2 hfit.out.1 (by rw [aliveE_len]; decide)
      rw [show ((aliveE 9).filter (isHV 1 4)).length = 1 by decide] at FI
      go_wp2_with (first
        | (go_at_call 27; refine LE.out.mono ?_; rintro r w5 ⟨rfl, h⟩; have h := h.symm; subst h)
        | (go_at_call 16; refine MI.out.mono ?_; rintro r w6 ⟨u, rfl, hu, t6⟩; obtain ⟨x6, c6, rfl, -, -⟩ := slice_form hu; have T6 := hid t6; clear hu t6)
        | (go_at_call 15; refine (FI.out _ T6.out).mono ?_; rintro r w7 ⟨u, rfl, hu, t7⟩; obtain ⟨x7, c7, rfl, -, -⟩ := slice_form hu; have T7 := hid t7; clear hu t7))
      go_ret
      exact ⟨rfl, (T4.out.trans T6.out (by simp)).trans T7.out (by simp)⟩
end Go.Proofs.YtdjcpdlfapfmkaaGreat
