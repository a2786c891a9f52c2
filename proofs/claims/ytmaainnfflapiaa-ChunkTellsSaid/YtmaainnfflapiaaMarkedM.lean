/- The book's markedTexts. -/
import Derived.Test.YtmaainnfflapiaaGrowM
namespace Go.Proofs.Ytmaainnfflapiaa
set_option maxRecDepth 100000
open Go.RowKit Go.Lib Go.ChangeShapes Go.WideShapes

theorem same_rows {w : World} {b1 b2 n : Nat} {u v : Value} {L : List ByteArray} (hu : w.ownsRow b1 TStr 1 u n (svals L)) (hv : w.ownsRow b2 TStr 1 v n (svals L)) (hs : ∀ s ∈ L, s.size ≤ maxLen) (hn : n ≤ 100000) :
    Calls Try.prog 19 #[u, v] w fun e w' => e = .returned (.bool true) ∧ Touch [] w w' := by
  obtain ⟨y1, c1, rfl, h1, t1, _⟩ := row_texts hu hs
  obtain ⟨y2, c2, rfl, _, t2, _⟩ := row_texts hv hs
  have h := sameTexts_any y1 y2 c1 c2 L L w (by omega) (by omega) t1 t2
  have hd : decide (L = L) = true := by simp
  rwa [hd] at h

set_option maxHeartbeats 4000000 in
set_option maxRecDepth 100000 in
theorem markedTexts_any (v : Value) (gs : List Value) (ms : Nat → Nat) (bo bg : Nat) (W : World) (hO : W.ownsRow bo TStrs 1 v gs.length gs) (hr : ∀ j (h : j < gs.length), W.ownsRow bg TStr 1 gs[j] (ms j) (svals (marks j 0 (ms j)))) (hfew : gs.length ≤ 250) (hsm : ∀ j, ms j ≤ 3200) :
    Calls Try.prog 51 #[v] W fun e W' => e = .returned (.bool true) ∧ Touch [] W W' := by
  obtain ⟨y1, c1, rfl, hy1, hy1'⟩ := slice_form hO
  have HO := hid hO
  have HR := hid hr
  have HS := hid hsm
  have hn250 : (gs.length : Int) ≤ 250 := by omega
  clear hO hr hsm
  go_enter Try.func51, Try.ntmps51
  go_wp2
  go_loopw [3] (fun iv wr => ∃ k : Nat, k ≤ gs.length ∧ iv = .int .i64 k ∧ Touch [] W wr) (fun iv _ => gs.length - (RowKit.intOf iv).toNat)
  case atStart => exact ⟨0, Nat.zero_le _, rfl, Touch.refl _ _⟩
  case round =>
    obtain ⟨k, hk, rfl, ht⟩ := hrel
    have HT := hid ht
    clear ht
    by_cases hlt : k < gs.length
    · have hl2 : decide (k < gs.length) = true := by simpa using hlt
      have hkI : (k : Int) < gs.length := by omega
      have hk0 : (0 : Int) ≤ k := by omega
      obtain ⟨g1, q1, e1, a1, _⟩ := strs_at (owns_touch HO.out HT.out) k hlt hlt
      simp only [Value.slice.injEq, true_and] at e1
      obtain ⟨rfl, rfl⟩ := e1
      have hrow := owns_touch (HR.out k hlt) HT.out
      obtain ⟨yi, ci, ei, hyi, hyi'⟩ := slice_form hrow
      rw [ei] at a1 hrow
      have HROW := hid hrow
      have hsmk := HS.out k
      have hsmI : (ms k : Int) ≤ 3200 := by omega
      have MT : Hid (∀ w, Calls Try.prog 76 #[.int .i64 k, .int .i64 0, .int .i64 (ms k)] w fun e w' => ∃ v, e = .returned v ∧ w'.ownsRow w.heap.size TStr 1 v (ms k) (svals (marks k 0 (ms k))) ∧ Touch [] w w') := fun w => markTexts_any k 0 (ms k) w (by omega) (by omega)
      have HSM := hid hsmk
      have a1d : wr.drew.cell? ⟨g1, k, none⟩ = some (.slice yi (ms k) ci) := a1
      clear hrow ei hsmk
      go_upto_region 4 with fail
      go_region_law (first
        | (refine step_call _ rfl (f := 76) (args := #[.int .i64 k, .int .i64 0, .int .i64 (ms k)]) (by simp [go_sem, Act.eval]) (MT.out _) ?_
           rintro e w2 ⟨mv, rfl, hm, t2⟩
           obtain ⟨ym, cm, rfl, _, _⟩ := slice_form hm
           refine ⟨_, rfl, ?_⟩
           have T2 : Hid (Touch [] wr w2) := hid (((Touch.refl [] wr).drew).trans t2 (by simp))
           have HM := hid hm
           have a2 := T2.out.cell a1
           clear hm t2)
        | (refine step_call _ rfl (f := 19) (args := #[.slice yi (ms k) ci, .slice ym (ms k) cm]) (by simp [go_sem, Act.eval]) (same_rows (owns_touch HROW.out T2.out) HM.out (marks_sizes _ _ _) (by have := HSM.out; omega)) ?_
           rintro e w3 ⟨rfl, t3⟩
           refine ⟨_, rfl, ?_⟩
           have T3 : Hid (Touch [] wr w3) := hid (T2.out.trans t3 (by simp))
           have a3 := T3.out.cell a1
           clear t3))
      all_goals
        go_wp2
        go_roundw
        case rel => exact ⟨k + 1, by omega, by go_num, HT.out.trans T3.out (by simp)⟩
        case measure => simp [RowKit.intOf]; omega
    · obtain rfl : k = gs.length := by omega
      have hl2 : decide (gs.length < gs.length) = false := by simp
      clear hlt hk
      go_wp2
      go_ret
      exact ⟨rfl, HT.out⟩
end Go.Proofs.Ytmaainnfflapiaa
