/- The laws' own Floor. -/
import Derived.Test.YtepbflcmghkieaaDoorFl15
import Derived.BigQuiet
import Derived.Deep.QuietTactic
import Derived.Deep.DeepCutAuto
namespace Go.Proofs.YtepbflcmghkieaaDoor
open Go.RowKit Go.Lib
set_option maxRecDepth 100000

def f1V (fl a d : Int) (n : Nat) : Int := max (max (max fl 0) d) (if 0 < a then (n : Int) - a else max (max fl 0) d)
set_option maxHeartbeats 4000000 in
theorem refFloor_any (m : MetaD) (fl now : Int) (x : Option Addr) (c : Nat) (l : List Int) (w : World) (hx : IntX w x l) (hl : l.length ≤ 1000000) (f0 : -9223372036854775808 ≤ fl) (f1 : fl ≤ 9223372036854775807) (a1 : m.2.1 ≤ 2305843009213693952) (m1 : m.1 ≤ 9223372036854775807) (n0 : -2305843009213693952 ≤ now) (n1 : now ≤ 2305843009213693952) :
    Calls Tryd.prog 14 #[metaV m.1 m.2.1 m.2.2, .int .i64 fl, .int .i64 now, .slice x l.length c] w fun e w' => e = .returned (.int .i64 (floorV m fl now l)) ∧ Touch [] w w' := by
  obtain ⟨W0, hW0⟩ : ∃ W0, W0 = w.alloc (.cells #[.int .i64 m.1, .int .i64 m.2.1, .int .i64 m.2.2] TMeta) := ⟨_, rfl⟩
  have t0 : Touch [] w W0 := by rw [hW0]; exact (Touch.refl [] w).alloc _
  have B0 : MetaB W0 w.heap.size m := by rw [hW0]; exact heap_alloc_new w _
  have K : Hid (∀ W, Touch [] W0 W → W.cell? ⟨w.heap.size, 0, none⟩ = some (.int .i64 m.1) ∧ W.cell? ⟨w.heap.size, 1, none⟩ = some (.int .i64 m.2.1) ∧ W.cell? ⟨w.heap.size, 2, none⟩ = some (.int .i64 m.2.2)) := hid fun W t => ⟨(B0.t t).at (k := 0) (by decide), (B0.t t).at (k := 1) (by decide), (B0.t t).at (k := 2) (by decide)⟩
  have T0 := hid t0
  have HX := hid (hx.t0 t0)
  have FV : Hid (∀ r, r = min (max (max (max (max fl 0) m.2.2) (if 0 < m.1 then (l.length : Int) - m.1 else max (max fl 0) m.2.2)) (if 0 < m.2.1 then (firstY m.2.1 now l : Int) else max (max fl 0) m.2.2)) l.length → r = floorV m fl now l) := hid fun r h => h
  have FL := firstY_le m.2.1 now l
  have FY : Hid (∀ k (h : k < l.length), k ≤ firstY m.2.1 now l → yng m.2.1 now l[k] = true → firstY m.2.1 now l = k) := hid fun k h => firstY_yes h
  have FN : Hid (∀ k (h : k < l.length), k ≤ firstY m.2.1 now l → yng m.2.1 now l[k] = false → k + 1 ≤ firstY m.2.1 now l) := hid fun k h => firstY_no h
  have YD : Hid (∀ t, yng m.2.1 now t = decide (now - m.2.1 < t)) := hid fun t => rfl
  generalize floorV m fl now l = fv at *
  unfold metaV
  generalize firstY m.2.1 now l = fy at *
  generalize yng m.2.1 now = yg at *
  clear hx t0 B0
  obtain ⟨a, b, d⟩ := m
  dsimp only at *
  obtain ⟨k0, k1, k2⟩ := K.out _ (Touch.refl [] W0)
  go_enter Tryd.func14, Tryd.ntmps14
  go_upto_region 1 with fail
  rw [← hW0]
  clear hW0
  go_upto_if 19 with fail
  go_cut [9] (fun v wx => v = .int .i64 (f1V fl a d l.length) ∧ W0 = wx)
  case first =>
    by_cases ha : 0 < a
    · have da : decide (0 < a) = true := by simpa using ha
      clear K HX FV FY FN YD
      go_wp2
      go_meet
      unfold f1V
      rw [if_pos ha]
      exact ⟨by congr 1; omega, rfl⟩
    · have da : decide (0 < a) = false := by simpa using ha
      clear K HX FV FY FN YD
      go_wp2
      go_meet
      unfold f1V
      rw [if_neg (by omega)]
      exact ⟨by congr 1; omega, rfl⟩
  case rest =>
    obtain ⟨rfl, hw0⟩ := hcut
    subst hw0
    have FV2 : Hid (∀ r, r = min (max (f1V fl a d l.length) (if 0 < b then (fy : Int) else max (max fl 0) d)) l.length → r = fv) := hid fun r h => FV.out r h
    have G1 : Hid (max (max fl 0) d ≤ f1V fl a d l.length) := hid (by unfold f1V; omega)
    clear FV
    generalize f1V fl a d l.length = g at *
    by_cases hb : 0 < b
    · have db : decide (0 < b) = true := by simpa using hb
      have FV3 : Hid (∀ r, r = min (max g (fy : Int)) l.length → r = fv) := hid fun r h => FV2.out r (by rw [h, if_pos hb])
      have e1 : decide (now < -9223372036854775808 + b) = false := by rw [decide_eq_false_iff_not]; omega
      have b1 : -9223372036854775808 ≤ now - b := by omega
      have b2 : now - b ≤ 9223372036854775807 := by omega
      clear FV2 G1
      go_wp2
      go_loopw [10] (fun iv wr => ∃ k : Nat, k ≤ l.length ∧ iv = .int .i64 k ∧ Hid (k ≤ fy) ∧ Hid (Touch [] W0 wr)) (fun iv _ => l.length - (RowKit.intOf iv).toNat)
      case atStart => exact ⟨0, Nat.zero_le _, rfl, hid (Nat.zero_le _), hid (Touch.refl _ _)⟩
      case round =>
        obtain ⟨k, hk, rfl, hf, ht⟩ := hrel
        obtain ⟨r0, r1, r2⟩ := K.out _ ht.out
        by_cases hlt : k < l.length
        · have hlt2 : decide (k < l.length) = true := by simpa using hlt
          have hI : (k : Int) < l.length := by omega
          obtain ⟨bk, off, rfl, g0⟩ := HX.out k hlt
          have e0 := ht.out.cell g0
          have FYk := hid (FY.out k hlt hf.out)
          have FNk := hid (FN.out k hlt hf.out)
          generalize l[k] = t at *
          cases hy : yg t
          · have FN2 := hid (FNk.out hy)
            have e2 : decide (now - b < t) = false := by rw [← YD.out]; exact hy
            clear FYk FNk hy YD g0
            go_wp2
            go_quiet (fail)
            go_wp2
            go_roundw
            case rel => exact ⟨k + 1, by omega, by go_num, FN2, hid (ht.out.drewN _)⟩
            case measure => simp [RowKit.intOf]; omega
          · have FY2 := hid (FYk.out hy)
            have e2 : decide (now - b < t) = true := by rw [← YD.out]; exact hy
            clear FYk FNk hy YD g0
            go_wp2
            go_quiet (fail)
            go_wp2
            go_ret
            rw [← FV3.out _ rfl, FY2.out]
            exact ⟨rfl, T0.out.trans (ht.out.drewN _) (by simp)⟩
        · obtain rfl : k = l.length := by omega
          have hlt2 : decide (l.length < l.length) = false := by simp
          have EQ : Hid (fy = l.length) := hid (by have := hf.out; omega)
          clear FY FN YD
          go_wp2
          go_quiet (fail)
          go_wp2
          go_ret
          rw [← FV3.out _ rfl, EQ.out]
          exact ⟨rfl, T0.out.trans (ht.out.drewN _) (by simp)⟩
    · have db : decide (0 < b) = false := by simpa using hb
      have FV3 : Hid (∀ r, r = min g l.length → r = fv) := hid fun r h => FV2.out r (by rw [h, if_neg hb, Int.max_eq_left G1.out])
      clear FV2 G1
      go_wp2
      go_ret
      rw [← FV3.out _ rfl]
      exact ⟨rfl, T0.out⟩
end Go.Proofs.YtepbflcmghkieaaDoor
