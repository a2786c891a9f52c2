/- Lists of entries held against each other. -/
import Derived.Test.YtnkflmimnpolcaaAl12
import Derived.BigQuiet
namespace Go.Proofs.Ytnkflmimnpolcaa
open Go.RowKit Go.Lib
set_option maxRecDepth 100000

theorem en_ne_not {x e : En} (h : x ≠ e) (W : World) : (if x.1 = e.1 then
  if x.2.1 = e.2.1 then
    if x.2.2 = e.2.2 then Result.ok (Next.value (Value.bool true)) W
    else Result.ok (Next.value (Value.bool false)) W
  else Result.ok (Next.value (Value.bool false)) W
else Result.ok (Next.value (Value.bool false)) W) = Result.ok (Next.value (Value.bool false)) W := en_ne h W
set_option maxHeartbeats 1000000 in
theorem sameEntries_any (x1 x2 : Option Addr) (c1 c2 : Nat) (l1 l2 : List En) (w : World) (hl1 : l1.length ≤ 1000000) (hl2 : l2.length ≤ 1000000) (h1 : EntX w x1 l1) (h2 : EntX w x2 l2) :
    Calls Try.prog 15 #[.slice x1 l1.length c1, .slice x2 l2.length c2] w fun e w' => e = .returned (.bool (decide (l1 = l2))) ∧ Touch [] w w' := by
  have H1 := hid h1; have H2 := hid h2
  have L1 := hid hl1; have L2 := hid hl2
  clear h1 h2 hl1 hl2
  by_cases hlen : l1.length = l2.length
  · have q : ((l1.length : Int) != (l2.length : Int)) = false := by rw [hlen]; simp
    have HL := hid hlen
    clear hlen
    go_enter Try.func15, Try.ntmps15
    go_wp2
    go_loopw [5] (fun iv wr => ∃ k : Nat, k ≤ l1.length ∧ iv = .int .i64 k ∧ l1.take k = l2.take k ∧ Touch [] w wr) (fun iv _ => l1.length - (RowKit.intOf iv).toNat)
    case atStart => exact ⟨0, Nat.zero_le _, rfl, rfl, Touch.refl _ _⟩
    case round =>
      obtain ⟨k, hk, rfl, heq, ht⟩ := hrel
      have HE := hid heq
      have HT := hid ht
      clear heq ht
      have hi63 := L1.out
      by_cases hlt : k < l1.length
      · have hlt2 : k < l2.length := by rw [← HL.out]; exact hlt
        obtain ⟨b1, o1, rfl, g1⟩ := H1.out k hlt
        obtain ⟨b2, o2, rfl, g2⟩ := H2.out k hlt2
        have e0 := HT.out.drew.cell g1.1
        have e1 := HT.out.drew.cell g1.2.1
        have e2 := HT.out.drew.cell g1.2.2
        have d0 := HT.out.drew.cell g2.1
        have d1 := HT.out.drew.cell g2.2.1
        have d2 := HT.out.drew.cell g2.2.2
        have hstep : Hid (l1[k] = l2[k] → l1.take (k + 1) = l2.take (k + 1)) := fun h => by rw [List.take_succ_eq_append_getElem hlt, List.take_succ_eq_append_getElem hlt2, HE.out, h]
        have hne : Hid (l1[k] ≠ l2[k] → decide (l1 = l2) = false) := fun h => by
          rw [decide_eq_false_iff_not]
          intro e
          apply h
          subst e
          rfl
        clear g1 g2
        generalize l1[k] = s1 at *
        generalize l2[k] = s2 at *
        have hl2' : decide (k < l1.length) = true := by simpa using hlt
        have hl2'' : decide (k < l2.length) = true := by simpa using hlt2
        have hI : (k : Int) < l1.length := by omega
        have hI2 : (k : Int) < l2.length := by omega
        by_cases he : s1 = s2
        · have hs := hid (hstep.out he)
          subst he
          clear hne hstep
          go_wp2
          go_region
          all_goals go_wp2
          all_goals go_roundw
          all_goals first
            | exact ⟨k + 1, by omega, by go_num, hs.out, HT.out.drew⟩
            | (simp [RowKit.intOf]; omega)
        · have EQ := en_ne he
          have hd := hid (hne.out he)
          clear hstep hne he
          go_wp2
          go_region
          all_goals go_wp2
          all_goals go_ret
          all_goals exact ⟨by rw [hd.out]; rfl, HT.out.drew⟩
      · have hl2' : decide (k < l1.length) = false := by simpa using hlt
        have e : k = l1.length := by omega
        subst e
        have hfin : decide (l1 = l2) = true := by
          rw [decide_eq_true_eq]
          have := HE.out
          rw [List.take_length, HL.out, List.take_length] at this
          exact this
        go_wp2
        go_ret
        exact ⟨by rw [hfin]; rfl, HT.out⟩
  · have q : ((l1.length : Int) != (l2.length : Int)) = true := by simp; omega
    have hd : decide (l1 = l2) = false := by
      rw [decide_eq_false_iff_not]
      intro e
      exact hlen (by rw [e])
    clear hlen
    go_enter Try.func15, Try.ntmps15
    go_wp2
    go_ret
    exact ⟨by rw [hd]; rfl, Touch.refl _ _⟩
end Go.Proofs.Ytnkflmimnpolcaa
