/- Lists of ints held against each other. -/
import Derived.Test.YtnkflmimnpolcaaGr13
import Derived.Test.YtnkflmimnpolcaaFi12
import Derived.BigQuiet
namespace Go.Proofs.Ytnkflmimnpolcaa
open Go.RowKit Go.Lib
set_option maxRecDepth 100000

def intV (l : List Int) : List Value := l.map fun i => .int .i64 i
def IntX (w : World) (x : Option Addr) (l : List Int) : Prop := ∀ (i : Nat) (h : i < l.length), ∃ b off, x = some ⟨b, off, none⟩ ∧ w.cell? ⟨b, off + i, none⟩ = some (.int .i64 (l[i]'h))
theorem intV_len (l : List Int) : (intV l).length = l.length := by simp [intV]
theorem posV_int (l : List En) : posV l = intV (l.map fun e => e.2.2) := by simp [posV, intV]
theorem IntX.t0 {w w' : World} {x : Option Addr} {l : List Int} (h : IntX w x l) (t : Touch [] w w') : IntX w' x l := fun i hi => by
  obtain ⟨b, off, hx, c⟩ := h i hi
  exact ⟨b, off, hx, t.cell c⟩
theorem intX_own {w : World} {base n : Nat} {v : Value} {l : List Int} (h : w.ownsRow base TInt 1 v n (intV l)) : ∃ x c, v = .slice x n c ∧ n = l.length ∧ IntX w x l := by
  have hn : n = l.length := by have := h.1; rw [intV_len] at this; omega
  rcases h.2 with ⟨rfl, h0⟩ | ⟨g, cap, cur, rfl, _, hg, hnc, _, hcs, ht⟩
  · refine ⟨none, 0, by rw [h0], hn, fun i hi => ?_⟩
    omega
  · refine ⟨_, _, rfl, hn, fun i hi => ⟨g, 0, rfl, ?_⟩⟩
    rw [Nat.zero_add, cell_of hg i]
    have hk : (intV l)[i]? = some (.int .i64 (l[i]'hi)) := by simp [intV, hi]
    rw [← ht, List.getElem?_take] at hk
    split at hk
    · simpa using hk
    · cases hk

set_option maxHeartbeats 1000000 in
theorem sameInts_any (x1 x2 : Option Addr) (c1 c2 : Nat) (l1 l2 : List Int) (w : World) (hl1 : l1.length ≤ 1000000) (hl2 : l2.length ≤ 1000000) (h1 : IntX w x1 l1) (h2 : IntX w x2 l2) :
    Calls Try.prog 18 #[.slice x1 l1.length c1, .slice x2 l2.length c2] w fun e w' => e = .returned (.bool (decide (l1 = l2))) ∧ Touch [] w w' := by
  have H1 := hid h1; have H2 := hid h2
  have L1 := hid hl1; have L2 := hid hl2
  clear h1 h2 hl1 hl2
  by_cases hlen : l1.length = l2.length
  · have q : ((l1.length : Int) != (l2.length : Int)) = false := by rw [hlen]; simp
    have HL := hid hlen
    clear hlen
    go_enter Try.func18, Try.ntmps18
    go_wp2
    go_loopw [5] (fun iv wr => ∃ k : Nat, k ≤ l1.length ∧ iv = .int .i64 k ∧ l1.take k = l2.take k ∧ Touch [] w wr) (fun iv _ => l1.length - (RowKit.intOf iv).toNat)
    case atStart => exact ⟨0, Nat.zero_le _, rfl, rfl, Touch.refl _ _⟩
    case round =>
      obtain ⟨k, hk, rfl, heq, ht⟩ := hrel
      have HE := hid heq
      have HT := hid ht
      clear heq ht
      have hi63 := L1.out
      by_cases hlt : k < l1.length
      · have hlt2 : k < l2.length := by rw [← HL.out]; exact hlt
        obtain ⟨b1, o1, rfl, g1⟩ := H1.out k hlt
        obtain ⟨b2, o2, rfl, g2⟩ := H2.out k hlt2
        have e0 := HT.out.drew.cell g1
        have d0 := HT.out.drew.cell g2
        have hstep : Hid (l1[k] = l2[k] → l1.take (k + 1) = l2.take (k + 1)) := fun h => by rw [List.take_succ_eq_append_getElem hlt, List.take_succ_eq_append_getElem hlt2, HE.out, h]
        have hne : Hid (l1[k] ≠ l2[k] → decide (l1 = l2) = false) := fun h => by
          rw [decide_eq_false_iff_not]
          intro e
          apply h
          subst e
          rfl
        clear g1 g2
        generalize l1[k] = s1 at *
        generalize l2[k] = s2 at *
        have hl2' : decide (k < l1.length) = true := by simpa using hlt
        have hl2'' : decide (k < l2.length) = true := by simpa using hlt2
        have hI : (k : Int) < l1.length := by omega
        have hI2 : (k : Int) < l2.length := by omega
        by_cases he : s1 = s2
        · have hs := hid (hstep.out he)
          have hq : (s1 == s2) = true := by simpa using he
          clear hne hstep he
          go_wp2
          go_region
          all_goals go_wp2
          all_goals go_roundw
          all_goals first
            | exact ⟨k + 1, by omega, by go_num, hs.out, HT.out.drew⟩
            | (simp [RowKit.intOf]; omega)
        · have hq : (s1 == s2) = false := by simpa using he
          have hd := hid (hne.out he)
          clear hstep hne he
          go_wp2
          go_region
          all_goals go_wp2
          all_goals go_ret
          all_goals exact ⟨by rw [hd.out]; rfl, HT.out.drew⟩
      · have hl2' : decide (k < l1.length) = false := by simpa using hlt
        have e : k = l1.length := by omega
        subst e
        have hfin : decide (l1 = l2) = true := by
          rw [decide_eq_true_eq]
          have := HE.out
          rw [List.take_length, HL.out, List.take_length] at this
          exact this
        go_wp2
        go_ret
        exact ⟨by rw [hfin]; rfl, HT.out⟩
  · have q : ((l1.length : Int) != (l2.length : Int)) = true := by simp; omega
    have hd : decide (l1 = l2) = false := by
      rw [decide_eq_false_iff_not]
      intro e
      exact hlen (by rw [e])
    clear hlen
    go_enter Try.func18, Try.ntmps18
    go_wp2
    go_ret
    exact ⟨by rw [hd]; rfl, Touch.refl _ _⟩
theorem sameEns_rows {w : World} {b1 b2 n1 n2 : Nat} {u v : Value} {l : List En} (hu : w.ownsRow b1 TEn 3 u n1 (envals l)) (hv : w.ownsRow b2 TEn 3 v n2 (envals l)) (hl : l.length ≤ 1000000) (hs : ∀ x1 x2 c1 c2, EntX w x1 l → EntX w x2 l → Calls Try.prog 15 #[.slice x1 l.length c1, .slice x2 l.length c2] w fun e w' => e = .returned (.bool (decide (l = l))) ∧ Touch [] w w') :
    Calls Try.prog 15 #[u, v] w fun e w' => e = .returned (.bool true) ∧ Touch [] w w' := by
  obtain ⟨x1, c1, rfl, rfl, h1⟩ := entX_own hu
  obtain ⟨x2, c2, rfl, rfl, h2⟩ := entX_own hv
  have := hs x1 x2 c1 c2 h1 h2
  rwa [show decide (l = l) = true by simp] at this
theorem sameInts_rows {w : World} {b1 b2 n1 n2 : Nat} {u v : Value} {l : List Int} (hu : w.ownsRow b1 TInt 1 u n1 (intV l)) (hv : w.ownsRow b2 TInt 1 v n2 (intV l)) (hl : l.length ≤ 1000000) :
    Calls Try.prog 18 #[u, v] w fun e w' => e = .returned (.bool true) ∧ Touch [] w w' := by
  obtain ⟨x1, c1, rfl, rfl, h1⟩ := intX_own hu
  obtain ⟨x2, c2, rfl, rfl, h2⟩ := intX_own hv
  have := sameInts_any x1 x2 c1 c2 l l w hl hl h1 h2
  rwa [show decide (l = l) = true by simp] at this
end Go.Proofs.Ytnkflmimnpolcaa
