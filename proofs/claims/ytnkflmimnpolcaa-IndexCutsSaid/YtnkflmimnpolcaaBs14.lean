/- Looking for an entry in a table by halves: slices.BinarySearchFunc with index.compare. -/
import Derived.Test.YtnkflmimnpolcaaCm14
import Derived.Test.YtnkflmimnpolcaaTb13
import Derived.Deep.LoopGhost
namespace Go.Proofs.Ytnkflmimnpolcaa
open Go.RowKit Go.Lib
set_option maxRecDepth 100000

theorem mem_cnt {l : List En} (hs : SortedE l) (e : En) : (∀ h : cntE l e < l.length, l[cntE l e] = e → e ∈ l) ∧ (∀ h : cntE l e < l.length, l[cntE l e] ≠ e → e ∉ l) ∧ (l.length ≤ cntE l e → e ∉ l) := by
  refine ⟨fun h he => he ▸ List.getElem_mem h, fun h hne hm => ?_, fun h hm => ?_⟩
  · obtain ⟨j, hj, rfl⟩ := List.mem_iff_getElem.1 hm
    have h1 : ¬ j < cntE l l[j] := fun hlt => ltE_irrefl _ ((cnt_iff hs l[j] j hj).2 hlt)
    have h2 : ¬ ltE l[cntE l l[j]] l[j] := fun hlt => absurd ((cnt_iff hs l[j] _ h).1 hlt) (Nat.lt_irrefl _)
    rcases Nat.lt_or_ge (cntE l l[j]) j with h3 | h3
    · exact h2 ((List.pairwise_iff_getElem.1 hs) _ _ h hj h3)
    · have : cntE l l[j] = j := by omega
      exact hne (by congr 1)
  · obtain ⟨j, hj, rfl⟩ := List.mem_iff_getElem.1 hm
    exact absurd ((cnt_iff hs l[j] j hj).2 (by omega)) (ltE_irrefl _)

set_option maxHeartbeats 4000000 in
theorem bsearch_any (x : Option Addr) (c : Nat) (l : List En) (e : En) (w : World) (hx : EntX w x l) (hs : SortedE l) (hlen : l.length ≤ 1000000) :
    Calls Try.prog 68 #[.slice x l.length c, enV e, .func (.func 43) #[] #[]] w fun r w' => r = .returned (.tuple #[.int .i64 (cntE l e : Nat), .bool (decide (e ∈ l))]) ∧ Touch [] w w' := by
  have hcl := cnt_le l e
  have HX := hid hx
  have HCI := hid (cnt_iff hs e)
  obtain ⟨mc1, mc2, mc3⟩ := mem_cnt hs e
  have M1 := hid mc1
  have M2 := hid mc2
  have M3 := hid mc3
  have CM := hid (fun a w' => compare_any a e w')
  generalize hk : cntE l e = k at *
  clear hx mc1 mc2 mc3 hk hs
  obtain ⟨W, hW⟩ : ∃ W, W = w.alloc (.cells #[.int .i64 e.1, .int .i64 e.2.1, .int .i64 e.2.2] 32) := ⟨_, rfl⟩
  obtain ⟨b1, hb1⟩ : ∃ b1, b1 = w.heap.size := ⟨_, rfl⟩
  have E1 : Hid (EnB W b1 e) := hid (by rw [hW, hb1]; exact heap_alloc_new w _)
  have T1 : Hid (Touch [] w W) := hid (by rw [hW]; exact (Touch.refl [] w).alloc _)
  go_enter Try.func68, Try.ntmps68
  go_upto_region 2 with fail
  rw [← hW, ← hb1]
  clear hW hb1
  go_wp2
  go_loopg [9, 10] l.length (fun kx s9 s10 wr => ∃ (lo hi : Nat), s9 = .int .i64 lo ∧ s10 = .int .i64 hi ∧ lo ≤ k ∧ k ≤ hi ∧ hi ≤ l.length ∧ hi - lo ≤ kx ∧ Hid (Touch [] W wr))
  case atStart => exact ⟨0, l.length, rfl, rfl, Nat.zero_le _, hcl, Nat.le_refl _, by omega, hid (Touch.refl _ _)⟩
  case round =>
    obtain ⟨lo, hi, rfl, rfl, hlc, hch, hin, hg, HT⟩ := hrel
    by_cases hlt : lo < hi
    · go_upto_region 5 with fail
      obtain ⟨mid, hmid⟩ : ∃ mid, mid = (lo + hi) / 2 := ⟨_, rfl⟩
      rw [show ((lo : Int) + (hi : Int)) / 2 = (mid : Int) by omega]
      have hml : mid < l.length := by omega
      have hmI : (mid : Int) < l.length := by omega
      have hm1 : lo ≤ mid := by omega
      have hm2 : mid < hi := by omega
      clear hmid
      obtain ⟨bx, off, rfl, g0, g1, g2⟩ := HX.out mid hml
      have iff := HCI.out mid hml
      obtain ⟨ι, f, ⟨θ0, hθ0⟩, inst, FT, FE⟩ := held_class wr
      have tt := hid fun θ => T1.out.trans (HT.out.trans (FT.out θ) (by simp)) (by simp)
      have F0 : ∀ θ, (f θ).cell? ⟨bx, off + mid * 3, none⟩ = some (.int .i64 l[mid].1) := fun θ => (tt.out θ).cell g0
      have F1 : ∀ θ, (f θ).cell? ⟨bx, off + mid * 3 + 1, none⟩ = some (.int .i64 l[mid].2.1) := fun θ => (tt.out θ).cell g1
      have F2 : ∀ θ, (f θ).cell? ⟨bx, off + mid * 3 + 2, none⟩ = some (.int .i64 l[mid].2.2) := fun θ => (tt.out θ).cell g2
      have G0 : ∀ θ, (f θ).cell? ⟨b1, 0, none⟩ = some (.int .i64 e.1) := fun θ => (HT.out.trans (FT.out θ) (by simp)).cell E1.out.c.1
      have G1 : ∀ θ, (f θ).cell? ⟨b1, 1, none⟩ = some (.int .i64 e.2.1) := fun θ => (HT.out.trans (FT.out θ) (by simp)).cell E1.out.c.2.1
      have G2 : ∀ θ, (f θ).cell? ⟨b1, 2, none⟩ = some (.int .i64 e.2.2) := fun θ => (HT.out.trans (FT.out θ) (by simp)).cell E1.out.c.2.2
      have CC : Hid (∀ θ, Calls Try.prog 43 #[enV l[mid], enV e] (f θ) fun r w'' => r = .returned (.int .i64 (cmpE l[mid] e)) ∧ ∃ θ', w'' = f θ') := hid fun θ => (CM.out _ (f θ)).mono fun r w'' ⟨h1, h2⟩ => ⟨h1, FE.out _ ((FT.out θ).trans h2 (by simp))⟩
      have CL := hid (cmpE_lt l[mid] e)
      generalize l[mid] = a at *
      generalize cmpE a e = cv at *
      clear g0 g1 g2
      refine wp_region_held f θ0 (by kernel_rfl) (by kernel_rfl) hθ0 ?_
      repeat go_big_quiet_step (exact CC.out _)
      refine wpQuiet_nil ?_
      rintro _ ⟨θ, rfl⟩
      have HT2 : Hid (Touch [] W (f θ)) := hid (HT.out.trans (FT.out θ) (by simp))
      generalize f θ = w6 at *
      clear F0 F1 F2 G0 G1 G2 CC FT FE hθ0 inst HT tt
      by_cases hp : mid < k
      · have hd : decide (cv < 0) = true := by rw [CL.out]; simpa using iff.2 hp
        rw [hd]
        clear CL iff hd
        go_wp2
        go_roundg (hi - (mid + 1))
        case measure => omega
        case rel => exact ⟨mid + 1, hi, by go_num, rfl, by omega, hch, hin, Nat.le_refl _, HT2⟩
      · have hd : decide (cv < 0) = false := by rw [CL.out]; simpa using fun h => hp (iff.1 h)
        rw [hd]
        clear CL iff hd
        go_wp2
        go_roundg (mid - lo)
        case measure => omega
        case rel => exact ⟨lo, mid, rfl, rfl, hlc, by omega, by omega, Nat.le_refl _, HT2⟩
    · obtain rfl : lo = k := by omega
      obtain rfl : hi = lo := by omega
      have hlt2 : decide (hi < hi) = false := by simp
      by_cases hk : hi < l.length
      · have hk2 : decide (hi < l.length) = true := by simpa using hk
        have hkI : (hi : Int) < l.length := by omega
        obtain ⟨bx, off, rfl, g0, g1, g2⟩ := HX.out hi hk
        have m1 := M1.out hk
        have m2 := M2.out hk
        obtain ⟨ι, f, ⟨θ0, hθ0⟩, inst, FT, FE⟩ := held_class wr
        have tt := hid fun θ => T1.out.trans (HT.out.trans (FT.out θ) (by simp)) (by simp)
        have F0 : ∀ θ, (f θ).cell? ⟨bx, off + hi * 3, none⟩ = some (.int .i64 l[hi].1) := fun θ => (tt.out θ).cell g0
        have F1 : ∀ θ, (f θ).cell? ⟨bx, off + hi * 3 + 1, none⟩ = some (.int .i64 l[hi].2.1) := fun θ => (tt.out θ).cell g1
        have F2 : ∀ θ, (f θ).cell? ⟨bx, off + hi * 3 + 2, none⟩ = some (.int .i64 l[hi].2.2) := fun θ => (tt.out θ).cell g2
        have G0 : ∀ θ, (f θ).cell? ⟨b1, 0, none⟩ = some (.int .i64 e.1) := fun θ => (HT.out.trans (FT.out θ) (by simp)).cell E1.out.c.1
        have G1 : ∀ θ, (f θ).cell? ⟨b1, 1, none⟩ = some (.int .i64 e.2.1) := fun θ => (HT.out.trans (FT.out θ) (by simp)).cell E1.out.c.2.1
        have G2 : ∀ θ, (f θ).cell? ⟨b1, 2, none⟩ = some (.int .i64 e.2.2) := fun θ => (HT.out.trans (FT.out θ) (by simp)).cell E1.out.c.2.2
        have CC : Hid (∀ θ, Calls Try.prog 43 #[enV l[hi], enV e] (f θ) fun r w'' => r = .returned (.int .i64 (cmpE l[hi] e)) ∧ ∃ θ', w'' = f θ') := hid fun θ => (CM.out _ (f θ)).mono fun r w'' ⟨h1, h2⟩ => ⟨h1, FE.out _ ((FT.out θ).trans h2 (by simp))⟩
        have CZ := hid (cmpE_zero l[hi] e)
        generalize l[hi] = a at *
        have HB : Hid ((cmpE a e == 0) = decide (e ∈ l)) := hid (by
          by_cases ha : a = e
          · rw [CZ.out.2 ha, decide_eq_true (m1 ha)]; rfl
          · rw [decide_eq_false (m2 ha), beq_eq_false_iff_ne]; exact fun h => ha (CZ.out.1 h))
        clear m1 m2 CZ g0 g1 g2
        generalize cmpE a e = cv at *
        go_upto_region 8 with fail
        refine wp_region_held f θ0 (by kernel_rfl) (by kernel_rfl) hθ0 ?_
        repeat go_big_quiet_step (exact CC.out _)
        refine wpQuiet_nil ?_
        rintro _ ⟨θ, rfl⟩
        have HT2 : Hid (Touch [] W (f θ)) := hid (HT.out.trans (FT.out θ) (by simp))
        generalize f θ = w6 at *
        clear F0 F1 F2 G0 G1 G2 CC FT FE hθ0 inst HT tt
        go_wp2
        go_ret2
        exact ⟨by rw [← HB.out]; rfl, T1.out.trans HT2.out (by simp)⟩
      · have hk2 : decide (hi < l.length) = false := by simpa using hk
        have hn : decide (e ∈ l) = false := by simpa using M3.out (by omega)
        go_upto_region 8 with fail
        obtain ⟨ι, f, ⟨θ0, hθ0⟩, inst, FT, FE⟩ := held_class wr
        refine wp_region_held f θ0 (by kernel_rfl) (by kernel_rfl) hθ0 ?_
        repeat go_big_quiet_step (fail)
        refine wpQuiet_nil ?_
        rintro _ ⟨θ, rfl⟩
        have HT2 : Hid (Touch [] W (f θ)) := hid (HT.out.trans (FT.out θ) (by simp))
        generalize f θ = w6 at *
        go_wp2
        go_ret2
        exact ⟨by rw [hn]; rfl, T1.out.trans HT2.out (by simp)⟩
end Go.Proofs.Ytnkflmimnpolcaa
