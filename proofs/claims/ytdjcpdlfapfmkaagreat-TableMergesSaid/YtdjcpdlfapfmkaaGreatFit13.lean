/- Which lists may be a table. -/
import Derived.Test.YtdjcpdlfapfmkaaGreatLm13
namespace Go.Proofs.YtdjcpdlfapfmkaaGreat
open Go.RowKit Go.Lib
set_option maxRecDepth 100000

set_option maxHeartbeats 4000000 in
theorem fit_any (x : Option Addr) (c : Nat) (l : List En) (w : World) (hx : EntX w x l) (hlen : l.length ≤ 1000000) :
    Calls Tryz.prog 31 #[.slice x l.length c] w fun e w' => e = .returned (.bool (decide (fitE l))) ∧ Touch [] w w' := by
  have HX := hid hx
  clear hx
  go_enter Tryz.func31, Tryz.ntmps31
  go_wp2
  go_loopw [7] (fun iv wr => ∃ k : Nat, k ≤ l.length ∧ iv = .int .i64 k ∧ Hid (fitE (l.take k)) ∧ Touch [] w wr) (fun iv _ => l.length - (RowKit.intOf iv).toNat)
  case atStart => exact ⟨0, Nat.zero_le _, rfl, hid ⟨by simp, by simp⟩, Touch.refl _ _⟩
  case round =>
    obtain ⟨k, hk, rfl, HF, ht⟩ := hrel
    have HT := hid ht
    clear ht
    by_cases hlt : k < l.length
    · have hlt2 : decide (k < l.length) = true := by simpa using hlt
      have hI : (k : Int) < l.length := by omega
      obtain ⟨b, off, hxx, g0, g1, g2⟩ := HX.out k hlt
      subst hxx
      have e0 := HT.out.cell g0
      have e1 := HT.out.cell g1
      have e2 := HT.out.cell g2
      have NX := hid (fun h1 h2 => fit_take hlt HF.out h1 h2)
      have NO := hid (fun h => not_fit_at hlt h)
      have NN := hid (fun h0 h => not_fit_next hlt h0 h)
      clear g0 g1 g2
      generalize hs : l[k] = s at *
      have HS := hid hs
      clear hs
      go_upto_region 4 with fail
      obtain ⟨bx, hbx⟩ : ∃ bx, bx = wr.heap.size := ⟨_, rfl⟩
      obtain ⟨wx, hwx⟩ : ∃ wx, wx = wr.alloc (.cells #[.int .i64 s.1, .int .i64 s.2.1, .int .i64 s.2.2] TEn) := ⟨_, rfl⟩
      have EX := hid (show EnB wx bx s by rw [hwx, hbx]; exact heap_alloc_new wr _)
      have TX := hid (show Touch [] w wx by rw [hwx]; exact HT.out.alloc _)
      rw [← hwx, ← hbx]
      clear hwx hbx e0 e1 e2
      go_cut [29] (fun sv wz => sv = .bool (!decide (okM s)) ∧ wz = wx)
      case first =>
        obtain ⟨q0, q1, q2⟩ := EX.out.c
        go_wp2
        all_goals go_meet
        all_goals exact ⟨by congr 1; rw [Bool.eq_iff_iff]; simp [okM]; clear HX HT HS NX NO NN EX TX HF; grind, rfl⟩
      case rest =>
        obtain ⟨hsv, hwz⟩ := hcut
        subst hsv
        rw [← hwz] at EX TX
        clear hwz
        by_cases hok : okM s
        · have hokb : (!decide (okM s)) = false := by simpa using hok
          have HOK := hid hok
          rw [hokb]
          clear hokb hok
          go_upto_region 6 with fail
          obtain ⟨ι, f, ⟨θ0, hθ0⟩, inst, FT, FE⟩ := held_class wc
          obtain ⟨q0, q1, q2⟩ := EX.out.c
          have F0 : ∀ θ, (f θ).cell? ⟨bx, 0, none⟩ = some (.int .i64 s.1) := fun θ => (FT.out θ).cell q0
          have F1 : ∀ θ, (f θ).cell? ⟨bx, 1, none⟩ = some (.int .i64 s.2.1) := fun θ => (FT.out θ).cell q1
          have F2 : ∀ θ, (f θ).cell? ⟨bx, 2, none⟩ = some (.int .i64 s.2.2) := fun θ => (FT.out θ).cell q2
          clear q0 q1 q2
          by_cases h0 : k = 0
          · have FK := hid (NX.out HOK.out fun h => by omega)
            subst h0
            clear NX NO NN HX HS hlt hlt2
            refine wp_region_held f θ0 (by kernel_rfl) (by kernel_rfl) hθ0 ?_
            repeat go_big_quiet_step (fail)
            refine wpQuiet_nil ?_
            rintro _ ⟨θ, rfl⟩
            have k3 := hid (TX.out.trans (FT.out θ) (by simp))
            generalize f θ = w6 at *
            go_wp2
            go_roundw
            case rel => exact ⟨1, by omega, by go_num, FK, k3.out⟩
            case measure => simp [RowKit.intOf]; omega
          · have hkp : 0 < k := by omega
            have hk1 : k - 1 < l.length := by omega
            obtain ⟨b', off', hxx, g0, g1, g2⟩ := HX.out (k - 1) hk1
            cases hxx
            have G0 : ∀ θ, (f θ).cell? ⟨b, off + (k - 1) * 3, none⟩ = some (.int .i64 (l[k - 1]'hk1).1) := fun θ => (TX.out.trans (FT.out θ) (by simp)).cell g0
            have G1 : ∀ θ, (f θ).cell? ⟨b, off + (k - 1) * 3 + 1, none⟩ = some (.int .i64 (l[k - 1]'hk1).2.1) := fun θ => (TX.out.trans (FT.out θ) (by simp)).cell g1
            have G2 : ∀ θ, (f θ).cell? ⟨b, off + (k - 1) * 3 + 2, none⟩ = some (.int .i64 (l[k - 1]'hk1).2.2) := fun θ => (TX.out.trans (FT.out θ) (by simp)).cell g2
            have FY := hid (fun (hh : ltE (l[k - 1]'hk1) s) => NX.out HOK.out fun _ => hh)
            have FN := hid (fun (hh : ¬ ltE (l[k - 1]'hk1) s) => NN.out hkp hh)
            clear NX NO NN HS g0 g1 g2
            generalize l[k - 1] = r at *
            have LL : Hid (∀ θ, Calls Tryz.prog 80 #[enV r, enV s] (f θ) fun q w'' => q = .returned (.bool (decide (ltE r s))) ∧ ∃ θ', w'' = f θ') := hid fun θ => (less_any r s (f θ)).mono fun q w'' ⟨h1, h2⟩ => ⟨h1, FE.out _ ((FT.out θ).trans h2 (by simp))⟩
            obtain ⟨j, rfl⟩ : ∃ j, k = j + 1 := ⟨k - 1, by omega⟩
            simp only [Nat.add_sub_cancel] at *
            refine wp_region_held f θ0 (by kernel_rfl) (by kernel_rfl) hθ0 ?_
            repeat go_big_quiet_step (exact LL.out _)
            refine wpQuiet_nil ?_
            rintro _ ⟨θ, rfl⟩
            have k3 := hid (TX.out.trans (FT.out θ) (by simp))
            generalize f θ = w6 at *
            by_cases hrs : ltE r s
            · have hb : decide (ltE r s) = true := by simpa using hrs
              have FK := hid (FY.out hrs)
              rw [hb]
              clear hb hrs FY FN LL
              go_wp2
              go_roundw
              case rel => exact ⟨j + 1 + 1, by omega, by go_num, FK, k3.out⟩
              case measure => simp [RowKit.intOf]; omega
            · have hb : decide (ltE r s) = false := by simpa using hrs
              have hd : decide (fitE l) = false := by simpa using FN.out hrs
              rw [hb]
              clear hb hrs FY FN LL
              go_wp2
              go_ret
              exact ⟨by rw [hd]; rfl, k3.out⟩
        · have hokb : (!decide (okM s)) = true := by simpa using hok
          have hd : decide (fitE l) = false := by simpa using NO.out hok
          rw [hokb]
          clear hokb hok
          go_wp2
          go_ret
          exact ⟨by rw [hd]; rfl, TX.out⟩
    · obtain rfl : k = l.length := by omega
      have hd : decide (fitE l) = true := by
        have := HF.out
        rw [List.take_length] at this
        simpa using this
      go_wp2
      go_ret
      exact ⟨by rw [hd]; rfl, HT.out⟩
end Go.Proofs.YtdjcpdlfapfmkaaGreat
