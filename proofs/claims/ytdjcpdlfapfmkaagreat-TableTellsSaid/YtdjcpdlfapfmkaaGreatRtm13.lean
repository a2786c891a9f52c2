/- The laws' own midpoints; which lists may be a table. The laws' own table: its bytes; Build. The laws' own Open of a table. -/
import Derived.Test.YtdjcpdlfapfmkaaGreatRlw13
import Derived.Test.YtdjcpdlfapfmkaaGreatLm13
import Derived.Test.YtdjcpdlfapfmkaaGreatFit13
import Derived.Test.YtdjcpdlfapfmkaaGreatRdm13
import Derived.Test.YtdjcpdlfapfmkaaGreatBu13
import Derived.Test.YtdjcpdlfapfmkaaGreatOd13
import Derived.Test.YtdjcpdlfapfmkaaGreatBg13
namespace Go.Proofs.YtdjcpdlfapfmkaaGreat
open Go.RowKit Go.Lib
set_option maxRecDepth 100000

set_option maxHeartbeats 4000000 in
theorem refMids_any (x : Option Addr) (c : Nat) (l : List En) (w : World) (hx : EntX w x l) (hlen : l.length ≤ 1000000) :
    Calls Tryz.prog 26 #[.slice x l.length c] w fun e w' => ∃ u, e = .returned u ∧ w'.ownsRow w.heap.size TREn 3 u (midsE l).length (envals (midsE l)) ∧ Touch [] w w' := by
  obtain ⟨i0, hi, hz0, hz1, hz2⟩ := info_parts infoREn
  have HM : Hid (midsE l = midsN l l.length) := hid rfl
  have HX := hid hx
  clear hx
  go_enter Tryz.func26, Tryz.ntmps26
  go_wp2_with fail
  go_loopw [3, 4] (fun uv iv wr => ∃ k : Nat, k ≤ l.length ∧ iv = .int .i64 k ∧ wr.ownsRow w.heap.size TREn 3 uv (midsN l k).length (envals (midsN l k)) ∧ Touch [] w wr) (fun _ iv _ => l.length - (RowKit.intOf iv).toNat)
  case atStart => exact ⟨0, Nat.zero_le _, rfl, World.ownsRow_nil _ _ _ _, Touch.refl _ _⟩
  case round =>
    obtain ⟨k, hk, rfl, hown, ht⟩ := hrel
    obtain ⟨yu, cu, rfl, -, -⟩ := slice_form hown
    have HT := hid ht
    have HO := hid hown
    have hle := midsN_len l k
    clear ht hown
    by_cases hlt : k < l.length
    · have hlt2 : decide (k < l.length) = true := by simpa using hlt
      have hI : (k : Int) < l.length := by omega
      obtain ⟨b, off, rfl, g0, g1, g2⟩ := HX.out k hlt
      have e0 := HT.out.cell g0
      have e1 := HT.out.cell g1
      have e2 := HT.out.cell g2
      have PT := hid (midsN_succ l k hlt)
      clear g0 g1 g2
      generalize l[k] = s at *
      generalize hmm : midsN l k = m at *
      have HMM := hid hmm
      clear hmm
      by_cases hq : k % 8 = 0
      · have PT2 := hid (PT.out.trans (if_pos (.inl hq)))
        have hb : ((k : Int) % 8 == 0) = true := by rw [beq_iff_eq]; omega
        clear PT hq
        go_wp2_with (at_builtin; refine wpList_append_grew _ rfl _ _ TREns rfl w.heap.size TREn i0 (.agg #[.int .i64 0, .int .i64 0, .int .i64 0]) 3 24 Tryz.underlying24 hi hz0 hz1 hz2 rfl (by decide) _ m.length (envals m) rfl (HO.out.alloc _) (.slice (some ⟨wr.heap.size, 0, none⟩) 1 1) 1 0 (enc3 s) rfl (lit_ren _ s _ rfl) (enc3_one s) (by omega) (by decide) (by have := HT.out.size; simp; omega) ?_; intro y cap w2 hG; have G := hid hG; clear hG)
        go_roundw
        case rel => exact ⟨k + 1, by omega, by go_num, by rw [PT2.out, List.length_append, envals_append]; simpa [envals] using G.out.own, G.out.touch (HO.out.alloc _) (HT.out.alloc _) (Nat.le_refl _)⟩
        case measure => simp [RowKit.intOf]; omega
      · have hb : ((k : Int) % 8 == 0) = false := by rw [beq_eq_false_iff_ne]; omega
        by_cases hq2 : k = l.length - 1
        · have PT2 := hid (PT.out.trans (if_pos (.inr hq2)))
          have hb2 : ((k : Int) == (l.length : Int) - 1) = true := by rw [beq_iff_eq]; omega
          clear PT hq hq2
          go_wp2_with (at_builtin; refine wpList_append_grew _ rfl _ _ TREns rfl w.heap.size TREn i0 (.agg #[.int .i64 0, .int .i64 0, .int .i64 0]) 3 24 Tryz.underlying24 hi hz0 hz1 hz2 rfl (by decide) _ m.length (envals m) rfl (HO.out.alloc _) (.slice (some ⟨wr.heap.size, 0, none⟩) 1 1) 1 0 (enc3 s) rfl (lit_ren _ s _ rfl) (enc3_one s) (by omega) (by decide) (by have := HT.out.size; simp; omega) ?_; intro y cap w2 hG; have G := hid hG; clear hG)
          go_roundw
          case rel => exact ⟨k + 1, by omega, by go_num, by rw [PT2.out, List.length_append, envals_append]; simpa [envals] using G.out.own, G.out.touch (HO.out.alloc _) (HT.out.alloc _) (Nat.le_refl _)⟩
          case measure => simp [RowKit.intOf]; omega
        · have PT2 := hid (PT.out.trans (if_neg (by omega)))
          have hb2 : ((k : Int) == (l.length : Int) - 1) = false := by rw [beq_eq_false_iff_ne]; omega
          clear PT hq hq2
          go_wp2
          go_roundw
          case rel => exact ⟨k + 1, by omega, by go_num, by rw [PT2.out]; exact HO.out, HT.out⟩
          case measure => simp [RowKit.intOf]; omega
    · obtain rfl : k = l.length := by omega
      go_wp2
      go_ret
      rw [HM.out]
      exact ⟨_, rfl, HO.out, HT.out⟩

set_option maxHeartbeats 4000000 in
theorem refMay_any (x : Option Addr) (c : Nat) (l : List En) (w : World) (hx : EntX w x l) (hlen : l.length ≤ 1000000) :
    Calls Tryz.prog 36 #[.slice x l.length c] w fun e w' => e = .returned (.bool (decide (fitE l))) ∧ Touch [] w w' := by
  have HX := hid hx
  clear hx
  go_enter Tryz.func36, Tryz.ntmps36
  go_wp2
  go_loopw [3] (fun iv wr => ∃ k : Nat, k ≤ l.length ∧ iv = .int .i64 k ∧ Hid (fitE (l.take k)) ∧ Touch [] w wr) (fun iv _ => l.length - (RowKit.intOf iv).toNat)
  case atStart => exact ⟨0, Nat.zero_le _, rfl, hid ⟨by simp, by simp⟩, Touch.refl _ _⟩
  case round =>
    obtain ⟨k, hk, rfl, HF, ht⟩ := hrel
    have HT := hid ht
    clear ht
    by_cases hlt : k < l.length
    · have hlt2 : decide (k < l.length) = true := by simpa using hlt
      have hI : (k : Int) < l.length := by omega
      obtain ⟨b, off, hxx, g0, g1, g2⟩ := HX.out k hlt
      subst hxx
      have e0 := HT.out.cell g0
      have e1 := HT.out.cell g1
      have e2 := HT.out.cell g2
      have NX := hid (fun h1 h2 => fit_take hlt HF.out h1 h2)
      have NO := hid (fun h => not_fit_at hlt h)
      have NN := hid (fun h0 h => not_fit_next hlt h0 h)
      clear g0 g1 g2
      generalize hs : l[k] = s at *
      have HS := hid hs
      clear hs
      go_upto_region 5 with fail
      obtain ⟨bx, hbx⟩ : ∃ bx, bx = wr.heap.size := ⟨_, rfl⟩
      obtain ⟨wx, hwx⟩ : ∃ wx, wx = wr.alloc (.cells #[.int .i64 s.1, .int .i64 s.2.1, .int .i64 s.2.2] TREn) := ⟨_, rfl⟩
      have EX := hid (show REnB wx bx s by rw [hwx, hbx]; exact heap_alloc_new wr _)
      have TX := hid (show Touch [] w wx by rw [hwx]; exact HT.out.alloc _)
      rw [← hwx, ← hbx]
      clear hwx hbx e0 e1 e2
      obtain ⟨ι, f, ⟨θ0, hθ0⟩, inst, FT, FE⟩ := held_class wx
      obtain ⟨q0, q1, q2⟩ := EX.out.c
      have F0 : ∀ θ, (f θ).cell? ⟨bx, 0, none⟩ = some (.int .i64 s.1) := fun θ => (FT.out θ).cell q0
      have F1 : ∀ θ, (f θ).cell? ⟨bx, 1, none⟩ = some (.int .i64 s.2.1) := fun θ => (FT.out θ).cell q1
      have F2 : ∀ θ, (f θ).cell? ⟨bx, 2, none⟩ = some (.int .i64 s.2.2) := fun θ => (FT.out θ).cell q2
      clear q0 q1 q2
      by_cases c0 : s.1 < 0
      · have d0 : decide (s.1 < 0) = true := by simpa using c0
        have hd : decide (fitE l) = false := by simpa using NO.out (fun ho => by unfold okM at ho; omega)
        refine wp_region_held f θ0 (by kernel_rfl) (by kernel_rfl) hθ0 ?_
        repeat go_big_quiet_step (fail)
        refine wpQuiet_nil ?_
        rintro _ ⟨θ, rfl⟩
        have k3 := hid (TX.out.trans (FT.out θ) (by simp))
        generalize f θ = w6 at *
        clear HX HF NX NO NN HS EX TX FT FE
        go_wp2
        go_ret
        first | exact ⟨rfl, k3.out⟩ | exact ⟨by rw [hd]; rfl, k3.out⟩
      have d0 : decide (s.1 < 0) = false := by simpa using c0
      by_cases c1 : s.2.1 < 0
      · have d1 : decide (s.2.1 < 0) = true := by simpa using c1
        have hd : decide (fitE l) = false := by simpa using NO.out (fun ho => by unfold okM at ho; omega)
        refine wp_region_held f θ0 (by kernel_rfl) (by kernel_rfl) hθ0 ?_
        repeat go_big_quiet_step (fail)
        refine wpQuiet_nil ?_
        rintro _ ⟨θ, rfl⟩
        have k3 := hid (TX.out.trans (FT.out θ) (by simp))
        generalize f θ = w6 at *
        clear HX HF NX NO NN HS EX TX FT FE
        go_wp2
        go_ret
        first | exact ⟨rfl, k3.out⟩ | exact ⟨by rw [hd]; rfl, k3.out⟩
      have d1 : decide (s.2.1 < 0) = false := by simpa using c1
      by_cases c2 : s.2.2 < 0
      · have d2 : decide (s.2.2 < 0) = true := by simpa using c2
        have hd : decide (fitE l) = false := by simpa using NO.out (fun ho => by unfold okM at ho; omega)
        refine wp_region_held f θ0 (by kernel_rfl) (by kernel_rfl) hθ0 ?_
        repeat go_big_quiet_step (fail)
        refine wpQuiet_nil ?_
        rintro _ ⟨θ, rfl⟩
        have k3 := hid (TX.out.trans (FT.out θ) (by simp))
        generalize f θ = w6 at *
        clear HX HF NX NO NN HS EX TX FT FE
        go_wp2
        go_ret
        first | exact ⟨rfl, k3.out⟩ | exact ⟨by rw [hd]; rfl, k3.out⟩
      have d2 : decide (s.2.2 < 0) = false := by simpa using c2
      by_cases c3 : 1099511627776 < s.1
      · have d3 : decide (1099511627776 < s.1) = true := by simpa using c3
        have hd : decide (fitE l) = false := by simpa using NO.out (fun ho => by unfold okM at ho; omega)
        refine wp_region_held f θ0 (by kernel_rfl) (by kernel_rfl) hθ0 ?_
        repeat go_big_quiet_step (fail)
        refine wpQuiet_nil ?_
        rintro _ ⟨θ, rfl⟩
        have k3 := hid (TX.out.trans (FT.out θ) (by simp))
        generalize f θ = w6 at *
        clear HX HF NX NO NN HS EX TX FT FE
        go_wp2
        go_ret
        first | exact ⟨rfl, k3.out⟩ | exact ⟨by rw [hd]; rfl, k3.out⟩
      have d3 : decide (1099511627776 < s.1) = false := by simpa using c3
      by_cases c4 : 1099511627776 < s.2.1
      · have d4 : decide (1099511627776 < s.2.1) = true := by simpa using c4
        have hd : decide (fitE l) = false := by simpa using NO.out (fun ho => by unfold okM at ho; omega)
        refine wp_region_held f θ0 (by kernel_rfl) (by kernel_rfl) hθ0 ?_
        repeat go_big_quiet_step (fail)
        refine wpQuiet_nil ?_
        rintro _ ⟨θ, rfl⟩
        have k3 := hid (TX.out.trans (FT.out θ) (by simp))
        generalize f θ = w6 at *
        clear HX HF NX NO NN HS EX TX FT FE
        go_wp2
        go_ret
        first | exact ⟨rfl, k3.out⟩ | exact ⟨by rw [hd]; rfl, k3.out⟩
      have d4 : decide (1099511627776 < s.2.1) = false := by simpa using c4
      by_cases c5 : 1099511627776 < s.2.2
      · have d5 : decide (1099511627776 < s.2.2) = true := by simpa using c5
        have hd : decide (fitE l) = false := by simpa using NO.out (fun ho => by unfold okM at ho; omega)
        refine wp_region_held f θ0 (by kernel_rfl) (by kernel_rfl) hθ0 ?_
        repeat go_big_quiet_step (fail)
        refine wpQuiet_nil ?_
        rintro _ ⟨θ, rfl⟩
        have k3 := hid (TX.out.trans (FT.out θ) (by simp))
        generalize f θ = w6 at *
        clear HX HF NX NO NN HS EX TX FT FE
        go_wp2
        go_ret
        first | exact ⟨rfl, k3.out⟩ | exact ⟨by rw [hd]; rfl, k3.out⟩
      have d5 : decide (1099511627776 < s.2.2) = false := by simpa using c5
      have HOK : Hid (okM s) := hid (by unfold okM; omega)
      clear NO
      by_cases h0 : k = 0
      · have FK := hid (NX.out HOK.out fun h => by omega)
        subst h0
        clear NX NN HX HS hlt hlt2
        refine wp_region_held f θ0 (by kernel_rfl) (by kernel_rfl) hθ0 ?_
        repeat go_big_quiet_step (fail)
        refine wpQuiet_nil ?_
        rintro _ ⟨θ, rfl⟩
        have k3 := hid (TX.out.trans (FT.out θ) (by simp))
        generalize f θ = w6 at *
        go_wp2
        go_roundw
        case rel => exact ⟨1, by omega, by go_num, FK, k3.out⟩
        case measure => simp [RowKit.intOf]; omega
      · have hkp : 0 < k := by omega
        have hk1 : k - 1 < l.length := by omega
        obtain ⟨b', off', hxx, g0, g1, g2⟩ := HX.out (k - 1) hk1
        cases hxx
        have G0 : ∀ θ, (f θ).cell? ⟨b, off + (k - 1) * 3, none⟩ = some (.int .i64 (l[k - 1]'hk1).1) := fun θ => (TX.out.trans (FT.out θ) (by simp)).cell g0
        have G1 : ∀ θ, (f θ).cell? ⟨b, off + (k - 1) * 3 + 1, none⟩ = some (.int .i64 (l[k - 1]'hk1).2.1) := fun θ => (TX.out.trans (FT.out θ) (by simp)).cell g1
        have G2 : ∀ θ, (f θ).cell? ⟨b, off + (k - 1) * 3 + 2, none⟩ = some (.int .i64 (l[k - 1]'hk1).2.2) := fun θ => (TX.out.trans (FT.out θ) (by simp)).cell g2
        have FY := hid (fun (hh : ltE (l[k - 1]'hk1) s) => NX.out HOK.out fun _ => hh)
        have FN := hid (fun (hh : ¬ ltE (l[k - 1]'hk1) s) => NN.out hkp hh)
        clear NX NN HS g0 g1 g2
        generalize l[k - 1] = r at *
        have LL : Hid (∀ θ, Calls Tryz.prog 86 #[enV r, enV s] (f θ) fun q w'' => q = .returned (.bool (decide (ltE r s))) ∧ ∃ θ', w'' = f θ') := hid fun θ => (refLess_any r s (f θ)).mono fun q w'' ⟨h1, h2⟩ => ⟨h1, FE.out _ ((FT.out θ).trans h2 (by simp))⟩
        obtain ⟨j, rfl⟩ : ∃ j, k = j + 1 := ⟨k - 1, by omega⟩
        simp only [Nat.add_sub_cancel] at *
        refine wp_region_held f θ0 (by kernel_rfl) (by kernel_rfl) hθ0 ?_
        repeat go_big_quiet_step (exact LL.out _)
        refine wpQuiet_nil ?_
        rintro _ ⟨θ, rfl⟩
        have k3 := hid (TX.out.trans (FT.out θ) (by simp))
        generalize f θ = w6 at *
        by_cases hrs : ltE r s
        · have hb : decide (ltE r s) = true := by simpa using hrs
          have FK := hid (FY.out hrs)
          rw [hb]
          clear hb hrs FY FN LL
          go_wp2
          go_roundw
          case rel => exact ⟨j + 1 + 1, by omega, by go_num, FK, k3.out⟩
          case measure => simp [RowKit.intOf]; omega
        · have hb : decide (ltE r s) = false := by simpa using hrs
          have hd : decide (fitE l) = false := by simpa using FN.out hrs
          rw [hb]
          clear hb hrs FY FN LL
          go_wp2
          go_ret
          first | exact ⟨rfl, k3.out⟩ | exact ⟨by rw [hd]; rfl, k3.out⟩
    · obtain rfl : k = l.length := by omega
      have hlt2 : decide (l.length < l.length) = false := by simp
      have hd : decide (fitE l) = true := by
        have := HF.out
        rw [List.take_length] at this
        simpa using this
      go_wp2
      go_ret
      exact ⟨by rw [hd]; rfl, HT.out⟩
end Go.Proofs.YtdjcpdlfapfmkaaGreat

namespace Go.Proofs.YtdjcpdlfapfmkaaGreat
open Go.RowKit Go.Lib
set_option maxRecDepth 100000

theorem RoPost.cell {x : Nat} {G : List Nat} {st : List UInt8 × Int} {w w' : World} {a : Addr} {v : Value} (h : RoPost x G st w w') (hv : w.cell? a = some v) (hn : a.block ∉ G) : w'.cell? a = some v := by
  obtain ⟨_, _, ht, _⟩ := h
  exact touch_cellF ht hv hn
theorem roNum_up {x : Nat} {G : List Nat} {bs : List UInt8} {w0 w : World} (n v : Nat) (h : RoPost x G (bs, 0) w0 w) (hn : n ≤ 8) (hb : bs.length ≤ 1000000) :
    Calls Tryz.prog 87 #[.pointer (some ⟨x, 0, none⟩), .int .u64 v, .int .i64 n] w fun e w' => e = .returned (.tuple #[]) ∧ RoPost x G (bs ++ be n v, 0) w0 w' := by
  obtain ⟨G', h1, h2, h3⟩ := h
  refine (roNum_good x G' bs n v w h1 hn (by omega)).mono fun e w' ⟨he, hp⟩ => ⟨he, ?_⟩
  exact hp.up h2 h3
set_option maxHeartbeats 4000000 in
theorem refLay_any (x : Option Addr) (c : Nat) (l : List En) (w : World) (hx : EntX w x l) (hlen : l.length ≤ 4000) :
    Calls Tryz.prog 37 #[.slice x l.length c] w fun e w' => e = .returned (.string (sealed (tabT l))) ∧ Touch [] w w' := by
  have HX := hid hx
  clear hx
  obtain ⟨o, ho⟩ : ∃ o, o = w.heap.size + 1 := ⟨_, rfl⟩
  obtain ⟨b0, hb0⟩ : ∃ b0, b0 = w.heap.size := ⟨_, rfl⟩
  obtain ⟨W0, hW0⟩ : ∃ W0, W0 = (w.alloc (.cells #[.int .u8 80, .int .u8 84, .int .u8 65, .int .u8 66] tByte (4, 5))).alloc (.cells #[.slice (some ⟨b0, 0, none⟩) 4 4, .int .i64 0] tROut) := ⟨_, rfl⟩
  have R0 : Hid (RoutM W0 o [o, b0] ([80, 84, 65, 66], 0)) := hid (by
    have hs : (w.alloc (.cells #[.int .u8 80, .int .u8 84, .int .u8 65, .int .u8 66] tByte (4, 5))).heap.size = o := by rw [ho]; simp
    have h0 : W0.heap[b0]? = some (.cells #[.int .u8 80, .int .u8 84, .int .u8 65, .int .u8 66] tByte (4, 5)) := by rw [hW0, hb0]; exact heap_alloc_keep (heap_alloc_new w _) _
    exact ⟨.slice (some ⟨b0, 0, none⟩) 4 4, by rw [hW0, ← hs]; exact heap_alloc_new _ _, .inr ⟨b0, _, rfl, h0, rfl, rfl, by decide⟩, by simp [Value.ownBlock]; omega, by simp [Value.ownBlock]⟩)
  have T0 : Hid (Touch [] w W0) := hid (by rw [hW0]; exact ((Touch.refl [] w).alloc _).alloc _)
  have HO : Hid (∀ f ∈ [o, b0], w.heap.size ≤ f) := hid (by intro f hf; simp at hf; omega)
  have U := hid (roNumM o [o, b0] [80, 84, 65, 66] 4 l.length W0 R0.out (by decide) (by decide) (by decide))
  rw [show ([80, 84, 65, 66] : List UInt8) ++ be 4 l.length = [80, 84, 65, 66] ++ (be 4 l.length ++ ensB (l.take 0)) by simp [ensB]] at U
  have hcs := fun (w : World) (C : Array Value) (n c : Nat) => Lib.run_convert_bytes_const (P := Tryz.prog) w 123 tByte C n c Tryz.underlying123 Tryz.underlying5
  have hlw : IntKind.u64.wrap (l.length : Int) = ((l.length : Nat) : Int) := by rw [IntKind.wrap_u64]; omega
  go_enter Tryz.func37, Tryz.ntmps37
  go_wp2_with fail
  rw [← ho, ← hb0, ← hW0]
  clear hW0 ho hb0
  refine U.out.mono ?_
  rintro r w2 ⟨rfl, p2⟩
  have P2 := hid p2
  clear p2 U hlw
  go_wp2_with fail
  go_loopw [4] (fun iv wr => ∃ k : Nat, k ≤ l.length ∧ iv = .int .i64 k ∧ Hid (RoPost o [o, b0] ([80, 84, 65, 66] ++ (be 4 l.length ++ ensB (l.take k)), 0) W0 wr)) (fun iv _ => l.length - (RowKit.intOf iv).toNat)
  case atStart => exact ⟨0, Nat.zero_le _, rfl, P2⟩
  case round =>
    obtain ⟨k, hk, rfl, PR⟩ := hrel
    by_cases hlt : k < l.length
    · have hlt2 : decide (k < l.length) = true := by simpa using hlt
      have hI : (k : Int) < l.length := by omega
      obtain ⟨b, off, hxx, g0, g1, g2⟩ := HX.out k hlt
      subst hxx
      have ET := hid (ensB_take hlt)
      have hbo : b ∉ [o, b0] := fun hm => by
        have h1 := World.block_lt_of_cell? _ _ g0
        have h2 := HO.out b hm
        simp at h1
        omega
      have BL := hid (show ([80, 84, 65, 66] ++ (be 4 l.length ++ ensB (l.take k)) : List UInt8).length ≤ 100000 by rw [List.length_append, List.length_append, be_length, ensB_len, List.length_take]; simp; omega)
      have CL := hid fun (bs : List UInt8) (w' : World) (p : RoPost o [o, b0] (bs, 0) W0 w') => (⟨p.cell (T0.out.cell g0) hbo, p.cell (T0.out.cell g1) hbo, p.cell (T0.out.cell g2) hbo⟩ : w'.cell? ⟨b, off + k * 3, none⟩ = some (.int .i64 (l[k]'hlt).1) ∧ w'.cell? ⟨b, off + k * 3 + 1, none⟩ = some (.int .i64 (l[k]'hlt).2.1) ∧ w'.cell? ⟨b, off + k * 3 + 2, none⟩ = some (.int .i64 (l[k]'hlt).2.2))
      clear g0 g1 g2 hbo
      generalize l[k] = s at *
      obtain ⟨e0, e1, e2⟩ := CL.out _ _ PR.out
      have w0 := wordOf_eq s.1
      have w1 := wordOf_eq s.2.1
      have w2 := wordOf_eq s.2.2
      have hBL := BL.out
      have EE : Hid ([80, 84, 65, 66] ++ (be 4 l.length ++ ensB (l.take k)) ++ be 8 (wordOf s.1) ++ be 8 (wordOf s.2.1) ++ be 8 (wordOf s.2.2) = [80, 84, 65, 66] ++ (be 4 l.length ++ ensB (l.take (k + 1)))) := hid (by rw [ET.out]; simp [enB])
      generalize [80, 84, 65, 66] ++ (be 4 l.length ++ ensB (l.take k)) = bs at *
      have U1 := hid (roNum_up 8 (wordOf s.1) PR.out (by decide) (by omega))
      go_wp2_with fail
      refine U1.out.mono ?_
      rintro r w3 ⟨rfl, p3⟩
      obtain ⟨e0', e1', e2'⟩ := CL.out _ _ p3
      have U2 := hid (roNum_up 8 (wordOf s.2.1) p3 (by decide) (by rw [List.length_append, be_length]; omega))
      clear p3 U1
      go_wp2_with fail
      refine U2.out.mono ?_
      rintro r w4 ⟨rfl, p4⟩
      obtain ⟨e0'', e1'', e2''⟩ := CL.out _ _ p4
      have U3 := hid (roNum_up 8 (wordOf s.2.2) p4 (by decide) (by rw [List.length_append, List.length_append, be_length, be_length]; omega))
      clear p4 U2
      go_wp2_with fail
      refine U3.out.mono ?_
      rintro r w5 ⟨rfl, p5⟩
      have P5 := hid p5
      rw [EE.out] at P5
      clear p5 U3
      go_wp2
      go_roundw
      case rel => exact ⟨k + 1, by omega, by go_num, P5⟩
      case measure => simp [RowKit.intOf]; omega
    · obtain rfl : k = l.length := by omega
      have hlt2 : decide (l.length < l.length) = false := by simp
      rw [List.take_length] at PR
      have hne : ([80, 84, 65, 66] ++ (be 4 l.length ++ ensB l) : List UInt8).length ≠ 0 := by simp
      have HTT : Hid ((⟨([80, 84, 65, 66] ++ (be 4 l.length ++ ensB l) : List UInt8).toArray⟩ : ByteArray) = tabT l) := hid (by
        apply ByteArray.ext
        apply Array.ext'
        simp [tabT, ptab, laidT])
      have SL := hid fun w' => refSeal_any (tabT l) w' (by rw [tabT_size]; omega)
      have HT2 := hid HTT.out.symm
      rw [HT2.out] at SL
      obtain ⟨G', ⟨va, h1, h2, _, _⟩, ht, _⟩ := PR.out
      have T2 := hid (T0.out.trans ht (fun f hf => .inr (HO.out f hf)))
      have c0 : wr.cell? ⟨o, 0, none⟩ = some va := cell_of h1 0
      clear PR HTT ht h1
      revert HT2
      generalize [80, 84, 65, 66] ++ (be 4 l.length ++ ensB l) = bs at *
      intro HT2
      have hconv : (convert 123 9 va).run Tryz.prog wr = .ok (.string ⟨bs.toArray⟩) wr := by
        obtain ⟨hl, ⟨rfl, hn⟩ | ⟨g, cap, cur, rfl, _, hg, hle, hm, hs, ht⟩⟩ := h2
        · exact absurd hn hne
        · refine run_convert_bytes_back wr 123 9 tByte ⟨g, 0, none⟩ cap bs rfl rfl rfl (Bts.cell ⟨cur, (0, 0), hg, .inl (Nat.zero_le _), hle, hm, by simpa using hs, ?_⟩)
          have : bs.length * 1 = bs.length := Nat.mul_one _
          rw [this] at ht
          exact ht
      clear h2 hne
      go_wp2_with fail
      refine (SL.out _).mono ?_
      rintro r w9 ⟨rfl, t9⟩
      have T9 := hid (T2.out.trans t9 (by simp))
      clear t9 SL
      go_wp2
      go_ret
      exact ⟨by rw [HT2.out]; rfl, T9.out⟩
theorem refBuild_any (x : Option Addr) (c : Nat) (l : List En) (w : World) (hx : EntX w x l) (hlen : l.length ≤ 4000) :
    Calls Tryz.prog 9 #[.slice x l.length c] w fun e w' => e = .returned (buildV l) ∧ Touch [] w w' := by
  have M := hid (refMay_any x c l w hx (by omega))
  have LY := hid (fun w' (t : Touch [] w w') => refLay_any x c l w' (hx.t0 t) hlen)
  clear hx
  by_cases hf : fitE l
  · have hd : decide (fitE l) = true := by simpa using hf
    have hV : Hid (buildV l = .tuple #[.string (sealed (tabT l)), .int .i64 0]) := hid (if_pos hf)
    rw [hd] at M
    clear hd hf
    generalize sealed (tabT l) = z at *
    go_enter Tryz.func9, Tryz.ntmps9
    go_wp2_with fail
    refine M.out.mono ?_
    rintro r w1 ⟨rfl, t1⟩
    have L1 := hid (LY.out w1 t1)
    have T1 := hid t1
    clear t1 M LY
    go_wp2_with fail
    refine L1.out.mono ?_
    rintro r w2 ⟨rfl, t2⟩
    have T2 := hid (T1.out.trans t2 (by simp))
    clear t2 L1
    go_wp2
    go_ret2
    exact ⟨by rw [hV.out]; rfl, T2.out⟩
  · have hd : decide (fitE l) = false := by simpa using hf
    have hV : Hid (buildV l = .tuple #[.string ⟨#[]⟩, .int .i64 1]) := hid (if_neg hf)
    rw [hd] at M
    clear hd hf LY
    go_enter Tryz.func9, Tryz.ntmps9
    go_wp2_with fail
    refine M.out.mono ?_
    rintro r w1 ⟨rfl, t1⟩
    have T1 := hid t1
    clear t1 M
    go_wp2
    go_ret2
    exact ⟨by rw [hV.out]; rfl, T1.out⟩
end Go.Proofs.YtdjcpdlfapfmkaaGreat

namespace Go.Proofs.YtdjcpdlfapfmkaaGreat
open Go.RowKit Go.Lib
set_option maxRecDepth 100000

def OpenRP (w : World) (o : Option (List En)) (er : Int) (e : Ending) (w' : World) : Prop := ∃ u, e = .returned (.tuple #[u, .int .i64 er]) ∧ w'.ownsRow w.heap.size TREn 3 u (o.getD []).length (envals (o.getD [])) ∧ Touch [] w w'
theorem ropen_err (b : ByteArray) (er : Int) (her : er ≠ 0) (w : World) (hc : Calls Tryz.prog 45 #[.string b] w fun e w' => e = .returned (.tuple #[.string ⟨#[]⟩, .int .i64 er]) ∧ Touch [] w w') :
    Calls Tryz.prog 12 #[.string b] w fun e w' => OpenRP w none er e w' := by
  have HC := hid hc
  have hb : (er != 0) = true := by simpa using her
  clear hc her
  go_enter Tryz.func12, Tryz.ntmps12
  go_wp2_with fail
  refine HC.out.mono ?_
  rintro e w1 ⟨rfl, t1⟩
  go_wp2
  go_ret2
  exact ⟨_, rfl, World.ownsRow_nil _ _ _ _, t1⟩
theorem ropen_short (b q : ByteArray) (hq : (q.size : Int) < 8) (w : World) (hc : Calls Tryz.prog 45 #[.string b] w fun e w' => e = .returned (.tuple #[.string q, .int .i64 0]) ∧ Touch [] w w') :
    Calls Tryz.prog 12 #[.string b] w fun e w' => OpenRP w none 6 e w' := by
  have HC := hid hc
  clear hc
  go_enter Tryz.func12, Tryz.ntmps12
  go_wp2_with fail
  refine HC.out.mono ?_
  rintro e w1 ⟨rfl, t1⟩
  go_wp2
  go_ret2
  exact ⟨_, rfl, World.ownsRow_nil _ _ _ _, t1⟩
theorem RefIs.cell0 {w : World} {x : Nat} {r : List UInt8} (h : RefIs w x (r, 0)) : ∃ B : ByteArray, w.cell? ⟨x, 0, none⟩ = some (.string B) ∧ B.data.toList = r := by
  obtain ⟨B, h1, h2⟩ := h
  exact ⟨B, cell_of h1 0, h2 rfl⟩
theorem rnum_go (x : Nat) (r : List UInt8) (n : Nat) (w : World) (h : RefIs w x (r, 0)) (hn : n ≤ 8) (hl : r.length ≤ 100000) (hs : n ≤ r.length) :
    Calls Tryz.prog 46 #[.pointer (some ⟨x, 0, none⟩), .int .i64 n] w fun e w' => e = .returned (.int .u64 (val (r.take n))) ∧ RefIs w' x (r.drop n, 0) ∧ Touch [x] w w' := by
  have := rNum_st x (r, 0) n w h hn hl
  rw [iTake_good r n hs] at this
  exact this
set_option maxHeartbeats 8000000 in
theorem ropen_long (b q : ByteArray) (hq8 : 8 ≤ q.size) (hq : q.size ≤ 90000) (w : World) (hc : Calls Tryz.prog 45 #[.string b] w fun e w' => e = .returned (.tuple #[.string q, .int .i64 0]) ∧ Touch [] w w')
    (n : Nat) (r : List UInt8) (hn : n = val ((q.data.toList.drop 4).take 4)) (hr : r = q.data.toList.drop 8) (o : Option (List En)) (er : Int)
    (h1 : r.length ≠ 24 * n → o = none ∧ er = 6) (h2 : r.length = 24 * n → ¬ (fitE (decs n r) ∧ sealed (tabT (decs n r)) = b) → o = none ∧ er = 6) (h3 : r.length = 24 * n → fitE (decs n r) → sealed (tabT (decs n r)) = b → o = some (decs n r) ∧ er = 0) :
    Calls Tryz.prog 12 #[.string b] w fun e w' => OpenRP w o er e w' := by
  have HC := hid hc
  have hq8I : (8 : Int) ≤ q.size := by omega
  have hq4I : (4 : Int) ≤ q.size := by omega
  have hqI : (q.size : Int) ≤ 9223372036854775807 := by omega
  have HB : Hid ((q.extract 4 q.size).data.toList = q.data.toList.drop 4) := hid (by rw [extract_data]; exact List.take_of_length_le (by rw [List.length_drop, list_len]; omega))
  have hl4 : (q.data.toList.drop 4).length = q.size - 4 := by rw [List.length_drop, list_len]
  have hdr : (q.data.toList.drop 4).drop 4 = r := by rw [hr, List.drop_drop]
  have hnb : n < 4294967296 := by
    have := val_lt ((q.data.toList.drop 4).take 4)
    rw [List.length_take, hl4] at this
    rw [hn]
    exact Nat.lt_of_lt_of_le this (by rw [Nat.min_eq_left (by omega)]; decide)
  have hrl : r.length = q.size - 8 := by rw [hr, List.length_drop, list_len]
  have NUM := hid fun (i : Nat) (w' : World) (h : RefIs w' i (q.data.toList.drop 4, 0)) => rnum_go i (q.data.toList.drop 4) 4 w' h (by decide) (by omega) (by omega)
  rw [hdr, ← hn] at NUM
  have hw1 : IntKind.i64.wrap (n : Int) = (n : Int) := by rw [IntKind.wrap_i64]; omega
  have hw2 : IntKind.i64.wrap (24 * (n : Int)) = 24 * (n : Int) := by rw [IntKind.wrap_i64]; omega
  have H1 := hid h1
  have H2 := hid h2
  have H3 := hid h3
  have hr9 : r.length ≤ 90000 := by omega
  obtain ⟨i0, hi, hz0, hz1, hz2⟩ := info_parts infoREn
  clear hc hn hr h1 h2 h3 hdr hl4 hrl hq8 hq
  go_enter Tryz.func12, Tryz.ntmps12
  go_wp2_with fail
  refine HC.out.mono ?_
  rintro e w1 ⟨rfl, t1⟩
  have T1 := hid t1
  clear t1 HC
  go_wp2_with fail
  obtain ⟨ib, hib⟩ : ∃ i, i = w1.heap.size := ⟨_, rfl⟩
  obtain ⟨W1, hW1⟩ : ∃ W, W = w1.alloc (.cells #[.string (q.extract 4 q.size), .int .i64 0] tRIn) := ⟨_, rfl⟩
  have RI : RefIs W1 ib (q.data.toList.drop 4, 0) := by rw [hW1, hib]; exact ⟨_, heap_alloc_new w1 _, fun _ => HB.out⟩
  have TW1 : Hid (Touch [] w W1) := hid (by rw [hW1]; exact T1.out.alloc _)
  have hge : Hid (w.heap.size ≤ ib) := hid (by rw [hib]; exact T1.out.size)
  rw [← hW1, ← hib]
  clear hW1 hib T1
  refine (NUM.out ib W1 RI).mono ?_
  rintro e w2 ⟨rfl, hR2, t2⟩
  have R2 := hid hR2
  have T2 := hid (TW1.out.trans t2 (fun f hf => .inr (by have := hge.out; simp at hf; omega)))
  obtain ⟨B2, c2, hB2⟩ := hR2.cell0
  have hs2 : B2.size = r.length := by rw [← hB2, list_len]
  clear hR2 t2 hB2 NUM RI TW1 HB
  by_cases hm : r.length = 24 * n
  · have hb : ((B2.size : Int) != 24 * (n : Int)) = false := by rw [bne_eq_false_iff_eq]; omega
    have hn4 : n ≤ 3750 := by omega
    have HM := hid hm
    clear hs2 hm
    go_wp2_with fail
    go_loopw [8, 9] (fun uv kv wr => ∃ k : Nat, k ≤ n ∧ kv = .int .i64 k ∧ wr.ownsRow (ib + 1) TREn 3 uv k (envals (decs k r)) ∧ Hid (RefIs wr ib (r.drop (24 * k), 0)) ∧ Touch [] w wr) (fun _ kv _ => n - (RowKit.intOf kv).toNat)
    case atStart => exact ⟨0, Nat.zero_le _, rfl, World.ownsRow_nil _ _ _ _, by simpa using R2, T2.out⟩
    case round =>
      obtain ⟨k, hk, rfl, hown, RK, ht⟩ := hrel
      obtain ⟨yu, cu, rfl, -, -⟩ := slice_form hown
      have HT := hid ht
      have HO := hid hown
      clear ht hown
      by_cases hlt : k < n
      · have hltI : (k : Int) < n := by omega
        have hlt2 : decide (k < n) = true := by simpa using hlt
        have hkl : (r.drop (24 * k)).length = 24 * n - 24 * k := by rw [List.length_drop, HM.out]
        have SNOC := hid (decs_snoc k r)
        have REST : Hid ((((r.drop (24 * k)).drop 8).drop 8).drop 8 = r.drop (24 * (k + 1))) := hid (by rw [List.drop_drop, List.drop_drop, List.drop_drop]; congr 1)
        have hib : Hid (ib < wr.heap.size) := hid RK.out.lt
        unfold decE at SNOC
        generalize r.drop (24 * k) = rk at *
        have N1 := hid (rnum_go ib rk 8 wr RK.out (by decide) (by omega) (by omega))
        have hwv : ∀ v : Nat, IntKind.i64.wrap (v : Int) = wrap64 (v : Int) := fun v => by rw [IntKind.wrap_i64]; unfold wrap64; omega
        have hv1 := hwv (val (rk.take 8))
        have hv2 := hwv (val ((rk.drop 8).take 8))
        have hv3 := hwv (val ((rk.drop 16).take 8))
        clear hwv
        go_wp2_with fail
        refine N1.out.mono ?_
        rintro e w3 ⟨rfl, a3, t3⟩
        have A3 := hid a3
        have T3 := hid t3
        clear a3 t3 N1
        go_wp2_with fail
        generalize wrap64 (val (rk.take 8) : Int) = v1 at *
        generalize wrap64 (val ((rk.drop 8).take 8) : Int) = v2 at *
        obtain ⟨x1, hx1⟩ : ∃ x, x = w3.heap.size := ⟨_, rfl⟩
        obtain ⟨V3, hV3⟩ : ∃ V, V = w3.alloc (.cells #[.int .i64 v1, .int .i64 0, .int .i64 0] TREn) := ⟨_, rfl⟩
        have E3 : Hid (REnB V3 x1 (v1, 0, 0)) := hid (by rw [hV3, hx1]; exact heap_alloc_new w3 _)
        have TV3 : Hid (Touch [ib] wr V3) := hid (by rw [hV3]; exact T3.out.alloc _)
        have R3 : Hid (RefIs V3 ib (rk.drop 8, 0)) := hid (by rw [hV3]; exact A3.out.keep ((Touch.refl [] w3).alloc _) (by simp))
        have hxb : Hid (wr.heap.size ≤ x1) := hid (by rw [hx1]; exact T3.out.size)
        have hne : Hid (x1 ≠ ib) := hid (by have := hxb.out; have := hib.out; omega)
        have N2 := hid (rnum_go ib (rk.drop 8) 8 V3 R3.out (by decide) (by rw [List.length_drop]; omega) (by rw [List.length_drop]; omega))
        rw [← hV3, ← hx1]
        clear hV3 hx1 A3 T3
        refine N2.out.mono ?_
        rintro e w4 ⟨rfl, a4, t4⟩
        have A4 := hid a4
        have E4 : Hid (REnB w4 x1 (v1, 0, 0)) := hid (touch_other t4 E3.out (by simp; exact hne.out))
        have T4 := hid (TV3.out.trans t4 (by simp))
        have f1 := free_of E4.out 1
        have c1 := E4.out.c.2.1
        clear a4 t4 N2 E3 TV3 R3
        go_wp2_with fail
        obtain ⟨V4, hV4⟩ : ∃ V, V = w4.setCell ⟨x1, 1, none⟩ (.int .i64 v2) := ⟨_, rfl⟩
        have E5 : Hid (REnB V4 x1 (v1, v2, 0)) := hid (by rw [hV4]; exact heap_set (i := 1) E4.out (.int .i64 v2))
        have TV4 : Hid (Touch [ib] wr V4) := hid (by rw [hV4]; exact T4.out.setCell (p := ⟨x1, 1, none⟩) (.inr hxb.out) _)
        have R4 : Hid (RefIs V4 ib ((rk.drop 8).drop 8, 0)) := hid (by rw [hV4]; exact A4.out.keep ((Touch.refl [x1] w4).setCell (p := ⟨x1, 1, none⟩) (.inl (by simp)) _) (by simp; exact fun h => hne.out h.symm))
        have N3 := hid (rnum_go ib ((rk.drop 8).drop 8) 8 V4 R4.out (by decide) (by rw [List.length_drop, List.length_drop]; omega) (by rw [List.length_drop, List.length_drop]; omega))
        rw [← hV4]
        clear hV4 A4 T4 E4 f1 c1
        refine N3.out.mono ?_
        rintro e w5 ⟨rfl, a5, t5⟩
        have A5 := hid a5
        have E6 : Hid (REnB w5 x1 (v1, v2, 0)) := hid (touch_other t5 E5.out (by simp; exact hne.out))
        have T5 := hid (TV4.out.trans t5 (by simp))
        have f2 := free_of E6.out 2
        have c2' := E6.out.c.2.2
        clear a5 t5 N3 E5 TV4 R4
        go_upto_region 17 with fail
        generalize wrap64 (val ((rk.drop 16).take 8) : Int) = v3 at *
        obtain ⟨V5, hV5⟩ : ∃ V, V = w5.setCell ⟨x1, 2, none⟩ (.int .i64 v3) := ⟨_, rfl⟩
        have E7 : Hid (REnB V5 x1 (v1, v2, v3)) := hid (by rw [hV5]; exact heap_set (i := 2) E6.out (.int .i64 v3))
        have TV5 : Hid (Touch [ib] wr V5) := hid (by rw [hV5]; exact T5.out.setCell (p := ⟨x1, 2, none⟩) (.inr hxb.out) _)
        have R5 : Hid (RefIs V5 ib (r.drop (24 * (k + 1)), 0)) := hid (by rw [hV5, ← REST.out]; exact A5.out.keep ((Touch.refl [x1] w5).setCell (p := ⟨x1, 2, none⟩) (.inl (by simp)) _) (by simp; exact fun h => hne.out h.symm))
        have TW5 := hid (HT.out.trans TV5.out (fun f hf => .inr (by have := hge.out; simp at hf; omega)))
        have O5 := hid (own_touch_far HO.out TV5.out (fun g hg hm => by have := (HO.out.lt g hg).1; simp at hm; omega))
        rw [← hV5]
        clear hV5 A5 T5 E6 f2 c2' TV5
        obtain ⟨p0, p1, p2⟩ := E7.out.c
        dsimp only at p0 p1 p2
        have HSZ := hid R5.out.lt
        go_wp2_with (at_builtin; refine wpList_append_grew _ rfl _ _ TREns rfl (ib + 1) TREn i0 (.agg #[.int .i64 0, .int .i64 0, .int .i64 0]) 3 24 Tryz.underlying24 hi hz0 hz1 hz2 rfl (by decide) _ k (envals (decs k r)) rfl (O5.out.alloc _) (.slice (some ⟨V5.heap.size, 0, none⟩) 1 1) 1 0 (enc3 (v1, v2, v3)) rfl (lit_ren V5 (v1, v2, v3) _ rfl) (enc3_one _) (by omega) (by decide) (by have := HSZ.out; simp; omega) ?_; intro y cap w6 hG; have G := hid hG; clear hG)
        go_roundw
        case rel => exact ⟨k + 1, by omega, by go_num, by rw [SNOC.out, envals_append]; simpa [envals] using G.out.own, hid (by obtain ⟨B9, h9, h10⟩ := R5.out; exact ⟨B9, G.out.block (O5.out.alloc _) (heap_alloc_keep h9 _) (by decide), h10⟩), G.out.touch (O5.out.alloc _) (TW5.out.alloc _) (by have := hge.out; omega)⟩
        case measure => simp [RowKit.intOf]; omega
      · obtain rfl : k = n := by omega
        have hlt2 : decide (k < k) = false := by simp
        obtain ⟨y9, c9, e9, -, -, -, -, hx9⟩ := entX_ownT HO.out
        cases e9
        have BD := refBuild_any yu cu (decs k r) wr hx9 (by rw [decs_len]; omega)
        rw [decs_len] at BD
        have OWN := hid (own_up HO.out (show w.heap.size ≤ ib + 1 by have := hge.out; omega))
        clear hx9 RK R2 T2 HO
        by_cases hf : fitE (decs k r)
        · rw [show buildV (decs k r) = .tuple #[.string (sealed (tabT (decs k r))), .int .i64 0] from if_pos hf] at BD
          have BDH := hid BD
          clear BD
          by_cases hz : sealed (tabT (decs k r)) = b
          · obtain ⟨rfl, rfl⟩ := H3.out HM.out hf hz
            rw [hz] at BDH
            have hq0 : (b.toList == b.toList) = true := by simp
            clear hz hf H1 H2 H3 HM
            go_wp2_with fail
            refine BDH.out.mono ?_
            rintro e w6 ⟨rfl, t6⟩
            have T6 := hid (HT.out.trans t6 (by simp))
            have O6 := hid (owns_touch OWN.out t6)
            clear t6 BDH HT OWN
            go_wp2
            go_ret2
            exact ⟨_, rfl, by simpa [decs_len] using O6.out, T6.out⟩
          · obtain ⟨rfl, rfl⟩ := H2.out HM.out (fun h => hz h.2)
            have hq0 : ((sealed (tabT (decs k r))).toList == b.toList) = false := by
              rw [beq_eq_false_iff_ne, ne_eq, ByteArray.toList_eq, ByteArray.toList_eq]
              intro h
              exact hz (ByteArray.ext (Array.ext' h))
            clear hz hf H1 H2 H3 HM
            generalize sealed (tabT (decs k r)) = zz at *
            go_wp2_with fail
            refine BDH.out.mono ?_
            rintro e w6 ⟨rfl, t6⟩
            have T6 := hid (HT.out.trans t6 (by simp))
            clear t6 BDH HT OWN
            go_wp2
            go_ret2
            exact ⟨_, rfl, World.ownsRow_nil _ _ _ _, T6.out⟩
        · rw [show buildV (decs k r) = .tuple #[.string ⟨#[]⟩, .int .i64 1] from if_neg hf] at BD
          have BDH := hid BD
          obtain ⟨rfl, rfl⟩ := H2.out HM.out (fun h => hf h.1)
          clear BD hf H1 H2 H3 HM
          go_wp2_with fail
          refine BDH.out.mono ?_
          rintro e w6 ⟨rfl, t6⟩
          have T6 := hid (HT.out.trans t6 (by simp))
          clear t6 BDH HT OWN
          go_wp2
          go_ret2
          exact ⟨_, rfl, World.ownsRow_nil _ _ _ _, T6.out⟩
  · have hb : ((B2.size : Int) != 24 * (n : Int)) = true := by simp only [bne_iff_ne, ne_eq]; omega
    obtain ⟨rfl, rfl⟩ := H1.out hm
    clear hm hs2
    go_wp2
    go_ret2
    exact ⟨_, rfl, World.ownsRow_nil _ _ _ _, T2.out⟩
theorem sealed_of {b : ByteArray} (h4 : 4 ≤ b.size) (h : b.extract 0 4 = ⟨(four (crc (b.extract 4 b.size).data.toList)).toArray⟩) : sealed (b.extract 4 b.size) = b := by
  rw [← sealed_eq, ← h]
  apply ByteArray.ext
  apply Array.ext'
  rw [ByteArray.toList_data_append, extract_data, extract_data]
  have hl : (b.data.toList.drop 4).length ≤ b.size - 4 := by rw [List.length_drop, list_len]; omega
  rw [List.take_of_length_le hl]
  simp
theorem sealed_inj {p q : ByteArray} (h : sealed p = sealed q) : p = q := by
  rw [← sealed_tail p, ← sealed_tail q, h]
theorem openL_cond {q : List UInt8} {n : Nat} (hr : (q.drop 8).length = 24 * n) : openL q = if fitE (decs n (q.drop 8)) ∧ q = (tabT (decs n (q.drop 8))).data.toList then some (decs n (q.drop 8)) else none := by
  have e1 : (q.length - 8) / 24 = n := by rw [List.length_drop] at hr; omega
  unfold openL
  rw [e1]
theorem refTabOpen_any (b : ByteArray) (w : World) (hs : b.size ≤ 90000) :
    Calls Tryz.prog 12 #[.string b] w fun e w' => OpenRP w (openR b).1 (openR b).2 e w' := by
  unfold openR
  by_cases h4 : b.size < 4
  · rw [if_pos h4]
    exact ropen_err b 5 (by decide) w ((refOpen_short b w (by omega)).mono fun e w' ⟨h1, h2⟩ => ⟨h1, h2 ▸ Touch.refl _ _⟩)
  · rw [if_neg h4]
    have C := refOpen_long b w (by omega) (by omega)
    by_cases hf : b.extract 0 4 = ⟨(four (crc (b.extract 4 b.size).data.toList)).toArray⟩
    · rw [if_pos hf]
      rw [show openOf (b.extract 0 4) (b.extract 4 b.size) = .tuple #[.string (b.extract 4 b.size), .int .i64 0] from if_pos hf] at C
      have hsz : (b.extract 4 b.size).size = b.size - 4 := by simp
      have hbq := sealed_of (by omega) hf
      generalize b.extract 4 b.size = q at *
      by_cases h8 : q.size < 8
      · rw [openL_short (by rw [list_len]; exact h8)]
        exact ropen_short b q (by omega) w C
      · refine ropen_long b q (by omega) (by omega) w C (val ((q.data.toList.drop 4).take 4)) (q.data.toList.drop 8) rfl rfl _ _ (fun h => ?_) (fun h hn => ?_) (fun h h1 h2 => ?_)
        · rw [openL_count (by rw [list_len]; omega) rfl h]
          exact ⟨rfl, rfl⟩
        · rw [openL_cond h, if_neg fun hh => hn ⟨hh.1, ?_⟩]
          · exact ⟨rfl, rfl⟩
          · rw [← hbq]
            congr 1
            exact (ByteArray.ext (Array.ext' hh.2)).symm
        · have hq2 : q.data.toList = (tabT (decs (val ((q.data.toList.drop 4).take 4)) (q.data.toList.drop 8))).data.toList := by
            have := sealed_inj (h2.trans hbq.symm)
            exact congrArg (fun z : ByteArray => z.data.toList) this.symm
          rw [openL_cond h, if_pos ⟨h1, hq2⟩]
          exact ⟨rfl, rfl⟩
    · rw [if_neg hf]
      rw [show openOf (b.extract 0 4) (b.extract 4 b.size) = .tuple #[.string ⟨#[]⟩, .int .i64 7] from if_neg hf] at C
      exact ropen_err b 7 (by decide) w C
end Go.Proofs.YtdjcpdlfapfmkaaGreat
