/- TableChanged, walked. -/
import Derived.Test.YtdjcpdlfapfmkaaChg13
import Derived.Test.YtdjcpdlfapfmkaaEn12
namespace Go.Proofs.Ytdjcpdlfapfmkaa
open Go.RowKit Go.Lib Go.ChangeShapes
set_option maxRecDepth 100000

theorem tchg_early (x : Option Addr) (c : Nat) (l : List En) (at_ b : Int) (w : World) (h : (60 : Int) < l.length ∨ ((l.length : Int) ≤ 60 ∧ at_ < 0) ∨ ((l.length : Int) ≤ 60 ∧ 0 ≤ at_ ∧ b % 256 = 0)) :
    Calls Try.prog 4 #[.slice x l.length c, .int .i64 at_, .int .i64 b] w fun e w' => e = .returned (.bool true) ∧ Touch [] w w' := by
  have C0 := hid (alive13_true w)
  rcases h with h1 | ⟨h1, h2⟩ | ⟨h1, h2, h3⟩
  · have g1 : decide (60 < l.length) = true := by rw [decide_eq_true_eq]; omega
    go_enter Try.func4, Try.ntmps4
    go_wp2_with (go_at_call 30; refine C0.out.mono ?_; rintro e w1 ⟨rfl, a1⟩)
    go_ret
    exact ⟨rfl, a1⟩
  · have g1 : decide (60 < l.length) = false := by rw [decide_eq_false_iff_not]; omega
    go_enter Try.func4, Try.ntmps4
    go_wp2_with (go_at_call 30; refine C0.out.mono ?_; rintro e w1 ⟨rfl, a1⟩)
    go_ret
    exact ⟨rfl, a1⟩
  · have g1 : decide (60 < l.length) = false := by rw [decide_eq_false_iff_not]; omega
    go_enter Try.func4, Try.ntmps4
    go_wp2_with (go_at_call 30; refine C0.out.mono ?_; rintro e w1 ⟨rfl, a1⟩)
    go_ret
    exact ⟨rfl, a1⟩

theorem tchg_unfit (x : Option Addr) (c : Nat) (l : List En) (at_ : Int) (d : UInt8) (b : Int) (w : World) (hX : EntX w x l) (h1 : (l.length : Int) ≤ 60) (h2 : 0 ≤ at_) (hd : b % 256 = (d.toNat : Int)) (hd0 : d ≠ 0) (hf : ¬ fitE l) :
    Calls Try.prog 4 #[.slice x l.length c, .int .i64 at_, .int .i64 b] w fun e w' => e = .returned (.bool true) ∧ Touch [] w w' := by
  have C0 := hid fun w' => alive13_true w'
  have B := build_any x c l w hX (by omega)
  unfold buildV at B
  rw [if_neg hf] at B
  have BH := hid B
  have g1 : decide (60 < l.length) = false := by rw [decide_eq_false_iff_not]; omega
  have hdb : decide (d.toNat = 0) = false := by
    rw [decide_eq_false_iff_not]
    intro e
    exact hd0 (UInt8.toNat_inj.1 e)
  have hdq : ((d.toNat : Int) == 0) = false := by
    rw [Bool.eq_false_iff]; intro e
    have := eq_of_beq e
    exact hd0 (UInt8.toNat_inj.1 (by show d.toNat = 0; omega))
  clear B hX hf hd0
  go_enter Try.func4, Try.ntmps4
  go_wp2_with (first
    | (go_at_call 31; refine BH.out.mono ?_; rintro e w1 ⟨rfl, a1⟩; have A1 := hid a1; clear a1)
    | (go_at_call 30; refine (C0.out _).mono ?_; rintro e w2 ⟨rfl, a2⟩; have A2 := hid a2; clear a2))
  go_ret
  exact ⟨rfl, A1.out.trans A2.out (by simp)⟩

set_option maxHeartbeats 2000000 in
theorem tchg_full (x : Option Addr) (cx : Nat) (l : List En) (hX : Hid (∀ w : World, True)) (t : ByteArray) (at_ i : Nat) (c d : UInt8) (b : Int) (w : World) (hBu : EntX w x l) (h1 : (l.length : Int) ≤ 60) (h2 : (at_ : Int) ≤ 9223372036854775807) (hf : fitE l) (HT : Hid (t = sealed (tabT l)))
    (hmod : (at_ : Int) % (t.size : Int) = (i : Int)) (hi : i < t.data.toList.length) (hc : Hid (∀ h : i < t.data.toList.length, t.data.toList[i] = c)) (hd : b % 256 = (d.toNat : Int)) (hd0 : d ≠ 0) :
    Calls Try.prog 4 #[.slice x l.length cx, .int .i64 at_, .int .i64 b] w fun e w' => e = .returned (.bool true) ∧ Touch [] w w' := by
  have h0 : (0 : Int) ≤ at_ := by omega
  have C1 := hid (build_fit (c := cx) hBu (by omega) hf)
  rw [← HT.out] at C1
  have hZ : t.size = 12 + 24 * l.length := by rw [HT.out, sealed_size, tabT_size]; omega
  have CV := hid fun (w1 : World) => conv_rw t w1
  have g1 : decide (60 < l.length) = false := by rw [decide_eq_false_iff_not]; omega
  have q0 : ((t.size : Int) != 12 + 24 * (l.length : Int)) = false := by rw [bne_eq_false_iff_eq]; omega
  have t4 : (12 : Int) ≤ t.size := by omega
  have tM : (t.size : Int) ≤ 4000 := by omega
  have Hi : Hid (i < t.data.toList.length) := hi
  have hi2 : (i : Int) < t.size := by rw [list_len] at hi; omega
  have hxr : bits .xor .u8 (c.toNat : Int) (d.toNat : Int) = ((c ^^^ d).toNat : Int) := xor_u8 c d
  have hne : Hid (c ^^^ d ≠ c) := fun e => hd0 (by
    have h5 : c ^^^ (c ^^^ d) = c ^^^ c := by rw [e]
    rw [← UInt8.xor_assoc, UInt8.xor_self, UInt8.zero_xor] at h5
    exact h5)
  have hdb : decide (d.toNat = 0) = false := by
    rw [decide_eq_false_iff_not]
    intro e
    exact hd0 (UInt8.toNat_inj.1 e)
  have hdq : ((d.toNat : Int) == 0) = false := by
    rw [Bool.eq_false_iff]; intro e
    have := eq_of_beq e
    exact hd0 (UInt8.toNat_inj.1 (by show d.toNat = 0; omega))
  clear hi hZ hBu hf hX
  generalize c ^^^ d = c2 at *
  obtain ⟨t2, ht2⟩ : ∃ t2 : ByteArray, t2 = ⟨(t.data.toList.set i c2).toArray⟩ := ⟨_, rfl⟩
  have ht2l : t2.data.toList = t.data.toList.set i c2 := by rw [ht2]
  have hz2 : t2.size = t.size := by rw [ht2]; exact set_size t i c2
  have hR : openR t2 = (none, 7) := by
    have ho := open_changed (tabT l) i c2 (by rw [← HT.out]; exact Hi.out) (by
      intro e
      have h5 := hc.out Hi.out
      have h6 := HT.out
      subst h6
      exact hne.out (e.trans h5)) t2 (by rw [ht2l, HT.out])
    unfold openR
    rw [if_neg (by omega)]
    unfold openOf at ho
    split at ho
    · simp at ho
    · next hn => rw [if_neg hn]
  have C3 := hid (fun w => open_any t2 w (by omega))
  rw [hR] at C3
  have HT2 := hid ht2
  clear ht2 ht2l hne hR
  go_enter Try.func4, Try.ntmps4
  go_upto_region 8 with (go_at_call 31; refine C1.out.mono ?_; rintro e w1 ⟨rfl, a1⟩)
  obtain ⟨W, cp, HW, hconv, hback⟩ := CV.out w1
  clear hback
  have HR : Hid (Rw W w1.heap.size cp t.data.toList) := HW.out.2
  have HTW : Hid (Touch [] w W) := a1.trans HW.out.1 (by simp)
  have hg : Hid (w.heap.size ≤ w1.heap.size) := a1.size
  have c0 := HR.out.cell i Hi.out
  have f0 := HR.out.free i Hi.out
  rw [hc.out Hi.out] at c0
  clear a1 HW CV
  generalize w1.heap.size = g at *
  obtain ⟨w3, hw3⟩ : ∃ w3, w3 = W.setCell ⟨g, i, none⟩ (.int .u8 (c2.toNat : Int)) := ⟨_, rfl⟩
  have HR3 : Hid (Rw w3 g cp (t.data.toList.set i c2)) := by rw [hw3]; exact HR.out.put i c2
  have HT3 : Hid (Touch [] w w3) := by rw [hw3]; exact HTW.out.setCell (.inr hg.out) _
  go_upto_region 10 with fail
  rw [← hw3]
  clear hw3 c0 f0 hconv
  have hb3 := HR3.out.back t.size (by rw [List.length_set, list_len])
  rw [← HT2.out] at hb3
  go_wp2_with fail
  refine (C3.out _).mono ?_
  rintro e w4 ⟨p, rfl, hp, a4⟩
  have hp0 : p = none := by
    rcases hp with ⟨_, h⟩ | ⟨_, _, h, _⟩
    · exact h
    · cases h
  subst hp0
  have HT5 : Hid (Touch [] w w4) := HT3.out.trans a4 (by simp)
  have C9 := hid (alive13_true w4)
  clear q0 t4 tM hmod hi2 h0 h1 h2 hxr a4 hz2 HR3 HR hb3 hp C3 C1
  go_wp2_with (go_at_call 30; refine C9.out.mono ?_; rintro e w6 ⟨rfl, a6⟩; have A6 := hid a6; clear a6)
  go_ret
  exact ⟨rfl, HT5.out.trans A6.out (by simp)⟩

theorem walk_TableChanged (v0 : Value) (l : List En) (at_ : Int) (wa : (Lit.int .i64 at_).wf = true) (b : Int) (wb : (Lit.int .i64 b).wf = true) (W : World) (hv : Ents W v0 l) :
    Calls Try.prog 4 #[v0, .int .i64 at_, .int .i64 b] W fun e W' => e = .returned (.bool true) ∧ Touch [] W W' := by
  obtain ⟨x0, c0, rfl, hlen, hX⟩ := hv
  have ra := i64_range wa
  by_cases h1 : (60 : Int) < l.length
  · exact tchg_early x0 c0 l at_ b W (.inl h1)
  by_cases h2 : at_ < 0
  · exact tchg_early x0 c0 l at_ b W (.inr (.inl ⟨by omega, h2⟩))
  by_cases h3 : b % 256 = 0
  · exact tchg_early x0 c0 l at_ b W (.inr (.inr ⟨by omega, by omega, h3⟩))
  obtain ⟨d, hd⟩ : ∃ d : UInt8, b % 256 = (d.toNat : Int) := ⟨UInt8.ofNat (b % 256).toNat, by rw [UInt8.toNat_ofNat']; omega⟩
  have hd0 : d ≠ 0 := fun e => h3 (by rw [hd, e]; rfl)
  by_cases hf : fitE l
  · obtain ⟨t, ht⟩ : ∃ t, t = sealed (tabT l) := ⟨_, rfl⟩
    have hz : t.size = 12 + 24 * l.length := by rw [ht, sealed_size, tabT_size]; omega
    obtain ⟨k, rfl⟩ : ∃ k : Nat, at_ = (k : Int) := ⟨at_.toNat, by omega⟩
    have hi : k % t.size < t.data.toList.length := by rw [list_len]; exact Nat.mod_lt _ (by omega)
    exact tchg_full x0 c0 l (hid fun _ => trivial) t k (k % t.size) (t.data.toList[k % t.size]) d b W hX (by omega) (by omega) hf (hid ht) (by rw [Int.natCast_emod]) hi (hid fun _ => rfl) hd hd0
  · exact tchg_unfit x0 c0 l at_ d b W hX (by omega) (by omega) hd hd0 hf
end Go.Proofs.Ytdjcpdlfapfmkaa
