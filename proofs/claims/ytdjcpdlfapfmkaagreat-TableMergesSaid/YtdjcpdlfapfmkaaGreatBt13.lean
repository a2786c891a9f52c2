/- A table's entries from one on, ahead of another one; copies; ranges, all, how many. -/
import Derived.Test.YtdjcpdlfapfmkaaGreatAh13
import Derived.Deep.Slices
namespace Go.Proofs.YtdjcpdlfapfmkaaGreat
open Go.RowKit Go.Lib
set_option maxRecDepth 100000

theorem entX_cells {w : World} {ad : Addr} {l : List En} (h : EntX w (some ad) l) : ∀ j u, (envals l)[j]? = some u → w.cell? (ad.add j) = some u := by
  intro j u hj
  have hjl : j < l.length * 3 := by
    have := (List.getElem?_eq_some_iff.1 hj).1
    rwa [envals_len] at this
  obtain ⟨b, off, ha, c0, c1, c2⟩ := h (j / 3) (by omega)
  cases ha
  have key : ∀ (l : List En) (i : Nat) (h : i < l.length), (envals l)[i * 3]? = some (.int .i64 (l[i]'h).1) ∧ (envals l)[i * 3 + 1]? = some (.int .i64 (l[i]'h).2.1) ∧ (envals l)[i * 3 + 2]? = some (.int .i64 (l[i]'h).2.2) := by
    intro l
    induction l with
    | nil => intro i h; simp at h
    | cons e l ih =>
      intro i h
      cases i with
      | zero => simp [envals, enc3]
      | succ i =>
        have := ih i (by simpa using h)
        have e1 : (i + 1) * 3 = i * 3 + 3 := by omega
        rw [e1]
        simpa [envals, enc3] using this
  obtain ⟨k0, k1, k2⟩ := key l (j / 3) (by omega)
  rw [show (⟨b, off, none⟩ : Addr).add j = ⟨b, off + j, none⟩ from by simp [Addr.add]]
  have hm : j % 3 = 0 ∨ j % 3 = 1 ∨ j % 3 = 2 := by omega
  rcases hm with hm | hm | hm
  · have e : j = j / 3 * 3 := by omega
    rw [← e] at k0 c0
    rw [k0] at hj; cases hj; exact c0
  · have e : j = j / 3 * 3 + 1 := by omega
    rw [← e] at k1
    rw [show off + j / 3 * 3 + 1 = off + j by omega] at c1
    rw [k1] at hj; cases hj; exact c1
  · have e : j = j / 3 * 3 + 2 := by omega
    rw [← e] at k2
    rw [show off + j / 3 * 3 + 2 = off + j by omega] at c2
    rw [k2] at hj; cases hj; exact c2
theorem envals_one (l : List En) : ∀ u ∈ envals l, u.oneCell' = true := by
  induction l with
  | nil => simp [envals]
  | cons e l ih =>
    intro u hu
    simp only [envals, List.mem_append] at hu
    rcases hu with hu | hu
    · simp [enc3] at hu; rcases hu with rfl | rfl | rfl <;> rfl
    · exact ih u hu

theorem clone_ens (x : Option Addr) (c : Nat) (l : List En) (w : World) (hx : EntX w x l) (hn : l.length ≤ 1000000) (h0 : x = none → c = 0) :
    Calls Tryz.prog 47 #[.slice x l.length c] w fun e w' => ∃ v', e = .returned v' ∧ w'.ownsRow w.heap.size TEn 3 v' l.length (envals l) ∧ Touch [] w w' := by
  have q22 : ∀ (w : World) (a : Option Addr) (n c n' c' : Nat), (binOp .eql TEns (.slice a n c) (.slice none n' c')).run Tryz.prog w = .ok (.bool a.isNone) w := fun w a n c n' c' => Lib.run_eql_slice_nil w _ _ a n c n' c' rfl
  cases x with
  | none =>
    have hl : l.length = 0 := by
      cases l with
      | nil => rfl
      | cons e l => obtain ⟨b, off, h, _⟩ := hx 0 (by simp); cases h
    obtain rfl := List.eq_nil_of_length_eq_zero hl
    obtain rfl := h0 rfl
    clear hx
    go_enter Tryz.func47, Tryz.ntmps47
    go_wp2
    go_ret
    exact ⟨_, rfl, World.ownsRow_nil _ _ _ _, Touch.refl _ _⟩
  | some ad =>
    have A := hid (entX_cells hx)
    have H1 := hid (envals_one l)
    have HL := hid (envals_len l)
    obtain ⟨i0, hi, hz0, hz1, hz2⟩ := info_parts infoEn
    clear hx h0
    go_enter Tryz.func47, Tryz.ntmps47
    go_wp2_with (at_builtin; refine wpList_append_own _ rfl _ _ TEns rfl w.heap.size TEn i0 (.agg #[.int .i64 0, .int .i64 0, .int .i64 0]) 3 24 Tryz.underlying22 hi hz0 hz1 hz2 rfl (by omega) _ _ _ rfl (World.ownsRow_made w #[] 0 (Nat.le_refl _) (Nat.zero_le _) (by simp)) ad l.length c (envals l) rfl ?qc1 ?qc2 ?qc3 ?qc4 ?qc5 ?qc6 ?_)
    case qc1 => exact HL.out
    case qc2 =>
      intro j u hj
      exact Lib.cell?_alloc_some _ (A.out j u hj)
    case qc3 => exact H1.out
    case qc4 => rw [Nat.zero_add]; unfold maxLen; omega
    case qc5 => rw [Nat.zero_add]; omega
    case qc6 => simp
    intro v' w1 hown hgrow hnil
    go_wp2
    go_ret
    refine ⟨v', rfl, by simpa using hown, ?_⟩
    exact ((Touch.refl [] w).alloc _).grown hgrow (by intro k hk; simp [Value.ownBlock] at hk; exact .inr (by omega))

set_option maxHeartbeats 2000000 in
theorem between_any {p : Option Addr} {l : List En} (f t : En) {w : World} (ht : TblAt w p l) (hs : SortedE l) (hlen : l.length ≤ 1000000) :
    Calls Tryz.prog 49 #[.pointer p, enV f, enV t] w fun r w' => ∃ x c, r = .returned (.slice x (btw l f t).length c) ∧ (x = none → c = 0) ∧ EntX w' x (btw l f t) ∧ Touch [] w w' := by
  have hcf := cnt_le l f
  have hct := cnt_le l t
  have HB := hid (btw_eq hs f t)
  have A1 := hid fun (e : En) w' (h : Touch [] w w') => ahead_any e (ht.t0 h) hs hlen
  have HT := hid ht
  generalize hkf : cntE l f = a at *
  generalize hkt : cntE l t = b at *
  have HA := hid hkf
  have HC := hid hkt
  clear ht hs hkf hkt
  go_enter Tryz.func49, Tryz.ntmps49
  go_wp2_with fail
  obtain ⟨W, hW⟩ : ∃ W, W = (w.alloc (.cells #[.int .i64 f.1, .int .i64 f.2.1, .int .i64 f.2.2] TEn)).alloc (.cells #[.int .i64 t.1, .int .i64 t.2.1, .int .i64 t.2.2] TEn) := ⟨_, rfl⟩
  obtain ⟨b1, hb1⟩ : ∃ b1, b1 = w.heap.size := ⟨_, rfl⟩
  obtain ⟨b2, hb2⟩ : ∃ b2, b2 = w.heap.size + 1 := ⟨_, rfl⟩
  have E1 : EnB W b1 f := by rw [hW, hb1]; exact heap_alloc_keep (heap_alloc_new w _) _
  have E2 : EnB W b2 t := by rw [hW, hb2]; exact new_at (w.alloc _) _ _ (by simp)
  have T1 : Hid (Touch [] w W) := hid (by rw [hW]; exact ((Touch.refl [] w).alloc _).alloc _)
  rw [← hW, ← hb2, ← hb1]
  clear hW hb1 hb2
  obtain ⟨ι, F, ⟨θ0, hθ0⟩, inst, FT, FE⟩ := held_class W
  obtain ⟨c10, c11, c12⟩ := E1.c
  obtain ⟨c20, c21, c22⟩ := E2.c
  have F10 : ∀ θ, (F θ).cell? ⟨b1, 0, none⟩ = some (.int .i64 f.1) := fun θ => (FT.out θ).cell c10
  have F11 : ∀ θ, (F θ).cell? ⟨b1, 1, none⟩ = some (.int .i64 f.2.1) := fun θ => (FT.out θ).cell c11
  have F12 : ∀ θ, (F θ).cell? ⟨b1, 2, none⟩ = some (.int .i64 f.2.2) := fun θ => (FT.out θ).cell c12
  have F20 : ∀ θ, (F θ).cell? ⟨b2, 0, none⟩ = some (.int .i64 t.1) := fun θ => (FT.out θ).cell c20
  have F21 : ∀ θ, (F θ).cell? ⟨b2, 1, none⟩ = some (.int .i64 t.2.1) := fun θ => (FT.out θ).cell c21
  have F22 : ∀ θ, (F θ).cell? ⟨b2, 2, none⟩ = some (.int .i64 t.2.2) := fun θ => (FT.out θ).cell c22
  have L1 : Hid (∀ θ, Calls Tryz.prog 52 #[.pointer p, enV f] (F θ) fun r w'' => r = .returned (.int .i64 (a : Nat)) ∧ ∃ θ', w'' = F θ') := hid fun θ => by
    have := A1.out f (F θ) (T1.out.trans (FT.out θ) (by simp))
    rw [HA.out] at this
    exact this.mono fun r w'' ⟨h1, h2⟩ => ⟨h1, FE.out _ ((FT.out θ).trans h2 (by simp))⟩
  have L2 : Hid (∀ θ, Calls Tryz.prog 52 #[.pointer p, enV t] (F θ) fun r w'' => r = .returned (.int .i64 (b : Nat)) ∧ ∃ θ', w'' = F θ') := hid fun θ => by
    have := A1.out t (F θ) (T1.out.trans (FT.out θ) (by simp))
    rw [HC.out] at this
    exact this.mono fun r w'' ⟨h1, h2⟩ => ⟨h1, FE.out _ ((FT.out θ).trans h2 (by simp))⟩
  clear E1 E2 c10 c11 c12 c20 c21 c22 A1
  refine wp_region_held F θ0 (by kernel_rfl) (by kernel_rfl) hθ0 ?_
  repeat go_big_quiet_step (first | (with_reducible exact L1.out _) | (with_reducible exact L2.out _))
  refine wpQuiet_nil ?_
  rintro _ ⟨θ, rfl⟩
  have k3 := hid (T1.out.trans (FT.out θ) (by simp))
  generalize F θ = w6 at *
  clear F10 F11 F12 F20 F21 F22 L1 L2 FT FE hθ0 inst T1
  by_cases hab : b ≤ a
  · have h1 : decide ((b : Int) ≤ (a : Int)) = true := by simpa using hab
    have h0 : btw l f t = [] := by rw [← HB.out, Nat.sub_eq_zero_of_le hab, List.take_zero]
    go_wp2
    go_ret
    rw [h0]
    exact ⟨none, 0, rfl, fun _ => rfl, entX_nil _ _, k3.out⟩
  · have h1 : decide ((b : Int) ≤ (a : Int)) = false := by simpa using hab
    have h2 : decide (b ≤ a) = false := by simpa using hab
    have hlb : (btw l f t).length = b - a := by rw [← HB.out, List.length_take, List.length_drop]; omega
    have HLB := hid hlb
    rcases HT.out with ⟨rfl, rfl⟩ | ⟨tb, x, c, rfl, hb, ⟨hc, -⟩, hx⟩
    · simp at hcf hct; omega
    · have c0 := cell_of (touch_other k3.out hb (by simp)) 0
      have HX := hid hx
      have haI : (a : Int) ≤ b := by omega
      clear hb hx hlb
      go_wp2
      go_ret
      rw [HLB.out]
      refine ⟨_, _, rfl, ?_, ?_, k3.out⟩
      · intro hn
        obtain ⟨b', off, hx', _⟩ := HX.out 0 (by omega)
        subst hx'
        simp at hn
      · rw [← HB.out]
        exact entX_part (HX.out.t0 k3.out) a (b - a) (by omega) _ (.inl rfl)
theorem tbrange_any {p : Option Addr} {l : List En} (h f t : Int) {w : World} (ht : TblAt w p l) (hs : SortedE l) (hm : OkM l) (hlen : l.length ≤ 1000000) :
    Calls Tryz.prog 14 #[.pointer p, .int .i64 h, .int .i64 f, .int .i64 t] w fun e w' => ∃ u, e = .returned u ∧ w'.ownsRow w.heap.size TEn 3 u (rngL l h f t).length (envals (rngL l h f t)) ∧ Touch [] w w' := by
  have B := hid (between_any (h, f, 0) (h, t, 0) ht hs hlen)
  rw [btw_range hm] at B
  have hle : (rngL l h f t).length ≤ 1000000 := Nat.le_trans (List.length_filter_le _ _) hlen
  generalize rngL l h f t = m at *
  clear ht hs hm hlen
  go_enter Tryz.func14, Tryz.ntmps14
  go_wp2_with fail
  refine B.out.mono ?_
  rintro r w1 ⟨x, c, rfl, h0, hx, t1⟩
  have T1 := hid t1
  have C1 := hid (clone_ens x c m w1 hx hle h0)
  clear t1 hx h0 B
  go_wp2_with (go_at_call 47; refine C1.out.mono ?_; clear C1; rintro r w2 ⟨u, rfl, hu, t2⟩; have HU := hid hu; have T2 := hid t2; clear hu t2)
  go_ret
  exact ⟨_, rfl, own_mono HU.out T1.out.size, T1.out.trans T2.out (by simp)⟩
theorem tball_any {p : Option Addr} {l : List En} {w : World} (ht : TblAt w p l) (hlen : l.length ≤ 1000000) :
    Calls Tryz.prog 13 #[.pointer p] w fun e w' => ∃ u, e = .returned u ∧ w'.ownsRow w.heap.size TEn 3 u l.length (envals l) ∧ Touch [] w w' := by
  have B := hid (list_any ht)
  clear ht
  go_enter Tryz.func13, Tryz.ntmps13
  go_wp2_with fail
  refine B.out.mono ?_
  rintro r w1 ⟨x, c, rfl, ⟨-, h0⟩, hx, rfl⟩
  have C1 := hid (clone_ens x c l w1 hx hlen h0)
  clear hx h0 B
  go_wp2_with (go_at_call 47; refine C1.out.mono ?_; clear C1; rintro r w2 ⟨u, rfl, hu, t2⟩; have HU := hid hu; have T2 := hid t2; clear hu t2)
  go_ret
  exact ⟨_, rfl, HU.out, T2.out⟩
theorem tblen_any {p : Option Addr} {l : List En} {w : World} (ht : TblAt w p l) :
    Calls Tryz.prog 27 #[.pointer p] w fun e w' => e = .returned (.int .i64 l.length) ∧ w' = w := by
  have B := hid (list_any ht)
  clear ht
  go_enter Tryz.func27, Tryz.ntmps27
  go_wp2_with fail
  refine B.out.mono ?_
  rintro r w1 ⟨x, c, rfl, -, -, rfl⟩
  clear B
  go_wp2
  go_ret
  exact ⟨rfl, rfl⟩
end Go.Proofs.YtdjcpdlfapfmkaaGreat
