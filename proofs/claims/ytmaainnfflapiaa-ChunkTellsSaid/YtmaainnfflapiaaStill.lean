/- The book's stillTexts. -/
import Derived.Test.YtmaainnfflapiaaTextsM
import Derived.Test.YtmaainnfflapiaaSame
import Derived.Test.YtmaainnfflapiaaHeld
namespace Go.Proofs.Ytmaainnfflapiaa
set_option maxRecDepth 100000
open Go.RowKit Go.Lib Go.ChangeShapes Go.WideShapes

theorem strs_at {w : World} {base n : Nat} {v : Value} {xs : List Value} (h : w.ownsRow base TStrs 1 v n xs) (k : Nat) (hk : k < n) (hx : k < xs.length) : ∃ g cap, v = .slice (some ⟨g, 0, none⟩) n cap ∧ w.cell? ⟨g, k, none⟩ = some xs[k] ∧ g < w.heap.size := by
  obtain ⟨g, cap, rfl, _, hlt⟩ := h.form (by omega)
  refine ⟨g, cap, rfl, ?_, hlt⟩
  rw [h.cellAt k (by omega)]
  exact List.getElem?_eq_getElem hx

set_option maxHeartbeats 2000000 in
set_option maxRecDepth 100000 in
theorem stillTexts_any (kb base : Nat) (tv wv : Value) (vs us : List Value) (Ls : List (List ByteArray)) (W : World) (hK : Kept W kb base tv wv vs us Ls) :
    Calls Try.prog 33 #[.pointer (some ⟨kb, 0, none⟩)] W fun e W' => e = .returned (.bool true) ∧ Touch [] W W' := by
  obtain ⟨y1, c1, rfl, hy1, hy1'⟩ := slice_form hK.own1
  obtain ⟨y2, c2, rfl, hy2, hy2'⟩ := slice_form hK.own2
  have HK := hid hK
  have hn250 : (Ls.length : Int) ≤ 250 := by have := hK.few; omega
  clear hK
  go_enter Try.func33, Try.ntmps33
  go_wp2
  go_loopw [3] (fun iv wr => ∃ k : Nat, k ≤ Ls.length ∧ iv = .int .i64 k ∧ Touch [] W wr) (fun iv _ => Ls.length - (RowKit.intOf iv).toNat)
  case atStart => exact ⟨0, Nat.zero_le _, rfl, Touch.refl _ _⟩
  case round =>
    obtain ⟨k, hk, rfl, ht⟩ := hrel
    have HT := hid ht
    have b0 := touch_other ht HK.out.blk (by simp)
    have k0 := cell_of b0 0
    clear ht b0
    by_cases hlt : k < Ls.length
    · have hl2 : decide (k < Ls.length) = true := by simpa using hlt
      have hkI : (k : Int) < Ls.length := by omega
      have hk0 : (0 : Int) ≤ k := by omega
      have hv1 : k < vs.length := by rw [HK.out.n1]; exact hlt
      have hv2 : k < us.length := by rw [HK.out.n2]; exact hlt
      obtain ⟨g1, q1, e1, a1, _⟩ := strs_at HK.out.own1 k hlt hv1
      obtain ⟨g2, q2, e2, a2, _⟩ := strs_at HK.out.own2 k hlt hv2
      simp only [Value.slice.injEq, true_and] at e1 e2
      obtain ⟨rfl, rfl⟩ := e1
      obtain ⟨rfl, rfl⟩ := e2
      have hsz := (HK.out.sz Ls[k] (List.getElem_mem hlt))
      obtain ⟨ya, ca, ea, _, hta, _⟩ := row_texts (HK.out.r1 k hlt hv1) hsz.2
      obtain ⟨yb, cb, eb, _, htb, _⟩ := row_texts (HK.out.r2 k hlt hv2) hsz.2
      rw [ea] at a1
      rw [eb] at a2
      have ST := hid (fun (w : World) (t : Touch [] W w) => sameTexts_any ya yb ca cb Ls[k] Ls[k] w (by omega) (by omega) (hta.touch t) (htb.touch t))
      clear hta htb ea eb hsz
      generalize Ls[k] = M at *
      have hd : decide (M = M) = true := by simp
      rw [hd] at ST
      clear hd
      go_upto_region 4 with fail
      obtain ⟨ι, f, ⟨θ0, hθ0⟩, F0, F1, F2, F3, FT, FC⟩ : ∃ (ι : Type) (f : ι → World), (∃ θ, f θ = wr.drew) ∧ (∀ θ, (f θ).cell? ⟨kb, 0, none⟩ = some (.slice (some ⟨g1, 0, none⟩) Ls.length c1)) ∧ (∀ θ, (f θ).cell? ⟨kb, 1, none⟩ = some (.slice (some ⟨g2, 0, none⟩) Ls.length c2)) ∧
          (∀ θ, (f θ).cell? ⟨g1, k, none⟩ = some (.slice ya M.length ca)) ∧ (∀ θ, (f θ).cell? ⟨g2, k, none⟩ = some (.slice yb M.length cb)) ∧
          Hid (∀ θ, Touch [] W (f θ)) ∧ Hid (∀ θ, Calls Try.prog 19 #[.slice ya M.length ca, .slice yb M.length cb] (f θ) fun e w'' => e = .returned (.bool true) ∧ ∃ θ', w'' = f θ') :=
        ⟨{wx // Touch [] wr wx}, Subtype.val, ⟨⟨_, (Touch.refl [] wr).drew⟩, rfl⟩, fun θ => cell_of (touch_other (HT.out.trans θ.2 (by simp)) HK.out.blk (by simp)) 0, fun θ => cell_of (touch_other (HT.out.trans θ.2 (by simp)) HK.out.blk (by simp)) 1,
          fun θ => (HT.out.trans θ.2 (by simp)).cell a1, fun θ => (HT.out.trans θ.2 (by simp)).cell a2,
          hid fun θ => HT.out.trans θ.2 (by simp), hid fun θ => (ST.out _ (HT.out.trans θ.2 (by simp))).mono fun e w'' ⟨he, h2⟩ => ⟨he, ⟨⟨w'', θ.2.trans h2 (by simp)⟩, rfl⟩⟩⟩
      have Hθ := hid hθ0
      have inst : Nonempty ι := ⟨θ0⟩
      clear hθ0 ST a1 a2 k0
      refine wp_region_held f θ0 (by kernel_rfl) (by kernel_rfl) Hθ.out ?_
      repeat go_big_quiet_step (exact FC.out _)
      refine wpQuiet_nil ?_
      intro _ hw'
      obtain ⟨θ, hw''⟩ := hw'
      subst hw''
      have T4 := hid (FT.out θ)
      go_wp2
      go_roundw
      case rel => exact ⟨k + 1, by omega, by go_num, T4.out⟩
      case measure => simp [RowKit.intOf]; omega
    · obtain rfl : k = Ls.length := by omega
      have hl2 : decide (Ls.length < Ls.length) = false := by simp
      clear hlt hk
      go_wp2
      go_ret
      exact ⟨rfl, HT.out⟩
end Go.Proofs.Ytmaainnfflapiaa
