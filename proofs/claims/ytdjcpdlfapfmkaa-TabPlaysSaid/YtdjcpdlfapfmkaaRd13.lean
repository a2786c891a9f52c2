/- The laws' own Cut. -/
import Derived.Test.YtdjcpdlfapfmkaaRb13
import Derived.Test.YtdjcpdlfapfmkaaCu12
namespace Go.Proofs.Ytdjcpdlfapfmkaa
open Go.RowKit Go.Lib
set_option maxRecDepth 100000

theorem cutL_take {q : Int} {l : List En} {k : Nat} (h : k < l.length) : cutL (l.take (k + 1)) q = cutL (l.take k) q ++ (if l[k].2.2 < q then [l[k]] else []) := by
  unfold cutL
  rw [ftake h]
  congr 1
  by_cases hp : l[k].2.2 < q <;> simp [hp]
set_option maxHeartbeats 2000000 in
theorem refCut_any (q : Int) (x : Option Addr) (c : Nat) (l : List En) (w : World) (hx : EntX w x l) (hlen : l.length ≤ 1000000) :
    Calls Try.prog 9 #[.slice x l.length c, .int .i64 q] w fun e w' => ∃ u, e = .returned u ∧ w'.ownsRow w.heap.size TREn 3 u (cutL l q).length (envals (cutL l q)) ∧ Touch [] w w' := by
  obtain ⟨i0, hi, hz0, hz1, hz2⟩ := info_parts infoREn
  have HX := hid hx
  have FIN : Hid (cutL (l.take l.length) q = cutL l q) := hid (by rw [List.take_length])
  clear hx
  go_enter Try.func9, Try.ntmps9
  go_wp2
  go_loopw [5, 6] (fun uv iv wr => ∃ k : Nat, k ≤ l.length ∧ iv = .int .i64 k ∧ wr.ownsRow w.heap.size TREn 3 uv (cutL (l.take k) q).length (envals (cutL (l.take k) q)) ∧ Touch [] w wr) (fun _ iv _ => l.length - (RowKit.intOf iv).toNat)
  case atStart => exact ⟨0, Nat.zero_le _, rfl, World.ownsRow_nil _ _ _ _, Touch.refl _ _⟩
  case round =>
    obtain ⟨k, hk, rfl, hown, ht⟩ := hrel
    obtain ⟨yu, cu, rfl, -, -⟩ := slice_form hown
    have HT := hid ht
    have HO := hid hown
    have hle : (cutL (l.take k) q).length ≤ k := ftake_le _ l k
    clear ht hown
    by_cases hlt : k < l.length
    · have hlt2 : decide (k < l.length) = true := by simpa using hlt
      have hI : (k : Int) < l.length := by omega
      obtain ⟨b, off, rfl, g0, g1, g2⟩ := HX.out k hlt
      have e0 := HT.out.cell g0
      have e1 := HT.out.cell g1
      have e2 := HT.out.cell g2
      have PT := hid (cutL_take (q := q) hlt)
      clear g0 g1 g2
      generalize l[k] = s at *
      generalize hmm : cutL (l.take k) q = m at *
      have HMM := hid hmm
      clear hmm
      by_cases h1 : s.2.2 < q
      · have h1b : decide (s.2.2 < q) = true := by simpa using h1
        have PT2 := hid (PT.out.trans (by rw [if_pos h1]))
        clear PT h1
        go_wp2_with (at_builtin; refine wpList_append_grew _ rfl _ _ TREns rfl w.heap.size TREn i0 (.agg #[.int .i64 0, .int .i64 0, .int .i64 0]) 3 24 Try.underlying26 hi hz0 hz1 hz2 rfl (by decide) _ m.length (envals m) rfl (HO.out.alloc _) (.slice (some ⟨wr.heap.size, 0, none⟩) 1 1) 1 0 (enc3 s) rfl (lit_ren _ s _ rfl) (enc3_one s) (by omega) (by decide) (by have := HT.out.size; simp; omega) ?_; intro y cap w2 hG; have G := hid hG; clear hG)
        go_roundw
        case rel => exact ⟨k + 1, by omega, by go_num, by rw [PT2.out, List.length_append]; rw [envals_append]; simpa [envals] using G.out.own, G.out.touch (HO.out.alloc _) (HT.out.alloc _) (Nat.le_refl _)⟩
        case measure => simp [RowKit.intOf]; omega
      · have h1b : decide (s.2.2 < q) = false := by simpa using h1
        have PT2 := hid (PT.out.trans (by rw [if_neg h1, List.append_nil]))
        clear PT h1
        go_wp2
        go_roundw
        case rel => exact ⟨k + 1, by omega, by go_num, by rw [PT2.out]; exact HO.out, HT.out⟩
        case measure => simp [RowKit.intOf]; omega
    · obtain rfl : k = l.length := by omega
      have hlt2 : decide (l.length < l.length) = false := by simp
      rw [FIN.out]
      rw [FIN.out] at HO
      go_wp2
      go_ret
      exact ⟨_, rfl, HO.out, HT.out⟩
end Go.Proofs.Ytdjcpdlfapfmkaa
