/- The laws' own entries: as many, the same; which is ahead. -/
import Derived.Test.YtdjcpdlfapfmkaaSi13
import Derived.Test.YtdjcpdlfapfmkaaLm13
import Derived.Test.YtdjcpdlfapfmkaaEn12
import Derived.Deep.RegionLaw
import Derived.Test.YtdjcpdlfapfmkaaProg
namespace Go.Proofs.Ytdjcpdlfapfmkaa
open Go.RowKit Go.Lib
set_option maxRecDepth 100000

abbrev TREn : TypeId := 46
abbrev TREns : TypeId := 26
theorem infoREn : (Try.prog.info? TREn).map (fun i => (i.zero, i.size, i.bytes)) = some (some (.agg #[.int .i64 0, .int .i64 0, .int .i64 0]), 3, 24) := by kernel_rfl
theorem entX_blk {w : World} {b c : Nat} {cs : Array Value} {l : List En} {t : TypeId} {fz : Nat × Nat} (hb : w.heap[b]? = some (.cells cs t fz)) (hl : cs.toList.take c = envals l) (hc : c = l.length * 3) : EntX w (some ⟨b, 0, none⟩) l := by
  subst hc
  have key : ∀ (l : List En) (i : Nat) (h : i < l.length), (envals l)[i * 3]? = some (.int .i64 (l[i]'h).1) ∧ (envals l)[i * 3 + 1]? = some (.int .i64 (l[i]'h).2.1) ∧ (envals l)[i * 3 + 2]? = some (.int .i64 (l[i]'h).2.2) := by
    intro l
    induction l with
    | nil => intro i h; simp at h
    | cons e l ih =>
      intro i h
      cases i with
      | zero => simp [envals, enc3]
      | succ i =>
        have := ih i (by simpa using h)
        have e1 : (i + 1) * 3 = i * 3 + 3 := by omega
        rw [e1]
        simpa [envals, enc3] using this
  intro i h
  obtain ⟨k0, k1, k2⟩ := key l i h
  rw [← hl] at k0 k1 k2
  have conv : ∀ j u, (cs.toList.take (l.length * 3))[j]? = some u → w.cell? ⟨b, j, none⟩ = some u := by
    intro j u hj
    rw [cell_of hb j]
    rw [List.getElem?_take] at hj
    split at hj
    · simpa using hj
    · cases hj
  exact ⟨b, 0, rfl, by simpa using conv _ _ k0, by simpa using conv _ _ k1, by simpa using conv _ _ k2⟩
theorem entX_ownT {w : World} {base n : Nat} {v : Value} {l : List En} {t : TypeId} (h : w.ownsRow base t 3 v n (envals l)) : ∃ x c, v = .slice x n c ∧ n = l.length ∧ n ≤ c ∧ (x = none → c = 0) ∧ (∀ a, x = some a → a.off = 0 ∧ a.spot = none) ∧ EntX w x l := by
  have hn : n = l.length := by have := h.1; rw [envals_len] at this; omega
  rcases h.2 with ⟨rfl, h0⟩ | ⟨g, cap, cur, rfl, _, hg, hnc, _, hcs, ht⟩
  · refine ⟨none, 0, by rw [h0], hn, by omega, fun _ => rfl, (fun a e => by cases e), fun i hi => ?_⟩
    omega
  · exact ⟨_, _, rfl, hn, hnc, (fun e => by cases e), (fun a e => by cases e; exact ⟨rfl, rfl⟩), entX_blk hg ht (by rw [hn])⟩
theorem lit_ren (w : World) (e : En) (n : Nat) (h : n = w.heap.size) : (w.alloc (.cells #[.int .i64 e.1, .int .i64 e.2.1, .int .i64 e.2.2] TREn)).ownsRow 0 TREn 3 (.slice (some ⟨n, 0, none⟩) 1 1) 1 (enc3 e) := by
  subst h
  exact World.ownsRow_lit w (e := TREn) (size := 3) #[.int .i64 e.1, .int .i64 e.2.1, .int .i64 e.2.2] 1 (Nat.zero_le _) (by decide) rfl
theorem envals_take {l : List En} {k : Nat} (h : k < l.length) : envals (l.take (k + 1)) = envals (l.take k) ++ enc3 l[k] := by
  rw [List.take_succ_eq_append_getElem h, envals_append]
  simp [envals]

set_option maxHeartbeats 2000000 in
theorem plain_any (x : Option Addr) (c : Nat) (l : List En) (w : World) (hx : EntX w x l) (hlen : l.length ≤ 1000000) :
    Calls Try.prog 12 #[.slice x l.length c] w fun e w' => ∃ u, e = .returned u ∧ w'.ownsRow w.heap.size TREn 3 u l.length (envals l) ∧ Touch [] w w' := by
  obtain ⟨i0, hi, hz0, hz1, hz2⟩ := info_parts infoREn
  have HX := hid hx
  clear hx
  go_enter Try.func12, Try.ntmps12
  go_wp2
  go_loopw [3, 4] (fun uv iv wr => ∃ k : Nat, k ≤ l.length ∧ iv = .int .i64 k ∧ wr.ownsRow w.heap.size TREn 3 uv k (envals (l.take k)) ∧ Touch [] w wr) (fun _ iv _ => l.length - (RowKit.intOf iv).toNat)
  case atStart => exact ⟨0, Nat.zero_le _, rfl, World.ownsRow_nil _ _ _ _, Touch.refl _ _⟩
  case round =>
    obtain ⟨k, hk, rfl, hown, ht⟩ := hrel
    obtain ⟨yu, cu, rfl, -, -⟩ := slice_form hown
    have HT := hid ht
    have HO := hid hown
    clear ht hown
    by_cases hlt : k < l.length
    · have hlt2 : decide (k < l.length) = true := by simpa using hlt
      have hI : (k : Int) < l.length := by omega
      obtain ⟨b, off, rfl, g0, g1, g2⟩ := HX.out k hlt
      have e0 := HT.out.cell g0
      have e1 := HT.out.cell g1
      have e2 := HT.out.cell g2
      have e0d := HT.out.drew.cell g0
      have e1d := HT.out.drew.cell g1
      have e2d := HT.out.drew.cell g2
      have PT := hid (envals_take hlt)
      clear g0 g1 g2
      generalize l[k] = s at *
      go_upto_region 5 with fail
      go_region_law (refine step_append_grew _ rfl (.tmp 11) (.tmp 28) TREns rfl w.heap.size TREn i0 (.agg #[.int .i64 0, .int .i64 0, .int .i64 0]) 3 24 Try.underlying26 hi hz0 hz1 hz2 rfl (by decide) (.slice yu k cu) k (envals (l.take k)) (by simp [Act.eval]) (owns_touch (HO.out.alloc _) ((Touch.refl [] _).drew)) ⟨wr.heap.size, 0, none⟩ 1 1 (enc3 s) (by simp [Act.eval]) rfl (fun j u hj => (owns_touch (lit_ren wr s _ rfl) ((Touch.refl [] _).drew)).cells (g := wr.heap.size) rfl j u hj) (enc3_one s) (by omega) (by decide) (by have := HT.out.size; simp; omega) ?_; intro y cap w2 hG; have G := hid hG; clear hG)
      all_goals
        go_wp2
        go_roundw
        case rel => exact ⟨k + 1, by omega, by go_num, by rw [PT.out]; exact G.out.own, G.out.touch (owns_touch (HO.out.alloc _) ((Touch.refl [] _).drew)) ((HT.out.alloc _).drew) (Nat.le_refl _)⟩
        case measure => simp [RowKit.intOf]; omega
    · obtain rfl : k = l.length := by omega
      have hlt2 : decide (l.length < l.length) = false := by simp
      go_wp2
      go_ret
      rw [List.take_length] at HO
      exact ⟨_, rfl, HO.out, HT.out⟩
end Go.Proofs.Ytdjcpdlfapfmkaa
