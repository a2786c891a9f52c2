/- The laws' own entries: as many, the same; which is ahead. The laws' own entries, further: back again; which is ahead; found, ranges, the last one. The laws' own Add: an entry more, in its place. Entries that are handed in, and held against what they were. -/
import Derived.Test.YtdjcpdlfapfmkaaGreatSi13
import Derived.Test.YtdjcpdlfapfmkaaGreatLm13
import Derived.Test.YtdjcpdlfapfmkaaGreatEn12
import Derived.Deep.RegionLaw
import Derived.Test.YtdjcpdlfapfmkaaGreatProg
import Derived.Test.YtdjcpdlfapfmkaaGreatLa12
import Derived.Test.YtdjcpdlfapfmkaaGreatRg12
import Derived.Test.YtdjcpdlfapfmkaaGreatHeld
import Derived.BigQuiet
import Derived.OwnWalk
namespace Go.Proofs.YtdjcpdlfapfmkaaGreat
open Go.RowKit Go.Lib
set_option maxRecDepth 100000

abbrev TREn : TypeId := 56
abbrev TREns : TypeId := 24
theorem infoREn : (Tryz.prog.info? TREn).map (fun i => (i.zero, i.size, i.bytes)) = some (some (.agg #[.int .i64 0, .int .i64 0, .int .i64 0]), 3, 24) := by kernel_rfl
theorem entX_blk {w : World} {b c : Nat} {cs : Array Value} {l : List En} {t : TypeId} {fz : Nat × Nat} (hb : w.heap[b]? = some (.cells cs t fz)) (hl : cs.toList.take c = envals l) (hc : c = l.length * 3) : EntX w (some ⟨b, 0, none⟩) l := by
  subst hc
  have key : ∀ (l : List En) (i : Nat) (h : i < l.length), (envals l)[i * 3]? = some (.int .i64 (l[i]'h).1) ∧ (envals l)[i * 3 + 1]? = some (.int .i64 (l[i]'h).2.1) ∧ (envals l)[i * 3 + 2]? = some (.int .i64 (l[i]'h).2.2) := by
    intro l
    induction l with
    | nil => intro i h; simp at h
    | cons e l ih =>
      intro i h
      cases i with
      | zero => simp [envals, enc3]
      | succ i =>
        have := ih i (by simpa using h)
        have e1 : (i + 1) * 3 = i * 3 + 3 := by omega
        rw [e1]
        simpa [envals, enc3] using this
  intro i h
  obtain ⟨k0, k1, k2⟩ := key l i h
  rw [← hl] at k0 k1 k2
  have conv : ∀ j u, (cs.toList.take (l.length * 3))[j]? = some u → w.cell? ⟨b, j, none⟩ = some u := by
    intro j u hj
    rw [cell_of hb j]
    rw [List.getElem?_take] at hj
    split at hj
    · simpa using hj
    · cases hj
  exact ⟨b, 0, rfl, by simpa using conv _ _ k0, by simpa using conv _ _ k1, by simpa using conv _ _ k2⟩
theorem entX_ownT {w : World} {base n : Nat} {v : Value} {l : List En} {t : TypeId} (h : w.ownsRow base t 3 v n (envals l)) : ∃ x c, v = .slice x n c ∧ n = l.length ∧ n ≤ c ∧ (x = none → c = 0) ∧ (∀ a, x = some a → a.off = 0 ∧ a.spot = none) ∧ EntX w x l := by
  have hn : n = l.length := by have := h.1; rw [envals_len] at this; omega
  rcases h.2 with ⟨rfl, h0⟩ | ⟨g, cap, cur, rfl, _, hg, hnc, _, hcs, ht⟩
  · refine ⟨none, 0, by rw [h0], hn, by omega, fun _ => rfl, (fun a e => by cases e), fun i hi => ?_⟩
    omega
  · exact ⟨_, _, rfl, hn, hnc, (fun e => by cases e), (fun a e => by cases e; exact ⟨rfl, rfl⟩), entX_blk hg ht (by rw [hn])⟩
theorem lit_ren (w : World) (e : En) (n : Nat) (h : n = w.heap.size) : (w.alloc (.cells #[.int .i64 e.1, .int .i64 e.2.1, .int .i64 e.2.2] TREn)).ownsRow 0 TREn 3 (.slice (some ⟨n, 0, none⟩) 1 1) 1 (enc3 e) := by
  subst h
  exact World.ownsRow_lit w (e := TREn) (size := 3) #[.int .i64 e.1, .int .i64 e.2.1, .int .i64 e.2.2] 1 (Nat.zero_le _) (by decide) rfl
theorem envals_take {l : List En} {k : Nat} (h : k < l.length) : envals (l.take (k + 1)) = envals (l.take k) ++ enc3 l[k] := by
  rw [List.take_succ_eq_append_getElem h, envals_append]
  simp [envals]

set_option maxHeartbeats 2000000 in
theorem plain_any (x : Option Addr) (c : Nat) (l : List En) (w : World) (hx : EntX w x l) (hlen : l.length ≤ 1000000) :
    Calls Tryz.prog 6 #[.slice x l.length c] w fun e w' => ∃ u, e = .returned u ∧ w'.ownsRow w.heap.size TREn 3 u l.length (envals l) ∧ Touch [] w w' := by
  obtain ⟨i0, hi, hz0, hz1, hz2⟩ := info_parts infoREn
  have HX := hid hx
  clear hx
  go_enter Tryz.func6, Tryz.ntmps6
  go_wp2
  go_loopw [3, 4] (fun uv iv wr => ∃ k : Nat, k ≤ l.length ∧ iv = .int .i64 k ∧ wr.ownsRow w.heap.size TREn 3 uv k (envals (l.take k)) ∧ Touch [] w wr) (fun _ iv _ => l.length - (RowKit.intOf iv).toNat)
  case atStart => exact ⟨0, Nat.zero_le _, rfl, World.ownsRow_nil _ _ _ _, Touch.refl _ _⟩
  case round =>
    obtain ⟨k, hk, rfl, hown, ht⟩ := hrel
    obtain ⟨yu, cu, rfl, -, -⟩ := slice_form hown
    have HT := hid ht
    have HO := hid hown
    clear ht hown
    by_cases hlt : k < l.length
    · have hlt2 : decide (k < l.length) = true := by simpa using hlt
      have hI : (k : Int) < l.length := by omega
      obtain ⟨b, off, rfl, g0, g1, g2⟩ := HX.out k hlt
      have e0 := HT.out.cell g0
      have e1 := HT.out.cell g1
      have e2 := HT.out.cell g2
      have e0d := HT.out.drew.cell g0
      have e1d := HT.out.drew.cell g1
      have e2d := HT.out.drew.cell g2
      have PT := hid (envals_take hlt)
      clear g0 g1 g2
      generalize l[k] = s at *
      go_upto_region 5 with fail
      go_region_law (refine step_append_grew _ rfl (.tmp 11) (.tmp 28) TREns rfl w.heap.size TREn i0 (.agg #[.int .i64 0, .int .i64 0, .int .i64 0]) 3 24 Tryz.underlying24 hi hz0 hz1 hz2 rfl (by decide) (.slice yu k cu) k (envals (l.take k)) (by simp [Act.eval]) (owns_touch (HO.out.alloc _) ((Touch.refl [] _).drew)) ⟨wr.heap.size, 0, none⟩ 1 1 (enc3 s) (by simp [Act.eval]) rfl (fun j u hj => (owns_touch (lit_ren wr s _ rfl) ((Touch.refl [] _).drew)).cells (g := wr.heap.size) rfl j u hj) (enc3_one s) (by omega) (by decide) (by have := HT.out.size; simp; omega) ?_; intro y cap w2 hG; have G := hid hG; clear hG)
      all_goals
        go_wp2
        go_roundw
        case rel => exact ⟨k + 1, by omega, by go_num, by rw [PT.out]; exact G.out.own, G.out.touch (owns_touch (HO.out.alloc _) ((Touch.refl [] _).drew)) ((HT.out.alloc _).drew) (Nat.le_refl _)⟩
        case measure => simp [RowKit.intOf]; omega
    · obtain rfl : k = l.length := by omega
      have hlt2 : decide (l.length < l.length) = false := by simp
      go_wp2
      go_ret
      rw [List.take_length] at HO
      exact ⟨_, rfl, HO.out, HT.out⟩
end Go.Proofs.YtdjcpdlfapfmkaaGreat

namespace Go.Proofs.YtdjcpdlfapfmkaaGreat
open Go.RowKit Go.Lib
set_option maxRecDepth 100000

set_option maxHeartbeats 2000000 in
theorem real_any (x : Option Addr) (c : Nat) (l : List En) (w : World) (hx : EntX w x l) (hlen : l.length ≤ 1000000) :
    Calls Tryz.prog 22 #[.slice x l.length c] w fun e w' => ∃ u, e = .returned u ∧ w'.ownsRow w.heap.size TEn 3 u l.length (envals l) ∧ Touch [] w w' := by
  obtain ⟨i0, hi, hz0, hz1, hz2⟩ := info_parts infoEn
  have HX := hid hx
  clear hx
  go_enter Tryz.func22, Tryz.ntmps22
  go_wp2
  go_loopw [3, 4] (fun uv iv wr => ∃ k : Nat, k ≤ l.length ∧ iv = .int .i64 k ∧ wr.ownsRow w.heap.size TEn 3 uv k (envals (l.take k)) ∧ Touch [] w wr) (fun _ iv _ => l.length - (RowKit.intOf iv).toNat)
  case atStart => exact ⟨0, Nat.zero_le _, rfl, World.ownsRow_nil _ _ _ _, Touch.refl _ _⟩
  case round =>
    obtain ⟨k, hk, rfl, hown, ht⟩ := hrel
    obtain ⟨yu, cu, rfl, -, -⟩ := slice_form hown
    have HT := hid ht
    have HO := hid hown
    clear ht hown
    by_cases hlt : k < l.length
    · have hlt2 : decide (k < l.length) = true := by simpa using hlt
      have hI : (k : Int) < l.length := by omega
      obtain ⟨b, off, rfl, g0, g1, g2⟩ := HX.out k hlt
      have e0 := HT.out.cell g0
      have e1 := HT.out.cell g1
      have e2 := HT.out.cell g2
      have e0d := HT.out.drew.cell g0
      have e1d := HT.out.drew.cell g1
      have e2d := HT.out.drew.cell g2
      have PT := hid (envals_take hlt)
      clear g0 g1 g2
      generalize l[k] = s at *
      go_upto_region 5 with fail
      go_region_law (refine step_append_grew _ rfl (.tmp 11) (.tmp 28) TEns rfl w.heap.size TEn i0 (.agg #[.int .i64 0, .int .i64 0, .int .i64 0]) 3 24 Tryz.underlying22 hi hz0 hz1 hz2 rfl (by decide) (.slice yu k cu) k (envals (l.take k)) (by simp [Act.eval]) (owns_touch (HO.out.alloc _) ((Touch.refl [] _).drew)) ⟨wr.heap.size, 0, none⟩ 1 1 (enc3 s) (by simp [Act.eval]) rfl (fun j u hj => (owns_touch (lit_en wr s _ rfl) ((Touch.refl [] _).drew)).cells (g := wr.heap.size) rfl j u hj) (enc3_one s) (by omega) (by decide) (by have := HT.out.size; simp; omega) ?_; intro y cap w2 hG; have G := hid hG; clear hG)
      all_goals
        go_wp2
        go_roundw
        case rel => exact ⟨k + 1, by omega, by go_num, by rw [PT.out]; exact G.out.own, G.out.touch (owns_touch (HO.out.alloc _) ((Touch.refl [] _).drew)) ((HT.out.alloc _).drew) (Nat.le_refl _)⟩
        case measure => simp [RowKit.intOf]; omega
    · obtain rfl : k = l.length := by omega
      have hlt2 : decide (l.length < l.length) = false := by simp
      go_wp2
      go_ret
      rw [List.take_length] at HO
      exact ⟨_, rfl, HO.out, HT.out⟩

set_option maxHeartbeats 2000000 in
theorem refLess_any (a b : En) (w : World) :
    Calls Tryz.prog 86 #[enV a, enV b] w fun e w' => e = .returned (.bool (decide (ltE a b))) ∧ Touch [] w w' := by
  obtain ⟨x1, hx1⟩ : ∃ x, x = w.heap.size := ⟨_, rfl⟩
  obtain ⟨x2, hx2⟩ : ∃ x, x = w.heap.size + 1 := ⟨_, rfl⟩
  obtain ⟨w1, hw1⟩ : ∃ w1, w1 = (w.alloc (.cells #[.int .i64 a.1, .int .i64 a.2.1, .int .i64 a.2.2] TREn)).alloc (.cells #[.int .i64 b.1, .int .i64 b.2.1, .int .i64 b.2.2] TREn) := ⟨_, rfl⟩
  have T1 : Hid (Touch [] w w1) := hid (by rw [hw1]; exact ((Touch.refl [] w).alloc _).alloc _)
  have s1 : (w.alloc (.cells #[.int .i64 a.1, .int .i64 a.2.1, .int .i64 a.2.2] TREn)).heap.size = x2 := by rw [hx2]; simp
  have hb1 : w1.heap[x1]? = some (.cells #[.int .i64 a.1, .int .i64 a.2.1, .int .i64 a.2.2] TREn) := by rw [hw1, hx1]; exact heap_alloc_keep (heap_alloc_new w _) _
  have hb2 : w1.heap[x2]? = some (.cells #[.int .i64 b.1, .int .i64 b.2.1, .int .i64 b.2.2] TREn) := by rw [hw1, ← s1]; exact heap_alloc_new _ _
  have p0 : w1.cell? ⟨x1, 0, none⟩ = some (.int .i64 a.1) := cell_of hb1 0
  have p1 : w1.cell? ⟨x1, 1, none⟩ = some (.int .i64 a.2.1) := cell_of hb1 1
  have p2 : w1.cell? ⟨x1, 2, none⟩ = some (.int .i64 a.2.2) := cell_of hb1 2
  have q0 : w1.cell? ⟨x2, 0, none⟩ = some (.int .i64 b.1) := cell_of hb2 0
  have q1 : w1.cell? ⟨x2, 1, none⟩ = some (.int .i64 b.2.1) := cell_of hb2 1
  have q2 : w1.cell? ⟨x2, 2, none⟩ = some (.int .i64 b.2.2) := cell_of hb2 2
  have E1 := hid (ltE_mk a b.1 b.2.1 b.2.2)
  obtain ⟨a1, a2, a3⟩ := a
  obtain ⟨b1, b2, b3⟩ := b
  dsimp only at *
  clear hb1 hb2
  by_cases h1 : a1 = b1
  · have h1b : (a1 != b1) = false := by simp [h1]
    by_cases h2 : a2 = b2
    · have h2b : (a2 != b2) = false := by simp [h2]
      have E2 : decide (ltE (a1, a2, a3) (b1, b2, b3)) = decide (a3 < b3) := by rw [decide_eq_decide, E1.out]; omega
      rw [E2]
      clear E2
      clear h1 h2
      go_enter Tryz.func86, Tryz.ntmps86
      go_upto_region 1 with fail
      rw [← hw1, ← hx2, ← hx1]
      clear hw1 hx1 hx2 s1
      go_wp2
      go_ret
      exact ⟨rfl, T1.out⟩
    · have h2b : (a2 != b2) = true := by simpa using h2
      have E2 : decide (ltE (a1, a2, a3) (b1, b2, b3)) = decide (a2 < b2) := by rw [decide_eq_decide, E1.out]; omega
      rw [E2]
      clear E2
      clear h1 h2
      go_enter Tryz.func86, Tryz.ntmps86
      go_upto_region 1 with fail
      rw [← hw1, ← hx2, ← hx1]
      clear hw1 hx1 hx2 s1
      go_wp2
      go_ret
      exact ⟨rfl, T1.out⟩
  · have h1b : (a1 != b1) = true := by simpa using h1
    have E2 : decide (ltE (a1, a2, a3) (b1, b2, b3)) = decide (a1 < b1) := by rw [decide_eq_decide, E1.out]; omega
    rw [E2]
    clear E2
    clear h1
    go_enter Tryz.func86, Tryz.ntmps86
    go_upto_region 1 with fail
    rw [← hw1, ← hx2, ← hx1]
    clear hw1 hx1 hx2 s1
    go_wp2
    go_ret
    exact ⟨rfl, T1.out⟩

theorem ftake {p : En → Bool} {l : List En} {k : Nat} (h : k < l.length) : (l.take (k + 1)).filter p = (l.take k).filter p ++ (if p l[k] = true then [l[k]] else []) := by
  rw [List.take_succ_eq_append_getElem h, List.filter_append]
  congr 1
  by_cases hp : p l[k] = true <;> simp [hp]
theorem ftake_le (p : En → Bool) (l : List En) (k : Nat) : ((l.take k).filter p).length ≤ k := Nat.le_trans (List.length_filter_le _ _) (by rw [List.length_take]; omega)

set_option maxHeartbeats 2000000 in
theorem refFind_any (h v : Int) (x : Option Addr) (c : Nat) (l : List En) (w : World) (hx : EntX w x l) (hlen : l.length ≤ 1000000) :
    Calls Tryz.prog 25 #[.slice x l.length c, .int .i64 h, .int .i64 v] w fun e w' => ∃ u, e = .returned u ∧ w'.ownsRow w.heap.size TInt 1 u (l.filter (isHV h v)).length (posV (l.filter (isHV h v))) ∧ Touch [] w w' := by
  obtain ⟨i0, hi, hz0, hz1, hz2⟩ := info_parts infoInt
  have HX := hid hx
  have FIN : Hid ((l.take l.length).filter (isHV h v) = l.filter (isHV h v)) := hid (by rw [List.take_length])
  clear hx
  go_enter Tryz.func25, Tryz.ntmps25
  go_wp2
  go_loopw [7, 8] (fun uv iv wr => ∃ k : Nat, k ≤ l.length ∧ iv = .int .i64 k ∧ wr.ownsRow w.heap.size TInt 1 uv ((l.take k).filter (isHV h v)).length (posV ((l.take k).filter (isHV h v))) ∧ Touch [] w wr) (fun _ iv _ => l.length - (RowKit.intOf iv).toNat)
  case atStart => exact ⟨0, Nat.zero_le _, rfl, World.ownsRow_nil _ _ _ _, Touch.refl _ _⟩
  case round =>
    obtain ⟨k, hk, rfl, hown, ht⟩ := hrel
    obtain ⟨yu, cu, rfl, -, -⟩ := slice_form hown
    have HT := hid ht
    have HO := hid hown
    have hle := ftake_le (isHV h v) l k
    clear ht hown
    by_cases hlt : k < l.length
    · have hlt2 : decide (k < l.length) = true := by simpa using hlt
      have hI : (k : Int) < l.length := by omega
      obtain ⟨b, off, rfl, g0, g1, g2⟩ := HX.out k hlt
      have e0 := HT.out.cell g0
      have e1 := HT.out.cell g1
      have e2 := HT.out.cell g2
      have PT := hid (ftake (p := isHV h v) hlt)
      clear g0 g1 g2
      generalize l[k] = s at *
      generalize hmm : (l.take k).filter (isHV h v) = m at *
      have HMM := hid hmm
      clear hmm
      by_cases h1 : s.1 = h
      · have h1b : (s.1 == h) = true := by simpa using h1
        by_cases h2 : s.2.1 = v
        · have h2b : (s.2.1 == v) = true := by simpa using h2
          have PT2 := hid (PT.out.trans (by rw [if_pos (by simp [isHV, h1, h2])]))
          clear PT h1 h2
          go_wp2_with (at_builtin; refine wpList_append_grew _ rfl _ _ TInts rfl w.heap.size TInt i0 (.int .i64 0) 1 8 Tryz.underlying48 hi hz0 hz1 hz2 rfl (by decide) _ m.length (posV m) rfl (HO.out.alloc _) (.slice (some ⟨wr.heap.size, 0, none⟩) 1 1) 1 0 [.int .i64 s.2.2] rfl (lit_one _ _ _ _ rfl) (by intro u hu; simp at hu; subst hu; rfl) (by omega) (by decide) (by have := HT.out.size; simp; omega) ?_; intro y cap w2 hG; have G := hid hG; clear hG)
          go_roundw
          case rel => exact ⟨k + 1, by omega, by go_num, by rw [PT2.out, List.length_append]; unfold posV; rw [List.map_append]; exact G.out.own, G.out.touch (HO.out.alloc _) (HT.out.alloc _) (Nat.le_refl _)⟩
          case measure => simp [RowKit.intOf]; omega
        · have h2b : (s.2.1 == v) = false := by simpa using h2
          have PT2 := hid (PT.out.trans (by rw [if_neg (by simp [isHV, h2]), List.append_nil]))
          clear PT h1 h2
          go_wp2
          go_roundw
          case rel => exact ⟨k + 1, by omega, by go_num, by rw [PT2.out]; exact HO.out, HT.out⟩
          case measure => simp [RowKit.intOf]; omega
      · have h1b : (s.1 == h) = false := by simpa using h1
        have PT2 := hid (PT.out.trans (by rw [if_neg (by simp [isHV, h1]), List.append_nil]))
        clear PT h1
        go_wp2
        go_roundw
        case rel => exact ⟨k + 1, by omega, by go_num, by rw [PT2.out]; exact HO.out, HT.out⟩
        case measure => simp [RowKit.intOf]; omega
    · obtain rfl : k = l.length := by omega
      have hlt2 : decide (l.length < l.length) = false := by simp
      rw [FIN.out]
      rw [FIN.out] at HO
      go_wp2
      go_ret
      exact ⟨_, rfl, HO.out, HT.out⟩

def isR (h f t : Int) (e : En) : Bool := decide (e.1 = h) && (decide (f ≤ e.2.1) && decide (e.2.1 < t))

set_option maxHeartbeats 2000000 in
theorem refRange_any (h v t : Int) (x : Option Addr) (c : Nat) (l : List En) (w : World) (hx : EntX w x l) (hlen : l.length ≤ 1000000) :
    Calls Tryz.prog 23 #[.slice x l.length c, .int .i64 h, .int .i64 v, .int .i64 t] w fun e w' => ∃ u, e = .returned u ∧ w'.ownsRow w.heap.size TREn 3 u (l.filter (isR h v t)).length (envals (l.filter (isR h v t))) ∧ Touch [] w w' := by
  obtain ⟨i0, hi, hz0, hz1, hz2⟩ := info_parts infoREn
  have HX := hid hx
  have FIN : Hid ((l.take l.length).filter (isR h v t) = l.filter (isR h v t)) := hid (by rw [List.take_length])
  clear hx
  go_enter Tryz.func23, Tryz.ntmps23
  go_wp2
  go_loopw [9, 10] (fun uv iv wr => ∃ k : Nat, k ≤ l.length ∧ iv = .int .i64 k ∧ wr.ownsRow w.heap.size TREn 3 uv ((l.take k).filter (isR h v t)).length (envals ((l.take k).filter (isR h v t))) ∧ Touch [] w wr) (fun _ iv _ => l.length - (RowKit.intOf iv).toNat)
  case atStart => exact ⟨0, Nat.zero_le _, rfl, World.ownsRow_nil _ _ _ _, Touch.refl _ _⟩
  case round =>
    obtain ⟨k, hk, rfl, hown, ht⟩ := hrel
    obtain ⟨yu, cu, rfl, -, -⟩ := slice_form hown
    have HT := hid ht
    have HO := hid hown
    have hle := ftake_le (isR h v t) l k
    clear ht hown
    by_cases hlt : k < l.length
    · have hlt2 : decide (k < l.length) = true := by simpa using hlt
      have hI : (k : Int) < l.length := by omega
      obtain ⟨b, off, rfl, g0, g1, g2⟩ := HX.out k hlt
      have e0 := HT.out.cell g0
      have e1 := HT.out.cell g1
      have e2 := HT.out.cell g2
      have PT := hid (ftake (p := isR h v t) hlt)
      clear g0 g1 g2
      generalize l[k] = s at *
      generalize hmm : (l.take k).filter (isR h v t) = m at *
      have HMM := hid hmm
      clear hmm
      by_cases h1 : s.1 = h
      · have h1b : (s.1 == h) = true := by simpa using h1
        by_cases h2 : v ≤ s.2.1
        · have h2b : decide (v ≤ s.2.1) = true := by simpa using h2
          by_cases h3 : s.2.1 < t
          · have h3b : decide (s.2.1 < t) = true := by simpa using h3
            have PT2 := hid (PT.out.trans (by rw [if_pos (by simp [isR, h1, h2, h3])]))
            clear PT h1 h2 h3
            go_wp2_with (at_builtin; refine wpList_append_grew _ rfl _ _ TREns rfl w.heap.size TREn i0 (.agg #[.int .i64 0, .int .i64 0, .int .i64 0]) 3 24 Tryz.underlying24 hi hz0 hz1 hz2 rfl (by decide) _ m.length (envals m) rfl (HO.out.alloc _) (.slice (some ⟨wr.heap.size, 0, none⟩) 1 1) 1 0 (enc3 s) rfl (lit_ren _ s _ rfl) (enc3_one s) (by omega) (by decide) (by have := HT.out.size; simp; omega) ?_; intro y cap w2 hG; have G := hid hG; clear hG)
            go_roundw
            case rel => exact ⟨k + 1, by omega, by go_num, by rw [PT2.out, List.length_append]; rw [envals_append]; simpa [envals] using G.out.own, G.out.touch (HO.out.alloc _) (HT.out.alloc _) (Nat.le_refl _)⟩
            case measure => simp [RowKit.intOf]; omega
          · have h3b : decide (s.2.1 < t) = false := by simpa using h3
            have PT2 := hid (PT.out.trans (by rw [if_neg (by simp [isR, h3]), List.append_nil]))
            clear PT h1 h2 h3
            go_wp2
            go_roundw
            case rel => exact ⟨k + 1, by omega, by go_num, by rw [PT2.out]; exact HO.out, HT.out⟩
            case measure => simp [RowKit.intOf]; omega
        · have h2b : decide (v ≤ s.2.1) = false := by simpa using h2
          have PT2 := hid (PT.out.trans (by rw [if_neg (by simp [isR, h2]), List.append_nil]))
          clear PT h1 h2
          go_wp2
          go_roundw
          case rel => exact ⟨k + 1, by omega, by go_num, by rw [PT2.out]; exact HO.out, HT.out⟩
          case measure => simp [RowKit.intOf]; omega
      · have h1b : (s.1 == h) = false := by simpa using h1
        have PT2 := hid (PT.out.trans (by rw [if_neg (by simp [isR, h1]), List.append_nil]))
        clear PT h1
        go_wp2
        go_roundw
        case rel => exact ⟨k + 1, by omega, by go_num, by rw [PT2.out]; exact HO.out, HT.out⟩
        case measure => simp [RowKit.intOf]; omega
    · obtain rfl : k = l.length := by omega
      have hlt2 : decide (l.length < l.length) = false := by simp
      rw [FIN.out]
      rw [FIN.out] at HO
      go_wp2
      go_ret
      exact ⟨_, rfl, HO.out, HT.out⟩

def lastR (l : List En) (h : Int) : Option En := (l.filter fun e => decide (e.1 = h)).getLast?
theorem lastR_hit {l : List En} {k : Nat} (hk : k < l.length) {h : Int} (e : l[k].1 = h) : lastR (l.take (k + 1)) h = some l[k] := by
  unfold lastR
  rw [List.take_succ_eq_append_getElem hk, List.filter_append]
  simp [e]
theorem lastR_miss {l : List En} {k : Nat} (hk : k < l.length) {h : Int} (e : ¬ l[k].1 = h) : lastR (l.take (k + 1)) h = lastR (l.take k) h := by
  unfold lastR
  rw [List.take_succ_eq_append_getElem hk, List.filter_append]
  simp [e]
theorem lastR_sorted {l : List En} (hs : SortedE l) (h : Int) : lastR l h = lastE l h := by
  unfold lastR lastE
  induction l with
  | nil => rfl
  | cons x l ih =>
    have hp := List.pairwise_cons.1 hs
    have I := ih hp.2
    by_cases hx : x.1 = h
    · rw [List.filter_cons_of_pos (by simpa using hx), List.filter_cons_of_pos (by simp; omega)]
      rw [List.getLast?_cons, List.getLast?_cons]
      cases h1 : (l.filter fun e => decide (e.1 ≤ h)).getLast? with
      | none =>
        rw [h1] at I
        rw [I]
        simp [Option.filter, hx]
      | some y =>
        rw [h1] at I
        rw [I]
        have hy := List.mem_filter.1 (List.mem_of_getLast? h1)
        have hlt := hp.1 y hy.1
        have hle : y.1 ≤ h := by simpa using hy.2
        have : y.1 = h := by unfold ltE at hlt; omega
        simp [Option.filter, this]
    · rw [List.filter_cons_of_neg (by simpa using hx)]
      by_cases hle : x.1 ≤ h
      · rw [List.filter_cons_of_pos (by simpa using hle), List.getLast?_cons]
        cases h1 : (l.filter fun e => decide (e.1 ≤ h)).getLast? with
        | none =>
          rw [h1] at I
          rw [I]
          simp [Option.filter, hx]
        | some y =>
          rw [h1] at I
          rw [I]
          simp
      · rw [List.filter_cons_of_neg (by simpa using hle)]
        exact I

def REnB (w : World) (b : Nat) (e : En) : Prop := w.heap[b]? = some (.cells #[.int .i64 e.1, .int .i64 e.2.1, .int .i64 e.2.2] TREn)
theorem REnB.c {w : World} {b : Nat} {e : En} (h : REnB w b e) : EnC w b e := ⟨cell_of h 0, cell_of h 1, cell_of h 2⟩
theorem ren_set {w : World} {x : Nat} {e : En} (h : REnB w x e) (f : En) : REnB (((w.setCell ⟨x, 0, none⟩ (.int .i64 f.1)).setCell ⟨x, 1, none⟩ (.int .i64 f.2.1)).setCell ⟨x, 2, none⟩ (.int .i64 f.2.2)) x f := by
  have h1 := heap_set (i := 0) h (.int .i64 f.1)
  have h2 := heap_set (i := 1) h1 (.int .i64 f.2.1)
  exact heap_set (i := 2) h2 (.int .i64 f.2.2)
set_option maxHeartbeats 2000000 in
theorem refLast_any (h : Int) (x : Option Addr) (c : Nat) (l : List En) (w : World) (hx : EntX w x l) (hlen : l.length ≤ 1000000) :
    Calls Tryz.prog 20 #[.slice x l.length c, .int .i64 h] w fun e w' => e = .returned (lastV (lastR l h)) ∧ Touch [] w w' := by
  obtain ⟨x1, hx1⟩ : ∃ x, x = w.heap.size := ⟨_, rfl⟩
  obtain ⟨w1, hw1⟩ : ∃ w1, w1 = w.alloc (.cells #[.int .i64 0, .int .i64 0, .int .i64 0] TREn) := ⟨_, rfl⟩
  have B1 : REnB w1 x1 (0, 0, 0) := by rw [hw1, hx1]; exact heap_alloc_new w _
  have T1 : Hid (Touch [] w w1) := hid (by rw [hw1]; exact (Touch.refl [] w).alloc _)
  have hxx : w.heap.size ≤ x1 := by omega
  have HX := hid (fun (i : Nat) (hi : i < l.length) => hx i hi)
  have FIN : Hid (lastR (l.take l.length) h = lastR l h) := hid (by rw [List.take_length])
  have ZERO : Hid (lastR (l.take 0) h = none) := hid rfl
  have HIT := hid fun (k : Nat) (hk : k < l.length) (e : l[k].1 = h) => lastR_hit hk e
  have MISS := hid fun (k : Nat) (hk : k < l.length) (e : ¬ l[k].1 = h) => lastR_miss hk e
  have TS : ∀ u1 u2 u3, Touch [] w (((w1.setCell ⟨x1, 0, none⟩ u1).setCell ⟨x1, 1, none⟩ u2).setCell ⟨x1, 2, none⟩ u3) := fun u1 u2 u3 =>
    ((T1.out.setCell (p := ⟨x1, 0, none⟩) (.inr hxx) u1).setCell (p := ⟨x1, 1, none⟩) (.inr hxx) u2).setCell (p := ⟨x1, 2, none⟩) (.inr hxx) u3
  obtain ⟨p0, p1, p2⟩ := B1.c
  have f0 := free_of B1 0
  have f1 := free_of B1 1
  have f2 := free_of B1 2
  have ES := hid fun f => (ren_set B1 f).c
  have TSS := hid TS
  clear TS
  clear hx
  go_enter Tryz.func20, Tryz.ntmps20
  go_upto_region 1 with fail
  rw [← hw1, ← hx1]
  clear hw1 hx1
  go_wp2
  go_loopw [6] (fun iv wr => wr = w1 ∧ ∃ k : Nat, k ≤ l.length ∧ iv = .int .i64 ((k : Int) - 1) ∧ lastR (l.take k) h = lastR l h) (fun iv _ => (RowKit.intOf iv + 1).toNat)
  case atStart => exact ⟨rfl, l.length, Nat.le_refl _, by go_num, FIN.out⟩
  case round =>
    obtain ⟨rfl, k, hk, rfl, hre⟩ := hrel
    have HRE := hid hre
    clear hre
    cases k with
    | zero =>
      rw [show (((0 : Nat) : Int) - 1) = -1 from rfl]
      have E := (ES.out (0, 0, 0))
      have TT := TSS.out (.int .i64 0) (.int .i64 0) (.int .i64 0)
      go_wp2
      have HN := HRE.out.symm.trans ZERO.out
      clear HRE
      revert E TT
      try dsimp only
      generalize (((wr.setCell ⟨x1, 0, none⟩ (.int .i64 0)).setCell ⟨x1, 1, none⟩ (.int .i64 0)).setCell ⟨x1, 2, none⟩ (.int .i64 0)) = WW
      rintro ⟨r0, r1, r2⟩ TT
      refine bodyPost_ret (v := lastV none) ?_ rfl ⟨by rw [HN], TT⟩
      simp [results, Tryz.results20, go_sem, lastV, r0, r1, r2]
    | succ k =>
      rw [show (((k + 1 : Nat) : Int) - 1) = (k : Int) by omega]
      have hlt2 : decide ((0 : Int) ≤ (k : Int)) = true := by simp
      have hI : (k : Int) < l.length := by omega
      obtain ⟨b, off, rfl, g0, g1, g2⟩ := HX.out k hk
      have e0 := T1.out.cell g0
      have e1 := T1.out.cell g1
      have e2 := T1.out.cell g2
      clear g0 g1 g2
      have HIT2 := hid (HIT.out k hk)
      have MISS2 := hid (MISS.out k hk)
      clear HIT MISS HX
      generalize l[k] = s at *
      by_cases hh : s.1 = h
      · have hb : (s.1 == h) = true := by simpa using hh
        have E := (ES.out s)
        have TT := TSS.out (.int .i64 s.1) (.int .i64 s.2.1) (.int .i64 s.2.2)
        have HN := hid (HRE.out.symm.trans (HIT2.out hh))
        clear HRE HIT2 MISS2 hh
        go_wp2
        revert E TT
        try dsimp only
        generalize (((wr.setCell ⟨x1, 0, none⟩ (.int .i64 s.1)).setCell ⟨x1, 1, none⟩ (.int .i64 s.2.1)).setCell ⟨x1, 2, none⟩ (.int .i64 s.2.2)) = WW
        rintro ⟨r0, r1, r2⟩ TT
        refine bodyPost_ret (v := lastV (some s)) ?_ rfl ⟨by rw [HN.out], TT⟩
        simp [results, Tryz.results20, go_sem, lastV, enV, r0, r1, r2]
      · have hb : (s.1 == h) = false := by simpa using hh
        have HN := hid ((MISS2.out hh).symm.trans HRE.out)
        clear HRE HIT2 MISS2 hh
        go_wp2
        go_roundw
        case rel => exact ⟨trivial, k, by omega, by go_num, HN.out⟩
        case measure => simp [RowKit.intOf]
end Go.Proofs.YtdjcpdlfapfmkaaGreat

namespace Go.Proofs.YtdjcpdlfapfmkaaGreat
open Go.RowKit Go.Lib Go.ChangeShapes Go.WideShapes
set_option maxRecDepth 100000

theorem entX_cells2 {w : World} {ad : Addr} {l : List En} (hX : EntX w (some ad) l) : ∀ j u, (envals l)[j]? = some u → w.cell? (ad.add j) = some u := by
  intro j u hj
  have hjl : j < l.length * 3 := by rw [← envals_len]; exact (List.getElem?_eq_some_iff.1 hj).1
  obtain ⟨b, off, hb, c0, c1, c2⟩ := hX (j / 3) (by omega)
  cases hb
  have had : (⟨b, off, none⟩ : Addr).add j = ⟨b, off + j, none⟩ := by unfold Addr.add; split <;> simp_all
  rw [had]
  have key : ∀ (l : List En) (i : Nat) (h : i < l.length), (envals l)[i * 3]? = some (.int .i64 (l[i]'h).1) ∧ (envals l)[i * 3 + 1]? = some (.int .i64 (l[i]'h).2.1) ∧ (envals l)[i * 3 + 2]? = some (.int .i64 (l[i]'h).2.2) := by
    intro l
    induction l with
    | nil => intro i h; simp at h
    | cons e l ih =>
      intro i h
      cases i with
      | zero => simp [envals, enc3]
      | succ i =>
        have := ih i (by simpa using h)
        have e1 : (i + 1) * 3 = i * 3 + 3 := by omega
        rw [e1]
        simpa [envals, enc3] using this
  obtain ⟨k0, k1, k2⟩ := key l (j / 3) (by omega)
  have hm : j % 3 = 0 ∨ j % 3 = 1 ∨ j % 3 = 2 := by omega
  rcases hm with hm | hm | hm
  · have e : j = j / 3 * 3 := by omega
    rw [← e] at k0 c0
    rw [k0] at hj; cases hj; exact c0
  · have e : j = j / 3 * 3 + 1 := by omega
    rw [← e] at k1
    rw [show off + j / 3 * 3 + 1 = off + j by omega] at c1
    rw [k1] at hj; cases hj; exact c1
  · have e : j = j / 3 * 3 + 2 := by omega
    rw [← e] at k2
    rw [show off + j / 3 * 3 + 2 = off + j by omega] at c2
    rw [k2] at hj; cases hj; exact c2

theorem REnB.t {w w' : World} {b : Nat} {e : En} (H : REnB w b e) (t : Touch [] w w') : REnB w' b e := touch_other t H (by simp)
/-- append of the laws' entries, nil or not, at a step of a region that draws its order. -/
theorem step_append_rens (w : World) {ops : Array Oper} {o : Oper} {a : Act} {K : Act → World → Prop} {Q : Exit → Act → World → Prop} {E : Prop} (hgd : o.guard = none) (s x : Operand)
    (ho : o.op = .call { callee := .builtin .append, args := #[s, x], argTypes := #[TREns, TREns] })
    (w0 : World) (v : Value) (n : Nat) (xs : List Value) (hs : a.eval s = v) (hown : w.ownsRow w0.heap.size TREn 3 v n xs) (ht : Touch [] w0 w)
    (y : Option Addr) (c : Nat) (m : List En) (hx : a.eval x = .slice y m.length c) (hc : y = none → c = 0 ∧ m = []) (hX : EntX w y m) (h63 : n + m.length ≤ 1000000000)
    (h : ∀ y' cap w', w'.ownsRow w0.heap.size TREn 3 (.slice y' (n + m.length) cap) (n + m.length) (xs ++ envals m) → Touch [] w0 w' → K (a.put o.dst (.slice y' (n + m.length) cap)) w') :
    if Region.wanted o (yielded ops a.tmps) = true then Oper.wp Tryz.prog o a w K Q else E := by
  obtain ⟨i0, hi, hz0, hz1, hz2⟩ := info_parts infoREn
  cases y with
  | some ad => exact step_append_grew w hgd s x TREns ho w0.heap.size TREn i0 (.agg #[.int .i64 0, .int .i64 0, .int .i64 0]) 3 24 Tryz.underlying24 hi hz0 hz1 hz2 rfl (by decide) v n xs hs hown ad m.length c (envals m) hx (envals_len m) (entX_cells2 hX) (envals_one m) h63 (by decide) ht.size fun y' cap w' G => h y' cap w' G.own (G.touch hown ht (Nat.le_refl _))
  | none =>
    obtain ⟨rfl, rfl⟩ := hc rfl
    rw [if_pos (by simp [Region.wanted, hgd])]
    have hrun := run_append_owned_none (P := Tryz.prog) (w := w) w0.heap.size TREns o.type TREn i0 3 Tryz.underlying24 hi v n xs hown
    obtain ⟨yv, cap, rfl, _, _⟩ := slice_form hown
    unfold Oper.wp
    simp only [List.length_nil] at hx
    simp [execOp, ho, resolve, invoke, builtin, hs, hx, hrun, Result.andThen]
    exact h yv cap w (by simpa [envals] using hown) ht

theorem ins_at : ∀ (l : List En) (e : En) (k : Nat), k ≤ l.length → (∀ j (h : j < l.length), j < k → ltE l[j] e) → (∀ h : k < l.length, ¬ ltE l[k] e) → ins l e = if l[k]? = some e then l else l.take k ++ e :: l.drop k
  | [], e, k, hk, _, _ => by simp [ins]
  | x :: l, e, 0, _, _, h2 => by
    have h := h2 (Nat.zero_lt_succ _)
    rw [List.getElem_cons_zero] at h
    unfold ins
    by_cases hx : e = x
    · simp [hx]
    · have hx2 : ¬ x = e := fun h => hx h.symm
      have : ltE e x := by rcases ltE_tri x e with h1 | h1 | h1 <;> simp_all
      simp [hx, hx2, this]
  | x :: l, e, k + 1, hk, h1, h2 => by
    have hx := h1 0 (by simp) (by omega)
    rw [List.getElem_cons_zero] at hx
    have hne : ¬ e = x := fun h => ltE_irrefl x (h ▸ hx)
    have hnl : ¬ ltE e x := ltE_asymm hx
    have ih := ins_at l e k (by simpa using hk) (fun j hj hjk => h1 (j + 1) (by simpa using hj) (by omega)) (fun h => h2 (by simpa using h))
    unfold ins
    rw [if_neg hne, if_neg hnl, ih, List.getElem?_cons_succ]
    split <;> simp
theorem mem_at : ∀ {l : List En}, SortedE l → ∀ (e : En) (k : Nat), k ≤ l.length → (∀ j (h : j < l.length), j < k → ltE l[j] e) → (∀ h : k < l.length, ¬ ltE l[k] e) → (e ∈ l ↔ l[k]? = some e)
  | l, hs, e, k, hk, h1, h2 => by
    constructor
    · intro h
      obtain ⟨j, hj, he⟩ := List.getElem_of_mem h
      have hjk : ¬ j < k := fun hjk => ltE_irrefl e (by have := h1 j hj hjk; rwa [he] at this)
      have hkl : k < l.length := by omega
      by_cases h3 : j = k
      · subst h3
        rw [List.getElem?_eq_getElem hj, he]
      · have := List.pairwise_iff_getElem.1 hs k j hkl hj (by omega)
        rw [he] at this
        exact (h2 hkl this).elim
    · exact List.mem_of_getElem?

theorem entX_rlit (w : World) (e : En) : EntX (w.alloc (.cells #[.int .i64 e.1, .int .i64 e.2.1, .int .i64 e.2.2] TREn)) (some ⟨w.heap.size, 0, none⟩) [e] := fun i hi => by
  obtain rfl : i = 0 := by simpa using hi
  have h : REnB (w.alloc (.cells #[.int .i64 e.1, .int .i64 e.2.1, .int .i64 e.2.2] TREn)) w.heap.size e := heap_alloc_new w _
  exact ⟨_, _, rfl, by simp only [Nat.zero_mul, Nat.add_zero]; exact h.c.1, by simp only [Nat.zero_mul, Nat.add_zero]; exact h.c.2.1, by simp only [Nat.zero_mul, Nat.add_zero]; exact h.c.2.2⟩
set_option maxHeartbeats 4000000 in
theorem refAdd_any (v : Value) (l : List En) (e : En) (B : Nat) (w : World) (hown : w.ownsRow B TREn 3 v l.length (envals l)) (hB : B ≤ w.heap.size) (hs : SortedE l) (hlen : l.length ≤ 100000) :
    Calls Tryz.prog 79 #[v, enV e] w fun r w' => ∃ u, r = .returned (.tuple #[u, .bool (decide (okE e ∧ e ∉ l))]) ∧ w'.ownsRow B TREn 3 u (put1 l e).length (envals (put1 l e)) ∧ Touch [] w w' := by
  obtain ⟨x, c, rfl, hlc, hnn, hsp, hx⟩ : ∃ x c, v = .slice x l.length c ∧ l.length ≤ c ∧ (x = none → c = 0 ∧ l = []) ∧ (∀ a, x = some a → a.off = 0 ∧ a.spot = none) ∧ EntX w x l := by
    obtain ⟨x, c, rfl, -, hlc, h1, h2, hx⟩ := entX_ownT hown
    refine ⟨x, c, rfl, hlc, fun h => ⟨h1 h, ?_⟩, h2, hx⟩
    subst h
    cases l with
    | nil => rfl
    | cons e l => obtain ⟨b, off, hb, _⟩ := hx 0 (by simp); cases hb
  have HX := hid hx
  have HS := hid hs
  have HW := hid hown
  have HNN := hid hnn
  have HSP := hid hsp
  clear hx hs hown hnn hsp
  obtain ⟨bx, hbx⟩ : ∃ bx, bx = w.heap.size := ⟨_, rfl⟩
  obtain ⟨w1, hw1⟩ : ∃ w1, w1 = w.alloc (.cells #[.int .i64 e.1, .int .i64 e.2.1, .int .i64 e.2.2] TREn) := ⟨_, rfl⟩
  have B1 : REnB w1 bx e := by rw [hw1, hbx]; exact heap_alloc_new w _
  have T1 : Hid (Touch [] w w1) := hid (by rw [hw1]; exact (Touch.refl [] w).alloc _)
  have EX := hid B1
  clear B1
  go_enter Tryz.func79, Tryz.ntmps79
  go_upto_region 1 with fail
  rw [← hw1, ← hbx]
  clear hw1 hbx
  go_cut [19] from 7 (fun sv wz => sv = .bool (!decide (okE e)) ∧ wz = w1)
  case first =>
    obtain ⟨q0, q1, q2⟩ := EX.out.c
    go_wp2
    all_goals go_meet
    all_goals exact ⟨by congr 1; rw [Bool.eq_iff_iff]; simp [okE]; clear HX HS HW HNN T1 EX; grind, rfl⟩
  case rest =>
    obtain ⟨hsv, hwz⟩ := hcut
    subst hsv
    rw [← hwz] at EX T1
    clear hwz
    by_cases hok : okE e
    · have hokb : (!decide (okE e)) = false := by simpa using hok
      have HOK := hid hok
      rw [hokb]
      clear hokb hok
      go_wp2
      go_loopw [6] (fun iv wr => ∃ k : Nat, k ≤ l.length ∧ iv = .int .i64 k ∧ Hid (∀ j (h : j < l.length), j < k → ltE l[j] e) ∧ Touch [] wc wr) (fun iv _ => l.length - (RowKit.intOf iv).toNat)
      case atStart => exact ⟨0, Nat.zero_le _, rfl, hid (fun j h hj => by omega), Touch.refl _ _⟩
      case round =>
        obtain ⟨k, hk, rfl, HK, ht⟩ := hrel
        have HT := hid ht
        clear ht
        obtain ⟨ι, f, ⟨θ0, hθ0⟩, inst, FT, FE⟩ := held_class wr
        have EB := hid (fun θ => EX.out.t (HT.out.trans (FT.out θ) (by simp)))
        have F0 : ∀ θ, (f θ).cell? ⟨bx, 0, none⟩ = some (.int .i64 e.1) := fun θ => (EB.out θ).c.1
        have F1 : ∀ θ, (f θ).cell? ⟨bx, 1, none⟩ = some (.int .i64 e.2.1) := fun θ => (EB.out θ).c.2.1
        have F2 : ∀ θ, (f θ).cell? ⟨bx, 2, none⟩ = some (.int .i64 e.2.2) := fun θ => (EB.out θ).c.2.2
        by_cases hlt : k < l.length
        · have hlt2 : decide (k < l.length) = true := by simpa using hlt
          have hI : (k : Int) < l.length := by omega
          obtain ⟨b, off, hxx, g0, g1, g2⟩ := HX.out k hlt
          subst hxx
          have KK : ∀ θ, Touch [] w (f θ) := fun θ => (T1.out.trans HT.out (by simp)).trans (FT.out θ) (by simp)
          have G0 : ∀ θ, (f θ).cell? ⟨b, off + k * 3, none⟩ = some (.int .i64 (l[k]'hlt).1) := fun θ => (KK θ).cell g0
          have G1 : ∀ θ, (f θ).cell? ⟨b, off + k * 3 + 1, none⟩ = some (.int .i64 (l[k]'hlt).2.1) := fun θ => (KK θ).cell g1
          have G2 : ∀ θ, (f θ).cell? ⟨b, off + k * 3 + 2, none⟩ = some (.int .i64 (l[k]'hlt).2.2) := fun θ => (KK θ).cell g2
          have MORE := hid (fun (h : ltE (l[k]'hlt) e) => fun (j : Nat) (hj : j < l.length) (hjk : j < k + 1) => by
            by_cases h1 : j < k
            · exact HK.out j hj h1
            · obtain rfl : j = k := by omega
              exact h)
          have STOP := hid (fun (h : ¬ ltE (l[k]'hlt) e) => And.intro (ins_at l e k hk HK.out fun _ => h) (mem_at HS.out e k hk HK.out fun _ => h))
          have AT := hid (List.getElem?_eq_getElem hlt)
          have KH := hid KK
          clear KK g0 g1 g2
          generalize l[k] = s at *
          have LL : Hid (∀ θ, Calls Tryz.prog 86 #[enV s, enV e] (f θ) fun q w'' => q = .returned (.bool (decide (ltE s e))) ∧ ∃ θ', w'' = f θ') := hid fun θ => (refLess_any s e (f θ)).mono fun q w'' ⟨h1, h2⟩ => ⟨h1, FE.out _ ((FT.out θ).trans h2 (by simp))⟩
          go_upto_region 4 with fail
          refine wp_region_held f θ0 (by kernel_rfl) (by kernel_rfl) hθ0 ?_
          repeat go_big_quiet_step (exact LL.out _)
          refine wpQuiet_nil ?_
          rintro _ ⟨θ, rfl⟩
          by_cases hle : ltE s e
          · have hb : decide (ltE s e) = true := by simpa using hle
            have M := hid (MORE.out hle)
            rw [hb]
            clear hb hle MORE STOP LL
            go_wp2
            go_roundw
            case rel => exact ⟨k + 1, by omega, by go_num, M, FT.out θ |> (HT.out.trans · (by simp))⟩
            case measure => simp [RowKit.intOf]; omega
          · have hb : decide (ltE s e) = false := by simpa using hle
            have M := hid (STOP.out hle)
            rw [hb]
            clear hb hle MORE STOP LL
            go_upto_region 6 with fail
            by_cases he : s = e
            · subst he
              obtain ⟨θ1, h1⟩ := FE.out _ (FT.out θ).drew
              refine wp_region_held f θ1 (by kernel_rfl) (by kernel_rfl) h1.symm ?_
              repeat go_big_quiet_step (fail)
              refine wpQuiet_nil ?_
              rintro _ ⟨θ2, rfl⟩
              have T2 := hid (KH.out θ2)
              generalize f θ2 = w6 at *
              have PD : Hid (put1 l s = l ∧ decide (okE s ∧ s ∉ l) = false) := hid (by
                obtain ⟨m1, m2⟩ := M.out
                rw [AT.out] at m1 m2
                have hin : s ∈ l := m2.2 rfl
                exact ⟨(if_pos HOK.out).trans (m1.trans (if_pos rfl)), by simp [hin]⟩)
              go_wp2
              go_ret2
              exact ⟨_, by rw [PD.out.2]; rfl, by rw [PD.out.1]; exact owns_touch HW.out T2.out, T2.out⟩
            · have EQ := en_ne he
              have PD : Hid (put1 l e = l.take k ++ e :: l.drop k ∧ decide (okE e ∧ e ∉ l) = true) := hid (by
                obtain ⟨m1, m2⟩ := M.out
                rw [AT.out] at m1 m2
                have hne : ¬ some s = some e := fun h => he (by cases h; rfl)
                have hin : ¬ e ∈ l := fun h => hne (m2.1 h)
                exact ⟨(if_pos HOK.out).trans (m1.trans (if_neg hne)), by simp [hin, HOK.out]⟩)
              obtain ⟨θ1, h1⟩ := FE.out _ (FT.out θ).drew
              refine wp_region_held f θ1 (by kernel_rfl) (by kernel_rfl) h1.symm ?_
              repeat go_big_quiet_step (fail)
              refine wpQuiet_nil ?_
              rintro _ ⟨θ2, rfl⟩
              have hkc : k ≤ c := by omega
              have hckn : ¬ c = k := by omega
              have KK2 := hid (KH.out θ2)
              have hkl : (l.take k).length = k := by rw [List.length_take]; omega
              have RW : Hid ((put1 l e).length = k + 1 + (l.length - k) ∧ envals (put1 l e) = envals (l.take k) ++ envals [e] ++ envals (l.drop k)) := hid (by rw [PD.out.1]; exact ⟨by simp; omega, by rw [envals_append, show e :: l.drop k = [e] ++ l.drop k from rfl, envals_append, List.append_assoc]⟩)
              have A1 := hid (fun W (t : Touch [] (f θ2) W) => (HX.out.t0 (KK2.out.trans t (by simp))).take k)
              have A3 := hid (fun W (t : Touch [] (f θ2) W) => (HX.out.t0 (KK2.out.trans t (by simp))).drop k)
              have hdl : (l.drop k).length = l.length - k := List.length_drop
              have EB2 := hid (fun W (t : Touch [] (f θ2) W) => ((EB.out θ2).t t).c)
              go_upto_region 8 with fail
              have hBW : B ≤ (f θ2).heap.size := Nat.le_trans hB KK2.out.size
              generalize f θ2 = W0 at *
              obtain ⟨r0, r1, r2⟩ := EB2.out _ (Touch.refl [] W0)
              go_region_law (first
                | (refine step_append_rens _ rfl (.const (.slice none 0 0)) (.tmp 50) rfl _ (.slice none 0 0) 0 [] rfl (World.ownsRow_nil _ _ _ _) (Touch.refl [] _) (some ⟨b, off, none⟩) c (l.take k) (by rw [hkl]; rfl) (fun h => by cases h) (A1.out _ ((Touch.refl [] W0).drew)) (by rw [hkl]; omega) ?_; rw [hkl, Nat.zero_add, List.nil_append]; intro y1 c1 w2 hG1 hT1; have U1 := hid (show Touch [] W0 w2 from Touch.trans ((Touch.refl [] W0).drew) hT1 (by simp)); have V1 := hid hT1; have G1 := hid (own_up hG1 (show W0.heap.size ≤ _ from ((Touch.refl [] W0).drew).size)); clear hG1 hT1; obtain ⟨q0, q1, q2⟩ := EB2.out _ U1.out)
                | (refine step_append_rens _ rfl (.const (.slice none 0 0)) (.tmp 50) rfl _ (.slice none 0 0) 0 [] rfl (World.ownsRow_nil _ _ _ _) (Touch.refl [] _) (some ⟨b, off, none⟩) c (l.take k) (by rw [hkl]; rfl) (fun h => by cases h) (A1.out _ ((Touch.refl [] W0).drew.alloc _)) (by rw [hkl]; omega) ?_; rw [hkl, Nat.zero_add, List.nil_append]; intro y1 c1 w2 hG1 hT1; have U1 := hid (show Touch [] W0 w2 from Touch.trans ((Touch.refl [] W0).drew.alloc _) hT1 (by simp)); have V1 := hid hT1; have G1 := hid (own_up hG1 (show W0.heap.size ≤ _ from ((Touch.refl [] W0).drew.alloc _).size)); clear hG1 hT1; obtain ⟨q0, q1, q2⟩ := EB2.out _ U1.out)
                | (refine step_append_rens _ rfl (.tmp 51) (.tmp 53) rfl W0 (.slice y1 k c1) k (envals (l.take k)) rfl (owns_touch G1.out ((Touch.refl [] _).alloc _)) (U1.out.alloc _) (some ⟨w2.heap.size, 0, none⟩) 1 [e] rfl (fun h => by cases h) (entX_rlit w2 e) (by simp; omega) ?_; rw [List.length_singleton]; intro y2 c2 w3 hG1 hT1; have G2 := hid hG1; have U2 := hid hT1; clear hG1 hT1)
                | (refine step_append_rens _ rfl (.tmp 51) (.tmp 53) rfl W0 (.slice y1 k c1) k (envals (l.take k)) rfl G1.out U1.out (some ⟨W0.heap.size, 0, none⟩) 1 [e] rfl (fun h => by cases h) ((entX_rlit W0.drew e).t0 V1.out) (by simp; omega) ?_; rw [List.length_singleton]; intro y2 c2 w3 hG1 hT1; have G2 := hid hG1; have U2 := hid hT1; clear hG1 hT1)
                | (refine step_append_rens _ rfl (.tmp 54) (.tmp 57) rfl W0 (.slice y2 (k + 1) c2) (k + 1) (envals (l.take k) ++ envals [e]) rfl G2.out U2.out (some ⟨b, off + k * 3, none⟩) (c - k) (l.drop k) (by rw [hdl]; rfl) (fun h => by cases h) (A3.out _ U2.out) (by rw [hdl]; omega) ?_; rw [hdl]; intro y3 c3 w4 hG1 hT1; have G3 := hid hG1; have U3 := hid hT1; clear hG1 hT1))
              all_goals
                go_wp2
                go_ret2
                exact ⟨_, by rw [PD.out.2]; rfl, by rw [RW.out.1, RW.out.2]; exact own_up G3.out hBW, KK2.out.trans U3.out (by simp)⟩
        · obtain rfl : k = l.length := by omega
          have hlt2 : decide (l.length < l.length) = false := by simp
          go_upto_region 4 with fail
          refine wp_region_held f θ0 (by kernel_rfl) (by kernel_rfl) hθ0 ?_
          repeat go_big_quiet_step (fail)
          refine wpQuiet_nil ?_
          rintro _ ⟨θ, rfl⟩
          go_upto_region 6 with fail
          obtain ⟨θ1, h1⟩ := FE.out _ (FT.out θ).drew
          refine wp_region_held f θ1 (by kernel_rfl) (by kernel_rfl) h1.symm ?_
          repeat go_big_quiet_step (fail)
          refine wpQuiet_nil ?_
          rintro _ ⟨θ2, rfl⟩
          have PD : Hid (put1 l e = l ++ [e] ∧ decide (okE e ∧ e ∉ l) = true) := hid (by
            have m1 := ins_at l e l.length (Nat.le_refl _) HK.out (fun h => by omega)
            have m2 := mem_at HS.out e l.length (Nat.le_refl _) HK.out (fun h => by omega)
            rw [List.getElem?_eq_none (Nat.le_refl _)] at m1 m2
            have hin : ¬ e ∈ l := fun h => by cases m2.1 h
            exact ⟨(if_pos HOK.out).trans (m1.trans (by simp)), by simp [hin, HOK.out]⟩)
          have RW : Hid ((put1 l e).length = l.length + 1 + ([] : List En).length ∧ envals (put1 l e) = envals l ++ envals [e] ++ envals []) := hid (by rw [PD.out.1]; exact ⟨by simp, by rw [envals_append]; simp [envals]⟩)
          have KK2 := hid (show Touch [] w (f θ2) from (T1.out.trans HT.out (by simp)).trans (FT.out θ2) (by simp))
          have A1 := hid (fun W (t : Touch [] (f θ2) W) => HX.out.t0 (KK2.out.trans t (by simp)))
          have EB2 := hid (fun W (t : Touch [] (f θ2) W) => ((EB.out θ2).t t).c)
          go_upto_region 8 with fail
          have hBW : B ≤ (f θ2).heap.size := Nat.le_trans hB KK2.out.size
          generalize f θ2 = W0 at *
          obtain ⟨r0, r1, r2⟩ := EB2.out _ (Touch.refl [] W0)
          by_cases hckn : c = l.length
          · subst hckn
            go_region_law (first
              | (refine step_append_rens _ rfl (.const (.slice none 0 0)) (.tmp 50) rfl _ (.slice none 0 0) 0 [] rfl (World.ownsRow_nil _ _ _ _) (Touch.refl [] _) x l.length l rfl (fun h => HNN.out h) (A1.out _ ((Touch.refl [] W0).drew)) (by omega) ?_; rw [Nat.zero_add, List.nil_append]; intro y1 c1 w2 hG1 hT1; have U1 := hid (show Touch [] W0 w2 from Touch.trans ((Touch.refl [] W0).drew) hT1 (by simp)); have V1 := hid hT1; have G1 := hid (own_up hG1 (show W0.heap.size ≤ _ from ((Touch.refl [] W0).drew).size)); clear hG1 hT1; obtain ⟨q0, q1, q2⟩ := EB2.out _ U1.out)
              | (refine step_append_rens _ rfl (.const (.slice none 0 0)) (.tmp 50) rfl _ (.slice none 0 0) 0 [] rfl (World.ownsRow_nil _ _ _ _) (Touch.refl [] _) x l.length l rfl (fun h => HNN.out h) (A1.out _ ((Touch.refl [] W0).drew.alloc _)) (by omega) ?_; rw [Nat.zero_add, List.nil_append]; intro y1 c1 w2 hG1 hT1; have U1 := hid (show Touch [] W0 w2 from Touch.trans ((Touch.refl [] W0).drew.alloc _) hT1 (by simp)); have V1 := hid hT1; have G1 := hid (own_up hG1 (show W0.heap.size ≤ _ from ((Touch.refl [] W0).drew.alloc _).size)); clear hG1 hT1; obtain ⟨q0, q1, q2⟩ := EB2.out _ U1.out)
              | (refine step_append_rens _ rfl (.tmp 51) (.tmp 53) rfl W0 (.slice y1 l.length c1) l.length (envals l) rfl (owns_touch G1.out ((Touch.refl [] _).alloc _)) (U1.out.alloc _) (some ⟨w2.heap.size, 0, none⟩) 1 [e] rfl (fun h => by cases h) (entX_rlit w2 e) (by simp; omega) ?_; rw [List.length_singleton]; intro y2 c2 w3 hG1 hT1; have G2 := hid hG1; have U2 := hid hT1; clear hG1 hT1)
              | (refine step_append_rens _ rfl (.tmp 51) (.tmp 53) rfl W0 (.slice y1 l.length c1) l.length (envals l) rfl G1.out U1.out (some ⟨W0.heap.size, 0, none⟩) 1 [e] rfl (fun h => by cases h) ((entX_rlit W0.drew e).t0 V1.out) (by simp; omega) ?_; rw [List.length_singleton]; intro y2 c2 w3 hG1 hT1; have G2 := hid hG1; have U2 := hid hT1; clear hG1 hT1)
              | (refine step_append_rens _ rfl (.tmp 54) (.tmp 57) rfl W0 (.slice y2 (l.length + 1) c2) (l.length + 1) (envals l ++ envals [e]) rfl G2.out U2.out x (l.length - l.length) [] (by simp [Act.eval]) (fun h => ⟨by simp, rfl⟩) (fun i hi => by simp at hi) (by simp; omega) ?_; intro y3 c3 w4 hG1 hT1; have G3 := hid hG1; have U3 := hid hT1; clear hG1 hT1))
            all_goals
              go_wp2
              go_ret2
              exact ⟨_, by rw [PD.out.2]; rfl, by rw [RW.out.1, RW.out.2]; exact own_up G3.out hBW, KK2.out.trans U3.out (by simp)⟩
          · go_region_law (first
              | (refine step_append_rens _ rfl (.const (.slice none 0 0)) (.tmp 50) rfl _ (.slice none 0 0) 0 [] rfl (World.ownsRow_nil _ _ _ _) (Touch.refl [] _) x c l rfl (fun h => HNN.out h) (A1.out _ ((Touch.refl [] W0).drew)) (by omega) ?_; rw [Nat.zero_add, List.nil_append]; intro y1 c1 w2 hG1 hT1; have U1 := hid (show Touch [] W0 w2 from Touch.trans ((Touch.refl [] W0).drew) hT1 (by simp)); have V1 := hid hT1; have G1 := hid (own_up hG1 (show W0.heap.size ≤ _ from ((Touch.refl [] W0).drew).size)); clear hG1 hT1; obtain ⟨q0, q1, q2⟩ := EB2.out _ U1.out)
              | (refine step_append_rens _ rfl (.const (.slice none 0 0)) (.tmp 50) rfl _ (.slice none 0 0) 0 [] rfl (World.ownsRow_nil _ _ _ _) (Touch.refl [] _) x c l rfl (fun h => HNN.out h) (A1.out _ ((Touch.refl [] W0).drew.alloc _)) (by omega) ?_; rw [Nat.zero_add, List.nil_append]; intro y1 c1 w2 hG1 hT1; have U1 := hid (show Touch [] W0 w2 from Touch.trans ((Touch.refl [] W0).drew.alloc _) hT1 (by simp)); have V1 := hid hT1; have G1 := hid (own_up hG1 (show W0.heap.size ≤ _ from ((Touch.refl [] W0).drew.alloc _).size)); clear hG1 hT1; obtain ⟨q0, q1, q2⟩ := EB2.out _ U1.out)
              | (refine step_append_rens _ rfl (.tmp 51) (.tmp 53) rfl W0 (.slice y1 l.length c1) l.length (envals l) rfl (owns_touch G1.out ((Touch.refl [] _).alloc _)) (U1.out.alloc _) (some ⟨w2.heap.size, 0, none⟩) 1 [e] rfl (fun h => by cases h) (entX_rlit w2 e) (by simp; omega) ?_; rw [List.length_singleton]; intro y2 c2 w3 hG1 hT1; have G2 := hid hG1; have U2 := hid hT1; clear hG1 hT1)
              | (refine step_append_rens _ rfl (.tmp 51) (.tmp 53) rfl W0 (.slice y1 l.length c1) l.length (envals l) rfl G1.out U1.out (some ⟨W0.heap.size, 0, none⟩) 1 [e] rfl (fun h => by cases h) ((entX_rlit W0.drew e).t0 V1.out) (by simp; omega) ?_; rw [List.length_singleton]; intro y2 c2 w3 hG1 hT1; have G2 := hid hG1; have U2 := hid hT1; clear hG1 hT1)
              | (refine step_append_rens _ rfl (.tmp 54) (.tmp 57) rfl W0 (.slice y2 (l.length + 1) c2) (l.length + 1) (envals l ++ envals [e]) rfl G2.out U2.out (Option.map (fun a => a.add (l.length * 3)) x) (c - l.length) [] (by simp [Act.eval]) (fun h => ⟨by have h2 := (HNN.out (by simpa using h)).1; omega, rfl⟩) (fun i hi => by simp at hi) (by simp; omega) ?_; intro y3 c3 w4 hG1 hT1; have G3 := hid hG1; have U3 := hid hT1; clear hG1 hT1))
            all_goals
              go_wp2
              go_ret2
              exact ⟨_, by rw [PD.out.2]; rfl, by rw [RW.out.1, RW.out.2]; exact own_up G3.out hBW, KK2.out.trans U3.out (by simp)⟩
    · have hokb : (!decide (okE e)) = true := by simpa using hok
      have hd : decide (okE e ∧ e ∉ l) = false := by simp [hok]
      have hp : put1 l e = l := if_neg hok
      have HDP := hid (And.intro hd hp)
      rw [hokb]
      clear hokb hok hd hp
      go_wp2
      go_ret2
      exact ⟨_, by rw [HDP.out.1]; rfl, by rw [HDP.out.2]; exact owns_touch HW.out T1.out, T1.out⟩
end Go.Proofs.YtdjcpdlfapfmkaaGreat

namespace Go.Proofs.YtdjcpdlfapfmkaaGreat
open Go.RowKit Go.Lib Go.ChangeShapes Go.WideShapes
set_option maxRecDepth 100000

/-- append of entries of a list, nil or not, at a plain region's list. -/
theorem wpList_append_tens (w : World) {ops : Array Oper} {rest : List Oper} {o : Oper} {a : Act} {Q : Exit → Act → World → Prop} (hgd : o.guard = none) (s x : Operand)
    (ho : o.op = .call { callee := .builtin .append, args := #[s, x], argTypes := #[TEns, TEns] })
    (w0 : World) (v : Value) (n : Nat) (xs : List Value) (hs : a.eval s = v) (hown : w.ownsRow w0.heap.size TEn 3 v n xs) (ht : Touch [] w0 w)
    (y : Option Addr) (c : Nat) (m : List En) (hx : a.eval x = .slice y m.length c) (hc : y = none → c = 0 ∧ m = []) (hX : EntX w y m) (h63 : n + m.length ≤ 1000000000)
    (h : ∀ y' cap w', w'.ownsRow w0.heap.size TEn 3 (.slice y' (n + m.length) cap) (n + m.length) (xs ++ envals m) → Touch [] w0 w' → wpList Tryz.prog ops Q rest (a.put o.dst (.slice y' (n + m.length) cap)) w') :
    wpList Tryz.prog ops Q (o :: rest) a w := by
  obtain ⟨i0, hi, hz0, hz1, hz2⟩ := info_parts infoEn
  cases y with
  | some ad => exact wpList_append_cells w hgd s x TEns ho w0.heap.size TEn i0 (.agg #[.int .i64 0, .int .i64 0, .int .i64 0]) 3 24 Tryz.underlying22 hi hz0 hz1 hz2 rfl (by decide) v n xs hs hown ad m.length c (envals m) hx (envals_len m) (entX_cells2 hX) (envals_one m) h63 (by decide) ht.size fun y' cap w' G => h y' cap w' G.own (G.touch hown ht (Nat.le_refl _))
  | none =>
    obtain ⟨rfl, rfl⟩ := hc rfl
    obtain ⟨yv, cap, rfl, _, _⟩ := slice_form hown
    exact wpList_append_own_none hgd s x TEns ho w0.heap.size TEn i0 3 Tryz.underlying22 hi _ n xs hs hown hx (h yv cap w (by simpa [envals] using hown) ht)
theorem entX_lit (w : World) (e : En) : EntX (w.alloc (.cells #[.int .i64 e.1, .int .i64 e.2.1, .int .i64 e.2.2] TEn)) (some ⟨w.heap.size, 0, none⟩) [e] := fun i hi => by
  obtain rfl : i = 0 := by simpa using hi
  have h : EnB (w.alloc (.cells #[.int .i64 e.1, .int .i64 e.2.1, .int .i64 e.2.2] TEn)) w.heap.size e := heap_alloc_new w _
  exact ⟨_, _, rfl, by simp only [Nat.zero_mul, Nat.add_zero]; exact h.c.1, by simp only [Nat.zero_mul, Nat.add_zero]; exact h.c.2.1, by simp only [Nat.zero_mul, Nat.add_zero]; exact h.c.2.2⟩

/-- What LentEntries hands out: the list, and one more behind it. -/
def LentE (w : World) (B : Nat) (v : Value) (l : List En) : Prop := ∃ y cap, v = .slice (some y) l.length cap ∧ w.ownsRow B TEn 3 (.slice (some y) (l.length + 1) cap) (l.length + 1) (envals (l ++ [(0, 0, -77)]))
theorem LentE.t {w w' : World} {B : Nat} {v : Value} {l : List En} (h : LentE w B v l) (t : Touch [] w w') : LentE w' B v l := by
  obtain ⟨y, cap, rfl, h⟩ := h
  exact ⟨y, cap, rfl, owns_touch h t⟩
theorem own_some {w : World} {B n cap size : Nat} {e : TypeId} {y : Option Addr} {xs : List Value} (h : w.ownsRow B e size (.slice y (n + 1) cap) (n + 1) xs) : ∃ g, y = some ⟨g, 0, none⟩ ∧ n + 1 ≤ cap := by
  rcases h.2 with ⟨h1, h0⟩ | ⟨g, cap', cur, hv, _, _, hnc, _⟩
  · omega
  · injection hv with h1 h2 h3
    subst h3
    exact ⟨g, h1, hnc⟩
theorem LentE.x {w : World} {B : Nat} {v : Value} {l : List En} (h : LentE w B v l) : ∃ g c, v = .slice (some ⟨g, 0, none⟩) l.length c ∧ l.length + 1 ≤ c ∧ EntX w (some ⟨g, 0, none⟩) (l ++ [(0, 0, -77)]) := by
  obtain ⟨y, cap, rfl, h⟩ := h
  obtain ⟨g, hy, hc⟩ := own_some h
  cases hy
  refine ⟨g, cap, rfl, hc, ?_⟩
  obtain ⟨x, c', hv, hn, hx⟩ := entX_own h
  injection hv with h1 h2 h3
  rw [h1]
  exact hx

set_option maxHeartbeats 2000000 in
theorem lentE_any (x : Option Addr) (c : Nat) (l : List En) (w : World) (hx : EntX w x l) (hc : x = none → c = 0 ∧ l = []) (hlen : l.length ≤ 1000000) :
    Calls Tryz.prog 7 #[.slice x l.length c] w fun e w' => ∃ u, e = .returned u ∧ LentE w' w.heap.size u l ∧ Touch [] w w' := by
  have HX := hid hx
  have HC := hid hc
  clear hx hc
  go_enter Tryz.func7, Tryz.ntmps7
  go_wp2_with (first
    | (at_builtin; refine wpList_append_tens _ rfl (.const (.slice none 0 0)) (.tmp 3) rfl w (.slice none 0 0) 0 [] rfl (World.ownsRow_nil _ _ _ _) (Touch.refl [] w) x c l rfl (fun h => HC.out h) HX.out (by omega) ?_; rw [Nat.zero_add, List.nil_append]; intro y1 c1 w2 hG1 hT1; have G1 := hid hG1; have U1 := hid hT1; clear hG1 hT1)
    | (at_builtin; refine wpList_append_tens _ rfl (.tmp 4) (.tmp 6) rfl w (.slice y1 l.length c1) l.length (envals l) rfl (owns_touch G1.out ((Touch.refl [] _).alloc _)) (U1.out.alloc _) (some ⟨w2.heap.size, 0, none⟩) 1 [(0, 0, -77)] rfl (fun h => by cases h) (entX_lit w2 (0, 0, -77)) (by simp; omega) ?_; rw [List.length_singleton]; intro y2 c2 w3 hG1 hT1; have G2 := hid hG1; have U2 := hid hT1; clear hG1 hT1; obtain ⟨g2, hy2, hc2⟩ := own_some G2.out; subst hy2; have hc3 : l.length ≤ c2 := by omega))
  go_ret
  exact ⟨_, rfl, ⟨_, _, rfl, by rw [envals_append]; exact G2.out⟩, U2.out⟩

theorem EntX.pre {w : World} {x : Option Addr} {l m : List En} (h : EntX w x (l ++ m)) : EntX w x l := fun i hi => by
  have := h i (by simp; omega)
  rw [List.getElem_append_left hi] at this
  exact this
set_option maxHeartbeats 2000000 in
theorem staysE_any (v : Value) (B : Nat) (x : Option Addr) (c : Nat) (l : List En) (w : World) (hm : LentE w B v l) (hx : EntX w x l) (hlen : l.length ≤ 1000000) :
    Calls Tryz.prog 10 #[v, .slice x l.length c] w fun e w' => e = .returned (.bool true) ∧ Touch [] w w' := by
  obtain ⟨g, cm, rfl, hcm, hX⟩ := hm.x
  have S := hid (sameEntries_any (some ⟨g, 0, none⟩) x cm c l l w hlen hlen hX.pre hx)
  have L := hid (hX l.length (by simp))
  clear hm hx hX
  have hcI : ((l.length : Int) + 1) ≤ cm := by omega
  go_enter Tryz.func10, Tryz.ntmps10
  go_wp2_with fail
  refine S.out.mono ?_
  rintro e w1 ⟨rfl, t1⟩
  obtain ⟨b, off, hb, g0, g1, g2⟩ := L.out
  cases hb
  have e2 := t1.cell g2
  have T1 := hid t1
  clear t1 g0 g1 g2
  rw [List.getElem_append_right (Nat.le_refl _)] at e2
  simp only [Nat.sub_self, List.getElem_cons_zero, Nat.zero_add] at e2
  go_wp2
  go_ret
  exact ⟨rfl, T1.out⟩
end Go.Proofs.YtdjcpdlfapfmkaaGreat
