/- The laws' own entries, further: back again; which is ahead; found, ranges, the last one. -/
import Derived.Test.YtdjcpdlfapfmkaaRa13
import Derived.Test.YtdjcpdlfapfmkaaLa12
import Derived.Test.YtdjcpdlfapfmkaaRg12
namespace Go.Proofs.Ytdjcpdlfapfmkaa
open Go.RowKit Go.Lib
set_option maxRecDepth 100000

set_option maxHeartbeats 2000000 in
theorem real_any (x : Option Addr) (c : Nat) (l : List En) (w : World) (hx : EntX w x l) (hlen : l.length ≤ 1000000) :
    Calls Try.prog 24 #[.slice x l.length c] w fun e w' => ∃ u, e = .returned u ∧ w'.ownsRow w.heap.size TEn 3 u l.length (envals l) ∧ Touch [] w w' := by
  obtain ⟨i0, hi, hz0, hz1, hz2⟩ := info_parts infoEn
  have HX := hid hx
  clear hx
  go_enter Try.func24, Try.ntmps24
  go_wp2
  go_loopw [3, 4] (fun uv iv wr => ∃ k : Nat, k ≤ l.length ∧ iv = .int .i64 k ∧ wr.ownsRow w.heap.size TEn 3 uv k (envals (l.take k)) ∧ Touch [] w wr) (fun _ iv _ => l.length - (RowKit.intOf iv).toNat)
  case atStart => exact ⟨0, Nat.zero_le _, rfl, World.ownsRow_nil _ _ _ _, Touch.refl _ _⟩
  case round =>
    obtain ⟨k, hk, rfl, hown, ht⟩ := hrel
    obtain ⟨yu, cu, rfl, -, -⟩ := slice_form hown
    have HT := hid ht
    have HO := hid hown
    clear ht hown
    by_cases hlt : k < l.length
    · have hlt2 : decide (k < l.length) = true := by simpa using hlt
      have hI : (k : Int) < l.length := by omega
      obtain ⟨b, off, rfl, g0, g1, g2⟩ := HX.out k hlt
      have e0 := HT.out.cell g0
      have e1 := HT.out.cell g1
      have e2 := HT.out.cell g2
      have e0d := HT.out.drew.cell g0
      have e1d := HT.out.drew.cell g1
      have e2d := HT.out.drew.cell g2
      have PT := hid (envals_take hlt)
      clear g0 g1 g2
      generalize l[k] = s at *
      go_upto_region 5 with fail
      go_region_law (refine step_append_grew _ rfl (.tmp 11) (.tmp 28) TEns rfl w.heap.size TEn i0 (.agg #[.int .i64 0, .int .i64 0, .int .i64 0]) 3 24 Try.underlying36 hi hz0 hz1 hz2 rfl (by decide) (.slice yu k cu) k (envals (l.take k)) (by simp [Act.eval]) (owns_touch (HO.out.alloc _) ((Touch.refl [] _).drew)) ⟨wr.heap.size, 0, none⟩ 1 1 (enc3 s) (by simp [Act.eval]) rfl (fun j u hj => (owns_touch (lit_en wr s _ rfl) ((Touch.refl [] _).drew)).cells (g := wr.heap.size) rfl j u hj) (enc3_one s) (by omega) (by decide) (by have := HT.out.size; simp; omega) ?_; intro y cap w2 hG; have G := hid hG; clear hG)
      all_goals
        go_wp2
        go_roundw
        case rel => exact ⟨k + 1, by omega, by go_num, by rw [PT.out]; exact G.out.own, G.out.touch (owns_touch (HO.out.alloc _) ((Touch.refl [] _).drew)) ((HT.out.alloc _).drew) (Nat.le_refl _)⟩
        case measure => simp [RowKit.intOf]; omega
    · obtain rfl : k = l.length := by omega
      have hlt2 : decide (l.length < l.length) = false := by simp
      go_wp2
      go_ret
      rw [List.take_length] at HO
      exact ⟨_, rfl, HO.out, HT.out⟩

set_option maxHeartbeats 2000000 in
theorem refLess_any (a b : En) (w : World) :
    Calls Try.prog 42 #[enV a, enV b] w fun e w' => e = .returned (.bool (decide (ltE a b))) ∧ Touch [] w w' := by
  obtain ⟨x1, hx1⟩ : ∃ x, x = w.heap.size := ⟨_, rfl⟩
  obtain ⟨x2, hx2⟩ : ∃ x, x = w.heap.size + 1 := ⟨_, rfl⟩
  obtain ⟨w1, hw1⟩ : ∃ w1, w1 = (w.alloc (.cells #[.int .i64 a.1, .int .i64 a.2.1, .int .i64 a.2.2] TREn)).alloc (.cells #[.int .i64 b.1, .int .i64 b.2.1, .int .i64 b.2.2] TREn) := ⟨_, rfl⟩
  have T1 : Hid (Touch [] w w1) := hid (by rw [hw1]; exact ((Touch.refl [] w).alloc _).alloc _)
  have s1 : (w.alloc (.cells #[.int .i64 a.1, .int .i64 a.2.1, .int .i64 a.2.2] TREn)).heap.size = x2 := by rw [hx2]; simp
  have hb1 : w1.heap[x1]? = some (.cells #[.int .i64 a.1, .int .i64 a.2.1, .int .i64 a.2.2] TREn) := by rw [hw1, hx1]; exact heap_alloc_keep (heap_alloc_new w _) _
  have hb2 : w1.heap[x2]? = some (.cells #[.int .i64 b.1, .int .i64 b.2.1, .int .i64 b.2.2] TREn) := by rw [hw1, ← s1]; exact heap_alloc_new _ _
  have p0 : w1.cell? ⟨x1, 0, none⟩ = some (.int .i64 a.1) := cell_of hb1 0
  have p1 : w1.cell? ⟨x1, 1, none⟩ = some (.int .i64 a.2.1) := cell_of hb1 1
  have p2 : w1.cell? ⟨x1, 2, none⟩ = some (.int .i64 a.2.2) := cell_of hb1 2
  have q0 : w1.cell? ⟨x2, 0, none⟩ = some (.int .i64 b.1) := cell_of hb2 0
  have q1 : w1.cell? ⟨x2, 1, none⟩ = some (.int .i64 b.2.1) := cell_of hb2 1
  have q2 : w1.cell? ⟨x2, 2, none⟩ = some (.int .i64 b.2.2) := cell_of hb2 2
  have E1 := hid (ltE_mk a b.1 b.2.1 b.2.2)
  obtain ⟨a1, a2, a3⟩ := a
  obtain ⟨b1, b2, b3⟩ := b
  dsimp only at *
  clear hb1 hb2
  by_cases h1 : a1 = b1
  · have h1b : (a1 != b1) = false := by simp [h1]
    by_cases h2 : a2 = b2
    · have h2b : (a2 != b2) = false := by simp [h2]
      have E2 : decide (ltE (a1, a2, a3) (b1, b2, b3)) = decide (a3 < b3) := by rw [decide_eq_decide, E1.out]; omega
      rw [E2]
      clear E2
      clear h1 h2
      go_enter Try.func42, Try.ntmps42
      go_upto_region 1 with fail
      rw [← hw1, ← hx2, ← hx1]
      clear hw1 hx1 hx2 s1
      go_wp2
      go_ret
      exact ⟨rfl, T1.out⟩
    · have h2b : (a2 != b2) = true := by simpa using h2
      have E2 : decide (ltE (a1, a2, a3) (b1, b2, b3)) = decide (a2 < b2) := by rw [decide_eq_decide, E1.out]; omega
      rw [E2]
      clear E2
      clear h1 h2
      go_enter Try.func42, Try.ntmps42
      go_upto_region 1 with fail
      rw [← hw1, ← hx2, ← hx1]
      clear hw1 hx1 hx2 s1
      go_wp2
      go_ret
      exact ⟨rfl, T1.out⟩
  · have h1b : (a1 != b1) = true := by simpa using h1
    have E2 : decide (ltE (a1, a2, a3) (b1, b2, b3)) = decide (a1 < b1) := by rw [decide_eq_decide, E1.out]; omega
    rw [E2]
    clear E2
    clear h1
    go_enter Try.func42, Try.ntmps42
    go_upto_region 1 with fail
    rw [← hw1, ← hx2, ← hx1]
    clear hw1 hx1 hx2 s1
    go_wp2
    go_ret
    exact ⟨rfl, T1.out⟩

theorem ftake {p : En → Bool} {l : List En} {k : Nat} (h : k < l.length) : (l.take (k + 1)).filter p = (l.take k).filter p ++ (if p l[k] = true then [l[k]] else []) := by
  rw [List.take_succ_eq_append_getElem h, List.filter_append]
  congr 1
  by_cases hp : p l[k] = true <;> simp [hp]
theorem ftake_le (p : En → Bool) (l : List En) (k : Nat) : ((l.take k).filter p).length ≤ k := Nat.le_trans (List.length_filter_le _ _) (by rw [List.length_take]; omega)

set_option maxHeartbeats 2000000 in
theorem refFind_any (h v : Int) (x : Option Addr) (c : Nat) (l : List En) (w : World) (hx : EntX w x l) (hlen : l.length ≤ 1000000) :
    Calls Try.prog 27 #[.slice x l.length c, .int .i64 h, .int .i64 v] w fun e w' => ∃ u, e = .returned u ∧ w'.ownsRow w.heap.size TInt 1 u (l.filter (isHV h v)).length (posV (l.filter (isHV h v))) ∧ Touch [] w w' := by
  obtain ⟨i0, hi, hz0, hz1, hz2⟩ := info_parts infoInt
  have HX := hid hx
  have FIN : Hid ((l.take l.length).filter (isHV h v) = l.filter (isHV h v)) := hid (by rw [List.take_length])
  clear hx
  go_enter Try.func27, Try.ntmps27
  go_wp2
  go_loopw [7, 8] (fun uv iv wr => ∃ k : Nat, k ≤ l.length ∧ iv = .int .i64 k ∧ wr.ownsRow w.heap.size TInt 1 uv ((l.take k).filter (isHV h v)).length (posV ((l.take k).filter (isHV h v))) ∧ Touch [] w wr) (fun _ iv _ => l.length - (RowKit.intOf iv).toNat)
  case atStart => exact ⟨0, Nat.zero_le _, rfl, World.ownsRow_nil _ _ _ _, Touch.refl _ _⟩
  case round =>
    obtain ⟨k, hk, rfl, hown, ht⟩ := hrel
    obtain ⟨yu, cu, rfl, -, -⟩ := slice_form hown
    have HT := hid ht
    have HO := hid hown
    have hle := ftake_le (isHV h v) l k
    clear ht hown
    by_cases hlt : k < l.length
    · have hlt2 : decide (k < l.length) = true := by simpa using hlt
      have hI : (k : Int) < l.length := by omega
      obtain ⟨b, off, rfl, g0, g1, g2⟩ := HX.out k hlt
      have e0 := HT.out.cell g0
      have e1 := HT.out.cell g1
      have e2 := HT.out.cell g2
      have PT := hid (ftake (p := isHV h v) hlt)
      clear g0 g1 g2
      generalize l[k] = s at *
      generalize hmm : (l.take k).filter (isHV h v) = m at *
      have HMM := hid hmm
      clear hmm
      by_cases h1 : s.1 = h
      · have h1b : (s.1 == h) = true := by simpa using h1
        by_cases h2 : s.2.1 = v
        · have h2b : (s.2.1 == v) = true := by simpa using h2
          have PT2 := hid (PT.out.trans (by rw [if_pos (by simp [isHV, h1, h2])]))
          clear PT h1 h2
          go_wp2_with (at_builtin; refine wpList_append_grew _ rfl _ _ TInts rfl w.heap.size TInt i0 (.int .i64 0) 1 8 Try.underlying51 hi hz0 hz1 hz2 rfl (by decide) _ m.length (posV m) rfl (HO.out.alloc _) (.slice (some ⟨wr.heap.size, 0, none⟩) 1 1) 1 0 [.int .i64 s.2.2] rfl (lit_one _ _ _ _ rfl) (by intro u hu; simp at hu; subst hu; rfl) (by omega) (by decide) (by have := HT.out.size; simp; omega) ?_; intro y cap w2 hG; have G := hid hG; clear hG)
          go_roundw
          case rel => exact ⟨k + 1, by omega, by go_num, by rw [PT2.out, List.length_append]; unfold posV; rw [List.map_append]; exact G.out.own, G.out.touch (HO.out.alloc _) (HT.out.alloc _) (Nat.le_refl _)⟩
          case measure => simp [RowKit.intOf]; omega
        · have h2b : (s.2.1 == v) = false := by simpa using h2
          have PT2 := hid (PT.out.trans (by rw [if_neg (by simp [isHV, h2]), List.append_nil]))
          clear PT h1 h2
          go_wp2
          go_roundw
          case rel => exact ⟨k + 1, by omega, by go_num, by rw [PT2.out]; exact HO.out, HT.out⟩
          case measure => simp [RowKit.intOf]; omega
      · have h1b : (s.1 == h) = false := by simpa using h1
        have PT2 := hid (PT.out.trans (by rw [if_neg (by simp [isHV, h1]), List.append_nil]))
        clear PT h1
        go_wp2
        go_roundw
        case rel => exact ⟨k + 1, by omega, by go_num, by rw [PT2.out]; exact HO.out, HT.out⟩
        case measure => simp [RowKit.intOf]; omega
    · obtain rfl : k = l.length := by omega
      have hlt2 : decide (l.length < l.length) = false := by simp
      rw [FIN.out]
      rw [FIN.out] at HO
      go_wp2
      go_ret
      exact ⟨_, rfl, HO.out, HT.out⟩

def isR (h f t : Int) (e : En) : Bool := decide (e.1 = h) && (decide (f ≤ e.2.1) && decide (e.2.1 < t))

set_option maxHeartbeats 2000000 in
theorem refRange_any (h v t : Int) (x : Option Addr) (c : Nat) (l : List En) (w : World) (hx : EntX w x l) (hlen : l.length ≤ 1000000) :
    Calls Try.prog 25 #[.slice x l.length c, .int .i64 h, .int .i64 v, .int .i64 t] w fun e w' => ∃ u, e = .returned u ∧ w'.ownsRow w.heap.size TREn 3 u (l.filter (isR h v t)).length (envals (l.filter (isR h v t))) ∧ Touch [] w w' := by
  obtain ⟨i0, hi, hz0, hz1, hz2⟩ := info_parts infoREn
  have HX := hid hx
  have FIN : Hid ((l.take l.length).filter (isR h v t) = l.filter (isR h v t)) := hid (by rw [List.take_length])
  clear hx
  go_enter Try.func25, Try.ntmps25
  go_wp2
  go_loopw [9, 10] (fun uv iv wr => ∃ k : Nat, k ≤ l.length ∧ iv = .int .i64 k ∧ wr.ownsRow w.heap.size TREn 3 uv ((l.take k).filter (isR h v t)).length (envals ((l.take k).filter (isR h v t))) ∧ Touch [] w wr) (fun _ iv _ => l.length - (RowKit.intOf iv).toNat)
  case atStart => exact ⟨0, Nat.zero_le _, rfl, World.ownsRow_nil _ _ _ _, Touch.refl _ _⟩
  case round =>
    obtain ⟨k, hk, rfl, hown, ht⟩ := hrel
    obtain ⟨yu, cu, rfl, -, -⟩ := slice_form hown
    have HT := hid ht
    have HO := hid hown
    have hle := ftake_le (isR h v t) l k
    clear ht hown
    by_cases hlt : k < l.length
    · have hlt2 : decide (k < l.length) = true := by simpa using hlt
      have hI : (k : Int) < l.length := by omega
      obtain ⟨b, off, rfl, g0, g1, g2⟩ := HX.out k hlt
      have e0 := HT.out.cell g0
      have e1 := HT.out.cell g1
      have e2 := HT.out.cell g2
      have PT := hid (ftake (p := isR h v t) hlt)
      clear g0 g1 g2
      generalize l[k] = s at *
      generalize hmm : (l.take k).filter (isR h v t) = m at *
      have HMM := hid hmm
      clear hmm
      by_cases h1 : s.1 = h
      · have h1b : (s.1 == h) = true := by simpa using h1
        by_cases h2 : v ≤ s.2.1
        · have h2b : decide (v ≤ s.2.1) = true := by simpa using h2
          by_cases h3 : s.2.1 < t
          · have h3b : decide (s.2.1 < t) = true := by simpa using h3
            have PT2 := hid (PT.out.trans (by rw [if_pos (by simp [isR, h1, h2, h3])]))
            clear PT h1 h2 h3
            go_wp2_with (at_builtin; refine wpList_append_grew _ rfl _ _ TREns rfl w.heap.size TREn i0 (.agg #[.int .i64 0, .int .i64 0, .int .i64 0]) 3 24 Try.underlying26 hi hz0 hz1 hz2 rfl (by decide) _ m.length (envals m) rfl (HO.out.alloc _) (.slice (some ⟨wr.heap.size, 0, none⟩) 1 1) 1 0 (enc3 s) rfl (lit_ren _ s _ rfl) (enc3_one s) (by omega) (by decide) (by have := HT.out.size; simp; omega) ?_; intro y cap w2 hG; have G := hid hG; clear hG)
            go_roundw
            case rel => exact ⟨k + 1, by omega, by go_num, by rw [PT2.out, List.length_append]; rw [envals_append]; simpa [envals] using G.out.own, G.out.touch (HO.out.alloc _) (HT.out.alloc _) (Nat.le_refl _)⟩
            case measure => simp [RowKit.intOf]; omega
          · have h3b : decide (s.2.1 < t) = false := by simpa using h3
            have PT2 := hid (PT.out.trans (by rw [if_neg (by simp [isR, h3]), List.append_nil]))
            clear PT h1 h2 h3
            go_wp2
            go_roundw
            case rel => exact ⟨k + 1, by omega, by go_num, by rw [PT2.out]; exact HO.out, HT.out⟩
            case measure => simp [RowKit.intOf]; omega
        · have h2b : decide (v ≤ s.2.1) = false := by simpa using h2
          have PT2 := hid (PT.out.trans (by rw [if_neg (by simp [isR, h2]), List.append_nil]))
          clear PT h1 h2
          go_wp2
          go_roundw
          case rel => exact ⟨k + 1, by omega, by go_num, by rw [PT2.out]; exact HO.out, HT.out⟩
          case measure => simp [RowKit.intOf]; omega
      · have h1b : (s.1 == h) = false := by simpa using h1
        have PT2 := hid (PT.out.trans (by rw [if_neg (by simp [isR, h1]), List.append_nil]))
        clear PT h1
        go_wp2
        go_roundw
        case rel => exact ⟨k + 1, by omega, by go_num, by rw [PT2.out]; exact HO.out, HT.out⟩
        case measure => simp [RowKit.intOf]; omega
    · obtain rfl : k = l.length := by omega
      have hlt2 : decide (l.length < l.length) = false := by simp
      rw [FIN.out]
      rw [FIN.out] at HO
      go_wp2
      go_ret
      exact ⟨_, rfl, HO.out, HT.out⟩

def lastR (l : List En) (h : Int) : Option En := (l.filter fun e => decide (e.1 = h)).getLast?
theorem lastR_hit {l : List En} {k : Nat} (hk : k < l.length) {h : Int} (e : l[k].1 = h) : lastR (l.take (k + 1)) h = some l[k] := by
  unfold lastR
  rw [List.take_succ_eq_append_getElem hk, List.filter_append]
  simp [e]
theorem lastR_miss {l : List En} {k : Nat} (hk : k < l.length) {h : Int} (e : ¬ l[k].1 = h) : lastR (l.take (k + 1)) h = lastR (l.take k) h := by
  unfold lastR
  rw [List.take_succ_eq_append_getElem hk, List.filter_append]
  simp [e]
theorem lastR_sorted {l : List En} (hs : SortedE l) (h : Int) : lastR l h = lastE l h := by
  unfold lastR lastE
  induction l with
  | nil => rfl
  | cons x l ih =>
    have hp := List.pairwise_cons.1 hs
    have I := ih hp.2
    by_cases hx : x.1 = h
    · rw [List.filter_cons_of_pos (by simpa using hx), List.filter_cons_of_pos (by simp; omega)]
      rw [List.getLast?_cons, List.getLast?_cons]
      cases h1 : (l.filter fun e => decide (e.1 ≤ h)).getLast? with
      | none =>
        rw [h1] at I
        rw [I]
        simp [Option.filter, hx]
      | some y =>
        rw [h1] at I
        rw [I]
        have hy := List.mem_filter.1 (List.mem_of_getLast? h1)
        have hlt := hp.1 y hy.1
        have hle : y.1 ≤ h := by simpa using hy.2
        have : y.1 = h := by unfold ltE at hlt; omega
        simp [Option.filter, this]
    · rw [List.filter_cons_of_neg (by simpa using hx)]
      by_cases hle : x.1 ≤ h
      · rw [List.filter_cons_of_pos (by simpa using hle), List.getLast?_cons]
        cases h1 : (l.filter fun e => decide (e.1 ≤ h)).getLast? with
        | none =>
          rw [h1] at I
          rw [I]
          simp [Option.filter, hx]
        | some y =>
          rw [h1] at I
          rw [I]
          simp
      · rw [List.filter_cons_of_neg (by simpa using hle)]
        exact I

def REnB (w : World) (b : Nat) (e : En) : Prop := w.heap[b]? = some (.cells #[.int .i64 e.1, .int .i64 e.2.1, .int .i64 e.2.2] TREn)
theorem REnB.c {w : World} {b : Nat} {e : En} (h : REnB w b e) : EnC w b e := ⟨cell_of h 0, cell_of h 1, cell_of h 2⟩
theorem ren_set {w : World} {x : Nat} {e : En} (h : REnB w x e) (f : En) : REnB (((w.setCell ⟨x, 0, none⟩ (.int .i64 f.1)).setCell ⟨x, 1, none⟩ (.int .i64 f.2.1)).setCell ⟨x, 2, none⟩ (.int .i64 f.2.2)) x f := by
  have h1 := heap_set (i := 0) h (.int .i64 f.1)
  have h2 := heap_set (i := 1) h1 (.int .i64 f.2.1)
  exact heap_set (i := 2) h2 (.int .i64 f.2.2)
set_option maxHeartbeats 2000000 in
theorem refLast_any (h : Int) (x : Option Addr) (c : Nat) (l : List En) (w : World) (hx : EntX w x l) (hlen : l.length ≤ 1000000) :
    Calls Try.prog 22 #[.slice x l.length c, .int .i64 h] w fun e w' => e = .returned (lastV (lastR l h)) ∧ Touch [] w w' := by
  obtain ⟨x1, hx1⟩ : ∃ x, x = w.heap.size := ⟨_, rfl⟩
  obtain ⟨w1, hw1⟩ : ∃ w1, w1 = w.alloc (.cells #[.int .i64 0, .int .i64 0, .int .i64 0] TREn) := ⟨_, rfl⟩
  have B1 : REnB w1 x1 (0, 0, 0) := by rw [hw1, hx1]; exact heap_alloc_new w _
  have T1 : Hid (Touch [] w w1) := hid (by rw [hw1]; exact (Touch.refl [] w).alloc _)
  have hxx : w.heap.size ≤ x1 := by omega
  have HX := hid (fun (i : Nat) (hi : i < l.length) => hx i hi)
  have FIN : Hid (lastR (l.take l.length) h = lastR l h) := hid (by rw [List.take_length])
  have ZERO : Hid (lastR (l.take 0) h = none) := hid rfl
  have HIT := hid fun (k : Nat) (hk : k < l.length) (e : l[k].1 = h) => lastR_hit hk e
  have MISS := hid fun (k : Nat) (hk : k < l.length) (e : ¬ l[k].1 = h) => lastR_miss hk e
  have TS : ∀ u1 u2 u3, Touch [] w (((w1.setCell ⟨x1, 0, none⟩ u1).setCell ⟨x1, 1, none⟩ u2).setCell ⟨x1, 2, none⟩ u3) := fun u1 u2 u3 =>
    ((T1.out.setCell (p := ⟨x1, 0, none⟩) (.inr hxx) u1).setCell (p := ⟨x1, 1, none⟩) (.inr hxx) u2).setCell (p := ⟨x1, 2, none⟩) (.inr hxx) u3
  obtain ⟨p0, p1, p2⟩ := B1.c
  have f0 := free_of B1 0
  have f1 := free_of B1 1
  have f2 := free_of B1 2
  have ES := hid fun f => (ren_set B1 f).c
  have TSS := hid TS
  clear TS
  clear hx
  go_enter Try.func22, Try.ntmps22
  go_upto_region 1 with fail
  rw [← hw1, ← hx1]
  clear hw1 hx1
  go_wp2
  go_loopw [6] (fun iv wr => wr = w1 ∧ ∃ k : Nat, k ≤ l.length ∧ iv = .int .i64 ((k : Int) - 1) ∧ lastR (l.take k) h = lastR l h) (fun iv _ => (RowKit.intOf iv + 1).toNat)
  case atStart => exact ⟨rfl, l.length, Nat.le_refl _, by go_num, FIN.out⟩
  case round =>
    obtain ⟨rfl, k, hk, rfl, hre⟩ := hrel
    have HRE := hid hre
    clear hre
    cases k with
    | zero =>
      rw [show (((0 : Nat) : Int) - 1) = -1 from rfl]
      have E := (ES.out (0, 0, 0))
      have TT := TSS.out (.int .i64 0) (.int .i64 0) (.int .i64 0)
      go_wp2
      have HN := HRE.out.symm.trans ZERO.out
      clear HRE
      revert E TT
      try dsimp only
      generalize (((wr.setCell ⟨x1, 0, none⟩ (.int .i64 0)).setCell ⟨x1, 1, none⟩ (.int .i64 0)).setCell ⟨x1, 2, none⟩ (.int .i64 0)) = WW
      rintro ⟨r0, r1, r2⟩ TT
      refine bodyPost_ret (v := lastV none) ?_ rfl ⟨by rw [HN], TT⟩
      simp [results, Try.results22, go_sem, lastV, r0, r1, r2]
    | succ k =>
      rw [show (((k + 1 : Nat) : Int) - 1) = (k : Int) by omega]
      have hlt2 : decide ((0 : Int) ≤ (k : Int)) = true := by simp
      have hI : (k : Int) < l.length := by omega
      obtain ⟨b, off, rfl, g0, g1, g2⟩ := HX.out k hk
      have e0 := T1.out.cell g0
      have e1 := T1.out.cell g1
      have e2 := T1.out.cell g2
      clear g0 g1 g2
      have HIT2 := hid (HIT.out k hk)
      have MISS2 := hid (MISS.out k hk)
      clear HIT MISS HX
      generalize l[k] = s at *
      by_cases hh : s.1 = h
      · have hb : (s.1 == h) = true := by simpa using hh
        have E := (ES.out s)
        have TT := TSS.out (.int .i64 s.1) (.int .i64 s.2.1) (.int .i64 s.2.2)
        have HN := hid (HRE.out.symm.trans (HIT2.out hh))
        clear HRE HIT2 MISS2 hh
        go_wp2
        revert E TT
        try dsimp only
        generalize (((wr.setCell ⟨x1, 0, none⟩ (.int .i64 s.1)).setCell ⟨x1, 1, none⟩ (.int .i64 s.2.1)).setCell ⟨x1, 2, none⟩ (.int .i64 s.2.2)) = WW
        rintro ⟨r0, r1, r2⟩ TT
        refine bodyPost_ret (v := lastV (some s)) ?_ rfl ⟨by rw [HN.out], TT⟩
        simp [results, Try.results22, go_sem, lastV, enV, r0, r1, r2]
      · have hb : (s.1 == h) = false := by simpa using hh
        have HN := hid ((MISS2.out hh).symm.trans HRE.out)
        clear HRE HIT2 MISS2 hh
        go_wp2
        go_roundw
        case rel => exact ⟨trivial, k, by omega, by go_num, HN.out⟩
        case measure => simp [RowKit.intOf]
end Go.Proofs.Ytdjcpdlfapfmkaa
