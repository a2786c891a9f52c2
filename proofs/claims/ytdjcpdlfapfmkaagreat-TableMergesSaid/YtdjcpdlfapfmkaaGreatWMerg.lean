/- TableMerges, walked. -/
import Derived.Test.YtdjcpdlfapfmkaaGreatMe13
import Derived.Test.YtdjcpdlfapfmkaaGreatRi13
import Derived.Test.YtdjcpdlfapfmkaaGreatAl13
import Derived.Test.YtdjcpdlfapfmkaaGreatBookm
import Derived.Test.YtdjcpdlfapfmkaaGreatRlw13
import Derived.Deep.Cut
import Derived.Deep.CutRange
namespace Go.Proofs.YtdjcpdlfapfmkaaGreat
open Go.RowKit Go.Lib Go.ChangeShapes Go.WideShapes
set_option maxRecDepth 100000

abbrev TPt : TypeId := 41
theorem infoPt : (Tryz.prog.info? TPt).map (fun i => (i.zero, i.size, i.bytes)) = some (some (.pointer none), 1, 8) := by kernel_rfl
theorem infoREns : (Tryz.prog.info? TREns).map (fun i => (i.zero, i.size, i.bytes)) = some (some (.slice none 0 0), 1, 24) := by kernel_rfl
theorem KBk.start2 {w : World} {b0 kb : Nat} (ge : b0 ≤ kb) (hB : BkBlk w kb (fun _ => nilS)) (pE pI : List Value) : KBk w b0 kb 0 0 pE pI :=
  ⟨ge, _, [], [], [], [], [], [], hB, Kept.none _ _ _, Kept.none _ _ _, rfl, rfl, rfl, rfl, rfl, rfl, by simp, by simp⟩
theorem TblR.rest2 {w w' : World} {tb : Nat} {l : List En} {ts : List TypeId} (h : TblR w tb l) (r : Rest ts w w') (h1 : TTab ∉ ts) (h2 : TEn ∉ ts) : TblR w' tb l := by
  obtain ⟨g, c, a1, a2, cur, a3, a4⟩ := h
  exact ⟨g, c, r _ _ _ _ a1 h1, a2, cur, r _ _ _ _ a3 h2, a4⟩
theorem ptrs_one (l : List Nat) : ∀ u ∈ l.map fun b => Value.pointer (some ⟨b, 0, none⟩), u.oneCell' = true := by
  intro u hu
  obtain ⟨t, _, rfl⟩ := List.mem_map.1 hu
  rfl

/-- How the loop over the three lists stands. -/
structure MS (W w : World) (A : List (List En)) (i : Nat) (v9 v10 : Value) (tbs : List Nat) (ls : List (List En)) (rs : List Value) : Prop where
  lsE : ls = (A.take i).filter fun l => decide (fitE l)
  n1 : tbs.length = ls.length
  n2 : rs.length = ls.length
  tab : ∀ (k : Nat) (h1 : k < tbs.length) (h2 : k < ls.length), TblR w tbs[k] ls[k]
  ref : ∀ (k : Nat) (h1 : k < rs.length) (h2 : k < ls.length), w.ownsRow W.heap.size TREn 3 rs[k] (ls[k]).length (envals ls[k])
  r9 : w.ownsRow W.heap.size TPt 1 v9 tbs.length (tbs.map fun b => .pointer (some ⟨b, 0, none⟩))
  r10 : w.ownsRow W.heap.size TREns 1 v10 rs.length rs
  t : Touch [] W w
theorem MS.t0 {W w w' : World} {A : List (List En)} {i : Nat} {v9 v10 : Value} {tbs : List Nat} {ls : List (List En)} {rs : List Value} (h : MS W w A i v9 v10 tbs ls rs) (t : Touch [] w w') : MS W w' A i v9 v10 tbs ls rs :=
  ⟨h.lsE, h.n1, h.n2, fun k h1 h2 => (h.tab k h1 h2).t0 t, fun k h1 h2 => owns_touch (h.ref k h1 h2) t, owns_touch h.r9 t, owns_touch h.r10 t, h.t.trans t (by simp)⟩

theorem flat_le30 {ls : List (List En)} (h : ∀ l ∈ ls, l.length ≤ 30) : ls.flatten.length ≤ 30 * ls.length := by
  induction ls with
  | nil => simp
  | cons a ls ih =>
    have h1 := h a (by simp)
    have h2 := ih fun l hl => h l (by simp [hl])
    simp only [List.flatten_cons, List.length_append, List.length_cons]
    omega
theorem row_rowP {w : World} {base n : Nat} {y : Option Addr} {m c : Nat} {ps : List (Option Addr)} (h : w.ownsRow base TPt 1 (.slice y m c) n (ps.map Value.pointer)) : RowP w y ps := fun i hi => by
  rcases h.2 with ⟨e, h0⟩ | ⟨g, cap, cur, e, _, hg, hnc, _, hcs, htake⟩
  · have := h.1
    rw [List.length_map] at this
    omega
  · cases e
    refine ⟨g, 0, rfl, ?_⟩
    have := h.cells (g := g) rfl i (.pointer ps[i]) (by rw [List.getElem?_map, List.getElem?_eq_getElem hi]; rfl)
    rw [show (⟨g, 0, none⟩ : Addr).add i = ⟨g, 0 + i, none⟩ by unfold Addr.add; split <;> simp_all] at this
    exact this
theorem lists_rows {w : World} {B : Nat} {y : Option Addr} {n c : Nat} {rs : List Value} {ls : List (List En)} (h : w.ownsRow B TREns 1 (.slice y n c) rs.length rs) (hn : rs.length = ls.length) (hr : ∀ (k : Nat) (h1 : k < rs.length) (h2 : k < ls.length), w.ownsRow B TREn 3 rs[k] (ls[k]).length (envals ls[k])) : ListsX w y ls := by
  intro i hi
  have hir : i < rs.length := by omega
  obtain ⟨xx, cx, e1, -, -, -, -, EX⟩ := entX_ownT (hr i hir hi)
  rcases h.2 with ⟨e, h0⟩ | ⟨g, cap, cur, e, _, hg, hnc, _, hcs, htake⟩
  · omega
  · cases e
    have := h.cells (g := g) rfl i rs[i] (List.getElem?_eq_getElem hir)
    rw [show (⟨g, 0, none⟩ : Addr).add i = ⟨g, 0 + i, none⟩ by unfold Addr.add; split <;> simp_all, e1] at this
    exact ⟨g, 0, xx, cx, rfl, this, EX⟩
theorem row_cap {w : World} {base n size : Nat} {e : TypeId} {y : Option Addr} {m c : Nat} {xs : List Value} (h : w.ownsRow base e size (.slice y m c) n xs) : n ≤ c := by
  rcases h.2 with ⟨e', h0⟩ | ⟨g, cap, cur, e', _, hg, hnc, _⟩
  · omega
  · cases e'; exact hnc
set_option maxHeartbeats 16000000 in
theorem merges_in (xa xb xc : Option Addr) (ca cb cc : Nat) (a b c : List En) (none' : Bool) (W : World) (hA : EntX W xa a) (hB : EntX W xb b) (hC : EntX W xc c) (na : a.length ≤ 30) (nb : b.length ≤ 30) (nc : c.length ≤ 30) :
    Calls Tryz.prog 4 #[.slice xa a.length ca, .slice xb b.length cb, .slice xc c.length cc, .bool none'] W fun e w' => e = .returned (.bool true) ∧ Touch [] W w' := by
  have AL := hid (fun w => alive13_true w)
  obtain ⟨i0, hi, hz0, hz1, hz2⟩ := info_parts infoPt
  obtain ⟨j0, hj, hy0, hy1, hy2⟩ := info_parts infoREns
  obtain ⟨A, hAA⟩ : ∃ A : List (List En), A = [a, b, c] := ⟨_, rfl⟩
  have d1 : decide (30 < a.length) = false := by simpa using na
  have d2 : decide (30 < b.length) = false := by simpa using nb
  have d3 : decide (30 < c.length) = false := by simpa using nc
  have HA := hid hA
  have HB := hid hB
  have HC := hid hC
  clear hA hB hC
  go_enter Tryz.func4, Tryz.ntmps4
  go_wp2_with (go_at_call 5; refine (AL.out _).mono ?_; rintro e w1 ⟨rfl, t1⟩; have T1 := hid t1; clear t1)
  obtain ⟨W1, hW1⟩ : ∃ W1, W1 = w1.alloc (.cells #[.slice xa a.length ca, .slice xb b.length cb, .slice xc c.length cc] TEns) := ⟨_, rfl⟩
  obtain ⟨ab, hab⟩ : ∃ ab, ab = w1.heap.size := ⟨_, rfl⟩
  have hb0 : W1.heap[ab]? = some (.cells #[.slice xa a.length ca, .slice xb b.length cb, .slice xc c.length cc] TEns) := by rw [hW1, hab]; exact heap_alloc_new _ _
  have T2 : Hid (Touch [] W W1) := hid (by rw [hW1]; exact T1.out.alloc _)
  have hA3 : A.length = 3 := by rw [hAA]; rfl
  have AR : Hid (∀ (k : Nat) (hk : k < A.length), ∃ (x : Option Addr) (c : Nat), (A[k]).length ≤ 30 ∧ EntX W x A[k] ∧ ∀ w', Touch [] W1 w' → w'.cell? ⟨ab, k, none⟩ = some (.slice x (A[k]).length c)) := hid (by
    subst hAA
    intro k hk
    match k, hk with
    | 0, _ => exact ⟨xa, ca, na, HA.out, fun w' t => t.cell (cell_of hb0 0)⟩
    | 1, _ => exact ⟨xb, cb, nb, HB.out, fun w' t => t.cell (cell_of hb0 1)⟩
    | 2, _ => exact ⟨xc, cc, nc, HC.out, fun w' t => t.cell (cell_of hb0 2)⟩)
  have M0 : Hid (MS W1 W1 A 0 (.slice none 0 0) (.slice none 0 0) [] [] []) := hid ⟨by simp, rfl, rfl, fun k h1 _ => absurd h1 (Nat.not_lt_zero k), fun k h1 _ => absurd h1 (Nat.not_lt_zero k), World.ownsRow_nil _ _ _ _, World.ownsRow_nil _ _ _ _, Touch.refl _ _⟩
  rw [← hW1, ← hab]
  have HA3 := hid hA3
  clear hW1 hab hb0 hA3 hAA HA HB HC T1
  go_loopw [9, 10, 46] (fun v9 v10 iv wr => ∃ (i : Nat) (tbs : List Nat) (ls : List (List En)) (rs : List Value), i ≤ 3 ∧ iv = .int .i64 i ∧ Hid (MS W1 wr A i v9 v10 tbs ls rs)) (fun _ _ iv _ => 3 - (RowKit.intOf iv).toNat)
  case atStart => exact ⟨0, [], [], [], by omega, rfl, M0⟩
  case round =>
    obtain ⟨i, tbs, ls, rs, hi3, rfl, HM⟩ := hrel
    clear M0
    obtain ⟨y9, c9, rfl, -, -⟩ := slice_form HM.out.r9
    obtain ⟨y10, c10, rfl, -, -⟩ := slice_form HM.out.r10
    by_cases hlt : i < 3
    · have hI : (i : Int) < 3 := by omega
      have hlt2 : decide (i < 3) = true := by simpa using hlt
      obtain ⟨xk, ck, nk, EK, CK⟩ := AR.out i (by have := HA3.out; omega)
      have TK : Hid (A.take (i + 1) = A.take i ++ [A[i]'(by have := HA3.out; omega)]) := hid (List.take_succ_eq_append_getElem _)
      have ek := CK wr HM.out.t
      generalize (A[i]'(by have := HA3.out; omega)) = lk at *
      have XK := hid (fun w' (t : Touch [] W1 w') => EK.t0 (T2.out.trans t (by simp)))
      have BU := hid (build_any xk ck lk wr (XK.out wr HM.out.t) (by omega))
      clear EK CK
      by_cases hf : fitE lk
      · unfold buildV at BU
        rw [if_pos hf] at BU
        have OP := hid fun w' => open_any (sealed (tabT lk)) w' (by rw [sealed_size, tabT_size]; omega)
        rw [openR_tab hf] at OP
        have LF : Hid ((A.take (i + 1)).filter (fun l => decide (fitE l)) = ls ++ [lk]) := hid (by rw [TK.out, List.filter_append, ← HM.out.lsE]; simp [hf])
        have HF := hid hf
        clear hf TK
        generalize sealed (tabT lk) = st at *
        go_wp2_with fail
        refine BU.out.mono ?_
        rintro e w2 ⟨rfl, t2⟩
        have M2 := hid (HM.out.t0 t2)
        clear t2 BU HM ek
        go_wp2_with fail
        refine (OP.out w2).mono ?_
        rintro e w3 ⟨p3, rfl, op3, t3⟩
        have M3 := hid (M2.out.t0 t3)
        obtain ⟨tb, rfl, R3⟩ : ∃ tb, p3 = some ⟨tb, 0, none⟩ ∧ TblR w3 tb lk := by
          rcases op3 with ⟨h1, _⟩ | ⟨l', tb, h1, -, h3, h4⟩
          · cases h1
          · cases h1; exact ⟨tb, h3, h4⟩
        have R3' := hid R3
        have hn9 : tbs.length ≤ 3 := by have := M3.out.n1; have := M3.out.lsE; rw [M3.out.n1, M3.out.lsE]; exact Nat.le_trans (List.length_filter_le _ _) (by rw [List.length_take]; omega)
        have hn10 : rs.length ≤ 3 := by rw [M3.out.n2, ← M3.out.n1]; exact hn9
        have SZ3 := hid M3.out.t.size
        clear op3 t3 OP M2 R3
        go_wp2_with (at_builtin; refine wpList_append_grew _ rfl _ _ TPs rfl W1.heap.size TPt i0 (.pointer none) 1 8 Tryz.underlying66 hi hz0 hz1 hz2 rfl (by decide) _ tbs.length (tbs.map fun b => .pointer (some ⟨b, 0, none⟩)) rfl (M3.out.r9.alloc _) (.slice (some ⟨w3.heap.size, 0, none⟩) 1 1) 1 0 [.pointer (some ⟨tb, 0, none⟩)] rfl (lit_one _ _ _ _ rfl) (by intro u hu; simp at hu; subst hu; rfl) (by omega) (by decide) (by have := SZ3.out; simp; omega) ?_; intro y4 cap4 w4 hG; have G4 := hid hG; clear hG)
        have RS4 : Hid (Rest [TPt] w3 w4) := hid ((Rest.touch (ts := [TPt]) ((Touch.refl [] w3).alloc _)).trans (G4.out.rest (M3.out.r9.alloc _) (by simp)))
        have T4 : Hid (Touch [] W1 w4) := hid (G4.out.touch (M3.out.r9.alloc _) (M3.out.t.alloc _) (Nat.le_refl _))
        have PL := hid (plain_any xk ck lk w4 (XK.out w4 T4.out) (by omega))
        go_wp2_with fail
        refine PL.out.mono ?_
        rintro e w5 ⟨u5, rfl, ho5, t5⟩
        obtain ⟨y5, c5, rfl, -, -⟩ := slice_form ho5
        have RS5 : Hid (Rest [TPt] w3 w5) := hid (RS4.out.trans (Rest.touch t5))
        have T5 : Hid (Touch [] W1 w5) := hid (T4.out.trans t5 (by simp))
        have P5 := hid (own_up (base' := W1.heap.size) ho5 T4.out.size)
        have V5 : Hid (w5.ownsRow W1.heap.size TPt 1 (.slice y4 (tbs.length + 1) cap4) (tbs ++ [tb]).length ((tbs ++ [tb]).map fun b => .pointer (some ⟨b, 0, none⟩))) := hid (by
          rw [List.length_append, List.map_append]; exact owns_touch G4.out.own t5)
        have R10 := hid (RS5.out.row M3.out.r10 (by decide))
        have SZ5 := hid T5.out.size
        have M5a : Hid (∀ (k : Nat) (h1 : k < tbs.length) (h2 : k < ls.length), TblR w5 tbs[k] ls[k]) := hid fun k h1 h2 => (M3.out.tab k h1 h2).rest2 RS5.out (by decide) (by decide)
        have M5b : Hid (∀ (k : Nat) (h1 : k < rs.length) (h2 : k < ls.length), w5.ownsRow W1.heap.size TREn 3 rs[k] (ls[k]).length (envals ls[k])) := hid fun k h1 h2 => RS5.out.row (M3.out.ref k h1 h2) (by decide)
        have M5c : Hid (TblR w5 tb lk) := hid (R3'.out.rest2 RS5.out (by decide) (by decide))
        have M5n := hid (show tbs.length = ls.length ∧ rs.length = ls.length from ⟨M3.out.n1, M3.out.n2⟩)
        clear ho5 t5 PL RS4 RS5 T4 G4 M3 R3' XK SZ3
        go_wp2_with (at_builtin; refine wpList_append_grew _ rfl _ _ 67 rfl W1.heap.size TREns j0 (.slice none 0 0) 1 24 Tryz.underlying67 hj hy0 hy1 hy2 rfl (by decide) _ rs.length rs rfl (R10.out.alloc _) (.slice (some ⟨w5.heap.size, 0, none⟩) 1 1) 1 0 [.slice y5 lk.length c5] rfl (lit_one _ _ _ _ rfl) (by intro u hu; simp at hu; subst hu; rfl) (by omega) (by decide) (by have := SZ5.out; simp; omega) ?_; intro y6 cap6 w6 hG; have G6 := hid hG; clear hG)
        have RS6 : Hid (Rest [TREns] w5 w6) := hid ((Rest.touch (ts := [TREns]) ((Touch.refl [] w5).alloc _)).trans (G6.out.rest (R10.out.alloc _) (by simp)))
        have T6 : Hid (Touch [] W1 w6) := hid (G6.out.touch (R10.out.alloc _) (T5.out.alloc _) (Nat.le_refl _))
        have M6 : Hid (MS W1 w6 A (i + 1) (.slice y4 (tbs.length + 1) cap4) (.slice y6 (rs.length + 1) cap6) (tbs ++ [tb]) (ls ++ [lk]) (rs ++ [.slice y5 lk.length c5])) := hid (by
          obtain ⟨n1, n2⟩ := M5n.out
          refine ⟨LF.out.symm, by simp [n1], by simp [n2], fun k h1 h2 => ?_, fun k h1 h2 => ?_, RS6.out.row V5.out (by decide), by rw [List.length_append]; exact G6.out.own, T6.out⟩
          · simp only [List.length_append, List.length_cons, List.length_nil] at h1 h2
            rcases Nat.lt_or_ge k tbs.length with h3 | h3
            · rw [List.getElem_append_left h3, List.getElem_append_left (by omega)]
              exact (M5a.out k h3 (by omega)).rest2 RS6.out (by decide) (by decide)
            · rw [List.getElem_append_right h3, List.getElem_append_right (by omega)]
              simp only [List.getElem_singleton]
              exact M5c.out.rest2 RS6.out (by decide) (by decide)
          · simp only [List.length_append, List.length_cons, List.length_nil] at h1 h2
            rcases Nat.lt_or_ge k rs.length with h3 | h3
            · have e1 : (rs ++ [Value.slice y5 lk.length c5])[k] = rs[k] := List.getElem_append_left h3
              have e2 : (ls ++ [lk])[k] = ls[k]'(by omega) := List.getElem_append_left (by omega)
              rw [e1, e2]
              exact RS6.out.row (M5b.out k h3 (by omega)) (by decide)
            · have e1 : (rs ++ [Value.slice y5 lk.length c5])[k] = Value.slice y5 lk.length c5 := by rw [List.getElem_append_right h3]; simp
              have e2 : (ls ++ [lk])[k] = lk := by rw [List.getElem_append_right (by omega)]; simp
              rw [e1, e2]
              exact RS6.out.row P5.out (by decide))
        go_roundw
        case rel => exact ⟨i + 1, tbs ++ [tb], ls ++ [lk], rs ++ [.slice y5 lk.length c5], by omega, by go_num, by simpa using M6⟩
        case measure => simp [RowKit.intOf]; omega
      · unfold buildV at BU
        rw [if_neg hf] at BU
        have LF : Hid ((A.take (i + 1)).filter (fun l => decide (fitE l)) = ls) := hid (by rw [TK.out, List.filter_append, ← HM.out.lsE]; simp [hf])
        clear hf TK XK
        go_wp2_with fail
        refine BU.out.mono ?_
        rintro e w2 ⟨rfl, t2⟩
        have M2 : Hid (MS W1 w2 A (i + 1) (.slice y9 tbs.length c9) (.slice y10 rs.length c10) tbs ls rs) := hid (by
          have h := HM.out.t0 t2
          exact ⟨LF.out.symm, h.n1, h.n2, h.tab, h.ref, h.r9, h.r10, h.t⟩)
        clear t2 BU HM ek
        go_wp2
        go_roundw
        case rel => exact ⟨i + 1, tbs, ls, rs, by omega, by go_num, M2⟩
        case measure => simp [RowKit.intOf]; omega
    · obtain rfl : i = 3 := by omega
      have hlt2 : decide (3 < 3) = false := by decide
      have LA : Hid (ls = A.filter fun l => decide (fitE l)) := hid (by rw [HM.out.lsE, List.take_of_length_le (by have := HA3.out; omega)])
      have FL : Hid (∀ l ∈ ls, fitE l ∧ l.length ≤ 30) := hid fun l hl => by
        rw [LA.out, List.mem_filter] at hl
        refine ⟨by simpa using hl.2, ?_⟩
        obtain ⟨k, hk, rfl⟩ := List.mem_iff_getElem.1 hl.1
        obtain ⟨_, _, h1, _⟩ := AR.out k hk
        exact h1
      have hls : ls.length ≤ 3 := by rw [LA.out]; exact Nat.le_trans (List.length_filter_le _ _) (by have := HA3.out; omega)
      have hflat : Hid (ls.flatten.length ≤ 90) := hid (by have := flat_le30 (fun l hl => (FL.out l hl).2); omega)
      have hn9 : tbs.length ≤ 3 := by rw [HM.out.n1]; exact hls
      have SZ := hid HM.out.t.size
      clear AR LA
      cases none' with
      | true =>
        go_wp2_with (at_builtin; refine wpList_append_grew _ rfl _ _ TPs rfl W1.heap.size TPt i0 (.pointer none) 1 8 Tryz.underlying66 hi hz0 hz1 hz2 rfl (by decide) _ tbs.length (tbs.map fun b => .pointer (some ⟨b, 0, none⟩)) rfl (HM.out.r9.alloc _) (.slice (some ⟨wr.heap.size, 0, none⟩) 1 1) 1 0 [.pointer none] rfl (lit_one _ _ _ _ rfl) (by intro u hu; simp at hu; subst hu; rfl) (by omega) (by decide) (by have := SZ.out; simp; omega) ?_; intro y4 cap4 w4 hG; have G4 := hid hG; clear hG)
        have T4 : Hid (Touch [] W1 w4) := hid (G4.out.touch (HM.out.r9.alloc _) (HM.out.t.alloc _) (Nat.le_refl _))
        have RP : RowP w4 y4 ((tbs.map fun b => (some ⟨b, 0, none⟩ : Option Addr)) ++ [none]) := by
          refine row_rowP (w := w4) (base := W1.heap.size) (n := tbs.length + 1) (m := tbs.length + 1) (c := cap4) ?_
          have := G4.out.own
          rw [List.map_append, List.map_map]
          exact this
        have MB := merge_bad y4 cap4 ((tbs.map fun b => (some ⟨b, 0, none⟩ : Option Addr)) ++ [none]) w4 (by simp; omega) RP (by simp)
        have e9 : ((tbs.map fun b => (some ⟨b, 0, none⟩ : Option Addr)) ++ [none]).length = tbs.length + 1 := by simp
        rw [e9] at MB
        clear e9
        have MBH := hid MB
        clear RP MB G4
        refine MBH.out.mono ?_
        rintro e w5 ⟨rfl, rfl⟩
        clear MBH
        go_wp2_with fail
        obtain ⟨kb, hkb⟩ : ∃ kb, kb = w5.heap.size := ⟨_, rfl⟩
        obtain ⟨W5, hW5⟩ : ∃ V, V = w5.alloc (.cells #[nilS, nilS, nilS, nilS, nilS, nilS, nilS, nilS, nilS, nilS, nilS, nilS] TBook) := ⟨_, rfl⟩
        have K5 : Hid (KBk W5 W1.heap.size kb 0 0 [nilS] []) := hid (KBk.start2 (by rw [hkb]; exact T4.out.size) (by rw [hW5, hkb]; exact heap_alloc_new _ _) _ _)
        have T5 : Hid (Touch [] W1 W5) := hid (by rw [hW5]; exact T4.out.alloc _)
        rw [← hW5, ← hkb]
        clear hW5 hkb
        have PA := hid (K5.out.putE (L := []) (bv := W1.heap.size) (World.ownsRow_nil _ _ _ _) (Nat.le_refl _) (fun p hp => by simp at hp) (by omega) (by simp) T5.out.size)
        refine PA.out.mono ?_
        rintro e w6 ⟨rfl, r6, n6, s6, k6⟩
        have T6 := hid (n6 W1 T5.out (Nat.le_refl _))
        clear r6 n6 s6 k6 PA K5 T4 T5
        have LT := hid (tblast_any (p := none) (l := []) 0 (w := w6) (.inl ⟨rfl, rfl⟩) (by simp [SortedE]) (by intro x hx; simp at hx) (by simp))
        have hle : lastE [] 0 = none := rfl
        rw [hle] at LT
        unfold lastV enV at LT
        dsimp only [Option.getD, Option.isSome] at LT
        go_wp2_with fail
        refine LT.out.mono ?_
        rintro e w7 ⟨rfl, t7⟩
        have T7 := hid (T6.out.trans t7 (by simp))
        clear t7 LT
        have ZT : ∀ w, TblAt w none [] := fun w => .inl ⟨rfl, rfl⟩
        have FT0 : OkM [] := by intro x hx; simp at hx
        have ST0 : SortedE [] := by simp [SortedE]
        have LN := hid (fun w => tblen_any (w := w) (ZT w))
        have LL := hid (fun w => tball_any (w := w) (ZT w) (by simp))
        have LM := hid (fun w => tbmids_any (w := w) (ZT w) (by simp))
        have LF := hid (fun w => tbfind_any 1 1 (w := w) (ZT w) ST0 FT0 (by simp))
        have LR := hid (fun w => tbrange_any 1 0 9 (w := w) (ZT w) ST0 FT0 (by simp))
        go_wp2_with fail
        refine (LN.out _).mono ?_
        rintro e w8 ⟨rfl, h8⟩
        subst h8
        go_wp2_with fail
        refine (LL.out _).mono ?_
        rintro e w9 ⟨u9, rfl, o9, t9⟩
        obtain ⟨yy, cy, rfl, -, -⟩ := slice_form o9
        have T9 := hid (T7.out.trans ((Touch.refl [] _).alloc _ |>.trans t9 (by simp)) (by simp))
        clear o9 t9
        go_wp2_with fail
        refine (LM.out _).mono ?_
        rintro e w10 ⟨u10, rfl, o10, t10⟩
        obtain ⟨yy2, cy2, rfl, -, -⟩ := slice_form o10
        have T10 := hid (T9.out.trans t10 (by simp))
        clear o10 t10
        go_wp2_with fail
        refine (LF.out _).mono ?_
        rintro e w11 ⟨u11, rfl, o11, t11⟩
        obtain ⟨yy3, cy3, rfl, -, -⟩ := slice_form o11
        have T11 := hid (T10.out.trans t11 (by simp))
        clear o11 t11
        go_wp2_with fail
        refine (LR.out _).mono ?_
        rintro e w12 ⟨u12', rfl, o12, t12⟩
        obtain ⟨yy4, cy4, rfl, -, -⟩ := slice_form o12
        have T12 := hid (T11.out.trans t12 (by simp))
        clear o12 t12
        have z1 : (midsE []).length = 0 := rfl
        have z2 : (List.filter (isHV 1 1) []).length = 0 := rfl
        have z3 : (rngL [] 1 0 9).length = 0 := rfl
        go_wp2
        go_ret
        have w0 : wrap64 0 = 0 := by unfold wrap64; omega
        refine ⟨?_, T2.out.trans T12.out (by simp)⟩
        show Ending.returned (.bool (wrap64 (wrap64 (wrap64 0)) == 0)) = _
        rw [w0, w0, w0]
        rfl
      | false =>
        have PN : none ∉ (tbs.map fun b => (some ⟨b, 0, none⟩ : Option Addr)) := by simp
        have TP : TblsP wr y9 c9 (tbs.map fun b => (some ⟨b, 0, none⟩ : Option Addr)) ls := by
          refine ⟨row_rowP (w := wr) (base := W1.heap.size) (n := tbs.length) (m := tbs.length) (c := c9) (by rw [List.map_map]; exact HM.out.r9), by rw [List.length_map]; exact row_cap HM.out.r9, by rw [List.length_map]; exact HM.out.n1.symm, fun k h1 h2 => ?_, fun l hl => (FL.out l hl).1.2, by have := hflat.out; omega⟩
          rw [List.getElem_map]
          exact (HM.out.tab k (by simpa using h1) h2).at
        have MG := merge_good y9 c9 _ ls wr (by rw [List.length_map]; omega) TP PN
        rw [List.length_map] at MG
        have MGH := hid MG
        have REF := hid HM.out.ref
        have R10 := hid HM.out.r10
        have RN := hid HM.out.n2
        have T0 := hid HM.out.t
        clear PN TP MG HM
        go_wp2_with fail
        refine MGH.out.mono ?_
        rintro e w5 ⟨u5, m, rfl, hm⟩
        have M5 := hid hm
        obtain ⟨y5, c5, rfl, -, -⟩ := slice_form hm.row
        have T4 : Hid (Touch [] W1 w5) := hid (T0.out.trans hm.t (by simp))
        have Q5 := hid (own_up (base' := W1.heap.size) hm.row T0.out.size)
        have hml : m.length ≤ 90 := Nat.le_trans hm.len hflat.out
        have EQ : Hid (addAll [] ls.flatten = m) := hid (sorted_ext (sorted_addAll _ (by simp [SortedE])) hm.s (fun z => by
          rw [mem_addAll, hm.mem]
          constructor
          · rintro (h | h)
            · simp at h
            · exact h.1
          · intro h
            refine .inr ⟨h, ?_⟩
            obtain ⟨l, hl, hz⟩ := List.mem_flatten.1 h
            exact OkM.ok (FL.out l hl).1.1 z hz))
        clear hm MGH
        go_wp2_with fail
        obtain ⟨kb, hkb⟩ : ∃ kb, kb = w5.heap.size := ⟨_, rfl⟩
        obtain ⟨W5, hW5⟩ : ∃ V, V = w5.alloc (.cells #[nilS, nilS, nilS, nilS, nilS, nilS, nilS, nilS, nilS, nilS, nilS, nilS] TBook) := ⟨_, rfl⟩
        have K5 : Hid (KBk W5 W1.heap.size kb 0 0 [.slice y5 m.length c5] []) := hid (KBk.start2 (by rw [hkb]; exact T4.out.size) (by rw [hW5, hkb]; exact heap_alloc_new _ _) _ _)
        have T5 : Hid (Touch [] W1 W5) := hid (by rw [hW5]; exact T4.out.alloc _)
        have Q6 : Hid (W5.ownsRow W1.heap.size TEn 3 (.slice y5 m.length c5) m.length (envals m)) := hid (by rw [hW5]; exact Q5.out.alloc _)
        have TW5 : Touch [] wr W5 := by rw [hW5]; exact M5.out.t.alloc _
        rw [← hW5, ← hkb]
        clear hW5 hkb Q5
        have PA := hid (K5.out.putE (L := m) (bv := W1.heap.size) Q6.out (Nat.le_refl _) (fun p hp => by simp at hp) (by omega) (by omega) T5.out.size)
        refine PA.out.mono ?_
        rintro e w6 ⟨rfl, r6, n6, s6, k6⟩
        have T6 := hid (n6 W1 T5.out (Nat.le_refl _))
        have Q7 := hid (r6.row Q6.out (by decide))
        have K6 := hid k6
        have LX6 : Hid (ListsX w6 y10 ls) := hid (lists_rows (r6.row (owns_touch R10.out TW5) (by decide)) RN.out (fun k h1 h2 => r6.row (owns_touch (REF.out k h1 h2) TW5) (by decide)))
        have RM := hid (refMerge_any y10 c10 ls w6 LX6.out (by omega) (by have := hflat.out; omega))
        rw [EQ.out] at RM
        rw [← RN.out] at RM
        clear r6 n6 s6 k6 PA K5 T4 T5 Q6 TW5 R10 REF LX6 EQ M5
        go_wp2_with fail
        refine RM.out.mono ?_
        rintro e w7 ⟨u7, rfl, o7, t7⟩
        obtain ⟨y7, c7, rfl, -, -, -, -, E7⟩ := entX_ownT o7
        have RL := hid (real_any y7 c7 m w7 E7 (by omega))
        have T7 := hid t7
        clear o7 t7 RM E7
        go_wp2_with fail
        refine RL.out.mono ?_
        rintro e w8 ⟨u8, rfl, o8, t8⟩
        have T8 := hid (T7.out.trans t8 (by simp))
        have SE := hid (sameE_rows (owns_touch Q7.out T8.out) o8 (by omega))
        clear o8 t8 RL T7
        go_wp2_with fail
        refine SE.out.mono ?_
        rintro e w9 ⟨rfl, t9⟩
        have T9 := hid (T8.out.trans t9 (by simp))
        have T69 := hid (T6.out.trans T9.out (by simp))
        have AP := hid ((K6.out.touch T9.out).apart T69.out.size)
        clear t9 SE T8
        go_wp2_with fail
        refine AP.out.mono ?_
        rintro e w10 ⟨rfl, n10⟩
        have T10 := hid (n10 W1 T69.out (Nat.le_refl _))
        clear n10 AP
        go_wp2
        go_ret
        exact ⟨rfl, T2.out.trans T10.out (by simp)⟩

theorem merges_long (xa xb xc : Option Addr) (ca cb cc : Nat) (a b c : List En) (none' : Bool) (W : World) (h : 30 < a.length ∨ (a.length ≤ 30 ∧ 30 < b.length) ∨ (a.length ≤ 30 ∧ b.length ≤ 30 ∧ 30 < c.length)) :
    Calls Tryz.prog 4 #[.slice xa a.length ca, .slice xb b.length cb, .slice xc c.length cc, .bool none'] W fun e w' => e = .returned (.bool true) ∧ Touch [] W w' := by
  have AL := hid (fun w => alive13_true w)
  rcases h with h1 | ⟨h1, h2⟩ | ⟨h1, h2, h3⟩
  · have d1 : decide (30 < a.length) = true := by simpa using h1
    have i1 : (30 : Int) < a.length := by omega
    go_enter Tryz.func4, Tryz.ntmps4
    go_wp2_with (go_at_call 5; refine (AL.out _).mono ?_; rintro e w1 ⟨rfl, t1⟩)
    go_ret
    exact ⟨rfl, t1⟩
  · have d1 : decide (30 < a.length) = false := by simpa using h1
    have d2 : decide (30 < b.length) = true := by simpa using h2
    have i1 : ¬ (30 : Int) < a.length := by omega
    have i2 : (30 : Int) < b.length := by omega
    go_enter Tryz.func4, Tryz.ntmps4
    go_wp2_with (go_at_call 5; refine (AL.out _).mono ?_; rintro e w1 ⟨rfl, t1⟩)
    go_ret
    exact ⟨rfl, t1⟩
  · have d1 : decide (30 < a.length) = false := by simpa using h1
    have d2 : decide (30 < b.length) = false := by simpa using h2
    have d3 : decide (30 < c.length) = true := by simpa using h3
    have i1 : ¬ (30 : Int) < a.length := by omega
    have i2 : ¬ (30 : Int) < b.length := by omega
    have i3 : (30 : Int) < c.length := by omega
    go_enter Tryz.func4, Tryz.ntmps4
    go_wp2_with (go_at_call 5; refine (AL.out _).mono ?_; rintro e w1 ⟨rfl, t1⟩)
    go_ret
    exact ⟨rfl, t1⟩
theorem walk_TableMerges (v0 : Value) (a : List En) (v1 : Value) (b : List En) (v2 : Value) (c : List En) (n : Bool) (W : World) (h0 : Ents W v0 a) (h1 : Ents W v1 b) (h2 : Ents W v2 c) :
    Calls Tryz.prog 4 #[v0, v1, v2, .bool n] W fun e W' => e = .returned (.bool true) ∧ Touch [] W W' := by
  obtain ⟨xa, ca, rfl, _, hA⟩ := h0
  obtain ⟨xb, cb, rfl, _, hB⟩ := h1
  obtain ⟨xc, cc, rfl, _, hC⟩ := h2
  by_cases l1 : 30 < a.length
  · exact merges_long xa xb xc ca cb cc a b c n W (.inl l1)
  · by_cases l2 : 30 < b.length
    · exact merges_long xa xb xc ca cb cc a b c n W (.inr (.inl ⟨by omega, l2⟩))
    · by_cases l3 : 30 < c.length
      · exact merges_long xa xb xc ca cb cc a b c n W (.inr (.inr ⟨by omega, by omega, l3⟩))
      · exact merges_in xa xb xc ca cb cc a b c n W hA hB hC (by omega) (by omega) (by omega)
end Go.Proofs.YtdjcpdlfapfmkaaGreat
