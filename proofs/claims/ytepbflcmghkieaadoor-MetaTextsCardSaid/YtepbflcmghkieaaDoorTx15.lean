/- meta.Text. -/
import Derived.Test.YtepbflcmghkieaaDoorPt15
import Derived.Deep.RegionLaw
namespace Go.Proofs.YtepbflcmghkieaaDoor
open Go.RowKit Go.Lib
set_option maxRecDepth 100000

def textV (m : MetaD) : Value := if okM m = true then .tuple #[.string (txt (textL m)), .int .i64 0] else .tuple #[.string ⟨#[]⟩, .int .i64 1]
theorem text_bad (m : MetaD) (w : World) (h : okM m = false) : Calls Tryd.prog 8 #[metaV m.1 m.2.1 m.2.2] w fun e w' => e = .returned (textV m) ∧ Touch [] w w' := by
  have hv : textV m = .tuple #[.string ⟨#[]⟩, .int .i64 1] := by unfold textV; rw [if_neg (by rw [h]; decide)]
  rw [hv]
  have C := hid fun W => evValidMeta_any m.1 m.2.1 m.2.2 W
  have h2 : validM m.1 m.2.1 m.2.2 = false := h
  rw [h2] at C
  unfold metaV at *
  clear h h2 hv
  obtain ⟨a, b, c⟩ := m
  dsimp only at *
  go_enter Tryd.func8, Tryd.ntmps8
  go_wp2_with (go_at_call 16; refine (C.out _).mono ?_; rintro e w1 ⟨rfl, t1⟩; have T1 := hid (((Touch.refl [] w).alloc _).trans t1 (by simp)); clear t1)
  go_ret2
  exact ⟨rfl, T1.out⟩
theorem text_none (w : World) : Calls Tryd.prog 8 #[metaV 0 0 0] w fun e w' => e = .returned (textV (0, 0, 0)) ∧ Touch [] w w' := by
  have hv : textV (0, 0, 0) = .tuple #[.string ⟨#[45]⟩, .int .i64 0] := by unfold textV; rw [if_pos (by decide)]; rfl
  rw [hv]
  have C := hid fun W => evValidMeta_any 0 0 0 W
  rw [show validM 0 0 0 = true by decide] at C
  unfold metaV at *
  have K : Hid (∀ W, Touch [] (w.alloc (.cells #[.int .i64 0, .int .i64 0, .int .i64 0] TMeta)) W → W.cell? ⟨w.heap.size, 0, none⟩ = some (.int .i64 0) ∧ W.cell? ⟨w.heap.size, 1, none⟩ = some (.int .i64 0) ∧ W.cell? ⟨w.heap.size, 2, none⟩ = some (.int .i64 0)) := hid fun W t => by
    have := touch_other t (heap_alloc_new w _) (by simp)
    exact ⟨cell_of this 0, cell_of this 1, cell_of this 2⟩
  go_enter Tryd.func8, Tryd.ntmps8
  go_wp2_with (go_at_call 16; refine (C.out _).mono ?_; rintro e w1 ⟨rfl, t1⟩; have T1 := hid (((Touch.refl [] w).alloc _).trans t1 (by simp)); obtain ⟨k0, k1, k2⟩ := K.out _ t1; clear t1)
  go_ret2
  exact ⟨rfl, T1.out⟩
theorem not_zero_dec {m : MetaD} (h : m ≠ (0, 0, 0)) : decide ((m.1 = 0 ∧ m.2.1 = 0) ∧ m.2.2 = 0) = false := by
  rw [decide_eq_false_iff_not]
  rintro ⟨⟨h1, h2⟩, h3⟩
  exact h (Prod.ext h1 (Prod.ext h2 h3))
theorem run_eql_meta (m : MetaD) (h : m ≠ (0, 0, 0)) (W : World) : (binOp .eql TMeta (.agg #[.int .i64 m.1, .int .i64 m.2.1, .int .i64 m.2.2]) (.agg #[.int .i64 0, .int .i64 0, .int .i64 0])).run Tryd.prog W = .ok (.bool false) W := by
  simp [go_sem]
  exact fun h1 h2 h3 => h (Prod.ext h1 (Prod.ext h2 h3))
theorem vk_great {m : MetaD} (h : okM m = true) (k : Nat) : 0 ≤ vk m k ∧ vk m k ≤ 1099511627776 := by
  obtain ⟨h1, h2, h3⟩ := okM_iff.1 h
  match k with
  | 0 => exact h1
  | 1 => exact h2
  | (_ + 2) => exact h3
theorem word_cat (p : List UInt8) (v : Int) : (txt p) ++ (⟨(itoa v).toArray⟩ : ByteArray) = txt (p ++ itoa v) := by
  refine (arr_eq ?_).trans rfl
  simp [txt]
theorem word_row (w : World) (s : ByteArray) (n : Nat) (h : n = w.heap.size) : (w.alloc (.cells #[.string s] TStr)).ownsRow 0 TStr 1 (.slice (some ⟨n, 0, none⟩) 1 1) 1 (svals [s]) := by
  subst h
  exact World.ownsRow_lit w (svals [s]).toArray 1 (Nat.zero_le _) (by decide) rfl
theorem pk_size (k : Nat) : (txt (pk k)).size ≤ 7 := by
  rw [txt_size]
  match k with
  | 0 => decide
  | 1 => decide
  | (_ + 2) => exact Nat.le_refl 7
/-- The words up to the k-th part, as a row of one's own. -/
structure TxR (w : World) (m : MetaD) (k : Nat) (u : Value) (wr : World) : Prop where
  own : wr.ownsRow w.heap.size TStr 1 u (wsk m k).length (svals (wsk m k))
  t : Touch [] w wr
theorem txR_next {w2 w3 w5 : World} {m : MetaD} {k n cap : Nat} {v : Value} {y : Option Addr} {wl : List ByteArray} {s s' : ByteArray} {o : Obj} (hG : Grew (w3.alloc o) w5 w2.heap.size TStr 1 v (.slice y (n + 1) cap) n 1 (svals wl) (svals [s]))
    (hv : w3.ownsRow w2.heap.size TStr 1 v n (svals wl)) (t : Touch [] w2 w3) (hs : s = s') (hw : wsk m (k + 1) = wl ++ [s']) : TxR w2 m (k + 1) (.slice y (n + 1) cap) w5 := by
  subst hs
  have hn : n = wl.length := by have := hv.1; rw [svals_len] at this; omega
  subst hn
  refine ⟨?_, hG.touch (hv.alloc _) (t.alloc _) (Nat.le_refl _)⟩
  have := hG.own
  rw [svals_app] at this
  rw [hw]
  simpa using this
set_option maxHeartbeats 4000000 in
theorem text_good (m : MetaD) (w : World) (htab : Tab w) (h : okM m = true) (hm : m ≠ (0, 0, 0)) : Calls Tryd.prog 8 #[metaV m.1 m.2.1 m.2.2] w fun e w' => e = .returned (textV m) ∧ Touch [] w w' := by
  have hv : textV m = .tuple #[.string (txt (joinL (partsT m))), .int .i64 0] := by unfold textV textL; rw [if_pos h, if_neg hm]
  rw [hv]
  have C := hid fun W => evValidMeta_any m.1 m.2.1 m.2.2 W
  rw [show validM m.1 m.2.1 m.2.2 = true from h] at C
  have hz := run_eql_meta m hm
  obtain ⟨i0, hi, hz0, hz1, hz2⟩ := info_parts infoStrP
  have GR := hid (vk_great h)
  have hne : wsk m 3 ≠ [] := fun e => by rw [wsk_all] at e; exact parts_ne hm (by rw [← parts_lists, e]; rfl)
  have HN := hid hne
  obtain ⟨W0, hW0⟩ : ∃ W0, W0 = w.alloc (.cells #[.int .i64 m.1, .int .i64 m.2.1, .int .i64 m.2.2] TMeta) := ⟨_, rfl⟩
  have B0 : MetaB W0 w.heap.size m := by rw [hW0]; exact heap_alloc_new w _
  have T0 : Touch [] w W0 := by rw [hW0]; exact (Touch.refl [] w).alloc _
  have K := hid fun W (t : Touch [] W0 W) => (⟨(B0.t t).at (k := 0) (by decide), (B0.t t).at (k := 1) (by decide), (B0.t t).at (k := 2) (by decide)⟩ : W.cell? ⟨w.heap.size, 0, none⟩ = some (.int .i64 m.1) ∧ W.cell? ⟨w.heap.size, 1, none⟩ = some (.int .i64 m.2.1) ∧ W.cell? ⟨w.heap.size, 2, none⟩ = some (.int .i64 m.2.2))
  have KB := hid fun W (t : Touch [] W0 W) => B0.t t
  have CP := hid fun W => parts_any w.heap.size W
  have hx : w.heap.size < W0.heap.size := by rw [hW0]; simp
  have TW := hid T0
  have HX := hid hx
  have CJ : Hid (∀ u W n, W.ownsRow n TStr 1 u (wsk m 3).length (svals (wsk m 3)) → ∃ g cap, u = .slice (some ⟨g, 0, none⟩) (wsk m 3).length cap ∧ Calls Tryd.prog 19 #[.slice (some ⟨g, 0, none⟩) (wsk m 3).length cap, .string ⟨#[32]⟩] W fun e w' => e = .returned (.string (txt (joinL (partsT m)))) ∧ Below W.heap.size W w') := hid (by
    intro u W n hv
    have hln : (joinL (partsT m)).length ≤ 100 := by
      have h1 : ∀ s ∈ partsW m, s.length ≤ 28 := fun s hs => by
        have f : ∀ (p : List UInt8) (v : Int), p.length ≤ 7 → 0 ≤ v → v ≤ 1099511627776 → ∀ s ∈ wordOf p v, s.length ≤ 28 := fun p v hp h0 h1 s hs => by
          unfold wordOf at hs
          split at hs
          · cases hs
          · obtain rfl := List.mem_singleton.1 hs
            have := itoa_len v (by omega) (by omega)
            rw [List.length_append]; omega
        have g := GR.out
        unfold partsW at hs
        rcases List.mem_append.1 hs with hs | hs
        · rcases List.mem_append.1 hs with hs | hs
          · exact f _ _ (by decide) (g 0).1 (g 0).2 s hs
          · exact f _ _ (by decide) (g 1).1 (g 1).2 s hs
        · exact f _ _ (by decide) (g 2).1 (g 2).2 s hs
      have h2 := wsk_len m 3
      rw [wsk_all] at h2
      have h3 : ∀ l : List ByteArray, (∀ s ∈ l, s.data.toList.length ≤ 28) → (joinL l).length ≤ l.length * 29 := by
        intro l
        induction l with
        | nil => intro _; simp [joinL, Lib.join]
        | cons s l ih =>
          intro hs
          cases l with
          | nil => rw [joinL_one]; have := hs s (by simp); simp only [List.length_cons, List.length_nil]; omega
          | cons t l =>
            have := ih (fun x hx => hs x (by simp [hx]))
            have := hs s (by simp)
            rw [joinL_cons, List.length_append, List.length_cons]
            simp only [List.length_cons] at *
            omega
      have h4 := h3 (partsT m) (fun s hs => h1 _ (by rw [← parts_lists]; exact List.mem_map_of_mem hs))
      omega
    rcases hv.2 with ⟨rfl, h0⟩ | ⟨g, cap, cur, rfl, hb, hh, hc, hmx, _, ht⟩
    · exact absurd (List.eq_nil_of_length_eq_zero h0) HN.out
    · refine ⟨g, cap, rfl, ?_⟩
      have hl3 := wsk_len m 3
      have := Tryd.strings_Join g 0 cap (wsk m 3) ⟨#[32]⟩ W (fun j x hx => by
        have h := hv.cells (g := g) rfl j (.string x) (by unfold svals; rw [List.getElem?_map, hx]; rfl)
        rwa [show (⟨g, 0, none⟩ : Addr).add j = ⟨g, 0 + j, none⟩ from by unfold Addr.add; split <;> simp_all] at h) (lt_of_block hh) (by omega) hc (by rw [wsk_all]; show (joinL (partsT m)).length ≤ _; omega)
      rw [wsk_all] at this ⊢
      exact this)
  have CD : Hid (∀ (v : Int) W, 0 ≤ v → v ≤ 1099511627776 → Touch [] w W → Calls Tryd.prog 18 #[.int .i64 v] W fun e w' => e = .returned (.string ⟨(itoa v).toArray⟩) ∧ Touch [] W w') := hid fun v W h0 h1 t => digits_any v W (by omega) (by omega) (htab.touch t)
  have WS : Hid (∀ k, (wsk m k).length ≤ k) := hid (wsk_len m)
  have WN : Hid (∀ k, wsk m (k + 1) = wsk m k ++ (wordOf (pk k) (vk m k)).map txt) := hid fun k => rfl
  have VK := hid (fun k => (rfl : vk m k = vk m k))
  unfold metaV at *
  clear h hm hv hne B0 T0 hx htab
  generalize txt (joinL (partsT m)) = out at *
  obtain ⟨x0, hx0⟩ : ∃ x0, x0 = w.heap.size := ⟨_, rfl⟩
  go_enter Tryd.func8, Tryd.ntmps8
  go_upto_region 1 with fail
  rw [← hW0]
  clear hW0
  have KK := K.out _ (Touch.refl [] W0)
  obtain ⟨k0, k1, k2⟩ := KK
  go_wp2_with (first
    | (go_at_call 16; refine (C.out _).mono ?_; rintro e w1 ⟨rfl, t1⟩; have T1 := hid t1; obtain ⟨q0, q1, q2⟩ := K.out _ t1; clear t1)
    | (go_at_call 17; refine (CP.out _).mono ?_; rintro e w2 ⟨rfl, p2, t2⟩; have P2 := hid p2; have T2 := hid (T1.out.trans t2 (by simp)); clear p2 t2))
  go_loopw [4, 15] (fun lv iv wr => ∃ k : Nat, k ≤ 3 ∧ iv = .int .i64 k ∧ Hid (TxR w2 m k lv wr)) (fun _ iv _ => 3 - (RowKit.intOf iv).toNat)
  case atStart => exact ⟨0, Nat.zero_le _, rfl, hid ⟨World.ownsRow_nil _ _ _ _, Touch.refl [] _⟩⟩
  case round =>
    obtain ⟨k, hk, rfl, HR⟩ := hrel
    have HT := hid HR.out.t
    by_cases hlt : k < 3
    · have hlt2 : decide (k < 3) = true := by simpa using hlt
      have hI : (k : Int) < 3 := by omega
      have TWr := hid (T2.out.trans HT.out (by simp))
      obtain ⟨e0, e1⟩ := parts_at (touch_other HT.out P2.out (by simp)) hlt
      have e2 := (KB.out _ TWr.out).at hlt
      obtain ⟨v0, v1⟩ := GR.out k
      have WNk := hid (WN.out k)
      have HP := hid (pk_size k)
      have hwl := WS.out k
      have HR0 := hid HR.out
      clear HR P2
      generalize vk m k = v at *
      generalize pk k = p at *
      obtain ⟨W1, hW1⟩ : ∃ W1, W1 = wr.alloc (.cells #[.string (txt p), .pointer (some ⟨w.heap.size, k, none⟩)] TPart) := ⟨_, rfl⟩
      have t1 : Touch [] wr W1 := by rw [hW1]; exact (Touch.refl [] wr).alloc _
      have B1 : W1.heap[wr.heap.size]? = some (.cells #[.string (txt p), .pointer (some ⟨w.heap.size, k, none⟩)] TPart) := by rw [hW1]; exact heap_alloc_new wr _
      have c0 := cell_of B1 0
      have c1 := cell_of B1 1
      have c2 := t1.cell e2
      have KX := hid fun W (t : Touch [] W1 W) => (⟨t.cell c0, t.cell c1, t.cell c2⟩ : W.cell? ⟨wr.heap.size, 0, none⟩ = some (.string (txt p)) ∧ W.cell? ⟨wr.heap.size, 1, none⟩ = some (.pointer (some ⟨w.heap.size, k, none⟩)) ∧ W.cell? ⟨w.heap.size, k, none⟩ = some (.int .i64 v))
      have TR1 := hid (TWr.out.trans t1 (by simp))
      have TW1 := hid ((TW.out.trans T2.out (by simp)).trans (HR0.out.t.trans t1 (by simp)) (by simp))
      have OW1 := hid (owns_touch HR0.out.own t1)
      have TH1 := hid (HT.out.trans t1 (by simp))
      have hd : v ≤ 9223372036854775807 := by omega
      have hd0 : -9223372036854775808 ≤ v := by omega
      clear t1 B1 HT
      go_upto_region 9 with fail
      rw [← hW1]
      clear hW1 e0 e1 e2
      by_cases hz0' : v = 0
      · have hb : (v != 0) = false := by simpa using hz0'
        have WX : Hid (wsk m (k + 1) = wsk m k) := hid (by rw [WNk.out]; unfold wordOf; rw [if_pos hz0']; simp)
        clear hz0' WNk
        go_wp2
        go_roundw
        case rel => exact ⟨k + 1, by omega, by go_num, hid ⟨by rw [WX.out]; exact OW1.out, TH1.out⟩⟩
        case measure => simp [RowKit.intOf]; omega
      · have hb : (v != 0) = true := by simpa using hz0'
        have WX : Hid (wsk m (k + 1) = wsk m k ++ [txt (p ++ itoa v)]) := hid (by rw [WNk.out]; unfold wordOf; rw [if_neg hz0']; simp)
        have hsz : (⟨(itoa v).toArray⟩ : ByteArray).size ≤ 21 := itoa_len v hd0 hd
        have hs2 : ¬ 9223372036854775807 < (txt p).size + (⟨(itoa v).toArray⟩ : ByteArray).size := by have := HP.out; omega
        have hcat : Hid ((txt p) ++ (⟨(itoa v).toArray⟩ : ByteArray) = txt (p ++ itoa v)) := hid (word_cat p v)
        have CDv := hid fun W t => CD.out v W v0 v1 t
        have hwk : (wsk m k).length ≤ 3 := by omega
        obtain ⟨yu, cu, hyu, -, -⟩ := slice_form OW1.out
        subst hyu
        clear hz0' WNk CD WS WN CJ HR0
        generalize wsk m k = wl at *
        generalize (⟨(itoa v).toArray⟩ : ByteArray) = dg at *
        go_upto_region 10 with fail
        go_region_law (first
          | (refine step_call _ rfl (f := 18) (args := #[.int .i64 v]) (by (simp [go_sem, Act.eval]; done)) (CDv.out W1.drew TW1.out.drew) ?_; rintro e w3 ⟨rfl, t3⟩; have T3 := hid ((Touch.refl [] W1).drew.trans t3 (by simp)); obtain ⟨z0, z1, z2⟩ := KX.out _ T3.out; clear t3; refine ⟨_, rfl, ?_⟩)
          | (refine step_append_row _ rfl (.tmp 24) (.tmp 33) 40 rfl w2.heap.size TStr i0 (.string ⟨#[]⟩) 16 Tryd.underlying40 hi hz0 hz1 hz2 rfl (.slice yu wl.length cu) wl.length (svals wl) (by simp [Act.eval]) ((owns_touch OW1.out T3.out).alloc _) w3.heap.size 1 1 0 (svals [txt p ++ dg]) (by simp [Act.eval]) (word_row w3 _ _ rfl) (svals_one _) (by omega) (by decide) (by have := TH1.out.size; have := T3.out.size; simp; omega) ?_; intro y cap w5 hG; have G5 := hid hG; clear hG)
          | fail)
        go_wp2
        all_goals go_roundw
        all_goals try simp only [RowKit.intOf]
        all_goals try omega
        all_goals have RO := txR_next G5.out (owns_touch OW1.out T3.out) (TH1.out.trans T3.out (by simp)) hcat.out WX.out
        all_goals first
          | exact ⟨k + 1, by omega, by go_num, hid RO⟩
          | exact ⟨⟨k + 1, by omega, by go_num, hid RO⟩, by omega⟩
    · obtain rfl : k = 3 := by omega
      have hlt2 : decide (3 < 3) = false := by simp
      obtain ⟨g, cap, hu, CJ2⟩ := CJ.out _ _ _ HR.out.own
      subst hu
      have T3 := hid ((TW.out.trans T2.out (by simp)).trans HR.out.t (by simp))
      have CJ3 := hid CJ2
      clear CJ CJ2 HR HT
      go_wp2_with (go_at_call 19; refine CJ3.out.mono ?_; rintro e w4 ⟨rfl, b4⟩; have T4 := hid (T3.out.trans (Touch.of_below b4) (by simp)); clear b4)
      go_ret2
      exact ⟨rfl, T4.out⟩
theorem metaText_any (m : MetaD) (w : World) (htab : Tab w) : Calls Tryd.prog 8 #[metaV m.1 m.2.1 m.2.2] w fun e w' => e = .returned (textV m) ∧ Touch [] w w' := by
  by_cases h : okM m = true
  · by_cases hm : m = (0, 0, 0)
    · subst hm; exact text_none w
    · exact text_good m w htab h hm
  · exact text_bad m w (by simpa using h)
end Go.Proofs.YtepbflcmghkieaaDoor
