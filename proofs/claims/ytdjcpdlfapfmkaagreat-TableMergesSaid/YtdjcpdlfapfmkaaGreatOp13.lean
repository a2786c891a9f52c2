/- A table of bytes: Open. -/
import Derived.Test.YtdjcpdlfapfmkaaGreatOd13
import Derived.Test.YtdjcpdlfapfmkaaGreatSw12
namespace Go.Proofs.YtdjcpdlfapfmkaaGreat
open Go.RowKit Go.Lib Go.ChangeShapes
set_option maxRecDepth 100000

/-- A table, and the row that it has. -/
def TblR (w : World) (tb : Nat) (l : List En) : Prop := ∃ g c, w.heap[tb]? = some (.cells #[.slice (some ⟨g, 0, none⟩) l.length c] TTab) ∧ l.length ≤ c ∧ RowE w g l
theorem TblR.at {w : World} {tb : Nat} {l : List En} (h : TblR w tb l) : TblAt w (some ⟨tb, 0, none⟩) l := by
  obtain ⟨g, c, h1, h2, h3⟩ := h
  exact .inr ⟨tb, _, c, rfl, h1, ⟨h2, fun e => by cases e⟩, h3.x⟩
theorem TblR.t0 {w w' : World} {tb : Nat} {l : List En} (h : TblR w tb l) (t : Touch [] w w') : TblR w' tb l := by
  obtain ⟨g, c, h1, h2, h3⟩ := h
  exact ⟨g, c, touch_other t h1 (by simp), h2, h3.t0 t⟩
/-- The table that Open tells. -/
def OpenP (w' : World) (o : Option (List En)) (p : Option Addr) : Prop := (o = none ∧ p = none) ∨ ∃ l tb, o = some l ∧ fitE l ∧ p = some ⟨tb, 0, none⟩ ∧ TblR w' tb l
theorem replicate_cells (n : Nat) : envals (List.replicate n (0, 0, 0)) = List.replicate (n * 3) (.int .i64 0) := by
  induction n with
  | zero => rfl
  | succ n ih =>
    rw [List.replicate_succ, envals, ih, show (n + 1) * 3 = n * 3 + 1 + 1 + 1 by omega]
    rfl
theorem fill_set {r : List UInt8} {n k : Nat} (hk : k < n) : (decs k r ++ List.replicate (n - k) (0, 0, 0)).set k (decE (r.drop (24 * k))) = decs (k + 1) r ++ List.replicate (n - (k + 1)) (0, 0, 0) := by
  rw [List.set_append_right _ _ (by rw [decs_len]; omega), decs_len, Nat.sub_self, show n - k = (n - (k + 1)) + 1 by omega, List.replicate_succ, List.set_cons_zero, decs_snoc]
  simp
theorem RowE.keep {F : List Nat} {w w' : World} {g : Nat} {l : List En} (h : RowE w g l) (t : Touch F w w') (hg : g ∉ F) : RowE w' g l := by
  obtain ⟨cur, hc, r⟩ := h
  exact ⟨cur, touch_other t hc hg, r⟩
theorem InPost.take {i : Nat} {r : List UInt8} {n : Nat} {w w' : World} (h : InPost i (iTake (r, 0) n).2 w w') (hn : n ≤ r.length) : InPost i (r.drop n, 0) w w' := by
  rwa [iTake_good r n hn] at h
theorem inI64_go (i : Nat) (r : List UInt8) (w : World) (h : InIs w i (r, 0)) (hn : 8 ≤ r.length) :
    Calls Tryz.prog 44 #[.pointer (some ⟨i, 0, none⟩)] w fun e w' => e = .returned (.int .i64 (wrap64 (val (r.take 8)))) ∧ InPost i (r.drop 8, 0) w w' := by
  have := inI64_st i (r, 0) w h
  rw [iTake_good r 8 hn] at this
  exact this

theorem make_ens (n : Nat) (hn : n ≤ 100000) (w : World) : (Instr.makeSlice TEns (.int .i64 (n : Int)) (.int .i64 (n : Int))).run Tryz.prog w = .ok (.slice (some ⟨w.heap.size, 0, none⟩) n n) (w.alloc (.cells (madeCells #[.int .i64 0, .int .i64 0, .int .i64 0] (n * 3)) TEn)) := by
  obtain ⟨i0, hi, hz0, hz1, hz2⟩ := info_parts infoEn
  have := run_makeSlice (P := Tryz.prog) w TEns TEn i0 (.agg #[.int .i64 0, .int .i64 0, .int .i64 0]) Tryz.underlying22 hi hz0 .i64 .i64 (n : Int) (n : Int) (by omega) (by omega) (by rw [hz1]; omega) (by rw [hz2]; omega) (by omega)
  simp only [Int.toNat_natCast, hz1] at this
  exact this
theorem made_row (n : Nat) (w : World) : RowE (w.alloc (.cells (madeCells #[.int .i64 0, .int .i64 0, .int .i64 0] (n * 3)) TEn)) w.heap.size (List.replicate n (0, 0, 0)) := by
  refine ⟨_, heap_alloc_new w _, ?_, ?_⟩
  · rw [List.length_replicate, replicate_cells]
    apply List.ext_getElem
    · simp [madeCells]
    · intro i h1 h2
      simp [madeCells] at h1 ⊢
      have : i % 3 = 0 ∨ i % 3 = 1 ∨ i % 3 = 2 := by omega
      rcases this with h | h | h <;> simp [h]
  · simp [madeCells]

set_option maxHeartbeats 4000000 in
theorem open_good (q : ByteArray) (w1 : World) (hq : q.size ≤ 100000) (n : Nat) (r : List UInt8) (z : List UInt8) (h1 : Hid (q.data.toList = [80, 84, 65, 66] ++ z)) (h4 : 4 ≤ z.length) (hn : n = val (z.take 4)) (hr : r = z.drop 4) (hlen : r.length = 24 * n) (b : ByteArray) (w : World) (t1 : Touch [] w w1)
    (hc : Calls Tryz.prog 38 #[.string b] w fun e w' => e = .returned (.tuple #[.string q, .int .i64 0]) ∧ Touch [] w w') :
    Calls Tryz.prog 11 #[.string b] w fun e w' => ∃ p, e = .returned (.tuple #[.pointer p, .int .i64 (if fitE (decs n r) then 0 else 6)]) ∧ OpenP w' (if fitE (decs n r) then some (decs n r) else none) p ∧ Touch [] w w' := by
  have HC := hid hc
  obtain ⟨ev, hev⟩ : ∃ ev : Int, ev = if fitE (decs n r) then 0 else 6 := ⟨_, rfl⟩
  obtain ⟨ov, hov⟩ : ∃ ov : Option (List En), ov = if fitE (decs n r) then some (decs n r) else none := ⟨_, rfl⟩
  rw [← hev, ← hov]
  have HEV := hid hev
  have HOV := hid hov
  clear hev hov
  have cp := fun w => Tryz.strings_CutPrefix q ptab w
  have e1 : Lib.hasPrefix q.data.toList ptab.data.toList = true := by
    unfold Lib.hasPrefix
    rw [List.isPrefixOf_iff_prefix, h1.out]
    exact List.prefix_append _ z
  have e2 : Lib.trimPrefix q.data.toList ptab.data.toList = z := by
    unfold Lib.trimPrefix
    rw [if_pos e1, h1.out]
    exact List.drop_left' rfl
  rw [e1, e2] at cp
  have CP := hid cp
  have hz : z.length ≤ 100000 := by
    have := congrArg List.length h1.out
    rw [list_len, List.length_append] at this
    simp at this; omega
  have NI := hid (fun w => newIn_any ⟨z.toArray⟩ w)
  simp only [List.toList_toArray] at NI
  clear hc cp e1 e2
  go_enter Tryz.func11, Tryz.ntmps11
  go_wp2_with fail
  refine HC.out.mono ?_
  rintro x w2 ⟨rfl, t2⟩
  have T2 := hid t2
  clear t2
  go_wp2_with fail
  refine (CP.out _).mono ?_
  rintro x w3 ⟨rfl, rfl⟩
  go_wp2_with fail
  refine (NI.out _).mono ?_
  rintro x w4 ⟨rfl, i4, t4⟩
  have T4 := hid (T2.out.trans t4 (by simp))
  have hib : Hid (w.heap.size ≤ w3.heap.size) := hid T2.out.size
  generalize w3.heap.size = ib at *
  clear t4 NI CP HC
  have U := hid (inU32_st ib (z, 0) w4 i4)
  rw [iTake_good z 4 h4, ← hn, ← hr] at U
  go_wp2_with fail
  refine U.out.mono ?_
  rintro x w5 ⟨rfl, i5, t5⟩
  have I5 := hid i5
  have T5 := hid (T4.out.trans t5 (fun f hf => .inr (by simp at hf; subst hf; exact hib.out)))
  clear t5 U i4 T4 T2
  have ER := hid (err_st ib (r, 0) w5 i5)
  have LF := hid (left_st ib (r, 0) w5 i5)
  have hnI : (n : Int) ≤ 100000 := by
    have : r.length ≤ 100000 := by rw [hr, List.length_drop]; omega
    omega
  have hml : (((r.length : Nat) : Int) != (n : Int) * 24) = false := by
    rw [bne_eq_false_iff_eq]; omega
  have HLEN := hid hlen
  have hn0 : (0 : Int) ≤ n := by omega
  have MK := make_ens n (by omega) w5
  clear hn hr h1 hz h4 hlen i5
  go_wp2_with (first
    | (go_at_call 42; refine ER.out.mono ?_; rintro x w6 ⟨rfl, rfl⟩)
    | (go_at_call 43; refine LF.out.mono ?_; rintro x w6 ⟨rfl, rfl⟩))
  obtain ⟨W, hW⟩ : ∃ W, W = w5.alloc (.cells (madeCells #[.int .i64 0, .int .i64 0, .int .i64 0] (n * 3)) TEn) := ⟨_, rfl⟩
  obtain ⟨g, hg⟩ : ∃ g, g = w5.heap.size := ⟨_, rfl⟩
  have RW := hid (made_row n w5)
  rw [← hW, ← hg] at RW
  have IW := hid (show InIs W ib (r, 0) by rw [hW]; exact I5.out.keep ((Touch.refl [] w5).alloc _) (by simp))
  have TW := hid (show Touch [] w W by rw [hW]; exact T5.out.alloc _)
  have hgi : Hid (g ≠ ib) := hid (by have := I5.out.lt; omega)
  have hgw : Hid (w.heap.size ≤ g) := hid (by have := T5.out.size; omega)
  rw [← hW, ← hg]
  clear hW hg MK ER LF I5 T5
  go_loopw [47] (fun iv wr => ∃ k : Nat, k ≤ n ∧ iv = .int .i64 k ∧ Hid (RowE wr g (decs k r ++ List.replicate (n - k) (0, 0, 0)) ∧ InIs wr ib (r.drop (24 * k), 0) ∧ Touch [] w wr)) (fun iv _ => n - (RowKit.intOf iv).toNat)
  case atStart => exact ⟨0, Nat.zero_le _, rfl, hid ⟨RW.out, IW.out, TW.out⟩⟩
  case round =>
    obtain ⟨k, hk, rfl, HR⟩ := hrel
    by_cases hlt : k < n
    · have hlt2 : decide (k < n) = true := by simpa using hlt
      have hI : (k : Int) < n := by omega
      have hrl : (r.drop (24 * k)).length = 24 * n - 24 * k := by rw [List.length_drop, HLEN.out]
      have FS := hid (fill_set (r := r) hlt)
      have I1 := hid (inI64_go ib (r.drop (24 * k)) wr HR.out.2.1 (by omega))
      have I2 := hid fun w7 (h : InIs w7 ib ((r.drop (24 * k)).drop 8, 0)) => inI64_go ib _ w7 h (by rw [List.length_drop]; omega)
      have I3 := hid fun w7 (h : InIs w7 ib (((r.drop (24 * k)).drop 8).drop 8, 0)) => inI64_go ib _ w7 h (by rw [List.length_drop, List.length_drop]; omega)
      have ED : Hid (decE (r.drop (24 * k)) = (wrap64 (val ((r.drop (24 * k)).take 8)), wrap64 (val (((r.drop (24 * k)).drop 8).take 8)), wrap64 (val ((((r.drop (24 * k)).drop 8).drop 8).take 8)))) := hid (by unfold decE; simp only [List.drop_drop])
      have E24 : Hid ((((r.drop (24 * k)).drop 8).drop 8).drop 8 = r.drop (24 * (k + 1))) := hid (by simp only [List.drop_drop]; congr 1)
      have RK := hid HR.out.1
      have TK := hid HR.out.2.2
      clear HR hrl hlt
      generalize wrap64 (val ((r.drop (24 * k)).take 8)) = x1 at *
      generalize wrap64 (val (((r.drop (24 * k)).drop 8).take 8)) = x2 at *
      generalize wrap64 (val ((((r.drop (24 * k)).drop 8).drop 8).take 8)) = x3 at *
      go_wp2_with fail
      refine I1.out.mono ?_
      rintro x w7 ⟨rfl, i7, t7⟩
      have A2 := hid (I2.out w7 i7)
      have T7 := hid t7
      clear i7 t7 I1 I2
      go_wp2_with fail
      refine A2.out.mono ?_
      rintro x w8 ⟨rfl, i8, t8⟩
      have A3 := hid (I3.out w8 i8)
      have T8 := hid (T7.out.trans t8 (fun f hf => .inl hf))
      clear i8 t8 I3 A2 T7
      go_wp2_with fail
      refine A3.out.mono ?_
      rintro x w9 ⟨rfl, i9, t9⟩
      have T9 := hid (T8.out.trans t9 (fun f hf => .inl hf))
      have I9 := hid i9
      clear i9 t9 A3 T8
      have R9 := hid (RK.out.keep T9.out (by simp; exact hgi.out))
      have f0 := R9.out.free (k * 3)
      have f1 := R9.out.free (k * 3 + 1)
      have f2 := R9.out.free (k * 3 + 2)
      obtain ⟨b0, off, hb0, c0, c1, c2⟩ := R9.out.x k (by simp [decs_len]; omega)
      cases hb0
      simp only [Nat.zero_add] at c0 c1 c2
      go_wp2
      have hset : RowE (((w9.setCell ⟨g, k * 3, none⟩ (.int .i64 x1)).setCell ⟨g, k * 3 + 1, none⟩ (.int .i64 x2)).setCell ⟨g, k * 3 + 2, none⟩ (.int .i64 x3)) g (decs (k + 1) r ++ List.replicate (n - (k + 1)) (0, 0, 0)) := by
        rw [← FS.out, ED.out]
        exact R9.out.store k (x1, x2, x3) (by simp [decs_len]; omega)
      have TT : Touch [] w (((w9.setCell ⟨g, k * 3, none⟩ (.int .i64 x1)).setCell ⟨g, k * 3 + 1, none⟩ (.int .i64 x2)).setCell ⟨g, k * 3 + 2, none⟩ (.int .i64 x3)) :=
        (((TK.out.trans T9.out (fun f hf => .inr (by simp at hf; subst hf; exact hib.out))).setCell (p := ⟨g, k * 3, none⟩) (.inr hgw.out) _).setCell (p := ⟨g, k * 3 + 1, none⟩) (.inr hgw.out) _).setCell (p := ⟨g, k * 3 + 2, none⟩) (.inr hgw.out) _
      have II : InIs (((w9.setCell ⟨g, k * 3, none⟩ (.int .i64 x1)).setCell ⟨g, k * 3 + 1, none⟩ (.int .i64 x2)).setCell ⟨g, k * 3 + 2, none⟩ (.int .i64 x3)) ib (r.drop (24 * (k + 1)), 0) := by
        have h := I9.out
        rw [E24.out] at h
        exact h.keep ((((Touch.refl [g] w9).setCell (p := ⟨g, k * 3, none⟩) (.inl (by simp)) _).setCell (p := ⟨g, k * 3 + 1, none⟩) (.inl (by simp)) _).setCell (p := ⟨g, k * 3 + 2, none⟩) (.inl (by simp)) _) (by simp; exact fun e => hgi.out e.symm)
      refine ⟨⟨k + 1, by omega, by go_num, hid ⟨hset, II, TT⟩⟩, by simp [RowKit.intOf]; omega⟩
    · obtain rfl : k = n := by omega
      rw [Nat.sub_self, List.replicate_zero, List.append_nil] at HR
      have hle : (decs k r).length = k := decs_len k r
      have FA := hid (fit_any (some ⟨g, 0, none⟩) k (decs k r) wr HR.out.1.x (by rw [hle]; omega))
      have RX := hid HR.out.1
      have TR := hid HR.out.2.2
      rw [hle] at FA
      have HLE := hid hle
      clear HR hle
      have hlt2 : decide (k < k) = false := by simp
      generalize decs k r = l at *
      go_wp2_with fail
      refine FA.out.mono ?_
      rintro x w7 ⟨rfl, t7⟩
      have T7 := hid t7
      clear t7 FA
      by_cases hf : fitE l
      · have hfb : decide (fitE l) = true := by simpa using hf
        have e1 := HEV.out.trans (if_pos hf)
        have e2 := HOV.out.trans (if_pos hf)
        rw [hfb]
        subst e1
        have HO := hid e2
        have HF := hid hf
        clear hfb hf HEV HOV e2
        go_wp2
        go_ret2
        have hb := heap_alloc_new w7 (.cells #[.slice (some ⟨g, 0, none⟩) k k] TTab)
        refine ⟨some ⟨w7.heap.size, 0, none⟩, rfl, .inr ⟨l, w7.heap.size, HO.out, HF.out, rfl, g, k, by rw [HLE.out]; exact hb, by rw [HLE.out]; exact Nat.le_refl _, RX.out.t0 (T7.out.alloc _)⟩, (TR.out.trans T7.out (by simp)).alloc _⟩
      · have hfb : decide (fitE l) = false := by simpa using hf
        have e1 := HEV.out.trans (if_neg hf)
        have e2 := HOV.out.trans (if_neg hf)
        rw [hfb]
        subst e1
        have HO := hid e2
        clear hfb hf HEV HOV e2
        go_wp2
        go_ret2
        exact ⟨none, rfl, .inl ⟨HO.out, rfl⟩, TR.out.trans T7.out (by simp)⟩
end Go.Proofs.YtdjcpdlfapfmkaaGreat
