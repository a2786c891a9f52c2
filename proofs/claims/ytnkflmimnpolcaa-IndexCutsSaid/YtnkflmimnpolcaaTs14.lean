/- Going through all tables of an index: the iterator. -/
import Derived.RangeFuncOwn
import Derived.Test.YtnkflmimnpolcaaIx14
namespace Go.Proofs.Ytnkflmimnpolcaa
open Go.RowKit Go.Lib Go.Shelf
set_option maxRecDepth 100000
attribute [local go_sem] Oper.semAt_some

/-- What a round may not turn: the blocks of which Pr holds. -/
structure KpP (Pr : Nat → Prop) (W W' : World) : Prop where
  size : W.heap.size ≤ W'.heap.size
  keep : ∀ k, Pr k → k < W.heap.size → W'.heap[k]? = W.heap[k]?
theorem KpP.refl (Pr : Nat → Prop) (W : World) : KpP Pr W W := ⟨Nat.le_refl _, fun _ _ _ => rfl⟩
theorem KpP.trans {Pr : Nat → Prop} {A B C : World} (h : KpP Pr A B) (k : KpP Pr B C) : KpP Pr A C := ⟨Nat.le_trans h.size k.size, fun i hi hl => (k.keep i hi (Nat.lt_of_lt_of_le hl h.size)).trans (h.keep i hi hl)⟩
theorem KpP.of_touch {Pr : Nat → Prop} {F : List Nat} {W W' : World} (t : Touch F W W') (hF : ∀ k ∈ F, ¬ Pr k) : KpP Pr W W' := ⟨t.size, fun k hk hl => t.block k hl (fun h => hF k h hk)⟩
theorem KpP.putObj {Pr : Nat → Prop} (W : World) (l : Nat) (o o' : Obj) (hl : W.heap[l]? = some o) (hn : ¬ Pr l) : KpP Pr W (W.putObj l o') := by
  refine KpP.of_touch (F := [l]) ((Touch.refl [l] W).grown (grownBy_putObj' W l o') (fun k e => by cases e; left; simp)) ?_
  intro k hk
  simp at hk
  subst hk
  exact hn
theorem KpP.cell {Pr : Nat → Prop} {W W' : World} (h : KpP Pr W W') {a : Addr} {v : Value} (hv : W.cell? a = some v) (hp : Pr a.block) : W'.cell? a = some v := by
  rw [World.cell?_of_block (w := W) (a := a) (h.keep a.block hp (World.block_lt_of_cell? W _ hv))]
  exact hv
/-- A box of one cell, and what lay below a bound. -/
def prB (n b : Nat) : Nat → Prop := fun k => k < n ∨ k = b

theorem tables_any (xb : Nat) (w : World) :
    Calls Try.prog 35 #[.pointer (some ⟨xb, 0, none⟩)] w fun e w' => e = .returned (.func (.func 56) #[] #[.pointer (some ⟨w.heap.size, 0, none⟩)]) ∧ w' = w.alloc (.cells #[.pointer (some ⟨xb, 0, none⟩)] 28) := by
  go_enter Try.func35, Try.ntmps35
  go_wp2
  go_ret
  exact ⟨by simp, rfl⟩

set_option maxHeartbeats 4000000 in
/-- The iterator's own body, for every loop body that keeps what lay in the world w0 and the box. -/
theorem tables1_in (n l b xb room most : Nat) (T : Tr) (L : List LvV) (w0 : World) (hI : IxAt w0 xb room most T L) (ht : ∀ t ∈ tabsL L, t.At w0) (nL : L.length ≤ 1000000) (nT : (tabsL L).length ≤ 1000000) (J Jx : List (TabG w0) → World → Prop)
    (hY : ∀ m pre x W, J pre W → pre.length < (tabsL L).length → YieldAt Fence.wide m Try.prog l #[x.1.val] W fun e W' =>
      (e = .returned (.bool true) ∧ J (pre ++ [x]) W' ∧ KpP (prB w0.heap.size b) W W') ∨ (e = .returned (.bool false) ∧ Jx (pre ++ [x]) W'))
    (W : World) (tW : Touch [] w0 W) (hb : W.cell? ⟨b, 0, none⟩ = some (.pointer (some ⟨xb, 0, none⟩))) (h0 : J [] W) :
    CallsIn Fence.wide n Try.prog 56 #[.func (.yield l) #[] #[], .pointer (some ⟨b, 0, none⟩)] W fun e W' => (∃ v, e = .returned v) ∧
      ((∃ ys, ys = gtabs w0 L ht ∧ J ys W') ∨ (∃ pre, pre <+: gtabs w0 L ht ∧ Jx pre W')) := by
  obtain ⟨⟨r, lx, lc, hblk, -, hL⟩, -, -⟩ := hI
  have c3 := tW.cell (cell_of hblk 3)
  have HL := hid hL
  have glen := gtabs_len w0 L ht
  have gat : Hid (∀ (i j : Nat) (h : i < L.length) (hj : j < (L[i]).ts.length), ∃ g : TabG w0, (gtabs w0 L ht)[offL L i + j]? = some g ∧ g.1 = (L[i]).ts[j]) := hid fun i j h hj => gtabs_at w0 L ht (tabs_at h hj)
  generalize gtabs w0 L ht = gs at *
  have KW : Hid (∀ W', KpP (prB w0.heap.size b) W W' → ∀ a v, w0.cell? a = some v → W'.cell? a = some v) := hid fun W' k a v hv => k.cell (tW.cell hv) (.inl (World.block_lt_of_cell? w0 _ hv))
  have HG := hid glen
  have HY := hid hY
  clear hblk hL glen hY
  refine callsIn_of_wp Try.func56 rfl trivial ?_ rfl
  simp only [Try.ntmps56, List.size_toArray, List.length_cons, List.length_nil, Nat.reduceAdd, Nat.reduceSub, Array.replicate_succ, Array.replicate_zero, List.push_toArray, List.append_toArray, List.nil_append, List.cons_append]
  gi_wp2
  gi_loopw [14] (fun iv wr => ∃ i : Nat, i ≤ L.length ∧ iv = .int .i64 i ∧ Hid (J (gs.take (offL L i)) wr) ∧ Hid (KpP (prB w0.heap.size b) W wr)) (fun iv _ => L.length - (RowKit.intOf iv).toNat)
  case atStart => exact ⟨0, Nat.zero_le _, rfl, hid (by simpa [offL, tabsL] using h0), hid (KpP.refl _ _)⟩
  case round =>
    obtain ⟨i, hi, rfl, hJ, hk⟩ := hrel
    by_cases hlt : i < L.length
    · have hlt2 : decide (i < L.length) = true := by simpa using hlt
      have hI : (i : Int) < L.length := by omega
      obtain ⟨bl, off, rfl, g0⟩ := HL.out.row i (by simpa using hlt)
      rw [List.getElem_map] at g0
      have e0 := KW.out wr hk.out _ _ g0
      have OS := hid (off_succ hlt)
      have GA := hid (fun j => gat.out i j hlt)
      have LV := hid (HL.out.lv (L[i]) (List.getElem_mem hlt))
      have OL : Hid (offL L i + (L[i]).ts.length ≤ (tabsL L).length) := hid (by
        rw [← off_succ hlt]; unfold offL tabsL
        conv => rhs; rw [← List.take_append_drop (i + 1) L, List.flatMap_append, List.length_append]
        omega)
      have nTS : (L[i]).ts.length ≤ 1000000 := by have := OL.out; omega
      generalize L[i] = v at *
      obtain ⟨lx2, lc2, ts⟩ := v
      unfold LvV.val at e0
      dsimp only at e0 OS GA OL nTS
      clear g0
      gi_wp2
      gi_loopw [20] (fun jv w3 => ∃ j : Nat, j ≤ ts.length ∧ jv = .int .i64 j ∧ Hid (J (gs.take (offL L i + j)) w3) ∧ Hid (KpP (prB w0.heap.size b) W w3)) (fun jv _ => ts.length - (RowKit.intOf jv).toNat)
      case atStart => exact ⟨0, Nat.zero_le _, rfl, hJ, hk⟩
      case round =>
        obtain ⟨j, hj, rfl, hJ3, hk3⟩ := hrel
        by_cases hjt : j < ts.length
        · have hjt2 : decide (j < ts.length) = true := by simpa using hjt
          have hJI : (j : Int) < ts.length := by omega
          obtain ⟨bt, ot, rfl, d0⟩ := LV.out.row j (by simpa using hjt)
          rw [List.getElem_map] at d0
          have e3 := KW.out wr hk3.out _ _ d0
          obtain ⟨g, hg1, hg2⟩ := GA.out j hjt
          have TK : Hid (gs.take (offL L i + (j + 1)) = gs.take (offL L i + j) ++ [g]) := hid (by
            rw [← Nat.add_assoc, List.take_add_one, hg1]; rfl)
          have LT : (gs.take (offL L i + j)).length < (tabsL L).length := by
            have := OL.out
            rw [List.length_take]
            omega
          obtain ⟨fn, tmps, assign, body, hy, hR⟩ := HY.out 0 _ g wr hJ3.out LT
          rw [hg2] at hy
          clear d0 hg1 hg2 LT
          generalize ts[j] = tv at *
          gi_wp2
          refine ⟨fun h => by simp [Fence.wide] at h, (round_anyDepth rfl hR).mono ?_⟩
          rintro e W3 (⟨rfl, hJ3, hk4⟩ | ⟨rfl, hJx3⟩)
          · have H4 := hid hJ3
            have K4 := hid (hk3.out.trans hk4)
            clear hJ3 hk4
            gi_wp2
            go_roundw
            case rel => exact ⟨j + 1, by omega, by go_num, hid (by rw [TK.out]; exact H4.out), K4⟩
            case measure => simp [RowKit.intOf]; omega
          · have PX : gs.take (offL L i + j) ++ [g] <+: gs := by rw [← TK.out]; exact List.take_prefix _ _
            have H4 := hid hJx3
            clear hJx3
            gi_wp2
            refine bodyPost_ret (results_none rfl _ _ _) rfl ?_
            exact ⟨⟨_, rfl⟩, .inr ⟨_, PX, H4.out⟩⟩
        · obtain rfl : j = ts.length := by omega
          have hjt2 : decide (ts.length < ts.length) = false := by simp
          gi_wp2
          go_roundw
          case rel => exact ⟨i + 1, by omega, by go_num, hid (by rw [OS.out]; exact hJ3.out), hk3⟩
          case measure => simp [RowKit.intOf]; omega
    · obtain rfl : i = L.length := by omega
      have hlt2 : decide (L.length < L.length) = false := by simp
      have HE : Hid (gs.take (offL L L.length) = gs) := hid (by rw [off_all, ← HG.out, List.take_length])
      gi_wp2
      go_end0
      exact ⟨⟨_, rfl⟩, .inl ⟨_, rfl, by rw [← HE.out]; exact hJ.out⟩⟩
/-- WHAT THE ITERATOR OVER ALL TABLES PROMISES. -/
theorem tables_stops (n b xb room most : Nat) (T : Tr) (L : List LvV) (w0 : World) (hI : IxAt w0 xb room most T L) (ht : ∀ t ∈ tabsL L, t.At w0) (nL : L.length ≤ 1000000) (nT : (tabsL L).length ≤ 1000000) (w : World) (t0 : Touch [] w0 w) (hb : w.cell? ⟨b, 0, none⟩ = some (.pointer (some ⟨xb, 0, none⟩))) :
    SeqStopsK Fence.wide n Try.prog 56 #[.pointer (some ⟨b, 0, none⟩)] (fun x : TabG w0 => #[x.1.val]) (KpP (prB w0.heap.size b)) (fun ys => ys = gtabs w0 L ht) (fun pre => pre <+: gtabs w0 L ht) (tabsL L).length w :=
  fun l J Jx W hW _ _ hY h0 =>
    have t : Touch [] w W := Touch.of_below hW
    tables1_in n l b xb room most T L w0 hI ht nL nT J Jx (fun m pre x W1 hj hl => yield_anyDepth rfl m (hY pre x W1 hj hl)) W (t0.trans t (by simp)) (t.cell hb) h0
end Go.Proofs.Ytnkflmimnpolcaa
