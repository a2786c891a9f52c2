/- slices.All and slices.Backward over stored events: the iterators. -/
import Derived.RangeFuncKeeps
import Derived.RangeFuncBound
import Derived.RangeFuncLeaves
import Derived.RangeFuncNested
import Derived.RangeFuncCalls
import Derived.Shelf.Abstract
import Derived.WalkKit
import Derived.OwnWalkIn
import Derived.TacticsInMore
import Derived.LoopNIn
import Derived.LoopIn
import Derived.ControlIn
import Derived.Stop.RegionWithIn
import Derived.Sort.CutIn
import Derived.Test.YtmgglmoiepjebaaSs16
namespace Go.Proofs.Ytmgglmoiepjebaa
open Go.RowKit Go.Lib Go.Shelf
set_option maxRecDepth 100000
attribute [local go_sem] Oper.semAt_some

theorem room_of_none {F : Fence} (hd : F.depth = none) (k : Nat) : F.room k := fun d h => by rw [hd] at h; cases h
theorem round_anyDepth {F : Fence} (hd : F.depth = none) {m m' : Nat} {P : Program} {l : Nat} {f : FuncId} {tmps : Array Value} {assign body : Code} {w : World} {R : Ending → World → Prop}
    (h : RoundIn F m P l f tmps assign body w R) : RoundIn F m' P l f tmps assign body w R := ⟨h.1, fun c cs _ => h.2 c cs (room_of_none hd _)⟩
theorem yield_anyDepth {F : Fence} (hd : F.depth = none) {m : Nat} (m' : Nat) {P : Program} {l : Nat} {args : Array Value} {W : World} {R : Ending → World → Prop} (h : YieldAt F m P l args W R) : YieldAt F m' P l args W R := by
  obtain ⟨fn, tmps, assign, body, hy, hR⟩ := h
  exact ⟨fn, tmps, assign, body, hy, round_anyDepth hd hR⟩
/-- What a round may not turn: the blocks of which Pr holds. -/
structure KpP (Pr : Nat → Prop) (W W' : World) : Prop where
  size : W.heap.size ≤ W'.heap.size
  keep : ∀ k, Pr k → k < W.heap.size → W'.heap[k]? = W.heap[k]?
theorem KpP.refl (Pr : Nat → Prop) (W : World) : KpP Pr W W := ⟨Nat.le_refl _, fun _ _ _ => rfl⟩
theorem KpP.trans {Pr : Nat → Prop} {A B C : World} (h : KpP Pr A B) (k : KpP Pr B C) : KpP Pr A C := ⟨Nat.le_trans h.size k.size, fun i hi hl => (k.keep i hi (Nat.lt_of_lt_of_le hl h.size)).trans (h.keep i hi hl)⟩
theorem KpP.of_touch {Pr : Nat → Prop} {F : List Nat} {W W' : World} (t : Touch F W W') (hF : ∀ k ∈ F, ¬ Pr k) : KpP Pr W W' := ⟨t.size, fun k hk hl => t.block k hl (fun h => hF k h hk)⟩
theorem KpP.putObj {Pr : Nat → Prop} (W : World) (l : Nat) (o o' : Obj) (hl : W.heap[l]? = some o) (hn : ¬ Pr l) : KpP Pr W (W.putObj l o') := by
  refine KpP.of_touch (F := [l]) ((Touch.refl [l] W).grown (grownBy_putObj' W l o') (fun k e => by cases e; left; simp)) ?_
  intro k hk
  simp at hk
  subst hk
  exact hn
theorem KpP.cell {Pr : Nat → Prop} {W W' : World} (h : KpP Pr W W') {a : Addr} {v : Value} (hv : W.cell? a = some v) (hp : Pr a.block) : W'.cell? a = some v := by
  rw [World.cell?_of_block (w := W) (a := a) (h.keep a.block hp (World.block_lt_of_cell? W _ hv))]
  exact hv
/-- A box of one cell, and what lay below a bound. -/
def prB (n b : Nat) : Nat → Prop := fun k => k < n ∨ k = b
theorem prB_lt {n b m k : Nat} (h : prB n b k) (hn : n ≤ m) (hb : b < m) : k < m := by unfold prB at h; omega

/-- Its parts are of their kinds, its texts can be copied. -/
def Good (s : StoD) : Prop := s.Ok ∧ s.typ.size ≤ 1000 ∧ s.data.size ≤ 1000 ∧ s.stream.size ≤ 1000
abbrev SG := { s : StoD // Good s }
abbrev SI := Int × SG
def encSI (x : SI) : Array Value := #[.int .i64 x.1, x.2.1.val]
/-- The stored events of a list, with their indices. -/
def gsU (l : List StoD) (h : ∀ s ∈ l, Good s) : List SI := l.attach.mapIdx fun i s => ((i : Int), ⟨s.1, h s.1 s.2⟩)
theorem gsU_len (l : List StoD) (h : ∀ s ∈ l, Good s) : (gsU l h).length = l.length := by simp [gsU]
theorem gsU_at (l : List StoD) (h : ∀ s ∈ l, Good s) {i : Nat} (hi : i < l.length) : (gsU l h)[i]? = some ((i : Int), ⟨l[i], h _ (List.getElem_mem hi)⟩) := by
  unfold gsU
  rw [List.getElem?_mapIdx, List.getElem?_eq_getElem (by simpa using hi)]
  simp
theorem gsU_val (l : List StoD) (h : ∀ s ∈ l, Good s) : (gsU l h).map (fun x => x.2.1) = l := by
  apply List.ext_getElem
  · simp [gsU]
  · intro i h1 h2
    have := gsU_at l h h2
    obtain ⟨h3, h4⟩ := List.getElem?_eq_some_iff.1 this
    rw [List.getElem_map, h4]

theorem all16_any (a : Option Addr) (n c : Nat) (w : World) :
    Calls Try.prog 26 #[.slice a n c] w fun e w' => e = .returned (.func (.func 37) #[] #[.pointer (some ⟨w.heap.size, 0, none⟩)]) ∧ w' = w.alloc (.cells #[.slice a n c] 22) := by
  go_enter Try.func26, Try.ntmps26
  go_wp2
  go_ret
  exact ⟨by simp, rfl⟩
theorem bwd16_any (a : Option Addr) (n c : Nat) (w : World) :
    Calls Try.prog 29 #[.slice a n c] w fun e w' => e = .returned (.func (.func 38) #[] #[.pointer (some ⟨w.heap.size, 0, none⟩)]) ∧ w' = w.alloc (.cells #[.slice a n c] 22) := by
  go_enter Try.func29, Try.ntmps29
  go_wp2
  go_ret
  exact ⟨by simp, rfl⟩

set_option maxHeartbeats 4000000 in
/-- slices.All's own body, for every loop body that keeps what lay in w0, and the box. -/
theorem all16_in (n l b : Nat) (x : Option Addr) (c : Nat) (L : List StoD) (w0 : World) (hX : StoX w0 x L) (hG : ∀ s ∈ L, Good s) (nL : L.length ≤ 1000000) (J Jx : List SI → World → Prop)
    (hJ : ∀ pre W o, J pre W → J pre (W.alloc o))
    (hY : ∀ m pre x W, J pre W → pre.length < L.length → YieldAt Fence.wide m Try.prog l (encSI x) W fun e W' =>
      (e = .returned (.bool true) ∧ J (pre ++ [x]) W' ∧ KpP (prB w0.heap.size b) W W') ∨ (e = .returned (.bool false) ∧ Jx (pre ++ [x]) W'))
    (W : World) (tW : Touch [] w0 W) (hb : W.cell? ⟨b, 0, none⟩ = some (.slice x L.length c)) (hbl : b < W.heap.size) (h0 : J [] W) :
    CallsIn Fence.wide n Try.prog 37 #[.func (.yield l) #[] #[], .pointer (some ⟨b, 0, none⟩)] W fun e W' => (∃ v, e = .returned v) ∧
      ((∃ ys, ys = gsU L hG ∧ J ys W') ∨ (∃ pre, pre <+: gsU L hG ∧ Jx pre W')) := by
  have HX := hid hX
  have glen := gsU_len L hG
  have gat : Hid (∀ (i : Nat) (h : i < L.length), ∃ g : SG, (gsU L hG)[i]? = some ((i : Int), g) ∧ g.1 = L[i]) := hid fun i h => ⟨_, gsU_at L hG h, rfl⟩
  generalize gsU L hG = gs at *
  have KW : Hid (∀ W', KpP (prB w0.heap.size b) W W' → ∀ a v, w0.cell? a = some v → W'.cell? a = some v) := hid fun W' k a v hv => k.cell (tW.cell hv) (.inl (World.block_lt_of_cell? w0 _ hv))
  have HGl := hid glen
  have HY := hid hY
  clear hX glen hY
  have hsf := store_flt
  refine callsIn_of_wp Try.func37 rfl trivial ?_ rfl
  simp only [Try.ntmps37, List.size_toArray, List.length_cons, List.length_nil, Nat.reduceAdd, Nat.reduceSub, Array.replicate_succ, Array.replicate_zero, List.push_toArray, List.append_toArray, List.nil_append, List.cons_append]
  gi_wp2
  gi_loopw [7] (fun iv wr => ∃ i : Nat, i ≤ L.length ∧ iv = .int .i64 i ∧ Hid (J (gs.take i) wr) ∧ Hid (KpP (prB w0.heap.size b) W wr)) (fun iv _ => L.length - (RowKit.intOf iv).toNat)
  case atStart => exact ⟨0, Nat.zero_le _, rfl, hid (by simpa using h0), hid (KpP.refl _ _)⟩
  case round =>
    obtain ⟨i, hi, rfl, hJi, hk⟩ := hrel
    by_cases hlt : i < L.length
    · have hlt2 : decide (i < L.length) = true := by simpa using hlt
      have hI : (i : Int) < L.length := by omega
      obtain ⟨⟨s, gd⟩, hg1, hg2⟩ := gat.out i hlt
      obtain ⟨bb, off, rfl, ha, -⟩ := HX.out i hlt
      dsimp only at hg2
      rw [← hg2] at ha
      clear hg2
      have TK : Hid (gs.take (i + 1) = gs.take i ++ [((i : Int), ⟨s, gd⟩)]) := hid (by
        rw [List.take_add_one, hg1]; rfl)
      obtain ⟨s0, s1, s2, s3, s4, s5, s6, s7⟩ := s
      obtain ⟨c0, c1, c2, c3, c4, c5, c6, c7⟩ := ha
      simp only at c0 c1 c2 c3 c4 c5 c6 c7
      have e0 := KW.out wr hk.out _ _ c0
      have e1 := KW.out wr hk.out _ _ c1
      have e2 := KW.out wr hk.out _ _ c2
      have e3 := KW.out wr hk.out _ _ c3
      have e4 := KW.out wr hk.out _ _ c4
      have e5 := KW.out wr hk.out _ _ c5
      have e6 := KW.out wr hk.out _ _ c6
      have e7 := KW.out wr hk.out _ _ c7
      have LT : (gs.take i).length < L.length := by
        rw [List.length_take]
        omega
      clear c0 c1 c2 c3 c4 c5 c6 c7 hg1
      obtain ⟨W1, hW1⟩ : ∃ W1, W1 = wr.alloc (.cells #[.int .i64 s0, .string s1, .string s2, .float .f64 s3, .string s4, .int .i64 s5, .int .i64 s6, .int .i64 s7] TSto) := ⟨_, rfl⟩
      have J1 : J (gs.take i) W1 := by rw [hW1]; exact hJ _ _ _ hJi.out
      have K1 : Hid (KpP (prB w0.heap.size b) W W1) := by rw [hW1]; exact hid (hk.out.trans (KpP.of_touch ((Touch.refl [] _).alloc _) (by simp)))
      have A1 := (show W1.heap[wr.heap.size]? = some (.cells #[.int .i64 s0, .string s1, .string s2, .float .f64 s3, .string s4, .int .i64 s5, .int .i64 s6, .int .i64 s7] TSto (0, 0)) by rw [hW1]; exact heap_alloc_new _ _)
      obtain ⟨fn, tmps, assign, body, hy, hR⟩ := HY.out 0 _ (((i : Nat) : Int), (⟨⟨s0, s1, s2, s3, s4, s5, s6, s7⟩, gd⟩ : SG)) W1 J1 LT
      unfold encSI at hy
      clear J1 LT
      gi_upto_region 3 with fail
      simp only [TSto] at hW1
      rw [← hW1]
      clear hW1 e0 e1 e2 e3 e4 e5 e6 e7
      have e0 : W1.cell? ⟨wr.heap.size, 0, none⟩ = _ := cell_of A1 0
      have e1 : W1.cell? ⟨wr.heap.size, 1, none⟩ = _ := cell_of A1 1
      have e2 : W1.cell? ⟨wr.heap.size, 2, none⟩ = _ := cell_of A1 2
      have e3 : W1.cell? ⟨wr.heap.size, 3, none⟩ = _ := cell_of A1 3
      have e4 : W1.cell? ⟨wr.heap.size, 4, none⟩ = _ := cell_of A1 4
      have e5 : W1.cell? ⟨wr.heap.size, 5, none⟩ = _ := cell_of A1 5
      have e6 : W1.cell? ⟨wr.heap.size, 6, none⟩ = _ := cell_of A1 6
      have e7 : W1.cell? ⟨wr.heap.size, 7, none⟩ = _ := cell_of A1 7
      simp at e0 e1 e2 e3 e4 e5 e6 e7
      clear A1
      gi_wp2
      refine ⟨fun h => by simp [Fence.wide] at h, (round_anyDepth rfl hR).mono ?_⟩
      rintro e W3 (⟨rfl, hJ3, hk4⟩ | ⟨rfl, hJx3⟩)
      · have H4 := hid hJ3
        have K4 := hid (K1.out.trans hk4)
        clear hJ3 hk4
        gi_wp2
        go_roundw
        case rel => exact ⟨i + 1, by omega, by go_num, hid (by rw [TK.out]; exact H4.out), K4⟩
        case measure => simp [RowKit.intOf]; omega
      · have PX : gs.take i ++ [((i : Int), (⟨⟨s0, s1, s2, s3, s4, s5, s6, s7⟩, gd⟩ : SG))] <+: gs := by rw [← TK.out]; exact List.take_prefix _ _
        have H4 := hid hJx3
        clear hJx3
        gi_wp2
        refine bodyPost_ret (results_none rfl _ _ _) rfl ?_
        exact ⟨⟨_, rfl⟩, .inr ⟨_, PX, H4.out⟩⟩
    · obtain rfl : i = L.length := by omega
      have hlt2 : decide (L.length < L.length) = false := by simp
      have HE : Hid (gs.take L.length = gs) := hid (by rw [← HGl.out, List.take_length])
      gi_wp2
      go_end0
      exact ⟨⟨_, rfl⟩, .inl ⟨_, rfl, by rw [← HE.out]; exact hJi.out⟩⟩

theorem gsD_at (l : List StoD) (h : ∀ s ∈ l, Good s) {k : Nat} (hk : k < l.length) : (gsU l h).reverse[k]? = some (((l.length - 1 - k : Nat) : Int), ⟨l[l.length - 1 - k], h _ (List.getElem_mem (by omega))⟩) := by
  rw [List.getElem?_reverse (by rw [gsU_len]; exact hk), gsU_len]
  exact gsU_at l h (by omega)
set_option maxHeartbeats 4000000 in
/-- slices.Backward's own body, for every loop body that keeps what lay in w0, and the box. -/
theorem bwd16_in (n l b : Nat) (x : Option Addr) (c : Nat) (L : List StoD) (w0 : World) (hX : StoX w0 x L) (hG : ∀ s ∈ L, Good s) (nL : L.length ≤ 1000000) (J Jx : List SI → World → Prop)
    (hY : ∀ m pre x W, J pre W → pre.length < L.length → YieldAt Fence.wide m Try.prog l (encSI x) W fun e W' =>
      (e = .returned (.bool true) ∧ J (pre ++ [x]) W' ∧ KpP (prB w0.heap.size b) W W') ∨ (e = .returned (.bool false) ∧ Jx (pre ++ [x]) W'))
    (W : World) (tW : Touch [] w0 W) (hb : W.cell? ⟨b, 0, none⟩ = some (.slice x L.length c)) (h0 : J [] W) :
    CallsIn Fence.wide n Try.prog 38 #[.func (.yield l) #[] #[], .pointer (some ⟨b, 0, none⟩)] W fun e W' => (∃ v, e = .returned v) ∧
      ((∃ ys, ys = (gsU L hG).reverse ∧ J ys W') ∨ (∃ pre, pre <+: (gsU L hG).reverse ∧ Jx pre W')) := by
  have HX := hid hX
  have glen : (gsU L hG).reverse.length = L.length := by rw [List.length_reverse, gsU_len L hG]
  have gat : Hid (∀ (i : Nat) (_ : i < L.length) (h2 : L.length - 1 - i < L.length), ∃ g : SG, (gsU L hG).reverse[i]? = some (((L.length - 1 - i : Nat) : Int), g) ∧ g.1 = L[L.length - 1 - i]'h2) := hid fun i h h2 => ⟨_, gsD_at L hG h, rfl⟩
  generalize (gsU L hG).reverse = gs at *
  have KW : Hid (∀ W', KpP (prB w0.heap.size b) W W' → ∀ a v, w0.cell? a = some v → W'.cell? a = some v) := hid fun W' k a v hv => k.cell (tW.cell hv) (.inl (World.block_lt_of_cell? w0 _ hv))
  have KB : Hid (∀ W', KpP (prB w0.heap.size b) W W' → W'.cell? ⟨b, 0, none⟩ = some (.slice x L.length c)) := hid fun W' k => k.cell hb (.inr rfl)
  have HGl := hid glen
  have HY := hid hY
  clear hX glen hY
  have hwr : IntKind.i64.wrap ((L.length : Int) - 1) = (L.length : Int) - 1 := IntWalk.i64_in _ (by omega)
  refine callsIn_of_wp Try.func38 rfl trivial ?_ rfl
  simp only [Try.ntmps38, List.size_toArray, List.length_cons, List.length_nil, Nat.reduceAdd, Nat.reduceSub, Array.replicate_succ, Array.replicate_zero, List.push_toArray, List.append_toArray, List.nil_append, List.cons_append]
  gi_wp2
  clear hwr
  gi_loopw [3] (fun iv wr => ∃ k : Nat, k ≤ L.length ∧ iv = .int .i64 ((L.length : Int) - 1 - k) ∧ Hid (J (gs.take k) wr) ∧ Hid (KpP (prB w0.heap.size b) W wr)) (fun iv _ => (RowKit.intOf iv + 1).toNat)
  case atStart => exact ⟨0, Nat.zero_le _, by simp, hid (by simpa using h0), hid (KpP.refl _ _)⟩
  case round =>
    obtain ⟨k, hi, rfl, hJi, hk⟩ := hrel
    by_cases hlt : k < L.length
    · obtain ⟨⟨s, gd⟩, hg1, hg2⟩ := gat.out k hlt (by omega)
      obtain ⟨bb, off, rfl, ha, -⟩ := HX.out (L.length - 1 - k) (by omega)
      have hb1 := KB.out wr hk.out
      dsimp only at hg2
      rw [← hg2] at ha
      clear hg2
      obtain ⟨s0, s1, s2, s3, s4, s5, s6, s7⟩ := s
      obtain ⟨c0, c1, c2, c3, c4, c5, c6, c7⟩ := ha
      simp only at c0 c1 c2 c3 c4 c5 c6 c7
      have e0 := KW.out wr hk.out _ _ c0
      have e1 := KW.out wr hk.out _ _ c1
      have e2 := KW.out wr hk.out _ _ c2
      have e3 := KW.out wr hk.out _ _ c3
      have e4 := KW.out wr hk.out _ _ c4
      have e5 := KW.out wr hk.out _ _ c5
      have e6 := KW.out wr hk.out _ _ c6
      have e7 := KW.out wr hk.out _ _ c7
      have TK : Hid (gs.take (k + 1) = gs.take k ++ [(((L.length - 1 - k : Nat) : Int), (⟨⟨s0, s1, s2, s3, s4, s5, s6, s7⟩, gd⟩ : SG))]) := hid (by
        rw [List.take_add_one, hg1]; rfl)
      have LT : (gs.take k).length < L.length := by
        rw [List.length_take]
        omega
      clear c0 c1 c2 c3 c4 c5 c6 c7 hg1
      have ej : (L.length : Int) - 1 - k = ((L.length - 1 - k : Nat) : Int) := by omega
      have EK : Hid (L.length - 1 - k + k + 1 = L.length) := hid (by omega)
      rw [ej]
      generalize hj : L.length - 1 - k = j at *
      have hjl : j < L.length := by omega
      have hjI : (j : Int) < L.length := by omega
      have hj0 : decide ((j : Int) ≥ 0) = true := by simp
      obtain ⟨fn, tmps, assign, body, hy, hR⟩ := HY.out 0 _ (((j : Nat) : Int), (⟨⟨s0, s1, s2, s3, s4, s5, s6, s7⟩, gd⟩ : SG)) wr hJi.out LT
      unfold encSI at hy
      clear LT hj ej hlt
      gi_wp2
      refine ⟨fun h => by simp [Fence.wide] at h, (round_anyDepth rfl hR).mono ?_⟩
      rintro e W3 (⟨rfl, hJ3, hk4⟩ | ⟨rfl, hJx3⟩)
      · have H4 := hid hJ3
        have K4 := hid (hk.out.trans hk4)
        clear hJ3 hk4
        have hwr : IntKind.i64.wrap ((j : Int) - 1) = (j : Int) - 1 := IntWalk.i64_in _ (by omega)
        gi_wp2
        have ek := EK.out
        go_roundw
        case rel => exact ⟨k + 1, by omega, by (have : (L.length : Int) - 1 - ((k + 1 : Nat) : Int) = (j : Int) - 1 := by omega); rw [this], hid (by rw [TK.out]; exact H4.out), K4⟩
        case measure => simp [RowKit.intOf]
      · have PX : gs.take k ++ [((j : Int), (⟨⟨s0, s1, s2, s3, s4, s5, s6, s7⟩, gd⟩ : SG))] <+: gs := by rw [← TK.out]; exact List.take_prefix _ _
        have H4 := hid hJx3
        clear hJx3
        gi_wp2
        refine bodyPost_ret (results_none rfl _ _ _) rfl ?_
        exact ⟨⟨_, rfl⟩, .inr ⟨_, PX, H4.out⟩⟩
    · obtain rfl : k = L.length := by omega
      have ej : (L.length : Int) - 1 - L.length = -1 := by omega
      rw [ej]
      have HE : Hid (gs.take L.length = gs) := hid (by rw [← HGl.out, List.take_length])
      gi_wp2
      go_end0
      exact ⟨⟨_, rfl⟩, .inl ⟨_, rfl, by rw [← HE.out]; exact hJi.out⟩⟩
/-- WHAT THE ITERATORS PROMISE. -/
theorem all16_stops (n b : Nat) (x : Option Addr) (c : Nat) (L : List StoD) (w0 : World) (hX : StoX w0 x L) (hG : ∀ s ∈ L, Good s) (nL : L.length ≤ 1000000) (w : World) (t0 : Touch [] w0 w) (hb : w.cell? ⟨b, 0, none⟩ = some (.slice x L.length c)) :
    SeqStopsK Fence.wide n Try.prog 37 #[.pointer (some ⟨b, 0, none⟩)] encSI (KpP (prB w0.heap.size b)) (fun ys => ys = gsU L hG) (fun pre => pre <+: gsU L hG) L.length w :=
  fun l J Jx W hW hJ _ hY h0 =>
    have t : Touch [] w W := Touch.of_below hW
    all16_in n l b x c L w0 hX hG nL J Jx (fun pre W o h => hJ _ _ _ none h ⟨rfl, rfl, rfl, by simp, fun k hk _ => Below.heap_alloc _ _ k hk⟩ (fun r e => by cases e)) (fun m pre x W1 hj hl => yield_anyDepth rfl m (hY pre x W1 hj hl)) W (t0.trans t (by simp)) (t.cell hb) (World.block_lt_of_cell? W _ (t.cell hb)) h0
theorem bwd16_stops (n b : Nat) (x : Option Addr) (c : Nat) (L : List StoD) (w0 : World) (hX : StoX w0 x L) (hG : ∀ s ∈ L, Good s) (nL : L.length ≤ 1000000) (w : World) (t0 : Touch [] w0 w) (hb : w.cell? ⟨b, 0, none⟩ = some (.slice x L.length c)) :
    SeqStopsK Fence.wide n Try.prog 38 #[.pointer (some ⟨b, 0, none⟩)] encSI (KpP (prB w0.heap.size b)) (fun ys => ys = (gsU L hG).reverse) (fun pre => pre <+: (gsU L hG).reverse) L.length w :=
  fun l J Jx W hW _ _ hY h0 =>
    have t : Touch [] w W := Touch.of_below hW
    bwd16_in n l b x c L w0 hX hG nL J Jx (fun m pre x W1 hj hl => yield_anyDepth rfl m (hY pre x W1 hj hl)) W (t0.trans t (by simp)) (t.cell hb) h0
end Go.Proofs.Ytmgglmoiepjebaa
