/- meta.Parse. -/
import Derived.Test.YtepbflcmghkieaaDoorSq15
import Derived.Test.YtepbflcmghkieaaDoorRd15
import Derived.RangeFuncBound
namespace Go.Proofs.YtepbflcmghkieaaDoor
open Go.RowKit Go.Lib
set_option maxRecDepth 100000
attribute [local go_sem] Oper.semAt_some

abbrev TErr : TypeId := 26
def parseV : Option MetaD → Value
  | some m => .tuple #[metaV m.1 m.2.1 m.2.2, .int .i64 0]
  | none => .tuple #[metaV 0 0 0, .int .i64 6]
theorem parse_dash (w : World) : Calls Tryd.prog 10 #[.string ⟨#[45]⟩] w fun e w' => e = .returned (parseV (some (0, 0, 0))) ∧ Touch [] w w' := by
  obtain ⟨W0, hW0⟩ : ∃ W0, W0 = (w.alloc (.cells #[.int .i64 0, .int .i64 0, .int .i64 0] TMeta)).alloc (.cells #[.int .i64 0] TErr) := ⟨_, rfl⟩
  have h1 : W0.heap[w.heap.size]? = some (.cells #[.int .i64 0, .int .i64 0, .int .i64 0] TMeta) := by rw [hW0]; exact heap_alloc_keep (heap_alloc_new w _) _
  have h2 : W0.heap[w.heap.size + 1]? = some (.cells #[.int .i64 0] TErr) := by
    rw [hW0]
    have := heap_alloc_new (w.alloc (.cells #[.int .i64 0, .int .i64 0, .int .i64 0] TMeta)) (.cells #[.int .i64 0] TErr)
    rwa [World.size_alloc] at this
  have c0 := cell_of h1 0
  have c1 := cell_of h1 1
  have c2 := cell_of h1 2
  have c3 := cell_of h2 0
  have T0 : Hid (Touch [] w W0) := hid (by rw [hW0]; exact ((Touch.refl [] w).alloc _).alloc _)
  clear h1 h2
  go_enter Tryd.func10, Tryd.ntmps10
  go_wp2
  rw [← hW0]
  clear hW0
  exact bodyPost_ret (v := parseV (some (0, 0, 0))) (by simp [results, Tryd.results10, go_sem, c0, c1, c2, c3, parseV, metaV]) rfl ⟨rfl, T0.out⟩
theorem MetaB.c {w : World} {b : Nat} {m : MetaD} (h : MetaB w b m) : w.cell? ⟨b, 0, none⟩ = some (.int .i64 m.1) ∧ w.cell? ⟨b, 1, none⟩ = some (.int .i64 m.2.1) ∧ w.cell? ⟨b, 2, none⟩ = some (.int .i64 m.2.2) := ⟨h.at (k := 0) (by decide), h.at (k := 1) (by decide), h.at (k := 2) (by decide)⟩
theorem MetaB.f {w : World} {b : Nat} {m : MetaD} (h : MetaB w b m) : w.frozen? ⟨b, 0, none⟩ = false ∧ w.frozen? ⟨b, 1, none⟩ = false ∧ w.frozen? ⟨b, 2, none⟩ = false := by
  have h : w.heap[b]? = _ := h
  exact ⟨free_of h 0, free_of h 1, free_of h 2⟩
theorem MetaB.put {w : World} {b : Nat} {m : MetaD} (h : MetaB w b m) (n : MetaD) : MetaB (((w.setCell ⟨b, 0, none⟩ (.int .i64 n.1)).setCell ⟨b, 1, none⟩ (.int .i64 n.2.1)).setCell ⟨b, 2, none⟩ (.int .i64 n.2.2)) b n :=
  heap_set (i := 2) (heap_set (i := 1) (heap_set (i := 0) (show w.heap[b]? = _ from h) (.int .i64 n.1)) (.int .i64 n.2.1)) (.int .i64 n.2.2)
/-- A piece that is not too long. -/
abbrev Pc := { x : List UInt8 // x.length ≤ 100000 }
abbrev pvals (l : List Pc) : List (List UInt8) := l.map Subtype.val
/-- How the loop over the pieces stands: what was read, the results' cells. -/
structure PaI (w : World) (pre : List Pc) (W : World) : Prop where
  m : ∃ m, readsM (pvals pre) (0, 0, 0) = some m ∧ MetaB W (w.heap.size + 2) m
  r0 : MetaB W w.heap.size (0, 0, 0)
  r1 : W.heap[w.heap.size + 1]? = some (.cells #[.int .i64 0] TErr)
  b : Below w.heap.size w W
theorem blk_kept {W W' : World} {row : Option Nat} {k : Nat} {cs : Array Value} {t : TypeId} {fz : Nat × Nat} (h : W.heap[k]? = some (.cells cs t fz)) (hg : W.grownBy W' row) (hr : ∀ r, row = some r → ∃ o : Obj, W.heap[r]? = some o ∧ o.isCells = false) : W'.heap[k]? = some (.cells cs t fz) :=
  (hg.block k (lt_of_block h) (fun e => by obtain ⟨o, h1, h2⟩ := hr k e.symm; rw [h] at h1; cases h1; cases h2)).trans h
theorem PaI.own (w : World) (B : Nat) (hB : w.heap.size ≤ B) : OwnFrom B (PaI w) := fun pre W W' row h hg hr => by
  obtain ⟨⟨m, h1, h2⟩, h3, h4, h5⟩ := h
  have hr2 : ∀ r, row = some r → ∃ o : Obj, W.heap[r]? = some o ∧ o.isCells = false := fun r e => (hr r e).2
  exact ⟨⟨m, h1, blk_kept h2 hg hr2⟩, blk_kept h3 hg hr2, blk_kept h4 hg hr2, h5.grown hg h5.size (fun k e => Nat.le_trans hB (hr k e).1)⟩
theorem PaI.set {w W : World} {pre : List Pc} (h : PaI w pre W) {k : Nat} (hk : w.heap.size + 3 ≤ k) (v : Value) : PaI w pre (W.setCell ⟨k, 0, none⟩ v) := by
  obtain ⟨⟨m, h1, h2⟩, h3, h4, h5⟩ := h
  exact ⟨⟨m, h1, (heap_set_other _ (by simp; omega)).trans h2⟩, (heap_set_other _ (by simp; omega)).trans h3, (heap_set_other _ (by simp; omega)).trans h4, h5.setCell (by simp; omega) _⟩
/-- .. and how it stands where a piece may not be. -/
structure PaX (w : World) (c : Code) (pre : List Pc) (W : World) : Prop where
  c : c = .ret
  m : readsM (pvals pre) (0, 0, 0) = none
  r0 : MetaB W w.heap.size (0, 0, 0)
  r1 : W.heap[w.heap.size + 1]? = some (.cells #[.int .i64 6] TErr)
  b : Below w.heap.size w W
theorem PaX.own (w : World) (c : Code) (B : Nat) (hB : w.heap.size ≤ B) : OwnFrom B (PaX w c) := fun pre W W' row h hg hr => by
  obtain ⟨h1, h2, h3, h4, h5⟩ := h
  have hr2 : ∀ r, row = some r → ∃ o : Obj, W.heap[r]? = some o ∧ o.isCells = false := fun r e => (hr r e).2
  exact ⟨h1, h2, blk_kept h3 hg hr2, blk_kept h4 hg hr2, h5.grown hg h5.size (fun k e => Nat.le_trans hB (hr k e).1)⟩
theorem reads_snoc (pre : List (List UInt8)) (x : List UInt8) (m m0 : MetaD) (h : readsM pre m0 = some m) : readsM (pre ++ [x]) m0 = if (readW m x).2 = true then some (readW m x).1 else none := by
  rw [readsM_app, h]
  simp [readsM]
theorem reads_pre {a b : List (List UInt8)} {m0 : MetaD} (h : a <+: b) (hn : readsM a m0 = none) : readsM b m0 = none := by
  obtain ⟨c, rfl⟩ := h
  rw [readsM_app, hn]; rfl
theorem parse_of_none {l : List UInt8} (h : l ≠ [45]) (hn : readsM (pieces l) (0, 0, 0) = none) : parseL l = none := by rw [parse_reads h, hn]
theorem parse_of_some {l : List UInt8} (h : l ≠ [45]) {m : MetaD} (hn : readsM (pieces l) (0, 0, 0) = some m) : parseL l = if okM m = true ∧ textL m = l then some m else none := by rw [parse_reads h, hn]
theorem keepsFrom_touch {F : List Nat} {B : Nat} {W W' : World} (t : Touch F W W') (hF : ∀ k ∈ F, k < B) : KeepsFrom B W W' :=
  ⟨t.size, fun k o hk ho _ => (t.block k (lt_of_block ho) (fun h => by have := hF k h; omega)).trans ho⟩
theorem pa_leave {w W : World} {D : Nat} (m : MetaD) (e : Int) (hD : w.heap.size + 6 ≤ D) (hd : W.heap[D]? = some (.deferred (some []))) (hm : MetaB W w.heap.size m) (he : W.heap[w.heap.size + 1]? = some (.cells #[.int .i64 e] TErr)) (hb : Below w.heap.size w W) (l : List Value) (h0 h1 : Value) :
    bodyPostM Fence.wide 3 Tryd.prog Tryd.f10 (fun r w' => r = .returned (.tuple #[metaV m.1 m.2.1 m.2.2, .int .i64 e]) ∧ Touch [] w w') .ret { tmps := (h0 :: h1 :: .pointer (some ⟨w.heap.size, 0, none⟩) :: .pointer (some ⟨w.heap.size + 1, 0, none⟩) :: l).toArray, defers := [{ target := .collected D, args := #[] }] } W := by
  refine ⟨by simp, .inl ⟨_, _, rfl, run_takeDeferred hd, ?_⟩⟩
  have hm2 : MetaB (W.putObj D (.deferred none)) w.heap.size m := (World.putObj_heap_other (by omega)).trans hm
  have he2 : (W.putObj D (.deferred none)).heap[w.heap.size + 1]? = some (.cells #[.int .i64 e] TErr) := (World.putObj_heap_other (by omega)).trans he
  obtain ⟨c0, c1, c2⟩ := hm2.c
  have c3 := cell_of he2 0
  exact ⟨_, by simp [results, Tryd.results10, go_sem, c0, c1, c2, c3, metaV], rfl, Touch.of_below (hb.trans (belowK_b (w := w) (Nat.le_refl _) _ D _ _ (by omega) hd rfl rfl))⟩
set_option maxHeartbeats 4000000 in
theorem parse_main (s : ByteArray) (w : World) (htab : Tab w) (hs : s.size ≤ 100000) (hne : s.data.toList ≠ [45]) : Calls Tryd.prog 10 #[.string s] w fun e w' => e = .returned (parseV (parseL s.data.toList)) ∧ Touch [] w w' := by
  have q1 : (s.toList == [45]) = false := by rw [ByteArray.toList_eq]; simpa using hne
  have q2 : ([45] == s.toList) = false := by rw [ByteArray.toList_eq, beq_eq_false_iff_ne]; exact fun e => hne e.symm
  obtain ⟨L, hL⟩ : ∃ L, L = s.data.toList := ⟨_, rfl⟩
  obtain rfl : s = txt L := (arr_eq hL.symm).trans rfl
  rw [← hL] at hne ⊢
  clear hL
  have hLl : L.length ≤ 100000 := by rw [← txt_size]; exact hs
  have CS := hid fun W => splitSeq_any (txt L) W
  refine (callsIn_wide (n := 3)).1 ?_
  refine callsIn_of_wp_marks Tryd.func10 rfl trivial ?_ rfl
  simp only [Tryd.ntmps10, List.size_toArray, List.length_cons, List.length_nil, Nat.reduceAdd, Nat.reduceSub, Array.replicate_succ, Array.replicate_zero, List.push_toArray, List.append_toArray, List.nil_append, List.cons_append]
  gi_wp2_with (refine ⟨trivial, ?_⟩; gi_at_call 22; refine (callsIn_wide.2 (CS.out _)).mono ?_; rintro r w' ⟨rfl, rfl⟩)
  simp only [Nat.add_assoc, Nat.reduceAdd]
  obtain ⟨W0, hW0⟩ : ∃ W0, W0 = (((((w.alloc (.cells #[.int .i64 0, .int .i64 0, .int .i64 0] TMeta)).alloc (.cells #[.int .i64 0] TErr)).alloc (.cells #[.int .i64 0, .int .i64 0, .int .i64 0] TMeta)).alloc (.cells #[.string (txt L)] 9)).alloc (.cells #[.string ⟨#[32]⟩] 9)).alloc (.cells #[.int .i64 0] 3) := ⟨_, rfl⟩
  rw [← hW0]
  have hsz : W0.heap.size = w.heap.size + 6 := by rw [hW0]; simp
  have b0 : W0.heap[w.heap.size]? = some (.cells #[.int .i64 0, .int .i64 0, .int .i64 0] TMeta) := by rw [hW0]; iterate 5 refine heap_alloc_keep ?_ _
                                                                                                       exact heap_alloc_new w _
  have b1 : W0.heap[w.heap.size + 1]? = some (.cells #[.int .i64 0] TErr) := by
    rw [hW0]
    iterate 4 refine heap_alloc_keep ?_ _
    have := heap_alloc_new (w.alloc (.cells #[.int .i64 0, .int .i64 0, .int .i64 0] TMeta)) (.cells #[.int .i64 0] TErr)
    rwa [World.size_alloc] at this
  have b2 : W0.heap[w.heap.size + 2]? = some (.cells #[.int .i64 0, .int .i64 0, .int .i64 0] TMeta) := by
    rw [hW0]
    iterate 3 refine heap_alloc_keep ?_ _
    have := heap_alloc_new ((w.alloc (.cells #[.int .i64 0, .int .i64 0, .int .i64 0] TMeta)).alloc (.cells #[.int .i64 0] TErr)) (.cells #[.int .i64 0, .int .i64 0, .int .i64 0] TMeta)
    rwa [World.size_alloc, World.size_alloc] at this
  have hq : SqB (w.heap.size + 4) (w.heap.size + 3) (w.heap.size + 5) L W0 := by
    obtain ⟨W3, hW3⟩ : ∃ W3, W3 = ((w.alloc (.cells #[.int .i64 0, .int .i64 0, .int .i64 0] TMeta)).alloc (.cells #[.int .i64 0] TErr)).alloc (.cells #[.int .i64 0, .int .i64 0, .int .i64 0] TMeta) := ⟨_, rfl⟩
    rw [← hW3] at hW0
    have h3 : W3.heap.size = w.heap.size + 3 := by rw [hW3]; simp
    refine ⟨?_, ?_, ?_⟩
    · rw [hW0]
      refine heap_alloc_keep ?_ _
      have := heap_alloc_new (W3.alloc (.cells #[.string (txt L)] 9)) (.cells #[.string ⟨#[32]⟩] 9)
      rwa [World.size_alloc, h3] at this
    · rw [hW0]
      refine heap_alloc_keep (heap_alloc_keep ?_ _) _
      have := heap_alloc_new W3 (.cells #[.string (txt L)] 9)
      rwa [h3] at this
    · rw [hW0]
      have := heap_alloc_new ((W3.alloc (.cells #[.string (txt L)] 9)).alloc (.cells #[.string ⟨#[32]⟩] 9)) (.cells #[.int .i64 0] 3)
      rwa [World.size_alloc, World.size_alloc, h3] at this
  have hB0 : Below w.heap.size w W0 := by
    have : Touch [] w W0 := by rw [hW0]; iterate 6 refine Touch.alloc ?_ _
                               exact Touch.refl [] w
    exact this.below (Nat.le_refl _) (by simp)
  clear hW0
  refine rangeBoxes rfl (by decide) (gf := 43) (lb := #[.pointer (some ⟨w.heap.size + 4, 0, none⟩), .pointer (some ⟨w.heap.size + 3, 0, none⟩), .pointer (some ⟨w.heap.size + 5, 0, none⟩)]) rfl trivial (enters_of Tryd.func43 (by kernel_rfl) rfl)
    (encs := fun x : Pc => #[.string (txt x.1)]) (fun _ => rfl) (Pr := prS (w.heap.size + 4) (w.heap.size + 3) (w.heap.size + 5)) (fun k hk => by unfold prS at hk; omega) (S := fun ys => pvals ys = pieces L) (Sp := fun pre => pvals pre <+: pieces L) (N := (pieces L).length)
    (PaI w) (PaX w) (PaI.own w _ (by omega)) (fun c => PaX.own w c _ (by omega)) ⟨⟨(0, 0, 0), rfl, b2⟩, b0, b1, hB0⟩ ?seq
    (fun x => { tmps := #[.string (txt L), undef, .pointer (some ⟨w.heap.size, 0, none⟩), .pointer (some ⟨w.heap.size + 1, 0, none⟩), .pointer (some ⟨w.heap.size + 2, 0, none⟩), .string (txt x.1), undef, undef, .string (txt L), .bool false, undef, .string (txt L), .func (.func 43) #[] #[.pointer (some ⟨w.heap.size + 4, 0, none⟩), .pointer (some ⟨w.heap.size + 3, 0, none⟩), .pointer (some ⟨w.heap.size + 5, 0, none⟩)], .string (txt x.1), undef, undef, undef, undef, undef, undef, undef, undef, undef, undef, undef, undef, undef, undef, undef, undef, undef, undef], defers := [] })
    ?assign ?body ?done ?stop
  case seq =>
    intro l J Jx W hK hJ0 hJI hJk hY
    refine (split1_in 2 l (w.heap.size + 4) (w.heap.size + 3) (w.heap.size + 5) (pieces L).length (by omega) (by omega) L hLl (Nat.le_refl _) (fun pre W => ∃ p, pvals p = pre ∧ J p W) (fun pre W => ∃ p, pvals p = pre ∧ Jx p W) ?_ ?_ W (hq.kp hK) ⟨[], rfl, hJ0⟩).mono ?_
    · rintro pre W v ⟨p, hp, hj⟩ _
      exact ⟨p, hp, hJk _ _ _ hj ((hJI _ _ hj).set (by omega) _) ((KeepsOthers.setCell _ _ _).from _)⟩
    · rintro m pre x W1 hx ⟨p, rfl, hj⟩ hl
      refine YieldAt.mono (yield_anyDepth rfl m (hY p ⟨x, Nat.le_trans hx hLl⟩ W1 hj (by simpa using hl))) ?_
      rintro e W2 (⟨rfl, h1, h2⟩ | ⟨rfl, h1⟩)
      · exact .inl ⟨rfl, ⟨_, by simp, h1⟩, h2⟩
      · exact .inr ⟨rfl, ⟨_, by simp, h1⟩⟩
    · rintro e W2 ⟨hv, (⟨ys, rfl, p, hp, hj⟩ | ⟨pre, hpre, p, rfl, hj⟩)⟩
      · exact ⟨hv, .inl ⟨p, hp, hj⟩⟩
      · exact ⟨hv, .inr ⟨p, hpre, hj⟩⟩
  case assign =>
    rintro l x W K hK
    gi_wp2
    exact hK
  case body =>
    rintro l pre ⟨x, hx⟩ W hl hlr ⟨⟨m, h1, h2⟩, h3, h4, h5⟩ hlt
    have C := hid (read_any (txt x) m (w.heap.size + 2) W h2 (by rw [txt_size]; exact hx))
    have tx : (txt x).data.toList = x := rfl
    rw [tx] at C
    have RS := hid (reads_snoc (pvals pre) x m (0, 0, 0) h1)
    have KF : Hid (∀ w3, Touch [w.heap.size + 2] W w3 → KeepsFrom W0.heap.size W w3 ∧ KpP (prS (w.heap.size + 4) (w.heap.size + 3) (w.heap.size + 5)) W w3 ∧ MetaB w3 w.heap.size (0, 0, 0) ∧ w3.heap[w.heap.size + 1]? = some (.cells #[.int .i64 0] TErr) ∧ Below w.heap.size w w3) := hid fun w3 t3 =>
      ⟨keepsFrom_touch t3 (by simp; omega), KpP.of_touch t3 (fun k hk => by obtain rfl := List.mem_singleton.1 hk; unfold prS; omega), touch_other t3 h3 (by simp), touch_other t3 h4 (by simp), h5.trans (t3.below h5.size (by simp))⟩
    have PV : Hid (pvals (pre ++ [(⟨x, hx⟩ : Pc)]) = pvals pre ++ [x]) := hid (by simp)
    clear tx h1 h2 h3 h4 h5
    cases hr : (readW m x).2
    · rw [hr] at C
      have RN : Hid (readsM (pvals (pre ++ [(⟨x, hx⟩ : Pc)])) (0, 0, 0) = none) := hid (by rw [PV.out, RS.out, hr]; rfl)
      clear hr RS PV
      gi_wp2_with (refine ⟨trivial, ?_⟩; gi_at_call 23; refine ((callsIn_wide.2 C.out).inRound l).mono ?_; rintro r w3 ⟨rfl, m3, t3⟩; obtain ⟨k1, k2, k3, k4, k5⟩ := KF.out _ t3; have e0 := cell_of (show w3.heap[w.heap.size]? = _ from k3) 0; have e1 := cell_of (show w3.heap[w.heap.size]? = _ from k3) 1; have e2 := cell_of (show w3.heap[w.heap.size]? = _ from k3) 2; have f0 := free_of (show w3.heap[w.heap.size]? = _ from k3) 0; have f1 := free_of (show w3.heap[w.heap.size]? = _ from k3) 1; have f2 := free_of (show w3.heap[w.heap.size]? = _ from k3) 2; have e3 := cell_of k4 0; have f3 := free_of k4 0; have K1 := hid k1; have K3 := hid k3; have K4 := hid k4; have K5 := hid k5; clear k1 k2 k3 k4 k5 m3 t3)
      have hA := heap_set (i := 2) (heap_set (i := 1) (heap_set (i := 0) (show w3.heap[w.heap.size]? = _ from K3.out) (.int .i64 0)) (.int .i64 0)) (.int .i64 0)
      refine ⟨K1.out.trans (((((KeepsOthers.setCell _ _ _).trans (KeepsOthers.setCell _ _ _)).trans (KeepsOthers.setCell _ _ _)).trans (KeepsOthers.setCell _ _ _)).from _), rfl, RN.out, (heap_set_other _ (by simp)).trans hA, ?_, (((K5.out.setCell (by simp) _).setCell (by simp) _).setCell (by simp) _).setCell (by simp) _⟩
      exact heap_set ((heap_set_other _ (by simp)).trans ((heap_set_other _ (by simp)).trans ((heap_set_other _ (by simp)).trans K4.out))) _
    · rw [hr] at C
      have RN : Hid (readsM (pvals (pre ++ [(⟨x, hx⟩ : Pc)])) (0, 0, 0) = some (readW m x).1) := hid (by rw [PV.out, RS.out, hr]; rfl)
      clear hr RS PV
      gi_wp2_with (refine ⟨trivial, ?_⟩; gi_at_call 23; refine ((callsIn_wide.2 C.out).inRound l).mono ?_; rintro r w3 ⟨rfl, m3, t3⟩; have K := hid (KF.out _ t3); have M3 := hid m3; clear m3 t3)
      obtain ⟨k1, k2, k3, k4, k5⟩ := K.out
      exact ⟨k1, k2, ⟨_, RN.out, M3.out⟩, k3, k4, k5⟩
  case done =>
    rintro D ys W hD hS ⟨⟨m, h1, h2⟩, h3, h4, h5⟩ hK
    have TW := Touch.of_below h5
    have CT := hid (metaText_any m W (htab.touch TW))
    unfold metaV at CT
    have M := hid h2
    have R0 := hid (show W.heap[w.heap.size]? = some (.cells #[.int .i64 0, .int .i64 0, .int .i64 0] TMeta) from h3)
    have R1 := hid h4
    have HB := hid h5
    have HK := hid hK
    obtain ⟨c0, c1, c2⟩ := h2.c
    have PS := hid (parse_of_some hne (by rw [← hS]; exact h1))
    have hD2 := hid hD
    have KD : Hid (∀ w3, Touch [] W w3 → w3.heap[D]? = some (.deferred (some [])) ∧ w3.heap[w.heap.size]? = some (.cells #[.int .i64 0, .int .i64 0, .int .i64 0] TMeta) ∧ w3.heap[w.heap.size + 1]? = some (.cells #[.int .i64 0] TErr) ∧ MetaB w3 (w.heap.size + 2) m ∧ Below w.heap.size w w3) := hid fun w3 t =>
      ⟨touch_other t HK.out (by simp), touch_other t R0.out (by simp), touch_other t R1.out (by simp), M.out.t t, HB.out.trans (t.below HB.out.size (by simp))⟩
    clear hK h1 h2 h3 h4 h5 TW hS hD R0 R1 M HB HK
    by_cases hok : okM m = true
    · have hv : textV m = .tuple #[.string (txt (textL m)), .int .i64 0] := by unfold textV; rw [if_pos hok]
      rw [hv] at CT
      by_cases hte : textL m = L
      · rw [if_pos ⟨hok, hte⟩] at PS
        rw [hte] at CT
        clear hv hok hte
        gi_wp2_with (refine ⟨trivial, ?_⟩; gi_at_call 8; refine (callsIn_wide.2 CT.out).mono ?_; rintro r w3 ⟨rfl, t3⟩; obtain ⟨kd, kr, ke, km, kb⟩ := KD.out _ t3; obtain ⟨g0, g1, g2⟩ := km.c; obtain ⟨z0, z1, z2⟩ := (show MetaB w3 w.heap.size (0, 0, 0) from kr).c; obtain ⟨y0, y1, y2⟩ := (show MetaB w3 w.heap.size (0, 0, 0) from kr).f; have ze := cell_of ke 0; have ye := free_of ke 0; have K3 := hid (KD.out _ t3); clear kd kr ke km kb t3)
        obtain ⟨kd, kr, ke, -, kb⟩ := K3.out
        have A1 := (show MetaB w3 w.heap.size (0, 0, 0) from kr).put m
        have hD3 := hD2.out
        rw [PS.out]
        exact pa_leave m 0 (by omega) ((heap_set_other _ (by simp; omega)).trans ((heap_set_other _ (by simp; omega)).trans ((heap_set_other _ (by simp; omega)).trans ((heap_set_other _ (by simp; omega)).trans kd)))) ((heap_set_other _ (by simp)).trans A1)
          (heap_set ((heap_set_other _ (by simp)).trans ((heap_set_other _ (by simp)).trans ((heap_set_other _ (by simp)).trans ke))) _) ((((kb.setCell (by simp) _).setCell (by simp) _).setCell (by simp) _).setCell (by simp) _) _ _ _
      · rw [if_neg (fun h => hte h.2)] at PS
        have n1 : ((txt (textL m)).toList == (txt L).toList) = false := by
          rw [ByteArray.toList_eq, ByteArray.toList_eq, beq_eq_false_iff_ne]
          exact hte
        have n2 : ((txt L).toList == (txt (textL m)).toList) = false := by
          rw [ByteArray.toList_eq, ByteArray.toList_eq, beq_eq_false_iff_ne]
          exact fun e => hte e.symm
        clear hv hok hte
        generalize txt (textL m) = tt at *
        gi_wp2_with (refine ⟨trivial, ?_⟩; gi_at_call 8; refine (callsIn_wide.2 CT.out).mono ?_; rintro r w3 ⟨rfl, t3⟩; obtain ⟨kd, kr, ke, km, kb⟩ := KD.out _ t3; obtain ⟨g0, g1, g2⟩ := km.c; obtain ⟨z0, z1, z2⟩ := (show MetaB w3 w.heap.size (0, 0, 0) from kr).c; obtain ⟨y0, y1, y2⟩ := (show MetaB w3 w.heap.size (0, 0, 0) from kr).f; have ze := cell_of ke 0; have ye := free_of ke 0; have K3 := hid (KD.out _ t3); clear kd kr ke km kb t3)
        obtain ⟨kd, kr, ke, -, kb⟩ := K3.out
        have A1 := (show MetaB w3 w.heap.size (0, 0, 0) from kr).put (0, 0, 0)
        have hD3 := hD2.out
        rw [PS.out]
        exact pa_leave (0, 0, 0) 6 (by omega) ((heap_set_other _ (by simp; omega)).trans ((heap_set_other _ (by simp; omega)).trans ((heap_set_other _ (by simp; omega)).trans ((heap_set_other _ (by simp; omega)).trans kd)))) ((heap_set_other _ (by simp)).trans A1)
          (heap_set ((heap_set_other _ (by simp)).trans ((heap_set_other _ (by simp)).trans ((heap_set_other _ (by simp)).trans ke))) _) ((((kb.setCell (by simp) _).setCell (by simp) _).setCell (by simp) _).setCell (by simp) _) _ _ _
    · rw [if_neg (fun h => hok h.1)] at PS
      have hv : textV m = .tuple #[.string ⟨#[]⟩, .int .i64 1] := by unfold textV; rw [if_neg hok]
      rw [hv] at CT
      clear hv hok
      gi_wp2_with (refine ⟨trivial, ?_⟩; gi_at_call 8; refine (callsIn_wide.2 CT.out).mono ?_; rintro r w3 ⟨rfl, t3⟩; obtain ⟨kd, kr, ke, km, kb⟩ := KD.out _ t3; obtain ⟨g0, g1, g2⟩ := km.c; obtain ⟨z0, z1, z2⟩ := (show MetaB w3 w.heap.size (0, 0, 0) from kr).c; obtain ⟨y0, y1, y2⟩ := (show MetaB w3 w.heap.size (0, 0, 0) from kr).f; have ze := cell_of ke 0; have ye := free_of ke 0; have K3 := hid (KD.out _ t3); clear kd kr ke km kb t3)
      obtain ⟨kd, kr, ke, -, kb⟩ := K3.out
      have A1 := (show MetaB w3 w.heap.size (0, 0, 0) from kr).put (0, 0, 0)
      have hD3 := hD2.out
      rw [PS.out]
      exact pa_leave (0, 0, 0) 6 (by omega) ((heap_set_other _ (by simp; omega)).trans ((heap_set_other _ (by simp; omega)).trans ((heap_set_other _ (by simp; omega)).trans ((heap_set_other _ (by simp; omega)).trans kd)))) ((heap_set_other _ (by simp)).trans A1)
        (heap_set ((heap_set_other _ (by simp)).trans ((heap_set_other _ (by simp)).trans ((heap_set_other _ (by simp)).trans ke))) _) ((((kb.setCell (by simp) _).setCell (by simp) _).setCell (by simp) _).setCell (by simp) _) _ _ _
  case stop =>
    rintro D c pre W hD hpre ⟨rfl, h2, h3, h4, h5⟩ hK
    have PN := hid (parse_of_none hne (reads_pre hpre h2))
    gi_wp2
    rw [PN.out]
    exact pa_leave (0, 0, 0) 6 (by omega) hK h3 h4 h5 _ _ _
theorem metaParse_any (s : ByteArray) (w : World) (htab : Tab w) (hs : s.size ≤ 100000) : Calls Tryd.prog 10 #[.string s] w fun e w' => e = .returned (parseV (parseL s.data.toList)) ∧ Touch [] w w' := by
  by_cases h : s.data.toList = [45]
  · obtain rfl : s = ⟨#[45]⟩ := arr_eq h
    have := parse_dash w
    rwa [← parse_bar] at this
  · exact parse_main s w htab hs h
end Go.Proofs.YtepbflcmghkieaaDoor
