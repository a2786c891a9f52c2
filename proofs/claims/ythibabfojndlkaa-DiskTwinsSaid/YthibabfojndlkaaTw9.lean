/- Twin, Arm. -/
import Derived.Test.YthibabfojndlkaaMf9
import Derived.Deep.AppendLies
import Derived.Deep.RegionLaw
namespace Go.Proofs.Ythibabfojndlkaa
open Go.RowKit Go.Lib
set_option maxRecDepth 100000

/-- A call of a function of the program's, at a step of a region that draws its order. -/
theorem step_call {P : Program} (w : World) {ops : Array Oper} {o : Oper} {a : Act} {K : Act → World → Prop} {Q : Exit → Act → World → Prop} {E : Prop} {f : FuncId} {args : Array Value} {R : Ending → World → Prop} (hgd : o.guard = none)
    (hop : (execOp a.eval o).run P w = .ok (.enter f args) w) (hc : Calls P f args w R) (h : ∀ e w', R e w' → ∃ v, e = .returned v ∧ K (a.put o.dst v) w') :
    if Region.wanted o (yielded ops a.tmps) = true then Oper.wp P o a w K Q else E := by
  rw [if_pos (by simp [Region.wanted, hgd])]
  unfold Oper.wp
  rw [hop, Oper.upon_enter]
  exact hc.mono fun e w' hR => by obtain ⟨v, rfl, hK⟩ := h e w' hR; exact hK

structure TwSt (w : World) (T : Nat) (k : Dk) (L : List Px) (kv2 : Value) (i : Nat) (sv : Value) (S : List Px) (wr : World) : Prop where
  le : i ≤ L.length
  slen : S.length = i
  cells : wr.heap[T]? = some (.cells (dkCells k sv kv2) tDisk (0, 0))
  own : wr.ownsRow w.heap.size tPF 1 sv S.length (rowVals S)
  files : S.map (·.f) = (L.map (·.f)).take i
  each : ∀ x ∈ S, FileAt wr x
  new : ∀ x ∈ S, ∀ b ∈ x.own, w.heap.size ≤ b
  apart : Apart S
  keep : wr.ownsRow w.heap.size tInt 1 kv2 k.keep.length (intVals k.keep)
  touch : Touch [] w wr

theorem tw_step {w wr w2 w3 : World} {T : Nat} {k : Dk} {L : List Px} {kv2 sv sv' : Value} {i : Nat} {S : List Px} {y : Px} (h : TwSt w T k L kv2 i sv S wr) (hT : w.heap.size ≤ T) (hi : i < L.length) (t2 : Touch [] wr w2) (hy : FileAt w2 y) (hf : y.f = L[i].f) (hyo : ∀ b ∈ y.own, wr.heap.size ≤ b)
    (t3 : Touch sv.ownBlock.toList w2 w3) (ho : w3.ownsRow w.heap.size tPF 1 sv' (S.length + 1) (rowVals S ++ [.pointer (some ⟨y.b, 0, none⟩)])) : TwSt w T k L kv2 (i + 1) sv' (S ++ [y]) (w3.setCell ⟨T, 3, none⟩ sv') := by
  have own2 := own_touch h.own t2 (by simp)
  have c2 := (t2.block T (lt_of_block h.cells) (by simp)).trans h.cells
  have c3 := (t3.block T (lt_of_block c2) (fun hm => row_ne_disk c2 own2 (by decide) T hm rfl)).trans c2
  have t4 : Touch [T] w3 (w3.setCell ⟨T, 3, none⟩ sv') := (Touch.refl _ _).setCell (.inl (by simp)) _
  have k2 := own_touch h.keep t2 (by simp)
  have k3 := own_touch k2 t3 (fun q hq hm => by
    rcases k2.2 with ⟨e, _⟩ | ⟨g, cap, cur, e, hb, hg, _⟩
    · rw [e] at hq; simp [Value.ownBlock] at hq
    · rw [e] at hq
      simp [Value.ownBlock] at hq
      subst hq
      rcases own2.2 with ⟨e2, _⟩ | ⟨g2, cap2, cur2, e2, hb2, hg2, _⟩
      · rw [e2] at hm; simp [Value.ownBlock] at hm
      · rw [e2] at hm
        simp [Value.ownBlock] at hm
        subst hm
        exact ne_type hg hg2 (by decide) rfl)
  have hz : ∀ z, FileAt w2 z → FileAt (w3.setCell ⟨T, 3, none⟩ sv') z := by
    intro z hz
    have z3 := hz.touch t3 (ne_row own2 hz)
    exact z3.touch t4 (fun q hq => by simpa using own_ne_disk c3 z3 q hq)
  refine ⟨by omega, by simp [h.slen], heap_set (i := 3) c3 sv', ?_, ?_, ?_, ?_, ?_, own_touch k3 t4 (fun q hq => by simpa using row_ne_disk c3 k3 (by decide) q hq), ((h.touch.trans t2 (by simp)).trans t3 (fun q hq => .inr (own_base h.own q hq))).trans t4 (fun q hq => by simp at hq; subst hq; exact .inr hT)⟩
  · have e1 : (S ++ [y]).length = S.length + 1 := by simp
    rw [e1, rowVals_snoc]
    exact own_touch ho t4 (fun q hq => by simpa using row_ne_disk c3 ho (by decide) q hq)
  · rw [List.map_append, h.files, List.take_succ_eq_append_getElem (by simpa using hi)]
    simp [hf]
  · intro z hzm
    rcases List.mem_append.1 hzm with h1 | h1
    · exact hz z ((h.each z h1).touch t2 (by simp))
    · simp at h1; subst h1; exact hz _ hy
  · intro z hzm b hb
    rcases List.mem_append.1 hzm with h1 | h1
    · exact h.new z h1 b hb
    · simp at h1; subst h1; exact Nat.le_trans h.touch.size (hyo b hb)
  · unfold Apart
    rw [List.pairwise_append]
    refine ⟨h.apart, by simp, ?_⟩
    intro a ha b hb q hq hqb
    simp at hb; subst hb
    have := (h.each a ha).lt q hq
    have := hyo q hqb
    omega

theorem touch_blk {w : World} {b : Nat} {x : Obj} (h : w.heap[b]? = some x) (o : Obj) : (w.alloc o).heap[b]? = some x := (Below.heap_alloc w o b (lt_of_block h)).trans h
set_option maxHeartbeats 4000000 in
theorem twin_any {w : World} {d : Nat} {k : Dk} {own : List Nat} (h : Dsk w d k own) (hkl : k.keep.length ≤ 1000000) :
    Calls Try.prog 25 #[ptr d] w fun e w' => ∃ t own', e = .returned (.pointer (some ⟨t, 0, none⟩)) ∧ Dsk w' t k own' ∧ Touch [] w w' ∧ ∀ i ∈ own', w.heap.size ≤ i := by
  obtain ⟨rv, kv, L, hD, hO, hB⟩ := h
  obtain ⟨c0, c1, c2, c3, c4, c5, c6⟩ := dk_cell hD.cells
  obtain ⟨rx, rc, hrv, hrc, hrm, -, hcell⟩ := row_cell hD.row
  subst hrv
  obtain ⟨kx, kc, hkv, -⟩ := ints_own hD.keep
  subst hkv
  have hlen : L.length ≤ 200 := by have := hD.many; rw [← hD.files, List.length_map] at this; exact this
  have HC := hid hcell
  have HD := hid hD
  have CK := hid fun w1 (t : Touch [] w w1) => clone_int (own_touch hD.keep t (by simp)) (by omega) (by intro u hu; obtain ⟨_, _, rfl⟩ := List.mem_map.1 hu; rfl)
  have CT := hid fun w1 (t : Touch [] w w1) (x : Px) (hx : x ∈ L) => twin_file ((hD.each x hx).touch t (by simp))
  have k3 := alloc_cell c3
  have k6 := alloc_cell c6
  have hfin : Hid (∀ wr sv S kv2, TwSt w w.heap.size k L kv2 L.length sv S wr → ∃ t own', Ending.returned (.pointer (some ⟨w.heap.size, 0, none⟩)) = .returned (.pointer (some ⟨t, 0, none⟩)) ∧ Dsk wr t k own' ∧ Touch [] w wr ∧ ∀ i ∈ own', w.heap.size ≤ i) := hid (by
    intro wr sv S kv2 hS
    have hDI : DiskIs wr w.heap.size k sv kv2 S := ⟨hS.cells, own_zero hS.own, by rw [hS.files, ← hD.files]; exact List.take_of_length_le (by simp), hS.each, hS.apart, own_zero hS.keep, hD.sorted, hD.many, hD.left⟩
    refine ⟨_, ownOf w.heap.size sv kv2 S, rfl, ⟨_, _, _, hDI, fun _ h => h, hDI.lt⟩, hS.touch, ?_⟩
    intro i hi
    rcases mem_own.1 hi with rfl | hi | hi | ⟨x, hx, hi⟩
    · exact Nat.le_refl _
    · exact own_base hS.own i hi
    · exact own_base hS.keep i hi
    · exact hS.new x hx i hi)
  have hst : Hid (∀ w1 kn kcc (y : Option Addr), w1.ownsRow w.heap.size tInt 1 (.slice y kn kcc) k.keep.length (intVals k.keep) → Touch [] (w.alloc (.cells (dkCells k (.slice rx L.length rc) (.slice kx k.keep.length kc)) tDisk)) w1 → TwSt w w.heap.size k L (.slice y kn kcc) 0 (.slice none 0 0) [] ((w1.setCell ⟨w.heap.size, 6, none⟩ (.slice y kn kcc)).setCell ⟨w.heap.size, 3, none⟩ (.slice none 0 0))) := hid (by
    intro w1 kn kcc y ho t
    have b1 := (t.block w.heap.size (by simp) (by simp)).trans (heap_alloc_new w _)
    have tt : Touch [w.heap.size] w1 ((w1.setCell ⟨w.heap.size, 6, none⟩ (.slice y kn kcc)).setCell ⟨w.heap.size, 3, none⟩ (.slice none 0 0)) := ((Touch.refl _ _).setCell (.inl (by simp)) _).setCell (.inl (by simp)) _
    exact ⟨Nat.zero_le _, rfl, heap_set (i := 3) (heap_set (i := 6) b1 _) _, World.ownsRow_nil _ _ _ _, by simp, by simp, by simp, by simp [Apart], own_touch ho tt (fun q hq => by simpa using row_ne_disk b1 ho (by decide) q hq), (((Touch.refl [] w).alloc _).trans t (by simp)).trans tt (fun q hq => by simp at hq; subst hq; exact .inr (Nat.le_refl _))⟩)
  have CKK : Hid (Calls Try.prog 32 #[.slice kx k.keep.length kc] (w.alloc (.cells #[.bool true, .bool k.on, .int .i64 k.room, .slice rx L.length rc, .bool k.armed, .int .i64 k.left, .slice kx k.keep.length kc] tDisk)) fun e w1 => ∃ y cc, e = .returned (.slice y k.keep.length cc) ∧
      w1.cell? ⟨w.heap.size, 6, none⟩ = some (.slice kx k.keep.length kc) ∧ w1.cell? ⟨w.heap.size, 3, none⟩ = some (.slice rx L.length rc) ∧ w1.frozen? ⟨w.heap.size, 6, none⟩ = false ∧ w1.frozen? ⟨w.heap.size, 3, none⟩ = false ∧ w1.cell? ⟨d, 3, none⟩ = some (.slice rx L.length rc) ∧ ¬ (w.heap.size = d) ∧ ¬ (d = w.heap.size) ∧
      TwSt w w.heap.size k L (.slice y k.keep.length cc) 0 (.slice none 0 0) [] ((w1.setCell ⟨w.heap.size, 6, none⟩ (.slice y k.keep.length cc)).setCell ⟨w.heap.size, 3, none⟩ (.slice none 0 0))) := hid (by
    refine (CK.out _ ((Touch.refl [] w).alloc _)).mono ?_
    rintro e w1 ⟨v1, rfl, o1, t1⟩
    obtain ⟨y1, cc1, rfl, -⟩ := own_form o1
    have b1 := (t1.block w.heap.size (by simp) (by simp)).trans (heap_alloc_new w _)
    have hdl := lt_of_block hD.cells
    refine ⟨y1, cc1, rfl, cell_of b1 6, cell_of b1 3, free_of b1 6, free_of b1 3, touch_cell (((Touch.refl [] w).alloc _).trans t1 nil_mem) c3 List.not_mem_nil, by omega, by omega, hst.out w1 _ cc1 y1 ⟨o1.1, o1.2.imp id (fun ⟨g, cap, cur, a1, a2, a3⟩ => ⟨g, cap, cur, a1, Nat.le_trans (Nat.le_of_lt (by simp)) a2, a3⟩)⟩ t1⟩)
  unfold ptr
  have hTd := hid (lt_of_block hD.cells)
  clear hD hO hB hcell hrm hkl hst
  go_enter Try.func25, Try.ntmps25
  go_wp2_with (go_at_call 32; with_reducible refine CKK.out.mono ?_; rintro e w1 ⟨y1, cc1, rfl, z6, z3, f6, f3, r3, hn1, hn2, hS0⟩; have HS0 := hid hS0; clear hS0)
  go_loopw [23] (fun iv wr => ∃ (i : Nat) (sx : Option Addr) (sc : Nat), i ≤ L.length ∧ iv = .int .i64 i ∧ Hid (∃ S, TwSt w w.heap.size k L (.slice y1 k.keep.length cc1) i (.slice sx i sc) S wr)) (fun iv _ => L.length - (RowKit.intOf iv).toNat)
  case atStart => exact ⟨0, none, 0, Nat.zero_le _, rfl, hid ⟨[], HS0.out⟩⟩
  case round =>
    obtain ⟨i, sx, sc, hi, rfl, I⟩ := hrel
    obtain ⟨S, hS⟩ := I.out
    by_cases hlt : i < L.length
    · obtain ⟨b, rfl, g0⟩ := HC.out i hlt
      have g1 := touch_cell hS.touch g0 (by simp)
      have q3 := cell_of hS.cells 3
      have q4 := free_of hS.cells 3
      simp [dkCells] at q3
      have HS := hid hS
      have hlt' : decide (i < L.length) = true := by simpa using hlt
      have CTT := hid (fun w2 (t : Touch [] wr w2) => CT.out w2 (hS.touch.trans t (by simp)) _ (List.getElem_mem hlt))
      unfold ptr at g1 CTT
      clear hS I
      go_wp2
      go_region_law (first
          | (refine step_call _ rfl (f := 48) (args := #[.pointer (some ⟨L[i].b, 0, none⟩)]) (by simp [go_sem, Act.eval]) (CTT.out _ ((Touch.refl [] wr).drew)) ?_
             intro e w2 hh
             obtain ⟨y, hyf, he, hfy, hyb, hyo, ty⟩ := made_out hh
             unfold ptr at he
             subst he
             refine ⟨_, rfl, ?_⟩
             have T2 : Hid (Touch [] wr w2) := hid (((Touch.refl [] wr).drew).trans ty (by simp))
             have b2 := (T2.out.block w.heap.size (lt_of_block HS.out.cells) (by simp)).trans HS.out.cells
             have k31 : w2.cell? ⟨w.heap.size, 3, none⟩ = some (.slice sx i sc) := by have := cell_of b2 3; simpa [dkCells] using this
             have k32 := fun o : Obj => alloc_cell k31 o
             have Y := hid (And.intro hyf (And.intro hfy hyo))
             have W2 := hid (own_touch HS.out.own T2.out (by simp))
             have B2 := hid b2
             clear hyf hfy hyb hyo ty b2)
          | (refine step_append_lies _ rfl (.tmp 28) (.tmp 31) 55 rfl w.heap.size tPF _ (.pointer none) 1 8 rfl rfl rfl rfl rfl rfl (by omega) (.slice sx i sc) i (rowVals S) (by simp [Act.eval]) (by have := W2.out.alloc (.cells #[.pointer (some ⟨y.b, 0, none⟩)] tPF); rw [HS.out.slen] at this; exact this) ⟨w2.heap.size, 0, none⟩ 1 1 [.pointer (some ⟨y.b, 0, none⟩)] (by simp [Act.eval]) rfl (World.news_of_block (heap_alloc_new w2 _)) (by intro u hu; simp at hu; subst hu; rfl) (by omega) (by unfold maxLen; omega) (by omega) (by have := HS.out.touch.size; have := T2.out.size; simp; omega) _ rfl ?_
             intro gg cap w4 hown hgrow hat hlt3
             have k41 : w4.cell? ⟨w.heap.size, 3, none⟩ = some (.slice sx i sc) := hgrow.cell (k32 _) (fun e => row_ne_disk B2.out W2.out (by decide) w.heap.size (by rw [Option.mem_toList]; exact e.symm) rfl)
             have k42 : w4.frozen? ⟨w.heap.size, 3, none⟩ = false := (hgrow.frozen_far ⟨w.heap.size, 3, none⟩ (by have := lt_of_block B2.out; simp; omega) (fun e => row_ne_disk B2.out W2.out (by decide) w.heap.size (by rw [Option.mem_toList]; exact e.symm) rfl)).trans (free_of (touch_blk B2.out _) 3)
             have O4 := hid (And.intro hown (And.intro hgrow hat))
             clear hown hgrow hat hlt3))
      all_goals
        go_wp2
        go_roundw
        case rel =>
          refine ⟨i + 1, some ⟨gg, 0, none⟩, cap, by omega, by go_num, hid ⟨S ++ [y], ?_⟩⟩
          have ho := O4.out.1
          have t3 : Touch (Value.slice sx i sc).ownBlock.toList w2 w4 := (((Touch.refl [] w2).alloc _).mono (by simp)).grown O4.out.2.1 (fun q hq => .inl (Option.mem_toList.2 hq))
          refine tw_step HS.out (Nat.le_refl _) hlt T2.out Y.out.2.1 Y.out.1 (fun q hq => ?_) t3 (by rw [HS.out.slen]; exact ho)
          rcases Y.out.2.2 q hq with h1 | h1
          · simp at h1
          · exact h1
        case measure => simp [RowKit.intOf]; omega
    · obtain rfl : i = L.length := by omega
      have HF := hid (hfin.out _ _ _ _ hS)
      clear hS I
      go_wp2
      go_ret
      exact HF.out

def armD (k : Dk) (n : Int) (ks : List Int) : Dk := { k with armed := decide (0 ≤ n), left := n.toNat, keep := ks }
set_option maxHeartbeats 1000000 in
theorem arm_any {w : World} {d : Nat} {k : Dk} {own : List Nat} {base : Nat} {v : Value} {ks : List Int} (h : Dsk w d k own) (n : Int) (hn : n ≤ 9223372036854775807) (hk : w.ownsRow base tInt 1 v ks.length (intVals ks)) (hkl : ks.length ≤ 1000000) :
    Calls Try.prog 11 #[ptr d, .int .i64 n, v] w fun e w' => e = .returned (.tuple #[]) ∧ Left d own w (armD k n ks) w' := by
  obtain ⟨rv, kv, L, hD, hO, hB⟩ := h
  obtain ⟨kx, kc, rfl, -⟩ := ints_own hk
  have CK : Hid (Calls Try.prog 32 #[.slice kx ks.length kc] w fun e w1 => ∃ y cc, e = .returned (.slice y ks.length cc) ∧ (∃ u4 u5 u6, w1.cell? ⟨d, 4, none⟩ = some u4 ∧ w1.cell? ⟨d, 5, none⟩ = some u5 ∧ w1.cell? ⟨d, 6, none⟩ = some u6) ∧ w1.frozen? ⟨d, 4, none⟩ = false ∧ w1.frozen? ⟨d, 5, none⟩ = false ∧ w1.frozen? ⟨d, 6, none⟩ = false ∧
      Left d own w (armD k n ks) (((w1.setCell ⟨d, 4, none⟩ (.bool (decide (0 ≤ n)))).setCell ⟨d, 5, none⟩ (.int .i64 (max n 0))).setCell ⟨d, 6, none⟩ (.slice y ks.length cc))) := hid (by
    refine (clone_int hk (by omega) (by intro u hu; obtain ⟨_, _, rfl⟩ := List.mem_map.1 hu; rfl)).mono ?_
    rintro e w1 ⟨v1, rfl, o1, t1⟩
    obtain ⟨y, cc, rfl, -⟩ := own_form o1
    have b1 := (t1.block d (lt_of_block hD.cells) (by simp)).trans hD.cells
    have hD1 := hD.touch t1 (by simp)
    refine ⟨y, cc, rfl, ⟨_, _, _, cell_of b1 4, cell_of b1 5, cell_of b1 6⟩, free_of b1 4, free_of b1 5, free_of b1 6, ?_⟩
    have tt : Touch [d] w1 (((w1.setCell ⟨d, 4, none⟩ (.bool (decide (0 ≤ n)))).setCell ⟨d, 5, none⟩ (.int .i64 (max n 0))).setCell ⟨d, 6, none⟩ (.slice y ks.length cc)) := (((Touch.refl _ _).setCell (.inl (by simp)) _).setCell (.inl (by simp)) _).setCell (.inl (by simp)) _
    refine DiskIs.leaves (k' := armD k n ks) (rv := rv) (kv := .slice y ks.length cc) (L := L) ⟨?_, ?_, hD.files, fun x hx => (hD1.each x hx).touch tt (fun i hi => by simpa using own_ne_disk b1 (hD1.each x hx) i hi), hD.apart, ?_, hD.sorted, hD.many, by show n.toNat ≤ _; omega⟩ ((t1.mono (by simp)).trans tt (fun i hi => by simp at hi; subst hi; exact .inl (hO _ (by simp [ownOf])))) ?_
    · have := heap_set (i := 6) (heap_set (i := 5) (heap_set (i := 4) b1 (.bool (decide (0 ≤ n)))) (.int .i64 (max n 0))) (.slice y ks.length cc)
      rw [show max n 0 = ((n.toNat : Nat) : Int) by omega] at this ⊢
      exact this
    · exact own_touch hD1.row tt (fun i hi => by simpa using row_ne_disk b1 hD1.row (by decide) i hi)
    · exact own_touch (own_zero o1) tt (fun i hi => by simpa using row_ne_disk b1 o1 (by decide) i hi)
    · intro i hi
      rcases mem_own.1 hi with rfl | hi | hi | ⟨x, hx, hi⟩
      · exact .inl (hO _ (by simp [ownOf]))
      · exact .inl (hO i (mem_own.2 (.inr (.inl hi))))
      · exact .inr (own_base o1 i hi)
      · exact .inl (hO i (mem_own.2 (.inr (.inr (.inr ⟨x, hx, hi⟩))))))
  unfold ptr
  generalize Left d own w (armD k n ks) = M at *
  clear hD hO hB hk
  go_enter Try.func11, Try.ntmps11
  go_wp2_with (go_at_call 32; with_reducible refine CK.out.mono ?_; rintro e w1 ⟨y, cc, rfl, ⟨u4, u5, u6, z4, z5, z6⟩, f4, f5, f6, hm⟩; have HM := hid hm; clear hm)
  exact bodyPost_end (results_none rfl _ _ _) rfl ⟨rfl, HM.out⟩
end Go.Proofs.Ythibabfojndlkaa
