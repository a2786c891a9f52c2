/- The laws' own Get, walked. -/
import Derived.Test.YtcihnfgfficmlaaGet7
import Derived.Test.YtcihnfgfficmlaaEvSame
import Derived.Deep.AppendLies
import Derived.Deep.RegionLaw
namespace Go.Proofs.Ytcihnfgfficmlaa
open Go.RowKit Go.Lib

theorem step_call {P : Program} (w : World) {ops : Array Oper} {o : Oper} {a : Act} {K : Act → World → Prop} {Q : Exit → Act → World → Prop} {E : Prop} {f : FuncId} {args : Array Value} {R : Ending → World → Prop} (hgd : o.guard = none)
    (hop : (execOp a.eval o).run P w = .ok (.enter f args) w) (hc : Calls P f args w R) (h : ∀ e w', R e w' → ∃ v, e = .returned v ∧ K (a.put o.dst v) w') :
    if Region.wanted o (yielded ops a.tmps) = true then Oper.wp P o a w K Q else E := by
  rw [if_pos (by simp [Region.wanted, hgd])]
  unfold Oper.wp
  rw [hop, Oper.upon_enter]
  exact hc.mono fun e w' hR => by obtain ⟨v, rfl, hK⟩ := h e w' hR; exact hK

def zcells : Array Value := #[.int .i64 0, .int .i64 0, .string ⟨#[]⟩, .int .i64 0, .slice none 0 0, .int .i64 0, .int .i64 0, .int .i64 0]
/-- While a command is read: the reader at x, the result's block h0 (untouched), the command's block h1, its events' row. -/
structure Gt (w W : World) (x h0 h1 : Nat) (st : List UInt8 × Int) (cs : Array Value) (v : Value) (l : List EvD) : Prop where
  r : RefIs W x st
  b : W.heap[h1]? = some (.cells cs tCmd (0, 0))
  z : W.heap[h0]? = some (.cells zcells tCmd (0, 0))
  o : W.ownsRow w.heap.size tEv 4 v l.length (evCells l)
  t : Touch [] w W
  lx : w.heap.size ≤ x
  l0 : w.heap.size ≤ h0
  l1 : w.heap.size ≤ h1
  n1 : x ≠ h0
  n2 : x ≠ h1
  n3 : h0 ≠ h1
  fx : v.ownBlock ≠ some x
  f0 : v.ownBlock ≠ some h0
  f1 : v.ownBlock ≠ some h1
theorem owns_same {w w' : World} {b : Nat} {v : Value} {n : Nat} {xs : List Value} (h : w.ownsRow b tEv 4 v n xs) (hb : ∀ g, v.ownBlock = some g → w'.heap[g]? = w.heap[g]?) : w'.ownsRow b tEv 4 v n xs := by
  obtain ⟨h1, h2 | ⟨g, cap, cur, hv, h3, h4, h5⟩⟩ := h
  · exact ⟨h1, .inl h2⟩
  · refine ⟨h1, .inr ⟨g, cap, cur, hv, h3, (hb g ?_).trans h4, h5⟩⟩
    rw [hv]; rfl
theorem owns_lt {w : World} {b : Nat} {v : Value} {n : Nat} {xs : List Value} (h : w.ownsRow b tEv 4 v n xs) : ∀ g, v.ownBlock = some g → g < w.heap.size ∧ b ≤ g := by
  intro g hg
  obtain ⟨_, ⟨rfl, _⟩ | ⟨g', cap, cur, rfl, h3, h4, _⟩⟩ := h
  · simp [Value.ownBlock] at hg
  · simp [Value.ownBlock] at hg
    subst hg
    exact ⟨lt_of_block h4, h3⟩
theorem Gt.call {w W W' : World} {x h0 h1 : Nat} {st st' : List UInt8 × Int} {cs : Array Value} {v : Value} {l : List EvD} (h : Gt w W x h0 h1 st cs v l) (p : RPost x st' W W') : Gt w W' x h0 h1 st' cs v l := by
  have a1 := h.n1; have a2 := h.n2
  refine ⟨p.1, (p.2.block _ (lt_of_block h.b) (by simp; omega)).trans h.b, (p.2.block _ (lt_of_block h.z) (by simp; omega)).trans h.z, owns_same h.o (fun g hg => p.2.block g (owns_lt h.o g hg).1 (by simp; intro e; subst e; exact h.fx hg)), ?_, h.lx, h.l0, h.l1, h.n1, h.n2, h.n3, h.fx, h.f0, h.f1⟩
  exact h.t.trans p.2 (fun f hf => .inr (by simp at hf; have := h.lx; omega))
theorem Gt.set {w W : World} {x h0 h1 : Nat} {st : List UInt8 × Int} {cs : Array Value} {v : Value} {l : List EvD} (h : Gt w W x h0 h1 st cs v l) (i : Nat) (u : Value) : Gt w (W.setCell ⟨h1, i, none⟩ u) x h0 h1 st (cs.setIfInBounds i u) v l := by
  refine ⟨?_, heap_set h.b u, (heap_set_other u (by show h0 ≠ h1; exact h.n3)).trans h.z, owns_same h.o (fun g hg => heap_set_other u (by show g ≠ h1; intro e; subst e; exact h.f1 hg)), h.t.setCell (.inr h.l1) u, h.lx, h.l0, h.l1, h.n1, h.n2, h.n3, h.fx, h.f0, h.f1⟩
  obtain ⟨B, hB, hb⟩ := h.r
  exact ⟨B, (heap_set_other u (by show x ≠ h1; exact h.n2)).trans hB, hb⟩

theorem Gt.start {w w2 w3 : World} {st' : List UInt8 × Int} {cs : Array Value} {I : Array Value} (hw2 : w2 = (w.alloc (.cells zcells tCmd)).alloc (.cells I tRIn)) (p : RPost (w.heap.size + 1) st' w2 w3) :
    Gt w (w3.alloc (.cells cs tCmd)) (w.heap.size + 1) w.heap.size w3.heap.size st' cs (.slice none 0 0) [] := by
  have hs : w2.heap.size = w.heap.size + 2 := by rw [hw2]; simp
  have hs3 := p.2.size
  have z2 : w2.heap[w.heap.size]? = some (.cells zcells tCmd (0, 0)) := by
    rw [hw2]
    exact (Below.heap_alloc (w.alloc (.cells zcells tCmd)) _ _ (by simp)).trans (heap_alloc_new w _)
  have z3 := (p.2.block _ (lt_of_block z2) (by simp)).trans z2
  have T2 : Touch [] w w2 := by rw [hw2]; exact ((Touch.refl _ _).alloc _).alloc _
  exact ⟨p.1.keep ((Touch.refl [] w3).alloc _) (by simp), heap_alloc_new w3 _, (Below.heap_alloc w3 _ _ (lt_of_block z3)).trans z3, ⟨rfl, .inl ⟨rfl, rfl⟩⟩, (T2.trans p.2 (fun f hf => .inr (by simp at hf; omega))).alloc _,
    by omega, Nat.le_refl _, by omega, by omega, by omega, by omega, by simp [Value.ownBlock], by simp [Value.ownBlock], by simp [Value.ownBlock]⟩
theorem Gt.touch {w W W' : World} {x h0 h1 : Nat} {st : List UInt8 × Int} {cs : Array Value} {v : Value} {l : List EvD} (h : Gt w W x h0 h1 st cs v l) (t : Touch [] W W') : Gt w W' x h0 h1 st cs v l :=
  ⟨h.r.keep t (by simp), (t.block _ (lt_of_block h.b) (by simp)).trans h.b, (t.block _ (lt_of_block h.z) (by simp)).trans h.z, owns_same h.o (fun g hg => t.block g (owns_lt h.o g hg).1 (by simp)), h.t.trans t (by simp), h.lx, h.l0, h.l1, h.n1, h.n2, h.n3, h.fx, h.f0, h.f1⟩
theorem val_wf (st : List UInt8 × Int) : canon (val (iTake st 8).1) < 18446744073709551616 := canon_lt (val8_lt st)
theorem i64_bd (n : Nat) (h : n < 18446744073709551616) : -9223372036854775808 ≤ i64 n ∧ i64 n ≤ 9223372036854775807 := by unfold i64; split <;> omega
theorem iText_len (st : List UInt8 × Int) (m : Int) : (iText st m).1.length ≤ st.1.length := by
  unfold iText
  split
  · simp
  · exact Nat.le_trans (iTake_le _ _).1 (iTake_le _ _).2
theorem takeE_ok (st : List UInt8 × Int) (h : st.1.length ≤ 4000) : (takeE st).1.Ok := by
  have b := i64_bd _ (val8_lt st)
  have t1 := iText_len (iTake st 8).2 60
  have t2 := iText_len (iText (iTake st 8).2 60).2 200
  have t3 := iText_le (iTake st 8).2 60
  have t4 := (iTake_le st 8).2
  exact ⟨b.1, b.2, by show (iText (iTake st 8).2 60).1.toArray.size ≤ _; simp; omega, by show (iText (iText (iTake st 8).2 60).2 200).1.toArray.size ≤ _; simp; omega, val_wf _⟩
theorem upto_ok (st : List UInt8 × Int) (h : st.1.length ≤ 4000) : ∀ j, ∀ e ∈ (upto st j).1, e.Ok
  | 0 => fun e he => by simp [upto] at he
  | j + 1 => by
    rw [upto]
    split
    · exact upto_ok st h j
    · intro e he
      rcases List.mem_append.1 he with he | he
      · exact upto_ok st h j e he
      · rw [List.mem_singleton.1 he]
        exact takeE_ok _ (Nat.le_trans (upto_le st j) h)
theorem infoEv : (Try.prog.info? tEv).map (fun i => (i.zero.map fun z => z.cells.size, i.size, i.bytes)) = some (some 4, 4, 48) := by kernel_rfl
theorem info_ev : ∃ i z, Try.prog.info? tEv = some i ∧ i.zero = some z ∧ i.size = 4 ∧ i.bytes = 48 ∧ z.cells.size = 4 := by
  obtain ⟨i, hi, h⟩ := Option.map_eq_some_iff.1 infoEv
  simp only [Prod.mk.injEq] at h
  obtain ⟨h1, h2, h3⟩ := h
  obtain ⟨z, hz, hz2⟩ := Option.map_eq_some_iff.1 h1
  exact ⟨i, z, hi, hz, h2, h3, hz2⟩
theorem Gt.app {w w3 w4 : World} {x h0 h1 g cap : Nat} {st : List UInt8 × Int} {cs : Array Value} {v : Value} {l : List EvD} {e : EvD} (h : Gt w w3 x h0 h1 st cs v l) (O : Obj)
    (hown : w4.ownsRow w.heap.size tEv 4 (.slice (some ⟨g, 0, none⟩) (l.length + 1) cap) (l.length + 1) (evCells l ++ [.int .i64 e.id, .string e.typ, .string e.data, .float .f64 e.val])) (hg : (w3.alloc O).grownBy w4 v.ownBlock) (hat : v.ownBlock = some g ∨ g = w3.heap.size + 1) :
    Gt w (w4.setCell ⟨h1, 4, none⟩ (.slice (some ⟨g, 0, none⟩) (l.length + 1) cap)) x h0 h1 st (cs.setIfInBounds 4 (.slice (some ⟨g, 0, none⟩) (l.length + 1) cap)) (.slice (some ⟨g, 0, none⟩) (l.length + 1) cap) (l ++ [e]) := by
  have hx := h.r.lt
  have hz := lt_of_block h.z
  have hb := lt_of_block h.b
  have hs : (w3.alloc O).heap.size = w3.heap.size + 1 := by simp
  have keep : ∀ k, k < w3.heap.size → v.ownBlock ≠ some k → w4.heap[k]? = w3.heap[k]? := fun k hk hne => (hg.block k (by omega) (fun e => hne e.symm)).trans (Below.heap_alloc w3 O k hk)
  have gx : g ≠ x := by rcases hat with e | e; · rintro rfl; exact h.fx e
                        · omega
  have g0 : g ≠ h0 := by rcases hat with e | e; · rintro rfl; exact h.f0 e
                         · omega
  have g1 : g ≠ h1 := by rcases hat with e | e; · rintro rfl; exact h.f1 e
                         · omega
  refine ⟨?_, heap_set ((keep h1 hb h.f1).trans h.b) _, (heap_set_other _ (by show h0 ≠ h1; exact h.n3)).trans ((keep h0 hz h.f0).trans h.z), ?_, ?_, h.lx, h.l0, h.l1, h.n1, h.n2, h.n3, by simp [Value.ownBlock]; exact gx, by simp [Value.ownBlock]; exact g0, by simp [Value.ownBlock]; exact g1⟩
  · obtain ⟨B, hB, hB2⟩ := h.r
    exact ⟨B, (heap_set_other _ (by show x ≠ h1; exact h.n2)).trans ((keep x hx h.fx).trans hB), hB2⟩
  · rw [evCells_snoc, List.length_append]
    exact owns_same hown (fun k hk => heap_set_other _ (by simp [Value.ownBlock] at hk; subst hk; exact g1))
  · refine ((h.t.alloc O).grown hg ?_).setCell (.inr h.l1) _
    intro k hk
    exact .inr (owns_lt h.o k hk).2
def GetPost (b : List UInt8) (w : World) (r : Ending) (w' : World) : Prop := ∃ y cap, r = .returned (.tuple #[(getOf b).1.agg y cap, .int .i64 (getOf b).2]) ∧ EvX w' y (getOf b).1.evs ∧ Touch [] w w' ∧ ∀ a, y = some a → w.heap.size ≤ a.block

set_option maxRecDepth 100000 in
set_option maxHeartbeats 4000000 in
theorem refGet_any (B : ByteArray) (w : World) (hB : B.size ≤ 4000) : Calls Try.prog 19 #[.string B] w (GetPost B.data.toList w) := by
  obtain ⟨g, hg⟩ : ∃ g, g = gotOf B.data.toList := ⟨_, rfl⟩
  have hr := reads_got B.data.toList
  rw [← hg] at hr
  obtain ⟨gk, gt, gs, gx, gn, gl, gp, gq, gr⟩ := g
  obtain ⟨e1, e2, e3, e4, e5, e6, e7, e8, e9⟩ := hr
  simp only [] at e1 e2 e3 e4 e5 e6 e7 e8 e9
  have hsz := list_len B
  have l1 : gk.2.1.length ≤ 4000 := by rw [e1]; exact Nat.le_trans (iTake_le _ _).2 (by simp only []; omega)
  have l2 : gt.2.1.length ≤ 4000 := by rw [e2]; exact Nat.le_trans (iTake_le _ _).2 l1
  have l3 : gs.2.1.length ≤ 4000 := by rw [e3]; exact Nat.le_trans (iText_le _ _) l2
  have l4 : gx.2.1.length ≤ 4000 := by rw [e4]; exact Nat.le_trans (iTake_le _ _).2 l3
  have l5 : gn.2.1.length ≤ 4000 := by rw [e5]; exact Nat.le_trans (iTake_le _ _).2 l4
  have l6 : gl.2.1.length ≤ 4000 := by rw [e6]; exact Nat.le_trans (upto_le _ _) l5
  have l7 : gp.2.1.length ≤ 4000 := by rw [e7]; exact Nat.le_trans (iTake_le _ _).2 l6
  have l8 : gq.2.1.length ≤ 4000 := by rw [e8]; exact Nat.le_trans (iTake_le _ _).2 l7
  have l9 : gr.2.1.length ≤ 4000 := by rw [e9]; exact Nat.le_trans (iTake_le _ _).2 l8
  have v1 : val gk.1 < 256 := by rw [e1]; exact val1_lt _
  have v2 : val gt.1 < 18446744073709551616 := by rw [e2]; exact val8_lt _
  have v4 : val gx.1 < 18446744073709551616 := by rw [e4]; exact val8_lt _
  have v5 : val gn.1 < 256 := by rw [e5]; exact val1_lt _
  have v7 : val gp.1 < 18446744073709551616 := by rw [e7]; exact val8_lt _
  have v8 : val gq.1 < 18446744073709551616 := by rw [e8]; exact val8_lt _
  have v9 : val gr.1 < 18446744073709551616 := by rw [e9]; exact val8_lt _
  have hE : ErrNil gr.2 := by
    have h0 : ErrNil (B.data.toList, 0) := fun h => absurd rfl h
    rw [e9, e8, e7, e6, e5, e4, e3, e2, e1]
    exact errNil_take (errNil_take (errNil_take (errNil_upto (errNil_take (errNil_take (errNil_text (errNil_take (errNil_take h0 1) 8) 60) 8) 1) _) 8) 8) 8
  have hG : Hid (getOf B.data.toList = if (iEnd gr.2).2 ≠ 0 then (zeroC, (iEnd gr.2).2) else if checkC (Got.cmd ⟨gk, gt, gs, gx, gn, gl, gp, gq, gr⟩) ≠ 0 ∨ layC (Got.cmd ⟨gk, gt, gs, gx, gn, gl, gp, gq, gr⟩) ≠ B.data.toList then (zeroC, 6) else (Got.cmd ⟨gk, gt, gs, gx, gn, gl, gp, gq, gr⟩, 0)) := by
    unfold getOf
    rw [← hg]
    exact hid rfl
  have C1 := hid (fun x w (h : RefIs w x (B.data.toList, 0)) => rNum_st x (B.data.toList, 0) 1 w h (by decide) (by simp only []; omega))
  rw [← e1] at C1
  have C2 := hid (fun x w (h : RefIs w x gk.2) => rNum_st x gk.2 8 w h (by decide) (by omega))
  rw [← e2] at C2
  have C3 := hid (fun x w (h : RefIs w x gt.2) => rText_st x gt.2 60 w h (by omega))
  rw [← e3] at C3
  have C4 := hid (fun x w (h : RefIs w x gs.2) => rNum_st x gs.2 8 w h (by decide) (by omega))
  rw [← e4] at C4
  have C5 := hid (fun x w (h : RefIs w x gx.2) => rNum_st x gx.2 1 w h (by decide) (by omega))
  rw [← e5] at C5
  have C7 := hid (fun x w (h : RefIs w x gl.2) => rNum_st x gl.2 8 w h (by decide) (by omega))
  rw [← e7] at C7
  have C8 := hid (fun x w (h : RefIs w x gp.2) => rNum_st x gp.2 8 w h (by decide) (by omega))
  rw [← e8] at C8
  have C9 := hid (fun x w (h : RefIs w x gq.2) => rNum_st x gq.2 8 w h (by decide) (by omega))
  rw [← e9] at C9
  have CE := hid (fun x w (h : RefIs w x gr.2) => rEnd_st x gr.2 w h hE)
  have hsf := store_flt
  have i1 : IntKind.i64.wrap (val gk.1 : Int) = (val gk.1 : Int) := by rw [IntKind.wrap_i64]; omega
  have i2 := i64_wrap' _ v2
  have i4 := i64_wrap' _ v4
  have i5 : IntKind.i64.wrap (val gn.1 : Int) = (val gn.1 : Int) := by rw [IntKind.wrap_i64]; omega
  have i7 := i64_wrap' _ v7
  have i8 := i64_wrap' _ v8
  have i9 := i64_wrap' _ v9
  have HE := hid hE
  have HL := hid e6
  have HL2 := hid (show (upto gn.2 (val gn.1)).1 = gl.1 by rw [← e6])
  have HOK := hid (upto_ok gn.2 (by omega) (val gn.1))
  have L5 := hid l5
  have V5 := hid v5
  have HBs := hid hB
  clear e1 e2 e3 e4 e5 e6 e7 e8 e9 l1 l2 l3 l4 l5 l6 l7 l8 l9 v1 v2 v4 v5 v7 v8 v9 hE hg hB hsz
  unfold Got.cmd at hG
  simp only [] at hG
  generalize hnk : val gk.1 = nk at *
  generalize hnt : val gt.1 = nt at *
  generalize hnx : val gx.1 = nx at *
  generalize hnn : val gn.1 = nn at *
  generalize hnp : val gp.1 = np at *
  generalize hnq : val gq.1 = nq at *
  generalize hnr : val gr.1 = nr at *
  clear hnk hnt hnx hnn hnp hnq hnr
  go_enter Try.func19, Try.ntmps19
  go_wp2_with fail
  obtain ⟨w2, hw2⟩ : ∃ w2, w2 = (w.alloc (.cells zcells tCmd)).alloc (.cells #[.string B, .int .i64 0] tRIn) := ⟨_, rfl⟩
  have HW2 := hid hw2
  have R2 : Hid (RefIs w2 (w.heap.size + 1) (B.data.toList, 0)) := by
    rw [hw2]
    refine hid ⟨B, ?_, fun _ => rfl⟩
    have := heap_alloc_new (w.alloc (.cells zcells tCmd)) (.cells #[.string B, .int .i64 0] tRIn)
    simpa using this
  unfold zcells at hw2
  simp only [tCmd, tRIn] at hw2
  rw [← hw2]
  clear hw2
  refine (C1.out _ w2 R2.out).mono ?_
  rintro e w3 ⟨rfl, p3⟩
  have P3 := hid p3
  clear p3 C1 R2
  go_wp2_with fail
  have M4 := hid (Gt.start (cs := #[.int .i64 (nk : Int), .int .i64 0, .string ⟨#[]⟩, .int .i64 0, .slice none 0 0, .int .i64 0, .int .i64 0, .int .i64 0]) HW2.out P3.out)
  simp only [tCmd] at M4
  generalize w3.alloc (.cells #[.int .i64 (nk : Int), .int .i64 0, .string ⟨#[]⟩, .int .i64 0, .slice none 0 0, .int .i64 0, .int .i64 0, .int .i64 0] 26) = w4 at *
  generalize w3.heap.size = h1 at *
  clear HW2 P3
  refine (C2.out _ w4 M4.out.r).mono ?_
  rintro e w5 ⟨rfl, pp⟩
  have NM5 := hid (M4.out.call pp)
  clear pp C2 M4
  have fq := free_of NM5.out.b 1
  have cq := cell_of NM5.out.b 1
  go_wp2_with fail
  have M5 := hid (NM5.out.set 1 (.int .i64 (i64 nt)))
  generalize w5.setCell ⟨h1, 1, none⟩ (.int .i64 (i64 nt)) = w6 at *
  clear fq cq NM5
  refine (C3.out _ w6 M5.out.r).mono ?_
  rintro e w7 ⟨rfl, pp⟩
  have NM6 := hid (M5.out.call pp)
  clear pp C3 M5
  have fq := free_of NM6.out.b 2
  have cq := cell_of NM6.out.b 2
  go_wp2_with fail
  have M6 := hid (NM6.out.set 2 (.string ⟨gs.1.toArray⟩))
  generalize w7.setCell ⟨h1, 2, none⟩ (.string ⟨gs.1.toArray⟩) = w8 at *
  clear fq cq NM6
  refine (C4.out _ w8 M6.out.r).mono ?_
  rintro e w9 ⟨rfl, pp⟩
  have NM7 := hid (M6.out.call pp)
  clear pp C4 M6
  have fq := free_of NM7.out.b 3
  have cq := cell_of NM7.out.b 3
  go_wp2_with fail
  have M7 := hid (NM7.out.set 3 (.int .i64 (i64 nx)))
  generalize w9.setCell ⟨h1, 3, none⟩ (.int .i64 (i64 nx)) = w10 at *
  clear fq cq NM7
  refine (C5.out _ w10 M7.out.r).mono ?_
  rintro e w11 ⟨rfl, pp⟩
  have M8 := hid (M7.out.call pp)
  clear pp C5 M7
  go_upto_region 7 with fail
  obtain ⟨i0, z0, hi, hz0, hz1, hz2, hz3⟩ := info_ev
  have N8 : Hid (Gt w w11 (w.heap.size + 1) w.heap.size h1 gn.2 #[.int .i64 (nk : Int), .int .i64 (i64 nt), .string ⟨gs.1.toArray⟩, .int .i64 (i64 nx), .slice none 0 0, .int .i64 0, .int .i64 0, .int .i64 0] (.slice none 0 0) []) := M8
  clear M8
  go_wp2
  go_loopw [7] (fun kv wr => ∃ (j : Nat) (v : Value), j ≤ nn ∧ kv = .int .i64 j ∧ Gt w wr (w.heap.size + 1) w.heap.size h1 (upto gn.2 j).2 #[.int .i64 (nk : Int), .int .i64 (i64 nt), .string ⟨gs.1.toArray⟩, .int .i64 (i64 nx), v, .int .i64 0, .int .i64 0, .int .i64 0] v (upto gn.2 j).1) (fun kv _ => nn - (RowKit.intOf kv).toNat)
  case atStart => exact ⟨0, .slice none 0 0, Nat.zero_le _, rfl, N8.out⟩
  case round =>
    obtain ⟨j, v, hj, rfl, hM⟩ := hrel
    have M := hid hM
    clear hM N8
    obtain ⟨B', hB', _⟩ := M.out.r
    have c1 := cell_of hB' 1
    by_cases hlt : j < nn
    · have hltI : (j : Int) < nn := by omega
      by_cases he : (upto gn.2 j).2.2 = 0
      · rw [he] at c1
        have c4 := cell_of M.out.b 4
        have hle := Nat.le_trans (upto_le gn.2 j) L5.out
        have CT := hid (fun W (h : RefIs W (w.heap.size + 1) (upto gn.2 j).2) => refTake_st (w.heap.size + 1) (upto gn.2 j).2 W h (by omega))
        have hup := hid (upto_step (st := gn.2) he)
        have hln := upto_len gn.2 j
        clear hB'
        have MD := hid (M.out.touch ((Touch.refl [] wr).drew))
        generalize upto gn.2 j = U at *
        generalize takeE U.2 = TE at *
        obtain ⟨E, st'⟩ := TE
        simp only [] at CT hup
        unfold EvD.agg at CT
        have HLN := hid hln
        clear hln
        go_upto_region 10 with fail
        go_region_law (first
          | (refine step_call _ rfl (f := 51) (args := #[.pointer (some ⟨w.heap.size + 1, 0, none⟩)]) (by simp [go_sem, Act.eval]) (CT.out _ MD.out.r) ?_
             rintro e w3 ⟨rfl, p3⟩
             refine ⟨_, rfl, ?_⟩
             have M3 := hid (MD.out.call p3)
             clear p3
             have k31 := cell_of M3.out.b 4
             have k32 := fun o : Obj => ((Touch.refl [] w3).alloc o).cell k31)
          | (refine step_append_lies _ rfl (.tmp 44) (.tmp 47) 22 rfl w.heap.size tEv i0 z0 4 48 Try.underlying22 hi hz0 hz1 hz2 hz3 (by decide) v U.1.length (evCells U.1) (by rfl) (M3.out.touch ((Touch.refl [] w3).alloc _)).o ⟨w3.heap.size, 0, none⟩ 1 1 [.int .i64 E.id, .string E.typ, .string E.data, .float .f64 E.val] (by rfl) rfl (World.news_of_block (cs := #[.int .i64 E.id, .string E.typ, .string E.data, .float .f64 E.val]) (t := tEv) (fr := (0, 0)) (heap_alloc_new w3 _)) (by intro u hu; simp at hu; rcases hu with rfl | rfl | rfl | rfl <;> rfl) (by decide) (by have := HLN.out; have := V5.out; unfold maxLen; omega) (by have := HLN.out; have := V5.out; omega) (by have := M3.out.t.size; simp; omega) (w3.heap.size + 1) (by simp) ?_
             intro g cap w4 hown hgrow hat hlt4
             have M5 := hid (M3.out.app _ hown hgrow hat)
             have k41 : w4.cell? ⟨h1, 4, none⟩ = some v := by
               rw [World.cell?_of_block (w := w3) ((hgrow.block h1 (by have := lt_of_block M3.out.b; simp; omega) (fun e => M3.out.f1 e.symm)).trans (Below.heap_alloc w3 _ h1 (lt_of_block M3.out.b)))]
               exact cell_of M3.out.b 4
             have f41 : w4.frozen? ⟨h1, 4, none⟩ = false := by
               rw [World.frozen?_of_block (w := w3) ((hgrow.block h1 (by have := lt_of_block M3.out.b; simp; omega) (fun e => M3.out.f1 e.symm)).trans (Below.heap_alloc w3 _ h1 (lt_of_block M3.out.b)))]
               exact free_of M3.out.b 4
             clear hown hgrow hat hlt4))
        all_goals
          generalize w4.setCell ⟨h1, 4, none⟩ (.slice (some ⟨g, 0, none⟩) (U.1.length + 1) cap) = w5 at *
          clear k31 k32 k41 f41 c1 c4 M3 MD M CT he
          have hb1 : (j : Int) < 256 := by have := V5.out; omega
          go_wp2
          go_roundw
          case rel =>
            refine ⟨j + 1, .slice (some ⟨g, 0, none⟩) (U.1.length + 1) cap, by omega, by go_num, ?_⟩
            rw [hup.out]
            exact M5.out
          case measure => simp [RowKit.intOf]; omega
      · have hgl : gl = upto gn.2 j := by rw [HL.out]; exact upto_stop he nn (by omega)
        have he2 : ((upto gn.2 j).2.2 == 0) = false := by simpa using he
        rw [← hgl] at M he2 c1
        clear hB' he hgl HL hz0 hz1 hz2 hz3 hi i5
        have hok := HOK.out
        rw [HL2.out] at hok
        go_wp2_with fail
        refine (C7.out _ wr M.out.r).mono ?_
        rintro e w12 ⟨rfl, pp⟩
        have M12 := hid (M.out.call pp)
        clear pp C7 M c1
        have fq := free_of M12.out.b 5
        have cq := cell_of M12.out.b 5
        go_wp2_with fail
        have M13 := hid (M12.out.set 5 (.int .i64 (i64 np)))
        generalize w12.setCell ⟨h1, 5, none⟩ (.int .i64 (i64 np)) = w13 at *
        clear fq cq M12
        refine (C8.out _ w13 M13.out.r).mono ?_
        rintro e w14 ⟨rfl, pp⟩
        have M14 := hid (M13.out.call pp)
        clear pp C8 M13
        have fq := free_of M14.out.b 6
        have cq := cell_of M14.out.b 6
        go_wp2_with fail
        have M15 := hid (M14.out.set 6 (.int .i64 (i64 nq)))
        generalize w14.setCell ⟨h1, 6, none⟩ (.int .i64 (i64 nq)) = w15 at *
        clear fq cq M14
        refine (C9.out _ w15 M15.out.r).mono ?_
        rintro e w16 ⟨rfl, pp⟩
        have M16 := hid (M15.out.call pp)
        clear pp C9 M15
        have fq := free_of M16.out.b 7
        have cq := cell_of M16.out.b 7
        go_wp2_with fail
        have M17 := hid (M16.out.set 7 (.int .i64 (i64 nr)))
        generalize w16.setCell ⟨h1, 7, none⟩ (.int .i64 (i64 nr)) = w17 at *
        clear fq cq M16
        refine (CE.out _ w17 M17.out.r).mono ?_
        rintro e w18 ⟨rfl, pp⟩
        have M18 : Hid (Gt w w18 (w.heap.size + 1) w.heap.size h1 (iEnd gr.2) #[.int .i64 (nk : Int), .int .i64 (i64 nt), .string ⟨gs.1.toArray⟩, .int .i64 (i64 nx), v, .int .i64 (i64 np), .int .i64 (i64 nq), .int .i64 (i64 nr)] v gl.1) := M17.out.call pp
        clear pp CE M17
        by_cases hE0 : (iEnd gr.2).2 = 0
        rotate_left
        · have he3 : ((iEnd gr.2).2 != 0) = true := by simpa using hE0
          have hgz := hid (hG.out.trans (if_pos hE0))
          generalize (iEnd gr.2).2 = er at *
          have z0 := cell_of M18.out.z 0
          have y0 := free_of M18.out.z 0
          have z1 := cell_of M18.out.z 1
          have y1 := free_of M18.out.z 1
          have z2 := cell_of M18.out.z 2
          have y2 := free_of M18.out.z 2
          have z3 := cell_of M18.out.z 3
          have y3 := free_of M18.out.z 3
          have z4 := cell_of M18.out.z 4
          have y4 := free_of M18.out.z 4
          have z5 := cell_of M18.out.z 5
          have y5 := free_of M18.out.z 5
          have z6 := cell_of M18.out.z 6
          have y6 := free_of M18.out.z 6
          have z7 := cell_of M18.out.z 7
          have y7 := free_of M18.out.z 7
          unfold zcells at z0 z1 z2 z3 z4 z5 z6 z7
          have hl0 := M18.out.l0
          go_wp2
          refine bodyPost_ret (v := .tuple #[zeroC.agg none 0, .int .i64 er]) (by simp [results, Try.results19, go_sem, z0, z1, z2, z3, z4, z5, z6, z7, CmdD.agg, zeroC]) rfl ⟨none, 0, by rw [hgz.out], by rw [hgz.out]; exact fun i hi => absurd hi (Nat.not_lt_zero i), ((((((((M18.out.t).setCell (.inr hl0) _).setCell (.inr hl0) _).setCell (.inr hl0) _).setCell (.inr hl0) _).setCell (.inr hl0) _).setCell (.inr hl0) _).setCell (.inr hl0) _).setCell (.inr hl0) _, fun a ha => by cases ha⟩
        have hg2 := hG.out
        rw [if_neg (show ¬ (iEnd gr.2).2 ≠ 0 by simpa using hE0)] at hg2
        have he3 : ((iEnd gr.2).2 != 0) = false := by simpa using hE0
        rw [hE0]
        clear he3 hE0
        obtain ⟨y, cap, rfl, hEv, hy⟩ := evX_own M18.out.o hok
        obtain ⟨c, hc⟩ : ∃ c : CmdD, c = ⟨(nk : Int), i64 nt, bytesT gs.1, i64 nx, gl.1, i64 np, i64 nq, i64 nr⟩ := ⟨_, rfl⟩
        have hP := refPut_any c y cap w18 (by rw [hc]; exact hEv)
        rw [← hc] at hg2
        have hagg : c.agg y cap = .agg #[.int .i64 (nk : Int), .int .i64 (i64 nt), .string ⟨gs.1.toArray⟩, .int .i64 (i64 nx), .slice y gl.1.length cap, .int .i64 (i64 np), .int .i64 (i64 nq), .int .i64 (i64 nr)] := by rw [hc]; rfl
        have hevs : c.evs = gl.1 := by rw [hc]
        unfold putV at hP
        rw [hagg] at hP
        have HEV := hid hEv
        have HY := hid hy
        have HAGG := hid hagg
        have HEVS := hid hevs
        clear hEv hy hagg hevs hc
        have k0 := cell_of M18.out.b 0
        have k1 := cell_of M18.out.b 1
        have k2 := cell_of M18.out.b 2
        have k3 := cell_of M18.out.b 3
        have k4 := cell_of M18.out.b 4
        have k5 := cell_of M18.out.b 5
        have k6 := cell_of M18.out.b 6
        have k7 := cell_of M18.out.b 7
        by_cases hck : checkC c = 0
        rotate_left
        · rw [if_neg hck] at hP
          have hgz := hid (hg2.trans (if_pos (.inl hck)))
          have hck2 : (checkC c != 0) = true := by simpa using hck
          generalize checkC c = kc at *
          have HP := hid hP
          clear hP hck hg2
          go_wp2_with fail
          refine HP.out.mono ?_
          rintro e w19 ⟨rfl, a19⟩
          have M19 := hid (M18.out.touch a19)
          clear a19 k0 k1 k2 k3 k4 k5 k6 k7 M18
          have z0 := cell_of M19.out.z 0
          have y0 := free_of M19.out.z 0
          have z1 := cell_of M19.out.z 1
          have y1 := free_of M19.out.z 1
          have z2 := cell_of M19.out.z 2
          have y2 := free_of M19.out.z 2
          have z3 := cell_of M19.out.z 3
          have y3 := free_of M19.out.z 3
          have z4 := cell_of M19.out.z 4
          have y4 := free_of M19.out.z 4
          have z5 := cell_of M19.out.z 5
          have y5 := free_of M19.out.z 5
          have z6 := cell_of M19.out.z 6
          have y6 := free_of M19.out.z 6
          have z7 := cell_of M19.out.z 7
          have y7 := free_of M19.out.z 7
          unfold zcells at z0 z1 z2 z3 z4 z5 z6 z7
          have hl0 := M19.out.l0
          go_wp2
          refine bodyPost_ret (v := .tuple #[zeroC.agg none 0, .int .i64 6]) (by simp [results, Try.results19, go_sem, z0, z1, z2, z3, z4, z5, z6, z7, CmdD.agg, zeroC]) rfl ⟨none, 0, by rw [hgz.out], by rw [hgz.out]; exact fun i hi => absurd hi (Nat.not_lt_zero i), ((((((((M19.out.t).setCell (.inr hl0) _).setCell (.inr hl0) _).setCell (.inr hl0) _).setCell (.inr hl0) _).setCell (.inr hl0) _).setCell (.inr hl0) _).setCell (.inr hl0) _).setCell (.inr hl0) _, fun a ha => by cases ha⟩
        rw [if_pos hck] at hP
        obtain ⟨S, hS⟩ : ∃ S : ByteArray, S = ⟨(layC c).toArray⟩ := ⟨_, rfl⟩
        have hSl : S.data.toList = layC c := by rw [hS]
        rw [← hS] at hP
        have HP := hid hP
        clear hP hS
        by_cases hSB : S = B
        rotate_left
        · have hne : (!S.toList == B.toList) = true := by rw [toList_ne hSB]; rfl
          have hgz := hid (hg2.trans (if_pos (.inr (fun e => hSB (txt_eq (hSl.trans e))))))
          clear hck hg2 hSl hSB
          go_wp2_with fail
          refine HP.out.mono ?_
          rintro e w19 ⟨rfl, a19⟩
          have M19 := hid (M18.out.touch a19)
          clear a19 k0 k1 k2 k3 k4 k5 k6 k7 M18
          have z0 := cell_of M19.out.z 0
          have y0 := free_of M19.out.z 0
          have z1 := cell_of M19.out.z 1
          have y1 := free_of M19.out.z 1
          have z2 := cell_of M19.out.z 2
          have y2 := free_of M19.out.z 2
          have z3 := cell_of M19.out.z 3
          have y3 := free_of M19.out.z 3
          have z4 := cell_of M19.out.z 4
          have y4 := free_of M19.out.z 4
          have z5 := cell_of M19.out.z 5
          have y5 := free_of M19.out.z 5
          have z6 := cell_of M19.out.z 6
          have y6 := free_of M19.out.z 6
          have z7 := cell_of M19.out.z 7
          have y7 := free_of M19.out.z 7
          unfold zcells at z0 z1 z2 z3 z4 z5 z6 z7
          have hl0 := M19.out.l0
          go_wp2
          refine bodyPost_ret (v := .tuple #[zeroC.agg none 0, .int .i64 6]) (by simp [results, Try.results19, go_sem, z0, z1, z2, z3, z4, z5, z6, z7, CmdD.agg, zeroC]) rfl ⟨none, 0, by rw [hgz.out], by rw [hgz.out]; exact fun i hi => absurd hi (Nat.not_lt_zero i), ((((((((M19.out.t).setCell (.inr hl0) _).setCell (.inr hl0) _).setCell (.inr hl0) _).setCell (.inr hl0) _).setCell (.inr hl0) _).setCell (.inr hl0) _).setCell (.inr hl0) _).setCell (.inr hl0) _, fun a ha => by cases ha⟩
        have hgz := hid (hg2.trans (if_neg (by
          rintro (h | h)
          · exact h hck
          · exact h (by rw [← hSl, hSB]))))
        subst hSB
        clear hck hg2 hSl
        go_wp2_with fail
        refine HP.out.mono ?_
        rintro e w19 ⟨rfl, a19⟩
        have M19 := hid (M18.out.touch a19)
        have A19 := hid a19
        clear a19 k0 k1 k2 k3 k4 k5 k6 k7
        have k0 := cell_of M19.out.b 0
        have k1 := cell_of M19.out.b 1
        have k2 := cell_of M19.out.b 2
        have k3 := cell_of M19.out.b 3
        have k4 := cell_of M19.out.b 4
        have k5 := cell_of M19.out.b 5
        have k6 := cell_of M19.out.b 6
        have k7 := cell_of M19.out.b 7
        have z0 := cell_of M19.out.z 0
        have y0 := free_of M19.out.z 0
        have z1 := cell_of M19.out.z 1
        have y1 := free_of M19.out.z 1
        have z2 := cell_of M19.out.z 2
        have y2 := free_of M19.out.z 2
        have z3 := cell_of M19.out.z 3
        have y3 := free_of M19.out.z 3
        have z4 := cell_of M19.out.z 4
        have y4 := free_of M19.out.z 4
        have z5 := cell_of M19.out.z 5
        have y5 := free_of M19.out.z 5
        have z6 := cell_of M19.out.z 6
        have y6 := free_of M19.out.z 6
        have z7 := cell_of M19.out.z 7
        have y7 := free_of M19.out.z 7
        unfold zcells at z0 z1 z2 z3 z4 z5 z6 z7
        have hl0 := M19.out.l0
        go_wp2
        have fo := M19.out.f0
        have T8 : ∀ a0 a1 a2 a3 a4 a5 a6 a7 : Value, Touch [w.heap.size] w19 ((((((((w19.setCell ⟨w.heap.size, 0, none⟩ a0).setCell ⟨w.heap.size, 1, none⟩ a1).setCell ⟨w.heap.size, 2, none⟩ a2).setCell ⟨w.heap.size, 3, none⟩ a3).setCell ⟨w.heap.size, 4, none⟩ a4).setCell ⟨w.heap.size, 5, none⟩ a5).setCell ⟨w.heap.size, 6, none⟩ a6).setCell ⟨w.heap.size, 7, none⟩ a7) := fun _ _ _ _ _ _ _ _ =>
          ((((((((Touch.refl _ _).setCell (.inl (by simp)) _).setCell (.inl (by simp)) _).setCell (.inl (by simp)) _).setCell (.inl (by simp)) _).setCell (.inl (by simp)) _).setCell (.inl (by simp)) _).setCell (.inl (by simp)) _).setCell (.inl (by simp)) _
        refine bodyPost_ret (v := .tuple #[c.agg y cap, .int .i64 0]) (by rw [HAGG.out]; simp [results, Try.results19, go_sem, z0, z1, z2, z3, z4, z5, z6, z7]) rfl ⟨y, cap, by rw [hgz.out], ?_, ?_, HY.out⟩
        · rw [hgz.out]
          show EvX _ y c.evs
          rw [HEVS.out]
          intro i hi
          obtain ⟨b, off, e, g1, g2⟩ := (HEV.out.touch A19.out) i hi
          refine ⟨b, off, e, g1.keep (T8 _ _ _ _ _ _ _ _) ?_, g2⟩
          rw [e] at fo
          simpa [Value.ownBlock] using fo
        · exact ((((((((M19.out.t).setCell (.inr hl0) _).setCell (.inr hl0) _).setCell (.inr hl0) _).setCell (.inr hl0) _).setCell (.inr hl0) _).setCell (.inr hl0) _).setCell (.inr hl0) _).setCell (.inr hl0) _
    · obtain rfl : j = nn := by omega
      have hgl : gl = upto gn.2 j := HL.out
      have he2 : decide ((j : Int) < (j : Int)) = false := by simp
      rw [← hgl] at M c1
      clear hB' hgl HL hz0 hz1 hz2 hz3 hi hlt
      have hok := HOK.out
      rw [HL2.out] at hok
      go_wp2_with fail
      refine (C7.out _ wr M.out.r).mono ?_
      rintro e w12 ⟨rfl, pp⟩
      have M12 := hid (M.out.call pp)
      clear pp C7 M c1
      have fq := free_of M12.out.b 5
      have cq := cell_of M12.out.b 5
      go_wp2_with fail
      have M13 := hid (M12.out.set 5 (.int .i64 (i64 np)))
      generalize w12.setCell ⟨h1, 5, none⟩ (.int .i64 (i64 np)) = w13 at *
      clear fq cq M12
      refine (C8.out _ w13 M13.out.r).mono ?_
      rintro e w14 ⟨rfl, pp⟩
      have M14 := hid (M13.out.call pp)
      clear pp C8 M13
      have fq := free_of M14.out.b 6
      have cq := cell_of M14.out.b 6
      go_wp2_with fail
      have M15 := hid (M14.out.set 6 (.int .i64 (i64 nq)))
      generalize w14.setCell ⟨h1, 6, none⟩ (.int .i64 (i64 nq)) = w15 at *
      clear fq cq M14
      refine (C9.out _ w15 M15.out.r).mono ?_
      rintro e w16 ⟨rfl, pp⟩
      have M16 := hid (M15.out.call pp)
      clear pp C9 M15
      have fq := free_of M16.out.b 7
      have cq := cell_of M16.out.b 7
      go_wp2_with fail
      have M17 := hid (M16.out.set 7 (.int .i64 (i64 nr)))
      generalize w16.setCell ⟨h1, 7, none⟩ (.int .i64 (i64 nr)) = w17 at *
      clear fq cq M16
      refine (CE.out _ w17 M17.out.r).mono ?_
      rintro e w18 ⟨rfl, pp⟩
      have M18 : Hid (Gt w w18 (w.heap.size + 1) w.heap.size h1 (iEnd gr.2) #[.int .i64 (nk : Int), .int .i64 (i64 nt), .string ⟨gs.1.toArray⟩, .int .i64 (i64 nx), v, .int .i64 (i64 np), .int .i64 (i64 nq), .int .i64 (i64 nr)] v gl.1) := M17.out.call pp
      clear pp CE M17
      by_cases hE0 : (iEnd gr.2).2 = 0
      rotate_left
      · have he3 : ((iEnd gr.2).2 != 0) = true := by simpa using hE0
        have hgz := hid (hG.out.trans (if_pos hE0))
        generalize (iEnd gr.2).2 = er at *
        have z0 := cell_of M18.out.z 0
        have y0 := free_of M18.out.z 0
        have z1 := cell_of M18.out.z 1
        have y1 := free_of M18.out.z 1
        have z2 := cell_of M18.out.z 2
        have y2 := free_of M18.out.z 2
        have z3 := cell_of M18.out.z 3
        have y3 := free_of M18.out.z 3
        have z4 := cell_of M18.out.z 4
        have y4 := free_of M18.out.z 4
        have z5 := cell_of M18.out.z 5
        have y5 := free_of M18.out.z 5
        have z6 := cell_of M18.out.z 6
        have y6 := free_of M18.out.z 6
        have z7 := cell_of M18.out.z 7
        have y7 := free_of M18.out.z 7
        unfold zcells at z0 z1 z2 z3 z4 z5 z6 z7
        have hl0 := M18.out.l0
        go_wp2
        refine bodyPost_ret (v := .tuple #[zeroC.agg none 0, .int .i64 er]) (by simp [results, Try.results19, go_sem, z0, z1, z2, z3, z4, z5, z6, z7, CmdD.agg, zeroC]) rfl ⟨none, 0, by rw [hgz.out], by rw [hgz.out]; exact fun i hi => absurd hi (Nat.not_lt_zero i), ((((((((M18.out.t).setCell (.inr hl0) _).setCell (.inr hl0) _).setCell (.inr hl0) _).setCell (.inr hl0) _).setCell (.inr hl0) _).setCell (.inr hl0) _).setCell (.inr hl0) _).setCell (.inr hl0) _, fun a ha => by cases ha⟩
      have hg2 := hG.out
      rw [if_neg (show ¬ (iEnd gr.2).2 ≠ 0 by simpa using hE0)] at hg2
      have he3 : ((iEnd gr.2).2 != 0) = false := by simpa using hE0
      rw [hE0]
      clear he3 hE0
      obtain ⟨y, cap, rfl, hEv, hy⟩ := evX_own M18.out.o hok
      obtain ⟨c, hc⟩ : ∃ c : CmdD, c = ⟨(nk : Int), i64 nt, bytesT gs.1, i64 nx, gl.1, i64 np, i64 nq, i64 nr⟩ := ⟨_, rfl⟩
      have hP := refPut_any c y cap w18 (by rw [hc]; exact hEv)
      rw [← hc] at hg2
      have hagg : c.agg y cap = .agg #[.int .i64 (nk : Int), .int .i64 (i64 nt), .string ⟨gs.1.toArray⟩, .int .i64 (i64 nx), .slice y gl.1.length cap, .int .i64 (i64 np), .int .i64 (i64 nq), .int .i64 (i64 nr)] := by rw [hc]; rfl
      have hevs : c.evs = gl.1 := by rw [hc]
      unfold putV at hP
      rw [hagg] at hP
      have HEV := hid hEv
      have HY := hid hy
      have HAGG := hid hagg
      have HEVS := hid hevs
      clear hEv hy hagg hevs hc
      have k0 := cell_of M18.out.b 0
      have k1 := cell_of M18.out.b 1
      have k2 := cell_of M18.out.b 2
      have k3 := cell_of M18.out.b 3
      have k4 := cell_of M18.out.b 4
      have k5 := cell_of M18.out.b 5
      have k6 := cell_of M18.out.b 6
      have k7 := cell_of M18.out.b 7
      by_cases hck : checkC c = 0
      rotate_left
      · rw [if_neg hck] at hP
        have hgz := hid (hg2.trans (if_pos (.inl hck)))
        have hck2 : (checkC c != 0) = true := by simpa using hck
        generalize checkC c = kc at *
        have HP := hid hP
        clear hP hck hg2
        go_wp2_with fail
        refine HP.out.mono ?_
        rintro e w19 ⟨rfl, a19⟩
        have M19 := hid (M18.out.touch a19)
        clear a19 k0 k1 k2 k3 k4 k5 k6 k7 M18
        have z0 := cell_of M19.out.z 0
        have y0 := free_of M19.out.z 0
        have z1 := cell_of M19.out.z 1
        have y1 := free_of M19.out.z 1
        have z2 := cell_of M19.out.z 2
        have y2 := free_of M19.out.z 2
        have z3 := cell_of M19.out.z 3
        have y3 := free_of M19.out.z 3
        have z4 := cell_of M19.out.z 4
        have y4 := free_of M19.out.z 4
        have z5 := cell_of M19.out.z 5
        have y5 := free_of M19.out.z 5
        have z6 := cell_of M19.out.z 6
        have y6 := free_of M19.out.z 6
        have z7 := cell_of M19.out.z 7
        have y7 := free_of M19.out.z 7
        unfold zcells at z0 z1 z2 z3 z4 z5 z6 z7
        have hl0 := M19.out.l0
        go_wp2
        refine bodyPost_ret (v := .tuple #[zeroC.agg none 0, .int .i64 6]) (by simp [results, Try.results19, go_sem, z0, z1, z2, z3, z4, z5, z6, z7, CmdD.agg, zeroC]) rfl ⟨none, 0, by rw [hgz.out], by rw [hgz.out]; exact fun i hi => absurd hi (Nat.not_lt_zero i), ((((((((M19.out.t).setCell (.inr hl0) _).setCell (.inr hl0) _).setCell (.inr hl0) _).setCell (.inr hl0) _).setCell (.inr hl0) _).setCell (.inr hl0) _).setCell (.inr hl0) _).setCell (.inr hl0) _, fun a ha => by cases ha⟩
      rw [if_pos hck] at hP
      obtain ⟨S, hS⟩ : ∃ S : ByteArray, S = ⟨(layC c).toArray⟩ := ⟨_, rfl⟩
      have hSl : S.data.toList = layC c := by rw [hS]
      rw [← hS] at hP
      have HP := hid hP
      clear hP hS
      by_cases hSB : S = B
      rotate_left
      · have hne : (!S.toList == B.toList) = true := by rw [toList_ne hSB]; rfl
        have hgz := hid (hg2.trans (if_pos (.inr (fun e => hSB (txt_eq (hSl.trans e))))))
        clear hck hg2 hSl hSB
        go_wp2_with fail
        refine HP.out.mono ?_
        rintro e w19 ⟨rfl, a19⟩
        have M19 := hid (M18.out.touch a19)
        clear a19 k0 k1 k2 k3 k4 k5 k6 k7 M18
        have z0 := cell_of M19.out.z 0
        have y0 := free_of M19.out.z 0
        have z1 := cell_of M19.out.z 1
        have y1 := free_of M19.out.z 1
        have z2 := cell_of M19.out.z 2
        have y2 := free_of M19.out.z 2
        have z3 := cell_of M19.out.z 3
        have y3 := free_of M19.out.z 3
        have z4 := cell_of M19.out.z 4
        have y4 := free_of M19.out.z 4
        have z5 := cell_of M19.out.z 5
        have y5 := free_of M19.out.z 5
        have z6 := cell_of M19.out.z 6
        have y6 := free_of M19.out.z 6
        have z7 := cell_of M19.out.z 7
        have y7 := free_of M19.out.z 7
        unfold zcells at z0 z1 z2 z3 z4 z5 z6 z7
        have hl0 := M19.out.l0
        go_wp2
        refine bodyPost_ret (v := .tuple #[zeroC.agg none 0, .int .i64 6]) (by simp [results, Try.results19, go_sem, z0, z1, z2, z3, z4, z5, z6, z7, CmdD.agg, zeroC]) rfl ⟨none, 0, by rw [hgz.out], by rw [hgz.out]; exact fun i hi => absurd hi (Nat.not_lt_zero i), ((((((((M19.out.t).setCell (.inr hl0) _).setCell (.inr hl0) _).setCell (.inr hl0) _).setCell (.inr hl0) _).setCell (.inr hl0) _).setCell (.inr hl0) _).setCell (.inr hl0) _).setCell (.inr hl0) _, fun a ha => by cases ha⟩
      have hgz := hid (hg2.trans (if_neg (by
        rintro (h | h)
        · exact h hck
        · exact h (by rw [← hSl, hSB]))))
      subst hSB
      clear hck hg2 hSl
      go_wp2_with fail
      refine HP.out.mono ?_
      rintro e w19 ⟨rfl, a19⟩
      have M19 := hid (M18.out.touch a19)
      have A19 := hid a19
      clear a19 k0 k1 k2 k3 k4 k5 k6 k7
      have k0 := cell_of M19.out.b 0
      have k1 := cell_of M19.out.b 1
      have k2 := cell_of M19.out.b 2
      have k3 := cell_of M19.out.b 3
      have k4 := cell_of M19.out.b 4
      have k5 := cell_of M19.out.b 5
      have k6 := cell_of M19.out.b 6
      have k7 := cell_of M19.out.b 7
      have z0 := cell_of M19.out.z 0
      have y0 := free_of M19.out.z 0
      have z1 := cell_of M19.out.z 1
      have y1 := free_of M19.out.z 1
      have z2 := cell_of M19.out.z 2
      have y2 := free_of M19.out.z 2
      have z3 := cell_of M19.out.z 3
      have y3 := free_of M19.out.z 3
      have z4 := cell_of M19.out.z 4
      have y4 := free_of M19.out.z 4
      have z5 := cell_of M19.out.z 5
      have y5 := free_of M19.out.z 5
      have z6 := cell_of M19.out.z 6
      have y6 := free_of M19.out.z 6
      have z7 := cell_of M19.out.z 7
      have y7 := free_of M19.out.z 7
      unfold zcells at z0 z1 z2 z3 z4 z5 z6 z7
      have hl0 := M19.out.l0
      go_wp2
      have fo := M19.out.f0
      have T8 : ∀ a0 a1 a2 a3 a4 a5 a6 a7 : Value, Touch [w.heap.size] w19 ((((((((w19.setCell ⟨w.heap.size, 0, none⟩ a0).setCell ⟨w.heap.size, 1, none⟩ a1).setCell ⟨w.heap.size, 2, none⟩ a2).setCell ⟨w.heap.size, 3, none⟩ a3).setCell ⟨w.heap.size, 4, none⟩ a4).setCell ⟨w.heap.size, 5, none⟩ a5).setCell ⟨w.heap.size, 6, none⟩ a6).setCell ⟨w.heap.size, 7, none⟩ a7) := fun _ _ _ _ _ _ _ _ =>
        ((((((((Touch.refl _ _).setCell (.inl (by simp)) _).setCell (.inl (by simp)) _).setCell (.inl (by simp)) _).setCell (.inl (by simp)) _).setCell (.inl (by simp)) _).setCell (.inl (by simp)) _).setCell (.inl (by simp)) _).setCell (.inl (by simp)) _
      refine bodyPost_ret (v := .tuple #[c.agg y cap, .int .i64 0]) (by rw [HAGG.out]; simp [results, Try.results19, go_sem, z0, z1, z2, z3, z4, z5, z6, z7]) rfl ⟨y, cap, by rw [hgz.out], ?_, ?_, HY.out⟩
      · rw [hgz.out]
        show EvX _ y c.evs
        rw [HEVS.out]
        intro i hi
        obtain ⟨b, off, e, g1, g2⟩ := (HEV.out.touch A19.out) i hi
        refine ⟨b, off, e, g1.keep (T8 _ _ _ _ _ _ _ _) ?_, g2⟩
        rw [e] at fo
        simpa [Value.ownBlock] using fo
      · exact ((((((((M19.out.t).setCell (.inr hl0) _).setCell (.inr hl0) _).setCell (.inr hl0) _).setCell (.inr hl0) _).setCell (.inr hl0) _).setCell (.inr hl0) _).setCell (.inr hl0) _).setCell (.inr hl0) _
end Go.Proofs.Ytcihnfgfficmlaa
