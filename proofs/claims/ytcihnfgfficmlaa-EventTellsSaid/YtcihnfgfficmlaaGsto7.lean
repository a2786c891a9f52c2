/- The laws' own GetStored. -/
import Derived.Test.YtcihnfgfficmlaaSto7
import Derived.Test.YtcihnfgfficmlaaGetw7
namespace Go.Proofs.Ytcihnfgfficmlaa
open Go.RowKit Go.Lib

/-- What is read of bytes: a stored event. -/
structure GotS where
  e : EvD × (List UInt8 × Int)
  s : List UInt8 × (List UInt8 × Int)
  v : List UInt8 × (List UInt8 × Int)
  p : List UInt8 × (List UInt8 × Int)
  t : List UInt8 × (List UInt8 × Int)
structure ReadsS (b : List UInt8) (g : GotS) : Prop where
  e : g.e = takeE (b, 0)
  s : g.s = iText g.e.2 60
  v : g.v = iTake g.s.2 8
  p : g.p = iTake g.v.2 8
  t : g.t = iTake g.p.2 8
def GotS.sto (g : GotS) : StD := ⟨g.e.1, bytesT g.s.1, i64 (val g.v.1), i64 (val g.p.1), i64 (val g.t.1)⟩
def gotS (b : List UInt8) : GotS :=
  let e := takeE (b, 0)
  let s := iText e.2 60
  let v := iTake s.2 8
  let p := iTake v.2 8
  let t := iTake p.2 8
  ⟨e, s, v, p, t⟩
theorem reads_gotS (b : List UInt8) : ReadsS b (gotS b) := ⟨rfl, rfl, rfl, rfl, rfl⟩
def zeroS : StD := ⟨⟨0, ⟨#[]⟩, ⟨#[]⟩, 0⟩, ⟨#[]⟩, 0, 0, 0⟩
/-- What GetStored tells. -/
def getS (b : List UInt8) : StD × Int :=
  if (iEnd (gotS b).t.2).2 ≠ 0 then (zeroS, (iEnd (gotS b).t.2).2) else if validS (gotS b).sto = false ∨ layS (gotS b).sto ≠ b then (zeroS, 6) else ((gotS b).sto, 0)

def zstos : Array Value := #[.int .i64 0, .string ⟨#[]⟩, .string ⟨#[]⟩, .float .f64 0, .string ⟨#[]⟩, .int .i64 0, .int .i64 0, .int .i64 0]
/-- While a stored event is read. -/
structure Gs (w W : World) (x h0 h1 : Nat) (st : List UInt8 × Int) (cs : Array Value) : Prop where
  r : RefIs W x st
  b : W.heap[h1]? = some (.cells cs tSto (0, 0))
  z : W.heap[h0]? = some (.cells zstos tSto (0, 0))
  t : Touch [] w W
  lx : w.heap.size ≤ x
  l0 : w.heap.size ≤ h0
  l1 : w.heap.size ≤ h1
  n1 : x ≠ h0
  n2 : x ≠ h1
  n3 : h0 ≠ h1
theorem Gs.call {w W W' : World} {x h0 h1 : Nat} {st st' : List UInt8 × Int} {cs : Array Value} (h : Gs w W x h0 h1 st cs) (p : RPost x st' W W') : Gs w W' x h0 h1 st' cs := by
  have a1 := h.n1; have a2 := h.n2
  refine ⟨p.1, (p.2.block _ (lt_of_block h.b) (by simp; omega)).trans h.b, (p.2.block _ (lt_of_block h.z) (by simp; omega)).trans h.z, ?_, h.lx, h.l0, h.l1, h.n1, h.n2, h.n3⟩
  exact h.t.trans p.2 (fun f hf => .inr (by simp at hf; have := h.lx; omega))
theorem Gs.set {w W : World} {x h0 h1 : Nat} {st : List UInt8 × Int} {cs : Array Value} (h : Gs w W x h0 h1 st cs) (i : Nat) (u : Value) : Gs w (W.setCell ⟨h1, i, none⟩ u) x h0 h1 st (cs.setIfInBounds i u) := by
  refine ⟨?_, heap_set h.b u, (heap_set_other u (by show h0 ≠ h1; exact h.n3)).trans h.z, h.t.setCell (.inr h.l1) u, h.lx, h.l0, h.l1, h.n1, h.n2, h.n3⟩
  obtain ⟨B, hB, hb⟩ := h.r
  exact ⟨B, (heap_set_other u (by show x ≠ h1; exact h.n2)).trans hB, hb⟩
theorem Gs.start {w w2 w3 : World} {st' : List UInt8 × Int} {cs : Array Value} {I : Array Value} (hw2 : w2 = (w.alloc (.cells zstos tSto)).alloc (.cells I tRIn)) (p : RPost (w.heap.size + 1) st' w2 w3) :
    Gs w (w3.alloc (.cells cs tSto)) (w.heap.size + 1) w.heap.size w3.heap.size st' cs := by
  have hs : w2.heap.size = w.heap.size + 2 := by rw [hw2]; simp
  have hs3 := p.2.size
  have z2 : w2.heap[w.heap.size]? = some (.cells zstos tSto (0, 0)) := by
    rw [hw2]
    exact (Below.heap_alloc (w.alloc (.cells zstos tSto)) _ _ (by simp)).trans (heap_alloc_new w _)
  have z3 := (p.2.block _ (lt_of_block z2) (by simp)).trans z2
  have T2 : Touch [] w w2 := by rw [hw2]; exact ((Touch.refl _ _).alloc _).alloc _
  exact ⟨p.1.keep ((Touch.refl [] w3).alloc _) (by simp), heap_alloc_new w3 _, (Below.heap_alloc w3 _ _ (lt_of_block z3)).trans z3, (T2.trans p.2 (fun f hf => .inr (by simp at hf; omega))).alloc _,
    by omega, Nat.le_refl _, by omega, by omega, by omega, by omega⟩
theorem Gs.touch {w W W' : World} {x h0 h1 : Nat} {st : List UInt8 × Int} {cs : Array Value} (h : Gs w W x h0 h1 st cs) (t : Touch [] W W') : Gs w W' x h0 h1 st cs :=
  ⟨h.r.keep t (by simp), (t.block _ (lt_of_block h.b) (by simp)).trans h.b, (t.block _ (lt_of_block h.z) (by simp)).trans h.z, h.t.trans t (by simp), h.lx, h.l0, h.l1, h.n1, h.n2, h.n3⟩

set_option maxRecDepth 100000 in
set_option maxHeartbeats 4000000 in
theorem refGetS_any (B : ByteArray) (w : World) (hB : B.size ≤ 4000) : Calls Try.prog 30 #[.string B] w fun r w' => r = .returned (.tuple #[(getS B.data.toList).1.agg, .int .i64 (getS B.data.toList).2]) ∧ Touch [] w w' := by
  obtain ⟨g, hg⟩ : ∃ g, g = gotS B.data.toList := ⟨_, rfl⟩
  have hr := reads_gotS B.data.toList
  rw [← hg] at hr
  obtain ⟨ge, gs, gv, gp, gt⟩ := g
  obtain ⟨e1, e2, e3, e4, e5⟩ := hr
  simp only [] at e1 e2 e3 e4 e5
  have hsz := list_len B
  have l1 : ge.2.1.length ≤ 4000 := by rw [e1]; exact Nat.le_trans (takeE_le _) (by simp only []; omega)
  have l2 : gs.2.1.length ≤ 4000 := by rw [e2]; exact Nat.le_trans (iText_le _ _) l1
  have l3 : gv.2.1.length ≤ 4000 := by rw [e3]; exact Nat.le_trans (iTake_le _ _).2 l2
  have l4 : gp.2.1.length ≤ 4000 := by rw [e4]; exact Nat.le_trans (iTake_le _ _).2 l3
  have v3 : val gv.1 < 18446744073709551616 := by rw [e3]; exact val8_lt _
  have v4 : val gp.1 < 18446744073709551616 := by rw [e4]; exact val8_lt _
  have v5 : val gt.1 < 18446744073709551616 := by rw [e5]; exact val8_lt _
  have hE : ErrNil gt.2 := by
    have h0 : ErrNil (B.data.toList, 0) := fun h => absurd rfl h
    rw [e5, e4, e3, e2, e1]
    exact errNil_take (errNil_take (errNil_take (errNil_text (errNil_takeE h0) 60) 8) 8) 8
  have hG : Hid (getS B.data.toList = if (iEnd gt.2).2 ≠ 0 then (zeroS, (iEnd gt.2).2) else if validS (GotS.sto ⟨ge, gs, gv, gp, gt⟩) = false ∨ layS (GotS.sto ⟨ge, gs, gv, gp, gt⟩) ≠ B.data.toList then (zeroS, 6) else (GotS.sto ⟨ge, gs, gv, gp, gt⟩, 0)) := by
    unfold getS
    rw [← hg]
    exact hid rfl
  have C1 := hid (fun x w (h : RefIs w x (B.data.toList, 0)) => refTake_st x (B.data.toList, 0) w h (by simp only []; omega))
  rw [← e1] at C1
  have C2 := hid (fun x w (h : RefIs w x ge.2) => rText_st x ge.2 60 w h (by omega))
  rw [← e2] at C2
  have C3 := hid (fun x w (h : RefIs w x gs.2) => rNum_st x gs.2 8 w h (by decide) (by omega))
  rw [← e3] at C3
  have C4 := hid (fun x w (h : RefIs w x gv.2) => rNum_st x gv.2 8 w h (by decide) (by omega))
  rw [← e4] at C4
  have C5 := hid (fun x w (h : RefIs w x gp.2) => rNum_st x gp.2 8 w h (by decide) (by omega))
  rw [← e5] at C5
  have CE := hid (fun x w (h : RefIs w x gt.2) => rEnd_st x gt.2 w h hE)
  have hsf := store_flt
  have i3 := i64_wrap' _ v3
  have i4 := i64_wrap' _ v4
  have i5 := i64_wrap' _ v5
  clear e1 e2 e3 e4 e5 l1 l2 l3 l4 v3 v4 v5 hE hg hB hsz
  unfold GotS.sto at hG
  simp only [] at hG
  generalize hnv : val gv.1 = nv at *
  generalize hnp : val gp.1 = np at *
  generalize hnt : val gt.1 = nt at *
  clear hnv hnp hnt
  obtain ⟨⟨a0, a1, a2, a3⟩, st1⟩ := ge
  unfold EvD.agg at C1
  simp only [] at C1 C2 hG
  go_enter Try.func30, Try.ntmps30
  go_wp2_with fail
  obtain ⟨w2, hw2⟩ : ∃ w2, w2 = (w.alloc (.cells zstos tSto)).alloc (.cells #[.string B, .int .i64 0] tRIn) := ⟨_, rfl⟩
  have HW2 := hid hw2
  have R2 : Hid (RefIs w2 (w.heap.size + 1) (B.data.toList, 0)) := by
    rw [hw2]
    refine hid ⟨B, ?_, fun _ => rfl⟩
    have := heap_alloc_new (w.alloc (.cells zstos tSto)) (.cells #[.string B, .int .i64 0] tRIn)
    simpa using this
  unfold zstos at hw2
  simp only [tSto, tRIn] at hw2
  rw [← hw2]
  clear hw2
  refine (C1.out _ w2 R2.out).mono ?_
  rintro e w3 ⟨rfl, p3⟩
  have P3 := hid p3
  clear p3 C1 R2
  go_wp2_with fail
  have M4 := hid (Gs.start (cs := #[.int .i64 a0, .string a1, .string a2, .float .f64 a3, .string ⟨#[]⟩, .int .i64 0, .int .i64 0, .int .i64 0]) HW2.out P3.out)
  simp only [tSto] at M4
  generalize w3.alloc (.cells #[.int .i64 a0, .string a1, .string a2, .float .f64 a3, .string ⟨#[]⟩, .int .i64 0, .int .i64 0, .int .i64 0] 44) = w4 at *
  generalize w3.heap.size = h1 at *
  clear HW2 P3
  refine (C2.out _ w4 M4.out.r).mono ?_
  rintro e w5 ⟨rfl, pp⟩
  have NM4 := hid (M4.out.call pp)
  clear pp C2 M4
  have fq := free_of NM4.out.b 4
  have cq := cell_of NM4.out.b 4
  go_wp2_with fail
  have M6 := hid (NM4.out.set 4 (.string ⟨gs.1.toArray⟩))
  generalize w5.setCell ⟨h1, 4, none⟩ (.string ⟨gs.1.toArray⟩) = w6 at *
  clear fq cq NM4
  refine (C3.out _ w6 M6.out.r).mono ?_
  rintro e w7 ⟨rfl, pp⟩
  have NM6 := hid (M6.out.call pp)
  clear pp C3 M6
  have fq := free_of NM6.out.b 5
  have cq := cell_of NM6.out.b 5
  go_wp2_with fail
  have M8 := hid (NM6.out.set 5 (.int .i64 (i64 nv)))
  generalize w7.setCell ⟨h1, 5, none⟩ (.int .i64 (i64 nv)) = w8 at *
  clear fq cq NM6
  refine (C4.out _ w8 M8.out.r).mono ?_
  rintro e w9 ⟨rfl, pp⟩
  have NM8 := hid (M8.out.call pp)
  clear pp C4 M8
  have fq := free_of NM8.out.b 6
  have cq := cell_of NM8.out.b 6
  go_wp2_with fail
  have M10 := hid (NM8.out.set 6 (.int .i64 (i64 np)))
  generalize w9.setCell ⟨h1, 6, none⟩ (.int .i64 (i64 np)) = w10 at *
  clear fq cq NM8
  refine (C5.out _ w10 M10.out.r).mono ?_
  rintro e w11 ⟨rfl, pp⟩
  have NM10 := hid (M10.out.call pp)
  clear pp C5 M10
  have fq := free_of NM10.out.b 7
  have cq := cell_of NM10.out.b 7
  go_wp2_with fail
  have M12 := hid (NM10.out.set 7 (.int .i64 (i64 nt)))
  generalize w11.setCell ⟨h1, 7, none⟩ (.int .i64 (i64 nt)) = w12 at *
  clear fq cq NM10
  refine (CE.out _ w12 M12.out.r).mono ?_
  rintro e w18 ⟨rfl, pp⟩
  have M18 : Hid (Gs w w18 (w.heap.size + 1) w.heap.size h1 (iEnd gt.2) #[.int .i64 a0, .string a1, .string a2, .float .f64 a3, .string ⟨gs.1.toArray⟩, .int .i64 (i64 nv), .int .i64 (i64 np), .int .i64 (i64 nt)]) := M12.out.call pp
  clear pp CE M12
  by_cases hE0 : (iEnd gt.2).2 = 0
  rotate_left
  · have he3 : ((iEnd gt.2).2 != 0) = true := by simpa using hE0
    have hgz := hid (hG.out.trans (if_pos hE0))
    generalize (iEnd gt.2).2 = er at *
    have z0 := cell_of M18.out.z 0
    have y0 := free_of M18.out.z 0
    have z1 := cell_of M18.out.z 1
    have y1 := free_of M18.out.z 1
    have z2 := cell_of M18.out.z 2
    have y2 := free_of M18.out.z 2
    have z3 := cell_of M18.out.z 3
    have y3 := free_of M18.out.z 3
    have z4 := cell_of M18.out.z 4
    have y4 := free_of M18.out.z 4
    have z5 := cell_of M18.out.z 5
    have y5 := free_of M18.out.z 5
    have z6 := cell_of M18.out.z 6
    have y6 := free_of M18.out.z 6
    have z7 := cell_of M18.out.z 7
    have y7 := free_of M18.out.z 7
    unfold zstos at z0 z1 z2 z3 z4 z5 z6 z7
    have hl0 := M18.out.l0
    go_wp2
    refine bodyPost_ret (v := .tuple #[zeroS.agg, .int .i64 er]) (by simp [results, Try.results30, go_sem, z0, z1, z2, z3, z4, z5, z6, z7, StD.agg, zeroS]) rfl ⟨by rw [hgz.out], ((((((((M18.out.t).setCell (.inr hl0) _).setCell (.inr hl0) _).setCell (.inr hl0) _).setCell (.inr hl0) _).setCell (.inr hl0) _).setCell (.inr hl0) _).setCell (.inr hl0) _).setCell (.inr hl0) _⟩
  have hg2 := hG.out
  rw [if_neg (show ¬ (iEnd gt.2).2 ≠ 0 by simpa using hE0)] at hg2
  have he3 : ((iEnd gt.2).2 != 0) = false := by simpa using hE0
  rw [hE0]
  clear he3 hE0
  obtain ⟨c, hc⟩ : ∃ c : StD, c = ⟨⟨a0, a1, a2, a3⟩, bytesT gs.1, i64 nv, i64 np, i64 nt⟩ := ⟨_, rfl⟩
  have hP := refPutS_any c w18
  rw [← hc] at hg2
  have hagg : c.agg = .agg #[.int .i64 a0, .string a1, .string a2, .float .f64 a3, .string ⟨gs.1.toArray⟩, .int .i64 (i64 nv), .int .i64 (i64 np), .int .i64 (i64 nt)] := by rw [hc]; rfl
  unfold putSV at hP
  rw [hagg] at hP
  have HAGG := hid hagg
  clear hagg hc
  have k0 := cell_of M18.out.b 0
  have k1 := cell_of M18.out.b 1
  have k2 := cell_of M18.out.b 2
  have k3 := cell_of M18.out.b 3
  have k4 := cell_of M18.out.b 4
  have k5 := cell_of M18.out.b 5
  have k6 := cell_of M18.out.b 6
  have k7 := cell_of M18.out.b 7
  by_cases hck : validS c = true
  rotate_left
  · rw [if_neg hck] at hP
    have hgz := hid (hg2.trans (if_pos (.inl (by simpa using hck))))
    have HP := hid hP
    clear hP hck hg2
    go_wp2_with fail
    refine HP.out.mono ?_
    rintro e w19 ⟨rfl, a19⟩
    have M19 := hid (M18.out.touch a19)
    clear a19 k0 k1 k2 k3 k4 k5 k6 k7 M18
    have z0 := cell_of M19.out.z 0
    have y0 := free_of M19.out.z 0
    have z1 := cell_of M19.out.z 1
    have y1 := free_of M19.out.z 1
    have z2 := cell_of M19.out.z 2
    have y2 := free_of M19.out.z 2
    have z3 := cell_of M19.out.z 3
    have y3 := free_of M19.out.z 3
    have z4 := cell_of M19.out.z 4
    have y4 := free_of M19.out.z 4
    have z5 := cell_of M19.out.z 5
    have y5 := free_of M19.out.z 5
    have z6 := cell_of M19.out.z 6
    have y6 := free_of M19.out.z 6
    have z7 := cell_of M19.out.z 7
    have y7 := free_of M19.out.z 7
    unfold zstos at z0 z1 z2 z3 z4 z5 z6 z7
    have hl0 := M19.out.l0
    go_wp2
    refine bodyPost_ret (v := .tuple #[zeroS.agg, .int .i64 6]) (by simp [results, Try.results30, go_sem, z0, z1, z2, z3, z4, z5, z6, z7, StD.agg, zeroS]) rfl ⟨by rw [hgz.out], ((((((((M19.out.t).setCell (.inr hl0) _).setCell (.inr hl0) _).setCell (.inr hl0) _).setCell (.inr hl0) _).setCell (.inr hl0) _).setCell (.inr hl0) _).setCell (.inr hl0) _).setCell (.inr hl0) _⟩
  rw [if_pos hck] at hP
  obtain ⟨S, hS⟩ : ∃ S : ByteArray, S = ⟨(layS c).toArray⟩ := ⟨_, rfl⟩
  have hSl : S.data.toList = layS c := by rw [hS]
  rw [← hS] at hP
  have HP := hid hP
  clear hP hS
  by_cases hSB : S = B
  rotate_left
  · have hne : (!S.toList == B.toList) = true := by rw [toList_ne hSB]; rfl
    have hgz := hid (hg2.trans (if_pos (.inr (fun e => hSB (txt_eq (hSl.trans e))))))
    clear hck hg2 hSl hSB
    go_wp2_with fail
    refine HP.out.mono ?_
    rintro e w19 ⟨rfl, a19⟩
    have M19 := hid (M18.out.touch a19)
    clear a19 k0 k1 k2 k3 k4 k5 k6 k7 M18
    have z0 := cell_of M19.out.z 0
    have y0 := free_of M19.out.z 0
    have z1 := cell_of M19.out.z 1
    have y1 := free_of M19.out.z 1
    have z2 := cell_of M19.out.z 2
    have y2 := free_of M19.out.z 2
    have z3 := cell_of M19.out.z 3
    have y3 := free_of M19.out.z 3
    have z4 := cell_of M19.out.z 4
    have y4 := free_of M19.out.z 4
    have z5 := cell_of M19.out.z 5
    have y5 := free_of M19.out.z 5
    have z6 := cell_of M19.out.z 6
    have y6 := free_of M19.out.z 6
    have z7 := cell_of M19.out.z 7
    have y7 := free_of M19.out.z 7
    unfold zstos at z0 z1 z2 z3 z4 z5 z6 z7
    have hl0 := M19.out.l0
    go_wp2
    refine bodyPost_ret (v := .tuple #[zeroS.agg, .int .i64 6]) (by simp [results, Try.results30, go_sem, z0, z1, z2, z3, z4, z5, z6, z7, StD.agg, zeroS]) rfl ⟨by rw [hgz.out], ((((((((M19.out.t).setCell (.inr hl0) _).setCell (.inr hl0) _).setCell (.inr hl0) _).setCell (.inr hl0) _).setCell (.inr hl0) _).setCell (.inr hl0) _).setCell (.inr hl0) _).setCell (.inr hl0) _⟩
  have hno : ¬ (validS c = false ∨ layS c ≠ S.data.toList) := by
    rintro (h | h)
    · rw [hck] at h; cases h
    · exact h hSl.symm
  rw [hSB] at hno
  have hgz := hid (hg2.trans (if_neg hno))
  clear hno
  clear hck hg2 hSl
  subst hSB
  go_wp2_with fail
  refine HP.out.mono ?_
  rintro e w19 ⟨rfl, a19⟩
  have M19 := hid (M18.out.touch a19)
  clear a19 k0 k1 k2 k3 k4 k5 k6 k7 M18
  have k0 := cell_of M19.out.b 0
  have k1 := cell_of M19.out.b 1
  have k2 := cell_of M19.out.b 2
  have k3 := cell_of M19.out.b 3
  have k4 := cell_of M19.out.b 4
  have k5 := cell_of M19.out.b 5
  have k6 := cell_of M19.out.b 6
  have k7 := cell_of M19.out.b 7
  have z0 := cell_of M19.out.z 0
  have y0 := free_of M19.out.z 0
  have z1 := cell_of M19.out.z 1
  have y1 := free_of M19.out.z 1
  have z2 := cell_of M19.out.z 2
  have y2 := free_of M19.out.z 2
  have z3 := cell_of M19.out.z 3
  have y3 := free_of M19.out.z 3
  have z4 := cell_of M19.out.z 4
  have y4 := free_of M19.out.z 4
  have z5 := cell_of M19.out.z 5
  have y5 := free_of M19.out.z 5
  have z6 := cell_of M19.out.z 6
  have y6 := free_of M19.out.z 6
  have z7 := cell_of M19.out.z 7
  have y7 := free_of M19.out.z 7
  unfold zstos at z0 z1 z2 z3 z4 z5 z6 z7
  have hl0 := M19.out.l0
  go_wp2
  refine bodyPost_ret (v := .tuple #[c.agg, .int .i64 0]) (by rw [HAGG.out]; simp [results, Try.results30, go_sem, z0, z1, z2, z3, z4, z5, z6, z7]) rfl ⟨by rw [hgz.out], ((((((((M19.out.t).setCell (.inr hl0) _).setCell (.inr hl0) _).setCell (.inr hl0) _).setCell (.inr hl0) _).setCell (.inr hl0) _).setCell (.inr hl0) _).setCell (.inr hl0) _).setCell (.inr hl0) _⟩
end Go.Proofs.Ytcihnfgfficmlaa
