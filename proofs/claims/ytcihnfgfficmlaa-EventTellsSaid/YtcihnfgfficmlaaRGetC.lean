/- event's getCommand: a command out of bytes. -/
import Derived.Test.YtcihnfgfficmlaaRGetE
import Derived.Test.YtcihnfgfficmlaaGetw7
namespace Go.Proofs.Ytcihnfgfficmlaa
open Go.RowKit Go.Lib
set_option maxRecDepth 100000

/-- So many events, read one behind the other, also behind an error. -/
def allE (st : List UInt8 × Int) : Nat → List EvD × (List UInt8 × Int)
  | 0 => ([], st)
  | j + 1 => ((allE st j).1 ++ [(takeE (allE st j).2).1], (takeE (allE st j).2).2)
theorem allE_step (st : List UInt8 × Int) (j : Nat) : allE st (j + 1) = ((allE st j).1 ++ [(takeE (allE st j).2).1], (takeE (allE st j).2).2) := rfl
theorem iText_bad (st : List UInt8 × Int) (m : Int) (h : st.2 ≠ 0) : (iText st m).2 = st := by
  unfold iText
  rw [iTake_bad st 4 h]
  simp only []
  rw [if_neg (fun e => h e.1), iTake_bad st _ h]
theorem takeE_bad (st : List UInt8 × Int) (h : st.2 ≠ 0) : (takeE st).2 = st := by
  unfold takeE
  have e1 : (iTake st 8).2 = st := by rw [iTake_bad st 8 h]
  simp only []
  rw [e1, iText_bad st 60 h, iText_bad st 200 h, e1]
theorem allE_st (st : List UInt8 × Int) : ∀ j, (allE st j).2 = (upto st j).2
  | 0 => rfl
  | j + 1 => by
    rw [allE_step, upto]
    simp only []
    rw [allE_st st j]
    split
    · rename_i h; exact takeE_bad _ h
    · rfl
theorem allE_eq (st : List UInt8 × Int) : ∀ j, (upto st j).2.2 = 0 → allE st j = upto st j
  | 0, _ => rfl
  | j + 1, h => by
    by_cases e : (upto st j).2.2 = 0
    · rw [allE_step, upto_step e, allE_eq st j e]
    · rw [upto, if_pos e] at h; exact absurd h e
theorem allE_len (st : List UInt8 × Int) : ∀ j, (allE st j).1.length = j
  | 0 => rfl
  | j + 1 => by rw [allE_step, List.length_append, allE_len st j]; rfl
theorem allE_le (st : List UInt8 × Int) (j : Nat) : (allE st j).2.1.length ≤ st.1.length := by rw [allE_st]; exact upto_le st j
theorem allE_ok (st : List UInt8 × Int) (h : st.1.length ≤ 4000) : ∀ j, ∀ e ∈ (allE st j).1, e.Ok
  | 0 => fun e he => by simp [allE] at he
  | j + 1 => by
    rw [allE_step]
    intro e he
    rcases List.mem_append.1 he with he | he
    · exact allE_ok st h j e he
    · rw [List.mem_singleton.1 he]
      exact takeE_ok _ (Nat.le_trans (allE_le st j) h)

/-- While a command is read: the reader at x, the result's block h0 (untouched), the command's block h1, its events' row. -/
structure Gi (w W : World) (x h0 h1 : Nat) (st : List UInt8 × Int) (cs : Array Value) (v : Value) (l : List EvD) : Prop where
  r : InIs W x st
  b : W.heap[h1]? = some (.cells cs tCmd (0, 0))
  z : W.heap[h0]? = some (.cells zcells tCmd (0, 0))
  o : W.ownsRow w.heap.size tEv 4 v l.length (evCells l)
  t : Touch [x] w W
  lx : x < w.heap.size
  l0 : w.heap.size ≤ h0
  l1 : w.heap.size ≤ h1
  n3 : h0 ≠ h1
  f0 : v.ownBlock ≠ some h0
  f1 : v.ownBlock ≠ some h1
theorem Gi.call {w W W' : World} {x h0 h1 : Nat} {st st' : List UInt8 × Int} {cs : Array Value} {v : Value} {l : List EvD} (h : Gi w W x h0 h1 st cs v l) (p : InPost x st' W W') : Gi w W' x h0 h1 st' cs v l := by
  have a1 := h.lx; have a2 := h.l0; have a3 := h.l1
  exact ⟨p.1, touch_blk0 p.2 h.b (by simp; omega), touch_blk0 p.2 h.z (by simp; omega), owns_same h.o (fun g hg => p.2.block g (owns_lt h.o g hg).1 (by have := (owns_lt h.o g hg).2; simp; omega)), h.t.trans p.2 (by simp), h.lx, h.l0, h.l1, h.n3, h.f0, h.f1⟩
theorem Gi.touch {w W W' : World} {x h0 h1 : Nat} {st : List UInt8 × Int} {cs : Array Value} {v : Value} {l : List EvD} (h : Gi w W x h0 h1 st cs v l) (t : Touch [] W W') : Gi w W' x h0 h1 st cs v l :=
  ⟨h.r.keep t (by simp), touch_blk0 t h.b, touch_blk0 t h.z, owns_same h.o (fun g hg => t.block g (owns_lt h.o g hg).1 (by simp)), h.t.trans t (by simp), h.lx, h.l0, h.l1, h.n3, h.f0, h.f1⟩
theorem Gi.set {w W : World} {x h0 h1 : Nat} {st : List UInt8 × Int} {cs : Array Value} {v : Value} {l : List EvD} (h : Gi w W x h0 h1 st cs v l) (i : Nat) (u : Value) : Gi w (W.setCell ⟨h1, i, none⟩ u) x h0 h1 st (cs.setIfInBounds i u) v l := by
  have a1 := h.lx; have a3 := h.l1
  refine ⟨?_, heap_set h.b u, (heap_set_other u (by show h0 ≠ h1; exact h.n3)).trans h.z, owns_same h.o (fun g hg => heap_set_other u (by show g ≠ h1; intro e; subst e; exact h.f1 hg)), h.t.setCell (.inr h.l1) u, h.lx, h.l0, h.l1, h.n3, h.f0, h.f1⟩
  exact ⟨(heap_set_other u (by show x ≠ h1; omega)).trans h.r.1, h.r.2⟩
theorem Gi.app {w w3 w4 : World} {x h0 h1 g cap : Nat} {st : List UInt8 × Int} {cs : Array Value} {v : Value} {l : List EvD} {e : EvD} (h : Gi w w3 x h0 h1 st cs v l) (O : Obj)
    (hown : w4.ownsRow w.heap.size tEv 4 (.slice (some ⟨g, 0, none⟩) (l.length + 1) cap) (l.length + 1) (evCells l ++ [.int .i64 e.id, .string e.typ, .string e.data, .float .f64 e.val])) (hg : (w3.alloc O).grownBy w4 v.ownBlock) (hat : v.ownBlock = some g ∨ g = w3.heap.size + 1) :
    Gi w (w4.setCell ⟨h1, 4, none⟩ (.slice (some ⟨g, 0, none⟩) (l.length + 1) cap)) x h0 h1 st (cs.setIfInBounds 4 (.slice (some ⟨g, 0, none⟩) (l.length + 1) cap)) (.slice (some ⟨g, 0, none⟩) (l.length + 1) cap) (l ++ [e]) := by
  have hx := h.r.lt
  have hz := lt_of_block h.z
  have hb := lt_of_block h.b
  have a1 := h.lx; have a3 := h.l1
  have hs : (w3.alloc O).heap.size = w3.heap.size + 1 := by simp
  have keep : ∀ k, k < w3.heap.size → v.ownBlock ≠ some k → w4.heap[k]? = w3.heap[k]? := fun k hk hne => (hg.block k (by omega) (fun e => hne e.symm)).trans (Below.heap_alloc w3 O k hk)
  have fx : v.ownBlock ≠ some x := fun e => by have := (owns_lt h.o x e).2; omega
  have g0 : g ≠ h0 := by rcases hat with e | e; · rintro rfl; exact h.f0 e
                         · omega
  have g1 : g ≠ h1 := by rcases hat with e | e; · rintro rfl; exact h.f1 e
                         · omega
  refine ⟨?_, heap_set ((keep h1 hb h.f1).trans h.b) _, (heap_set_other _ (by show h0 ≠ h1; exact h.n3)).trans ((keep h0 hz h.f0).trans h.z), ?_, ?_, h.lx, h.l0, h.l1, h.n3, by simp [Value.ownBlock]; exact g0, by simp [Value.ownBlock]; exact g1⟩
  · exact ⟨(heap_set_other _ (by show x ≠ h1; omega)).trans ((keep x hx fx).trans h.r.1), h.r.2⟩
  · rw [evCells_snoc, List.length_append]
    exact owns_same hown (fun k hk => heap_set_other _ (by simp [Value.ownBlock] at hk; subst hk; exact g1))
  · refine ((h.t.alloc O).grown hg ?_).setCell (.inr h.l1) _
    intro k hk
    exact .inr (owns_lt h.o k hk).2

theorem evX_keep {F : List Nat} {y : Option Addr} {l : List EvD} {W W' : World} (h : EvX W y l) (t : Touch F W W') (hy : ∀ a, y = some a → a.block ∉ F) : EvX W' y l := by
  intro i hi
  obtain ⟨b2, off, e, g1, g2⟩ := h i hi
  exact ⟨b2, off, e, g1.keep t (hy _ e), g2⟩

/-- What getCommand leaves. -/
def CmdPost (x : Nat) (b : List UInt8) (w : World) (r : Ending) (w' : World) : Prop :=
  ∃ y cap l, r = .returned (CmdD.agg ⟨val (gotOf b).k.1, i64 (val (gotOf b).t.1), bytesT (gotOf b).s.1, i64 (val (gotOf b).x.1), l, i64 (val (gotOf b).p.1), i64 (val (gotOf b).q.1), i64 (val (gotOf b).r.1)⟩ y cap) ∧
    EvX w' y l ∧ InPost x (gotOf b).r.2 w w' ∧ (∀ a, y = some a → w.heap.size ≤ a.block) ∧ ((gotOf b).l.2.2 = 0 → l = (gotOf b).l.1)

set_option maxHeartbeats 4000000 in
theorem getCmd_any (x : Nat) (b : List UInt8) (w : World) (h : InIs w x (b, 0)) (hB : b.length ≤ 4000) : Calls Try.prog 48 #[.pointer (some ⟨x, 0, none⟩)] w (CmdPost x b w) := by
  unfold CmdPost
  have hlt := h.lt
  obtain ⟨g, hg⟩ : ∃ g, g = gotOf b := ⟨_, rfl⟩
  have hr := reads_got b
  rw [← hg] at hr ⊢
  obtain ⟨gk, gt, gs, gx, gn, gl, gp, gq, gr⟩ := g
  obtain ⟨e1, e2, e3, e4, e5, e6, e7, e8, e9⟩ := hr
  simp only [] at e1 e2 e3 e4 e5 e6 e7 e8 e9 ⊢
  have l1 : gk.2.1.length ≤ 4000 := by rw [e1]; exact Nat.le_trans (iTake_le _ _).2 (by simp only []; omega)
  have l2 : gt.2.1.length ≤ 4000 := by rw [e2]; exact Nat.le_trans (iTake_le _ _).2 l1
  have l3 : gs.2.1.length ≤ 4000 := by rw [e3]; exact Nat.le_trans (iText_le _ _) l2
  have l4 : gx.2.1.length ≤ 4000 := by rw [e4]; exact Nat.le_trans (iTake_le _ _).2 l3
  have l5 : gn.2.1.length ≤ 4000 := by rw [e5]; exact Nat.le_trans (iTake_le _ _).2 l4
  have v5 : val gn.1 < 256 := by rw [e5]; exact val1_lt _
  have C1 := hid (fun w (h : InIs w x (b, 0)) => inU8_st x (b, 0) w h)
  rw [← e1] at C1
  have C2 := hid (fun w (h : InIs w x gk.2) => inI64_at h)
  rw [← e2] at C2
  have C3 := hid (fun w (h : InIs w x gt.2) => inText_st x gt.2 60 w h (by omega))
  rw [← e3] at C3
  have C4 := hid (fun w (h : InIs w x gs.2) => inI64_at h)
  rw [← e4] at C4
  have C5 := hid (fun w (h : InIs w x gx.2) => inU8_st x gx.2 w h)
  rw [← e5] at C5
  have C7 := hid (fun w (h : InIs w x gl.2) => inI64_at h)
  rw [← e7] at C7
  have C8 := hid (fun w (h : InIs w x gp.2) => inI64_at h)
  rw [← e8] at C8
  have C9 := hid (fun w (h : InIs w x gq.2) => inI64_at h)
  rw [← e9] at C9
  have HL : Hid ((allE gn.2 (val gn.1)).2 = gl.2) := by rw [e6]; exact hid (allE_st _ _)
  have HE : Hid (gl.2.2 = 0 → (allE gn.2 (val gn.1)).1 = gl.1) := hid fun h => by
    rw [e6] at h ⊢
    rw [allE_eq _ _ h]
  have HOK := hid (allE_ok gn.2 (by omega) (val gn.1))
  have L5 := hid l5
  have V5 := hid v5
  clear e1 e2 e3 e4 e5 e6 e7 e8 e9 l1 l2 l3 l4 l5 v5 hg hB
  generalize hnk : val gk.1 = nk at *
  generalize hnt : i64 (val gt.1) = nt at *
  generalize hnx : i64 (val gx.1) = nx at *
  generalize hnn : val gn.1 = nn at *
  generalize hnp : i64 (val gp.1) = np at *
  generalize hnq : i64 (val gq.1) = nq at *
  generalize hnr : i64 (val gr.1) = nr at *
  clear hnk hnt hnx hnn hnp hnq hnr
  have hsf := store_flt
  obtain ⟨w1, hw1⟩ : ∃ w1, w1 = w.alloc (.cells zcells tCmd) := ⟨_, rfl⟩
  have R1 : Hid (InPost x (b, 0) w w1) := hid ⟨h.keep (by rw [hw1]; exact (Touch.refl [] w).alloc _) (by simp), by rw [hw1]; exact (Touch.refl [x] w).alloc _⟩
  have Z1 := hid (heap_alloc_new w (.cells zcells tCmd))
  rw [← hw1] at Z1
  have S1 : Hid (w.heap.size < w1.heap.size) := by rw [hw1]; exact hid (by simp)
  have hne : w.heap.size ∉ [x] := by simp; omega
  have HNE := hid hne
  have HLT := hid hlt
  clear h hlt hne
  unfold zcells at hw1
  simp only [tCmd] at hw1
  go_enter Try.func48, Try.ntmps48
  go_upto_region 1 with fail
  rw [← hw1]
  clear hw1
  go_wp2_with fail
  refine (C1.out w1 R1.out.1).mono ?_
  rintro e w2 ⟨rfl, p2⟩
  have R2 := hid (p2.up R1.out.2)
  have Z2 := hid (touch_blk0 p2.2 Z1.out HNE.out)
  have S2 := hid (Nat.lt_of_lt_of_le S1.out p2.2.size)
  clear p2 C1 R1 Z1 S1
  go_wp2_with fail
  refine (C2.out w2 R2.out.1).mono ?_
  rintro e w3 ⟨rfl, p3⟩
  have R3 := hid (p3.up R2.out.2)
  have Z3 := hid (touch_blk0 p3.2 Z2.out HNE.out)
  have S3 := hid (Nat.lt_of_lt_of_le S2.out p3.2.size)
  clear p3 C2 R2 Z2 S2
  go_wp2_with fail
  refine (C3.out w3 R3.out.1).mono ?_
  rintro e w4 ⟨rfl, p4⟩
  have R4 := hid (p4.up R3.out.2)
  have Z4 := hid (touch_blk0 p4.2 Z3.out HNE.out)
  have S4 := hid (Nat.lt_of_lt_of_le S3.out p4.2.size)
  clear p4 C3 R3 Z3 S3
  go_wp2_with fail
  refine (C4.out w4 R4.out.1).mono ?_
  rintro e w5 ⟨rfl, p5⟩
  have R5 := hid (p5.up R4.out.2)
  have Z5 := hid (touch_blk0 p5.2 Z4.out HNE.out)
  have S5 := hid (Nat.lt_of_lt_of_le S4.out p5.2.size)
  clear p5 C4 R4 Z4 S4
  go_upto_region 2 with fail
  obtain ⟨W6, hW6⟩ : ∃ W6, W6 = w5.alloc (.cells #[.int .i64 (nk : Int), .int .i64 nt, .string ⟨gs.1.toArray⟩, .int .i64 nx, .slice none 0 0, .int .i64 0, .int .i64 0, .int .i64 0] 26) := ⟨_, rfl⟩
  have M6 : Hid (Gi w W6 x w.heap.size w5.heap.size gx.2 #[.int .i64 (nk : Int), .int .i64 nt, .string ⟨gs.1.toArray⟩, .int .i64 nx, .slice none 0 0, .int .i64 0, .int .i64 0, .int .i64 0] (.slice none 0 0) []) := by
    rw [hW6]
    exact hid ⟨R5.out.1.keep ((Touch.refl [] w5).alloc _) (by simp), heap_alloc_new w5 _, touch_blk0 ((Touch.refl [] w5).alloc _) Z5.out, ⟨rfl, .inl ⟨rfl, rfl⟩⟩, R5.out.2.alloc _, HLT.out, Nat.le_refl _, Nat.le_of_lt S5.out, by have := S5.out; omega, by simp [Value.ownBlock], by simp [Value.ownBlock]⟩
  rw [← hW6]
  clear hW6 R5 Z5 S5
  generalize w5.heap.size = h1 at *
  generalize hh0 : w.heap.size = h0 at *
  go_wp2_with fail
  refine (C5.out W6 M6.out.r).mono ?_
  rintro e w7 ⟨rfl, p7⟩
  have M7 := hid (M6.out.call p7)
  clear p7 C5 M6
  obtain ⟨i0, z0, hi, hz0, hz1, hz2, hz3⟩ := info_ev
  have HNN := hid (show (nn : Int) < 256 by have := V5.out; omega)
  go_upto_region 3 with fail
  go_wp2
  go_loopw [15] (fun kv wr => ∃ (j : Nat) (v : Value), j ≤ nn ∧ kv = .int .i64 j ∧ Gi w wr x h0 h1 (allE gn.2 j).2 #[.int .i64 (nk : Int), .int .i64 nt, .string ⟨gs.1.toArray⟩, .int .i64 nx, v, .int .i64 0, .int .i64 0, .int .i64 0] v (allE gn.2 j).1) (fun kv _ => nn - (RowKit.intOf kv).toNat)
  case atStart => exact ⟨0, .slice none 0 0, Nat.zero_le _, rfl, M7.out⟩
  case round =>
    obtain ⟨j, v, hj, rfl, hM⟩ := hrel
    have M := hid hM
    clear hM M7
    by_cases hlt : j < nn
    · have hltI : (j : Int) < nn := by omega
      have c4 := cell_of M.out.b 4
      have hle := Nat.le_trans (allE_le gn.2 j) L5.out
      have CT := hid (fun W (h : InIs W x (allE gn.2 j).2) => getEv_st x (allE gn.2 j).2 W h (by omega))
      have hup := hid (allE_step gn.2 j)
      have hln := allE_len gn.2 j
      have MD := hid (M.out.touch ((Touch.refl [] wr).drew))
      generalize allE gn.2 j = U at *
      generalize takeE U.2 = TE at *
      obtain ⟨E, st'⟩ := TE
      simp only [] at CT hup
      unfold EvD.agg at CT
      have HLN := hid hln
      clear hln hle
      go_upto_region 4 with fail
      go_region_law (first
        | (refine step_call _ rfl (f := 79) (args := #[.pointer (some ⟨x, 0, none⟩)]) (by simp [go_sem, Act.eval]) (CT.out _ MD.out.r) ?_
           rintro e w3 ⟨rfl, p3⟩
           refine ⟨_, rfl, ?_⟩
           have M3 := hid (MD.out.call p3)
           clear p3
           have k31 := cell_of M3.out.b 4
           have k32 := fun o : Obj => ((Touch.refl [] w3).alloc o).cell k31)
        | (refine step_append_lies _ rfl (.tmp 18) (.tmp 21) 22 rfl w.heap.size tEv i0 z0 4 48 Try.underlying22 hi hz0 hz1 hz2 hz3 (by decide) v U.1.length (evCells U.1) (by rfl) (M3.out.touch ((Touch.refl [] w3).alloc _)).o ⟨w3.heap.size, 0, none⟩ 1 1 [.int .i64 E.id, .string E.typ, .string E.data, .float .f64 E.val] (by rfl) rfl (World.news_of_block (cs := #[.int .i64 E.id, .string E.typ, .string E.data, .float .f64 E.val]) (t := tEv) (fr := (0, 0)) (heap_alloc_new w3 _)) (by intro u hu; simp at hu; rcases hu with rfl | rfl | rfl | rfl <;> rfl) (by decide) (by have := HLN.out; have := V5.out; unfold maxLen; omega) (by have := HLN.out; have := V5.out; omega) (by have := M3.out.t.size; simp; omega) (w3.heap.size + 1) (by simp) ?_
           intro g cap w4 hown hgrow hat hlt4
           have M5 := hid (M3.out.app _ hown hgrow hat)
           have k41 : w4.cell? ⟨h1, 4, none⟩ = some v := by
             rw [World.cell?_of_block (w := w3) ((hgrow.block h1 (by have := lt_of_block M3.out.b; simp; omega) (fun e => M3.out.f1 e.symm)).trans (Below.heap_alloc w3 _ h1 (lt_of_block M3.out.b)))]
             exact cell_of M3.out.b 4
           have f41 : w4.frozen? ⟨h1, 4, none⟩ = false := by
             rw [World.frozen?_of_block (w := w3) ((hgrow.block h1 (by have := lt_of_block M3.out.b; simp; omega) (fun e => M3.out.f1 e.symm)).trans (Below.heap_alloc w3 _ h1 (lt_of_block M3.out.b)))]
             exact free_of M3.out.b 4
           clear hown hgrow hat hlt4))
      all_goals
        generalize w4.setCell ⟨h1, 4, none⟩ (.slice (some ⟨g, 0, none⟩) (U.1.length + 1) cap) = w5 at *
        clear k31 k32 k41 f41 c4 M3 MD M CT
        have hb1 : (j : Int) < 256 := by have := V5.out; omega
        go_wp2
        go_roundw
        case rel =>
          refine ⟨j + 1, .slice (some ⟨g, 0, none⟩) (U.1.length + 1) cap, by omega, by go_num, ?_⟩
          rw [hup.out]
          exact M5.out
        case measure => simp [RowKit.intOf]; omega
    · obtain rfl : j = nn := by omega
      have M8 : Hid (Gi w wr x h0 h1 gl.2 #[.int .i64 (nk : Int), .int .i64 nt, .string ⟨gs.1.toArray⟩, .int .i64 nx, v, .int .i64 0, .int .i64 0, .int .i64 0] v (allE gn.2 j).1) := by rw [← HL.out]; exact M
      clear hlt M
      go_wp2_with fail
      refine (C7.out wr M8.out.r).mono ?_
      rintro e w8 ⟨rfl, p8⟩
      have M9 := hid (M8.out.call p8)
      clear p8 C7 M8
      go_wp2_with fail
      refine (C8.out w8 M9.out.r).mono ?_
      rintro e w9 ⟨rfl, p9⟩
      have M10 := hid (M9.out.call p9)
      clear p9 C8 M9
      go_wp2_with fail
      refine (C9.out w9 M10.out.r).mono ?_
      rintro e w10 ⟨rfl, p10⟩
      have M11 := hid (M10.out.call p10)
      clear p10 C9 M10
      have f5 := free_of M11.out.b 5; have f6 := free_of M11.out.b 6; have f7 := free_of M11.out.b 7
      have c5 := cell_of M11.out.b 5; have c6 := cell_of M11.out.b 6; have c7 := cell_of M11.out.b 7
      go_upto_region 7 with fail
      have M12 := hid (((M11.out.set 5 (.int .i64 np)).set 6 (.int .i64 nq)).set 7 (.int .i64 nr))
      simp only [List.setIfInBounds_toArray, List.set_cons_succ, List.set_cons_zero] at M12
      generalize ((w10.setCell ⟨h1, 5, none⟩ (.int .i64 np)).setCell ⟨h1, 6, none⟩ (.int .i64 nq)).setCell ⟨h1, 7, none⟩ (.int .i64 nr) = w11 at *
      clear f5 f7 c5 c6 c7 M11 hsf
      obtain ⟨y, cap, rfl, hEv, hy⟩ := evX_own M12.out.o HOK.out
      have HEV := hid hEv
      have HY := hid hy
      obtain ⟨k0, k1, k2, k3, k4, k5, k6, k7⟩ := cells_of M12.out.b
      have HZ := hid M12.out.z
      have z0 := cell_of HZ.out 0; have z1 := cell_of HZ.out 1; have z2 := cell_of HZ.out 2; have z3 := cell_of HZ.out 3; have z4 := cell_of HZ.out 4; have z5 := cell_of HZ.out 5; have z6 := cell_of HZ.out 6; have z7 := cell_of HZ.out 7
      have y0 := free_of HZ.out 0; have y1 := free_of HZ.out 1; have y2 := free_of HZ.out 2; have y3 := free_of HZ.out 3; have y4 := free_of HZ.out 4; have y5 := free_of HZ.out 5; have y6 := free_of HZ.out 6; have y7 := free_of HZ.out 7
      unfold zcells at z0 z1 z2 z3 z4 z5 z6 z7
      clear hEv hy HL
      go_wp2
      have hx : x ≠ h0 := by have := HNE.out; simp at this; omega
      have TT : ∀ {W : World} (i : Nat) (u : Value), InPost x gr.2 w W → InPost x gr.2 w (W.setCell ⟨h0, i, none⟩ u) := fun {W} i u h => ⟨⟨(heap_set_other u (by show x ≠ h0; exact hx)).trans h.1.1, h.1.2⟩, h.2.setCell (.inr M12.out.l0) u⟩
      have T8 : ∀ a0 a1 a2 a3 a4 a5 a6 a7 : Value, Touch [h0] w11 ((((((((w11.setCell ⟨h0, 0, none⟩ a0).setCell ⟨h0, 1, none⟩ a1).setCell ⟨h0, 2, none⟩ a2).setCell ⟨h0, 3, none⟩ a3).setCell ⟨h0, 4, none⟩ a4).setCell ⟨h0, 5, none⟩ a5).setCell ⟨h0, 6, none⟩ a6).setCell ⟨h0, 7, none⟩ a7) := fun _ _ _ _ _ _ _ _ =>
        ((((((((Touch.refl _ _).setCell (.inl (by simp)) _).setCell (.inl (by simp)) _).setCell (.inl (by simp)) _).setCell (.inl (by simp)) _).setCell (.inl (by simp)) _).setCell (.inl (by simp)) _).setCell (.inl (by simp)) _).setCell (.inl (by simp)) _
      have hy0 : ∀ a, y = some a → a.block ≠ h0 := fun a ha => by
        have := M12.out.f0
        rw [ha] at this
        obtain ⟨b1, o1, r1⟩ := a
        simp [Value.ownBlock] at this
        exact this
      refine bodyPost_ret (v := .agg #[.int .i64 (nk : Int), .int .i64 nt, .string ⟨gs.1.toArray⟩, .int .i64 nx, .slice y (allE gn.2 j).1.length cap, .int .i64 np, .int .i64 nq, .int .i64 nr]) (by simp [results, Try.results48, go_sem, z0, z1, z2, z3, z4, z5, z6, z7]) rfl ?_
      refine ⟨y, cap, (allE gn.2 j).1, rfl, ?_, TT 7 _ (TT 6 _ (TT 5 _ (TT 4 _ (TT 3 _ (TT 2 _ (TT 1 _ (TT 0 _ ⟨M12.out.r, M12.out.t⟩))))))), HY.out, HE.out⟩
      exact evX_keep HEV.out (T8 _ _ _ _ _ _ _ _) fun a ha => by simpa using hy0 a ha
end Go.Proofs.Ytcihnfgfficmlaa
