/- The laws' own writer, told by the same states as codec's. -/
import Derived.Test.YtmaainnfflapiaaFacts
import Derived.Test.YtmaainnfflapiaaFloat
import Derived.Deep.CutBlock
namespace Go.Proofs.Ytmaainnfflapiaa
set_option maxRecDepth 100000
open Go.RowKit Go.Lib

abbrev tROut : TypeId := 88
def byteCells (l : List UInt8) : List Value := l.map fun b => Value.int .u8 b.toNat

/-- The laws' own writer at block x: its bytes, its error; its blocks are G. -/
def RoutIs (w : World) (x : Nat) (G : List Nat) (st : List UInt8 × Int) : Prop :=
  ∃ v, w.heap[x]? = some (.cells #[v, .int .i64 st.2] tROut (0, 0)) ∧ w.ownsRow 0 tByte 1 v st.1.length (byteCells st.1) ∧ v.ownBlock ≠ some x ∧ G = x :: v.ownBlock.toList
def RoPost (x : Nat) (G : List Nat) (st : List UInt8 × Int) (w w' : World) : Prop := ∃ G', RoutIs w' x G' st ∧ Touch G w w' ∧ ∀ f ∈ G', f ∈ G ∨ w.heap.size ≤ f

theorem ownsRow_same {w w' : World} {v : Value} {n : Nat} {xs : List Value} (h : w.ownsRow 0 tByte 1 v n xs) (hb : ∀ g, v.ownBlock = some g → w'.heap[g]? = w.heap[g]?) : w'.ownsRow 0 tByte 1 v n xs := by
  obtain ⟨h1, h2 | ⟨g, cap, cur, hv, h3, h4, h5⟩⟩ := h
  · exact ⟨h1, .inl h2⟩
  · refine ⟨h1, .inr ⟨g, cap, cur, hv, h3, (hb g ?_).trans h4, h5⟩⟩
    rw [hv]; rfl
theorem ownsRow_lt {w : World} {v : Value} {n : Nat} {xs : List Value} (h : w.ownsRow 0 tByte 1 v n xs) : ∀ g, v.ownBlock = some g → g < w.heap.size := by
  intro g hg
  obtain ⟨_, ⟨rfl, _⟩ | ⟨g', cap, cur, rfl, _, h4, _⟩⟩ := h
  · simp [Value.ownBlock] at hg
  · simp [Value.ownBlock] at hg
    subst hg
    exact lt_of_block h4
theorem RoutIs.lt {w : World} {x : Nat} {G : List Nat} {st : List UInt8 × Int} (h : RoutIs w x G st) : ∀ f ∈ G, f < w.heap.size := by
  obtain ⟨v, h1, h2, _, rfl⟩ := h
  intro f hf
  simp at hf
  rcases hf with rfl | hf
  · exact lt_of_block h1
  · exact ownsRow_lt h2 f hf
theorem RoutIs.keep {w w' : World} {x : Nat} {F G : List Nat} {st : List UInt8 × Int} (h : RoutIs w x G st) (ht : Touch F w w') (hd : ∀ f ∈ G, f ∉ F) : RoutIs w' x G st := by
  have hl := h.lt
  obtain ⟨v, h1, h2, h3, rfl⟩ := h
  exact ⟨v, (ht.block x (hl x (by simp)) (hd x (by simp))).trans h1, ownsRow_same h2 (fun g hg => ht.block g (hl g (by simp [hg])) (hd g (by simp [hg]))), h3, rfl⟩
theorem RoPost.refl {w : World} {x : Nat} {G : List Nat} {st : List UInt8 × Int} (h : RoutIs w x G st) : RoPost x G st w w := ⟨G, h, Touch.refl _ _, fun _ hf => .inl hf⟩
theorem RoPost.up {x : Nat} {F G : List Nat} {st : List UInt8 × Int} {w w2 w' : World} (h : RoPost x F st w2 w') (ht : Touch G w w2) (hF : ∀ f ∈ F, f ∈ G ∨ w.heap.size ≤ f) : RoPost x G st w w' := by
  obtain ⟨G', h1, h2, h3⟩ := h
  refine ⟨G', h1, ht.trans h2 hF, fun f hf => ?_⟩
  rcases h3 f hf with h | h
  · exact hF f h
  · exact .inr (Nat.le_trans ht.size h)

theorem byte_append (st : List UInt8) (c : UInt8) : byteCells (st ++ [c]) = byteCells st ++ [.int .u8 c.toNat] := by simp [byteCells]
theorem byteCells_len (l : List UInt8) : (byteCells l).length = l.length := by simp [byteCells]

theorem be_take (n v k : Nat) (h : k < n) : (be n v).take (k + 1) = (be n v).take k ++ [UInt8.ofNat (v / 2 ^ (8 * (n - 1 - k)))] := by
  rw [List.take_succ_eq_append_getElem (by rw [be_length]; exact h)]
  simp [be]

theorem ro_close {x : Nat} {G G' : List Nat} {cur : List UInt8} {c : UInt8} {w wr w1 : World} {va : Value} {O : Obj} {gg cap : Nat} (r1 : wr.heap[x]? = some (.cells #[va, .int .i64 0] tROut (0, 0))) (r3 : va.ownBlock ≠ some x)
    (rG : G' = x :: va.ownBlock.toList) (hT : Touch G w wr) (hF : ∀ f ∈ G', f ∈ G ∨ w.heap.size ≤ f)
    (hown : w1.ownsRow 0 tByte 1 (.slice (some ⟨gg, 0, none⟩) (cur.length + 1) cap) (cur.length + 1) (byteCells cur ++ [.int .u8 c.toNat])) (hg : (wr.alloc O).grownBy w1 va.ownBlock) (hat : va.ownBlock = some gg ∨ gg = wr.heap.size + 1) :
    RoPost x G (cur ++ [c], 0) w (w1.setCell ⟨x, 0, none⟩ (.slice (some ⟨gg, 0, none⟩) (cur.length + 1) cap)) := by
  have hx := lt_of_block r1
  have hne : gg ≠ x := by
    rcases hat with h | h
    · rintro rfl; exact r3 h
    · omega
  have hs : (wr.alloc O).heap.size = wr.heap.size + 1 := by simp
  have h1 : w1.heap[x]? = some (.cells #[va, .int .i64 0] tROut (0, 0)) := by
    rw [hg.block x (by omega) (fun e => r3 e.symm)]
    exact (Below.heap_alloc wr O x hx).trans r1
  refine ⟨[x, gg], ⟨.slice (some ⟨gg, 0, none⟩) (cur.length + 1) cap, by rw [heap_set h1]; simp, ?_, ?_, rfl⟩, ?_, ?_⟩
  · refine ownsRow_same ?_ (fun g hgg => heap_set_other _ (by simp [Value.ownBlock] at hgg; subst hgg; exact hne))
    simp only [List.length_append, List.length_singleton, byte_append]
    exact hown
  · simp [Value.ownBlock]; exact hne
  · refine ((hT.alloc O).grown hg ?_).setCell (hF x (by rw [rG]; simp)) _
    intro k hk
    exact hF k (by rw [rG]; simp [hk])
  · intro f hf
    simp at hf
    rcases hf with rfl | rfl
    · exact hF f (by rw [rG]; simp)
    · rcases hat with h | h
      · exact hF f (by rw [rG]; simp [h])
      · right; have := hT.size; omega

set_option maxRecDepth 100000 in
set_option maxHeartbeats 1600000 in
theorem roNum_good (x : Nat) (G : List Nat) (bs : List UInt8) (n v : Nat) (w : World) (h : RoutIs w x G (bs, 0)) (hn : n ≤ 8) (hb : bs.length + 8 ≤ 140737488355328) :
    Calls Try.prog 61 #[.pointer (some ⟨x, 0, none⟩), .int .u64 v, .int .i64 n] w fun e w' => e = .returned (.tuple #[]) ∧ RoPost x G (bs ++ be n v, 0) w w' := by
  have HR := hid h; clear h
  have Hb := hid hb; clear hb
  have hn0 : (0 : Int) ≤ n := by omega
  have hn1 : (n : Int) ≤ 8 := by omega
  go_enter Try.func61, Try.ntmps61
  go_wp2
  go_loopw [6] (fun kv wr => ∃ m : Nat, m ≤ n ∧ kv = .int .i64 ((m : Int) - 1) ∧ RoPost x G (bs ++ (be n v).take (n - m), 0) w wr) (fun kv _ => (RowKit.intOf kv + 1).toNat)
  case atStart => exact ⟨n, Nat.le_refl _, by go_num, by simpa using RoPost.refl HR.out⟩
  case round =>
    obtain ⟨m, hm, rfl, hP⟩ := hrel
    obtain ⟨G', hR, hT, hF⟩ := hP
    obtain ⟨va, r1, r2, r3, rG⟩ := hR
    have c0 : wr.cell? ⟨x, 0, none⟩ = some va := cell_of r1 0
    have c1 : wr.cell? ⟨x, 1, none⟩ = some (.int .i64 0) := cell_of r1 1
    have f0 : wr.frozen? ⟨x, 0, none⟩ = false := free_of r1 0
    have R1 := hid r1; have R2 := hid r2; have R3 := hid r3; have RG := hid rG; have HT := hid hT; have HF := hid hF
    clear r1 r2 r3 rG hT hF
    cases m with
    | succ j =>
      have ej : (((j + 1 : Nat) : Int) - 1) = (j : Int) := by omega
      rw [ej]
      have Hm := hid hm
      have hj7 : j < 8 := by omega
      have hj0 : (0 : Int) ≤ j := by omega
      clear hm ej
      go_upto_region 3 with fail
      have m1 : IntKind.i64.wrap (8 * (j : Int)) = 8 * (j : Int) := by rw [IntKind.wrap_i64]; omega
      have m2 : (0 : Int) ≤ 8 * (j : Int) := by omega
      have m3 : (8 * (j : Int)).toNat = 8 * j := by omega
      obtain ⟨i0, hi, hz0, hz1, hz2⟩ := info_parts Try.infoByte
      obtain ⟨cur, hcur⟩ : ∃ cur, cur = bs ++ (be n v).take (n - (j + 1)) := ⟨_, rfl⟩
      have hlen : cur.length ≤ 140737488355320 + 7 := by
        have := Hm.out; have := Hb.out
        rw [hcur, List.length_append, List.length_take, be_length]; omega
      have H1 := R1.out; have H2 := R2.out
      rw [← hcur] at H2
      simp only [] at H1 H2
      have K1 := hid H1; have K2 := hid H2; clear H1 H2
      have Hlen := hid hlen; clear hlen
      have hxl := lt_of_block K1.out
      obtain ⟨O, hO⟩ : ∃ O, O = Obj.cells #[Value.int IntKind.u8 (IntKind.u8.wrap ((v : Int) / 2 ^ (8 * j)))] tByte (0, 0) := ⟨_, rfl⟩
      have d0 : (wr.alloc O).cell? ⟨x, 0, none⟩ = some va := (World.cell?_of_block (a := ⟨x, 0, none⟩) (Below.heap_alloc wr O x hxl)).trans c0
      have d1 : (wr.alloc O).frozen? ⟨x, 0, none⟩ = false := (World.frozen?_of_block (a := ⟨x, 0, none⟩) (Below.heap_alloc wr O x hxl)).trans f0
      have D0 := hid d0; have D1 := hid d1; clear d0 d1
      have HO := hid hO; clear hO
      have HC := hid hcur; clear hcur
      go_region_law ((refine step_append_lies _ rfl (.tmp 24) (.tmp 30) 52 rfl 0 tByte i0 _ 1 1 Try.underlying52 hi hz0 hz1 hz2 rfl (by omega) va cur.length (byteCells cur) (by rfl) ((K2.out.alloc _).drew) ⟨wr.heap.size, 0, none⟩ 1 1 [Value.int IntKind.u8 (IntKind.u8.wrap ((v : Int) / 2 ^ (8 * j)))] (by rfl) (by rfl) (World.news_of_block (cs := #[Value.int IntKind.u8 (IntKind.u8.wrap ((v : Int) / 2 ^ (8 * j)))]) (t := tByte) (fr := (0, 0)) (heap_alloc_new wr _)) (by intro u hu; simp at hu; subst hu; rfl) (by omega) (by have := Hlen.out; unfold maxLen; omega) (by have := Hlen.out; omega) (by simp) (wr.heap.size + 1) (by simp) ?_); (intro gg cap w1 hown1 hgrow hat hlt); (have e0 : w1.cell? ⟨x, 0, none⟩ = some va := by (have := D0.out; rw [HO.out] at this; exact hgrow.cell this (fun e => R3.out e.symm))); (have e1 : w1.frozen? ⟨x, 0, none⟩ = false := by (have := D1.out; rw [HO.out] at this; exact (hgrow.frozen_far ⟨x, 0, none⟩ (by simpa using Nat.lt_succ_of_lt hxl) (fun e => R3.out e.symm)).trans this)))
      all_goals go_wp2
      all_goals
        refine ⟨⟨j, by have := Hm.out; omega, rfl, ?_⟩, by simp [RowKit.intOf]⟩
        have e : bs ++ List.take (n - j) (be n v) = cur ++ [UInt8.ofNat (v / 2 ^ (8 * j))] := by
          have hn2 := Hm.out
          rw [HC.out, show n - j = n - (j + 1) + 1 by omega, be_take n v (n - (j + 1)) (by omega), show n - 1 - (n - (j + 1)) = j by omega, List.append_assoc]
        have eb : IntKind.u8.wrap ((v : Int) / 2 ^ (8 * j)) = ((UInt8.ofNat (v / 2 ^ (8 * j))).toNat : Int) := by rw [byte_toNat, IntKind.wrap_u8]
        rw [e]
        rw [eb] at hown1
        exact ro_close K1.out R3.out RG.out HT.out HF.out hown1 ⟨hgrow.os, hgrow.tape, hgrow.output, hgrow.size, hgrow.block⟩ hat
    | zero =>
      clear hm
      go_wp2
      go_end0
      have e : bs ++ List.take (n - 0) (be n v) = bs ++ be n v := by rw [List.take_of_length_le (by rw [be_length]; omega)]
      refine ⟨rfl, G', ⟨va, R1.out, ?_, R3.out, RG.out⟩, HT.out, HF.out⟩
      have := R2.out
      rw [e] at this
      exact this

theorem roNum_st (x : Nat) (G : List Nat) (st : List UInt8 × Int) (n v : Nat) (w : World) (h : RoutIs w x G st) (hn : n ≤ 8) (hn1 : 1 ≤ n) (hb : st.1.length + 8 ≤ 140737488355328) :
    Calls Try.prog 61 #[.pointer (some ⟨x, 0, none⟩), .int .u64 v, .int .i64 n] w fun e w' => e = .returned (.tuple #[]) ∧ RoPost x G (pPut st (be n v)) w w' := by
  obtain ⟨bs, er⟩ := st
  by_cases he : er = 0
  · subst he
    exact roNum_good x G bs n v w h hn hb
  · have hs : pPut (bs, er) (be n v) = (bs, er) := by simp [pPut, he]
    rw [hs]
    have HR := hid h
    obtain ⟨va, h1, _, _, _⟩ := h
    have c1 : w.cell? ⟨x, 1, none⟩ = some (.int .i64 er) := cell_of h1 1
    have hb2 : (er == 0) = false := by simpa using he
    have hn0 : (1 : Int) ≤ n := by omega
    have hn2 : (n : Int) ≤ 8 := by omega
    clear h1 he hs hb
    go_enter Try.func61, Try.ntmps61
    go_wp2
    refine wp_loop_rounds 1 ?_
    rw [rounds_succ]
    go_wp2
    go_end0
    exact ⟨rfl, RoPost.refl HR.out⟩

end Go.Proofs.Ytmaainnfflapiaa
