/- The laws' own writer, carried on from call to call; lay. -/
import Derived.Test.YtcihnfgfficmlaaEv
import Derived.Test.YtcihnfgfficmlaaROutb
namespace Go.Proofs.Ytcihnfgfficmlaa
open Go.RowKit Go.Lib

theorem touch_cell {F : List Nat} {w w' : World} {a : Addr} {v : Value} (h : Touch F w w') (hv : w.cell? a = some v) (hn : a.block ∉ F) : w'.cell? a = some v := by
  rw [World.cell?_of_block (w := w) (a := a) (h.block a.block (World.block_lt_of_cell? w _ hv) hn)]
  exact hv
theorem EvAt.keep {F : List Nat} {W W' : World} {b off i : Nat} {e : EvD} (h : EvAt W b off i e) (t : Touch F W W') (hn : b ∉ F) : EvAt W' b off i e := ⟨touch_cell t h.c0 hn, touch_cell t h.c1 hn, touch_cell t h.c2 hn, touch_cell t h.c3 hn⟩

/-- An int as a uint64. -/
def u64 (v : Int) : Nat := (v % 18446744073709551616).toNat
theorem u64_wrap (v : Int) : IntKind.u64.wrap v = (u64 v : Int) := by rw [IntKind.wrap_u64]; unfold u64; omega

theorem RoPost.cell {x : Nat} {G : List Nat} {st : List UInt8 × Int} {w w' : World} {a : Addr} {v : Value} (h : RoPost x G st w w') (hv : w.cell? a = some v) (hn : a.block ∉ G) : w'.cell? a = some v := by
  obtain ⟨_, _, ht, _⟩ := h
  exact touch_cell ht hv hn
theorem RoPost.touch {x : Nat} {G : List Nat} {st : List UInt8 × Int} {w w1 w2 : World} (h : RoPost x G st w w1) (t : Touch [] w1 w2) : RoPost x G st w w2 := by
  obtain ⟨G', h1, h2, h3⟩ := h
  exact ⟨G', h1.keep t (by simp), h2.trans t (by simp), h3⟩
theorem roNum_up {x : Nat} {G : List Nat} {st : List UInt8 × Int} {w0 w : World} (n v : Nat) (h : RoPost x G st w0 w) (hn : n ≤ 8) (hn1 : 1 ≤ n) (hb : st.1.length ≤ 1000000) :
    Calls Try.prog 43 #[.pointer (some ⟨x, 0, none⟩), .int .u64 v, .int .i64 n] w fun e w' => e = .returned (.tuple #[]) ∧ RoPost x G (pPut st (be n v)) w0 w' := by
  obtain ⟨G', h1, h2, h3⟩ := h
  exact (roNum_st x G' st n v w h1 hn hn1 (by omega)).mono fun e w' ⟨he, hp⟩ => ⟨he, hp.up h2 h3⟩
theorem roText_up {x : Nat} {G : List Nat} {st : List UInt8 × Int} {w0 w : World} (s : ByteArray) (h : RoPost x G st w0 w) (hb : st.1.length ≤ 1000000) :
    Calls Try.prog 44 #[.pointer (some ⟨x, 0, none⟩), .string s] w fun e w' => e = .returned (.tuple #[]) ∧ RoPost x G (pText st s.data.toList) w0 w' := by
  obtain ⟨G', h1, h2, h3⟩ := h
  exact (roText_st x G' st s w h1 (by omega)).mono fun e w' ⟨he, hp⟩ => ⟨he, hp.up h2 h3⟩
theorem roFloat_up {x : Nat} {G : List Nat} {st : List UInt8 × Int} {w0 w : World} (b : Nat) (h : RoPost x G st w0 w) (hb : st.1.length ≤ 1000000) :
    Calls Try.prog 73 #[.pointer (some ⟨x, 0, none⟩), .float .f64 b] w fun e w' => e = .returned (.tuple #[]) ∧ RoPost x G (pPut st (be 8 (canon b))) w0 w' := by
  obtain ⟨G', h1, h2, h3⟩ := h
  exact (roFloat_st x G' st b w h1 (by omega)).mono fun e w' ⟨he, hp⟩ => ⟨he, hp.up h2 h3⟩

/-! ### The bytes of an event -/
theorem pPut_ok (bs s : List UInt8) : pPut (bs, 0) s = (bs ++ s, 0) := by simp [pPut]
theorem pText_ok (bs s : List UInt8) (h : s.length ≤ 65536) : pText (bs, 0) s = (bs ++ (be 4 s.length ++ s), 0) := by
  unfold pText
  rw [if_neg (by omega), pPut_ok, pPut_ok, List.append_assoc]
def txtB (s : ByteArray) : List UInt8 := be 4 s.size ++ s.data.toList
theorem txtB_len (s : ByteArray) : (txtB s).length = 4 + s.size := by unfold txtB; rw [List.length_append, be_length, list_len]
theorem pText_txt (bs : List UInt8) (s : ByteArray) (h : s.size ≤ 65536) : pText (bs, 0) s.data.toList = (bs ++ txtB s, 0) := by
  rw [pText_ok _ _ (by rw [list_len]; exact h), list_len]; rfl
def layE (e : EvD) : List UInt8 := be 8 (u64 e.id) ++ txtB e.typ ++ txtB e.data ++ be 8 (canon e.val)
theorem layE_len (e : EvD) : (layE e).length = 24 + e.typ.size + e.data.size := by
  unfold layE
  simp only [List.length_append, be_length, txtB_len]
  omega

set_option maxRecDepth 100000 in
theorem refLay_st (x : Nat) (G : List Nat) (bs : List UInt8) (e : EvD) (w : World) (h : RoutIs w x G (bs, 0)) (hb : bs.length ≤ 100000) (ht : e.typ.size ≤ 60) (hd : e.data.size ≤ 200) :
    Calls Try.prog 45 #[.pointer (some ⟨x, 0, none⟩), e.agg] w fun r w' => r = .returned (.tuple #[]) ∧ RoPost x G (bs ++ layE e, 0) w w' := by
  have hlt := h.lt
  obtain ⟨i, t, d, v⟩ := e
  unfold EvD.agg layE
  simp only [] at ht hd ⊢
  obtain ⟨w1, hw1⟩ : ∃ w1, w1 = w.alloc (.cells #[.int .i64 i, .string t, .string d, .float .f64 v] tEv) := ⟨_, rfl⟩
  have P0 : Hid (RoPost x G (bs, 0) w1 w1) := RoPost.refl (by rw [hw1]; exact h.keep ((Touch.refl [] w).alloc _) (by simp))
  have hbx : w.heap.size ∉ G := fun hm => by have := hlt _ hm; omega
  have c0 : w1.cell? ⟨w.heap.size, 0, none⟩ = some (.int .i64 i) := by rw [hw1]; exact cell_of (heap_alloc_new w _) 0
  have c1 : w1.cell? ⟨w.heap.size, 1, none⟩ = some (.string t) := by rw [hw1]; exact cell_of (heap_alloc_new w _) 1
  have c2 : w1.cell? ⟨w.heap.size, 2, none⟩ = some (.string d) := by rw [hw1]; exact cell_of (heap_alloc_new w _) 2
  have c3 : w1.cell? ⟨w.heap.size, 3, none⟩ = some (.float .f64 v) := by rw [hw1]; exact cell_of (heap_alloc_new w _) 3
  have T1 : Hid (Touch [] w w1) := by rw [hw1]; exact hid ((Touch.refl [] w).alloc _)
  have hu := u64_wrap i
  have HBX := hid hbx
  have K1 := hid c1; have K2 := hid c2; have K3 := hid c3
  clear h hlt hbx c1 c2 c3
  go_enter Try.func45, Try.ntmps45
  go_upto_region 1 with fail
  simp only [tEv] at hw1
  rw [← hw1]
  clear hw1
  go_wp2_with fail
  refine (roNum_up 8 (u64 i) P0.out (by decide) (by decide) (by simp only []; omega)).mono ?_
  rintro e w2 ⟨rfl, P1⟩
  rw [pPut_ok] at P1
  have d1 := P1.cell K1.out HBX.out
  have Q1 := hid P1
  clear P1 c0
  go_wp2_with fail
  refine (roText_up t Q1.out (by simp only [List.length_append, be_length]; omega)).mono ?_
  rintro e w3 ⟨rfl, P2⟩
  rw [pText_txt _ _ (by omega)] at P2
  have d2 := P2.cell K2.out HBX.out
  have Q2 := hid P2
  clear P2 d1
  go_wp2_with fail
  refine (roText_up d Q2.out (by simp only [List.length_append, be_length, txtB_len]; omega)).mono ?_
  rintro e w4 ⟨rfl, P3⟩
  rw [pText_txt _ _ (by omega)] at P3
  have d3 := P3.cell K3.out HBX.out
  have Q3 := hid P3
  clear P3 d2
  go_wp2_with fail
  refine (roFloat_up v Q3.out (by simp only [List.length_append, be_length, txtB_len]; omega)).mono ?_
  rintro e w5 ⟨rfl, P4⟩
  rw [pPut_ok] at P4
  have Q4 := hid P4
  clear P4 d3
  go_wp2
  go_end0
  refine ⟨rfl, ?_⟩
  rw [show bs ++ (be 8 (u64 i) ++ txtB t ++ txtB d ++ be 8 (canon v)) = bs ++ be 8 (u64 i) ++ txtB t ++ txtB d ++ be 8 (canon v) by simp only [List.append_assoc]]
  exact Q4.out.up (T1.out.mono (by simp)) fun f hf => .inl hf
end Go.Proofs.Ytcihnfgfficmlaa
