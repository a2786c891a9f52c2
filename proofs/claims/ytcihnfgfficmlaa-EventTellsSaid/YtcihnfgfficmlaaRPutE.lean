/- event's putEvent: an event behind what was put. -/
import Derived.Test.YtcihnfgfficmlaaRChke
import Derived.Test.YtcihnfgfficmlaaLay7
import Derived.Deep.RegionHeld3
namespace Go.Proofs.Ytcihnfgfficmlaa
open Go.RowKit Go.Lib
set_option maxRecDepth 100000

theorem drewN_tch (w : World) (n : Nat) : Touch [] w (w.drewN n) := (Touch.refl [] w).drewN n
theorem StPost.cell {o : Nat} {F : List Nat} {st : List UInt8 × Int} {w w' : World} {a : Addr} {v : Value} (h : StPost o F st w w') (hv : w.cell? a = some v) (hn : a.block ∉ F) : w'.cell? a = some v := by
  obtain ⟨_, _, ht, _⟩ := h
  exact touch_cell ht hv hn
theorem StPost.touch {o : Nat} {F : List Nat} {st : List UInt8 × Int} {w w1 w2 : World} (h : StPost o F st w w1) (t : Touch [] w1 w2) : StPost o F st w w2 := by
  obtain ⟨F', h1, h2, h3⟩ := h
  exact ⟨F', h1.keep t (by simp), h2.trans t (by simp), h3⟩
theorem StPost.refl {o : Nat} {F : List Nat} {st : List UInt8 × Int} {w : World} (h : OutIs w o F st) : StPost o F st w w := ⟨F, h, Touch.refl _ _, fun _ hf => .inl hf⟩
theorem OutIs.lt {w : World} {o : Nat} {F : List Nat} {bs : List UInt8} (h : OutIs w o F (bs, 0)) : ∀ f ∈ F, f < w.heap.size := by
  rcases h with ⟨_, h⟩ | ⟨⟨h, _⟩, _⟩
  · exact h.lt
  · exact absurd rfl h
theorem i64_up {o : Nat} {F : List Nat} {bs : List UInt8} {w0 w w1 : World} (v : Int) (h : StPost o F (bs, 0) w0 w) (t : Touch [] w w1) (hb : bs.length ≤ 1000000) :
    Calls Try.prog 39 #[.pointer (some ⟨o, 0, none⟩), .int .i64 v] w1 fun e w' => e = .returned (.pointer (some ⟨o, 0, none⟩)) ∧ StPost o F (bs ++ be 8 (u64 v), 0) w0 w' := by
  obtain ⟨F', h1, h2, h3⟩ := h.touch t
  refine (i64_st o F' (bs, 0) v w1 h1 (by simp only []; omega)).mono fun e w' ⟨he, hp⟩ => ⟨he, ?_⟩
  rw [pPut_ok] at hp
  exact hp.up h2 h3
theorem f64_up {o : Nat} {F : List Nat} {bs : List UInt8} {w0 w w1 : World} (b : Nat) (h : StPost o F (bs, 0) w0 w) (t : Touch [] w w1) (hb : bs.length ≤ 1000000) :
    Calls Try.prog 70 #[.pointer (some ⟨o, 0, none⟩), .float .f64 b] w1 fun e w' => e = .returned (.pointer (some ⟨o, 0, none⟩)) ∧ StPost o F (bs ++ be 8 (canon b), 0) w0 w' := by
  obtain ⟨F', h1, h2, h3⟩ := h.touch t
  refine (f64_st o F' (bs, 0) b w1 h1 (by simp only []; omega)).mono fun e w' ⟨he, hp⟩ => ⟨he, ?_⟩
  rw [pPut_ok] at hp
  exact hp.up h2 h3
theorem text_up {o : Nat} {F : List Nat} {bs : List UInt8} {w0 w w1 : World} (s : ByteArray) (h : StPost o F (bs, 0) w0 w) (t : Touch [] w w1) (hb : bs.length ≤ 1000000) (hs : s.size ≤ 65536) :
    Calls Try.prog 40 #[.pointer (some ⟨o, 0, none⟩), .string s] w1 fun e w' => e = .returned (.pointer (some ⟨o, 0, none⟩)) ∧ StPost o F (bs ++ txtB s, 0) w0 w' := by
  obtain ⟨F', h1, h2, h3⟩ := h.touch t
  refine (text_st o F' (bs, 0) s w1 h1 (by simp only []; omega)).mono fun e w' ⟨he, hp⟩ => ⟨he, ?_⟩
  rw [pText_txt _ _ hs] at hp
  exact hp.up h2 h3
theorem u8_up {o : Nat} {F : List Nat} {bs : List UInt8} {w0 w w1 : World} (v : Int) (h : StPost o F (bs, 0) w0 w) (t : Touch [] w w1) (hb : bs.length ≤ 1000000) (h0 : 0 ≤ v) (h1 : v < 256) :
    Calls Try.prog 38 #[.pointer (some ⟨o, 0, none⟩), .int .i64 v] w1 fun e w' => e = .returned (.pointer (some ⟨o, 0, none⟩)) ∧ StPost o F (bs ++ be 1 (u64 v), 0) w0 w' := by
  obtain ⟨F', g1, g2, g3⟩ := h.touch t
  refine (u8_st o F' (bs, 0) v w1 g1 (by simp only []; omega)).mono fun e w' ⟨he, hp⟩ => ⟨he, ?_⟩
  unfold pSmall at hp
  rw [if_neg (by simp; omega), pPut_ok] at hp
  rw [show u64 v = v.toNat by unfold u64; omega]
  exact hp.up g2 g3

theorem putEv_st (o : Nat) (F : List Nat) (bs : List UInt8) (e : EvD) (w : World) (h : OutIs w o F (bs, 0)) (hb : bs.length ≤ 100000) (ht : e.typ.size ≤ 60) (hd : e.data.size ≤ 200) :
    Calls Try.prog 41 #[.pointer (some ⟨o, 0, none⟩), e.agg] w fun r w' => r = .returned (.tuple #[]) ∧ StPost o F (bs ++ layE e, 0) w w' := by
  have hlt := h.lt
  obtain ⟨i, t, d, v⟩ := e
  unfold EvD.agg layE
  simp only [] at ht hd ⊢
  obtain ⟨w1, hw1⟩ : ∃ w1, w1 = w.alloc (.cells #[.int .i64 i, .string t, .string d, .float .f64 v] tEv) := ⟨_, rfl⟩
  have P0 : Hid (StPost o F (bs, 0) w1 w1) := StPost.refl (by rw [hw1]; exact h.keep ((Touch.refl [] w).alloc _) (by simp))
  have hbx : w.heap.size ∉ F := fun hm => by have := hlt _ hm; omega
  have c0 : w1.cell? ⟨w.heap.size, 0, none⟩ = some (.int .i64 i) := by rw [hw1]; exact cell_of (heap_alloc_new w _) 0
  have c1 : w1.cell? ⟨w.heap.size, 1, none⟩ = some (.string t) := by rw [hw1]; exact cell_of (heap_alloc_new w _) 1
  have c2 : w1.cell? ⟨w.heap.size, 2, none⟩ = some (.string d) := by rw [hw1]; exact cell_of (heap_alloc_new w _) 2
  have c3 : w1.cell? ⟨w.heap.size, 3, none⟩ = some (.float .f64 v) := by rw [hw1]; exact cell_of (heap_alloc_new w _) 3
  have T1 : Hid (Touch [] w w1) := by rw [hw1]; exact hid ((Touch.refl [] w).alloc _)
  generalize hbb : w.heap.size = bx at *
  have K := hid fun (st : List UInt8 × Int) (w' : World) (p : StPost o F st w1 w') => (⟨p.cell c0 hbx, p.cell c1 hbx, p.cell c2 hbx, p.cell c3 hbx⟩ : w'.cell? ⟨bx, 0, none⟩ = some (.int .i64 i) ∧ w'.cell? ⟨bx, 1, none⟩ = some (.string t) ∧ w'.cell? ⟨bx, 2, none⟩ = some (.string d) ∧ w'.cell? ⟨bx, 3, none⟩ = some (.float .f64 v))
  have I1 := hid fun (W : World) (g : Touch [] w1 W) => i64_up i P0.out g (by omega)
  have I2 := hid fun (U W : World) (p : StPost o F (bs ++ be 8 (u64 i), 0) w1 U) (g : Touch [] U W) => text_up t p g (by simp only [List.length_append, be_length]; omega) (by omega)
  have I3 := hid fun (U W : World) (p : StPost o F (bs ++ be 8 (u64 i) ++ txtB t, 0) w1 U) (g : Touch [] U W) => text_up d p g (by simp only [List.length_append, be_length, txtB_len]; omega) (by omega)
  have I4 := hid fun (U W : World) (p : StPost o F (bs ++ be 8 (u64 i) ++ txtB t ++ txtB d, 0) w1 U) (g : Touch [] U W) => f64_up v p g (by simp only [List.length_append, be_length, txtB_len]; omega)
  rw [show bs ++ (be 8 (u64 i) ++ txtB t ++ txtB d ++ be 8 (canon v)) = bs ++ be 8 (u64 i) ++ txtB t ++ txtB d ++ be 8 (canon v) by simp only [List.append_assoc]]
  generalize bs ++ be 8 (u64 i) ++ txtB t ++ txtB d ++ be 8 (canon v) = b4 at *
  generalize bs ++ be 8 (u64 i) ++ txtB t ++ txtB d = b3 at *
  generalize bs ++ be 8 (u64 i) ++ txtB t = b2 at *
  generalize bs ++ be 8 (u64 i) = b1 at *
  clear h hlt hb ht hd hbx P0
  have HBB := hid hbb
  subst hbb
  go_enter Try.func41, Try.ntmps41
  go_upto_region 1 with fail
  simp only [tEv] at hw1
  rw [← hw1]
  clear hw1
  go_region_held3 (fun w' => w'.cell? ⟨w.heap.size, 0, none⟩ = some (.int .i64 i) ∧ w'.cell? ⟨w.heap.size, 1, none⟩ = some (.string t) ∧ w'.cell? ⟨w.heap.size, 2, none⟩ = some (.string d) ∧ w'.cell? ⟨w.heap.size, 3, none⟩ = some (.float .f64 v))
    (first | go_keep | exact K.out _ _ (by assumption))
    (first
      | (go_at_call 39; with_reducible refine (I1.out _ ?_).mono ?_; (first | exact Touch.refl _ _ | exact drewN_tch _ _ | exact (Touch.refl _ _).drew); rintro e w3 ⟨rfl, p1⟩)
      | (go_at_call 40; with_reducible refine (I2.out _ _ p1 ?_).mono ?_; (first | exact Touch.refl _ _ | exact drewN_tch _ _ | exact (Touch.refl _ _).drew); rintro e w4 ⟨rfl, p2⟩)
      | (go_at_call 40; with_reducible refine (I3.out _ _ p2 ?_).mono ?_; (first | exact Touch.refl _ _ | exact drewN_tch _ _ | exact (Touch.refl _ _).drew); rintro e w5 ⟨rfl, p3⟩)
      | (go_at_call 70; with_reducible refine (I4.out _ _ p3 ?_).mono ?_; (first | exact Touch.refl _ _ | exact drewN_tch _ _ | exact (Touch.refl _ _).drew); rintro e w6 ⟨rfl, p4⟩))
  have Q4 := hid p4
  clear p1 p2 p3 p4 I1 I2 I3 I4 K c0 c1 c2 c3
  go_wp2
  go_end0
  exact ⟨rfl, Q4.out.up (T1.out.mono (by simp)) fun f hf => .inl hf⟩
end Go.Proofs.Ytcihnfgfficmlaa
