/- A table's bytes: Build. -/
import Derived.Test.YtdjcpdlfapfmkaaGreatFit13
import Derived.Test.YtdjcpdlfapfmkaaGreatFloat
import Derived.Test.YtdjcpdlfapfmkaaGreatOut
import Derived.Test.YtdjcpdlfapfmkaaGreatInb
import Derived.Test.YtdjcpdlfapfmkaaGreatChk
import Derived.Deep.RegionHeld3
namespace Go.Proofs.YtdjcpdlfapfmkaaGreat
open Go.RowKit Go.Lib
set_option maxRecDepth 100000

theorem touch_cellF {F : List Nat} {w w' : World} (h : Touch F w w') {a : Addr} {v : Value} (hv : w.cell? a = some v) (hn : a.block ∉ F) : w'.cell? a = some v := by
  rw [World.cell?_of_block (w := w) (a := a) (h.block a.block (World.block_lt_of_cell? w _ hv) hn)]
  exact hv
theorem StPost.cell {o : Nat} {F : List Nat} {st : List UInt8 × Int} {w w' : World} {a : Addr} {v : Value} (h : StPost o F st w w') (hv : w.cell? a = some v) (hn : a.block ∉ F) : w'.cell? a = some v := by
  obtain ⟨_, _, ht, _⟩ := h
  exact touch_cellF ht hv hn
theorem StPost.touch {o : Nat} {F : List Nat} {st : List UInt8 × Int} {w w1 w2 : World} (h : StPost o F st w w1) (t : Touch [] w1 w2) : StPost o F st w w2 := by
  obtain ⟨F', h1, h2, h3⟩ := h
  exact ⟨F', h1.keep t (by simp), h2.trans t (by simp), h3⟩
theorem StPost.refl {o : Nat} {F : List Nat} {st : List UInt8 × Int} {w : World} (h : OutIs w o F st) : StPost o F st w w := ⟨F, h, Touch.refl _ _, fun _ hf => .inl hf⟩
theorem OutIs.lt {w : World} {o : Nat} {F : List Nat} {bs : List UInt8} (h : OutIs w o F (bs, 0)) : ∀ f ∈ F, f < w.heap.size := by
  rcases h with ⟨_, h⟩ | ⟨⟨h, _⟩, _⟩
  · exact h.lt
  · exact absurd rfl h
theorem drewN_tch (w : World) (n : Nat) : Touch [] w (w.drewN n) := (Touch.refl [] w).drewN n
theorem pPut_ok (bs s : List UInt8) : pPut (bs, 0) s = (bs ++ s, 0) := by simp [pPut]
theorem i64_up {o : Nat} {F : List Nat} {bs : List UInt8} {w0 w w1 : World} (v : Int) (h : StPost o F (bs, 0) w0 w) (t : Touch [] w w1) (hb : bs.length ≤ 1000000) :
    Calls Tryz.prog 33 #[.pointer (some ⟨o, 0, none⟩), .int .i64 v] w1 fun e w' => e = .returned (.pointer (some ⟨o, 0, none⟩)) ∧ StPost o F (bs ++ be 8 (wordOf v), 0) w0 w' := by
  obtain ⟨F', h1, h2, h3⟩ := h.touch t
  refine (i64_st o F' (bs, 0) v w1 h1 (by simp only []; omega)).mono fun e w' ⟨he, hp⟩ => ⟨he, ?_⟩
  rw [pPut_ok] at hp
  exact hp.up h2 h3
theorem out_new (w : World) : OutIs (w.alloc (.cells #[.pointer none, .int .i64 0, .int .i64 0] tOut)) w.heap.size [w.heap.size] ([], 0) := .inl ⟨rfl, .inl ⟨heap_alloc_new w _, rfl, rfl⟩⟩

/-- An entry's bytes; entries'. -/
def enB (e : En) : List UInt8 := be 8 (wordOf e.1) ++ (be 8 (wordOf e.2.1) ++ be 8 (wordOf e.2.2))
def ensB : List En → List UInt8
  | [] => []
  | e :: l => enB e ++ ensB l
theorem enB_len (e : En) : (enB e).length = 24 := by simp [enB, be_length]
theorem ensB_len (l : List En) : (ensB l).length = 24 * l.length := by
  induction l with
  | nil => rfl
  | cons e l ih => simp only [ensB, List.length_append, enB_len, ih, List.length_cons]; omega
theorem ensB_append (l m : List En) : ensB (l ++ m) = ensB l ++ ensB m := by
  induction l with
  | nil => rfl
  | cons e l ih => simp [ensB, ih]
theorem ensB_take {l : List En} {k : Nat} (h : k < l.length) : ensB (l.take (k + 1)) = ensB (l.take k) ++ enB l[k] := by
  rw [List.take_succ_eq_append_getElem h, ensB_append]
  simp [ensB]
/-- What is sealed. -/
def laidT (l : List En) : ByteArray := ⟨(be 4 l.length ++ ensB l).toArray⟩
def ptab : ByteArray := ⟨#[80, 84, 65, 66]⟩
def tabT (l : List En) : ByteArray := ptab ++ laidT l
theorem laidT_size (l : List En) : (laidT l).size = 4 + 24 * l.length := by
  rw [← list_len]
  simp [laidT, be_length, ensB_len]
theorem tabT_size (l : List En) : (tabT l).size = 8 + 24 * l.length := by
  unfold tabT
  rw [ByteArray.size_append, laidT_size, show ptab.size = 4 from rfl]
  omega
/-- What Build tells. -/
def buildV (l : List En) : Value := if fitE l then .tuple #[.string (sealed (tabT l)), .int .i64 0] else .tuple #[.string ⟨#[]⟩, .int .i64 1]

set_option maxHeartbeats 4000000 in
theorem build_any (x : Option Addr) (c : Nat) (l : List En) (w : World) (hx : EntX w x l) (hlen : l.length ≤ 4000) :
    Calls Tryz.prog 8 #[.slice x l.length c] w fun e w' => e = .returned (buildV l) ∧ Touch [] w w' := by
  have FA := hid (fit_any x c l w hx (by omega))
  have HX := hid hx
  clear hx
  by_cases hf : fitE l
  · have hfb : decide (fitE l) = true := by simpa using hf
    have hV : Hid (buildV l = .tuple #[.string (sealed (tabT l)), .int .i64 0]) := hid (if_pos hf)
    rw [hfb] at FA
    clear hfb hf
    go_enter Tryz.func8, Tryz.ntmps8
    go_wp2_with fail
    refine FA.out.mono ?_
    rintro r w1 ⟨rfl, t1⟩
    have T1 := hid t1
    clear t1 FA
    go_wp2_with fail
    obtain ⟨W0, hW0⟩ : ∃ W0, W0 = w1.alloc (.cells #[.pointer none, .int .i64 0, .int .i64 0] tOut) := ⟨_, rfl⟩
    have R := hid (out_new w1)
    rw [← hW0] at R
    have T2 : Hid (Touch [] w W0) := hid (by rw [hW0]; exact T1.out.alloc _)
    have hob : Hid (w.heap.size ≤ w1.heap.size) := hid T1.out.size
    rw [← hW0]
    obtain ⟨o, ho⟩ : ∃ o, o = w1.heap.size := ⟨_, rfl⟩
    rw [← ho] at R hob ⊢
    clear hW0 ho T1
    have U := hid (u32_st o [o] ([], 0) l.length W0 R.out (by decide))
    rw [show pSmall 4 ([], 0) (l.length : Int) = (be 4 l.length, 0) by unfold pSmall; rw [if_neg (by omega)]; simp [pPut]] at U
    refine U.out.mono ?_
    rintro r w2 ⟨rfl, p2⟩
    have P2 := hid p2
    clear p2 U
    go_wp2_with fail
    go_loopw [17] (fun iv wr => ∃ k : Nat, k ≤ l.length ∧ iv = .int .i64 k ∧ Hid (StPost o [o] (be 4 l.length ++ ensB (l.take k), 0) W0 wr)) (fun iv _ => l.length - (RowKit.intOf iv).toNat)
    case atStart => exact ⟨0, Nat.zero_le _, rfl, hid (by simpa [ensB] using P2.out)⟩
    case round =>
      obtain ⟨k, hk, rfl, PR⟩ := hrel
      by_cases hlt : k < l.length
      · have hlt2 : decide (k < l.length) = true := by simpa using hlt
        have hI : (k : Int) < l.length := by omega
        obtain ⟨b, off, hxx, g0, g1, g2⟩ := HX.out k hlt
        subst hxx
        have ET := hid (ensB_take hlt)
        have hbo : b ∉ [o] := by
          have h1 := World.block_lt_of_cell? _ _ g0
          have h2 := hob.out
          simp at h1 ⊢
          omega
        have e0 := PR.out.cell (T2.out.cell g0) hbo
        have e1 := PR.out.cell (T2.out.cell g1) hbo
        have e2 := PR.out.cell (T2.out.cell g2) hbo
        have BL := hid (show (be 4 l.length ++ ensB (l.take k)).length ≤ 100000 by rw [List.length_append, be_length, ensB_len, List.length_take]; omega)
        clear g0 g1 g2 hbo
        generalize l[k] = s at *
        go_upto_region 8 with fail
        obtain ⟨F', o', t', f'⟩ := PR.out
        have hbx : wr.heap.size ∉ F' := fun hm => by have := o'.lt _ hm; omega
        obtain ⟨w3, hw3⟩ : ∃ w3, w3 = wr.alloc (.cells #[.int .i64 s.1, .int .i64 s.2.1, .int .i64 s.2.2] TEn) := ⟨_, rfl⟩
        have P0 : Hid (StPost o F' (be 4 l.length ++ ensB (l.take k), 0) w3 w3) := hid (StPost.refl (by rw [hw3]; exact o'.keep ((Touch.refl [] wr).alloc _) (by simp)))
        have FIN := hid fun (st : List UInt8 × Int) (w' : World) (p : StPost o F' st w3 w') => p.up (show Touch [o] W0 w3 by rw [hw3]; exact t'.alloc _) f'
        obtain ⟨c0, c1, c2⟩ := (show EnB w3 wr.heap.size s by rw [hw3]; exact heap_alloc_new wr _).c
        rw [← hw3]
        clear hw3 e0 e1 e2 o' t' f'
        generalize wr.heap.size = bx at *
        have KK := hid fun (st : List UInt8 × Int) (w' : World) (p : StPost o F' st w3 w') => (⟨p.cell c0 hbx, p.cell c1 hbx, p.cell c2 hbx⟩ : w'.cell? ⟨bx, 0, none⟩ = some (.int .i64 s.1) ∧ w'.cell? ⟨bx, 1, none⟩ = some (.int .i64 s.2.1) ∧ w'.cell? ⟨bx, 2, none⟩ = some (.int .i64 s.2.2))
        have hBL := BL.out
        have I1 := hid fun (W : World) (g : Touch [] w3 W) => i64_up s.1 P0.out g (by omega)
        have I2 := hid fun (U W : World) (p : StPost o F' (be 4 l.length ++ ensB (l.take k) ++ be 8 (wordOf s.1), 0) w3 U) (g : Touch [] U W) => i64_up s.2.1 p g (by rw [List.length_append, be_length]; omega)
        have I3 := hid fun (U W : World) (p : StPost o F' (be 4 l.length ++ ensB (l.take k) ++ be 8 (wordOf s.1) ++ be 8 (wordOf s.2.1), 0) w3 U) (g : Touch [] U W) => i64_up s.2.2 p g (by rw [List.length_append, List.length_append, be_length, be_length]; omega)
        have EE : Hid (be 4 l.length ++ ensB (l.take k) ++ be 8 (wordOf s.1) ++ be 8 (wordOf s.2.1) ++ be 8 (wordOf s.2.2) = be 4 l.length ++ ensB (l.take (k + 1))) := hid (by rw [ET.out]; simp [enB])
        generalize be 4 l.length ++ ensB (l.take k) ++ be 8 (wordOf s.1) ++ be 8 (wordOf s.2.1) ++ be 8 (wordOf s.2.2) = b3 at *
        generalize be 4 l.length ++ ensB (l.take k) ++ be 8 (wordOf s.1) ++ be 8 (wordOf s.2.1) = b2 at *
        generalize be 4 l.length ++ ensB (l.take k) ++ be 8 (wordOf s.1) = b1 at *
        clear hBL hbx ET PR
        go_region_held3 (fun w' => w'.cell? ⟨bx, 0, none⟩ = some (.int .i64 s.1) ∧ w'.cell? ⟨bx, 1, none⟩ = some (.int .i64 s.2.1) ∧ w'.cell? ⟨bx, 2, none⟩ = some (.int .i64 s.2.2))
          (first | go_keep | exact KK.out _ _ (by assumption))
          (first
            | (go_at_call 33; with_reducible refine (I1.out _ ?_).mono ?_; (first | exact Touch.refl _ _ | exact drewN_tch _ _ | exact (Touch.refl _ _).drew); rintro e w3 ⟨rfl, p1⟩)
            | (go_at_call 33; with_reducible refine (I2.out _ _ p1 ?_).mono ?_; (first | exact Touch.refl _ _ | exact drewN_tch _ _ | exact (Touch.refl _ _).drew); rintro e w4 ⟨rfl, p2⟩)
            | (go_at_call 33; with_reducible refine (I3.out _ _ p2 ?_).mono ?_; (first | exact Touch.refl _ _ | exact drewN_tch _ _ | exact (Touch.refl _ _).drew); rintro e w5 ⟨rfl, p3⟩))
        have Q3 := hid (FIN.out _ _ p3)
        rw [EE.out] at Q3
        clear p1 p2 p3 I1 I2 I3 KK c0 c1 c2 FIN P0
        go_wp2
        go_roundw
        case rel => exact ⟨k + 1, by omega, by go_num, Q3⟩
        case measure => simp [RowKit.intOf]; omega
      · obtain rfl : k = l.length := by omega
        rw [List.take_length] at PR
        clear P2
        obtain ⟨F', o', t', f'⟩ := PR.out
        have D := hid (done_st o F' (be 4 l.length ++ ensB l, 0) wr o')
        rw [show pDone (be 4 l.length ++ ensB l, 0) = .tuple #[.string (laidT l), .int .i64 0] from by unfold pDone laidT; simp] at D
        have T3 := hid (T2.out.trans t' (fun f hf => .inr (by have := hob.out; simp at hf; omega)))
        have SL := hid fun w' => seal_any (tabT l) w' (by rw [tabT_size]; omega)
        have hbd : ¬ 9223372036854775807 < ptab.size + (laidT l).size := by rw [laidT_size, show ptab.size = 4 from rfl]; omega
        have HTT : Hid (tabT l = ptab ++ laidT l) := hid rfl
        rw [HTT.out] at SL hV
        clear o' t' f' PR
        generalize laidT l = z at *
        go_wp2_with fail
        refine D.out.mono ?_
        rintro r w4 ⟨rfl, n4, rfl⟩
        clear D
        go_wp2_with fail
        refine (SL.out _).mono ?_
        rintro r w5 ⟨rfl, t5⟩
        have T5 := hid t5
        clear SL t5
        go_wp2
        go_ret2
        exact ⟨by rw [hV.out]; rfl, (T3.out.drewN n4).trans T5.out (by simp)⟩
  · have hfb : decide (fitE l) = false := by simpa using hf
    have hV : Hid (buildV l = .tuple #[.string ⟨#[]⟩, .int .i64 1]) := hid (if_neg hf)
    rw [hfb] at FA
    clear hfb hf
    go_enter Tryz.func8, Tryz.ntmps8
    go_wp2_with fail
    refine FA.out.mono ?_
    rintro r w1 ⟨rfl, t1⟩
    have T1 := hid t1
    clear t1 FA
    go_wp2
    go_ret2
    exact ⟨by rw [hV.out]; rfl, T1.out⟩
end Go.Proofs.YtdjcpdlfapfmkaaGreat
