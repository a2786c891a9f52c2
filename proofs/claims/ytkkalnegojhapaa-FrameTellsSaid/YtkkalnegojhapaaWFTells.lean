/- FrameTells, walked. -/
import Derived.Test.YtkkalnegojhapaaFrm8
import Derived.Test.YtkkalnegojhapaaFrn8
import Derived.Test.YtkkalnegojhapaaApart
namespace Go.Proofs.Ytkkalnegojhapaa
open Go.RowKit Go.Lib Go.ChangeShapes Go.WideShapes
set_option maxRecDepth 100000

theorem Kept.touch {W W' : World} {kb base : Nat} {tv wv : Value} {vs us : List Value} {Ls : List (List ByteArray)} (h : Kept W kb base tv wv vs us Ls) (t : Touch [] W W') : Kept W' kb base tv wv vs us Ls :=
  ⟨touch_other t h.blk (by simp), h.ge, h.n1, h.n2, owns_touch h.own1 t, owns_touch h.own2 t, h.far, fun i h1 h2 => owns_touch (h.r1 i h1 h2) t, fun i h1 h2 => owns_touch (h.r2 i h1 h2) t, h.ap, h.sz, h.few⟩
theorem txt_svals (L : List (List UInt8)) : txtCells L = svals (L.map bytesT) := by unfold txtCells svals; rw [List.map_map]; rfl
def AllPostS (L : List ByteArray) (K : Int) (w : World) (e : Ending) (w' : World) : Prop :=
  ∃ y c, e = .returned (.tuple #[.slice y L.length c, .int .i64 K]) ∧ w'.ownsRow w.heap.size TStr 1 (.slice y L.length c) L.length (svals L) ∧ Touch [] w w'
theorem all8 {b : ByteArray} {w : World} {e : Ending} {w' : World} (h : AllPost b w e w') : AllPostS ((allOf b.data.toList).1.map bytesT) (allOf b.data.toList).2 w e w' := by
  obtain ⟨v, rfl, ho, t⟩ := h
  rw [txt_svals] at ho
  have hn : (allOf b.data.toList).1.length = ((allOf b.data.toList).1.map bytesT).length := by simp
  rw [hn] at ho
  obtain ⟨y, c, rfl, _, _⟩ := slice_form ho
  exact ⟨y, c, rfl, ho, t⟩
/-- How it stands at the loop's head. -/
structure Tells8 (W wr : World) (kb : Nat) (yl : Option Addr) (cl : Nat) (L : List ByteArray) (k : Nat) : Prop where
  kept : ∃ tv wv vs us Ls, Kept wr kb kb tv wv vs us Ls ∧ Ls.length = k ∧ ∀ M ∈ Ls, M.length ≤ 3100
  own : ∃ bw, wr.ownsRow bw TStr 1 (.slice yl L.length cl) L.length (svals L)
  ge : kb ≤ wr.heap.size
  t : Touch [] W wr
theorem tells8_long (s b : ByteArray) (W : World) (h : (4200 : Int) < s.size ∨ ((s.size : Int) ≤ 4200 ∧ (6000 : Int) < b.size)) :
    Calls Try.prog 3 #[.string s, .string b] W fun e w' => e = .returned (.bool true) ∧ Touch [] W w' := by
  have AL := hid (fun w => alive8_true w)
  rcases h with h1 | ⟨h1, h2⟩
  all_goals
    go_enter Try.func3, Try.ntmps3
    go_wp2_with (go_at_call 8; refine (AL.out _).mono ?_; rintro e w1 ⟨rfl, t1⟩)
    go_ret
    exact ⟨rfl, t1⟩

set_option maxHeartbeats 8000000 in
theorem tells8_in (s b : ByteArray) (W : World) (hs : (s.size : Int) ≤ 4200) (hb : (b.size : Int) ≤ 6000) :
    Calls Try.prog 3 #[.string s, .string b] W fun e w' => e = .returned (.bool true) ∧ Touch [] W w' := by
  have AL := hid (fun w => alive8_true w)
  have C1 := hid (fun w => frPut_any s w (by omega))
  have C2 := hid (fun w => refFrame_any s w (by omega))
  have C3 := hid (fun w => frFirst_any b w (by omega))
  have C4 := hid (fun w => refFirst_any b w (by omega))
  have C5 := hid (fun w => frLast_any b w (by omega))
  have C6 := hid (fun w => refLast_any b w (by omega))
  have C7 := hid (fun w => (refFrames_any b w (by omega)).mono fun e w' h => all8 h)
  have C8 := hid (fun w => (frAll_any b w (by omega)).mono fun e w' h => all8 h)
  have HSZ : Hid (∀ t ∈ (allOf b.data.toList).1.map bytesT, t.size ≤ 4000) := fun t ht => by
    obtain ⟨d, hd, rfl⟩ := List.mem_map.1 ht
    rw [← list_len]
    have := allOf_small _ d hd
    simpa [bytesT] using this
  have HLN : Hid (((allOf b.data.toList).1.map bytesT).length ≤ 500) := by
    have := allOf_len b.data.toList
    rw [list_len] at this
    unfold Hid
    rw [List.length_map]
    omega
  unfold FirstV at C3 C4
  unfold LastV at C5 C6
  unfold AllPostS at C7 C8
  generalize (allOf b.data.toList).1.map bytesT = L at *
  generalize ((allOf b.data.toList).2 : Int) = K at *
  generalize frB s = X at *
  generalize frE s = E at *
  generalize firstOf b.data.toList = R1 at *
  generalize lastOf b.data.toList = R2 at *
  generalize bytesT R1.1 = X1 at *
  generalize bytesT R2.1 = X2 at *
  have q0 : (X.toList == X.toList) = true := by simp
  have q1 : (X1.toList == X1.toList) = true := by simp
  have q2 : (X2.toList == X2.toList) = true := by simp
  go_enter Try.func3, Try.ntmps3
  go_wp2_with (first
    | (go_at_call 9; refine (C1.out _).mono ?_; rintro e w1 ⟨rfl, t1⟩)
    | (go_at_call 10; refine (C2.out _).mono ?_; rintro e w2 ⟨rfl, t2⟩)
    | (go_at_call 11; refine (C3.out _).mono ?_; rintro e w3 ⟨rfl, t3⟩)
    | (go_at_call 12; refine (C4.out _).mono ?_; rintro e w4 ⟨rfl, t4⟩)
    | (go_at_call 13; refine (C5.out _).mono ?_; rintro e w5 ⟨rfl, t5⟩)
    | (go_at_call 14; refine (C6.out _).mono ?_; rintro e w6 ⟨rfl, t6⟩)
    | (go_at_call 15; refine (C7.out _).mono ?_; rintro e w7 ⟨yl, cl, rfl, h7, t7⟩))
  have T6 : Hid (Touch [] W w6) := ((((t1.trans t2 (by simp)).trans t3 (by simp)).trans t4 (by simp)).trans t5 (by simp)).trans t6 (by simp)
  have B1 := hid (touch_other t7 (heap_alloc_new w6 (.cells #[nilS, nilS, nilS, nilS, nilS, nilS, nilS, nilS, nilS, nilS, nilS, nilS] TBook)) (by simp))
  have R0 : Hid (Tells8 W w7 w6.heap.size yl cl L 0) := hid ⟨⟨nilS, nilS, [], [], [], ⟨B1.out, Nat.le_refl _, rfl, rfl, World.ownsRow_nil _ _ _ _, World.ownsRow_nil _ _ _ _, far_nil _ _ _, fun i h => absurd h (Nat.not_lt_zero i), fun i h => absurd h (Nat.not_lt_zero i), by simp, by simp, Nat.zero_le _⟩, rfl, by simp⟩, ⟨_, h7⟩, by have := t7.size; simp at this; omega, (T6.out.alloc _).trans t7 (by simp)⟩
  have HKB : Hid (W.heap.size ≤ w6.heap.size) := T6.out.size
  clear C1 C2 C3 C4 C5 C6 C7 t1 t2 t3 t4 t5 t6 h7 t7 B1 T6 q0 q1 q2
  generalize w6.heap.size = kb at *
  go_loopw [24] (fun kv wr => ∃ k : Nat, k ≤ 2 ∧ kv = .int .i64 k ∧ Tells8 W wr kb yl cl L k) (fun kv _ => 2 - (RowKit.intOf kv).toNat)
  case atStart => exact ⟨0, by omega, rfl, R0.out⟩
  case round =>
    obtain ⟨k, hk, rfl, hR⟩ := hrel
    have HR := hid hR
    clear hR R0
    by_cases hlt : k < 2
    · have hkI : (k : Int) < 2 := by omega
      have hk0 : (0 : Int) ≤ k := by omega
      obtain ⟨tv, wv, vs, us, Ls, hkept, hlen, hsm⟩ := HR.out.kept
      obtain ⟨bw, hown⟩ := HR.out.own
      have HKT := hid hkept
      have HLS := hid hlen
      have HSM := hid hsm
      have HOW := hid hown
      clear hkept hlen hsm hown
      go_wp2_with fail
      refine (C8.out _).mono ?_
      rintro e w3 ⟨y3, c3, rfl, ho3, t3⟩
      have O3 := hid ho3
      have T3 := hid t3
      clear ho3 t3
      have TX := hid (texts_any kb kb tv wv vs us Ls (.slice y3 L.length c3) wr.heap.size L w3 (HKT.out.touch T3.out) O3.out HR.out.ge (fun u hu => by
        obtain ⟨n, xs, hr⟩ := HKT.out.row u hu
        exact far_new hr O3.out (Nat.le_refl _)) (by have := HLS.out; omega) ⟨by have := HLN.out; omega, fun x hx => by have := HSZ.out x hx; unfold maxLen; omega⟩ (by have := HR.out.ge; have := T3.out.size; omega))
      go_wp2_with fail
      refine TX.out.mono ?_
      rintro e w5 ⟨rfl, oth, new, tv', wv', u', hk5, _⟩
      have K5 := hid hk5
      have O5 := hid (oth.row O3.out)
      have L5 := hid (oth.row (owns_touch HOW.out T3.out))
      have T5 := hid (new W (HR.out.t.trans T3.out (by simp)) HKB.out)
      have HG5 : Hid (kb ≤ w5.heap.size) := by
        have := lt_of_block hk5.blk
        unfold Hid; omega
      clear oth new hk5 TX
      have S5 := hid (same_rows O5.out L5.out (fun x hx => by have := HSZ.out x hx; unfold maxLen; omega) (by have := HLN.out; omega))
      go_wp2_with fail
      refine S5.out.mono ?_
      rintro e w6' ⟨rfl, t6⟩
      have T6 := hid t6
      clear t6 S5
      go_wp2
      go_roundw
      case rel => exact ⟨k + 1, by omega, by go_num, ⟨⟨tv', wv', _, _, _, K5.out.touch T6.out, by simp; exact HLS.out, fun M hM => by
        rw [List.mem_append] at hM
        rcases hM with hM | hM
        · exact HSM.out M hM
        · simp at hM; subst hM; have := HLN.out; omega⟩, ⟨_, owns_touch L5.out T6.out⟩, Nat.le_trans HG5.out T6.out.size, T5.out.trans T6.out (by simp)⟩⟩
      case measure => simp [RowKit.intOf]; omega
    · obtain rfl : k = 2 := by omega
      obtain ⟨tv, wv, vs, us, Ls, hkept, hlen, hsm⟩ := HR.out.kept
      have HKT := hid hkept
      have HSM := hid hsm
      clear hkept hlen hsm
      go_wp2_with fail
      refine (AL.out _).mono ?_
      rintro e w3 ⟨rfl, t3⟩
      have T3 := hid (HR.out.t.trans t3 (by simp))
      have AP := hid (apart_any kb kb tv wv vs us Ls w3 (HKT.out.touch t3) HSM.out (Nat.le_trans HR.out.ge t3.size))
      clear t3
      go_wp2_with fail
      refine AP.out.mono ?_
      rintro e w4 ⟨rfl, n4⟩
      have T4 := hid (n4 W T3.out HKB.out)
      clear n4 AP
      go_wp2
      go_ret
      exact ⟨rfl, T4.out⟩
theorem walk_FrameTells (s : ByteArray) (_ws : s.size ≤ maxLen) (b : ByteArray) (_wb : b.size ≤ maxLen) (W : World) :
    Calls Try.prog 3 #[.string s, .string b] W fun e w' => e = .returned (.bool true) ∧ Touch [] W w' := by
  by_cases h1 : (s.size : Int) ≤ 4200
  · by_cases h2 : (b.size : Int) ≤ 6000
    · exact tells8_in s b W h1 h2
    · exact tells8_long s b W (.inr ⟨h1, by omega⟩)
  · exact tells8_long s b W (.inl (by omega))
end Go.Proofs.Ytkkalnegojhapaa
