/- ChunkTells, walked. -/
import Derived.Test.YtmaainnfflapiaaRfc10
import Derived.Test.YtmaainnfflapiaaAl10
import Derived.Test.YtmaainnfflapiaaApart
namespace Go.Proofs.Ytmaainnfflapiaa
open Go.RowKit Go.Lib Go.ChangeShapes Go.WideShapes
set_option maxRecDepth 100000

theorem Kept.touch {W W' : World} {kb base : Nat} {tv wv : Value} {vs us : List Value} {Ls : List (List ByteArray)} (h : Kept W kb base tv wv vs us Ls) (t : Touch [] W W') : Kept W' kb base tv wv vs us Ls :=
  ⟨touch_other t h.blk (by simp), h.ge, h.n1, h.n2, owns_touch h.own1 t, owns_touch h.own2 t, h.far, fun i h1 h2 => owns_touch (h.r1 i h1 h2) t, fun i h1 h2 => owns_touch (h.r2 i h1 h2) t, h.ap, h.sz, h.few⟩
theorem txt_svals (L : List (List UInt8)) : txtCells L = svals (L.map bytesT) := by unfold txtCells svals; rw [List.map_map]; rfl
theorem i64_range2 {x : Int} (h : (Lit.int .i64 x).wf = true) : -9223372036854775808 ≤ x ∧ x ≤ 9223372036854775807 := by
  have e1 : IntKind.i64.min = -9223372036854775808 := rfl
  have e2 : IntKind.i64.max = 9223372036854775807 := rfl
  simp only [Lit.wf, e1, e2, Bool.and_eq_true, decide_eq_true_eq] at h
  exact h
def ScanPost (N Z G E : Int) (D : Bool) (L : List ByteArray) (w : World) (e : Ending) (w' : World) : Prop :=
  ∃ y c, e = .returned (.tuple #[.agg #[.int .i64 N, .int .i64 Z, .slice y L.length c, .int .i64 G, .bool D], .int .i64 E]) ∧ w'.ownsRow w.heap.size TStr 1 (.slice y L.length c) L.length (svals L) ∧ Touch [] w w'
/-- What Read tells of bytes is fixed by them. -/
theorem read_fixed (l : List UInt8) : ∃ (N Z G E : Int) (D : Bool) (L : List ByteArray), (∀ t ∈ L, t.size ≤ 4000) ∧ 12 * L.length ≤ l.length ∧ ∀ w e w', ReadV l w e w' → ScanPost N Z G E D L w e w' := by
  by_cases h : ∃ n z, Begins l n z
  · obtain ⟨n, z, HB⟩ := h
    refine ⟨n, z, goodAt n (l.drop 33), 0, doneAt n (l.drop 33), (recOf (l.drop 33)).1.map bytesT, ?_, ?_, ?_⟩
    · intro t ht
      obtain ⟨d, hd, rfl⟩ := List.mem_map.1 ht
      rw [bytesT_size]
      exact recOf_small _ d hd
    · have := recOf_len (l.drop 33)
      rw [List.length_drop] at this
      rw [List.length_map]
      omega
    · intro w e w' hr
      obtain ⟨y, c, he, ho, t⟩ := readV_some HB hr
      refine ⟨y, c, ?_, ?_, t⟩
      · rw [List.length_map]; exact he
      · rw [List.length_map, ← txt_svals]; exact ho
  · refine ⟨0, 0, 0, 6, false, [], by simp, by simp, ?_⟩
    intro w e w' hr
    obtain ⟨he, t⟩ := readV_none (fun n z hb => h ⟨n, z, hb⟩) hr
    exact ⟨none, 0, he, World.ownsRow_nil _ _ _ _, t⟩
theorem startV_form (n z : Int) : ∃ X E, StartV n z = .tuple #[.string X, .int .i64 E] := by unfold StartV; split <;> exact ⟨_, _, rfl⟩
theorem finishV_form (n z : Int) : ∃ X E, FinishV n z = .tuple #[.string X, .int .i64 E] := by unfold FinishV; split <;> exact ⟨_, _, rfl⟩
theorem recordV_form (s : ByteArray) : ∃ X E, RecordV s = .tuple #[.string X, .int .i64 E] := by unfold RecordV; split <;> exact ⟨_, _, rfl⟩
/-- How it stands at the loop's head. -/
structure Tells10 (W wr : World) (kb xb : Nat) (N Z G : Int) (D : Bool) (yl : Option Addr) (cl : Nat) (L : List ByteArray) (k : Nat) : Prop where
  kept : ∃ tv wv vs us Ls, Kept wr kb kb tv wv vs us Ls ∧ Ls.length = k ∧ ∀ M ∈ Ls, M.length ≤ 3100
  own : ∃ bw, wr.ownsRow bw TStr 1 (.slice yl L.length cl) L.length (svals L)
  x : wr.heap[xb]? = some (.cells #[.int .i64 N, .int .i64 Z, .slice yl L.length cl, .int .i64 G, .bool D] tRSc (0, 0))
  ge : kb ≤ wr.heap.size
  t : Touch [] W wr
theorem ctells_long (n z c u : Int) (s b : ByteArray) (W : World) (h : (4200 : Int) < s.size ∨ ((s.size : Int) ≤ 4200 ∧ (8000 : Int) < b.size)) :
    Calls Try.prog 3 #[.int .i64 n, .int .i64 z, .int .i64 c, .int .i64 u, .string s, .string b] W fun e w' => e = .returned (.bool true) ∧ Touch [] W w' := by
  have AL := hid (fun w => alive10_true w)
  rcases h with h1 | ⟨h1, h2⟩
  all_goals
    go_enter Try.func3, Try.ntmps3
    go_wp2_with (go_at_call 7; refine (AL.out _).mono ?_; rintro e w1 ⟨rfl, t1⟩)
    go_ret
    exact ⟨rfl, t1⟩

set_option maxHeartbeats 8000000 in
theorem ctells_in (n z c u : Int) (wn : (Lit.int .i64 n).wf = true) (wz : (Lit.int .i64 z).wf = true) (wc : (Lit.int .i64 c).wf = true) (wu : (Lit.int .i64 u).wf = true) (s b : ByteArray) (W : World) (hs : (s.size : Int) ≤ 4200) (hb : (b.size : Int) ≤ 8000) :
    Calls Try.prog 3 #[.int .i64 n, .int .i64 z, .int .i64 c, .int .i64 u, .string s, .string b] W fun e w' => e = .returned (.bool true) ∧ Touch [] W w' := by
  have rn := i64_range2 wn
  have rz := i64_range2 wz
  have rc := i64_range2 wc
  have ru := i64_range2 wu
  have AL := hid (fun w => alive10_true w)
  have C1 := hid (fun w => start_any n z w rz.2)
  have C2 := hid (fun w => refStart_any n z w)
  have C3 := hid (fun w => record_any s w (by omega))
  have C4 := hid (fun w => refRecord_any s w (by omega))
  have C5 := hid (fun w => finish_any n c w rc.2)
  have C6 := hid (fun w => refFinish_any n c w rc.2)
  have R1 := hid (fun w => room_any z u w rz ru)
  have R2 := hid (fun w => refRoom_any z u w rz ru)
  obtain ⟨X1, E1, h1⟩ := startV_form n z
  obtain ⟨X2, E2, h2⟩ := recordV_form s
  obtain ⟨X3, E3, h3⟩ := finishV_form n c
  rw [h1] at C1 C2
  rw [h2] at C3 C4
  rw [h3] at C5 C6
  obtain ⟨N, Z, G, E, D, L, hL, hLl, hread⟩ := read_fixed b.data.toList
  have C7 := hid (fun w => (refChunk_any b w (by omega)).mono (hread w))
  have C8 := hid (fun w => (read_any b w (by omega)).mono (hread w))
  unfold ScanPost at C7 C8
  have HSZ : Hid (∀ t ∈ L, t.size ≤ 4000) := hid hL
  have HLN : Hid (L.length ≤ 700) := by
    rw [list_len] at hLl
    unfold Hid; omega
  generalize roomV z u = RV at *
  have q1 : (X1.toList == X1.toList) = true := by simp
  have q2 : (X2.toList == X2.toList) = true := by simp
  have q3 : (X3.toList == X3.toList) = true := by simp
  clear h1 h2 h3 hL hLl hread rn rz rc ru wn wz wc wu
  go_enter Try.func3, Try.ntmps3
  go_wp2_with (first
    | (go_at_call 8; refine (C1.out _).mono ?_; rintro e w1 ⟨rfl, t1⟩)
    | (go_at_call 9; refine (C2.out _).mono ?_; rintro e w2 ⟨rfl, t2⟩)
    | (go_at_call 10; refine (C3.out _).mono ?_; rintro e w3 ⟨rfl, t3⟩)
    | (go_at_call 11; refine (C4.out _).mono ?_; rintro e w4 ⟨rfl, t4⟩)
    | (go_at_call 12; refine (C5.out _).mono ?_; rintro e w5 ⟨rfl, t5⟩)
    | (go_at_call 13; refine (C6.out _).mono ?_; rintro e w6 ⟨rfl, t6⟩)
    | (go_at_call 14; refine (R1.out _).mono ?_; rintro e wa ⟨rfl, rfl⟩)
    | (go_at_call 15; refine (R2.out _).mono ?_; rintro e wb ⟨rfl, rfl⟩)
    | (go_at_call 16; refine (C7.out _).mono ?_; rintro e w7 ⟨yl, cl, rfl, h7, t7⟩))
  have T6 : Hid (Touch [] W w6) := ((((t1.trans t2 (by simp)).trans t3 (by simp)).trans t4 (by simp)).trans t5 (by simp)).trans t6 (by simp)
  have B1 := hid (touch_other t7 (heap_alloc_new w6 (.cells #[nilS, nilS, nilS, nilS, nilS, nilS, nilS, nilS, nilS, nilS, nilS, nilS] TBook)) (by simp))
  have T7 := hid (((T6.out.alloc _).trans t7 (by simp)).alloc (.cells #[.int .i64 N, .int .i64 Z, .slice yl L.length cl, .int .i64 G, .bool D] tRSc))
  have H7 := hid (owns_touch h7 ((Touch.refl [] w7).alloc (.cells #[.int .i64 N, .int .i64 Z, .slice yl L.length cl, .int .i64 G, .bool D] tRSc)))
  have B7 := hid (touch_other ((Touch.refl [] w7).alloc (.cells #[.int .i64 N, .int .i64 Z, .slice yl L.length cl, .int .i64 G, .bool D] tRSc)) B1.out (by simp))
  have R0 : Hid (Tells10 W (w7.alloc (.cells #[.int .i64 N, .int .i64 Z, .slice yl L.length cl, .int .i64 G, .bool D] tRSc)) w6.heap.size w7.heap.size N Z G D yl cl L 0) := hid ⟨⟨nilS, nilS, [], [], [], ⟨B7.out, Nat.le_refl _, rfl, rfl, World.ownsRow_nil _ _ _ _, World.ownsRow_nil _ _ _ _, far_nil _ _ _, fun i h => absurd h (Nat.not_lt_zero i), fun i h => absurd h (Nat.not_lt_zero i), by simp, by simp, Nat.zero_le _⟩, rfl, by simp⟩, ⟨_, H7.out⟩, heap_alloc_new w7 _, by have := t7.size; simp at this; simp; omega, T7.out⟩
  have HKB : Hid (W.heap.size ≤ w6.heap.size) := T6.out.size
  clear C1 C2 C3 C4 C5 C6 C7 R1 R2 t1 t2 t3 t4 t5 t6 h7 t7 B1 B7 H7 T6 T7 q1 q2 q3
  generalize hW8 : w7.alloc (.cells #[.int .i64 N, .int .i64 Z, .slice yl L.length cl, .int .i64 G, .bool D] 39) = W8 at *
  clear hW8
  generalize w6.heap.size = kb at *
  generalize w7.heap.size = xb at *
  go_loopw [28] (fun kv wr => ∃ k : Nat, k ≤ 2 ∧ kv = .int .i64 k ∧ Tells10 W wr kb xb N Z G D yl cl L k) (fun kv _ => 2 - (RowKit.intOf kv).toNat)
  case atStart => exact ⟨0, by omega, rfl, R0.out⟩
  case round =>
    obtain ⟨k, hk, rfl, hR⟩ := hrel
    have HR := hid hR
    clear hR R0
    by_cases hlt : k < 2
    · have hkI : (k : Int) < 2 := by omega
      have hk0 : (0 : Int) ≤ k := by omega
      obtain ⟨tv, wv, vs, us, Ls, hkept, hlen, hsm⟩ := HR.out.kept
      obtain ⟨bw, hown⟩ := HR.out.own
      have HKT := hid hkept
      have HLS := hid hlen
      have HSM := hid hsm
      have HOW := hid hown
      clear hkept hlen hsm hown
      go_wp2_with fail
      refine (C8.out _).mono ?_
      rintro e w3 ⟨y3, c3, rfl, ho3, t3⟩
      have O3 := hid (owns_touch ho3 ((Touch.refl [] w3).alloc (.cells #[.int .i64 N, .int .i64 Z, .slice y3 L.length c3, .int .i64 G, .bool D] 43)))
      have T3 := hid (t3.alloc (.cells #[.int .i64 N, .int .i64 Z, .slice y3 L.length c3, .int .i64 G, .bool D] 43))
      have Y3 := hid (heap_alloc_new w3 (.cells #[.int .i64 N, .int .i64 Z, .slice y3 L.length c3, .int .i64 G, .bool D] 43))
      have X3' := hid (touch_other T3.out HR.out.x (by simp))
      clear ho3 t3
      have TX := hid (texts_any kb kb tv wv vs us Ls (.slice y3 L.length c3) wr.heap.size L (w3.alloc (.cells #[.int .i64 N, .int .i64 Z, .slice y3 L.length c3, .int .i64 G, .bool D] 43)) (HKT.out.touch T3.out) O3.out HR.out.ge (fun u hu => by
        obtain ⟨n, xs, hr⟩ := HKT.out.row u hu
        exact far_new hr O3.out (Nat.le_refl _)) (by have := HLS.out; omega) ⟨by have := HLN.out; omega, fun x hx => by have := HSZ.out x hx; unfold maxLen; omega⟩ (by have := HR.out.ge; have := T3.out.size; omega))
      go_wp2_with fail
      refine TX.out.mono ?_
      rintro e w5 ⟨rfl, oth, new, tv', wv', u', hk5, _⟩
      have K5 := hid hk5
      have O5 := hid (oth.row O3.out)
      have L5 := hid (oth.row (owns_touch HOW.out T3.out))
      have T5 := hid (new W (HR.out.t.trans T3.out (by simp)) HKB.out)
      have X5 := hid (oth xb _ _ _ X3'.out (by decide) (by decide))
      obtain ⟨⟨z0, z1, z2, z3, z4⟩, y0, y1, y2, y3', y4⟩ := five (oth w3.heap.size _ _ _ Y3.out (by decide) (by decide))
      obtain ⟨⟨r0, r1, r2, r3, r4⟩, s0, s1, s2, s3, s4⟩ := five X5.out
      have HG5 : Hid (kb ≤ w5.heap.size) := by
        have := lt_of_block hk5.blk
        unfold Hid; omega
      clear oth new hk5 TX
      have S5 := hid (same_rows O5.out L5.out (fun x hx => by have := HSZ.out x hx; unfold maxLen; omega) (by have := HLN.out; omega))
      go_wp2_with fail
      refine S5.out.mono ?_
      rintro e w6' ⟨rfl, t6⟩
      have T6 := hid t6
      clear t6 S5
      go_wp2
      go_roundw
      case rel => exact ⟨k + 1, by omega, by go_num, ⟨⟨tv', wv', _, _, _, K5.out.touch T6.out, by simp; exact HLS.out, fun M hM => by
        rw [List.mem_append] at hM
        rcases hM with hM | hM
        · exact HSM.out M hM
        · simp at hM; subst hM; have := HLN.out; omega⟩, ⟨_, owns_touch L5.out T6.out⟩, touch_other T6.out X5.out (by simp), Nat.le_trans HG5.out T6.out.size, T5.out.trans T6.out (by simp)⟩⟩
      case measure => simp [RowKit.intOf]; omega
    · obtain rfl : k = 2 := by omega
      obtain ⟨tv, wv, vs, us, Ls, hkept, hlen, hsm⟩ := HR.out.kept
      have HKT := hid hkept
      have HSM := hid hsm
      clear hkept hlen hsm
      go_wp2_with fail
      refine (AL.out _).mono ?_
      rintro e w3 ⟨rfl, t3⟩
      have T3 := hid (HR.out.t.trans t3 (by simp))
      have AP := hid (apart_any kb kb tv wv vs us Ls w3 (HKT.out.touch t3) HSM.out (Nat.le_trans HR.out.ge t3.size))
      clear t3
      go_wp2_with fail
      refine AP.out.mono ?_
      rintro e w4 ⟨rfl, n4⟩
      have T4 := hid (n4 W T3.out HKB.out)
      clear n4 AP
      go_wp2
      go_ret
      exact ⟨rfl, T4.out⟩
theorem walk_ChunkTells (n : Int) (wn : (Lit.int .i64 n).wf = true) (z : Int) (wz : (Lit.int .i64 z).wf = true) (c : Int) (wc : (Lit.int .i64 c).wf = true) (u : Int) (wu : (Lit.int .i64 u).wf = true) (s : ByteArray) (_ws : s.size ≤ maxLen) (b : ByteArray) (_wb : b.size ≤ maxLen) (W : World) :
    Calls Try.prog 3 #[.int .i64 n, .int .i64 z, .int .i64 c, .int .i64 u, .string s, .string b] W fun e w' => e = .returned (.bool true) ∧ Touch [] W w' := by
  by_cases h1 : (s.size : Int) ≤ 4200
  · by_cases h2 : (b.size : Int) ≤ 8000
    · exact ctells_in n z c u wn wz wc wu s b W h1 h2
    · exact ctells_long n z c u s b W (.inr ⟨h1, by omega⟩)
  · exact ctells_long n z c u s b W (.inl (by omega))
end Go.Proofs.Ytmaainnfflapiaa
