/- Links, walked. -/
import Derived.Test.YtmgglmoiepjebaaLnk16
namespace Go.Proofs.Ytmgglmoiepjebaa
open Go.RowKit Go.Lib Go.ChangeShapes Go.WideShapes Go.Shelf
set_option maxRecDepth 100000

set_option maxHeartbeats 8000000 in
theorem links_any (R : Value) (look : Int → ByteArray → Option StoD) (x : Option Addr) (c : Nat) (l : List StoD) (W : World) (hl : l.length ≤ 1000) (hX : StoX W x l) (hS : ∀ s ∈ l, Good s)
    (hA : ∀ v t W', Touch [] W W' → Calls Try.prog 35 #[R, .int .i64 v, .string t] W' fun e w' => e = .returned (fdV (look v t)) ∧ Touch [] W' w')
    (hOk : ∀ v t x, look v t = some x → x.typ.size ≤ 281474976710656 ∧ x.data.size ≤ 281474976710656 ∧ x.stream.size ≤ 281474976710656) :
    Calls Try.prog 11 #[.slice x l.length c, R] W fun e w' => ∃ y cap, e = .returned (.slice y l.length cap) ∧
      w'.ownsRow W.heap.size TSto 8 (.slice y l.length cap) l.length (stoVals ((l.map canS).map (resolveV look))) ∧ Touch [] W w' := by
  obtain ⟨i0, z0, hi, hz0, hz1, hz2, hz3⟩ := info_sto
  have hsf := store_flt
  have HX := hid hX
  have HS := hid (fun (k : Nat) (h : k < l.length) => hS l[k] (List.getElem_mem h))
  have HA := hid hA
  have HO := hid hOk
  have HL := hid hl
  have hlI : (l.length : Int) ≤ 1000 := by omega
  obtain ⟨L, hLd⟩ : ∃ L, L = l.map canS := ⟨_, rfl⟩
  rw [← hLd]
  have HL2 := hid (show L.length = l.length by rw [hLd]; simp)
  have HS2 := hid (fun (k : Nat) (h : k < L.length) => show L[k].data.size ≤ 281474976710656 by
    subst hLd
    have h' : k < l.length := by simpa using h
    have := (HS.out k h').2.2.1
    rw [List.getElem_map]
    show l[k].data.size ≤ _
    omega)
  have HLd := hid hLd
  clear hX hS hA hOk hl hLd
  go_enter Try.func11, Try.ntmps11
  go_wp2_with fail
  go_loopw [5, 12] (fun rv iv wr => ∃ k : Nat, k ≤ l.length ∧ iv = .int .i64 k ∧ Hid (wr.ownsRow W.heap.size TSto 8 rv k (stoVals ((l.take k).map canS))) ∧ Hid (Touch [] W wr)) (fun _ iv _ => l.length - (RowKit.intOf iv).toNat)
  case atStart => exact ⟨0, Nat.zero_le _, rfl, hid (World.ownsRow_nil _ _ _ _), hid (Touch.refl _ _)⟩
  case round =>
    obtain ⟨k, hk, rfl, hO, hT⟩ := hrel
    by_cases hlt : k < l.length
    · obtain ⟨b, off, rfl, g1, g2⟩ := (HX.out.touch hT.out) k hlt
      obtain ⟨a0, a1, a2, a3, a4, a5, a6, a7⟩ := g1
      have hl2 : decide (k < l.length) = true := by simpa using hlt
      have hkI : (k : Int) < l.length := by omega
      have hk0 : (0 : Int) ≤ k := by omega
      have hkB := hid (show k ≤ 1000 by omega)
      have gd := HS.out k hlt
      have HF := hid (fun w => fresh_any l[k] (by have := gd.2.1; omega) (by have := gd.2.2.1; omega) (by have := gd.2.2.2; omega) w)
      have hstep : Hid (stoVals ((l.take k).map canS) ++ (canS l[k]).list = stoVals ((l.take (k + 1)).map canS)) := hid (by rw [stoVals_snoc, List.take_succ_eq_append_getElem hlt, List.map_append]; rfl)
      clear g2 gd
      obtain ⟨y, cap, rfl, -, -⟩ := slice_form hO.out
      generalize canS l[k] = cs at *
      generalize l[k] = s at *
      obtain ⟨c0, c1, c2, c3, c4, c5, c6, c7⟩ := cs
      obtain ⟨sid, styp, sdata, svalue, sstream, sversion, sposition, stime⟩ := s
      simp only at a0 a1 a2 a3 a4 a5 a6 a7
      go_wp2_with (first
        | (go_at_call 19; refine (HF.out _).mono ?_; rintro e w5 ⟨rfl, t5⟩; have T5 := hid (((Touch.refl [] wr).alloc _).trans t5 (by simp)); clear t5)
        | (at_builtin; go_loud (refine wpList_append_own _ rfl (.tmp 16) (.tmp 19) 22 rfl W.heap.size TSto i0 z0 8 88 Try.underlying22 hi hz0 hz1 hz2 hz3 (by decide) (.slice y k cap) k (stoVals ((l.take k).map canS)) rfl ((owns_touch hO.out T5.out).alloc _) ⟨w5.heap.size, 0, none⟩ 1 1 (StoD.list ⟨c0, c1, c2, c3, c4, c5, c6, c7⟩) rfl rfl (World.news_of_block (cs := (StoD.list ⟨c0, c1, c2, c3, c4, c5, c6, c7⟩).toArray) (t := TSto) (fr := (0, 0)) (heap_alloc_new w5 _)) (by intro u hu; simp [StoD.list] at hu; rcases hu with rfl | rfl | rfl | rfl | rfl | rfl | rfl | rfl <;> rfl) (by have := hkB.out; unfold maxLen; omega) (by have := hkB.out; omega) (by have h1 := hT.out.size; have h2 := T5.out.size; simp; omega) ?_); intro v2 w2 hown2 hg2 _; have O2 := hid hown2; have T2 := hid (((hT.out.trans (T5.out.alloc _) (by simp))).grown hg2 (fun k hk => .inr (own_row hO.out k hk))); clear hown2 hg2))
      go_roundw
      case rel => exact ⟨k + 1, by omega, by go_num, hid (by rw [← hstep.out]; exact O2.out), T2⟩
      case measure => simp [RowKit.intOf]; omega
    · obtain rfl : k = l.length := by omega
      have hl2 : decide (l.length < l.length) = false := by simp
      obtain ⟨y, cap, rfl, hy0, hy1⟩ := slice_form hO.out
      rw [List.take_of_length_le (Nat.le_refl _)] at hO
      rw [← HLd.out] at hO
      clear HLd HS HX
      have hO2 : Hid (wr.ownsRow W.heap.size TSto 8 (.slice y l.length cap) l.length (stoVals ((L.take 0).map (resolveV look) ++ L.drop 0))) := by simpa using hO
      clear hO
      go_upto_region 8 with fail
      go_loopw [24] (fun iv wr => ∃ k : Nat, k ≤ l.length ∧ iv = .int .i64 k ∧ Hid (wr.ownsRow W.heap.size TSto 8 (.slice y l.length cap) l.length (stoVals ((L.take k).map (resolveV look) ++ L.drop k))) ∧ Hid (Touch [] W wr)) (fun iv _ => l.length - (RowKit.intOf iv).toNat)
      case atStart => exact ⟨0, Nat.zero_le _, rfl, hO2, hT⟩
      case round =>
        clear hT hO2
        obtain ⟨k, hk, rfl, hO, hT⟩ := hrel
        by_cases hlt : k < l.length
        · have hkL : k < L.length := by have := HL2.out; omega
          have hy : y ≠ none := fun e => by have := (hy0 e).2; omega
          obtain ⟨a, rfl⟩ := Option.ne_none_iff_exists'.1 hy
          obtain ⟨b, off, nn⟩ := a
          obtain rfl : nn = none := by obtain ⟨g, hg⟩ := hy1 _ rfl; cases hg; rfl
          have hl2 : decide (k < l.length) = true := by simpa using hlt
          have hkI : (k : Int) < l.length := by omega
          have hk0 : (0 : Int) ≤ k := by omega
          have RE := hid (fun (W' : World) (t : Touch [] wr W') => row_elt (owns_touch hO.out t) (mix_at (f := resolveV look) hkL))
          have RF := hid (fun (W' : World) (t : Touch [] wr W') => row_free (owns_touch hO.out t))
          have RP := hid (fun (W' : World) (t : Touch [] wr W') => by
            have q := row_put (owns_touch hO.out t) (by have := HL2.out; simp; omega) (k := k) (by simp; omega) (resolveV look L[k])
            rw [mix_set hkL] at q
            exact q)
          have RB := hid (row_base hO.out)
          have HR := hid (fun (W' : World) (t : Touch [] W W') => resolve_any R look L[k] W' (HS2.out k hkL) (fun v t2 W'' h => HA.out v t2 W'' (t.trans h (by simp))) HO.out)
          obtain ⟨a0, a1, a2, a3, a4, a5, a6, a7⟩ := RE.out wr (Touch.refl _ _)
          clear hO hy hy0 hy1
          generalize resolveV look L[k] = rs at *
          generalize L[k] = s at *
          obtain ⟨c0, c1, c2, c3, c4, c5, c6, c7⟩ := rs
          obtain ⟨sid, styp, sdata, svalue, sstream, sversion, sposition, stime⟩ := s
          simp only at a0 a1 a2 a3 a4 a5 a6 a7
          go_wp2_with (go_at_call 20; refine (HR.out _ (hT.out.alloc _)).mono ?_; rintro e w5 ⟨rfl, t5⟩; have T5 := hid (((Touch.refl [] wr).alloc _).trans t5 (by simp)); clear t5; obtain ⟨d0, d1, d2, d3, d4, d5, d6, d7⟩ := RE.out w5 T5.out; have f0 := RF.out w5 T5.out (off + k * 8); have f1 := RF.out w5 T5.out (off + k * 8 + 1); have f2 := RF.out w5 T5.out (off + k * 8 + 2); have f3 := RF.out w5 T5.out (off + k * 8 + 3); have f4 := RF.out w5 T5.out (off + k * 8 + 4); have f5 := RF.out w5 T5.out (off + k * 8 + 5); have f6 := RF.out w5 T5.out (off + k * 8 + 6); have f7 := RF.out w5 T5.out (off + k * 8 + 7))
          have q1 := RP.out w5 T5.out
          have q2 := setR_touch (b := b) (o := off + k * 8) (s := ⟨c0, c1, c2, c3, c4, c5, c6, c7⟩) (hT.out.trans T5.out (by simp)) (.inr RB.out)
          simp only [setR] at q1 q2
          exact ⟨⟨k + 1, by omega, rfl, hid q1, hid q2⟩, by simp [RowKit.intOf]; omega⟩
        · obtain rfl : k = l.length := by omega
          have hl2 : decide (l.length < l.length) = false := by simp
          have q : wr.ownsRow W.heap.size TSto 8 (.slice y l.length cap) l.length (stoVals (L.map (resolveV look))) := by
            have q := hO.out
            rw [← HL2.out, List.take_of_length_le (Nat.le_refl _), List.drop_of_length_le (Nat.le_refl _), List.append_nil, HL2.out] at q
            exact q
          have Q := hid q
          clear q hO
          go_wp2
          go_ret
          exact ⟨y, cap, rfl, Q.out, hT.out⟩

end Go.Proofs.Ytmgglmoiepjebaa
