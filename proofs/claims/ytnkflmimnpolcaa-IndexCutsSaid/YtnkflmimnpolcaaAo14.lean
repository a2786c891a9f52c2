/- Add. -/
import Derived.Test.YtnkflmimnpolcaaSt14
namespace Go.Proofs.Ytnkflmimnpolcaa
open Go.RowKit Go.Lib Go.Shelf
set_option maxRecDepth 100000

theorem step_call_g {P : Program} (w : World) {ops : Array Oper} {o : Oper} {a : Act} {K : Act → World → Prop} {Q : Exit → Act → World → Prop} {E : Prop} {f : FuncId} {args : Array Value} {R : Ending → World → Prop} (hw : Region.wanted o (yielded ops a.tmps) = true)
    (hop : (execOp a.eval o).run P w = .ok (.enter f args) w) (hc : Calls P f args w R) (h : ∀ e w', R e w' → ∃ v, e = .returned v ∧ K (a.put o.dst v) w') :
    if Region.wanted o (yielded ops a.tmps) = true then Oper.wp P o a w K Q else E := by
  rw [if_pos hw]
  unfold Oper.wp
  rw [hop, Oper.upon_enter]
  exact hc.mono fun e w' hR => by obtain ⟨v, rfl, hK⟩ := h e w' hR; exact hK
/-- Where an index stands behind k of the entries handed in. -/
structure AddI (w : World) (xb room most : Nat) (S0 : List En) (M0 : Nat) (C0 : List Nat) (l : List En) (k n : Nat) (wr : World) : Prop where
  cn : n = (addAll S0 (l.take k)).length - S0.length
  st : IxS wr xb room most (addAll S0 (l.take k)) (itC room most (M0, C0) n).1 (itC room most (M0, C0) n).2
  ok : OkS (addAll S0 (l.take k)) (itC room most (M0, C0) n).2
  t : Touch [xb] w wr
  le : n ≤ k
theorem AddI.next {w wr w' : World} {xb room most : Nat} {S0 : List En} {M0 : Nat} {C0 : List Nat} {l : List En} {k n : Nat} (h : AddI w xb room most S0 M0 C0 l k n wr) (hk : k < l.length) (he : put1 (addAll S0 (l.take k)) l[k] = addAll S0 (l.take k))
    (st : IxS w' xb room most (addAll S0 (l.take k)) (itC room most (M0, C0) n).1 (itC room most (M0, C0) n).2) (t : Touch [xb] w w') : AddI w xb room most S0 M0 C0 l (k + 1) n w' := by
  have e : addAll S0 (l.take (k + 1)) = addAll S0 (l.take k) := by rw [List.take_succ_eq_append_getElem hk, addAll_snoc, he]
  exact ⟨by rw [e]; exact h.cn, by rw [e]; exact st, by rw [e]; exact h.ok, t, Nat.le_succ_of_le h.le⟩
theorem put1_ok {S : List En} (h : ∀ e ∈ S, okE e ∧ wfE e) {a : En} (ha : wfE a) : ∀ e ∈ put1 S a, okE e ∧ wfE e := fun e he => by
  rcases (mem_put1 S a e).1 he with h1 | ⟨rfl, h1⟩
  · exact h e h1
  · exact ⟨h1, ha⟩
theorem AddI.new {w wr w' : World} {xb room most : Nat} {S0 : List En} {M0 : Nat} {C0 : List Nat} {l : List En} {k n : Nat} (h : AddI w xb room most S0 M0 C0 l k n wr) (hs : SortedE S0) (hk : k < l.length) (hwf : ∀ e ∈ l, wfE e) (hlen : S0.length + l.length ≤ 100000) (hC : C0.length + l.length ≤ 50000)
    (he : (put1 (addAll S0 (l.take k)) l[k]).length = (addAll S0 (l.take k)).length + 1)
    (st : IxS w' xb room most (put1 (addAll S0 (l.take k)) l[k]) (stepC room most (itC room most (M0, C0) n)).1 (stepC room most (itC room most (M0, C0) n)).2) (t : Touch [xb] w w') : AddI w xb room most S0 M0 C0 l (k + 1) (n + 1) w' := by
  have e : addAll S0 (l.take (k + 1)) = put1 (addAll S0 (l.take k)) l[k] := by rw [List.take_succ_eq_append_getElem hk, addAll_snoc]
  have h1 := (addAll_len (l.take k) hs).1
  have h2 := (addAll_len (l.take (k + 1)) hs).2
  have h3 : (l.take (k + 1)).length ≤ l.length := by rw [List.length_take]; omega
  have h4 := itC_len room most (M0, C0) (n + 1)
  have h5 := h.le
  refine ⟨?_, by rw [e]; exact st, ⟨by rw [e]; exact sorted_put1 h.ok.s _, by rw [e]; exact put1_ok h.ok.ok (hwf _ (List.getElem_mem hk)), by omega, ?_⟩, t, by omega⟩
  · rw [e, he, h.cn]; omega
  · show (itC room most (M0, C0) (n + 1)).2.length ≤ 50000
    have : ((M0, C0) : Nat × List Nat).2.length = C0.length := rfl
    omega
set_option maxHeartbeats 4000000 in
theorem add14_any {w : World} {xb room most : Nat} {S : List En} {M : Nat} {C : List Nat} (h : IxS w xb room most S M C) (hS : OkS S C) (x : Option Addr) (c : Nat) (l : List En) (hE : ∀ w', Touch [xb] w w' → EntX w' x l) (hwf : ∀ e ∈ l, wfE e) (hlen : S.length + l.length ≤ 100000) (hC : C.length + l.length ≤ 50000) :
    Calls Try.prog 10 #[.pointer (some ⟨xb, 0, none⟩), .slice x l.length c] w fun e w' => ∃ n, e = .returned (.int .i64 (n : Nat)) ∧ AddI w xb room most S M C l l.length n w' := by
  obtain ⟨T, L, hI, -⟩ := h.ex
  have CM := hid (made_any hI)
  have A0 : Hid (AddI w xb room most S M C l 0 0 w) := hid ⟨by simp [addAll], by simpa [addAll, itC] using h, by simpa [addAll, itC] using hS, Touch.refl _ _, Nat.le_refl _⟩
  have HE := hid hE
  have HW := hid hwf
  have hs := hid hS.s
  clear hI h hE hwf hS
  go_enter Try.func10, Try.ntmps10
  go_wp2_with (go_at_call 28; refine CM.out.mono ?_; rintro e w1 ⟨rfl, h⟩; have h := h.symm; subst h)
  go_loopw [5, 13] (fun nv iv wr => ∃ k n : Nat, k ≤ l.length ∧ iv = .int .i64 k ∧ nv = .int .i64 n ∧ AddI w xb room most S M C l k n wr) (fun _ iv _ => l.length - (RowKit.intOf iv).toNat)
  case atStart => exact ⟨0, 0, Nat.zero_le _, rfl, rfl, A0.out⟩
  case round =>
    obtain ⟨k, n, hk, rfl, rfl, A⟩ := hrel
    have hnk := A.le
    by_cases hlt : k < l.length
    · have hlt2 : decide (k < l.length) = true := by simpa using hlt
      have hIk : (k : Int) < l.length := by omega
      obtain ⟨b, off, rfl, g0, g1, g2⟩ := HE.out wr A.t k hlt
      have HA := hid A
      have NX := hid fun w' => A.next (w' := w') hlt
      have NW := hid fun w' => A.new (w' := w') hs.out hlt HW.out hlen hC
      obtain ⟨bb, TB, B1, B2⟩ := ixs_add1 A.st A.ok l[k]
      have OKS := hid fun (he : (put1 (addAll S (l.take k)) l[k]).length = (addAll S (l.take k)).length + 1) => (show OkS (put1 (addAll S (l.take k)) l[k]) (itC room most (M, C) n).2 from by
        have e : addAll S (l.take (k + 1)) = put1 (addAll S (l.take k)) l[k] := by rw [List.take_succ_eq_append_getElem hlt, addAll_snoc]
        have h2 := (addAll_len (l.take (k + 1)) hs.out).2
        have h3 : (l.take (k + 1)).length ≤ l.length := by rw [List.length_take]; omega
        exact ⟨sorted_put1 A.ok.s _, put1_ok A.ok.ok (HW.out _ (List.getElem_mem hlt)), by rw [e] at h2; omega, A.ok.lv⟩)
      have TW := hid A.t
      have ST := hid A.st
      clear A HA HE A0
      generalize l[k] = a at *
      generalize addAll S (l.take k) = S1 at *
      generalize itC room most (M, C) n = p at *
      obtain ⟨M1, C1⟩ := p
      dsimp only at *
      obtain ⟨w1, hw1⟩ : ∃ w1, w1 = wr.alloc (.cells #[.int .i64 a.1, .int .i64 a.2.1, .int .i64 a.2.2] TEn) := ⟨_, rfl⟩
      have t1 : Touch [] wr w1 := by rw [hw1]; exact (Touch.refl [] wr).alloc _
      have EB : EnB w1 wr.heap.size a := by rw [hw1]; exact heap_alloc_new wr _
      obtain ⟨⟨k1, k2, k3⟩, -⟩ := EB.all
      obtain ⟨l1, l2, l3⟩ := EB.c
      have TB1 := hid (TB w1.drew t1.drew)
      have T1 := hid t1
      clear TB EB t1
      cases bb with
      | true =>
        have hp := hid (B1 rfl)
        clear B2 B1
        go_upto_region 7 with fail
        rw [← hw1]
        clear hw1
        first
          | go_region_with (go_at_call 29; refine TB1.out.mono ?_; rintro e w2 ⟨rfl, t2⟩; have T2 := hid (T1.out.drew.trans t2 (by simp)); have e1 := t2.cell k1; have e2 := t2.cell k2; have e3 := t2.cell k3; clear t2)
          | fail
        all_goals go_wp2
        all_goals go_roundw
        all_goals first
          | exact ⟨k + 1, n, by omega, by go_num, rfl, NX.out _ hp.out (ST.out.t0 T2.out) (TW.out.trans T2.out (by simp))⟩
          | (simp [RowKit.intOf]; omega)
      | false =>
        clear B1
        rcases B2 rfl with ⟨hp, MA⟩ | ⟨hp, MA⟩
        · have M2 := hid fun w2 (t2 : Touch [] wr w2) => MA _ w2.heap.size (t2.alloc (.cells #[.int .i64 a.1, .int .i64 a.2.1, .int .i64 a.2.2] TEn)) (heap_alloc_new w2 _)
          clear MA B2
          go_upto_region 7 with fail
          rw [← hw1]
          clear hw1
          go_region_law (first
            | (refine step_call _ rfl (f := 29) (args := #[.pointer (some ⟨xb, 0, none⟩), enV a]) (by simp [go_sem, Act.eval, enV]) TB1.out ?_; rintro e w2 ⟨rfl, t2⟩; have T2 := hid (T1.out.drew.trans t2 (by simp)); have e1 := t2.cell k1; have e2 := t2.cell k2; have e3 := t2.cell k3; clear t2; refine ⟨_, rfl, ?_⟩)
            | (refine step_call_g _ rfl (f := 8) (args := #[.pointer (some ⟨xb, 2, none⟩), .slice (some ⟨w2.heap.size, 0, none⟩) 1 1]) (by simp [go_sem, Act.eval]) (M2.out _ T2.out) ?_; rintro e w3 ⟨rfl, st3, t3⟩; have S3 := hid st3; have T3 := hid (((T2.out.alloc _).mono (G := [xb]) (by simp)).trans t3 (by simp)); clear st3 t3; refine ⟨_, rfl, ?_⟩))
          go_wp2
          go_roundw
          case rel => exact ⟨k + 1, n, by omega, by go_num, rfl, NX.out _ hp S3.out (TW.out.trans T3.out (by simp))⟩
          case measure => simp [RowKit.intOf]; omega
        · have M2 := hid fun w2 (t2 : Touch [] wr w2) => MA _ w2.heap.size (t2.alloc (.cells #[.int .i64 a.1, .int .i64 a.2.1, .int .i64 a.2.2] TEn)) (heap_alloc_new w2 _)
          have FL := hid fun w3 (st : IxS w3 xb room most (put1 S1 a) (M1 + 1) C1) => ixs_flush (w := w3.drew) (st.t0 ((Touch.refl [] w3).drew)) (OKS.out hp) (by omega)
          have HP := hid hp
          have D0 : ∀ w3 : World, Touch [] w3 w3.drew := fun w3 => (Touch.refl [] w3).drew
          have HD0 := hid D0
          clear MA B2 hp D0
          by_cases hroom : room ≤ M1 + 1
          · have hd : decide (room ≤ M1 + 1) = true := by simpa using hroom
            have hd2 : decide ((room : Int) ≤ (M1 : Int) + 1) = true := by simp; omega
            have hS0 : Hid (stepC room most (M1, C1) = (0, car most 1 C1)) := hid (by unfold stepC; rw [if_pos hroom])
            go_upto_region 7 with fail
            rw [← hw1]
            clear hw1
            go_region_law (first
              | (refine step_call _ rfl (f := 29) (args := #[.pointer (some ⟨xb, 0, none⟩), enV a]) (by simp [go_sem, Act.eval, enV]) TB1.out ?_; rintro e w2 ⟨rfl, t2⟩; have T2 := hid (T1.out.drew.trans t2 (by simp)); have e1 := t2.cell k1; have e2 := t2.cell k2; have e3 := t2.cell k3; clear t2; refine ⟨_, rfl, ?_⟩)
              | (refine step_call_g _ rfl (f := 8) (args := #[.pointer (some ⟨xb, 2, none⟩), .slice (some ⟨w2.heap.size, 0, none⟩) 1 1]) (by simp [go_sem, Act.eval]) (M2.out _ T2.out) ?_; rintro e w3 ⟨rfl, n3, t3⟩; have N3 := hid n3; have c3 := n3.c0; have LN := hid (n3.len _ (HD0.out w3)); have T3 := hid (((T2.out.alloc _).mono (G := [xb]) (by simp)).trans t3 (by simp)); clear n3 t3; refine ⟨_, rfl, ?_⟩))
            go_upto_region 9 with fail
            go_region_law (refine step_call _ rfl (f := 22) (args := #[.pointer (some ⟨xb, 2, none⟩)]) (by simp [go_sem, Act.eval]) LN.out ?_; rintro e w4 ⟨rfl, h⟩; have h := h.symm; subst h; refine ⟨_, rfl, ?_⟩)
            go_wp2_with (go_at_call 11; refine (FL.out _ N3.out.st).mono ?_; rintro e w5 ⟨rfl, f5, t5⟩; have F5 := hid f5; have T5 := hid t5; clear f5 t5)
            all_goals go_roundw
            all_goals first
              | exact ⟨k + 1, n + 1, by omega, by go_num, by go_num, NW.out _ HP.out (by rw [hS0.out]; exact F5.out) ((TW.out.trans T3.out (by simp)).drew.trans T5.out (by simp))⟩
              | (simp [RowKit.intOf]; omega)
              | exact ⟨⟨k + 1, n + 1, by omega, by go_num, by go_num, NW.out _ HP.out (by rw [hS0.out]; exact F5.out) ((TW.out.trans T3.out (by simp)).drew.trans T5.out (by simp))⟩, by simp [RowKit.intOf]; omega⟩
          · have hd : decide (room ≤ M1 + 1) = false := by simpa using hroom
            have hd2 : decide ((room : Int) ≤ (M1 : Int) + 1) = false := by simp; omega
            have hS0 : Hid (stepC room most (M1, C1) = (M1 + 1, C1)) := hid (by unfold stepC; rw [if_neg hroom])
            go_upto_region 7 with fail
            rw [← hw1]
            clear hw1
            go_region_law (first
              | (refine step_call _ rfl (f := 29) (args := #[.pointer (some ⟨xb, 0, none⟩), enV a]) (by simp [go_sem, Act.eval, enV]) TB1.out ?_; rintro e w2 ⟨rfl, t2⟩; have T2 := hid (T1.out.drew.trans t2 (by simp)); have e1 := t2.cell k1; have e2 := t2.cell k2; have e3 := t2.cell k3; clear t2; refine ⟨_, rfl, ?_⟩)
              | (refine step_call_g _ rfl (f := 8) (args := #[.pointer (some ⟨xb, 2, none⟩), .slice (some ⟨w2.heap.size, 0, none⟩) 1 1]) (by simp [go_sem, Act.eval]) (M2.out _ T2.out) ?_; rintro e w3 ⟨rfl, n3, t3⟩; have N3 := hid n3; have c3 := n3.c0; have LN := hid (n3.len _ (HD0.out w3)); have T3 := hid (((T2.out.alloc _).mono (G := [xb]) (by simp)).trans t3 (by simp)); clear n3 t3; refine ⟨_, rfl, ?_⟩))
            go_upto_region 9 with fail
            go_region_law (refine step_call _ rfl (f := 22) (args := #[.pointer (some ⟨xb, 2, none⟩)]) (by simp [go_sem, Act.eval]) LN.out ?_; rintro e w4 ⟨rfl, h⟩; have h := h.symm; subst h; refine ⟨_, rfl, ?_⟩)
            go_wp2
            all_goals go_roundw
            all_goals first
              | exact ⟨k + 1, n + 1, by omega, by go_num, by go_num, NW.out _ HP.out (by rw [hS0.out]; exact N3.out.st.t0 (HD0.out _)) ((TW.out.trans T3.out (by simp)).drew)⟩
              | (simp [RowKit.intOf]; omega)
              | exact ⟨⟨k + 1, n + 1, by omega, by go_num, by go_num, NW.out _ HP.out (by rw [hS0.out]; exact N3.out.st.t0 (HD0.out _)) ((TW.out.trans T3.out (by simp)).drew)⟩, by simp [RowKit.intOf]; omega⟩
    · obtain rfl : k = l.length := by omega
      have hlt2 : decide (l.length < l.length) = false := by simp
      have HA := hid A
      clear A
      go_wp2
      go_ret
      exact ⟨n, rfl, HA.out⟩
end Go.Proofs.Ytnkflmimnpolcaa
