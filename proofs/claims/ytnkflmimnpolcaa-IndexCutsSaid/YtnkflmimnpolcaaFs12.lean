/- Going through a tree: every tree. -/
import Derived.Test.YtnkflmimnpolcaaFr12
namespace Go.Proofs.Ytnkflmimnpolcaa
open Go.RowKit Go.Lib Go.Shelf
set_option maxRecDepth 100000
attribute [local go_sem] Oper.semAt_some

/-- What going through leaves: all have come, or a round has said no more. -/
def FromR (J Jx : List En → World → Prop) (pre fl : List En) (W W' : World) (r : Bool) : Prop := (r = true ∧ J (pre ++ fl) W' ∧ KpE W W') ∨ (r = false ∧ ∃ q, q <+: fl ∧ Jx (pre ++ q) W')
set_option maxHeartbeats 16000000 in
theorem from_in (l N B : Nat) (first : En) (J Jx : List En → World → Prop) (hJ : AbidesFrom B J)
    (hY : ∀ m pre x W, J pre W → pre.length < N → YieldAt Fence.wide m Try.prog l #[enV x] W fun e W' =>
      (e = .returned (.bool true) ∧ J (pre ++ [x]) W' ∧ KpE W W') ∨ (e = .returned (.bool false) ∧ Jx (pre ++ [x]) W')) (T : Tr) :
    ∀ (n : Nat) (p : Option Addr) (pre : List En) (W : World), TreeAt W p T → SortedE T.io → J pre W → pre.length + (fromE T.io first).length ≤ N →
      CallsIn Fence.wide n Try.prog 63 #[.pointer p, enV first, .func (.yield l) #[] #[]] W fun e W' => ∃ r, e = .returned (.bool r) ∧ FromR J Jx pre (fromE T.io first) W W' r := by
  have hd : Fence.wide.depth = none := rfl
  have hro : Fence.wide.round = none := rfl
  have h6 : Fence.wide.fn 63 := trivial
  have h30 : Fence.wide.fn 39 := trivial
  have hdd : ∀ k : Nat, (Fence.wide.depth.isSome = true → 1 ≤ k) := fun k h => by cases h
  induction T with
  | nil =>
    intro n p pre W ht _ hJ0 _
    obtain rfl : p = none := ht
    refine callsIn_of_wp Try.func63 rfl h6 ?_ hro
    simp only [Try.ntmps63, List.size_toArray, List.length_cons, List.length_nil, Nat.reduceAdd, Nat.reduceSub, Array.replicate_succ, Array.replicate_zero, List.push_toArray, List.append_toArray, List.nil_append, List.cons_append]
    gi_wp2
    go_ret
    exact ⟨true, rfl, .inl ⟨rfl, by simpa [Tr.io, fromE] using hJ _ _ _ none hJ0 ((Touch.refl [] W).alloc _).grownBy (fun r e => by cases e), KpE.of_touch ((Touch.refl [] W).alloc _)⟩⟩
  | node tl v tr ihl ihr =>
    intro n p pre W ht hs hJ0 hN
    obtain ⟨b, pl, pr, rfl, NB, hl, hr⟩ := ht
    have hs1 := List.pairwise_append.1 hs
    have hs2 := (List.pairwise_cons.1 hs1.2.1).2
    have T1 : Hid (Touch [] W (W.alloc (.cells #[.int .i64 first.1, .int .i64 first.2.1, .int .i64 first.2.2] 32))) := hid ((Touch.refl [] W).alloc _)
    have B1 : EnB (W.alloc (.cells #[.int .i64 first.1, .int .i64 first.2.1, .int .i64 first.2.2] 32)) W.heap.size first := heap_alloc_new W _
    have N1 := NB.t T1.out
    by_cases hlt : ltE v first
    · have hf : fromE (tl.io ++ v :: tr.io) first = fromE tr.io first := from_skip hs hlt
      have hio : (Tr.node tl v tr).io = tl.io ++ v :: tr.io := rfl
      rw [hio, hf] at hN ⊢
      have hlt' : decide (ltE v first) = true := by simpa using hlt
      have LS := hid fun w' => less_any v first w'
      have IR := hid fun w' (t : Touch [] W w') => (callsIn_wide.1 (ihr 1 pr pre w' (hr.t0 t) hs2 (hJ _ _ _ none hJ0 t.grownBy (fun r e => by cases e)) hN)).mono (R' := fun e W' => ∃ r, e = .returned (.bool r) ∧ FromR J Jx pre (fromE tr.io first) W W' r) (fun e W1 ⟨r, he, h⟩ => ⟨r, he, h.elim (fun ⟨hr, hj, hk⟩ => .inl ⟨hr, hj, (KpE.of_touch t).trans hk⟩) .inr⟩)
      clear ihl ihr hs hs1 hs2 hl hr hJ0 hN hf hio hlt NB
      obtain ⟨W1, hW1⟩ : ∃ W1, W1 = W.alloc (.cells #[.int .i64 first.1, .int .i64 first.2.1, .int .i64 first.2.2] 32) := ⟨_, rfl⟩
      obtain ⟨x1, hx1⟩ : ∃ x1, x1 = W.heap.size := ⟨_, rfl⟩
      rw [← hW1] at T1 B1 N1
      rw [← hx1] at B1
      have S1 : Hid (∀ w', Touch [] W1 w' → w'.cell? ⟨b, 0, none⟩ = some (.int .i64 v.1) ∧ w'.cell? ⟨b, 1, none⟩ = some (.int .i64 v.2.1) ∧ w'.cell? ⟨b, 2, none⟩ = some (.int .i64 v.2.2) ∧ w'.cell? ⟨b, 3, none⟩ = some (.pointer pl) ∧ w'.cell? ⟨b, 4, none⟩ = some (.pointer pr)) := hid fun w' t => (N1.t t).c
      have S3 : Hid (∀ w', Touch [] W1 w' → w'.cell? ⟨x1, 0, none⟩ = some (.int .i64 first.1) ∧ w'.cell? ⟨x1, 1, none⟩ = some (.int .i64 first.2.1) ∧ w'.cell? ⟨x1, 2, none⟩ = some (.int .i64 first.2.2)) := hid fun w' t => (B1.t t).c
      refine callsIn_wide.2 ?_
      go_enter Try.func63, Try.ntmps63
      go_upto_region 3 with fail
      rw [← hW1, ← hx1]
      clear hW1 hx1
      have T2 : Touch [] W1 W1.drew := (Touch.refl [] W1).drew
      have Z : (fun w' => (w'.cell? ⟨b, 0, none⟩ = some (.int .i64 v.1) ∧ w'.cell? ⟨b, 1, none⟩ = some (.int .i64 v.2.1) ∧ w'.cell? ⟨b, 2, none⟩ = some (.int .i64 v.2.2) ∧ w'.cell? ⟨b, 3, none⟩ = some (.pointer pl) ∧ w'.cell? ⟨b, 4, none⟩ = some (.pointer pr)) ∧ (w'.cell? ⟨x1, 0, none⟩ = some (.int .i64 first.1) ∧ w'.cell? ⟨x1, 1, none⟩ = some (.int .i64 first.2.1) ∧ w'.cell? ⟨x1, 2, none⟩ = some (.int .i64 first.2.2))) W1.drew := ⟨S1.out _ T2, S3.out _ T2⟩
      go_region_held3 (fun w' => (w'.cell? ⟨b, 0, none⟩ = some (.int .i64 v.1) ∧ w'.cell? ⟨b, 1, none⟩ = some (.int .i64 v.2.1) ∧ w'.cell? ⟨b, 2, none⟩ = some (.int .i64 v.2.2) ∧ w'.cell? ⟨b, 3, none⟩ = some (.pointer pl) ∧ w'.cell? ⟨b, 4, none⟩ = some (.pointer pr)) ∧ (w'.cell? ⟨x1, 0, none⟩ = some (.int .i64 first.1) ∧ w'.cell? ⟨x1, 1, none⟩ = some (.int .i64 first.2.1) ∧ w'.cell? ⟨x1, 2, none⟩ = some (.int .i64 first.2.2))) (first | go_keep | exact ⟨S1.out _ (by assumption), S3.out _ (by assumption)⟩) ((first
        | (go_at_call 39; refine (LS.out _).mono ?_; clear LS; rintro e w2 ⟨rfl, t2⟩; have T3 : Touch [] W1 w2 := T2.trans t2 (by simp); clear t2)))
      clear Z T2
      go_upto_region 4 with fail
      have T2 : Touch [] W1 w2.drew := T3.drew
      have Z : (fun w' => (w'.cell? ⟨b, 0, none⟩ = some (.int .i64 v.1) ∧ w'.cell? ⟨b, 1, none⟩ = some (.int .i64 v.2.1) ∧ w'.cell? ⟨b, 2, none⟩ = some (.int .i64 v.2.2) ∧ w'.cell? ⟨b, 3, none⟩ = some (.pointer pl) ∧ w'.cell? ⟨b, 4, none⟩ = some (.pointer pr)) ∧ (w'.cell? ⟨x1, 0, none⟩ = some (.int .i64 first.1) ∧ w'.cell? ⟨x1, 1, none⟩ = some (.int .i64 first.2.1) ∧ w'.cell? ⟨x1, 2, none⟩ = some (.int .i64 first.2.2))) w2.drew := ⟨S1.out _ T2, S3.out _ T2⟩
      go_still_tail 6, (by kernel_rfl)
      change wpList _ _ _ _ _ w2.drew
      obtain ⟨⟨z1, z2, z3, z4, z5⟩, z6, z7, z8⟩ := Z
      go_wp2_with (go_at_call 63; refine (IR.out _ (T1.out.trans T2 (by simp))).mono ?_; clear IR; rintro e w3 ⟨rr, rfl, h3⟩; have H3 := hid h3; clear h3)
      go_ret
      exact ⟨_, rfl, H3.out⟩
    · have hf : fromE (tl.io ++ v :: tr.io) first = fromE tl.io first ++ v :: fromE tr.io first := from_node hlt
      have hio : (Tr.node tl v tr).io = tl.io ++ v :: tr.io := rfl
      rw [hio, hf] at hN ⊢
      simp only [List.length_append, List.length_cons] at hN
      have hlt' : decide (ltE v first) = false := by simpa using hlt
      have LS := hid fun w' => less_any v first w'
      have hy2 : ∀ W1, J (pre ++ fromE tl.io first) W1 → _ := fun W1 hJ1 => hY (n - 1) _ v W1 hJ1 (by simp; omega)
      have IL := hid fun w' (t : Touch [] W w') => (ihl (n - 1) pl pre w' (hl.t0 t) hs1.1 (hJ _ _ _ none hJ0 t.grownBy (fun r e => by cases e)) (by omega))
      have IR := hid fun w' (k : KpE W w') (j : J (pre ++ fromE tl.io first ++ [v]) w') => ihr (n - 1) pr _ w' (hr.kp k) hs2 j (by simp; omega)
      have hy := hid hy2
      clear ihl ihr hs hs1 hs2 hl hr hJ0 hN hf hio hlt NB hy2
      obtain ⟨W1, hW1⟩ : ∃ W1, W1 = W.alloc (.cells #[.int .i64 first.1, .int .i64 first.2.1, .int .i64 first.2.2] 32) := ⟨_, rfl⟩
      obtain ⟨x1, hx1⟩ : ∃ x1, x1 = W.heap.size := ⟨_, rfl⟩
      rw [← hW1] at T1 B1 N1
      rw [← hx1] at B1
      have S1 : Hid (∀ w', Touch [] W1 w' → w'.cell? ⟨b, 0, none⟩ = some (.int .i64 v.1) ∧ w'.cell? ⟨b, 1, none⟩ = some (.int .i64 v.2.1) ∧ w'.cell? ⟨b, 2, none⟩ = some (.int .i64 v.2.2) ∧ w'.cell? ⟨b, 3, none⟩ = some (.pointer pl) ∧ w'.cell? ⟨b, 4, none⟩ = some (.pointer pr)) := hid fun w' t => (N1.t t).c
      have S3 : Hid (∀ w', Touch [] W1 w' → w'.cell? ⟨x1, 0, none⟩ = some (.int .i64 first.1) ∧ w'.cell? ⟨x1, 1, none⟩ = some (.int .i64 first.2.1) ∧ w'.cell? ⟨x1, 2, none⟩ = some (.int .i64 first.2.2)) := hid fun w' t => (B1.t t).c
      refine callsIn_wide.2 ?_
      go_enter Try.func63, Try.ntmps63
      go_upto_region 3 with fail
      rw [← hW1, ← hx1]
      clear hW1 hx1
      have T2 : Touch [] W1 W1.drew := (Touch.refl [] W1).drew
      have Z : (fun w' => (w'.cell? ⟨b, 0, none⟩ = some (.int .i64 v.1) ∧ w'.cell? ⟨b, 1, none⟩ = some (.int .i64 v.2.1) ∧ w'.cell? ⟨b, 2, none⟩ = some (.int .i64 v.2.2) ∧ w'.cell? ⟨b, 3, none⟩ = some (.pointer pl) ∧ w'.cell? ⟨b, 4, none⟩ = some (.pointer pr)) ∧ (w'.cell? ⟨x1, 0, none⟩ = some (.int .i64 first.1) ∧ w'.cell? ⟨x1, 1, none⟩ = some (.int .i64 first.2.1) ∧ w'.cell? ⟨x1, 2, none⟩ = some (.int .i64 first.2.2))) W1.drew := ⟨S1.out _ T2, S3.out _ T2⟩
      go_region_held3 (fun w' => (w'.cell? ⟨b, 0, none⟩ = some (.int .i64 v.1) ∧ w'.cell? ⟨b, 1, none⟩ = some (.int .i64 v.2.1) ∧ w'.cell? ⟨b, 2, none⟩ = some (.int .i64 v.2.2) ∧ w'.cell? ⟨b, 3, none⟩ = some (.pointer pl) ∧ w'.cell? ⟨b, 4, none⟩ = some (.pointer pr)) ∧ (w'.cell? ⟨x1, 0, none⟩ = some (.int .i64 first.1) ∧ w'.cell? ⟨x1, 1, none⟩ = some (.int .i64 first.2.1) ∧ w'.cell? ⟨x1, 2, none⟩ = some (.int .i64 first.2.2))) (first | go_keep | exact ⟨S1.out _ (by assumption), S3.out _ (by assumption)⟩) ((first
        | (go_at_call 39; refine (LS.out _).mono ?_; clear LS; rintro e w2 ⟨rfl, t2⟩; have T3 : Touch [] W1 w2 := T2.trans t2 (by simp); clear t2)))
      clear Z T2
      go_upto_region 5 with fail
      refine (wpIn_wide (n := n)).1 ?_
      have T2 : Touch [] W1 w2.drew := T3.drew
      have Z : (fun w' => (w'.cell? ⟨b, 0, none⟩ = some (.int .i64 v.1) ∧ w'.cell? ⟨b, 1, none⟩ = some (.int .i64 v.2.1) ∧ w'.cell? ⟨b, 2, none⟩ = some (.int .i64 v.2.2) ∧ w'.cell? ⟨b, 3, none⟩ = some (.pointer pl) ∧ w'.cell? ⟨b, 4, none⟩ = some (.pointer pr)) ∧ (w'.cell? ⟨x1, 0, none⟩ = some (.int .i64 first.1) ∧ w'.cell? ⟨x1, 1, none⟩ = some (.int .i64 first.2.1) ∧ w'.cell? ⟨x1, 2, none⟩ = some (.int .i64 first.2.2))) w2.drew := ⟨S1.out _ T2, S3.out _ T2⟩
      obtain ⟨⟨z1, z2, z3, z4, z5⟩, z6, z7, z8⟩ := Z
      have KW : KpE W W1 := KpE.of_touch T1.out
      refine wpIn_region_any (by kernel_rfl) ?_
      change wpAnyIn _ _ _ _ _ _ _ _ _ (World.drew _)
      refine wpAnyIn_take (i := 0) (v := ?v1) rfl rfl (by kernel_rfl) (by kernel_rfl) (by kernel_rfl) (fun _ _ _ h => h) ⟨Or.inl ⟨by rfl, ?_⟩, fun _ => rfl⟩ ?_
      rotate_left
      · (intro w; go_simp; try with_reducible rfl)
      refine wpAnyIn_take (i := 1) (v := ?v2) rfl rfl (by kernel_rfl) (by kernel_rfl) (by kernel_rfl) (fun _ _ _ h => h) ⟨Or.inl ⟨by rfl, ?_⟩, fun _ => rfl⟩ ?_
      rotate_left
      · (intro w; go_simp; try with_reducible rfl)
      refine wpAnyIn_take (i := 2) (v := ?v3) rfl rfl (by kernel_rfl) (by kernel_rfl) (by kernel_rfl) (fun _ _ _ h => h) ⟨Or.inl ⟨by rfl, ?_⟩, fun _ => rfl⟩ ?_
      rotate_left
      · (intro w; go_simp; try with_reducible rfl)
      refine wpAnyIn_take (i := 5) (v := ?v4) rfl rfl (by kernel_rfl) (by kernel_rfl) (by kernel_rfl) (fun _ _ _ h => h) ⟨Or.inl ⟨by rfl, ?_⟩, fun _ => rfl⟩ ?_
      rotate_left
      · (intro w; go_simp; try with_reducible rfl)
      refine wpAnyIn_ready (rs := [3, 4]) (by kernel_rfl) (by simp) ?_
      refine AllReadyIn.cons rfl (fun K hK => ?_) (AllReadyIn.cons rfl (fun K hK => ?_) AllReadyIn.nil)
      all_goals (go_simp; refine hK _ _ ?_; clear hK K)
      · skip
        refine wpAnyIn_ready (rs := [4]) (by kernel_rfl) (by simp) ?_
        refine AllReadyIn.cons rfl (fun K hK => ?_) AllReadyIn.nil
        (go_simp; refine hK _ _ ?_; clear hK K)
        refine wpAnyIn_ready (rs := [6]) (by kernel_rfl) (by simp) ?_
        refine AllReadyIn.cons rfl (fun K hK => ?_) AllReadyIn.nil
        go_simp
        gi_wp2_with (gi_at_call 63; refine (IL.out _ (T1.out.trans T2 (by simp))).mono ?_; clear IL; rintro e w3 ⟨rr, rfl, (⟨rfl, h3⟩ | ⟨rfl, h3⟩)⟩)
        · skip
          obtain ⟨hj3, hk3⟩ := h3
          have K3 : KpE W1 w3 := (KpE.of_touch T2).trans hk3
          obtain ⟨c0, c1, c2, c3, c4⟩ := (N1.kp K3).c
          obtain ⟨b0, b1, b2⟩ := (B1.kp K3).c
          obtain ⟨fn, tmps, assign, body, hyr, hR⟩ := hy.out w3 hj3
          refine wpAnyIn_take (i := 7) (v := ?v5) rfl rfl (by kernel_rfl) (by kernel_rfl) (by kernel_rfl) (fun _ _ _ h => h) ⟨Or.inl ⟨by rfl, ?_⟩, fun _ => rfl⟩ ?_
          rotate_left
          · (intro w; go_simp; try with_reducible rfl)
          refine wpAnyIn_take (i := 8) (v := ?v6) rfl rfl (by kernel_rfl) (by kernel_rfl) (by kernel_rfl) (fun _ _ _ h => h) ⟨Or.inl ⟨by rfl, ?_⟩, fun _ => rfl⟩ ?_
          rotate_left
          · (intro w; go_simp; try with_reducible rfl)
          refine wpAnyIn_take (i := 9) (v := ?v7) rfl rfl (by kernel_rfl) (by kernel_rfl) (by kernel_rfl) (fun _ _ _ h => h) ⟨Or.inl ⟨by rfl, ?_⟩, fun _ => rfl⟩ ?_
          rotate_left
          · (intro w; go_simp; try with_reducible rfl)
          refine wpAnyIn_take (i := 10) (v := ?v8) rfl rfl (by kernel_rfl) (by kernel_rfl) (by kernel_rfl) (fun _ _ _ h => h) ⟨Or.inl ⟨by rfl, ?_⟩, fun _ => rfl⟩ ?_
          rotate_left
          · (intro w; go_simp; try with_reducible rfl)
          refine wpAnyIn_take (i := 11) (v := ?v9) rfl rfl (by kernel_rfl) (by kernel_rfl) (by kernel_rfl) (fun _ _ _ h => h) ⟨Or.inl ⟨by rfl, ?_⟩, fun _ => rfl⟩ ?_
          rotate_left
          · (intro w; go_simp; try with_reducible rfl)
          refine wpAnyIn_ready (rs := [12]) (by kernel_rfl) (by simp) ?_
          refine AllReadyIn.cons rfl (fun K hK => ?_) AllReadyIn.nil
          (go_simp; refine hK _ _ ?_; clear hK K)
          refine wpAnyIn_ready (rs := [13]) (by kernel_rfl) (by simp) ?_
          refine AllReadyIn.cons rfl (fun K hK => ?_) AllReadyIn.nil
          go_simp
          gi_wp2_with (refine hR.mono ?_; clear hR; rintro e w4 (⟨rfl, hj4, hk4⟩ | ⟨rfl, hx4⟩))
          · skip
            have K4 := K3.trans hk4
            obtain ⟨c0, c1, c2, c3, c4⟩ := (N1.kp K4).c
            obtain ⟨b0, b1, b2⟩ := (B1.kp K4).c
            refine wpAnyIn_take (i := 14) (v := ?v10) rfl rfl (by kernel_rfl) (by kernel_rfl) (by kernel_rfl) (fun _ _ _ h => h) ⟨Or.inl ⟨by rfl, ?_⟩, fun _ => rfl⟩ ?_
            rotate_left
            · (intro w; go_simp; try with_reducible rfl)
            refine wpAnyIn_take (i := 15) (v := ?v11) rfl rfl (by kernel_rfl) (by kernel_rfl) (by kernel_rfl) (fun _ _ _ h => h) ⟨Or.inl ⟨by rfl, ?_⟩, fun _ => rfl⟩ ?_
            rotate_left
            · (intro w; go_simp; try with_reducible rfl)
            refine wpAnyIn_take (i := 16) (v := ?v12) rfl rfl (by kernel_rfl) (by kernel_rfl) (by kernel_rfl) (fun _ _ _ h => h) ⟨Or.inl ⟨by rfl, ?_⟩, fun _ => rfl⟩ ?_
            rotate_left
            · (intro w; go_simp; try with_reducible rfl)
            refine wpAnyIn_take (i := 17) (v := ?v13) rfl rfl (by kernel_rfl) (by kernel_rfl) (by kernel_rfl) (fun _ _ _ h => h) ⟨Or.inl ⟨by rfl, ?_⟩, fun _ => rfl⟩ ?_
            rotate_left
            · (intro w; go_simp; try with_reducible rfl)
            refine wpAnyIn_take (i := 18) (v := ?v14) rfl rfl (by kernel_rfl) (by kernel_rfl) (by kernel_rfl) (fun _ _ _ h => h) ⟨Or.inl ⟨by rfl, ?_⟩, fun _ => rfl⟩ ?_
            rotate_left
            · (intro w; go_simp; try with_reducible rfl)
            refine wpAnyIn_take (i := 21) (v := ?v15) rfl rfl (by kernel_rfl) (by kernel_rfl) (by kernel_rfl) (fun _ _ _ h => h) ⟨Or.inl ⟨by rfl, ?_⟩, fun _ => rfl⟩ ?_
            rotate_left
            · (intro w; go_simp; try with_reducible rfl)
            refine wpAnyIn_ready (rs := [19, 20]) (by kernel_rfl) (by simp) ?_
            refine AllReadyIn.cons rfl (fun K hK => ?_) (AllReadyIn.cons rfl (fun K hK => ?_) AllReadyIn.nil)
            all_goals (go_simp; refine hK _ _ ?_; clear hK K)
            · skip
              refine wpAnyIn_ready (rs := [20]) (by kernel_rfl) (by simp) ?_
              refine AllReadyIn.cons rfl (fun K hK => ?_) AllReadyIn.nil
              (go_simp; refine hK _ _ ?_; clear hK K)
              refine wpAnyIn_ready (rs := [22]) (by kernel_rfl) (by simp) ?_
              refine AllReadyIn.cons rfl (fun K hK => ?_) AllReadyIn.nil
              go_simp
              gi_wp2_with (gi_at_call 63; refine (IR.out _ (KW.trans K4) hj4).mono ?_; clear IR; rintro e w5 ⟨r5, rfl, h5⟩)
              have HR : FromR J Jx pre (fromE tl.io first ++ v :: fromE tr.io first) W w5 r5 := by
                rcases h5 with ⟨h, hj, hk⟩ | ⟨h, q, hq, hx⟩
                · exact .inl ⟨h, by simpa [List.append_assoc] using hj, (KW.trans K4).trans hk⟩
                · obtain ⟨r, hr'⟩ := hq
                  exact .inr ⟨h, fromE tl.io first ++ v :: q, ⟨r, by simp [← hr']⟩, by simpa [List.append_assoc] using hx⟩
              refine wpAnyIn_take (i := 23) (v := ?v16) rfl rfl (by kernel_rfl) (by kernel_rfl) (by kernel_rfl) (fun _ _ _ h => h) ⟨Or.inl ⟨by rfl, ?_⟩, fun _ => rfl⟩ ?_
              rotate_left
              · (intro w; go_simp; try with_reducible rfl)
              refine wpAnyIn_take (i := 24) (v := ?v17) rfl rfl (by kernel_rfl) (by kernel_rfl) (by kernel_rfl) (fun _ _ _ h => h) ⟨Or.inl ⟨by rfl, ?_⟩, fun _ => rfl⟩ ?_
              rotate_left
              · (intro w; go_simp; try with_reducible rfl)
              refine wpAnyIn_done (by kernel_rfl) ?_ _
              go_wp2_with fail
              go_ret
              exact ⟨_, rfl, HR⟩
            · skip
              refine wpAnyIn_ready (rs := [19]) (by kernel_rfl) (by simp) ?_
              refine AllReadyIn.cons rfl (fun K hK => ?_) AllReadyIn.nil
              (go_simp; refine hK _ _ ?_; clear hK K)
              refine wpAnyIn_ready (rs := [22]) (by kernel_rfl) (by simp) ?_
              refine AllReadyIn.cons rfl (fun K hK => ?_) AllReadyIn.nil
              go_simp
              gi_wp2_with (gi_at_call 63; refine (IR.out _ (KW.trans K4) hj4).mono ?_; clear IR; rintro e w5 ⟨r5, rfl, h5⟩)
              have HR : FromR J Jx pre (fromE tl.io first ++ v :: fromE tr.io first) W w5 r5 := by
                rcases h5 with ⟨h, hj, hk⟩ | ⟨h, q, hq, hx⟩
                · exact .inl ⟨h, by simpa [List.append_assoc] using hj, (KW.trans K4).trans hk⟩
                · obtain ⟨r, hr'⟩ := hq
                  exact .inr ⟨h, fromE tl.io first ++ v :: q, ⟨r, by simp [← hr']⟩, by simpa [List.append_assoc] using hx⟩
              refine wpAnyIn_take (i := 23) (v := ?v18) rfl rfl (by kernel_rfl) (by kernel_rfl) (by kernel_rfl) (fun _ _ _ h => h) ⟨Or.inl ⟨by rfl, ?_⟩, fun _ => rfl⟩ ?_
              rotate_left
              · (intro w; go_simp; try with_reducible rfl)
              refine wpAnyIn_take (i := 24) (v := ?v19) rfl rfl (by kernel_rfl) (by kernel_rfl) (by kernel_rfl) (fun _ _ _ h => h) ⟨Or.inl ⟨by rfl, ?_⟩, fun _ => rfl⟩ ?_
              rotate_left
              · (intro w; go_simp; try with_reducible rfl)
              refine wpAnyIn_done (by kernel_rfl) ?_ _
              go_wp2_with fail
              go_ret
              exact ⟨_, rfl, HR⟩
          · skip
            have HR : FromR J Jx pre (fromE tl.io first ++ v :: fromE tr.io first) W w4 false := .inr ⟨rfl, fromE tl.io first ++ [v], ⟨fromE tr.io first, by simp⟩, by simpa [List.append_assoc] using hx4⟩
            refine wpAnyIn_take (i := 14) (v := ?v20) rfl rfl (by kernel_rfl) (by kernel_rfl) (by kernel_rfl) (fun _ _ _ h => h) ⟨Or.inl ⟨by rfl, ?_⟩, fun _ => rfl⟩ ?_
            rotate_left
            · (intro w; go_simp; try with_reducible rfl)
            refine wpAnyIn_take (i := 15) (v := ?v21) rfl rfl (by kernel_rfl) (by kernel_rfl) (by kernel_rfl) (fun _ _ _ h => h) ⟨Or.inl ⟨by rfl, ?_⟩, fun _ => rfl⟩ ?_
            rotate_left
            · (intro w; go_simp; try with_reducible rfl)
            refine wpAnyIn_take (i := 16) (v := undef) rfl rfl (by kernel_rfl) (by kernel_rfl) (by kernel_rfl) (fun _ _ _ h => h) ⟨Or.inr ⟨by kernel_rfl, rfl⟩, fun _ => rfl⟩ ?_
            refine wpAnyIn_take (i := 17) (v := undef) rfl rfl (by kernel_rfl) (by kernel_rfl) (by kernel_rfl) (fun _ _ _ h => h) ⟨Or.inr ⟨by kernel_rfl, rfl⟩, fun _ => rfl⟩ ?_
            refine wpAnyIn_take (i := 18) (v := undef) rfl rfl (by kernel_rfl) (by kernel_rfl) (by kernel_rfl) (fun _ _ _ h => h) ⟨Or.inr ⟨by kernel_rfl, rfl⟩, fun _ => rfl⟩ ?_
            refine wpAnyIn_take (i := 19) (v := undef) rfl rfl (by kernel_rfl) (by kernel_rfl) (by kernel_rfl) (fun _ _ _ h => h) ⟨Or.inr ⟨by kernel_rfl, rfl⟩, fun _ => rfl⟩ ?_
            refine wpAnyIn_take (i := 20) (v := undef) rfl rfl (by kernel_rfl) (by kernel_rfl) (by kernel_rfl) (fun _ _ _ h => h) ⟨Or.inr ⟨by kernel_rfl, rfl⟩, fun _ => rfl⟩ ?_
            refine wpAnyIn_take (i := 21) (v := undef) rfl rfl (by kernel_rfl) (by kernel_rfl) (by kernel_rfl) (fun _ _ _ h => h) ⟨Or.inr ⟨by kernel_rfl, rfl⟩, fun _ => rfl⟩ ?_
            refine wpAnyIn_ready (rs := [22]) (by kernel_rfl) (by simp) ?_
            refine AllReadyIn.cons rfl (fun K hK => ?_) AllReadyIn.nil
            go_simp
            first | refine hK _ _ ?_ | (refine ⟨fun _ h => (by cases h), ?_⟩; go_simp; refine hK _ _ ?_)
            clear hK K
            refine wpAnyIn_take (i := 23) (v := ?v22) rfl rfl (by kernel_rfl) (by kernel_rfl) (by kernel_rfl) (fun _ _ _ h => h) ⟨Or.inl ⟨by rfl, ?_⟩, fun _ => rfl⟩ ?_
            rotate_left
            · (intro w; go_simp; try with_reducible rfl)
            refine wpAnyIn_take (i := 24) (v := ?v23) rfl rfl (by kernel_rfl) (by kernel_rfl) (by kernel_rfl) (fun _ _ _ h => h) ⟨Or.inl ⟨by rfl, ?_⟩, fun _ => rfl⟩ ?_
            rotate_left
            · (intro w; go_simp; try with_reducible rfl)
            refine wpAnyIn_done (by kernel_rfl) ?_ _
            go_wp2_with fail
            go_ret
            exact ⟨_, rfl, HR⟩
        · skip
          obtain ⟨q, hq, hx⟩ := h3
          have HR : FromR J Jx pre (fromE tl.io first ++ v :: fromE tr.io first) W w3 false := .inr ⟨rfl, q, hq.trans (List.prefix_append _ _), hx⟩
          refine wpAnyIn_take (i := 7) (v := ?v24) rfl rfl (by kernel_rfl) (by kernel_rfl) (by kernel_rfl) (fun _ _ _ h => h) ⟨Or.inl ⟨by rfl, ?_⟩, fun _ => rfl⟩ ?_
          rotate_left
          · (intro w; go_simp; try with_reducible rfl)
          refine wpAnyIn_take (i := 8) (v := undef) rfl rfl (by kernel_rfl) (by kernel_rfl) (by kernel_rfl) (fun _ _ _ h => h) ⟨Or.inr ⟨by kernel_rfl, rfl⟩, fun _ => rfl⟩ ?_
          refine wpAnyIn_take (i := 9) (v := undef) rfl rfl (by kernel_rfl) (by kernel_rfl) (by kernel_rfl) (fun _ _ _ h => h) ⟨Or.inr ⟨by kernel_rfl, rfl⟩, fun _ => rfl⟩ ?_
          refine wpAnyIn_take (i := 10) (v := undef) rfl rfl (by kernel_rfl) (by kernel_rfl) (by kernel_rfl) (fun _ _ _ h => h) ⟨Or.inr ⟨by kernel_rfl, rfl⟩, fun _ => rfl⟩ ?_
          refine wpAnyIn_take (i := 11) (v := undef) rfl rfl (by kernel_rfl) (by kernel_rfl) (by kernel_rfl) (fun _ _ _ h => h) ⟨Or.inr ⟨by kernel_rfl, rfl⟩, fun _ => rfl⟩ ?_
          refine wpAnyIn_take (i := 12) (v := undef) rfl rfl (by kernel_rfl) (by kernel_rfl) (by kernel_rfl) (fun _ _ _ h => h) ⟨Or.inr ⟨by kernel_rfl, rfl⟩, fun _ => rfl⟩ ?_
          refine wpAnyIn_ready (rs := [13]) (by kernel_rfl) (by simp) ?_
          refine AllReadyIn.cons rfl (fun K hK => ?_) AllReadyIn.nil
          go_simp
          first | refine hK _ _ ?_ | (refine ⟨fun _ h => (by cases h), ?_⟩; go_simp; refine hK _ _ ?_)
          clear hK K
          refine wpAnyIn_take (i := 14) (v := ?v25) rfl rfl (by kernel_rfl) (by kernel_rfl) (by kernel_rfl) (fun _ _ _ h => h) ⟨Or.inl ⟨by rfl, ?_⟩, fun _ => rfl⟩ ?_
          rotate_left
          · (intro w; go_simp; try with_reducible rfl)
          refine wpAnyIn_take (i := 15) (v := ?v26) rfl rfl (by kernel_rfl) (by kernel_rfl) (by kernel_rfl) (fun _ _ _ h => h) ⟨Or.inl ⟨by rfl, ?_⟩, fun _ => rfl⟩ ?_
          rotate_left
          · (intro w; go_simp; try with_reducible rfl)
          refine wpAnyIn_take (i := 16) (v := undef) rfl rfl (by kernel_rfl) (by kernel_rfl) (by kernel_rfl) (fun _ _ _ h => h) ⟨Or.inr ⟨by kernel_rfl, rfl⟩, fun _ => rfl⟩ ?_
          refine wpAnyIn_take (i := 17) (v := undef) rfl rfl (by kernel_rfl) (by kernel_rfl) (by kernel_rfl) (fun _ _ _ h => h) ⟨Or.inr ⟨by kernel_rfl, rfl⟩, fun _ => rfl⟩ ?_
          refine wpAnyIn_take (i := 18) (v := undef) rfl rfl (by kernel_rfl) (by kernel_rfl) (by kernel_rfl) (fun _ _ _ h => h) ⟨Or.inr ⟨by kernel_rfl, rfl⟩, fun _ => rfl⟩ ?_
          refine wpAnyIn_take (i := 19) (v := undef) rfl rfl (by kernel_rfl) (by kernel_rfl) (by kernel_rfl) (fun _ _ _ h => h) ⟨Or.inr ⟨by kernel_rfl, rfl⟩, fun _ => rfl⟩ ?_
          refine wpAnyIn_take (i := 20) (v := undef) rfl rfl (by kernel_rfl) (by kernel_rfl) (by kernel_rfl) (fun _ _ _ h => h) ⟨Or.inr ⟨by kernel_rfl, rfl⟩, fun _ => rfl⟩ ?_
          refine wpAnyIn_take (i := 21) (v := undef) rfl rfl (by kernel_rfl) (by kernel_rfl) (by kernel_rfl) (fun _ _ _ h => h) ⟨Or.inr ⟨by kernel_rfl, rfl⟩, fun _ => rfl⟩ ?_
          refine wpAnyIn_ready (rs := [22]) (by kernel_rfl) (by simp) ?_
          refine AllReadyIn.cons rfl (fun K hK => ?_) AllReadyIn.nil
          go_simp
          first | refine hK _ _ ?_ | (refine ⟨fun _ h => (by cases h), ?_⟩; go_simp; refine hK _ _ ?_)
          clear hK K
          refine wpAnyIn_take (i := 23) (v := ?v27) rfl rfl (by kernel_rfl) (by kernel_rfl) (by kernel_rfl) (fun _ _ _ h => h) ⟨Or.inl ⟨by rfl, ?_⟩, fun _ => rfl⟩ ?_
          rotate_left
          · (intro w; go_simp; try with_reducible rfl)
          refine wpAnyIn_take (i := 24) (v := ?v28) rfl rfl (by kernel_rfl) (by kernel_rfl) (by kernel_rfl) (fun _ _ _ h => h) ⟨Or.inl ⟨by rfl, ?_⟩, fun _ => rfl⟩ ?_
          rotate_left
          · (intro w; go_simp; try with_reducible rfl)
          refine wpAnyIn_done (by kernel_rfl) ?_ _
          go_wp2_with fail
          go_ret
          exact ⟨_, rfl, HR⟩
      · skip
        refine wpAnyIn_ready (rs := [3]) (by kernel_rfl) (by simp) ?_
        refine AllReadyIn.cons rfl (fun K hK => ?_) AllReadyIn.nil
        (go_simp; refine hK _ _ ?_; clear hK K)
        refine wpAnyIn_ready (rs := [6]) (by kernel_rfl) (by simp) ?_
        refine AllReadyIn.cons rfl (fun K hK => ?_) AllReadyIn.nil
        go_simp
        gi_wp2_with (gi_at_call 63; refine (IL.out _ (T1.out.trans T2 (by simp))).mono ?_; clear IL; rintro e w3 ⟨rr, rfl, (⟨rfl, h3⟩ | ⟨rfl, h3⟩)⟩)
        · skip
          obtain ⟨hj3, hk3⟩ := h3
          have K3 : KpE W1 w3 := (KpE.of_touch T2).trans hk3
          obtain ⟨c0, c1, c2, c3, c4⟩ := (N1.kp K3).c
          obtain ⟨b0, b1, b2⟩ := (B1.kp K3).c
          obtain ⟨fn, tmps, assign, body, hyr, hR⟩ := hy.out w3 hj3
          refine wpAnyIn_take (i := 7) (v := ?v29) rfl rfl (by kernel_rfl) (by kernel_rfl) (by kernel_rfl) (fun _ _ _ h => h) ⟨Or.inl ⟨by rfl, ?_⟩, fun _ => rfl⟩ ?_
          rotate_left
          · (intro w; go_simp; try with_reducible rfl)
          refine wpAnyIn_take (i := 8) (v := ?v30) rfl rfl (by kernel_rfl) (by kernel_rfl) (by kernel_rfl) (fun _ _ _ h => h) ⟨Or.inl ⟨by rfl, ?_⟩, fun _ => rfl⟩ ?_
          rotate_left
          · (intro w; go_simp; try with_reducible rfl)
          refine wpAnyIn_take (i := 9) (v := ?v31) rfl rfl (by kernel_rfl) (by kernel_rfl) (by kernel_rfl) (fun _ _ _ h => h) ⟨Or.inl ⟨by rfl, ?_⟩, fun _ => rfl⟩ ?_
          rotate_left
          · (intro w; go_simp; try with_reducible rfl)
          refine wpAnyIn_take (i := 10) (v := ?v32) rfl rfl (by kernel_rfl) (by kernel_rfl) (by kernel_rfl) (fun _ _ _ h => h) ⟨Or.inl ⟨by rfl, ?_⟩, fun _ => rfl⟩ ?_
          rotate_left
          · (intro w; go_simp; try with_reducible rfl)
          refine wpAnyIn_take (i := 11) (v := ?v33) rfl rfl (by kernel_rfl) (by kernel_rfl) (by kernel_rfl) (fun _ _ _ h => h) ⟨Or.inl ⟨by rfl, ?_⟩, fun _ => rfl⟩ ?_
          rotate_left
          · (intro w; go_simp; try with_reducible rfl)
          refine wpAnyIn_ready (rs := [12]) (by kernel_rfl) (by simp) ?_
          refine AllReadyIn.cons rfl (fun K hK => ?_) AllReadyIn.nil
          (go_simp; refine hK _ _ ?_; clear hK K)
          refine wpAnyIn_ready (rs := [13]) (by kernel_rfl) (by simp) ?_
          refine AllReadyIn.cons rfl (fun K hK => ?_) AllReadyIn.nil
          go_simp
          gi_wp2_with (refine hR.mono ?_; clear hR; rintro e w4 (⟨rfl, hj4, hk4⟩ | ⟨rfl, hx4⟩))
          · skip
            have K4 := K3.trans hk4
            obtain ⟨c0, c1, c2, c3, c4⟩ := (N1.kp K4).c
            obtain ⟨b0, b1, b2⟩ := (B1.kp K4).c
            refine wpAnyIn_take (i := 14) (v := ?v34) rfl rfl (by kernel_rfl) (by kernel_rfl) (by kernel_rfl) (fun _ _ _ h => h) ⟨Or.inl ⟨by rfl, ?_⟩, fun _ => rfl⟩ ?_
            rotate_left
            · (intro w; go_simp; try with_reducible rfl)
            refine wpAnyIn_take (i := 15) (v := ?v35) rfl rfl (by kernel_rfl) (by kernel_rfl) (by kernel_rfl) (fun _ _ _ h => h) ⟨Or.inl ⟨by rfl, ?_⟩, fun _ => rfl⟩ ?_
            rotate_left
            · (intro w; go_simp; try with_reducible rfl)
            refine wpAnyIn_take (i := 16) (v := ?v36) rfl rfl (by kernel_rfl) (by kernel_rfl) (by kernel_rfl) (fun _ _ _ h => h) ⟨Or.inl ⟨by rfl, ?_⟩, fun _ => rfl⟩ ?_
            rotate_left
            · (intro w; go_simp; try with_reducible rfl)
            refine wpAnyIn_take (i := 17) (v := ?v37) rfl rfl (by kernel_rfl) (by kernel_rfl) (by kernel_rfl) (fun _ _ _ h => h) ⟨Or.inl ⟨by rfl, ?_⟩, fun _ => rfl⟩ ?_
            rotate_left
            · (intro w; go_simp; try with_reducible rfl)
            refine wpAnyIn_take (i := 18) (v := ?v38) rfl rfl (by kernel_rfl) (by kernel_rfl) (by kernel_rfl) (fun _ _ _ h => h) ⟨Or.inl ⟨by rfl, ?_⟩, fun _ => rfl⟩ ?_
            rotate_left
            · (intro w; go_simp; try with_reducible rfl)
            refine wpAnyIn_take (i := 21) (v := ?v39) rfl rfl (by kernel_rfl) (by kernel_rfl) (by kernel_rfl) (fun _ _ _ h => h) ⟨Or.inl ⟨by rfl, ?_⟩, fun _ => rfl⟩ ?_
            rotate_left
            · (intro w; go_simp; try with_reducible rfl)
            refine wpAnyIn_ready (rs := [19, 20]) (by kernel_rfl) (by simp) ?_
            refine AllReadyIn.cons rfl (fun K hK => ?_) (AllReadyIn.cons rfl (fun K hK => ?_) AllReadyIn.nil)
            all_goals (go_simp; refine hK _ _ ?_; clear hK K)
            · skip
              refine wpAnyIn_ready (rs := [20]) (by kernel_rfl) (by simp) ?_
              refine AllReadyIn.cons rfl (fun K hK => ?_) AllReadyIn.nil
              (go_simp; refine hK _ _ ?_; clear hK K)
              refine wpAnyIn_ready (rs := [22]) (by kernel_rfl) (by simp) ?_
              refine AllReadyIn.cons rfl (fun K hK => ?_) AllReadyIn.nil
              go_simp
              gi_wp2_with (gi_at_call 63; refine (IR.out _ (KW.trans K4) hj4).mono ?_; clear IR; rintro e w5 ⟨r5, rfl, h5⟩)
              have HR : FromR J Jx pre (fromE tl.io first ++ v :: fromE tr.io first) W w5 r5 := by
                rcases h5 with ⟨h, hj, hk⟩ | ⟨h, q, hq, hx⟩
                · exact .inl ⟨h, by simpa [List.append_assoc] using hj, (KW.trans K4).trans hk⟩
                · obtain ⟨r, hr'⟩ := hq
                  exact .inr ⟨h, fromE tl.io first ++ v :: q, ⟨r, by simp [← hr']⟩, by simpa [List.append_assoc] using hx⟩
              refine wpAnyIn_take (i := 23) (v := ?v40) rfl rfl (by kernel_rfl) (by kernel_rfl) (by kernel_rfl) (fun _ _ _ h => h) ⟨Or.inl ⟨by rfl, ?_⟩, fun _ => rfl⟩ ?_
              rotate_left
              · (intro w; go_simp; try with_reducible rfl)
              refine wpAnyIn_take (i := 24) (v := ?v41) rfl rfl (by kernel_rfl) (by kernel_rfl) (by kernel_rfl) (fun _ _ _ h => h) ⟨Or.inl ⟨by rfl, ?_⟩, fun _ => rfl⟩ ?_
              rotate_left
              · (intro w; go_simp; try with_reducible rfl)
              refine wpAnyIn_done (by kernel_rfl) ?_ _
              go_wp2_with fail
              go_ret
              exact ⟨_, rfl, HR⟩
            · skip
              refine wpAnyIn_ready (rs := [19]) (by kernel_rfl) (by simp) ?_
              refine AllReadyIn.cons rfl (fun K hK => ?_) AllReadyIn.nil
              (go_simp; refine hK _ _ ?_; clear hK K)
              refine wpAnyIn_ready (rs := [22]) (by kernel_rfl) (by simp) ?_
              refine AllReadyIn.cons rfl (fun K hK => ?_) AllReadyIn.nil
              go_simp
              gi_wp2_with (gi_at_call 63; refine (IR.out _ (KW.trans K4) hj4).mono ?_; clear IR; rintro e w5 ⟨r5, rfl, h5⟩)
              have HR : FromR J Jx pre (fromE tl.io first ++ v :: fromE tr.io first) W w5 r5 := by
                rcases h5 with ⟨h, hj, hk⟩ | ⟨h, q, hq, hx⟩
                · exact .inl ⟨h, by simpa [List.append_assoc] using hj, (KW.trans K4).trans hk⟩
                · obtain ⟨r, hr'⟩ := hq
                  exact .inr ⟨h, fromE tl.io first ++ v :: q, ⟨r, by simp [← hr']⟩, by simpa [List.append_assoc] using hx⟩
              refine wpAnyIn_take (i := 23) (v := ?v42) rfl rfl (by kernel_rfl) (by kernel_rfl) (by kernel_rfl) (fun _ _ _ h => h) ⟨Or.inl ⟨by rfl, ?_⟩, fun _ => rfl⟩ ?_
              rotate_left
              · (intro w; go_simp; try with_reducible rfl)
              refine wpAnyIn_take (i := 24) (v := ?v43) rfl rfl (by kernel_rfl) (by kernel_rfl) (by kernel_rfl) (fun _ _ _ h => h) ⟨Or.inl ⟨by rfl, ?_⟩, fun _ => rfl⟩ ?_
              rotate_left
              · (intro w; go_simp; try with_reducible rfl)
              refine wpAnyIn_done (by kernel_rfl) ?_ _
              go_wp2_with fail
              go_ret
              exact ⟨_, rfl, HR⟩
          · skip
            have HR : FromR J Jx pre (fromE tl.io first ++ v :: fromE tr.io first) W w4 false := .inr ⟨rfl, fromE tl.io first ++ [v], ⟨fromE tr.io first, by simp⟩, by simpa [List.append_assoc] using hx4⟩
            refine wpAnyIn_take (i := 14) (v := ?v44) rfl rfl (by kernel_rfl) (by kernel_rfl) (by kernel_rfl) (fun _ _ _ h => h) ⟨Or.inl ⟨by rfl, ?_⟩, fun _ => rfl⟩ ?_
            rotate_left
            · (intro w; go_simp; try with_reducible rfl)
            refine wpAnyIn_take (i := 15) (v := ?v45) rfl rfl (by kernel_rfl) (by kernel_rfl) (by kernel_rfl) (fun _ _ _ h => h) ⟨Or.inl ⟨by rfl, ?_⟩, fun _ => rfl⟩ ?_
            rotate_left
            · (intro w; go_simp; try with_reducible rfl)
            refine wpAnyIn_take (i := 16) (v := undef) rfl rfl (by kernel_rfl) (by kernel_rfl) (by kernel_rfl) (fun _ _ _ h => h) ⟨Or.inr ⟨by kernel_rfl, rfl⟩, fun _ => rfl⟩ ?_
            refine wpAnyIn_take (i := 17) (v := undef) rfl rfl (by kernel_rfl) (by kernel_rfl) (by kernel_rfl) (fun _ _ _ h => h) ⟨Or.inr ⟨by kernel_rfl, rfl⟩, fun _ => rfl⟩ ?_
            refine wpAnyIn_take (i := 18) (v := undef) rfl rfl (by kernel_rfl) (by kernel_rfl) (by kernel_rfl) (fun _ _ _ h => h) ⟨Or.inr ⟨by kernel_rfl, rfl⟩, fun _ => rfl⟩ ?_
            refine wpAnyIn_take (i := 19) (v := undef) rfl rfl (by kernel_rfl) (by kernel_rfl) (by kernel_rfl) (fun _ _ _ h => h) ⟨Or.inr ⟨by kernel_rfl, rfl⟩, fun _ => rfl⟩ ?_
            refine wpAnyIn_take (i := 20) (v := undef) rfl rfl (by kernel_rfl) (by kernel_rfl) (by kernel_rfl) (fun _ _ _ h => h) ⟨Or.inr ⟨by kernel_rfl, rfl⟩, fun _ => rfl⟩ ?_
            refine wpAnyIn_take (i := 21) (v := undef) rfl rfl (by kernel_rfl) (by kernel_rfl) (by kernel_rfl) (fun _ _ _ h => h) ⟨Or.inr ⟨by kernel_rfl, rfl⟩, fun _ => rfl⟩ ?_
            refine wpAnyIn_ready (rs := [22]) (by kernel_rfl) (by simp) ?_
            refine AllReadyIn.cons rfl (fun K hK => ?_) AllReadyIn.nil
            go_simp
            first | refine hK _ _ ?_ | (refine ⟨fun _ h => (by cases h), ?_⟩; go_simp; refine hK _ _ ?_)
            clear hK K
            refine wpAnyIn_take (i := 23) (v := ?v46) rfl rfl (by kernel_rfl) (by kernel_rfl) (by kernel_rfl) (fun _ _ _ h => h) ⟨Or.inl ⟨by rfl, ?_⟩, fun _ => rfl⟩ ?_
            rotate_left
            · (intro w; go_simp; try with_reducible rfl)
            refine wpAnyIn_take (i := 24) (v := ?v47) rfl rfl (by kernel_rfl) (by kernel_rfl) (by kernel_rfl) (fun _ _ _ h => h) ⟨Or.inl ⟨by rfl, ?_⟩, fun _ => rfl⟩ ?_
            rotate_left
            · (intro w; go_simp; try with_reducible rfl)
            refine wpAnyIn_done (by kernel_rfl) ?_ _
            go_wp2_with fail
            go_ret
            exact ⟨_, rfl, HR⟩
        · skip
          obtain ⟨q, hq, hx⟩ := h3
          have HR : FromR J Jx pre (fromE tl.io first ++ v :: fromE tr.io first) W w3 false := .inr ⟨rfl, q, hq.trans (List.prefix_append _ _), hx⟩
          refine wpAnyIn_take (i := 7) (v := ?v48) rfl rfl (by kernel_rfl) (by kernel_rfl) (by kernel_rfl) (fun _ _ _ h => h) ⟨Or.inl ⟨by rfl, ?_⟩, fun _ => rfl⟩ ?_
          rotate_left
          · (intro w; go_simp; try with_reducible rfl)
          refine wpAnyIn_take (i := 8) (v := undef) rfl rfl (by kernel_rfl) (by kernel_rfl) (by kernel_rfl) (fun _ _ _ h => h) ⟨Or.inr ⟨by kernel_rfl, rfl⟩, fun _ => rfl⟩ ?_
          refine wpAnyIn_take (i := 9) (v := undef) rfl rfl (by kernel_rfl) (by kernel_rfl) (by kernel_rfl) (fun _ _ _ h => h) ⟨Or.inr ⟨by kernel_rfl, rfl⟩, fun _ => rfl⟩ ?_
          refine wpAnyIn_take (i := 10) (v := undef) rfl rfl (by kernel_rfl) (by kernel_rfl) (by kernel_rfl) (fun _ _ _ h => h) ⟨Or.inr ⟨by kernel_rfl, rfl⟩, fun _ => rfl⟩ ?_
          refine wpAnyIn_take (i := 11) (v := undef) rfl rfl (by kernel_rfl) (by kernel_rfl) (by kernel_rfl) (fun _ _ _ h => h) ⟨Or.inr ⟨by kernel_rfl, rfl⟩, fun _ => rfl⟩ ?_
          refine wpAnyIn_take (i := 12) (v := undef) rfl rfl (by kernel_rfl) (by kernel_rfl) (by kernel_rfl) (fun _ _ _ h => h) ⟨Or.inr ⟨by kernel_rfl, rfl⟩, fun _ => rfl⟩ ?_
          refine wpAnyIn_ready (rs := [13]) (by kernel_rfl) (by simp) ?_
          refine AllReadyIn.cons rfl (fun K hK => ?_) AllReadyIn.nil
          go_simp
          first | refine hK _ _ ?_ | (refine ⟨fun _ h => (by cases h), ?_⟩; go_simp; refine hK _ _ ?_)
          clear hK K
          refine wpAnyIn_take (i := 14) (v := ?v49) rfl rfl (by kernel_rfl) (by kernel_rfl) (by kernel_rfl) (fun _ _ _ h => h) ⟨Or.inl ⟨by rfl, ?_⟩, fun _ => rfl⟩ ?_
          rotate_left
          · (intro w; go_simp; try with_reducible rfl)
          refine wpAnyIn_take (i := 15) (v := ?v50) rfl rfl (by kernel_rfl) (by kernel_rfl) (by kernel_rfl) (fun _ _ _ h => h) ⟨Or.inl ⟨by rfl, ?_⟩, fun _ => rfl⟩ ?_
          rotate_left
          · (intro w; go_simp; try with_reducible rfl)
          refine wpAnyIn_take (i := 16) (v := undef) rfl rfl (by kernel_rfl) (by kernel_rfl) (by kernel_rfl) (fun _ _ _ h => h) ⟨Or.inr ⟨by kernel_rfl, rfl⟩, fun _ => rfl⟩ ?_
          refine wpAnyIn_take (i := 17) (v := undef) rfl rfl (by kernel_rfl) (by kernel_rfl) (by kernel_rfl) (fun _ _ _ h => h) ⟨Or.inr ⟨by kernel_rfl, rfl⟩, fun _ => rfl⟩ ?_
          refine wpAnyIn_take (i := 18) (v := undef) rfl rfl (by kernel_rfl) (by kernel_rfl) (by kernel_rfl) (fun _ _ _ h => h) ⟨Or.inr ⟨by kernel_rfl, rfl⟩, fun _ => rfl⟩ ?_
          refine wpAnyIn_take (i := 19) (v := undef) rfl rfl (by kernel_rfl) (by kernel_rfl) (by kernel_rfl) (fun _ _ _ h => h) ⟨Or.inr ⟨by kernel_rfl, rfl⟩, fun _ => rfl⟩ ?_
          refine wpAnyIn_take (i := 20) (v := undef) rfl rfl (by kernel_rfl) (by kernel_rfl) (by kernel_rfl) (fun _ _ _ h => h) ⟨Or.inr ⟨by kernel_rfl, rfl⟩, fun _ => rfl⟩ ?_
          refine wpAnyIn_take (i := 21) (v := undef) rfl rfl (by kernel_rfl) (by kernel_rfl) (by kernel_rfl) (fun _ _ _ h => h) ⟨Or.inr ⟨by kernel_rfl, rfl⟩, fun _ => rfl⟩ ?_
          refine wpAnyIn_ready (rs := [22]) (by kernel_rfl) (by simp) ?_
          refine AllReadyIn.cons rfl (fun K hK => ?_) AllReadyIn.nil
          go_simp
          first | refine hK _ _ ?_ | (refine ⟨fun _ h => (by cases h), ?_⟩; go_simp; refine hK _ _ ?_)
          clear hK K
          refine wpAnyIn_take (i := 23) (v := ?v51) rfl rfl (by kernel_rfl) (by kernel_rfl) (by kernel_rfl) (fun _ _ _ h => h) ⟨Or.inl ⟨by rfl, ?_⟩, fun _ => rfl⟩ ?_
          rotate_left
          · (intro w; go_simp; try with_reducible rfl)
          refine wpAnyIn_take (i := 24) (v := ?v52) rfl rfl (by kernel_rfl) (by kernel_rfl) (by kernel_rfl) (fun _ _ _ h => h) ⟨Or.inl ⟨by rfl, ?_⟩, fun _ => rfl⟩ ?_
          rotate_left
          · (intro w; go_simp; try with_reducible rfl)
          refine wpAnyIn_done (by kernel_rfl) ?_ _
          go_wp2_with fail
          go_ret
          exact ⟨_, rfl, HR⟩
end Go.Proofs.Ytnkflmimnpolcaa
