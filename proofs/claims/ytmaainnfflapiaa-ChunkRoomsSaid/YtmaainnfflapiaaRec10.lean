/- chunk's records: the bodies that stand behind the start. -/
import Derived.Test.YtmaainnfflapiaaBeg10
namespace Go.Proofs.Ytmaainnfflapiaa
open Go.RowKit Go.Lib
set_option maxRecDepth 100000

def RecPost (b : ByteArray) (w : World) (r : Ending) (w' : World) : Prop :=
  ∃ v, r = .returned (.tuple #[v, .int .i64 ((recOf b.data.toList).2 : Int)]) ∧ w'.ownsRow w.heap.size tStr 1 v (recOf b.data.toList).1.length (txtCells (recOf b.data.toList).1) ∧ Touch [] w w'
structure Rc (b : ByteArray) (w W : World) (v : Value) (a : Nat) (L : List (List UInt8)) : Prop where
  o : W.ownsRow w.heap.size tStr 1 v L.length (txtCells L)
  t : Touch [] w W
  le : a ≤ b.size
  n : 12 * L.length ≤ a
  e : recOf b.data.toList = (L ++ (recOf (b.data.toList.drop a)).1, a + (recOf (b.data.toList.drop a)).2)
theorem head_one {l : List UInt8} (h : Lib.hasPrefix l [1] = true) : l = 1 :: l.drop 1 := pre_form h
theorem head_not {l : List UInt8} (h : Lib.hasPrefix l [1] ≠ true) : l.head? ≠ some 1 := by
  intro e
  apply h
  cases l with
  | nil => cases e
  | cons c t =>
    simp at e
    subst e
    exact (pre_yes [1] t).1

set_option maxHeartbeats 1000000 in
theorem records_any (b : ByteArray) (w : World) (hs : b.size ≤ 1000000000) : Calls Try.prog 30 #[.string b] w (RecPost b w) := by
  have hl := list_len b
  have HS := hid hs
  have HL := hid hl
  obtain ⟨i0, hi, hz0, hz1, hz2⟩ := info_parts Try.infoStr
  clear hs hl
  go_enter Try.func30, Try.ntmps30
  go_wp2
  go_loopw [4, 5] (fun lv av wr => ∃ (L : List (List UInt8)) (a : Nat), av = .int .i64 a ∧ Rc b w wr lv a L) (fun _ av _ => b.size - (RowKit.intOf av).toNat)
  case atStart => exact ⟨[], 0, rfl, ⟨⟨rfl, .inl ⟨rfl, rfl⟩⟩, Touch.refl _ _, Nat.zero_le _, Nat.zero_le _, by simp⟩⟩
  case round =>
    obtain ⟨L, a, rfl, hM⟩ := hrel
    have M := hid hM
    clear hM
    have haI : (a : Int) ≤ b.size := by have := M.out.le; omega
    have ha0 : (0 : Int) ≤ a := by omega
    have sl := sl_from b a (a : Int) rfl M.out.le
    have e0 : (b.extract a b.size).data.toList = b.data.toList.drop a := by rw [extract_data]; exact List.take_of_length_le (by rw [List.length_drop]; have := HL.out; omega)
    have s0 : (b.extract a b.size).size ≤ 1000000000 := by rw [← list_len, e0, List.length_drop]; have := HS.out; have := HL.out; omega
    have F := hid (fun w => frFirst_any (b.extract a b.size) w s0)
    unfold FirstV at F
    rw [e0] at F
    generalize b.extract a b.size = X at *
    clear e0 s0
    by_cases he : (firstOf (b.data.toList.drop a)).2.2 = 0
    rotate_left
    · have CP := hid (fun m w => cutp_any (firstOf (b.data.toList.drop a)).1 m w)
      have hA := hid (M.out.e)
      rw [rec_stop (.inl he)] at hA
      simp only [List.append_nil, Nat.add_zero] at hA
      have q : ((firstOf (b.data.toList.drop a)).2.2 != 0) = true := by simpa using he
      generalize firstOf (b.data.toList.drop a) = R at *
      clear he
      go_wp2_with (first
        | (go_at_call 65; refine (F.out _).mono ?_; rintro e w1 ⟨rfl, t1⟩)
        | (go_at_call 66; refine (CP.out _ _).mono ?_; rintro e w2 ⟨rfl, rfl⟩))
      go_ret2
      refine ⟨u4, by rw [hA.out]; rfl, by rw [hA.out]; exact ownsS_same M.out.o t1, M.out.t.trans t1 (by simp)⟩
    · obtain ⟨l, _, hl4, hR, _, hlen⟩ := first_ok he
      by_cases hp : Lib.hasPrefix l [1] = true
      rotate_left
      · have hA := hid (M.out.e)
        rw [rec_stop (b := b.data.toList.drop a) (.inr (by rw [hR]; exact head_not hp))] at hA
        simp only [List.append_nil, Nat.add_zero] at hA
        have C := hid (fun (m : ByteArray) (w : World) (hm : m = bytesT [1]) => show Calls Try.prog 66 #[.string (bytesT l), .string m] w fun e w' => e = .returned (.tuple #[.string (bytesT (Lib.trimPrefix l [1])), .bool false]) ∧ w' = w by
          subst hm
          have h := cutp_any l (bytesT [1]) w
          rw [bytesT_toList, Bool.eq_false_iff.2 hp] at h
          exact h)
        rw [hR] at F
        simp only [] at F
        generalize ((l.length + 12 : Nat) : Int) = k at *
        generalize Lib.trimPrefix l [1] = r at *
        generalize bytesT l = x at *
        clear he hR hlen hl4 hp
        go_wp2_with (first
          | (go_at_call 65; refine (F.out _).mono ?_; rintro e w1 ⟨rfl, t1⟩)
          | (go_at_call 66; refine (C.out _ _ rfl).mono ?_; rintro e w2 ⟨rfl, rfl⟩))
        go_ret2
        refine ⟨u4, by rw [hA.out]; rfl, by rw [hA.out]; exact ownsS_same M.out.o t1, M.out.t.trans t1 (by simp)⟩
      · obtain ⟨r, hr⟩ : ∃ r, r = l.drop 1 := ⟨_, rfl⟩
        have hlr : l = 1 :: r := by rw [hr]; exact head_one hp
        have C := hid (fun (m : ByteArray) (w : World) (hm : m = bytesT [1]) => show Calls Try.prog 66 #[.string (bytesT l), .string m] w fun e w' => e = .returned (.tuple #[.string (bytesT r), .bool true]) ∧ w' = w by
          subst hm
          have h := cutp_any l (bytesT [1]) w
          rw [bytesT_toList, hp] at h
          have e : Lib.trimPrefix l [1] = r := by unfold Lib.trimPrefix; rw [if_pos hp, hr]; rfl
          rw [e] at h
          exact h)
        have hst := hid (rec_step (b := b.data.toList.drop a) (l := r) (u := l.length + 12) (by rw [hR, ← hlr]))
        rw [hR] at F
        rw [List.length_drop] at hlen
        simp only [] at F
        rw [List.drop_drop] at hst
        have HR := hid hlen
        clear he hR hlen hl4 hp hr hlr
        have hkl : 12 ≤ l.length + 12 := by omega
        generalize l.length + 12 = k at *
        generalize bytesT l = x at *
        have HK := hid hkl
        clear hkl
        have hbd : (a : Int) + (k : Int) ≤ 9223372036854775807 := by have := HR.out; have := HL.out; have := HS.out; omega
        go_wp2_with (first
          | (go_at_call 65; refine (F.out _).mono ?_; rintro e w1 ⟨rfl, t1⟩)
          | (go_at_call 66; refine (C.out _ _ rfl).mono ?_; rintro e w2 ⟨rfl, rfl⟩)
          | (at_builtin; refine wpList_append_lies _ rfl (.tmp 32) (.tmp 34) 37 rfl w.heap.size tStr i0 (.string ⟨#[]⟩) 1 16 Try.underlying37 hi hz0 hz1 hz2 rfl (by decide) u4 L.length (txtCells L) (by rfl) (ownsS_same M.out.o (t1.alloc _)) ⟨w2.heap.size, 0, none⟩ 1 1 [.string (bytesT r)] (by rfl) rfl (World.news_of_block (cs := #[.string (bytesT r)]) (t := tStr) (fr := (0, 0)) (heap_alloc_new w2 _)) (by intro u hu; simp at hu; subst hu; rfl) (by decide) (by have := M.out.n; have := M.out.le; have := HS.out; unfold maxLen; omega) (by have := M.out.n; have := M.out.le; have := HS.out; omega) (by have := M.out.t.size; have := t1.size; simp; omega) (w2.heap.size + 1) (by simp) ?_; intro g cap w4 hown hgrow hat hlt4))
        go_roundw
        case rel =>
          refine ⟨L ++ [r], a + k, by go_num, ?_⟩
          refine ⟨by rw [txtCells_snoc, List.length_append]; exact hown, ((M.out.t.trans t1 (by simp)).alloc _).grown hgrow (fun k hk => .inr (ownsS_blk M.out.o k hk)), by have := HR.out; have := HL.out; omega, by have := M.out.n; have := HK.out; simp; omega, ?_⟩
          rw [M.out.e, hst.out]
          simp only [List.append_assoc, List.singleton_append, Prod.mk.injEq, true_and]
          omega
        case measure => have := HR.out; have := HL.out; have := HK.out; simp [RowKit.intOf]; omega
end Go.Proofs.Ytmaainnfflapiaa
