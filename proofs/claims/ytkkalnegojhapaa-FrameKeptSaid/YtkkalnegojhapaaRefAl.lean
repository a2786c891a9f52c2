/- The laws' own Frames. -/
import Derived.Test.YtkkalnegojhapaaRefLs
import Derived.Test.YtkkalnegojhapaaLists
import Derived.Deep.AppendLies
namespace Go.Proofs.Ytkkalnegojhapaa
open Go.RowKit Go.Lib
set_option maxRecDepth 100000

abbrev tStr : TypeId := 9
def txtCells (L : List (List UInt8)) : List Value := L.map fun l => .string (bytesT l)
theorem txtCells_snoc (L : List (List UInt8)) (l : List UInt8) : txtCells (L ++ [l]) = txtCells L ++ [.string (bytesT l)] := by simp [txtCells]
theorem txtCells_len (L : List (List UInt8)) : (txtCells L).length = L.length := by simp [txtCells]
def AllPost (b : ByteArray) (w : World) (r : Ending) (w' : World) : Prop :=
  ∃ v, r = .returned (.tuple #[v, .int .i64 ((allOf b.data.toList).2 : Int)]) ∧ w'.ownsRow w.heap.size tStr 1 v (allOf b.data.toList).1.length (txtCells (allOf b.data.toList).1) ∧ Touch [] w w'
theorem ownsS_same {w w' : World} {base n : Nat} {v : Value} {xs : List Value} (h : w.ownsRow base tStr 1 v n xs) (t : Touch [] w w') : w'.ownsRow base tStr 1 v n xs := by
  obtain ⟨h1, h2 | ⟨g, cap, cur, hv, h3, h4, h5⟩⟩ := h
  · exact ⟨h1, .inl h2⟩
  · exact ⟨h1, .inr ⟨g, cap, cur, hv, h3, touch_blk0 t h4, h5⟩⟩
theorem ownsS_blk {w : World} {base n : Nat} {v : Value} {xs : List Value} (h : w.ownsRow base tStr 1 v n xs) : ∀ g, v.ownBlock = some g → base ≤ g := by
  intro g hg
  obtain ⟨_, ⟨rfl, _⟩ | ⟨g', cap, cur, rfl, h3, _, _⟩⟩ := h
  · simp [Value.ownBlock] at hg
  · simp [Value.ownBlock] at hg
    subst hg
    exact h3
structure Fr (b : ByteArray) (w W : World) (v : Value) (a : Nat) (L : List (List UInt8)) : Prop where
  o : W.ownsRow w.heap.size tStr 1 v L.length (txtCells L)
  t : Touch [] w W
  le : a ≤ b.size
  n : 12 * L.length ≤ a
  e : allOf b.data.toList = (L ++ (allOf (b.data.toList.drop a)).1, a + (allOf (b.data.toList.drop a)).2)

set_option maxHeartbeats 1000000 in
theorem refFrames_any (b : ByteArray) (w : World) (hs : b.size ≤ 1000000000) : Calls Try.prog 15 #[.string b] w (AllPost b w) := by
  have hl := list_len b
  have HS := hid hs
  have HL := hid hl
  obtain ⟨i0, hi, hz0, hz1, hz2⟩ := info_parts Try.infoStr
  clear hs hl
  go_enter Try.func15, Try.ntmps15
  go_wp2
  go_loopw [4, 5] (fun lv av wr => ∃ (L : List (List UInt8)) (a : Nat), av = .int .i64 a ∧ Fr b w wr lv a L) (fun _ av _ => b.size - (RowKit.intOf av).toNat)
  case atStart => exact ⟨[], 0, rfl, ⟨⟨rfl, .inl ⟨rfl, rfl⟩⟩, Touch.refl _ _, Nat.zero_le _, Nat.zero_le _, by simp⟩⟩
  case round =>
    obtain ⟨L, a, rfl, hM⟩ := hrel
    have M := hid hM
    clear hM
    have haI : (a : Int) ≤ b.size := by have := M.out.le; omega
    have ha0 : (0 : Int) ≤ a := by omega
    have sl := sl_from b a (a : Int) rfl M.out.le
    have e0 : (b.extract a b.size).data.toList = b.data.toList.drop a := by rw [extract_data]; exact List.take_of_length_le (by rw [List.length_drop]; have := HL.out; omega)
    have s0 : (b.extract a b.size).size ≤ 1000000000 := by rw [← list_len, e0, List.length_drop]; have := HS.out; have := HL.out; omega
    have F := hid (fun w => refFirst_any (b.extract a b.size) w s0)
    unfold FirstV at F
    rw [e0] at F
    generalize b.extract a b.size = X at *
    clear e0 s0
    by_cases he : (firstOf (b.data.toList.drop a)).2.2 = 0
    rotate_left
    · have hA := hid (M.out.e)
      rw [all_stop he] at hA
      simp only [List.append_nil, Nat.add_zero] at hA
      have q : ((firstOf (b.data.toList.drop a)).2.2 != 0) = true := by simpa using he
      generalize firstOf (b.data.toList.drop a) = R at *
      clear he
      go_wp2_with (go_at_call 12; refine (F.out _).mono ?_; rintro e w1 ⟨rfl, t1⟩)
      go_ret2
      refine ⟨u4, by rw [hA.out]; rfl, by rw [hA.out]; exact ownsS_same M.out.o t1, M.out.t.trans t1 (by simp)⟩
    · obtain ⟨l, _, hl4, hR, _, hlen⟩ := first_ok he
      have hst := hid (all_step he)
      rw [hR] at F hst
      rw [List.length_drop] at hlen
      simp only [] at F hst
      rw [List.drop_drop] at hst
      have HR := hid hlen
      have H4 := hid hl4
      clear he hR hlen hl4
      have hkl : 12 ≤ l.length + 12 := by omega
      generalize l.length + 12 = k at *
      have HK := hid hkl
      clear hkl
      have hbd : (a : Int) + (k : Int) ≤ 9223372036854775807 := by have := HR.out; have := HL.out; have := HS.out; omega
      go_wp2_with (first
        | (go_at_call 12; refine (F.out _).mono ?_; rintro e w1 ⟨rfl, t1⟩)
        | (at_builtin; refine wpList_append_lies _ rfl (.tmp 21) (.tmp 23) 37 rfl w.heap.size tStr i0 (.string ⟨#[]⟩) 1 16 Try.underlying37 hi hz0 hz1 hz2 rfl (by decide) u4 L.length (txtCells L) (by rfl) (ownsS_same M.out.o (t1.alloc _)) ⟨w1.heap.size, 0, none⟩ 1 1 [.string (bytesT l)] (by rfl) rfl (World.news_of_block (cs := #[.string (bytesT l)]) (t := tStr) (fr := (0, 0)) (heap_alloc_new w1 _)) (by intro u hu; simp at hu; subst hu; rfl) (by decide) (by have := M.out.n; have := M.out.le; have := HS.out; unfold maxLen; omega) (by have := M.out.n; have := M.out.le; have := HS.out; omega) (by have := M.out.t.size; have := t1.size; simp; omega) (w1.heap.size + 1) (by simp) ?_; intro g cap w4 hown hgrow hat hlt4))
      go_roundw
      case rel =>
        refine ⟨L ++ [l], a + k, by go_num, ?_⟩
        refine ⟨by rw [txtCells_snoc, List.length_append]; exact hown, ((M.out.t.trans t1 (by simp)).alloc _).grown hgrow (fun k hk => .inr (ownsS_blk M.out.o k hk)), by have := HR.out; have := HL.out; omega, by have := M.out.n; have := HK.out; simp; omega, ?_⟩
        rw [M.out.e, hst.out]
        simp only [List.append_assoc, List.singleton_append, Prod.mk.injEq, true_and]
        omega
      case measure => have := HR.out; have := HL.out; have := HK.out; simp [RowKit.intOf]; omega
end Go.Proofs.Ytkkalnegojhapaa
