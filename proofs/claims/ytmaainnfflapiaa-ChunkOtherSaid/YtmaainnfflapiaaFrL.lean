/- frame's own small functions: a number's bytes, a sum's bytes. -/
import Derived.Test.YtmaainnfflapiaaNum8
import Derived.Test.YtmaainnfflapiaaOutd
import Derived.Test.YtmaainnfflapiaaInb
import Derived.Test.YtmaainnfflapiaaChk
namespace Go.Proofs.Ytmaainnfflapiaa
open Go.RowKit Go.Lib
set_option maxRecDepth 100000

theorem out_new (w : World) : OutIs (w.alloc (.cells #[.pointer none, .int .i64 0, .int .i64 0] tOut)) w.heap.size [w.heap.size] ([], 0) := .inl ⟨rfl, .inl ⟨heap_alloc_new w _, rfl, rfl⟩⟩

theorem laid_any (v : Nat) (w : World) (hv : v < 4294967296) :
    Calls Try.prog 62 #[.int .i64 v] w fun e w' => e = .returned (.string ⟨(be 4 v).toArray⟩) ∧ Touch [] w w' := by
  obtain ⟨W1, hW⟩ : ∃ W1, W1 = w.alloc (.cells #[.pointer none, .int .i64 0, .int .i64 0] tOut) := ⟨_, rfl⟩
  have R := hid (out_new w)
  rw [← hW] at R
  have T1 : Hid (Touch [] w W1) := by rw [hW]; exact hid ((Touch.refl [] w).alloc _)
  have C := hid (u32_st w.heap.size [w.heap.size] ([], 0) v W1 R.out (by decide))
  have hp : pSmall 4 ([], 0) (v : Int) = (be 4 v, 0) := by unfold pSmall; rw [if_neg (by omega)]; simp [pPut]
  rw [hp] at C
  have D := hid (fun F' w' (h : OutIs w' w.heap.size F' (be 4 v, 0)) => done_st w.heap.size F' (be 4 v, 0) w' h)
  rw [show pDone (be 4 v, 0) = .tuple #[.string ⟨(be 4 v).toArray⟩, .int .i64 0] from by unfold pDone; simp] at D
  generalize be 4 v = r at *
  clear hv R hp
  simp only [tOut] at hW
  go_enter Try.func62, Try.ntmps62
  go_upto_region 2 with fail
  rw [← hW]
  clear hW
  go_wp2_with (first
    | (go_at_call 83; refine C.out.mono ?_; rintro e w2 ⟨rfl, hp⟩; (have P2 := hid hp); clear hp)
    | (go_at_call 59; (obtain ⟨F', o2, t2, f2⟩ := P2.out); refine (D.out F' _ o2).mono ?_; rintro e w3 ⟨rfl, n, rfl⟩; (have T2 := hid (T1.out.trans t2 (fun f hf => .inr (by simp at hf; omega)))); clear o2 t2 f2))
  go_ret
  exact ⟨rfl, T2.out.drewN n⟩
theorem texts_two (w : World) (a b : ByteArray) (ha : a.size ≤ maxLen) (hb : b.size ≤ maxLen) : TextsAt (w.alloc (.cells #[.string a, .string b] 9)) w.heap.size 0 [a, b] := by
  intro i h
  have hh := heap_alloc_new w (.cells #[.string a, .string b] 9)
  rw [Nat.zero_add, cell_of hh i]
  match i, h with
  | 0, _ => exact ⟨rfl, ha⟩
  | 1, _ => exact ⟨rfl, hb⟩
  | k + 2, hk => simp at hk; omega
theorem sum_bytes (a b : ByteArray) (w : World) (ha : a.size ≤ maxLen) (hb : b.size ≤ maxLen) :
    Calls Try.prog 63 #[.string a, .string b] w fun e w' => e = .returned (.string ⟨(be 4 (crc (a.data.toList ++ b.data.toList))).toArray⟩) ∧ Touch [] w w' := by
  have E := hid fun (w1 : World) => sum_some w1.heap.size 0 2 [a, b] (w1.alloc (.cells #[.string a, .string b] 9)) (by simp) (texts_two w1 _ _ ha hb)
  have ec : cat [a, b] = a.data.toList ++ b.data.toList := by simp [cat]
  rw [ec] at E
  have hk := crc_lt (a.data.toList ++ b.data.toList)
  generalize crc (a.data.toList ++ b.data.toList) = k at *
  have L := hid fun (w1 : World) => laid_any k w1 hk
  have hw : IntKind.i64.wrap (k : Int) = (k : Int) := by rw [IntKind.wrap_i64]; omega
  generalize (be 4 k) = r at *
  clear ha hb ec hk
  simp only [List.length_cons, List.length_nil] at E
  go_enter Try.func63, Try.ntmps63
  go_wp2_with (first
    | (go_at_call 84; refine (E.out _).mono ?_; rintro e w1 ⟨rfl, t1⟩)
    | (go_at_call 62; refine (L.out _).mono ?_; rintro e w2 ⟨rfl, t2⟩))
  go_ret
  exact ⟨rfl, (((Touch.refl _ _).alloc _).trans t1 (by simp)).trans t2 (by simp)⟩
end Go.Proofs.Ytmaainnfflapiaa
