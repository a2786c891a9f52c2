/- The laws' own number and value: a number as bytes, and back. -/
import Derived.Test.YtmaainnfflapiaaROut
import Derived.Test.YtmaainnfflapiaaRefIn
import Derived.Test.YtmaainnfflapiaaChkb
namespace Go.Proofs.Ytmaainnfflapiaa
open Go.RowKit Go.Lib
set_option maxRecDepth 100000

theorem touch_blk0 {F : List Nat} {w w' : World} {b : Nat} {cs : Array Value} {ty : TypeId} {fz : Nat × Nat} (h : Touch F w w') (hb : w.heap[b]? = some (.cells cs ty fz)) (hn : b ∉ F := by simp) : w'.heap[b]? = some (.cells cs ty fz) := (h.block b (lt_of_block hb) hn).trans hb
theorem rout_new (w : World) : RoutIs (w.alloc (.cells #[.slice none 0 0, .int .i64 0] tROut)) w.heap.size [w.heap.size] ([], 0) :=
  ⟨.slice none 0 0, heap_alloc_new w _, ⟨rfl, .inl ⟨rfl, rfl⟩⟩, by simp [Value.ownBlock], by simp [Value.ownBlock]⟩
theorem number_any (v : Nat) (w : World) (hv : v < 4294967296) :
    Calls Try.prog 25 #[.int .i64 v, .int .i64 4] w fun e w' => e = .returned (.string ⟨(be 4 v).toArray⟩) ∧ Touch [] w w' := by
  have hu : IntKind.u64.wrap (v : Int) = (v : Int) := by rw [IntKind.wrap_u64]; omega
  obtain ⟨W1, hW⟩ : ∃ W1, W1 = w.alloc (.cells #[.slice none 0 0, .int .i64 0] tROut) := ⟨_, rfl⟩
  have R := hid (rout_new w)
  rw [← hW] at R
  have T1 : Hid (Touch [] w W1) := by rw [hW]; exact hid ((Touch.refl [] w).alloc _)
  have C := hid (roNum_st w.heap.size [w.heap.size] ([], 0) 4 v W1 R.out (by decide) (by decide) (by decide))
  clear hv R
  simp only [tROut] at hW
  go_enter Try.func25, Try.ntmps25
  go_upto_region 2 with fail
  rw [← hW]
  clear hW
  go_wp2_with fail
  refine C.out.mono ?_
  rintro e w2 ⟨rfl, hp⟩
  rw [show pPut ([], 0) (be 4 v) = (be 4 v, 0) by simp [pPut]] at hp
  obtain ⟨G', ⟨va, h1, h2, _, _⟩, ht, _⟩ := hp
  have c0 : w2.cell? ⟨w.heap.size, 0, none⟩ = some va := cell_of h1 0
  have hconv : (convert 52 9 va).run Try.prog w2 = .ok (.string ⟨(be 4 v).toArray⟩) w2 := by
    obtain ⟨hl, ⟨rfl, hn⟩ | ⟨g, cap, cur, rfl, _, hg, hle, hm, hs, ht⟩⟩ := h2
    · exact absurd hn (by simp [be_length])
    · refine run_convert_bytes_back w2 52 9 tByte ⟨g, 0, none⟩ cap (be 4 v) rfl rfl rfl (Bts.cell ⟨cur, (0, 0), hg, .inl (Nat.zero_le _), hle, hm, by simpa using hs, ?_⟩)
      have : (be 4 v).length * 1 = (be 4 v).length := Nat.mul_one _
      rw [this] at ht
      exact ht
  have T2 := hid (T1.out.trans ht (fun f hf => .inr (by simp at hf; omega)))
  clear h1 h2 ht C T1
  go_wp2
  go_ret
  exact ⟨rfl, T2.out⟩
theorem value_any (s : ByteArray) (w : World) (hs : s.size = 4) :
    Calls Try.prog 28 #[.string s] w fun e w' => e = .returned (.int .i64 (val s.data.toList)) ∧ Touch [] w w' := by
  have hl := list_len s
  have hi : iTake (s.data.toList, 0) 4 = (s.data.toList, ([], 0)) := by
    rw [iTake_good _ _ (by omega), List.take_of_length_le (by omega), List.drop_eq_nil_of_le (by omega)]
  have hv : val s.data.toList < 4294967296 := by
    have h := val_lt s.data.toList
    rw [hl, hs] at h
    exact h
  have hw : IntKind.i64.wrap (val s.data.toList : Int) = (val s.data.toList : Int) := by rw [IntKind.wrap_i64]; omega
  have hsz : (s.size : Int) = 4 := by omega
  obtain ⟨W1, hW⟩ : ∃ W1, W1 = w.alloc (.cells #[.string s, .int .i64 0] tRIn) := ⟨_, rfl⟩
  have R : Hid (RefIs W1 w.heap.size (s.data.toList, 0)) := by rw [hW]; exact hid ⟨s, heap_alloc_new w _, fun _ => rfl⟩
  have T1 : Hid (Touch [] w W1) := by rw [hW]; exact hid ((Touch.refl [] w).alloc _)
  have C := hid (rNum_st w.heap.size (s.data.toList, 0) 4 W1 R.out (by decide) (by simp only []; omega))
  rw [hi] at C
  simp only [] at C
  generalize val s.data.toList = n at *
  clear hi hl hv R hs
  simp only [tRIn] at hW
  go_enter Try.func28, Try.ntmps28
  go_upto_region 2 with fail
  rw [← hW]
  clear hW
  go_wp2_with (go_at_call 64; refine C.out.mono ?_; rintro e w2 ⟨rfl, hp⟩)
  go_ret
  exact ⟨rfl, T1.out.trans hp.2 (fun f hf => .inr (by simp at hf; omega))⟩
end Go.Proofs.Ytmaainnfflapiaa
