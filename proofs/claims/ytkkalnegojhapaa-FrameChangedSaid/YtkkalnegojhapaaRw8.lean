/- A row of bytes of a text's own that is written; a byte that is changed. -/
import Derived.Test.YtkkalnegojhapaaFrm8
import Derived.OpenShut
import Derived.IntWalk
namespace Go.Proofs.Ytkkalnegojhapaa
open Go.RowKit Go.Lib Go.ChangeShapes
set_option maxRecDepth 100000

/-- Block g is a row of 'cap' bytes of which the first are bs; nothing in it is frozen. -/
def Rw (w : World) (g cap : Nat) (bs : List UInt8) : Prop :=
  ∃ cur fz, w.heap[g]? = some (.cells cur tByte fz) ∧ cap ≤ fz.1 ∧ bs.length ≤ cap ∧ cur.size = cap ∧ cur.toList.take bs.length = bs.map fun b => Value.int .u8 b.toNat

theorem Rw.cell {w : World} {g cap : Nat} {bs : List UInt8} (h : Rw w g cap bs) (j : Nat) (hj : j < bs.length) : w.cell? ⟨g, j, none⟩ = some (.int .u8 (bs[j].toNat : Int)) := by
  obtain ⟨cur, fz, hg, _, _, _, ht⟩ := h
  rw [cell_of hg j]
  have h2 : (bs.map fun b => Value.int .u8 b.toNat)[j]? = some (.int .u8 (bs[j].toNat : Int)) := by simp [hj]
  rw [← ht, List.getElem?_take, if_pos hj] at h2
  simpa using h2
theorem Rw.free {w : World} {g cap : Nat} {bs : List UInt8} (h : Rw w g cap bs) (j : Nat) (hj : j < bs.length) : w.frozen? ⟨g, j, none⟩ = false := by
  obtain ⟨cur, ⟨lo, hi⟩, hg, hf, hl, _, _⟩ := h
  simp only [World.frozen?, hg, Bool.and_eq_false_iff, decide_eq_false_iff_not]
  simp only [] at hf
  left; omega
theorem Rw.of_heap {w w' : World} {g cap : Nat} {bs : List UInt8} (h : Rw w g cap bs) (hh : w'.heap[g]? = w.heap[g]?) : Rw w' g cap bs := by
  obtain ⟨cur, fz, hg, r⟩ := h
  exact ⟨cur, fz, hh.trans hg, r⟩
theorem Rw.lt {w : World} {g cap : Nat} {bs : List UInt8} (h : Rw w g cap bs) : g < w.heap.size := by
  obtain ⟨cur, fz, hg, _⟩ := h
  exact lt_of_block hg
theorem Rw.touch {w w' : World} {g cap : Nat} {bs : List UInt8} (h : Rw w g cap bs) (ht : Touch [] w w') : Rw w' g cap bs := h.of_heap (ht.block g h.lt (by simp))
theorem Rw.put {w : World} {g cap : Nat} {bs : List UInt8} (h : Rw w g cap bs) (j : Nat) (c : UInt8) : Rw (w.setCell ⟨g, j, none⟩ (.int .u8 (c.toNat : Int))) g cap (bs.set j c) := by
  obtain ⟨cur, fz, hg, hf, hl, hc, ht⟩ := h
  refine ⟨_, fz, heap_set hg _, hf, by simpa using hl, by simpa using hc, ?_⟩
  rw [Array.toList_setIfInBounds, List.length_set, List.take_set, ht, List.map_set]
theorem Rw.back {w : World} {g cap : Nat} {bs : List UInt8} (h : Rw w g cap bs) (n : Nat) (hn : n = bs.length) :
    (convert 46 9 (.slice (some ⟨g, 0, none⟩) n cap)).run Try.prog w = .ok (.string ⟨bs.toArray⟩) w := by
  subst hn
  exact run_convert_bytes_back w 46 9 tByte ⟨g, 0, none⟩ cap bs rfl rfl rfl fun j hj => by
    rw [show (⟨g, 0, none⟩ : Addr).add j = ⟨g, j, none⟩ from by unfold Addr.add; split <;> simp_all]
    exact h.cell j hj
theorem rw_bytes (w : World) (s : ByteArray) : Rw (bytesWorld w tByte s) w.heap.size (grownCap w s.size 0 tByte) s.data.toList := by
  have hge := grownCap_ge w s.size 0 tByte
  have hsz : (bytesCells w tByte s).size = grownCap w s.size 0 tByte := by
    have : s.data.size = s.size := rfl
    simp [bytesCells, this]; omega
  have hlen : s.data.toList.length = s.size := by simp
  refine ⟨_, _, bytesWorld_at_new w tByte s, ?_, by rw [hlen]; exact hge, hsz, ?_⟩
  · simp only [hsz]; omega
  · simp only [bytesCells, Array.toList_append]
    rw [List.take_left' (by simp)]
    simp

/-- '[]byte(t)' at this world, its world under a name: a row. -/
theorem conv_rw (s : ByteArray) (w : World) : ∃ (W : World) (cp : Nat), Hid (Touch [] w W ∧ Rw W w.heap.size cp s.data.toList) ∧
    (convert 9 46 (.string s)).run Try.prog w = .ok (.slice (some ⟨w.heap.size, 0, none⟩) s.size cp) W ∧ (convert 46 9 (.slice (some ⟨w.heap.size, 0, none⟩) s.size cp)).run Try.prog W = .ok (.string s) W :=
  ⟨_, _, ⟨touch_bytes w tByte s, rw_bytes w s⟩, Go.Lib.run_convert_string_bytes (P := Try.prog) w 9 46 tByte s rfl rfl rfl, (rw_bytes w s).back _ (list_len s).symm⟩

theorem xor_u8 (c d : UInt8) : bits .xor .u8 (c.toNat : Int) (d.toNat : Int) = ((c ^^^ d).toNat : Int) := by
  have h1 : BitVec.ofInt IntKind.u8.bits (c.toNat : Int) = c.toBitVec := by
    show BitVec.ofInt 8 (c.toNat : Int) = c.toBitVec
    simp
  have h2 : BitVec.ofInt IntKind.u8.bits (d.toNat : Int) = d.toBitVec := by
    show BitVec.ofInt 8 (d.toNat : Int) = d.toBitVec
    simp
  have hl := (c ^^^ d).toNat_lt
  unfold bits
  simp only []
  rw [h1, h2]
  show IntKind.u8.wrap (((c ^^^ d).toNat : Nat) : Int) = _
  exact IntWalk.u8_in _ (by omega)

theorem set_size (t : ByteArray) (i : Nat) (c : UInt8) : (⟨(t.data.toList.set i c).toArray⟩ : ByteArray).size = t.size := by
  rw [← list_len]
  simp


/-- A frame of which one byte is changed is none, or not that of the body. -/
theorem first_changed {l : List UInt8} {i : Nat} {c : UInt8} (hi : i < (frL l).length) (hc : c ≠ (frL l)[i]) (h : (firstOf ((frL l).set i c)).2.2 = 0) : (firstOf ((frL l).set i c)).1 ≠ l := by
  obtain ⟨m, e1, _, e3, _, _⟩ := first_ok h
  rw [e3]
  intro hm
  simp only [] at hm
  subst hm
  have hlen := congrArg List.length e1
  rw [List.length_append, List.length_set] at hlen
  have hd : ((frL m).set i c).drop (m.length + 12) = [] := List.eq_nil_of_length_eq_zero (by omega)
  rw [hd, List.append_nil] at e1
  have h1 := congrArg (fun q => q[i]?) e1
  rw [List.getElem?_set_self hi, List.getElem?_eq_getElem hi] at h1
  exact hc (Option.some.inj h1)
theorem last_changed {l : List UInt8} {i : Nat} {c : UInt8} (hi : i < (frL l).length) (hc : c ≠ (frL l)[i]) (h : (lastOf ((frL l).set i c)).2.2 = 0) : (lastOf ((frL l).set i c)).1 ≠ l := by
  obtain ⟨r, m, e1, _, e3⟩ := last_ok h
  rw [e3]
  intro hm
  simp only [] at hm
  subst hm
  have hlen := congrArg List.length e1
  rw [List.length_append, List.length_set] at hlen
  have hd : r = [] := List.eq_nil_of_length_eq_zero (by omega)
  rw [hd, List.nil_append] at e1
  have h1 := congrArg (fun q => q[i]?) e1
  rw [List.getElem?_set_self hi, List.getElem?_eq_getElem hi] at h1
  exact hc (Option.some.inj h1)
end Go.Proofs.Ytkkalnegojhapaa
