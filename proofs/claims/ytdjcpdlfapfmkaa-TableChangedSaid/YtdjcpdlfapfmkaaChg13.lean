/- A row of bytes of a text's own that is written; one byte of a sealed text that is changed. -/
import Derived.Test.YtdjcpdlfapfmkaaAl13
import Derived.OpenShut
import Derived.IntWalk
namespace Go.Proofs.Ytdjcpdlfapfmkaa
set_option maxRecDepth 100000
open Go.RowKit Go.Lib Go.ChangeShapes

/-- Block g is a row of 'cap' bytes of which the first are bs; nothing in it is frozen. -/
def Rw (w : World) (g cap : Nat) (bs : List UInt8) : Prop :=
  ∃ cur fz, w.heap[g]? = some (.cells cur tB fz) ∧ cap ≤ fz.1 ∧ bs.length ≤ cap ∧ cur.size = cap ∧ cur.toList.take bs.length = bs.map fun b => Value.int .u8 b.toNat

theorem Rw.cell {w : World} {g cap : Nat} {bs : List UInt8} (h : Rw w g cap bs) (j : Nat) (hj : j < bs.length) : w.cell? ⟨g, j, none⟩ = some (.int .u8 (bs[j].toNat : Int)) := by
  obtain ⟨cur, fz, hg, _, _, _, ht⟩ := h
  rw [cell_of hg j]
  have h2 : (bs.map fun b => Value.int .u8 b.toNat)[j]? = some (.int .u8 (bs[j].toNat : Int)) := by simp [hj]
  rw [← ht, List.getElem?_take, if_pos hj] at h2
  simpa using h2
theorem Rw.free {w : World} {g cap : Nat} {bs : List UInt8} (h : Rw w g cap bs) (j : Nat) (hj : j < bs.length) : w.frozen? ⟨g, j, none⟩ = false := by
  obtain ⟨cur, ⟨lo, hi⟩, hg, hf, hl, _, _⟩ := h
  simp only [World.frozen?, hg, Bool.and_eq_false_iff, decide_eq_false_iff_not]
  simp only [] at hf
  left; omega
theorem Rw.of_heap {w w' : World} {g cap : Nat} {bs : List UInt8} (h : Rw w g cap bs) (hh : w'.heap[g]? = w.heap[g]?) : Rw w' g cap bs := by
  obtain ⟨cur, fz, hg, r⟩ := h
  exact ⟨cur, fz, hh.trans hg, r⟩
theorem Rw.lt {w : World} {g cap : Nat} {bs : List UInt8} (h : Rw w g cap bs) : g < w.heap.size := by
  obtain ⟨cur, fz, hg, _⟩ := h
  exact lt_of_block hg
theorem Rw.touch {w w' : World} {g cap : Nat} {bs : List UInt8} (h : Rw w g cap bs) (ht : Touch [] w w') : Rw w' g cap bs := h.of_heap (ht.block g h.lt (by simp))
theorem Rw.put {w : World} {g cap : Nat} {bs : List UInt8} (h : Rw w g cap bs) (j : Nat) (c : UInt8) : Rw (w.setCell ⟨g, j, none⟩ (.int .u8 (c.toNat : Int))) g cap (bs.set j c) := by
  obtain ⟨cur, fz, hg, hf, hl, hc, ht⟩ := h
  refine ⟨_, fz, heap_set hg _, hf, by simpa using hl, by simpa using hc, ?_⟩
  rw [Array.toList_setIfInBounds, List.length_set, List.take_set, ht, List.map_set]
theorem Rw.back {w : World} {g cap : Nat} {bs : List UInt8} (h : Rw w g cap bs) (n : Nat) (hn : n = bs.length) :
    (convert 69 9 (.slice (some ⟨g, 0, none⟩) n cap)).run Try.prog w = .ok (.string ⟨bs.toArray⟩) w := by
  subst hn
  exact run_convert_bytes_back w 69 9 tB ⟨g, 0, none⟩ cap bs rfl rfl rfl fun j hj => by
    rw [show (⟨g, 0, none⟩ : Addr).add j = ⟨g, j, none⟩ from by unfold Addr.add; split <;> simp_all]
    exact h.cell j hj
theorem rw_bytes (w : World) (s : ByteArray) : Rw (bytesWorld w tB s) w.heap.size (grownCap w s.size 0 tB) s.data.toList := by
  have hge := grownCap_ge w s.size 0 tB
  have hsz : (bytesCells w tB s).size = grownCap w s.size 0 tB := by
    have : s.data.size = s.size := rfl
    simp [bytesCells, this]; omega
  have hlen : s.data.toList.length = s.size := by simp
  refine ⟨_, _, bytesWorld_at_new w tB s, ?_, by rw [hlen]; exact hge, hsz, ?_⟩
  · simp only [hsz]; omega
  · simp only [bytesCells, Array.toList_append]
    rw [List.take_left' (by simp)]
    simp

/-- '[]byte(t)' at this world, its world under a name: a row. -/
theorem conv_rw (s : ByteArray) (w : World) : ∃ (W : World) (cp : Nat), Hid (Touch [] w W ∧ Rw W w.heap.size cp s.data.toList) ∧
    (convert 9 69 (.string s)).run Try.prog w = .ok (.slice (some ⟨w.heap.size, 0, none⟩) s.size cp) W ∧ (convert 69 9 (.slice (some ⟨w.heap.size, 0, none⟩) s.size cp)).run Try.prog W = .ok (.string s) W :=
  ⟨_, _, ⟨touch_bytes w tB s, rw_bytes w s⟩, Go.Lib.run_convert_string_bytes (P := Try.prog) w 9 69 tB s rfl rfl rfl, (rw_bytes w s).back _ (list_len s).symm⟩

theorem four_inj {m n : Nat} (hm : m < 4294967296) (hn : n < 4294967296) (h : four m = four n) : m = n := by
  unfold four at h
  simp only [List.cons.injEq, and_true] at h
  obtain ⟨h0, h1, h2, h3⟩ := h
  have e0 := congrArg UInt8.toNat h0
  have e1 := congrArg UInt8.toNat h1
  have e2 := congrArg UInt8.toNat h2
  have e3 := congrArg UInt8.toNat h3
  simp only [UInt8.toNat_ofNat'] at e0 e1 e2 e3
  omega

/-- One byte that is changed is told. -/
theorem open_changed (s : ByteArray) (i : Nat) (c : UInt8) (hi : i < (sealed s).data.toList.length) (hc : c ≠ (sealed s).data.toList[i]) (t : ByteArray) (ht : t.data.toList = (sealed s).data.toList.set i c) :
    openOf (t.extract 0 4) (t.extract 4 t.size) = .tuple #[.string ⟨#[]⟩, .int .i64 7] := by
  unfold openOf
  rw [if_neg]
  intro h
  have e1 : (t.extract 0 4).data.toList = t.data.toList.take 4 := by rw [extract_data]; rfl
  have e2 : (t.extract 4 t.size).data.toList = t.data.toList.drop 4 := by rw [extract_data, List.take_of_length_le (by rw [List.length_drop, list_len]; omega)]
  have hp : t.data.toList.take 4 = four (crc (t.data.toList.drop 4)) := by rw [← e1, ← e2, h]
  rw [ht] at hp
  have hl : (sealed s).data.toList.length = s.size + 4 := by rw [list_len, sealed_size]
  clear e1 e2 ht h t
  generalize hL : (sealed s).data.toList = L at *
  have hsl := sealed_list s
  rw [hL] at hsl
  subst hsl
  have hf := four_length (crc s.data.toList)
  rcases Nat.lt_or_ge i 4 with h4 | h4
  · have hf2 : ((four (crc s.data.toList)).set i c).length = 4 := by rw [List.length_set]; exact hf
    rw [List.set_append_left _ _ (by omega), List.take_left' hf2, List.drop_left' hf2] at hp
    rw [List.getElem_append_left (by omega)] at hc
    apply hc
    have := congrArg (fun l : List UInt8 => l[i]?) hp
    rw [List.getElem?_set_self (by omega), List.getElem?_eq_getElem (by omega)] at this
    simpa using this
  · have hi2 : i - 4 < s.data.toList.length := by rw [List.length_append] at hi; omega
    rw [List.set_append_right _ _ (by omega), List.take_left' hf, List.drop_left' hf, hf] at hp
    rw [List.getElem_append_right (by omega)] at hc
    simp only [hf] at hc
    have hcr := four_inj (crc_lt _) (crc_lt _) (by simpa using hp)
    apply hc
    have hd1 : s.data.toList = s.data.toList.take (i - 4) ++ s.data.toList[i - 4] :: s.data.toList.drop (i - 4 + 1) := by
      rw [← List.drop_eq_getElem_cons hi2, List.take_append_drop]
    have hd2 : s.data.toList.set (i - 4) c = s.data.toList.take (i - 4) ++ c :: s.data.toList.drop (i - 4 + 1) := by
      rw [List.set_eq_take_append_cons_drop, if_pos hi2]
    rw [hd2] at hcr
    conv at hcr => lhs; rw [hd1]
    exact (crc_changed _ _ _ _ hcr).symm
theorem xor_u8 (c d : UInt8) : bits .xor .u8 (c.toNat : Int) (d.toNat : Int) = ((c ^^^ d).toNat : Int) := by
  have h1 : BitVec.ofInt IntKind.u8.bits (c.toNat : Int) = c.toBitVec := by
    show BitVec.ofInt 8 (c.toNat : Int) = c.toBitVec
    simp
  have h2 : BitVec.ofInt IntKind.u8.bits (d.toNat : Int) = d.toBitVec := by
    show BitVec.ofInt 8 (d.toNat : Int) = d.toBitVec
    simp
  have hl := (c ^^^ d).toNat_lt
  unfold bits
  simp only []
  rw [h1, h2]
  show IntKind.u8.wrap (((c ^^^ d).toNat : Nat) : Int) = _
  exact IntWalk.u8_in _ (by omega)

theorem set_size (t : ByteArray) (i : Nat) (c : UInt8) : (⟨(t.data.toList.set i c).toArray⟩ : ByteArray).size = t.size := by
  rw [← list_len]
  simp


theorem i64_range {x : Int} (h : (Lit.int .i64 x).wf = true) : -9223372036854775808 ≤ x ∧ x ≤ 9223372036854775807 := by
  have e1 : IntKind.i64.min = -9223372036854775808 := rfl
  have e2 : IntKind.i64.max = 9223372036854775807 := rfl
  simp only [Lit.wf, e1, e2, Bool.and_eq_true, decide_eq_true_eq] at h
  exact h
end Go.Proofs.Ytdjcpdlfapfmkaa
