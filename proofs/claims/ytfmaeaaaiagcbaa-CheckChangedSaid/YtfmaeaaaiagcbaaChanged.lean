/- The walk of CheckChanged. -/
import Derived.Test.YtfmaeaaaiagcbaaChkd
import Derived.OpenShut
namespace Go.Proofs.Ytfmaeaaaiagcbaa
open Go.RowKit Go.Lib Go.ChangeShapes

/-- Block g is a row of 'cap' bytes of which the first are bs; nothing in it is frozen. -/
def Rw (w : World) (g cap : Nat) (bs : List UInt8) : Prop :=
  ∃ cur fz, w.heap[g]? = some (.cells cur tB fz) ∧ cap ≤ fz.1 ∧ bs.length ≤ cap ∧ cur.size = cap ∧ cur.toList.take bs.length = bs.map fun b => Value.int .u8 b.toNat

theorem Rw.cell {w : World} {g cap : Nat} {bs : List UInt8} (h : Rw w g cap bs) (j : Nat) (hj : j < bs.length) : w.cell? ⟨g, j, none⟩ = some (.int .u8 (bs[j].toNat : Int)) := by
  obtain ⟨cur, fz, hg, _, _, _, ht⟩ := h
  rw [cell_of hg j]
  have h2 : (bs.map fun b => Value.int .u8 b.toNat)[j]? = some (.int .u8 (bs[j].toNat : Int)) := by simp [hj]
  rw [← ht, List.getElem?_take, if_pos hj] at h2
  simpa using h2
theorem Rw.free {w : World} {g cap : Nat} {bs : List UInt8} (h : Rw w g cap bs) (j : Nat) (hj : j < bs.length) : w.frozen? ⟨g, j, none⟩ = false := by
  obtain ⟨cur, ⟨lo, hi⟩, hg, hf, hl, _, _⟩ := h
  simp only [World.frozen?, hg, Bool.and_eq_false_iff, decide_eq_false_iff_not]
  simp only [] at hf
  left; omega
theorem Rw.of_heap {w w' : World} {g cap : Nat} {bs : List UInt8} (h : Rw w g cap bs) (hh : w'.heap[g]? = w.heap[g]?) : Rw w' g cap bs := by
  obtain ⟨cur, fz, hg, r⟩ := h
  exact ⟨cur, fz, hh.trans hg, r⟩
theorem Rw.lt {w : World} {g cap : Nat} {bs : List UInt8} (h : Rw w g cap bs) : g < w.heap.size := by
  obtain ⟨cur, fz, hg, _⟩ := h
  exact lt_of_block hg
theorem Rw.touch {w w' : World} {g cap : Nat} {bs : List UInt8} (h : Rw w g cap bs) (ht : Touch [] w w') : Rw w' g cap bs := h.of_heap (ht.block g h.lt (by simp))
theorem Rw.put {w : World} {g cap : Nat} {bs : List UInt8} (h : Rw w g cap bs) (j : Nat) (c : UInt8) : Rw (w.setCell ⟨g, j, none⟩ (.int .u8 (c.toNat : Int))) g cap (bs.set j c) := by
  obtain ⟨cur, fz, hg, hf, hl, hc, ht⟩ := h
  refine ⟨_, fz, heap_set hg _, hf, by simpa using hl, by simpa using hc, ?_⟩
  rw [Array.toList_setIfInBounds, List.length_set, List.take_set, ht, List.map_set]
theorem Rw.back {w : World} {g cap : Nat} {bs : List UInt8} (h : Rw w g cap bs) (n : Nat) (hn : n = bs.length) :
    (convert 35 9 (.slice (some ⟨g, 0, none⟩) n cap)).run Try.prog w = .ok (.string ⟨bs.toArray⟩) w := by
  subst hn
  exact run_convert_bytes_back w 35 9 tB ⟨g, 0, none⟩ cap bs rfl rfl rfl fun j hj => by
    rw [show (⟨g, 0, none⟩ : Addr).add j = ⟨g, j, none⟩ from by unfold Addr.add; split <;> simp_all]
    exact h.cell j hj
theorem rw_bytes (w : World) (s : ByteArray) : Rw (bytesWorld w tB s) w.heap.size (grownCap w s.size 0 tB) s.data.toList := by
  have hge := grownCap_ge w s.size 0 tB
  have hsz : (bytesCells w tB s).size = grownCap w s.size 0 tB := by
    have : s.data.size = s.size := rfl
    simp [bytesCells, this]; omega
  have hlen : s.data.toList.length = s.size := by simp
  refine ⟨_, _, bytesWorld_at_new w tB s, ?_, by rw [hlen]; exact hge, hsz, ?_⟩
  · simp only [hsz]; omega
  · simp only [bytesCells, Array.toList_append]
    rw [List.take_left' (by simp)]
    simp

/-- '[]byte(t)' at this world, its world under a name: a row. -/
theorem conv_rw (s : ByteArray) (w : World) : ∃ (W : World) (cp : Nat), Hid (Touch [] w W ∧ Rw W w.heap.size cp s.data.toList) ∧
    (convert 9 35 (.string s)).run Try.prog w = .ok (.slice (some ⟨w.heap.size, 0, none⟩) s.size cp) W ∧ (convert 35 9 (.slice (some ⟨w.heap.size, 0, none⟩) s.size cp)).run Try.prog W = .ok (.string s) W :=
  ⟨_, _, ⟨touch_bytes w tB s, rw_bytes w s⟩, Go.Lib.run_convert_string_bytes (P := Try.prog) w 9 35 tB s rfl rfl rfl, (rw_bytes w s).back _ (list_len s).symm⟩

theorem four_inj {m n : Nat} (hm : m < 4294967296) (hn : n < 4294967296) (h : four m = four n) : m = n := by
  unfold four at h
  simp only [List.cons.injEq, and_true] at h
  obtain ⟨h0, h1, h2, h3⟩ := h
  have e0 := congrArg UInt8.toNat h0
  have e1 := congrArg UInt8.toNat h1
  have e2 := congrArg UInt8.toNat h2
  have e3 := congrArg UInt8.toNat h3
  simp only [UInt8.toNat_ofNat'] at e0 e1 e2 e3
  omega

/-- One byte that is changed is told. -/
theorem open_changed (s : ByteArray) (i : Nat) (c : UInt8) (hi : i < (sealed s).data.toList.length) (hc : c ≠ (sealed s).data.toList[i]) (t : ByteArray) (ht : t.data.toList = (sealed s).data.toList.set i c) :
    openOf (t.extract 0 4) (t.extract 4 t.size) = .tuple #[.string ⟨#[]⟩, .int .i64 7] := by
  unfold openOf
  rw [if_neg]
  intro h
  have e1 : (t.extract 0 4).data.toList = t.data.toList.take 4 := by rw [extract_data]; rfl
  have e2 : (t.extract 4 t.size).data.toList = t.data.toList.drop 4 := by rw [extract_data, List.take_of_length_le (by rw [List.length_drop, list_len]; omega)]
  have hp : t.data.toList.take 4 = four (crc (t.data.toList.drop 4)) := by rw [← e1, ← e2, h]
  rw [ht] at hp
  have hl : (sealed s).data.toList.length = s.size + 4 := by rw [list_len, sealed_size]
  clear e1 e2 ht h t
  generalize hL : (sealed s).data.toList = L at *
  have hsl := sealed_list s
  rw [hL] at hsl
  subst hsl
  have hf := four_length (crc s.data.toList)
  rcases Nat.lt_or_ge i 4 with h4 | h4
  · have hf2 : ((four (crc s.data.toList)).set i c).length = 4 := by rw [List.length_set]; exact hf
    rw [List.set_append_left _ _ (by omega), List.take_left' hf2, List.drop_left' hf2] at hp
    rw [List.getElem_append_left (by omega)] at hc
    apply hc
    have := congrArg (fun l : List UInt8 => l[i]?) hp
    rw [List.getElem?_set_self (by omega), List.getElem?_eq_getElem (by omega)] at this
    simpa using this
  · have hi2 : i - 4 < s.data.toList.length := by rw [List.length_append] at hi; omega
    rw [List.set_append_right _ _ (by omega), List.take_left' hf, List.drop_left' hf, hf] at hp
    rw [List.getElem_append_right (by omega)] at hc
    simp only [hf] at hc
    have hcr := four_inj (crc_lt _) (crc_lt _) (by simpa using hp)
    apply hc
    have hd1 : s.data.toList = s.data.toList.take (i - 4) ++ s.data.toList[i - 4] :: s.data.toList.drop (i - 4 + 1) := by
      rw [← List.drop_eq_getElem_cons hi2, List.take_append_drop]
    have hd2 : s.data.toList.set (i - 4) c = s.data.toList.take (i - 4) ++ c :: s.data.toList.drop (i - 4 + 1) := by
      rw [List.set_eq_take_append_cons_drop, if_pos hi2]
    rw [hd2] at hcr
    conv at hcr => lhs; rw [hd1]
    exact (crc_changed _ _ _ _ hcr).symm

theorem changed_early (s : ByteArray) (at_ b : Int) (w : World) (h : (3000 : Int) < s.size ∨ ((s.size : Int) ≤ 3000 ∧ at_ < 0)) :
    Calls Try.prog 4 #[.string s, .int .i64 at_, .int .i64 b] w fun e w' => e = .returned (.bool true) ∧ Touch [] w w' := by
  have C0 := hid (alive_true w)
  rcases h with h1 | ⟨h1, h2⟩
  all_goals
    go_enter Try.func4, Try.ntmps4
    go_wp2_with (go_at_call 8; refine C0.out.mono ?_; rintro e w1 ⟨rfl, a1⟩)
    go_ret
    exact ⟨rfl, a1⟩

theorem xor_u8 (c d : UInt8) : bits .xor .u8 (c.toNat : Int) (d.toNat : Int) = ((c ^^^ d).toNat : Int) := by
  have h1 : BitVec.ofInt IntKind.u8.bits (c.toNat : Int) = c.toBitVec := by
    show BitVec.ofInt 8 (c.toNat : Int) = c.toBitVec
    simp
  have h2 : BitVec.ofInt IntKind.u8.bits (d.toNat : Int) = d.toBitVec := by
    show BitVec.ofInt 8 (d.toNat : Int) = d.toBitVec
    simp
  have hl := (c ^^^ d).toNat_lt
  unfold bits
  simp only []
  rw [h1, h2]
  show IntKind.u8.wrap (((c ^^^ d).toNat : Nat) : Int) = _
  exact IntWalk.u8_in _ (by omega)

theorem set_size (t : ByteArray) (i : Nat) (c : UInt8) : (⟨(t.data.toList.set i c).toArray⟩ : ByteArray).size = t.size := by
  rw [← list_len]
  simp

set_option maxHeartbeats 2000000 in
theorem changed_full (s t : ByteArray) (at_ i : Nat) (c d : UInt8) (b : Int) (w : World) (h1 : (s.size : Int) ≤ 3000) (h2 : (at_ : Int) ≤ 9223372036854775807) (HT : Hid (t = sealed s))
    (hmod : (at_ : Int) % (t.size : Int) = (i : Int)) (hi : i < t.data.toList.length) (hc : Hid (∀ h : i < t.data.toList.length, t.data.toList[i] = c)) (hd : b % 256 = (d.toNat : Int)) (u : ByteArray) (f : Int)
    (hO : ∀ t2 : ByteArray, t2.data.toList = t.data.toList.set i (c ^^^ d) → openOf (t2.extract 0 4) (t2.extract 4 t2.size) = .tuple #[.string u, .int .i64 f])
    (hcase : (((d.toNat : Int) == 0) = true) ∨ (((d.toNat : Int) == 0) = false ∧ u = ⟨#[]⟩ ∧ f = 7)) :
    Calls Try.prog 4 #[.string s, .int .i64 at_, .int .i64 b] w fun e w' => e = .returned (.bool true) ∧ Touch [] w w' := by
  have h0 : (0 : Int) ≤ at_ := by omega
  have C1 := hid (seal_any s w (by omega))
  rw [← HT.out] at C1
  have hts : (t.size : Int) = s.size + 4 := by rw [HT.out, sealed_size]; omega
  have CV := hid fun (w1 : World) => conv_rw t w1
  have q0 : ((t.size : Int) != (s.size : Int) + 4) = false := by rw [bne_eq_false_iff_eq]; exact hts
  have t4 : (4 : Int) ≤ t.size := by omega
  have tM : (t.size : Int) ≤ 4000 := by omega
  have Hi : Hid (i < t.data.toList.length) := hi
  have Hm := hid hmod
  have hi2 : (i : Int) < t.size := by rw [list_len] at hi; omega
  have hx : bits .xor .u8 (c.toNat : Int) (d.toNat : Int) = ((c ^^^ d).toNat : Int) := xor_u8 c d
  have HO := hid hO
  clear hts hi hO
  generalize c ^^^ d = c2 at *
  go_enter Try.func4, Try.ntmps4
  go_wp2_with (go_at_call 14; refine C1.out.mono ?_; rintro e w1 ⟨rfl, a1⟩; obtain ⟨W, cp, HW, hconv, hback⟩ := CV.out w1)
  have C2 := hid (open_long t W t4 (by omega))
  rw [HT.out, open_sealed, ← HT.out] at C2
  clear hback hconv
  refine C2.out.mono ?_
  rintro e w2 ⟨rfl, a2⟩
  have HR : Hid (Rw w2 w1.heap.size cp t.data.toList) := HW.out.2.touch a2
  have HT2 : Hid (Touch [] w w2) := (a1.trans HW.out.1 (by simp)).trans a2 (by simp)
  have hg : Hid (w.heap.size ≤ w1.heap.size) := a1.size
  have c0 := HR.out.cell i Hi.out
  have f0 := HR.out.free i Hi.out
  rw [hc.out Hi.out] at c0
  clear a1 a2 HW
  generalize w1.heap.size = g at *
  obtain ⟨w3, hw3⟩ : ∃ w3, w3 = w2.setCell ⟨g, i, none⟩ (.int .u8 (c2.toNat : Int)) := ⟨_, rfl⟩
  have HR3 : Hid (Rw w3 g cp (t.data.toList.set i c2)) := by rw [hw3]; exact HR.out.put i c2
  have HT3 : Hid (Touch [] w w3) := by rw [hw3]; exact HT2.out.setCell (.inr hg.out) _
  have hb3 := HR3.out.back t.size (by rw [List.length_set, list_len])
  rw [hw3] at hb3
  obtain ⟨t2, ht2⟩ : ∃ t2 : ByteArray, t2 = ⟨(t.data.toList.set i c2).toArray⟩ := ⟨_, rfl⟩
  have hz2 : t2.size = t.size := by rw [ht2]; exact set_size t i c2
  rw [← ht2] at hb3
  have C3 := hid (open_long t2 w3 (by rw [hz2]; exact t4) (by rw [hz2]; omega))
  rw [HO.out t2 (by rw [ht2])] at C3
  clear ht2 hz2 HO
  have HW3 := hid hw3
  clear hw3
  go_wp2_with fail
  rw [← HW3.out]
  refine C3.out.mono ?_
  rintro e w4 ⟨rfl, a4⟩
  have HT4 : Hid (Touch [] w w4) := HT3.out.trans a4 (by simp)
  clear a4 hb3 c0 f0
  go_wp2_with fail
  have hm3 : (((s.extract 0 (min (s.size : Int) 3).toNat).size : Nat) : Int) < 4 := by rw [ByteArray.size_extract]; omega
  refine (open_short _ w4 hm3).mono ?_
  rintro e w5 ⟨rfl, rfl⟩
  clear hm3
  have C9 := hid (alive_true w4)
  clear q0 t4 tM hmod hi2 h0 h1 h2 hx
  rcases hcase with hq | ⟨hq, rfl, rfl⟩
  all_goals
    go_wp2_with (go_at_call 8; refine C9.out.mono ?_; rintro e w6 ⟨rfl, a6⟩)
    go_ret
    exact ⟨rfl, HT4.out.trans a6 (by simp)⟩

theorem walk_CheckChanged (s : ByteArray) (_ws : s.size ≤ maxLen) (x : Int) (wx : (Lit.int .i64 x).wf = true) (y : Int) (_wy : (Lit.int .i64 y).wf = true) (w : World) :
    Calls Try.prog 4 #[.string s, .int .i64 x, .int .i64 y] w fun e w' => e = .returned (.bool true) ∧ Touch [] w w' := by
  by_cases h : (s.size : Int) ≤ 3000 ∧ 0 ≤ x
  · obtain ⟨h1, h2⟩ := h
    obtain ⟨b1, b2⟩ := bounds_i64 wx
    obtain ⟨m, rfl⟩ := Int.eq_ofNat_of_zero_le h2
    have hsz := sealed_size s
    have hml : m % (sealed s).size < (sealed s).data.toList.length := by rw [list_len]; exact Nat.mod_lt _ (by omega)
    have hdd : y % 256 = ((UInt8.ofNat (y % 256).toNat).toNat : Int) := by rw [UInt8.toNat_ofNat']; omega
    by_cases h0 : UInt8.ofNat (y % 256).toNat = 0
    · refine changed_full s (sealed s) m (m % (sealed s).size) (sealed s).data.toList[m % (sealed s).size] (UInt8.ofNat (y % 256).toNat) y w h1 (by omega) rfl (by omega) hml (fun _ => rfl) hdd s 0 (fun t2 ht => ?_) (.inl ?_)
      · rw [h0, UInt8.xor_zero, List.set_getElem_self] at ht
        rw [bytes_ext ht]
        exact open_sealed s
      · rw [h0]; rfl
    · refine changed_full s (sealed s) m (m % (sealed s).size) (sealed s).data.toList[m % (sealed s).size] (UInt8.ofNat (y % 256).toNat) y w h1 (by omega) rfl (by omega) hml (fun _ => rfl) hdd ⟨#[]⟩ 7 (fun t2 ht => ?_) (.inr ⟨?_, rfl, rfl⟩)
      · refine open_changed s _ _ hml (fun e => h0 ?_) t2 ht
        generalize (sealed s).data.toList[m % (sealed s).size] = c at e
        have e2 : c ^^^ (c ^^^ UInt8.ofNat (y % 256).toNat) = c ^^^ c := by rw [e]
        rw [← UInt8.xor_assoc, UInt8.xor_self, UInt8.zero_xor] at e2
        exact e2
      · rw [beq_eq_false_iff_ne]
        intro e
        apply h0
        apply UInt8.toNat_inj.1
        exact Int.ofNat_inj.1 e
  · exact changed_early s x y w (by omega)
end Go.Proofs.Ytfmaeaaaiagcbaa
