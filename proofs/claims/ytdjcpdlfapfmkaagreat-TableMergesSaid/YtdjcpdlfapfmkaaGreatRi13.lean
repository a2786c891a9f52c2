/- The laws' own Merge: all entries of lists, in order, each once. -/
import Derived.Test.YtdjcpdlfapfmkaaGreatRlw13
import Derived.Test.YtdjcpdlfapfmkaaGreatPu12
namespace Go.Proofs.YtdjcpdlfapfmkaaGreat
open Go.RowKit Go.Lib
set_option maxRecDepth 100000

/-- Lists of entries, wherever they lie. -/
def ListsX (w : World) (x : Option Addr) (ls : List (List En)) : Prop := ∀ (i : Nat) (h : i < ls.length), ∃ b off y cy, x = some ⟨b, off, none⟩ ∧ w.cell? ⟨b, off + i, none⟩ = some (.slice y (ls[i]'h).length cy) ∧ EntX w y (ls[i]'h)
theorem ListsX.t0 {w w' : World} {x : Option Addr} {ls : List (List En)} (h : ListsX w x ls) (t : Touch [] w w') : ListsX w' x ls := fun i hi => by
  obtain ⟨b, off, y, cy, e, g, hx⟩ := h i hi
  exact ⟨b, off, y, cy, e, t.cell g, hx.t0 t⟩
theorem addAll_two (l a b : List En) : addAll (addAll l a) b = addAll l (a ++ b) := by simp [addAll, List.foldl_append]
theorem flat_take {ls : List (List En)} {i : Nat} (h : i < ls.length) : (ls.take (i + 1)).flatten = (ls.take i).flatten ++ ls[i] := by
  rw [List.take_succ_eq_append_getElem h, List.flatten_append]
  simp
theorem flat_le {ls : List (List En)} {i k : Nat} (h : i < ls.length) : ((ls.take i).flatten ++ (ls[i]).take k).length ≤ ls.flatten.length := by
  have e : ls.flatten = (ls.take (i + 1)).flatten ++ (ls.drop (i + 1)).flatten := by rw [← List.flatten_append, List.take_append_drop]
  rw [e, flat_take h]
  simp only [List.length_append, List.length_take]
  omega
set_option maxHeartbeats 4000000 in
theorem refMerge_any (x : Option Addr) (c : Nat) (ls : List (List En)) (w : World) (hx : ListsX w x ls) (hlen : ls.length ≤ 1000) (htot : ls.flatten.length ≤ 90000) :
    Calls Tryz.prog 30 #[.slice x ls.length c] w fun e w' => ∃ u, e = .returned u ∧ w'.ownsRow w.heap.size TREn 3 u (addAll [] ls.flatten).length (envals (addAll [] ls.flatten)) ∧ Touch [] w w' := by
  have HX := hid hx
  clear hx
  go_enter Tryz.func30, Tryz.ntmps30
  go_wp2
  go_loopw [3, 4] (fun uv iv wr => ∃ i : Nat, i ≤ ls.length ∧ iv = .int .i64 i ∧ wr.ownsRow w.heap.size TREn 3 uv (addAll [] (ls.take i).flatten).length (envals (addAll [] (ls.take i).flatten)) ∧ Touch [] w wr) (fun _ iv _ => ls.length - (RowKit.intOf iv).toNat)
  case atStart => exact ⟨0, Nat.zero_le _, rfl, World.ownsRow_nil _ _ _ _, Touch.refl _ _⟩
  case round =>
    obtain ⟨i, hi, rfl, hown, ht⟩ := hrel
    obtain ⟨yu, cu, rfl, -, -⟩ := slice_form hown
    have HT := hid ht
    have HO := hid hown
    clear ht hown
    by_cases hlt : i < ls.length
    · have hlt2 : decide (i < ls.length) = true := by simpa using hlt
      have hI : (i : Int) < ls.length := by omega
      obtain ⟨b, off, y, cy, rfl, g0, hE⟩ := HX.out i hlt
      have FT := hid (flat_take hlt)
      have FL := hid (fun k => flat_le (k := k) hlt)
      have e0 := HT.out.cell g0
      have G0 := hid (fun w' (t : Touch [] w w') => t.cell g0)
      have EX := hid (fun w' (t : Touch [] w w') => hE.t0 t)
      clear g0 hE
      generalize ls[i] = li at *
      generalize (ls.take i).flatten = pre at *
      have LI : li.length ≤ 90000 := by
        have := FL.out li.length
        rw [List.take_length, List.length_append] at this
        omega
      go_wp2_with fail
      go_loopw [3, 5] (fun uv kv w3 => ∃ k : Nat, k ≤ li.length ∧ kv = .int .i64 k ∧ w3.ownsRow w.heap.size TREn 3 uv (addAll [] (pre ++ li.take k)).length (envals (addAll [] (pre ++ li.take k))) ∧ Touch [] w w3) (fun _ kv _ => li.length - (RowKit.intOf kv).toNat)
      case atStart => exact ⟨0, Nat.zero_le _, rfl, by simpa using HO.out, HT.out⟩
      case round =>
        obtain ⟨k, hk, rfl, hown, ht⟩ := hrel
        obtain ⟨y3, c3, rfl, -, -⟩ := slice_form hown
        have T3 := hid ht
        have O3 := hid hown
        have e3 := G0.out _ ht
        clear ht hown
        by_cases hkl : k < li.length
        · have hkl2 : decide (k < li.length) = true := by simpa using hkl
          have hkI : (k : Int) < li.length := by omega
          obtain ⟨b2, off2, rfl, d0, d1, d2⟩ := EX.out _ T3.out k hkl
          have SN : Hid (addAll [] (pre ++ li.take (k + 1)) = put1 (addAll [] (pre ++ li.take k)) li[k]) := hid (by rw [List.take_succ_eq_append_getElem hkl, ← List.append_assoc, addAll_snoc])
          have SA := hid (sorted_addAll (pre ++ li.take k) (l := []) (by simp))
          have LA := (addAll_len (pre ++ li.take k) (l := []) (by simp)).2
          rw [List.length_nil, Nat.zero_add] at LA
          have LB := FL.out k
          generalize li[k] = s at *
          generalize addAll [] (pre ++ li.take k) = A at *
          have RA := hid (refAdd_any (.slice y3 A.length c3) A s w.heap.size wr O3.out T3.out.size SA.out (by omega))
          clear LA LB
          generalize decide (okE s ∧ s ∉ A) = told at *
          go_wp2_with fail
          refine RA.out.mono ?_
          rintro e w4 ⟨u, rfl, ho, t4⟩
          obtain ⟨y4, c4, rfl, -, -⟩ := slice_form ho
          have O4 := hid ho
          have T4 := hid (T3.out.trans t4 (by simp))
          clear ho t4 RA
          go_wp2
          go_roundw
          case rel => exact ⟨k + 1, by omega, by go_num, by rw [SN.out]; exact O4.out, T4.out⟩
          case measure => simp [RowKit.intOf]; omega
        · obtain rfl : k = li.length := by omega
          have hkl2 : decide (li.length < li.length) = false := by simp
          rw [List.take_length] at O3 ⊢
          go_wp2
          go_roundw
          case rel => exact ⟨i + 1, by omega, by go_num, by rw [FT.out]; exact O3.out, T3.out⟩
          case measure => simp [RowKit.intOf]; omega
    · obtain rfl : i = ls.length := by omega
      have hlt2 : decide (ls.length < ls.length) = false := by simp
      rw [List.take_length] at HO ⊢
      go_wp2
      go_ret
      exact ⟨_, rfl, HO.out, HT.out⟩
end Go.Proofs.YtdjcpdlfapfmkaaGreat
