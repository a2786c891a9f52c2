/- The law's own resolver: the first event of a version and a stream. -/
import Derived.Test.YtmgglmoiepjebaaNLink
import Derived.Test.YtmgglmoiepjebaaGuard
import Derived.Test.YtmgglmoiepjebaaWk16
namespace Go.Proofs.Ytmgglmoiepjebaa
open Go.RowKit Go.Lib Go.ChangeShapes Go.WideShapes
set_option maxRecDepth 100000

def zeroS : StoD := ⟨0, ⟨#[]⟩, ⟨#[]⟩, 0, ⟨#[]⟩, 0, 0, 0⟩
def hitB (v : Int) (t : ByteArray) (s : StoD) : Bool := s.version == v && s.stream.toList == t.toList
def fdV : Option StoD → Value
  | some s => .tuple #[s.val, .bool true]
  | none => .tuple #[zeroS.val, .bool false]

set_option maxHeartbeats 2000000 in
theorem find_any (v : Int) (t : ByteArray) (bx : Nat) (x : Option Addr) (c : Nat) (tl : List StoD) (W : World) (hl : tl.length ≤ 1000) (hX : StoX W x tl)
    (hbx : W.heap[bx]? = some (.cells #[.slice x tl.length c] 22 (0, 0))) :
    Calls Try.prog 9 #[.int .i64 v, .string t, .pointer (some ⟨bx, 0, none⟩)] W fun e w' => e = .returned (fdV (tl.find? (hitB v t))) ∧ Touch [] W w' := by
  obtain ⟨W2, hW2⟩ : ∃ W2, W2 = W.alloc (.cells #[.int .i64 0, .string ⟨#[]⟩, .string ⟨#[]⟩, .float .f64 0, .string ⟨#[]⟩, .int .i64 0, .int .i64 0, .int .i64 0] TSto) := ⟨_, rfl⟩
  have T2 : Hid (Touch [] W W2) := by rw [hW2]; exact hid ((Touch.refl [] W).alloc _)
  have B : Hid (W2.heap[W.heap.size]? = some (.cells #[.int .i64 0, .string ⟨#[]⟩, .string ⟨#[]⟩, .float .f64 0, .string ⟨#[]⟩, .int .i64 0, .int .i64 0, .int .i64 0] TSto (0, 0))) := by
    rw [hW2]; exact hid (heap_alloc_new W _)
  have HX := hid (hX.touch T2.out)
  have c0 : W2.cell? ⟨bx, 0, none⟩ = some (.slice x tl.length c) := T2.out.cell (cell_of hbx 0)
  have HL := hid hl
  clear hX hl hbx
  go_enter Try.func9, Try.ntmps9
  go_upto_region 1 with fail
  simp only [TSto] at hW2
  rw [← hW2]
  clear hW2
  go_wp2
  go_loop [7] (fun iv => ∃ k : Nat, k ≤ tl.length ∧ iv = .int .i64 k ∧ (tl.take k).find? (hitB v t) = none) (fun iv => tl.length - (RowKit.intOf iv).toNat)
  case atStart => exact ⟨0, Nat.zero_le _, rfl, rfl⟩
  case round =>
    obtain ⟨k, hk, rfl, hnone⟩ := hrel
    have HN := hid hnone
    clear hnone
    by_cases hlt : k < tl.length
    · obtain ⟨b, off, rfl, g1, g2⟩ := HX.out k hlt
      obtain ⟨a0, a1, a2, a3, a4, a5, a6, a7⟩ := g1
      have hl2 : decide (k < tl.length) = true := by simpa using hlt
      have hkI : (k : Int) < tl.length := by omega
      have hk0 : (0 : Int) ≤ k := by omega
      have hk1 : (tl.length : Int) ≤ 1000 := by have := HL.out; omega
      have hyes := hid (fun (h : hitB v t tl[k] = true) => show fdV (tl.find? (hitB v t)) = .tuple #[tl[k].val, .bool true] by
        have e : tl = tl.take k ++ tl[k] :: tl.drop (k + 1) := by rw [← List.drop_eq_getElem_cons hlt, List.take_append_drop]
        rw [show tl.find? (hitB v t) = (tl.take k ++ tl[k] :: tl.drop (k + 1)).find? (hitB v t) by rw [← e], List.find?_append, HN.out, List.find?_cons, h]; rfl)
      have hno := hid (fun (h : hitB v t tl[k] = false) => show (tl.take (k + 1)).find? (hitB v t) = none by
        rw [List.take_succ_eq_append_getElem hlt, List.find?_append, HN.out, List.find?_cons, h]; rfl)
      clear g2
      generalize tl[k] = s at *
      obtain ⟨sid, styp, sdata, svalue, sstream, sversion, sposition, stime⟩ := s
      simp only at a0 a1 a2 a3 a4 a5 a6 a7
      by_cases t1 : (sversion == v) = true
      · by_cases t2 : (sstream.toList == t.toList) = true
        · have hf := hid (hyes.out (by unfold hitB; rw [t1, t2]; rfl))
          have z0 : W2.cell? ⟨W.heap.size, 0, none⟩ = _ := cell_of B.out 0
          have z1 : W2.cell? ⟨W.heap.size, 1, none⟩ = _ := cell_of B.out 1
          have z2 : W2.cell? ⟨W.heap.size, 2, none⟩ = _ := cell_of B.out 2
          have z3 : W2.cell? ⟨W.heap.size, 3, none⟩ = _ := cell_of B.out 3
          have z4 : W2.cell? ⟨W.heap.size, 4, none⟩ = _ := cell_of B.out 4
          have z5 : W2.cell? ⟨W.heap.size, 5, none⟩ = _ := cell_of B.out 5
          have z6 : W2.cell? ⟨W.heap.size, 6, none⟩ = _ := cell_of B.out 6
          have z7 : W2.cell? ⟨W.heap.size, 7, none⟩ = _ := cell_of B.out 7
          have y0 : W2.frozen? ⟨W.heap.size, 0, none⟩ = _ := free_of B.out 0
          have y1 : W2.frozen? ⟨W.heap.size, 1, none⟩ = _ := free_of B.out 1
          have y2 : W2.frozen? ⟨W.heap.size, 2, none⟩ = _ := free_of B.out 2
          have y3 : W2.frozen? ⟨W.heap.size, 3, none⟩ = _ := free_of B.out 3
          have y4 : W2.frozen? ⟨W.heap.size, 4, none⟩ = _ := free_of B.out 4
          have y5 : W2.frozen? ⟨W.heap.size, 5, none⟩ = _ := free_of B.out 5
          have y6 : W2.frozen? ⟨W.heap.size, 6, none⟩ = _ := free_of B.out 6
          have y7 : W2.frozen? ⟨W.heap.size, 7, none⟩ = _ := free_of B.out 7
          simp at z0 z1 z2 z3 z4 z5 z6 z7
          have hsf := store_flt
          clear hyes hno
          go_wp2
          refine bodyPost_ret (v := .tuple #[StoD.val ⟨sid, styp, sdata, svalue, sstream, sversion, sposition, stime⟩, .bool true]) (by simp [results, Try.results9, go_sem, z0, z1, z2, z3, z4, z5, z6, z7]) rfl ⟨by rw [hf.out], ?_⟩
          repeat' refine Touch.setCell ?_ (.inr (by simp)) _
          exact T2.out
        · have t2' : (sstream.toList == t.toList) = false := by simpa using t2
          have hs := hid (hno.out (by unfold hitB; rw [t1, t2']; rfl))
          clear t2 hyes hno
          go_wp2
          go_round
          case rel => exact ⟨k + 1, by omega, by go_num, hs.out⟩
          case measure => simp [RowKit.intOf]; omega
      · have t1' : (sversion == v) = false := by simpa using t1
        have hs := hid (hno.out (by unfold hitB; rw [t1']; rfl))
        clear t1 hyes hno
        go_wp2
        go_round
        case rel => exact ⟨k + 1, by omega, by go_num, hs.out⟩
        case measure => simp [RowKit.intOf]; omega
    · obtain rfl : k = tl.length := by omega
      have hl2 : decide (tl.length < tl.length) = false := by simp
      have hf : Hid (fdV (tl.find? (hitB v t)) = .tuple #[zeroS.val, .bool false]) := by
        have h3 := HN.out
        rw [List.take_of_length_le (Nat.le_refl _)] at h3
        rw [h3]; exact hid rfl
      have z0 : W2.cell? ⟨W.heap.size, 0, none⟩ = _ := cell_of B.out 0
      have z1 : W2.cell? ⟨W.heap.size, 1, none⟩ = _ := cell_of B.out 1
      have z2 : W2.cell? ⟨W.heap.size, 2, none⟩ = _ := cell_of B.out 2
      have z3 : W2.cell? ⟨W.heap.size, 3, none⟩ = _ := cell_of B.out 3
      have z4 : W2.cell? ⟨W.heap.size, 4, none⟩ = _ := cell_of B.out 4
      have z5 : W2.cell? ⟨W.heap.size, 5, none⟩ = _ := cell_of B.out 5
      have z6 : W2.cell? ⟨W.heap.size, 6, none⟩ = _ := cell_of B.out 6
      have z7 : W2.cell? ⟨W.heap.size, 7, none⟩ = _ := cell_of B.out 7
      have y0 : W2.frozen? ⟨W.heap.size, 0, none⟩ = _ := free_of B.out 0
      have y1 : W2.frozen? ⟨W.heap.size, 1, none⟩ = _ := free_of B.out 1
      have y2 : W2.frozen? ⟨W.heap.size, 2, none⟩ = _ := free_of B.out 2
      have y3 : W2.frozen? ⟨W.heap.size, 3, none⟩ = _ := free_of B.out 3
      have y4 : W2.frozen? ⟨W.heap.size, 4, none⟩ = _ := free_of B.out 4
      have y5 : W2.frozen? ⟨W.heap.size, 5, none⟩ = _ := free_of B.out 5
      have y6 : W2.frozen? ⟨W.heap.size, 6, none⟩ = _ := free_of B.out 6
      have y7 : W2.frozen? ⟨W.heap.size, 7, none⟩ = _ := free_of B.out 7
      simp at z0 z1 z2 z3 z4 z5 z6 z7
      have hsf := store_flt
      go_wp2
      refine bodyPost_ret (v := .tuple #[zeroS.val, .bool false]) (by simp [results, Try.results9, go_sem, z0, z1, z2, z3, z4, z5, z6, z7, zeroS]) rfl ⟨by rw [hf.out], ?_⟩
      repeat' refine Touch.setCell ?_ (.inr (by simp)) _
      exact T2.out

end Go.Proofs.Ytmgglmoiepjebaa
