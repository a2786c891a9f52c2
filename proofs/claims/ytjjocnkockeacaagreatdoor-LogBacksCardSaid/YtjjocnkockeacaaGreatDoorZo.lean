/- What frame's functions tell. The laws' helpers over lists of texts: Room, Short, LentTexts, SameTexts, StaysTexts. Frames one behind the other, as texts. -/
import Derived.Test.YtjjocnkockeacaaGreatDoorZm
import Derived.Test.YtjjocnkockeacaaGreatDoorZn
import Derived.Test.YtjjocnkockeacaaGreatDoorZb
import Derived.Laws.AppendOwnNone
namespace Go.Proofs.YtjjocnkockeacaaGreatDoor
open Go.RowKit Go.Lib
set_option maxRecDepth 100000

theorem frPut_any (s : ByteArray) (w : World) (hs : s.size ≤ 1000000000) : Calls Tryz.prog 91 #[.string s] w fun e w' => e = .returned (.tuple #[.string (frB s), .int .i64 (frE s)]) ∧ Touch [] w w' := by
  unfold frB frE
  by_cases h : 4000 < s.size
  · rw [if_pos h, if_pos h]
    have q : (4000 : Int) < s.size := by omega
    clear h hs
    go_enter Tryz.func91, Tryz.ntmps91
    go_wp2
    go_ret2
    exact ⟨rfl, Touch.refl _ _⟩
  · rw [if_neg h, if_neg h]
    have q : (s.size : Int) ≤ 4000 := by omega
    have hl := list_len s
    have C1 := hid (fun w => laid_any s.size w (by omega))
    have h4b : (ByteArray.mk (be 4 s.size).toArray).size = 4 := by
      show (be 4 s.size).toArray.size = 4
      simp [be_length]
    have CS := hid (fun w => sum_bytes ⟨(be 4 s.size).toArray⟩ s w (by rw [h4b]; decide) (by unfold maxLen; omega))
    have e1 : (ByteArray.mk (be 4 s.size).toArray).data.toList = be 4 s.size := by simp
    rw [e1] at CS
    have hR : Hid ((((⟨(be 4 s.size).toArray⟩ : ByteArray) ++ ⟨(be 4 (crc (be 4 s.size ++ s.data.toList))).toArray⟩) ++ s) ++ ⟨(be 4 s.size).toArray⟩ = ⟨(frL s.data.toList).toArray⟩) := by
      have : ((((⟨(be 4 s.size).toArray⟩ : ByteArray) ++ ⟨(be 4 (crc (be 4 s.size ++ s.data.toList))).toArray⟩) ++ s) ++ ⟨(be 4 s.size).toArray⟩).data.toList = frL s.data.toList := by
        unfold frL
        rw [hl]
        simp
      exact hid (str_eq this)
    have h4c : (ByteArray.mk (be 4 (crc (be 4 s.size ++ s.data.toList))).toArray).size = 4 := by
      show (be 4 (crc (be 4 s.size ++ s.data.toList))).toArray.size = 4
      simp [be_length]
    generalize crc (be 4 s.size ++ s.data.toList) = k at *
    generalize (⟨(be 4 k).toArray⟩ : ByteArray) = B2 at *
    generalize (⟨(be 4 s.size).toArray⟩ : ByteArray) = B1 at *
    have c2 : ¬ 9223372036854775807 < B1.size + B2.size := by omega
    have c3 : ¬ 9223372036854775807 < (B1 ++ B2).size + s.size := by rw [ByteArray.size_append]; omega
    have c4 : ¬ 9223372036854775807 < (B1 ++ B2 ++ s).size + B1.size := by rw [ByteArray.size_append, ByteArray.size_append]; omega
    have c5 : ¬ 9223372036854775807 < B1.size + B2.size + s.size := by omega
    have c6 : ¬ 9223372036854775807 < B1.size + B2.size + s.size + B1.size := by omega
    clear h hs hl e1 h4b h4c
    go_enter Tryz.func91, Tryz.ntmps91
    go_wp2_with (first
      | (go_at_call 119; with_reducible refine (C1.out _).mono ?_; rintro e w1 ⟨rfl, t1⟩)
      | (go_at_call 120; with_reducible refine (CS.out _).mono ?_; rintro e w2 ⟨rfl, t2⟩))
    go_ret2
    exact ⟨by rw [← hR.out]; rfl, t1.trans t2 (by simp)⟩
theorem frFirst_any (b : ByteArray) (w : World) (hs : b.size ≤ 1000000000) : Calls Tryz.prog 130 #[.string b] w fun e w' => e = .returned (FirstV b) ∧ Touch [] w w' := by
  have hl := list_len b
  obtain ⟨n, hn⟩ : ∃ n, n = val (b.data.toList.take 4) := ⟨_, rfl⟩
  have S := hid (fun w => frsize_any b 0 n w hs (by omega) hn 0 (fun _ => rfl))
  have hV : FirstV b = .tuple #[.string (bytesT (firstOf b.data.toList).1), .int .i64 ((firstOf b.data.toList).2.1 : Int), .int .i64 (firstOf b.data.toList).2.2] := rfl
  unfold sizeV at S
  by_cases h1 : b.size < 12
  · have hf : firstOf b.data.toList = ([], 0, 5) := by unfold firstOf; rw [if_pos (by omega)]
    rw [hf] at hV
    rw [hV]
    rw [if_pos h1] at S
    clear hf hl h1 hs hn hV
    go_enter Tryz.func130, Tryz.ntmps130
    go_wp2_with (go_at_call 151; refine (S.out _).mono ?_; rintro e w1 ⟨rfl, t1⟩)
    go_ret3
    exact ⟨rfl, t1⟩
  rw [if_neg h1] at S
  by_cases h2 : 4000 < n
  · have hf : firstOf b.data.toList = ([], 0, 6) := by unfold firstOf; rw [if_neg (by omega), ← hn, if_pos h2]
    rw [hf] at hV
    rw [hV]
    rw [if_pos h2] at S
    clear hf hl h1 hs hn hV h2
    go_enter Tryz.func130, Tryz.ntmps130
    go_wp2_with (go_at_call 151; refine (S.out _).mono ?_; rintro e w1 ⟨rfl, t1⟩)
    go_ret3
    exact ⟨rfl, t1⟩
  rw [if_neg h2] at S
  by_cases h3 : b.size < n + 12
  · have hf : firstOf b.data.toList = ([], 0, 5) := by unfold firstOf; rw [if_neg (by omega), ← hn, if_neg h2, if_pos (by omega)]
    rw [hf] at hV
    rw [hV]
    rw [if_pos h3] at S
    clear hf hl h1 hs hn hV h2 h3
    go_enter Tryz.func130, Tryz.ntmps130
    go_wp2_with (go_at_call 151; refine (S.out _).mono ?_; rintro e w1 ⟨rfl, t1⟩)
    go_ret3
    exact ⟨rfl, t1⟩
  rw [if_neg h3] at S
  have hf := first_open hn h2 (by omega)
  have sl := sl_to b (n + 12) ((n + 12 : Nat) : Int) rfl (by omega)
  have ee : (b.extract 0 (n + 12)).data.toList = b.data.toList.take (n + 12) := by rw [extract_data]; simp
  have es : (b.extract 0 (n + 12)).size = n + 12 := by rw [← list_len, ee, List.length_take]; omega
  have O := hid (fun w => open_any (b.extract 0 (n + 12)) w (by omega) (by omega))
  unfold openV at O
  rw [ee, ← hf] at O
  rw [hV]
  generalize firstOf b.data.toList = R at *
  generalize b.extract 0 (n + 12) = x at *
  generalize ((n + 12 : Nat) : Int) = m at *
  clear hf hl h1 hs hn hV h2 h3 ee es
  go_enter Tryz.func130, Tryz.ntmps130
  go_wp2_with (first
    | (go_at_call 151; refine (S.out _).mono ?_; rintro e w1 ⟨rfl, t1⟩)
    | (go_at_call 152; refine (O.out _).mono ?_; rintro e w2 ⟨rfl, t2⟩))
  go_ret3
  exact ⟨rfl, t1.trans t2 (by simp)⟩
/-! ### alive -/
theorem frB_ok {s : ByteArray} (h : s.size ≤ 4000) : (frB s).data.toList = frL s.data.toList ∧ frE s = 0 ∧ (frB s).size = s.size + 12 := by
  have e : frB s = ⟨(frL s.data.toList).toArray⟩ := by unfold frB; rw [if_neg (by omega)]
  refine ⟨by rw [e], by unfold frE; rw [if_neg (by omega)], ?_⟩
  rw [e]
  show (frL s.data.toList).toArray.size = s.size + 12
  rw [List.size_toArray, frL_len, list_len]
def abT : ByteArray := ⟨#[97, 98]⟩
end Go.Proofs.YtjjocnkockeacaaGreatDoor

namespace Go.Proofs.YtjjocnkockeacaaGreatDoor
set_option maxRecDepth 100000
open Go.RowKit Go.Lib

theorem room_one (b cap : Nat) (r z : Int) (w : World) (hc : w.cell? ⟨b, 0, none⟩ = some (.int .i64 z)) (h0 : 0 ≤ z) (h1 : r ≤ 9223372036854775807) (h2 : 0 ≤ r) :
    Calls Tryz.prog 54 #[.int .i64 r, .slice (some ⟨b, 0, none⟩) 1 cap] w fun e w' => e = .returned (.int .i64 (if r < z then -1 else r - z)) ∧ w = w' := by
  by_cases hz : r < z
  · rw [if_pos hz]
    go_enter Tryz.func54, Tryz.ntmps54
    go_wp2
    refine wp_loop_rounds 1 ?_
    rw [rounds_succ]
    go_wp2
    go_ret
    exact ⟨rfl, rfl⟩
  · rw [if_neg hz]
    have hz2 : z ≤ r := by omega
    have hz3 : r - z ≤ 9223372036854775807 := by omega
    clear hz
    go_enter Tryz.func54, Tryz.ntmps54
    go_wp2
    refine wp_loop_rounds 2 ?_
    rw [rounds_succ]
    go_wp2
    rw [rounds_succ]
    go_wp2
    go_ret
    exact ⟨rfl, rfl⟩

/-- What Short tells: where it says yes, the texts are few, and together no longer than that. -/
def ShortPost (few room : Int) (l : List ByteArray) (w : World) (e : Ending) (w' : World) : Prop :=
  ∃ r : Bool, e = .returned (.bool r) ∧ Touch [] w w' ∧ (r = true → (l.length : Int) ≤ few ∧ ((cat l).length : Int) ≤ room)

structure ShortR (room : Int) (l : List ByteArray) (k : Nat) (r : Int) : Prop where
  le : k ≤ l.length
  lo : -1 ≤ r
  hi : r ≤ room
  sum : r = -1 ∨ ((cat (l.take k)).length : Int) + r = room

set_option maxHeartbeats 1000000 in
theorem short_any (few room : Int) (x : Option Addr) (c : Nat) (l : List ByteArray) (w : World) (hl : l.length ≤ 9223372036854775807) (hc : TextsX w x l) (h0 : 0 ≤ room) (h1 : room ≤ 1000000000) (hf : few ≤ 1000000000) :
    Calls Tryz.prog 24 #[.int .i64 few, .int .i64 room, .slice x l.length c] w (ShortPost few room l w) := by
  have HC := hid hc; clear hc
  have Hl := hid hl; clear hl
  by_cases hfew : few < (l.length : Int)
  · go_enter Tryz.func24, Tryz.ntmps24
    go_wp2
    go_ret
    exact ⟨false, rfl, Touch.refl _ _, fun h => by cases h⟩
  · have hfew2 : (l.length : Int) ≤ few := by omega
    clear hfew
    go_enter Tryz.func24, Tryz.ntmps24
    go_wp2
    go_loopw [1, 7] (fun rv iv wr => ∃ (k : Nat) (r : Int), iv = .int .i64 k ∧ rv = .int .i64 r ∧ ShortR room l k r ∧ Touch [] w wr) (fun _ iv _ => l.length - (RowKit.intOf iv).toNat)
    case atStart => exact ⟨0, room, rfl, rfl, ⟨Nat.zero_le _, by omega, by omega, .inr (by simp [cat])⟩, Touch.refl _ _⟩
    case round =>
      obtain ⟨k, r, rfl, rfl, hR, ht⟩ := hrel
      have hr0 := hR.lo
      have hr1 := hR.hi
      have HR := hid hR
      have HT := hid ht
      clear hR ht
      by_cases hgo : k < l.length ∧ 0 ≤ r
      · obtain ⟨hlt, hr⟩ := hgo
        obtain ⟨b, off, rfl, g1, g2⟩ := HC.out k hlt
        have g3 := HT.out.cell g1
        have hsn : Hid (((cat (l.take (k + 1))).length : Int) = ((cat (l.take k)).length : Int) + l[k].size) := by
          rw [List.take_succ_eq_append_getElem hlt, cat_snoc, List.length_append, list_len]
          exact Int.natCast_add _ _
        clear g1
        have HS := hid HR.out.sum
        generalize l[k] = s at *
        unfold maxLen at g2
        have C := hid (room_one wr.heap.size 1 r s.size (wr.alloc (.cells #[.int .i64 s.size] 3)) (cell_of (heap_alloc_new wr _) 0) (by omega) (by omega) hr)
        have hl2 : decide (k < l.length) = true := by simpa using hlt
        have hklt : (k : Int) < 1000000001 := by omega
        go_wp2_with (go_at_call 54; refine C.out.mono ?_; rintro e w1 ⟨rfl, rfl⟩)
        go_roundw
        case rel =>
          refine ⟨k + 1, _, by go_num, rfl, ⟨hlt, ?_, ?_, ?_⟩, HT.out.alloc _⟩
          · split <;> omega
          · split <;> omega
          · have e1 := hsn.out
            have e2 := HS.out
            split
            · exact .inl rfl
            · right; omega
        case measure => simp [RowKit.intOf]; omega
      · by_cases hlt : k < l.length
        · have hr : r = -1 := by omega
          subst hr
          have hl2 : decide (k < l.length) = true := by simpa using hlt
          clear hgo
          go_wp2
          go_ret
          exact ⟨false, rfl, HT.out, fun h => by cases h⟩
        · have hk : k = l.length := by have := HR.out.le; omega
          have hl2 : decide (k < l.length) = false := by simpa using hlt
          have hs := HR.out.sum
          rw [hk, List.take_of_length_le (Nat.le_refl _)] at hs
          have HS := hid hs
          have HF := hid hfew2
          clear hgo hs hk hlt
          by_cases hr : 0 ≤ r
          · go_wp2
            go_ret
            exact ⟨true, rfl, HT.out, fun _ => ⟨HF.out, by have := HS.out; omega⟩⟩
          · go_wp2
            go_ret
            exact ⟨false, rfl, HT.out, fun h => by cases h⟩

def markS : ByteArray := ⟨#[109, 97, 114, 107]⟩
/-- At block g lie the texts l, and a mark behind them. -/
def Lent (w : World) (g cap : Nat) (l : List ByteArray) : Prop :=
  l.length + 1 ≤ cap ∧ cap ≤ maxLen ∧ TextsAt w g 0 l ∧ w.cell? ⟨g, l.length, none⟩ = some (.string markS)
theorem Lent.touch {w w' : World} {g cap : Nat} {l : List ByteArray} (h : Lent w g cap l) (ht : Touch [] w w') : Lent w' g cap l :=
  ⟨h.1, h.2.1, fun i hi => ⟨ht.cell (h.2.2.1 i hi).1, (h.2.2.1 i hi).2⟩, ht.cell h.2.2.2⟩
def LentPost (l : List ByteArray) (w : World) (e : Ending) (w' : World) : Prop :=
  ∃ g cap, e = .returned (.slice (some ⟨g, 0, none⟩) l.length cap) ∧ w.heap.size ≤ g ∧ Lent w' g cap l ∧ Touch [] w w'

theorem lent_of {w : World} {base n : Nat} {v : Value} {l : List ByteArray} (h : w.ownsRow base 9 1 v n (l.map Value.string ++ [.string markS])) (hn : n = l.length + 1) (hsz : ∀ t ∈ l, t.size ≤ maxLen) :
    ∃ g cap, v = .slice (some ⟨g, 0, none⟩) (l.length + 1) cap ∧ base ≤ g ∧ Lent w g cap l := by
  subst hn
  rcases h.2 with ⟨_, h0⟩ | ⟨g, cap, cur, rfl, hb, _, hc, hm, _⟩
  · omega
  · have key : ∀ i u, (l.map Value.string ++ [.string markS])[i]? = some u → w.cell? ⟨g, i, none⟩ = some u := fun i u hu => by
      have := h.cells (g := g) rfl i u hu
      rw [show (⟨g, 0, none⟩ : Addr).add i = ⟨g, i, none⟩ from by unfold Addr.add; split <;> simp_all] at this
      exact this
    refine ⟨g, cap, rfl, hb, hc, hm, fun i hi => ⟨?_, hsz _ (List.getElem_mem hi)⟩, ?_⟩
    · rw [Nat.zero_add]
      exact key i _ (by rw [List.getElem?_append_left (by simpa using hi)]; simp [hi])
    · exact key l.length _ (by rw [List.getElem?_append_right (by simp)]; simp)

end Go.Proofs.YtjjocnkockeacaaGreatDoor

namespace Go.Proofs.YtjjocnkockeacaaGreatDoor
open Go.RowKit Go.Lib
set_option maxRecDepth 100000

def dat (l : List ByteArray) : List (List UInt8) := l.map fun s => s.data.toList
def frS (l : List ByteArray) : ByteArray := bytesT (frames (dat l))
theorem bytesT_toList (l : List UInt8) : (bytesT l).data.toList = l := by simp [bytesT]
theorem bytesT_size (l : List UInt8) : (bytesT l).size = l.length := by rw [← list_len, bytesT_toList]
theorem bytesT_data (s : ByteArray) : bytesT s.data.toList = s := by simp [bytesT]
theorem frS_toList (l : List ByteArray) : (frS l).data.toList = frames (dat l) := bytesT_toList _
theorem dat_len (l : List ByteArray) : (dat l).length = l.length := by simp [dat]
theorem dat_take (l : List ByteArray) (k : Nat) : dat (l.take k) = (dat l).take k := by simp [dat, List.map_take]
theorem frames_app (a b : List (List UInt8)) : frames (a ++ b) = frames a ++ frames b := by simp [frames]
theorem frames_len (l : List ByteArray) : (frames (dat l)).length = (cat l).length + 12 * l.length := by
  induction l with
  | nil => rfl
  | cons s l ih =>
    have h := frL_len s.data.toList
    have e1 : (frames (dat (s :: l))).length = (frL s.data.toList).length + (frames (dat l)).length := by simp [frames, dat]
    have e2 : (cat (s :: l)).length = s.data.toList.length + (cat l).length := by simp [cat]
    rw [e1, e2, ih, h, List.length_cons]
    omega
theorem frS_size (l : List ByteArray) : (frS l).size = (cat l).length + 12 * l.length := by unfold frS; rw [bytesT_size, frames_len]
theorem frS_nil : frS [] = ⟨#[]⟩ := rfl
theorem take_dat_snoc {l : List ByteArray} {k : Nat} (h : k < l.length) : frames (dat (l.take (k + 1))) = frames (dat (l.take k)) ++ frL l[k].data.toList := by
  rw [List.take_succ_eq_append_getElem h, show dat (l.take k ++ [l[k]]) = dat (l.take k) ++ [l[k].data.toList] by unfold dat; rw [List.map_append]; rfl, frames_app]
  show frames (dat (l.take k)) ++ (frL l[k].data.toList ++ []) = _
  rw [List.append_nil]
theorem frS_snoc {l : List ByteArray} {k : Nat} (h : k < l.length) (hz : l[k].size ≤ 4000) : frS (l.take k) ++ frB l[k] = frS (l.take (k + 1)) := by
  apply str_eq
  rw [take_dat_snoc h, ← (frB_ok hz).1, ← frS_toList (l.take k)]
  simp
theorem cat_take_le (l : List ByteArray) (k : Nat) : (cat (l.take k)).length ≤ (cat l).length := by
  conv => rhs; rw [← List.take_append_drop k l]
  unfold cat
  rw [List.flatMap_append, List.length_append]
  omega
theorem cat_get_le {l : List ByteArray} {k : Nat} (h : k < l.length) : (cat (l.take k)).length + l[k].size ≤ (cat l).length := by
  have := cat_take_le l (k + 1)
  rw [List.take_succ_eq_append_getElem h, cat_snoc, List.length_append, list_len] at this
  exact this
theorem get_le {l : List ByteArray} {k : Nat} (h : k < l.length) : l[k].size ≤ (cat l).length := by have := cat_get_le h; omega
theorem last_take {l : List ByteArray} {k : Nat} (h : k < l.length) (hz : l[k].size ≤ 4000) : lastOf (frS (l.take (k + 1))).data.toList = (l[k].data.toList, l[k].size + 12, 0) := by
  rw [frS_toList, take_dat_snoc h, last_frL _ _ (by rw [list_len]; exact hz), list_len]

theorem cut_take {l : List ByteArray} {k : Nat} (h : k < l.length) : (frS (l.take (k + 1))).extract 0 (frS (l.take k)).size = frS (l.take k) := by
  apply str_eq
  rw [extract_data, frS_toList, take_dat_snoc h, frS_size, ← frames_len]
  simp
theorem snoc_size {l : List ByteArray} {k : Nat} (h : k < l.length) : (frS (l.take (k + 1))).size = (frS (l.take k)).size + (l[k].size + 12) := by
  rw [frS_size, frS_size, List.take_succ_eq_append_getElem h, cat_snoc, List.length_append, List.length_append, list_len, List.length_singleton]
  omega

end Go.Proofs.YtjjocnkockeacaaGreatDoor
