/- The laws' helpers over lists of texts: Room, Short, LentTexts, SameTexts, StaysTexts. -/
import Derived.Test.YtmaainnfflapiaaLists
import Derived.Laws.AppendOwnNone
namespace Go.Proofs.Ytmaainnfflapiaa
set_option maxRecDepth 100000
open Go.RowKit Go.Lib

theorem room_one (b cap : Nat) (r z : Int) (w : World) (hc : w.cell? ⟨b, 0, none⟩ = some (.int .i64 z)) (h0 : 0 ≤ z) (h1 : r ≤ 9223372036854775807) (h2 : 0 ≤ r) :
    Calls Try.prog 57 #[.int .i64 r, .slice (some ⟨b, 0, none⟩) 1 cap] w fun e w' => e = .returned (.int .i64 (if r < z then -1 else r - z)) ∧ w = w' := by
  by_cases hz : r < z
  · rw [if_pos hz]
    go_enter Try.func57, Try.ntmps57
    go_wp2
    refine wp_loop_rounds 1 ?_
    rw [rounds_succ]
    go_wp2
    go_ret
    exact ⟨rfl, rfl⟩
  · rw [if_neg hz]
    have hz2 : z ≤ r := by omega
    have hz3 : r - z ≤ 9223372036854775807 := by omega
    clear hz
    go_enter Try.func57, Try.ntmps57
    go_wp2
    refine wp_loop_rounds 2 ?_
    rw [rounds_succ]
    go_wp2
    rw [rounds_succ]
    go_wp2
    go_ret
    exact ⟨rfl, rfl⟩

/-- What Short tells: where it says yes, the texts are few, and together no longer than that. -/
def ShortPost (few room : Int) (l : List ByteArray) (w : World) (e : Ending) (w' : World) : Prop :=
  ∃ r : Bool, e = .returned (.bool r) ∧ Touch [] w w' ∧ (r = true → (l.length : Int) ≤ few ∧ ((cat l).length : Int) ≤ room)

structure ShortR (room : Int) (l : List ByteArray) (k : Nat) (r : Int) : Prop where
  le : k ≤ l.length
  lo : -1 ≤ r
  hi : r ≤ room
  sum : r = -1 ∨ ((cat (l.take k)).length : Int) + r = room

set_option maxHeartbeats 1000000 in
theorem short_any (few room : Int) (x : Option Addr) (c : Nat) (l : List ByteArray) (w : World) (hl : l.length ≤ 9223372036854775807) (hc : TextsX w x l) (h0 : 0 ≤ room) (h1 : room ≤ 1000000000) (hf : few ≤ 1000000000) :
    Calls Try.prog 21 #[.int .i64 few, .int .i64 room, .slice x l.length c] w (ShortPost few room l w) := by
  have HC := hid hc; clear hc
  have Hl := hid hl; clear hl
  by_cases hfew : few < (l.length : Int)
  · go_enter Try.func21, Try.ntmps21
    go_wp2
    go_ret
    exact ⟨false, rfl, Touch.refl _ _, fun h => by cases h⟩
  · have hfew2 : (l.length : Int) ≤ few := by omega
    clear hfew
    go_enter Try.func21, Try.ntmps21
    go_wp2
    go_loopw [1, 7] (fun rv iv wr => ∃ (k : Nat) (r : Int), iv = .int .i64 k ∧ rv = .int .i64 r ∧ ShortR room l k r ∧ Touch [] w wr) (fun _ iv _ => l.length - (RowKit.intOf iv).toNat)
    case atStart => exact ⟨0, room, rfl, rfl, ⟨Nat.zero_le _, by omega, by omega, .inr (by simp [cat])⟩, Touch.refl _ _⟩
    case round =>
      obtain ⟨k, r, rfl, rfl, hR, ht⟩ := hrel
      have hr0 := hR.lo
      have hr1 := hR.hi
      have HR := hid hR
      have HT := hid ht
      clear hR ht
      by_cases hgo : k < l.length ∧ 0 ≤ r
      · obtain ⟨hlt, hr⟩ := hgo
        obtain ⟨b, off, rfl, g1, g2⟩ := HC.out k hlt
        have g3 := HT.out.cell g1
        have hsn : Hid (((cat (l.take (k + 1))).length : Int) = ((cat (l.take k)).length : Int) + l[k].size) := by
          rw [List.take_succ_eq_append_getElem hlt, cat_snoc, List.length_append, list_len]
          exact Int.natCast_add _ _
        clear g1
        have HS := hid HR.out.sum
        generalize l[k] = s at *
        unfold maxLen at g2
        have C := hid (room_one wr.heap.size 1 r s.size (wr.alloc (.cells #[.int .i64 s.size] 3)) (cell_of (heap_alloc_new wr _) 0) (by omega) (by omega) hr)
        have hl2 : decide (k < l.length) = true := by simpa using hlt
        have hklt : (k : Int) < 1000000001 := by omega
        go_wp2_with (go_at_call 57; refine C.out.mono ?_; rintro e w1 ⟨rfl, rfl⟩)
        go_roundw
        case rel =>
          refine ⟨k + 1, _, by go_num, rfl, ⟨hlt, ?_, ?_, ?_⟩, HT.out.alloc _⟩
          · split <;> omega
          · split <;> omega
          · have e1 := hsn.out
            have e2 := HS.out
            split
            · exact .inl rfl
            · right; omega
        case measure => simp [RowKit.intOf]; omega
      · by_cases hlt : k < l.length
        · have hr : r = -1 := by omega
          subst hr
          have hl2 : decide (k < l.length) = true := by simpa using hlt
          clear hgo
          go_wp2
          go_ret
          exact ⟨false, rfl, HT.out, fun h => by cases h⟩
        · have hk : k = l.length := by have := HR.out.le; omega
          have hl2 : decide (k < l.length) = false := by simpa using hlt
          have hs := HR.out.sum
          rw [hk, List.take_of_length_le (Nat.le_refl _)] at hs
          have HS := hid hs
          have HF := hid hfew2
          clear hgo hs hk hlt
          by_cases hr : 0 ≤ r
          · go_wp2
            go_ret
            exact ⟨true, rfl, HT.out, fun _ => ⟨HF.out, by have := HS.out; omega⟩⟩
          · go_wp2
            go_ret
            exact ⟨false, rfl, HT.out, fun h => by cases h⟩

def markS : ByteArray := ⟨#[109, 97, 114, 107]⟩
/-- At block g lie the texts l, and a mark behind them. -/
def Lent (w : World) (g cap : Nat) (l : List ByteArray) : Prop :=
  l.length + 1 ≤ cap ∧ cap ≤ maxLen ∧ TextsAt w g 0 l ∧ w.cell? ⟨g, l.length, none⟩ = some (.string markS)
theorem Lent.touch {w w' : World} {g cap : Nat} {l : List ByteArray} (h : Lent w g cap l) (ht : Touch [] w w') : Lent w' g cap l :=
  ⟨h.1, h.2.1, fun i hi => ⟨ht.cell (h.2.2.1 i hi).1, (h.2.2.1 i hi).2⟩, ht.cell h.2.2.2⟩
def LentPost (l : List ByteArray) (w : World) (e : Ending) (w' : World) : Prop :=
  ∃ g cap, e = .returned (.slice (some ⟨g, 0, none⟩) l.length cap) ∧ w.heap.size ≤ g ∧ Lent w' g cap l ∧ Touch [] w w'

theorem lent_of {w : World} {base n : Nat} {v : Value} {l : List ByteArray} (h : w.ownsRow base 9 1 v n (l.map Value.string ++ [.string markS])) (hn : n = l.length + 1) (hsz : ∀ t ∈ l, t.size ≤ maxLen) :
    ∃ g cap, v = .slice (some ⟨g, 0, none⟩) (l.length + 1) cap ∧ base ≤ g ∧ Lent w g cap l := by
  subst hn
  rcases h.2 with ⟨_, h0⟩ | ⟨g, cap, cur, rfl, hb, _, hc, hm, _⟩
  · omega
  · have key : ∀ i u, (l.map Value.string ++ [.string markS])[i]? = some u → w.cell? ⟨g, i, none⟩ = some u := fun i u hu => by
      have := h.cells (g := g) rfl i u hu
      rw [show (⟨g, 0, none⟩ : Addr).add i = ⟨g, i, none⟩ from by unfold Addr.add; split <;> simp_all] at this
      exact this
    refine ⟨g, cap, rfl, hb, hc, hm, fun i hi => ⟨?_, hsz _ (List.getElem_mem hi)⟩, ?_⟩
    · rw [Nat.zero_add]
      exact key i _ (by rw [List.getElem?_append_left (by simpa using hi)]; simp [hi])
    · exact key l.length _ (by rw [List.getElem?_append_right (by simp)]; simp)

end Go.Proofs.Ytmaainnfflapiaa
