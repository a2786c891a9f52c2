/- The laws' first call of chapter 10; what is read of a chunk that was laid. -/
import Derived.Test.YtmaainnfflapiaaRd10
import Derived.Test.YtmaainnfflapiaaCut8
namespace Go.Proofs.Ytmaainnfflapiaa
open Go.RowKit Go.Lib Go.ChangeShapes
set_option maxRecDepth 100000

/-- Read of bytes that begin with a start. -/
theorem readV_some {l : List UInt8} {n z : Nat} {w w' : World} {e : Ending} (HB : Begins l n z) (h : ReadV l w e w') :
    ∃ y c, e = .returned (.tuple #[ScanV n z (.slice y (recOf (l.drop 33)).1.length c) (goodAt n (l.drop 33)) (doneAt n (l.drop 33)), .int .i64 0]) ∧ w'.ownsRow w.heap.size tStr 1 (.slice y (recOf (l.drop 33)).1.length c) (recOf (l.drop 33)).1.length (txtCells (recOf (l.drop 33)).1) ∧ Touch [] w w' := by
  obtain ⟨⟨n', z', v, hb, he, ho⟩ | ⟨hb, _⟩, t⟩ := h
  · obtain ⟨rfl, rfl⟩ := begins_inj HB hb
    obtain ⟨y, c, rfl, _⟩ := own_form ho
    exact ⟨y, c, he, ho, t⟩
  · exact absurd HB (hb n z)
theorem readV_none {l : List UInt8} {w w' : World} {e : Ending} (hN : ∀ n z, ¬ Begins l n z) (h : ReadV l w e w') :
    e = .returned (.tuple #[ScanV 0 0 (.slice none 0 0) 0 false, .int .i64 6]) ∧ Touch [] w w' := by
  obtain ⟨⟨n', z', v, hb, _⟩ | ⟨_, he⟩, t⟩ := h
  · exact absurd hb (hN n' z')
  · exact ⟨he, t⟩
theorem begins_st {n z : Nat} (h1 : n ≤ 999999) (h2 : 100 ≤ z) (h3 : z ≤ 1000000) (r : List UInt8) : Begins (frL (stL n z) ++ r) n z := ⟨h1, h2, h3, List.take_left' (frSt_len n z)⟩
theorem drop_st (n z : Nat) (r : List UInt8) : (frL (stL n z) ++ r).drop 33 = r := List.drop_left' (frSt_len n z)
/-- A text that was read. -/
theorem text_at {w : World} {base : Nat} {y : Option Addr} {c : Nat} {L : List (List UInt8)} (h : w.ownsRow base tStr 1 (.slice y L.length c) L.length (txtCells L)) (i : Nat) (hi : i < L.length) :
    ∃ g, y = some ⟨g, 0, none⟩ ∧ w.cell? ⟨g, i, none⟩ = some (.string (bytesT L[i])) ∧ L.length ≤ c := by
  have hh := h
  rcases h.2 with ⟨_, h0⟩ | ⟨g, cap, cur, hv, hb, _, hc, hm, _⟩
  · omega
  · cases hv
    refine ⟨g, rfl, ?_, by omega⟩
    have := hh.cells (g := g) rfl i (.string (bytesT L[i])) (by simp [txtCells, hi])
    rw [show (⟨g, 0, none⟩ : Addr).add i = ⟨g, i, none⟩ from by unfold Addr.add; split <;> simp_all] at this
    exact this
def aT : ByteArray := ⟨#[97]⟩
/-- A start and the records behind it, all there. -/
theorem read_all (L : List (List UInt8)) (h : ∀ l ∈ L, l.length ≤ 3999) (q : Nat) : recOf (recs L) = (L, (recs L).length) ∧ doneAt q (recs L) = false ∧ goodAt q (recs L) = 33 + (recs L).length := by
  have h0 := rec_cut L h L.length (recs L).length (Nat.le_refl _) (by rw [List.take_of_length_le (Nat.le_refl _)]; exact Nat.le_refl _) (fun h => absurd h (Nat.lt_irrefl _))
  rw [List.take_of_length_le (Nat.le_refl (recs L).length), List.take_of_length_le (Nat.le_refl L.length)] at h0
  refine ⟨h0.1, h0.2 q, ?_⟩
  unfold goodAt
  rw [h0.2 q, h0.1]
  simp

set_option maxHeartbeats 2000000 in
theorem alive10_true (w : World) : Calls Try.prog 7 #[] w fun e w' => e = .returned (.bool true) ∧ Touch [] w w' := by
  have C1 := hid (fun w => start_any 3 500 w (by decide))
  rw [show StartV 3 500 = .tuple #[.string (bytesT (frL (stL 3 500))), .int .i64 0] from rfl] at C1
  have C2 := hid (fun (s : ByteArray) (w : World) (hs : s = bytesT [97]) => show Calls Try.prog 10 #[.string s] w fun e w' => e = .returned (.tuple #[.string (bytesT (frL [1, 97])), .int .i64 0]) ∧ Touch [] w w' by
    subst hs
    exact record_any (bytesT [97]) w (by decide))
  have s1 : (bytesT (frL (stL 3 500))).size = 33 := by rw [bytesT_size, frSt_len]
  have s2 : (bytesT (frL [1, 97])).size = 14 := by rw [bytesT_size, frL_len]; rfl
  have ea : (bytesT (frL (stL 3 500)) ++ bytesT (frL [1, 97])).data.toList = frL (stL 3 500) ++ recs [[97]] := by
    simp [bytesT, recs]
  have C3 := hid (fun w => (read_any (bytesT (frL (stL 3 500)) ++ bytesT (frL [1, 97])) w (by rw [ByteArray.size_append]; omega)).mono fun e w' h => by
    rw [ea] at h
    have h2 := readV_some (begins_st (n := 3) (z := 500) (by decide) (by decide) (by decide) _) h
    rw [drop_st] at h2
    have h3 := read_all [[97]] (by simp) 3
    have h4 : (recs [[97]]).length = 14 := by simp [recs, frL_len]
    rw [h3.2.1, h3.2.2, h3.1, h4] at h2
    exact h2)
  have c1 : ¬ 9223372036854775807 < (bytesT (frL (stL 3 500))).size + (bytesT (frL [1, 97])).size := by omega
  generalize bytesT (frL (stL 3 500)) = X1 at *
  generalize bytesT (frL [1, 97]) = X2 at *
  unfold ScanV at C3
  clear ea
  simp only [List.length_cons, List.length_nil, Nat.zero_add] at C3
  go_enter Try.func7, Try.ntmps7
  go_wp2_with (first
    | (go_at_call 8; refine (C1.out _).mono ?_; rintro e w1 ⟨rfl, t1⟩)
    | (go_at_call 10; refine (C2.out _ _ rfl).mono ?_; rintro e w2 ⟨rfl, t2⟩)
    | (go_at_call 17; refine (C3.out _).mono ?_; rintro e w3 ⟨y, c, rfl, ho, t3⟩; obtain ⟨g, rfl, g1, _⟩ := text_at ho 0 (by decide); have g2 : (w3.alloc (.cells #[.int .i64 3, .int .i64 500, .slice (some ⟨g, 0, none⟩) 1 c, .int .i64 47, .bool false] 43)).cell? ⟨g, 0, none⟩ = some (.string ⟨#[97]⟩) := ((Touch.refl [] w3).alloc _).cell g1))
  go_ret
  exact ⟨rfl, ((t1.trans t2 (by simp)).trans t3 (by simp)).alloc _⟩
end Go.Proofs.Ytmaainnfflapiaa
