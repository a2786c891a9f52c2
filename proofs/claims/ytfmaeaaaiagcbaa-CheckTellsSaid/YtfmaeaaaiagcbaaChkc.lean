/- check's Seal and Open: their contracts. -/
import Derived.Test.YtfmaeaaaiagcbaaChkb
namespace Go.Proofs.Ytfmaeaaaiagcbaa
open Go.RowKit Go.Lib

theorem sum_one (b cap : Nat) (s : ByteArray) (w : World) (hs : s.size ≤ maxLen) (hc : w.cell? ⟨b, 0, none⟩ = some (.string s)) :
    Calls Try.prog 12 #[.slice (some ⟨b, 0, none⟩) 1 cap] w fun e w' => e = .returned (.int .u32 (crc s.data.toList : Int)) ∧ Touch [] w w' := by
  have h := sum_some b 0 cap [s] w (by simp) (fun i hi => by
    have : i = 0 := by simpa using hi
    subst this
    exact ⟨by simpa using hc, by simpa using hs⟩)
  rw [cat_one] at h
  exact h

/-- What Seal makes. -/
def sealed (s : ByteArray) : ByteArray := ⟨(four (crc s.data.toList) ++ s.data.toList).toArray⟩
theorem sealed_list (s : ByteArray) : (sealed s).data.toList = four (crc s.data.toList) ++ s.data.toList := by simp [sealed]
theorem sealed_size (s : ByteArray) : (sealed s).size = s.size + 4 := by
  rw [← list_len, sealed_list, List.length_append, four_length, list_len]; omega
theorem sealed_eq (s : ByteArray) : (⟨(four (crc s.data.toList)).toArray⟩ : ByteArray) ++ s = sealed s := by
  apply ByteArray.ext
  apply Array.ext'
  rw [sealed_list]
  simp

theorem seal_any (s : ByteArray) (w : World) (hs : s.size ≤ 100000) :
    Calls Try.prog 14 #[.string s] w fun e w' => e = .returned (.string (sealed s)) ∧ Touch [] w w' := by
  have C := hid (sum_one w.heap.size 1 s (w.alloc (.cells #[.string s] 9)) (by unfold maxLen; omega) (cell_of (heap_alloc_new w _) 0))
  have D := hid fun (w1 : World) => laid_any (crc s.data.toList) (by have := crc_lt s.data.toList; omega) w1
  have E := hid (sealed_eq s)
  generalize crc s.data.toList = n at *
  have hl : (four n).length + s.size ≤ 9223372036854775807 := by rw [four_length]; omega
  go_enter Try.func14, Try.ntmps14
  go_wp2_with (first | (go_at_call 12; refine C.out.mono ?_; rintro e w1 ⟨rfl, h1⟩) | (go_at_call 18; refine (D.out _).mono ?_; rintro e w2 ⟨rfl, h2⟩))
  go_ret
  exact ⟨by rw [← E.out]; rfl, (((Touch.refl _ _).alloc _).trans h1 (by simp)).trans h2 (by simp)⟩

theorem refSeal_any (s : ByteArray) (w : World) (hs : s.size ≤ 100000) :
    Calls Try.prog 15 #[.string s] w fun e w' => e = .returned (.string (sealed s)) ∧ Touch [] w w' := by
  have C := hid (refSum_any s w (by unfold maxLen; omega))
  have D := hid fun (w1 : World) => refFour_any (crc s.data.toList) (by have := crc_lt s.data.toList; omega) w1
  have E := hid (sealed_eq s)
  generalize crc s.data.toList = n at *
  have hl : (four n).length + s.size ≤ 9223372036854775807 := by rw [four_length]; omega
  go_enter Try.func15, Try.ntmps15
  go_wp2_with (first | (go_at_call 13; refine C.out.mono ?_; rintro e w1 ⟨rfl, rfl⟩) | (go_at_call 20; refine (D.out _).mono ?_; rintro e w2 ⟨rfl, h2⟩))
  go_ret
  exact ⟨by rw [← E.out]; rfl, h2⟩

/-- What Open tells of a text with its sum p and what stands behind it. -/
def openOf (p q : ByteArray) : Value :=
  if p = ⟨(four (crc q.data.toList)).toArray⟩ then .tuple #[.string q, .int .i64 0] else .tuple #[.string ⟨#[]⟩, .int .i64 7]

theorem open_test (p q : ByteArray) : (p.toList == four (crc q.data.toList)) = decide (p = ⟨(four (crc q.data.toList)).toArray⟩) := by
  rw [Bool.eq_iff_iff, beq_iff_eq, decide_eq_true_iff, ByteArray.toList_eq]
  constructor
  · intro h
    rw [← h]
  · intro h
    rw [h]

theorem open_short (b : ByteArray) (w : World) (h : (b.size : Int) < 4) :
    Calls Try.prog 10 #[.string b] w fun e w' => e = .returned (.tuple #[.string ⟨#[]⟩, .int .i64 5]) ∧ w = w' := by
  go_enter Try.func10, Try.ntmps10
  go_wp2
  go_ret2
  exact ⟨rfl, rfl⟩

theorem extract_le (b : ByteArray) (h : b.size ≤ 100000) : (b.extract 4 b.size).size ≤ 100000 := by
  rw [ByteArray.size_extract]; omega

theorem clone_any (s : ByteArray) (w : World) (h : s.size ≤ 281474976710656) :
    Calls Try.prog 19 #[.string s] w fun e w' => e = .returned (.string s) ∧ Touch [] w w' := by
  have C := hid (Try.stringslite_Clone s w h)
  clear h
  go_enter Try.func19, Try.ntmps19
  go_wp2_with (go_at_call 23; refine C.out.mono ?_; rintro e w' ⟨rfl, h1⟩)
  go_ret
  exact ⟨rfl, Touch.of_below h1⟩

set_option maxHeartbeats 1000000 in
theorem open_long (b : ByteArray) (w : World) (h : (4 : Int) ≤ b.size) (hs : b.size ≤ 100000) :
    Calls Try.prog 10 #[.string b] w fun e w' => e = .returned (openOf (b.extract 0 4) (b.extract 4 b.size)) ∧ Touch [] w w' := by
  have hq := extract_le b hs
  have C := hid fun (n : Nat) => sum_one w.heap.size 1 (b.extract 4 b.size) ((w.drewN n).alloc (.cells #[.string (b.extract 4 b.size)] 9)) (by unfold maxLen; omega) (by have := cell_of (heap_alloc_new (w.drewN n) (.cells #[.string (b.extract 4 b.size)] 9)) 0; rw [drewN_heap] at this; exact this)
  have D := hid fun (w1 : World) => laid_any (crc (b.extract 4 b.size).data.toList) (by have := crc_lt (b.extract 4 b.size).data.toList; omega) w1
  have L := hid fun (w1 : World) => clone_any (b.extract 4 b.size) w1 (by omega)
  by_cases he : b.extract 0 4 = ⟨(four (crc (b.extract 4 b.size).data.toList)).toArray⟩
  · have hR := hid (show openOf (b.extract 0 4) (b.extract 4 b.size) = .tuple #[.string (b.extract 4 b.size), .int .i64 0] by unfold openOf; rw [if_pos he])
    have t1 : ((b.extract 0 4).toList == four (crc (b.extract 4 b.size).data.toList)) = true := by rw [open_test]; exact decide_eq_true he
    clear he
    go_enter Try.func10, Try.ntmps10
    go_wp2
    go_quiet (fail)
    generalize hqe : b.extract 4 b.size = q at C D L t1 hq ⊢
    have HQ := hid hqe
    clear hqe
    generalize b.extract 0 4 = p at t1 ⊢
    generalize crc q.data.toList = n at *
    go_wp2_with (first | (go_at_call 12; refine (C.out _).mono ?_; rintro e w1 ⟨rfl, h1⟩) | (go_at_call 18; refine (D.out _).mono ?_; rintro e w2 ⟨rfl, h2⟩) | (go_at_call 19; refine (L.out _).mono ?_; rintro e w3 ⟨rfl, h3⟩))
    go_ret2
    exact ⟨by rw [hR.out, HQ.out]; rfl, ((((((Touch.refl _ _).drewN _).alloc _).trans h1 (by simp)).trans h2 (by simp))).trans h3 (by simp)⟩
  · have hR := hid (show openOf (b.extract 0 4) (b.extract 4 b.size) = .tuple #[.string ⟨#[]⟩, .int .i64 7] by unfold openOf; rw [if_neg he])
    have t1 : ((b.extract 0 4).toList == four (crc (b.extract 4 b.size).data.toList)) = false := by rw [open_test]; exact decide_eq_false he
    clear he
    go_enter Try.func10, Try.ntmps10
    go_wp2
    go_quiet (fail)
    generalize hqe : b.extract 4 b.size = q at C D L t1 hq ⊢
    have HQ := hid hqe
    clear hqe
    generalize b.extract 0 4 = p at t1 ⊢
    generalize crc q.data.toList = n at *
    go_wp2_with (first | (go_at_call 12; refine (C.out _).mono ?_; rintro e w1 ⟨rfl, h1⟩) | (go_at_call 18; refine (D.out _).mono ?_; rintro e w2 ⟨rfl, h2⟩) | (go_at_call 19; refine (L.out _).mono ?_; rintro e w3 ⟨rfl, h3⟩))
    go_ret2
    exact ⟨by rw [hR.out]; rfl, (((((Touch.refl _ _).drewN _).alloc _).trans h1 (by simp)).trans h2 (by simp))⟩
end Go.Proofs.Ytfmaeaaaiagcbaa
