/- codec.In: 'Text'; codec.Out: 'Done', 'Len'; codec.Digits. -/
import Derived.Test.YtcihnfgfficmlaaIn
import Derived.Test.YtcihnfgfficmlaaOutd
import Derived.Test.YtcihnfgfficmlaaShelf
namespace Go.Proofs.Ytcihnfgfficmlaa
set_option maxRecDepth 100000
open Go.RowKit Go.Lib

theorem clone_any (s : ByteArray) (w : World) (h : s.size ≤ 281474976710656) :
    Calls Try.prog 91 #[.string s] w fun e w' => e = .returned (.string s) ∧ Touch [] w w' := by
  have C := hid (Try.stringslite_Clone s w h)
  clear h
  go_enter Try.func91, Try.ntmps91
  go_wp2_with (go_at_call 97; refine C.out.mono ?_; rintro e w1 ⟨rfl, hp⟩)
  have hp2 := hid hp
  go_ret
  exact ⟨rfl, Touch.of_below hp2.out⟩

/-- Text(most). -/
def iText (st : List UInt8 × Int) (most : Int) : List UInt8 × (List UInt8 × Int) :=
  if (iTake st 4).2.2 = 0 ∧ most < (val (iTake st 4).1 : Int) then ([], ([], 2)) else iTake (iTake st 4).2 (val (iTake st 4).1)

theorem inText_st (i : Nat) (st : List UInt8 × Int) (most : Int) (w : World) (h : InIs w i st) (hb : st.1.length ≤ 281474976710656) :
    Calls Try.prog 78 #[.pointer (some ⟨i, 0, none⟩), .int .i64 most] w fun e w' => e = .returned (.string ⟨(iText st most).1.toArray⟩) ∧ InPost i (iText st most).2 w w' := by
  have C := hid (inU32_st i st w h)
  have hle := (iTake_le st 4).2
  unfold iText
  generalize hn : val (iTake st 4).1 = n at *
  generalize (iTake st 4).2 = st1 at *
  clear hn h
  by_cases he : st1.2 = 0
  · by_cases hm : most < (n : Int)
    · rw [if_pos ⟨he, hm⟩]
      obtain ⟨r, er⟩ := st1
      obtain rfl : er = 0 := he
      clear hb hle
      have C5 := hid (fun w => take_st i ([], 2) n w)
      have hs : iTake ([], 2) n = ([], ([], 2)) := by simp [iTake]
      rw [hs] at C5
      clear hs
      go_enter Try.func78, Try.ntmps78
      go_wp2_with (go_at_call 90; refine C.out.mono ?_; rintro e w1 ⟨rfl, hp⟩)
      have C2 := hid (err_st i (r, 0) w1 hp.1)
      have C3 := hid (inFail_st i r 2 w1 hp.1)
      have hp1 := hid hp
      clear hp
      go_wp2_with (first | (go_at_call 88; refine C2.out.mono ?_; rintro e w2 ⟨rfl, rfl⟩) | (go_at_call 87; refine C3.out.mono ?_; rintro e w3 ⟨rfl, hp3⟩))
      have C6 := hid (C5.out w3 hp3.1)
      have hp4 : Hid (InPost i ([], 2) w w3) := hp3.up hp1.out.2
      clear hp3
      go_wp2_with (go_at_call 92; refine C6.out.mono ?_; rintro e w4 ⟨rfl, hp5⟩)
      have C7 := hid (clone_any ⟨#[]⟩ w4 (by decide))
      have hp6 : Hid (InPost i ([], 2) w w4) := hp5.up hp4.out.2
      clear hp5
      go_wp2_with (go_at_call 91; refine C7.out.mono ?_; rintro e w5 ⟨rfl, hp7⟩)
      have hp8 : Hid (InPost i ([], 2) w w5) := hp6.out.on hp7
      clear hp7
      go_ret
      exact ⟨rfl, hp8.out⟩
    · rw [if_neg (fun h => hm h.2)]
      have hm2 : (n : Int) ≤ most := by omega
      have he2 : (st1.2 == 0) = true := by simp [he]
      have hsz : Hid ((⟨(iTake st1 n).1.toArray⟩ : ByteArray).size ≤ 281474976710656) := by
        show (iTake st1 n).1.toArray.size ≤ _
        have := (iTake_le st1 n).1
        simp
        omega
      clear hb hle
      clear hm he
      go_enter Try.func78, Try.ntmps78
      go_wp2_with (go_at_call 90; refine C.out.mono ?_; rintro e w1 ⟨rfl, hp⟩)
      have C2 := hid (err_st i st1 w1 hp.1)
      have C3 := hid (take_st i st1 n w1 hp.1)
      have hp1 := hid hp
      clear hp
      go_wp2_with (first | (go_at_call 88; refine C2.out.mono ?_; rintro e w2 ⟨rfl, rfl⟩) | (go_at_call 92; refine C3.out.mono ?_; rintro e w3 ⟨rfl, hp3⟩))
      have C7 := hid (clone_any ⟨(iTake st1 n).1.toArray⟩ w3 hsz.out)
      have hp6 : Hid (InPost i (iTake st1 n).2 w w3) := hp3.up hp1.out.2
      clear hp3
      go_wp2_with (go_at_call 91; refine C7.out.mono ?_; rintro e w5 ⟨rfl, hp7⟩)
      have hp8 : Hid (InPost i (iTake st1 n).2 w w5) := hp6.out.on hp7
      clear hp7
      go_ret
      exact ⟨rfl, hp8.out⟩
  · rw [if_neg (fun h => he h.1)]
    have he2 : (st1.2 == 0) = false := by simpa using he
    have hsz : Hid ((⟨(iTake st1 n).1.toArray⟩ : ByteArray).size ≤ 281474976710656) := by
      show (iTake st1 n).1.toArray.size ≤ _
      have := (iTake_le st1 n).1
      simp
      omega
    clear hb hle
    clear he
    go_enter Try.func78, Try.ntmps78
    go_wp2_with (go_at_call 90; refine C.out.mono ?_; rintro e w1 ⟨rfl, hp⟩)
    have C2 := hid (err_st i st1 w1 hp.1)
    have C3 := hid (take_st i st1 n w1 hp.1)
    have hp1 := hid hp
    clear hp
    go_wp2_with (first | (go_at_call 88; refine C2.out.mono ?_; rintro e w2 ⟨rfl, rfl⟩) | (go_at_call 92; refine C3.out.mono ?_; rintro e w3 ⟨rfl, hp3⟩))
    have C7 := hid (clone_any ⟨(iTake st1 n).1.toArray⟩ w3 hsz.out)
    have hp6 : Hid (InPost i (iTake st1 n).2 w w3) := hp3.up hp1.out.2
    clear hp3
    go_wp2_with (go_at_call 91; refine C7.out.mono ?_; rintro e w5 ⟨rfl, hp7⟩)
    have hp8 : Hid (InPost i (iTake st1 n).2 w w5) := hp6.out.on hp7
    clear hp7
    go_ret
    exact ⟨rfl, hp8.out⟩

/-! ### Out: Done, Len -/
/-- What Done tells. -/
def pDone (st : List UInt8 × Int) : Value := .tuple #[.string ⟨(if st.2 = 0 then st.1 else []).toArray⟩, .int .i64 st.2]

theorem done_st (o : Nat) (F : List Nat) (st : List UInt8 × Int) (w : World) (h : OutIs w o F st) :
    Calls Try.prog 42 #[.pointer (some ⟨o, 0, none⟩)] w fun e w' => e = .returned (pDone st) ∧ ∃ n, w.drewN n = w' := by
  obtain ⟨bs, er⟩ := st
  rcases h with ⟨h0, h⟩ | ⟨h, _⟩
  · obtain rfl : er = 0 := h0
    have hd : pDone (bs, 0) = .tuple #[.string ⟨bs.toArray⟩, .int .i64 0] := by simp [pDone]
    rw [hd]
    rcases h with ⟨h, hb, _⟩ | ⟨p, g, cap, h, hp, hg, _, _, _, _⟩
    · obtain rfl : bs = [] := hb
      have c2 : w.cell? ⟨o, 2, none⟩ = some (.int .i64 0) := cell_of h 2
      have C := hid (text_none o w h)
      clear h
      go_enter Try.func42, Try.ntmps42
      go_wp2_with (go_at_call 71; refine C.out.mono ?_; rintro e w1 ⟨rfl, rfl⟩)
      go_ret2
      exact ⟨rfl, 0, rfl⟩
    · have c2 : w.cell? ⟨o, 2, none⟩ = some (.int .i64 0) := cell_of h 2
      have C := hid (text_some o p g cap bs _ w h hp hg)
      clear h hp hg
      go_enter Try.func42, Try.ntmps42
      go_wp2_with (go_at_call 71; refine C.out.mono ?_; rintro e w1 ⟨rfl, n, rfl⟩)
      go_ret2
      exact ⟨rfl, n, rfl⟩
  · obtain ⟨he, pv, u, h⟩ := h
    have c2 : w.cell? ⟨o, 2, none⟩ = some (.int .i64 er) := cell_of h 2
    have hd : pDone (bs, er) = .tuple #[.string ⟨#[]⟩, .int .i64 er] := by simp only [pDone]; rw [if_neg he]
    rw [hd]
    have hb2 : (er != 0) = true := by simpa using he
    clear h he hd
    go_enter Try.func42, Try.ntmps42
    go_wp2
    go_quiet (fail)
    go_wp2
    go_ret2
    exact ⟨rfl, _, rfl⟩
theorem done_nil (w : World) :
    Calls Try.prog 42 #[.pointer none] w fun e w' => e = .returned (.tuple #[.string ⟨#[]⟩, .int .i64 1]) ∧ w = w' := by
  go_enter Try.func42, Try.ntmps42
  go_wp2
  go_ret2
  exact ⟨rfl, rfl⟩
/-! ### Digits -/
end Go.Proofs.Ytcihnfgfficmlaa
