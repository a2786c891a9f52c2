/- codec.In: 'Text'; codec.Out: 'Done', 'Len'; codec.Digits. -/
import Derived.Test.YteaogpbbmekinaaDoorIn
import Derived.Test.YteaogpbbmekinaaDoorOutd
import Derived.Test.YteaogpbbmekinaaDoorShelf
namespace Go.Proofs.YteaogpbbmekinaaDoor
open Go.RowKit Go.Lib

theorem clone_any (s : ByteArray) (w : World) (h : s.size ≤ 281474976710656) :
    Calls Tryd.prog 60 #[.string s] w fun e w' => e = .returned (.string s) ∧ Touch [] w w' := by
  have C := hid (Tryd.stringslite_Clone s w h)
  clear h
  go_enter Tryd.func60, Tryd.ntmps60
  go_wp2_with (go_at_call 66; refine C.out.mono ?_; rintro e w1 ⟨rfl, hp⟩)
  have hp2 := hid hp
  go_ret
  exact ⟨rfl, Touch.of_below hp2.out⟩

/-- Text(most). -/
def iText (st : List UInt8 × Int) (most : Int) : List UInt8 × (List UInt8 × Int) :=
  if (iTake st 4).2.2 = 0 ∧ most < (val (iTake st 4).1 : Int) then ([], ([], 2)) else iTake (iTake st 4).2 (val (iTake st 4).1)

theorem inText_st (i : Nat) (st : List UInt8 × Int) (most : Int) (w : World) (h : InIs w i st) (hb : st.1.length ≤ 281474976710656) :
    Calls Tryd.prog 38 #[.pointer (some ⟨i, 0, none⟩), .int .i64 most] w fun e w' => e = .returned (.string ⟨(iText st most).1.toArray⟩) ∧ InPost i (iText st most).2 w w' := by
  have C := hid (inU32_st i st w h)
  have hle := (iTake_le st 4).2
  unfold iText
  generalize hn : val (iTake st 4).1 = n at *
  generalize (iTake st 4).2 = st1 at *
  clear hn h
  by_cases he : st1.2 = 0
  · by_cases hm : most < (n : Int)
    · rw [if_pos ⟨he, hm⟩]
      obtain ⟨r, er⟩ := st1
      obtain rfl : er = 0 := he
      clear hb hle
      have C5 := hid (fun w => take_st i ([], 2) n w)
      have hs : iTake ([], 2) n = ([], ([], 2)) := by simp [iTake]
      rw [hs] at C5
      clear hs
      go_enter Tryd.func38, Tryd.ntmps38
      go_wp2_with (go_at_call 32; refine C.out.mono ?_; rintro e w1 ⟨rfl, hp⟩)
      have C2 := hid (err_st i (r, 0) w1 hp.1)
      have C3 := hid (inFail_st i r 2 w1 hp.1)
      have hp1 := hid hp
      clear hp
      go_wp2_with (first | (go_at_call 40; refine C2.out.mono ?_; rintro e w2 ⟨rfl, rfl⟩) | (go_at_call 59; refine C3.out.mono ?_; rintro e w3 ⟨rfl, hp3⟩))
      have C6 := hid (C5.out w3 hp3.1)
      have hp4 : Hid (InPost i ([], 2) w w3) := hp3.up hp1.out.2
      clear hp3
      go_wp2_with (go_at_call 61; refine C6.out.mono ?_; rintro e w4 ⟨rfl, hp5⟩)
      have C7 := hid (clone_any ⟨#[]⟩ w4 (by decide))
      have hp6 : Hid (InPost i ([], 2) w w4) := hp5.up hp4.out.2
      clear hp5
      go_wp2_with (go_at_call 60; refine C7.out.mono ?_; rintro e w5 ⟨rfl, hp7⟩)
      have hp8 : Hid (InPost i ([], 2) w w5) := hp6.out.on hp7
      clear hp7
      go_ret
      exact ⟨rfl, hp8.out⟩
    · rw [if_neg (fun h => hm h.2)]
      have hm2 : (n : Int) ≤ most := by omega
      have he2 : (st1.2 == 0) = true := by simp [he]
      have hsz : Hid ((⟨(iTake st1 n).1.toArray⟩ : ByteArray).size ≤ 281474976710656) := by
        show (iTake st1 n).1.toArray.size ≤ _
        have := (iTake_le st1 n).1
        simp
        omega
      clear hb hle
      clear hm he
      go_enter Tryd.func38, Tryd.ntmps38
      go_wp2_with (go_at_call 32; refine C.out.mono ?_; rintro e w1 ⟨rfl, hp⟩)
      have C2 := hid (err_st i st1 w1 hp.1)
      have C3 := hid (take_st i st1 n w1 hp.1)
      have hp1 := hid hp
      clear hp
      go_wp2_with (first | (go_at_call 40; refine C2.out.mono ?_; rintro e w2 ⟨rfl, rfl⟩) | (go_at_call 61; refine C3.out.mono ?_; rintro e w3 ⟨rfl, hp3⟩))
      have C7 := hid (clone_any ⟨(iTake st1 n).1.toArray⟩ w3 hsz.out)
      have hp6 : Hid (InPost i (iTake st1 n).2 w w3) := hp3.up hp1.out.2
      clear hp3
      go_wp2_with (go_at_call 60; refine C7.out.mono ?_; rintro e w5 ⟨rfl, hp7⟩)
      have hp8 : Hid (InPost i (iTake st1 n).2 w w5) := hp6.out.on hp7
      clear hp7
      go_ret
      exact ⟨rfl, hp8.out⟩
  · rw [if_neg (fun h => he h.1)]
    have he2 : (st1.2 == 0) = false := by simpa using he
    have hsz : Hid ((⟨(iTake st1 n).1.toArray⟩ : ByteArray).size ≤ 281474976710656) := by
      show (iTake st1 n).1.toArray.size ≤ _
      have := (iTake_le st1 n).1
      simp
      omega
    clear hb hle
    clear he
    go_enter Tryd.func38, Tryd.ntmps38
    go_wp2_with (go_at_call 32; refine C.out.mono ?_; rintro e w1 ⟨rfl, hp⟩)
    have C2 := hid (err_st i st1 w1 hp.1)
    have C3 := hid (take_st i st1 n w1 hp.1)
    have hp1 := hid hp
    clear hp
    go_wp2_with (first | (go_at_call 40; refine C2.out.mono ?_; rintro e w2 ⟨rfl, rfl⟩) | (go_at_call 61; refine C3.out.mono ?_; rintro e w3 ⟨rfl, hp3⟩))
    have C7 := hid (clone_any ⟨(iTake st1 n).1.toArray⟩ w3 hsz.out)
    have hp6 : Hid (InPost i (iTake st1 n).2 w w3) := hp3.up hp1.out.2
    clear hp3
    go_wp2_with (go_at_call 60; refine C7.out.mono ?_; rintro e w5 ⟨rfl, hp7⟩)
    have hp8 : Hid (InPost i (iTake st1 n).2 w w5) := hp6.out.on hp7
    clear hp7
    go_ret
    exact ⟨rfl, hp8.out⟩

/-! ### Out: Done, Len -/
/-- What Done tells. -/
def pDone (st : List UInt8 × Int) : Value := .tuple #[.string ⟨(if st.2 = 0 then st.1 else []).toArray⟩, .int .i64 st.2]

theorem done_st (o : Nat) (F : List Nat) (st : List UInt8 × Int) (w : World) (h : OutIs w o F st) :
    Calls Tryd.prog 26 #[.pointer (some ⟨o, 0, none⟩)] w fun e w' => e = .returned (pDone st) ∧ ∃ n, w.drewN n = w' := by
  obtain ⟨bs, er⟩ := st
  rcases h with ⟨h0, h⟩ | ⟨h, _⟩
  · obtain rfl : er = 0 := h0
    have hd : pDone (bs, 0) = .tuple #[.string ⟨bs.toArray⟩, .int .i64 0] := by simp [pDone]
    rw [hd]
    rcases h with ⟨h, hb, _⟩ | ⟨p, g, cap, h, hp, hg, _, _, _, _⟩
    · obtain rfl : bs = [] := hb
      have c2 : w.cell? ⟨o, 2, none⟩ = some (.int .i64 0) := cell_of h 2
      have C := hid (text_none o w h)
      clear h
      go_enter Tryd.func26, Tryd.ntmps26
      go_wp2_with (go_at_call 55; refine C.out.mono ?_; rintro e w1 ⟨rfl, rfl⟩)
      go_ret2
      exact ⟨rfl, 0, rfl⟩
    · have c2 : w.cell? ⟨o, 2, none⟩ = some (.int .i64 0) := cell_of h 2
      have C := hid (text_some o p g cap bs _ w h hp hg)
      clear h hp hg
      go_enter Tryd.func26, Tryd.ntmps26
      go_wp2_with (go_at_call 55; refine C.out.mono ?_; rintro e w1 ⟨rfl, n, rfl⟩)
      go_ret2
      exact ⟨rfl, n, rfl⟩
  · obtain ⟨he, pv, u, h⟩ := h
    have c2 : w.cell? ⟨o, 2, none⟩ = some (.int .i64 er) := cell_of h 2
    have hd : pDone (bs, er) = .tuple #[.string ⟨#[]⟩, .int .i64 er] := by simp only [pDone]; rw [if_neg he]
    rw [hd]
    have hb2 : (er != 0) = true := by simpa using he
    clear h he hd
    go_enter Tryd.func26, Tryd.ntmps26
    go_wp2
    go_quiet (fail)
    go_wp2
    go_ret2
    exact ⟨rfl, _, rfl⟩
theorem done_nil (w : World) :
    Calls Tryd.prog 26 #[.pointer none] w fun e w' => e = .returned (.tuple #[.string ⟨#[]⟩, .int .i64 1]) ∧ w = w' := by
  go_enter Tryd.func26, Tryd.ntmps26
  go_wp2
  go_ret2
  exact ⟨rfl, rfl⟩
theorem len_st (o : Nat) (F : List Nat) (bs : List UInt8) (w : World) (h : OutIs w o F (bs, 0)) :
    Calls Tryd.prog 28 #[.pointer (some ⟨o, 0, none⟩)] w fun e w' => e = .returned (.int .i64 bs.length) ∧ w = w' := by
  have c1 : w.cell? ⟨o, 1, none⟩ = some (.int .i64 bs.length) := by
    rcases h with ⟨_, ⟨h, hb, _⟩ | ⟨p, g, cap, h, _⟩⟩ | ⟨h, _⟩
    · obtain rfl : bs = [] := hb
      exact cell_of h 1
    · exact cell_of h 1
    · exact absurd rfl h.1
  clear h
  go_enter Tryd.func28, Tryd.ntmps28
  go_wp2
  go_ret
  exact ⟨rfl, rfl⟩
theorem len_nil (w : World) :
    Calls Tryd.prog 28 #[.pointer none] w fun e w' => e = .returned (.int .i64 0) ∧ w = w' := by
  go_enter Tryd.func28, Tryd.ntmps28
  go_wp2
  go_ret
  exact ⟨rfl, rfl⟩

/-! ### Digits -/
theorem grow_below (w : World) (k : Nat) (os : Array Obj) : Below w.heap.size w (Go.Sort.grow (w.drewN k) os) := by
  have h := (Touch.refl [] w).drewN k
  refine ⟨h.os, h.tape, h.output, ?_, fun j hj => ?_⟩
  · show _ ≤ ((w.drewN k).heap ++ os).size
    rw [drewN_heap]; simp
  · show ((w.drewN k).heap ++ os)[j]? = _
    rw [drewN_heap, Array.getElem?_append_left hj]
theorem digits_any (v : Int) (w : World) (h0 : -9223372036854775808 ≤ v) (h1 : v ≤ 9223372036854775807) (htab : TabIs Tryd.prog w "internal/strconv.uint64pow10" .u64 pow10Tab) :
    Calls Tryd.prog 46 #[.int .i64 v] w fun e w' => e = .returned (.string ⟨(itoa v).toArray⟩) ∧ Touch [] w w' := by
  have C := hid (Tryd.strconv_Itoa v h0 h1 w htab)
  clear h0 h1 htab
  go_enter Tryd.func46, Tryd.ntmps46
  go_wp2_with (go_at_call 63; refine C.out.mono ?_; rintro e w1 ⟨rfl, k, os, rfl⟩)
  go_ret
  exact ⟨rfl, Touch.of_below (grow_below _ _ _)⟩
end Go.Proofs.YteaogpbbmekinaaDoor
