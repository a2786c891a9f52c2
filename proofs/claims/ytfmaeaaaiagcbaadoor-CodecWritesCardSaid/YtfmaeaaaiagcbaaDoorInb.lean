/- codec.In: 'Text'; codec.Out: 'Done', 'Len'; codec.Digits. -/
import Derived.Test.YtfmaeaaaiagcbaaDoorIn
import Derived.Test.YtfmaeaaaiagcbaaDoorOutd
import Derived.Test.YtfmaeaaaiagcbaaDoorShelf
namespace Go.Proofs.YtfmaeaaaiagcbaaDoor
open Go.RowKit Go.Lib

/-- Text(most). -/
def iText (st : List UInt8 × Int) (most : Int) : List UInt8 × (List UInt8 × Int) :=
  if (iTake st 4).2.2 = 0 ∧ most < (val (iTake st 4).1 : Int) then ([], ([], 2)) else iTake (iTake st 4).2 (val (iTake st 4).1)

/-! ### Out: Done, Len -/
/-- What Done tells. -/
def pDone (st : List UInt8 × Int) : Value := .tuple #[.string ⟨(if st.2 = 0 then st.1 else []).toArray⟩, .int .i64 st.2]

theorem done_st (o : Nat) (F : List Nat) (st : List UInt8 × Int) (w : World) (h : OutIs w o F st) :
    Calls Tryd.prog 17 #[.pointer (some ⟨o, 0, none⟩)] w fun e w' => e = .returned (pDone st) ∧ ∃ n, w.drewN n = w' := by
  obtain ⟨bs, er⟩ := st
  rcases h with ⟨h0, h⟩ | ⟨h, _⟩
  · obtain rfl : er = 0 := h0
    have hd : pDone (bs, 0) = .tuple #[.string ⟨bs.toArray⟩, .int .i64 0] := by simp [pDone]
    rw [hd]
    rcases h with ⟨h, hb, _⟩ | ⟨p, g, cap, h, hp, hg, _, _, _, _⟩
    · obtain rfl : bs = [] := hb
      have c2 : w.cell? ⟨o, 2, none⟩ = some (.int .i64 0) := cell_of h 2
      have C := hid (text_none o w h)
      clear h
      go_enter Tryd.func17, Tryd.ntmps17
      go_wp2_with (go_at_call 31; refine C.out.mono ?_; rintro e w1 ⟨rfl, rfl⟩)
      go_ret2
      exact ⟨rfl, 0, rfl⟩
    · have c2 : w.cell? ⟨o, 2, none⟩ = some (.int .i64 0) := cell_of h 2
      have C := hid (text_some o p g cap bs _ w h hp hg)
      clear h hp hg
      go_enter Tryd.func17, Tryd.ntmps17
      go_wp2_with (go_at_call 31; refine C.out.mono ?_; rintro e w1 ⟨rfl, n, rfl⟩)
      go_ret2
      exact ⟨rfl, n, rfl⟩
  · obtain ⟨he, pv, u, h⟩ := h
    have c2 : w.cell? ⟨o, 2, none⟩ = some (.int .i64 er) := cell_of h 2
    have hd : pDone (bs, er) = .tuple #[.string ⟨#[]⟩, .int .i64 er] := by simp only [pDone]; rw [if_neg he]
    rw [hd]
    have hb2 : (er != 0) = true := by simpa using he
    clear h he hd
    go_enter Tryd.func17, Tryd.ntmps17
    go_wp2
    go_quiet (fail)
    go_wp2
    go_ret2
    exact ⟨rfl, _, rfl⟩
theorem done_nil (w : World) :
    Calls Tryd.prog 17 #[.pointer none] w fun e w' => e = .returned (.tuple #[.string ⟨#[]⟩, .int .i64 1]) ∧ w = w' := by
  go_enter Tryd.func17, Tryd.ntmps17
  go_wp2
  go_ret2
  exact ⟨rfl, rfl⟩
theorem len_st (o : Nat) (F : List Nat) (bs : List UInt8) (w : World) (h : OutIs w o F (bs, 0)) :
    Calls Tryd.prog 19 #[.pointer (some ⟨o, 0, none⟩)] w fun e w' => e = .returned (.int .i64 bs.length) ∧ w = w' := by
  have c1 : w.cell? ⟨o, 1, none⟩ = some (.int .i64 bs.length) := by
    rcases h with ⟨_, ⟨h, hb, _⟩ | ⟨p, g, cap, h, _⟩⟩ | ⟨h, _⟩
    · obtain rfl : bs = [] := hb
      exact cell_of h 1
    · exact cell_of h 1
    · exact absurd rfl h.1
  clear h
  go_enter Tryd.func19, Tryd.ntmps19
  go_wp2
  go_ret
  exact ⟨rfl, rfl⟩
theorem len_nil (w : World) :
    Calls Tryd.prog 19 #[.pointer none] w fun e w' => e = .returned (.int .i64 0) ∧ w = w' := by
  go_enter Tryd.func19, Tryd.ntmps19
  go_wp2
  go_ret
  exact ⟨rfl, rfl⟩

/-! ### Digits -/
theorem grow_below (w : World) (k : Nat) (os : Array Obj) : Below w.heap.size w (Go.Sort.grow (w.drewN k) os) := by
  have h := (Touch.refl [] w).drewN k
  refine ⟨h.os, h.tape, h.output, ?_, fun j hj => ?_⟩
  · show _ ≤ ((w.drewN k).heap ++ os).size
    rw [drewN_heap]; simp
  · show ((w.drewN k).heap ++ os)[j]? = _
    rw [drewN_heap, Array.getElem?_append_left hj]
theorem digits_any (v : Int) (w : World) (h0 : -9223372036854775808 ≤ v) (h1 : v ≤ 9223372036854775807) (htab : TabIs Tryd.prog w "internal/strconv.uint64pow10" .u64 pow10Tab) :
    Calls Tryd.prog 23 #[.int .i64 v] w fun e w' => e = .returned (.string ⟨(itoa v).toArray⟩) ∧ Touch [] w w' := by
  have C := hid (Tryd.strconv_Itoa v h0 h1 w htab)
  clear h0 h1 htab
  go_enter Tryd.func23, Tryd.ntmps23
  go_wp2_with (go_at_call 33; refine C.out.mono ?_; rintro e w1 ⟨rfl, k, os, rfl⟩)
  go_ret
  exact ⟨rfl, Touch.of_below (grow_below _ _ _)⟩
end Go.Proofs.YtfmaeaaaiagcbaaDoor
