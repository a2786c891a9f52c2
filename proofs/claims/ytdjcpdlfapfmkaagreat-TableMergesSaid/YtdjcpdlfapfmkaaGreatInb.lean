/- codec.In: 'Text'; codec.Out: 'Done', 'Len'; codec.Digits. -/
import Derived.Test.YtdjcpdlfapfmkaaGreatIn
import Derived.Test.YtdjcpdlfapfmkaaGreatOut
import Derived.Test.YtdjcpdlfapfmkaaGreatShelf
namespace Go.Proofs.YtdjcpdlfapfmkaaGreat
set_option maxRecDepth 100000
open Go.RowKit Go.Lib

theorem clone_any (s : ByteArray) (w : World) (h : s.size ≤ 281474976710656) :
    Calls Tryz.prog 89 #[.string s] w fun e w' => e = .returned (.string s) ∧ Touch [] w w' := by
  have C := hid (Tryz.stringslite_Clone s w h)
  clear h
  go_enter Tryz.func89, Tryz.ntmps89
  go_wp2_with (go_at_call 114; refine C.out.mono ?_; rintro e w1 ⟨rfl, hp⟩)
  have hp2 := hid hp
  go_ret
  exact ⟨rfl, Touch.of_below hp2.out⟩

/-- Text(most). -/
def iText (st : List UInt8 × Int) (most : Int) : List UInt8 × (List UInt8 × Int) :=
  if (iTake st 4).2.2 = 0 ∧ most < (val (iTake st 4).1 : Int) then ([], ([], 2)) else iTake (iTake st 4).2 (val (iTake st 4).1)

/-! ### Out: Done, Len -/
/-- What Done tells. -/
def pDone (st : List UInt8 × Int) : Value := .tuple #[.string ⟨(if st.2 = 0 then st.1 else []).toArray⟩, .int .i64 st.2]

theorem done_st (o : Nat) (F : List Nat) (st : List UInt8 × Int) (w : World) (h : OutIs w o F st) :
    Calls Tryz.prog 34 #[.pointer (some ⟨o, 0, none⟩)] w fun e w' => e = .returned (pDone st) ∧ ∃ n, w.drewN n = w' := by
  obtain ⟨bs, er⟩ := st
  rcases h with ⟨h0, h⟩ | ⟨h, _⟩
  · obtain rfl : er = 0 := h0
    have hd : pDone (bs, 0) = .tuple #[.string ⟨bs.toArray⟩, .int .i64 0] := by simp [pDone]
    rw [hd]
    rcases h with ⟨h, hb, _⟩ | ⟨p, g, cap, h, hp, hg, _, _, _, _⟩
    · obtain rfl : bs = [] := hb
      have c2 : w.cell? ⟨o, 2, none⟩ = some (.int .i64 0) := cell_of h 2
      have C := hid (text_none o w h)
      clear h
      go_enter Tryz.func34, Tryz.ntmps34
      go_wp2_with (go_at_call 83; refine C.out.mono ?_; rintro e w1 ⟨rfl, rfl⟩)
      go_ret2
      exact ⟨rfl, 0, rfl⟩
    · have c2 : w.cell? ⟨o, 2, none⟩ = some (.int .i64 0) := cell_of h 2
      have C := hid (text_some o p g cap bs _ w h hp hg)
      clear h hp hg
      go_enter Tryz.func34, Tryz.ntmps34
      go_wp2_with (go_at_call 83; refine C.out.mono ?_; rintro e w1 ⟨rfl, n, rfl⟩)
      go_ret2
      exact ⟨rfl, n, rfl⟩
  · obtain ⟨he, pv, u, h⟩ := h
    have c2 : w.cell? ⟨o, 2, none⟩ = some (.int .i64 er) := cell_of h 2
    have hd : pDone (bs, er) = .tuple #[.string ⟨#[]⟩, .int .i64 er] := by simp only [pDone]; rw [if_neg he]
    rw [hd]
    have hb2 : (er != 0) = true := by simpa using he
    clear h he hd
    go_enter Tryz.func34, Tryz.ntmps34
    go_wp2
    go_quiet (fail)
    go_wp2
    go_ret2
    exact ⟨rfl, _, rfl⟩
theorem done_nil (w : World) :
    Calls Tryz.prog 34 #[.pointer none] w fun e w' => e = .returned (.tuple #[.string ⟨#[]⟩, .int .i64 1]) ∧ w = w' := by
  go_enter Tryz.func34, Tryz.ntmps34
  go_wp2
  go_ret2
  exact ⟨rfl, rfl⟩
/-! ### Digits -/
end Go.Proofs.YtdjcpdlfapfmkaaGreat
