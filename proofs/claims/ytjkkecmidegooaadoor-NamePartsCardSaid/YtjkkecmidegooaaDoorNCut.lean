/- strings.Cut at one byte, strings.Clone; what name.Category and the laws' own Category tell. -/
import Derived.Test.YtjkkecmidegooaaDoorStm
import Derived.Test.YtjkkecmidegooaaDoorShelf
namespace Go.Proofs.YtjkkecmidegooaaDoor
open Go.RowKit Go.Lib

/-- What stands ahead of the first c, and behind it. -/
def hdB (c : UInt8) (l : List UInt8) : List UInt8 := l.takeWhile (· != c)
def tlB (c : UInt8) (l : List UInt8) : List UInt8 := (l.dropWhile (· != c)).drop 1
theorem index_hdB (c : UInt8) : ∀ l : List UInt8, (indexByte l c = -1 ∧ c ∉ l ∧ hdB c l = l ∧ tlB c l = []) ∨ (∃ i : Nat, indexByte l c = i ∧ i < l.length ∧ c ∈ l ∧ hdB c l = l.take i ∧ tlB c l = l.drop (i + 1))
  | [] => .inl ⟨rfl, by simp, rfl, rfl⟩
  | b :: l => by
    by_cases h : b = c
    · right
      subst h
      exact ⟨0, by simp [indexByte], by simp, by simp, by simp [hdB], by simp [tlB]⟩
    · have hb : (b == c) = false := by simpa using h
      have hb2 : (b != c) = true := by simpa using h
      have hc : ¬ c = b := fun e => h e.symm
      rcases index_hdB c l with ⟨h1, h0, h2, h3⟩ | ⟨i, h1, h2, h0, h3, h4⟩
      · left
        refine ⟨?_, by simp [hc, h0], ?_, ?_⟩
        · unfold indexByte; rw [hb, h1]; rfl
        · unfold hdB at *; rw [List.takeWhile_cons, if_pos hb2, h2]
        · unfold tlB at *; rw [List.dropWhile_cons, if_pos hb2, h3]
      · right
        refine ⟨i + 1, ?_, by simp; omega, by simp [h0], ?_, ?_⟩
        · unfold indexByte
          rw [hb, h1, if_neg (by simp), if_neg (by simp)]; rfl
        · unfold hdB at *; rw [List.takeWhile_cons, if_pos hb2, h3]; rfl
        · unfold tlB at *; rw [List.dropWhile_cons, if_pos hb2, h4]; rfl
/-- Texts of bytes. -/
def txt (l : List UInt8) : ByteArray := ⟨l.toArray⟩
theorem txt_list (l : List UInt8) : (txt l).data.toList = l := rfl
theorem txt_size (l : List UInt8) : (txt l).size = l.length := by unfold txt; rfl
theorem txt_self (s : ByteArray) : txt s.data.toList = s := (str_eq rfl).symm
theorem txt_head (s : ByteArray) (i : Nat) : txt (s.data.toList.take i) = s.extract 0 i := by
  apply ByteArray.ext
  unfold txt
  apply Array.ext'
  simp [Array.toList_extract]
theorem txt_tail (s : ByteArray) (i : Nat) : txt (s.data.toList.drop i) = s.extract i s.size := by
  apply ByteArray.ext
  unfold txt
  apply Array.ext'
  simp [Array.toList_extract]
  exact (List.take_of_length_le (by simp)).symm
theorem hdB_le (c : UInt8) (l : List UInt8) : (hdB c l).length ≤ l.length := by
  rcases index_hdB c l with ⟨_, _, h3, _⟩ | ⟨i, _, h2, _, h4, _⟩
  · rw [h3]; exact Nat.le_refl _
  · rw [h4, List.length_take]; omega
theorem tlB_le (c : UInt8) (l : List UInt8) : (tlB c l).length ≤ l.length := by
  rcases index_hdB c l with ⟨_, _, _, h3⟩ | ⟨i, _, h2, _, _, h4⟩
  · rw [h3]; simp
  · rw [h4]; simp
theorem hdB_at {c : UInt8} {l : List UInt8} {i : Nat} (hi : i < l.length) (h : l[i] = c) (hn : c ∉ l.take i) : hdB c l = l.take i ∧ tlB c l = l.drop (i + 1) ∧ c ∈ l := by
  induction l generalizing i with
  | nil => simp at hi
  | cons b l ih =>
    cases i with
    | zero =>
      simp only [List.getElem_cons_zero] at h
      subst h
      exact ⟨by simp [hdB], by simp [tlB], by simp⟩
    | succ i =>
      simp only [List.take_succ_cons, List.mem_cons, not_or] at hn
      have hb2 : (b != c) = true := by simp; exact fun e => hn.1 e.symm
      obtain ⟨h1, h2, h3⟩ := ih (i := i) (by simpa using hi) (by simpa using h) hn.2
      refine ⟨?_, ?_, by simp [h3]⟩
      · unfold hdB at *; rw [List.takeWhile_cons, if_pos hb2, h1]; rfl
      · unfold tlB at *; rw [List.dropWhile_cons, if_pos hb2, h2]; rfl
theorem hdB_none {c : UInt8} {l : List UInt8} (h : c ∉ l) : hdB c l = l ∧ tlB c l = [] := by
  rcases index_hdB c l with ⟨_, _, h2, h3⟩ | ⟨i, _, _, h0, _, _⟩
  · exact ⟨h2, h3⟩
  · exact absurd h0 h

theorem nat_index (s : ByteArray) (c : UInt8) (w : World) :
    Calls Tryd.prog 37 #[.string s, .string ⟨#[c]⟩] w fun e w' => e = .returned (.int .i64 (indexByte s.data.toList c)) ∧ w = w' :=
  (Tryd.stringslite_Index_one s c w).mono (by rintro e w' ⟨rfl, rfl⟩; exact ⟨rfl, rfl⟩)

def CutPost (c : UInt8) (l : List UInt8) (w : World) (e : Ending) (w' : World) : Prop := e = .returned (.tuple #[.string (txt (hdB c l)), .string (txt (tlB c l)), .bool (decide (c ∈ l))]) ∧ ∃ n, w' = w.drewN n
theorem lcut_at (s : ByteArray) (c : UInt8) (w : World) (hs : s.size ≤ 9223372036854775807) :
    Calls Tryd.prog 31 #[.string s, .string ⟨#[c]⟩] w (CutPost c s.data.toList w) := by
  have C := hid (nat_index s c w)
  rcases index_hdB c s.data.toList with ⟨h1, h0, h2, h3⟩ | ⟨i, h1, h2, h0, h3, h4⟩
  · rw [h1] at C
    have hp : Hid (CutPost c s.data.toList w = fun e w' => e = .returned (.tuple #[.string s, .string ⟨#[]⟩, .bool false]) ∧ ∃ n, w' = w.drewN n) := by
      unfold Hid CutPost
      rw [h2, h3, decide_eq_false h0]
      rfl
    rw [hp.out]
    clear h1 h2 h3 h0 hp
    go_enter Tryd.func31, Tryd.ntmps31
    go_wp2_with (go_at_call 37; refine C.out.mono ?_; rintro e w' ⟨rfl, rfl⟩)
    refine bodyPost_ret (v := .tuple #[.string s, .string ⟨#[]⟩, .bool false]) (by simp [results, Tryd.results31, go_sem]) rfl ⟨rfl, 0, rfl⟩
  · rw [h1] at C
    rw [list_len] at h2
    have hp : Hid (CutPost c s.data.toList w = fun e w' => e = .returned (.tuple #[.string (s.extract 0 i), .string (s.extract (i + 1) s.size), .bool true]) ∧ ∃ n, w' = w.drewN n) := by
      unfold Hid CutPost
      rw [h3, h4, txt_head, txt_tail, decide_eq_true h0]
    rw [hp.out]
    clear h1 h3 h4 h0 hp
    have i1 : (i : Int) < s.size := by omega
    go_enter Tryd.func31, Tryd.ntmps31
    go_wp2_with (go_at_call 37; refine C.out.mono ?_; rintro e w' ⟨rfl, rfl⟩)
    have w1 : IntKind.i64.wrap ((i : Int) + 1) = i + 1 := IntWalk.i64_in _ (by omega)
    have w2 : (0 : Int) ≤ (i : Int) + 1 := by omega
    have w3 : ((i : Int) + 1).toNat = i + 1 := by omega
    have w4 : (i : Int) + 1 ≤ s.size := by omega
    have w5 : (i : Int) ≤ s.size := by omega
    go_quiet (fail)
    go_wp2
    refine bodyPost_ret (v := .tuple #[.string (s.extract 0 i), .string (s.extract (i + 1) s.size), .bool true]) (by simp [results, Tryd.results31, go_sem]) rfl ⟨rfl, nq, rfl⟩
theorem cut_at (s : ByteArray) (c : UInt8) (w : World) (hs : s.size ≤ 9223372036854775807) :
    Calls Tryd.prog 24 #[.string s, .string ⟨#[c]⟩] w (CutPost c s.data.toList w) := by
  have C := hid (lcut_at s c w hs)
  go_enter Tryd.func24, Tryd.ntmps24
  go_wp2_with (go_at_call 31; refine C.out.mono ?_; rintro e w1 ⟨rfl, n, rfl⟩)
  refine bodyPost_ret (v := .tuple #[.string (txt (hdB c s.data.toList)), .string (txt (tlB c s.data.toList)), .bool (decide (c ∈ s.data.toList))]) (by simp [results, Tryd.results24, go_sem]) rfl ⟨rfl, n, rfl⟩

theorem clone_any (s : ByteArray) (w : World) (hs : s.size ≤ 281474976710656) : Calls Tryd.prog 25 #[.string s] w fun e w' => e = .returned (.string s) ∧ Touch [] w w' := by
  have C := hid (Tryd.stringslite_Clone s w hs)
  clear hs
  go_enter Tryd.func25, Tryd.ntmps25
  go_wp2_with (go_at_call 32; refine C.out.mono ?_; rintro e w1 ⟨rfl, a1⟩)
  go_ret
  exact ⟨rfl, Touch.of_below a1⟩

/-! ### Category -/
/-- Has it a category? -/
def catIs (l : List UInt8) : Bool := decide (45 ∈ l) && !(hdB 45 l == []) && strm l && !sysB l
/-- A category, or "", false. -/
def catV (l : List UInt8) : Value := if catIs l = true then .tuple #[.string (txt (hdB 45 l)), .bool true] else .tuple #[.string ⟨#[]⟩, .bool false]
theorem toList_nil {s : ByteArray} {l : List UInt8} (h : s.data.toList = l) : (s.toList == []) = (l == []) := by rw [ByteArray.toList_eq, h]
theorem cat_any (s : ByteArray) (w : World) (hs : s.size ≤ 9223372036854775807) : Calls Tryd.prog 9 #[.string s] w fun e w' => e = .returned (catV s.data.toList) ∧ Touch [] w w' := by
  have hsl := list_len s
  obtain ⟨H, hH⟩ : ∃ H, H = txt (hdB 45 s.data.toList) := ⟨_, rfl⟩
  obtain ⟨T, hT⟩ : ∃ T, T = txt (tlB 45 s.data.toList) := ⟨_, rfl⟩
  have hHl : H.data.toList = hdB 45 s.data.toList := by rw [hH]; rfl
  have C1 := hid (cut_at s 45 w hs)
  unfold CutPost at C1
  rw [← hH, ← hT] at C1
  have C2 := hid (fun w => stm_any s w)
  have C3 := hid (fun w => sys_any s w)
  have hnil := toList_nil hHl
  by_cases hf : 45 ∈ s.data.toList
  · rw [decide_eq_true hf] at C1
    by_cases hn : hdB 45 s.data.toList = []
    · have hv := hid (show catV s.data.toList = .tuple #[.string ⟨#[]⟩, .bool false] by unfold catV catIs; rw [hn]; simp)
      rw [hn] at hnil
      have q1 : (H.toList == []) = true := hnil
      clear hsl hH hT hHl hnil hf hn hs
      go_enter Tryd.func9, Tryd.ntmps9
      go_wp2_with (go_at_call 24; refine C1.out.mono ?_; rintro e w1 ⟨rfl, n, rfl⟩)
      go_ret2
      exact ⟨by rw [hv.out]; rfl, (Touch.refl _ _).drewN n⟩
    · have q1 : (H.toList == []) = false := by rw [hnil]; simpa using hn
      by_cases hb : strm s.data.toList = true
      · by_cases hy : sysB s.data.toList = true
        · have hv := hid (show catV s.data.toList = .tuple #[.string ⟨#[]⟩, .bool false] by unfold catV catIs; rw [hy]; simp)
          rw [hb] at C2
          rw [hy] at C3
          clear hsl hH hT hHl hnil hf hn hb hy hs
          go_enter Tryd.func9, Tryd.ntmps9
          go_wp2_with (first | (go_at_call 24; refine C1.out.mono ?_; rintro e w1 ⟨rfl, n, rfl⟩) | (go_at_call 13; refine (C2.out _).mono ?_; rintro e w2 ⟨rfl, a2⟩) | (go_at_call 16; refine (C3.out _).mono ?_; rintro e w3 ⟨rfl, rfl⟩))
          go_ret2
          exact ⟨by rw [hv.out]; rfl, ((Touch.refl _ _).drewN n).trans a2 (by simp)⟩
        · have hy2 : sysB s.data.toList = false := by simpa using hy
          have hv := hid (show catV s.data.toList = .tuple #[.string H, .bool true] by unfold catV catIs; rw [hy2, hb, decide_eq_true hf, if_pos (by simpa using hn), hH])
          have hsz := strm_iff.1 hb
          have C4 := hid (fun w => clone_any H w (by rw [hH, txt_size]; have := hdB_le 45 s.data.toList; omega))
          rw [hb] at C2
          rw [hy2] at C3
          clear hsl hH hT hHl hnil hf hn hb hy hy2 hsz hs
          go_enter Tryd.func9, Tryd.ntmps9
          go_wp2_with (first | (go_at_call 24; refine C1.out.mono ?_; rintro e w1 ⟨rfl, n, rfl⟩) | (go_at_call 13; refine (C2.out _).mono ?_; rintro e w2 ⟨rfl, a2⟩) | (go_at_call 16; refine (C3.out _).mono ?_; rintro e w3 ⟨rfl, rfl⟩) | (go_at_call 25; refine (C4.out _).mono ?_; rintro e w4 ⟨rfl, a4⟩))
          go_ret2
          exact ⟨by rw [hv.out]; rfl, (((Touch.refl _ _).drewN n).trans a2 (by simp)).trans a4 (by simp)⟩
      · have hb2 : strm s.data.toList = false := by simpa using hb
        have hv := hid (show catV s.data.toList = .tuple #[.string ⟨#[]⟩, .bool false] by unfold catV catIs; rw [hb2]; simp)
        rw [hb2] at C2
        clear hsl hH hT hHl hnil hf hn hb hb2 hs
        go_enter Tryd.func9, Tryd.ntmps9
        go_wp2_with (first | (go_at_call 24; refine C1.out.mono ?_; rintro e w1 ⟨rfl, n, rfl⟩) | (go_at_call 13; refine (C2.out _).mono ?_; rintro e w2 ⟨rfl, a2⟩))
        go_ret2
        exact ⟨by rw [hv.out]; rfl, ((Touch.refl _ _).drewN n).trans a2 (by simp)⟩
  · have hv := hid (show catV s.data.toList = .tuple #[.string ⟨#[]⟩, .bool false] by unfold catV catIs; rw [decide_eq_false hf]; simp)
    rw [decide_eq_false hf] at C1
    clear hsl hH hT hHl hnil hf hs
    go_enter Tryd.func9, Tryd.ntmps9
    go_wp2_with (go_at_call 24; refine C1.out.mono ?_; rintro e w1 ⟨rfl, n, rfl⟩)
    go_ret2
    exact ⟨by rw [hv.out]; rfl, (Touch.refl _ _).drewN n⟩

/-! ### The laws' own Category -/
set_option maxRecDepth 100000 in
theorem refCat_any (s : ByteArray) (w : World) (hs : s.size ≤ 9223372036854775807) : Calls Tryd.prog 10 #[.string s] w fun e w' => e = .returned (catV s.data.toList) ∧ w = w' := by
  have hsl := list_len s
  have C2 := hid (fun w => refStm_any s w)
  have C3 := hid (fun w => refSys_any s w)
  by_cases hb : strm s.data.toList = true
  · by_cases hy : sysB s.data.toList = true
    · have hv := hid (show catV s.data.toList = .tuple #[.string ⟨#[]⟩, .bool false] by unfold catV catIs; rw [hy]; simp)
      rw [hb] at C2
      rw [hy] at C3
      clear hsl hb hy hs
      go_enter Tryd.func10, Tryd.ntmps10
      go_wp2_with (first | (go_at_call 14; refine (C2.out _).mono ?_; rintro e w2 ⟨rfl, rfl⟩) | (go_at_call 17; refine (C3.out _).mono ?_; rintro e w3 ⟨rfl, rfl⟩))
      go_ret2
      exact ⟨by rw [hv.out]; rfl, rfl⟩
    · have hy2 : sysB s.data.toList = false := by simpa using hy
      have Hb := hid hb
      have Hy := hid hy2
      rw [hb] at C2
      rw [hy2] at C3
      have Hsl := hid hsl
      have Hs := hid hs
      clear hb hy hy2 hsl hs
      go_enter Tryd.func10, Tryd.ntmps10
      go_wp2_with (first | (go_at_call 14; refine (C2.out _).mono ?_; rintro e w2 ⟨rfl, rfl⟩) | (go_at_call 17; refine (C3.out _).mono ?_; rintro e w3 ⟨rfl, rfl⟩))
      go_loop [4] (fun kv => ∃ k : Nat, k ≤ s.size ∧ kv = .int .i64 k ∧ 45 ∉ s.data.toList.take k) (fun kv => s.size - (RowKit.intOf kv).toNat)
      case atStart => exact ⟨0, Nat.zero_le _, rfl, by simp⟩
      case round =>
        obtain ⟨k, hk, rfl, hall⟩ := hrel
        have Hall := hid hall; clear hall
        by_cases hlt : k < s.size
        · have hltI : (k : Int) < s.size := by omega
          by_cases q5 : (s[k].toNat : Int) = 45
          · have q6 : ((s[k].toNat : Int) == 45) = true := by simpa using q5
            have hat := hdB_at (c := 45) (show k < s.data.toList.length by rw [list_len]; exact hlt) (UInt8.toNat_inj.1 (show s[k].toNat = 45 by omega)) Hall.out
            have hv := hid (show catV s.data.toList = .tuple #[.string (s.extract 0 k), .bool (decide (0 < k))] by
              unfold catV catIs
              rw [Hy.out, Hb.out, decide_eq_true hat.2.2, hat.1, txt_head]
              by_cases k0 : k = 0
              · subst k0
                simp
                rfl
              · have h0 : ¬ (s.data.toList.take k == []) = true := by simp; exact ⟨k0, fun e => by rw [e] at Hsl; have := Hsl.out; simp at this; omega⟩
                rw [if_pos (by simpa using h0), decide_eq_true (show 0 < k by omega)])
            have q7 : (k : Int) ≤ s.size := by omega
            clear hat q5
            go_wp2
            go_ret2
            exact ⟨by rw [hv.out]; rfl, rfl⟩
          · have q6 : ((s[k].toNat : Int) == 45) = false := by simpa using q5
            have hnx := hid (show 45 ∉ s.data.toList.take (k + 1) by
              rw [List.take_succ_eq_append_getElem (show k < s.data.toList.length by rw [list_len]; exact hlt), List.mem_append, not_or]
              refine ⟨Hall.out, fun e => ?_⟩
              have : (45 : UInt8) = s[k] := List.mem_singleton.1 e
              rw [← this] at q5
              exact q5 rfl)
            have hb1 : (k : Int) < 9223372036854775807 := by have := Hs.out; omega
            clear q5
            go_wp2
            go_round
            case rel => exact ⟨k + 1, by omega, by go_num, hnx.out⟩
            case measure => simp [RowKit.intOf]; omega
        · obtain rfl : k = s.size := by omega
          have hv := hid (show catV s.data.toList = .tuple #[.string ⟨#[]⟩, .bool false] by
            unfold catV catIs
            have := Hall.out
            rw [← Hsl.out, List.take_length] at this
            rw [decide_eq_false this]; simp)
          clear hlt
          go_wp2
          go_ret2
          exact ⟨by rw [hv.out]; rfl, rfl⟩
  · have hb2 : strm s.data.toList = false := by simpa using hb
    have hv := hid (show catV s.data.toList = .tuple #[.string ⟨#[]⟩, .bool false] by unfold catV catIs; rw [hb2]; simp)
    rw [hb2] at C2
    clear hsl hb hb2 hs
    go_enter Tryd.func10, Tryd.ntmps10
    go_wp2_with (go_at_call 14; refine (C2.out _).mono ?_; rintro e w2 ⟨rfl, rfl⟩)
    go_ret2
    exact ⟨by rw [hv.out]; rfl, rfl⟩
end Go.Proofs.YtjkkecmidegooaaDoor
