/- DiskRenames, walked. -/
import Derived.Test.YthibabfojndlkaaAl9
namespace Go.Proofs.Ythibabfojndlkaa
open Go.RowKit Go.Lib
set_option maxRecDepth 100000

abbrev nmX : ByteArray := ⟨#[120]⟩
abbrev nmY : ByteArray := ⟨#[121]⟩
def two (a b : ByteArray) (s : Nat) (l : Bool) : Dk := ⟨true, 0, [⟨nmX, a, s, l⟩, ⟨nmY, b, 0, false⟩], false, 0, []⟩
theorem cXY : cmpN nmX nmY = -1 := by decide
theorem cYX : cmpN nmY nmX = 1 := by decide
theorem cXX : cmpN nmX nmX = 0 := by decide
theorem cYY : cmpN nmY nmY = 0 := by decide
theorem okX : Ok nmX := ⟨by decide, by decide⟩
theorem okY : Ok nmY := ⟨by decide, by decide⟩
theorem ren_app (a b : ByteArray) : appendD (one 0 nmX a 0 false) nmY b = (0, two a b 0 false) := by
  unfold appendD
  rw [refuse_ok rfl okY, if_neg (by simp), if_neg (by simp [one])]
  simp [one, getF, cXY, putF, goesD, withF, freshF, empty_append, two]
theorem ren_sync (a b : ByteArray) : syncD (two a b 0 false) nmX = (0, two a b a.size true) := by
  have hg : getF (two a b 0 false).files nmX = some ⟨nmX, a, 0, false⟩ := by simp [two, getF, cXX]
  have hp : placeE (two a b 0 false) nmX = 0 := by unfold placeE; rw [refuse_ok rfl okX, if_neg (by simp), if_neg (by rw [hg]; simp)]
  unfold syncD
  rw [hp, if_neg (by simp), fileD, hg]
  simp [two, goesD, putF, lastF, cXX]
theorem ren_ren (a b : ByteArray) (s : Nat) (l : Bool) : renameD (two a b s l) nmX nmY = (0, one 0 nmY a s l) := by
  have hg : getF (two a b s l).files nmX = some ⟨nmX, a, s, l⟩ := by simp [two, getF, cXX]
  have hp : placeE (two a b s l) nmX = 0 := by unfold placeE; rw [refuse_ok rfl okX, if_neg (by simp), if_neg (by rw [hg]; simp)]
  unfold renameD
  rw [refuse_ok rfl okY, if_neg (by simp), hp, if_neg (by simp), fileD, hg]
  simp [two, goesD, putF, dropF, namedF, cXX, cYY, one]
theorem ren_size (a : ByteArray) (s : Nat) (l : Bool) : sizeD (one 0 nmY a s l) nmX = (0, 8) := by
  have hp : placeE (one 0 nmY a s l) nmX = 8 := by unfold placeE; rw [refuse_ok rfl okX, if_neg (by simp), if_pos (by simp [one, getF, cYX])]
  unfold sizeD
  rw [hp, if_pos (by omega)]
theorem ren_list (a : ByteArray) (s : Nat) (l : Bool) : listD (one 0 nmY a s l) ⟨#[]⟩ = [nmY] := by
  unfold listD one
  rw [if_pos rfl]
  have : begins ⟨#[]⟩ ⟨nmY, a, s, l⟩ = true := by unfold begins; rfl
  simp [this]
theorem ren_crash0 (a : ByteArray) : crashD (one 0 nmY a 0 false) [] = offK 0 [] ∧ lostD (one 0 nmY a 0 false) [] = a.size := by
  constructor
  · unfold crashD one offK
    rw [if_pos rfl]
    simp [crashL, keepN]
  · unfold lostD one
    rw [if_pos rfl]
    simp [lostL, keepN]
theorem size_new {nm : ByteArray} (h : Ok nm) : sizeD (newD 0) nm = (0, 8) := by
  unfold sizeD
  rw [placeE_new h, if_pos (by omega)]
theorem rename_new {nm nt : ByteArray} (h : Ok nm) (h' : Ok nt) : renameD (newD 0) nm nt = (8, newD 0) := by
  unfold renameD
  rw [refuse_ok rfl h', if_neg (by simp), placeE_new h, if_pos (by omega)]
theorem intsR_nil (w : World) : IntsR w none [] := by intro i hi; simp at hi

set_option maxHeartbeats 4000000 in
theorem ren_good (a b : ByteArray) (sync : Bool) (w : World) (ha : a.size ≤ 1000) (hb : b.size ≤ 1000) (h0 : a.size ≠ 0) :
    Calls Try.prog 7 #[.string a, .string b, .bool sync] w fun e w' => e = .returned (.bool true) ∧ Touch [] w w' := by
  have z : -9223372036854775808 ≤ (0 : Int) ∧ (0 : Int) ≤ 9223372036854775807 := by omega
  have CA := hid fun w => alive_true w
  have CN := hid (new_has 0 w)
  have C1 := hid fun d w1 (h : Has w d (newD 0) w1) => append_has (nm := nmX) (s := a) h (sm_new (by omega) z) (append_first 0 _ okX (.inl (by omega)))
  have C2 := hid fun d w1 (h : Has w d (one 0 nmX a 0 false) w1) => append_has (nm := nmY) (s := b) h (sm_one (by omega) z) (ren_app a b)
  have smT : ∀ s l, Sm (two a b s l) 0 := fun s l => ⟨by simp [two], by simp [two, used]; omega, z⟩
  have C3 := hid fun d w1 (h : Has w d (two a b 0 false) w1) => sync_has h (smT 0 false) (ren_sync a b)
  have hra : a.extract 0 a.size = a := ext_all a
  have htt : (a.toList != a.toList) = false := by simp
  have e1 : decide ((1000 : Int) < (a.size : Int)) = false := by rw [decide_eq_false_iff_not]; omega
  have e2 : decide ((1000 : Int) < (b.size : Int)) = false := by rw [decide_eq_false_iff_not]; omega
  have e3 : decide (1000 < a.size) = false := by rw [decide_eq_false_iff_not]; omega
  have e4 : decide (1000 < b.size) = false := by rw [decide_eq_false_iff_not]; omega
  have e5 : ((a.size : Int) == 0) = false := by rw [beq_eq_false_iff_ne]; omega
  have e6 : (a.size == 0) = false := by rw [beq_eq_false_iff_ne]; exact h0
  have C5 := hid fun s l d w1 (h : Has w d (one 0 nmY a s l) w1) => size_has h (ren_size a s l)
  have C6 := hid fun s l d w1 (h : Has w d (one 0 nmY a s l) w1) => by
    have := read_has (a := 0) (n := a.size) h (by omega) (by omega) (read_one okY a.size (Nat.le_refl _))
    rw [hra] at this
    exact this
  have C7 := hid fun s l d w1 (h : Has w d (one 0 nmY a s l) w1) => used_has (n := a.size) h (sm_one (by omega) z) (used_one _ _ _ _ _)
  have C8 := hid fun s l d w1 (h : Has w d (one 0 nmY a s l) w1) => list_has (n := 1) h (ren_list a s l) rfl
  cases sync
  · have C4 := hid fun d w1 (h : Has w d (two a b 0 false) w1) => rename_has h (smT 0 false) (ren_ren a b 0 false)
    have C9 := hid fun d w1 (h : Has w d (one 0 nmY a 0 false) w1) => crash_has (n := 0) (c := 0) (r := a.size) h (sm_one (by omega) z) (intsR_nil w1) rfl (by omega) (by rw [(ren_crash0 a).2]) (ren_crash0 a).1
    have C10 := hid fun d w1 (h : Has w d (offK 0 []) w1) => restore_has (k' := newD 0) h rfl
    have C11 := hid fun d w1 (h : Has w d (newD 0) w1) => size_has h (size_new okY)
    have C12 := hid fun nm nt (h1 : Ok nm) (h2 : Ok nt) d w1 (h : Has w d (newD 0) w1) => rename_has h (sm_new (by omega) z) (rename_new h1 h2)
    have hz := hid (show Ok ⟨#[122]⟩ from ⟨by decide, by decide⟩)
    have hy := hid okY
    clear smT hra z ha hb h0
    go_enter Try.func7, Try.ntmps7
    go_wp2_with (first
      | (go_at_call 26; with_reducible refine CN.out.mono ?_; rintro e w0 ⟨d, rfl, h0⟩; have H0 := hid h0; clear h0)
      | (go_at_call 15; with_reducible refine (C1.out _ _ H0.out).mono ?_; rintro e w1 ⟨rfl, h1⟩; have H1 := hid h1; clear h1)
      | (go_at_call 15; with_reducible refine (C2.out _ _ H1.out).mono ?_; rintro e w2 ⟨rfl, h2⟩; have H2 := hid h2; clear h2)
      | (go_at_call 18; with_reducible refine (C4.out _ _ H2.out).mono ?_; rintro e w4 ⟨rfl, h4⟩; have H4 := hid h4; clear h4)
      | (go_at_call 14; with_reducible refine (C5.out _ _ _ _ H4.out).mono ?_; rintro e w5 ⟨rfl, t5⟩; have H5 := hid (H4.out.touch t5); clear t5)
      | (go_at_call 13; with_reducible refine (C6.out _ _ _ _ H5.out).mono ?_; rintro e w6 ⟨rfl, t6⟩; have H6 := hid (H5.out.touch t6); clear t6)
      | (go_at_call 22; with_reducible refine (C7.out _ _ _ _ H6.out).mono ?_; rintro e w7 ⟨rfl, rfl⟩)
      | (go_at_call 20; with_reducible refine (C8.out _ _ _ _ H6.out).mono ?_; rintro e w8 ⟨x8, c8, rfl, o8, t8⟩; have H8 := hid (H6.out.touch t8); clear o8 t8)
      | (go_at_call 21; with_reducible refine (C9.out _ _ H8.out).mono ?_; rintro e w9 ⟨rfl, h9⟩; have H9 := hid h9; clear h9)
      | (go_at_call 10; with_reducible refine (C10.out _ _ H9.out).mono ?_; rintro e w10 ⟨rfl, h10⟩; have H10 := hid h10; clear h10)
      | (go_at_call 14; with_reducible refine (C11.out _ _ H10.out).mono ?_; rintro e w11 ⟨rfl, t11⟩; have H11 := hid (H10.out.touch t11); clear t11)
      | (go_at_call 9; with_reducible refine (CA.out _).mono ?_; rintro e w12 ⟨rfl, t12⟩; have H12 := hid (H11.out.touch t12); clear t12)
      | (go_at_call 18; with_reducible refine (C12.out _ _ hy.out hz.out _ _ H12.out).mono ?_; rintro e w13 ⟨rfl, h13⟩; have H13 := hid h13; clear h13)
      | (go_at_call 18; with_reducible refine (C12.out _ _ hz.out hz.out _ _ H13.out).mono ?_; rintro e w14 ⟨rfl, h14⟩; have H14 := hid h14; clear h14))
    go_ret
    exact ⟨rfl, H14.out.from_⟩
  · have C4 := hid fun d w1 (h : Has w d (two a b a.size true) w1) => rename_has h (smT _ _) (ren_ren a b a.size true)
    have hcr := crash_one (room := 0) (nm := nmY) (dat := a) (syn := a.size) (ks := []) (K := a.size) (Nat.le_refl _) (by simp)
    rw [hra] at hcr
    have C9 := hid fun d w1 (h : Has w d (one 0 nmY a a.size true) w1) => crash_has (n := 0) (c := 0) (r := 0) h (sm_one (by omega) z) (intsR_nil w1) rfl (by omega) (by rw [hcr.2]; omega) hcr.1
    have C10 := hid fun d w1 (h : Has w d (offK 0 [⟨nmY, a, a.size, true⟩]) w1) => restore_has h (restore_off _ _ _ _ _)
    have C11 := hid fun d w1 (h : Has w d (one 0 nmY a a.size true) w1) => size_has h (size_one okY)
    clear smT hra z ha hb h0 hcr
    go_enter Try.func7, Try.ntmps7
    go_wp2_with (first
      | (go_at_call 26; with_reducible refine CN.out.mono ?_; rintro e w0 ⟨d, rfl, h0⟩; have H0 := hid h0; clear h0)
      | (go_at_call 15; with_reducible refine (C1.out _ _ H0.out).mono ?_; rintro e w1 ⟨rfl, h1⟩; have H1 := hid h1; clear h1)
      | (go_at_call 15; with_reducible refine (C2.out _ _ H1.out).mono ?_; rintro e w2 ⟨rfl, h2⟩; have H2 := hid h2; clear h2)
      | (go_at_call 16; with_reducible refine (C3.out _ _ H2.out).mono ?_; rintro e w3 ⟨rfl, h3⟩; have H3 := hid h3; clear h3)
      | (go_at_call 18; with_reducible refine (C4.out _ _ H3.out).mono ?_; rintro e w4 ⟨rfl, h4⟩; have H4 := hid h4; clear h4)
      | (go_at_call 14; with_reducible refine (C5.out _ _ _ _ H4.out).mono ?_; rintro e w5 ⟨rfl, t5⟩; have H5 := hid (H4.out.touch t5); clear t5)
      | (go_at_call 13; with_reducible refine (C6.out _ _ _ _ H5.out).mono ?_; rintro e w6 ⟨rfl, t6⟩; have H6 := hid (H5.out.touch t6); clear t6)
      | (go_at_call 22; with_reducible refine (C7.out _ _ _ _ H6.out).mono ?_; rintro e w7 ⟨rfl, rfl⟩)
      | (go_at_call 20; with_reducible refine (C8.out _ _ _ _ H6.out).mono ?_; rintro e w8 ⟨x8, c8, rfl, o8, t8⟩; have H8 := hid (H6.out.touch t8); clear o8 t8)
      | (go_at_call 21; with_reducible refine (C9.out _ _ H8.out).mono ?_; rintro e w9 ⟨rfl, h9⟩; have H9 := hid h9; clear h9)
      | (go_at_call 10; with_reducible refine (C10.out _ _ H9.out).mono ?_; rintro e w10 ⟨rfl, h10⟩; have H10 := hid h10; clear h10)
      | (go_at_call 14; with_reducible refine (C11.out _ _ H10.out).mono ?_; rintro e w11 ⟨rfl, t11⟩; have H11 := hid (H10.out.touch t11); clear t11)
      | (go_at_call 9; with_reducible refine (CA.out _).mono ?_; rintro e w12 ⟨rfl, t12⟩; have H12 := hid (H11.out.touch t12); clear t12))
    go_ret
    exact ⟨rfl, H12.out.from_⟩

theorem walk_DiskRenames (a : ByteArray) (_ha : a.size ≤ maxLen) (b : ByteArray) (_hb : b.size ≤ maxLen) (sync : Bool) (w : World) :
    Calls Try.prog 7 #[.string a, .string b, .bool sync] w fun e w' => e = .returned (.bool true) ∧ Touch [] w w' := by
  have CA := hid fun w => alive_true w
  by_cases h1 : 1000 < a.size
  · have e1 : decide ((1000 : Int) < (a.size : Int)) = true := by rw [decide_eq_true_eq]; omega
    have e3 : decide (1000 < a.size) = true := by rw [decide_eq_true_eq]; omega
    clear h1
    go_enter Try.func7, Try.ntmps7
    go_wp2_with (go_at_call 9; with_reducible refine (CA.out _).mono ?_; rintro e w12 ⟨rfl, t12⟩; have T12 := hid t12; clear t12)
    go_ret
    exact ⟨rfl, T12.out⟩
  have e1 : decide ((1000 : Int) < (a.size : Int)) = false := by rw [decide_eq_false_iff_not]; omega
  have e3 : decide (1000 < a.size) = false := by rw [decide_eq_false_iff_not]; omega
  by_cases h2 : 1000 < b.size
  · have e2 : decide ((1000 : Int) < (b.size : Int)) = true := by rw [decide_eq_true_eq]; omega
    have e4 : decide (1000 < b.size) = true := by rw [decide_eq_true_eq]; omega
    clear h1 h2
    go_enter Try.func7, Try.ntmps7
    go_wp2_with (go_at_call 9; with_reducible refine (CA.out _).mono ?_; rintro e w12 ⟨rfl, t12⟩; have T12 := hid t12; clear t12)
    go_ret
    exact ⟨rfl, T12.out⟩
  by_cases h3 : a.size = 0
  · have e2 : decide ((1000 : Int) < (b.size : Int)) = false := by rw [decide_eq_false_iff_not]; omega
    have e4 : decide (1000 < b.size) = false := by rw [decide_eq_false_iff_not]; omega
    have e5 : ((a.size : Int) == 0) = true := by rw [beq_iff_eq]; omega
    have e6 : (a.size == 0) = true := by rw [beq_iff_eq]; exact h3
    clear h1 h2 h3
    go_enter Try.func7, Try.ntmps7
    go_wp2_with (go_at_call 9; with_reducible refine (CA.out _).mono ?_; rintro e w12 ⟨rfl, t12⟩; have T12 := hid t12; clear t12)
    go_ret
    exact ⟨rfl, T12.out⟩
  · exact ren_good a b sync w (by omega) (by omega) h3
end Go.Proofs.Ythibabfojndlkaa
