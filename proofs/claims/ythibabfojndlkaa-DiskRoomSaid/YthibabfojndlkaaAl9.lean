/- alive of chapter 9. -/
import Derived.Test.YthibabfojndlkaaMo9
namespace Go.Proofs.Ythibabfojndlkaa
open Go.RowKit Go.Lib
set_option maxRecDepth 100000

theorem ints_lit {w : World} (k : Int) : IntsR (w.alloc (.cells #[.int .i64 k] tInt)) (some ⟨w.heap.size, 0, none⟩) [k] := by
  intro i hi
  simp at hi
  subst hi
  exact ⟨w.heap.size, 0, rfl, cell_of (heap_alloc_new w _) 0⟩

set_option maxHeartbeats 2000000 in
theorem alive_true (w : World) : Calls Try.prog 9 #[] w fun e w' => e = .returned (.bool true) ∧ Touch [] w w' := by
  have hA : Ok ⟨#[97]⟩ := ⟨by decide, by decide⟩
  have z : -9223372036854775808 ≤ (0 : Int) ∧ (0 : Int) ≤ 9223372036854775807 := by omega
  have CN := hid (new_has 0 w)
  have C1 := hid fun d w1 (h : Has w d (newD 0) w1) => append_has (nm := ⟨#[97]⟩) (s := ⟨#[120, 121]⟩) h (sm_new (by decide) z) (append_first 0 _ hA (.inl (by omega)))
  have C2 := hid fun d w1 (h : Has w d (one 0 ⟨#[97]⟩ ⟨#[120, 121]⟩ 0 false) w1) => sync_has h (sm_one (by decide) z) (sync_one hA)
  have C3 := hid fun d w1 (h : Has w d (one 0 ⟨#[97]⟩ ⟨#[120, 121]⟩ 2 true) w1) => append_has (nm := ⟨#[97]⟩) (s := ⟨#[122, 122]⟩) h (sm_one (by decide) z) (append_one _ hA (.inl (by omega)))
  have hcr := crash_one (room := 0) (nm := ⟨#[97]⟩) (dat := ⟨#[120, 121]⟩ ++ ⟨#[122, 122]⟩) (syn := 2) (ks := [1]) (K := 3) (by decide) (by decide)
  have C4 := hid fun d w1 (h : Has w d (one 0 ⟨#[97]⟩ (⟨#[120, 121]⟩ ++ ⟨#[122, 122]⟩) 2 true) w1) => crash_has (x := some ⟨w1.heap.size, 0, none⟩) (n := 1) (c := 1) (r := 1) (h.touch ((Touch.refl [] w1).alloc (.cells #[.int .i64 1] tInt))) (sm_one (by decide) z) (ints_lit 1) rfl (by decide) (by rw [hcr.2]; decide) hcr.1
  have C5 := hid fun d w1 (h : Has w d (offK 0 [⟨⟨#[97]⟩, (⟨#[120, 121]⟩ ++ ⟨#[122, 122]⟩ : ByteArray).extract 0 3, 3, true⟩]) w1) => restore_has h (restore_off _ _ _ _ _)
  have hex : ((⟨#[120, 121]⟩ ++ ⟨#[122, 122]⟩ : ByteArray).extract 0 3) = ⟨#[120, 121, 122]⟩ := by rfl
  rw [hex] at C5
  rw [hex] at hcr
  have C6 := hid fun d w1 (h : Has w d (one 0 ⟨#[97]⟩ ⟨#[120, 121, 122]⟩ 3 true) w1) => read_has (a := 0) (n := 3) h (by omega) (by omega) (read_one hA 3 (by decide))
  have hex2 : (⟨#[120, 121, 122]⟩ : ByteArray).extract 0 3 = ⟨#[120, 121, 122]⟩ := by rfl
  rw [hex2] at C6
  have C7 := hid fun d w1 (h : Has w d (one 0 ⟨#[97]⟩ ⟨#[120, 121, 122]⟩ 3 true) w1) => on_has (b := true) h rfl
  have C8 := hid fun d w1 (h : Has w d (one 0 ⟨#[97]⟩ ⟨#[120, 121, 122]⟩ 3 true) w1) => used_has (n := 3) h (sm_one (by decide) z) (used_one _ _ _ _ _)
  clear hcr hex hex2 hA z
  go_enter Try.func9, Try.ntmps9
  go_wp2_with (first
    | (go_at_call 26; with_reducible refine CN.out.mono ?_; rintro e w0 ⟨d, rfl, h0⟩; have H0 := hid h0; clear h0)
    | (go_at_call 15; with_reducible refine (C1.out _ _ H0.out).mono ?_; rintro e w1 ⟨rfl, h1⟩; have H1 := hid h1; clear h1)
    | (go_at_call 16; with_reducible refine (C2.out _ _ H1.out).mono ?_; rintro e w2 ⟨rfl, h2⟩; have H2 := hid h2; clear h2)
    | (go_at_call 15; with_reducible refine (C3.out _ _ H2.out).mono ?_; rintro e w3 ⟨rfl, h3⟩; have H3 := hid h3; clear h3)
    | (go_at_call 21; with_reducible refine (C4.out _ _ H3.out).mono ?_; rintro e w4 ⟨rfl, h4⟩; have H4 := hid h4; clear h4)
    | (go_at_call 10; with_reducible refine (C5.out _ _ H4.out).mono ?_; rintro e w5 ⟨rfl, h5⟩; have H5 := hid h5; clear h5)
    | (go_at_call 13; with_reducible refine (C6.out _ _ H5.out).mono ?_; rintro e w6 ⟨rfl, t6⟩; have H6 := hid (H5.out.touch t6); clear t6)
    | (go_at_call 24; with_reducible refine (C7.out _ _ H6.out).mono ?_; rintro e w7 ⟨rfl, rfl⟩)
    | (go_at_call 22; with_reducible refine (C8.out _ _ H6.out).mono ?_; rintro e w8 ⟨rfl, rfl⟩))
  go_ret
  exact ⟨rfl, H6.out.from_⟩
end Go.Proofs.Ythibabfojndlkaa
