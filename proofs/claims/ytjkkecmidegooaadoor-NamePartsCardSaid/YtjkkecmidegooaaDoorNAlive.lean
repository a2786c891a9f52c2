/- 'alive' of the laws of chapter 6: it returns true. -/
import Derived.Test.YtjkkecmidegooaaDoorNLink
import Derived.OpenShut
namespace Go.Proofs.YtjkkecmidegooaaDoor
open Go.RowKit Go.Lib

theorem Tab.touch {w w' : World} (h : Tab w) (ht : Touch [] w w') : Tab w' := by
  unfold Tab TabIs World.var? at *
  cases hg : Program.globalNamed Tryd.prog "internal/strconv.uint64pow10" with
  | none => rw [hg] at h; simp at h
  | some g =>
    rw [hg] at h
    simp only [Option.bind_some] at h ⊢
    have hlt : g < w.heap.size := by
      rcases Nat.lt_or_ge g w.heap.size with h' | h'
      · exact h'
      · simp [Array.getElem?_eq_none h'] at h
    rw [ht.block g hlt (by simp)]
    exact h

theorem al_cat : catV [99, 97, 114, 116, 45, 55, 45, 120] = .tuple #[.string ⟨#[99, 97, 114, 116]⟩, .bool true] := by kernel_rfl
theorem al_cat2 : catV [36, 99, 101, 45, 97] = .tuple #[.string ⟨#[]⟩, .bool false] := by kernel_rfl
theorem al_num : numSpec (hdB 64 [51, 64, 99, 97, 114, 116, 45, 55]) = .tuple #[.int .i64 3, .int .i64 0] := by kernel_rfl
theorem al_unl : unlV [51, 64, 99, 97, 114, 116, 45, 55] 3 0 = .tuple #[.int .i64 3, .string ⟨#[99, 97, 114, 116, 45, 55]⟩, .int .i64 0] := by kernel_rfl
theorem al_link : linkB 3 ⟨#[99, 97, 114, 116, 45, 55]⟩ = ⟨#[51, 64, 99, 97, 114, 116, 45, 55]⟩ := by decide +kernel

set_option maxRecDepth 100000 in
set_option maxHeartbeats 1000000 in
theorem alive_true (w : World) (htab : Tab w) :
    Calls Tryd.prog 8 #[] w fun e w' => e = .returned (.bool true) ∧ Touch [] w w' := by
  have Ht := hid htab; clear htab
  have C1 := hid (fun w => cat_any ⟨#[99, 97, 114, 116, 45, 55, 45, 120]⟩ w (by decide))
  rw [show (⟨#[99, 97, 114, 116, 45, 55, 45, 120]⟩ : ByteArray).data.toList = [99, 97, 114, 116, 45, 55, 45, 120] from rfl, al_cat] at C1
  have C2 := hid (fun w => cat_any ⟨#[36, 99, 101, 45, 97]⟩ w (by decide))
  rw [show (⟨#[36, 99, 101, 45, 97]⟩ : ByteArray).data.toList = [36, 99, 101, 45, 97] from rfl, al_cat2] at C2
  have C3 := hid (fun w => unl_any ⟨#[51, 64, 99, 97, 114, 116, 45, 55]⟩ 3 0 w (by decide) al_num)
  rw [show (⟨#[51, 64, 99, 97, 114, 116, 45, 55]⟩ : ByteArray).data.toList = [51, 64, 99, 97, 114, 116, 45, 55] from rfl, al_unl] at C3
  have C4 := hid (fun w (h : Tab w) => link_any 3 ⟨#[99, 97, 114, 116, 45, 55]⟩ w (by decide) (by decide) (by decide) h)
  rw [al_link] at C4
  have C5 := hid (fun w => ofc_any ⟨#[97]⟩ w (by decide))
  rw [show (⟨#[36, 99, 101, 45]⟩ : ByteArray) ++ ⟨#[97]⟩ = ⟨#[36, 99, 101, 45, 97]⟩ by decide +kernel] at C5
  have C6 := hid (fun w => oft_any ⟨#[98]⟩ w (by decide))
  rw [show (⟨#[36, 101, 116, 45]⟩ : ByteArray) ++ ⟨#[98]⟩ = ⟨#[36, 101, 116, 45, 98]⟩ by decide +kernel] at C6
  go_enter Tryd.func8, Tryd.ntmps8
  go_wp2_with (first | (go_at_call 9; refine (C1.out _).mono ?_; rintro e w1 ⟨rfl, a1⟩; have C1 := True.intro) | (go_at_call 9; refine (C2.out _).mono ?_; rintro e w2 ⟨rfl, a2⟩) | (go_at_call 11; refine (C3.out _).mono ?_; rintro e w3 ⟨rfl, a3⟩))
  have A3 : Hid (Touch [] w w3) := (a1.trans a2 (by simp)).trans a3 (by simp)
  clear a1 a2 a3
  have C7 := hid (C4.out w3 (Ht.out.touch A3.out))
  go_wp2_with (first | (go_at_call 20; refine C7.out.mono ?_; rintro e w4 ⟨rfl, a4⟩) | (go_at_call 22; refine (C5.out _).mono ?_; rintro e w5 ⟨rfl, rfl⟩) | (go_at_call 23; refine (C6.out _).mono ?_; rintro e w6 ⟨rfl, rfl⟩))
  go_ret
  exact ⟨rfl, A3.out.trans a4 (by simp)⟩
end Go.Proofs.YtjkkecmidegooaaDoor
