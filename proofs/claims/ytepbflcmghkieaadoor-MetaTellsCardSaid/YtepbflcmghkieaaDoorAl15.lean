/- 'alive' of the laws of chapter 15. -/
import Derived.Test.YtepbflcmghkieaaDoorFl15
import Derived.Test.YtepbflcmghkieaaDoorPa15
namespace Go.Proofs.YtepbflcmghkieaaDoor
open Go.RowKit Go.Lib
set_option maxRecDepth 100000

def alB : List UInt8 := [99, 111, 117, 110, 116, 61, 53, 32, 98, 101, 102, 111, 114, 101, 61, 51]
theorem al_text : textL (5, 0, 3) = alB := by decide +kernel
theorem al_ok : okM (5, 0, 3) = true := by decide +kernel
theorem al_parse : parseL alB = some (5, 0, 3) := parse_yes al_ok al_text
theorem al_floor : floorV (2, 0, 0) 0 9 [1, 2, 3] = 1 := by decide +kernel
set_option maxHeartbeats 2000000 in
theorem alive15_true (w : World) (htab : Tab w) : Calls Tryd.prog 7 #[] w fun e w' => e = .returned (.bool true) ∧ Touch [] w w' := by
  have C1 := metaText_any (5, 0, 3) w htab
  have hv : textV (5, 0, 3) = .tuple #[.string ⟨#[99, 111, 117, 110, 116, 61, 53, 32, 98, 101, 102, 111, 114, 101, 61, 51]⟩, .int .i64 0] := by
    unfold textV
    rw [if_pos al_ok, al_text]; rfl
  rw [hv] at C1
  have C1 := hid C1
  have C2 : Hid (∀ W, Touch [] w W → Calls Tryd.prog 10 #[.string ⟨#[99, 111, 117, 110, 116, 61, 53, 32, 98, 101, 102, 111, 114, 101, 61, 51]⟩] W fun e w' => e = .returned (.tuple #[.agg #[.int .i64 5, .int .i64 0, .int .i64 3], .int .i64 0]) ∧ Touch [] W w') := hid fun W t => by
    have := metaParse_any ⟨#[99, 111, 117, 110, 116, 61, 53, 32, 98, 101, 102, 111, 114, 101, 61, 51]⟩ W (htab.touch t) (by decide)
    rw [show parseL (⟨#[99, 111, 117, 110, 116, 61, 53, 32, 98, 101, 102, 111, 114, 101, 61, 51]⟩ : ByteArray).data.toList = some (5, 0, 3) from al_parse] at this
    exact this
  have C3 : Hid (∀ W b, W.heap[b]? = some (.cells #[.int .i64 1, .int .i64 2, .int .i64 3] TInt) → Calls Tryd.prog 13 #[.agg #[.int .i64 2, .int .i64 0, .int .i64 0], .int .i64 0, .int .i64 9, .slice (some ⟨b, 0, none⟩) 3 3] W fun e w' => e = .returned (.int .i64 1) ∧ Touch [] W w') := hid fun W b hb => by
    have := floor_any (2, 0, 0) 0 9 (some ⟨b, 0, none⟩) 3 [1, 2, 3] W (fun i hi => by
      refine ⟨b, 0, rfl, ?_⟩
      rw [Nat.zero_add, cell_of hb i]
      match i, hi with
      | 0, _ => rfl
      | 1, _ => rfl
      | 2, _ => rfl) (by decide) (by intro t ht; simp at ht; omega) (by decide) (by decide) (by decide) (by decide) (by decide) (by decide)
    rw [al_floor] at this
    exact this
  clear hv htab
  go_enter Tryd.func7, Tryd.ntmps7
  go_wp2_with fail
  refine C1.out.mono ?_
  rintro e w1 ⟨rfl, t1⟩
  have T1 := hid t1
  clear t1 C1
  go_wp2_with fail
  refine (C2.out _ T1.out).mono ?_
  rintro e w2 ⟨rfl, t2⟩
  have T2 := hid (T1.out.trans t2 (by simp))
  clear t2 C2
  go_wp2_with fail
  refine (C3.out _ _ (by have := heap_alloc_new (w2.alloc (.cells #[.int .i64 5, .int .i64 0, .int .i64 3] TMeta)) (.cells #[.int .i64 1, .int .i64 2, .int .i64 3] TInt); rwa [World.size_alloc] at this)).mono ?_
  rintro e w3 ⟨rfl, t3⟩
  have T3 := hid (((T2.out.alloc _).alloc _).trans t3 (by simp))
  clear t3 C3
  go_wp2
  go_ret
  exact ⟨rfl, T3.out⟩
end Go.Proofs.YtepbflcmghkieaaDoor
