/- Float64 numbers by their bits. -/
import Derived.Test.YtmgglmoiepjebaaHeld
import Derived.Test.YtmgglmoiepjebaaProg
import Derived.Laws.EntriesVeiled
namespace Go.Proofs.Ytmgglmoiepjebaa
set_option maxRecDepth 100000
open Go.RowKit Go.Lib

theorem drewN_touch' (W : World) (n : Nat) : Touch [] W (W.drewN n) := (Touch.refl _ _).drewN n

theorem own_touch_f {base : Nat} {e : TypeId} {size : Nat} {v : Value} {n : Nat} {xs : List Value} {F : List Nat} {W W' : World} (h : W.ownsRow base e size v n xs) (ht : Touch F W W') (hF : ∀ f ∈ F, f < base) : W'.ownsRow base e size v n xs := by
  refine ⟨h.1, ?_⟩
  rcases h.2 with h2 | ⟨b, cap, cur, hv, hb, hh, r⟩
  · exact .inl h2
  · exact .inr ⟨b, cap, cur, hv, hb, (ht.block b (lt_of_block hh) (fun e => by have := hF b e; omega)).trans hh, r⟩

theorem owns_touch {base : Nat} {e : TypeId} {size : Nat} {v : Value} {n : Nat} {xs : List Value} {W W' : World} (h : W.ownsRow base e size v n xs) (ht : Touch [] W W') : W'.ownsRow base e size v n xs := by
  refine ⟨h.1, ?_⟩
  rcases h.2 with h2 | ⟨b, cap, cur, hv, hb, hh, r⟩
  · exact .inl h2
  · exact .inr ⟨b, cap, cur, hv, hb, (ht.block b (lt_of_block hh) (by simp)).trans hh, r⟩

theorem touch_other {F : List Nat} {w w' : World} (h : Touch F w w') {k : Nat} {o : Obj} (hk : w.heap[k]? = some o) (hF : k ∉ F) : w'.heap[k]? = some o := (h.block k (lt_of_block hk) hF).trans hk

theorem heap_alloc_keep {w : World} {b : Nat} {x : Obj} (h : w.heap[b]? = some x) (o : Obj) : (w.alloc o).heap[b]? = some x := (Below.heap_alloc w o b (lt_of_block h)).trans h

theorem cell_alloc {w : World} {b : Nat} {cs : Array Value} {t : TypeId} {fz : Nat × Nat} (h : w.heap[b]? = some (.cells cs t fz)) (i : Nat) (o : Obj) : (w.alloc o).cell? ⟨b, i, none⟩ = cs[i]? := cell_of (heap_alloc_keep h o) i

theorem cell_one {w : World} {b : Nat} {x : Value} {t : TypeId} {fz : Nat × Nat} (h : w.heap[b]? = some (.cells #[x] t fz)) : w.cell? ⟨b, 0, none⟩ = some x ∧ ∀ o : Obj, (w.alloc o).cell? ⟨b, 0, none⟩ = some x := ⟨cell_of h 0, fun o => cell_alloc h 0 o⟩

theorem own_row {W : World} {base : Nat} {e : TypeId} {size : Nat} {v : Value} {n : Nat} {xs : List Value} (h : W.ownsRow base e size v n xs) : ∀ k, v.ownBlock = some k → base ≤ k := fun k hk => by
  rcases h.2 with ⟨rfl, _⟩ | ⟨b, cap, cur, rfl, hb, _⟩
  · simp [Value.ownBlock] at hk
  · simp [Value.ownBlock] at hk; omega

theorem own_base {base base' : Nat} {e : TypeId} {size : Nat} {v : Value} {n : Nat} {xs : List Value} {W : World} (h : W.ownsRow base e size v n xs) (hb : base' ≤ base) : W.ownsRow base' e size v n xs := by
  refine ⟨h.1, ?_⟩
  rcases h.2 with h2 | ⟨b, cap, cur, hv, hb', r⟩
  · exact .inl h2
  · exact .inr ⟨b, cap, cur, hv, by omega, r⟩

def nanBits : Nat := 9221120237041090560

/-- Are these the bits of a NaN? -/
def nanB (b : Nat) : Bool := FloatKind.f64.format.order b b != some .eq

/-- The one NaN for each. -/
def canon (b : Nat) : Nat := if nanB b = true then nanBits else b

theorem canon_nan {b : Nat} (h : nanB b = true) : canon b = nanBits := by unfold canon; rw [if_pos h]

theorem canon_num {b : Nat} (h : nanB b = false) : canon b = b := by unfold canon; rw [if_neg (by rw [h]; decide)]

theorem nanB_nan : nanB nanBits = true := by decide +kernel

theorem canon_canon (b : Nat) : canon (canon b) = canon b := by
  by_cases h : nanB b = true
  · rw [canon_nan h, canon_nan nanB_nan]
  · have h2 : nanB b = false := by simpa using h
    rw [canon_num h2, canon_num h2]

theorem canon_zero : canon 0 = 0 := canon_num (by decide +kernel)

theorem canon_lt {b : Nat} (h : b < 18446744073709551616) : canon b < 18446744073709551616 := by
  unfold canon
  split
  · unfold nanBits; omega
  · exact h

theorem frombits_run (n : Nat) (w : World) : (callFunc 42 #[.int .u64 n]).run Try.prog w = .ok (.value (.float .f64 n)) w := by
  rw [run_callFunc_extern Try.func42 (by kernel_rfl) (by kernel_rfl) (by kernel_rfl) (e := Extern.MathFloatBits.float64frombits) (by kernel_rfl)]
  rfl

theorem tobits_run (b : Nat) (w : World) : (callFunc 55 #[.float .f64 b]).run Try.prog w = .ok (.value (.int .u64 b)) w := by
  rw [run_callFunc_extern Try.func55 (by kernel_rfl) (by kernel_rfl) (by kernel_rfl) (e := Extern.MathFloatBits.float64bits) (by kernel_rfl)]
  rfl

theorem isNaN_any (b : Nat) (w : World) :
    Calls Try.prog 41 #[.float .f64 b] w fun e w' => e = .returned (.bool (nanB b)) ∧ w = w' := by
  go_enter Try.func41, Try.ntmps41
  go_wp2
  go_ret
  exact ⟨rfl, rfl⟩

theorem refBits_any (b : Nat) (w : World) :
    Calls Try.prog 48 #[.float .f64 b] w fun e w' => e = .returned (.int .u64 (canon b)) ∧ w = w' := by
  have hb := tobits_run b
  by_cases h : nanB b = true
  · have hc := hid (canon_nan h)
    unfold nanB at h
    go_enter Try.func48, Try.ntmps48
    go_wp2
    go_ret
    exact ⟨by rw [hc.out]; rfl, rfl⟩
  · have h2 : nanB b = false := by simpa using h
    have hc := hid (canon_num h2)
    unfold nanB at h2
    clear h
    go_enter Try.func48, Try.ntmps48
    go_wp2
    go_ret
    exact ⟨by rw [hc.out]; rfl, rfl⟩

theorem same_any (a b : Nat) (w : World) :
    Calls Try.prog 36 #[.float .f64 a, .float .f64 b] w fun e w' => e = .returned (.bool ((canon a : Int) == (canon b : Int))) ∧ w = w' := by
  go_enter Try.func36, Try.ntmps36
  go_wp2_with (go_at_call 48; refine (refBits_any _ _).mono ?_; rintro e w' ⟨rfl, rfl⟩)
  go_ret
  exact ⟨rfl, rfl⟩

theorem canonR_any (b : Nat) (w : World) : Calls Try.prog 33 #[.float .f64 b] w fun e w' => e = .returned (.float .f64 (canon b)) ∧ w = w' := by
  have C := hid (isNaN_any b w)
  have hn : ∀ w : World, (callFunc 42 #[.int .u64 9221120237041090560]).run Try.prog w = .ok (.value (.float .f64 9221120237041090560)) w := frombits_run 9221120237041090560
  by_cases h : nanB b = true
  · have hc := hid (canon_nan h)
    rw [h] at C
    clear h
    go_enter Try.func33, Try.ntmps33
    go_wp2_with (go_at_call 41; refine C.out.mono ?_; rintro e w' ⟨rfl, rfl⟩)
    go_ret
    exact ⟨by rw [hc.out]; rfl, rfl⟩
  · have h2 : nanB b = false := by simpa using h
    have hc := hid (canon_num h2)
    rw [h2] at C
    clear h h2
    go_enter Try.func33, Try.ntmps33
    go_wp2_with (go_at_call 41; refine C.out.mono ?_; rintro e w' ⟨rfl, rfl⟩)
    go_ret
    exact ⟨by rw [hc.out]; rfl, rfl⟩

theorem bitsR_any (b : Nat) (w : World) : Calls Try.prog 49 #[.float .f64 b] w fun e w' => e = .returned (.int .u64 (canon b)) ∧ w = w' := by
  have C := hid (canonR_any b w)
  have hn := tobits_run (canon b)
  go_enter Try.func49, Try.ntmps49
  go_wp2_with (go_at_call 33; refine C.out.mono ?_; rintro e w' ⟨rfl, rfl⟩)
  go_ret
  exact ⟨rfl, rfl⟩

theorem sameR_any (a b : Nat) (w : World) : Calls Try.prog 39 #[.float .f64 a, .float .f64 b] w fun e w' => e = .returned (.bool ((canon a : Int) == (canon b : Int))) ∧ w = w' := by
  go_enter Try.func39, Try.ntmps39
  go_wp2_with (go_at_call 49; refine (bitsR_any _ _).mono ?_; rintro e w' ⟨rfl, rfl⟩)
  go_ret
  exact ⟨rfl, rfl⟩

theorem store_flt (a : Addr) (b : Nat) (w : World) : (store a (.float .f64 b)).run Try.prog w = stored Try.prog w a (.float .f64 b) .plain := run_store Try.prog w a _ _ rfl
theorem arr_eq {s : ByteArray} {l : List UInt8} (h : s.data.toList = l) : s = ⟨l.toArray⟩ := by subst h; simp
theorem txt_eq {x y : ByteArray} (h : x.data.toList = y.data.toList) : x = y := by rw [arr_eq (s := x) rfl, arr_eq (s := y) rfl, h]
theorem toList_ne {x y : ByteArray} (h : x ≠ y) : (x.toList == y.toList) = false := by
  rw [ByteArray.toList_eq, ByteArray.toList_eq, Bool.eq_false_iff]
  intro e
  exact h (txt_eq (eq_of_beq e))

end Go.Proofs.Ytmgglmoiepjebaa
