/- How a table lies in memory; how many of its entries stand ahead of one. -/
import Derived.Test.YtdjcpdlfapfmkaaGreatTb13
import Derived.Test.YtdjcpdlfapfmkaaGreatSr13
import Derived.Test.YtdjcpdlfapfmkaaGreatOs12
namespace Go.Proofs.YtdjcpdlfapfmkaaGreat
open Go.RowKit Go.Lib
set_option maxRecDepth 100000

abbrev TTab : TypeId := 89
/-- p is a table of the entries l. -/
def TblAt (w : World) (p : Option Addr) (l : List En) : Prop := (p = none ∧ l = []) ∨ ∃ (b : Nat) (x : Option Addr) (c : Nat), p = some ⟨b, 0, none⟩ ∧ w.heap[b]? = some (.cells #[.slice x l.length c] TTab) ∧ (l.length ≤ c ∧ (x = none → c = 0)) ∧ EntX w x l
theorem TblAt.t0 {w w' : World} {p : Option Addr} {l : List En} (h : TblAt w p l) (t : Touch [] w w') : TblAt w' p l := by
  rcases h with h | ⟨b, x, c, h1, h2, h3, h4⟩
  · exact .inl h
  · exact .inr ⟨b, x, c, h1, touch_other t h2 (by simp), h3, h4.t0 t⟩
theorem entX_nil (w : World) (x : Option Addr) : EntX w x [] := fun i h => absurd h (Nat.not_lt_zero i)

theorem list_any {p : Option Addr} {l : List En} {w : World} (ht : TblAt w p l) :
    Calls Tryz.prog 48 #[.pointer p] w fun e w' => ∃ x c, e = .returned (.slice x l.length c) ∧ (l.length ≤ c ∧ (x = none → c = 0)) ∧ EntX w x l ∧ w' = w := by
  rcases ht with ⟨rfl, rfl⟩ | ⟨b, x, c, rfl, hb, hc, hx⟩
  · go_enter Tryz.func48, Tryz.ntmps48
    go_wp2
    go_ret
    exact ⟨none, 0, rfl, ⟨Nat.zero_le _, fun _ => rfl⟩, entX_nil _ _, rfl⟩
  · have c0 := cell_of hb 0
    have HX := hid hx
    have HC := hid hc
    clear hx hb hc
    go_enter Tryz.func48, Tryz.ntmps48
    go_wp2
    go_ret
    exact ⟨_, _, rfl, HC.out, HX.out, rfl⟩

theorem ahead1_any (bl be : Nat) (x : Option Addr) (c : Nat) (l : List En) (e : En) (k : Nat) (W : World) (hbl : W.cell? ⟨bl, 0, none⟩ = some (.slice x l.length c)) (hx : EntX W x l) (hE : EnB W be e) (hk : 8 * k < l.length) (hl : l.length ≤ 1000000) :
    Calls Tryz.prog 96 (#[.int .i64 k] ++ #[.pointer (some ⟨bl, 0, none⟩), .pointer (some ⟨be, 0, none⟩)]) W fun r w' => r = .returned (.bool (!decide (ltE l[8 * k] e))) ∧ Touch [] W w' := by
  obtain ⟨b, off, rfl, c0, c1, c2⟩ := hx (8 * k) hk
  obtain ⟨d0, d1, d2⟩ := hE.c
  have LE := fun w => less_any l[8 * k] e w
  generalize l[8 * k] = s at *
  have hkI : (k : Int) * 8 < l.length := by omega
  rw [Nat.mul_comm 8 k] at c0 c1 c2
  clear hx hE
  obtain ⟨ι, f, ⟨θ0, hθ0⟩, inst, FT, FE⟩ := held_class W
  have F0 : ∀ θ, (f θ).cell? ⟨bl, 0, none⟩ = some (.slice (some ⟨b, off, none⟩) l.length c) := fun θ => (FT.out θ).cell hbl
  have F1 : ∀ θ, (f θ).cell? ⟨b, off + k * 8 * 3, none⟩ = some (.int .i64 s.1) := fun θ => (FT.out θ).cell c0
  have F2 : ∀ θ, (f θ).cell? ⟨b, off + k * 8 * 3 + 1, none⟩ = some (.int .i64 s.2.1) := fun θ => (FT.out θ).cell c1
  have F3 : ∀ θ, (f θ).cell? ⟨b, off + k * 8 * 3 + 2, none⟩ = some (.int .i64 s.2.2) := fun θ => (FT.out θ).cell c2
  have G1 : ∀ θ, (f θ).cell? ⟨be, 0, none⟩ = some (.int .i64 e.1) := fun θ => (FT.out θ).cell d0
  have G2 : ∀ θ, (f θ).cell? ⟨be, 1, none⟩ = some (.int .i64 e.2.1) := fun θ => (FT.out θ).cell d1
  have G3 : ∀ θ, (f θ).cell? ⟨be, 2, none⟩ = some (.int .i64 e.2.2) := fun θ => (FT.out θ).cell d2
  have LL : Hid (∀ θ, Calls Tryz.prog 80 #[enV s, enV e] (f θ) fun r w'' => r = .returned (.bool (decide (ltE s e))) ∧ ∃ θ', w'' = f θ') := hid fun θ => (LE (f θ)).mono fun r w'' ⟨h1, h2⟩ => ⟨h1, FE.out _ ((FT.out θ).trans h2 (by simp))⟩
  clear LE c0 c1 c2 d0 d1 d2 hbl
  go_enter Tryz.func96, Tryz.ntmps96
  go_wp2_with fail
  refine wp_region_held f θ0 (by kernel_rfl) (by kernel_rfl) hθ0 ?_
  repeat go_big_quiet_step (exact LL.out _)
  refine wpQuiet_nil ?_
  rintro _ ⟨θ, rfl⟩
  have k3 := hid (FT.out θ)
  generalize f θ = w6 at *
  go_wp2
  go_ret
  exact ⟨rfl, k3.out⟩
end Go.Proofs.YtdjcpdlfapfmkaaGreat
