/- The laws' own Same. -/
import Derived.Test.YtcihnfgfficmlaaEvSame
namespace Go.Proofs.Ytcihnfgfficmlaa
open Go.RowKit Go.Lib

def sameL : List EvD → List EvD → Bool
  | [], [] => true
  | a :: l, b :: m => sameE a b && sameL l m
  | _, _ => false
def sameC (a b : CmdD) : Bool := decide (a.kind = b.kind) && decide (a.time = b.time) && decide (a.stream = b.stream) && decide (a.exp = b.exp) && (decide (a.cnt = b.cnt) && decide (a.age = b.age) && decide (a.bef = b.bef)) && sameL a.evs b.evs

theorem sameL_len {l m : List EvD} (h : l.length ≠ m.length) : sameL l m = false := by
  induction l generalizing m with
  | nil => cases m with | nil => exact absurd rfl h | cons b m => rfl
  | cons a l ih => cases m with | nil => rfl | cons b m => simp only [sameL]; rw [ih (by simpa using h)]; simp
theorem sameL_bad {l m : List EvD} (k : Nat) (h1 : k < l.length) (h2 : k < m.length) (h : sameE l[k] m[k] = false) : sameL l m = false := by
  induction l generalizing m k with
  | nil => simp at h1
  | cons a l ih =>
    cases m with
    | nil => rfl
    | cons b m =>
      simp only [sameL]
      cases k with
      | zero => simp only [List.getElem_cons_zero] at h; rw [h]; rfl
      | succ k => rw [ih k (by simpa using h1) (by simpa using h2) (by simpa using h)]; simp
theorem sameL_good {l m : List EvD} (hl : l.length = m.length) (h : ∀ i (h1 : i < l.length) (h2 : i < m.length), sameE l[i] m[i] = true) : sameL l m = true := by
  induction l generalizing m with
  | nil => cases m with | nil => rfl | cons b m => simp at hl
  | cons a l ih =>
    cases m with
    | nil => simp at hl
    | cons b m =>
      simp only [sameL]
      rw [show sameE a b = true from h 0 (by simp) (by simp), ih (by simpa using hl) (fun i h1 h2 => h (i + 1) (by simpa using h1) (by simpa using h2))]
      rfl

set_option maxRecDepth 100000 in
set_option maxHeartbeats 1000000 in
theorem refSame_early (a b : CmdD) (x y : Option Addr) (c d : Nat) (w : World)
    (h : a.kind ≠ b.kind ∨ (a.kind = b.kind ∧ a.time ≠ b.time) ∨ (a.kind = b.kind ∧ a.time = b.time ∧ a.stream ≠ b.stream) ∨ (a.kind = b.kind ∧ a.time = b.time ∧ a.stream = b.stream ∧ a.exp ≠ b.exp) ∨
      (a.kind = b.kind ∧ a.time = b.time ∧ a.stream = b.stream ∧ a.exp = b.exp ∧ a.cnt ≠ b.cnt) ∨ (a.kind = b.kind ∧ a.time = b.time ∧ a.stream = b.stream ∧ a.exp = b.exp ∧ a.cnt = b.cnt ∧ a.age ≠ b.age) ∨
      (a.kind = b.kind ∧ a.time = b.time ∧ a.stream = b.stream ∧ a.exp = b.exp ∧ a.cnt = b.cnt ∧ a.age = b.age ∧ a.bef ≠ b.bef) ∨ (a.kind = b.kind ∧ a.time = b.time ∧ a.stream = b.stream ∧ a.exp = b.exp ∧ a.cnt = b.cnt ∧ a.age = b.age ∧ a.bef = b.bef ∧ a.evs.length ≠ b.evs.length)) :
    Calls Try.prog 24 #[a.agg x c, b.agg y d] w fun r w' => r = .returned (.bool false) ∧ Touch [] w w' := by
  unfold CmdD.agg
  obtain ⟨a0, a1, a2, a3, a4, a5, a6, a7⟩ := a
  obtain ⟨b0, b1, b2, b3, b4, b5, b6, b7⟩ := b
  simp only [] at h ⊢
  have ne : ∀ x y : Int, x ≠ y → (x != y) = true := fun x y h => by simpa using h
  rcases h with h | ⟨rfl, h⟩ | ⟨rfl, rfl, h⟩ | ⟨rfl, rfl, rfl, h⟩ | ⟨rfl, rfl, rfl, rfl, h⟩ | ⟨rfl, rfl, rfl, rfl, rfl, h⟩ | ⟨rfl, rfl, rfl, rfl, rfl, rfl, h⟩ | ⟨rfl, rfl, rfl, rfl, rfl, rfl, rfl, h⟩
  · have q := ne _ _ h
    clear ne h
    go_enter Try.func24, Try.ntmps24
    go_wp2
    go_ret
    exact ⟨rfl, ((Touch.refl _ _).alloc _).alloc _⟩
  · have q := ne _ _ h
    clear ne h
    go_enter Try.func24, Try.ntmps24
    go_wp2
    go_ret
    exact ⟨rfl, ((Touch.refl _ _).alloc _).alloc _⟩
  · have q := toList_ne h
    clear ne h
    go_enter Try.func24, Try.ntmps24
    go_wp2
    go_ret
    exact ⟨rfl, ((Touch.refl _ _).alloc _).alloc _⟩
  · have q := ne _ _ h
    clear ne h
    go_enter Try.func24, Try.ntmps24
    go_wp2
    go_ret
    exact ⟨rfl, ((Touch.refl _ _).alloc _).alloc _⟩
  · have q := ne _ _ h
    clear ne h
    go_enter Try.func24, Try.ntmps24
    go_wp2
    all_goals
      go_ret
      exact ⟨rfl, ((Touch.refl _ _).alloc _).alloc _⟩
  · have q := ne _ _ h
    clear ne h
    go_enter Try.func24, Try.ntmps24
    go_wp2
    all_goals
      go_ret
      exact ⟨rfl, ((Touch.refl _ _).alloc _).alloc _⟩
  · have q := ne _ _ h
    clear ne h
    go_enter Try.func24, Try.ntmps24
    go_wp2
    all_goals
      go_ret
      exact ⟨rfl, ((Touch.refl _ _).alloc _).alloc _⟩
  · have q := ne _ _ (show ((a4.length : Nat) : Int) ≠ b4.length by omega)
    clear ne h
    go_enter Try.func24, Try.ntmps24
    go_wp2
    go_ret
    exact ⟨rfl, ((Touch.refl _ _).alloc _).alloc _⟩

set_option maxRecDepth 100000 in
set_option maxHeartbeats 2000000 in
theorem refSame_late (k t e p q r : Int) (s : ByteArray) (l m : List EvD) (x y : Option Addr) (c d : Nat) (w : World) (hx : EvX w x l) (hy : EvX w y m) (hl : l.length = m.length) (hm : l.length ≤ 9223372036854775807) :
    Calls Try.prog 24 #[CmdD.agg ⟨k, t, s, e, l, p, q, r⟩ x c, CmdD.agg ⟨k, t, s, e, m, p, q, r⟩ y d] w fun r w' => r = .returned (.bool (sameL l m)) ∧ Touch [] w w' := by
  unfold CmdD.agg
  simp only []
  rw [← hl]
  have HX := hid hx
  have HY := hid hy
  have HL := hid hl
  have HM := hid hm
  clear hx hy hl hm
  have T0 : Hid (Touch [] w ((w.alloc (.cells #[.int .i64 k, .int .i64 t, .string s, .int .i64 e, .slice x l.length c, .int .i64 p, .int .i64 q, .int .i64 r] tCmd)).alloc (.cells #[.int .i64 k, .int .i64 t, .string s, .int .i64 e, .slice y l.length d, .int .i64 p, .int .i64 q, .int .i64 r] tCmd))) := ((Touch.refl _ _).alloc _).alloc _
  go_enter Try.func24, Try.ntmps24
  go_upto_region 3 with fail
  obtain ⟨W2, hW2⟩ : ∃ W2, W2 = ((w.alloc (.cells #[.int .i64 k, .int .i64 t, .string s, .int .i64 e, .slice x l.length c, .int .i64 p, .int .i64 q, .int .i64 r] tCmd)).alloc (.cells #[.int .i64 k, .int .i64 t, .string s, .int .i64 e, .slice y l.length d, .int .i64 p, .int .i64 q, .int .i64 r] tCmd)) := ⟨_, rfl⟩
  have T2 : Hid (Touch [] w W2) := by rw [hW2]; exact T0.out
  have B1 : Hid (W2.cell? ⟨w.heap.size, 4, none⟩ = some (.slice x l.length c)) := by
    rw [hW2]
    exact hid (((Touch.refl [] _).alloc _).cell (cell_of (heap_alloc_new w _) 4))
  have B2 : Hid (W2.cell? ⟨w.heap.size + 1, 4, none⟩ = some (.slice y l.length d)) := by
    rw [hW2]
    have := cell_of (heap_alloc_new (w.alloc (.cells #[.int .i64 k, .int .i64 t, .string s, .int .i64 e, .slice x l.length c, .int .i64 p, .int .i64 q, .int .i64 r] tCmd)) (.cells #[.int .i64 k, .int .i64 t, .string s, .int .i64 e, .slice y l.length d, .int .i64 p, .int .i64 q, .int .i64 r] tCmd)) 4
    rw [show (w.alloc (.cells #[.int .i64 k, .int .i64 t, .string s, .int .i64 e, .slice x l.length c, .int .i64 p, .int .i64 q, .int .i64 r] tCmd)).heap.size = w.heap.size + 1 by simp] at this
    exact hid this
  simp only [tCmd] at hW2
  rw [← hW2]
  clear hW2 T0
  go_wp2
  go_loopw [5] (fun kv wr => ∃ j : Nat, j ≤ l.length ∧ kv = .int .i64 j ∧ Touch [] W2 wr ∧ ∀ i (h1 : i < l.length) (h2 : i < m.length), i < j → sameE l[i] m[i] = true) (fun kv _ => l.length - (RowKit.intOf kv).toNat)
  case atStart => exact ⟨0, Nat.zero_le _, rfl, Touch.refl _ _, fun i _ _ h => absurd h (Nat.not_lt_zero i)⟩
  case round =>
    obtain ⟨j, hj, rfl, hT, hall⟩ := hrel
    have HT := hid hT
    have Hall := hid hall
    clear hT hall
    by_cases hlt : j < l.length
    · have hltI : (j : Int) < l.length := by omega
      have hj0 : (0 : Int) ≤ j := by omega
      have hb1 : (j : Int) < 9223372036854775807 := by have := HM.out; omega
      have hjm : j < m.length := by have := HL.out; omega
      obtain ⟨b, off, rfl, ha, ok1⟩ := (HX.out.touch (T2.out.trans HT.out (by simp))) j hlt
      obtain ⟨b', off', rfl, hb, ok2⟩ := (HY.out.touch (T2.out.trans HT.out (by simp))) j hjm
      have c0 := HT.out.cell B1.out
      have hsame := hid (fun w => refSameEvent_any l[j] m[j] w)
      have hbad : Hid (sameE l[j] m[j] = false → sameL l m = false) := sameL_bad j hlt hjm
      have hgood : Hid (sameE l[j] m[j] = true → ∀ i (h1 : i < l.length) (h2 : i < m.length), i < j + 1 → sameE l[i] m[i] = true) := fun h i h1 h2 h3 => by
        by_cases he : i = j
        · subst he; exact h
        · exact Hall.out i h1 h2 (by omega)
      obtain ⟨a0, a1, a2, a3⟩ := ha
      obtain ⟨b0, b1, b2, b3⟩ := hb
      unfold EvD.agg at hsame
      generalize hg : sameE l[j] m[j] = g at *
      generalize l[j] = E at *
      generalize m[j] = F at *
      obtain ⟨E0, E1, E2, E3⟩ := E
      obtain ⟨F0, F1, F2, F3⟩ := F
      simp only [] at a0 a1 a2 a3 b0 b1 b2 b3 hsame
      clear hg
      go_upto_region 6 with fail
      obtain ⟨ι, f, ⟨θ0, hθ0⟩, p1, p2, p3, p4, p5, p6, p7, p8, p9, p10, FT, FC⟩ : ∃ (ι : Type) (f : ι → World), (∃ θ, f θ = wr.drew) ∧ (∀ θ, (f θ).cell? ⟨w.heap.size, 4, none⟩ = some (.slice (some ⟨b, off, none⟩) l.length c)) ∧ (∀ θ, (f θ).cell? ⟨w.heap.size + 1, 4, none⟩ = some (.slice (some ⟨b', off', none⟩) l.length d)) ∧
          (∀ θ, (f θ).cell? ⟨b, off + j * 4, none⟩ = some (.int .i64 E0)) ∧ (∀ θ, (f θ).cell? ⟨b, off + j * 4 + 1, none⟩ = some (.string E1)) ∧ (∀ θ, (f θ).cell? ⟨b, off + j * 4 + 2, none⟩ = some (.string E2)) ∧ (∀ θ, (f θ).cell? ⟨b, off + j * 4 + 3, none⟩ = some (.float .f64 E3)) ∧
          (∀ θ, (f θ).cell? ⟨b', off' + j * 4, none⟩ = some (.int .i64 F0)) ∧ (∀ θ, (f θ).cell? ⟨b', off' + j * 4 + 1, none⟩ = some (.string F1)) ∧ (∀ θ, (f θ).cell? ⟨b', off' + j * 4 + 2, none⟩ = some (.string F2)) ∧ (∀ θ, (f θ).cell? ⟨b', off' + j * 4 + 3, none⟩ = some (.float .f64 F3)) ∧
          Hid (∀ θ, Touch [] W2 (f θ)) ∧ Hid (∀ θ, Calls Try.prog 15 #[.agg #[.int .i64 E0, .string E1, .string E2, .float .f64 E3], .agg #[.int .i64 F0, .string F1, .string F2, .float .f64 F3]] (f θ) fun e w'' => e = .returned (.bool g) ∧ ∃ θ', w'' = f θ') :=
        ⟨{wx // Touch [] wr wx}, Subtype.val, ⟨⟨_, (Touch.refl [] wr).drew⟩, rfl⟩, fun θ => (HT.out.trans θ.2 (by simp)).cell B1.out, fun θ => (HT.out.trans θ.2 (by simp)).cell B2.out, fun θ => θ.2.cell a0, fun θ => θ.2.cell a1, fun θ => θ.2.cell a2, fun θ => θ.2.cell a3,
          fun θ => θ.2.cell b0, fun θ => θ.2.cell b1, fun θ => θ.2.cell b2, fun θ => θ.2.cell b3, hid fun θ => HT.out.trans θ.2 (by simp), hid fun θ => (hsame.out _).mono fun e w'' ⟨he, h2⟩ => ⟨he, ⟨⟨w'', θ.2.trans h2 (by simp)⟩, rfl⟩⟩⟩
      have Hθ := hid hθ0
      have inst : Nonempty ι := ⟨θ0⟩
      clear hθ0 hsame a0 a1 a2 a3 b0 b1 b2 b3 c0
      refine wp_region_held f θ0 (by kernel_rfl) (by kernel_rfl) Hθ.out ?_
      repeat go_big_quiet_step (exact FC.out _)
      refine wpQuiet_nil ?_
      intro _ hw'
      obtain ⟨θ, hw''⟩ := hw'
      subst hw''
      have T4 := hid (FT.out θ)
      clear p1 p2 p3 p4 p5 p6 p7 p8 p9 p10 FT FC Hθ
      generalize f θ = w3 at *
      clear inst θ0 θ
      clear f
      clear ι
      have Hlt := hid hlt
      have Hb1 := hid hb1
      clear ok1 ok2 hlt hltI hj0 hb1 hjm HX HY B1 B2
      cases g
      · have hr := hid (hbad.out rfl)
        clear hbad hgood hj
        simp only [Bool.not_false]
        go_wp2
        go_ret
        exact ⟨by rw [hr.out]; rfl, T2.out.trans T4.out (by simp)⟩
      · have hr := hid (hgood.out rfl)
        have hb1 := Hb1.out
        have hlt := Hlt.out
        clear hbad hgood
        simp only [Bool.not_true]
        go_wp2
        go_roundw
        case rel => exact ⟨j + 1, by omega, by go_num, T4.out, hr.out⟩
        case measure => simp [RowKit.intOf]; omega
    · obtain rfl : j = l.length := by omega
      have hr := hid (sameL_good HL.out (fun i h1 h2 => Hall.out i h1 h2 h1))
      have c0 := HT.out.cell B1.out
      clear hlt
      go_wp2
      go_ret
      exact ⟨by rw [hr.out]; rfl, T2.out.trans HT.out (by simp)⟩

theorem refSame_any (a b : CmdD) (x y : Option Addr) (c d : Nat) (w : World) (hx : EvX w x a.evs) (hy : EvX w y b.evs) (hm : a.evs.length ≤ 9223372036854775807) :
    Calls Try.prog 24 #[a.agg x c, b.agg y d] w fun r w' => r = .returned (.bool (sameC a b)) ∧ Touch [] w w' := by
  unfold sameC
  by_cases h1 : a.kind = b.kind
  rotate_left
  · rw [decide_eq_false h1]; simpa using refSame_early a b x y c d w (.inl h1)
  by_cases h2 : a.time = b.time
  rotate_left
  · rw [decide_eq_false h2]; simpa using refSame_early a b x y c d w (.inr (.inl ⟨h1, h2⟩))
  by_cases h3 : a.stream = b.stream
  rotate_left
  · rw [decide_eq_false h3]; simpa using refSame_early a b x y c d w (.inr (.inr (.inl ⟨h1, h2, h3⟩)))
  by_cases h4 : a.exp = b.exp
  rotate_left
  · rw [decide_eq_false h4]; simpa using refSame_early a b x y c d w (.inr (.inr (.inr (.inl ⟨h1, h2, h3, h4⟩))))
  by_cases h5 : a.cnt = b.cnt
  rotate_left
  · rw [decide_eq_false h5]; simpa using refSame_early a b x y c d w (.inr (.inr (.inr (.inr (.inl ⟨h1, h2, h3, h4, h5⟩)))))
  by_cases h6 : a.age = b.age
  rotate_left
  · rw [decide_eq_false h6]; simpa using refSame_early a b x y c d w (.inr (.inr (.inr (.inr (.inr (.inl ⟨h1, h2, h3, h4, h5, h6⟩))))))
  by_cases h7 : a.bef = b.bef
  rotate_left
  · rw [decide_eq_false h7]; simpa using refSame_early a b x y c d w (.inr (.inr (.inr (.inr (.inr (.inr (.inl ⟨h1, h2, h3, h4, h5, h6, h7⟩)))))))
  by_cases h8 : a.evs.length = b.evs.length
  rotate_left
  · rw [sameL_len h8]; simpa using refSame_early a b x y c d w (.inr (.inr (.inr (.inr (.inr (.inr (.inr ⟨h1, h2, h3, h4, h5, h6, h7, h8⟩)))))))
  rw [decide_eq_true h1, decide_eq_true h2, decide_eq_true h3, decide_eq_true h4, decide_eq_true h5, decide_eq_true h6, decide_eq_true h7]
  obtain ⟨a0, a1, a2, a3, a4, a5, a6, a7⟩ := a
  obtain ⟨b0, b1, b2, b3, b4, b5, b6, b7⟩ := b
  simp only [] at h1 h2 h3 h4 h5 h6 h7 h8 hx hy hm
  subst h1 h2 h3 h4 h5 h6 h7
  simpa using refSame_late a0 a1 a3 a5 a6 a7 a2 a4 b4 x y c d w hx hy h8 hm
end Go.Proofs.Ytcihnfgfficmlaa
