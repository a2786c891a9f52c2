/- The walk of GuardTells. -/
import Derived.Test.YtjakkjjohpkcjaaGtells
import Derived.Deep.LoopGhost
import Derived.Test.YtjakkjjohpkcjaaHeld
import Derived.Deep.Light
namespace Go.Proofs.Ytjakkjjohpkcjaa
open Go.RowKit Go.Lib Go.ChangeShapes Go.WideShapes

theorem size_allocT (w : World) (o : Obj) : (w.alloc o).heap.size = w.heap.size + 1 := by simp
/-- The law's loop: behind k rounds. -/
def TellsL (w : World) (bl : Nat) (v : Value) (len : Nat) (g : Nat) (t3 : Value) (wr : World) : Prop := ∃ k bi : Nat, k ≤ len ∧ g = len - k ∧ t3 = .pointer (some ⟨bi, 0, none⟩) ∧ wr.heap[bi]? = some (intO k) ∧
  wr.heap[bl]? = some (jobsO v) ∧ bi ≠ bl ∧ w.heap.size ≤ bi ∧ Touch [] w wr

set_option maxRecDepth 100000 in
set_option maxHeartbeats 8000000 in
theorem gtells_full (x : Option Addr) (js : List JobD) (c : Nat) (w : World) (hv : Jobs w (.slice x js.length c) js) :
    Calls Try.prog 3 #[.slice x js.length c] w fun e w' => e = .returned (.bool true) ∧ Touch [] w w' := by
  have C0 := hid alive_true
  have HV := hid hv
  have B0 : Hid ((w.alloc (jobsO (.slice x js.length c))).heap[w.heap.size]? = some (jobsO (.slice x js.length c))) := hid (heap_alloc_new w _)
  have hmf := make_func
  have hnot : ∀ (b : Bool) (w : World), (Op.unary .not (.bool b)).run Try.prog w = .ok (.bool (!b)) w := fun _ _ => rfl
  clear hv
  go_enter Try.func3, Try.ntmps3
  go_wp2_with fail
  refine (light_any _ js _ (HV.out.touch ((Touch.refl [] _).alloc _))).mono ?_
  rintro e w0 ⟨b, rfl, hb, rfl⟩
  have HB := hid hb
  clear hb
  cases b
  · go_wp2_with (go_at_call 10; refine (C0.out _).mono ?_; rintro e w1 ⟨rfl, a1⟩)
    go_ret
    exact ⟨rfl, ((Touch.refl _ _).alloc _).trans a1 (by simp)⟩
  · have h40 : js.length ≤ 40 := HB.out rfl
    go_wp2_with fail
    refine (C0.out _).mono ?_
    rintro e w1 ⟨rfl, a1⟩
    have T1 := hid (((Touch.refl [] _).alloc _).trans a1 (by simp))
    have hl := touch_other a1 B0.out (by simp)
    have hlt := lt_of_block hl
    clear HB a1 B0 C0
    go_wp2
    go_loopg [3] js.length (fun g t3 wr => TellsL w w.heap.size (.slice x js.length c) js.length g t3 wr)
    case atStart => exact ⟨0, w1.heap.size, Nat.zero_le _, rfl, rfl, heap_alloc_new _ _, heap_alloc_keep hl _, by omega, by omega, T1.out.alloc _⟩
    case round =>
      obtain ⟨k, bi, hk, rfl, rfl, hi, hl2, n1, n3, ht⟩ := hrel
      have n4 := lt_of_block hi
      obtain ⟨c0, c00⟩ := cell_one hi
      obtain ⟨c1, c11⟩ := cell_one hl2
      have HI := hid hi
      have HL := hid hl2
      have HT := hid ht
      clear hi hl2 ht hl
      by_cases hlt3 : k < js.length
      · have hlk := lt_of_block HL.out
        have D : Hid (Calls Try.prog 11 #[.func (.func 12) #[] #[.pointer (some ⟨w.heap.size, 0, none⟩), .pointer (some ⟨bi, 0, none⟩), .pointer (some ⟨wr.heap.size, 0, none⟩)]] (wr.alloc (intO 0)) (TellsD wr.heap.size 0 #[.int .i64 0] 3 (incsAt js k) (toldAt js k) (wr.alloc (intO 0)))) :=
          hid (do_run _ _ _ _ _ _ _ _ _ (by simp) (enters_tells _ _ _) (tells_one js (.slice x js.length c) k w.heap.size bi wr.heap.size 0 #[.int .i64 0] 3 _ (HV.out.touch ((HT.out.alloc _).alloc _)) hlt3 h40 (heap_alloc_keep (heap_alloc_keep HL.out _) _) (heap_alloc_keep (heap_alloc_keep HI.out _) _) (heap_alloc_keep (heap_alloc_new _ _) _) rfl))
        have hkI : (k : Int) < js.length := by omega
        have HX := hid (told_incs js k hlt3)
        go_wp2_with fail
        refine D.out.mono ?_
        rintro e w2 ⟨rfl, hn2, t2⟩
        have hs2 : wr.heap.size < w2.heap.size := by have := t2.size; simp at this; omega
        have hi2 := touch_other t2 (heap_alloc_keep HI.out _) (by simp; omega)
        have hl2 := touch_other t2 (heap_alloc_keep HL.out _) (by simp; omega)
        have T2 := hid ((HT.out.alloc (intO 0)).trans t2 (by simp; have := HT.out.size; omega))
        have Tl : Hid (∀ W wx, Touch [] w2 W → Touch [] W wx → Calls Try.prog 14 #[.slice x js.length c, .int .i64 k] wx fun e w' => e = .returned (toldAt js k).val ∧ Touch [] W w') := hid fun W wx hW h => (told_any _ js k wx (HV.out.touch ((T2.out.trans hW (by simp)).trans h (by simp)))).mono fun e w' ⟨he, h2⟩ => ⟨he, h.trans h2 (by simp)⟩
        obtain ⟨_, d0⟩ := cell_one hi2
        obtain ⟨_, d1⟩ := cell_one hl2
        have HI2 := hid hi2
        have HL2 := hid hl2
        have HN2 : Hid (w2.heap[wr.heap.size]? = some (intO (incsAt js k))) := hid hn2
        clear c0 c00 c1 c11 D t2 hi2 hl2 hn2
        generalize toldAt js k = t at *
        generalize incsAt js k = m at *
        have S : Hid (∀ wx, Touch [] (w2.alloc (.cells t.cells TFault)) wx → wx.cell? ⟨w2.heap.size, 0, none⟩ = some (.int .i64 t.err) ∧ wx.cell? ⟨w2.heap.size, 1, none⟩ = some (.int .i64 t.kind) ∧ wx.cell? ⟨w2.heap.size, 2, none⟩ = some (.string t.text) ∧
            wx.cell? ⟨bi, 0, none⟩ = some (.int .i64 k) ∧ wx.cell? ⟨w.heap.size, 0, none⟩ = some (.slice x js.length c) ∧ wx.cell? ⟨wr.heap.size, 0, none⟩ = some (.int .i64 m)) := hid fun wx h => by
          have e8 := touch_other h (heap_alloc_new w2 (.cells t.cells TFault)) (by simp)
          exact ⟨cell_of e8 0, cell_of e8 1, cell_of e8 2, cell_of (touch_other h (heap_alloc_keep HI2.out _) (by simp)) 0, cell_of (touch_other h (heap_alloc_keep HL2.out _) (by simp)) 0, cell_of (touch_other h (heap_alloc_keep HN2.out _) (by simp)) 0⟩
        obtain ⟨ι, f, ⟨θ0, hθ0⟩, F0, F1, F2, F3, F4, F5, FT, FC⟩ : ∃ (ι : Type) (f : ι → World), (∃ θ, f θ = (w2.alloc (.cells t.cells TFault)).drew) ∧ (∀ θ, (f θ).cell? ⟨w2.heap.size, 0, none⟩ = some (.int .i64 t.err)) ∧ (∀ θ, (f θ).cell? ⟨w2.heap.size, 1, none⟩ = some (.int .i64 t.kind)) ∧
            (∀ θ, (f θ).cell? ⟨w2.heap.size, 2, none⟩ = some (.string t.text)) ∧ (∀ θ, (f θ).cell? ⟨bi, 0, none⟩ = some (.int .i64 k)) ∧ (∀ θ, (f θ).cell? ⟨w.heap.size, 0, none⟩ = some (.slice x js.length c)) ∧ (∀ θ, (f θ).cell? ⟨wr.heap.size, 0, none⟩ = some (.int .i64 m)) ∧
            Hid (∀ θ, Touch [] (w2.alloc (.cells t.cells TFault)) (f θ)) ∧ Hid (∀ θ, Calls Try.prog 14 #[.slice x js.length c, .int .i64 k] (f θ) fun e w'' => e = .returned t.val ∧ ∃ θ', w'' = f θ') :=
          ⟨{wx // Touch [] (w2.alloc (.cells t.cells TFault)) wx}, Subtype.val, ⟨⟨_, (Touch.refl _ _).drew⟩, rfl⟩, fun θ => (S.out _ θ.2).1, fun θ => (S.out _ θ.2).2.1, fun θ => (S.out _ θ.2).2.2.1, fun θ => (S.out _ θ.2).2.2.2.1, fun θ => (S.out _ θ.2).2.2.2.2.1, fun θ => (S.out _ θ.2).2.2.2.2.2,
            hid fun θ => θ.2, hid fun θ => (Tl.out _ _ ((Touch.refl _ _).alloc _) θ.2).mono fun e w'' ⟨he, h2⟩ => ⟨he, ⟨⟨w'', h2⟩, rfl⟩⟩⟩
        have Hθ := hid hθ0
        have inst : Nonempty ι := ⟨θ0⟩
        clear hθ0 S Tl
        go_upto_region 8 with fail
        clear d0 d1
        rcases HX.out with ⟨e1, hm⟩ | ⟨hne, hm⟩
        · obtain rfl := e1
          have m1 : (1 : Int) ≤ m := by omega
          have m2 : decide ((m : Int) < 1) = false := by simp; omega
          clear HX hm
          refine wp_region_held f θ0 (by kernel_rfl) (by kernel_rfl) Hθ.out ?_
          repeat go_big_quiet_step (exact FC.out _)
          refine wpQuiet_nil ?_
          intro _ hw'
          obtain ⟨θ, hw''⟩ := hw'
          subst hw''
          have TT := hid (FT.out θ)
          have F6 : ∀ o : Obj, ((f θ).alloc o).cell? ⟨bi, 0, none⟩ = some (.int .i64 k) := fun o => ((Touch.refl [] _).alloc o).cell (F3 θ)
          have k0 : (0 : Int) ≤ k := by omega
          have k1 : (k : Int) ≤ 40 := by omega
          go_wp2
          go_roundg (js.length - (k + 1))
          case measure => omega
          case rel =>
            have z6 := TT.out.size
            simp only [size_allocT] at z6
            exact ⟨k + 1, (f θ).heap.size, by omega, rfl, rfl, heap_alloc_new _ _, heap_alloc_keep (touch_other TT.out (heap_alloc_keep HL2.out _) (by simp)) _, by omega, by omega, ((T2.out.alloc _).trans TT.out (by simp)).alloc _⟩
        · have q1 : (t.err == 0) = false := by simpa using hne
          obtain rfl := hm
          clear HX hne
          refine wp_region_held f θ0 (by kernel_rfl) (by kernel_rfl) Hθ.out ?_
          repeat go_big_quiet_step (exact FC.out _)
          refine wpQuiet_nil ?_
          intro _ hw'
          obtain ⟨θ, hw''⟩ := hw'
          subst hw''
          have TT := hid (FT.out θ)
          have F6 : ∀ o : Obj, ((f θ).alloc o).cell? ⟨bi, 0, none⟩ = some (.int .i64 k) := fun o => ((Touch.refl [] _).alloc o).cell (F3 θ)
          have k0 : (0 : Int) ≤ k := by omega
          have k1 : (k : Int) ≤ 40 := by omega
          go_wp2
          go_roundg (js.length - (k + 1))
          case measure => omega
          case rel =>
            have z6 := TT.out.size
            simp only [size_allocT] at z6
            exact ⟨k + 1, (f θ).heap.size, by omega, rfl, rfl, heap_alloc_new _ _, heap_alloc_keep (touch_other TT.out (heap_alloc_keep HL2.out _) (by simp)) _, by omega, by omega, ((T2.out.alloc _).trans TT.out (by simp)).alloc _⟩
      · obtain rfl : k = js.length := by omega
        clear c00 c11
        go_wp2
        go_ret
        exact ⟨rfl, HT.out⟩

theorem walk_GuardTells (v : Value) (js : List JobD) (w : World) (hv : Jobs w v js) :
    Calls Try.prog 3 #[v] w fun e w' => e = .returned (.bool true) ∧ Touch [] w w' := by
  have hv2 := hv
  obtain ⟨x, c, rfl, _⟩ := hv2
  exact gtells_full x js c w hv
end Go.Proofs.Ytjakkjjohpkcjaa
