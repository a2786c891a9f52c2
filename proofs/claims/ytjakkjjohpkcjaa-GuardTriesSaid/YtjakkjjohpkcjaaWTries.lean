/- The walk of GuardTries. -/
import Derived.Test.YtjakkjjohpkcjaaRunc
import Derived.Test.YtjakkjjohpkcjaaGtry
import Derived.Test.YtjakkjjohpkcjaaHeld
import Derived.Deep.LoopGhost
import Derived.Deep.DeepCutAuto
namespace Go.Proofs.Ytjakkjjohpkcjaa
open Go.RowKit Go.Lib Go.ChangeShapes Go.WideShapes

abbrev jobsB (v : Value) : Obj := .cells #[v] 22 (0, 0)
theorem enters_tries (x y z u : Value) (w : World) : (callFunc 16 #[x, y, z, u]).run Try.prog w = .ok (.enter 16 #[x, y, z, u]) w := by simp [go_sem]

/-- What the k-th round's function comes to: its answer, or nought. -/
def TriesR (tf : FltD) (a : Int) (n : Int) (f : FltD) (_ : World) : Prop := f = tf ∧ ((tf = fine ∧ n = a) ∨ (¬ tf.err = 0 ∧ n = 0))

theorem tries_one (js : List JobD) (v : Value) (k : Nat) (a : Int) (bl bi bn bv : Nat) (X : World) (hv : Jobs X v js) (hk : k < js.length) (hk40 : js.length ≤ 40) (hl : X.heap[bl]? = some (jobsB v)) (hi : X.heap[bi]? = some (oneInt k)) (hn : X.heap[bn]? = some (oneInt 0)) (ha : X.heap[bv]? = some (oneInt a)) (hbv : bv ≠ bn) :
    Calls Try.prog 16 #[.pointer (some ⟨bl, 0, none⟩), .pointer (some ⟨bi, 0, none⟩), .pointer (some ⟨bn, 0, none⟩), .pointer (some ⟨bv, 0, none⟩)] X (CameT (TriesR (toldAt js k) a) [bn] X) := by
  have D := hid (run_all js (js.length - k) X v k bn 0 _ _ 0 hv rfl (by omega) (by omega) (by omega) hn rfl)
  have c0 := cell_of hl 0
  have c1 := cell_of hi 0
  have HA := hid ha
  clear hv hl hi hn ha
  go_enter Try.func16, Try.ntmps16
  go_wp2_with fail
  refine D.out.mono ?_
  rintro e w1 ⟨_, q2, ⟨u, rfl, hf⟩ | ⟨u, rfl, ht, hne⟩⟩
  · have z0 := cell_of (touch_other q2 HA.out (by simpa using hbv)) 0
    have Q2 := hid q2
    have HF := hid hf
    clear q2 hf D c0 c1
    go_wp2
    go_ret
    exact ⟨Q2.out, .inl ⟨_, rfl, HF.out.symm, .inl ⟨HF.out, rfl⟩⟩⟩
  · exact ⟨rfl, q2, .inr ⟨_, _, rfl, ht, rfl, .inr ⟨hne, rfl⟩⟩⟩

theorem tries_try (js : List JobD) (v : Value) (k : Nat) (a : Int) (bl bi bn bv : Nat) (w : World) (hv : Jobs w v js) (hk : k < js.length) (hk40 : js.length ≤ 40) (hl : w.heap[bl]? = some (jobsB v)) (hi : w.heap[bi]? = some (oneInt k)) (hn : w.heap[bn]? = some (oneInt 0)) (ha : w.heap[bv]? = some (oneInt a)) (hbv : bv ≠ bn) :
    Calls Try.prog 15 #[.func (.func 16) #[] #[.pointer (some ⟨bl, 0, none⟩), .pointer (some ⟨bi, 0, none⟩), .pointer (some ⟨bn, 0, none⟩), .pointer (some ⟨bv, 0, none⟩)]] w fun e w' =>
      ∃ n, e = .returned (.tuple #[.int .i64 n, (toldAt js k).val]) ∧ ((toldAt js k = fine ∧ n = a) ∨ (¬ (toldAt js k).err = 0 ∧ n = 0)) ∧ Touch [bn] w w' := by
  have hlt := lt_of_block hn
  have T := tryW_touch 16 #[.pointer (some ⟨bl, 0, none⟩), .pointer (some ⟨bi, 0, none⟩), .pointer (some ⟨bn, 0, none⟩), .pointer (some ⟨bv, 0, none⟩)] w
  refine (try_any _ _ (TriesR (toldAt js k) a) [bn] w (by simpa using hlt) (enters_tries _ _ _ _) (tries_one js v k a bl bi bn bv _ (hv.touch T) hk hk40 (touch_other T hl (by simp)) (touch_other T hi (by simp)) (touch_other T hn (by simp)) (touch_other T ha (by simp)) hbv)).mono ?_
  rintro e w' ⟨n, f, w1, G, rfl, t0, ⟨rfl, h⟩, hG, t1⟩
  exact ⟨n, rfl, h, ((T.mono (by simp)).trans t0 (by simp)).trans t1 (fun x hx => .inr (hG x hx))⟩

theorem size_alloc (w : World) (o : Obj) : (w.alloc o).heap.size = w.heap.size + 1 := by simp
/-- The test for a fault, and what is wanted then. -/
def TellsB (xx a : Int) (sv : Value) : Prop := ∃ B : Bool, sv = .bool B ∧ (B = true → xx = 0) ∧ (B = false → xx = a)
/-- The law's loop: behind k rounds. -/
def TriesL (w : World) (bl bv : Nat) (v : Value) (a : Int) (len : Nat) (g : Nat) (t5 : Value) (wr : World) : Prop := ∃ k bi : Nat, k ≤ len ∧ g = len - k ∧ t5 = .pointer (some ⟨bi, 0, none⟩) ∧ wr.heap[bi]? = some (oneInt k) ∧
  wr.heap[bl]? = some (jobsB v) ∧ wr.heap[bv]? = some (oneInt a) ∧ bi ≠ bl ∧ bi ≠ bv ∧ w.heap.size ≤ bi ∧ Touch [] w wr

set_option maxRecDepth 100000 in
set_option maxHeartbeats 4000000 in
theorem gtries_full (x : Option Addr) (js : List JobD) (c : Nat) (a : Int) (w : World) (hv : Jobs w (.slice x js.length c) js) :
    Calls Try.prog 4 #[.slice x js.length c, .int .i64 a] w fun e w' => e = .returned (.bool true) ∧ Touch [] w w' := by
  have C0 := hid alive_true
  have HV := hid hv
  have B0 : Hid (((w.alloc (jobsB (.slice x js.length c))).alloc (oneInt a)).heap[w.heap.size]? = some (jobsB (.slice x js.length c))) := hid (heap_alloc_keep (heap_alloc_new w _) _)
  have B1 : Hid (((w.alloc (jobsB (.slice x js.length c))).alloc (oneInt a)).heap[w.heap.size + 1]? = some (oneInt a)) := hid (by simpa using heap_alloc_new (w.alloc (jobsB (.slice x js.length c))) (oneInt a))
  have hmf := make_func
  have hnot : ∀ (b : Bool) (w : World), (Op.unary .not (.bool b)).run Try.prog w = .ok (.bool (!b)) w := fun _ _ => rfl
  clear hv
  go_enter Try.func4, Try.ntmps4
  go_wp2_with fail
  refine (light_any _ js _ (HV.out.touch (((Touch.refl [] _).alloc _).alloc _))).mono ?_
  rintro e w0 ⟨b, rfl, hb, rfl⟩
  have HB := hid hb
  clear hb
  cases b
  · go_wp2_with (go_at_call 10; refine (C0.out _).mono ?_; rintro e w1 ⟨rfl, a1⟩)
    go_ret
    exact ⟨rfl, (((Touch.refl _ _).alloc _).alloc _).trans a1 (by simp)⟩
  · have h40 : js.length ≤ 40 := HB.out rfl
    go_wp2_with fail
    refine (C0.out _).mono ?_
    rintro e w1 ⟨rfl, a1⟩
    have T1 := hid ((((Touch.refl [] _).alloc _).alloc _).trans a1 (by simp))
    have hl := touch_other a1 B0.out (by simp)
    have ha := touch_other a1 B1.out (by simp)
    have hlt := lt_of_block hl
    have hlt2 := lt_of_block ha
    clear HB a1 B0 B1 C0
    go_wp2
    go_loopg [5] js.length (fun g t5 wr => TriesL w w.heap.size (w.heap.size + 1) (.slice x js.length c) a js.length g t5 wr)
    case atStart => exact ⟨0, w1.heap.size, Nat.zero_le _, rfl, rfl, heap_alloc_new _ _, heap_alloc_keep hl _, heap_alloc_keep ha _, by omega, by omega, by omega, T1.out.alloc _⟩
    case round =>
      obtain ⟨k, bi, hk, rfl, rfl, hi, hl2, ha2, n1, n2, n3, ht⟩ := hrel
      have n4 := lt_of_block hi
      obtain ⟨c0, c00⟩ := cell_one hi
      obtain ⟨c1, c11⟩ := cell_one hl2
      have HI := hid hi
      have HL := hid hl2
      have HA := hid ha2
      have HT := hid ht
      clear hi hl2 ha2 ht hl ha
      by_cases hlt3 : k < js.length
      · have D := hid (tries_try js (.slice x js.length c) k a w.heap.size bi wr.heap.size (w.heap.size + 1) (wr.alloc (oneInt 0)) (HV.out.touch (HT.out.alloc _)) hlt3 h40 (heap_alloc_keep HL.out _) (heap_alloc_keep HI.out _) (heap_alloc_new _ _) (heap_alloc_keep HA.out _) (by have := HT.out.size; have := lt_of_block HA.out; omega))
        have hkI : (k : Int) < js.length := by omega
        go_wp2_with fail
        refine D.out.mono ?_
        rintro e w2 ⟨xx, rfl, hx, t2⟩
        have hs2 : wr.heap.size < w2.heap.size := by have := t2.size; simp at this; omega
        have hi2 := touch_other t2 (heap_alloc_keep HI.out _) (by simp; omega)
        have hl2 := touch_other t2 (heap_alloc_keep HL.out _) (by simp; have := lt_of_block HL.out; omega)
        have ha2 := touch_other t2 (heap_alloc_keep HA.out _) (by simp; have := lt_of_block HA.out; omega)
        have T2 := hid ((HT.out.alloc (oneInt 0)).trans t2 (by simp; have := HT.out.size; omega))
        have Tl : Hid (∀ W wx, Touch [] w2 W → Touch [] W wx → Calls Try.prog 14 #[.slice x js.length c, .int .i64 k] wx fun e w' => e = .returned (toldAt js k).val ∧ Touch [] W w') := hid fun W wx hW h => (told_any _ js k wx (HV.out.touch ((T2.out.trans hW (by simp)).trans h (by simp)))).mono fun e w' ⟨he, h2⟩ => ⟨he, h.trans h2 (by simp)⟩
        obtain ⟨_, d0⟩ := cell_one hi2
        obtain ⟨_, d1⟩ := cell_one hl2
        obtain ⟨_, d2⟩ := cell_one ha2
        have HI2 := hid hi2
        have HL2 := hid hl2
        have HA2 := hid ha2
        clear c0 c00 c1 c11 D t2 hi2 hl2 ha2
        generalize toldAt js k = t at hx Tl ⊢
        have HX := hid hx
        clear hx
        have S : Hid (∀ wx, Touch [] (w2.alloc (.cells t.cells TFault)) wx → wx.cell? ⟨w2.heap.size, 0, none⟩ = some (.int .i64 t.err) ∧ wx.cell? ⟨w2.heap.size, 1, none⟩ = some (.int .i64 t.kind) ∧ wx.cell? ⟨w2.heap.size, 2, none⟩ = some (.string t.text) ∧
            wx.cell? ⟨bi, 0, none⟩ = some (.int .i64 k) ∧ wx.cell? ⟨w.heap.size, 0, none⟩ = some (.slice x js.length c)) := hid fun wx h => by
          have e8 := touch_other h (heap_alloc_new w2 (.cells t.cells TFault)) (by simp)
          exact ⟨cell_of e8 0, cell_of e8 1, cell_of e8 2, cell_of (touch_other h (heap_alloc_keep HI2.out _) (by simp)) 0, cell_of (touch_other h (heap_alloc_keep HL2.out _) (by simp)) 0⟩
        go_upto_region 9 with fail
        go_cut [36] (fun sv wx => TellsB xx a sv ∧ Touch [] (w2.alloc (.cells t.cells TFault)) wx)
        case first =>
          go_wp2_with fail
          refine (Tl.out (w2.alloc (.cells t.cells TFault)) _ ((Touch.refl _ _).alloc _) (Touch.refl _ _)).mono ?_
          rintro e w3 ⟨rfl, t3⟩
          have T3 := hid t3
          clear d0 d1 d2 t3
          rcases HX.out with ⟨e1, e2⟩ | ⟨hne, e2⟩
          · subst e1 e2
            go_wp2
            go_meet
            exact ⟨⟨false, rfl, by simp, by simp⟩, T3.out⟩
          · subst e2
            have q1 : (t.err == 0) = false := by simpa using hne
            go_wp2
            go_meet
            exact ⟨⟨true, rfl, by simp, by simp⟩, T3.out⟩
        rename_i wc hcut
        obtain ⟨⟨B, rfl, b1, b2⟩, t3⟩ := hcut
        have B1 := hid b1
        have B2 := hid b2
        have T3 := hid t3
        clear b1 b2 t3 d0 d1 d2
        go_upto_if 36 with fail
        go_cut [9] (fun sv wx => sv = .int .i64 xx ∧ Touch [] (w2.alloc (.cells t.cells TFault)) wx)
        case first =>
          cases B
          · go_wp2
            go_meet
            exact ⟨by rw [B2.out (by first | rfl | trivial)], T3.out⟩
          · go_wp2
            go_meet
            exact ⟨by rw [B1.out (by first | rfl | trivial)], T3.out⟩
        case rest =>
          obtain ⟨rfl, t4⟩ := hcut
          obtain ⟨s0, s1, s2, s3, s4⟩ := S.out wc t4
          have T5 := hid t4
          clear t4
          go_upto_region 11 with fail
          go_cut [46] (fun sv wx => sv = .bool false ∧ Touch [] (w2.alloc (.cells t.cells TFault)) wx)
          case first =>
            obtain ⟨ι, f, ⟨θ0, hθ0⟩, F0, F1, F2, F3, F4, FT, FC⟩ : ∃ (ι : Type) (f : ι → World), (∃ θ, f θ = wc.drew) ∧ (∀ θ, (f θ).cell? ⟨w2.heap.size, 0, none⟩ = some (.int .i64 t.err)) ∧ (∀ θ, (f θ).cell? ⟨w2.heap.size, 1, none⟩ = some (.int .i64 t.kind)) ∧
                (∀ θ, (f θ).cell? ⟨w2.heap.size, 2, none⟩ = some (.string t.text)) ∧ (∀ θ, (f θ).cell? ⟨bi, 0, none⟩ = some (.int .i64 k)) ∧ (∀ θ, (f θ).cell? ⟨w.heap.size, 0, none⟩ = some (.slice x js.length c)) ∧
                Hid (∀ θ, Touch [] (w2.alloc (.cells t.cells TFault)) (f θ)) ∧ Hid (∀ θ, Calls Try.prog 14 #[.slice x js.length c, .int .i64 k] (f θ) fun e w'' => e = .returned t.val ∧ ∃ θ', w'' = f θ') :=
              ⟨{wx // Touch [] (w2.alloc (.cells t.cells TFault)) wx}, Subtype.val, ⟨⟨_, T5.out.drew⟩, rfl⟩, fun θ => (S.out _ θ.2).1, fun θ => (S.out _ θ.2).2.1, fun θ => (S.out _ θ.2).2.2.1, fun θ => (S.out _ θ.2).2.2.2.1, fun θ => (S.out _ θ.2).2.2.2.2,
                hid fun θ => θ.2, hid fun θ => (Tl.out _ _ ((Touch.refl _ _).alloc _) θ.2).mono fun e w'' ⟨he, h2⟩ => ⟨he, ⟨⟨w'', h2⟩, rfl⟩⟩⟩
            have Hθ := hid hθ0
            have inst : Nonempty ι := ⟨θ0⟩
            clear hθ0
            refine wp_region_held f θ0 (by kernel_rfl) (by kernel_rfl) Hθ.out ?_
            repeat go_big_quiet_step (exact FC.out _)
            refine wpQuiet_nil ?_
            intro _ hw'
            obtain ⟨θ, hw''⟩ := hw'
            subst hw''
            have TT := hid (FT.out θ)
            go_wp2_with fail
            go_meet
            exact ⟨rfl, TT.out⟩
          case rest =>
            obtain ⟨rfl, t6⟩ := hcut
            obtain ⟨r0, r1, r2, r3, r4⟩ := S.out wc t6
            have r5 : ∀ o : Obj, (wc.alloc o).cell? ⟨bi, 0, none⟩ = some (.int .i64 k) := fun o => ((Touch.refl [] _).alloc o).cell r3
            have T6 := hid t6
            clear s0 s1 s2 s3 s4 t6
            have k0 : (0 : Int) ≤ k := by omega
            have k1 : (k : Int) ≤ 40 := by omega
            go_wp2
            go_roundg (js.length - (k + 1))
            case measure => omega
            case rel =>
              have z6 := T6.out.size
              have z7 := lt_of_block HA2.out
              simp only [size_alloc] at z6
              exact ⟨k + 1, wc.heap.size, by omega, rfl, rfl, heap_alloc_new _ _, heap_alloc_keep (touch_other T6.out (heap_alloc_keep HL2.out _) (by simp)) _, heap_alloc_keep (touch_other T6.out (heap_alloc_keep HA2.out _) (by simp)) _, by omega, by omega, by omega, ((T2.out.alloc _).trans T6.out (by simp)).alloc _⟩
      · obtain rfl : k = js.length := by omega
        clear c00 c11
        go_wp2_with fail
        refine (try_nil _).mono ?_
        rintro e w2 ⟨rfl, t2⟩
        clear c0 c1
        go_wp2
        go_ret
        exact ⟨rfl, (HT.out.trans t2 (by simp)).alloc _⟩

theorem walk_GuardTries (v : Value) (js : List JobD) (a : Int) (_ : (Lit.int .i64 a).wf = true) (w : World) (hv : Jobs w v js) :
    Calls Try.prog 4 #[v, .int .i64 a] w fun e w' => e = .returned (.bool true) ∧ Touch [] w w' := by
  have hv2 := hv
  obtain ⟨x, c, rfl, _⟩ := hv2
  exact gtries_full x js c a w hv
end Go.Proofs.Ytjakkjjohpkcjaa
