/- One job alone, of a list; the function that runs it. -/
import Derived.Test.YtjakkjjohpkcjaaGtells
import Derived.StillTailTactics
namespace Go.Proofs.Ytjakkjjohpkcjaa
open Go.RowKit Go.Lib

/-- 'l[i:i+1]'. -/
theorem slice_one (b off len c i : Nat) (hi : i < len) (hc : len ≤ c) (w : World) :
    (Instr.slice 22 (.slice (some ⟨b, off, none⟩) len c) (some (.int .i64 i)) (some (.int .i64 ((i : Int) + 1))) none).run Try.prog w = .ok (.slice (some ⟨b, off + i * 3, none⟩) 1 (c - i)) w := by
  rw [run_slice_lh (P := Try.prog) w 22 _ len c (by kernel_rfl) .i64 .i64 i (i + 1) (by omega) (by omega) (by omega)]
  have hz : (sizeOf (Try.prog.elem 22)).run Try.prog w = .ok 3 w := by kernel_rfl
  rw [hz]
  have h1 : ((i : Int) + 1).toNat = i + 1 := by omega
  have h2 : ¬ c = i := by omega
  simp [Result.andThen, sliced, h1, h2, Addr.add]
theorem jobs_one {W : World} {x : Option Addr} {js : List JobD} {c i : Nat} (h : Jobs W (.slice x js.length c) js) (hi : i < js.length) : ∃ b off, x = some ⟨b, off, none⟩ ∧ Jobs W (.slice (some ⟨b, off + i * 3, none⟩) 1 (c - i)) [js[i]] := by
  obtain ⟨x', c', e, h1, h2, h3⟩ := h
  cases e
  obtain ⟨b, off, rfl, hb, hj⟩ := h3 i hi
  refine ⟨b, off, rfl, some ⟨b, off + i * 3, none⟩, c - i, rfl, by simp; omega, by omega, fun k hk => ?_⟩
  simp at hk
  subst hk
  refine ⟨b, off + i * 3, rfl, hb, ?_⟩
  simpa [JobAt] using hj
theorem told_alone {js : List JobD} {i : Nat} (hi : i < js.length) : toldAt [js[i]] 0 = toldAt js i := by simp [toldAt, hi]
theorem incs_alone {js : List JobD} {i : Nat} (hi : i < js.length) : (toldAt js i = fine ∧ incsAt [js[i]] 0 = 1) ∨ (¬ (toldAt js i).err = 0 ∧ incsAt [js[i]] 0 = 0) := by
  rw [← told_alone hi]
  rcases told_incs [js[i]] 0 (by simp) with ⟨h1, h2⟩ | h
  · refine .inl ⟨h1, ?_⟩
    have := incsAt_le [js[i]] 0
    simp at this
    omega
  · exact .inr h

abbrev intsO (g n : Nat) : Obj := .cells #[.slice (some ⟨g, 0, none⟩) n n] 37 (0, 0)
theorem enters_first (x y z : Value) (w : World) : (callFunc 17 #[x, y, z]).run Try.prog w = .ok (.enter 17 #[x, y, z]) w := by simp [go_sem]

theorem first_one (js : List JobD) (x : Option Addr) (c i : Nat) (bl bi bh g : Nat) (cs : Array Value) (X : World) (hv : Jobs X (.slice x js.length c) js) (hi : i < js.length) (h40 : js.length ≤ 40) (hl : X.heap[bl]? = some (jobsO (.slice x js.length c))) (hbi : X.heap[bi]? = some (intO i))
    (hbh : X.heap[bh]? = some (intsO g js.length)) (hg : X.heap[g]? = some (.cells cs 3 (0, 0))) (hz : cs[i]? = some (.int .i64 0)) :
    Calls Try.prog 17 #[.pointer (some ⟨bl, 0, none⟩), .pointer (some ⟨bi, 0, none⟩), .pointer (some ⟨bh, 0, none⟩)] X (RunP g i cs 3 0 (incsAt [js[i]] 0) (toldAt js i) X) := by
  have hv2 := hv
  obtain ⟨b, off, rfl, hone⟩ := jobs_one hv2 hi
  obtain ⟨_, _, e, hc, _, _⟩ := hv
  cases e
  have hs := slice_one b off js.length c i hi hc
  have D := hid (fun (w' : World) (t : Touch [] X w') => run_all [js[i]] 1 w' _ 0 g i cs 3 0 (hone.touch t) rfl (by omega) (by omega) (by omega) (touch_other t hg (by simp)) hz)
  have c0 := cell_of hl 0
  have c1 := cell_of hbi 0
  have c2 := cell_of hbh 0
  have i0 : (0 : Int) ≤ i := by omega
  have i1 : (i : Int) < 40 := by omega
  have i2 : (i : Int) < js.length := by omega
  have i3 : decide (i < js.length) = true := by simpa using hi
  have hw1 : IntKind.i64.wrap ((i : Int) + 1) = (i : Int) + 1 := IntWalk.i64_in _ (by omega)
  clear hone hl hbi hbh hg hz
  go_enter Try.func17, Try.ntmps17
  go_wp2_with fail
  go_still_tail 8, (by kernel_rfl)
  change wpList _ _ _ _ _ X.drew
  go_wp2_with fail
  refine (D.out _ (Touch.refl [] X).drew).mono ?_
  rintro e w1 ⟨q1, q2, h⟩
  rw [told_alone hi] at h
  have t : Touch [g] X w1 := ((Touch.refl [g] X).drew).trans q2 (by simp)
  rcases h with ⟨u, rfl, hf⟩ | ⟨u, rfl, ht⟩
  · have Q1 := hid q1
    have Q2 := hid t
    have HF := hid hf
    clear q1 q2 t hf D c0 c1 c2 hw1 hs
    go_wp2
    go_end0
    exact ⟨Q1.out, Q2.out, .inl ⟨_, rfl, HF.out⟩⟩
  · exact ⟨rfl, q1, t, .inr ⟨_, rfl, ht⟩⟩

/-- n numbers of which the first k are ones. -/
def cnt (n k : Nat) : Array Value := ((List.range n).map fun i => Value.int .i64 (if i < k then 1 else 0)).toArray
theorem cnt_at {n k i : Nat} (h : i < n) : (cnt n k)[i]? = some (.int .i64 (if i < k then 1 else 0)) := by simp [cnt, h]
theorem cnt_set {n k : Nat} (h : k < n) : (cnt n k).setIfInBounds k (.int .i64 ((1 : Nat) : Int)) = cnt n (k + 1) := by
  apply Array.ext_getElem?
  intro i
  rw [Array.getElem?_setIfInBounds]
  by_cases hi : i < n
  · rw [cnt_at hi, cnt_at hi]
    by_cases e : k = i
    · subst e
      simp [cnt, h]
    · rw [if_neg e]
      have : (i < k) ↔ (i < k + 1) := by omega
      simp [this]
  · have e : ¬ k = i := by omega
    rw [if_neg e]
    simp [cnt, hi]
theorem cnt_same {n k : Nat} (h : k < n) : (cnt n k).setIfInBounds k (.int .i64 ((0 : Nat) : Int)) = cnt n k := by
  refine set_same ?_
  rw [cnt_at h]
  simp

/-- The first job that fails. -/
structure IsW (js : List JobD) (W : Nat) : Prop where
  le : W ≤ js.length
  fine : ∀ i, i < W → toldAt js i = fine
  bad : W < js.length → ¬ (toldAt js W).err = 0
theorem told_past {js : List JobD} {i : Nat} (h : js.length ≤ i) : toldAt js i = fine := by unfold toldAt; rw [dif_neg (by omega)]
theorem isW (js : List JobD) : ∃ W, IsW js W := by
  have key : ∀ d k : Nat, js.length - k = d → k ≤ js.length → (∀ i, i < k → toldAt js i = fine) → ∃ W, IsW js W := by
    intro d
    induction d with
    | zero => exact fun k hd hk h => ⟨k, hk, h, fun hlt => by omega⟩
    | succ d ih =>
      intro k hd hk h
      rcases incs_alone (js := js) (i := k) (by omega) with ⟨h1, _⟩ | ⟨h1, _⟩
      · refine ih (k + 1) (by omega) (by omega) (fun i hi => ?_)
        by_cases e : i = k
        · rw [e]; exact h1
        · exact h i (by omega)
      · exact ⟨k, hk, h, fun _ => h1⟩
  exact key _ 0 rfl (Nat.zero_le _) (fun i hi => by omega)
end Go.Proofs.Ytjakkjjohpkcjaa
