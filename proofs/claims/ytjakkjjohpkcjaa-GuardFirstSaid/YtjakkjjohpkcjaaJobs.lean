/- A list of jobs that came in; light; told. -/
import Derived.Test.YtjakkjjohpkcjaaGalive
import Derived.Deep.Slices
import Derived.Deep.LoopGhost
import Derived.OpenShut
namespace Go.Proofs.Ytjakkjjohpkcjaa
open Go.RowKit Go.Lib Go.ChangeShapes Go.WideShapes

structure JobD where
  kind : Int
  n : Int
  s : ByteArray
instance : Inhabited JobD := ⟨⟨0, 0, ⟨#[]⟩⟩⟩

def JobAt (W : World) (b off i : Nat) (j : JobD) : Prop :=
  W.cell? ⟨b, off + i * 3, none⟩ = some (.int .i64 j.kind) ∧ W.cell? ⟨b, off + i * 3 + 1, none⟩ = some (.int .i64 j.n) ∧ W.cell? ⟨b, off + i * 3 + 2, none⟩ = some (.string j.s) ∧
    -9223372036854775808 ≤ j.n ∧ j.n ≤ 9223372036854775807 ∧ j.s.size ≤ 9223372036854775807
theorem JobAt.touch {W W' : World} {b off i : Nat} {j : JobD} (h : JobAt W b off i j) (t : Touch [] W W') : JobAt W' b off i j := ⟨t.cell h.1, t.cell h.2.1, t.cell h.2.2.1, h.2.2.2⟩

/-- The slice value v is the list js of jobs. -/
def Jobs (W : World) (v : Value) (js : List JobD) : Prop :=
  ∃ (x : Option Addr) (c : Nat), v = .slice x js.length c ∧ js.length ≤ c ∧ c ≤ 9223372036854775807 ∧ ∀ i (h : i < js.length), ∃ b off, x = some ⟨b, off, none⟩ ∧ b < W.heap.size ∧ JobAt W b off i js[i]

theorem cellsJob : Try.prog.cellsOf 49 = 3 := by kernel_rfl
theorem trod_three {H : Type} {enc : TypeId × Value → H} {P : Program} {w : World} {base : Nat} {spare : Nat → Bool} {held : Bool} {t : TypeId} {f0 f1 f2 : Field} {fuel : Nat} {cs : List Value} {x : DataW H × List MemPlace}
    (ht : P.underlying t = some (.struct #[f0, f1, f2])) (h : DataW.trod enc P w base spare held fuel t cs = some x) :
    ∃ y0 y1 y2 n, cs.length = P.cellsOf t ∧ DataW.trod enc P w base spare held n f0.type ((cs.drop f0.offset).take (P.cellsOf f0.type)) = some y0 ∧ DataW.trod enc P w base spare held n f1.type ((cs.drop f1.offset).take (P.cellsOf f1.type)) = some y1 ∧
      DataW.trod enc P w base spare held n f2.type ((cs.drop f2.offset).take (P.cellsOf f2.type)) = some y2 := by
  obtain ⟨xs, n, _, _, hl, hlen, hf⟩ := DataW.trod_struct ht h
  match xs, hlen with
  | [y0, y1, y2], _ => exact ⟨y0, y1, y2, n, hl, by simpa using hf 0 f0 rfl, by simpa using hf 1 f1 rfl, by simpa using hf 2 f2 rfl⟩

theorem job_at {H : Type} {enc : TypeId × Value → H} {W : World} {b off i n : Nat} {cs : List Value} {x : DataW H × List MemPlace} (hc : W.cells? 0 ⟨b, off + i * 3, none⟩ 3 = some cs)
    (h : DataW.trod enc Try.prog W 0 (fun _ => true) true n 49 cs = some x) : ∃ o : JobD, JobAt W b off i o := by
  obtain ⟨y0, y1, y2, n', hl, g0, g1, g2⟩ := trod_three Try.underlying49 h
  obtain ⟨z0, e0, _, w0⟩ := DataW.trod_int (t := 3) Try.underlying3 g0
  obtain ⟨z1, e1, _, w1⟩ := DataW.trod_int (t := 3) Try.underlying3 g1
  obtain ⟨z2, e2, _, w2⟩ := DataW.trod_string (t := 9) Try.underlying9 g2
  obtain ⟨_, hlen, hcell⟩ := World.cells?_some hc
  clear g0 g1 g2 hl h hc
  match cs, hlen with
  | [a0, a1, a2], _ =>
    have e0 : [a0] = [Value.int .i64 z0] := e0
    have e1 : [a1] = [Value.int .i64 z1] := e1
    have e2 : [a2] = [Value.string z2] := e2
    obtain rfl : a0 = _ := List.head_eq_of_cons_eq e0
    obtain rfl : a1 = _ := List.head_eq_of_cons_eq e1
    obtain rfl : a2 = _ := List.head_eq_of_cons_eq e2
    have q0 := hcell 0 (by omega); have q1 := hcell 1 (by omega); have q2 := hcell 2 (by omega)
    clear hcell e0 e1 e2
    obtain ⟨b2, b3⟩ := bounds_i64 w1
    refine ⟨⟨z0, z1, z2⟩, q0, q1, q2, ?_, ?_, ?_⟩
    all_goals (simp only []; first | omega | exact w2)

theorem jobs_of {H : Type} {enc : TypeId × Value → H} {W : World} {a0 : Option Addr} {len0 cap0 fuel : Nat} {x : DataW H × List MemPlace} {cs : List Value} (hv : cs = [.slice a0 len0 cap0])
    (hf : DataW.trod enc Try.prog W 0 (fun _ => true) true fuel 22 cs = some x) : ∃ js, Jobs W (.slice a0 len0 cap0) js := by
  have hml : maxLen = 9223372036854775807 := rfl
  rcases Deep.open_slice Try.underlying22 hf with ⟨hcs, _⟩ | ⟨a, len, cap, m, n, D, Pl, hcs, _, hl, hm, hmm, _, hx⟩
  · rw [hv] at hcs
    simp at hcs
    obtain ⟨rfl, rfl, rfl⟩ := hcs
    exact ⟨[], none, 0, rfl, by simp, by omega, fun i hi => absurd hi (Nat.not_lt_zero i)⟩
  · rw [hv] at hcs
    simp at hcs
    obtain ⟨rfl, rfl, rfl⟩ := hcs
    by_cases h0 : len0 = 0
    · subst h0
      exact ⟨[], some a, cap0, rfl, by simp, by omega, fun i hi => absurd hi (Nat.not_lt_zero i)⟩
    · rw [cellsJob] at hx
      obtain ⟨b, off, spot⟩ := a
      have hspot : spot = none ∧ b < W.heap.size := by
        obtain ⟨cs', h1, h2⟩ := hx 0 (by simp at hmm; omega)
        have hc := (World.cells?_some h1).2.2 0 (by omega)
        have hl4 := (World.cells?_some h1).2.1
        rw [List.getElem?_eq_getElem (by omega)] at hc
        have hb := World.block_lt_of_cell? W _ hc
        exact ⟨by simpa [Addr.add] using World.cell?_spot hc, by unfold Addr.add at hb; split at hb <;> simp_all⟩
      obtain ⟨hs, hb⟩ := hspot
      subst hs
      have key : ∀ i, i < len0 → ∃ o : JobD, JobAt W b off i o := fun i hi => by
        obtain ⟨cs', h1, h2⟩ := hx i (by simp at hmm; omega)
        rw [show (⟨b, off, none⟩ : Addr).add (i * 3) = ⟨b, off + i * 3, none⟩ from by unfold Addr.add; split <;> simp_all] at h1
        exact job_at h1 h2
      obtain ⟨f, hf⟩ := Deep.choose_lt (p := fun i o => JobAt W b off i o) (fun i hi => key i hi)
      refine ⟨(List.range len0).map f, some ⟨b, off, none⟩, cap0, by simp, by simpa using hl, by omega, fun i hi => ⟨b, off, rfl, hb, ?_⟩⟩
      have := hf i (by simpa using hi)
      simpa using this

/-- The fault of a job. -/
def toldF (j : JobD) : FltD :=
  if j.kind = 2 then (if j.n = 0 then fine else ⟨j.n, 2, none8⟩) else if j.kind = 3 then ⟨21, 3, j.s⟩ else if j.kind = 4 ∨ j.kind = 5 ∨ j.kind = 6 ∨ j.kind = 7 then ⟨21, 1, none8⟩ else fine
/-- The fault of the job at a place. -/
def toldAt (js : List JobD) (i : Nat) : FltD := if h : i < js.length then toldF js[i] else fine

def LightR (js : List JobD) (w : World) (e : Ending) (w' : World) : Prop := ∃ b : Bool, e = .returned (.bool b) ∧ (b = true → js.length ≤ 40) ∧ w = w'

set_option maxRecDepth 100000 in
theorem light_any (v : Value) (js : List JobD) (w : World) (h : Jobs w v js) : Calls Try.prog 9 #[v] w (LightR js w) := by
  obtain ⟨x, c, rfl, hc, hm, hel⟩ := h
  have Hel := hid hel
  have Hm := hid hm
  clear hel hm
  have hb : js.length ≤ 9223372036854775807 := by have := Hm.out; omega
  go_enter Try.func9, Try.ntmps9
  go_wp2
  go_loopg [3] 100 (fun g kv wr => ∃ k : Nat, k ≤ js.length ∧ k ≤ 100 ∧ g = 100 - k ∧ kv = .int .i64 k ∧ w = wr)
  case atStart => exact ⟨0, Nat.zero_le _, by omega, rfl, rfl, rfl⟩
  case round =>
    obtain ⟨k, hk, hk2, rfl, rfl, rfl⟩ := hrel
    by_cases hlt : k < js.length
    · by_cases h2 : (k : Int) < 100
      · obtain ⟨b, off, rfl, _, _, _, hs, _⟩ := Hel.out k hlt
        have hl2 : decide (k < js.length) = true := by simpa using hlt
        generalize js[k].s = S at *
        go_wp2
        · go_ret
          exact ⟨false, rfl, by simp, rfl⟩
        · go_roundg (100 - (k + 1))
          case measure => omega
          case rel => exact ⟨k + 1, by omega, by omega, rfl, by go_num, rfl⟩
      · have hl2 : decide (k < js.length) = true := by simpa using hlt
        go_wp2
        go_ret
        exact ⟨_, rfl, fun h => by simp at h; omega, rfl⟩
    · have hl2 : decide (k < js.length) = false := by simpa using hlt
      go_wp2
      go_ret
      exact ⟨_, rfl, fun h => by simp at h; omega, rfl⟩

theorem told_end (v : Value) (js : List JobD) (i : Nat) (w : World) (h : Jobs w v js) (hi : js.length ≤ i) : Calls Try.prog 14 #[v, .int .i64 i] w fun e w' => e = .returned fine.val ∧ Touch [] w w' := by
  obtain ⟨x, c, rfl, hc, hm, _⟩ := h
  have h2 : decide (js.length ≤ i) = true := by simpa using hi
  go_enter Try.func14, Try.ntmps14
  go_wp2
  refine bodyPost_ret (v := FltD.val _) (by simp [results, Try.results14, go_sem]) rfl ⟨rfl, ?_⟩
  repeat (first | exact Touch.refl _ _ | refine Touch.alloc ?_ _ | refine Touch.setCell ?_ (.inr (by simp)) _)

set_option maxHeartbeats 1000000 in
theorem told_one (b off len c i : Nat) (j : JobD) (w : World) (hi : i < len) (hj : JobAt w b off i j) : Calls Try.prog 14 #[.slice (some ⟨b, off, none⟩) len c, .int .i64 i] w fun e w' => e = .returned (toldF j).val ∧ Touch [] w w' := by
  obtain ⟨kind, n, s⟩ := j
  obtain ⟨h0, h1, h2, _⟩ := hj
  simp only at h0 h1 h2
  have h3 : decide (len ≤ i) = false := by simp; omega
  have a0 : ∀ o, (w.alloc o).cell? ⟨b, off + i * 3, none⟩ = some (.int .i64 kind) := fun o => ((Touch.refl [] w).alloc o).cell h0
  have a1 : ∀ o, (w.alloc o).cell? ⟨b, off + i * 3 + 1, none⟩ = some (.int .i64 n) := fun o => ((Touch.refl [] w).alloc o).cell h1
  have a2 : ∀ o, (w.alloc o).cell? ⟨b, off + i * 3 + 2, none⟩ = some (.string s) := fun o => ((Touch.refl [] w).alloc o).cell h2
  clear h0 h1 h2
  have hcase : kind = 2 ∨ kind = 3 ∨ kind = 4 ∨ kind = 5 ∨ kind = 6 ∨ kind = 7 ∨ (¬ kind = 2 ∧ ¬ kind = 3 ∧ ¬ kind = 4 ∧ ¬ kind = 5 ∧ ¬ kind = 6 ∧ ¬ kind = 7) := by omega
  rcases hcase with rfl | rfl | rfl | rfl | rfl | rfl | ⟨k2, k3, k4, k5, k6, k7⟩
  · by_cases hn : n = 0
    · subst hn
      have e : toldF ⟨2, 0, s⟩ = fine := by simp [toldF]
      rw [e]
      clear e
      go_enter Try.func14, Try.ntmps14
      go_wp2
      refine bodyPost_ret (v := FltD.val _) (by simp [results, Try.results14, go_sem]) rfl ⟨rfl, ?_⟩
      repeat (first | exact Touch.refl _ _ | refine Touch.alloc ?_ _ | refine Touch.setCell ?_ (.inr (by simp)) _)
    · have e : toldF ⟨2, n, s⟩ = ⟨n, 2, none8⟩ := by simp [toldF, hn]
      rw [e]
      clear e
      go_enter Try.func14, Try.ntmps14
      go_wp2
      refine bodyPost_ret (v := FltD.val _) (by simp [results, Try.results14, go_sem]) rfl ⟨rfl, ?_⟩
      repeat (first | exact Touch.refl _ _ | refine Touch.alloc ?_ _ | refine Touch.setCell ?_ (.inr (by simp)) _)
  · have e : toldF ⟨3, n, s⟩ = ⟨21, 3, s⟩ := by simp [toldF]
    rw [e]
    clear e
    go_enter Try.func14, Try.ntmps14
    go_wp2
    refine bodyPost_ret (v := FltD.val _) (by simp [results, Try.results14, go_sem]) rfl ⟨rfl, ?_⟩
    repeat (first | exact Touch.refl _ _ | refine Touch.alloc ?_ _ | refine Touch.setCell ?_ (.inr (by simp)) _)
  · have e : toldF ⟨4, n, s⟩ = ⟨21, 1, none8⟩ := by simp [toldF]
    rw [e]
    clear e
    go_enter Try.func14, Try.ntmps14
    go_wp2
    refine bodyPost_ret (v := FltD.val _) (by simp [results, Try.results14, go_sem]) rfl ⟨rfl, ?_⟩
    repeat (first | exact Touch.refl _ _ | refine Touch.alloc ?_ _ | refine Touch.setCell ?_ (.inr (by simp)) _)
  · have e : toldF ⟨5, n, s⟩ = ⟨21, 1, none8⟩ := by simp [toldF]
    rw [e]
    clear e
    go_enter Try.func14, Try.ntmps14
    go_wp2
    refine bodyPost_ret (v := FltD.val _) (by simp [results, Try.results14, go_sem]) rfl ⟨rfl, ?_⟩
    repeat (first | exact Touch.refl _ _ | refine Touch.alloc ?_ _ | refine Touch.setCell ?_ (.inr (by simp)) _)
  · have e : toldF ⟨6, n, s⟩ = ⟨21, 1, none8⟩ := by simp [toldF]
    rw [e]
    clear e
    go_enter Try.func14, Try.ntmps14
    go_wp2
    refine bodyPost_ret (v := FltD.val _) (by simp [results, Try.results14, go_sem]) rfl ⟨rfl, ?_⟩
    repeat (first | exact Touch.refl _ _ | refine Touch.alloc ?_ _ | refine Touch.setCell ?_ (.inr (by simp)) _)
  · have e : toldF ⟨7, n, s⟩ = ⟨21, 1, none8⟩ := by simp [toldF]
    rw [e]
    clear e
    go_enter Try.func14, Try.ntmps14
    go_wp2
    refine bodyPost_ret (v := FltD.val _) (by simp [results, Try.results14, go_sem]) rfl ⟨rfl, ?_⟩
    repeat (first | exact Touch.refl _ _ | refine Touch.alloc ?_ _ | refine Touch.setCell ?_ (.inr (by simp)) _)
  · have e : toldF ⟨kind, n, s⟩ = fine := by simp [toldF, *]
    rw [e]
    clear e
    go_enter Try.func14, Try.ntmps14
    go_wp2
    refine bodyPost_ret (v := FltD.val _) (by simp [results, Try.results14, go_sem]) rfl ⟨rfl, ?_⟩
    repeat (first | exact Touch.refl _ _ | refine Touch.alloc ?_ _ | refine Touch.setCell ?_ (.inr (by simp)) _)

theorem told_any (v : Value) (js : List JobD) (i : Nat) (w : World) (h : Jobs w v js) : Calls Try.prog 14 #[v, .int .i64 i] w fun e w' => e = .returned (toldAt js i).val ∧ Touch [] w w' := by
  by_cases hi : i < js.length
  · obtain ⟨x, c, rfl, _, _, hel⟩ := h
    obtain ⟨b, off, rfl, _, hj⟩ := hel i hi
    have e : toldAt js i = toldF js[i] := by simp [toldAt, hi]
    rw [e]
    exact told_one b off _ c i _ w hi hj
  · have e : toldAt js i = fine := by simp [toldAt, hi]
    rw [e]
    exact told_end v js i w h (by omega)
end Go.Proofs.Ytjakkjjohpkcjaa
