/- The walk of GuardAgain. -/
import Derived.Test.YtjakkjjohpkcjaaGtry
import Derived.Deep.Grids
import Derived.Deep.LoopGhost
import Derived.OpenShut
namespace Go.Proofs.Ytjakkjjohpkcjaa
open Go.RowKit Go.Lib Go.ChangeShapes Go.WideShapes

/-- The slice value v is the list l of bools. -/
def Bools (W : World) (v : Value) (l : List Bool) : Prop :=
  ∃ (x : Option Addr) (c : Nat), v = .slice x l.length c ∧ l.length ≤ 9223372036854775807 ∧ ∀ i (h : i < l.length), ∃ b off, x = some ⟨b, off, none⟩ ∧ W.cell? ⟨b, off + i, none⟩ = some (.bool l[i])

theorem cellsBoolL : Try.prog.cellsOf 4 = 1 := by kernel_rfl
theorem spot_none' {w : World} {a : Addr} {i : Nat} {v v0 : Value} (h0 : w.cell? (a.add 0) = some v0) (h : w.cell? (a.add i) = some v) : ∃ b off, a = ⟨b, off, none⟩ ∧ w.cell? ⟨b, off + i, none⟩ = some v := by
  obtain ⟨b, off, spot⟩ := a
  have hs : spot = none := by simpa [Addr.add] using World.cell?_spot h0
  subst hs
  exact ⟨b, off, rfl, by rw [show (⟨b, off, none⟩ : Addr).add i = ⟨b, off + i, none⟩ from by unfold Addr.add; split <;> simp_all] at h; exact h⟩
theorem bools_of {H : Type} {enc : TypeId × Value → H} {W : World} {a0 : Option Addr} {len0 cap0 fuel : Nat} {x : DataW H × List MemPlace} {cs : List Value} (hv : cs = [.slice a0 len0 cap0])
    (hf : DataW.trod enc Try.prog W 0 (fun _ => true) true fuel 46 cs = some x) : ∃ l, Bools W (.slice a0 len0 cap0) l := by
  rcases Deep.open_bools Try.underlying46 Try.underlying4 cellsBoolL hf with ⟨hcs, _⟩ | ⟨a, len, cap, B, hcs, _, hl, hm, _, hc⟩
  · rw [hv] at hcs
    simp at hcs
    obtain ⟨rfl, rfl, rfl⟩ := hcs
    exact ⟨[], none, 0, rfl, by simp, fun i hi => absurd hi (Nat.not_lt_zero i)⟩
  · rw [hv] at hcs
    simp at hcs
    obtain ⟨rfl, rfl, rfl⟩ := hcs
    refine ⟨(List.range len0).map B, some a, cap0, by simp, by simp; unfold maxLen at hm; omega, fun i hi => ?_⟩
    simp at hi
    obtain ⟨b, off, rfl, h2⟩ := spot_none' (hc 0 (by omega)) (hc i (by omega))
    exact ⟨b, off, rfl, by rw [h2]; simp⟩

theorem enters_again (x y z : Value) (w : World) : (callFunc 24 #[x, y, z]).run Try.prog w = .ok (.enter 24 #[x, y, z]) w := by simp [go_sem]
abbrev oneBools (v : Value) : Obj := .cells #[v] 46 (0, 0)

theorem again_yes (bn bl bi b off len c k : Nat) (X : World) (hk : k < len) (hk60 : (k : Int) < 60) (hn : X.heap[bn]? = some (oneInt k)) (hl : X.heap[bl]? = some (oneBools (.slice (some ⟨b, off, none⟩) len c))) (hi : X.heap[bi]? = some (oneInt k))
    (hx : X.cell? ⟨b, off + k, none⟩ = some (.bool true)) (h1 : bl ≠ bn) (h2 : bi ≠ bn) (h3 : b ≠ bn) :
    Calls Try.prog 24 #[.pointer (some ⟨bn, 0, none⟩), .pointer (some ⟨bl, 0, none⟩), .pointer (some ⟨bi, 0, none⟩)] X fun e w' => e = .panicked [{ v := .iface TErrno (.int .i64 22), recovered := false }] ∧ w' = X.setCell ⟨bn, 0, none⟩ (.int .i64 (k + 1)) := by
  have c0 := cell_of hn 0
  have f0 := free_of hn 0
  have c1 : ∀ v, (X.setCell ⟨bn, 0, none⟩ v).cell? ⟨bl, 0, none⟩ = some (.slice (some ⟨b, off, none⟩) len c) := fun v => by rw [World.cell?_of_block (w := X) (heap_set_other _ h1)]; exact cell_of hl 0
  have c2 : ∀ v, (X.setCell ⟨bn, 0, none⟩ v).cell? ⟨bi, 0, none⟩ = some (.int .i64 k) := fun v => by rw [World.cell?_of_block (w := X) (heap_set_other _ h2)]; exact cell_of hi 0
  have c3 : ∀ v, (X.setCell ⟨bn, 0, none⟩ v).cell? ⟨b, off + k, none⟩ = some (.bool true) := fun v => by rw [World.cell?_of_block (w := X) (heap_set_other _ h3)]; exact hx
  have M := hid (must_panics 22 (by decide))
  clear hn hl hi hx
  go_enter Try.func24, Try.ntmps24
  go_wp2_with (go_at_call 20; refine (M.out _).mono ?_; rintro e w1 ⟨rfl, rfl⟩)
  exact ⟨rfl, rfl, rfl⟩
theorem again_no (bn bl bi b off len c k : Nat) (X : World) (hk : k < len) (hk60 : (k : Int) < 60) (hn : X.heap[bn]? = some (oneInt k)) (hl : X.heap[bl]? = some (oneBools (.slice (some ⟨b, off, none⟩) len c))) (hi : X.heap[bi]? = some (oneInt k))
    (hx : X.cell? ⟨b, off + k, none⟩ = some (.bool false)) (h1 : bl ≠ bn) (h2 : bi ≠ bn) (h3 : b ≠ bn) :
    Calls Try.prog 24 #[.pointer (some ⟨bn, 0, none⟩), .pointer (some ⟨bl, 0, none⟩), .pointer (some ⟨bi, 0, none⟩)] X fun e w' => e = .returned (.int .i64 (k + 1)) ∧ w' = X.setCell ⟨bn, 0, none⟩ (.int .i64 (k + 1)) := by
  have c0 := cell_of hn 0
  have f0 := free_of hn 0
  have c1 : ∀ v, (X.setCell ⟨bn, 0, none⟩ v).cell? ⟨bl, 0, none⟩ = some (.slice (some ⟨b, off, none⟩) len c) := fun v => by rw [World.cell?_of_block (w := X) (heap_set_other _ h1)]; exact cell_of hl 0
  have c2 : ∀ v, (X.setCell ⟨bn, 0, none⟩ v).cell? ⟨bi, 0, none⟩ = some (.int .i64 k) := fun v => by rw [World.cell?_of_block (w := X) (heap_set_other _ h2)]; exact cell_of hi 0
  have c3 : ∀ v, (X.setCell ⟨bn, 0, none⟩ v).cell? ⟨b, off + k, none⟩ = some (.bool false) := fun v => by rw [World.cell?_of_block (w := X) (heap_set_other _ h3)]; exact hx
  have c4 : ∀ v, (X.setCell ⟨bn, 0, none⟩ v).cell? ⟨bn, 0, none⟩ = some v := fun v => cell_of (heap_set hn v) 0
  clear hn hl hi hx
  go_enter Try.func24, Try.ntmps24
  go_wp2
  go_ret
  exact ⟨rfl, rfl⟩

/-- What the k-th round's function comes to. -/
def AgainR (b : Bool) (bn k : Nat) (n : Int) (f : FltD) (w1 : World) : Prop := n = (if b then 0 else (k : Int) + 1) ∧ f = (if b then ⟨22, 2, none8⟩ else fine) ∧ w1.heap[bn]? = some (oneInt (k + 1))
theorem again_try (x : Bool) (bn bl bi b off len c k : Nat) (w : World) (hk : k < len) (hk60 : (k : Int) < 60) (hn : w.heap[bn]? = some (oneInt k)) (hl : w.heap[bl]? = some (oneBools (.slice (some ⟨b, off, none⟩) len c))) (hi : w.heap[bi]? = some (oneInt k))
    (hx : w.cell? ⟨b, off + k, none⟩ = some (.bool x)) (h1 : bl ≠ bn) (h2 : bi ≠ bn) (h3 : b ≠ bn) :
    Calls Try.prog 15 #[.func (.func 24) #[] #[.pointer (some ⟨bn, 0, none⟩), .pointer (some ⟨bl, 0, none⟩), .pointer (some ⟨bi, 0, none⟩)]] w fun e w' =>
      e = .returned (.tuple #[.int .i64 (if x then 0 else (k : Int) + 1), FltD.val (if x then ⟨22, 2, none8⟩ else fine)]) ∧ w'.heap[bn]? = some (oneInt (k + 1)) ∧ Touch [bn] w w' := by
  have hlt := lt_of_block hn
  have T := tryW_touch 24 #[.pointer (some ⟨bn, 0, none⟩), .pointer (some ⟨bl, 0, none⟩), .pointer (some ⟨bi, 0, none⟩)] w
  refine (try_any _ _ (AgainR x bn k) [bn] w (by simpa using hlt) (enters_again _ _ _) ?_).mono ?_
  · have n2 := touch_other T hn (by simp)
    cases x
    · refine (again_no bn bl bi b off len c k _ hk hk60 n2 (touch_other T hl (by simp)) (touch_other T hi (by simp)) (T.cell hx) h1 h2 h3).mono ?_
      rintro e w1 ⟨rfl, rfl⟩
      exact ⟨(Touch.refl _ _).setCell (.inl (by simp)) _, .inl ⟨_, rfl, rfl, rfl, heap_set n2 _⟩⟩
    · refine (again_yes bn bl bi b off len c k _ hk hk60 n2 (touch_other T hl (by simp)) (touch_other T hi (by simp)) (T.cell hx) h1 h2 h3).mono ?_
      rintro e w1 ⟨rfl, rfl⟩
      exact ⟨(Touch.refl _ _).setCell (.inl (by simp)) _, .inr ⟨_, _, rfl, tells_errno (by decide), rfl, rfl, heap_set n2 _⟩⟩
  · rintro e w' ⟨n, f, w1, G, rfl, t0, ⟨rfl, rfl, hn1⟩, hG, t1⟩
    exact ⟨rfl, touch_other t1 hn1 (fun hx => by have := hG _ hx; omega), ((T.mono (by simp)).trans t0 (by simp)).trans t1 (fun x hx => .inr (hG x hx))⟩

theorem gagain_long (x : Option Addr) (len c : Nat) (w : World) (h : (60 : Int) < len) :
    Calls Try.prog 8 #[.slice x len c] w fun e w' => e = .returned (.bool true) ∧ Touch [] w w' := by
  have C0 := hid alive_true
  go_enter Try.func8, Try.ntmps8
  go_wp2_with (go_at_call 10; refine (C0.out _).mono ?_; rintro e w1 ⟨rfl, a1⟩)
  go_ret
  exact ⟨rfl, ((Touch.refl _ _).alloc _).trans a1 (by simp)⟩

theorem one_cast (k : Nat) : oneInt ((k + 1 : Nat) : Int) = oneInt ((k : Int) + 1) := rfl
/-- The law's loop: behind k rounds. -/
def AgainL (w : World) (bl bn : Nat) (v : Value) (len : Nat) (g : Nat) (t4 : Value) (wr : World) : Prop := ∃ k bi : Nat, k ≤ len ∧ g = len - k ∧ t4 = .pointer (some ⟨bi, 0, none⟩) ∧ wr.heap[bi]? = some (oneInt k) ∧
  wr.heap[bn]? = some (oneInt k) ∧ wr.heap[bl]? = some (oneBools v) ∧ bi ≠ bn ∧ bi ≠ bl ∧ w.heap.size ≤ bi ∧ Touch [] w wr

set_option maxRecDepth 100000 in
set_option maxHeartbeats 2000000 in
theorem gagain_full (v : Value) (l : List Bool) (w : World) (hl : Bools w v l) (h : (l.length : Int) ≤ 60) :
    Calls Try.prog 8 #[v] w fun e w' => e = .returned (.bool true) ∧ Touch [] w w' := by
  obtain ⟨x, c, rfl, hm, hel⟩ := hl
  have HEL := hid hel
  clear hel
  have C0 := hid alive_true
  have HL : Hid ((w.alloc (oneBools (.slice x l.length c))).heap[w.heap.size]? = some (oneBools (.slice x l.length c))) := hid (heap_alloc_new w _)
  have hmf := make_func
  go_enter Try.func8, Try.ntmps8
  go_wp2_with fail
  refine (C0.out _).mono ?_
  rintro e w1 ⟨rfl, a1⟩
  have hl := touch_other a1 HL.out (by simp)
  have T1 := hid (((Touch.refl [] w).alloc (oneBools (.slice x l.length c))).trans a1 (by simp))
  have hlt := lt_of_block hl
  clear HL a1 C0
  go_wp2
  go_loopg [4] l.length (fun g t4 wr => AgainL w w.heap.size w1.heap.size (.slice x l.length c) l.length g t4 wr)
  case atStart =>
    refine ⟨0, w1.heap.size + 1, Nat.zero_le _, by simp, by simp, ?_, ?_, ?_, by omega, by omega, by omega, (T1.out.alloc _).alloc _⟩
    · simpa using heap_alloc_new (w1.alloc (oneInt 0)) (oneInt 0)
    · exact heap_alloc_keep (heap_alloc_new w1 _) _
    · exact heap_alloc_keep (heap_alloc_keep hl _) _
  case round =>
    obtain ⟨k, bi, hk, rfl, rfl, hi, hn, hl2, n1, n2, n3, ht⟩ := hrel
    have n4 := lt_of_block hi
    have n5 := lt_of_block hn
    obtain ⟨c0, _⟩ := cell_one hi
    obtain ⟨c1, _⟩ := cell_one hn
    obtain ⟨c2, _⟩ := cell_one hl2
    have HI := hid hi
    have HN := hid hn
    have HL := hid hl2
    have HT := hid ht
    clear hi hn hl2 ht
    by_cases hlt2 : k < l.length
    · obtain ⟨b, off, rfl, hx⟩ := HEL.out k hlt2
      have hb := World.block_lt_of_cell? w _ hx
      simp only at hb
      have k60 : (k : Int) < 60 := by omega
      have D := hid (again_try l[k] w1.heap.size w.heap.size bi b off l.length c k wr hlt2 k60 HN.out HL.out HI.out (HT.out.cell hx) (by omega) n1 (by omega))
      have HX := hid hx
      clear hx
      go_wp2_with fail
      refine D.out.mono ?_
      rintro e w2 ⟨rfl, hn, a2⟩
      clear c0 c1 c2 D
      have hi2 := touch_other a2 HI.out (by simp; omega)
      have hl2 := touch_other a2 HL.out (by simp; omega)
      have hx2 := (HT.out.cell HX.out)
      have hx3 : ∀ o : Obj, (w2.alloc o).cell? ⟨b, off + k, none⟩ = some (.bool l[k]) := fun o => by
        rw [World.cell?_of_block (w := wr) ((Below.heap_alloc w2 o b (by have := a2.size; have := HT.out.size; omega)).trans (a2.block b (by have := HT.out.size; omega) (by simp; omega)))]
        exact hx2
      obtain ⟨_, c0⟩ := cell_one hi2
      obtain ⟨_, c1⟩ := cell_one hl2
      obtain ⟨_, c2⟩ := cell_one hn
      have HN2 := hid hn
      have HL2 := hid hl2
      have T2 := hid (HT.out.trans a2 (by simp; omega))
      have z2 := lt_of_block hn
      have z3 : b < w2.heap.size := by have := T2.out.size; omega
      have z4 := a2.size
      clear hi2 hl2 hn hx2 a2 HT HI HN HL HX HEL hl
      have g0 : (0 : Int) ≤ k := by omega
      have q1 : ((k : Int) + 1 != k + 1) = false := by simp
      generalize l[k] = y at hx3 ⊢
      cases y
      all_goals
        go_wp2
        go_roundg (l.length - (k + 1))
        case measure => omega
        case rel =>
          refine ⟨k + 1, w2.heap.size + 1, by omega, rfl, rfl, ?_, ?_, ?_, by omega, by omega, by omega, (T2.out.alloc _).alloc _⟩
          · rw [one_cast]
            simpa using heap_alloc_new (w2.alloc _) (oneInt (k + 1))
          · rw [one_cast]
            exact heap_alloc_keep (heap_alloc_keep HN2.out _) _
          · exact heap_alloc_keep (heap_alloc_keep HL2.out _) _
    · obtain rfl : k = l.length := by omega
      go_wp2
      go_ret
      exact ⟨rfl, HT.out⟩

theorem walk_GuardAgain (v : Value) (l : List Bool) (w : World) (hl : Bools w v l) :
    Calls Try.prog 8 #[v] w fun e w' => e = .returned (.bool true) ∧ Touch [] w w' := by
  by_cases h : (60 : Int) < l.length
  · obtain ⟨x, c, rfl, _, _⟩ := hl
    exact gagain_long x _ c w h
  · exact gagain_full v l w hl (by omega)
end Go.Proofs.Ytjakkjjohpkcjaa
