/- run of chapter 4's law, whole: by the jobs that are left. -/
import Derived.Test.YtjakkjjohpkcjaaRunb
namespace Go.Proofs.Ytjakkjjohpkcjaa
open Go.RowKit Go.Lib

def isFault (j : JobD) : Bool := (decide (j.kind = 2) && !decide (j.n = 0)) || decide (j.kind = 3) || decide (j.kind = 4) || decide (j.kind = 5) || decide (j.kind = 6) || decide (j.kind = 7)
/-- How much a run of these jobs counts. -/
def incs : List JobD → Nat
  | [] => 0
  | j :: r => if j.kind = 8 then incs r + 1 else if isFault j then 0 else 1
def incsAt (js : List JobD) (i : Nat) : Nat := incs (js.drop i)
theorem incs_le : ∀ l, incs l ≤ l.length
  | [] => Nat.le_refl _
  | j :: r => by
    have := incs_le r
    show (if j.kind = 8 then incs r + 1 else if isFault j then 0 else 1) ≤ r.length + 1
    split
    · omega
    · split <;> omega
theorem incsAt_le (js : List JobD) (i : Nat) : incsAt js i ≤ js.length - i := by
  have := incs_le (js.drop i)
  rw [List.length_drop] at this
  exact this
theorem incsAt_end {js : List JobD} {i : Nat} (h : js.length ≤ i) : incsAt js i = 0 := by
  unfold incsAt
  rw [List.drop_eq_nil_of_le h]
  rfl
theorem incsAt_at {js : List JobD} {i : Nat} (h : i < js.length) : incsAt js i = if js[i].kind = 8 then incsAt js (i + 1) + 1 else if isFault js[i] then 0 else 1 := by
  unfold incsAt
  rw [List.drop_eq_getElem_cons h]
  rfl

theorem set_twice {cs : Array Value} {i : Nat} (v u : Value) : (cs.setIfInBounds i v).setIfInBounds i u = cs.setIfInBounds i u := by
  apply Array.ext_getElem?
  intro k
  rw [Array.getElem?_setIfInBounds, Array.getElem?_setIfInBounds, Array.getElem?_setIfInBounds]
  split <;> simp_all
theorem set_at {cs : Array Value} {i : Nat} {v : Value} (u : Value) (h : cs[i]? = some v) : (cs.setIfInBounds i u)[i]? = some u := by
  have hlt : i < cs.size := (Array.getElem?_eq_some_iff.1 h).1
  rw [Array.getElem?_eq_getElem (by simpa using hlt)]
  simp

def RunSays (js : List JobD) (n : Nat) : Prop := ∀ (X : World) (v : Value) (i bc oc : Nat) (cs : Array Value) (T : TypeId) (z : Int), Jobs X v js → js.length - i = n → i + n ≤ 2000 → 0 ≤ z → z + n ≤ 1000 → X.heap[bc]? = some (.cells cs T (0, 0)) → cs[oc]? = some (.int .i64 z) →
  Calls Try.prog 13 #[v, .int .i64 i, .pointer (some ⟨bc, oc, none⟩)] X (RunP bc oc cs T z (incsAt js i) (toldAt js i) X)

theorem Jobs.touch {W W' : World} {v : Value} {js : List JobD} (h : Jobs W v js) (t : Touch [] W W') : Jobs W' v js := by
  obtain ⟨x, c, h1, h2, h3, h4⟩ := h
  exact ⟨x, c, h1, h2, h3, fun i hi => by
    obtain ⟨b, off, e, hb, hj⟩ := h4 i hi
    exact ⟨b, off, e, Nat.lt_of_lt_of_le hb t.size, hj.touch t⟩⟩

theorem enters_run (x y z : Value) (w : World) : (callFunc 28 #[x, y, z]).run Try.prog w = .ok (.enter 28 #[x, y, z]) w := by simp [go_sem]

/-- The function that runs the next job within itself. -/
theorem run_clo (js : List JobD) (n : Nat) (IH : RunSays js n) (X : World) (v : Value) (i bc oc b0 b1 b2 : Nat) (cs : Array Value) (T : TypeId) (z : Int) (hv : Jobs X v js) (hn : js.length - (i + 1) = n) (hi : i + 1 + n ≤ 2000) (hz0 : 0 ≤ z) (hz1 : z + n ≤ 1000)
    (hX : X.heap[bc]? = some (.cells cs T (0, 0))) (hz : cs[oc]? = some (.int .i64 z))
    (h0 : X.heap[b0]? = some (.cells #[v] 22 (0, 0))) (h1 : X.heap[b1]? = some (.cells #[.int .i64 i] 3 (0, 0))) (h2 : X.heap[b2]? = some (.cells #[.pointer (some ⟨bc, oc, none⟩)] 30 (0, 0))) :
    Calls Try.prog 28 #[.pointer (some ⟨b0, 0, none⟩), .pointer (some ⟨b1, 0, none⟩), .pointer (some ⟨b2, 0, none⟩)] X (RunP bc oc cs T z (incsAt js (i + 1)) (toldAt js (i + 1)) X) := by
  have D := hid (IH X v (i + 1) bc oc cs T z hv hn (by omega) hz0 hz1 hX hz)
  have c0 := cell_of h0 0
  have c1 := cell_of h1 0
  have c2 := cell_of h2 0
  have i0 : (0 : Int) ≤ i := by omega
  have i1 : (i : Int) ≤ 1999 := by omega
  clear IH hv hn hX hz h0 h1 h2 hz0 hz1
  go_enter Try.func28, Try.ntmps28
  go_wp2_with fail
  refine D.out.mono ?_
  rintro e w1 ⟨q1, q2, ⟨u, rfl, hf⟩ | ⟨u, rfl, ht⟩⟩
  · have Q1 := hid q1
    have Q2 := hid q2
    have HF := hid hf
    clear q1 q2 hf D c0 c1 c2
    go_wp2
    go_end0
    exact ⟨Q1.out, Q2.out, .inl ⟨_, rfl, HF.out⟩⟩
  · exact ⟨rfl, q1, q2, .inr ⟨_, rfl, ht⟩⟩

def RunR (bc oc : Nat) (cs : Array Value) (T : TypeId) (z : Int) (m : Nat) (X : World) (_ : FltD) (w1 : World) : Prop := w1.heap[bc]? = some (.cells (cs.setIfInBounds oc (.int .i64 (z + m))) T (0, 0)) ∧ Touch [bc] X w1

/-- A job that runs the next one within itself. -/
theorem run_within (js : List JobD) (n : Nat) (IH : RunSays js n) (X : World) (b off len c i bc oc : Nat) (s : ByteArray) (nn : Int) (cs : Array Value) (T : TypeId) (z : Int) (hv : Jobs X (.slice (some ⟨b, off, none⟩) len c) js) (hil : i < len) (hj : JobAt X b off i ⟨8, nn, s⟩)
    (hn : js.length - (i + 1) = n) (hi : i + 1 + n ≤ 2000) (hz0 : 0 ≤ z) (hz1 : z + n ≤ 999) (hX : X.heap[bc]? = some (.cells cs T (0, 0))) (hz : cs[oc]? = some (.int .i64 z)) :
    Calls Try.prog 13 #[.slice (some ⟨b, off, none⟩) len c, .int .i64 i, .pointer (some ⟨bc, oc, none⟩)] X (RunP bc oc cs T z (incsAt js (i + 1) + 1) fine X) := by
  have hlt := lt_of_block hX
  have hmle := incsAt_le js (i + 1)
  obtain ⟨m, hm⟩ : ∃ m, m = incsAt js (i + 1) := ⟨_, rfl⟩
  have D : Hid (∀ X4 : World, X4 = (((X.alloc (.cells #[.slice (some ⟨b, off, none⟩) len c] 22)).alloc (.cells #[.int .i64 i] 3)).alloc (.cells #[.pointer (some ⟨bc, oc, none⟩)] 30)).alloc (.cells #[.int .i64 8, .int .i64 nn, .string s] 49) →
      Calls Try.prog 11 #[.func (.func 28) #[] #[.pointer (some ⟨X.heap.size, 0, none⟩), .pointer (some ⟨X.heap.size + 1, 0, none⟩), .pointer (some ⟨X.heap.size + 2, 0, none⟩)]] X4
        fun e w' => ∃ f : FltD, e = .returned f.val ∧ w'.heap[bc]? = some (.cells (cs.setIfInBounds oc (.int .i64 (z + m))) T (0, 0)) ∧ Touch [bc] X w' ∧ w'.heap[X.heap.size + 2]? = some (.cells #[.pointer (some ⟨bc, oc, none⟩)] 30 (0, 0))) := hid fun X4 hX4 => by
    have a0 : X4.heap[X.heap.size]? = some (.cells #[.slice (some ⟨b, off, none⟩) len c] 22 (0, 0)) := by rw [hX4]; exact heap_alloc_keep (heap_alloc_keep (heap_alloc_keep (heap_alloc_new _ _) _) _) _
    have a1 : X4.heap[X.heap.size + 1]? = some (.cells #[.int .i64 i] 3 (0, 0)) := by rw [hX4]; exact heap_alloc_keep (heap_alloc_keep (by simpa using heap_alloc_new (X.alloc _) (.cells #[.int .i64 i] 3)) _) _
    have a2 : X4.heap[X.heap.size + 2]? = some (.cells #[.pointer (some ⟨bc, oc, none⟩)] 30 (0, 0)) := by rw [hX4]; exact heap_alloc_keep (by simpa using heap_alloc_new ((X.alloc _).alloc _) (.cells #[.pointer (some ⟨bc, oc, none⟩)] 30)) _
    have t4 : Touch [] X X4 := by rw [hX4]; exact ((((Touch.refl [] _).alloc _).alloc _).alloc _).alloc _
    have hs4 : X4.heap.size = X.heap.size + 4 := by rw [hX4]; simp
    have t5 : Touch [] X (X4.alloc (.cells #[.int .i64 0, .int .i64 0, .string none8] TFault)) := t4.alloc _
    have C := run_clo js n IH (X4.alloc (.cells #[.int .i64 0, .int .i64 0, .string none8] TFault)) _ i bc oc _ _ _ cs T z (hv.touch t5) hn hi hz0 (by omega) (touch_other t5 hX (by simp)) hz (heap_alloc_keep a0 _) (heap_alloc_keep a1 _) (heap_alloc_keep a2 _)
    refine (do_any _ _ (RunR bc oc cs T z m X4) X4 (enters_run _ _ _) (C.mono ?_)).mono ?_
    · rintro e w1 ⟨q1, q2, h⟩
      rw [← hm] at q1
      refine ⟨touch_other q2 (heap_alloc_new _ _) (by simp; omega), ?_⟩
      have key : RunR bc oc cs T z m X4 (toldAt js (i + 1)) w1 := ⟨q1, ((Touch.refl [bc] _).alloc _).trans q2 (by simp)⟩
      rcases h with ⟨v, rfl, hf⟩ | ⟨v, rfl, ht⟩
      · exact .inl ⟨_, rfl, key⟩
      · exact .inr ⟨_, _, rfl, ht.1, key⟩
    · rintro e w' ⟨f, w1, rfl, ⟨q1, q2⟩, t⟩
      exact ⟨f, rfl, touch_other t q1 (by simp; omega), ((t4.mono (by simp)).trans q2 (by simp)).trans t (by simp; omega), touch_other t (touch_other q2 a2 (by simp; omega)) (by simp; omega)⟩
  obtain ⟨h0, h1, h2, _⟩ := hj
  simp only at h0 h1 h2
  have h3 : decide (len ≤ i) = false := by simp; omega
  have a0 := old3 h0
  have a1 := old3 h1
  have a2 := old3 h2
  have HZ := hid hz
  have hmf := make_func
  have z2 : z + (m : Int) ≤ 999 := by omega
  have z3 : 0 ≤ z + (m : Int) := by omega
  have HM := hid hm
  clear hX hz h0 h1 h2 hm hv IH hn hmle hz0 hz1
  go_enter Try.func13, Try.ntmps13
  go_wp2_with fail
  refine (D.out _ rfl).mono ?_
  rintro e w1 ⟨f, rfl, q1, q2, q3⟩
  have c0 := cell_of q3 0
  have c1 := cell_of q1 oc
  rw [set_at _ HZ.out] at c1
  have f1 := free_of q1 oc
  have Q1 := hid q1
  have Q2 := hid q2
  clear q1 q2 q3 D a0 a1 a2
  go_wp2
  go_end0
  have q4 := heap_set Q1.out (i := oc) (.int .i64 (z + m + 1))
  rw [set_twice] at q4
  exact ⟨by rw [← HM.out, show z + ((m + 1 : Nat) : Int) = z + (m : Int) + 1 by omega]; exact q4, Q2.out.setCell (.inl (by simp)) _, .inl ⟨_, rfl, rfl⟩⟩

theorem run_all (js : List JobD) : ∀ n, RunSays js n
  | 0 => fun X v i bc oc cs T z hv hn _ _ _ hX hz => by
    have h : js.length ≤ i := by omega
    have e : toldAt js i = fine := by unfold toldAt; rw [dif_neg (by omega)]
    rw [e, incsAt_end h]
    exact run_past i bc oc cs T z X v js hv h hX hz
  | n + 1 => fun X v i bc oc cs T z hv hn hi hz0 hz1 hX hz => by
    have IH := run_all js n
    have h : i < js.length := by omega
    have hv2 := hv
    obtain ⟨x, c, rfl, hc, _, hel⟩ := hv
    obtain ⟨b, off, rfl, _, hj⟩ := hel i h
    have e : toldAt js i = toldF js[i] := by simp [toldAt, h]
    rw [e, incsAt_at h]
    generalize hjj : js[i] = j at hj ⊢
    obtain ⟨kind, nn, s⟩ := j
    have hcase : kind = 2 ∨ kind = 3 ∨ kind = 4 ∨ kind = 5 ∨ kind = 6 ∨ kind = 7 ∨ kind = 8 ∨ (¬ kind = 2 ∧ ¬ kind = 3 ∧ ¬ kind = 4 ∧ ¬ kind = 5 ∧ ¬ kind = 6 ∧ ¬ kind = 7 ∧ ¬ kind = 8) := by omega
    rcases hcase with rfl | rfl | rfl | rfl | rfl | rfl | rfl | hk
    · by_cases hn : nn = 0
      · subst hn
        exact run_plain1 b off _ c i bc oc cs T z _ X h hj hX hz hz0 (by omega) (.inl ⟨rfl, rfl⟩)
      · have q := run_must1 b off _ c i bc oc cs T z _ X h hj hX hz ⟨rfl, hn⟩
        simpa [toldF, isFault, hn] using q
    · simpa [toldF, isFault] using run_fail1 b off _ c i bc oc cs T z _ X h hj hX hz rfl
    · simpa [toldF, isFault] using run_index1 b off _ c i bc oc cs T z _ X h hj hX hz rfl
    · simpa [toldF, isFault] using run_quo1 b off _ c i bc oc cs T z _ X h hj hX hz rfl
    · simpa [toldF, isFault] using run_assert1 b off _ c i bc oc cs T z _ X h hj hX hz rfl
    · simpa [toldF, isFault] using run_map1 b off _ c i bc oc cs T z _ X h hj hX hz rfl
    · have q := run_within js n IH X b off _ c i bc oc s nn cs T z hv2 h hj (by omega) (by omega) hz0 (by omega) hX hz
      simpa [toldF] using q
    · have q := run_plain1 b off _ c i bc oc cs T z _ X h hj hX hz hz0 (by omega) (.inr hk)
      simpa [toldF, isFault, hk] using q
end Go.Proofs.Ytjakkjjohpkcjaa
