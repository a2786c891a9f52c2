/- deep of chapter 4's law: a call within a call. -/
import Derived.Test.YtjakkjjohpkcjaaGrow
namespace Go.Proofs.Ytjakkjjohpkcjaa
open Go.RowKit Go.Lib

abbrev intB (n : Int) : Obj := .cells #[.int .i64 n] 3 (0, 0)
abbrev textB (s : ByteArray) : Obj := .cells #[.string s] 9 (0, 0)
abbrev ptrB (t : TypeId) (b : Nat) : Obj := .cells #[.pointer (some ⟨b, 0, none⟩)] t (0, 0)
abbrev headB (g n : Nat) : Obj := .cells #[.slice (some ⟨g, 0, none⟩) n 40] 42 (0, 0)

/-- What the innermost call comes to. -/
def wantF (kind : Int) (s : ByteArray) : FltD := if kind = 1 then ⟨20, 2, none8⟩ else if kind = 2 then ⟨21, 3, s⟩ else if kind = 3 then ⟨21, 1, none8⟩ else fine

theorem enters_deep (v0 v1 v2 v3 v4 : Value) (w : World) : (callFunc 30 #[v0, v1, v2, v3, v4]).run Try.prog w = .ok (.enter 30 #[v0, v1, v2, v3, v4]) w := by simp [go_sem]

/-- The innermost call. -/
def DeepEnd (f : FltD) (X : World) (e : Ending) (w' : World) : Prop := Touch [] X w' ∧ ((∃ v, e = .returned v ∧ f = fine) ∨ ∃ v, e = .panicked [{ v := v, recovered := false }] ∧ Tells v f)

theorem deep_last (kind : Int) (s : ByteArray) (hk : kind = 0 ∨ kind = 1 ∨ kind = 2 ∨ kind = 3) (X : World) (b0 b1 b2 b4 be : Nat) (v3 : Value) (z : Int) (h0 : X.heap[b0]? = some (intB 0)) (h1 : X.heap[b1]? = some (intB kind)) (h2 : X.heap[b2]? = some (textB s))
    (h4 : X.heap[b4]? = some (ptrB 30 be)) (he : X.heap[be]? = some (intB z)) :
    Calls Try.prog 30 #[.pointer (some ⟨b0, 0, none⟩), .pointer (some ⟨b1, 0, none⟩), .pointer (some ⟨b2, 0, none⟩), v3, .pointer (some ⟨b4, 0, none⟩)] X (DeepEnd (wantF kind s) X) := by
  have c0 := cell_of h0 0
  have c1 := cell_of h1 0
  have c2 := cell_of h2 0
  have c4 := cell_of h4 0
  have ce := cell_of he 0
  clear h0 h1 h2 h4 he
  rcases hk with rfl | rfl | rfl | rfl
  · go_enter Try.func30, Try.ntmps30
    go_wp2
    go_end0
    exact ⟨Touch.refl _ _, .inl ⟨_, rfl, rfl⟩⟩
  · have M := hid (must_panics 20 (by decide))
    go_enter Try.func30, Try.ntmps30
    go_wp2_with (go_at_call 20; refine (M.out _).mono ?_; rintro e w1 ⟨rfl, rfl⟩)
    exact ⟨rfl, Touch.refl _ _, .inr ⟨_, rfl, tells_errno (by decide)⟩⟩
  · go_enter Try.func30, Try.ntmps30
    go_wp2_with (go_at_call 22; refine (fail_panics _ _).mono ?_; rintro e w1 ⟨rfl, rfl⟩)
    exact ⟨rfl, Touch.refl _ _, .inr ⟨_, rfl, tells_text s⟩⟩
  · obtain ⟨vf, wf, hd, ht⟩ := index_dies 37 (by kernel_rfl) none 0 0 0 (fun _ => rfl) (by omega)
    have HT := hid ht
    clear ht
    go_enter Try.func30, Try.ntmps30
    go_wp2
    go_region_dies
    all_goals (try go_wp2)
    all_goals exact ⟨rfl, (Touch.refl _ _).drew.trans (HT.out _) (by simp), .inr ⟨_, rfl, tells_run run_bounds _⟩⟩

/-- What deep leaves. -/
def DeepR (bt g be : Nat) (fs : List FltD) (m : Nat) (z : Int) (X : World) (w' : World) : Prop := w'.heap[bt]? = some (headB g m) ∧ Row w' g fs ∧ w'.heap[be]? = some (intB z) ∧ Touch [bt, g, be] X w'
def DeepP (bt g be : Nat) (fs : List FltD) (m : Nat) (z : Int) (X : World) (e : Ending) (w' : World) : Prop := e = .returned (.tuple #[]) ∧ DeepR bt g be fs m z X w'

/-- A call of deep at depth d leaves fs, what the innermost one comes to, and d fine ones. -/
def DeepSays (kind : Int) (s : ByteArray) (d : Nat) : Prop := ∀ (fs : List FltD) (n : Nat) (z : Int) (X : World) (bt g be : Nat), n = fs.length → n + d + 1 ≤ 40 → 0 ≤ z → z + d ≤ 1000 → bt ≠ g → bt ≠ be → g ≠ be → X.heap[bt]? = some (headB g n) → Row X g fs → X.heap[be]? = some (intB z) →
  Calls Try.prog 23 #[.int .i64 d, .int .i64 kind, .string s, .pointer (some ⟨bt, 0, none⟩), .pointer (some ⟨be, 0, none⟩)] X (DeepP bt g be (fs ++ wantF kind s :: List.replicate d fine) (n + d + 1) (z + d) X)

/-- A call that is not the innermost one. -/
theorem deep_within (kind : Int) (s : ByteArray) (d : Nat) (IH : DeepSays kind s d) (fs : List FltD) (n : Nat) (z : Int) (X : World) (bt g be b0 b1 b2 b3 b4 : Nat) (hn : n = fs.length) (hm : n + d + 1 ≤ 40) (hz : 0 ≤ z) (hzd : z + d ≤ 999)
    (n1 : bt ≠ g) (n2 : bt ≠ be) (n3 : g ≠ be) (hb4 : b4 ≠ bt ∧ b4 ≠ g ∧ b4 ≠ be)
    (h0 : X.heap[b0]? = some (intB ((d : Int) + 1))) (h1 : X.heap[b1]? = some (intB kind)) (h2 : X.heap[b2]? = some (textB s)) (h3 : X.heap[b3]? = some (ptrB 44 bt)) (h4 : X.heap[b4]? = some (ptrB 30 be))
    (hh : X.heap[bt]? = some (headB g n)) (hr : Row X g fs) (he : X.heap[be]? = some (intB z)) :
    Calls Try.prog 30 #[.pointer (some ⟨b0, 0, none⟩), .pointer (some ⟨b1, 0, none⟩), .pointer (some ⟨b2, 0, none⟩), .pointer (some ⟨b3, 0, none⟩), .pointer (some ⟨b4, 0, none⟩)] X
      (DeepP bt g be (fs ++ wantF kind s :: List.replicate d fine) (n + d + 1) (z + d + 1) X) := by
  have D := hid (IH fs n z X bt g be hn hm hz (by omega) n1 n2 n3 hh hr he)
  have c0 := cell_of h0 0
  have c1 := cell_of h1 0
  have c2 := cell_of h2 0
  have c3 := cell_of h3 0
  have c4 := cell_of h4 0
  have H4 := hid h4
  have d0 : (0 : Int) ≤ d := by omega
  have d1 : (d : Int) ≤ 40 := by omega
  have e0 : (d : Int) + 1 - 1 = d := by omega
  clear h0 h1 h2 h3 h4 hh hr he IH hn
  go_enter Try.func30, Try.ntmps30
  go_wp2_with fail
  refine D.out.mono ?_
  rintro e w1 ⟨rfl, hh, hr, he, ht⟩
  have z4 := cell_of (touch_other ht H4.out (by simp; omega)) 0
  have ze := cell_of he 0
  have zf := free_of he 0
  have HE := hid he
  have HH := hid hh
  have HR := hid hr
  clear c0 c1 c2 c3 c4 hh hr he D e0
  go_wp2
  go_end0
  refine ⟨rfl, ?_, ?_, heap_set HE.out _, ht.setCell (.inl (by simp)) _⟩
  · rw [heap_set_other _ n2]
    exact HH.out
  · exact HR.out.touch ((Touch.refl [be] w1).setCell (.inl (by simp)) _) (by simp; omega)

/-- The world in which Do's function is run, in deep. -/
def deepW (d kind : Int) (s : ByteArray) (bt be : Nat) (X : World) : World := ((((X.alloc (intB d)).alloc (intB kind)).alloc (textB s)).alloc (ptrB 44 bt)).alloc (ptrB 30 be)
theorem deepW_heap (d kind : Int) (s : ByteArray) (bt be : Nat) (X : World) : (deepW d kind s bt be X).heap[X.heap.size]? = some (intB d) ∧ (deepW d kind s bt be X).heap[X.heap.size + 1]? = some (intB kind) ∧ (deepW d kind s bt be X).heap[X.heap.size + 2]? = some (textB s) ∧
    (deepW d kind s bt be X).heap[X.heap.size + 3]? = some (ptrB 44 bt) ∧ (deepW d kind s bt be X).heap[X.heap.size + 4]? = some (ptrB 30 be) ∧ (deepW d kind s bt be X).heap.size = X.heap.size + 5 ∧ Touch [] X (deepW d kind s bt be X) := by
  have a1 := heap_alloc_new X (intB d)
  have a2 := heap_alloc_new (X.alloc (intB d)) (intB kind)
  have a3 := heap_alloc_new ((X.alloc (intB d)).alloc (intB kind)) (textB s)
  have a4 := heap_alloc_new (((X.alloc (intB d)).alloc (intB kind)).alloc (textB s)) (ptrB 44 bt)
  have a5 := heap_alloc_new ((((X.alloc (intB d)).alloc (intB kind)).alloc (textB s)).alloc (ptrB 44 bt)) (ptrB 30 be)
  refine ⟨heap_alloc_keep (heap_alloc_keep (heap_alloc_keep (heap_alloc_keep a1 _) _) _) _, heap_alloc_keep (heap_alloc_keep (heap_alloc_keep (by simpa using a2) _) _) _, heap_alloc_keep (heap_alloc_keep (by simpa using a3) _) _, heap_alloc_keep (by simpa using a4) _, by simpa [deepW] using a5, by simp [deepW], ?_⟩
  exact (((((Touch.refl _ _).alloc _).alloc _).alloc _).alloc _).alloc _

theorem new_second (w : World) (o1 o2 : Obj) : ((w.alloc o1).alloc o2).heap[w.heap.size + 1]? = some o2 := by simpa using heap_alloc_new (w.alloc o1) o2
set_option maxRecDepth 100000 in
set_option maxHeartbeats 4000000 in
/-- deep, by what Do of its function comes to. -/
theorem deep_by (d kind : Int) (s : ByteArray) (gs : List FltD) (f : FltD) (m : Nat) (zz : Int) (X : World) (bt g be : Nat) (hm : m = gs.length) (hm40 : m + 1 ≤ 40) (n1 : bt ≠ g) (n2 : bt ≠ be) (n3 : g ≠ be) (hg : g < X.heap.size) (hbt : bt < X.heap.size) (hbe : be < X.heap.size)
    (D : Calls Try.prog 11 #[.func (.func 30) #[] #[.pointer (some ⟨X.heap.size, 0, none⟩), .pointer (some ⟨X.heap.size + 1, 0, none⟩), .pointer (some ⟨X.heap.size + 2, 0, none⟩), .pointer (some ⟨X.heap.size + 3, 0, none⟩), .pointer (some ⟨X.heap.size + 4, 0, none⟩)]]
      (deepW d kind s bt be X) fun e w' => e = .returned f.val ∧ DeepR bt g be gs m zz (deepW d kind s bt be X) w') :
    Calls Try.prog 23 #[.int .i64 d, .int .i64 kind, .string s, .pointer (some ⟨bt, 0, none⟩), .pointer (some ⟨be, 0, none⟩)] X (DeepP bt g be (gs ++ [f]) (m + 1) zz X) := by
  obtain ⟨_, _, _, a3, _, hsz, hT⟩ := deepW_heap d kind s bt be X
  have DD := hid D
  have A3 := hid a3
  have HT := hid hT
  have HS := hid hsz
  have HM := hid hm
  have hmf := make_func
  unfold deepW at DD
  clear D a3 hT hsz hm
  go_enter Try.func23, Try.ntmps23
  go_wp2_with fail
  refine DD.out.mono ?_
  rintro e w1 ⟨rfl, hh, hr, he, ht⟩
  have ht2 : Touch [bt, g, be] X w1 := (HT.out.mono (by simp)).trans ht (by simp)
  have p0 := (cell_one (touch_other ht A3.out (by simp; omega))).2
  have p1 := (cell_one hh).2
  have p2 : ∀ o1 o2 : Obj, ((w1.alloc o1).alloc o2).cell? ⟨bt, 0, none⟩ = some (.slice (some ⟨g, 0, none⟩) m 40) := fun o1 o2 => cell_alloc (heap_alloc_keep hh o1) 0 o2
  have p3 : ∀ o1 o2 : Obj, ((w1.alloc o1).alloc o2).cell? ⟨X.heap.size + 3, 0, none⟩ = some (.pointer (some ⟨bt, 0, none⟩)) := fun o1 o2 => cell_alloc (heap_alloc_keep (touch_other ht A3.out (by simp; omega)) o1) 0 o2
  have f1 : ∀ o : Obj, (w1.alloc o).frozen? ⟨bt, 0, none⟩ = false := fun o => free_of (heap_alloc_keep hh o) 0
  have HB := hid (touch_other ht A3.out (by simp; omega))
  have hgs : g < X.heap.size := hg
  have HH := hid hh
  have HR := hid hr
  have HE := hid he
  have H2 := hid ht2
  clear hh hr he ht ht2 DD A3 HS HT
  go_wp2
  go_region_law (refine step_append_flt rfl (.tmp 16) (.tmp 18) rfl g m gs f HM.out (by simp [Act.eval]) (HR.out.touch (F := []) (by repeat (first | exact Touch.refl _ _ | refine Touch.drew ?_ | refine Touch.alloc ?_ _)) (by simp)) hm40 (w1.heap.size + 1) 1 (by simp [Act.eval]) ⟨(0, 0), new_second _ _ _⟩ ?_
                 intro wz hrz hgz
                 have hz : wz.heap[bt]? = some (headB g m) := (hgz.block bt (by simp; have := lt_of_block HH.out; omega) (by simp; omega)).trans (heap_alloc_keep (heap_alloc_keep HH.out _) _)
                 have hz2 := cell_of ((hgz.block (X.heap.size + 3) (by simp; have := lt_of_block HB.out; omega) (by simp; omega)).trans (heap_alloc_keep (heap_alloc_keep HB.out _) _)) 0
                 have hz0 := cell_of hz 0
                 have hz1 := free_of hz 0
                 have HZ := hid hz
                 have HRZ := hid hrz
                 have HQ := hid ((hgz.block be (by simp; have := lt_of_block HE.out; omega) (by simp; omega)).trans (heap_alloc_keep (heap_alloc_keep HE.out _) _))
                 have HTZ : Hid (Touch [bt, g, be] X wz) := hid (Touch.grown (by repeat (first | exact H2.out | refine Touch.drew ?_ | refine Touch.alloc ?_ _)) hgz (by simp))
                 clear hz hrz hgz)
  all_goals
    go_wp2
    go_end0
    refine ⟨rfl, heap_set HZ.out _, HRZ.out.touch ((Touch.refl [bt] wz).setCell (.inl (by simp)) _) (by simp; omega), ?_, HTZ.out.setCell (.inl (by simp)) _⟩
    rw [heap_set_other _ (by simp; omega)]
    exact HQ.out
end Go.Proofs.Ytjakkjjohpkcjaa
