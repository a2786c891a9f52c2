/- What Run tells. -/
import Derived.Test.YtiglfdefeaddmaaReckon
namespace Go.Proofs.Ytiglfdefeaddmaa
open Go.RowKit Go.Lib

/-- What is left of a program that may be, and the fault. -/
def resOf : Out → Nat × FltD
  | .bad f => (0, f)
  | .ok [x] => (x, fine)
  | .ok _ => (0, numberF)
/-- What Run tells of words. -/
noncomputable def runOf (E : EnvD) (l : List ByteArray) : Nat × FltD := if (checkOf l).1 = 0 then resOf (exec E (wordsL l) []) else (0, ⟨6, 0, none8⟩)

/-- What the closure leaves behind it, with what tells the fault f. -/
def LeftR (o : Out) (bl : Nat) (V : World) (f : FltD) (w1 : World) : Prop :=
  f = (resOf o).2 ∧ w1.heap[bl]? = some (.cells #[.float .f64 (resOf o).1] TFlt (0, 0)) ∧ Wd (resOf o).1 ∧ Touch [bl] V w1

theorem run1_any (x : Option Addr) (c : Nat) (l : List ByteArray) (E : EnvD) (V : World) (bp be bl pf : Nat) (hE : E.Ok) (hl : l.length ≤ 64) (hx : TextsX V x l) (hok : ∀ j (hj : j < l.length), noWord l[j] = false)
    (hp : V.heap[bp]? = some (.cells #[.slice x l.length c] 29 (0, 0)))
    (he : V.heap[be]? = some (.cells #[.float .f64 E.state, .int .i64 E.id, .string E.typ, .string E.data, .float .f64 E.value, .int .i64 E.version] 51 (0, 0)))
    (hb : V.heap[bl]? = some (.cells #[.float .f64 0] TFlt (0, 0))) (hf : V.heap[pf]? = some (.cells #[.int .i64 0, .int .i64 0, .string none8] TFault (0, 0))) (hne : pf ≠ bl) :
    Calls Try.prog 36 #[.pointer (some ⟨bp, 0, none⟩), .pointer (some ⟨be, 0, none⟩), .pointer (some ⟨bl, 0, none⟩)] V (Came (LeftR (exec E (wordsL l) []) bl V) pf) := by
  have C := hid (reckon_any x c l E V hE hl hx hok)
  have p0 := cell_of hp 0
  have e0 := cell_of he 0
  have e1 := cell_of he 1
  have e2 := cell_of he 2
  have e3 := cell_of he 3
  have e4 := cell_of he 4
  have e5 := cell_of he 5
  have HF := hid hf
  have HB := hid hb
  have hsf := store_flt
  clear hp he hf hb hx hok hE hl
  go_enter Try.func36, Try.ntmps36
  go_wp2_with fail
  refine C.out.mono ?_
  rintro e w1 ⟨hbe, hres⟩
  generalize exec E (wordsL l) [] = o at *
  have hT : Hid (Touch [] V w1) := Touch.of_below hbe
  have hl1 := (hbe.block _ (lt_of_block HB.out)).trans HB.out
  have hf1 := hid ((hbe.block _ (lt_of_block HF.out)).trans HF.out)
  clear hbe C
  rcases o with (_ | ⟨y, _ | ⟨y2, s⟩⟩) | f
  · obtain ⟨v, rfl, ht⟩ := hres
    have HL1 := hid hl1
    have HTL := hid ht
    clear hl1 ht
    go_wp2
    exact ⟨rfl, hf1.out, .inr ⟨v, _, rfl, HTL.out, rfl, HL1.out, (by decide : Wd 0), hT.out.mono (by simp)⟩⟩
  · obtain ⟨rfl, hy⟩ := hres
    have c0 := cell_of hl1 0
    have f0 := free_of hl1 0
    have HL1 := hid hl1
    have HY := hid hy
    clear hl1 hy
    go_wp2
    go_end0
    exact ⟨by rw [heap_set_other _ (by simpa using hne)]; exact hf1.out, .inl ⟨_, rfl, rfl, heap_set HL1.out _, HY.out, (hT.out.mono (by simp)).setCell (.inl (by simp)) _⟩⟩
  · obtain ⟨v, rfl, ht⟩ := hres
    have HL1 := hid hl1
    have HTL := hid ht
    clear hl1 ht
    go_wp2
    exact ⟨rfl, hf1.out, .inr ⟨v, _, rfl, HTL.out, rfl, HL1.out, (by decide : Wd 0), hT.out.mono (by simp)⟩⟩
  · obtain ⟨v, rfl, ht⟩ := hres
    have HL1 := hid hl1
    have HTL := hid ht
    clear hl1 ht
    go_wp2
    exact ⟨rfl, hf1.out, .inr ⟨v, _, rfl, HTL.out, rfl, HL1.out, (by decide : Wd 0), hT.out.mono (by simp)⟩⟩

/-- What Run leaves. -/
def RunPost (r : Nat × FltD) (W : World) (e : Ending) (W' : World) : Prop := e = .returned (.tuple #[.float .f64 r.1, r.2.val]) ∧ Touch [] W W'

structure Three (N : Nat) (W W3 : World) (a b c : Obj) : Prop where
  t : Touch [] W W3
  p0 : W3.heap[N]? = some a
  p1 : W3.heap[N + 1]? = some b
  p2 : W3.heap[N + 1 + 1]? = some c
theorem three0 (W : World) (a b c : Obj) : Touch [] W (((W.alloc a).alloc b).alloc c) ∧ Three W.heap.size W (((W.alloc a).alloc b).alloc c) a b c := by
  have h1 : (W.alloc a).heap.size = W.heap.size + 1 := by simp
  have h2 : ((W.alloc a).alloc b).heap.size = W.heap.size + 1 + 1 := by simp
  have t := (((Touch.refl [] W).alloc a).alloc b).alloc c
  refine ⟨t, t, heap_alloc_keep (heap_alloc_keep (heap_alloc_new W _) _) _, ?_, ?_⟩
  · rw [← h1]; exact heap_alloc_keep (heap_alloc_new _ _) _
  · rw [← h2]; exact heap_alloc_new _ _
theorem Three.keep {N : Nat} {W W3 w1 : World} {a b c : Obj} (h : Touch [] W W3 ∧ Three N W W3 a b c) (ht : Touch [] W3 w1) : Three N W w1 a b c :=
  ⟨h.1.trans ht (by simp), touch_other ht h.2.p0 (by simp), touch_other ht h.2.p1 (by simp), touch_other ht h.2.p2 (by simp)⟩
theorem do_run (x : Option Addr) (c : Nat) (l : List ByteArray) (E : EnvD) (X : World) (bp be bl : Nat) (hE : E.Ok) (hl : l.length ≤ 64) (hx : TextsX X x l) (hok : ∀ j (hj : j < l.length), noWord l[j] = false)
    (hp : X.heap[bp]? = some (.cells #[.slice x l.length c] 29 (0, 0)))
    (he : X.heap[be]? = some (.cells #[.float .f64 E.state, .int .i64 E.id, .string E.typ, .string E.data, .float .f64 E.value, .int .i64 E.version] 51 (0, 0)))
    (hb : X.heap[bl]? = some (.cells #[.float .f64 0] TFlt (0, 0))) :
    Calls Try.prog 35 #[.func (.func 36) #[] #[.pointer (some ⟨bp, 0, none⟩), .pointer (some ⟨be, 0, none⟩), .pointer (some ⟨bl, 0, none⟩)]] X fun e w' =>
      e = .returned (resOf (exec E (wordsL l) [])).2.val ∧ w'.heap[bl]? = some (.cells #[.float .f64 (resOf (exec E (wordsL l) [])).1] TFlt (0, 0)) ∧ Touch [bl] X w' := by
  have hlt := lt_of_block hb
  refine (do_any _ _ (LeftR (exec E (wordsL l) []) bl (X.alloc (.cells #[.int .i64 0, .int .i64 0, .string none8] TFault))) X (fun w => by simp [go_sem]) ?_).mono ?_
  · exact run1_any x c l E _ bp be bl X.heap.size hE hl (hx.touch ((Touch.refl _ _).alloc _)) hok (heap_alloc_keep hp _) (heap_alloc_keep he _) (heap_alloc_keep hb _) (heap_alloc_new X _) (by omega)
  · rintro e w' ⟨f, w1, rfl, ⟨rfl, h1, _, ht⟩, ht2⟩
    refine ⟨rfl, (ht2.block bl (lt_of_block h1) (by simp; omega)).trans h1, ?_⟩
    exact Touch.trans (F := [bl]) (G := [X.heap.size]) (((Touch.refl [bl] X).alloc _).trans ht (by simp)) ht2 (by simp)

set_option maxHeartbeats 2000000 in
theorem run_any (x : Option Addr) (c : Nat) (l : List ByteArray) (E : EnvD) (W : World) (hE : E.Ok) (hl : l.length ≤ 9223372036854775807) (hx : TextsX W x l) :
    Calls Try.prog 19 #[.agg #[.slice x l.length c], E.val] W (RunPost (runOf E l) W) := by
  have hsf := store_flt
  have hmf := make_func
  by_cases hc0 : (checkOf l).1 = 0
  · obtain ⟨hl64, hok⟩ := ok_of_check hc0
    have hr : runOf E l = resOf (exec E (wordsL l) []) := by unfold runOf; rw [if_pos hc0]
    rw [hr]
    have K := hid (fun (w1 : World) (ht : Touch [] W w1) => check_any x c l w1 hl (hx.touch ht))
    rw [hc0] at K
    generalize (checkOf l).2 = k2 at *
    have HX := hid hx
    have HE := hid hE
    have HO := hid hok
    have HL := hid hl64
    clear hx hE hok hc0 hr hl
    go_enter Try.func19, Try.ntmps19
    go_wp2_with fail
    have B0 := hid (three0 W (.cells #[.slice x l.length c] 29) (.cells #[.float .f64 E.state, .int .i64 E.id, .string E.typ, .string E.data, .float .f64 E.value, .int .i64 E.version] 51) (.cells #[.int .i64 0, .int .i64 0, .string none8] TFault))
    generalize ((W.alloc (.cells #[.slice x l.length c] 29)).alloc (.cells #[.float .f64 E.state, .int .i64 E.id, .string E.typ, .string E.data, .float .f64 E.value, .int .i64 E.version] 51)).alloc (.cells #[.int .i64 0, .int .i64 0, .string none8] TFault) = W3 at *
    refine (K.out W3 B0.out.1).mono ?_
    rintro e w1 ⟨rfl, h1⟩
    have B1 := hid (Three.keep B0.out h1)
    clear B0 h1 K
    go_wp2_with fail
    have hb1 := B1.out.t
    have hN := hid (show W.heap.size + 1 + 1 < w1.heap.size from lt_of_block B1.out.p2)
    refine (do_run x c l E _ W.heap.size (W.heap.size + 1) w1.heap.size HE.out HL.out (HX.out.touch (hb1.alloc _)) HO.out (heap_alloc_keep B1.out.p0 _) (heap_alloc_keep B1.out.p1 _) (heap_alloc_new w1 _)).mono ?_
    rintro e w2 ⟨rfl, hL, ht2⟩
    generalize resOf (exec E (wordsL l) []) = r at *
    obtain ⟨r1, er, kd, tx⟩ := r
    have q2 := touch_other ht2 (heap_alloc_keep B1.out.p2 (.cells #[.float .f64 0] TFlt)) (by have := hN.out; simp; omega)
    have c2 := fun o : Obj => cell_of (heap_alloc_keep q2 o)
    have c20 := fun o : Obj => c2 o 0
    have c21 := fun o : Obj => c2 o 1
    have c22 := fun o : Obj => c2 o 2
    have f2 := fun (o : Obj) => free_of (heap_alloc_keep q2 o)
    have f20 := fun o : Obj => f2 o 0
    have f21 := fun o : Obj => f2 o 1
    have f22 := fun o : Obj => f2 o 2
    have cL := fun o : Obj => cell_of (heap_alloc_keep hL o) 0
    have HT2 : Hid (Touch [] W w2) := Touch.trans (G := [w1.heap.size]) (hb1.alloc (.cells #[.float .f64 0] TFlt)) ht2 (by have := hb1.size; simp; omega)
    have Q2 := hid q2
    clear hL ht2 c2 f2 q2 hb1
    go_wp2
    go_region
    all_goals go_wp2
    all_goals
      have S := heap_set (heap_set (heap_set (heap_alloc_keep Q2.out (.cells #[.int .i64 er, .int .i64 kd, .string tx] TFault)) (i := 0) (.int .i64 er)) (i := 1) (.int .i64 kd)) (i := 2) (.string tx)
      have s0 := cell_of S 0
      have s1 := cell_of S 1
      have s2 := cell_of S 2
      refine bodyPost_ret (v := .tuple #[.float .f64 r1, FltD.val ⟨er, kd, tx⟩]) (by simp [results, Try.results19, go_sem, s0, s1, s2]) rfl ⟨rfl, ?_⟩
      have hge := HT2.out.size
      repeat (first | exact HT2.out | refine Touch.drew ?_ | refine Touch.alloc ?_ _ | refine Touch.setCell ?_ (.inr (by simp; omega)) _)
  · have hr : runOf E l = (0, ⟨6, 0, none8⟩) := by unfold runOf; rw [if_neg hc0]
    rw [hr]
    have K := hid (fun (w1 : World) (ht : Touch [] W w1) => check_any x c l w1 hl (hx.touch ht))
    have hne : ((checkOf l).1 != 0) = true := by simpa using hc0
    generalize (checkOf l).2 = k2 at *
    generalize (checkOf l).1 = k1 at *
    clear hx hE hc0 hr hl
    go_enter Try.func19, Try.ntmps19
    go_wp2_with fail
    have B0 := hid (three0 W (.cells #[.slice x l.length c] 29) (.cells #[.float .f64 E.state, .int .i64 E.id, .string E.typ, .string E.data, .float .f64 E.value, .int .i64 E.version] 51) (.cells #[.int .i64 0, .int .i64 0, .string none8] TFault))
    generalize ((W.alloc (.cells #[.slice x l.length c] 29)).alloc (.cells #[.float .f64 E.state, .int .i64 E.id, .string E.typ, .string E.data, .float .f64 E.value, .int .i64 E.version] 51)).alloc (.cells #[.int .i64 0, .int .i64 0, .string none8] TFault) = W3 at *
    refine (K.out W3 B0.out.1).mono ?_
    rintro e w1 ⟨rfl, h1⟩
    have B1 := hid (Three.keep B0.out h1)
    clear B0 h1 K
    have q2 := B1.out.p2
    have c20 := cell_of q2 0
    have c21 := cell_of q2 1
    have c22 := cell_of q2 2
    have f20 := free_of q2 0
    have f21 := free_of q2 1
    have f22 := free_of q2 2
    have Q2 := hid q2
    clear q2
    go_wp2
    have S := heap_set (heap_set (heap_set Q2.out (i := 0) (.int .i64 6)) (i := 1) (.int .i64 0)) (i := 2) (.string none8)
    have s0 := cell_of S 0
    have s1 := cell_of S 1
    have s2 := cell_of S 2
    refine bodyPost_ret (v := .tuple #[.float .f64 0, FltD.val ⟨6, 0, none8⟩]) (by simp [results, Try.results19, go_sem, s0, s1, s2]) rfl ⟨rfl, ?_⟩
    have hge := B1.out.t.size
    repeat (first | exact B1.out.t | refine Touch.drew ?_ | refine Touch.alloc ?_ _ | refine Touch.setCell ?_ (.inr (by simp; omega)) _)
end Go.Proofs.Ytiglfdefeaddmaa
