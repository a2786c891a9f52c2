/- Stored events that came in; what Fold tells. What Fold tells, walked. Lists of stored events: Few, SameEvent, SameStored, LentStored, StaysStored. The book's SameStored, LentStored, StaysStored. StaysStored; a list of stored events that came in. Folds: at the one NaN, and in two parts. A list of stored events that came in, read. -/
import Derived.Test.YtiglfdefeaddmaaPRun
import Derived.Test.YtiglfdefeaddmaaTwo
import Derived.Test.YtiglfdefeaddmaaMean
import Derived.Deep.Slices
import Derived.Test.YtiglfdefeaddmaaRefReal
import Derived.Test.YtiglfdefeaddmaaAppT
import Derived.StillTailTactics
import Derived.IntWalk
import Derived.OpenShut
namespace Go.Proofs.Ytiglfdefeaddmaa
open Go.RowKit Go.Lib Go.ChangeShapes Go.WideShapes

structure StoD where
  id : Int
  typ : ByteArray
  data : ByteArray
  value : Nat
  stream : ByteArray
  version : Int
  position : Int
  time : Int
structure StoD.Ok (s : StoD) : Prop where
  v : Wd s.value
  lo : -9223372036854775808 ≤ s.version
  hi : s.version ≤ 9223372036854775807
  t : s.typ.size ≤ maxLen
  d : s.data.size ≤ maxLen
  s : s.stream.size ≤ maxLen
/-- At place i of the row at b, off stands s. -/
structure StoAt (W : World) (b off i : Nat) (s : StoD) : Prop where
  c0 : W.cell? ⟨b, off + i * 8, none⟩ = some (.int .i64 s.id)
  c1 : W.cell? ⟨b, off + i * 8 + 1, none⟩ = some (.string s.typ)
  c2 : W.cell? ⟨b, off + i * 8 + 2, none⟩ = some (.string s.data)
  c3 : W.cell? ⟨b, off + i * 8 + 3, none⟩ = some (.float .f64 s.value)
  c4 : W.cell? ⟨b, off + i * 8 + 4, none⟩ = some (.string s.stream)
  c5 : W.cell? ⟨b, off + i * 8 + 5, none⟩ = some (.int .i64 s.version)
  c6 : W.cell? ⟨b, off + i * 8 + 6, none⟩ = some (.int .i64 s.position)
  c7 : W.cell? ⟨b, off + i * 8 + 7, none⟩ = some (.int .i64 s.time)
theorem StoAt.touch {W W' : World} {b off i : Nat} {s : StoD} (h : StoAt W b off i s) (t : Touch [] W W') : StoAt W' b off i s :=
  ⟨t.cell h.c0, t.cell h.c1, t.cell h.c2, t.cell h.c3, t.cell h.c4, t.cell h.c5, t.cell h.c6, t.cell h.c7⟩
def StoX (W : World) (x : Option Addr) (l : List StoD) : Prop := ∀ i (h : i < l.length), ∃ b off, x = some ⟨b, off, none⟩ ∧ StoAt W b off i l[i] ∧ l[i].Ok
theorem StoX.touch {W W' : World} {x : Option Addr} {l : List StoD} (h : StoX W x l) (t : Touch [] W W') : StoX W' x l := fun i hi => by
  obtain ⟨b, off, h1, h2, h3⟩ := h i hi
  exact ⟨b, off, h1, h2.touch t, h3⟩

/-- What a program sees of a stored event. -/
def envOf (st : Nat) (s : StoD) : EnvD := ⟨st, s.id, s.typ, s.data, s.value, s.version⟩
noncomputable def foldStep (ws : List ByteArray) (p : Nat × Nat) (s : StoD) : Nat × Nat :=
  if (runOf (envOf p.1 s) ws).2.err = 0 then ((runOf (envOf p.1 s) ws).1, p.2) else (p.1, p.2 + 1)
noncomputable def foldOf (ws : List ByteArray) (st : Nat) (l : List StoD) : Nat × Nat := l.foldl (foldStep ws) (st, 0)

theorem step_wd (E : EnvD) (hE : E.Ok) (k : Wk) (hk : ∀ b, k = .num b → Wd b) (s s' : List Nat) (hs : ∀ x ∈ s, Wd x) (h : stepK E k s = .ok s') : ∀ x ∈ s', Wd x := by
  have one : ∀ (v : Nat) (t : List Nat), Wd v → (∀ x ∈ t, Wd x) → ∀ x ∈ v :: t, Wd x := fun v t hv ht x hx => by
    rcases List.mem_cons.1 hx with rfl | hx
    · exact hv
    · exact ht x hx
  have tl : ∀ (v : Nat) (t : List Nat), (∀ x ∈ v :: t, Wd x) → Wd v ∧ ∀ x ∈ t, Wd x := fun v t h => ⟨h v (by simp), fun x hx => h x (by simp [hx])⟩
  unfold stepK at h
  split at h
  · cases h; exact one _ _ hE.s.can hs
  · cases h; exact one _ _ hE.v.can hs
  · cases h; exact one _ _ (fl_wd _).can hs
  · cases h; exact one _ _ (fl_wd _).can hs
  · split at h
    · cases h; exact one _ _ (fl_wd _).can (tl _ _ hs).2
    · cases h
  · cases h; exact one _ _ (tl _ _ hs).1.flip.can (tl _ _ hs).2
  · cases h; exact one _ _ (tl _ _ hs).1.can (one _ _ (tl _ _ hs).1.can (tl _ _ hs).2)
  · cases h; exact (tl _ _ hs).2
  · cases h
    obtain ⟨hb, h2⟩ := tl _ _ hs
    obtain ⟨ha, h3⟩ := tl _ _ h2
    exact one _ _ ha.can (one _ _ hb.can h3)
  · cases h
    obtain ⟨hc, h2⟩ := tl _ _ hs
    obtain ⟨hb, h3⟩ := tl _ _ h2
    obtain ⟨ha, h4⟩ := tl _ _ h3
    exact one _ _ (Wd.can (by split; exact hb; exact ha)) h4
  · cases h
  · cases h; exact one _ _ (ar_wd _ _ _).can (tl _ _ (tl _ _ hs).2).2
  · cases h; exact one _ _ (ar_wd _ _ _).can (tl _ _ (tl _ _ hs).2).2
  · cases h; exact one _ _ (ar_wd _ _ _).can (tl _ _ (tl _ _ hs).2).2
  · cases h; exact one _ _ (ar_wd _ _ _).can (tl _ _ (tl _ _ hs).2).2
  · cases h
    obtain ⟨hb, h2⟩ := tl _ _ hs
    obtain ⟨ha, h3⟩ := tl _ _ h2
    exact one _ _ (Wd.can (pick2_wd ha hb)) h3
  · cases h
    obtain ⟨hb, h2⟩ := tl _ _ hs
    obtain ⟨ha, h3⟩ := tl _ _ h2
    exact one _ _ (Wd.can (pick2_wd ha hb)) h3
  · cases h; exact one _ _ (Wd.can (by split <;> decide)) (tl _ _ (tl _ _ hs).2).2
  · cases h; exact one _ _ (hk _ rfl).can hs
  · cases h
theorem kind_wd (l : List UInt8) (b : Nat) (h : kindOf l = .num b) : Wd b := by
  rcases name_cases l with hn | hn
  · rcases hn with hn | hn | hn | hn | hn | hn | hn | hn | hn | hn | hn | hn | hn | hn | hn | hn | hn | hn <;> (rw [hn] at h; cases h)
  · by_cases e : (parseOf l).2 = 0
    · rw [kind_num hn e] at h
      cases h
      exact parse_wd l
    · rw [kind_none hn e] at h; cases h
theorem exec_wd (E : EnvD) (hE : E.Ok) : ∀ (ws : List (List UInt8)) (s s' : List Nat), (∀ x ∈ s, Wd x) → exec E ws s = .ok s' → ∀ x ∈ s', Wd x
  | [], s, s', hs, h => by cases h; exact hs
  | w :: ws, s, s', hs, h => by
    unfold exec at h
    cases hst : stepK E (kindOf w) s with
    | ok t =>
      rw [hst] at h
      exact exec_wd E hE ws t s' (step_wd E hE _ (fun b hb => kind_wd w b hb) s t hs hst) h
    | bad f => rw [hst] at h; cases h
theorem run_wd (E : EnvD) (hE : E.Ok) (l : List ByteArray) : Wd (runOf E l).1 := by
  unfold runOf
  split
  · cases h : exec E (wordsL l) [] with
    | bad f => exact (by decide : Wd 0)
    | ok s =>
      rcases s with _ | ⟨x, _ | ⟨y, s⟩⟩
      · exact (by decide : Wd 0)
      · exact exec_wd E hE _ [] [x] (by simp) h x (by simp)
      · exact (by decide : Wd 0)
  · exact (by decide : Wd 0)
theorem foldStep_wd (ws : List ByteArray) (p : Nat × Nat) (s : StoD) (hp : Wd p.1) (hs : s.Ok) (hd : s.data.size ≤ 300) : Wd (foldStep ws p s).1 := by
  unfold foldStep
  split
  · exact run_wd _ ⟨hp, hs.v, hd, hs.lo, hs.hi⟩ ws
  · exact hp
theorem folds_wd (ws : List ByteArray) : ∀ (l : List StoD) (p : Nat × Nat), Wd p.1 → (∀ s ∈ l, s.Ok ∧ s.data.size ≤ 300) → Wd (l.foldl (foldStep ws) p).1
  | [], p, hp, _ => hp
  | s :: l, p, hp, h => folds_wd ws l _ (foldStep_wd ws p s hp (h s (by simp)).1 (h s (by simp)).2) (fun t ht => h t (by simp [ht]))
theorem fold_cnt (ws : List ByteArray) : ∀ (l : List StoD) (p : Nat × Nat), (l.foldl (foldStep ws) p).2 ≤ p.2 + l.length
  | [], p => by simp
  | s :: l, p => by
    have := fold_cnt ws l (foldStep ws p s)
    have h2 : (foldStep ws p s).2 ≤ p.2 + 1 := by unfold foldStep; split <;> simp
    simp only [List.foldl_cons, List.length_cons]
    omega
end Go.Proofs.Ytiglfdefeaddmaa

namespace Go.Proofs.Ytiglfdefeaddmaa
open Go.RowKit Go.Lib

theorem fold_take_one (ws : List ByteArray) (st : Nat) (l : List StoD) (k : Nat) (h : k < l.length) : (l.take (k + 1)).foldl (foldStep ws) (st, 0) = foldStep ws ((l.take k).foldl (foldStep ws) (st, 0)) l[k] := by
  rw [List.take_succ_eq_append_getElem h, List.foldl_append]; rfl
def FoldPost (r : Nat × Nat) (W : World) (e : Ending) (W' : World) : Prop := e = .returned (.tuple #[.float .f64 (can r.1), .int .i64 (r.2 : Int)]) ∧ Touch [] W W'

set_option maxHeartbeats 4000000 in
set_option maxRecDepth 100000 in
theorem fold_any (xw : Option Addr) (cw : Nat) (ws : List ByteArray) (st : Nat) (x : Option Addr) (c : Nat) (l : List StoD) (W : World) (hw : TextsX W xw ws) (hwl : ws.length ≤ 100000) (hst : Wd st) (hl : l.length ≤ 1000) (hx : StoX W x l) (hd : ∀ s ∈ l, s.data.size ≤ 300) :
    Calls Try.prog 14 #[.agg #[.slice xw ws.length cw], .float .f64 st, .slice x l.length c] W (FoldPost (foldOf ws st l) W) := by
  have hsf := store_flt
  have HXW := hid hw
  have HX := hid hx
  have HST := hid hst
  have HL := hid hl
  have HD : Hid (∀ s ∈ l, s.Ok ∧ s.data.size ≤ 300) := fun s hs => by
    obtain ⟨i, hi, rfl⟩ := List.getElem_of_mem hs
    obtain ⟨_, _, _, _, h3⟩ := hx i hi
    exact ⟨h3, hd _ hs⟩
  have HWL := hid hwl
  clear hw hx hst hl hd hwl
  go_enter Try.func14, Try.ntmps14
  go_wp2
  have HB := hid (heap_alloc_new W (.cells #[.slice xw ws.length cw] 29))
  have HT : Hid (Touch [] W (W.alloc (.cells #[.slice xw ws.length cw] 29))) := hid ((Touch.refl _ _).alloc _)
  generalize W.alloc (.cells #[.slice xw ws.length cw] 29) = W1 at *
  go_loopw [1, 8, 15] (fun sv nv iv wr => ∃ k : Nat, k ≤ l.length ∧ iv = .int .i64 k ∧ sv = .float .f64 ((l.take k).foldl (foldStep ws) (st, 0)).1 ∧ nv = .int .i64 (((l.take k).foldl (foldStep ws) (st, 0)).2 : Int) ∧ Touch [] W1 wr) (fun _ _ iv _ => l.length - (RowKit.intOf iv).toNat)
  case atStart => exact ⟨0, Nat.zero_le _, rfl, rfl, rfl, Touch.refl _ _⟩
  case round =>
    obtain ⟨k, hk, rfl, rfl, rfl, ht⟩ := hrel
    have HTr := hid ht
    clear ht
    have hpw := folds_wd ws (l.take k) (st, 0) HST.out (fun s hs => HD.out s (List.mem_of_mem_take hs))
    have hcnt := fold_cnt ws (l.take k) (st, 0)
    have hcn : ((l.take k).foldl (foldStep ws) (st, 0)).2 ≤ 1000 := by
      have := HL.out
      have h2 := List.length_take_le k l
      simp only [Nat.zero_add] at hcnt
      omega
    clear hcnt
    by_cases hlt : k < l.length
    · obtain ⟨b, off, rfl, g1, g2⟩ := HX.out k hlt
      have hn := hid (fold_take_one ws st l k hlt)
      obtain ⟨a0, a1, a2, a3, a4, a5, a6, a7⟩ := g1.touch (HT.out.trans HTr.out (by simp))
      have hdk := (HD.out l[k] (List.getElem_mem hlt)).2
      have hl2 : decide (k < l.length) = true := by simpa using hlt
      have hkI : (k : Int) < l.length := by omega
      have hlI : (l.length : Int) ≤ 1000 := by have := HL.out; omega
      generalize (l.take k).foldl (foldStep ws) (st, 0) = p at *
      obtain ⟨p1, p2⟩ := p
      simp only at hpw hcn
      have HE := hid (show (envOf p1 l[k]).Ok from ⟨hpw, g2.v, hdk, g2.lo, g2.hi⟩)
      have R := hid (fun (w1 : World) (h : Touch [] W w1) => run_any xw cw ws (envOf p1 l[k]) w1 HE.out (by have := HWL.out; omega) (HXW.out.touch h))
      have b1 := fun o : Obj => cell_alloc (touch_other HTr.out HB.out (by simp)) 0 o
      unfold foldStep at hn
      simp only at hn
      have hrw := run_wd _ HE.out ws
      unfold envOf at R hn hrw
      clear g1 g2 hdk hpw
      generalize l[k] = s at *
      obtain ⟨sid, styp, sdata, svalue, sstream, sversion, sposition, stime⟩ := s
      generalize runOf _ ws = r at *
      obtain ⟨r1, ⟨er, kd, tx⟩⟩ := r
      by_cases he : er = 0
      · subst he
        have hn2 : Hid ((l.take (k + 1)).foldl (foldStep ws) (st, 0) = (r1, p2)) := hn.out.trans (if_pos rfl)
        clear hn
        go_wp2_with fail
        refine (R.out _ ((HT.out.trans HTr.out (by simp)).alloc _)).mono ?_
        rintro e w1 ⟨rfl, t1⟩
        have T1 := hid ((HTr.out.alloc _).trans t1 (by simp))
        clear t1 R
        go_wp2
        go_roundw
        case rel => exact ⟨k + 1, by omega, by go_num, by rw [hn2.out], by rw [hn2.out], T1.out.alloc _⟩
        case measure => simp [RowKit.intOf]; omega
      · have he2 : (er != 0) = true := by simpa using he
        have hn2 : Hid ((l.take (k + 1)).foldl (foldStep ws) (st, 0) = (p1, p2 + 1)) := hn.out.trans (if_neg he)
        have hp2 : (p2 : Int) ≤ 1000 := by omega
        clear hn he
        go_wp2_with fail
        refine (R.out _ ((HT.out.trans HTr.out (by simp)).alloc _)).mono ?_
        rintro e w1 ⟨rfl, t1⟩
        have T1 := hid ((HTr.out.alloc _).trans t1 (by simp))
        clear t1 R
        go_wp2
        go_roundw
        case rel => exact ⟨k + 1, by omega, by go_num, by rw [hn2.out], by rw [hn2.out]; go_num, T1.out.alloc _⟩
        case measure => simp [RowKit.intOf]; omega
    · obtain rfl : k = l.length := by omega
      have hl2 : decide (l.length < l.length) = false := by simp
      have hw : l.take l.length = l := List.take_of_length_le (Nat.le_refl _)
      rw [hw] at hpw hcn ⊢
      have hf : Hid (l.foldl (foldStep ws) (st, 0) = foldOf ws st l) := rfl
      generalize l.foldl (foldStep ws) (st, 0) = p at *
      obtain ⟨p1, p2⟩ := p
      simp only at hpw hcn
      have CC := hid (fun w => canon_any p1 w hpw)
      clear hk hlt hpw
      go_wp2_with (go_at_call 31; refine (CC.out _).mono ?_; rintro e w' ⟨rfl, rfl⟩)
      go_ret2
      rw [← hf.out]
      exact ⟨rfl, HT.out.trans HTr.out (by simp)⟩
end Go.Proofs.Ytiglfdefeaddmaa

namespace Go.Proofs.Ytiglfdefeaddmaa
open Go.RowKit Go.Lib Go.ChangeShapes Go.WideShapes

def smallB (s : StoD) : Bool := !(decide (100 < s.stream.size) || decide (100 < s.typ.size) || decide (300 < s.data.size))
def fewB (n : Nat) (l : List StoD) : Bool := (l.take n).all smallB && decide (l.length ≤ n)

set_option maxHeartbeats 2000000 in
theorem few_any (n : Nat) (hn : n ≤ 1000) (x : Option Addr) (c : Nat) (l : List StoD) (W : World) (hl : l.length ≤ 9223372036854775807) (hx : StoX W x l) :
    Calls Try.prog 9 #[.int .i64 (n : Int), .slice x l.length c] W fun e w' => e = .returned (.bool (fewB n l)) ∧ W = w' := by
  have HX := hid hx
  have HL := hid hl
  have HN := hid hn
  clear hx hl hn
  go_enter Try.func9, Try.ntmps9
  go_wp2
  go_loop [5] (fun iv => ∃ k : Nat, k ≤ l.length ∧ k ≤ n ∧ iv = .int .i64 k ∧ (l.take k).all smallB = true) (fun iv => l.length - (RowKit.intOf iv).toNat)
  case atStart => exact ⟨0, Nat.zero_le _, Nat.zero_le _, rfl, rfl⟩
  case round =>
    obtain ⟨k, hk, hkn, rfl, hall⟩ := hrel
    have HA := hid hall
    clear hall
    by_cases hlt : k < l.length
    · by_cases hkf : k < n
      · obtain ⟨b, off, rfl, g1, g2⟩ := HX.out k hlt
        obtain ⟨a0, a1, a2, a3, a4, a5, a6, a7⟩ := g1
        have hl2 : decide (k < l.length) = true := by simpa using hlt
        have hl3 : decide (k < n) = true := by simpa using hkf
        have hkI : (k : Int) < l.length := by omega
        have hk1 : (k : Int) ≤ 1000 := by have := HN.out; omega
        have hstep := hid (show (l.take (k + 1)).all smallB = ((l.take k).all smallB && smallB l[k]) by rw [List.take_succ_eq_append_getElem hlt, List.all_append]; simp)
        have hbad := hid (fun (h : smallB l[k] = false) => show fewB n l = false by
          unfold fewB
          rw [Bool.and_eq_false_iff]
          left
          rw [← Bool.not_eq_true, List.all_eq_true]
          intro h2
          have := h2 l[k] (by rw [List.mem_iff_getElem]; exact ⟨k, by rw [List.length_take]; omega, by simp⟩)
          rw [h] at this; cases this)
        clear g2
        generalize l[k] = s at *
        obtain ⟨sid, styp, sdata, svalue, sstream, sversion, sposition, stime⟩ := s
        simp only at a0 a1 a2 a3 a4 a5 a6 a7
        by_cases t1 : 100 < sstream.size
        · have d1 : decide (100 < sstream.size) = true := by simpa using t1
          have d1i : decide (100 < (sstream.size : Int)) = true := by simp; omega
          have hf := hid (hbad.out (by unfold smallB; simp [d1]))
          clear t1
          go_wp2
          go_ret
          exact ⟨by rw [hf.out]; rfl, rfl⟩
        by_cases t2 : 100 < styp.size
        · have d1 : decide (100 < sstream.size) = false := by simpa using t1
          have d1i : decide (100 < (sstream.size : Int)) = false := by simp; omega
          have d2 : decide (100 < styp.size) = true := by simpa using t2
          have d2i : decide (100 < (styp.size : Int)) = true := by simp; omega
          have hf := hid (hbad.out (by unfold smallB; simp [d2]))
          clear t1 t2
          go_wp2
          go_ret
          exact ⟨by rw [hf.out]; rfl, rfl⟩
        by_cases t3 : 300 < sdata.size
        · have d1 : decide (100 < sstream.size) = false := by simpa using t1
          have d1i : decide (100 < (sstream.size : Int)) = false := by simp; omega
          have d2 : decide (100 < styp.size) = false := by simpa using t2
          have d2i : decide (100 < (styp.size : Int)) = false := by simp; omega
          have d3 : decide (300 < sdata.size) = true := by simpa using t3
          have d3i : decide (300 < (sdata.size : Int)) = true := by simp; omega
          have hf := hid (hbad.out (by unfold smallB; simp [d3]))
          clear t1 t2 t3
          go_wp2
          go_ret
          exact ⟨by rw [hf.out]; rfl, rfl⟩
        have d1 : decide (100 < sstream.size) = false := by simpa using t1
        have d1i : decide (100 < (sstream.size : Int)) = false := by simp; omega
        have d2 : decide (100 < styp.size) = false := by simpa using t2
        have d2i : decide (100 < (styp.size : Int)) = false := by simp; omega
        have d3 : decide (300 < sdata.size) = false := by simpa using t3
        have d3i : decide (300 < (sdata.size : Int)) = false := by simp; omega
        have hs := hid (hstep.out.trans (show ((l.take k).all smallB && smallB ⟨sid, styp, sdata, svalue, sstream, sversion, sposition, stime⟩) = true by rw [HA.out]; unfold smallB; simp [d1, d2, d3]))
        clear t1 t2 t3 hstep hbad
        go_wp2
        go_round
        case rel => exact ⟨k + 1, by omega, by omega, by go_num, hs.out⟩
        case measure => simp [RowKit.intOf]; omega
      · obtain rfl : k = n := by omega
        have hl2 : decide (k < l.length) = true := by simpa using hlt
        have hl3 : decide (k < k) = false := by simp
        have hf : Hid (fewB k l = decide (l.length ≤ k)) := by unfold Hid fewB; rw [HA.out]; rfl
        clear hlt hkf
        go_wp2
        go_ret
        exact ⟨by rw [hf.out]; simp, rfl⟩
    · obtain rfl : k = l.length := by omega
      have hl2 : decide (l.length < l.length) = false := by simp
      have hf : Hid (fewB n l = decide (l.length ≤ n)) := by
        unfold Hid fewB
        have h2 : l.take n = l := List.take_of_length_le hkn
        have h3 := HA.out
        rw [List.take_of_length_le (Nat.le_refl _)] at h3
        rw [h2, h3]; rfl
      clear hlt
      go_wp2
      go_ret
      exact ⟨by rw [hf.out]; simp; omega, rfl⟩
theorem few_parts {n : Nat} {l : List StoD} (h : fewB n l = true) : l.length ≤ n ∧ ∀ s ∈ l, s.data.size ≤ 300 := by
  unfold fewB at h
  rw [Bool.and_eq_true, decide_eq_true_eq, List.all_eq_true] at h
  refine ⟨h.2, fun s hs => ?_⟩
  have := h.1 s (by rw [List.take_of_length_le h.2]; exact hs)
  unfold smallB at this
  simp at this
  omega

/-- A stored event as a value. -/
@[reducible] def StoD.val (s : StoD) : Value := .agg #[.int .i64 s.id, .string s.typ, .string s.data, .float .f64 s.value, .string s.stream, .int .i64 s.version, .int .i64 s.position, .int .i64 s.time]
@[reducible] def StoD.ev (s : StoD) : Value := .agg #[.int .i64 s.id, .string s.typ, .string s.data, .float .f64 s.value]
theorem sameEvent_self (s : StoD) (W : World) (hs : Wd s.value) : Calls Try.prog 67 #[s.ev, s.ev] W fun e w' => e = .returned (.bool true) ∧ Touch [] W w' := by
  obtain ⟨sid, styp, sdata, svalue, sstream, sversion, sposition, stime⟩ := s
  have SM := hid (fun w => refSame_any svalue svalue w hs hs)
  simp only [decide_true] at SM
  clear hs
  go_enter Try.func67, Try.ntmps67
  go_wp2_with (go_at_call 15; refine (SM.out _).mono ?_; rintro e w' ⟨rfl, rfl⟩)
  go_ret
  exact ⟨rfl, ((Touch.refl _ _).alloc _).alloc _⟩
theorem new_at_two (W : World) (a b : Obj) : ((W.alloc a).alloc b).heap[W.heap.size + 1]? = some b := by
  have h := heap_alloc_new (W.alloc a) b
  have e : (W.alloc a).heap.size = W.heap.size + 1 := by simp
  rw [e] at h
  exact h
theorem sameStored_self (s : StoD) (W : World) (hs : Wd s.value) : Calls Try.prog 44 #[s.val, s.val] W fun e w' => e = .returned (.bool true) ∧ Touch [] W w' := by
  have SE := hid (fun w => sameEvent_self s w hs)
  obtain ⟨sid, styp, sdata, svalue, sstream, sversion, sposition, stime⟩ := s
  clear hs
  go_enter Try.func44, Try.ntmps44
  go_wp2_with fail
  refine (SE.out _).mono ?_
  rintro e w1 ⟨rfl, t1⟩
  have A1 := touch_other t1 (heap_alloc_keep (heap_alloc_new W (.cells #[.int .i64 sid, .string styp, .string sdata, .float .f64 svalue, .string sstream, .int .i64 sversion, .int .i64 sposition, .int .i64 stime] 38)) (.cells #[.int .i64 sid, .string styp, .string sdata, .float .f64 svalue, .string sstream, .int .i64 sversion, .int .i64 sposition, .int .i64 stime] 38)) (by simp)
  have A2 := touch_other t1 (new_at_two W (.cells #[.int .i64 sid, .string styp, .string sdata, .float .f64 svalue, .string sstream, .int .i64 sversion, .int .i64 sposition, .int .i64 stime] 38) (.cells #[.int .i64 sid, .string styp, .string sdata, .float .f64 svalue, .string sstream, .int .i64 sversion, .int .i64 sposition, .int .i64 stime] 38)) (by simp)
  have p4 := cell_of A1 4
  have p5 := cell_of A1 5
  have p6 := cell_of A1 6
  have p7 := cell_of A1 7
  have q4 := cell_of A2 4
  have q5 := cell_of A2 5
  have q6 := cell_of A2 6
  have q7 := cell_of A2 7
  have T := hid ((((Touch.refl [] W).alloc _).alloc _).trans t1 (by simp))
  clear A1 A2 t1
  go_wp2
  go_ret
  exact ⟨rfl, T.out⟩
end Go.Proofs.Ytiglfdefeaddmaa

namespace Go.Proofs.Ytiglfdefeaddmaa
open Go.RowKit Go.Lib Go.ChangeShapes Go.WideShapes

set_option maxHeartbeats 2000000 in
set_option maxRecDepth 100000 in
theorem sameList_any (x y : Option Addr) (c d : Nat) (l : List StoD) (W : World) (hl : l.length ≤ 1000) (hx : StoX W x l) (hy : StoX W y l) :
    Calls Try.prog 33 #[.slice y l.length d, .slice x l.length c] W fun e w' => e = .returned (.bool true) ∧ Touch [] W w' := by
  have HX := hid hx
  have HY := hid hy
  have HL := hid hl
  clear hx hy hl
  go_enter Try.func33, Try.ntmps33
  go_wp2
  go_loopw [5] (fun iv wr => ∃ k : Nat, k ≤ l.length ∧ iv = .int .i64 k ∧ Touch [] W wr) (fun iv _ => l.length - (RowKit.intOf iv).toNat)
  case atStart => exact ⟨0, Nat.zero_le _, rfl, Touch.refl _ _⟩
  case round =>
    obtain ⟨k, hk, rfl, ht⟩ := hrel
    have HT := hid ht
    clear ht
    by_cases hlt : k < l.length
    · obtain ⟨b, off, rfl, g1, g2⟩ := HX.out k hlt
      obtain ⟨b', off', rfl, g1', _⟩ := HY.out k hlt
      obtain ⟨a0, a1, a2, a3, a4, a5, a6, a7⟩ := g1.touch HT.out
      obtain ⟨e0, e1, e2, e3, e4, e5, e6, e7⟩ := g1'.touch HT.out
      have hl2 : decide (k < l.length) = true := by simpa using hlt
      have hkI : (k : Int) < l.length := by omega
      have hk0 : (0 : Int) ≤ k := by omega
      have hk1 : (l.length : Int) ≤ 1000 := by have := HL.out; omega
      have SS := hid (fun w => sameStored_self l[k] w g2.v)
      clear g1 g1' g2
      generalize l[k] = s at *
      obtain ⟨sid, styp, sdata, svalue, sstream, sversion, sposition, stime⟩ := s
      go_upto_region 6 with fail
      go_still_tail 8, (by kernel_rfl)
      change wpList _ _ _ _ _ wr.drew
      go_wp2_with fail
      refine (SS.out _).mono ?_
      rintro e w1 ⟨rfl, t1⟩
      have T1 := hid (HT.out.drew.trans t1 (by simp))
      clear t1 SS
      go_wp2
      go_roundw
      case rel => exact ⟨k + 1, by omega, by go_num, T1.out⟩
      case measure => simp [RowKit.intOf]; omega
    · obtain rfl : k = l.length := by omega
      have hl2 : decide (l.length < l.length) = false := by simp
      go_wp2
      go_ret
      exact ⟨rfl, HT.out⟩

def StoD.list (s : StoD) : List Value := [.int .i64 s.id, .string s.typ, .string s.data, .float .f64 s.value, .string s.stream, .int .i64 s.version, .int .i64 s.position, .int .i64 s.time]
def stoVals (l : List StoD) : List Value := l.flatMap StoD.list
theorem stoVals_len (l : List StoD) : (stoVals l).length = l.length * 8 := by
  induction l with
  | nil => rfl
  | cons s l ih => show (s.list ++ stoVals l).length = _; rw [List.length_append, ih]; simp [StoD.list]; omega
theorem stoVals_at (l : List StoD) (i j : Nat) (hi : i < l.length) (hj : j < 8) : (stoVals l)[i * 8 + j]? = l[i].list[j]? := by
  induction l generalizing i with
  | nil => simp at hi
  | cons s l ih =>
    show (s.list ++ stoVals l)[i * 8 + j]? = _
    have hl : s.list.length = 8 := rfl
    cases i with
    | zero => rw [List.getElem?_append_left (by omega)]; simp
    | succ i =>
      rw [List.getElem?_append_right (by omega), hl, show (i + 1) * 8 + j - 8 = i * 8 + j by omega]
      simpa using ih i (by simpa using hi)
theorem add_at (b off i : Nat) : (⟨b, off, none⟩ : Addr).add i = ⟨b, off + i, none⟩ := by unfold Addr.add; split <;> simp_all
/-- The cells of a list that lies at b, off. -/
theorem stoX_of {w : World} {b off : Nat} {l : List StoD} (h : ∀ j u, (stoVals l)[j]? = some u → w.cell? ⟨b, off + j, none⟩ = some u) (hok : ∀ s ∈ l, s.Ok) : StoX w (some ⟨b, off, none⟩) l := fun i hi => by
  have key : ∀ j u, j < 8 → l[i].list[j]? = some u → w.cell? ⟨b, off + i * 8 + j, none⟩ = some u := fun j u hj hu => by
    have := h (i * 8 + j) u (by rw [stoVals_at l i j hi hj]; exact hu)
    rwa [← Nat.add_assoc] at this
  exact ⟨b, off, rfl, ⟨key 0 _ (by decide) rfl, key 1 _ (by decide) rfl, key 2 _ (by decide) rfl, key 3 _ (by decide) rfl, key 4 _ (by decide) rfl, key 5 _ (by decide) rfl, key 6 _ (by decide) rfl, key 7 _ (by decide) rfl⟩, hok _ (List.getElem_mem hi)⟩
theorem stoX_cells {w : World} {b off : Nat} {l : List StoD} (h : StoX w (some ⟨b, off, none⟩) l) : ∀ j u, (stoVals l)[j]? = some u → w.cell? ⟨b, off + j, none⟩ = some u := fun j u hu => by
  have hj : j < l.length * 8 := by
    rw [← stoVals_len]
    exact (List.getElem?_eq_some_iff.1 hu).1
  have hi : j / 8 < l.length := by omega
  obtain ⟨b', off', e, ha, _⟩ := h (j / 8) hi
  simp at e
  obtain ⟨rfl, rfl⟩ := e
  have hjj : j = j / 8 * 8 + j % 8 := by omega
  have h8 : j % 8 < 8 := Nat.mod_lt _ (by decide)
  rw [hjj, stoVals_at l (j / 8) (j % 8) hi h8] at hu
  generalize j / 8 = q at *
  generalize j % 8 = r at *
  subst hjj
  rw [← Nat.add_assoc]
  have h9 : r = 0 ∨ r = 1 ∨ r = 2 ∨ r = 3 ∨ r = 4 ∨ r = 5 ∨ r = 6 ∨ r = 7 := by omega
  rcases h9 with rfl | rfl | rfl | rfl | rfl | rfl | rfl | rfl <;> (simp [StoD.list] at hu; subst hu)
  · exact ha.c0
  · exact ha.c1
  · exact ha.c2
  · exact ha.c3
  · exact ha.c4
  · exact ha.c5
  · exact ha.c6
  · exact ha.c7

abbrev TSto : TypeId := 38
def markSto : StoD := ⟨0, none8, none8, 0, none8, 0, -77, 0⟩
theorem infoSto : (Try.prog.info? TSto).map (fun i => (i.zero.map fun z => z.cells.size, i.size, i.bytes)) = some (some 8, 8, 88) := by kernel_rfl
theorem info_sto : ∃ i z, Try.prog.info? TSto = some i ∧ i.zero = some z ∧ i.size = 8 ∧ i.bytes = 88 ∧ z.cells.size = 8 := by
  obtain ⟨i, hi, h⟩ := Option.map_eq_some_iff.1 infoSto
  simp only [Prod.mk.injEq] at h
  obtain ⟨z, hz, h0⟩ := Option.map_eq_some_iff.1 h.1
  exact ⟨i, z, hi, hz, h.2.1, h.2.2, h0⟩
theorem stoVals_snoc (l : List StoD) (s : StoD) : stoVals l ++ s.list = stoVals (l ++ [s]) := by simp [stoVals]
theorem stoVals_one (l : List StoD) : ∀ u ∈ stoVals l, u.oneCell' = true := by
  intro u hu
  unfold stoVals at hu
  rw [List.mem_flatMap] at hu
  obtain ⟨s, _, hs⟩ := hu
  simp [StoD.list] at hs
  rcases hs with rfl | rfl | rfl | rfl | rfl | rfl | rfl | rfl <;> rfl

theorem own_row' {W : World} {base : Nat} {e : TypeId} {size : Nat} {v : Value} {n : Nat} {xs : List Value} (h : W.ownsRow base e size v n xs) : ∀ k, v.ownBlock = some k → base ≤ k := own_row h
/-- What LentStored leaves. -/
def LentSto (l : List StoD) (W : World) (e : Ending) (W' : World) : Prop :=
  ∃ g cap, e = .returned (.slice (some ⟨g, 0, none⟩) l.length cap) ∧ l.length + 1 ≤ cap ∧ cap ≤ maxLen ∧ W'.ownsRow W.heap.size TSto 8 (.slice (some ⟨g, 0, none⟩) (l.length + 1) cap) (l.length + 1) (stoVals (l ++ [markSto])) ∧ Touch [] W W'
theorem sto_row {W : World} {base n : Nat} {v : Value} {xs : List Value} (h : W.ownsRow base TSto 8 v (n + 1) xs) : ∃ g cap, v = .slice (some ⟨g, 0, none⟩) (n + 1) cap ∧ n + 1 ≤ cap ∧ cap ≤ maxLen := by
  rcases h.2 with ⟨_, h0⟩ | ⟨g, cap, cur, rfl, _, _, hc, hm, _⟩
  · cases h0
  · exact ⟨g, cap, rfl, hc, hm⟩

set_option maxHeartbeats 2000000 in
set_option maxRecDepth 100000 in
theorem lentSto_any (x : Option Addr) (c : Nat) (l : List StoD) (W : World) (hl : l.length ≤ 1000) (hx : StoX W x l) (hn : x = none → c = 0 ∧ l = []) :
    Calls Try.prog 13 #[.slice x l.length c] W (LentSto l W) := by
  obtain ⟨i0, z0, hi, hz0, hz1, hz2, hz3⟩ := info_sto
  have hsf := store_flt
  cases x with
  | none =>
    obtain ⟨rfl, rfl⟩ := hn rfl
    go_enter Try.func13, Try.ntmps13
    go_wp2_with (at_builtin; refine wpList_append_own _ rfl (.tmp 4) (.tmp 6) 24 rfl W.heap.size TSto i0 z0 8 88 Try.underlying24 hi hz0 hz1 hz2 hz3 (by decide) (.slice none 0 0) 0 [] rfl (World.ownsRow_nil _ _ _ _) ⟨W.heap.size, 0, none⟩ 1 1 markSto.list rfl rfl (World.news_of_block (cs := markSto.list.toArray) (t := TSto) (fr := (0, 0)) (heap_alloc_new W _)) (by intro u hu; simp [StoD.list] at hu; rcases hu with rfl | rfl | rfl | rfl | rfl | rfl | rfl | rfl <;> rfl) (by unfold maxLen; omega) (by omega) (by simp) ?_; intro v2 w2 hown2 hg2 _; obtain ⟨g, cap, rfl, hcap, hcm⟩ := sto_row hown2; (have hcI : (0 : Int) ≤ cap := by omega); (have O2 := hid hown2); (have G2 := hid hg2); clear hown2 hg2)
    go_ret
    exact ⟨g, cap, rfl, hcap, hcm, by simpa [stoVals] using O2.out, ((Touch.refl [] W).alloc _).grown G2.out (fun k hk => by cases hk)⟩
  | some ad =>
    have HNW : Hid (∀ j u, (stoVals l)[j]? = some u → W.cell? (ad.add j) = some u) := fun j u hu => by
      have hj := (List.getElem?_eq_some_iff.1 hu).1
      rw [stoVals_len] at hj
      obtain ⟨b, off, e, _, _⟩ := hx 0 (by omega)
      simp at e
      subst e
      rw [add_at]
      exact stoX_cells hx j u hu
    have HL := hid hl
    have hlI : (l.length : Int) ≤ 1000 := by omega
    clear hx hn hl
    go_enter Try.func13, Try.ntmps13
    go_wp2_with (first | (at_builtin; refine wpList_append_own _ rfl (.const (.slice none 0 0)) (.tmp 3) 24 rfl W.heap.size TSto i0 z0 8 88 Try.underlying24 hi hz0 hz1 hz2 hz3 (by decide) (.slice none 0 0) 0 [] rfl (World.ownsRow_nil _ _ _ _) ad l.length c (stoVals l) rfl (stoVals_len l) HNW.out (stoVals_one l) (by unfold maxLen; omega) (by omega) (Nat.le_refl _) ?_; intro v1 w1 hown1 hg1 _; simp only [Nat.zero_add, List.nil_append] at hown1; have O1 := hid hown1; have T1 : Hid (Touch [] W w1) := hid ((Touch.refl [] W).grown hg1 (fun k hk => by cases hk)); clear hown1 hg1) | (at_builtin; refine wpList_append_own _ rfl (.tmp 4) (.tmp 6) 24 rfl W.heap.size TSto i0 z0 8 88 Try.underlying24 hi hz0 hz1 hz2 hz3 (by decide) v1 l.length (stoVals l) rfl (O1.out.alloc _) ⟨w1.heap.size, 0, none⟩ 1 1 markSto.list rfl rfl (World.news_of_block (cs := markSto.list.toArray) (t := TSto) (fr := (0, 0)) (heap_alloc_new w1 _)) (by intro u hu; simp [StoD.list] at hu; rcases hu with rfl | rfl | rfl | rfl | rfl | rfl | rfl | rfl <;> rfl) (by unfold maxLen; omega) (by omega) (by have := T1.out.size; simp; omega) ?_; intro v2 w2 hown2 hg2 _; obtain ⟨g, cap, rfl, hcap, hcm⟩ := sto_row hown2; (have hcI : (l.length : Int) ≤ cap := by omega); (have O2 := hid hown2); (have T2 : Hid (Touch [] W w2) := hid ((T1.out.alloc _).grown hg2 (fun k hk => .inr (own_row' O1.out k hk)))); clear hown2 hg2))
    go_ret
    exact ⟨g, cap, rfl, hcap, hcm, by rw [← stoVals_snoc]; exact O2.out, T2.out⟩
end Go.Proofs.Ytiglfdefeaddmaa

namespace Go.Proofs.Ytiglfdefeaddmaa
open Go.RowKit Go.Lib Go.ChangeShapes Go.WideShapes

/-- A row with the mark behind it. -/
def Marked (W : World) (base g cap : Nat) (l : List StoD) : Prop := W.ownsRow base TSto 8 (.slice (some ⟨g, 0, none⟩) (l.length + 1) cap) (l.length + 1) (stoVals (l ++ [markSto]))
theorem Marked.touch {W W' : World} {base g cap : Nat} {l : List StoD} (h : Marked W base g cap l) (t : Touch [] W W') : Marked W' base g cap l := by
  refine ⟨h.1, ?_⟩
  rcases h.2 with h2 | ⟨b, cap, cur, hv, hb, hh, r⟩
  · exact .inl h2
  · exact .inr ⟨b, cap, cur, hv, hb, (t.block b (lt_of_block hh) (by simp)).trans hh, r⟩
theorem Marked.cell {W : World} {base g cap : Nat} {l : List StoD} (h : Marked W base g cap l) (j : Nat) (u : Value) (hu : (stoVals (l ++ [markSto]))[j]? = some u) : W.cell? ⟨g, j, none⟩ = some u := by
  have := h.cells (g := g) rfl j u hu
  rwa [add_at, Nat.zero_add] at this
theorem Marked.list {W : World} {base g cap : Nat} {l : List StoD} (h : Marked W base g cap l) (hok : ∀ s ∈ l, s.Ok) : StoX W (some ⟨g, 0, none⟩) l := by
  refine stoX_of (fun j u hu => ?_) hok
  rw [Nat.zero_add]
  refine h.cell j u ?_
  rw [← stoVals_snoc, List.getElem?_append_left (List.getElem?_eq_some_iff.1 hu).1]
  exact hu
theorem Marked.mark {W : World} {base g cap : Nat} {l : List StoD} (h : Marked W base g cap l) : W.cell? ⟨g, l.length * 8 + 6, none⟩ = some (.int .i64 (-77)) := by
  refine h.cell _ _ ?_
  rw [stoVals_at (l ++ [markSto]) l.length 6 (by simp) (by decide)]
  simp [StoD.list, markSto]

set_option maxHeartbeats 2000000 in
set_option maxRecDepth 100000 in
theorem stays_any (g cap base : Nat) (x : Option Addr) (c : Nat) (l : List StoD) (W : World) (hl : l.length ≤ 1000) (hcap : l.length + 1 ≤ cap) (hm : Marked W base g cap l) (hx : StoX W x l) (hok : ∀ s ∈ l, s.Ok) :
    Calls Try.prog 16 #[.slice (some ⟨g, 0, none⟩) l.length cap, .slice x l.length c] W fun e w' => e = .returned (.bool true) ∧ Touch [] W w' := by
  have S := hid (sameList_any x (some ⟨g, 0, none⟩) c cap l W hl hx (hm.list hok))
  have HM := hid hm
  have h1 : (l.length : Int) ≤ 1000 := by omega
  have h2 : (l.length : Int) + 1 ≤ cap := by omega
  clear hl hcap hm hx hok
  go_enter Try.func16, Try.ntmps16
  go_wp2_with fail
  refine S.out.mono ?_
  rintro e w1 ⟨rfl, t1⟩
  have hmk := (HM.out.touch t1).mark
  have T1 := hid t1
  clear t1 S
  go_wp2
  go_ret
  exact ⟨rfl, T1.out⟩

/-- The slice value v is the list l of stored events. -/
def Stos (W : World) (v : Value) (l : List StoD) : Prop :=
  ∃ (x : Option Addr) (c : Nat), v = .slice x l.length c ∧ l.length ≤ c ∧ c ≤ 9223372036854775807 ∧ StoX W x l ∧ (x = none → c = 0 ∧ l = [])
end Go.Proofs.Ytiglfdefeaddmaa

namespace Go.Proofs.Ytiglfdefeaddmaa
open Go.RowKit Go.Lib

theorem step_can (E : EnvD) (k : Wk) (s : List Nat) : stepK { E with state := can E.state } k s = stepK E k s := by
  cases k
  case state => show Out.ok (can (can E.state) :: s) = Out.ok (can E.state :: s); rw [can_can]
  all_goals (rcases s with _ | ⟨c, _ | ⟨b, _ | ⟨a, s⟩⟩⟩ <;> rfl)
theorem exec_can (E : EnvD) : ∀ (ws : List (List UInt8)) (s : List Nat), exec { E with state := can E.state } ws s = exec E ws s
  | [], _ => rfl
  | w :: ws, s => by
    unfold exec
    rw [step_can]
    cases stepK E (kindOf w) s with
    | ok s' => exact exec_can E ws s'
    | bad f => rfl
theorem runOf_can (E : EnvD) (l : List ByteArray) : runOf { E with state := can E.state } l = runOf E l := by
  unfold runOf
  rw [exec_can]
theorem run_env (s : StoD) (l : List ByteArray) {a b : Nat} (h : can a = can b) : runOf (envOf a s) l = runOf (envOf b s) l := by
  have h1 := runOf_can (envOf a s) l
  have h2 := runOf_can (envOf b s) l
  rw [← h1, ← h2]
  unfold envOf
  simp only [h]
theorem foldStep_can (ws : List ByteArray) (s : StoD) {a b : Nat} (n : Nat) (h : can a = can b) : can (foldStep ws (a, n) s).1 = can (foldStep ws (b, n) s).1 ∧ (foldStep ws (a, n) s).2 = (foldStep ws (b, n) s).2 := by
  unfold foldStep
  simp only [run_env s ws h]
  split
  · exact ⟨rfl, rfl⟩
  · exact ⟨h, rfl⟩
theorem folds_can (ws : List ByteArray) : ∀ (l : List StoD) (p q : Nat × Nat), can p.1 = can q.1 → p.2 = q.2 → can (l.foldl (foldStep ws) p).1 = can (l.foldl (foldStep ws) q).1 ∧ (l.foldl (foldStep ws) p).2 = (l.foldl (foldStep ws) q).2
  | [], p, q, h1, h2 => ⟨h1, h2⟩
  | s :: l, (a, n), (b, m), h1, h2 => by
    obtain rfl : n = m := h2
    have h := foldStep_can ws s n h1
    exact folds_can ws l _ _ h.1 h.2
theorem foldStep_add (ws : List ByteArray) (s : StoD) (a n m : Nat) : foldStep ws (a, n + m) s = ((foldStep ws (a, n) s).1, (foldStep ws (a, n) s).2 + m) := by
  unfold foldStep
  simp only
  split
  · rfl
  · simp only [Prod.mk.injEq, true_and]; omega
theorem folds_add (ws : List ByteArray) : ∀ (l : List StoD) (a n m : Nat), l.foldl (foldStep ws) (a, n + m) = ((l.foldl (foldStep ws) (a, n)).1, (l.foldl (foldStep ws) (a, n)).2 + m)
  | [], _, _, _ => rfl
  | s :: l, a, n, m => by
    rw [List.foldl_cons, List.foldl_cons, foldStep_add]
    exact folds_add ws l _ _ m
/-- In two parts it is the same. -/
theorem fold_two (ws : List ByteArray) (st : Nat) (l : List StoD) (cut : Nat) :
    can (foldOf ws (can (foldOf ws st (l.take cut)).1) (l.drop cut)).1 = can (foldOf ws st l).1 ∧ (foldOf ws st (l.take cut)).2 + (foldOf ws (can (foldOf ws st (l.take cut)).1) (l.drop cut)).2 = (foldOf ws st l).2 := by
  have h0 : foldOf ws st l = (l.drop cut).foldl (foldStep ws) (foldOf ws st (l.take cut)) := by
    unfold foldOf
    rw [← List.foldl_append, List.take_append_drop]
  rw [h0]
  obtain ⟨a, n⟩ := foldOf ws st (l.take cut)
  have h1 := folds_add ws (l.drop cut) a 0 n
  rw [Nat.zero_add] at h1
  have h2 := folds_can ws (l.drop cut) (can a, 0) (a, 0) (can_can a) rfl
  unfold foldOf
  rw [h1]
  exact ⟨h2.1, by rw [h2.2]; simp only; omega⟩
theorem fold_same (ws : List ByteArray) (st : Nat) (l : List StoD) : foldOf ws st l = l.foldl (foldStep ws) (st, 0) := rfl
end Go.Proofs.Ytiglfdefeaddmaa

namespace Go.Proofs.Ytiglfdefeaddmaa
open Go.RowKit Go.Lib Go.ChangeShapes Go.WideShapes

theorem trod_flt {H : Type} {enc : TypeId × Value → H} {P : Program} {w : World} {base : Nat} {spare : Nat → Bool} {held : Bool} {t : TypeId} {fuel : Nat} {cs : List Value} {x : DataW H × List MemPlace} {k : FloatKind}
    (ht : P.underlying t = some (.float k)) (h : DataW.trod enc P w base spare held fuel t cs = some x) : ∃ b, cs = [.float k b] ∧ (Lit.float k b).wf = true := by
  cases fuel with
  | zero => simp [DataW.trod] at h
  | succ n =>
    unfold DataW.trod at h
    rw [ht] at h
    split at h <;> simp_all
theorem trod_four {H : Type} {enc : TypeId × Value → H} {P : Program} {w : World} {base : Nat} {spare : Nat → Bool} {held : Bool} {t : TypeId} {f0 f1 f2 f3 : Field} {fuel : Nat} {cs : List Value} {x : DataW H × List MemPlace}
    (ht : P.underlying t = some (.struct #[f0, f1, f2, f3])) (h : DataW.trod enc P w base spare held fuel t cs = some x) :
    ∃ y0 y1 y2 y3 n, cs.length = P.cellsOf t ∧ DataW.trod enc P w base spare held n f0.type ((cs.drop f0.offset).take (P.cellsOf f0.type)) = some y0 ∧ DataW.trod enc P w base spare held n f1.type ((cs.drop f1.offset).take (P.cellsOf f1.type)) = some y1 ∧
      DataW.trod enc P w base spare held n f2.type ((cs.drop f2.offset).take (P.cellsOf f2.type)) = some y2 ∧ DataW.trod enc P w base spare held n f3.type ((cs.drop f3.offset).take (P.cellsOf f3.type)) = some y3 := by
  obtain ⟨xs, n, _, _, hl, hlen, hf⟩ := DataW.trod_struct ht h
  match xs, hlen with
  | [y0, y1, y2, y3], _ => exact ⟨y0, y1, y2, y3, n, hl, by simpa using hf 0 f0 rfl, by simpa using hf 1 f1 rfl, by simpa using hf 2 f2 rfl, by simpa using hf 3 f3 rfl⟩
theorem trod_five {H : Type} {enc : TypeId × Value → H} {P : Program} {w : World} {base : Nat} {spare : Nat → Bool} {held : Bool} {t : TypeId} {f0 f1 f2 f3 f4 : Field} {fuel : Nat} {cs : List Value} {x : DataW H × List MemPlace}
    (ht : P.underlying t = some (.struct #[f0, f1, f2, f3, f4])) (h : DataW.trod enc P w base spare held fuel t cs = some x) :
    ∃ y0 y1 y2 y3 y4 n, cs.length = P.cellsOf t ∧ DataW.trod enc P w base spare held n f0.type ((cs.drop f0.offset).take (P.cellsOf f0.type)) = some y0 ∧ DataW.trod enc P w base spare held n f1.type ((cs.drop f1.offset).take (P.cellsOf f1.type)) = some y1 ∧
      DataW.trod enc P w base spare held n f2.type ((cs.drop f2.offset).take (P.cellsOf f2.type)) = some y2 ∧ DataW.trod enc P w base spare held n f3.type ((cs.drop f3.offset).take (P.cellsOf f3.type)) = some y3 ∧
      DataW.trod enc P w base spare held n f4.type ((cs.drop f4.offset).take (P.cellsOf f4.type)) = some y4 := by
  obtain ⟨xs, n, _, _, hl, hlen, hf⟩ := DataW.trod_struct ht h
  match xs, hlen with
  | [y0, y1, y2, y3, y4], _ => exact ⟨y0, y1, y2, y3, y4, n, hl, by simpa using hf 0 f0 rfl, by simpa using hf 1 f1 rfl, by simpa using hf 2 f2 rfl, by simpa using hf 3 f3 rfl, by simpa using hf 4 f4 rfl⟩
theorem cellsSto : Try.prog.cellsOf 38 = 8 := by kernel_rfl
theorem flt_wd {b : Nat} (h : (Lit.float .f64 b).wf = true) : Wd b := by
  simp only [Lit.wf, decide_eq_true_eq] at h
  exact h

set_option maxRecDepth 100000 in
theorem sto_at {H : Type} {enc : TypeId × Value → H} {W : World} {b off i n : Nat} {cs : List Value} {x : DataW H × List MemPlace} (hc : W.cells? 0 ⟨b, off + i * 8, none⟩ 8 = some cs)
    (h : DataW.trod enc Try.prog W 0 (fun _ => true) true n 38 cs = some x) : ∃ o : StoD, StoAt W b off i o ∧ o.Ok := by
  obtain ⟨y0, y1, y2, y3, y4, n', hl, g0, g1, g2, g3, g4⟩ := trod_five Try.underlying38 h
  obtain ⟨u0, u1, u2, u3, n2, hl2, k0, k1, k2, k3⟩ := trod_four Try.underlying36 g0
  obtain ⟨z0, e0, _, w0⟩ := DataW.trod_int (t := 3) Try.underlying3 k0
  obtain ⟨z1, e1, _, w1⟩ := DataW.trod_string (t := 9) Try.underlying9 k1
  obtain ⟨z2, e2, _, w2⟩ := DataW.trod_string (t := 9) Try.underlying9 k2
  obtain ⟨z3, e3, w3⟩ := trod_flt (t := 30) Try.underlying30 k3
  obtain ⟨z4, e4, _, w4⟩ := DataW.trod_string (t := 9) Try.underlying9 g1
  obtain ⟨z5, e5, _, w5⟩ := DataW.trod_int (t := 3) Try.underlying3 g2
  obtain ⟨z6, e6, _, w6⟩ := DataW.trod_int (t := 3) Try.underlying3 g3
  obtain ⟨z7, e7, _, w7⟩ := DataW.trod_int (t := 3) Try.underlying3 g4
  obtain ⟨_, hlen, hcell⟩ := World.cells?_some hc
  clear g0 g1 g2 g3 g4 k0 k1 k2 k3 hl hl2 h hc
  match cs, hlen with
  | [a0, a1, a2, a3, a4, a5, a6, a7], _ =>
    have e0 : [a0] = [Value.int .i64 z0] := e0
    have e1 : [a1] = [Value.string z1] := e1
    have e2 : [a2] = [Value.string z2] := e2
    have e3 : [a3] = [Value.float .f64 z3] := e3
    have e4 : [a4] = [Value.string z4] := e4
    have e5 : [a5] = [Value.int .i64 z5] := e5
    have e6 : [a6] = [Value.int .i64 z6] := e6
    have e7 : [a7] = [Value.int .i64 z7] := e7
    obtain rfl : a0 = _ := List.head_eq_of_cons_eq e0
    obtain rfl : a1 = _ := List.head_eq_of_cons_eq e1
    obtain rfl : a2 = _ := List.head_eq_of_cons_eq e2
    obtain rfl : a3 = _ := List.head_eq_of_cons_eq e3
    obtain rfl : a4 = _ := List.head_eq_of_cons_eq e4
    obtain rfl : a5 = _ := List.head_eq_of_cons_eq e5
    obtain rfl : a6 = _ := List.head_eq_of_cons_eq e6
    obtain rfl : a7 = _ := List.head_eq_of_cons_eq e7
    have q0 := hcell 0 (by omega); have q1 := hcell 1 (by omega); have q2 := hcell 2 (by omega); have q3 := hcell 3 (by omega)
    have q4 := hcell 4 (by omega); have q5 := hcell 5 (by omega); have q6 := hcell 6 (by omega); have q7 := hcell 7 (by omega)
    clear hcell e0 e1 e2 e3 e4 e5 e6 e7
    obtain ⟨b2, b3⟩ := bounds_i64 w5
    refine ⟨⟨z0, z1, z2, z3, z4, z5, z6, z7⟩, ⟨q0, q1, q2, q3, q4, q5, q6, q7⟩, ⟨flt_wd w3, b2, b3, w1, w2, w4⟩⟩

instance : Inhabited StoD := ⟨markSto⟩
set_option maxRecDepth 100000 in
theorem stos_of {H : Type} {enc : TypeId × Value → H} {W : World} {a0 : Option Addr} {len0 cap0 fuel : Nat} {x : DataW H × List MemPlace} {cs : List Value} (hv : cs = [.slice a0 len0 cap0])
    (hf : DataW.trod enc Try.prog W 0 (fun _ => true) true fuel 24 cs = some x) : ∃ js, Stos W (.slice a0 len0 cap0) js := by
  have hml : maxLen = 9223372036854775807 := rfl
  rcases Deep.open_slice Try.underlying24 hf with ⟨hcs, _⟩ | ⟨a, len, cap, m, n, D, Pl, hcs, _, hl, hm, hmm, _, hx⟩
  · rw [hv] at hcs
    simp at hcs
    obtain ⟨rfl, rfl, rfl⟩ := hcs
    exact ⟨[], none, 0, rfl, by simp, by omega, fun i hi => absurd hi (Nat.not_lt_zero i), fun _ => ⟨rfl, rfl⟩⟩
  · rw [hv] at hcs
    simp at hcs
    obtain ⟨rfl, rfl, rfl⟩ := hcs
    by_cases h0 : len0 = 0
    · subst h0
      exact ⟨[], some a, cap0, rfl, by simp, by omega, fun i hi => absurd hi (Nat.not_lt_zero i), fun e => by cases e⟩
    · rw [cellsSto] at hx
      obtain ⟨b, off, spot⟩ := a
      have hspot : spot = none := by
        obtain ⟨cs', h1, h2⟩ := hx 0 (by simp at hmm; omega)
        have hc := (World.cells?_some h1).2.2 0 (by omega)
        have hl4 := (World.cells?_some h1).2.1
        rw [List.getElem?_eq_getElem (by omega)] at hc
        simpa [Addr.add] using World.cell?_spot hc
      subst hspot
      have key : ∀ i, i < len0 → ∃ o : StoD, StoAt W b off i o ∧ o.Ok := fun i hi => by
        obtain ⟨cs', h1, h2⟩ := hx i (by simp at hmm; omega)
        rw [show (⟨b, off, none⟩ : Addr).add (i * 8) = ⟨b, off + i * 8, none⟩ from by unfold Addr.add; split <;> simp_all] at h1
        exact sto_at h1 h2
      obtain ⟨f, hf⟩ := Deep.choose_lt (p := fun i o => StoAt W b off i o ∧ o.Ok) (fun i hi => key i hi)
      refine ⟨(List.range len0).map f, some ⟨b, off, none⟩, cap0, by simp, by simpa using hl, by omega, fun i hi => ⟨b, off, rfl, ?_⟩, fun e => by cases e⟩
      have := hf i (by simpa using hi)
      simpa using this
end Go.Proofs.Ytiglfdefeaddmaa
