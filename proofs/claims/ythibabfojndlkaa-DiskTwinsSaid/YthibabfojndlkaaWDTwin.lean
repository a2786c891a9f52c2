/- DiskTwins, walked. -/
import Derived.Test.YthibabfojndlkaaRun9
namespace Go.Proofs.Ythibabfojndlkaa
open Go.RowKit Go.Lib
set_option maxRecDepth 100000

def Two (W : World) (d t : Nat) (kd kt : Dk) (pr : List Nat) (w : World) : Prop :=
  ∃ od ot : List Nat, Dsk w d kd od ∧ Dsk w t kt ot ∧ (∀ i ∈ od, i ∉ ot) ∧ (∀ i ∈ od, W.heap.size ≤ i) ∧ (∀ i ∈ ot, W.heap.size ≤ i) ∧ Touch [] W w ∧ ∀ i ∈ pr, i ∉ od ∧ i ∉ ot ∧ i < w.heap.size
theorem Two.d {W w : World} {d t : Nat} {kd kt : Dk} {pr : List Nat} (h : Two W d t kd kt pr w) : Has W d kd w := by
  obtain ⟨od, ot, h1, h2, h3, h4, h5, h6, h7⟩ := h
  exact ⟨od, h1, h6, h4⟩
theorem Two.t {W w : World} {d t : Nat} {kd kt : Dk} {pr : List Nat} (h : Two W d t kd kt pr w) : Has W t kt w := by
  obtain ⟨od, ot, h1, h2, h3, h4, h5, h6, h7⟩ := h
  exact ⟨ot, h2, h6, h5⟩
theorem Two.touch {W w w' : World} {d t : Nat} {kd kt : Dk} {pr : List Nat} (h : Two W d t kd kt pr w) (tt : Touch [] w w') : Two W d t kd kt pr w' := by
  obtain ⟨od, ot, h1, h2, h3, h4, h5, h6, h7⟩ := h
  exact ⟨od, ot, h1.touch tt (by simp), h2.touch tt (by simp), h3, h4, h5, h6.trans tt (by simp), fun i hi => ⟨(h7 i hi).1, (h7 i hi).2.1, Nat.lt_of_lt_of_le (h7 i hi).2.2 tt.size⟩⟩
theorem Dsk.lt {w : World} {d : Nat} {k : Dk} {own : List Nat} (h : Dsk w d k own) : ∀ i ∈ own, i < w.heap.size := by
  obtain ⟨rv, kv, L, _, _, h3⟩ := h
  exact h3
theorem Two.prot {W w w' : World} {d t : Nat} {kd kt : Dk} {pr : List Nat} (h : Two W d t kd kt [] w) (tt : Touch [] w w') (hp : ∀ i ∈ pr, w.heap.size ≤ i ∧ i < w'.heap.size) : Two W d t kd kt pr w' := by
  obtain ⟨od, ot, h1, h2, h3, h4, h5, h6, h7⟩ := h
  refine ⟨od, ot, h1.touch tt (by simp), h2.touch tt (by simp), h3, h4, h5, h6.trans tt (by simp), fun i hi => ⟨fun hm => ?_, fun hm => ?_, (hp i hi).2⟩⟩
  · have := h1.lt i hm; have := (hp i hi).1; omega
  · have := h2.lt i hm; have := (hp i hi).1; omega

theorem run_has {W w : World} {d : Nat} {k : Dk} {n : Nat} (x : Option Addr) (c : Nat) (l : List OpD) (h : Has W d k w) (hr : Rn k n) (hn : n + wt l ≤ 1000000) (hl : l.length ≤ 1000) (hi : OpsX W x l) :
    Calls Try.prog 28 #[.pointer (some ⟨d, 0, none⟩), .slice x l.length c] w fun e w' => e = .returned (.tuple #[]) ∧ Has W d (runD k l) w' ∧ Rn (runD k l) (n + wt l) := by
  obtain ⟨own, h1, h2, h3⟩ := h
  refine (run_any (O := own) x c l h2 h3 (Left.same h1 (Touch.refl [] w)) hr hn hl hi).mono ?_
  rintro e w' ⟨rfl, h4, h5⟩
  exact ⟨rfl, Has.left h2 h3 h4, h5⟩
theorem twin_two {W w : World} {d : Nat} {k : Dk} (h : Has W d k w) (hk : k.keep.length ≤ 1000000) :
    Calls Try.prog 25 #[.pointer (some ⟨d, 0, none⟩)] w fun e w' => ∃ t, e = .returned (.pointer (some ⟨t, 0, none⟩)) ∧ Two W d t k k [] w' := by
  obtain ⟨own, h1, h2, h3⟩ := h
  refine (twin_any h1 hk).mono ?_
  rintro e w' ⟨t, own', rfl, q1, q2, q3⟩
  exact ⟨t, rfl, own, own', h1.touch q2 (by simp), q1, fun i hi hm => by have := h1.lt i hi; have := q3 i hm; omega, h3, fun i hi => Nat.le_trans h2.size (q3 i hi), h2.trans q2 (by simp), by simp⟩
theorem run_t {W w : World} {d t : Nat} {kd kt : Dk} {n : Nat} {pr : List Nat} (x : Option Addr) (c : Nat) (l : List OpD) (h : Two W d t kd kt pr w) (hr : Rn kt n) (hn : n + wt l ≤ 1000000) (hl : l.length ≤ 1000) (hi : OpsX W x l) :
    Calls Try.prog 28 #[.pointer (some ⟨t, 0, none⟩), .slice x l.length c] w fun e w' => e = .returned (.tuple #[]) ∧ Two W d t kd (runD kt l) pr w' ∧ Rn (runD kt l) (n + wt l) ∧ ∀ i ∈ pr, w'.heap[i]? = w.heap[i]? := by
  obtain ⟨od, ot, h1, h2, h3, h4, h5, h6, h7⟩ := h
  refine (run_any (O := ot) x c l h6 h5 (Left.same h2 (Touch.refl [] w)) hr hn hl hi).mono ?_
  rintro e w' ⟨rfl, ⟨ot', q1, q2, q3⟩, q4⟩
  refine ⟨rfl, ⟨od, ot', h1.touch q2 h3, q1, fun i hi hm => ?_, h4, fun i hi => ?_, h6.trans q2 (fun i hi => .inr (h5 i hi)), fun i hi => ⟨(h7 i hi).1, fun hm => ?_, Nat.lt_of_lt_of_le (h7 i hi).2.2 q2.size⟩⟩, q4, fun i hi => q2.block i (h7 i hi).2.2 (h7 i hi).2.1⟩
  · rcases q3 i hm with h8 | h8
    · exact h3 i hi h8
    · have := h1.lt i hi; omega
  · rcases q3 i hi with h8 | h8
    · exact h5 i h8
    · exact Nat.le_trans h6.size h8
  · rcases q3 i hm with h8 | h8
    · exact (h7 i hi).2.1 h8
    · have := (h7 i hi).2.2; omega
theorem Two.swap {W w : World} {d t : Nat} {kd kt : Dk} {pr : List Nat} (h : Two W d t kd kt pr w) : Two W t d kt kd pr w := by
  obtain ⟨od, ot, h1, h2, h3, h4, h5, h6, h7⟩ := h
  exact ⟨ot, od, h2, h1, fun i hi hm => h3 i hm hi, h5, h4, h6, fun i hi => ⟨(h7 i hi).2.1, (h7 i hi).1, (h7 i hi).2.2⟩⟩
theorem texts_kept {w w' : World} {x : Option Addr} {l : List ByteArray} (h : TextsX w x l) (hb : ∀ i ∈ (x.map (·.block)).toList, w'.heap[i]? = w.heap[i]?) : TextsX w' x l := by
  intro i hi
  obtain ⟨b, off, rfl, h2, h3⟩ := h i hi
  refine ⟨b, off, rfl, ?_, h3⟩
  rw [World.cell?_of_block (w := w) (a := ⟨b, off + i, none⟩) (hb b (by simp))]
  exact h2
theorem prot_of {w w' : World} {x : Option Addr} (h : ∀ a, x = some a → w.heap.size ≤ a.block ∧ a.block < w'.heap.size) : ∀ i ∈ (x.map (·.block)).toList, w.heap.size ≤ i ∧ i < w'.heap.size := by
  intro i hi
  cases x with
  | none => simp at hi
  | some a => simp at hi; subst hi; exact h a rfl
theorem OpsX.touch {w w' : World} {x : Option Addr} {l : List OpD} (h : OpsX w x l) (t : Touch [] w w') : OpsX w' x l := by
  intro i hi
  obtain ⟨b, off, e, ⟨g0, g1, g2, g3, g4, g5⟩, ok⟩ := h i hi
  exact ⟨b, off, e, ⟨touch_cell t g0 (by simp), touch_cell t g1 (by simp), touch_cell t g2 (by simp), touch_cell t g3 (by simp), touch_cell t g4 (by simp), touch_cell t g5 (by simp)⟩, ok.1.touch t, ok.2⟩
theorem rn_new : Rn (newD 0) 0 := ⟨rfl, rfl, rfl, by simp [newD, used], by simp [Named, newD]⟩
theorem all_small (k : Dk) (h : k.files.length ≤ 200) : (allD k).length ≤ 9223372036854775807 := by
  unfold allD
  rw [all_len]
  split
  · omega
  · exact of_decide_eq_true rfl

set_option maxHeartbeats 8000000 in
theorem twins_good (xl : Option Addr) (cl : Nat) (l : List OpD) (xm : Option Addr) (cm : Nat) (m : List OpD) (w : World) (hl : l.length ≤ 9223372036854775807) (hm : m.length ≤ 9223372036854775807) (hil : OpsX w xl l) (him : OpsX w xm m) :
    Calls Try.prog 6 #[.slice xl l.length cl, .slice xm m.length cm] w fun e w' => e = .returned (.bool true) ∧ Touch [] w w' := by
  have CA := hid fun w => alive_true w
  have CL := hid (light_any xl cl l w hl hil)
  have CM := hid fun w1 (t : Touch [] w w1) => light_any xm cm m w1 hm (him.touch t)
  have CN := hid fun w => new_has 0 w
  have HIL := hid hil
  have HIM := hid him
  clear hil him hl hm
  go_enter Try.func6, Try.ntmps6
  go_wp2_with fail
  go_at_call 27
  refine CL.out.mono ?_
  rintro e w1 ⟨r1, rfl, t1, hr1⟩
  have T1 := hid t1
  cases r1
  · clear t1 hr1
    go_wp2_with (go_at_call 9; with_reducible refine (CA.out _).mono ?_; rintro e w3 ⟨rfl, t3⟩; have T3 := hid t3; clear t3)
    go_ret
    exact ⟨rfl, T1.out.trans T3.out (by simp)⟩
  have hl1 := hr1 rfl
  clear t1 hr1
  go_wp2_with fail
  go_at_call 27
  refine (CM.out _ T1.out).mono ?_
  rintro e w2 ⟨r2, rfl, t2, hr2⟩
  have T2 := hid (T1.out.trans t2 (by simp))
  cases r2
  · clear t2 hr2
    go_wp2_with (go_at_call 9; with_reducible refine (CA.out _).mono ?_; rintro e w3 ⟨rfl, t3⟩; have T3 := hid t3; clear t3)
    go_ret
    exact ⟨rfl, T2.out.trans T3.out (by simp)⟩
  have hm1 := hr2 rfl
  clear t2 hr2
  by_cases hl4 : 40 < l.length
  · have e1 : decide ((40 : Int) < (l.length : Int)) = true := by rw [decide_eq_true_eq]; omega
    have e2 : decide (40 < l.length) = true := by rw [decide_eq_true_eq]; exact hl4
    clear hl4 hl1 hm1
    go_wp2_with (go_at_call 9; with_reducible refine (CA.out _).mono ?_; rintro e w3 ⟨rfl, t3⟩; have T3 := hid t3; clear t3)
    go_ret
    exact ⟨rfl, T2.out.trans T3.out (by simp)⟩
  have e1 : decide ((40 : Int) < (l.length : Int)) = false := by rw [decide_eq_false_iff_not]; omega
  have e2 : decide (40 < l.length) = false := by rw [decide_eq_false_iff_not]; exact hl4
  by_cases hm4 : 40 < m.length
  · have e3 : decide ((40 : Int) < (m.length : Int)) = true := by rw [decide_eq_true_eq]; omega
    have e4 : decide (40 < m.length) = true := by rw [decide_eq_true_eq]; exact hm4
    clear hl4 hm4 hl1 hm1
    go_wp2_with (go_at_call 9; with_reducible refine (CA.out _).mono ?_; rintro e w3 ⟨rfl, t3⟩; have T3 := hid t3; clear t3)
    go_ret
    exact ⟨rfl, T2.out.trans T3.out (by simp)⟩
  have e3 : decide ((40 : Int) < (m.length : Int)) = false := by rw [decide_eq_false_iff_not]; omega
  have e4 : decide (40 < m.length) = false := by rw [decide_eq_false_iff_not]; exact hm4
  have HL := hid hl1
  have HM := hid hm1
  have OL := hid (HIL.out.touch T2.out)
  have OM := hid (HIM.out.touch T2.out)
  clear hl4 hm4 hl1 hm1 CL CM
  obtain ⟨kl, hkl⟩ : ∃ kl, kl = runD (newD 0) l := ⟨_, rfl⟩
  obtain ⟨km, hkm⟩ : ∃ km, km = runD kl m := ⟨_, rfl⟩
  have R1 := hid fun d w3 (h : Has w2 d (newD 0) w3) => (show Calls Try.prog 28 #[.pointer (some ⟨d, 0, none⟩), .slice xl l.length cl] w3 fun e w' => e = .returned (.tuple #[]) ∧ Has w2 d kl w' ∧ Rn kl (0 + wt l) by rw [hkl]; exact run_has xl cl l h rn_new (by have := HL.out.2; omega) (by have := HL.out.1; omega) OL.out)
  have R2 := hid fun d w3 (h : Has w2 d kl w3) (hr : Rn kl (0 + wt l)) => twin_two h (by rw [hr.keep]; simp)
  have R3 := hid fun d w3 (h : Has w2 d kl w3) (hr : Rn kl (0 + wt l)) => all_any h hr.named
  have R4 := hid fun d w3 (h : Has w2 d kl w3) (hr : Rn kl (0 + wt l)) => used_has (n := used kl.files) h (hr.sm (by have := HL.out.2; omega)) rfl
  have R5 := hid fun d w3 (h : Has w2 d kl w3) => on_has (b := kl.on) h rfl
  have R6 := hid fun d t pr w3 (h : Two w2 d t kl kl pr w3) (hr : Rn kl (0 + wt l)) => (show Calls Try.prog 28 #[.pointer (some ⟨t, 0, none⟩), .slice xm m.length cm] w3 fun e w' => e = .returned (.tuple #[]) ∧ Two w2 d t kl km pr w' ∧ Rn km (0 + wt l + wt m) ∧ ∀ i ∈ pr, w'.heap[i]? = w3.heap[i]? by rw [hkm]; exact run_t xm cm m h hr (by have := HL.out.2; have := HM.out.2; omega) (by have := HM.out.1; omega) OM.out)
  have R7 := hid fun d t pr w3 (h : Two w2 d t kl km pr w3) (hr : Rn kl (0 + wt l)) => (show Calls Try.prog 28 #[.pointer (some ⟨d, 0, none⟩), .slice xm m.length cm] w3 fun e w' => e = .returned (.tuple #[]) ∧ Two w2 d t km km pr w' by
    rw [hkm]
    rw [hkm] at h
    refine (run_t xm cm m h.swap hr (by have := HL.out.2; have := HM.out.2; omega) (by have := HM.out.1; omega) OM.out).mono ?_
    rintro e w' ⟨rfl, h', _⟩
    exact ⟨rfl, h'.swap⟩)
  have R8 := hid fun d w3 (h : Has w2 d km w3) (hr : Rn km (0 + wt l + wt m)) => all_any h hr.named
  have R9 := hid fun d w3 (h : Has w2 d km w3) (hr : Rn km (0 + wt l + wt m)) => used_has (n := used km.files) h (hr.sm (by have := HL.out.2; have := HM.out.2; omega)) rfl
  have R10 := hid fun d w3 (h : Has w2 d km w3) => on_has (b := km.on) h rfl
  have ST := hid fun k x1 x2 c1 c2 w3 (hk : (allD k).length ≤ 9223372036854775807) (h1 : TextsX w3 x1 (allD k)) (h2 : TextsX w3 x2 (allD k)) => (sameTexts_any x1 x2 c1 c2 (allD k) (allD k) w3 hk hk h1 h2).mono (R' := fun e w' => e = .returned (.bool true) ∧ Touch [] w3 w') (by rintro e w' ⟨rfl, t⟩; exact ⟨by simp, t⟩)
  clear hkl hkm
  go_wp2_with (first
    | (go_at_call 26; with_reducible refine (CN.out _).mono ?_; rintro e w3 ⟨d, rfl, h3⟩; have H3 := hid h3; clear h3)
    | (go_at_call 28; with_reducible refine (R1.out _ _ H3.out).mono ?_; rintro e w4 ⟨rfl, h4, r4⟩; have H4 := hid h4; have RN := hid r4; clear h4 r4)
    | (go_at_call 25; with_reducible refine (R2.out _ _ H4.out RN.out).mono ?_; rintro e w5 ⟨t, rfl, h5⟩; have H5 := hid h5; clear h5)
    | (go_at_call 29; with_reducible refine (R3.out _ _ H5.out.d RN.out).mono ?_; rintro e w6 ⟨xa, ca, rfl, xt6, t6, f6⟩; have H6 := hid (Two.prot (pr := (xa.map (·.block)).toList) H5.out t6 (prot_of f6)); have X6 := hid xt6; have hsm6 := hid (all_small kl H5.out.d.many); clear xt6 t6 f6)
    | (go_at_call 22; with_reducible refine (R4.out _ _ H6.out.d RN.out).mono ?_; rintro e w7 ⟨rfl, rfl⟩)
    | (go_at_call 24; with_reducible refine (R5.out _ _ H6.out.d).mono ?_; rintro e w8 ⟨rfl, rfl⟩)
    | (go_at_call 28; with_reducible refine (R6.out _ _ _ _ H6.out RN.out).mono ?_; rintro e w9 ⟨rfl, h9, r9, p9⟩; have H9 := hid h9; have RM := hid r9; have X9 := hid (texts_kept X6.out p9); clear h9 r9 p9)
    | (go_at_call 29; with_reducible refine (R3.out _ _ H9.out.d RN.out).mono ?_; rintro e w10 ⟨xb, cb, rfl, xt10, t10, f10⟩; have H10 := hid (H9.out.touch t10); have X10 := hid xt10; have Y10 := hid (X9.out.touch t10); clear xt10 t10 f10)
    | (go_at_call 30; with_reducible refine (ST.out kl _ _ _ _ _ hsm6.out X10.out Y10.out).mono ?_; rintro e w11 ⟨rfl, t11⟩; have H11 := hid (H10.out.touch t11); clear t11)
    | (go_at_call 22; with_reducible refine (R4.out _ _ H11.out.d RN.out).mono ?_; rintro e w12 ⟨rfl, rfl⟩)
    | (go_at_call 24; with_reducible refine (R5.out _ _ H11.out.d).mono ?_; rintro e w13 ⟨rfl, rfl⟩)
    | (go_at_call 28; with_reducible refine (R7.out _ _ _ _ H11.out RN.out).mono ?_; rintro e w14 ⟨rfl, h14⟩; have H14 := hid h14; clear h14)
    | (go_at_call 9; with_reducible refine (CA.out _).mono ?_; rintro e w15 ⟨rfl, t15⟩; have H15 := hid (H14.out.touch t15); clear t15)
    | (go_at_call 29; with_reducible refine (R8.out _ _ H15.out.d RM.out).mono ?_; rintro e w16 ⟨xc, cc, rfl, xt16, t16, f16⟩; have H16 := hid (H15.out.touch t16); have X16 := hid xt16; have hsm16 := hid (all_small km H15.out.d.many); clear xt16 t16 f16)
    | (go_at_call 29; with_reducible refine (R8.out _ _ H16.out.t RM.out).mono ?_; rintro e w17 ⟨xe, ce, rfl, xt17, t17, f17⟩; have H17 := hid (H16.out.touch t17); have X17 := hid xt17; have Y17 := hid (X16.out.touch t17); clear xt17 t17 f17)
    | (go_at_call 30; with_reducible refine (ST.out km _ _ _ _ _ hsm16.out Y17.out X17.out).mono ?_; rintro e w18 ⟨rfl, t18⟩; have H18 := hid (H17.out.touch t18); clear t18)
    | (go_at_call 22; with_reducible refine (R9.out _ _ H18.out.d RM.out).mono ?_; rintro e w19 ⟨rfl, rfl⟩)
    | (go_at_call 22; with_reducible refine (R9.out _ _ H18.out.t RM.out).mono ?_; rintro e w20 ⟨rfl, rfl⟩)
    | (go_at_call 24; with_reducible refine (R10.out _ _ H18.out.d).mono ?_; rintro e w21 ⟨rfl, rfl⟩)
    | (go_at_call 24; with_reducible refine (R10.out _ _ H18.out.t).mono ?_; rintro e w22 ⟨rfl, rfl⟩))
  go_ret
  exact ⟨rfl, T2.out.trans H18.out.d.from_ (by simp)⟩

theorem walk_DiskTwins (v : Value) (l : List OpD) (u : Value) (m : List OpD) (w : World) (hl : Ops9 w v l) (hm : Ops9 w u m) :
    Calls Try.prog 6 #[v, u] w fun e w' => e = .returned (.bool true) ∧ Touch [] w w' := by
  obtain ⟨x, c, rfl, h1, h2⟩ := hl
  obtain ⟨y, c', rfl, h3, h4⟩ := hm
  exact twins_good x c l y c' m w h1 h3 h2 h4
end Go.Proofs.Ythibabfojndlkaa
