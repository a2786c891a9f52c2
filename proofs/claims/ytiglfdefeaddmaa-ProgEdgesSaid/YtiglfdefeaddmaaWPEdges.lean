/- ProgEdges, walked. -/
import Derived.Test.YtiglfdefeaddmaaWPicks
import Derived.Test.YtiglfdefeaddmaaRefOrd
import Derived.Test.YtiglfdefeaddmaaAppT
namespace Go.Proofs.Ytiglfdefeaddmaa
open Go.RowKit Go.Lib

def eNames : List ByteArray := [⟨wAdd.toArray⟩, ⟨wSub.toArray⟩, ⟨wMul.toArray⟩, ⟨wDiv.toArray⟩, ⟨wMin.toArray⟩, ⟨wMax.toArray⟩, ⟨wLess.toArray⟩]
def eName (i : Nat) : ByteArray := eNames.getD i none8
def eKind (i : Nat) : Wk := [Wk.add, .sub, .mul, .div, .min, .max, .less].getD i .none
def eOp (i x y : Nat) : Nat := [ar .add x y, ar .sub x y, ar .mul x y, ar .quo x y, leastOf [x, y], mostOf [x, y], lessOf x y].getD i 0
theorem seven {i : Nat} (h : i < 7) : i = 0 ∨ i = 1 ∨ i = 2 ∨ i = 3 ∨ i = 4 ∨ i = 5 ∨ i = 6 := by omega
theorem eKind_of {i : Nat} (h : i < 7) : kindOf (eName i).data.toList = eKind i ∧ isNo (eKind i) = false := by
  rcases seven h with rfl | rfl | rfl | rfl | rfl | rfl | rfl <;> exact ⟨rfl, rfl⟩
theorem eStep {i : Nat} (h : i < 7) (E : EnvD) (x y : Nat) : stepK E (eKind i) [y, x] = .ok [can (eOp i x y)] ∧ stepK E (eKind i) [x] = .bad runtimeF := by
  rcases seven h with rfl | rfl | rfl | rfl | rfl | rfl | rfl <;> exact ⟨rfl, rfl⟩
theorem eName_size {i : Nat} (h : i < 7) : (eName i).size ≤ maxLen := by
  rcases seven h with rfl | rfl | rfl | rfl | rfl | rfl | rfl <;> decide
noncomputable def edgeW (i x y : Nat) : List ByteArray := [txt (textOf x), txt (textOf y), eName i]
noncomputable def oneW (i x : Nat) : List ByteArray := [txt (textOf x), eName i]
theorem edge_run {i x y : Nat} (h : i < 7) (hx : Wd x) (hy : Wd y) (cx : can x = x) (cy : can y = y) : runOf env0 (edgeW i x y) = (can (eOp i x y), fine) := by
  have he : exec env0 (wordsL (edgeW i x y)) [] = .ok [can (eOp i x y)] := by
    show exec env0 (textOf x :: textOf y :: (eName i).data.toList :: []) [] = _
    rw [exec_ok _ _ _ _ _ _ (kind_text' hx) (step_num _ _ _), exec_ok _ _ _ _ _ _ (kind_text' hy) (step_num _ _ _), cx, cy, cx, cy, exec_ok _ _ _ _ _ _ (eKind_of h).1 (eStep h _ _ _).1, exec_nil]
  have hk : checkOf (edgeW i x y) = (0, 0) := check_all (by simp [edgeW]) (by
    intro s hs
    simp only [edgeW, List.mem_cons, List.not_mem_nil, or_false] at hs
    rcases hs with rfl | rfl | rfl
    · exact word_yes (kind_text hx) rfl
    · exact word_yes (kind_text hy) rfl
    · exact word_yes (eKind_of h).1 (eKind_of h).2)
  unfold runOf
  rw [hk, if_pos rfl, he]; rfl
theorem one_run {i x : Nat} (h : i < 7) (hx : Wd x) (cx : can x = x) : runOf env0 (oneW i x) = (0, runtimeF) := by
  have he : exec env0 (wordsL (oneW i x)) [] = .bad runtimeF := by
    show exec env0 (textOf x :: (eName i).data.toList :: []) [] = _
    rw [exec_ok _ _ _ _ _ _ (kind_text' hx) (step_num _ _ _), cx, cx, exec_no _ _ _ _ _ _ (eKind_of h).1 (eStep h _ x x).2]
  have hk : checkOf (oneW i x) = (0, 0) := check_all (by simp [oneW]) (by
    intro s hs
    simp only [oneW, List.mem_cons, List.not_mem_nil, or_false] at hs
    rcases hs with rfl | rfl
    · exact word_yes (kind_text hx) rfl
    · exact word_yes (eKind_of h).1 (eKind_of h).2)
  unfold runOf
  rw [hk, if_pos rfl, he]; rfl
theorem eOp_wd {i x y : Nat} (h : i < 7) (hx : Wd x) (hy : Wd y) : Wd (eOp i x y) := by
  rcases seven h with rfl | rfl | rfl | rfl | rfl | rfl | rfl
  · exact ar_wd _ _ _
  · exact ar_wd _ _ _
  · exact ar_wd _ _ _
  · exact ar_wd _ _ _
  · exact pick2_wd hx hy
  · exact pick2_wd hx hy
  · show Wd (lessOf x y)
    unfold lessOf
    split <;> decide
/-- What the law holds the answer against. -/
def wantL (r1 r2 r3 r4 l m z : Nat) (i : Nat) : Nat := [r1, r2, r3, r4, l, m, z].getD i 0
theorem want_at (r1 r2 r3 r4 l m z : Nat) (i : Nat) (h : i < 7) (w : World) : (w.alloc (.cells #[.float .f64 r1, .float .f64 r2, .float .f64 r3, .float .f64 r4, .float .f64 l, .float .f64 m, .float .f64 z] TFlt)).cell? ⟨w.heap.size, i, none⟩ = some (.float .f64 (wantL r1 r2 r3 r4 l m z i)) := by
  rw [cell_of (heap_alloc_new w _)]
  rcases seven h with rfl | rfl | rfl | rfl | rfl | rfl | rfl <;> rfl
theorem want_op {r1 r2 r3 r4 x y : Nat} (h1 : can r1 = can (ar .add x y)) (h2 : can r2 = can (ar .sub x y)) (h3 : can r3 = can (ar .mul x y)) (h4 : can r4 = can (ar .quo x y)) (d1 : Wd r1) (d2 : Wd r2) (d3 : Wd r3) (d4 : Wd r4) (hx : Wd x) (hy : Wd y) {i : Nat} (h : i < 7) :
    can (wantL r1 r2 r3 r4 (leastOf [x, y]) (mostOf [x, y]) (lessOf x y) i) = can (eOp i x y) ∧ Wd (wantL r1 r2 r3 r4 (leastOf [x, y]) (mostOf [x, y]) (lessOf x y) i) := by
  have h5 := eOp_wd (i := 4) (by decide) hx hy
  have h6 := eOp_wd (i := 5) (by decide) hx hy
  have h7 := eOp_wd (i := 6) (by decide) hx hy
  rcases seven h with rfl | rfl | rfl | rfl | rfl | rfl | rfl
  · exact ⟨h1, d1⟩
  · exact ⟨h2, d2⟩
  · exact ⟨h3, d3⟩
  · exact ⟨h4, d4⟩
  · exact ⟨rfl, h5⟩
  · exact ⟨rfl, h6⟩
  · exact ⟨rfl, h7⟩
theorem name_at (w : World) (i : Nat) (h : i < 7) : (w.alloc (.cells #[.string ⟨wAdd.toArray⟩, .string ⟨wSub.toArray⟩, .string ⟨wMul.toArray⟩, .string ⟨wDiv.toArray⟩, .string ⟨wMin.toArray⟩, .string ⟨wMax.toArray⟩, .string ⟨wLess.toArray⟩] TStr)).cell? ⟨w.heap.size, i, none⟩ = some (.string (eName i)) := by
  rw [cell_of (heap_alloc_new w _)]
  rcases seven h with rfl | rfl | rfl | rfl | rfl | rfl | rfl <;> rfl

theorem want_at' (r1 r2 r3 r4 l m z : Nat) (i : Nat) (h : i < 7) (w : World) (n : Nat) (hn : w.heap.size = n) : (w.alloc (.cells #[.float .f64 r1, .float .f64 r2, .float .f64 r3, .float .f64 r4, .float .f64 l, .float .f64 m, .float .f64 z] TFlt)).cell? ⟨n, i, none⟩ = some (.float .f64 (wantL r1 r2 r3 r4 l m z i)) := by
  subst hn; exact want_at r1 r2 r3 r4 l m z i h w
theorem flts_two (x y : Nat) (hx : Wd x) (hy : Wd y) (w : World) (n : Nat) (hn : w.heap.size = n) : Flts (w.alloc (.cells #[.float .f64 x, .float .f64 y] TFlt)) (some ⟨n, 0, none⟩) [x, y] := by
  subst hn
  exact flts_new w TFlt [x, y] (by intro q hq; simp at hq; rcases hq with rfl | rfl; exact hx; exact hy)
theorem texts_n (w : World) (n : Nat) (l : List ByteArray) (h : ∀ s ∈ l, s.size ≤ maxLen) (hn : w.heap.size = n) : TextsX (w.alloc (.cells (l.map fun s => Value.string s).toArray TStr)) (some ⟨n, 0, none⟩) l := by subst hn; exact texts_new w l h

set_option maxHeartbeats 8000000 in
set_option maxRecDepth 100000 in
theorem edges_nat (a b : Nat) (ha : Wd a) (hb : Wd b) (w : World) :
    Calls Try.prog 4 #[.int .u64 a, .int .u64 b] w fun e w' => e = .returned (.bool true) ∧ Touch [] w w' := by
  have oa := hid (refOf_any a w ha)
  have ob := hid (refOf_any b w hb)
  have hx := ha.can
  have hy := hb.can
  have cx := can_can a
  have cy := can_can b
  generalize can a = x at *
  generalize can b = y at *
  have HX := hid hx
  have HY := hid hy
  have CX := hid cx
  have CY := hid cy
  have AL := hid (fun w => alive_any w)
  have hsf := store_flt
  clear ha hb hx hy cx cy
  go_enter Try.func4, Try.ntmps4
  go_wp2_with fail
  refine oa.out.mono ?_
  rintro e w' ⟨rfl, rfl⟩
  go_wp2_with fail
  refine ob.out.mono ?_
  rintro e w' ⟨rfl, rfl⟩
  go_wp2_with fail
  have HN := hid (fun (i : Nat) (h : i < 7) => name_at w i h)
  have HT0 : Hid (Touch [] w (w.alloc (.cells #[.string ⟨wAdd.toArray⟩, .string ⟨wSub.toArray⟩, .string ⟨wMul.toArray⟩, .string ⟨wDiv.toArray⟩, .string ⟨wMin.toArray⟩, .string ⟨wMax.toArray⟩, .string ⟨wLess.toArray⟩] TStr))) := hid ((Touch.refl _ _).alloc _)
  unfold wAdd wSub wMul wDiv wMin wMax wLess at HN HT0
  generalize w.alloc (.cells #[.string ⟨[97, 100, 100].toArray⟩, .string ⟨[115, 117, 98].toArray⟩, .string ⟨[109, 117, 108].toArray⟩, .string ⟨[100, 105, 118].toArray⟩, .string ⟨[109, 105, 110].toArray⟩, .string ⟨[109, 97, 120].toArray⟩, .string ⟨[108, 101, 115, 115].toArray⟩] TStr) = w1 at HN HT0 ⊢
  go_loopw [23] (fun iv wr => ∃ i : Nat, i ≤ 7 ∧ iv = .int .i64 i ∧ Touch [] w1 wr) (fun iv _ => 7 - (RowKit.intOf iv).toNat)
  case atStart => exact ⟨0, by decide, rfl, Touch.refl _ _⟩
  case round =>
    obtain ⟨i, hi, rfl, ht⟩ := hrel
    have HT := hid ht; clear ht
    by_cases h7 : i < 7
    · have h7I : (i : Int) < 7 := by omega
      have hcell := HT.out.cell (HN.out i h7)
      have H7 := hid h7
      have hLE : edgeW i x y = [txt (textOf x), txt (textOf y), eName i] := rfl
      have sE : ∀ s ∈ edgeW i x y, s.size ≤ maxLen := by
        intro s hs
        simp only [edgeW, List.mem_cons, List.not_mem_nil, or_false] at hs
        rcases hs with rfl | rfl | rfl
        · exact textOf_size HX.out
        · exact textOf_size HY.out
        · exact eName_size h7
      have sO : ∀ s ∈ oneW i x, s.size ≤ maxLen := by
        intro s hs
        simp only [oneW, List.mem_cons, List.not_mem_nil, or_false] at hs
        rcases hs with rfl | rfl
        · exact textOf_size HX.out
        · exact eName_size h7
      have F1 : Hid (∀ (w : World) (n : Nat), w.heap.size = n → TextsX (w.alloc (.cells #[.string (txt (textOf x)), .string (txt (textOf y)), .string (eName i)] TStr)) (some ⟨n, 0, none⟩) (edgeW i x y)) := fun w n hn => texts_n w n (edgeW i x y) sE hn
      have F2 : Hid (∀ (w : World) (n : Nat), w.heap.size = n → TextsX (w.alloc (.cells #[.string (txt (textOf x)), .string (eName i)] TStr)) (some ⟨n, 0, none⟩) (oneW i x)) := fun w n hn => texts_n w n (oneW i x) sO hn
      have R1 : Hid (∀ (w1 : World) (q : Option Addr), TextsX w1 q (edgeW i x y) → Calls Try.prog 19 #[.agg #[.slice q 3 3], env0.val] w1 (RunPost (can (eOp i x y), fine) w1)) := fun w1 q hq => by
        rw [← edge_run h7 HX.out HY.out CX.out CY.out]
        exact run_any q 3 (edgeW i x y) env0 w1 env0_ok (show (3 : Nat) ≤ _ by decide) hq
      have R2 : Hid (∀ (w1 : World) (q : Option Addr), TextsX w1 q (oneW i x) → Calls Try.prog 19 #[.agg #[.slice q 2 2], env0.val] w1 (RunPost (0, runtimeF) w1)) := fun w1 q hq => by
        rw [← one_run h7 HX.out CX.out]
        exact run_any q 2 (oneW i x) env0 w1 env0_ok (show (2 : Nat) ≤ _ by decide) hq
      have TA : Hid (∀ w, Calls Try.prog 18 #[.float .f64 x] w fun e w' => e = .returned (.string (txt (textOf x))) ∧ Touch [] w w') := fun w => refText_any x w HX.out
      have TB : Hid (∀ w, Calls Try.prog 18 #[.float .f64 y] w fun e w' => e = .returned (.string (txt (textOf y))) ∧ Touch [] w w') := fun w => refText_any y w HY.out
      have LC : Hid (∀ (w : World) (n : Nat), w.heap.size = n → Calls Try.prog 21 #[.slice (some ⟨n, 0, none⟩) 2 2] (w.alloc (.cells #[.float .f64 x, .float .f64 y] TFlt)) fun e w' => e = .returned (.float .f64 (leastOf [x, y])) ∧ w.alloc (.cells #[.float .f64 x, .float .f64 y] TFlt) = w') := fun w n hn => refLeast_any _ 2 x [y] _ (by simp) (flts_two x y HX.out HY.out w n hn)
      have MC : Hid (∀ (w : World) (n : Nat), w.heap.size = n → Calls Try.prog 22 #[.slice (some ⟨n, 0, none⟩) 2 2] (w.alloc (.cells #[.float .f64 x, .float .f64 y] TFlt)) fun e w' => e = .returned (.float .f64 (mostOf [x, y])) ∧ w.alloc (.cells #[.float .f64 x, .float .f64 y] TFlt) = w') := fun w n hn => refMost_any _ 2 x [y] _ (by simp) (flts_two x y HX.out HY.out w n hn)
      have SM : Hid (∀ (p q : Nat) (w : World), Wd p → Wd q → can q = can p → Calls Try.prog 15 #[.float .f64 p, .float .f64 q] w fun e w' => e = .returned (.bool true) ∧ w = w') := fun p q w hp hq h => by
        have := refSame_any p q w hp hq
        rwa [decide_eq_true h.symm] at this
      have HOW := hid (eOp_wd h7 HX.out HY.out)
      have LS := hid (fun w => refLess_any x y w HX.out HY.out)
      obtain ⟨LL, hLL⟩ : ∃ LL, leastOf [x, y] = LL := ⟨_, rfl⟩
      obtain ⟨MM, hMM⟩ : ∃ MM, mostOf [x, y] = MM := ⟨_, rfl⟩
      obtain ⟨OO, hOO⟩ : ∃ OO, eOp i x y = OO := ⟨_, rfl⟩
      have HO := hid hOO
      rw [hLL] at LC
      rw [hMM] at MC
      rw [hOO] at R1 HOW
      clear hOO
      generalize edgeW i x y = LE at *
      generalize oneW i x = LO at *
      generalize txt (textOf x) = A at *
      generalize txt (textOf y) = B at *
      generalize eName i = N at *
      clear hLE sE sO
      by_cases hr : rank x < rank y
      · obtain ⟨ZZ, hZ, hz⟩ : ∃ ZZ, ZZ = 4607182418800017408 ∧ lessOf x y = ZZ := ⟨_, rfl, by unfold lessOf; rw [if_pos hr]⟩
        rw [decide_eq_true hr] at LS
        clear hr
        subst hZ
        go_wp2_with fail
        refine (TA.out _).mono ?_
        rintro e w2 ⟨rfl, t2⟩
        go_wp2_with fail
        refine (TB.out _).mono ?_
        rintro e w3 ⟨rfl, t3⟩
        have T3 := hid (t2.trans t3 (by simp) : Touch [] wr w3)
        clear t2 t3
        go_wp2_with fail
        refine (R1.out _ _ ((F1.out w3 _ rfl).touch ((Touch.refl _ _).alloc _))).mono ?_
        rintro e w4 ⟨rfl, t4⟩
        have T4 := hid (((T3.out.alloc _).alloc _).trans t4 (by simp) : Touch [] wr w4)
        clear t4 T3
        go_wp2_with fail
        have G4 := hid (heap_alloc_new w4 (.cells #[.int .i64 0, .int .i64 0, .string none8] TFault))
        have T5 := hid (T4.out.alloc (.cells #[.int .i64 0, .int .i64 0, .string none8] TFault))
        generalize w4.alloc (.cells #[.int .i64 0, .int .i64 0, .string none8] TFault) = W4 at *
        refine (LS.out _).mono ?_
        rintro e w' ⟨rfl, rfl⟩
        obtain ⟨r1, v1, e1, d1, q1, s1⟩ := run_ar .add (.inl rfl) x y W4
        obtain ⟨r2, v2, e2, d2, q2, s2⟩ := run_ar .sub (.inr (.inl rfl)) x y v1
        obtain ⟨r3, v3, e3, d3, q3, s3⟩ := run_ar .mul (.inr (.inr (.inl rfl))) x y v2
        obtain ⟨r4, v4, e4, d4, q4, s4⟩ := run_ar .quo (.inr (.inr (.inr rfl))) x y v3
        have S4 : Hid (Touch [] W4 v4) := hid (((s1.trans s2 (by simp)).trans s3 (by simp)).trans s4 (by simp))
        have HW := hid (want_op q1 q2 q3 q4 d1 d2 d3 d4 HX.out HY.out H7.out)
        rw [hz] at HW
        have hwant := want_at' r1 r2 r3 r4 LL MM 4607182418800017408 i H7.out ((v4.alloc (.cells #[.float .f64 x, .float .f64 y] TFlt)).alloc (.cells #[.float .f64 x, .float .f64 y] TFlt)) (v4.heap.size + 1 + 1) (by simp)
        have hLM := hid (And.intro hLL hMM)
        rw [hLM.out.1, hLM.out.2, HO.out] at HW
        generalize wantL r1 r2 r3 r4 LL MM 4607182418800017408 i = WT at *
        have G5 := touch_other S4.out G4.out (by simp)
        have g0 := fun o1 o2 o3 : Obj => cell_of (heap_alloc_keep (heap_alloc_keep (heap_alloc_keep G5 o1) o2) o3) 0
        have g1 := fun o1 o2 o3 : Obj => cell_of (heap_alloc_keep (heap_alloc_keep (heap_alloc_keep G5 o1) o2) o3) 1
        have g2 := fun o1 o2 o3 : Obj => cell_of (heap_alloc_keep (heap_alloc_keep (heap_alloc_keep G5 o1) o2) o3) 2
        clear d1 d2 d3 d4 q1 q2 q3 q4 s1 s2 s3 s4 G5 hLL hMM
        go_wp2_with fail
        refine (LC.out _ _ rfl).mono ?_
        rintro e w' ⟨rfl, rfl⟩
        go_wp2_with fail
        refine (MC.out _ _ (by simp)).mono ?_
        rintro e w' ⟨rfl, rfl⟩
        go_wp2_with fail
        refine (SM.out _ _ _ (HOW.out.can) HW.out.2 (by rw [HW.out.1, can_can])).mono ?_
        rintro e w' ⟨rfl, rfl⟩
        go_wp2_with fail
        refine (TA.out _).mono ?_
        rintro e w6 ⟨rfl, t6⟩
        have T6 := hid (((((T5.out.trans S4.out (by simp)).alloc _).alloc _).alloc _).trans t6 (by simp) : Touch [] wr w6)
        clear t6
        go_wp2_with fail
        refine (R2.out _ _ ((F2.out w6 _ rfl).touch ((Touch.refl _ _).alloc _))).mono ?_
        rintro e w7 ⟨rfl, t7⟩
        have T7 := hid (HT.out.trans (((T6.out.alloc _).alloc _).trans t7 (by simp) : Touch [] wr w7) (by simp) : Touch [] w1 w7)
        clear t7
        go_wp2
        go_roundw
        case rel => exact ⟨i + 1, by omega, by go_num, T7.out.alloc _⟩
        case measure => simp [RowKit.intOf]; omega
      · obtain ⟨ZZ, hZ, hz⟩ : ∃ ZZ, ZZ = 0 ∧ lessOf x y = ZZ := ⟨_, rfl, by unfold lessOf; rw [if_neg hr]⟩
        rw [decide_eq_false hr] at LS
        clear hr
        subst hZ
        go_wp2_with fail
        refine (TA.out _).mono ?_
        rintro e w2 ⟨rfl, t2⟩
        go_wp2_with fail
        refine (TB.out _).mono ?_
        rintro e w3 ⟨rfl, t3⟩
        have T3 := hid (t2.trans t3 (by simp) : Touch [] wr w3)
        clear t2 t3
        go_wp2_with fail
        refine (R1.out _ _ ((F1.out w3 _ rfl).touch ((Touch.refl _ _).alloc _))).mono ?_
        rintro e w4 ⟨rfl, t4⟩
        have T4 := hid (((T3.out.alloc _).alloc _).trans t4 (by simp) : Touch [] wr w4)
        clear t4 T3
        go_wp2_with fail
        have G4 := hid (heap_alloc_new w4 (.cells #[.int .i64 0, .int .i64 0, .string none8] TFault))
        have T5 := hid (T4.out.alloc (.cells #[.int .i64 0, .int .i64 0, .string none8] TFault))
        generalize w4.alloc (.cells #[.int .i64 0, .int .i64 0, .string none8] TFault) = W4 at *
        refine (LS.out _).mono ?_
        rintro e w' ⟨rfl, rfl⟩
        obtain ⟨r1, v1, e1, d1, q1, s1⟩ := run_ar .add (.inl rfl) x y W4
        obtain ⟨r2, v2, e2, d2, q2, s2⟩ := run_ar .sub (.inr (.inl rfl)) x y v1
        obtain ⟨r3, v3, e3, d3, q3, s3⟩ := run_ar .mul (.inr (.inr (.inl rfl))) x y v2
        obtain ⟨r4, v4, e4, d4, q4, s4⟩ := run_ar .quo (.inr (.inr (.inr rfl))) x y v3
        have S4 : Hid (Touch [] W4 v4) := hid (((s1.trans s2 (by simp)).trans s3 (by simp)).trans s4 (by simp))
        have HW := hid (want_op q1 q2 q3 q4 d1 d2 d3 d4 HX.out HY.out H7.out)
        rw [hz] at HW
        have hwant := want_at' r1 r2 r3 r4 LL MM 0 i H7.out ((v4.alloc (.cells #[.float .f64 x, .float .f64 y] TFlt)).alloc (.cells #[.float .f64 x, .float .f64 y] TFlt)) (v4.heap.size + 1 + 1) (by simp)
        have hLM := hid (And.intro hLL hMM)
        rw [hLM.out.1, hLM.out.2, HO.out] at HW
        generalize wantL r1 r2 r3 r4 LL MM 0 i = WT at *
        have G5 := touch_other S4.out G4.out (by simp)
        have g0 := fun o1 o2 o3 : Obj => cell_of (heap_alloc_keep (heap_alloc_keep (heap_alloc_keep G5 o1) o2) o3) 0
        have g1 := fun o1 o2 o3 : Obj => cell_of (heap_alloc_keep (heap_alloc_keep (heap_alloc_keep G5 o1) o2) o3) 1
        have g2 := fun o1 o2 o3 : Obj => cell_of (heap_alloc_keep (heap_alloc_keep (heap_alloc_keep G5 o1) o2) o3) 2
        clear d1 d2 d3 d4 q1 q2 q3 q4 s1 s2 s3 s4 G5 hLL hMM
        go_wp2_with fail
        refine (LC.out _ _ rfl).mono ?_
        rintro e w' ⟨rfl, rfl⟩
        go_wp2_with fail
        refine (MC.out _ _ (by simp)).mono ?_
        rintro e w' ⟨rfl, rfl⟩
        go_wp2_with fail
        refine (SM.out _ _ _ (HOW.out.can) HW.out.2 (by rw [HW.out.1, can_can])).mono ?_
        rintro e w' ⟨rfl, rfl⟩
        go_wp2_with fail
        refine (TA.out _).mono ?_
        rintro e w6 ⟨rfl, t6⟩
        have T6 := hid (((((T5.out.trans S4.out (by simp)).alloc _).alloc _).alloc _).trans t6 (by simp) : Touch [] wr w6)
        clear t6
        go_wp2_with fail
        refine (R2.out _ _ ((F2.out w6 _ rfl).touch ((Touch.refl _ _).alloc _))).mono ?_
        rintro e w7 ⟨rfl, t7⟩
        have T7 := hid (HT.out.trans (((T6.out.alloc _).alloc _).trans t7 (by simp) : Touch [] wr w7) (by simp) : Touch [] w1 w7)
        clear t7
        go_wp2
        go_roundw
        case rel => exact ⟨i + 1, by omega, by go_num, T7.out.alloc _⟩
        case measure => simp [RowKit.intOf]; omega
    · obtain rfl : i = 7 := by omega
      go_wp2_with (go_at_call 10; refine (AL.out _).mono ?_; rintro e w5 ⟨rfl, t5⟩)
      go_ret
      exact ⟨rfl, (HT0.out.trans HT.out (by simp)).trans t5 (by simp)⟩
theorem walk_ProgEdges (a : Int) (wa : (Lit.int .u64 a).wf = true) (b : Int) (wb : (Lit.int .u64 b).wf = true) (w : World) :
    Calls Try.prog 4 #[.int .u64 a, .int .u64 b] w fun e w' => e = .returned (.bool true) ∧ Touch [] w w' := by
  obtain ⟨x, rfl, hx⟩ := u64_nat wa
  obtain ⟨y, rfl, hy⟩ := u64_nat wb
  exact edges_nat x y hx hy w
end Go.Proofs.Ytiglfdefeaddmaa
