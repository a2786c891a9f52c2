/- RealParts, walked. -/
import Derived.Test.YtjljflaejfbljaaDoorWSums
import Derived.Test.YtjljflaejfbljaaDoorMost
namespace Go.Proofs.YtjljflaejfbljaaDoor
open Go.RowKit Go.Lib

theorem fold_key (ahead : Nat → Nat → Bool) (κ : Nat → Int) (hk : ∀ a b, ahead a b = decide (κ a < κ b)) : ∀ (t : List Nat) (a : Nat), (t.foldl (pickB ahead) a = a ∨ t.foldl (pickB ahead) a ∈ t) ∧ κ (t.foldl (pickB ahead) a) ≤ κ a ∧ ∀ y ∈ t, κ (t.foldl (pickB ahead) a) ≤ κ y
  | [], a => ⟨.inl rfl, Int.le_refl _, fun y hy => by cases hy⟩
  | c :: t, a => by
    obtain ⟨h1, h2, h3⟩ := fold_key ahead κ hk t (pickB ahead a c)
    have hp : (pickB ahead a c = a ∧ κ a ≤ κ c) ∨ (pickB ahead a c = c ∧ κ c ≤ κ a) := by
      unfold pickB
      rw [hk]
      by_cases h : κ c < κ a
      · rw [if_pos (by simpa using h)]; exact .inr ⟨rfl, by omega⟩
      · rw [if_neg (by simpa using h)]; exact .inl ⟨rfl, by omega⟩
    have hq : κ (pickB ahead a c) ≤ κ a ∧ κ (pickB ahead a c) ≤ κ c := by
      rcases hp with ⟨e, h⟩ | ⟨e, h⟩ <;> rw [e] <;> omega
    simp only [List.foldl_cons]
    refine ⟨?_, by omega, fun y hy => ?_⟩
    · rcases h1 with h | h
      · rw [h]
        rcases hp with ⟨e, _⟩ | ⟨e, _⟩
        · exact .inl e
        · rw [e]; exact .inr (by simp)
      · exact .inr (by simp [h])
    · simp only [List.mem_cons] at hy
      rcases hy with rfl | hy
      · omega
      · exact h3 y hy
theorem first_key (ahead : Nat → Nat → Bool) (κ : Nat → Int) (hk : ∀ a b, ahead a b = decide (κ a < κ b)) (l : List Nat) (hl : l ≠ []) : ∃ m ∈ l, firstOf ahead l = can m ∧ ∀ y ∈ l, κ m ≤ κ y := by
  cases l with
  | nil => exact absurd rfl hl
  | cons a t =>
    obtain ⟨h1, h2, h3⟩ := fold_key ahead κ hk t a
    refine ⟨t.foldl (pickB ahead) a, ?_, rfl, fun y hy => ?_⟩
    · rcases h1 with h | h
      · rw [h]; simp
      · simp [h]
    · simp only [List.mem_cons] at hy
      rcases hy with rfl | hy
      · exact h2
      · exact h3 y hy

/-- What the laws ask of the first one of a list in an order. -/
structure FirstR (l : List Nat) (m : Nat) (κ : Nat → Int) : Prop where
  wd : Wd m
  some : ∃ y ∈ l, can y = can m
  le : ∀ y ∈ l, κ m ≤ κ y
theorem firstR (ahead : Nat → Nat → Bool) (κ : Nat → Int) (hk : ∀ a b, ahead a b = decide (κ a < κ b)) (hcan : ∀ a, κ (can a) = κ a) (l : List Nat) (hl : l ≠ []) (hw : ∀ y ∈ l, Wd y) : FirstR l (firstOf ahead l) κ := by
  obtain ⟨m, h1, h2, h3⟩ := first_key ahead κ hk l hl
  rw [h2]
  exact ⟨(hw m h1).can, ⟨m, h1, (can_can m).symm⟩, fun y hy => by rw [hcan]; exact h3 y hy⟩
/-- The first one of both lists together is that of the two first ones. -/
theorem firstR_both (ahead : Nat → Nat → Bool) (κ : Nat → Int) (hk : ∀ a b, ahead a b = decide (κ a < κ b)) (hcan : ∀ a, κ (can a) = κ a) (hinj : ∀ a b, Wd a → Wd b → κ a = κ b → can a = can b) (a b : List Nat) (ha : a ≠ []) (hb : b ≠ []) (hwa : ∀ y ∈ a, Wd y) (hwb : ∀ y ∈ b, Wd y) :
    can (firstOf ahead (a ++ b)) = can (firstOf ahead [firstOf ahead a, firstOf ahead b]) := by
  have hA := firstR ahead κ hk hcan a ha hwa
  have hB := firstR ahead κ hk hcan b hb hwb
  have hAB := firstR ahead κ hk hcan (a ++ b) (by simp [ha]) (fun y hy => by rcases List.mem_append.1 hy with h | h; exact hwa y h; exact hwb y h)
  have hP := firstR ahead κ hk hcan [firstOf ahead a, firstOf ahead b] (by simp) (by intro y hy; simp at hy; rcases hy with rfl | rfl; exact hA.wd; exact hB.wd)
  have kc : ∀ u v, can u = can v → κ u = κ v := fun u v h => by rw [← hcan u, h, hcan]
  apply hinj _ _ hAB.wd hP.wd
  obtain ⟨y, hy1, hy2⟩ := hAB.some
  obtain ⟨z, hz1, hz2⟩ := hP.some
  have e1 := kc _ _ hy2
  have e2 := kc _ _ hz2
  have p1 := hP.le (firstOf ahead a) (by simp)
  have p2 := hP.le (firstOf ahead b) (by simp)
  obtain ⟨ya, hya1, hya2⟩ := hA.some
  obtain ⟨yb, hyb1, hyb2⟩ := hB.some
  have e3 := kc _ _ hya2
  have e4 := kc _ _ hyb2
  have q1 := hAB.le ya (by simp [hya1])
  have q2 := hAB.le yb (by simp [hyb1])
  have r : κ (firstOf ahead a) ≤ κ y ∨ κ (firstOf ahead b) ≤ κ y := by
    rcases List.mem_append.1 hy1 with h | h
    · exact .inl (hA.le y h)
    · exact .inr (hB.le y h)
  have s : z = firstOf ahead a ∨ z = firstOf ahead b := by simpa using hz1
  rcases s with rfl | rfl <;> rcases r with r | r <;> omega

def kL (a : Nat) : Int := rank a
def kM (a : Nat) : Int := -(rank a : Int)
theorem kL_ahead (a b : Nat) : aheadL a b = decide (kL a < kL b) := by unfold aheadL kL; rw [decide_eq_decide]; omega
theorem kM_ahead (a b : Nat) : aheadM a b = decide (kM a < kM b) := by unfold aheadM kM; rw [decide_eq_decide]; omega
theorem kL_can (a : Nat) : kL (can a) = kL a := by unfold kL; rw [rank_can]
theorem kM_can (a : Nat) : kM (can a) = kM a := by unfold kM; rw [rank_can]
theorem kL_inj (a b : Nat) (ha : Wd a) (hb : Wd b) (h : kL a = kL b) : can a = can b := by unfold kL at h; exact (rank_inj ha.lt hb.lt).1 (by omega)
theorem kM_inj (a b : Nat) (ha : Wd a) (hb : Wd b) (h : kM a = kM b) : can a = can b := by unfold kM at h; exact (rank_inj ha.lt hb.lt).1 (by omega)
theorem leastR (l : List Nat) (hl : l ≠ []) (hw : ∀ y ∈ l, Wd y) : FirstR l (leastOf l) kL := firstR aheadL kL kL_ahead kL_can l hl hw
theorem mostR (l : List Nat) (hl : l ≠ []) (hw : ∀ y ∈ l, Wd y) : FirstR l (mostOf l) kM := firstR aheadM kM kM_ahead kM_can l hl hw

/-- Is one among these? -/
def anyB (m : Nat) (l : List Nat) : Bool := l.any fun y => decide (can y = can m)
theorem anyB_take (m : Nat) (l : List Nat) (k : Nat) (h : k < l.length) : anyB m (l.take (k + 1)) = (anyB m (l.take k) || decide (can l[k] = can m)) := by
  unfold anyB
  rw [List.take_succ_eq_append_getElem h, List.any_append]
  simp
theorem anyB_all {l : List Nat} {m : Nat} {κ : Nat → Int} (h : FirstR l m κ) : anyB m l = true := by
  obtain ⟨y, h1, h2⟩ := h.some
  unfold anyB
  rw [List.any_eq_true]
  exact ⟨y, h1, by simpa using h2⟩

set_option maxHeartbeats 2000000 in
theorem parts_out (x y : Option Addr) (c d m n : Nat) (w : World) (htab : Tab w) (h : (m : Int) < 1 ∨ ((1 : Int) ≤ m ∧ (n : Int) < 1) ∨ ((1 : Int) ≤ m ∧ (1 : Int) ≤ n ∧ 40 < (m : Int)) ∨ ((1 : Int) ≤ m ∧ (1 : Int) ≤ n ∧ (m : Int) ≤ 40 ∧ 40 < (n : Int))) :
    Calls Tryd.prog 8 #[.slice x m c, .slice y n d] w fun e w' => e = .returned (.bool true) ∧ Touch [] w w' := by
  have Ca := hid (alive_any w htab)
  clear htab
  have key : ∀ (t1 t2 t3 t4 : Bool), decide ((m : Int) < 1) = t1 → decide ((n : Int) < 1) = t2 → decide (40 < (m : Int)) = t3 → decide (40 < (n : Int)) = t4 → (t1 = true ∨ (t1 = false ∧ t2 = true) ∨ (t1 = false ∧ t2 = false ∧ t3 = true) ∨ (t1 = false ∧ t2 = false ∧ t3 = false ∧ t4 = true)) →
      Calls Tryd.prog 8 #[.slice x m c, .slice y n d] w fun e w' => e = .returned (.bool true) ∧ Touch [] w w' := by
    clear h
    intro t1 t2 t3 t4 e1 e2 e3 e4 h
    rcases h with rfl | ⟨rfl, rfl⟩ | ⟨rfl, rfl, rfl⟩ | ⟨rfl, rfl, rfl, rfl⟩
    all_goals
      go_enter Tryd.func8, Tryd.ntmps8
      go_wp2_with (go_at_call 12; refine Ca.out.mono ?_; rintro e w1 ⟨rfl, q1⟩)
      go_ret
      exact ⟨rfl, q1⟩
  refine key _ _ _ _ rfl rfl rfl rfl ?_
  simp only [decide_eq_true_eq, decide_eq_false_iff_not]
  omega

theorem news_of {w : World} {ad : Addr} {l : List Nat} (h : Flts w (some ad) l) : ∀ j u, (fvals l)[j]? = some u → w.cell? (ad.add j) = some u := fun j u hu => by
  unfold fvals at hu
  rw [List.getElem?_map] at hu
  cases hj : l[j]? with
  | none => rw [hj] at hu; cases hu
  | some t =>
    rw [hj] at hu
    obtain ⟨hlt, rfl⟩ := List.getElem?_eq_some_iff.1 hj
    obtain ⟨b, off, he, h2, _⟩ := h j hlt
    obtain rfl := Option.some.inj he
    rw [show (⟨b, off, none⟩ : Addr).add j = ⟨b, off + j, none⟩ from by unfold Addr.add; split <;> simp_all, h2]
    exact hu

set_option maxHeartbeats 8000000 in
theorem parts_full (x y : Option Addr) (c d : Nat) (a b : List Nat) (w : World) (htab : Tab w) (ha : a ≠ []) (hb : b ≠ []) (hla : (a.length : Int) ≤ 40) (hlb : (b.length : Int) ≤ 40)
    (hca : ∀ i (h : i < a.length), ∃ b off, x = some ⟨b, off, none⟩ ∧ w.cell? ⟨b, off + i, none⟩ = some (.int .u64 (a[i] : Int)) ∧ Wd a[i])
    (hcb : ∀ i (h : i < b.length), ∃ b' off, y = some ⟨b', off, none⟩ ∧ w.cell? ⟨b', off + i, none⟩ = some (.int .u64 (b[i] : Int)) ∧ Wd b[i]) :
    Calls Tryd.prog 8 #[.slice x a.length c, .slice y b.length d] w fun e w' => e = .returned (.bool true) ∧ Touch [] w w' := by
  have Ca := hid (alive_any w htab)
  have WA := hid (Wd.word hca)
  have WB := hid (Wd.word hcb)
  have CA := hid hca
  have CB := hid hcb
  have na : 0 < a.length := List.length_pos_iff.2 ha
  have nb : 0 < b.length := List.length_pos_iff.2 hb
  have t1 : decide ((a.length : Int) < 1) = false := by simp; omega
  have t2 : decide ((b.length : Int) < 1) = false := by simp; omega
  have t3 : decide (40 < (a.length : Int)) = false := by simp; omega
  have t4 : decide (40 < (b.length : Int)) = false := by simp; omega
  obtain ⟨i0, hi, hz0, hz1, hz2⟩ := info_parts Tryd.infoFlt
  clear htab hca hcb
  go_enter Tryd.func8, Tryd.ntmps8
  go_wp2_with fail
  refine Ca.out.mono ?_
  rintro e w1 ⟨rfl, a1⟩
  have A1 := hid a1; clear a1
  go_wp2_with fail
  refine (floats_any x c a w1 (by omega) (fun i hi => by obtain ⟨b, off, h1, h2, h3⟩ := CA.out i hi; exact ⟨b, off, h1, A1.out.cell h2, h3⟩)).mono ?_
  rintro e w2 ⟨v1, rfl, hown, a2⟩
  have A2 : Hid (Touch [] w w2) := A1.out.trans a2 (by simp)
  obtain ⟨xa, xc, rfl, hx1, hx2, hx3, hx4⟩ := flts_own hown rfl WA.out
  have HX := hid hx3
  clear a2 hown hx3
  go_wp2_with fail
  refine (floats_any y d b w2 (by omega) (fun i hi => by obtain ⟨b, off, h1, h2, h3⟩ := CB.out i hi; exact ⟨b, off, h1, A2.out.cell h2, h3⟩)).mono ?_
  rintro e w3 ⟨v2, rfl, hown, a3⟩
  have A3 : Hid (Touch [] w w3) := A2.out.trans a3 (by simp)
  have HX3 : Hid (Flts w3 xa a) := HX.out.touch a3
  obtain ⟨ya, yc, rfl, hy1, hy2, hy3, hy4⟩ := flts_own hown rfl WB.out
  have HY := hid hy3
  clear a3 hown hy3
  cases xa with
  | none => exact absurd (hx4 rfl).1 ha
  | some ad =>
  cases ya with
  | none => exact absurd (hy4 rfl).1 hb
  | some bd =>
  clear hx4 hy4
  have N1 := hid (news_of HX3.out)
  go_wp2_with (first | (at_builtin; refine wpList_append_own _ rfl (.const (.slice none 0 0)) (.tmp 40) 42 rfl w3.heap.size 24 i0 (.float .f64 0) 1 8 Tryd.underlying42 hi hz0 hz1 hz2 rfl (by decide) (.slice none 0 0) 0 [] rfl (World.ownsRow_nil _ _ _ _) ad a.length xc (fvals a) rfl (by simp [fvals]) N1.out (fvals_one a) (by unfold maxLen; omega) (by omega) (Nat.le_refl _) ?_; intro v3 w4 hown1 hg1 _; simp only [Nat.zero_add, List.nil_append] at hown1; have Ht1 : Hid (Touch [] w3 w4) := (Touch.refl [] w3).grown hg1 (fun b hb => by cases hb); have HO1 := hid hown1; have N2 := hid (news_of (HY.out.touch Ht1.out)); clear hg1 hown1) | (at_builtin; refine wpList_append_own _ rfl (.tmp 41) (.tmp 42) 42 rfl w3.heap.size 24 i0 (.float .f64 0) 1 8 Tryd.underlying42 hi hz0 hz1 hz2 rfl (by decide) (v3) (a.length) (fvals a) rfl HO1.out bd b.length yc (fvals b) rfl (by simp [fvals]) N2.out (fvals_one b) (by unfold maxLen; omega) (by omega) Ht1.out.size ?_; intro v4 w5 hown2 hg2 _; have Ht2 : Hid (Touch [] w3 w5) := Ht1.out.grown hg2 (fun b hb => .inr (HO1.out.lt b hb).1); rw [show fvals a ++ fvals b = fvals (a ++ b) by simp [fvals]] at hown2; have HO2 := hid hown2; clear hg2 hown2))
  have WAB : Hid (∀ z ∈ a ++ b, Wd z) := fun z hz => by rcases List.mem_append.1 hz with h | h; exact WA.out z h; exact WB.out z h
  obtain ⟨za, zc, rfl, hz1', hz2', hz3', _⟩ := flts_own HO2.out (by simp) WAB.out
  have HZ := hid hz3'
  have hne : a ++ b ≠ [] := by simp [ha]
  have L1 := hid (leastR (a ++ b) hne WAB.out)
  have M1 := hid (mostR (a ++ b) hne WAB.out)
  have CL := hid (least_any za zc (a ++ b) w5 (by unfold maxLen at hz2'; omega) hz1' hz3')
  have CM := hid (most_any za zc (a ++ b) w5 (by unfold maxLen at hz2'; omega) hz1' hz3')
  have B1 : Hid (can (leastOf (a ++ b)) = can (leastOf [leastOf a, leastOf b])) := firstR_both aheadL kL kL_ahead kL_can kL_inj a b ha hb WA.out WB.out
  have B2 : Hid (can (mostOf (a ++ b)) = can (mostOf [mostOf a, mostOf b])) := firstR_both aheadM kM kM_ahead kM_can kM_inj a b ha hb WA.out WB.out
  have wl := L1.out.wd
  have wm := M1.out.wd
  have HXl := hid (And.intro hx1 hx2)
  have HYl := hid (And.intro hy1 hy2)
  have hlen : (a ++ b).length ≤ 80 := by rw [List.length_append]; omega
  clear hz1' hz2' hz3' hx1 hx2 hy1 hy2 hne
  have wla := (leastR a ha WA.out).wd
  have wlb := (leastR b hb WB.out).wd
  have wma := (mostR a ha WA.out).wd
  have wmb := (mostR b hb WB.out).wd
  have wl2 : Wd (leastOf [leastOf a, leastOf b]) := (leastR _ (by simp) (by intro y hy; simp at hy; rcases hy with rfl | rfl; exact wla; exact wlb)).wd
  have wm2 : Wd (mostOf [mostOf a, mostOf b]) := (mostR _ (by simp) (by intro y hy; simp at hy; rcases hy with rfl | rfl; exact wma; exact wmb)).wd
  have E1 : decide (can (leastOf (a ++ b)) = can (leastOf [leastOf a, leastOf b])) = true := decide_eq_true B1.out
  have E2 : decide (can (mostOf (a ++ b)) = can (mostOf [mostOf a, mostOf b])) = true := decide_eq_true B2.out
  have Da := hid (fun w6 (ht : Touch [] w3 w6) => least_any (some ad) xc a w6 (by have := HXl.out.2; unfold maxLen at this; omega) HXl.out.1 (HX3.out.touch ht))
  have Db := hid (fun w6 (ht : Touch [] w3 w6) => least_any (some bd) yc b w6 (by have := HYl.out.2; unfold maxLen at this; omega) HYl.out.1 (HY.out.touch ht))
  have Dc := hid (fun w6 : World => least_any (some ⟨w6.heap.size, 0, none⟩) 2 [leastOf a, leastOf b] _ (show (2 : Nat) ≤ 9223372036854775807 by decide) (Nat.le_refl 2) (flts_new w6 24 [leastOf a, leastOf b] (by intro y hy; simp at hy; rcases hy with rfl | rfl; exact wla; exact wlb)))
  have Fa := hid (fun w6 (ht : Touch [] w3 w6) => most_any (some ad) xc a w6 (by have := HXl.out.2; unfold maxLen at this; omega) HXl.out.1 (HX3.out.touch ht))
  have Fb := hid (fun w6 (ht : Touch [] w3 w6) => most_any (some bd) yc b w6 (by have := HYl.out.2; unfold maxLen at this; omega) HYl.out.1 (HY.out.touch ht))
  have Fc := hid (fun w6 : World => most_any (some ⟨w6.heap.size, 0, none⟩) 2 [mostOf a, mostOf b] _ (show (2 : Nat) ≤ 9223372036854775807 by decide) (Nat.le_refl 2) (flts_new w6 24 [mostOf a, mostOf b] (by intro y hy; simp at hy; rcases hy with rfl | rfl; exact wma; exact wmb)))
  clear B1 B2 HX HX3 HY HXl HYl N1 N2 HO1 HO2 Ht1 CA CB WA WB wla wlb wma wmb Ca ha hb na nb t1 t2 t3 t4 hla hlb hi hz0 hz1 hz2
  generalize leastOf [leastOf a, leastOf b] = L2 at *
  generalize mostOf [mostOf a, mostOf b] = M2 at *
  generalize leastOf (a ++ b) = L at *
  generalize mostOf (a ++ b) = M at *
  generalize leastOf a = La at *
  generalize leastOf b = Lb at *
  generalize mostOf a = Ma at *
  generalize mostOf b = Mb at *
  generalize hAB : a ++ b = AB at *
  clear hAB
  refine CL.out.mono ?_
  rintro e w' ⟨rfl, rfl⟩
  go_wp2_with fail
  refine CM.out.mono ?_
  rintro e w' ⟨rfl, rfl⟩
  go_wp2_with fail
  go_loop [10, 11, 12] (fun iv ov kv => ∃ k : Nat, k ≤ AB.length ∧ kv = .int .i64 k ∧ iv = .bool (anyB L (AB.take k)) ∧ ov = .bool (anyB M (AB.take k))) (fun _ _ kv => AB.length - (RowKit.intOf kv).toNat)
  case atStart => exact ⟨0, Nat.zero_le _, rfl, rfl, rfl⟩
  case round =>
    obtain ⟨k, hk, rfl, rfl, rfl⟩ := hrel
    by_cases hlt : k < AB.length
    · obtain ⟨bb, off, rfl, g1, g2⟩ := HZ.out k hlt
      have q1 : decide (rank AB[k] < rank L) = false := by
        have := L1.out.le AB[k] (List.getElem_mem hlt)
        unfold kL at this
        simp; omega
      have q2 : decide (rank M < rank AB[k]) = false := by
        have := M1.out.le AB[k] (List.getElem_mem hlt)
        unfold kM at this
        simp; omega
      have n1 := hid (anyB_take L AB k hlt)
      have n2 := hid (anyB_take M AB k hlt)
      generalize AB[k] = t at *
      generalize anyB L (AB.take k) = pb at *
      generalize anyB M (AB.take k) = qb at *
      have hl2 : decide (k < AB.length) = true := by simpa using hlt
      cases pb <;> cases qb
      all_goals
        go_wp2_with (first | (go_at_call 27; refine (same_any _ _ _ (by assumption) (by assumption)).mono ?_; rintro e w' ⟨rfl, rfl⟩) | (go_at_call 26; refine (less_any _ _ _ (by assumption) (by assumption)).mono ?_; rintro e w' ⟨rfl, rfl⟩))
        go_round
        case rel => exact ⟨k + 1, by omega, by go_num, by rw [n1.out]; simp, by rw [n2.out]; simp⟩
        case measure => simp [RowKit.intOf]; omega
    · obtain rfl : k = AB.length := by omega
      have hl2 : decide (AB.length < AB.length) = false := by simp
      rw [List.take_of_length_le (Nat.le_refl _), anyB_all L1.out, anyB_all M1.out]
      go_wp2_with fail
      refine (Da.out _ Ht2.out).mono ?_
      rintro e w' ⟨rfl, rfl⟩
      go_wp2_with fail
      refine (Db.out _ Ht2.out).mono ?_
      rintro e w' ⟨rfl, rfl⟩
      go_wp2_with fail
      refine (Dc.out _).mono ?_
      rintro e w6 ⟨rfl, h6⟩
      have A6 : Hid (Touch [] w3 w6) := by rw [← h6]; exact Ht2.out.alloc _
      clear h6
      go_wp2_with (go_at_call 27; refine (same_any _ _ _ (by assumption) (by assumption)).mono ?_; rintro e w' ⟨rfl, rfl⟩)
      refine (Fa.out _ A6.out).mono ?_
      rintro e w' ⟨rfl, rfl⟩
      go_wp2_with fail
      refine (Fb.out _ A6.out).mono ?_
      rintro e w' ⟨rfl, rfl⟩
      go_wp2_with fail
      refine (Fc.out _).mono ?_
      rintro e w7 ⟨rfl, h7⟩
      have A7 : Hid (Touch [] w w7) := by rw [← h7]; exact A3.out.trans (A6.out.alloc _) (by simp)
      clear h7
      go_wp2_with (go_at_call 27; refine (same_any _ _ _ (by assumption) (by assumption)).mono ?_; rintro e w' ⟨rfl, rfl⟩)
      go_ret
      exact ⟨rfl, A7.out⟩
theorem walk_RealParts (u : Value) (a : List Nat) (v : Value) (b : List Nat) (w : World) (htab : Tab w) (hu : U64s w u a) (hv : U64s w v b) :
    Calls Tryd.prog 8 #[u, v] w fun e w' => e = .returned (.bool true) ∧ Touch [] w w' := by
  obtain ⟨x, c, rfl, hla, hca⟩ := hu
  obtain ⟨y, d, rfl, hlb, hcb⟩ := hv
  by_cases h1 : (a.length : Int) < 1
  · exact parts_out x y c d _ _ w htab (.inl h1)
  by_cases h2 : (b.length : Int) < 1
  · exact parts_out x y c d _ _ w htab (.inr (.inl ⟨by omega, h2⟩))
  by_cases h3 : 40 < (a.length : Int)
  · exact parts_out x y c d _ _ w htab (.inr (.inr (.inl ⟨by omega, by omega, h3⟩)))
  by_cases h4 : 40 < (b.length : Int)
  · exact parts_out x y c d _ _ w htab (.inr (.inr (.inr ⟨by omega, by omega, by omega, h4⟩)))
  exact parts_full x y c d a b w htab (by rintro rfl; simp at h1) (by rintro rfl; simp at h2) (by omega) (by omega) hca hcb
end Go.Proofs.YtjljflaejfbljaaDoor
