/- The tree of entries that rise. -/
import Derived.Test.YtnkflmimnpolcaaAl12
namespace Go.Proofs.Ytnkflmimnpolcaa
open Go.RowKit Go.Lib
set_option maxRecDepth 100000

theorem EntX.take {w : World} {x : Option Addr} {l : List En} (h : EntX w x l) (m : Nat) : EntX w x (l.take m) := fun i hi => by
  have hi' : i < l.length := by rw [List.length_take] at hi; omega
  obtain ⟨b, off, hx, c0, c1, c2⟩ := h i hi'
  have e : (l.take m)[i]'hi = l[i] := List.getElem_take
  exact ⟨b, off, hx, by rw [e]; exact c0, by rw [e]; exact c1, by rw [e]; exact c2⟩
theorem EntX.drop {w : World} {b off : Nat} {l : List En} (h : EntX w (some ⟨b, off, none⟩) l) (m : Nat) : EntX w (some ⟨b, off + m * 3, none⟩) (l.drop m) := fun i hi => by
  have hi' : m + i < l.length := by rw [List.length_drop] at hi; omega
  obtain ⟨b', off', hx, c0, c1, c2⟩ := h (m + i) hi'
  cases hx
  have e : (l.drop m)[i]'hi = l[m + i] := List.getElem_drop
  have k : off + (m + i) * 3 = off + m * 3 + i * 3 := by omega
  rw [k] at c0 c1 c2
  exact ⟨b, off + m * 3, rfl, by rw [e]; exact c0, by rw [e]; exact c1, by rw [e]; exact c2⟩
theorem ofs0_any (x : Option Addr) (c : Nat) (w : World) : Calls Try.prog 48 #[.slice x 0 c] w fun e w' => ∃ p T, e = .returned (.pointer p) ∧ TreeAt w' p T ∧ T.io = [] ∧ Touch [] w w' := by
  go_enter Try.func48, Try.ntmps48
  go_wp2
  go_ret
  exact ⟨none, .nil, rfl, rfl, rfl, Touch.refl _ _⟩
set_option maxHeartbeats 400000 in
theorem ofs_any (N : Nat) : ∀ (l : List En) (x : Option Addr) (c : Nat) (w : World), l.length ≤ N → l.length ≤ c → l.length ≤ 600000 → EntX w x l →
    Calls Try.prog 48 #[.slice x l.length c] w fun e w' => ∃ p T, e = .returned (.pointer p) ∧ TreeAt w' p T ∧ T.io = l ∧ Touch [] w w' := by
  induction N with
  | zero =>
    intro l x c w hN _ _ _
    obtain rfl : l = [] := List.eq_nil_of_length_eq_zero (by omega)
    exact ofs0_any x c w
  | succ N ih =>
    intro l x c w hN hc hs hX
    by_cases h0 : l.length = 0
    · obtain rfl : l = [] := List.eq_nil_of_length_eq_zero h0
      exact ofs0_any x c w
    · obtain ⟨m, hm⟩ : ∃ m, m = l.length / 2 := ⟨_, rfl⟩
      have hml : m < l.length := by omega
      obtain ⟨b, off, rfl, g0, g1, g2⟩ := hX m hml
      have hsplit : l = l.take m ++ l[m] :: l.drop (m + 1) := by rw [List.getElem_cons_drop, List.take_append_drop]
      have ht : (l.take m).length = m := by rw [List.length_take]; omega
      have hd : (l.drop (m + 1)).length = l.length - (m + 1) := by rw [List.length_drop]
      have C1 := hid fun w' (t : Touch [] w w') => ih (l.take m) (some ⟨b, off, none⟩) c w' (by omega) (by omega) (by omega) ((hX.take m).t0 t)
      rw [ht] at C1
      have C2 := hid fun w' (t : Touch [] w w') => ih (l.drop (m + 1)) (some ⟨b, off + (m + 1) * 3, none⟩) (c - (m + 1)) w' (by omega) (by omega) (by omega) ((hX.drop (m + 1)).t0 t)
      rw [hd] at C2
      have C3 := hid fun w' => ofs0_any (some ⟨b, off, none⟩) 0 w'
      have J := hid fun (T1 T2 : Tr) (k1 : T1.io = l.take m) (k2 : T2.io = l.drop (m + 1)) p1 p2 w' (h1 : TreeAt w' p1 T1) (h2 : TreeAt w' p2 T2) => joined_any (l[m]) w' h1 h2 (by rw [T1.ct_io, T2.ct_io, k1, k2, ht, hd]; omega)
      have S := hid fun w' (t : Touch [] w w') => And.intro (t.cell g0) (And.intro (t.cell g1) (t.cell g2))
      have hq : (l.length : Int).tdiv 2 = (m : Int) := by rw [hm]; rfl
      have d0 : ((l.length : Int) == 0) = false := by rw [beq_eq_false_iff_ne]; omega
      have d1 : (m : Int) < l.length := by omega
      have d2 : decide (m < l.length) = true := by rw [decide_eq_true_eq]; omega
      have w1 : IntKind.i64.wrap (m : Int) = m := IntWalk.i64_in _ (by omega)
      have w2 : IntKind.i64.wrap ((m : Int) + 1) = (m : Int) + 1 := IntWalk.i64_in _ (by omega)
      have HS := hid hsplit
      have HT := hid ht
      have HD := hid hd
      clear ih hX g0 g1 g2 hsplit ht hd hm
      by_cases hcap : m + 1 = c
      · have hlm : l.length = m + 1 := by omega
        have hdr : l.drop (m + 1) = [] := by rw [List.drop_eq_nil_iff]; omega
        have HDR := hid hdr
        have e0 : l.length - (m + 1) = 0 := by omega
        have e1 : (l.length : Int) - ((m : Int) + 1) = 0 := by omega
        subst hcap
        clear hdr C2 hlm
        generalize l[m] = a at *
        go_enter Try.func48, Try.ntmps48
        go_upto_region 4 with fail
        have T2 : Touch [] w w.drew := (Touch.refl [] w).drew
        have Z : (fun w' => w'.cell? ⟨b, off + m * 3, none⟩ = some (.int .i64 a.1) ∧ w'.cell? ⟨b, off + m * 3 + 1, none⟩ = some (.int .i64 a.2.1) ∧ w'.cell? ⟨b, off + m * 3 + 2, none⟩ = some (.int .i64 a.2.2)) w.drew := S.out _ T2
        have f1 : (m : Int) ≤ (m : Int) + 1 := by omega
        have f2 : (m : Int) + 1 ≤ l.length := by omega
        have f3 : (l.length : Int) ≤ (m : Int) + 1 := by omega
        have f4 : decide (m ≤ m + 1) = true := by rw [decide_eq_true_eq]; omega
        have f5 : decide (m + 1 ≤ l.length) = true := by rw [decide_eq_true_eq]; omega
        have g0 : (0 : Int) ≤ (m : Int) + 1 := by omega
        have g1 : ((m : Int) + 1).toNat = m + 1 := by omega
        have f7 : decide (l.length ≤ m + 1) = true := by rw [decide_eq_true_eq]; omega
        go_region_held3 (fun w' => w'.cell? ⟨b, off + m * 3, none⟩ = some (.int .i64 a.1) ∧ w'.cell? ⟨b, off + m * 3 + 1, none⟩ = some (.int .i64 a.2.1) ∧ w'.cell? ⟨b, off + m * 3 + 2, none⟩ = some (.int .i64 a.2.2)) (first | go_keep | exact S.out _ (by assumption)) ((first
          | (go_at_call 48; refine (C1.out _ T2).mono ?_; clear C1; rintro e w2 ⟨p1, Ta, rfl, h1, k1, t2⟩; have T3 : Touch [] w w2 := T2.trans t2 (by simp); have H1 := hid h1; have K1 := hid k1; clear t2 h1 k1)
          | (go_at_call 48; refine (C3.out _).mono ?_; clear C3; rintro e w3 ⟨p2, Tb, rfl, h2, k2, t3⟩; have T4 : Touch [] w w3 := T3.trans t3 (by simp); have H2 := hid h2; have K2 := hid k2; have H3 := hid (H1.out.t0 t3); clear t3 h2 k2)
          | (go_at_call 49; refine (J.out Ta Tb K1.out (K2.out.trans HDR.out.symm) _ _ _ H3.out H2.out).mono ?_; clear J; rintro e w4 ⟨p3, rfl, h3, t4⟩; have T5 : Touch [] w w4 := T4.trans t4 (by simp); have H4 := hid h3; clear t4 h3)))
        all_goals go_wp2_with fail
        all_goals go_ret
        all_goals exact ⟨_, _, rfl, H4.out, by rw [HS.out]; simp only [Tr.io, K1.out, K2.out, HDR.out], T5⟩
      · have d3 : m + 1 < c := by omega
        generalize l[m] = a at *
        go_enter Try.func48, Try.ntmps48
        go_upto_region 4 with fail
        have T2 : Touch [] w w.drew := (Touch.refl [] w).drew
        have Z : (fun w' => w'.cell? ⟨b, off + m * 3, none⟩ = some (.int .i64 a.1) ∧ w'.cell? ⟨b, off + m * 3 + 1, none⟩ = some (.int .i64 a.2.1) ∧ w'.cell? ⟨b, off + m * 3 + 2, none⟩ = some (.int .i64 a.2.2)) w.drew := S.out _ T2
        have f1 : (m : Int) ≤ c := by omega
        have f2 : (m : Int) + 1 ≤ l.length := by omega
        have f3 : (l.length : Int) ≤ c := by omega
        have f4 : decide (m ≤ c) = true := by rw [decide_eq_true_eq]; omega
        have f5 : decide (m + 1 ≤ l.length) = true := by rw [decide_eq_true_eq]; omega
        have f6 : ¬ (m + 1 = c) := hcap
        have g0 : (0 : Int) ≤ (m : Int) + 1 := by omega
        have g1 : ((m : Int) + 1).toNat = m + 1 := by omega
        have g2 : ¬ (c = m + 1) := by omega
        have g3 : ¬ ((m : Int) + 1 = c) := by omega
        have g4 : ¬ ((c : Int) = (m : Int) + 1) := by omega
        have g5 : ¬ ((c : Int) - ((m : Int) + 1) = 0) := by omega
        have g6 : ¬ (c - (m + 1) = 0) := by omega
        have f7 : decide (l.length ≤ c) = true := by rw [decide_eq_true_eq]; omega
        go_region_held3 (fun w' => w'.cell? ⟨b, off + m * 3, none⟩ = some (.int .i64 a.1) ∧ w'.cell? ⟨b, off + m * 3 + 1, none⟩ = some (.int .i64 a.2.1) ∧ w'.cell? ⟨b, off + m * 3 + 2, none⟩ = some (.int .i64 a.2.2)) (first | go_keep | exact S.out _ (by assumption)) ((first
          | (go_at_call 48; refine (C1.out _ T2).mono ?_; clear C1; rintro e w2 ⟨p1, Ta, rfl, h1, k1, t2⟩; have T3 : Touch [] w w2 := T2.trans t2 (by simp); have H1 := hid h1; have K1 := hid k1; clear t2 h1 k1)
          | (go_at_call 48; refine (C2.out _ T3).mono ?_; clear C2; rintro e w3 ⟨p2, Tb, rfl, h2, k2, t3⟩; have T4 : Touch [] w w3 := T3.trans t3 (by simp); have H2 := hid h2; have K2 := hid k2; have H3 := hid (H1.out.t0 t3); clear t3 h2 k2)
          | (go_at_call 49; refine (J.out Ta Tb K1.out K2.out _ _ _ H3.out H2.out).mono ?_; clear J; rintro e w4 ⟨p3, rfl, h3, t4⟩; have T5 : Touch [] w w4 := T4.trans t4 (by simp); have H4 := hid h3; clear t4 h3)))
        all_goals go_wp2_with fail
        all_goals go_ret
        all_goals exact ⟨_, _, rfl, H4.out, by rw [HS.out]; simp only [Tr.io, K1.out, K2.out], T5⟩
end Go.Proofs.Ytnkflmimnpolcaa
