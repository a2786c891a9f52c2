/- Tables merged: slices.Contains of a nil one, merged, Merge. -/
import Derived.Test.YtdjcpdlfapfmkaaGreatMg13
import Derived.Test.YtdjcpdlfapfmkaaGreatRlw13
import Derived.Deep.RegionLaw
namespace Go.Proofs.YtdjcpdlfapfmkaaGreat
open Go.RowKit Go.Lib
set_option maxRecDepth 100000

/-- Pointers of a slice, wherever it lies. -/
def RowP (w : World) (x : Option Addr) (ps : List (Option Addr)) : Prop := ∀ (i : Nat) (h : i < ps.length), ∃ b off, x = some ⟨b, off, none⟩ ∧ w.cell? ⟨b, off + i, none⟩ = some (.pointer (ps[i]'h))
theorem RowP.t0 {w w' : World} {x : Option Addr} {ps : List (Option Addr)} (h : RowP w x ps) (t : Touch [] w w') : RowP w' x ps := fun i hi => by
  obtain ⟨b, off, e, g⟩ := h i hi
  exact ⟨b, off, e, t.cell g⟩
theorem RowP.part {w : World} {x : Option Addr} {ps : List (Option Addr)} (h : RowP w x ps) (f n : Nat) (hn : f + n ≤ ps.length) (y : Option Addr) (hy : y = x.map (·.add f) ∨ n = 0) : RowP w y ((ps.drop f).take n) := fun i hi => by
  rw [List.length_take, List.length_drop] at hi
  obtain ⟨b, off, rfl, g⟩ := h (f + i) (by omega)
  rcases hy with rfl | rfl
  · refine ⟨b, off + f, by simp [Addr.add], ?_⟩
    rw [List.getElem_take, List.getElem_drop, ← g, Nat.add_assoc]
  · omega
theorem eql_nil_ptr {P : Program} (t : TypeId) (p : Option Addr) (w : World) (h : P.underlying t = some (.pointer (P.pointee t))) : (binOp .eql t (.pointer none) (.pointer p)).run P w = .ok (.bool p.isNone) w := by
  have h1 : ∀ d, (Op.equalIn (d + 1) t (.pointer none) (.pointer p)).run P w = .ok p.isNone w := fun d => by
    cases p <;> simp [Op.equalIn, run_underlying h]
  have h2 : (Op.equal t (.pointer none) (.pointer p)).run P w = .ok p.isNone w := h1 9999
  simp only [binOp]
  simp [h2]
abbrev TPs : TypeId := 66
set_option maxHeartbeats 1000000 in
theorem pindex_any (x : Option Addr) (c : Nat) (ps : List (Option Addr)) (w : World) (hx : RowP w x ps) (hlen : ps.length ≤ 1000000) :
    Calls Tryz.prog 108 #[.slice x ps.length c, .pointer none] w fun e w' => ∃ k : Int, e = .returned (.int .i64 k) ∧ decide (k ≥ 0) = decide (none ∈ ps) ∧ w' = w := by
  have HX := hid hx
  clear hx
  go_enter Tryz.func108, Tryz.ntmps108
  go_wp2
  go_loopw [8] (fun iv wr => ∃ k : Nat, k ≤ ps.length ∧ iv = .int .i64 k ∧ Hid (none ∉ ps.take k) ∧ wr = w) (fun iv _ => ps.length - (RowKit.intOf iv).toNat)
  case atStart => exact ⟨0, Nat.zero_le _, rfl, hid (by simp), rfl⟩
  case round =>
    obtain ⟨k, hk, rfl, hnp, rfl⟩ := hrel
    by_cases hlt : k < ps.length
    · have hlt2 : decide (k < ps.length) = true := by simpa using hlt
      have hI : (k : Int) < ps.length := by omega
      obtain ⟨b, off, rfl, g0⟩ := HX.out k hlt
      have TK := hid (List.take_succ_eq_append_getElem hlt)
      have GM := hid (List.getElem_mem hlt)
      generalize ps[k] = p at *
      have hrun : ∀ W, (binOp .eql 41 (.pointer none) (.pointer p)).run Tryz.prog W = .ok (.bool p.isNone) W := fun W => eql_nil_ptr _ p W (by kernel_rfl)
      by_cases hp : p = none
      · have hb : p.isNone = true := by rw [hp]; rfl
        have HP := hid hp
        clear hp
        rw [hb] at hrun
        clear hb
        go_wp2
        go_ret
        exact ⟨_, rfl, (by have h1 : none ∈ ps := HP.out ▸ GM.out
                           simp [h1]), rfl⟩
      · have hb : p.isNone = false := by cases p with | none => exact absurd rfl hp | some a => rfl
        have HP := hid hp
        clear hp
        rw [hb] at hrun
        clear hb
        go_wp2
        go_roundw
        case rel => exact ⟨k + 1, by omega, by go_num, hid (by rw [TK.out, List.mem_append, not_or]; exact ⟨hnp.out, by simpa using fun h => HP.out h.symm⟩), trivial⟩
        case measure => simp [RowKit.intOf]; omega
    · obtain rfl : k = ps.length := by omega
      have hlt2 : decide (ps.length < ps.length) = false := by simp
      go_wp2
      go_ret
      refine ⟨_, rfl, ?_, rfl⟩
      have := hnp.out
      rw [List.take_length] at this
      rw [decide_eq_false this]
      rfl
theorem pcontains_any (x : Option Addr) (c : Nat) (ps : List (Option Addr)) (w : World) (hx : RowP w x ps) (hlen : ps.length ≤ 1000000) :
    Calls Tryz.prog 77 #[.slice x ps.length c, .pointer none] w fun e w' => e = .returned (.bool (decide (none ∈ ps))) ∧ w' = w := by
  have C := hid (pindex_any x c ps w hx hlen)
  generalize decide (none ∈ ps) = bv at *
  clear hx
  go_enter Tryz.func77, Tryz.ntmps77
  go_wp2_with (go_at_call 108; refine C.out.mono ?_; rintro e w1 ⟨k, rfl, hk, rfl⟩; have HK := hid hk; clear hk)
  go_ret
  exact ⟨by rw [← HK.out]; rfl, rfl⟩

/-- What merged tells. -/
structure MgP (w w' : World) (u : Value) (ls : List (List En)) (m : List En) : Prop where
  row : w'.ownsRow w.heap.size TEn 3 u m.length (envals m)
  s : SortedE m
  mem : ∀ z, z ∈ m ↔ z ∈ ls.flatten
  len : m.length ≤ ls.flatten.length
  t : Touch [] w w'
/-- The tables of a list of pointers. -/
structure TblsP (w : World) (x : Option Addr) (c : Nat) (ps : List (Option Addr)) (ls : List (List En)) : Prop where
  row : RowP w x ps
  hc : ps.length ≤ c
  len : ls.length = ps.length
  tab : ∀ (i : Nat) (h1 : i < ps.length) (h2 : i < ls.length), TblAt w ps[i] ls[i]
  s : ∀ l ∈ ls, SortedE l
  tot : ls.flatten.length ≤ 400000
theorem TblsP.t0 {w w' : World} {x : Option Addr} {c : Nat} {ps : List (Option Addr)} {ls : List (List En)} (h : TblsP w x c ps ls) (t : Touch [] w w') : TblsP w' x c ps ls := ⟨h.row.t0 t, h.hc, h.len, fun i h1 h2 => (h.tab i h1 h2).t0 t, h.s, h.tot⟩
theorem flat_part (ls : List (List En)) (h : Nat) : ls.flatten = (ls.take h).flatten ++ (ls.drop h).flatten := by rw [← List.flatten_append, List.take_append_drop]
theorem TblsP.part {w : World} {x : Option Addr} {c : Nat} {ps : List (Option Addr)} {ls : List (List En)} (h : TblsP w x c ps ls) (f n : Nat) (hn : f + n ≤ ps.length) (y : Option Addr) (hy : y = x.map (·.add f) ∨ n = 0) (c' : Nat) (hc' : n ≤ c') : TblsP w y c' ((ps.drop f).take n) ((ls.drop f).take n) := by
  have e1 : ((ps.drop f).take n).length = n := by rw [List.length_take, List.length_drop]; omega
  have e2 : ((ls.drop f).take n).length = n := by rw [List.length_take, List.length_drop, h.len]; omega
  refine ⟨h.row.part f n hn y hy, by omega, by omega, fun i h1 h2 => ?_, fun l hl => h.s l (List.mem_of_mem_drop (List.mem_of_mem_take hl)), ?_⟩
  · have hl := h.len
    have := h.tab (f + i) (by omega) (by omega)
    rwa [List.getElem_take, List.getElem_take, List.getElem_drop, List.getElem_drop]
  · have h1 := h.tot
    rw [flat_part ls f, List.length_append] at h1
    have h2 := congrArg List.length (flat_part (ls.drop f) n)
    rw [List.length_append] at h2
    omega
set_option maxHeartbeats 4000000 in
theorem merged_any : ∀ (n : Nat) (x : Option Addr) (c : Nat) (ps : List (Option Addr)) (ls : List (List En)) (w : World), ps.length ≤ n → ps.length ≤ 1000 → TblsP w x c ps ls →
    Calls Tryz.prog 78 #[.slice x ps.length c] w fun e w' => ∃ u m, e = .returned u ∧ MgP w w' u ls m
  | n, x, c, [], ls, w, _, _, h => by
    have hl : ls = [] := List.eq_nil_of_length_eq_zero (by rw [h.len]; rfl)
    subst hl
    clear h
    go_enter Tryz.func78, Tryz.ntmps78
    go_wp2
    go_ret
    exact ⟨_, [], rfl, World.ownsRow_nil _ _ _ _, by simp [SortedE], by simp, by simp, Touch.refl _ _⟩
  | n, x, c, [p], ls, w, _, _, h => by
    obtain ⟨l, rfl⟩ : ∃ l, ls = [l] := by
      have := h.len
      match ls, this with
      | [l], _ => exact ⟨l, rfl⟩
    have ht := h.tab 0 (by simp) (by simp)
    have hs := h.s l (by simp)
    have htot := h.tot
    simp only [List.getElem_cons_zero, List.flatten_cons, List.flatten_nil, List.append_nil] at ht htot
    obtain ⟨b, off, rfl, g0⟩ := h.row 0 (by simp)
    simp only [List.getElem_cons_zero, Nat.add_zero] at g0
    have C := hid (tball_any ht (by omega))
    have HS := hid hs
    clear h ht hs htot
    go_enter Tryz.func78, Tryz.ntmps78
    go_wp2_with (go_at_call 13; refine C.out.mono ?_; rintro e w1 ⟨u, rfl, hu, t1⟩; have HU := hid hu; have T1 := hid t1; clear hu t1)
    go_ret
    exact ⟨_, l, rfl, HU.out, HS.out, by simp, by simp, T1.out⟩
  | 0, x, c, p :: q :: ps, ls, w, h, _, _ => by simp at h
  | n + 1, x, c, p :: q :: ps, ls, w, hn, hN, h => by
    have hn2 : 2 ≤ (p :: q :: ps).length := by simp
    have hn3 : (p :: q :: ps).length ≤ n + 1 := hn
    have hn4 : (p :: q :: ps).length ≤ 1000 := hN
    clear hn hN
    have R0 := fun x c ps ls w => merged_any n x c ps ls w
    generalize p :: q :: ps = qs at *
    obtain ⟨N, hNl⟩ : ∃ N, qs.length = N := ⟨_, rfl⟩
    have e1 : (qs.take (N / 2)).length = N / 2 := by rw [List.length_take]; omega
    have e2 : (qs.drop (N / 2)).length = N - N / 2 := by rw [List.length_drop]; omega
    have P1 : ∀ w', Touch [] w w' → TblsP w' x c (qs.take (N / 2)) (ls.take (N / 2)) := fun w' t => by
      have := (h.t0 t).part 0 (N / 2) (by omega) x (.inl (by cases x <;> simp [Addr.add])) c (by have := h.hc; omega)
      simpa using this
    have P2 : ∀ w', Touch [] w w' → TblsP w' (x.map (·.add (N / 2))) (c - N / 2) (qs.drop (N / 2)) (ls.drop (N / 2)) := fun w' t => by
      have hcc := h.hc
      have := (h.t0 t).part (N / 2) (N - N / 2) (by omega) (x.map (·.add (N / 2))) (.inl rfl) (c - N / 2) (by omega)
      rwa [List.take_of_length_le (by omega), List.take_of_length_le (by rw [List.length_drop, h.len]; omega)] at this
    have C1 := hid fun w' (t : Touch [] w w') => R0 x c (qs.take (N / 2)) (ls.take (N / 2)) w' (by omega) (by omega) (P1 w' t)
    have C2 := hid fun w' (t : Touch [] w w') => R0 (x.map (·.add (N / 2))) (c - N / 2) (qs.drop (N / 2)) (ls.drop (N / 2)) w' (by omega) (by omega) (P2 w' t)
    rw [e1] at C1
    rw [e2] at C2
    have FP := hid (flat_part ls (N / 2))
    have TOT := hid h.tot
    have hcN : N ≤ c := by rw [← hNl]; exact h.hc
    have hcI : N / 2 < c := by omega
    have hN2 : N ≤ 1000 := by omega
    have hN3 : 2 ≤ N := by omega
    rw [hNl]
    clear R0 P1 P2 e1 e2 h hNl hn3 hn4
    have q0 : ((N : Int) == 0) = false := by rw [beq_eq_false_iff_ne]; omega
    have q1 : ((N : Int) == 1) = false := by rw [beq_eq_false_iff_ne]; omega
    go_enter Tryz.func78, Tryz.ntmps78
    go_upto_region 7 with fail
    obtain ⟨h, hh⟩ : ∃ h, h = N / 2 := ⟨_, rfl⟩
    rw [show ((N : Int) / 2) = (h : Int) by omega]
    rw [← hh] at C1 C2 FP hcI
    have h1 : (h : Int) ≤ N := by omega
    have h2 : h ≤ N := by omega
    have h3 : ¬ c = h := by omega
    have h4 : h ≤ c := by omega
    clear hh
    have BA := hid fun (u1 u2 : Value) (m1 m2 : List En) (w1 w2 : World) (G1 : MgP w.drew w1 u1 (ls.take h) m1) (G2 : MgP w1 w2 u2 (ls.drop h) m2) => (show Calls Tryz.prog 109 #[u1, u2] w2 fun e w3 => ∃ u, e = .returned u ∧ MgP w w3 u ls (mrg m1 m2) by
      have T := TOT.out
      rw [FP.out, List.length_append] at T
      obtain ⟨x1, c1, rfl, -, k1, z1, -, E1⟩ := entX_ownT G1.row
      obtain ⟨x2, c2, rfl, -, k2, z2, -, E2⟩ := entX_ownT G2.row
      have L1 := G1.len
      have L2 := G2.len
      obtain ⟨p1, p2, p3⟩ := mrg_props _ m1 m2 (Nat.le_refl _) G1.s G2.s
      refine (both_any x1 x2 c1 c2 m1 m2 w2 (E1.t0 G2.t) E2 (by omega) (by omega) k1 k2 z1 z2).mono ?_
      rintro e w3 ⟨u, rfl, hu, t3⟩
      refine ⟨u, rfl, own_up hu (Nat.le_trans G1.t.size G2.t.size), p1, fun z => ?_, ?_, (((Touch.refl [] w).drew.trans G1.t (by simp)).trans G2.t (by simp)).trans t3 (by simp)⟩
      · rw [p2, G1.mem, G2.mem, FP.out, List.mem_append]
      · rw [FP.out, List.length_append]; omega)
    have T0 : Touch [] w w.drew := (Touch.refl [] w).drew
    go_region_law (first
      | (refine step_call _ rfl (f := 78) (args := #[.slice x h c]) (by simp [go_sem, Act.eval]) (C1.out _ T0) ?_; rintro e w1 ⟨u1, m1, rfl, g1⟩; have G1 := hid g1; have T1 := hid (T0.trans g1.t (by simp)); clear g1; refine ⟨_, rfl, ?_⟩)
      | (refine step_call _ rfl (f := 78) (args := #[.slice (x.map (·.add h)) (N - h) (c - h)]) (by simp [go_sem, Act.eval]) (C2.out _ T1.out) ?_; rintro e w2 ⟨u2, m2, rfl, g2⟩; have G2 := hid g2; clear g2; refine ⟨_, rfl, ?_⟩)
      | (refine step_call _ rfl (f := 109) (args := #[u1, u2]) (by simp [go_sem, Act.eval]) (BA.out _ _ _ _ _ _ G1.out G2.out) ?_; rintro e w3 ⟨u3, rfl, g3⟩; have G3 := hid g3; clear g3; refine ⟨_, rfl, ?_⟩))
    go_wp2
    go_ret
    exact ⟨_, _, rfl, G3.out⟩

set_option maxHeartbeats 1000000 in
theorem merge_good (x : Option Addr) (c : Nat) (ps : List (Option Addr)) (ls : List (List En)) (w : World) (hl : ps.length ≤ 1000) (h : TblsP w x c ps ls) (hn : none ∉ ps) :
    Calls Tryz.prog 29 #[.slice x ps.length c] w fun e w' => ∃ u m, e = .returned (.tuple #[u, .int .i64 0]) ∧ MgP w w' u ls m := by
  have C1 := hid (pcontains_any x c ps w h.row (by omega))
  rw [decide_eq_false hn] at C1
  have C2 := hid (merged_any ps.length x c ps ls w (Nat.le_refl _) hl h)
  clear h hn
  go_enter Tryz.func29, Tryz.ntmps29
  go_wp2_with (first
    | (go_at_call 77; refine C1.out.mono ?_; rintro e w1 ⟨rfl, rfl⟩)
    | (go_at_call 78; refine C2.out.mono ?_; rintro e w1 ⟨u, m, rfl, g⟩; have G := hid g; clear g))
  go_ret2
  exact ⟨_, m, rfl, G.out⟩
theorem merge_bad (x : Option Addr) (c : Nat) (ps : List (Option Addr)) (w : World) (hl : ps.length ≤ 1000) (h : RowP w x ps) (hn : none ∈ ps) :
    Calls Tryz.prog 29 #[.slice x ps.length c] w fun e w' => e = .returned (.tuple #[.slice none 0 0, .int .i64 1]) ∧ w' = w := by
  have C1 := hid (pcontains_any x c ps w h (by omega))
  rw [decide_eq_true hn] at C1
  clear h hn
  go_enter Tryz.func29, Tryz.ntmps29
  go_wp2_with (go_at_call 77; refine C1.out.mono ?_; rintro e w1 ⟨rfl, rfl⟩)
  go_ret2
  exact ⟨rfl, rfl⟩
end Go.Proofs.YtdjcpdlfapfmkaaGreat
