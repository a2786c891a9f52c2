/- Lists of entries put together: slices.Grow, slices.Concat; merged. -/
import Derived.Lib.AppendZeros
import Derived.Test.YtnkflmimnpolcaaSo14
import Derived.Test.YtnkflmimnpolcaaCo14
import Derived.Test.YtnkflmimnpolcaaVe14
namespace Go.Proofs.Ytnkflmimnpolcaa
open Go.RowKit Go.Lib Go.Shelf
set_option maxRecDepth 100000

theorem grow14_any (n : Nat) (w : World) (hn : n ≤ 1000000) :
    Calls Try.prog 66 #[.slice none 0 0, .int .i64 n] w fun e w' => ∃ u, e = .returned u ∧ w'.ownsRow w.heap.size TEn 3 u 0 [] ∧ Touch [] w w' := by
  obtain ⟨i0, hi, hz0, hz1, hz2⟩ := info_parts infoEn
  by_cases h0 : n = 0
  · subst h0
    go_enter Try.func66, Try.ntmps66
    go_wp2
    go_ret
    exact ⟨_, rfl, World.ownsRow_nil _ _ _ _, Touch.refl _ _⟩
  · have hp : 0 < n := by omega
    have hd : decide (0 < n) = true := by simpa using hp
    have hr := run_append_nil_zeros (P := Try.prog) w TTb 3 TTb TEn i0 (.agg #[.int .i64 0, .int .i64 0, .int .i64 0]) .i64 .i64 Try.underlying57 Try.underlying3 hi hz0 n hp (by omega) (by omega) (by rw [hz2]; omega)
    obtain ⟨G, hG⟩ : ∃ G, G = grownCap w n 0 TEn := ⟨_, rfl⟩
    rw [← hG] at hr
    have hGn : n ≤ G := by rw [hG]; exact grownCap_ge w _ _ _
    have hGm : G ≤ maxLen := by rw [hG]; exact grownCap_le_maxLen w n 0 TEn (by unfold maxLen; omega)
    obtain ⟨ROW, hROW⟩ : ∃ ROW : Array Value, ROW = Builtin.zeroCells (Value.agg #[.int .i64 0, .int .i64 0, .int .i64 0]).cells n ++ Builtin.zeroCells (Value.agg #[.int .i64 0, .int .i64 0, .int .i64 0]).cells (G - n) := ⟨_, rfl⟩
    rw [← hROW] at hr
    have hRs : ROW.size = G * 3 := by
      rw [hROW]
      simp only [Array.size_append, size_zeroCells]
      simp [Value.cells]
      omega
    have HR : Hid ((w.drew.alloc (.cells ROW TEn)).ownsRow w.heap.size TEn 3 (.slice (some ⟨w.heap.size, 0, none⟩) 0 G) 0 []) := hid ⟨by simp, .inr ⟨w.heap.size, G, ROW, rfl, Nat.le_refl _, heap_alloc_new w.drew _, Nat.zero_le _, hGm, hRs, by simp⟩⟩
    clear hROW hRs hG
    go_enter Try.func66, Try.ntmps66
    go_wp2_with (at_builtin; refine wpList_append_run _ rfl _ _ _ _ rfl _ _ rfl rfl _ _ hr ?_)
    go_ret
    exact ⟨_, rfl, HR.out, ((Touch.refl [] w).drew).alloc _⟩
/-- A list of entries, wherever it lies. -/
structure TabV.Wk (w : World) (t : TabV) : Prop where
  hz : t.x = none → t.c = 0
  ent : EntX w t.x t.l
theorem TabV.At.wk {w : World} {t : TabV} (h : t.At w) : t.Wk w := ⟨h.hz, h.ent⟩
theorem TabV.Wk.t0 {w w' : World} {t : TabV} (h : t.Wk w) (k : Touch [] w w') : t.Wk w' := ⟨h.hz, h.ent.t0 k⟩
def flatT (ts : List TabV) : List En := (ts.map TabV.l).flatten
theorem flatT_take {ts : List TabV} {k : Nat} (h : k < ts.length) : flatT (ts.take (k + 1)) = flatT (ts.take k) ++ (ts[k]).l := by
  unfold flatT
  rw [List.take_succ_eq_append_getElem h, List.map_append, List.flatten_append]
  simp
theorem flatT_le (ts : List TabV) (k : Nat) : (flatT (ts.take k)).length ≤ (flatT ts).length := by
  have e : flatT ts = flatT (ts.take k) ++ flatT (ts.drop k) := by
    unfold flatT
    rw [← List.flatten_append, ← List.map_append, List.take_append_drop]
  rw [e, List.length_append]
  omega
/-- append of a list of entries, nil or not, at a plain region's list, at whatever slice type. -/
theorem wpList_append_entt (w : World) {ops : Array Oper} {rest : List Oper} {o : Oper} {a : Act} {Q : Exit → Act → World → Prop} (hgd : o.guard = none) (s x : Operand) (ty : TypeId)
    (ho : o.op = .call { callee := .builtin .append, args := #[s, x], argTypes := #[ty, ty] }) (hty : Try.prog.underlying ty = some (.slice TEn))
    (base : Nat) (v : Value) (m : List En) (hs : a.eval s = v) (hown : w.ownsRow base TEn 3 v m.length (envals m)) (y : Option Addr) (c : Nat) (l : List En) (hx : a.eval x = .slice y l.length c) (hX : EntX w y l) (hc : y = none → c = 0)
    (hn : m.length + l.length ≤ 1000000000) (hbase : base ≤ w.heap.size)
    (h : ∀ y' cap w', Grew w w' base TEn 3 v (.slice y' (m.length + l.length) cap) m.length l.length (envals m) (envals l) → wpList Try.prog ops Q rest (a.put o.dst (.slice y' (m.length + l.length) cap)) w') : wpList Try.prog ops Q (o :: rest) a w := by
  obtain ⟨i0, hi, hz0, hz1, hz2⟩ := info_parts infoEn
  cases y with
  | none =>
    obtain rfl := hc rfl
    have hl0 : l = [] := by
      cases l with
      | nil => rfl
      | cons e l => obtain ⟨b, off, hb, _⟩ := hX 0 (by simp); cases hb
    subst hl0
    obtain ⟨y', cap, rfl, _, _⟩ := slice_form hown
    exact wpList_append_own_none hgd s x ty ho base TEn i0 3 hty hi _ m.length (envals m) hs hown hx (h y' cap w (by simpa [envals] using grew_none hown))
  | some ad =>
    exact wpList_append_cells w hgd s x ty ho base TEn i0 (.agg #[.int .i64 0, .int .i64 0, .int .i64 0]) 3 24 hty hi hz0 hz1 hz2 rfl (by decide) v m.length (envals m) hs hown ad l.length c (envals l) hx (envals_len l) (entX_cells hX) (envals_one l) hn (by decide) hbase h
set_option maxHeartbeats 4000000 in
theorem concat_any (x : Option Addr) (c : Nat) (ts : List TabV) (w : World) (hrow : RowV w x (ts.map TabV.val)) (hw : ∀ t ∈ ts, t.Wk w) (hn : ts.length ≤ 1000000) (htot : (flatT ts).length ≤ 1000000) :
    Calls Try.prog 53 #[.slice x ts.length c] w fun e w' => ∃ u, e = .returned u ∧ w'.ownsRow w.heap.size TEn 3 u (flatT ts).length (envals (flatT ts)) ∧ Touch [] w w' := by
  have HR := hid hrow
  have HW := hid hw
  have HF := hid (flatT_le ts)
  have C := hid fun n w hn => grow14_any n w hn
  clear hrow hw
  go_enter Try.func53, Try.ntmps53
  go_wp2
  go_loopw [3, 11] (fun sv iv wr => ∃ k : Nat, k ≤ ts.length ∧ iv = .int .i64 k ∧ sv = .int .i64 ((flatT (ts.take k)).length : Nat) ∧ wr = w) (fun _ iv _ => ts.length - (RowKit.intOf iv).toNat)
  case atStart => exact ⟨0, Nat.zero_le _, rfl, by simp [flatT], rfl⟩
  case round =>
    obtain ⟨k, hk, rfl, rfl, hww⟩ := hrel
    have hww := hww.symm
    subst hww
    by_cases hlt : k < ts.length
    · have hlt2 : decide (k < ts.length) = true := by simpa using hlt
      have hI : (k : Int) < ts.length := by omega
      obtain ⟨b, off, rfl, g0⟩ := HR.out k (by simpa using hlt)
      rw [List.getElem_map] at g0
      have FT := hid (show (flatT (ts.take (k + 1))).length = (flatT (ts.take k)).length + (ts[k]).l.length by rw [flatT_take hlt, List.length_append])
      have F2 := HF.out (k + 1)
      rw [FT.out] at F2
      generalize ts[k] = tv at *
      obtain ⟨tx, tc, tl⟩ := tv
      unfold TabV.val at g0
      dsimp only at g0 FT F2
      generalize (flatT (ts.take k)).length = m at *
      have hb : m + tl.length ≤ 1000000 := by omega
      have hneg : ¬ ((m : Int) + (tl.length : Int) < 0) := by omega
      clear F2
      go_wp2
      go_roundw
      case rel => exact ⟨k + 1, by omega, by go_num, by rw [FT.out]; go_num, trivial⟩
      case measure => simp [RowKit.intOf]; omega
    · obtain rfl : k = ts.length := by omega
      have hlt2 : decide (ts.length < ts.length) = false := by simp
      have FL : Hid (flatT (ts.take ts.length) = flatT ts) := hid (by rw [List.take_length])
      rw [FL.out]
      clear FL
      go_wp2_with (go_at_call 66; refine (C.out _ _ htot).mono ?_; rintro e w1 ⟨u1, rfl, o1, t1⟩; have O1 := hid o1; have T1 := hid t1; clear o1 t1)
      go_loopw [6, 27] (fun uv iv w3 => ∃ k : Nat, k ≤ ts.length ∧ iv = .int .i64 k ∧ w3.ownsRow w.heap.size TEn 3 uv (flatT (ts.take k)).length (envals (flatT (ts.take k))) ∧ Touch [] w w3) (fun _ iv _ => ts.length - (RowKit.intOf iv).toNat)
      case atStart => exact ⟨0, Nat.zero_le _, rfl, by simpa [flatT, envals] using O1.out, T1.out⟩
      case round =>
        obtain ⟨k, hk, rfl, hown, ht⟩ := hrel
        obtain ⟨yu, cu, rfl, -, -⟩ := slice_form hown
        have HT := hid ht
        have HO := hid hown
        clear hown ht O1 T1
        by_cases hlt : k < ts.length
        · have hlt2 : decide (k < ts.length) = true := by simpa using hlt
          have hI : (k : Int) < ts.length := by omega
          obtain ⟨b, off, rfl, g0⟩ := HR.out k (by simpa using hlt)
          rw [List.getElem_map] at g0
          have FT := hid (flatT_take hlt)
          have F2 := HF.out (k + 1)
          rw [FT.out, List.length_append] at F2
          have WK := hid ((HW.out _ (List.getElem_mem hlt)).t0 HT.out)
          have e0 := HT.out.cell g0
          generalize ts[k] = tv at *
          obtain ⟨tx, tc, tl⟩ := tv
          unfold TabV.val at e0
          dsimp only at e0 FT F2
          generalize flatT (ts.take k) = m at *
          have hb : m.length + tl.length ≤ 1000000 := by omega
          have SZ := hid HT.out.size
          clear F2 g0
          go_wp2_with (at_builtin; refine wpList_append_entt _ rfl _ _ TTb rfl Try.underlying57 w.heap.size _ m rfl HO.out tx tc tl rfl WK.out.ent WK.out.hz (by omega) SZ.out ?_; intro y' cap' w4 hG; have G := hid hG; clear hG)
          go_roundw
          case rel => exact ⟨k + 1, by omega, by go_num, by rw [FT.out, List.length_append, envals_append]; exact G.out.own, G.out.touch HO.out HT.out (Nat.le_refl _)⟩
          case measure => simp [RowKit.intOf]; omega
        · obtain rfl : k = ts.length := by omega
          rw [List.take_length] at HO ⊢
          go_wp2
          go_ret
          exact ⟨_, rfl, HO.out, HT.out⟩
set_option maxHeartbeats 1000000 in
/-- merged: all entries of lists in which none stands twice, in order. -/
theorem merged14_any (x : Option Addr) (c : Nat) (ts : List TabV) (w : World) (hrow : RowV w x (ts.map TabV.val)) (hw : ∀ t ∈ ts, t.Wk w) (hn : ts.length ≤ 1000000) (htot : (flatT ts).length ≤ 1000000) (hnd : (flatT ts).Nodup) :
    Calls Try.prog 33 #[.slice x ts.length c] w fun e w' => ∃ u l', e = .returned u ∧ (SortedE l' ∧ (∀ z, z ∈ l' ↔ z ∈ flatT ts) ∧ l'.length = (flatT ts).length) ∧ w'.ownsRow w.heap.size TEn 3 u l'.length (envals l') ∧ Touch [] w w' := by
  have C := hid (concat_any x c ts w hrow hw hn htot)
  have SO := hid fun u w1 h => sortTab_any w.heap.size (flatT ts).length u (flatT ts) w1 h hnd htot
  generalize flatT ts = F at *
  clear hrow hw hn
  go_enter Try.func33, Try.ntmps33
  go_wp2_with fail
  refine C.out.mono ?_
  rintro e w1 ⟨u, rfl, ho, t1⟩
  have S1 := hid (SO.out u w1 ho)
  have T1 := hid t1
  obtain ⟨yu, cu, rfl, -, -⟩ := slice_form ho
  clear ho t1 C SO
  go_wp2_with fail
  refine S1.out.mono ?_
  rintro e w2 ⟨rfl, hs⟩
  have S2 := hid hs
  clear hs S1
  go_wp2
  go_ret
  obtain ⟨l', h1, h2⟩ := S2.out.ex
  exact ⟨_, l', rfl, h1, h2, S2.out.t _ T1.out (Nat.le_refl _)⟩
end Go.Proofs.Ytnkflmimnpolcaa
