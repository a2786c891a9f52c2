/- Lists of entries put together: slices.Grow, slices.Concat; merged. Blocks of other types stay; a cell of a row of one's own; append to a slice without room. A new index; what is in memory; how many; the levels' counts. -/
import Derived.Lib.AppendZeros
import Derived.Test.YtnkflmimnpolcaaSo14
import Derived.Test.YtnkflmimnpolcaaCo14
import Derived.Test.YtnkflmimnpolcaaVe14
import Derived.Test.YtnkflmimnpolcaaTs14
import Derived.Test.YtnkflmimnpolcaaEx14
import Derived.OwnWalk
namespace Go.Proofs.Ytnkflmimnpolcaa
open Go.RowKit Go.Lib Go.Shelf
set_option maxRecDepth 100000

theorem grow14_any (n : Nat) (w : World) (hn : n ≤ 1000000) :
    Calls Try.prog 66 #[.slice none 0 0, .int .i64 n] w fun e w' => ∃ u, e = .returned u ∧ w'.ownsRow w.heap.size TEn 3 u 0 [] ∧ Touch [] w w' := by
  obtain ⟨i0, hi, hz0, hz1, hz2⟩ := info_parts infoEn
  by_cases h0 : n = 0
  · subst h0
    go_enter Try.func66, Try.ntmps66
    go_wp2
    go_ret
    exact ⟨_, rfl, World.ownsRow_nil _ _ _ _, Touch.refl _ _⟩
  · have hp : 0 < n := by omega
    have hd : decide (0 < n) = true := by simpa using hp
    have hr := run_append_nil_zeros (P := Try.prog) w TTb 3 TTb TEn i0 (.agg #[.int .i64 0, .int .i64 0, .int .i64 0]) .i64 .i64 Try.underlying57 Try.underlying3 hi hz0 n hp (by omega) (by omega) (by rw [hz2]; omega)
    obtain ⟨G, hG⟩ : ∃ G, G = grownCap w n 0 TEn := ⟨_, rfl⟩
    rw [← hG] at hr
    have hGn : n ≤ G := by rw [hG]; exact grownCap_ge w _ _ _
    have hGm : G ≤ maxLen := by rw [hG]; exact grownCap_le_maxLen w n 0 TEn (by unfold maxLen; omega)
    obtain ⟨ROW, hROW⟩ : ∃ ROW : Array Value, ROW = Builtin.zeroCells (Value.agg #[.int .i64 0, .int .i64 0, .int .i64 0]).cells n ++ Builtin.zeroCells (Value.agg #[.int .i64 0, .int .i64 0, .int .i64 0]).cells (G - n) := ⟨_, rfl⟩
    rw [← hROW] at hr
    have hRs : ROW.size = G * 3 := by
      rw [hROW]
      simp only [Array.size_append, size_zeroCells]
      simp [Value.cells]
      omega
    have HR : Hid ((w.drew.alloc (.cells ROW TEn)).ownsRow w.heap.size TEn 3 (.slice (some ⟨w.heap.size, 0, none⟩) 0 G) 0 []) := hid ⟨by simp, .inr ⟨w.heap.size, G, ROW, rfl, Nat.le_refl _, heap_alloc_new w.drew _, Nat.zero_le _, hGm, hRs, by simp⟩⟩
    clear hROW hRs hG
    go_enter Try.func66, Try.ntmps66
    go_wp2_with (at_builtin; refine wpList_append_run _ rfl _ _ _ _ rfl _ _ rfl rfl _ _ hr ?_)
    go_ret
    exact ⟨_, rfl, HR.out, ((Touch.refl [] w).drew).alloc _⟩
/-- A list of entries, wherever it lies. -/
structure TabV.Wk (w : World) (t : TabV) : Prop where
  hz : t.x = none → t.c = 0
  ent : EntX w t.x t.l
theorem TabV.At.wk {w : World} {t : TabV} (h : t.At w) : t.Wk w := ⟨h.hz, h.ent⟩
theorem TabV.Wk.t0 {w w' : World} {t : TabV} (h : t.Wk w) (k : Touch [] w w') : t.Wk w' := ⟨h.hz, h.ent.t0 k⟩
def flatT (ts : List TabV) : List En := (ts.map TabV.l).flatten
theorem flatT_take {ts : List TabV} {k : Nat} (h : k < ts.length) : flatT (ts.take (k + 1)) = flatT (ts.take k) ++ (ts[k]).l := by
  unfold flatT
  rw [List.take_succ_eq_append_getElem h, List.map_append, List.flatten_append]
  simp
theorem flatT_le (ts : List TabV) (k : Nat) : (flatT (ts.take k)).length ≤ (flatT ts).length := by
  have e : flatT ts = flatT (ts.take k) ++ flatT (ts.drop k) := by
    unfold flatT
    rw [← List.flatten_append, ← List.map_append, List.take_append_drop]
  rw [e, List.length_append]
  omega
/-- append of a list of entries, nil or not, at a plain region's list, at whatever slice type. -/
theorem wpList_append_entt (w : World) {ops : Array Oper} {rest : List Oper} {o : Oper} {a : Act} {Q : Exit → Act → World → Prop} (hgd : o.guard = none) (s x : Operand) (ty : TypeId)
    (ho : o.op = .call { callee := .builtin .append, args := #[s, x], argTypes := #[ty, ty] }) (hty : Try.prog.underlying ty = some (.slice TEn))
    (base : Nat) (v : Value) (m : List En) (hs : a.eval s = v) (hown : w.ownsRow base TEn 3 v m.length (envals m)) (y : Option Addr) (c : Nat) (l : List En) (hx : a.eval x = .slice y l.length c) (hX : EntX w y l) (hc : y = none → c = 0)
    (hn : m.length + l.length ≤ 1000000000) (hbase : base ≤ w.heap.size)
    (h : ∀ y' cap w', Grew w w' base TEn 3 v (.slice y' (m.length + l.length) cap) m.length l.length (envals m) (envals l) → wpList Try.prog ops Q rest (a.put o.dst (.slice y' (m.length + l.length) cap)) w') : wpList Try.prog ops Q (o :: rest) a w := by
  obtain ⟨i0, hi, hz0, hz1, hz2⟩ := info_parts infoEn
  cases y with
  | none =>
    obtain rfl := hc rfl
    have hl0 : l = [] := by
      cases l with
      | nil => rfl
      | cons e l => obtain ⟨b, off, hb, _⟩ := hX 0 (by simp); cases hb
    subst hl0
    obtain ⟨y', cap, rfl, _, _⟩ := slice_form hown
    exact wpList_append_own_none hgd s x ty ho base TEn i0 3 hty hi _ m.length (envals m) hs hown hx (h y' cap w (by simpa [envals] using grew_none hown))
  | some ad =>
    exact wpList_append_cells w hgd s x ty ho base TEn i0 (.agg #[.int .i64 0, .int .i64 0, .int .i64 0]) 3 24 hty hi hz0 hz1 hz2 rfl (by decide) v m.length (envals m) hs hown ad l.length c (envals l) hx (envals_len l) (entX_cells hX) (envals_one l) hn (by decide) hbase h
set_option maxHeartbeats 4000000 in
theorem concat_any (x : Option Addr) (c : Nat) (ts : List TabV) (w : World) (hrow : RowV w x (ts.map TabV.val)) (hw : ∀ t ∈ ts, t.Wk w) (hn : ts.length ≤ 1000000) (htot : (flatT ts).length ≤ 1000000) :
    Calls Try.prog 53 #[.slice x ts.length c] w fun e w' => ∃ u, e = .returned u ∧ w'.ownsRow w.heap.size TEn 3 u (flatT ts).length (envals (flatT ts)) ∧ Touch [] w w' := by
  have HR := hid hrow
  have HW := hid hw
  have HF := hid (flatT_le ts)
  have C := hid fun n w hn => grow14_any n w hn
  clear hrow hw
  go_enter Try.func53, Try.ntmps53
  go_wp2
  go_loopw [3, 11] (fun sv iv wr => ∃ k : Nat, k ≤ ts.length ∧ iv = .int .i64 k ∧ sv = .int .i64 ((flatT (ts.take k)).length : Nat) ∧ wr = w) (fun _ iv _ => ts.length - (RowKit.intOf iv).toNat)
  case atStart => exact ⟨0, Nat.zero_le _, rfl, by simp [flatT], rfl⟩
  case round =>
    obtain ⟨k, hk, rfl, rfl, hww⟩ := hrel
    have hww := hww.symm
    subst hww
    by_cases hlt : k < ts.length
    · have hlt2 : decide (k < ts.length) = true := by simpa using hlt
      have hI : (k : Int) < ts.length := by omega
      obtain ⟨b, off, rfl, g0⟩ := HR.out k (by simpa using hlt)
      rw [List.getElem_map] at g0
      have FT := hid (show (flatT (ts.take (k + 1))).length = (flatT (ts.take k)).length + (ts[k]).l.length by rw [flatT_take hlt, List.length_append])
      have F2 := HF.out (k + 1)
      rw [FT.out] at F2
      generalize ts[k] = tv at *
      obtain ⟨tx, tc, tl⟩ := tv
      unfold TabV.val at g0
      dsimp only at g0 FT F2
      generalize (flatT (ts.take k)).length = m at *
      have hb : m + tl.length ≤ 1000000 := by omega
      have hneg : ¬ ((m : Int) + (tl.length : Int) < 0) := by omega
      clear F2
      go_wp2
      go_roundw
      case rel => exact ⟨k + 1, by omega, by go_num, by rw [FT.out]; go_num, trivial⟩
      case measure => simp [RowKit.intOf]; omega
    · obtain rfl : k = ts.length := by omega
      have hlt2 : decide (ts.length < ts.length) = false := by simp
      have FL : Hid (flatT (ts.take ts.length) = flatT ts) := hid (by rw [List.take_length])
      rw [FL.out]
      clear FL
      go_wp2_with (go_at_call 66; refine (C.out _ _ htot).mono ?_; rintro e w1 ⟨u1, rfl, o1, t1⟩; have O1 := hid o1; have T1 := hid t1; clear o1 t1)
      go_loopw [6, 27] (fun uv iv w3 => ∃ k : Nat, k ≤ ts.length ∧ iv = .int .i64 k ∧ w3.ownsRow w.heap.size TEn 3 uv (flatT (ts.take k)).length (envals (flatT (ts.take k))) ∧ Touch [] w w3) (fun _ iv _ => ts.length - (RowKit.intOf iv).toNat)
      case atStart => exact ⟨0, Nat.zero_le _, rfl, by simpa [flatT, envals] using O1.out, T1.out⟩
      case round =>
        obtain ⟨k, hk, rfl, hown, ht⟩ := hrel
        obtain ⟨yu, cu, rfl, -, -⟩ := slice_form hown
        have HT := hid ht
        have HO := hid hown
        clear hown ht O1 T1
        by_cases hlt : k < ts.length
        · have hlt2 : decide (k < ts.length) = true := by simpa using hlt
          have hI : (k : Int) < ts.length := by omega
          obtain ⟨b, off, rfl, g0⟩ := HR.out k (by simpa using hlt)
          rw [List.getElem_map] at g0
          have FT := hid (flatT_take hlt)
          have F2 := HF.out (k + 1)
          rw [FT.out, List.length_append] at F2
          have WK := hid ((HW.out _ (List.getElem_mem hlt)).t0 HT.out)
          have e0 := HT.out.cell g0
          generalize ts[k] = tv at *
          obtain ⟨tx, tc, tl⟩ := tv
          unfold TabV.val at e0
          dsimp only at e0 FT F2
          generalize flatT (ts.take k) = m at *
          have hb : m.length + tl.length ≤ 1000000 := by omega
          have SZ := hid HT.out.size
          clear F2 g0
          go_wp2_with (at_builtin; refine wpList_append_entt _ rfl _ _ TTb rfl Try.underlying57 w.heap.size _ m rfl HO.out tx tc tl rfl WK.out.ent WK.out.hz (by omega) SZ.out ?_; intro y' cap' w4 hG; have G := hid hG; clear hG)
          go_roundw
          case rel => exact ⟨k + 1, by omega, by go_num, by rw [FT.out, List.length_append, envals_append]; exact G.out.own, G.out.touch HO.out HT.out (Nat.le_refl _)⟩
          case measure => simp [RowKit.intOf]; omega
        · obtain rfl : k = ts.length := by omega
          rw [List.take_length] at HO ⊢
          go_wp2
          go_ret
          exact ⟨_, rfl, HO.out, HT.out⟩
set_option maxHeartbeats 1000000 in
/-- merged: all entries of lists in which none stands twice, in order. -/
theorem merged14_any (x : Option Addr) (c : Nat) (ts : List TabV) (w : World) (hrow : RowV w x (ts.map TabV.val)) (hw : ∀ t ∈ ts, t.Wk w) (hn : ts.length ≤ 1000000) (htot : (flatT ts).length ≤ 1000000) (hnd : (flatT ts).Nodup) :
    Calls Try.prog 33 #[.slice x ts.length c] w fun e w' => ∃ u l', e = .returned u ∧ (SortedE l' ∧ (∀ z, z ∈ l' ↔ z ∈ flatT ts) ∧ l'.length = (flatT ts).length) ∧ w'.ownsRow w.heap.size TEn 3 u l'.length (envals l') ∧ Touch [] w w' := by
  have C := hid (concat_any x c ts w hrow hw hn htot)
  have SO := hid fun u w1 h => sortTab_any w.heap.size (flatT ts).length u (flatT ts) w1 h hnd htot
  generalize flatT ts = F at *
  clear hrow hw hn
  go_enter Try.func33, Try.ntmps33
  go_wp2_with fail
  refine C.out.mono ?_
  rintro e w1 ⟨u, rfl, ho, t1⟩
  have S1 := hid (SO.out u w1 ho)
  have T1 := hid t1
  obtain ⟨yu, cu, rfl, -, -⟩ := slice_form ho
  clear ho t1 C SO
  go_wp2_with fail
  refine S1.out.mono ?_
  rintro e w2 ⟨rfl, hs⟩
  have S2 := hid hs
  clear hs S1
  go_wp2
  go_ret
  obtain ⟨l', h1, h2⟩ := S2.out.ex
  exact ⟨_, l', rfl, h1, h2, S2.out.t _ T1.out (Nat.le_refl _)⟩
end Go.Proofs.Ytnkflmimnpolcaa

namespace Go.Proofs.Ytnkflmimnpolcaa
open Go.RowKit Go.Lib Go.Shelf
set_option maxRecDepth 100000

def Rest (ts : List TypeId) (W W' : World) : Prop := ∀ (b : Nat) (cs : Array Value) (t : TypeId) (fz : Nat × Nat), W.heap[b]? = some (.cells cs t fz) → t ∉ ts → W'.heap[b]? = some (.cells cs t fz)
theorem Rest.refl (ts : List TypeId) (W : World) : Rest ts W W := fun _ _ _ _ h _ => h
theorem Rest.trans {ts : List TypeId} {a b c : World} (h1 : Rest ts a b) (h2 : Rest ts b c) : Rest ts a c := fun x cs t fz h n => h2 x cs t fz (h1 x cs t fz h n) n
theorem Rest.touch {ts : List TypeId} {W W' : World} (h : Touch [] W W') : Rest ts W W' := fun _ _ _ _ hb _ => touch_other h hb (by simp)
theorem Rest.row {ts : List TypeId} {W W' : World} (h : Rest ts W W') {base n s : Nat} {e : TypeId} {v : Value} {xs : List Value} (hv : W.ownsRow base e s v n xs) (he : e ∉ ts) : W'.ownsRow base e s v n xs := by
  refine ⟨hv.1, ?_⟩
  rcases hv.2 with h2 | ⟨b, cap, cur, hx, hb, hh, r⟩
  · exact .inl h2
  · exact .inr ⟨b, cap, cur, hx, hb, h _ _ _ _ hh he, r⟩
theorem Grew.rest {w w' : World} {base n m s : Nat} {e : TypeId} {v v' : Value} {xs news : List Value} {ts : List TypeId} (h : Grew w w' base e s v v' n m xs news) (hv : w.ownsRow base e s v n xs) (hm : e ∈ ts) : Rest ts w w' := fun _ _ _ _ hb n2 => h.block hv hb fun e2 => n2 (e2 ▸ hm)
theorem TabV.At.rest {ts : List TypeId} {W W' : World} {t : TabV} (h : t.At W) (r : Rest ts W W') (h1 : TEn ∉ ts) : t.At W' := ⟨r.row h.own h1, h.good⟩
theorem LvV.At.rest {ts : List TypeId} {W W' : World} {v : LvV} (h : v.At W) (r : Rest ts W W') (h1 : TEn ∉ ts) (h2 : TTb ∉ ts) : v.At W' := ⟨r.row h.own h2, fun t ht => (h.tab t ht).rest r h1⟩
theorem row_set {w : World} {B g n c i : Nat} {e : TypeId} {xs : List Value} (h : w.ownsRow B e 1 (.slice (some ⟨g, 0, none⟩) n c) n xs) (hi : i < n) (u : Value) :
    (w.setCell ⟨g, i, none⟩ u).ownsRow B e 1 (.slice (some ⟨g, 0, none⟩) n c) n (xs.set i u) := by
  obtain ⟨hl, h2⟩ := h
  rcases h2 with ⟨e', h0⟩ | ⟨g', cap, cur, e', hb, hg, hnc, hcm, hcs, htake⟩
  · cases e'
  · cases e'
    refine ⟨by simpa using hl, .inr ⟨g, c, _, rfl, hb, heap_set hg u, hnc, hcm, by simpa using hcs, ?_⟩⟩
    rw [Array.toList_setIfInBounds, List.take_set, htake]
theorem row_cell {w : World} {B g n c i : Nat} {e : TypeId} {xs : List Value} (h : w.ownsRow B e 1 (.slice (some ⟨g, 0, none⟩) n c) n xs) (hi : i < xs.length) : w.cell? ⟨g, i, none⟩ = some xs[i] ∧ w.frozen? ⟨g, i, none⟩ = false := by
  rcases h.2 with ⟨e', h0⟩ | ⟨g', cap, cur, e', hb, hg, _⟩
  · cases e'
  · cases e'
    have := h.cells (g := g) rfl i xs[i] (List.getElem?_eq_getElem hi)
    rw [show (⟨g, 0, none⟩ : Addr).add i = ⟨g, i, none⟩ by unfold Addr.add; split <;> simp_all] at this
    exact ⟨this, free_of hg i⟩
theorem rest_set {w : World} {B g n c i : Nat} {e : TypeId} {xs : List Value} {ts : List TypeId} (h : w.ownsRow B e 1 (.slice (some ⟨g, 0, none⟩) n c) n xs) (he : e ∈ ts) (u : Value) : Rest ts w (w.setCell ⟨g, i, none⟩ u) := fun b cs t fz hb hn => by
  refine (heap_set_other u ?_).trans hb
  rintro rfl
  rcases h.2 with ⟨e', h0⟩ | ⟨g', cap, cur, e', _, hg, _⟩
  · cases e'
  · cases e'
    rw [hg] at hb
    cases hb
    exact hn he
theorem append_clip (W : World) (x : Option Addr) (n : Nat) (vs : List Value) (hv : RowV W x vs) (h1v : ∀ u ∈ vs, u.oneCell' = true) (hn : vs.length = n) (hz : x = none → n = 0) (hb : n ≤ 1000000) (u0 : Value) (h1 : u0.oneCell' = true) (ty : TypeId) :
    ∃ y c w', (Builtin.append_ #[TTbs, TTbs] ty #[.slice x n n, .slice (some ⟨W.heap.size, 0, none⟩) 1 1]).run Try.prog (W.alloc (.cells #[u0] TTb)) = .ok (.slice y (n + 1) c) w' ∧ w'.ownsRow W.heap.size TTb 1 (.slice y (n + 1) c) (n + 1) (vs ++ [u0]) ∧ Touch [] W w' := by
  obtain ⟨i0, hi, hz0, hz1, hz2⟩ := info_parts infoTb
  have hc := (heap_alloc_new W (.cells #[u0] TTb))
  cases x with
  | none =>
    obtain rfl := hz rfl
    obtain rfl : vs = [] := List.eq_nil_of_length_eq_zero hn
    obtain ⟨v', w', hr, hG⟩ := append_full (P := Try.prog) (W.alloc (.cells #[u0] TTb)) W.heap.size TTbs ty TTb i0 (.slice none 0 0) 1 24 Try.underlying55 hi hz0 hz1 hz2 rfl (by decide) (.slice none 0 0) 0 [] (World.ownsRow_nil _ _ _ _) ⟨W.heap.size, 0, none⟩ 1 1 [u0] rfl (by
      intro j u hj
      cases j with
      | zero => cases hj; exact cell_of hc 0
      | succ j => simp at hj) (by simpa using h1) (by omega) (by decide) (by simp)
    obtain ⟨y, cap, rfl, _, _⟩ := slice_form hG.own
    exact ⟨y, cap, w', hr, by simpa using hG.own, hG.touch (World.ownsRow_nil _ _ _ _) ((Touch.refl [] W).alloc _) (Nat.le_refl _)⟩
  | some b =>
    have hlo : vs.length = n * i0.size := by rw [hz1]; omega
    have holds : ∀ j u, vs[j]? = some u → (W.alloc (.cells #[u0] TTb)).cell? (b.add j) = some u := fun j u hj => by
      obtain ⟨hjl, rfl⟩ := List.getElem?_eq_some_iff.mp hj
      obtain ⟨g, off, e', hk⟩ := (RowV.t0 (w := W) (w' := W.alloc (.cells #[u0] TTb)) hv ((Touch.refl [] W).alloc _)) j hjl
      cases e'
      rw [show (⟨g, off, none⟩ : Addr).add j = ⟨g, off + j, none⟩ by unfold Addr.add; split <;> simp_all]
      exact hk
    have hr := run_append_grow (P := Try.prog) (w := W.alloc (.cells #[u0] TTb)) TTbs ty TTb i0 (.slice none 0 0) Try.underlying55 hi hz0 b n n vs hlo holds ⟨W.heap.size, 0, none⟩ 1 1 [u0] (by rw [hz1]; rfl) (by
      intro j u hj
      cases j with
      | zero => cases hj; exact cell_of hc 0
      | succ j => simp at hj) (by omega) (by omega) (growslice_fits (by omega) (by rw [hz2]; omega))
    have hge := grownCap_ge (W.alloc (.cells #[u0] TTb)) (n + 1) n TTb
    have hcm' : grownCap (W.alloc (.cells #[u0] TTb)) (n + 1) n TTb ≤ maxLen := grownCap_le_maxLen _ (n + 1) n TTb (by unfold maxLen; omega)
    have hlen : (vs ++ [u0]).length = (n + 1) * 1 := by simp [hn]
    refine ⟨_, _, _, hr, ⟨hlen, .inr ⟨(W.alloc (.cells #[u0] TTb)).heap.size, _, _, rfl, by simp, heap_alloc_new (W.alloc (.cells #[u0] TTb)).drew _, hge, hcm', ?_, ?_⟩⟩, ((Touch.refl [] W).alloc _).drew.alloc _⟩
    · have h3 : (Value.slice none 0 0).cells.size = 1 := by decide
      simp only [Array.size_append, List.size_toArray, size_zeroCells, h3]
      simp only [List.length_singleton, hn]
      omega
    · simp only [Array.toList_append, List.append_assoc]
      rw [← List.append_assoc, ← hlen]
      exact List.take_left
end Go.Proofs.Ytnkflmimnpolcaa

namespace Go.Proofs.Ytnkflmimnpolcaa
open Go.RowKit Go.Lib
set_option maxRecDepth 100000

theorem new14_any (room most : Int) (w : World) :
    Calls Try.prog 9 #[.int .i64 room, .int .i64 most] w fun e w' => ∃ xb, e = .returned (.pointer (some ⟨xb, 0, none⟩)) ∧ IxAt w' xb (max room 1).toNat (max most 2).toNat .nil [] ∧ Touch [] w w' ∧ w.heap.size ≤ xb := by
  have C := hid fun w => new_any w
  have FIN : Hid (∀ (r m : Int), r = max room 1 → m = max most 2 → ∀ xb, xb = (w.alloc (.cells #[.pointer none] 47)).heap.size → IxAt ((w.alloc (.cells #[.pointer none] 47)).alloc (.cells #[.int .i64 r, .int .i64 m, .pointer none, .slice none 0 0] TIx)) xb (max room 1).toNat (max most 2).toNat .nil []) := hid (by
    intro r m hr hm xb hx
    subst hx
    refine ⟨⟨none, none, 0, ?_, rfl, ⟨World.ownsRow_nil _ _ _ _, by simp⟩⟩, by omega, by omega⟩
    rw [heap_alloc_new]
    have e1 : (((max room 1).toNat : Nat) : Int) = r := by omega
    have e2 : (((max most 2).toNat : Nat) : Int) = m := by omega
    rw [e1, e2]
    rfl)
  have c0 := cell_of (heap_alloc_new w (.cells #[.pointer none] 47)) 0
  go_enter Try.func9, Try.ntmps9
  go_wp2_with (go_at_call 7; refine (C.out w).mono ?_; rintro e w1 ⟨rfl, rfl⟩)
  all_goals go_ret
  all_goals exact ⟨_, rfl, FIN.out _ _ (by omega) (by omega) _ (by simp), ((Touch.refl [] w).alloc _).alloc _, by simp⟩
theorem made_any {xb room most : Nat} {T : Tr} {L : List LvV} {w : World} (h : IxAt w xb room most T L) : Calls Try.prog 28 #[.pointer (some ⟨xb, 0, none⟩)] w fun e w' => e = .returned (.bool true) ∧ w' = w := by
  obtain ⟨⟨r, x, c, hb, -, -⟩, h1, -⟩ := h
  have c0 := cell_of hb 0
  have hp : decide (0 < room) = true := by rw [decide_eq_true_eq]; omega
  clear hb
  go_enter Try.func28, Try.ntmps28
  go_wp2
  go_ret
  exact ⟨rfl, rfl⟩
theorem memory_any (xb : Nat) (w : World) : Calls Try.prog 37 #[.pointer (some ⟨xb, 0, none⟩)] w fun e w' => e = .returned (.pointer (some ⟨xb, 2, none⟩)) ∧ w' = w := by
  go_enter Try.func37, Try.ntmps37
  go_wp2
  go_ret
  exact ⟨rfl, rfl⟩
theorem mem_any {xb room most : Nat} {T : Tr} {L : List LvV} {w : World} (h : IxAt w xb room most T L) : Calls Try.prog 25 #[.pointer (some ⟨xb, 0, none⟩)] w fun e w' => e = .returned (.int .i64 T.io.length) ∧ w' = w := by
  have C1 := hid (memory_any xb w)
  have C2 := hid (tablen_any w h.mem)
  rw [T.ct_io] at C2
  clear h
  go_enter Try.func25, Try.ntmps25
  go_wp2_with (first
    | (go_at_call 37; refine C1.out.mono ?_; rintro e w1 ⟨rfl, h⟩; have h := h.symm; subst h)
    | (go_at_call 22; refine C2.out.mono ?_; rintro e w1 ⟨rfl, h⟩; have h := h.symm; subst h))
  go_ret
  exact ⟨rfl, rfl⟩
/-- How many tables each level has. -/
def cntL (L : List LvV) : List Int := L.map fun v => (v.ts.length : Int)
theorem intV_one (l : List Int) : ∀ u ∈ intV l, u.oneCell' = true := by
  intro u hu
  obtain ⟨t, _, rfl⟩ := List.mem_map.1 hu
  rfl
set_option maxHeartbeats 2000000 in
theorem levels_any {xb room most : Nat} {T : Tr} {L : List LvV} {w : World} (h : IxAt w xb room most T L) (nL : L.length ≤ 1000000) :
    Calls Try.prog 26 #[.pointer (some ⟨xb, 0, none⟩)] w fun e w' => ∃ u, e = .returned u ∧ w'.ownsRow w.heap.size TInt 1 u L.length (intV (cntL L)) ∧ Touch [] w w' := by
  obtain ⟨⟨r, lx, lc, hb, -, hL⟩, -, -⟩ := h
  have c3 := cell_of hb 3
  have HL := hid hL
  obtain ⟨i0, hi, hz0, hz1, hz2⟩ := info_parts infoInt
  clear hb hL
  go_enter Try.func26, Try.ntmps26
  go_wp2
  go_loopw [3, 13] (fun uv iv wr => ∃ k : Nat, k ≤ L.length ∧ iv = .int .i64 k ∧ wr.ownsRow w.heap.size TInt 1 uv k (intV (cntL (L.take k))) ∧ Touch [] w wr) (fun _ iv _ => L.length - (RowKit.intOf iv).toNat)
  case atStart => exact ⟨0, Nat.zero_le _, rfl, World.ownsRow_nil _ _ _ _, Touch.refl _ _⟩
  case round =>
    obtain ⟨k, hk, rfl, hown, ht⟩ := hrel
    obtain ⟨yu, cu, rfl, -, -⟩ := slice_form hown
    have HT := hid ht
    have HO := hid hown
    clear ht hown
    by_cases hlt : k < L.length
    · have hlt2 : decide (k < L.length) = true := by simpa using hlt
      have hI : (k : Int) < L.length := by omega
      obtain ⟨b, off, rfl, g0⟩ := HL.out.row k (by simpa using hlt)
      rw [List.getElem_map] at g0
      have e0 := HT.out.cell g0
      have TK : Hid (intV (cntL (L.take (k + 1))) = intV (cntL (L.take k)) ++ [.int .i64 ((L[k]).ts.length : Nat)]) := hid (by rw [List.take_succ_eq_append_getElem hlt]; unfold cntL intV; rw [List.map_append, List.map_append]; rfl)
      generalize L[k] = v at *
      obtain ⟨vx, vc, ts⟩ := v
      unfold LvV.val at e0
      dsimp only at e0 TK
      clear g0
      go_wp2_with (at_builtin; refine wpList_append_grew _ rfl _ _ TInts rfl w.heap.size TInt i0 (.int .i64 0) 1 8 Try.underlying23 hi hz0 hz1 hz2 rfl (by decide) _ k (intV (cntL (L.take k))) rfl (HO.out.alloc _) (.slice (some ⟨wr.heap.size, 0, none⟩) 1 1) 1 0 [.int .i64 (ts.length : Nat)] rfl (lit_one _ _ _ _ rfl) (by intro u hu; simp at hu; subst hu; rfl) (by omega) (by decide) (by have := HT.out.size; simp; omega) ?_; intro y cap w2 hG; have G := hid hG; clear hG)
      go_roundw
      case rel => exact ⟨k + 1, by omega, by go_num, by rw [TK.out]; exact G.out.own, G.out.touch (HO.out.alloc _) (HT.out.alloc _) (Nat.le_refl _)⟩
      case measure => simp [RowKit.intOf]; omega
    · obtain rfl : k = L.length := by omega
      have hlt2 : decide (L.length < L.length) = false := by simp
      rw [List.take_length] at HO
      go_wp2
      go_ret
      exact ⟨_, rfl, HO.out, HT.out⟩
end Go.Proofs.Ytnkflmimnpolcaa
