/- page: the first events whose positions are wanted. -/
import Derived.Test.YtmgglmoiepjebaaPg16
namespace Go.Proofs.Ytmgglmoiepjebaa
open Go.RowKit Go.Lib Go.Shelf
set_option maxRecDepth 100000
attribute [local go_sem] Oper.semAt_some
attribute [-go_sem] Builtin.append_

theorem sto_info : (Try.prog.info? TSto).map (fun i => (i.zero, i.size, i.bytes)) = some (some (.agg #[.int .i64 0, .string ⟨#[]⟩, .string ⟨#[]⟩, .float .f64 0, .string ⟨#[]⟩, .int .i64 0, .int .i64 0, .int .i64 0]), 8, 88) := by kernel_rfl
theorem sto_news (W : World) (s : StoD) : ∀ j u, s.list[j]? = some u → (W.alloc (.cells #[.int .i64 s.id, .string s.typ, .string s.data, .float .f64 s.value, .string s.stream, .int .i64 s.version, .int .i64 s.position, .int .i64 s.time] TSto)).cell? ((⟨W.heap.size, 0, none⟩ : Addr).add j) = some u := by
  intro j u hj
  rw [add_at, Nat.zero_add, cell_of (heap_alloc_new W _)]
  simpa [StoD.list] using hj
theorem stoVals_sing (s : StoD) : stoVals [s] = s.list := by simp [stoVals]
/-- How a page stands behind one more event, ahead of the store of where to go on. -/
structure PgN (w0 W : World) (P Bx n b k : Nat) (nx : Int) (ts : List StoD) (sb : Array Value) (v : Value) (W7 : World) : Prop where
  pg : PgB W7 P v nx true
  bx : W7.heap[Bx]? = some (.cells sb TSto (0, 0))
  row : W7.ownsRow w0.heap.size TSto 8 v k (stoVals ts)
  t : Touch [P] w0 W7
  ko : KeepsOthers W W7
  kp : KpP (prB n b) W W7
/-- One more event behind those of a page. -/
theorem pg_append (w0 W w5 : World) (P Bx n b : Nat) (v : Value) (nx : Int) (ts : List StoD) (s : StoD) (sb : Array Value) (hp : PgB W P v nx true) (hrow : W.ownsRow w0.heap.size TSto 8 v ts.length (stoVals ts)) (ht : Touch [P] w0 W) (hP : P < w0.heap.size) (hn : n ≤ P) (hb : b ≠ P) (hb2 : b < w0.heap.size)
    (hBx : W.heap[Bx]? = some (.cells sb TSto (0, 0))) (hvb : v.ownBlock ≠ some Bx) (hl : ts.length ≤ 1000000) (t5 : Touch [] W w5) :
    ∃ y cap w6, (Builtin.append_ #[22, 22] 22 #[v, .slice (some ⟨w5.heap.size, 0, none⟩) 1 1]).run Try.prog (w5.alloc (.cells #[.int .i64 s.id, .string s.typ, .string s.data, .float .f64 s.value, .string s.stream, .int .i64 s.version, .int .i64 s.position, .int .i64 s.time] TSto)) = .ok (.slice y (ts.length + 1) cap) w6 ∧
      (PgB w6 P v nx true ∧ w6.heap[Bx]? = some (.cells sb TSto (0, 0))) ∧ Hid (PgN w0 W P Bx n b (ts.length + 1) nx (ts ++ [s]) sb (.slice y (ts.length + 1) cap) (w6.setCell ⟨P, 0, none⟩ (.slice y (ts.length + 1) cap))) := by
  obtain ⟨i0, hi, hz0, hz1, hz2⟩ := info_parts sto_info
  have hrow5 := owns_touch hrow (t5.alloc (.cells #[.int .i64 s.id, .string s.typ, .string s.data, .float .f64 s.value, .string s.stream, .int .i64 s.version, .int .i64 s.position, .int .i64 s.time] TSto))
  have ht5 := ht.trans (t5.alloc (.cells #[.int .i64 s.id, .string s.typ, .string s.data, .float .f64 s.value, .string s.stream, .int .i64 s.version, .int .i64 s.position, .int .i64 s.time] TSto)) (by simp)
  obtain ⟨v', w6, hr, hG⟩ := append_full (P := Try.prog) (w5.alloc (.cells #[.int .i64 s.id, .string s.typ, .string s.data, .float .f64 s.value, .string s.stream, .int .i64 s.version, .int .i64 s.position, .int .i64 s.time] TSto)) w0.heap.size 22 22 TSto i0 _ 8 88 Try.underlying22 hi hz0 hz1 hz2 rfl (by decide) v ts.length (stoVals ts) hrow5
    ⟨w5.heap.size, 0, none⟩ 1 1 s.list rfl (sto_news w5 s) (by intro u hu; exact stoVals_one [s] u (by rw [stoVals_sing]; exact hu)) (by omega) (by decide) ht5.size
  obtain ⟨y, cap, rfl, -, -⟩ := slice_form hG.own
  have hgr := hG.grown
  have ho := hG.own
  rw [stoVals_snoc] at ho
  have t5' := t5.alloc (.cells #[.int .i64 s.id, .string s.typ, .string s.data, .float .f64 s.value, .string s.stream, .int .i64 s.version, .int .i64 s.position, .int .i64 s.time] TSto)
  have hPn : v.ownBlock ≠ some P := fun e => by
    obtain ⟨h1, cur, h2⟩ := row_lt hrow e
    rw [hp] at h2
    cases h2
  have hp6 : PgB w6 P v nx true := (hgr.block P (Nat.lt_of_lt_of_le (lt_of_block hp) t5'.size) hPn.symm).trans (touch_other t5' hp (by simp))
  have hB6 : w6.heap[Bx]? = some (.cells sb TSto (0, 0)) := (hgr.block Bx (Nat.lt_of_lt_of_le (lt_of_block hBx) t5'.size) hvb.symm).trans (touch_other t5' hBx (by simp))
  have hBP : Bx ≠ P := by rintro rfl; rw [hp] at hBx; cases hBx
  refine ⟨y, cap, w6, hr, ⟨hp6, hB6⟩, hid ⟨heap_set hp6 _, (heap_set_other _ hBP).trans hB6, row_stays ho fun k hk => heap_set_other _ ?_, (ht5.grown hgr (fun k hk => .inr (row_lt hrow hk).1)).setCell (.inl (by simp)) _, ?_, ?_⟩⟩
  · obtain ⟨h1, -⟩ := row_lt ho hk
    dsimp only
    omega
  · refine KeepsOthers.trans (KeepsOthers.trans ⟨t5'.size, fun k o hk _ => touch_other t5' hk (by simp)⟩ (KeepsOthers.of_grownBy hgr (fun j o hj hjo => ?_))) (KeepsOthers.setCell _ _ _)
    obtain ⟨_, cur, h2⟩ := row_lt hrow5 hj
    rw [h2] at hjo
    cases hjo
    rfl
  · refine ((KpP.of_touch t5' (by simp)).trans ⟨hgr.size, fun k hk hkl => hgr.block k hkl (fun e => ?_)⟩).trans ⟨by simp, fun k hk hkl => heap_set_other _ ?_⟩
    · obtain ⟨h1, -⟩ := row_lt hrow e.symm
      rcases hk with h | rfl
      · omega
      · omega
    · dsimp only
      rcases hk with h | rfl
      · omega
      · exact hb
/-- .. and behind it. -/
theorem pg_last {w0 W W7 : World} {P Bx n b k cap : Nat} {nx nx2 : Int} {y : Option Addr} {ts : List StoD} {s : StoD} {sb : Array Value} {p : StoD → Bool} {nf : Int → Int} {from_ : Int} {N : Nat} {pre : List SI} {x : SI}
    (h : PgN w0 W P Bx n b (k + 1) nx (ts.map canS ++ [canS s]) sb (.slice y (k + 1) cap) W7) (hN : ts.length + 1 ≤ N) (hf : flt p (pre ++ [x]) = ts ++ [s]) (hk : (ts.map canS).length = k) (hx : nf s.position = nx2) (hP : P < w0.heap.size) (hn : n ≤ P) (hb : b < n) :
    KeepsFrom w0.heap.size W (W7.setCell ⟨P, 1, none⟩ (.int .i64 nx2)) ∧ KpP (prB n b) W (W7.setCell ⟨P, 1, none⟩ (.int .i64 nx2)) ∧
      (PgI w0 P ((flt p (pre ++ [x])).map canS) (nxt nf from_ (flt p (pre ++ [x]))) true (W7.setCell ⟨P, 1, none⟩ (.int .i64 nx2)) ∧ (flt p (pre ++ [x])).length ≤ N) := by
  subst hx
  refine ⟨(h.ko.trans (KeepsOthers.setCell _ _ _)).from _, h.kp.trans ⟨by simp, fun j hj _ => heap_set_other _ ?_⟩, ⟨⟨.slice y (k + 1) cap, ?_, ?_⟩, h.t.setCell (.inl (by simp)) _⟩, ?_⟩
  · dsimp only
    rcases hj with h | rfl <;> omega
  · rw [hf, nxt_snoc]
    exact heap_set h.pg _
  · rw [hf, List.map_append, List.length_append, hk]
    refine row_stays h.row fun j hj => heap_set_other _ ?_
    obtain ⟨h1, -⟩ := row_lt h.row hj
    dsimp only
    omega
  · rw [hf, List.length_append]
    exact hN
theorem flt_all {p : StoD → Bool} {gs : List SI} {Lo : List StoD} (hv : gs.map (fun x => x.2.1) = Lo) : flt p gs = Lo.filter p := by unfold flt; rw [hv]
theorem flt_stop {p : StoD → Bool} {gs pre ini : List SI} {last : SI} {Lo : List StoD} {N : Nat} (hv : gs.map (fun x => x.2.1) = Lo) (hpre : pre <+: gs) (he : pre = ini ++ [last]) (hp : p last.2.1 = true) (hl : (flt p ini).length = N) :
    (Lo.filter p).take N = flt p ini ∧ decide ((Lo.filter p).length ≤ N) = false := by
  obtain ⟨r, hr⟩ := hpre
  have e : Lo.filter p = flt p ini ++ last.2.1 :: flt p r := by
    rw [← flt_all hv, ← hr, he]
    simp [flt, hp]
  rw [e]
  subst hl
  refine ⟨by simp, ?_⟩
  rw [decide_eq_false_iff_not, List.length_append, List.length_cons]
  omega
theorem flt_done {p : StoD → Bool} {gs : List SI} {Lo : List StoD} {N : Nat} (hv : gs.map (fun x => x.2.1) = Lo) (hl : (flt p gs).length ≤ N) : (Lo.filter p).take N = flt p gs ∧ decide ((Lo.filter p).length ≤ N) = true := by
  rw [← flt_all hv]
  exact ⟨List.take_of_length_le hl, decide_eq_true hl⟩
theorem gsD_val (l : List StoD) (h : ∀ s ∈ l, Good s) : (gsU l h).reverse.map (fun x => x.2.1) = l.reverse := by rw [List.map_reverse, gsU_val]

set_option maxHeartbeats 8000000 in
theorem pageF_any (from_ n : Int) (hf0 : 0 ≤ from_) (hn0 : 1 ≤ n) (hn1 : n ≤ 100) (fb b : Nat) (x : Option Addr) (c : Nat) (L : List StoD) (w : World) (hX : StoX w x L) (hG : ∀ s ∈ L, Good s) (nL : L.length ≤ 1000000)
    (hfb : w.cell? ⟨fb, 0, none⟩ = some (.int .i64 from_)) (hb : w.cell? ⟨b, 0, none⟩ = some (.slice x L.length c)) :
    Calls Try.prog 25 #[.func (.func 37) #[] #[.pointer (some ⟨b, 0, none⟩)], .int .i64 from_, .int .i64 n, .func (.func 24) #[] #[.pointer (some ⟨fb, 0, none⟩)], .func (.func 27) #[] #[]] w fun r w' =>
      ∃ v, r = .returned (.tuple #[.agg #[v, .int .i64 (nxt aboveV from_ ((L.filter (fwdP from_)).take n.toNat)), .bool (decide ((L.filter (fwdP from_)).length ≤ n.toNat))], .int .i64 0]) ∧
        w'.ownsRow w.heap.size TSto 8 v ((L.filter (fwdP from_)).take n.toNat).length (stoVals (((L.filter (fwdP from_)).take n.toNat).map canS)) ∧ Touch [] w w' := by
  refine (callsIn_wide (n := 3)).1 ?_
  refine callsIn_of_wp_marks Try.func25 rfl trivial ?_ rfl
  simp only [Try.ntmps25, List.size_toArray, List.length_cons, List.length_nil, Nat.reduceAdd, Nat.reduceSub, Array.replicate_succ, Array.replicate_zero, List.push_toArray, List.append_toArray, List.nil_append, List.cons_append]
  have hd1 : decide (from_ < 0) = false := by rw [decide_eq_false_iff_not]; omega
  have hd2 : decide (n < 1) = false := by rw [decide_eq_false_iff_not]; omega
  have hd3 : decide (n > 100) = false := by rw [decide_eq_false_iff_not]; omega
  have hbl : b < w.heap.size := World.block_lt_of_cell? w _ hb
  have hfl : fb < w.heap.size := World.block_lt_of_cell? w _ hfb
  gi_upto_region 4 with fail
  obtain ⟨W0, hW0⟩ : ∃ W0, W0 = ((((w.alloc (.cells #[.int .i64 n] 3)).alloc (.cells #[.func (.func 24) #[] #[.pointer (some ⟨fb, 0, none⟩)]] 53)).alloc (.cells #[.func (.func 27) #[] #[]] 58)).alloc (.cells #[.slice none 0 0, .int .i64 0, .bool false] TPage)).alloc (.cells #[.slice none 0 0, .int .i64 from_, .bool true] TPage) := ⟨_, rfl⟩
  have t0 : Touch [] w W0 := by rw [hW0]; exact (((((Touch.refl [] w).alloc _).alloc _).alloc _).alloc _).alloc _
  have hsz : W0.heap.size = w.heap.size + 5 := by rw [hW0]; simp
  have b7 : W0.heap[w.heap.size]? = some (.cells #[.int .i64 n] 3 (0, 0)) := by rw [hW0]; exact heap_alloc_keep (heap_alloc_keep (heap_alloc_keep (heap_alloc_keep (heap_alloc_new w _) _) _) _) _
  have b8 : W0.heap[w.heap.size + 1]? = some (.cells #[.func (.func 24) #[] #[.pointer (some ⟨fb, 0, none⟩)]] 53 (0, 0)) := by
    rw [hW0]
    have := heap_alloc_keep (heap_alloc_keep (heap_alloc_keep (heap_alloc_new (w.alloc (.cells #[.int .i64 n] 3)) (.cells #[.func (.func 24) #[] #[.pointer (some ⟨fb, 0, none⟩)]] 53)) (.cells #[.func (.func 27) #[] #[]] 58)) (.cells #[.slice none 0 0, .int .i64 0, .bool false] TPage)) (.cells #[.slice none 0 0, .int .i64 from_, .bool true] TPage)
    rwa [World.size_alloc] at this
  have b9 : W0.heap[w.heap.size + 2]? = some (.cells #[.func (.func 27) #[] #[]] 58 (0, 0)) := by
    rw [hW0]
    have := heap_alloc_keep (heap_alloc_keep (heap_alloc_new ((w.alloc (.cells #[.int .i64 n] 3)).alloc (.cells #[.func (.func 24) #[] #[.pointer (some ⟨fb, 0, none⟩)]] 53)) (.cells #[.func (.func 27) #[] #[]] 58)) (.cells #[.slice none 0 0, .int .i64 0, .bool false] TPage)) (.cells #[.slice none 0 0, .int .i64 from_, .bool true] TPage)
    rwa [World.size_alloc, World.size_alloc] at this
  have b10 : W0.heap[w.heap.size + 3]? = some (.cells #[.slice none 0 0, .int .i64 0, .bool false] TPage (0, 0)) := by
    rw [hW0]
    have := heap_alloc_keep (heap_alloc_new (((w.alloc (.cells #[.int .i64 n] 3)).alloc (.cells #[.func (.func 24) #[] #[.pointer (some ⟨fb, 0, none⟩)]] 53)).alloc (.cells #[.func (.func 27) #[] #[]] 58)) (.cells #[.slice none 0 0, .int .i64 0, .bool false] TPage)) (.cells #[.slice none 0 0, .int .i64 from_, .bool true] TPage)
    rwa [World.size_alloc, World.size_alloc, World.size_alloc] at this
  have b12 : W0.heap[w.heap.size + 4]? = some (.cells #[.slice none 0 0, .int .i64 from_, .bool true] TPage (0, 0)) := by
    rw [hW0]
    have := heap_alloc_new ((((w.alloc (.cells #[.int .i64 n] 3)).alloc (.cells #[.func (.func 24) #[] #[.pointer (some ⟨fb, 0, none⟩)]] 53)).alloc (.cells #[.func (.func 27) #[] #[]] 58)).alloc (.cells #[.slice none 0 0, .int .i64 0, .bool false] TPage)) (.cells #[.slice none 0 0, .int .i64 from_, .bool true] TPage)
    rwa [World.size_alloc, World.size_alloc, World.size_alloc, World.size_alloc] at this
  simp only [TPage] at hW0
  rw [← hW0]
  clear hW0
  simp only [Nat.add_assoc, Nat.reduceAdd]
  gi_wp2
  refine wpIn_rangeFunc_ownH rfl (by decide) (gf := 37) (lb := #[.pointer (some ⟨b, 0, none⟩)]) rfl trivial (enters_of Try.func37 (by kernel_rfl) rfl)
    (all16_stops 2 b x c L w hX hG nL W0 t0 (t0.cell hb)) KpP.trans (fun W l o o' hl1 hl _ _ => KpP.putObj W l o o' hl (fun h => by have := prB_lt (m := W0.heap.size) h (by omega) (by omega); omega)) (Below.refl _ _) (fun _ => rfl)
    (fun pre W => PgI W0 (w.heap.size + 4) ((flt (fwdP from_) pre).map canS) (nxt aboveV from_ (flt (fwdP from_) pre)) true W ∧ (flt (fwdP from_) pre).length ≤ n.toNat)
    (fun c pre W => c = .exit 0 ∧ ∃ ini last, pre = ini ++ [last] ∧ fwdP from_ last.2.1 = true ∧ (flt (fwdP from_) ini).length = n.toNat ∧ PgI W0 (w.heap.size + 4) ((flt (fwdP from_) ini).map canS) (nxt aboveV from_ (flt (fwdP from_) ini)) false W)
    (OwnFrom.and (pgI_own W0 _ _ (fun pre => (flt (fwdP from_) pre).map canS) (fun pre => nxt aboveV from_ (flt (fwdP from_) pre)) (fun _ => true) (Nat.le_refl _)) (ownFrom_pure _ (fun pre => (flt (fwdP from_) pre).length ≤ n.toNat)))
    (fun c s W W' row hs hg hr => by
      obtain ⟨h1, ini, last, h2, h3, h4, h5⟩ := hs
      exact ⟨h1, ini, last, h2, h3, h4, pgI_own W0 _ _ (fun _ : Unit => (flt (fwdP from_) ini).map canS) (fun _ => nxt aboveV from_ (flt (fwdP from_) ini)) (fun _ => false) (Nat.le_refl _) () W W' row h5 hg hr⟩)
    ⟨⟨⟨_, b12, World.ownsRow_nil _ _ _ _⟩, Touch.refl _ _⟩, Nat.zero_le _⟩
    (fun x a' W => ∃ Bx v nx, W0.heap.size ≤ Bx ∧ W.heap[Bx]? = some (.cells #[.int .i64 x.2.1.id, .string x.2.1.typ, .string x.2.1.data, .float .f64 x.2.1.value, .string x.2.1.stream, .int .i64 x.2.1.version, .int .i64 x.2.1.position, .int .i64 x.2.1.time] TSto (0, 0)) ∧ PgB W (w.heap.size + 4) v nx true ∧ v.ownBlock ≠ some Bx ∧
      a' = { tmps := #[.func (.func 37) #[] #[.pointer (some ⟨b, 0, none⟩)], .int .i64 from_, .int .i64 n, .func (.func 24) #[] #[.pointer (some ⟨fb, 0, none⟩)], .func (.func 27) #[] #[], undef, undef, .pointer (some ⟨w.heap.size, 0, none⟩), .pointer (some ⟨w.heap.size + 1, 0, none⟩), .pointer (some ⟨w.heap.size + 2, 0, none⟩), .pointer (some ⟨w.heap.size + 3, 0, none⟩), .int .i64 0, .pointer (some ⟨w.heap.size + 4, 0, none⟩), undef, .pointer (some ⟨Bx, 0, none⟩), .int .i64 from_, .bool false, .bool false, .int .i64 n, .bool false, .bool false, .bool false, .int .i64 n, .bool false, .bool false, undef, .int .i64 from_, .agg #[.slice none 0 0, .int .i64 from_, .bool true], .func (.func 37) #[] #[.pointer (some ⟨b, 0, none⟩)], .int .i64 x.1, x.2.1.val, undef, undef, undef, undef, undef, undef, undef, undef, undef, undef, undef, undef, undef, undef, undef, undef, undef, undef, undef, undef, undef, undef, undef, undef], defers := [] })
    (fun x a' _ X Y row hs hg hr => by
      obtain ⟨Bx, v, nx, h1, h2, h3, h4, h5⟩ := hs
      have ne : ∀ (k : Nat) (cs : Array Value) (ty : TypeId) (fz : Nat × Nat), X.heap[k]? = some (.cells cs ty fz) → some k ≠ row := fun k cs ty fz hk e => by
        obtain ⟨_, o, ho, hc⟩ := hr k e.symm
        rw [hk] at ho
        cases ho
        cases hc
      exact ⟨Bx, v, nx, h1, (hg.block Bx (lt_of_block h2) (ne _ _ _ _ h2)).trans h2, (hg.block _ (lt_of_block h3) (ne _ _ _ _ h3)).trans h3, h4, h5⟩)
    ?assign ?body ?done ?stop
  case assign =>
    rintro l pre ⟨xi, ⟨⟨s0, s1, s2, s3, s4, s5, s6, s7⟩, gd⟩⟩ W K ⟨⟨⟨v, hp, hrow⟩, ht⟩, hlen⟩ hK
    have hsf := store_flt
    unfold encSI
    have hnew := heap_alloc_new W (.cells #[.int .i64 s0, .string s1, .string s2, .float .f64 s3, .string s4, .int .i64 s5, .int .i64 s6, .int .i64 s7] TSto)
    gi_wp2
    refine hK _ _ ((KeepsOthers.alloc _ _).from _) (KpP.of_touch ((Touch.refl [] W).alloc _) (by simp)) ⟨⟨⟨v, heap_alloc_keep hp _, hrow.alloc _⟩, ht.alloc _⟩, hlen⟩ ⟨W.heap.size, v, _, ht.size, hnew, heap_alloc_keep hp _, fun e => ?_, rfl⟩
    obtain ⟨_, cur, hk⟩ := row_lt hrow e
    exact absurd (lt_of_block hk) (Nat.lt_irrefl _)
  case body =>
    rintro l pre ⟨xi, ⟨⟨s0, s1, s2, s3, s4, s5, s6, s7⟩, gd⟩⟩ a' W hl hlr ⟨⟨⟨v, hp, hrow⟩, ht⟩, hlen⟩ ⟨Bx, v', nx', hBx0, hBx, hp', hvb, rfl⟩ hlt
    obtain rfl : v = v' := by
      unfold PgB at hp hp'
      rw [hp] at hp'
      simp at hp'
      exact hp'.1
    clear hp'
    dsimp only at hBx
    have tW : Touch [] w W := t0.trans ht (by intro k hk; right; simp at hk; omega)
    have q7 : W.heap[w.heap.size]? = _ := touch_other ht b7 (by simp)
    have q8 : W.heap[w.heap.size + 1]? = _ := touch_other ht b8 (by simp)
    have q9 : W.heap[w.heap.size + 2]? = _ := touch_other ht b9 (by simp)
    have k7 := cell_of q7 0
    have k8 := cell_of q8 0
    simp only [List.getElem?_toArray, List.getElem?_cons_zero] at k7 k8
    have hfb' := tW.cell hfb
    have C1 : Hid (Calls Try.prog 24 #[.int .i64 s6, .pointer (some ⟨fb, 0, none⟩)] W fun e w' => e = .returned (.bool (fwdP from_ ⟨s0, s1, s2, s3, s4, s5, s6, s7⟩)) ∧ W = w') := hid (fwd1_any from_ s6 fb W hfb')
    have p6 : W.cell? ⟨Bx, 6, none⟩ = some (.int .i64 s6) := cell_of hBx 6
    obtain ⟨y, cap, rfl, -, -⟩ := slice_form hrow
    have hNL : (flt (fwdP from_) pre).length ≤ 100 := by omega
    have hps : fwdP from_ ⟨s0, s1, s2, s3, s4, s5, s6, s7⟩ = true ∨ fwdP from_ ⟨s0, s1, s2, s3, s4, s5, s6, s7⟩ = false := by cases fwdP from_ ⟨s0, s1, s2, s3, s4, s5, s6, s7⟩ <;> simp
    rcases hps with hps | hps
    · by_cases hfull : (flt (fwdP from_) pre).length = n.toNat
      · have hq : (((((flt (fwdP from_) pre).map canS).length : Nat) : Int) == n) = true := by rw [List.length_map, hfull]; simp; omega
        rw [hps] at C1
        have HPS := hid hps
        have HF := hid hfull
        have HP := hid hp
        have HR := hid hrow
        have HT := hid ht
        have HL := hid hlen
        have p0 := cell_of hp 0
        have p2 := cell_of hp 2
        have f2 := free_of hp 2
        simp only [List.getElem?_toArray, List.getElem?_cons_zero, List.getElem?_cons_succ] at p0 p2
        clear hps hfull hp hrow ht hlen tW q7 q8 q9 hfb' hBx hvb hlt
        generalize hkk : ((flt (fwdP from_) pre).map canS).length = kk at *
        have HK := hid hkk
        clear hkk
        gi_wp2_with (refine ⟨trivial, ?_⟩; gi_at_call 24; refine ((callsIn_wide.2 C1.out).inRound l).mono ?_; rintro e w1 ⟨rfl, rfl⟩)
        refine ⟨(KeepsOthers.setCell _ _ _).from _, rfl, pre, _, rfl, HPS.out, HF.out, ⟨⟨_, heap_set HP.out _, ?_⟩, HT.out.setCell (.inl (by simp)) _⟩⟩
        rw [HK.out]
        refine row_stays HR.out fun k hk => heap_set_other _ ?_
        obtain ⟨h1, -⟩ := row_lt HR.out hk
        dsimp only
        omega
      · have hq : (((((flt (fwdP from_) pre).map canS).length : Nat) : Int) == n) = false := by rw [List.length_map, beq_eq_false_iff_ne]; omega
        rw [hps] at C1
        have FY : Hid (flt (fwdP from_) (pre ++ [(xi, (⟨⟨s0, s1, s2, s3, s4, s5, s6, s7⟩, gd⟩ : SG))]) = flt (fwdP from_) pre ++ [⟨s0, s1, s2, s3, s4, s5, s6, s7⟩]) := hid (flt_yes hps)
        have HN : Hid (∀ w5, Touch [] W w5 → _) := hid fun w5 t5 => pg_append W0 W w5 (w.heap.size + 4) Bx w.heap.size b _ _ _ (canS ⟨s0, s1, s2, s3, s4, s5, s6, s7⟩) _ hp hrow ht (by omega) (by omega) (by omega) (by omega) hBx hvb (by rw [List.length_map]; omega) t5
        have HLE : Hid ((flt (fwdP from_) pre).length + 1 ≤ n.toNat) := hid (by omega)
        have CF : Hid (∀ w, Calls Try.prog 19 #[(⟨s0, s1, s2, s3, s4, s5, s6, s7⟩ : StoD).val] w fun r w' => r = .returned (canS ⟨s0, s1, s2, s3, s4, s5, s6, s7⟩).val ∧ Touch [] w w') := hid fun w => fresh_any ⟨s0, s1, s2, s3, s4, s5, s6, s7⟩ (by have := gd.2.1; omega) (by have := gd.2.2.1; omega) (by have := gd.2.2.2; omega) w
        have HBX := hid hBx
        have CA : Hid (∀ w, Calls Try.prog 27 #[.int .i64 s6] w fun e w' => e = .returned (.int .i64 (aboveV s6)) ∧ w = w') := hid fun w => above_any s6 gd.1.p0 gd.1.p1 w
        have HSb : Hid (∀ w' : World, w'.heap[Bx]? = some (.cells #[.int .i64 s0, .string s1, .string s2, .float .f64 s3, .string s4, .int .i64 s5, .int .i64 s6, .int .i64 s7] TSto (0, 0)) → w'.cell? ⟨Bx, 0, none⟩ = some (.int .i64 s0) ∧ w'.cell? ⟨Bx, 1, none⟩ = some (.string s1) ∧ w'.cell? ⟨Bx, 2, none⟩ = some (.string s2) ∧ w'.cell? ⟨Bx, 3, none⟩ = some (.float .f64 s3) ∧ w'.cell? ⟨Bx, 4, none⟩ = some (.string s4) ∧ w'.cell? ⟨Bx, 5, none⟩ = some (.int .i64 s5) ∧ w'.cell? ⟨Bx, 6, none⟩ = some (.int .i64 s6) ∧ w'.cell? ⟨Bx, 7, none⟩ = some (.int .i64 s7)) := hid fun w' h => ⟨cell_of h 0, cell_of h 1, cell_of h 2, cell_of h 3, cell_of h 4, cell_of h 5, cell_of h 6, cell_of h 7⟩
        have HP := hid hp
        have p0 := cell_of hp 0
        simp only [List.getElem?_toArray, List.getElem?_cons_zero] at p0
        clear hps hfull hp hrow ht hlen tW q7 q8 q9 hfb' hBx hvb hlt
        generalize hkk : ((flt (fwdP from_) pre).map canS).length = kk at *
        have HK := hid hkk
        clear hkk
        gi_upto_region 9 with (refine ⟨trivial, ?_⟩; gi_at_call 24; refine ((callsIn_wide.2 C1.out).inRound l).mono ?_; rintro e w1 ⟨rfl, rfl⟩)
        refine wpIn_round_held (S := fun w' => w'.cell? ⟨Bx, 0, none⟩ = some (.int .i64 s0) ∧ w'.cell? ⟨Bx, 1, none⟩ = some (.string s1) ∧ w'.cell? ⟨Bx, 2, none⟩ = some (.string s2) ∧ w'.cell? ⟨Bx, 3, none⟩ = some (.float .f64 s3) ∧ w'.cell? ⟨Bx, 4, none⟩ = some (.string s4) ∧ w'.cell? ⟨Bx, 5, none⟩ = some (.int .i64 s5) ∧ w'.cell? ⟨Bx, 6, none⟩ = some (.int .i64 s6) ∧ w'.cell? ⟨Bx, 7, none⟩ = some (.int .i64 s7)) (by kernel_rfl) ?nodef ?noout ?walk
        case nodef =>
          intro j o c hj
          match j, hj with
          | 0, hj | 1, hj | 2, hj | 3, hj | 4, hj | 5, hj | 6, hj | 7, hj => simp at hj; subst hj; simp
          | j + 8, hj => simp at hj
        case noout => exact fun ⟨_, _, h⟩ => h
        case walk =>
          have hS := HSb.out W.drew HBX.out
          refine wpAnyH_take (i := 0) (v := ?v0) rfl (by kernel_rfl) (by kernel_rfl) (by kernel_rfl) (fun _ _ _ h => h) (Or.inl ⟨by rfl, ?_⟩) hS ?_
          rotate_left
          · (intro w hSw; (try dsimp only at hSw); go_simp; try with_reducible rfl)
          try simp only [Act.put, List.setIfInBounds_toArray]
          refine wpAnyH_take (i := 2) (v := ?v2) rfl (by kernel_rfl) (by kernel_rfl) (by kernel_rfl) (fun _ _ _ h => h) (Or.inl ⟨by rfl, ?_⟩) hS ?_
          rotate_left
          · (intro w hSw; (try dsimp only at hSw); go_simp; try with_reducible rfl)
          try simp only [Act.put, List.setIfInBounds_toArray]
          refine wpAnyH_ready (rs := [1, 3]) (by kernel_rfl) (by simp) ?_
          refine AllReadyH.cons rfl (fun K hK => ?_) (AllReadyH.cons rfl (fun K hK => ?_) AllReadyH.nil)
          · have hvd : W.drew.cell? ⟨w.heap.size + 4, 0, none⟩ = some (.slice y kk cap) := p0
            go_simp
            refine hK.out _ _ hS (fun _ => ?_)
            clear hK K hvd
            (try simp only [Act.put, List.setIfInBounds_toArray, List.set_cons_zero, List.set_cons_succ])
            refine wpAnyH_ready (rs := [3]) (by kernel_rfl) (by simp) ?_
            refine AllReadyH.cons rfl (fun K hK => ?_) AllReadyH.nil
            go_simp
            go_at_call 19
            refine (CF.out _).mono ?_
            rintro e w5 ⟨rfl, t5⟩
            have T5 : Touch [] W w5 := ((Touch.refl [] W).drew).trans t5 (by simp)
            refine hK.out _ _ (HSb.out _ (touch_other T5 HBX.out (by simp))) (fun _ => ?_)
            clear hK K
            (try simp only [Act.put, List.setIfInBounds_toArray, List.set_cons_zero, List.set_cons_succ])
            refine wpAnyH_ready (rs := [4]) (by kernel_rfl) (by simp) ?_
            refine AllReadyH.cons rfl (fun K hK => ?_) AllReadyH.nil
            go_simp
            refine hK.out _ _ (HSb.out _ (heap_alloc_keep (touch_other T5 HBX.out (by simp)) _)) (fun _ => ?_)
            clear hK K
            (try simp only [Act.put, List.setIfInBounds_toArray, List.set_cons_zero, List.set_cons_succ])
            obtain ⟨y2, cap2, w6, hrun, ⟨hp6, hB6⟩, hN⟩ := HN.out w5 T5
            simp only [TSto] at hrun
            refine wpAnyH_ready (rs := [5]) (by kernel_rfl) (by simp) ?_
            refine AllReadyH.cons rfl (fun K hK => ?_) AllReadyH.nil
            go_simp
            refine hK.out _ _ (HSb.out _ hB6) (fun _ => ?_)
            clear hK K
            (try simp only [Act.put, List.setIfInBounds_toArray, List.set_cons_zero, List.set_cons_succ])
            have v6 : w6.cell? ⟨w.heap.size + 4, 0, none⟩ = some _ := cell_of hp6 0
            have g6 : w6.frozen? ⟨w.heap.size + 4, 0, none⟩ = false := free_of hp6 0
            refine wpAnyH_ready (rs := [6]) (by kernel_rfl) (by simp) ?_
            refine AllReadyH.cons rfl (fun K hK => ?_) AllReadyH.nil
            go_simp
            refine hK.out _ _ (HSb.out _ hB6) (fun _ => ?_)
            clear hK K
            (try simp only [Act.put, List.setIfInBounds_toArray, List.set_cons_zero, List.set_cons_succ])
            refine wpAnyH_ready (rs := [7]) (by kernel_rfl) (by simp) ?_
            refine AllReadyH.cons rfl (fun K hK => ?_) AllReadyH.nil
            go_simp
            refine hK.out _ _ (HSb.out _ hN.out.bx) (fun _ => ?_)
            clear hK K
            (try simp only [Act.put, List.setIfInBounds_toArray, List.set_cons_zero, List.set_cons_succ])
            refine wpAnyH_done (by kernel_rfl) ?_ _
            have hB7 := hN.out.bx
            have e6 := cell_of hB7 6
            have k9 := cell_of (touch_other hN.out.t b9 (by simp)) 0
            have p7 := cell_of hN.out.pg 1
            have f7 := free_of hN.out.pg 1
            simp only [List.getElem?_toArray, List.getElem?_cons_zero, List.getElem?_cons_succ] at e6 k9 p7
            clear v6 g6 hB7 hB6 hp6 hrun T5 t5 HN
            generalize w6.setCell ⟨w.heap.size + 4, 0, none⟩ (.slice y2 (kk + 1) cap2) = W7 at *
            gi_wp2_with (refine ⟨trivial, ?_⟩; gi_at_call 27; refine ((callsIn_wide.2 (CA.out _)).inRound l).mono ?_; rintro e w1 ⟨rfl, rfl⟩)
            exact pg_last hN.out HLE.out FY.out HK.out rfl (by omega) (by omega) hbl
          · go_simp
            go_at_call 19
            refine (CF.out _).mono ?_
            rintro e w5 ⟨rfl, t5⟩
            have T5 : Touch [] W w5 := ((Touch.refl [] W).drew).trans t5 (by simp)
            refine hK.out _ _ (HSb.out _ (touch_other T5 HBX.out (by simp))) (fun _ => ?_)
            clear hK K
            (try simp only [Act.put, List.setIfInBounds_toArray, List.set_cons_zero, List.set_cons_succ])
            have hvd : w5.cell? ⟨w.heap.size + 4, 0, none⟩ = some (.slice y kk cap) := T5.cell p0
            have HVA : Hid (∀ o : Obj, (w5.alloc o).cell? ⟨w.heap.size + 4, 0, none⟩ = some (.slice y kk cap)) := hid fun o => (T5.alloc o).cell p0
            refine wpAnyH_ready (rs := [1, 4]) (by kernel_rfl) (by simp) ?_
            refine AllReadyH.cons rfl (fun K hK => ?_) (AllReadyH.cons rfl (fun K hK => ?_) AllReadyH.nil)
            · go_simp
              refine hK.out _ _ (HSb.out _ (touch_other T5 HBX.out (by simp))) (fun _ => ?_)
              clear hK K hvd
              (try simp only [Act.put, List.setIfInBounds_toArray, List.set_cons_zero, List.set_cons_succ])
              refine wpAnyH_ready (rs := [4]) (by kernel_rfl) (by simp) ?_
              refine AllReadyH.cons rfl (fun K hK => ?_) AllReadyH.nil
              go_simp
              refine hK.out _ _ (HSb.out _ (heap_alloc_keep (touch_other T5 HBX.out (by simp)) _)) (fun _ => ?_)
              clear hK K
              (try simp only [Act.put, List.setIfInBounds_toArray, List.set_cons_zero, List.set_cons_succ])
              obtain ⟨y2, cap2, w6, hrun, ⟨hp6, hB6⟩, hN⟩ := HN.out w5 T5
              simp only [TSto] at hrun
              refine wpAnyH_ready (rs := [5]) (by kernel_rfl) (by simp) ?_
              refine AllReadyH.cons rfl (fun K hK => ?_) AllReadyH.nil
              go_simp
              refine hK.out _ _ (HSb.out _ hB6) (fun _ => ?_)
              clear hK K
              (try simp only [Act.put, List.setIfInBounds_toArray, List.set_cons_zero, List.set_cons_succ])
              have v6 : w6.cell? ⟨w.heap.size + 4, 0, none⟩ = some _ := cell_of hp6 0
              have g6 : w6.frozen? ⟨w.heap.size + 4, 0, none⟩ = false := free_of hp6 0
              refine wpAnyH_ready (rs := [6]) (by kernel_rfl) (by simp) ?_
              refine AllReadyH.cons rfl (fun K hK => ?_) AllReadyH.nil
              go_simp
              refine hK.out _ _ (HSb.out _ hB6) (fun _ => ?_)
              clear hK K
              (try simp only [Act.put, List.setIfInBounds_toArray, List.set_cons_zero, List.set_cons_succ])
              refine wpAnyH_ready (rs := [7]) (by kernel_rfl) (by simp) ?_
              refine AllReadyH.cons rfl (fun K hK => ?_) AllReadyH.nil
              go_simp
              refine hK.out _ _ (HSb.out _ hN.out.bx) (fun _ => ?_)
              clear hK K
              (try simp only [Act.put, List.setIfInBounds_toArray, List.set_cons_zero, List.set_cons_succ])
              refine wpAnyH_done (by kernel_rfl) ?_ _
              have hB7 := hN.out.bx
              have e6 := cell_of hB7 6
              have k9 := cell_of (touch_other hN.out.t b9 (by simp)) 0
              have p7 := cell_of hN.out.pg 1
              have f7 := free_of hN.out.pg 1
              simp only [List.getElem?_toArray, List.getElem?_cons_zero, List.getElem?_cons_succ] at e6 k9 p7
              clear v6 g6 hB7 hB6 hp6 hrun T5 t5 HN
              generalize w6.setCell ⟨w.heap.size + 4, 0, none⟩ (.slice y2 (kk + 1) cap2) = W7 at *
              gi_wp2_with (refine ⟨trivial, ?_⟩; gi_at_call 27; refine ((callsIn_wide.2 (CA.out _)).inRound l).mono ?_; rintro e w1 ⟨rfl, rfl⟩)
              exact pg_last hN.out HLE.out FY.out HK.out rfl (by omega) (by omega) hbl
            · go_simp
              refine hK.out _ _ (HSb.out _ (heap_alloc_keep (touch_other T5 HBX.out (by simp)) _)) (fun _ => ?_)
              clear hK K hvd
              (try simp only [Act.put, List.setIfInBounds_toArray, List.set_cons_zero, List.set_cons_succ])
              have hva := HVA.out
              refine wpAnyH_ready (rs := [1]) (by kernel_rfl) (by simp) ?_
              refine AllReadyH.cons rfl (fun K hK => ?_) AllReadyH.nil
              go_simp
              refine hK.out _ _ (HSb.out _ (heap_alloc_keep (touch_other T5 HBX.out (by simp)) _)) (fun _ => ?_)
              clear hK K hva
              (try simp only [Act.put, List.setIfInBounds_toArray, List.set_cons_zero, List.set_cons_succ])
              obtain ⟨y2, cap2, w6, hrun, ⟨hp6, hB6⟩, hN⟩ := HN.out w5 T5
              simp only [TSto] at hrun
              refine wpAnyH_ready (rs := [5]) (by kernel_rfl) (by simp) ?_
              refine AllReadyH.cons rfl (fun K hK => ?_) AllReadyH.nil
              go_simp
              refine hK.out _ _ (HSb.out _ hB6) (fun _ => ?_)
              clear hK K
              (try simp only [Act.put, List.setIfInBounds_toArray, List.set_cons_zero, List.set_cons_succ])
              have v6 : w6.cell? ⟨w.heap.size + 4, 0, none⟩ = some _ := cell_of hp6 0
              have g6 : w6.frozen? ⟨w.heap.size + 4, 0, none⟩ = false := free_of hp6 0
              refine wpAnyH_ready (rs := [6]) (by kernel_rfl) (by simp) ?_
              refine AllReadyH.cons rfl (fun K hK => ?_) AllReadyH.nil
              go_simp
              refine hK.out _ _ (HSb.out _ hB6) (fun _ => ?_)
              clear hK K
              (try simp only [Act.put, List.setIfInBounds_toArray, List.set_cons_zero, List.set_cons_succ])
              refine wpAnyH_ready (rs := [7]) (by kernel_rfl) (by simp) ?_
              refine AllReadyH.cons rfl (fun K hK => ?_) AllReadyH.nil
              go_simp
              refine hK.out _ _ (HSb.out _ hN.out.bx) (fun _ => ?_)
              clear hK K
              (try simp only [Act.put, List.setIfInBounds_toArray, List.set_cons_zero, List.set_cons_succ])
              refine wpAnyH_done (by kernel_rfl) ?_ _
              have hB7 := hN.out.bx
              have e6 := cell_of hB7 6
              have k9 := cell_of (touch_other hN.out.t b9 (by simp)) 0
              have p7 := cell_of hN.out.pg 1
              have f7 := free_of hN.out.pg 1
              simp only [List.getElem?_toArray, List.getElem?_cons_zero, List.getElem?_cons_succ] at e6 k9 p7
              clear v6 g6 hB7 hB6 hp6 hrun T5 t5 HN
              generalize w6.setCell ⟨w.heap.size + 4, 0, none⟩ (.slice y2 (kk + 1) cap2) = W7 at *
              gi_wp2_with (refine ⟨trivial, ?_⟩; gi_at_call 27; refine ((callsIn_wide.2 (CA.out _)).inRound l).mono ?_; rintro e w1 ⟨rfl, rfl⟩)
              exact pg_last hN.out HLE.out FY.out HK.out rfl (by omega) (by omega) hbl
    · have FN : Hid (flt (fwdP from_) (pre ++ [(xi, (⟨⟨s0, s1, s2, s3, s4, s5, s6, s7⟩, gd⟩ : SG))]) = flt (fwdP from_) pre) := hid (flt_no hps)
      rw [hps] at C1
      have HP := hid hp
      have HR := hid hrow
      have HT := hid ht
      have HL := hid hlen
      clear hps hp hrow ht hlen tW q7 q8 q9 hfb' hBx hvb hlt
      gi_wp2_with (refine ⟨trivial, ?_⟩; gi_at_call 24; refine ((callsIn_wide.2 C1.out).inRound l).mono ?_; rintro e w1 ⟨rfl, rfl⟩)
      exact ⟨KeepsFrom.refl _ _, KpP.refl _ _, by dsimp only; rw [FN.out]; exact ⟨⟨⟨_, HP.out, HR.out⟩, HT.out⟩, HL.out⟩⟩
  case done =>
    rintro D ys W hD rfl ⟨⟨⟨v, hp, hrow⟩, ht⟩, hlen⟩ hK
    have HS := hid (flt_done (gsU_val L hG) hlen)
    obtain ⟨y, cap, rfl, -, -⟩ := slice_form hrow
    have tW : Touch [] w W := t0.trans ht (by intro k hk; right; simp at hk; omega)
    have q10 : W.heap[w.heap.size + 3]? = _ := touch_other ht b10 (by simp)
    have HQ := hid q10
    have HP := hid hp
    have HR := hid hrow
    have HT := hid tW
    have HK := hid hK
    have HD := hid hD
    have z0 := cell_of q10 0
    have z1 := cell_of q10 1
    have z2 := cell_of q10 2
    have f0 := free_of q10 0
    have f1 := free_of q10 1
    have f2 := free_of q10 2
    have p0 := cell_of hp 0
    have p1 := cell_of hp 1
    have p2 := cell_of hp 2
    simp only [List.getElem?_toArray, List.getElem?_cons_zero, List.getElem?_cons_succ] at z0 z1 z2 p0 p1 p2
    clear hp hrow ht tW q10 hK hD
    gi_wp2
    rw [HS.out.1, HS.out.2]
    have hr := HR.out
    rw [List.length_map] at hr
    have hD := HD.out
    generalize (flt (fwdP from_) (gsU L hG)) = fl at *
    obtain ⟨W5, hW5⟩ : ∃ W5, W5 = ((W.setCell ⟨w.heap.size + 3, 0, none⟩ (.slice y fl.length cap)).setCell ⟨w.heap.size + 3, 1, none⟩ (.int .i64 (nxt aboveV from_ fl))).setCell ⟨w.heap.size + 3, 2, none⟩ (.bool true) := ⟨_, rfl⟩
    have A5 : W5.heap[w.heap.size + 3]? = some (.cells #[.slice y fl.length cap, .int .i64 (nxt aboveV from_ fl), .bool true] TPage (0, 0)) := by rw [hW5]; exact heap_set (heap_set (heap_set HQ.out _) _) _
    have D5 : W5.heap[D]? = some (.deferred (some [])) := by rw [hW5]; exact (heap_set_other _ (by simp; omega)).trans ((heap_set_other _ (by simp; omega)).trans ((heap_set_other _ (by simp; omega)).trans HK.out))
    have R5 : W5.ownsRow W0.heap.size TSto 8 (.slice y fl.length cap) fl.length (stoVals (fl.map canS)) := by
      rw [hW5]
      refine row_stays hr fun j hj => ?_
      obtain ⟨h1, -⟩ := row_lt hr hj
      exact (heap_set_other _ (by simp; omega)).trans ((heap_set_other _ (by simp; omega)).trans (heap_set_other _ (by simp; omega)))
    have T5 : Touch [] w W5 := by rw [hW5]; exact ((HT.out.setCell (.inr (by simp)) _).setCell (.inr (by simp)) _).setCell (.inr (by simp)) _
    rw [← hW5]
    clear hW5
    refine ⟨by simp, .inl ⟨_, _, rfl, run_takeDeferred D5, ?_⟩⟩
    have A6 : (W5.putObj D (.deferred none)).heap[w.heap.size + 3]? = _ := (World.putObj_heap_other (by omega)).trans A5
    have c0 := cell_of A6 0
    have c1 := cell_of A6 1
    have c2 := cell_of A6 2
    simp only [List.getElem?_toArray, List.getElem?_cons_zero, List.getElem?_cons_succ] at c0 c1 c2
    exact ⟨_, by simp [results, Try.results25, go_sem, c0, c1, c2], _, rfl, own_base (ownsRow_putObj R5 _ D5 rfl) (by omega), Touch.of_below ((T5.below (Nat.le_refl _) (by simp)).trans (belowK_b (w := w) (Nat.le_refl _) W5 D _ _ (by omega) D5 rfl rfl))⟩
  case stop =>
    rintro D cc pre W hD hpre ⟨rfl, ini, last, he, hps, hl, ⟨⟨v, hp, hrow⟩, ht⟩⟩ hK
    have HS := hid (flt_stop (gsU_val L hG) hpre he hps hl)
    obtain ⟨y, cap, rfl, -, -⟩ := slice_form hrow
    have tW : Touch [] w W := t0.trans ht (by intro k hk; right; simp at hk; omega)
    have q10 : W.heap[w.heap.size + 3]? = _ := touch_other ht b10 (by simp)
    have HQ := hid q10
    have HP := hid hp
    have HR := hid hrow
    have HT := hid tW
    have HK := hid hK
    have HD := hid hD
    have z0 := cell_of q10 0
    have z1 := cell_of q10 1
    have z2 := cell_of q10 2
    have f0 := free_of q10 0
    have f1 := free_of q10 1
    have f2 := free_of q10 2
    have p0 := cell_of hp 0
    have p1 := cell_of hp 1
    have p2 := cell_of hp 2
    simp only [List.getElem?_toArray, List.getElem?_cons_zero, List.getElem?_cons_succ] at z0 z1 z2 p0 p1 p2
    clear hp hrow ht tW q10 hK hD
    clear hpre he hps hl
    gi_wp2
    rw [HS.out.1, HS.out.2]
    have hr := HR.out
    rw [List.length_map] at hr
    have hD := HD.out
    generalize (flt (fwdP from_) ini) = fl at *
    obtain ⟨W5, hW5⟩ : ∃ W5, W5 = ((W.setCell ⟨w.heap.size + 3, 0, none⟩ (.slice y fl.length cap)).setCell ⟨w.heap.size + 3, 1, none⟩ (.int .i64 (nxt aboveV from_ fl))).setCell ⟨w.heap.size + 3, 2, none⟩ (.bool false) := ⟨_, rfl⟩
    have A5 : W5.heap[w.heap.size + 3]? = some (.cells #[.slice y fl.length cap, .int .i64 (nxt aboveV from_ fl), .bool false] TPage (0, 0)) := by rw [hW5]; exact heap_set (heap_set (heap_set HQ.out _) _) _
    have D5 : W5.heap[D]? = some (.deferred (some [])) := by rw [hW5]; exact (heap_set_other _ (by simp; omega)).trans ((heap_set_other _ (by simp; omega)).trans ((heap_set_other _ (by simp; omega)).trans HK.out))
    have R5 : W5.ownsRow W0.heap.size TSto 8 (.slice y fl.length cap) fl.length (stoVals (fl.map canS)) := by
      rw [hW5]
      refine row_stays hr fun j hj => ?_
      obtain ⟨h1, -⟩ := row_lt hr hj
      exact (heap_set_other _ (by simp; omega)).trans ((heap_set_other _ (by simp; omega)).trans (heap_set_other _ (by simp; omega)))
    have T5 : Touch [] w W5 := by rw [hW5]; exact ((HT.out.setCell (.inr (by simp)) _).setCell (.inr (by simp)) _).setCell (.inr (by simp)) _
    rw [← hW5]
    clear hW5
    refine ⟨by simp, .inl ⟨_, _, rfl, run_takeDeferred D5, ?_⟩⟩
    have A6 : (W5.putObj D (.deferred none)).heap[w.heap.size + 3]? = _ := (World.putObj_heap_other (by omega)).trans A5
    have c0 := cell_of A6 0
    have c1 := cell_of A6 1
    have c2 := cell_of A6 2
    simp only [List.getElem?_toArray, List.getElem?_cons_zero, List.getElem?_cons_succ] at c0 c1 c2
    exact ⟨_, by simp [results, Try.results25, go_sem, c0, c1, c2], _, rfl, own_base (ownsRow_putObj R5 _ D5 rfl) (by omega), Touch.of_below ((T5.below (Nat.le_refl _) (by simp)).trans (belowK_b (w := w) (Nat.le_refl _) W5 D _ _ (by omega) D5 rfl rfl))⟩
set_option maxHeartbeats 8000000 in
theorem pageB_any (from_ n : Int) (hf0 : 0 ≤ from_) (hn0 : 1 ≤ n) (hn1 : n ≤ 100) (fb b : Nat) (x : Option Addr) (c : Nat) (L : List StoD) (w : World) (hX : StoX w x L) (hG : ∀ s ∈ L, Good s) (nL : L.length ≤ 1000000)
    (hfb : w.cell? ⟨fb, 0, none⟩ = some (.int .i64 from_)) (hb : w.cell? ⟨b, 0, none⟩ = some (.slice x L.length c)) :
    Calls Try.prog 25 #[.func (.func 38) #[] #[.pointer (some ⟨b, 0, none⟩)], .int .i64 from_, .int .i64 n, .func (.func 28) #[] #[.pointer (some ⟨fb, 0, none⟩)], .func (.func 30) #[] #[]] w fun r w' =>
      ∃ v, r = .returned (.tuple #[.agg #[v, .int .i64 (nxt belowV from_ ((L.reverse.filter (bwdP from_)).take n.toNat)), .bool (decide ((L.reverse.filter (bwdP from_)).length ≤ n.toNat))], .int .i64 0]) ∧
        w'.ownsRow w.heap.size TSto 8 v ((L.reverse.filter (bwdP from_)).take n.toNat).length (stoVals (((L.reverse.filter (bwdP from_)).take n.toNat).map canS)) ∧ Touch [] w w' := by
  refine (callsIn_wide (n := 3)).1 ?_
  refine callsIn_of_wp_marks Try.func25 rfl trivial ?_ rfl
  simp only [Try.ntmps25, List.size_toArray, List.length_cons, List.length_nil, Nat.reduceAdd, Nat.reduceSub, Array.replicate_succ, Array.replicate_zero, List.push_toArray, List.append_toArray, List.nil_append, List.cons_append]
  have hd1 : decide (from_ < 0) = false := by rw [decide_eq_false_iff_not]; omega
  have hd2 : decide (n < 1) = false := by rw [decide_eq_false_iff_not]; omega
  have hd3 : decide (n > 100) = false := by rw [decide_eq_false_iff_not]; omega
  have hbl : b < w.heap.size := World.block_lt_of_cell? w _ hb
  have hfl : fb < w.heap.size := World.block_lt_of_cell? w _ hfb
  gi_upto_region 4 with fail
  obtain ⟨W0, hW0⟩ : ∃ W0, W0 = ((((w.alloc (.cells #[.int .i64 n] 3)).alloc (.cells #[.func (.func 28) #[] #[.pointer (some ⟨fb, 0, none⟩)]] 53)).alloc (.cells #[.func (.func 30) #[] #[]] 58)).alloc (.cells #[.slice none 0 0, .int .i64 0, .bool false] TPage)).alloc (.cells #[.slice none 0 0, .int .i64 from_, .bool true] TPage) := ⟨_, rfl⟩
  have t0 : Touch [] w W0 := by rw [hW0]; exact (((((Touch.refl [] w).alloc _).alloc _).alloc _).alloc _).alloc _
  have hsz : W0.heap.size = w.heap.size + 5 := by rw [hW0]; simp
  have b7 : W0.heap[w.heap.size]? = some (.cells #[.int .i64 n] 3 (0, 0)) := by rw [hW0]; exact heap_alloc_keep (heap_alloc_keep (heap_alloc_keep (heap_alloc_keep (heap_alloc_new w _) _) _) _) _
  have b8 : W0.heap[w.heap.size + 1]? = some (.cells #[.func (.func 28) #[] #[.pointer (some ⟨fb, 0, none⟩)]] 53 (0, 0)) := by
    rw [hW0]
    have := heap_alloc_keep (heap_alloc_keep (heap_alloc_keep (heap_alloc_new (w.alloc (.cells #[.int .i64 n] 3)) (.cells #[.func (.func 28) #[] #[.pointer (some ⟨fb, 0, none⟩)]] 53)) (.cells #[.func (.func 30) #[] #[]] 58)) (.cells #[.slice none 0 0, .int .i64 0, .bool false] TPage)) (.cells #[.slice none 0 0, .int .i64 from_, .bool true] TPage)
    rwa [World.size_alloc] at this
  have b9 : W0.heap[w.heap.size + 2]? = some (.cells #[.func (.func 30) #[] #[]] 58 (0, 0)) := by
    rw [hW0]
    have := heap_alloc_keep (heap_alloc_keep (heap_alloc_new ((w.alloc (.cells #[.int .i64 n] 3)).alloc (.cells #[.func (.func 28) #[] #[.pointer (some ⟨fb, 0, none⟩)]] 53)) (.cells #[.func (.func 30) #[] #[]] 58)) (.cells #[.slice none 0 0, .int .i64 0, .bool false] TPage)) (.cells #[.slice none 0 0, .int .i64 from_, .bool true] TPage)
    rwa [World.size_alloc, World.size_alloc] at this
  have b10 : W0.heap[w.heap.size + 3]? = some (.cells #[.slice none 0 0, .int .i64 0, .bool false] TPage (0, 0)) := by
    rw [hW0]
    have := heap_alloc_keep (heap_alloc_new (((w.alloc (.cells #[.int .i64 n] 3)).alloc (.cells #[.func (.func 28) #[] #[.pointer (some ⟨fb, 0, none⟩)]] 53)).alloc (.cells #[.func (.func 30) #[] #[]] 58)) (.cells #[.slice none 0 0, .int .i64 0, .bool false] TPage)) (.cells #[.slice none 0 0, .int .i64 from_, .bool true] TPage)
    rwa [World.size_alloc, World.size_alloc, World.size_alloc] at this
  have b12 : W0.heap[w.heap.size + 4]? = some (.cells #[.slice none 0 0, .int .i64 from_, .bool true] TPage (0, 0)) := by
    rw [hW0]
    have := heap_alloc_new ((((w.alloc (.cells #[.int .i64 n] 3)).alloc (.cells #[.func (.func 28) #[] #[.pointer (some ⟨fb, 0, none⟩)]] 53)).alloc (.cells #[.func (.func 30) #[] #[]] 58)).alloc (.cells #[.slice none 0 0, .int .i64 0, .bool false] TPage)) (.cells #[.slice none 0 0, .int .i64 from_, .bool true] TPage)
    rwa [World.size_alloc, World.size_alloc, World.size_alloc, World.size_alloc] at this
  simp only [TPage] at hW0
  rw [← hW0]
  clear hW0
  simp only [Nat.add_assoc, Nat.reduceAdd]
  gi_wp2
  refine wpIn_rangeFunc_ownH rfl (by decide) (gf := 38) (lb := #[.pointer (some ⟨b, 0, none⟩)]) rfl trivial (enters_of Try.func38 (by kernel_rfl) rfl)
    (bwd16_stops 2 b x c L w hX hG nL W0 t0 (t0.cell hb)) KpP.trans (fun W l o o' hl1 hl _ _ => KpP.putObj W l o o' hl (fun h => by have := prB_lt (m := W0.heap.size) h (by omega) (by omega); omega)) (Below.refl _ _) (fun _ => rfl)
    (fun pre W => PgI W0 (w.heap.size + 4) ((flt (bwdP from_) pre).map canS) (nxt belowV from_ (flt (bwdP from_) pre)) true W ∧ (flt (bwdP from_) pre).length ≤ n.toNat)
    (fun c pre W => c = .exit 0 ∧ ∃ ini last, pre = ini ++ [last] ∧ bwdP from_ last.2.1 = true ∧ (flt (bwdP from_) ini).length = n.toNat ∧ PgI W0 (w.heap.size + 4) ((flt (bwdP from_) ini).map canS) (nxt belowV from_ (flt (bwdP from_) ini)) false W)
    (OwnFrom.and (pgI_own W0 _ _ (fun pre => (flt (bwdP from_) pre).map canS) (fun pre => nxt belowV from_ (flt (bwdP from_) pre)) (fun _ => true) (Nat.le_refl _)) (ownFrom_pure _ (fun pre => (flt (bwdP from_) pre).length ≤ n.toNat)))
    (fun c s W W' row hs hg hr => by
      obtain ⟨h1, ini, last, h2, h3, h4, h5⟩ := hs
      exact ⟨h1, ini, last, h2, h3, h4, pgI_own W0 _ _ (fun _ : Unit => (flt (bwdP from_) ini).map canS) (fun _ => nxt belowV from_ (flt (bwdP from_) ini)) (fun _ => false) (Nat.le_refl _) () W W' row h5 hg hr⟩)
    ⟨⟨⟨_, b12, World.ownsRow_nil _ _ _ _⟩, Touch.refl _ _⟩, Nat.zero_le _⟩
    (fun x a' W => ∃ Bx v nx, W0.heap.size ≤ Bx ∧ W.heap[Bx]? = some (.cells #[.int .i64 x.2.1.id, .string x.2.1.typ, .string x.2.1.data, .float .f64 x.2.1.value, .string x.2.1.stream, .int .i64 x.2.1.version, .int .i64 x.2.1.position, .int .i64 x.2.1.time] TSto (0, 0)) ∧ PgB W (w.heap.size + 4) v nx true ∧ v.ownBlock ≠ some Bx ∧
      a' = { tmps := #[.func (.func 38) #[] #[.pointer (some ⟨b, 0, none⟩)], .int .i64 from_, .int .i64 n, .func (.func 28) #[] #[.pointer (some ⟨fb, 0, none⟩)], .func (.func 30) #[] #[], undef, undef, .pointer (some ⟨w.heap.size, 0, none⟩), .pointer (some ⟨w.heap.size + 1, 0, none⟩), .pointer (some ⟨w.heap.size + 2, 0, none⟩), .pointer (some ⟨w.heap.size + 3, 0, none⟩), .int .i64 0, .pointer (some ⟨w.heap.size + 4, 0, none⟩), undef, .pointer (some ⟨Bx, 0, none⟩), .int .i64 from_, .bool false, .bool false, .int .i64 n, .bool false, .bool false, .bool false, .int .i64 n, .bool false, .bool false, undef, .int .i64 from_, .agg #[.slice none 0 0, .int .i64 from_, .bool true], .func (.func 38) #[] #[.pointer (some ⟨b, 0, none⟩)], .int .i64 x.1, x.2.1.val, undef, undef, undef, undef, undef, undef, undef, undef, undef, undef, undef, undef, undef, undef, undef, undef, undef, undef, undef, undef, undef, undef, undef, undef], defers := [] })
    (fun x a' _ X Y row hs hg hr => by
      obtain ⟨Bx, v, nx, h1, h2, h3, h4, h5⟩ := hs
      have ne : ∀ (k : Nat) (cs : Array Value) (ty : TypeId) (fz : Nat × Nat), X.heap[k]? = some (.cells cs ty fz) → some k ≠ row := fun k cs ty fz hk e => by
        obtain ⟨_, o, ho, hc⟩ := hr k e.symm
        rw [hk] at ho
        cases ho
        cases hc
      exact ⟨Bx, v, nx, h1, (hg.block Bx (lt_of_block h2) (ne _ _ _ _ h2)).trans h2, (hg.block _ (lt_of_block h3) (ne _ _ _ _ h3)).trans h3, h4, h5⟩)
    ?assign ?body ?done ?stop
  case assign =>
    rintro l pre ⟨xi, ⟨⟨s0, s1, s2, s3, s4, s5, s6, s7⟩, gd⟩⟩ W K ⟨⟨⟨v, hp, hrow⟩, ht⟩, hlen⟩ hK
    have hsf := store_flt
    unfold encSI
    have hnew := heap_alloc_new W (.cells #[.int .i64 s0, .string s1, .string s2, .float .f64 s3, .string s4, .int .i64 s5, .int .i64 s6, .int .i64 s7] TSto)
    gi_wp2
    refine hK _ _ ((KeepsOthers.alloc _ _).from _) (KpP.of_touch ((Touch.refl [] W).alloc _) (by simp)) ⟨⟨⟨v, heap_alloc_keep hp _, hrow.alloc _⟩, ht.alloc _⟩, hlen⟩ ⟨W.heap.size, v, _, ht.size, hnew, heap_alloc_keep hp _, fun e => ?_, rfl⟩
    obtain ⟨_, cur, hk⟩ := row_lt hrow e
    exact absurd (lt_of_block hk) (Nat.lt_irrefl _)
  case body =>
    rintro l pre ⟨xi, ⟨⟨s0, s1, s2, s3, s4, s5, s6, s7⟩, gd⟩⟩ a' W hl hlr ⟨⟨⟨v, hp, hrow⟩, ht⟩, hlen⟩ ⟨Bx, v', nx', hBx0, hBx, hp', hvb, rfl⟩ hlt
    obtain rfl : v = v' := by
      unfold PgB at hp hp'
      rw [hp] at hp'
      simp at hp'
      exact hp'.1
    clear hp'
    dsimp only at hBx
    have tW : Touch [] w W := t0.trans ht (by intro k hk; right; simp at hk; omega)
    have q7 : W.heap[w.heap.size]? = _ := touch_other ht b7 (by simp)
    have q8 : W.heap[w.heap.size + 1]? = _ := touch_other ht b8 (by simp)
    have q9 : W.heap[w.heap.size + 2]? = _ := touch_other ht b9 (by simp)
    have k7 := cell_of q7 0
    have k8 := cell_of q8 0
    simp only [List.getElem?_toArray, List.getElem?_cons_zero] at k7 k8
    have hfb' := tW.cell hfb
    have C1 : Hid (Calls Try.prog 28 #[.int .i64 s6, .pointer (some ⟨fb, 0, none⟩)] W fun e w' => e = .returned (.bool (bwdP from_ ⟨s0, s1, s2, s3, s4, s5, s6, s7⟩)) ∧ W = w') := hid (bwd1_any from_ s6 fb W hfb')
    have p6 : W.cell? ⟨Bx, 6, none⟩ = some (.int .i64 s6) := cell_of hBx 6
    obtain ⟨y, cap, rfl, -, -⟩ := slice_form hrow
    have hNL : (flt (bwdP from_) pre).length ≤ 100 := by omega
    have hps : bwdP from_ ⟨s0, s1, s2, s3, s4, s5, s6, s7⟩ = true ∨ bwdP from_ ⟨s0, s1, s2, s3, s4, s5, s6, s7⟩ = false := by cases bwdP from_ ⟨s0, s1, s2, s3, s4, s5, s6, s7⟩ <;> simp
    rcases hps with hps | hps
    · by_cases hfull : (flt (bwdP from_) pre).length = n.toNat
      · have hq : (((((flt (bwdP from_) pre).map canS).length : Nat) : Int) == n) = true := by rw [List.length_map, hfull]; simp; omega
        rw [hps] at C1
        have HPS := hid hps
        have HF := hid hfull
        have HP := hid hp
        have HR := hid hrow
        have HT := hid ht
        have HL := hid hlen
        have p0 := cell_of hp 0
        have p2 := cell_of hp 2
        have f2 := free_of hp 2
        simp only [List.getElem?_toArray, List.getElem?_cons_zero, List.getElem?_cons_succ] at p0 p2
        clear hps hfull hp hrow ht hlen tW q7 q8 q9 hfb' hBx hvb hlt
        generalize hkk : ((flt (bwdP from_) pre).map canS).length = kk at *
        have HK := hid hkk
        clear hkk
        gi_wp2_with (refine ⟨trivial, ?_⟩; gi_at_call 28; refine ((callsIn_wide.2 C1.out).inRound l).mono ?_; rintro e w1 ⟨rfl, rfl⟩)
        refine ⟨(KeepsOthers.setCell _ _ _).from _, rfl, pre, _, rfl, HPS.out, HF.out, ⟨⟨_, heap_set HP.out _, ?_⟩, HT.out.setCell (.inl (by simp)) _⟩⟩
        rw [HK.out]
        refine row_stays HR.out fun k hk => heap_set_other _ ?_
        obtain ⟨h1, -⟩ := row_lt HR.out hk
        dsimp only
        omega
      · have hq : (((((flt (bwdP from_) pre).map canS).length : Nat) : Int) == n) = false := by rw [List.length_map, beq_eq_false_iff_ne]; omega
        rw [hps] at C1
        have FY : Hid (flt (bwdP from_) (pre ++ [(xi, (⟨⟨s0, s1, s2, s3, s4, s5, s6, s7⟩, gd⟩ : SG))]) = flt (bwdP from_) pre ++ [⟨s0, s1, s2, s3, s4, s5, s6, s7⟩]) := hid (flt_yes hps)
        have HN : Hid (∀ w5, Touch [] W w5 → _) := hid fun w5 t5 => pg_append W0 W w5 (w.heap.size + 4) Bx w.heap.size b _ _ _ (canS ⟨s0, s1, s2, s3, s4, s5, s6, s7⟩) _ hp hrow ht (by omega) (by omega) (by omega) (by omega) hBx hvb (by rw [List.length_map]; omega) t5
        have HLE : Hid ((flt (bwdP from_) pre).length + 1 ≤ n.toNat) := hid (by omega)
        have CF : Hid (∀ w, Calls Try.prog 19 #[(⟨s0, s1, s2, s3, s4, s5, s6, s7⟩ : StoD).val] w fun r w' => r = .returned (canS ⟨s0, s1, s2, s3, s4, s5, s6, s7⟩).val ∧ Touch [] w w') := hid fun w => fresh_any ⟨s0, s1, s2, s3, s4, s5, s6, s7⟩ (by have := gd.2.1; omega) (by have := gd.2.2.1; omega) (by have := gd.2.2.2; omega) w
        have HBX := hid hBx
        have CA : Hid (∀ w, Calls Try.prog 30 #[.int .i64 s6] w fun e w' => e = .returned (.int .i64 (belowV s6)) ∧ w = w') := hid fun w => below_any s6 gd.1.p0 gd.1.p1 w
        have HSb : Hid (∀ w' : World, w'.heap[Bx]? = some (.cells #[.int .i64 s0, .string s1, .string s2, .float .f64 s3, .string s4, .int .i64 s5, .int .i64 s6, .int .i64 s7] TSto (0, 0)) → w'.cell? ⟨Bx, 0, none⟩ = some (.int .i64 s0) ∧ w'.cell? ⟨Bx, 1, none⟩ = some (.string s1) ∧ w'.cell? ⟨Bx, 2, none⟩ = some (.string s2) ∧ w'.cell? ⟨Bx, 3, none⟩ = some (.float .f64 s3) ∧ w'.cell? ⟨Bx, 4, none⟩ = some (.string s4) ∧ w'.cell? ⟨Bx, 5, none⟩ = some (.int .i64 s5) ∧ w'.cell? ⟨Bx, 6, none⟩ = some (.int .i64 s6) ∧ w'.cell? ⟨Bx, 7, none⟩ = some (.int .i64 s7)) := hid fun w' h => ⟨cell_of h 0, cell_of h 1, cell_of h 2, cell_of h 3, cell_of h 4, cell_of h 5, cell_of h 6, cell_of h 7⟩
        have HP := hid hp
        have p0 := cell_of hp 0
        simp only [List.getElem?_toArray, List.getElem?_cons_zero] at p0
        clear hps hfull hp hrow ht hlen tW q7 q8 q9 hfb' hBx hvb hlt
        generalize hkk : ((flt (bwdP from_) pre).map canS).length = kk at *
        have HK := hid hkk
        clear hkk
        gi_upto_region 9 with (refine ⟨trivial, ?_⟩; gi_at_call 28; refine ((callsIn_wide.2 C1.out).inRound l).mono ?_; rintro e w1 ⟨rfl, rfl⟩)
        refine wpIn_round_held (S := fun w' => w'.cell? ⟨Bx, 0, none⟩ = some (.int .i64 s0) ∧ w'.cell? ⟨Bx, 1, none⟩ = some (.string s1) ∧ w'.cell? ⟨Bx, 2, none⟩ = some (.string s2) ∧ w'.cell? ⟨Bx, 3, none⟩ = some (.float .f64 s3) ∧ w'.cell? ⟨Bx, 4, none⟩ = some (.string s4) ∧ w'.cell? ⟨Bx, 5, none⟩ = some (.int .i64 s5) ∧ w'.cell? ⟨Bx, 6, none⟩ = some (.int .i64 s6) ∧ w'.cell? ⟨Bx, 7, none⟩ = some (.int .i64 s7)) (by kernel_rfl) ?nodef ?noout ?walk
        case nodef =>
          intro j o c hj
          match j, hj with
          | 0, hj | 1, hj | 2, hj | 3, hj | 4, hj | 5, hj | 6, hj | 7, hj => simp at hj; subst hj; simp
          | j + 8, hj => simp at hj
        case noout => exact fun ⟨_, _, h⟩ => h
        case walk =>
          have hS := HSb.out W.drew HBX.out
          refine wpAnyH_take (i := 0) (v := ?v0) rfl (by kernel_rfl) (by kernel_rfl) (by kernel_rfl) (fun _ _ _ h => h) (Or.inl ⟨by rfl, ?_⟩) hS ?_
          rotate_left
          · (intro w hSw; (try dsimp only at hSw); go_simp; try with_reducible rfl)
          try simp only [Act.put, List.setIfInBounds_toArray]
          refine wpAnyH_take (i := 2) (v := ?v2) rfl (by kernel_rfl) (by kernel_rfl) (by kernel_rfl) (fun _ _ _ h => h) (Or.inl ⟨by rfl, ?_⟩) hS ?_
          rotate_left
          · (intro w hSw; (try dsimp only at hSw); go_simp; try with_reducible rfl)
          try simp only [Act.put, List.setIfInBounds_toArray]
          refine wpAnyH_ready (rs := [1, 3]) (by kernel_rfl) (by simp) ?_
          refine AllReadyH.cons rfl (fun K hK => ?_) (AllReadyH.cons rfl (fun K hK => ?_) AllReadyH.nil)
          · have hvd : W.drew.cell? ⟨w.heap.size + 4, 0, none⟩ = some (.slice y kk cap) := p0
            go_simp
            refine hK.out _ _ hS (fun _ => ?_)
            clear hK K hvd
            (try simp only [Act.put, List.setIfInBounds_toArray, List.set_cons_zero, List.set_cons_succ])
            refine wpAnyH_ready (rs := [3]) (by kernel_rfl) (by simp) ?_
            refine AllReadyH.cons rfl (fun K hK => ?_) AllReadyH.nil
            go_simp
            go_at_call 19
            refine (CF.out _).mono ?_
            rintro e w5 ⟨rfl, t5⟩
            have T5 : Touch [] W w5 := ((Touch.refl [] W).drew).trans t5 (by simp)
            refine hK.out _ _ (HSb.out _ (touch_other T5 HBX.out (by simp))) (fun _ => ?_)
            clear hK K
            (try simp only [Act.put, List.setIfInBounds_toArray, List.set_cons_zero, List.set_cons_succ])
            refine wpAnyH_ready (rs := [4]) (by kernel_rfl) (by simp) ?_
            refine AllReadyH.cons rfl (fun K hK => ?_) AllReadyH.nil
            go_simp
            refine hK.out _ _ (HSb.out _ (heap_alloc_keep (touch_other T5 HBX.out (by simp)) _)) (fun _ => ?_)
            clear hK K
            (try simp only [Act.put, List.setIfInBounds_toArray, List.set_cons_zero, List.set_cons_succ])
            obtain ⟨y2, cap2, w6, hrun, ⟨hp6, hB6⟩, hN⟩ := HN.out w5 T5
            simp only [TSto] at hrun
            refine wpAnyH_ready (rs := [5]) (by kernel_rfl) (by simp) ?_
            refine AllReadyH.cons rfl (fun K hK => ?_) AllReadyH.nil
            go_simp
            refine hK.out _ _ (HSb.out _ hB6) (fun _ => ?_)
            clear hK K
            (try simp only [Act.put, List.setIfInBounds_toArray, List.set_cons_zero, List.set_cons_succ])
            have v6 : w6.cell? ⟨w.heap.size + 4, 0, none⟩ = some _ := cell_of hp6 0
            have g6 : w6.frozen? ⟨w.heap.size + 4, 0, none⟩ = false := free_of hp6 0
            refine wpAnyH_ready (rs := [6]) (by kernel_rfl) (by simp) ?_
            refine AllReadyH.cons rfl (fun K hK => ?_) AllReadyH.nil
            go_simp
            refine hK.out _ _ (HSb.out _ hB6) (fun _ => ?_)
            clear hK K
            (try simp only [Act.put, List.setIfInBounds_toArray, List.set_cons_zero, List.set_cons_succ])
            refine wpAnyH_ready (rs := [7]) (by kernel_rfl) (by simp) ?_
            refine AllReadyH.cons rfl (fun K hK => ?_) AllReadyH.nil
            go_simp
            refine hK.out _ _ (HSb.out _ hN.out.bx) (fun _ => ?_)
            clear hK K
            (try simp only [Act.put, List.setIfInBounds_toArray, List.set_cons_zero, List.set_cons_succ])
            refine wpAnyH_done (by kernel_rfl) ?_ _
            have hB7 := hN.out.bx
            have e6 := cell_of hB7 6
            have k9 := cell_of (touch_other hN.out.t b9 (by simp)) 0
            have p7 := cell_of hN.out.pg 1
            have f7 := free_of hN.out.pg 1
            simp only [List.getElem?_toArray, List.getElem?_cons_zero, List.getElem?_cons_succ] at e6 k9 p7
            clear v6 g6 hB7 hB6 hp6 hrun T5 t5 HN
            generalize w6.setCell ⟨w.heap.size + 4, 0, none⟩ (.slice y2 (kk + 1) cap2) = W7 at *
            gi_wp2_with (refine ⟨trivial, ?_⟩; gi_at_call 30; refine ((callsIn_wide.2 (CA.out _)).inRound l).mono ?_; rintro e w1 ⟨rfl, rfl⟩)
            exact pg_last hN.out HLE.out FY.out HK.out rfl (by omega) (by omega) hbl
          · go_simp
            go_at_call 19
            refine (CF.out _).mono ?_
            rintro e w5 ⟨rfl, t5⟩
            have T5 : Touch [] W w5 := ((Touch.refl [] W).drew).trans t5 (by simp)
            refine hK.out _ _ (HSb.out _ (touch_other T5 HBX.out (by simp))) (fun _ => ?_)
            clear hK K
            (try simp only [Act.put, List.setIfInBounds_toArray, List.set_cons_zero, List.set_cons_succ])
            have hvd : w5.cell? ⟨w.heap.size + 4, 0, none⟩ = some (.slice y kk cap) := T5.cell p0
            have HVA : Hid (∀ o : Obj, (w5.alloc o).cell? ⟨w.heap.size + 4, 0, none⟩ = some (.slice y kk cap)) := hid fun o => (T5.alloc o).cell p0
            refine wpAnyH_ready (rs := [1, 4]) (by kernel_rfl) (by simp) ?_
            refine AllReadyH.cons rfl (fun K hK => ?_) (AllReadyH.cons rfl (fun K hK => ?_) AllReadyH.nil)
            · go_simp
              refine hK.out _ _ (HSb.out _ (touch_other T5 HBX.out (by simp))) (fun _ => ?_)
              clear hK K hvd
              (try simp only [Act.put, List.setIfInBounds_toArray, List.set_cons_zero, List.set_cons_succ])
              refine wpAnyH_ready (rs := [4]) (by kernel_rfl) (by simp) ?_
              refine AllReadyH.cons rfl (fun K hK => ?_) AllReadyH.nil
              go_simp
              refine hK.out _ _ (HSb.out _ (heap_alloc_keep (touch_other T5 HBX.out (by simp)) _)) (fun _ => ?_)
              clear hK K
              (try simp only [Act.put, List.setIfInBounds_toArray, List.set_cons_zero, List.set_cons_succ])
              obtain ⟨y2, cap2, w6, hrun, ⟨hp6, hB6⟩, hN⟩ := HN.out w5 T5
              simp only [TSto] at hrun
              refine wpAnyH_ready (rs := [5]) (by kernel_rfl) (by simp) ?_
              refine AllReadyH.cons rfl (fun K hK => ?_) AllReadyH.nil
              go_simp
              refine hK.out _ _ (HSb.out _ hB6) (fun _ => ?_)
              clear hK K
              (try simp only [Act.put, List.setIfInBounds_toArray, List.set_cons_zero, List.set_cons_succ])
              have v6 : w6.cell? ⟨w.heap.size + 4, 0, none⟩ = some _ := cell_of hp6 0
              have g6 : w6.frozen? ⟨w.heap.size + 4, 0, none⟩ = false := free_of hp6 0
              refine wpAnyH_ready (rs := [6]) (by kernel_rfl) (by simp) ?_
              refine AllReadyH.cons rfl (fun K hK => ?_) AllReadyH.nil
              go_simp
              refine hK.out _ _ (HSb.out _ hB6) (fun _ => ?_)
              clear hK K
              (try simp only [Act.put, List.setIfInBounds_toArray, List.set_cons_zero, List.set_cons_succ])
              refine wpAnyH_ready (rs := [7]) (by kernel_rfl) (by simp) ?_
              refine AllReadyH.cons rfl (fun K hK => ?_) AllReadyH.nil
              go_simp
              refine hK.out _ _ (HSb.out _ hN.out.bx) (fun _ => ?_)
              clear hK K
              (try simp only [Act.put, List.setIfInBounds_toArray, List.set_cons_zero, List.set_cons_succ])
              refine wpAnyH_done (by kernel_rfl) ?_ _
              have hB7 := hN.out.bx
              have e6 := cell_of hB7 6
              have k9 := cell_of (touch_other hN.out.t b9 (by simp)) 0
              have p7 := cell_of hN.out.pg 1
              have f7 := free_of hN.out.pg 1
              simp only [List.getElem?_toArray, List.getElem?_cons_zero, List.getElem?_cons_succ] at e6 k9 p7
              clear v6 g6 hB7 hB6 hp6 hrun T5 t5 HN
              generalize w6.setCell ⟨w.heap.size + 4, 0, none⟩ (.slice y2 (kk + 1) cap2) = W7 at *
              gi_wp2_with (refine ⟨trivial, ?_⟩; gi_at_call 30; refine ((callsIn_wide.2 (CA.out _)).inRound l).mono ?_; rintro e w1 ⟨rfl, rfl⟩)
              exact pg_last hN.out HLE.out FY.out HK.out rfl (by omega) (by omega) hbl
            · go_simp
              refine hK.out _ _ (HSb.out _ (heap_alloc_keep (touch_other T5 HBX.out (by simp)) _)) (fun _ => ?_)
              clear hK K hvd
              (try simp only [Act.put, List.setIfInBounds_toArray, List.set_cons_zero, List.set_cons_succ])
              have hva := HVA.out
              refine wpAnyH_ready (rs := [1]) (by kernel_rfl) (by simp) ?_
              refine AllReadyH.cons rfl (fun K hK => ?_) AllReadyH.nil
              go_simp
              refine hK.out _ _ (HSb.out _ (heap_alloc_keep (touch_other T5 HBX.out (by simp)) _)) (fun _ => ?_)
              clear hK K hva
              (try simp only [Act.put, List.setIfInBounds_toArray, List.set_cons_zero, List.set_cons_succ])
              obtain ⟨y2, cap2, w6, hrun, ⟨hp6, hB6⟩, hN⟩ := HN.out w5 T5
              simp only [TSto] at hrun
              refine wpAnyH_ready (rs := [5]) (by kernel_rfl) (by simp) ?_
              refine AllReadyH.cons rfl (fun K hK => ?_) AllReadyH.nil
              go_simp
              refine hK.out _ _ (HSb.out _ hB6) (fun _ => ?_)
              clear hK K
              (try simp only [Act.put, List.setIfInBounds_toArray, List.set_cons_zero, List.set_cons_succ])
              have v6 : w6.cell? ⟨w.heap.size + 4, 0, none⟩ = some _ := cell_of hp6 0
              have g6 : w6.frozen? ⟨w.heap.size + 4, 0, none⟩ = false := free_of hp6 0
              refine wpAnyH_ready (rs := [6]) (by kernel_rfl) (by simp) ?_
              refine AllReadyH.cons rfl (fun K hK => ?_) AllReadyH.nil
              go_simp
              refine hK.out _ _ (HSb.out _ hB6) (fun _ => ?_)
              clear hK K
              (try simp only [Act.put, List.setIfInBounds_toArray, List.set_cons_zero, List.set_cons_succ])
              refine wpAnyH_ready (rs := [7]) (by kernel_rfl) (by simp) ?_
              refine AllReadyH.cons rfl (fun K hK => ?_) AllReadyH.nil
              go_simp
              refine hK.out _ _ (HSb.out _ hN.out.bx) (fun _ => ?_)
              clear hK K
              (try simp only [Act.put, List.setIfInBounds_toArray, List.set_cons_zero, List.set_cons_succ])
              refine wpAnyH_done (by kernel_rfl) ?_ _
              have hB7 := hN.out.bx
              have e6 := cell_of hB7 6
              have k9 := cell_of (touch_other hN.out.t b9 (by simp)) 0
              have p7 := cell_of hN.out.pg 1
              have f7 := free_of hN.out.pg 1
              simp only [List.getElem?_toArray, List.getElem?_cons_zero, List.getElem?_cons_succ] at e6 k9 p7
              clear v6 g6 hB7 hB6 hp6 hrun T5 t5 HN
              generalize w6.setCell ⟨w.heap.size + 4, 0, none⟩ (.slice y2 (kk + 1) cap2) = W7 at *
              gi_wp2_with (refine ⟨trivial, ?_⟩; gi_at_call 30; refine ((callsIn_wide.2 (CA.out _)).inRound l).mono ?_; rintro e w1 ⟨rfl, rfl⟩)
              exact pg_last hN.out HLE.out FY.out HK.out rfl (by omega) (by omega) hbl
    · have FN : Hid (flt (bwdP from_) (pre ++ [(xi, (⟨⟨s0, s1, s2, s3, s4, s5, s6, s7⟩, gd⟩ : SG))]) = flt (bwdP from_) pre) := hid (flt_no hps)
      rw [hps] at C1
      have HP := hid hp
      have HR := hid hrow
      have HT := hid ht
      have HL := hid hlen
      clear hps hp hrow ht hlen tW q7 q8 q9 hfb' hBx hvb hlt
      gi_wp2_with (refine ⟨trivial, ?_⟩; gi_at_call 28; refine ((callsIn_wide.2 C1.out).inRound l).mono ?_; rintro e w1 ⟨rfl, rfl⟩)
      exact ⟨KeepsFrom.refl _ _, KpP.refl _ _, by dsimp only; rw [FN.out]; exact ⟨⟨⟨_, HP.out, HR.out⟩, HT.out⟩, HL.out⟩⟩
  case done =>
    rintro D ys W hD rfl ⟨⟨⟨v, hp, hrow⟩, ht⟩, hlen⟩ hK
    have HS := hid (flt_done (gsD_val L hG) hlen)
    obtain ⟨y, cap, rfl, -, -⟩ := slice_form hrow
    have tW : Touch [] w W := t0.trans ht (by intro k hk; right; simp at hk; omega)
    have q10 : W.heap[w.heap.size + 3]? = _ := touch_other ht b10 (by simp)
    have HQ := hid q10
    have HP := hid hp
    have HR := hid hrow
    have HT := hid tW
    have HK := hid hK
    have HD := hid hD
    have z0 := cell_of q10 0
    have z1 := cell_of q10 1
    have z2 := cell_of q10 2
    have f0 := free_of q10 0
    have f1 := free_of q10 1
    have f2 := free_of q10 2
    have p0 := cell_of hp 0
    have p1 := cell_of hp 1
    have p2 := cell_of hp 2
    simp only [List.getElem?_toArray, List.getElem?_cons_zero, List.getElem?_cons_succ] at z0 z1 z2 p0 p1 p2
    clear hp hrow ht tW q10 hK hD
    gi_wp2
    rw [HS.out.1, HS.out.2]
    have hr := HR.out
    rw [List.length_map] at hr
    have hD := HD.out
    generalize (flt (bwdP from_) ((gsU L hG).reverse)) = fl at *
    obtain ⟨W5, hW5⟩ : ∃ W5, W5 = ((W.setCell ⟨w.heap.size + 3, 0, none⟩ (.slice y fl.length cap)).setCell ⟨w.heap.size + 3, 1, none⟩ (.int .i64 (nxt belowV from_ fl))).setCell ⟨w.heap.size + 3, 2, none⟩ (.bool true) := ⟨_, rfl⟩
    have A5 : W5.heap[w.heap.size + 3]? = some (.cells #[.slice y fl.length cap, .int .i64 (nxt belowV from_ fl), .bool true] TPage (0, 0)) := by rw [hW5]; exact heap_set (heap_set (heap_set HQ.out _) _) _
    have D5 : W5.heap[D]? = some (.deferred (some [])) := by rw [hW5]; exact (heap_set_other _ (by simp; omega)).trans ((heap_set_other _ (by simp; omega)).trans ((heap_set_other _ (by simp; omega)).trans HK.out))
    have R5 : W5.ownsRow W0.heap.size TSto 8 (.slice y fl.length cap) fl.length (stoVals (fl.map canS)) := by
      rw [hW5]
      refine row_stays hr fun j hj => ?_
      obtain ⟨h1, -⟩ := row_lt hr hj
      exact (heap_set_other _ (by simp; omega)).trans ((heap_set_other _ (by simp; omega)).trans (heap_set_other _ (by simp; omega)))
    have T5 : Touch [] w W5 := by rw [hW5]; exact ((HT.out.setCell (.inr (by simp)) _).setCell (.inr (by simp)) _).setCell (.inr (by simp)) _
    rw [← hW5]
    clear hW5
    refine ⟨by simp, .inl ⟨_, _, rfl, run_takeDeferred D5, ?_⟩⟩
    have A6 : (W5.putObj D (.deferred none)).heap[w.heap.size + 3]? = _ := (World.putObj_heap_other (by omega)).trans A5
    have c0 := cell_of A6 0
    have c1 := cell_of A6 1
    have c2 := cell_of A6 2
    simp only [List.getElem?_toArray, List.getElem?_cons_zero, List.getElem?_cons_succ] at c0 c1 c2
    exact ⟨_, by simp [results, Try.results25, go_sem, c0, c1, c2], _, rfl, own_base (ownsRow_putObj R5 _ D5 rfl) (by omega), Touch.of_below ((T5.below (Nat.le_refl _) (by simp)).trans (belowK_b (w := w) (Nat.le_refl _) W5 D _ _ (by omega) D5 rfl rfl))⟩
  case stop =>
    rintro D cc pre W hD hpre ⟨rfl, ini, last, he, hps, hl, ⟨⟨v, hp, hrow⟩, ht⟩⟩ hK
    have HS := hid (flt_stop (gsD_val L hG) hpre he hps hl)
    obtain ⟨y, cap, rfl, -, -⟩ := slice_form hrow
    have tW : Touch [] w W := t0.trans ht (by intro k hk; right; simp at hk; omega)
    have q10 : W.heap[w.heap.size + 3]? = _ := touch_other ht b10 (by simp)
    have HQ := hid q10
    have HP := hid hp
    have HR := hid hrow
    have HT := hid tW
    have HK := hid hK
    have HD := hid hD
    have z0 := cell_of q10 0
    have z1 := cell_of q10 1
    have z2 := cell_of q10 2
    have f0 := free_of q10 0
    have f1 := free_of q10 1
    have f2 := free_of q10 2
    have p0 := cell_of hp 0
    have p1 := cell_of hp 1
    have p2 := cell_of hp 2
    simp only [List.getElem?_toArray, List.getElem?_cons_zero, List.getElem?_cons_succ] at z0 z1 z2 p0 p1 p2
    clear hp hrow ht tW q10 hK hD
    clear hpre he hps hl
    gi_wp2
    rw [HS.out.1, HS.out.2]
    have hr := HR.out
    rw [List.length_map] at hr
    have hD := HD.out
    generalize (flt (bwdP from_) ini) = fl at *
    obtain ⟨W5, hW5⟩ : ∃ W5, W5 = ((W.setCell ⟨w.heap.size + 3, 0, none⟩ (.slice y fl.length cap)).setCell ⟨w.heap.size + 3, 1, none⟩ (.int .i64 (nxt belowV from_ fl))).setCell ⟨w.heap.size + 3, 2, none⟩ (.bool false) := ⟨_, rfl⟩
    have A5 : W5.heap[w.heap.size + 3]? = some (.cells #[.slice y fl.length cap, .int .i64 (nxt belowV from_ fl), .bool false] TPage (0, 0)) := by rw [hW5]; exact heap_set (heap_set (heap_set HQ.out _) _) _
    have D5 : W5.heap[D]? = some (.deferred (some [])) := by rw [hW5]; exact (heap_set_other _ (by simp; omega)).trans ((heap_set_other _ (by simp; omega)).trans ((heap_set_other _ (by simp; omega)).trans HK.out))
    have R5 : W5.ownsRow W0.heap.size TSto 8 (.slice y fl.length cap) fl.length (stoVals (fl.map canS)) := by
      rw [hW5]
      refine row_stays hr fun j hj => ?_
      obtain ⟨h1, -⟩ := row_lt hr hj
      exact (heap_set_other _ (by simp; omega)).trans ((heap_set_other _ (by simp; omega)).trans (heap_set_other _ (by simp; omega)))
    have T5 : Touch [] w W5 := by rw [hW5]; exact ((HT.out.setCell (.inr (by simp)) _).setCell (.inr (by simp)) _).setCell (.inr (by simp)) _
    rw [← hW5]
    clear hW5
    refine ⟨by simp, .inl ⟨_, _, rfl, run_takeDeferred D5, ?_⟩⟩
    have A6 : (W5.putObj D (.deferred none)).heap[w.heap.size + 3]? = _ := (World.putObj_heap_other (by omega)).trans A5
    have c0 := cell_of A6 0
    have c1 := cell_of A6 1
    have c2 := cell_of A6 2
    simp only [List.getElem?_toArray, List.getElem?_cons_zero, List.getElem?_cons_succ] at c0 c1 c2
    exact ⟨_, by simp [results, Try.results25, go_sem, c0, c1, c2], _, rfl, own_base (ownsRow_putObj R5 _ D5 rfl) (by omega), Touch.of_below ((T5.below (Nat.le_refl _) (by simp)).trans (belowK_b (w := w) (Nat.le_refl _) W5 D _ _ (by omega) D5 rfl rfl))⟩
end Go.Proofs.Ytmgglmoiepjebaa
