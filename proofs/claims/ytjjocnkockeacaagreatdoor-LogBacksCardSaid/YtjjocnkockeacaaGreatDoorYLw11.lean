/- write: a record into the last chunk, or the next one. -/
import Derived.Test.YtjjocnkockeacaaGreatDoorYLr11
import Derived.Deep.RegionHeld3
namespace Go.Proofs.YtjjocnkockeacaaGreatDoor
open Go.RowKit Go.Lib
set_option maxRecDepth 100000

theorem infoPart : (Tryz.prog.info? tPart).map (fun i => (i.zero, i.size, i.bytes)) = some (some (.agg #[.int .i64 0, .int .i64 0]), 2, 16) := by kernel_rfl
theorem partVals_one (l : List (Nat × Nat)) : ∀ u ∈ partVals l, u.oneCell' = true := by
  intro u hu
  obtain ⟨p, _, h⟩ := List.mem_flatMap.1 hu
  simp at h
  rcases h with rfl | rfl <;> rfl
theorem clone_pt_some (b c n : Nat) (xs : List Value) (w : World) (hl : xs.length = n * 2) (hn : n ≤ 1000000) (hc : ∀ j u, xs[j]? = some u → w.cell? ((⟨b, 0, none⟩ : Addr).add j) = some u) (h1 : ∀ u ∈ xs, u.oneCell' = true) :
    Calls Tryz.prog 82 #[.slice (some ⟨b, 0, none⟩) n c] w fun e w' => ∃ v', e = .returned v' ∧ w'.ownsRow w.heap.size tPart 2 v' n xs ∧ Touch [] w w' := by
  have q22 : ∀ (w : World) (a : Option Addr) (n c n' c' : Nat), (binOp .eql 25 (.slice a n c) (.slice none n' c')).run Tryz.prog w = .ok (.bool a.isNone) w := fun w a n c n' c' => Lib.run_eql_slice_nil w _ _ a n c n' c' rfl
  have A := hid hc
  clear hc
  go_enter Tryz.func82, Tryz.ntmps82
  go_wp2_with (at_builtin; refine wpList_append_own _ rfl _ _ 25 rfl w.heap.size tPart _ (.agg #[.int .i64 0, .int .i64 0]) 2 16 rfl rfl rfl rfl rfl rfl (by omega) _ _ _ rfl (World.ownsRow_made w #[] 0 (Nat.le_refl _) (Nat.zero_le _) (by simp)) ⟨b, 0, none⟩ n c xs rfl ?qc1 ?qc2 ?qc3 ?qc4 ?qc5 ?qc6 ?_)
  case qc1 => exact hl
  case qc2 =>
    intro j u hj
    exact Lib.cell?_alloc_some _ (A.out j u hj)
  case qc3 => exact h1
  case qc4 => rw [Nat.zero_add]; unfold maxLen; omega
  case qc5 => rw [Nat.zero_add]; omega
  case qc6 => simp
  intro v' w1 hown hgrow hnil
  go_wp2
  go_ret
  refine ⟨v', rfl, by simpa using hown, ?_⟩
  exact ((Touch.refl [] w).alloc _).grown hgrow (by intro k hk; simp [Value.ownBlock] at hk; exact .inr (by omega))
theorem clone_pt_nil (w : World) :
    Calls Tryz.prog 82 #[.slice none 0 0] w fun e w' => e = .returned (.slice none 0 0) ∧ w' = w := by
  have q22 : ∀ (w : World) (a : Option Addr) (n c n' c' : Nat), (binOp .eql 25 (.slice a n c) (.slice none n' c')).run Tryz.prog w = .ok (.bool a.isNone) w := fun w a n c n' c' => Lib.run_eql_slice_nil w _ _ a n c n' c' rfl
  go_enter Tryz.func82, Tryz.ntmps82
  go_wp2
  go_ret
  exact ⟨rfl, rfl⟩
/-- A copy of the parts: its row, written out. -/
theorem clone_pt {base n : Nat} {v : Value} {l : List (Nat × Nat)} {w : World} (h : w.ownsRow base tPart 2 v n (partVals l)) (hn : n ≤ 1000000) :
    Calls Tryz.prog 82 #[v] w fun e w' => ∃ x c, e = .returned (.slice x n c) ∧ w'.ownsRow w.heap.size tPart 2 (.slice x n c) n (partVals l) ∧ Touch [] w w' := by
  rcases h.2 with ⟨rfl, rfl⟩ | ⟨g, cap, cur, rfl, hb, hh, r⟩
  · refine (clone_pt_nil w).mono ?_
    rintro e w' ⟨rfl, rfl⟩
    have : partVals l = [] := List.eq_nil_of_length_eq_zero (by have := h.1; omega)
    rw [this]
    exact ⟨none, 0, rfl, World.ownsRow_nil _ _ _ _, Touch.refl _ _⟩
  · refine (clone_pt_some g cap n _ w h.1 hn (h.cells rfl) (partVals_one l)).mono ?_
    rintro e w' ⟨v', rfl, ho, t⟩
    have hf : ∃ y c, v' = .slice y n c := by
      rcases ho.2 with ⟨rfl, h0⟩ | ⟨g, cap, cur, rfl, _⟩
      · exact ⟨none, 0, by rw [h0]⟩
      · exact ⟨_, cap, rfl⟩
    obtain ⟨y, c, rfl⟩ := hf
    exact ⟨y, c, rfl, ho, t⟩
theorem LD.back {O O' : List Nat} {W w1 w : World} {d b : Nat} {k : Dk} {S : Lg} (h : LD O' w1 w d k b S) (hO : ∀ i ∈ O', i ∈ O ∨ W.heap.size ≤ i) (hT : Touch O W w1) : LD O W w d k b S := by
  obtain ⟨rv, kv, L, pv, lv, own, h1, h2, h3, h4, h5⟩ := h
  refine ⟨rv, kv, L, pv, lv, own, h1, h2, fun i hi => ?_, fun i hi => ?_, hT.trans h5 hO⟩
  · rcases h3 i hi with h | h
    · exact hO i h
    · exact .inr (Nat.le_trans hT.size h)
  · rcases h4 i hi with h | h
    · exact hO i h
    · exact .inr (Nat.le_trans hT.size h)
/-- The parts put into the log's block: their row was made between w and w1, the disk was turned since. -/
theorem LDIs.parted {O O' : List Nat} {W w w1 w3 w4 : World} {d b g : Nat} {k : Dk} {S S' : Lg} {rv kv : Value} {L : List Px} {pv lv pv' : Value} {own : List Nat} (H : LDIs O' w1 w3 d k b S rv kv L pv lv own)
    (hO : ∀ i ∈ O', (i ∈ O ∨ W.heap.size ≤ i) ∧ i < w.heap.size) (hT : Touch O W w1) (hw : W.heap.size ≤ w.heap.size) (hg : w.heap.size ≤ g) (hg1 : g < w1.heap.size) (t4 : Touch [g, b] w3 w4)
    (hb : w4.heap[b]? = some (.cells (lgCells d S' pv' lv) tLog (0, 0))) (hr : w4.ownsRow 0 tPart 2 pv' S'.parts.length (partVals S'.parts)) (hpv : pv'.ownBlock = some g) (hbod : S'.bodies = S.bodies) : LD O W w4 d k b S' := by
  have hng : ∀ i, (i ∈ O' ∨ w1.heap.size ≤ i) → i ≠ g := by
    rintro i (h | h) rfl
    · exact Nat.lt_irrefl _ (Nat.lt_of_lt_of_le (hO _ h).2 hg)
    · omega
  have conv : ∀ i, (i ∈ O' ∨ w1.heap.size ≤ i) → i ∈ O ∨ W.heap.size ≤ i := by
    rintro i (h | h)
    · exact (hO i h).1
    · exact .inr (Nat.le_trans hT.size h)
  have hbl : b ∈ lgOwn b pv own := by simp [lgOwn]
  have hbo := H.lown b hbl
  refine ⟨rv, kv, L, pv', lv, own, H.disk.touch t4 ?_, ⟨hb, hr, ?_⟩, fun i hi => conv i (H.down i hi), ?_, ?_⟩
  · intro i hi hm
    rcases List.mem_cons.1 hm with rfl | hm
    · exact hng _ (H.down _ hi) rfl
    · obtain rfl : i = b := by simpa using hm
      exact types_apart (H.log.types _ hbl) (H.disk.types _ hi)
  · rw [hbod]
    refine H.log.list.touch t4 fun i hi hm => ?_
    have hl : i ∈ lgOwn b pv own := by simp [lgOwn, hi]
    rcases List.mem_cons.1 hm with rfl | hm
    · exact hng _ (H.lown _ hl) rfl
    · obtain rfl : i = b := by simpa using hm
      rcases H.log.list with ⟨_, _, rfl⟩ | ⟨p, v, _, h2, h3, rfl⟩
      · simp at hi
      · rcases List.mem_cons.1 hi with rfl | hi
        · exact ne_type H.log.cells h2 (by decide) rfl
        · obtain ⟨cs, ty, fz, h4, h5⟩ := row_type h3 (ts := [tStg]) (by simp) _ hi
          obtain rfl : ty = tStg := by simpa using h5
          rw [H.log.cells] at h4
          simp only [Option.some.injEq, Obj.cells.injEq] at h4
          exact absurd h4.2.1 (by decide)
  · intro i hi
    simp only [lgOwn, hpv, List.mem_cons, List.mem_append, Option.toList_some, List.not_mem_nil, or_false] at hi
    rcases hi with rfl | rfl | hi
    · exact conv _ hbo
    · exact .inr (Nat.le_trans hw hg)
    · exact conv i (H.lown i (by simp [lgOwn, hi]))
  · refine (hT.trans H.t fun i hi => conv i (.inl hi)).trans t4 fun i hi => ?_
    rcases List.mem_cons.1 hi with rfl | hi
    · exact .inr (Nat.le_trans hw hg)
    · obtain rfl : i = b := by simpa using hi
      exact conv _ hbo
theorem ld_c0 {O : List Nat} {W w : World} {d b : Nat} {k : Dk} {S : Lg} (h : LD O W w d k b S) : w.cell? ⟨b, 0, none⟩ = some (.pointer (some ⟨d, 0, none⟩)) := by
  obtain ⟨rv, kv, L, pv, lv, own, H⟩ := h
  exact (lg_cell H.log.cells).1
theorem file_ld {O : List Nat} {W w : World} {d b : Nat} {k : Dk} {S : Lg} (h : LD O W w d k b S) (n : Nat) (hn : n < 100) :
    Calls Tryz.prog 41 #[.pointer (some ⟨b, 0, none⟩), .int .i64 n] w fun e w' => e = .returned (.string (nameK n)) ∧ LD O W w' d k b S := by
  have h0 := h
  obtain ⟨rv, kv, L, pv, lv, own, H⟩ := h
  refine (file_any H.log.cells n hn).mono ?_
  rintro e w' ⟨rfl, t⟩
  exact ⟨rfl, h0.touch t⟩
theorem lend_ld {O : List Nat} {W w : World} {d b : Nat} {k : Dk} {S : Lg} (h : LD O W w d k b S) (m u : Nat) (hm : S.parts.length = m + 1) (hm2 : m < 100) (hu : u ≤ 1000000000) (hz : ∀ p ∈ S.parts, 100 ≤ p.1 ∧ p.1 ≤ 1000000) :
    Calls Tryz.prog 71 #[.pointer (some ⟨b, 0, none⟩), .int .i64 u] w fun e w' => e = .returned (.int .i64 ((33 + u : Nat) : Int)) ∧ LD O W w' d k b S := by
  have h0 := h
  obtain ⟨rv, kv, L, pv, lv, own, H⟩ := h
  refine (lend_any H.log m u hm hm2 hu hz).mono ?_
  rintro e w' ⟨rfl, t⟩
  exact ⟨rfl, h0.touch t⟩
theorem partVals_set : ∀ (l : List (Nat × Nat)) (i : Nat) (z c v : Nat), l[i]? = some (z, c) → (partVals l).set (i * 2 + 1) (.int .i64 (v : Int)) = partVals (l.set i (z, v))
  | [], _, _, _, _, h => by cases h
  | a :: r, 0, z, c, v, h => by
    obtain rfl : a = (z, c) := by simpa using h
    rfl
  | a :: r, i + 1, z, c, v, h => by
    have ih := partVals_set r i z c v (by simpa using h)
    have e : ∀ (q : Nat × Nat) (s : List (Nat × Nat)), partVals (q :: s) = .int .i64 q.1 :: .int .i64 q.2 :: partVals s := fun _ _ => rfl
    rw [List.set_cons_succ, e, e, show (i + 1) * 2 + 1 = (i * 2 + 1) + 1 + 1 by omega, List.set_cons_succ, List.set_cons_succ, ih]
/-- A count in a row of parts. -/
theorem row_count {w : World} {g n c i z cn v : Nat} {l : List (Nat × Nat)} (h : w.ownsRow 0 tPart 2 (.slice (some ⟨g, 0, none⟩) n c) n (partVals l)) (hl : l[i]? = some (z, cn)) : (w.setCell ⟨g, i * 2 + 1, none⟩ (.int .i64 (v : Int))).ownsRow 0 tPart 2 (.slice (some ⟨g, 0, none⟩) n c) n (partVals (l.set i (z, v))) := by
  have hln := h.1
  rw [partVals_len] at hln
  refine ⟨by rw [partVals_len, List.length_set]; exact hln, ?_⟩
  rcases h.2 with ⟨h2, _⟩ | ⟨g', cap, cur, hv, hb, hg, hc, hm, hs, ht⟩
  · cases h2
  · simp only [Value.slice.injEq, Option.some.injEq, Addr.mk.injEq] at hv
    obtain ⟨⟨rfl, _⟩, _, rfl⟩ := hv
    refine .inr ⟨g, c, _, rfl, Nat.zero_le _, heap_set hg _, hc, hm, by simpa using hs, ?_⟩
    rw [← partVals_set l i z cn v hl, ← ht, Array.toList_setIfInBounds, List.take_set]
theorem LgIs.not_own {w : World} {d b : Nat} {S : Lg} {pv lv : Value} {own : List Nat} (h : LgIs w d b S pv lv own) : b ∉ own := by
  intro hi
  rcases h.list with ⟨_, _, rfl⟩ | ⟨p, v, _, h2, h3, rfl⟩
  · simp at hi
  · rcases List.mem_cons.1 hi with rfl | hi
    · exact ne_type h.cells h2 (by decide) rfl
    · obtain ⟨cs, ty, fz, h4, h5⟩ := row_type h3 (ts := [tStg]) (by simp) _ hi
      obtain rfl : ty = tStg := by simpa using h5
      exact ne_type h.cells h4 (by decide) rfl
theorem LstAt.ptr_ {w : World} {lv : Value} {l : List ByteArray} {own : List Nat} (h : LstAt w lv l own) : ∃ q, lv = .pointer q := by
  rcases h with ⟨rfl, _⟩ | ⟨p, v, rfl, _⟩
  · exact ⟨_, rfl⟩
  · exact ⟨_, rfl⟩
theorem row_one {w : World} {g : Nat} {s : ByteArray} (h : w.heap[g]? = some (.cells #[.string s] tStg (0, 0))) : RowS w (some ⟨g, 0, none⟩) 1 [s] [g] := by
  refine ⟨fun i hi => ⟨g, 0, rfl, ?_⟩, Nat.le_refl _, by unfold maxLen; omega, fun h => (nomatch h), fun a h => by cases h; simp⟩
  obtain rfl : i = 0 := by simpa using hi
  exact cell_of h 0
/-- Another list put into the log's block. -/
theorem LDIs.listed {O : List Nat} {W w w6 w7 : World} {d b n : Nat} {k : Dk} {S : Lg} {rv kv : Value} {L : List Px} {pv lv lv7 : Value} {own own7 : List Nat} {l' : List ByteArray} (H : LDIs O W w d k b S rv kv L pv lv own) (T6 : Touch [] w w6) (t7 : Touch own w6 w7) (hl : LstAt w7 lv7 l' own7) (ho : ∀ i ∈ own7, i ∈ own ∨ w6.heap.size ≤ i) (hn : l'.length = n) :
    LD O W ((w7.setCell ⟨b, 5, none⟩ lv7).setCell ⟨b, 6, none⟩ (.int .i64 (n : Int))) d k b { S with bodies := l' } := by
  subst hn
  have nb := H.log.not_own
  have hbw := lt_of_block H.log.cells
  have hb7 := t7.heap (T6.heap H.log.cells (by simp)) nb
  have t67 : Touch own w w7 := (T6.mono (by simp)).trans t7 (fun i hi => .inl hi)
  have t78 : Touch [b] w7 ((w7.setCell ⟨b, 5, none⟩ lv7).setCell ⟨b, 6, none⟩ (.int .i64 (l'.length : Int))) := ((Touch.refl [b] w7).setCell (.inl (by simp)) _).setCell (.inl (by simp)) _
  have t8 : Touch (b :: own) w ((w7.setCell ⟨b, 5, none⟩ lv7).setCell ⟨b, 6, none⟩ (.int .i64 (l'.length : Int))) := (t67.mono (G := b :: own) (fun i hi => .inl (by simp [hi]))).trans t78 (fun i hi => .inl (by simp at hi; simp [hi]))
  have nb7 : ∀ i ∈ own7, i ≠ b := by
    intro i hi e
    subst e
    rcases ho _ hi with h | h
    · exact nb h
    · have := T6.size; omega
  refine H.logged (F := b :: own) (pv' := pv) (lv' := lv7) (own' := own7) ⟨heap_set (heap_set hb7 lv7) _, ?_, hl.touch t78 fun i hi hm => nb7 i hi (by simpa using hm)⟩ t8 (fun i hi => ?_) (fun i hi => ?_)
  · refine own_touch H.log.parts t8 fun i hi hm => ?_
    obtain ⟨cs, ty, fz, h4, h5⟩ := row_type H.log.parts (ts := [tPart]) (by simp) _ hi
    obtain rfl : ty = tPart := by simpa using h5
    rcases List.mem_cons.1 hm with rfl | hm
    · exact ne_type h4 H.log.cells (by decide) rfl
    · rcases H.log.list with ⟨_, _, rfl⟩ | ⟨p, v, _, h2, h3, rfl⟩
      · simp at hm
      · rcases List.mem_cons.1 hm with rfl | hm
        · exact ne_type h4 h2 (by decide) rfl
        · obtain ⟨cs', ty', fz', h6, h7⟩ := row_type h3 (ts := [tStg]) (by simp) _ hm
          obtain rfl : ty' = tStg := by simpa using h7
          exact ne_type h4 h6 (by decide) rfl
  · simp only [lgOwn, List.mem_cons, List.mem_append] at hi ⊢
    rcases hi with rfl | hi
    · exact .inl rfl
    · exact .inr (.inr hi)
  · simp only [lgOwn, List.mem_cons, List.mem_append] at hi ⊢
    rcases hi with rfl | hi | hi
    · exact .inl (.inl rfl)
    · exact .inl (.inr (.inl hi))
    · rcases ho i hi with h | h
      · exact .inl (.inr (.inr h))
      · exact .inr (Nat.le_trans T6.size h)
/-- What stands ahead of the record: nothing, or a start. -/
def WCase (S : Lg) (m : Nat) (PS : List (Nat × Nat)) (st : ByteArray) (u : Nat) : Prop :=
  (S.parts.length = m + 1 ∧ PS = S.parts ∧ st = ⟨#[]⟩ ∧ u = S.used) ∨ (S.parts.length = m ∧ PS = S.parts ++ [(S.size, 0)] ∧ st = stB S.size m ∧ u = 0 ∧ 100 ≤ S.size ∧ S.size ≤ 1000000)
theorem WCase.len {S : Lg} {m : Nat} {PS : List (Nat × Nat)} {st : ByteArray} {u : Nat} (h : WCase S m PS st u) : PS.length = m + 1 ∧ st.size ≤ 33 := by
  rcases h with ⟨h1, rfl, rfl, rfl⟩ | ⟨h1, rfl, rfl, rfl, _⟩
  · exact ⟨h1, by simp [ByteArray.size]⟩
  · exact ⟨by simp [h1], by rw [stB_size]; omega⟩
set_option maxHeartbeats 2000000 in
theorem lwrite_any {O : List Nat} {W w : World} {d b : Nat} {k k' : Dk} {S : Lg} (h : LD O W w d k b S) (m z cnt u : Nat) (PS : List (Nat × Nat)) (st : ByteArray) (hC : WCase S m PS st u) (hp : PS[m]? = some (z, cnt)) (hm2 : m < 100) (hcnt : cnt ≤ 1000000) (body : ByteArray) (hb : body.size ≤ 3999) (hs : Sm k (st.size + (body.size + 13))) (hu : u ≤ 1000000000) (hl : S.bodies.length ≤ 90000)
    (he : appendD k (nameK m) (st ++ recB body) = (0, k')) :
    Calls Tryz.prog 74 #[.pointer (some ⟨b, 0, none⟩), .int .i64 m, .string body] w fun e w' => e = .returned (.int .i64 0) ∧ LD O W w' d k' b { S with parts := PS.set m (z, cnt + 1), used := u + (body.size + 13), bodies := S.bodies ++ [body] } := by
  obtain ⟨O1, hO1, hLD⟩ := h.anew
  obtain ⟨rv, kv, L, pv, lv, own, H⟩ := h
  have hWw := H.t
  obtain ⟨hm, hst⟩ := hC.len
  have hn0 : S.parts.length ≤ m + 1 := by rcases hC with ⟨h1, _⟩ | ⟨h1, _⟩ <;> omega
  obtain ⟨c0, c1, c2, c3, c4, c5, c6, c7, c8, c9⟩ := lg_cell H.log.cells
  have CP := hid fun w' (t : Touch [] w w') => clone_pt (own_touch H.log.parts t (by simp)) (by omega)
  obtain ⟨x, c, hpv, -, -, -⟩ := part_form H.log.parts
  obtain ⟨N, hN⟩ : ∃ N, N = S.parts.length := ⟨_, rfl⟩
  rw [← hN] at CP hpv
  subst hpv
  have HN := hid hN
  rw [← hN] at hn0
  clear hN
  have CREC := hid fun w => record_any body w (by omega)
  have hrv : RecordV body = .tuple #[.string (recB body), .int .i64 0] := by unfold RecordV; rw [if_neg (by omega)]
  rw [hrv] at CREC
  have HB := hid H.log.cells
  have HLD := hid hLD
  have CF := hid fun w' (t : Touch [] w w') => file_any (t.heap H.log.cells (by simp)) m hm2
  have CA := hid fun w' (t : Touch [] w w') => append_ld (HLD.out w' t) (by rw [ByteArray.size_append, recB_size]; exact hs) he
  have hrz := hid (recB_size body)
  have hz3 : ¬ 9223372036854775807 < st.size + (recB body).size := by rw [recB_size]; omega
  have S2 := hid fun w' (t : Touch [] w w') => t.cell c2
  have CST := hid fun (hz : 100 ≤ S.size ∧ S.size ≤ 1000000) w => start_any m S.size w (by omega)
  have hstv : Hid ((100 ≤ S.size ∧ S.size ≤ 1000000) → StartV m S.size = .tuple #[.string (stB S.size m), .int .i64 0]) := hid fun hz => by
    unfold StartV stB
    rw [if_neg (by omega)]
    rfl
  clear hrv hLD H c1 c2 c5 c6 c7 c8 c9 he
  generalize recB body = rb at *
  generalize nameK m = nm at *
  go_enter Tryz.func74, Tryz.ntmps74
  go_wp2_with fail
  have HS := hid fun w' (t : Touch [] w w') => And.intro (t.cell c3) (t.cell c4)
  go_region_held3 (fun w' => w'.cell? ⟨b, 3, none⟩ = some (.slice x N c) ∧ w'.cell? ⟨b, 4, none⟩ = some (.int .i64 S.used)) (first | go_keep | exact HS.out _ (by first | assumption | exact (Touch.refl [] w).drew | exact Touch.refl _ _)) ((go_at_call 82; refine (CP.out _ (by first | exact (Touch.refl [] w).drew | exact Touch.refl _ _)).mono ?_; rintro e w0 ⟨x0, k0, rfl, hO, t1⟩; have O0h := hid hO; have T1 : Touch [] w w0 := ((Touch.refl [] w).drew.trans t1 (by simp)); clear hO t1))
  have HT0 := hid T1
  have S0 := hid fun w' (t : Touch [] w w') => t.cell c0
  clear T1 c0 c3 c4 CP HS
  go_upto_if 25 with fail
  go_cut [7, 8, 9] (fun s7 s8 s9 wx => ∃ x1 k1, s7 = .string st ∧ s8 = .slice x1 (m + 1) k1 ∧ s9 = .int .i64 u ∧ Hid (wx.ownsRow w.heap.size tPart 2 (.slice x1 (m + 1) k1) (m + 1) (partVals PS) ∧ Touch [] w wx))
  case first =>
    rcases hC with ⟨h1, rfl, rfl, rfl⟩ | ⟨h1, rfl, rfl, rfl, hz⟩
    · obtain rfl : N = m + 1 := by have := HN.out; omega
      have hn1 : ((m : Int) == ((m : Int) + 1)) = false := by simp; omega
      go_wp2_with fail
      go_meet
      exact ⟨x0, k0, rfl, rfl, rfl, hid ⟨O0h.out, HT0.out⟩⟩
    · obtain rfl : N = m := by have := HN.out; omega
      have c20 : w0.cell? ⟨b, 2, none⟩ = some (.int .i64 S.size) := S2.out w0 HT0.out
      have CS0 := hid (CST.out hz)
      rw [hstv.out hz] at CS0
      have P0 := hid (own_zero O0h.out)
      have hbs := hid (own_base O0h.out)
      go_wp2_with fail
      refine (CS0.out _).mono ?_
      rintro e w5 ⟨rfl, t5⟩
      have T5 := hid (HT0.out.trans t5 (by simp))
      have c25 : w5.cell? ⟨b, 2, none⟩ = some (.int .i64 S.size) := S2.out w5 T5.out
      have P5 := hid (own_touch O0h.out t5 (by simp))
      have hb5 := hid (T5.out.size)
      clear t5
      go_wp2_with (at_builtin; refine wpList_append_lies _ rfl _ _ 25 rfl w.drew.heap.size tPart _ (.agg #[.int .i64 0, .int .i64 0]) 2 16 rfl rfl rfl rfl rfl rfl (by omega) _ N _ rfl (P5.out.alloc _) ⟨w5.heap.size, 0, none⟩ 1 1 [.int .i64 S.size, .int .i64 0] rfl rfl (World.news_of_block (heap_alloc_new w5 _)) (by intro u hu; simp at hu; rcases hu with rfl | rfl <;> rfl) (by omega) (by unfold maxLen; omega) (by omega) (by have := hb5.out; simp; omega) _ rfl ?_; intro gg cap w6 hown hgrow hat hlt3; have O6 := hid hown; have G6 := hid hgrow; clear hown hgrow hat hlt3)
      go_meet
      refine ⟨some ⟨gg, 0, none⟩, cap, rfl, by go_num, rfl, hid ⟨?_, (T5.out.alloc _).grown G6.out (fun k hk => .inr (own_base P5.out k (Option.mem_toList.2 hk)))⟩⟩
      have e : partVals S.parts ++ [.int .i64 S.size, .int .i64 0] = partVals (S.parts ++ [(S.size, 0)]) := by simp [partVals]
      rw [← e]
      exact O6.out
  case rest =>
  obtain ⟨x1, k1, rfl, rfl, rfl, M1⟩ := hcut
  have HT1 := hid M1.out.2
  have O1h := hid M1.out.1
  clear M1 O0h HT0 hC CST hstv S2 HN
  obtain ⟨w1, hw1⟩ : ∃ w1, w1 = wc := ⟨_, rfl⟩
  rw [← hw1] at HT1 O1h ⊢
  clear hw1
  go_wp2_with (go_at_call 94; refine (CREC.out _).mono ?_; rintro e w2 ⟨rfl, t2⟩; have T2h := hid (HT1.out.trans t2 (by simp)); have t2h := hid t2; clear t2)
  have c02 : w2.cell? ⟨b, 0, none⟩ = some (.pointer (some ⟨d, 0, none⟩)) := S0.out w2 T2h.out
  have c03 : w2.drew.cell? ⟨b, 0, none⟩ = some (.pointer (some ⟨d, 0, none⟩)) := c02
  go_region_held3 (fun w' => w'.cell? ⟨b, 0, none⟩ = some (.pointer (some ⟨d, 0, none⟩))) (first | go_keep | assumption | exact S0.out _ (by first | assumption | exact T2h.out.drew | exact T2h.out)) ((first
    | (go_at_call 41; refine (CF.out _ (by first | exact T2h.out.drew | exact T2h.out)).mono ?_; rintro e w3 ⟨rfl, t3⟩; have T3 : Touch [] w w3 := T2h.out.drew.trans t3 (by simp); have U3 := hid t3; clear t3)
    | (go_at_call 46; refine (CA.out _ (by assumption)).mono ?_; rintro e w4 ⟨rfl, h4⟩; have H4 := hid h4; have q0 := ld_c0 h4; clear h4)))
  have HT3 := hid T3
  clear T3 q0
  obtain ⟨rv4, kv4, L4, pv4, lv4, own4, H5⟩ := H4.out
  have HW3 := hid ((HT1.out.trans t2h.out (by simp)).trans ((Touch.refl [] w2).drew.trans U3.out (by simp)) (by simp))
  have R1 := O1h.out
  obtain ⟨x', c', hx', -, -, hPt⟩ := part_form (l := PS) (by rw [hm]; exact R1)
  rw [hm] at hx'
  simp only [Value.slice.injEq, true_and] at hx'
  obtain ⟨rfl, rfl⟩ := hx'
  obtain ⟨g1, rfl, -, -⟩ := hPt m (by omega)
  have hg1 : w.heap.size ≤ g1 := own_base R1 g1 (by simp [Value.ownBlock])
  have hg2 : g1 < w1.heap.size := own_lt R1 g1 (by simp [Value.ownBlock])
  have t13 : Touch [] w1 w3 := (t2h.out.drew).trans U3.out (by simp)
  have hg3 : g1 < w3.heap.size := Nat.lt_of_lt_of_le hg2 t13.size
  have R4 := hid (own_touch (own_touch (own_zero R1) t13 (by simp)) H5.t (fun i hi hm' => by
    obtain rfl : i = g1 := by simpa [Value.ownBlock] using hi
    have := (hO1 _ hm').2
    omega))
  obtain ⟨x', c', hx', -, -, hPt4⟩ := part_form (l := PS) (by rw [hm]; exact R4.out)
  rw [hm] at hx'
  simp only [Value.slice.injEq, true_and] at hx'
  obtain ⟨rfl, rfl⟩ := hx'
  obtain ⟨g', hgg, -, hcn⟩ := hPt4 m (by omega)
  obtain rfl : g1 = g' := by simpa using hgg
  have hpm : PS[m]'(by omega) = (z, cnt) := by
    rw [List.getElem?_eq_getElem (by omega)] at hp
    exact Option.some.inj hp
  rw [hpm] at hcn
  have hfr : w4.frozen? ⟨g1, m * 2 + 1, none⟩ = false := by
    rcases R4.out.2 with ⟨h2, _⟩ | ⟨g', cap, cur, hv, _, hg, _⟩
    · cases h2
    · simp only [Value.slice.injEq, Option.some.injEq, Addr.mk.injEq] at hv
      obtain ⟨⟨rfl, _⟩, _, rfl⟩ := hv
      exact free_of hg _
  obtain ⟨-, -, -, e3, e4, e5, e6, -⟩ := lg_cell H5.log.cells
  have f3 := free_of H5.log.cells 3
  have f4 := free_of H5.log.cells 4
  have nbg : b ≠ g1 := by
    have hbl := H5.lown b (by simp [lgOwn])
    rintro rfl
    rcases hbl with h | h
    · have := (hO1 _ h).2; omega
    · omega
  have hrb : rb.size ≤ 4012 := by rw [hrz.out]; omega
  have i1 : decide (m < m + 1) = true := by simp
  have HH5 := hid H5
  clear hPt hPt4 hgg H5 R1 t13 hpm
  go_wp2_with fail
  obtain ⟨W5, hW5⟩ : ∃ W5, W5 = (((w4.setCell ⟨g1, m * 2 + 1, none⟩ (.int .i64 ((cnt : Int) + 1))).setCell ⟨b, 3, none⟩ (.slice (some ⟨g1, 0, none⟩) (m + 1) k1)).setCell ⟨b, 4, none⟩ (.int .i64 ((u : Int) + (rb.size : Int)))) := ⟨_, rfl⟩
  have t5 : Touch [g1, b] w4 W5 := by rw [hW5]; exact (((Touch.refl _ _).setCell (.inl (by simp)) _).setCell (.inl (by simp)) _).setCell (.inl (by simp)) _
  have hb5 : W5.heap[b]? = some (.cells (lgCells d { S with parts := PS.set m (z, cnt + 1), used := u + (body.size + 13) } (.slice (some ⟨g1, 0, none⟩) (m + 1) k1) lv4) tLog (0, 0)) := by
    rw [hW5]
    have e := heap_set (i := 4) (heap_set (i := 3) ((heap_set_other (p := ⟨g1, m * 2 + 1, none⟩) (.int .i64 ((cnt : Int) + 1)) nbg).trans HH5.out.log.cells) (.slice (some ⟨g1, 0, none⟩) (m + 1) k1)) (.int .i64 ((u : Int) + (rb.size : Int)))
    rw [e]
    have hz : (u : Int) + (rb.size : Int) = ((u + (body.size + 13) : Nat) : Int) := by rw [hrz.out]; omega
    rw [hz]
    rfl
  have hr5 : W5.ownsRow 0 tPart 2 (.slice (some ⟨g1, 0, none⟩) (m + 1) k1) (PS.set m (z, cnt + 1)).length (partVals (PS.set m (z, cnt + 1))) := by
    rw [List.length_set, hm, hW5]
    have h1 := row_count (v := cnt + 1) R4.out hp
    exact own_touch h1 (((Touch.refl [b] _).setCell (.inl (by simp)) _).setCell (.inl (by simp)) _) (fun i hi hmm => by
      have hi' : i = g1 := by simpa [Value.ownBlock] using hi
      rw [hi'] at hmm
      have : g1 = b := by simpa using hmm
      exact nbg this.symm)
  have h5 := LDIs.parted (W := W) (O := O) HH5.out hO1 (hWw.trans HW3.out (by simp)) hWw.size hg1 hg3 t5 hb5 hr5 (by simp [Value.ownBlock]) rfl
  rw [← hW5]
  have H5h := hid h5
  clear h5 hb5 hr5 t5 hW5 e3 e4 e5 e6 f3 f4 hcn hfr HH5 H4 R4 CA CF S0
  obtain ⟨rv6, kv6, L6, pv6, lv6, own6, H6⟩ := H5h.out
  obtain ⟨q6, rfl⟩ := H6.log.list.ptr_
  obtain ⟨-, -, -, -, -, e5, e6, -⟩ := lg_cell H6.log.cells
  have d5 : W5.drew.cell? ⟨b, 5, none⟩ = some (.pointer q6) := e5
  have d6 : W5.drew.cell? ⟨b, 6, none⟩ = some (.int .i64 S.bodies.length) := e6
  have CC := hid fun w => clone_any body w (by omega)
  have hl6 : LstAt W5 (.pointer q6) S.bodies own6 := H6.log.list
  have CW := hid fun (w' : World) (g : Nat) (t : Touch [] W5 w') (hb : w'.heap[g]? = some (.cells #[.string body] tStg (0, 0))) => lwith_any (w := w') (n := S.bodies.length) (m := 1) (hl6.touch t (by simp)) rfl (by omega) (row_one hb) rfl (by omega)
  have nb6 := hid (H6.log.not_own)
  have hb6 : Hid (W5.heap[b]? = some (.cells (lgCells d { S with parts := PS.set m (z, cnt + 1), used := u + (body.size + 13) } pv6 (.pointer q6)) tLog (0, 0))) := hid H6.log.cells
  clear hl6
  have HH6 := hid H6
  clear H6
  go_region_law (first
    | (refine step_call _ rfl (f := 32) (args := #[.string body]) (by simp [go_sem, Act.eval]) (CC.out _) ?_
       rintro e w6 ⟨rfl, t6⟩
       refine ⟨_, rfl, ?_⟩
       have T6 := hid ((Touch.refl [] W5).drew.trans t6 (by simp))
       have k5 : w6.cell? ⟨b, 5, none⟩ = some (.pointer q6) := T6.out.cell e5
       have k6 : w6.cell? ⟨b, 6, none⟩ = some (.int .i64 S.bodies.length) := T6.out.cell e6
       have l5 : ∀ o : Obj, (w6.alloc o).cell? ⟨b, 5, none⟩ = some (.pointer q6) := fun o => (T6.out.alloc o).cell e5
       have l6 : ∀ o : Obj, (w6.alloc o).cell? ⟨b, 6, none⟩ = some (.int .i64 S.bodies.length) := fun o => (T6.out.alloc o).cell e6
       clear t6)
    | (refine step_call _ rfl (f := 67) (args := #[.agg #[.pointer q6, .int .i64 S.bodies.length], .slice (some ⟨w6.heap.size, 0, none⟩) 1 1]) (by simp [go_sem, Act.eval]) (CW.out _ _ (T6.out.alloc _) (heap_alloc_new w6 _)) ?_
       rintro e w7 ⟨lv7, own7, rfl, hl7, ho7, t7⟩
       obtain ⟨q7, rfl⟩ := hl7.ptr_
       refine ⟨_, rfl, ?_⟩
       have HL7 := hid hl7
       have HO7 := hid ho7
       have T7 := hid t7
       have hb7 := t7.heap ((T6.out.alloc (.cells #[.string body] tStg)).heap hb6.out (by simp)) nb6.out
       have HB7 := hid hb7
       have k5 : w7.cell? ⟨b, 5, none⟩ = some (.pointer q6) := cell_of hb7 5
       have k6 : w7.cell? ⟨b, 6, none⟩ = some (.int .i64 S.bodies.length) := cell_of hb7 6
       have z5 : w7.frozen? ⟨b, 5, none⟩ = false := free_of hb7 5
       have z6 : w7.frozen? ⟨b, 6, none⟩ = false := free_of hb7 6
       clear hl7 ho7 t7 hb7))
  all_goals
    go_wp2
    go_ret
    have e := HH6.out.listed (T6.out.alloc (.cells #[.string body] tStg)) T7.out HL7.out HO7.out rfl
    have e2 : ((S.bodies ++ [body]).length : Int) = (S.bodies.length : Int) + 1 := by simp
    rw [e2] at e
    exact ⟨rfl, e⟩
end Go.Proofs.YtjjocnkockeacaaGreatDoor
