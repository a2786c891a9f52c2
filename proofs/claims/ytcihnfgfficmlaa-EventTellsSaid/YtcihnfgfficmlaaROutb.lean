/- The laws' own writer: Small, Text, Done. -/
import Derived.Test.YtcihnfgfficmlaaROut
import Derived.Test.YtcihnfgfficmlaaInb
import Derived.Deep.CutBlock
namespace Go.Proofs.Ytcihnfgfficmlaa
set_option maxRecDepth 100000
open Go.RowKit Go.Lib

theorem run_append_row {P : Program} (w : World) (t u ty e : TypeId) (i : TypeInfo) (ht : P.underlying t = some (.slice e)) (hu : P.underlying u = some .string) (hi : P.info? e = some i) (hz : i.zero = some (.int .u8 0))
    (hsize : i.size = 1) (hby : i.bytes = 1) (g n cap : Nat) (bs : List UInt8) (hn : n = bs.length) (hown : w.ownsRow 0 e 1 (.slice (some ⟨g, 0, none⟩) n cap) n (byteCells bs)) (s : ByteArray)
    (hbytes : n + s.size ≤ 140737488355328) :
    ∃ g' cap' w', (Builtin.append_ #[t, u] ty #[.slice (some ⟨g, 0, none⟩) n cap, .string s]).run P w = .ok (.slice (some ⟨g', 0, none⟩) (n + s.size) cap') w' ∧
      w'.ownsRow 0 e 1 (.slice (some ⟨g', 0, none⟩) (n + s.size) cap') (n + s.size) (byteCells (bs ++ s.data.toList)) ∧ w.grownBy w' (some g) ∧ (g' = g ∨ g' = w.heap.size) := by
  subst hn
  obtain ⟨cur, hg, hnc, hcm, hcs, htake⟩ : ∃ cur, w.heap[g]? = some (.cells cur e (0, 0)) ∧ bs.length ≤ cap ∧ cap ≤ maxLen ∧ cur.size = cap ∧ cur.toList.take bs.length = bs.map fun b => Value.int .u8 b.toNat := by
    obtain ⟨_, ⟨h, _⟩ | ⟨g2, cap2, cur, h, _, hg, h1, h2, h3, h4⟩⟩ := hown
    · simp at h
    · simp at h
      obtain ⟨rfl, rfl⟩ := h
      exact ⟨cur, hg, h1, h2, by simpa using h3, by simpa [byteCells] using h4⟩
  have hcl : (byteCells (bs ++ s.data.toList)).length = (bs.length + s.size) * 1 := by rw [byteCells_len, List.length_append, list_len, Nat.mul_one]
  have holds := (show Bts e w g cap bs from ⟨cur, (0, 0), hg, .inl (Nat.zero_le _), hnc, hcm, hcs, htake⟩).cells
  have h63 : bs.length + s.size ≤ maxLen := by unfold maxLen; omega
  have hlen : (bs ++ s.data.toList).length = bs.length + s.size := by rw [List.length_append, list_len]
  have hmap : ((bs ++ s.data.toList).map fun b => Value.int .u8 (b.toNat : Int)) = (bs.map fun b => Value.int .u8 b.toNat) ++ strCells s := by rw [List.map_append]; rfl
  by_cases hroom : bs.length + s.size ≤ cap
  · have hst := run_storeCells_free P g bs.length e (0, 0) (strCells s) 0 cur w hg (by rw [strCells_length]; omega) (by rw [strCells_length]; omega) (strCells_oneCell s)
    have hf := run_firstCells_string (P := P) w 1 s
    simp only [Nat.add_zero, strCells_length] at hst
    refine ⟨g, cap, w.setRow g (cur.toList.take bs.length ++ strCells s ++ cur.toList.drop (bs.length + s.size)).toArray, ?_, ⟨hcl, .inr ⟨_, _, _, rfl, Nat.zero_le _, setRow_heap w g cur _ e _ hg, by omega, hcm, ?_, ?_⟩⟩, ⟨rfl, rfl, rfl, by simp, fun k _ hk => setRow_other w g k _ (fun e => hk (by simp [e]))⟩, .inl rfl⟩
    · simp [Builtin.append_, run_underlying ht, run_underlying hu, sizeOf, typeInfo, hi, hsize, Builtin.lenOf, hroom, hf, Addr.add_lit, hst]
    · simp only [List.size_toArray, List.length_append, List.length_take, List.length_drop, Array.length_toList, strCells_length]
      omega
    · rw [htake, Nat.mul_one, show byteCells (bs ++ s.data.toList) = _ from hmap]
      exact List.take_left' (by rw [List.length_append, List.length_map, strCells_length])
  · have hr := run_append_grow_string (P := P) w t u ty e i (.int .u8 0) ht hu hi hz ⟨g, 0, none⟩ bs.length cap (bs.map fun b => Value.int .u8 b.toNat) (by rw [hsize]; simp) holds s (by omega) (by unfold maxLen at h63; omega) (by rw [hby]; exact growslice_fits (by omega) (by omega))
    have hge := grownCap_ge w (bs.length + s.size) cap e
    have hcm2 : grownCap w (bs.length + s.size) cap e ≤ maxLen := grownCap_le_maxLen w (bs.length + s.size) cap e h63
    refine ⟨_, _, _, hr, ⟨hcl, .inr ⟨_, _, _, rfl, Nat.zero_le _, heap_alloc_new w.drew _, hge, hcm2, ?_, ?_⟩⟩, ⟨rfl, rfl, rfl, by simp, fun k hk _ => Below.heap_alloc w.drew _ k hk⟩, .inr rfl⟩
    · have hz1 : (Value.int IntKind.u8 0).cells.size = 1 := rfl
      simp only [Array.size_append, List.size_toArray, size_zeroCells, hz1, List.length_map, strCells_length]
      omega
    · rw [Nat.mul_one, show byteCells (bs ++ s.data.toList) = _ from hmap]
      simp only [Array.toList_append]
      exact List.take_left' (by rw [List.length_append, List.length_map, strCells_length])

theorem wpList_append_row {P : Program} {w : World} {ops : Array Oper} {rest : List Oper} {o : Oper} {a : Act} {Q : Exit → Act → World → Prop} (hgd : o.guard = none) (sl x : Operand) (t u : TypeId)
    (ho : o.op = .call { callee := .builtin .append, args := #[sl, x], argTypes := #[t, u] })
    (e : TypeId) (i : TypeInfo) (ht : P.underlying t = some (.slice e)) (hu : P.underlying u = some .string) (hi : P.info? e = some i) (hz : i.zero = some (.int .u8 0))
    (hsize : i.size = 1) (hby : i.bytes = 1) (g n cap : Nat) (bs : List UInt8) (hn : n = bs.length) (hs : a.eval sl = .slice (some ⟨g, 0, none⟩) n cap) (hown : w.ownsRow 0 e 1 (.slice (some ⟨g, 0, none⟩) n cap) n (byteCells bs)) (s : ByteArray) (hx : a.eval x = .string s)
    (hbytes : n + s.size ≤ 140737488355328)
    (h : ∀ g' cap' w', w'.ownsRow 0 e 1 (.slice (some ⟨g', 0, none⟩) (n + s.size) cap') (n + s.size) (byteCells (bs ++ s.data.toList)) → w.grownBy w' (some g) → (g' = g ∨ g' = w.heap.size) → wpList P ops Q rest (a.put o.dst (.slice (some ⟨g', 0, none⟩) (n + s.size) cap')) w') :
    wpList P ops Q (o :: rest) a w := by
  refine wpList_plain hgd fun K hK => ?_
  obtain ⟨g', cap', w', hr, h2, h3, h4⟩ := run_append_row (P := P) w t u o.type e i ht hu hi hz hsize hby g n cap bs hn hown s hbytes
  unfold Oper.wp execOp
  simp only [ho, resolve, invoke, builtin, Sem.run_bind, Sem.run_pure, Result.andThen_ok, List.map_toArray, List.map_cons, List.map_nil, hs, hx, hr]
  exact hK _ _ (h g' cap' w' h2 h3 h4)

theorem roDone_st (x : Nat) (G : List Nat) (st : List UInt8 × Int) (w : World) (h : RoutIs w x G st) :
    Calls Try.prog 46 #[.pointer (some ⟨x, 0, none⟩)] w fun e w' => e = .returned (pDone st) ∧ ∃ n, w.drewN n = w' := by
  obtain ⟨bs, er⟩ := st
  obtain ⟨va, h1, h2, _, _⟩ := h
  have c0 : w.cell? ⟨x, 0, none⟩ = some va := cell_of h1 0
  have c1 : w.cell? ⟨x, 1, none⟩ = some (.int .i64 er) := cell_of h1 1
  clear h1
  by_cases he : er = 0
  · subst he
    have hd : pDone (bs, 0) = .tuple #[.string ⟨bs.toArray⟩, .int .i64 0] := by simp [pDone]
    rw [hd]
    have hconv : (convert 70 9 va).run Try.prog w = .ok (.string ⟨bs.toArray⟩) w := by
      obtain ⟨hl, ⟨rfl, hn⟩ | ⟨g, cap, cur, rfl, _, hg, hle, hm, hs, ht⟩⟩ := h2
      · obtain rfl : bs = [] := List.eq_nil_of_length_eq_zero hn
        rfl
      · refine run_convert_bytes_back w 70 9 tByte ⟨g, 0, none⟩ cap bs rfl rfl rfl (Bts.cell ⟨cur, (0, 0), hg, .inl (Nat.zero_le _), hle, hm, by simpa using hs, ?_⟩)
        have : bs.length * 1 = bs.length := Nat.mul_one _
        rw [this] at ht
        exact ht
    clear h2 hd
    go_enter Try.func46, Try.ntmps46
    go_wp2
    go_ret2
    exact ⟨rfl, 0, rfl⟩
  · have hd : pDone (bs, er) = .tuple #[.string ⟨#[]⟩, .int .i64 er] := by simp only [pDone]; rw [if_neg he]
    rw [hd]
    have hb2 : (er != 0) = true := by simpa using he
    clear h2 hd he
    go_enter Try.func46, Try.ntmps46
    go_wp2
    go_quiet (fail)
    go_wp2
    go_ret2
    exact ⟨rfl, _, rfl⟩

theorem ro_close_text {x : Nat} {G G' : List Nat} {cur : List UInt8} {s : ByteArray} {w wr w1 : World} {g cap gg cap2 : Nat} (r1 : wr.heap[x]? = some (.cells #[.slice (some ⟨g, 0, none⟩) cur.length cap, .int .i64 0] tROut (0, 0))) (hgx : g ≠ x)
    (rG : G' = [x, g]) (hT : Touch G w wr) (hF : ∀ f ∈ G', f ∈ G ∨ w.heap.size ≤ f)
    (hown : w1.ownsRow 0 tByte 1 (.slice (some ⟨gg, 0, none⟩) (cur.length + s.size) cap2) (cur.length + s.size) (byteCells (cur ++ s.data.toList))) (hg : wr.grownBy w1 (some g)) (hat : gg = g ∨ gg = wr.heap.size) :
    RoPost x G (cur ++ s.data.toList, 0) w (w1.setCell ⟨x, 0, none⟩ (.slice (some ⟨gg, 0, none⟩) (cur.length + s.size) cap2)) := by
  have hx := lt_of_block r1
  have hne : gg ≠ x := by omega
  have h1 : w1.heap[x]? = some (.cells #[.slice (some ⟨g, 0, none⟩) cur.length cap, .int .i64 0] tROut (0, 0)) := by
    rw [hg.block x hx (by simp; exact fun e => hgx e.symm)]
    exact r1
  refine ⟨[x, gg], ⟨.slice (some ⟨gg, 0, none⟩) (cur.length + s.size) cap2, by rw [heap_set h1]; simp, ?_, ?_, rfl⟩, ?_, ?_⟩
  · refine ownsRow_same ?_ (fun g hgg => heap_set_other _ (by simp [Value.ownBlock] at hgg; subst hgg; exact hne))
    have hl : (cur ++ s.data.toList).length = cur.length + s.size := by rw [List.length_append, list_len]
    simp only [hl]
    exact hown
  · simp [Value.ownBlock]; exact hne
  · refine (hT.grown hg ?_).setCell (hF x (by rw [rG]; simp)) _
    intro k hk
    simp at hk
    exact hF k (by rw [rG]; simp [hk])
  · intro f hf
    simp at hf
    rcases hf with rfl | rfl
    · exact hF f (by rw [rG]; simp)
    · rcases hat with h | h
      · exact hF f (by rw [rG]; simp [h])
      · right; have := hT.size; omega

set_option maxRecDepth 100000 in
set_option maxHeartbeats 1600000 in
theorem roText_st (x : Nat) (G : List Nat) (st : List UInt8 × Int) (s : ByteArray) (w : World) (h : RoutIs w x G st) (hb : st.1.length + 4 + 65536 + 8 ≤ 140737488355328) :
    Calls Try.prog 44 #[.pointer (some ⟨x, 0, none⟩), .string s] w fun e w' => e = .returned (.tuple #[]) ∧ RoPost x G (pText st s.data.toList) w w' := by
  by_cases hs : (65536 : Int) < s.size
  · have C := hid (roFail_st x G st 2 w h)
    have hp : pText st s.data.toList = pFail st 2 := by unfold pText; rw [if_pos (by rw [list_len]; omega)]
    rw [hp]
    clear h hb hp
    go_enter Try.func44, Try.ntmps44
    go_wp2_with (go_at_call 72; refine C.out.mono ?_; rintro e w' ⟨rfl, hp⟩)
    (try simp only [Exit.inBlock, Exit.then]); refine bodyPost_ret (results_none rfl _ _ _) rfl ?_
    exact ⟨rfl, hp⟩
  · have hs1 : (s.size : Int) ≤ 65536 := by omega
    have C := hid (roNum_st x G st 4 s.size w h (by decide) (by decide) (by omega))
    have hp : pText st s.data.toList = pPut (pPut st (be 4 s.size)) s.data.toList := by unfold pText; rw [if_neg (by rw [list_len]; omega), list_len]
    rw [hp]
    have hl1 : st.1.length + 4 + 65536 ≤ 140737488355328 := by omega
    have Hb := hid hl1
    have h3 : IntKind.u64.wrap (s.size : Int) = s.size := by rw [IntKind.wrap_u64]; omega
    have Hs := hid hs1
    clear h hb hp hl1 hs
    go_enter Try.func44, Try.ntmps44
    go_upto_region 2 with fail
    clear hs1
    go_wp2_with fail
    refine C.out.mono ?_
    rintro e w1 ⟨rfl, G', hR, hT, hF⟩
    have HR := hid hR
    have HT := hid hT; have HF := hid hF
    obtain ⟨va, r1, r2, r3, rG⟩ := hR
    clear hT hF
    by_cases he : st.2 = 0
    · have hq : pPut st (be 4 s.size) = (st.1 ++ be 4 s.size, 0) := by simp [pPut, he]
      rw [hq] at r1 r2
      have hq2 : Hid (pPut (pPut st (be 4 s.size)) s.data.toList = (st.1 ++ be 4 s.size ++ s.data.toList, 0)) := by unfold Hid; rw [hq]; simp [pPut]
      have hcl : (st.1 ++ be 4 s.size).length = st.1.length + 4 := by rw [List.length_append, be_length]
      simp only [] at r1 r2
      generalize st.1 ++ be 4 s.size = cur at *
      obtain ⟨g, cap, rfl⟩ : ∃ g cap, va = .slice (some ⟨g, 0, none⟩) cur.length cap := by
        obtain ⟨_, ⟨_, hn⟩ | ⟨g, cap, _, hv, _⟩⟩ := r2
        · omega
        · exact ⟨g, cap, hv⟩
      have c0 : w1.cell? ⟨x, 0, none⟩ = some (.slice (some ⟨g, 0, none⟩) cur.length cap) := cell_of r1 0
      have c1 : w1.cell? ⟨x, 1, none⟩ = some (.int .i64 0) := cell_of r1 1
      have f0 : w1.frozen? ⟨x, 0, none⟩ = false := free_of r1 0
      have hxl := lt_of_block r1
      have hgx : g ≠ x := fun e => r3 (by rw [e]; rfl)
      have hlen : Hid (cur.length + s.size ≤ 140737488355328) := by have := Hb.out; have := Hs.out; unfold Hid; omega
      have R1 := hid r1; have R2 := hid r2; have RG := hid rG; have Hgx := hid hgx; have Hxl := hid hxl
      clear r1 r2 r3 rG hgx hcl hq he hxl
      obtain ⟨i0, hi, hz0, hz1, hz2⟩ := info_parts Try.infoByte
      go_upto_region 4 with fail
      go_wp2_with (at_builtin; refine wpList_append_row rfl (.tmp 23) (.tmp 24) 70 9 rfl tByte i0 Try.underlying70 Try.underlying9 hi hz0 hz1 hz2 g cur.length cap cur rfl (by rfl) R2.out s (by rfl) hlen.out ?_; intro gg cap2 w2 hown hgrow hat; have e0 : w2.cell? ⟨x, 0, none⟩ = some (.slice (some ⟨g, 0, none⟩) cur.length cap) := hgrow.cell c0 (by simp; exact fun e => Hgx.out e.symm); have e1 : w2.frozen? ⟨x, 0, none⟩ = false := (hgrow.frozen_far ⟨x, 0, none⟩ Hxl.out (by simp; exact fun e => Hgx.out e.symm)).trans f0)
      go_end0
      refine ⟨rfl, ?_⟩
      rw [hq2.out]
      exact ro_close_text R1.out Hgx.out RG.out HT.out HF.out hown hgrow hat
    · have hq : pPut st (be 4 s.size) = st := by simp [pPut, he]
      have hq2 : Hid (pPut (pPut st (be 4 s.size)) s.data.toList = pPut st (be 4 s.size)) := by unfold Hid; rw [hq]; simp [pPut, he]
      have c1 : w1.cell? ⟨x, 1, none⟩ = some (.int .i64 st.2) := by have := cell_of r1 1; rw [hq] at this; exact this
      have hb2 : (st.2 == 0) = false := by simpa using he
      clear r1 r2 r3 rG hq he
      go_wp2
      go_end0
      refine ⟨rfl, ?_⟩
      rw [hq2.out]
      exact ⟨G', HR.out, HT.out, HF.out⟩
end Go.Proofs.Ytcihnfgfficmlaa
