/- The walk of CodecWrites. -/
import Derived.Test.YtfmaeaaaiagcbaaDoorROutb
import Derived.Test.YtfmaeaaaiagcbaaDoorOps
import Derived.Deep.RegionHeld3
import Derived.Deep.CutBlock
import Derived.Lib.Builder
namespace Go.Proofs.YtfmaeaaaiagcbaaDoor
open Go.RowKit Go.Lib

/-- Both writers stand alike. -/
def WBoth (O X : Nat) (st : List UInt8 × Int) (w wr : World) : Prop :=
  ∃ F G, OutIs wr O F st ∧ (∀ f ∈ F, f < wr.heap.size) ∧ RoutIs wr X G st ∧ (∀ f ∈ F, f ∉ G) ∧ Touch [] w wr ∧ (∀ f ∈ F, w.heap.size ≤ f) ∧ (∀ g ∈ G, w.heap.size ≤ g)

theorem OutIs.norm {w : World} {o : Nat} {F : List Nat} {st : List UInt8 × Int} (h : OutIs w o F st) : ∃ F2, OutIs w o F2 st ∧ (∀ f ∈ F2, f < w.heap.size) ∧ ∀ f ∈ F2, f ∈ F := by
  rcases h with ⟨h0, h⟩ | ⟨h, hm⟩
  · exact ⟨F, .inl ⟨h0, h⟩, h.lt, fun _ hf => hf⟩
  · refine ⟨[o], .inr ⟨h, by simp⟩, ?_, ?_⟩
    · intro f hf
      obtain ⟨_, pv, u, h⟩ := h
      simp at hf; subst hf
      exact lt_of_block h
    · intro f hf
      simp at hf; subst hf
      exact hm

theorem wmid {O X : Nat} {F G : List Nat} {st st' : List UInt8 × Int} {wr w1 : World} (hR : RoutIs wr X G st) (hd : ∀ f ∈ F, f ∉ G) (h1 : StPost O F st' wr w1) : RoutIs w1 X G st := by
  obtain ⟨_, _, ht, _⟩ := h1
  exact hR.keep ht (fun g hg hf => hd g hf hg)

theorem wstep {O X : Nat} {F G : List Nat} {st st' : List UInt8 × Int} {w wr w1 w2 : World} (hR : RoutIs wr X G st) (hd : ∀ f ∈ F, f ∉ G) (ht : Touch [] w wr) (hF : ∀ f ∈ F, w.heap.size ≤ f) (hG : ∀ g ∈ G, w.heap.size ≤ g)
    (h1 : StPost O F st' wr w1) (h2 : RoPost X G st' w1 w2) : WBoth O X st' w w2 := by
  obtain ⟨F', hO', ht1, hf1⟩ := h1
  obtain ⟨G', hR', ht2, hg2⟩ := h2
  obtain ⟨F2, hO2, hlt2, hsub⟩ := hO'.norm
  have hs := ht.size; have hs1 := ht1.size; have hs2 := ht2.size
  have hGlt := hR.lt
  have hFG : ∀ f ∈ F2, f ∉ G := fun f hf hg => by
    rcases hf1 f (hsub f hf) with h | h
    · exact hd f h hg
    · have := hGlt f hg; omega
  refine ⟨F2, G', hO2.keep ht2 hFG, fun f hf => by have := hlt2 f hf; omega, hR', fun f hf hg => ?_, (ht.trans ht1 (fun f hf => .inr (hF f hf))).trans ht2 (fun g hg => .inr (hG g hg)), fun f hf => ?_, fun g hg => ?_⟩
  · rcases hg2 f hg with h | h
    · exact hFG f hf h
    · have := hlt2 f hf; omega
  · rcases hf1 f (hsub f hf) with h | h
    · exact hF f h
    · omega
  · rcases hg2 g hg with h | h
    · exact hG g h
    · omega

theorem outInfo : ∃ j, Tryd.prog.info? 29 = some j := by
  have h : (Tryd.prog.info? 29).isSome = true := by kernel_rfl
  exact Option.isSome_iff_exists.1 h

theorem WBoth.on {O X : Nat} {st : List UInt8 × Int} {w wr w2 : World} (h : WBoth O X st w wr) (ht : Touch [] wr w2) : WBoth O X st w w2 := by
  obtain ⟨F, G, h1, h2, h3, h4, h5, h6, h7⟩ := h
  exact ⟨F, G, h1.keep ht (by simp), fun f hf => Nat.lt_of_lt_of_le (h2 f hf) ht.size, h3.keep ht (by simp), h4, h5.trans ht (by simp), h6, h7⟩

theorem op_there {w w' : World} {b off i : Nat} {o : OpD} (h : OpAt w b off i o) (ht : Touch [] w w') : OpAt w' b off i o := by
  have e : ∀ {a : Addr} {v : Value}, w.cell? a = some v → w'.cell? a = some v := fun {a v} h => by
    rw [World.cell?_of_block (w := w) (a := a) (ht.block a.block (World.block_lt_of_cell? w _ h) (by simp))]
    exact h
  obtain ⟨a0, a1, a2, a3, a4⟩ := h
  exact ⟨e a0, e a1, e a2, e a3, a4⟩

theorem pPut_len (st : List UInt8 × Int) (s : List UInt8) : (pPut st s).1.length ≤ st.1.length + s.length := by unfold pPut; split <;> simp
theorem pFail_len (st : List UInt8 × Int) (e : Int) : (pFail st e).1.length ≤ st.1.length := by unfold pFail; split <;> simp
theorem pSmall_len (n : Nat) (st : List UInt8 × Int) (v : Int) : (pSmall n st v).1.length ≤ st.1.length + n := by
  unfold pSmall
  split
  · have := pFail_len st 1; omega
  · have := pPut_len st (be n v.toNat); rw [be_length] at this; exact this
theorem pText_len (st : List UInt8 × Int) (s : List UInt8) : (pText st s).1.length ≤ st.1.length + 4 + s.length := by
  unfold pText
  split
  · have := pFail_len st 2; omega
  · have h1 := pPut_len st (be 4 s.length); have h2 := pPut_len (pPut st (be 4 s.length)) s; rw [be_length] at h1; omega

set_option maxRecDepth 100000 in
set_option maxHeartbeats 4000000 in
theorem writes_loop (b off cap : Nat) (ops : List OpD) (w : World) (htab : Tab w) (hlight : decide (IsLight ops) = true)
    (hL : Hid (∀ w1, Touch [] w w1 → Calls Tryd.prog 4 #[.slice (some ⟨b, off, none⟩) ops.length cap] w1 fun e w' => e = .returned (.bool true) ∧ w1 = w'))
    (hc : ∀ i (h : i < ops.length), OpAt w b off i ops[i]) :
    Calls Tryd.prog 3 #[.slice (some ⟨b, off, none⟩) ops.length cap] w fun e w' => e = .returned (.bool true) ∧ Touch [] w w' := by
  have C0 := hid (alive_true w htab)
  have CL := hid (hL.out w (Touch.refl _ _))
  have Hc := hid hc
  have HT := hid htab
  have hlen60 := (of_decide_eq_true hlight).1
  have HL300 := hid (of_decide_eq_true hlight).2
  clear hc htab hlight hL
  go_enter Tryd.func3, Tryd.ntmps3
  go_wp2_with (first | (go_at_call 4; refine CL.out.mono ?_; rintro e w1 ⟨rfl, rfl⟩) | (go_at_call 5; refine C0.out.mono ?_; rintro e w1 ⟨rfl, a1⟩))
  have hB0 : Hid (WBoth w1.heap.size (w1.heap.size + 1) ([], 0) w ((w1.alloc (.cells #[.pointer none, .int .i64 0, .int .i64 0] tOut)).alloc (.cells #[.slice none 0 0, .int .i64 0] tROut))) := by
    have s1 : (w1.alloc (.cells #[.pointer none, .int .i64 0, .int .i64 0] tOut)).heap.size = w1.heap.size + 1 := by simp
    have g1 := heap_alloc_new w1 (.cells #[.pointer none, .int .i64 0, .int .i64 0] tOut)
    have g2 := heap_alloc_new (w1.alloc (.cells #[.pointer none, .int .i64 0, .int .i64 0] tOut)) (.cells #[.slice none 0 0, .int .i64 0] tROut)
    rw [s1] at g2
    have hs := a1.size
    refine ⟨[w1.heap.size], [w1.heap.size + 1], (show OutIs _ _ _ _ from .inl ⟨rfl, .inl ⟨g1, rfl, rfl⟩⟩).keep ((Touch.refl [] _).alloc _) (by simp), by simp; omega, ⟨_, g2, ⟨rfl, .inl ⟨rfl, rfl⟩⟩, by simp [Value.ownBlock], rfl⟩, by simp, (a1.alloc _).alloc _, by simp; omega, by simp; omega⟩
  have CA := hid fun (w2 : World) (h : Touch [] w w2) => alive_true w2 (HT.out.touch h)
  clear a1
  generalize w1.heap.size + 1 = X at *
  generalize w1.heap.size = O at *
  go_loopw [5] (fun kv wr => ∃ (k : Nat) (st : List UInt8 × Int), k ≤ ops.length ∧ kv = .int .i64 k ∧ st.1.length ≤ 304 * k ∧ WBoth O X st w wr) (fun kv _ => ops.length - (RowKit.intOf kv).toNat)
  case atStart => exact ⟨0, _, Nat.zero_le _, rfl, by simp, hB0.out⟩
  case round =>
    obtain ⟨k, st, hk, rfl, hsl, hB⟩ := hrel
    by_cases hlt : k < ops.length
    · obtain ⟨F, G, h1, h2, h3, h4, h5, h6, h7⟩ := hB
      obtain ⟨c0, c1, c2, c3, _⟩ := op_there (Hc.out k hlt) h5
      have hle : ops[k].s.size ≤ 300 := HL300.out _ (List.getElem_mem hlt)
      generalize ops[k].kind = K at *
      generalize ops[k].n = N at *
      generalize ops[k].bits = U at *
      generalize ops[k].s = S at *
      have hl2 : decide (k < ops.length) = true := by simpa using hlt
      have hkI : (k : Int) < ops.length := by omega
      go_upto_block 2 with fail
      obtain ⟨PB, hPB⟩ : ∃ PB, PB = wr.heap.size := ⟨_, rfl⟩
      obtain ⟨wa, hwa⟩ : ∃ wa, wa = wr.alloc (.cells #[.int .i64 K, .int .i64 N, .int .u64 U, .string S] 36) := ⟨_, rfl⟩
      rw [← hwa, ← hPB]
      go_cut [7] (fun yv wx => yv = .pointer (some ⟨O, 0, none⟩) ∧ ∃ st', st'.1.length ≤ 304 * (k + 1) ∧ WBoth O X st' w wx)
      case first =>
        have hb := heap_alloc_new wr (.cells #[.int .i64 K, .int .i64 N, .int .u64 U, .string S] 36)
        rw [← hwa, ← hPB] at hb
        have p0 : wa.cell? ⟨PB, 0, none⟩ = some (.int .i64 K) := cell_of hb 0
        have p1 : wa.cell? ⟨PB, 1, none⟩ = some (.int .i64 N) := cell_of hb 1
        have p2 : wa.cell? ⟨PB, 2, none⟩ = some (.int .u64 U) := cell_of hb 2
        have p3 : wa.cell? ⟨PB, 3, none⟩ = some (.string S) := cell_of hb 3
        have t5 : Touch [] wr wa := by rw [hwa]; exact (Touch.refl _ _).alloc _
        have hPF : PB ∉ F := fun h => by have := h2 _ h; omega
        have P := hid fun (w3 : World) (st' : List UInt8 × Int) (h : StPost O F st' wa w3) => show w3.cell? ⟨PB, 1, none⟩ = some (.int .i64 N) ∧ w3.cell? ⟨PB, 2, none⟩ = some (.int .u64 U) ∧ w3.cell? ⟨PB, 3, none⟩ = some (.string S) from by
          obtain ⟨_, _, ht, _⟩ := h
          have hq := ht.block PB (lt_of_block hb) hPF
          exact ⟨(World.cell?_of_block (a := ⟨PB, 1, none⟩) hq).trans p1, (World.cell?_of_block (a := ⟨PB, 2, none⟩) hq).trans p2, (World.cell?_of_block (a := ⟨PB, 3, none⟩) hq).trans p3⟩
        replace h1 : OutIs wa O F st := h1.keep t5 (by simp)
        replace h3 : RoutIs wa X G st := h3.keep t5 (by simp)
        replace h5 : Touch [] w wa := h5.trans t5 (by simp)
        clear hPF t5 hb hwa hPB c0 c1 c2 c3 h2
        by_cases k1 : K = 1
        · subst k1
          have C := hid (u8_st O F st N wa h1 (by omega))
          have D := hid fun (w1 : World) (h : StPost O F (pSmall 1 st N) wa w1) => roSmall_1 X G st N w1 (wmid h3 h4 h) (by omega)
          have E := hid fun (w1 w2 : World) (g1 : StPost O F (pSmall 1 st N) wa w1) (g2 : RoPost X G (pSmall 1 st N) w1 w2) => wstep h3 h4 h5 h6 h7 g1 g2
          have L := hid (show (pSmall 1 st N).1.length ≤ 304 * (k + 1) by (have := pSmall_len 1 st N; omega))
          generalize pSmall 1 st N = st' at *
          clear h1 h3 h4 h5 h6 h7 hsl hle
          go_wp2_with (first | (go_at_call 6; refine C.out.mono ?_; rintro e w3 ⟨rfl, hp⟩; obtain ⟨e1, e2, e3⟩ := P.out _ _ hp) | (go_at_call 7; refine (D.out _ hp).mono ?_; rintro e w4 ⟨rfl, hq⟩))
          go_meet
          exact ⟨by simp, _, L.out, E.out _ _ hp hq⟩
        · have n1 : (K == 1) = false := by simpa using k1
          clear k1
          by_cases k2 : K = 2
          · subst k2
            clear n1
            have C := hid (u32_st O F st N wa h1 (by omega))
            have D := hid fun (w1 : World) (h : StPost O F (pSmall 4 st N) wa w1) => roSmall_4 X G st N w1 (wmid h3 h4 h) (by omega)
            have E := hid fun (w1 w2 : World) (g1 : StPost O F (pSmall 4 st N) wa w1) (g2 : RoPost X G (pSmall 4 st N) w1 w2) => wstep h3 h4 h5 h6 h7 g1 g2
            have L := hid (show (pSmall 4 st N).1.length ≤ 304 * (k + 1) by (have := pSmall_len 4 st N; omega))
            generalize pSmall 4 st N = st' at *
            clear h1 h3 h4 h5 h6 h7 hsl hle
            go_wp2_with (first | (go_at_call 8; refine C.out.mono ?_; rintro e w3 ⟨rfl, hp⟩; obtain ⟨e1, e2, e3⟩ := P.out _ _ hp) | (go_at_call 7; refine (D.out _ hp).mono ?_; rintro e w4 ⟨rfl, hq⟩))
            go_meet
            exact ⟨by simp, _, L.out, E.out _ _ hp hq⟩
          · have n2 : (K == 2) = false := by simpa using k2
            clear k2
            by_cases k3 : K = 3
            · subst k3
              clear n1 n2
              have C := hid (u64_st O F st U wa h1 (by omega))
              have D := hid fun (w1 : World) (h : StPost O F (pPut st (be 8 U)) wa w1) => roNum_st X G st 8 U w1 (wmid h3 h4 h) (by decide) (by decide) (by omega)
              have E := hid fun (w1 w2 : World) (g1 : StPost O F (pPut st (be 8 U)) wa w1) (g2 : RoPost X G (pPut st (be 8 U)) w1 w2) => wstep h3 h4 h5 h6 h7 g1 g2
              have L := hid (show (pPut st (be 8 U)).1.length ≤ 304 * (k + 1) by (have := pPut_len st (be 8 U); rw [be_length] at this; omega))
              generalize pPut st (be 8 U) = st' at *
              clear h1 h3 h4 h5 h6 h7 hsl hle
              go_wp2_with (first | (go_at_call 9; refine C.out.mono ?_; rintro e w3 ⟨rfl, hp⟩; obtain ⟨e1, e2, e3⟩ := P.out _ _ hp) | (go_at_call 10; refine (D.out _ hp).mono ?_; rintro e w4 ⟨rfl, hq⟩))
              go_meet
              exact ⟨by simp, _, L.out, E.out _ _ hp hq⟩
            · have n3 : (K == 3) = false := by simpa using k3
              clear k3
              by_cases k4 : K = 4
              · subst k4
                clear n1 n2 n3
                have hw := wordOf_eq N
                have C := hid (i64_st O F st N wa h1 (by omega))
                have D := hid fun (w1 : World) (h : StPost O F (pPut st (be 8 (wordOf N))) wa w1) => roNum_st X G st 8 (wordOf N) w1 (wmid h3 h4 h) (by decide) (by decide) (by omega)
                have E := hid fun (w1 w2 : World) (g1 : StPost O F (pPut st (be 8 (wordOf N))) wa w1) (g2 : RoPost X G (pPut st (be 8 (wordOf N))) w1 w2) => wstep h3 h4 h5 h6 h7 g1 g2
                have L := hid (show (pPut st (be 8 (wordOf N))).1.length ≤ 304 * (k + 1) by (have := pPut_len st (be 8 (wordOf N)); rw [be_length] at this; omega))
                generalize pPut st (be 8 (wordOf N)) = st' at *
                clear h1 h3 h4 h5 h6 h7 hsl hle
                go_wp2_with (first | (go_at_call 11; refine C.out.mono ?_; rintro e w3 ⟨rfl, hp⟩; obtain ⟨e1, e2, e3⟩ := P.out _ _ hp) | (go_at_call 10; refine (D.out _ hp).mono ?_; rintro e w4 ⟨rfl, hq⟩))
                go_meet
                exact ⟨by simp, _, L.out, E.out _ _ hp hq⟩
              · have n4 : (K == 4) = false := by simpa using k4
                clear k4
                by_cases k5 : K = 5
                · subst k5
                  clear n1 n2 n3 n4
                  have C := hid (f64_st O F st U wa h1 (by omega))
                  have D := hid fun (w1 : World) (h : StPost O F (pPut st (be 8 (canon U))) wa w1) => roFloat_st X G st U w1 (wmid h3 h4 h) (by omega)
                  have E := hid fun (w1 w2 : World) (g1 : StPost O F (pPut st (be 8 (canon U))) wa w1) (g2 : RoPost X G (pPut st (be 8 (canon U))) w1 w2) => wstep h3 h4 h5 h6 h7 g1 g2
                  have L := hid (show (pPut st (be 8 (canon U))).1.length ≤ 304 * (k + 1) by (have := pPut_len st (be 8 (canon U)); rw [be_length] at this; omega))
                  generalize pPut st (be 8 (canon U)) = st' at *
                  clear h1 h3 h4 h5 h6 h7 hsl hle
                  go_wp2_with (first | (go_at_call 13; refine (float_any _ _).mono ?_; rintro e w5 ⟨rfl, rfl⟩) | (go_at_call 12; refine C.out.mono ?_; rintro e w3 ⟨rfl, hp⟩; obtain ⟨e1, e2, e3⟩ := P.out _ _ hp) | (go_at_call 14; refine (D.out _ hp).mono ?_; rintro e w4 ⟨rfl, hq⟩))
                  go_meet
                  exact ⟨by simp, _, L.out, E.out _ _ hp hq⟩
                · have n5 : (K == 5) = false := by simpa using k5
                  clear k5
                  have C := hid (text_st O F st S wa h1 (by omega))
                  have D := hid fun (w1 : World) (h : StPost O F (pText st S.data.toList) wa w1) => roText_st X G st S w1 (wmid h3 h4 h) (by omega)
                  have E := hid fun (w1 w2 : World) (g1 : StPost O F (pText st S.data.toList) wa w1) (g2 : RoPost X G (pText st S.data.toList) w1 w2) => wstep h3 h4 h5 h6 h7 g1 g2
                  have L := hid (show (pText st S.data.toList).1.length ≤ 304 * (k + 1) by (have := pText_len st S.data.toList; rw [list_len] at this; omega))
                  generalize pText st S.data.toList = st' at *
                  clear h1 h3 h4 h5 h6 h7 hsl hle
                  go_wp2_with (first | (go_at_call 15; refine C.out.mono ?_; rintro e w3 ⟨rfl, hp⟩; obtain ⟨e1, e2, e3⟩ := P.out _ _ hp) | (go_at_call 16; refine (D.out _ hp).mono ?_; rintro e w4 ⟨rfl, hq⟩))
                  go_meet
                  exact ⟨by simp, _, L.out, E.out _ _ hp hq⟩
      case rest =>
        obtain ⟨rfl, st', hl', hB'⟩ := hcut
        have HB' := hid hB'
        obtain ⟨F', G', h1', h2', h3', h4', h5', h6', h7'⟩ := hB'
        clear h1 h2 h3 h4 h5 h6 h7 c0 c1 c2 c3 hsl hle
        obtain ⟨bs, er⟩ := st'
        have C := hid (done_st O F' (bs, er) _ h1')
        have D := hid fun (n : Nat) => roDone_st X G' (bs, er) _ (h3'.keep ((Touch.refl [] _).drewN n) (by simp))
        have HT' := hid h5'
        have hl2' := hid hl'
        have hneq : ∀ wx : World, (binOp .neq 25 (.pointer (some ⟨O, 0, none⟩)) (.pointer (some ⟨O, 0, none⟩))).run Tryd.prog wx = .ok (.bool false) wx := fun wx => Lib.run_neq_ptr_same (te := 29) wx ⟨O, 0, none⟩ Tryd.underlying25 outInfo.choose_spec
        by_cases he : er = 0
        · subst he
          have hd : pDone (bs, 0) = .tuple #[.string ⟨bs.toArray⟩, .int .i64 0] := by simp [pDone]
          rw [hd] at C D
          have LN := hid fun (n : Nat) => len_st O F' bs _ (h1'.keep ((Touch.refl [] _).drewN n) (by simp))
          obtain ⟨S2, hS2⟩ : ∃ S2 : ByteArray, S2 = ⟨bs.toArray⟩ := ⟨_, rfl⟩
          have q2 : ((bs.length : Int) != (S2.size : Int)) = false := by rw [hS2]; show ((bs.length : Int) != (bs.toArray.size : Int)) = false; simp
          rw [← hS2] at C D
          clear hd hS2 h1' h2' h3' h4' h5' h6' h7' hl'
          go_wp2_with (first | (go_at_call 17; refine C.out.mono ?_; rintro e w3 ⟨rfl, n1, rfl⟩) | (go_at_call 18; refine (D.out _).mono ?_; rintro e w4 ⟨rfl, n2, rfl⟩) | (go_at_call 19; refine (LN.out _).mono ?_; rintro e w5 ⟨rfl, rfl⟩))
          exact ⟨⟨k + 1, (bs, 0), by omega, by go_num, hl2'.out, HB'.out.on ((Touch.refl [] _).drewN _)⟩, by simp [RowKit.intOf]; omega⟩
        · have hd : pDone (bs, er) = .tuple #[.string ⟨#[]⟩, .int .i64 er] := by simp only [pDone]; rw [if_neg he]
          rw [hd] at C D
          have q1 : (er != er) = false := by simp
          have q2 : (er == 0) = false := by simpa using he
          clear hd h1' h2' h3' h4' h5' h6' h7' hl' he
          go_wp2_with (first | (go_at_call 17; refine C.out.mono ?_; rintro e w3 ⟨rfl, n1, rfl⟩) | (go_at_call 18; refine (D.out _).mono ?_; rintro e w4 ⟨rfl, n2, rfl⟩))
          exact ⟨⟨k + 1, (bs, er), by omega, by go_num, hl2'.out, HB'.out.on ((Touch.refl [] _).drewN _)⟩, by simp [RowKit.intOf]; omega⟩
    · have hl2 : decide (k < ops.length) = false := by simpa using hlt
      obtain ⟨_, _, _, _, _, _, ht, _, _⟩ := hB
      have A2 := hid (CA.out _ ht)
      have HT2 := hid ht
      clear hk hlt hlen60 ht hsl
      go_wp2_with (go_at_call 5; refine A2.out.mono ?_; rintro e w9 ⟨rfl, a9⟩)
      go_ret
      exact ⟨rfl, HT2.out.trans a9 (by simp)⟩
end Go.Proofs.YtfmaeaaaiagcbaaDoor
