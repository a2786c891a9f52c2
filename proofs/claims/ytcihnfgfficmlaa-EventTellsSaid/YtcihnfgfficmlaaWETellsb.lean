/- EventTells, walked. -/
import Derived.Test.YtcihnfgfficmlaaWETells
import Derived.Test.YtcihnfgfficmlaaHeld
import Derived.Deep.AppendLies
import Derived.Deep.RegionHeld3
namespace Go.Proofs.Ytcihnfgfficmlaa
open Go.RowKit Go.Lib
set_option maxRecDepth 100000

theorem row_cap {W : World} {base g n cap : Nat} {xs : List Value} (h : W.ownsRow base tEv 4 (.slice (some ⟨g, 0, none⟩) (n + 1) cap) (n + 1) xs) : (n : Int) ≤ cap := by
  obtain ⟨_, ⟨h0, _⟩ | ⟨g', cap', cur, hv, _, _, hc, _⟩⟩ := h
  · cases h0
  · cases hv; omega
theorem row_cap1 {W : World} {base g n cap : Nat} {xs : List Value} (h : W.ownsRow base tEv 4 (.slice (some ⟨g, 0, none⟩) (n + 1) cap) (n + 1) xs) : (n : Int) + 1 ≤ cap := by
  obtain ⟨_, ⟨h0, _⟩ | ⟨g', cap', cur, hv, _, _, hc, _⟩⟩ := h
  · cases h0
  · cases hv; omega
theorem get_len (b : List UInt8) : (getOf b).1.evs.length ≤ 9223372036854775807 := by
  have h : (gotOf b).l.1.length ≤ 255 := by
    have hr := reads_got b
    rw [hr.l]
    have h1 := upto_len (gotOf b).n.2 (val (gotOf b).n.1)
    have h2 : val (gotOf b).n.1 < 256 := by rw [hr.n]; exact val1_lt _
    omega
  unfold getOf
  split
  · exact Nat.zero_le _
  · split
    · exact Nat.zero_le _
    · show (gotOf b).l.1.length ≤ _
      omega

set_option maxHeartbeats 8000000 in
theorem tells_good (c : CmdD) (x : Option Addr) (cx : Nat) (okc : c.Ok) (d : CmdD) (y : Option Addr) (dx : Nat) (okd : d.Ok) (b : ByteArray) (w : World) (hc : Evs w x cx c.evs) (hd : Evs w y dx d.evs) (h1 : smallC c = true) (h2 : smallC d = true) (h3 : b.size ≤ 4000) :
    Calls Try.prog 3 #[c.agg x cx, d.agg y dx, .string b] w fun e w' => e = .returned (.bool true) ∧ Touch [] w w' := by
  have CA := hid alive_true
  have SC := hid (fun w' (t : Touch [] w w') => small_any c x cx w' (hc.ev.touch t) okc.l)
  have SD := hid (fun w' (t : Touch [] w w') => small_any d y dx w' (hd.ev.touch t) okd.l)
  rw [h1] at SC
  rw [h2] at SD
  have HC := hid hc
  have HD := hid hd.ev
  have hlen : c.evs.length ≤ 12 := (small_parts h1).1
  have HL := hid hlen
  have HB := hid h3
  have q1 : (b.size : Int) ≤ 4000 := by omega
  clear hc hd okd h1 h2 h3
  have OKC := hid okc
  clear okc
  unfold CmdD.agg at *
  obtain ⟨W2, hW2⟩ : ∃ W2, W2 = (w.alloc (.cells #[.int .i64 c.kind, .int .i64 c.time, .string c.stream, .int .i64 c.exp, .slice x c.evs.length cx, .int .i64 c.cnt, .int .i64 c.age, .int .i64 c.bef] tCmd)).alloc (.cells #[.int .i64 d.kind, .int .i64 d.time, .string d.stream, .int .i64 d.exp, .slice y d.evs.length dx, .int .i64 d.cnt, .int .i64 d.age, .int .i64 d.bef] tCmd) := ⟨_, rfl⟩
  have Tw : Hid (Touch [] w W2) := by rw [hW2]; exact hid (((Touch.refl [] w).alloc _).alloc _)
  have BA : Hid (W2.heap[w.heap.size]? = some (.cells #[.int .i64 c.kind, .int .i64 c.time, .string c.stream, .int .i64 c.exp, .slice x c.evs.length cx, .int .i64 c.cnt, .int .i64 c.age, .int .i64 c.bef] tCmd (0, 0))) := by rw [hW2]; exact hid (touch_blk0 ((Touch.refl [] _).alloc _) (heap_alloc_new w _))
  have BB : Hid (W2.heap[w.heap.size + 1]? = some (.cells #[.int .i64 d.kind, .int .i64 d.time, .string d.stream, .int .i64 d.exp, .slice y d.evs.length dx, .int .i64 d.cnt, .int .i64 d.age, .int .i64 d.bef] tCmd (0, 0))) := by
    have h := heap_alloc_new (w.alloc (.cells #[.int .i64 c.kind, .int .i64 c.time, .string c.stream, .int .i64 c.exp, .slice x c.evs.length cx, .int .i64 c.cnt, .int .i64 c.age, .int .i64 c.bef] tCmd)) (.cells #[.int .i64 d.kind, .int .i64 d.time, .string d.stream, .int .i64 d.exp, .slice y d.evs.length dx, .int .i64 d.cnt, .int .i64 d.age, .int .i64 d.bef] tCmd)
    rw [show (w.alloc (.cells #[.int .i64 c.kind, .int .i64 c.time, .string c.stream, .int .i64 c.exp, .slice x c.evs.length cx, .int .i64 c.cnt, .int .i64 c.age, .int .i64 c.bef] tCmd)).heap.size = w.heap.size + 1 by simp] at h
    rw [hW2]; exact hid h
  simp only [tCmd] at hW2
  have KA := hid (fun w' (h : Touch [] W2 w') => cells_of (touch_blk0 h BA.out))
  have KB := hid (fun w' (h : Touch [] W2 w') => cells_of (touch_blk0 h BB.out))
  have tt : Touch [] W2 W2 := Touch.refl _ _
  go_enter Try.func3, Try.ntmps3
  go_upto_region 1 with fail
  rw [← hW2]
  clear hW2
  obtain ⟨a0, a1, a2, a3, a4, a5, a6, a7⟩ := KA.out _ tt; obtain ⟨b0, b1, b2, b3, b4, b5, b6, b7⟩ := KB.out _ tt
  go_upto_region 4 with (first
    | (go_at_call 10; with_reducible refine (SC.out _ (Tw.out.trans tt (by simp))).mono ?_; rintro e v1 ⟨rfl, t1⟩; have tt := tt.trans t1 (by simp); clear SC; obtain ⟨a0, a1, a2, a3, a4, a5, a6, a7⟩ := KA.out _ tt; obtain ⟨b0, b1, b2, b3, b4, b5, b6, b7⟩ := KB.out _ tt)
    | (go_at_call 10; with_reducible refine (SD.out _ (Tw.out.trans tt (by simp))).mono ?_; rintro e v2 ⟨rfl, t2⟩; have tt := tt.trans t2 (by simp)))
  have TT := hid tt
  clear tt t1 t2
  clear a0 a1 a2 a3 a4 a5 a6 a7 b0 b1 b2 b3 b4 b5 b6 b7 SD
  go_wp2
  go_loopw [7] (fun kv wr => ∃ j : Nat, j ≤ c.evs.length ∧ kv = .int .i64 j ∧ Touch [] W2 wr) (fun kv _ => c.evs.length - (RowKit.intOf kv).toNat)
  case atStart => exact ⟨0, Nat.zero_le _, rfl, TT.out⟩
  case round =>
    obtain ⟨j, hj, rfl, hT⟩ := hrel
    have HT := hid hT
    clear hT TT
    have c4 := (KA.out _ HT.out).2.2.2.2.1
    by_cases hlt : j < c.evs.length
    · have hltI : (j : Int) < c.evs.length := by omega
      have hj0 : (0 : Int) ≤ j := by omega
      have hb1 : (j : Int) < 9223372036854775807 := by have := HL.out; omega
      obtain ⟨g, off, rfl, ha, ok1⟩ := (HC.out.ev.touch (Tw.out.trans HT.out (by simp))) j hlt
      have DV := hid (fun w => evValid_any c.evs[j] w)
      have DR := hid (fun w => refValid_any c.evs[j] w)
      obtain ⟨a0, a1, a2, a3⟩ := ha
      generalize validE c.evs[j] = vE at *
      have g1 : (vE != vE) = false := by simp
      clear ok1
      by_cases hm : 0 < d.evs.length
      · skip
        obtain ⟨g', off', hy', hb', _⟩ := (HD.out.touch (Tw.out.trans HT.out (by simp))) 0 hm
        subst hy'
        obtain ⟨b0, b1, b2, b3⟩ := hb'
        simp only [Nat.zero_mul, Nat.add_zero] at b0 b1 b2 b3
        have DS := hid (fun w => evSameEvent_any c.evs[j] d.evs[0] w)
        have DT := hid (fun w => refSameEvent_any c.evs[j] d.evs[0] w)
        unfold EvD.agg at DS DT DV DR
        generalize sameE c.evs[j] d.evs[0] = sE at *
        have g2 : (sE != sE) = false := by simp
        have g3 : decide ((0 : Int) < (d.evs.length : Int)) = true := by simp; omega
        have g4 : (0 : Int) < (d.evs.length : Int) := by omega
        generalize d.evs[0] = F at *
        obtain ⟨F0, F1, F2, F3⟩ := F
        simp only [] at b0 b1 b2 b3 DS DT
        generalize c.evs[j] = E at *
        obtain ⟨E0, E1, E2, E3⟩ := E
        simp only [] at a0 a1 a2 a3 DV DR DS DT
        go_upto_region 6 with fail
        obtain ⟨ι, f, ⟨θ0, hθ0⟩, p0, p1, e0, e1, e2, e3, f0, f1, f2, f3, FW, FV, FR, FS, FT⟩ : ∃ (ι : Type) (f : ι → World), (∃ θ, f θ = wr.drew) ∧ (∀ θ, (f θ).cell? ⟨w.heap.size, 4, none⟩ = some (.slice (some ⟨g, off, none⟩) c.evs.length cx)) ∧ (∀ θ, (f θ).cell? ⟨w.heap.size + 1, 4, none⟩ = some (.slice (some ⟨g', off', none⟩) d.evs.length dx)) ∧ (∀ θ, (f θ).cell? ⟨g, off + j * 4, none⟩ = some (.int .i64 E0)) ∧ (∀ θ, (f θ).cell? ⟨g, off + j * 4 + 1, none⟩ = some (.string E1)) ∧ (∀ θ, (f θ).cell? ⟨g, off + j * 4 + 2, none⟩ = some (.string E2)) ∧ (∀ θ, (f θ).cell? ⟨g, off + j * 4 + 3, none⟩ = some (.float .f64 E3)) ∧ (∀ θ, (f θ).cell? ⟨g', off', none⟩ = some (.int .i64 F0)) ∧ (∀ θ, (f θ).cell? ⟨g', off' + 1, none⟩ = some (.string F1)) ∧ (∀ θ, (f θ).cell? ⟨g', off' + 2, none⟩ = some (.string F2)) ∧ (∀ θ, (f θ).cell? ⟨g', off' + 3, none⟩ = some (.float .f64 F3)) ∧ Hid (∀ θ, Touch [] W2 (f θ)) ∧ Hid (∀ θ, Calls Try.prog 12 #[.agg #[.int .i64 E0, .string E1, .string E2, .float .f64 E3]] (f θ) fun e w'' => e = .returned (.bool vE) ∧ ∃ θ', w'' = f θ') ∧ Hid (∀ θ, Calls Try.prog 13 #[.agg #[.int .i64 E0, .string E1, .string E2, .float .f64 E3]] (f θ) fun e w'' => e = .returned (.bool vE) ∧ ∃ θ', w'' = f θ') ∧ Hid (∀ θ, Calls Try.prog 14 #[.agg #[.int .i64 E0, .string E1, .string E2, .float .f64 E3], .agg #[.int .i64 F0, .string F1, .string F2, .float .f64 F3]] (f θ) fun e w'' => e = .returned (.bool sE) ∧ ∃ θ', w'' = f θ') ∧ Hid (∀ θ, Calls Try.prog 15 #[.agg #[.int .i64 E0, .string E1, .string E2, .float .f64 E3], .agg #[.int .i64 F0, .string F1, .string F2, .float .f64 F3]] (f θ) fun e w'' => e = .returned (.bool sE) ∧ ∃ θ', w'' = f θ') :=
          ⟨{wx // Touch [] wr wx}, Subtype.val, ⟨⟨_, (Touch.refl [] wr).drew⟩, rfl⟩, fun θ => (KA.out _ (HT.out.trans θ.2 (by simp))).2.2.2.2.1, fun θ => (KB.out _ (HT.out.trans θ.2 (by simp))).2.2.2.2.1, fun θ => θ.2.cell a0, fun θ => θ.2.cell a1, fun θ => θ.2.cell a2, fun θ => θ.2.cell a3, fun θ => θ.2.cell b0, fun θ => θ.2.cell b1, fun θ => θ.2.cell b2, fun θ => θ.2.cell b3, hid fun θ => HT.out.trans θ.2 (by simp), hid fun θ => (DV.out _).mono fun e w'' ⟨he, h2⟩ => ⟨he, ⟨⟨w'', θ.2.trans h2 (by simp)⟩, rfl⟩⟩, hid fun θ => (DR.out _).mono fun e w'' ⟨he, h2⟩ => ⟨he, ⟨⟨w'', θ.2.trans h2 (by simp)⟩, rfl⟩⟩, hid fun θ => (DS.out _).mono fun e w'' ⟨he, h2⟩ => ⟨he, ⟨⟨w'', θ.2.trans h2 (by simp)⟩, rfl⟩⟩, hid fun θ => (DT.out _).mono fun e w'' ⟨he, h2⟩ => ⟨he, ⟨⟨w'', θ.2.trans h2 (by simp)⟩, rfl⟩⟩⟩
        have Hθ := hid hθ0
        have inst : Nonempty ι := ⟨θ0⟩
        clear hθ0
        clear DV DR DS DT b0 b1 b2 b3 a0 a1 a2 a3
        refine wp_region_held f θ0 (by kernel_rfl) (by kernel_rfl) Hθ.out ?_
        repeat go_big_quiet_step (first | with_reducible exact FV.out _ | with_reducible exact FR.out _ | with_reducible exact FS.out _ | with_reducible exact FT.out _)
        refine wpQuiet_nil ?_
        intro _ hw'
        obtain ⟨θ, hw''⟩ := hw'
        subst hw''
        have T4 := hid (FW.out θ)
        clear Hθ FV FR FS FT FW p0 p1 e0 e1 e2 e3 f0 f1 f2 f3
        generalize f θ = w3 at *
        clear inst θ0 θ
        clear f
        clear ι
        have Hlt := hid hlt
        have Hb1 := hid hb1
        clear hlt hltI hj0 hb1 g1 g2 g3 g4
        have hb1 := Hb1.out
        have hlt := Hlt.out
        go_wp2
        go_roundw
        case rel => exact ⟨j + 1, by omega, by go_num, T4.out⟩
        case measure => simp [RowKit.intOf]; omega
      · have hm0 : d.evs.length = 0 := by omega
        rw [hm0] at KB
        unfold EvD.agg at DV DR
        have g2 : True := trivial
        have g3 : decide ((0 : Int) < ((0 : Nat) : Int)) = false := by simp
        generalize c.evs[j] = E at *
        obtain ⟨E0, E1, E2, E3⟩ := E
        simp only [] at a0 a1 a2 a3 DV DR
        go_upto_region 6 with fail
        obtain ⟨ι, f, ⟨θ0, hθ0⟩, p0, p1, e0, e1, e2, e3, FW, FV, FR⟩ : ∃ (ι : Type) (f : ι → World), (∃ θ, f θ = wr.drew) ∧ (∀ θ, (f θ).cell? ⟨w.heap.size, 4, none⟩ = some (.slice (some ⟨g, off, none⟩) c.evs.length cx)) ∧ (∀ θ, (f θ).cell? ⟨w.heap.size + 1, 4, none⟩ = some (.slice y 0 dx)) ∧ (∀ θ, (f θ).cell? ⟨g, off + j * 4, none⟩ = some (.int .i64 E0)) ∧ (∀ θ, (f θ).cell? ⟨g, off + j * 4 + 1, none⟩ = some (.string E1)) ∧ (∀ θ, (f θ).cell? ⟨g, off + j * 4 + 2, none⟩ = some (.string E2)) ∧ (∀ θ, (f θ).cell? ⟨g, off + j * 4 + 3, none⟩ = some (.float .f64 E3)) ∧ Hid (∀ θ, Touch [] W2 (f θ)) ∧ Hid (∀ θ, Calls Try.prog 12 #[.agg #[.int .i64 E0, .string E1, .string E2, .float .f64 E3]] (f θ) fun e w'' => e = .returned (.bool vE) ∧ ∃ θ', w'' = f θ') ∧ Hid (∀ θ, Calls Try.prog 13 #[.agg #[.int .i64 E0, .string E1, .string E2, .float .f64 E3]] (f θ) fun e w'' => e = .returned (.bool vE) ∧ ∃ θ', w'' = f θ') :=
          ⟨{wx // Touch [] wr wx}, Subtype.val, ⟨⟨_, (Touch.refl [] wr).drew⟩, rfl⟩, fun θ => (KA.out _ (HT.out.trans θ.2 (by simp))).2.2.2.2.1, fun θ => (KB.out _ (HT.out.trans θ.2 (by simp))).2.2.2.2.1, fun θ => θ.2.cell a0, fun θ => θ.2.cell a1, fun θ => θ.2.cell a2, fun θ => θ.2.cell a3, hid fun θ => HT.out.trans θ.2 (by simp), hid fun θ => (DV.out _).mono fun e w'' ⟨he, h2⟩ => ⟨he, ⟨⟨w'', θ.2.trans h2 (by simp)⟩, rfl⟩⟩, hid fun θ => (DR.out _).mono fun e w'' ⟨he, h2⟩ => ⟨he, ⟨⟨w'', θ.2.trans h2 (by simp)⟩, rfl⟩⟩⟩
        have Hθ := hid hθ0
        have inst : Nonempty ι := ⟨θ0⟩
        clear hθ0
        clear DV DR a0 a1 a2 a3
        refine wp_region_held f θ0 (by kernel_rfl) (by kernel_rfl) Hθ.out ?_
        repeat go_big_quiet_step (first | with_reducible exact FV.out _ | with_reducible exact FR.out _)
        refine wpQuiet_nil ?_
        intro _ hw'
        obtain ⟨θ, hw''⟩ := hw'
        subst hw''
        have T4 := hid (FW.out θ)
        clear Hθ FV FR FW p0 p1 e0 e1 e2 e3
        generalize f θ = w3 at *
        clear inst θ0 θ
        clear f
        clear ι
        have Hlt := hid hlt
        have Hb1 := hid hb1
        clear hlt hltI hj0 hb1 g1 g2 g3
        have hb1 := Hb1.out
        have hlt := Hlt.out
        go_wp2
        go_roundw
        case rel => exact ⟨j + 1, by omega, by go_num, T4.out⟩
        case measure => simp [RowKit.intOf]; omega
    · obtain rfl : j = c.evs.length := by omega
      clear hlt hj c4
      obtain ⟨a0, a1, a2, a3, a4, a5, a6, a7⟩ := KA.out _ HT.out
      go_upto_region 9 with fail
      obtain ⟨W8, hW8⟩ : ∃ W8, W8 = wr.alloc (.cells #[.int .i64 c.kind, .int .i64 c.time, .string c.stream, .int .i64 c.exp, .slice x c.evs.length cx, .int .i64 c.cnt, .int .i64 c.age, .int .i64 c.bef] 26) := ⟨_, rfl⟩
      have u8 : Touch [] wr W8 := by rw [hW8]; exact (Touch.refl [] wr).alloc _
      have X8 : Hid (W8.heap[wr.heap.size]? = some (.cells #[.int .i64 c.kind, .int .i64 c.time, .string c.stream, .int .i64 c.exp, .slice x c.evs.length cx, .int .i64 c.cnt, .int .i64 c.age, .int .i64 c.bef] 26 (0, 0))) := by rw [hW8]; exact hid (heap_alloc_new wr _)
      rw [← hW8]
      clear hW8 a0 a1 a2 a3 a4 a5 a6 a7
      have hwr := lt_of_block (touch_blk0 HT.out BA.out)
      have hwr2 := lt_of_block (touch_blk0 HT.out BB.out)
      generalize wr.heap.size = h8 at *
      have T8 := hid (HT.out.trans u8 (by simp))
      have T8w := hid (Tw.out.trans T8.out (by simp))
      clear u8
      have HXB := hid (fun w' (h : Touch [] W8 w') => touch_blk0 h X8.out)
      have HX8 := hid (fun w' (h : Touch [] W8 w') => cells_of (touch_blk0 h X8.out))
      have HEX := hid (fun w' (h : Touch [] W8 w') => HC.out.ev.touch (T8w.out.trans h (by simp)))
      have HS := hid (fun w' (h : Touch [] W8 w') => (KA.out w' (T8.out.trans h (by simp))).2.2.2.2.1)
      have HNI := hid HC.out.nil
      have h8ne : w.heap.size ≠ h8 := by omega
      have HS2 := hid (fun w' (h : Touch [] W8 w') (u : Value) => touch_cell (show Touch [h8] w' (w'.setCell ⟨h8, 4, none⟩ u) from (Touch.refl [h8] w').setCell (.inl (by simp)) u) (HS.out w' h) (by simpa using h8ne))
      have a4 := HS.out _ (Touch.refl _ _)
      obtain ⟨i0, z0, hi, hz0, hz1, hz2, hz3⟩ := info_ev
      have hn0 : (0 : Int) ≤ (c.evs.length : Int) := by omega
      go_region_held3 (fun w' => w'.cell? ⟨w.heap.size, 4, none⟩ = some (.slice x c.evs.length cx))
        (first | go_keep | exact HS.out _ (by assumption) | exact HS2.out _ (by assumption) _)
        (first
          | (refine step_append_first rfl (.const (.slice none 0 0)) (.tmp 82) rfl i0 z0 hi hz0 hz1 hz2 hz3 x c.evs cx (by rfl) (by rfl) (HEX.out _ (by (first | exact Touch.refl _ _ | exact (Touch.refl _ _).drew | exact (Touch.refl _ _).drewN _ | exact ((Touch.refl _ _).drew).alloc _))) HNI.out HL.out W8.heap.size (Touch.size (F := []) (by (first | exact Touch.refl _ _ | exact (Touch.refl _ _).drew | exact (Touch.refl _ _).drewN _ | exact ((Touch.refl _ _).drew).alloc _))) ?_
             intro v1 w1 hown1 t1
             have tt1 : Touch [] W8 w1 := Touch.trans (F := []) (by (first | exact Touch.refl _ _ | exact (Touch.refl _ _).drew | exact (Touch.refl _ _).drewN _ | exact ((Touch.refl _ _).drew).alloc _)) t1 (by simp))
          | (refine step_append_lies _ rfl (.tmp 83) (.tmp 85) 22 rfl W8.heap.size tEv i0 z0 4 48 Try.underlying22 hi hz0 hz1 hz2 hz3 (by decide) v1 c.evs.length (evCells c.evs) (by rfl) (owns_same hown1 (fun g hg => Below.heap_alloc w1 _ g (owns_lt hown1 g hg).1)) ⟨w1.heap.size, 0, none⟩ 1 1 [.int .i64 77, .string ⟨#[]⟩, .string ⟨#[]⟩, .float .f64 0] (by rfl) rfl (World.news_of_block (heap_alloc_new w1 (.cells #[.int .i64 77, .string ⟨#[]⟩, .string ⟨#[]⟩, .float .f64 0] tEv))) (by intro u hu; simp at hu; rcases hu with rfl | rfl | rfl | rfl <;> rfl) (by decide) (by have := HL.out; unfold maxLen; omega) (by have := HL.out; omega) (by have := tt1.size; simp; omega) (w1.heap.size + 1) (by first | rfl | simp) ?_
             intro g cap w4 hown hgrow hat hlt4
             have tt4 : Touch [] W8 w4 := (tt1.alloc _).grown hgrow (fun b hb => .inr (owns_lt hown1 b hb).2)
             have HOW := hid hown
             have hcap : (c.evs.length : Int) ≤ cap := row_cap hown
             have hcap1 := hid (row_cap1 hown)
             have k41 := (HX8.out _ tt4).2.2.2.2.1
             have f41 : w4.frozen? ⟨h8, 4, none⟩ = false := free_of (HXB.out _ tt4) 4
             clear hown hgrow hat hlt4)
          | (refine step_append_lies _ rfl (.tmp 83) (.tmp 85) 22 rfl W8.heap.size tEv i0 z0 4 48 Try.underlying22 hi hz0 hz1 hz2 hz3 (by decide) v1 c.evs.length (evCells c.evs) (by rfl) (hown1) ⟨W8.heap.size, 0, none⟩ 1 1 [.int .i64 77, .string ⟨#[]⟩, .string ⟨#[]⟩, .float .f64 0] (by rfl) rfl (World.news_of_block (touch_blk0 t1 (heap_alloc_new W8.drew (.cells #[.int .i64 77, .string ⟨#[]⟩, .string ⟨#[]⟩, .float .f64 0] tEv)))) (by intro u hu; simp at hu; rcases hu with rfl | rfl | rfl | rfl <;> rfl) (by decide) (by have := HL.out; unfold maxLen; omega) (by have := HL.out; omega) (tt1.size) w1.heap.size (by first | rfl | simp) ?_
             intro g cap w4 hown hgrow hat hlt4
             have tt4 : Touch [] W8 w4 := tt1.grown hgrow (fun b hb => .inr (owns_lt hown1 b hb).2)
             have HOW := hid hown
             have hcap : (c.evs.length : Int) ≤ cap := row_cap hown
             have hcap1 := hid (row_cap1 hown)
             have k41 := (HX8.out _ tt4).2.2.2.2.1
             have f41 : w4.frozen? ⟨h8, 4, none⟩ = false := free_of (HXB.out _ tt4) 4
             clear hown hgrow hat hlt4))
      all_goals
        clear a4 HS HS2 HXB HX8 HEX t1 tt1 hown1 k41 f41
        obtain ⟨cur, hcur, hcut, h77, hg8⟩ := row_more HOW.out
        obtain ⟨W9, hW9⟩ : ∃ W9, W9 = w4.setCell ⟨h8, 4, none⟩ (.slice (some ⟨g, 0, none⟩) c.evs.length cap) := ⟨_, rfl⟩
        have hgh : g ≠ h8 := by have := lt_of_block X8.out; omega
        have U9 : Touch [h8] w4 W9 := by rw [hW9]; exact (Touch.refl [h8] w4).setCell (.inl (by simp)) _
        have X9 : Hid (W9.heap[h8]? = some (.cells #[.int .i64 c.kind, .int .i64 c.time, .string c.stream, .int .i64 c.exp, .slice (some ⟨g, 0, none⟩) c.evs.length cap, .int .i64 c.cnt, .int .i64 c.age, .int .i64 c.bef] 26 (0, 0))) := by
          rw [hW9]
          have h1 := heap_set (i := 4) (touch_blk0 tt4 X8.out) (.slice (some ⟨g, 0, none⟩) c.evs.length cap)
          simp only [List.setIfInBounds_toArray, List.set_cons_succ, List.set_cons_zero] at h1
          exact hid h1
        have G9 : Hid (W9.heap[g]? = some (.cells cur tEv (0, 0))) := hid (touch_blk0 U9 hcur (by simpa using hgh))
        have T9 : Hid (Touch [] w W9) := by rw [hW9]; exact hid ((T8w.out.trans tt4 (by simp)).setCell (.inr (Nat.le_of_lt (by omega))) _)
        have A9 := hid (touch_blk0 U9 (touch_blk0 (T8.out.trans tt4 (by simp)) BA.out) (by simpa using h8ne))
        have B9 : Hid (W9.heap[w.heap.size + 1]? = some (.cells #[.int .i64 d.kind, .int .i64 d.time, .string d.stream, .int .i64 d.exp, .slice y d.evs.length dx, .int .i64 d.cnt, .int .i64 d.age, .int .i64 d.bef] tCmd (0, 0))) := hid (touch_blk0 U9 (touch_blk0 (T8.out.trans tt4 (by simp)) BB.out) (by simp; omega))
        rw [← hW9]
        clear hW9 U9 tt4 HOW hcur X8
        have KA9 := hid (fun w' (h : Touch [] W9 w') => cells_of (touch_blk0 h A9.out))
        have KB9 := hid (fun w' (h : Touch [] W9 w') => cells_of (touch_blk0 h B9.out))
        have KX9 := hid (fun w' (h : Touch [] W9 w') => cells_of (touch_blk0 h X9.out))
        have okl : ∀ e ∈ c.evs, e.Ok := fun e he => by obtain ⟨k, hk, rfl⟩ := List.getElem_of_mem he; obtain ⟨_, _, _, _, h5⟩ := HC.out.ev k hk; exact h5
        have EX9 := hid (fun w' (h : Touch [] W9 w') => evX_rowT (touch_blk0 h G9.out) hcut okl)
        have C77 : Hid (∀ w', Touch [] W9 w' → w'.cell? ⟨g, c.evs.length * 4, none⟩ = some (.int .i64 77)) := hid fun w' h => by rw [cell_of (touch_blk0 h G9.out)]; exact h77
        have ECX := hid (fun w' (h : Touch [] W9 w') => HC.out.ev.touch (T9.out.trans h (by simp)))
        have EDX := hid (fun w' (h : Touch [] W9 w') => HD.out.touch (T9.out.trans h (by simp)))
        clear hcut h77 okl G9 A9 B9 X9
        have PX := hid (fun w' (h : Touch [] W9 w') => evPut_any c (some ⟨g, 0, none⟩) cap w' (EX9.out w' h))
        have PR := hid (fun w' (h : Touch [] W9 w') => refPut_any c x cx w' (ECX.out w' h))
        have GE := hid (fun w' => evGet_any b w' HB.out)
        have GR := hid (fun w' => refGet_any b w' HB.out)
        simp only [putV_eq] at PR
        unfold GetPost at GE GR
        unfold CmdD.agg at PX PR GE GR
        have hgl := get_len b.data.toList
        generalize hgo : getOf b.data.toList = go at *
        clear hgo
        obtain ⟨k, er⟩ := go
        simp only [] at GE GR hgl
        have tt : Touch [] W9 W9 := Touch.refl _ _
        obtain ⟨a0, a1, a2, a3, a4, a5, a6, a7⟩ := KA9.out _ tt; obtain ⟨x0, x1, x2, x3, x4, x5, x6, x7⟩ := KX9.out _ tt
        go_upto_region 13 with (first
          | (go_at_call 16; refine (PX.out _ (by assumption)).mono ?_; rintro e v3 ⟨rfl, t3⟩; have tt := tt.trans t3 (by simp); obtain ⟨a0, a1, a2, a3, a4, a5, a6, a7⟩ := KA9.out _ tt; obtain ⟨x0, x1, x2, x3, x4, x5, x6, x7⟩ := KX9.out _ tt)
          | (go_at_call 17; refine (PR.out _ (by assumption)).mono ?_; rintro e v4 ⟨rfl, t4⟩; have tt := tt.trans t4 (by simp))
          | (go_at_call 18; refine (GE.out _).mono ?_; rintro e v5 ⟨y1, cap1, rfl, hy1, t5, _⟩; have tt := tt.trans t5 (by simp)))
        obtain ⟨W10, hW10⟩ : ∃ W10, W10 = v5.alloc (.cells #[.int .i64 k.kind, .int .i64 k.time, .string k.stream, .int .i64 k.exp, .slice y1 k.evs.length cap1, .int .i64 k.cnt, .int .i64 k.age, .int .i64 k.bef] 26) := ⟨_, rfl⟩
        have u10 : Touch [] v5 W10 := by rw [hW10]; exact (Touch.refl [] v5).alloc _
        have K10 : Hid (W10.heap[v5.heap.size]? = some (.cells #[.int .i64 k.kind, .int .i64 k.time, .string k.stream, .int .i64 k.exp, .slice y1 k.evs.length cap1, .int .i64 k.cnt, .int .i64 k.age, .int .i64 k.bef] 26 (0, 0))) := by rw [hW10]; exact hid (heap_alloc_new v5 _)
        rw [← hW10]
        have E10 := hid (hy1.touch u10)
        have tt := tt.trans u10 (by simp)
        clear hW10 u10 hy1 t3 t4 t5
        generalize v5.heap.size = h13 at *
        go_upto_region 14 with (go_at_call 19; refine (GR.out _).mono ?_; rintro e v6 ⟨y2, cap2, rfl, hy2, t6, _⟩; have tt := tt.trans t6 (by simp))
        obtain ⟨W11, hW11⟩ : ∃ W11, W11 = v6.alloc (.cells #[.int .i64 k.kind, .int .i64 k.time, .string k.stream, .int .i64 k.exp, .slice y2 k.evs.length cap2, .int .i64 k.cnt, .int .i64 k.age, .int .i64 k.bef] 26) := ⟨_, rfl⟩
        have u11 : Touch [] v6 W11 := by rw [hW11]; exact (Touch.refl [] v6).alloc _
        have K11 : Hid (W11.heap[v6.heap.size]? = some (.cells #[.int .i64 k.kind, .int .i64 k.time, .string k.stream, .int .i64 k.exp, .slice y2 k.evs.length cap2, .int .i64 k.cnt, .int .i64 k.age, .int .i64 k.bef] 26 (0, 0))) := by rw [hW11]; exact hid (heap_alloc_new v6 _)
        rw [← hW11]
        have E11 := hid (hy2.touch u11)
        have tt := tt.trans u11 (by simp)
        have t10 := t6.trans u11 (by simp)
        clear hW11 u11 hy2
        generalize v6.heap.size = h15 at *
        have QVM := hid (fun w => evValidMeta_any c.cnt c.age c.bef w)
        have QRM := hid (fun w => refValidMeta_any c.cnt c.age c.bef w)
        have QCK := hid (fun w' (h : Touch [] W9 w') => evCheck_any c (some ⟨g, 0, none⟩) cap w' (EX9.out w' h))
        have QRK := hid (fun w' (h : Touch [] W9 w') => refCheck_any c x cx w' (ECX.out w' h))
        have QGK := hid (fun w' (h : Touch [] W11 w') => refSame_any k k y1 y2 cap1 cap2 w' (E10.out.touch (t10.trans h (by simp))) (E11.out.touch h) hgl)
        have QXD := hid (fun w' (h : Touch [] W9 w') => evSame_any c d (some ⟨g, 0, none⟩) y cap dx w' (EX9.out w' h) (EDX.out w' h) (by have := HL.out; omega))
        have QCD := hid (fun w' (h : Touch [] W9 w') => refSame_any c d x y cx dx w' (ECX.out w' h) (EDX.out w' h) (by have := HL.out; omega))
        have QXC := hid (fun w' (h : Touch [] W9 w') => evSame_any c c (some ⟨g, 0, none⟩) x cap cx w' (EX9.out w' h) (ECX.out w' h) (by have := HL.out; omega))
        have QRC := hid (fun w' (h : Touch [] W9 w') => refSame_any c c (some ⟨g, 0, none⟩) x cap cx w' (EX9.out w' h) (ECX.out w' h) (by have := HL.out; omega))
        simp only [sameC_self] at QGK QXC QRC
        unfold metaV at QVM QRM
        unfold CmdD.agg at QCK QRK QGK QXD QCD QXC QRC
        generalize validM c.cnt c.age c.bef = vm at *
        generalize checkC c = kc at *
        generalize sameC c d = sd at *
        generalize putB c = S at *
        have z1 : (vm == vm) = true := by simp
        have z2 : (kc == kc) = true := by simp
        have z3 : (S.toList == S.toList) = true := by simp
        have z4 : (sd == sd) = true := by simp
        have z5 : (er == er) = true := by simp
        have z6 := hcap1.out
        have z7 : (c.evs.length : Int) ≤ 12 := by have := HL.out; omega
        have z8 : (0 : Int) ≤ (c.evs.length : Int) + 1 := by omega
        have z9 : (c.evs.length : Int) < (c.evs.length : Int) + 1 := by omega
        clear PX PR GE GR
        obtain ⟨ι, f, ⟨θ0, hθ0⟩, fc0, fc1, fc2, fc3, fc4, fc5, fc6, fc7, fd0, fd1, fd2, fd3, fd4, fd5, fd6, fd7, fx0, fx1, fx2, fx3, fx4, fx5, fx6, fx7, fk0, fk1, fk2, fk3, fk4, fk5, fk6, fk7, fl0, fl1, fl2, fl3, fl4, fl5, fl6, fl7, f77, FW, G0, G1, G2, G3, G4, G5, G6, G7, G8, G9⟩ : ∃ (ι : Type) (f : ι → World), (∃ θ, f θ = W11.drew) ∧ (∀ θ, (f θ).cell? ⟨w.heap.size, 0, none⟩ = some (.int .i64 c.kind)) ∧ (∀ θ, (f θ).cell? ⟨w.heap.size, 1, none⟩ = some (.int .i64 c.time)) ∧ (∀ θ, (f θ).cell? ⟨w.heap.size, 2, none⟩ = some (.string c.stream)) ∧ (∀ θ, (f θ).cell? ⟨w.heap.size, 3, none⟩ = some (.int .i64 c.exp)) ∧ (∀ θ, (f θ).cell? ⟨w.heap.size, 4, none⟩ = some (.slice x c.evs.length cx)) ∧ (∀ θ, (f θ).cell? ⟨w.heap.size, 5, none⟩ = some (.int .i64 c.cnt)) ∧ (∀ θ, (f θ).cell? ⟨w.heap.size, 6, none⟩ = some (.int .i64 c.age)) ∧ (∀ θ, (f θ).cell? ⟨w.heap.size, 7, none⟩ = some (.int .i64 c.bef)) ∧ (∀ θ, (f θ).cell? ⟨w.heap.size + 1, 0, none⟩ = some (.int .i64 d.kind)) ∧ (∀ θ, (f θ).cell? ⟨w.heap.size + 1, 1, none⟩ = some (.int .i64 d.time)) ∧ (∀ θ, (f θ).cell? ⟨w.heap.size + 1, 2, none⟩ = some (.string d.stream)) ∧ (∀ θ, (f θ).cell? ⟨w.heap.size + 1, 3, none⟩ = some (.int .i64 d.exp)) ∧ (∀ θ, (f θ).cell? ⟨w.heap.size + 1, 4, none⟩ = some (.slice y d.evs.length dx)) ∧ (∀ θ, (f θ).cell? ⟨w.heap.size + 1, 5, none⟩ = some (.int .i64 d.cnt)) ∧ (∀ θ, (f θ).cell? ⟨w.heap.size + 1, 6, none⟩ = some (.int .i64 d.age)) ∧ (∀ θ, (f θ).cell? ⟨w.heap.size + 1, 7, none⟩ = some (.int .i64 d.bef)) ∧ (∀ θ, (f θ).cell? ⟨h8, 0, none⟩ = some (.int .i64 c.kind)) ∧ (∀ θ, (f θ).cell? ⟨h8, 1, none⟩ = some (.int .i64 c.time)) ∧ (∀ θ, (f θ).cell? ⟨h8, 2, none⟩ = some (.string c.stream)) ∧ (∀ θ, (f θ).cell? ⟨h8, 3, none⟩ = some (.int .i64 c.exp)) ∧ (∀ θ, (f θ).cell? ⟨h8, 4, none⟩ = some (.slice (some ⟨g, 0, none⟩) c.evs.length cap)) ∧ (∀ θ, (f θ).cell? ⟨h8, 5, none⟩ = some (.int .i64 c.cnt)) ∧ (∀ θ, (f θ).cell? ⟨h8, 6, none⟩ = some (.int .i64 c.age)) ∧ (∀ θ, (f θ).cell? ⟨h8, 7, none⟩ = some (.int .i64 c.bef)) ∧ (∀ θ, (f θ).cell? ⟨h13, 0, none⟩ = some (.int .i64 k.kind)) ∧ (∀ θ, (f θ).cell? ⟨h13, 1, none⟩ = some (.int .i64 k.time)) ∧ (∀ θ, (f θ).cell? ⟨h13, 2, none⟩ = some (.string k.stream)) ∧ (∀ θ, (f θ).cell? ⟨h13, 3, none⟩ = some (.int .i64 k.exp)) ∧ (∀ θ, (f θ).cell? ⟨h13, 4, none⟩ = some (.slice y1 k.evs.length cap1)) ∧ (∀ θ, (f θ).cell? ⟨h13, 5, none⟩ = some (.int .i64 k.cnt)) ∧ (∀ θ, (f θ).cell? ⟨h13, 6, none⟩ = some (.int .i64 k.age)) ∧ (∀ θ, (f θ).cell? ⟨h13, 7, none⟩ = some (.int .i64 k.bef)) ∧ (∀ θ, (f θ).cell? ⟨h15, 0, none⟩ = some (.int .i64 k.kind)) ∧ (∀ θ, (f θ).cell? ⟨h15, 1, none⟩ = some (.int .i64 k.time)) ∧ (∀ θ, (f θ).cell? ⟨h15, 2, none⟩ = some (.string k.stream)) ∧ (∀ θ, (f θ).cell? ⟨h15, 3, none⟩ = some (.int .i64 k.exp)) ∧ (∀ θ, (f θ).cell? ⟨h15, 4, none⟩ = some (.slice y2 k.evs.length cap2)) ∧ (∀ θ, (f θ).cell? ⟨h15, 5, none⟩ = some (.int .i64 k.cnt)) ∧ (∀ θ, (f θ).cell? ⟨h15, 6, none⟩ = some (.int .i64 k.age)) ∧ (∀ θ, (f θ).cell? ⟨h15, 7, none⟩ = some (.int .i64 k.bef)) ∧ (∀ θ, (f θ).cell? ⟨g, c.evs.length * 4, none⟩ = some (.int .i64 77)) ∧ Hid (∀ θ, Touch [] w (f θ)) ∧ Hid (∀ θ, Calls Try.prog 11 #[] (f θ) fun e w'' => e = .returned (.bool true) ∧ ∃ θ', w'' = f θ') ∧ Hid (∀ θ, Calls Try.prog 20 #[.agg #[.int .i64 c.cnt, .int .i64 c.age, .int .i64 c.bef]] (f θ) fun e w'' => e = .returned (.bool vm) ∧ ∃ θ', w'' = f θ') ∧ Hid (∀ θ, Calls Try.prog 21 #[.agg #[.int .i64 c.cnt, .int .i64 c.age, .int .i64 c.bef]] (f θ) fun e w'' => e = .returned (.bool vm) ∧ ∃ θ', w'' = f θ') ∧ Hid (∀ θ, Calls Try.prog 22 #[.agg #[.int .i64 c.kind, .int .i64 c.time, .string c.stream, .int .i64 c.exp, .slice (some ⟨g, 0, none⟩) c.evs.length cap, .int .i64 c.cnt, .int .i64 c.age, .int .i64 c.bef]] (f θ) fun e w'' => e = .returned (.int .i64 kc) ∧ ∃ θ', w'' = f θ') ∧ Hid (∀ θ, Calls Try.prog 23 #[.agg #[.int .i64 c.kind, .int .i64 c.time, .string c.stream, .int .i64 c.exp, .slice x c.evs.length cx, .int .i64 c.cnt, .int .i64 c.age, .int .i64 c.bef]] (f θ) fun e w'' => e = .returned (.int .i64 kc) ∧ ∃ θ', w'' = f θ') ∧ Hid (∀ θ, Calls Try.prog 24 #[.agg #[.int .i64 k.kind, .int .i64 k.time, .string k.stream, .int .i64 k.exp, .slice y1 k.evs.length cap1, .int .i64 k.cnt, .int .i64 k.age, .int .i64 k.bef], .agg #[.int .i64 k.kind, .int .i64 k.time, .string k.stream, .int .i64 k.exp, .slice y2 k.evs.length cap2, .int .i64 k.cnt, .int .i64 k.age, .int .i64 k.bef]] (f θ) fun e w'' => e = .returned (.bool true) ∧ ∃ θ', w'' = f θ') ∧ Hid (∀ θ, Calls Try.prog 25 #[.agg #[.int .i64 c.kind, .int .i64 c.time, .string c.stream, .int .i64 c.exp, .slice (some ⟨g, 0, none⟩) c.evs.length cap, .int .i64 c.cnt, .int .i64 c.age, .int .i64 c.bef], .agg #[.int .i64 d.kind, .int .i64 d.time, .string d.stream, .int .i64 d.exp, .slice y d.evs.length dx, .int .i64 d.cnt, .int .i64 d.age, .int .i64 d.bef]] (f θ) fun e w'' => e = .returned (.bool sd) ∧ ∃ θ', w'' = f θ') ∧ Hid (∀ θ, Calls Try.prog 24 #[.agg #[.int .i64 c.kind, .int .i64 c.time, .string c.stream, .int .i64 c.exp, .slice x c.evs.length cx, .int .i64 c.cnt, .int .i64 c.age, .int .i64 c.bef], .agg #[.int .i64 d.kind, .int .i64 d.time, .string d.stream, .int .i64 d.exp, .slice y d.evs.length dx, .int .i64 d.cnt, .int .i64 d.age, .int .i64 d.bef]] (f θ) fun e w'' => e = .returned (.bool sd) ∧ ∃ θ', w'' = f θ') ∧ Hid (∀ θ, Calls Try.prog 25 #[.agg #[.int .i64 c.kind, .int .i64 c.time, .string c.stream, .int .i64 c.exp, .slice (some ⟨g, 0, none⟩) c.evs.length cap, .int .i64 c.cnt, .int .i64 c.age, .int .i64 c.bef], .agg #[.int .i64 c.kind, .int .i64 c.time, .string c.stream, .int .i64 c.exp, .slice x c.evs.length cx, .int .i64 c.cnt, .int .i64 c.age, .int .i64 c.bef]] (f θ) fun e w'' => e = .returned (.bool true) ∧ ∃ θ', w'' = f θ') ∧ Hid (∀ θ, Calls Try.prog 24 #[.agg #[.int .i64 c.kind, .int .i64 c.time, .string c.stream, .int .i64 c.exp, .slice (some ⟨g, 0, none⟩) c.evs.length cap, .int .i64 c.cnt, .int .i64 c.age, .int .i64 c.bef], .agg #[.int .i64 c.kind, .int .i64 c.time, .string c.stream, .int .i64 c.exp, .slice x c.evs.length cx, .int .i64 c.cnt, .int .i64 c.age, .int .i64 c.bef]] (f θ) fun e w'' => e = .returned (.bool true) ∧ ∃ θ', w'' = f θ') :=
          ⟨{wx // Touch [] W11 wx}, Subtype.val, ⟨⟨_, (Touch.refl [] W11).drew⟩, rfl⟩, fun θ => (KA9.out _ (tt.trans θ.2 (by simp))).1, fun θ => (KA9.out _ (tt.trans θ.2 (by simp))).2.1, fun θ => (KA9.out _ (tt.trans θ.2 (by simp))).2.2.1, fun θ => (KA9.out _ (tt.trans θ.2 (by simp))).2.2.2.1, fun θ => (KA9.out _ (tt.trans θ.2 (by simp))).2.2.2.2.1, fun θ => (KA9.out _ (tt.trans θ.2 (by simp))).2.2.2.2.2.1, fun θ => (KA9.out _ (tt.trans θ.2 (by simp))).2.2.2.2.2.2.1, fun θ => (KA9.out _ (tt.trans θ.2 (by simp))).2.2.2.2.2.2.2, fun θ => (KB9.out _ (tt.trans θ.2 (by simp))).1, fun θ => (KB9.out _ (tt.trans θ.2 (by simp))).2.1, fun θ => (KB9.out _ (tt.trans θ.2 (by simp))).2.2.1, fun θ => (KB9.out _ (tt.trans θ.2 (by simp))).2.2.2.1, fun θ => (KB9.out _ (tt.trans θ.2 (by simp))).2.2.2.2.1, fun θ => (KB9.out _ (tt.trans θ.2 (by simp))).2.2.2.2.2.1, fun θ => (KB9.out _ (tt.trans θ.2 (by simp))).2.2.2.2.2.2.1, fun θ => (KB9.out _ (tt.trans θ.2 (by simp))).2.2.2.2.2.2.2, fun θ => (KX9.out _ (tt.trans θ.2 (by simp))).1, fun θ => (KX9.out _ (tt.trans θ.2 (by simp))).2.1, fun θ => (KX9.out _ (tt.trans θ.2 (by simp))).2.2.1, fun θ => (KX9.out _ (tt.trans θ.2 (by simp))).2.2.2.1, fun θ => (KX9.out _ (tt.trans θ.2 (by simp))).2.2.2.2.1, fun θ => (KX9.out _ (tt.trans θ.2 (by simp))).2.2.2.2.2.1, fun θ => (KX9.out _ (tt.trans θ.2 (by simp))).2.2.2.2.2.2.1, fun θ => (KX9.out _ (tt.trans θ.2 (by simp))).2.2.2.2.2.2.2, fun θ => (t10.trans θ.2 (by simp)).cell (cell_of K10.out 0), fun θ => (t10.trans θ.2 (by simp)).cell (cell_of K10.out 1), fun θ => (t10.trans θ.2 (by simp)).cell (cell_of K10.out 2), fun θ => (t10.trans θ.2 (by simp)).cell (cell_of K10.out 3), fun θ => (t10.trans θ.2 (by simp)).cell (cell_of K10.out 4), fun θ => (t10.trans θ.2 (by simp)).cell (cell_of K10.out 5), fun θ => (t10.trans θ.2 (by simp)).cell (cell_of K10.out 6), fun θ => (t10.trans θ.2 (by simp)).cell (cell_of K10.out 7), fun θ => θ.2.cell (cell_of K11.out 0), fun θ => θ.2.cell (cell_of K11.out 1), fun θ => θ.2.cell (cell_of K11.out 2), fun θ => θ.2.cell (cell_of K11.out 3), fun θ => θ.2.cell (cell_of K11.out 4), fun θ => θ.2.cell (cell_of K11.out 5), fun θ => θ.2.cell (cell_of K11.out 6), fun θ => θ.2.cell (cell_of K11.out 7), fun θ => C77.out _ (tt.trans θ.2 (by simp)), hid fun θ => (T9.out.trans tt (by simp)).trans θ.2 (by simp), hid fun θ => (CA.out _).mono fun e w'' ⟨he, h2⟩ => ⟨he, ⟨⟨w'', θ.2.trans h2 (by simp)⟩, rfl⟩⟩, hid fun θ => (QVM.out _).mono fun e w'' ⟨he, h2⟩ => ⟨he, ⟨⟨w'', θ.2.trans h2 (by simp)⟩, rfl⟩⟩, hid fun θ => (QRM.out _).mono fun e w'' ⟨he, h2⟩ => ⟨he, ⟨⟨w'', θ.2.trans h2 (by simp)⟩, rfl⟩⟩, hid fun θ => (QCK.out _ (tt.trans θ.2 (by simp))).mono fun e w'' ⟨he, h2⟩ => ⟨he, ⟨⟨w'', θ.2.trans h2 (by simp)⟩, rfl⟩⟩, hid fun θ => (QRK.out _ (tt.trans θ.2 (by simp))).mono fun e w'' ⟨he, h2⟩ => ⟨he, ⟨⟨w'', θ.2.trans h2 (by simp)⟩, rfl⟩⟩, hid fun θ => (QGK.out _ θ.2).mono fun e w'' ⟨he, h2⟩ => ⟨he, ⟨⟨w'', θ.2.trans h2 (by simp)⟩, rfl⟩⟩, hid fun θ => (QXD.out _ (tt.trans θ.2 (by simp))).mono fun e w'' ⟨he, h2⟩ => ⟨he, ⟨⟨w'', θ.2.trans h2 (by simp)⟩, rfl⟩⟩, hid fun θ => (QCD.out _ (tt.trans θ.2 (by simp))).mono fun e w'' ⟨he, h2⟩ => ⟨he, ⟨⟨w'', θ.2.trans h2 (by simp)⟩, rfl⟩⟩, hid fun θ => (QXC.out _ (tt.trans θ.2 (by simp))).mono fun e w'' ⟨he, h2⟩ => ⟨he, ⟨⟨w'', θ.2.trans h2 (by simp)⟩, rfl⟩⟩, hid fun θ => (QRC.out _ (tt.trans θ.2 (by simp))).mono fun e w'' ⟨he, h2⟩ => ⟨he, ⟨⟨w'', θ.2.trans h2 (by simp)⟩, rfl⟩⟩⟩
        have Hθ := hid hθ0
        have inst : Nonempty ι := ⟨θ0⟩
        clear hθ0
        clear CA QVM QRM QCK QRK QGK QXD QCD QXC QRC KA9 KB9 KX9 C77 K10 K11 E10 E11 EX9 ECX EDX T9 t10 t6 tt
        clear KA KB BA BB HC HD T8 T8w Tw
        refine wp_region_held f θ0 (by kernel_rfl) (by kernel_rfl) Hθ.out ?_
        simp only [List.append]
        repeat go_big_quiet_step (first | with_reducible exact G0.out _ | with_reducible exact G1.out _ | with_reducible exact G2.out _ | with_reducible exact G3.out _ | with_reducible exact G4.out _ | with_reducible exact G5.out _ | with_reducible exact G6.out _ | with_reducible exact G7.out _ | with_reducible exact G8.out _ | with_reducible exact G9.out _)
        refine wpQuiet_nil ?_
        intro _ hw'
        obtain ⟨θ, hw''⟩ := hw'
        subst hw''
        have T99 := hid (FW.out θ)
        go_wp2
        go_ret
        exact ⟨rfl, T99.out⟩

theorem walk_EventTells (c : CmdD) (x : Option Addr) (cx : Nat) (okc : c.Ok) (d : CmdD) (y : Option Addr) (dx : Nat) (okd : d.Ok) (b : ByteArray) (_wb : b.size ≤ maxLen) (w : World) (hc : Evs w x cx c.evs) (hd : Evs w y dx d.evs) :
    Calls Try.prog 3 #[c.agg x cx, d.agg y dx, .string b] w fun e w' => e = .returned (.bool true) ∧ Touch [] w w' := by
  by_cases h1 : smallC c = true
  rotate_left
  · exact tells_early c x cx okc d y dx okd b w hc.ev hd.ev (.inl (by simpa using h1))
  by_cases h2 : smallC d = true
  rotate_left
  · exact tells_early c x cx okc d y dx okd b w hc.ev hd.ev (.inr (.inl ⟨h1, by simpa using h2⟩))
  by_cases h3 : b.size ≤ 4000
  rotate_left
  · exact tells_early c x cx okc d y dx okd b w hc.ev hd.ev (.inr (.inr ⟨h1, h2, by omega⟩))
  exact tells_good c x cx okc d y dx okd b w hc hd h1 h2 h3
end Go.Proofs.Ytcihnfgfficmlaa
