/- finish, shorten. -/
import Derived.Test.YtjjocnkockeacaaGreatDoorYLw11
namespace Go.Proofs.YtjjocnkockeacaaGreatDoor
open Go.RowKit Go.Lib
set_option maxRecDepth 100000

set_option maxHeartbeats 1000000 in
theorem lfinish_any {O : List Nat} {W w : World} {d b : Nat} {k k1 k2 : Dk} {S : Lg} (h : LD O W w d k b S) (m z cnt : Nat) (hp : S.parts[m]? = some (z, cnt)) (hm2 : m < 100) (hcnt : cnt ≤ 1000000) (hs : Sm k 33) (hs1 : Sm k1 0)
    (he : appendD k (nameK m) (finB m cnt) = (0, k1)) (he2 : syncD k1 (nameK m) = (0, k2)) :
    Calls Tryz.prog 75 #[.pointer (some ⟨b, 0, none⟩), .int .i64 m] w fun e w' => e = .returned (.int .i64 0) ∧ LD O W w' d k2 b S := by
  have HL := hid h
  obtain ⟨rv, kv, L, pv, lv, own, H⟩ := h
  obtain ⟨c0, c1, c2, c3, c4, c5, c6, c7, c8, c9⟩ := lg_cell H.log.cells
  obtain ⟨x, c, rfl, hnc, -, hPt⟩ := part_form H.log.parts
  have hmn : m < S.parts.length := (List.getElem?_eq_some_iff.1 hp).1
  obtain ⟨g, rfl, g1, g2⟩ := hPt m hmn
  have hpm : S.parts[m] = (z, cnt) := (List.getElem?_eq_some_iff.1 hp).2
  rw [hpm] at g2
  have i1 : decide (m < S.parts.length) = true := by simpa using hmn
  have CFI := hid (finish_any m cnt w (by omega))
  have hfv : FinishV m cnt = .tuple #[.string (finB m cnt), .int .i64 0] := by
    unfold FinishV finB
    rw [if_neg (by omega)]
    rfl
  rw [hfv] at CFI
  have CF := hid fun w' (t : Touch [] w w') => file_any (t.heap H.log.cells (by simp)) m hm2
  have CA := hid fun w' (t : Touch [] w w') => append_ld (HL.out.touch t) (by rw [finB_size]; exact hs) he
  have CF2 := hid fun w' (h' : LD O W w' d k1 b S) => file_ld h' m hm2
  have CS2 := hid fun w' (h' : LD O W w' d k1 b S) => sync_ld h' hs1 he2
  have S0 := hid fun w' (t : Touch [] w w') => t.cell c0
  clear hfv H hPt hpm hp he he2 c1 c2 c4 c5 c6 c7 c8 c9
  generalize finB m cnt = fb at *
  generalize nameK m = nm at *
  go_enter Tryz.func75, Tryz.ntmps75
  go_wp2_with (go_at_call 95; refine CFI.out.mono ?_; rintro e w1 ⟨rfl, t1⟩; have T1 := hid t1; clear t1)
  have c01 : w1.cell? ⟨b, 0, none⟩ = some (.pointer (some ⟨d, 0, none⟩)) := S0.out w1 T1.out
  have c02 : w1.drew.cell? ⟨b, 0, none⟩ = some (.pointer (some ⟨d, 0, none⟩)) := c01
  go_region_held3 (fun w' => w'.cell? ⟨b, 0, none⟩ = some (.pointer (some ⟨d, 0, none⟩))) (first | go_keep | assumption | exact S0.out _ (by first | assumption | exact T1.out.drew | exact T1.out)) ((first
    | (go_at_call 41; refine (CF.out _ (by first | exact T1.out.drew | exact T1.out)).mono ?_; rintro e w3 ⟨rfl, t3⟩; have T3 : Touch [] w w3 := T1.out.drew.trans t3 (by simp); clear t3)
    | (go_at_call 46; refine (CA.out _ (by assumption)).mono ?_; rintro e w4 ⟨rfl, h4⟩; have H4 := hid h4; have q0 := ld_c0 h4; clear h4)))
  clear T3
  go_wp2_with fail
  have q1 : w4.cell? ⟨b, 0, none⟩ = some (.pointer (some ⟨d, 0, none⟩)) := ld_c0 H4.out
  have q2 : w4.drew.cell? ⟨b, 0, none⟩ = some (.pointer (some ⟨d, 0, none⟩)) := q1
  have H4d := hid (H4.out.touch (Touch.refl [] w4).drew)
  go_region_held3 (fun w' => w'.cell? ⟨b, 0, none⟩ = some (.pointer (some ⟨d, 0, none⟩))) (first | go_keep | assumption) ((first
    | (go_at_call 41; refine (CF2.out _ (by first | exact H4d.out | exact H4.out)).mono ?_; rintro e w5 ⟨rfl, h5⟩; have H5 := hid h5; have q5 := ld_c0 h5; clear h5)
    | (go_at_call 40; refine (CS2.out _ H5.out).mono ?_; rintro e w6 ⟨rfl, h6⟩; have H6 := hid h6; have q6 := ld_c0 h6; clear h6)))
  clear q1 q2 q5 q6
  go_wp2_with fail
  go_ret
  exact ⟨rfl, H6.out⟩
set_option maxHeartbeats 2000000 in
theorem lshorten_any {O : List Nat} {W w : World} {d b : Nat} {k k1 : Dk} {S : Lg} (h : LD O W w d k b S) (m z cnt : Nat) (hm : S.parts.length = m + 1) (hp : S.parts[m]? = some (z, cnt)) (hm2 : m < 100) (hcnt : cnt ≤ 1000000) (hz : ∀ p ∈ S.parts, 100 ≤ p.1 ∧ p.1 ≤ 1000000)
    (l : List ByteArray) (x : Option Addr) (c n : Nat) (hx : TxR w x l) (hn : l.length = n) (hl : takenN l ≤ 1000000000) (hs : Sm k 0) (he : truncD k (nameK m) ((33 + takenN l : Nat) : Int) = (0, k1)) :
    Calls Tryz.prog 43 #[.pointer (some ⟨b, 0, none⟩), .slice x n c] w fun e w' => e = .returned (.int .i64 0) ∧ LD O W w' d k1 b { S with parts := S.parts.set m (z, n), used := takenN l } := by
  have HL := hid h
  obtain ⟨rv, kv, L, pv, lv, own, H⟩ := h
  obtain ⟨c0, c1, c2, c3, c4, c5, c6, c7, c8, c9⟩ := lg_cell H.log.cells
  obtain ⟨y, cy, rfl, hnc, -, -⟩ := part_form H.log.parts
  rw [hm] at c3 hnc
  have CT := hid fun w' (t : Touch [] w w') => taken_any c (hx.touch t) hn hl
  have CF := hid fun w' (h' : LD O W w' d k b S) => file_ld h' m hm2
  have CE := hid fun w' (h' : LD O W w' d k b S) => lend_ld h' m (takenN l) hm hm2 hl hz
  have CTR := hid fun w' (h' : LD O W w' d k b S) => trunc_ld h' hs he
  have HT := hid fun w' (t : Touch [] w w') => HL.out.touch t
  have htk : takenN l = (cat l).length + 13 * l.length := rfl
  rw [← htk] at CT
  have hcast : ((33 + takenN l : Nat) : Int) = 33 + ((takenN l : Nat) : Int) := by omega
  rw [hcast] at CE CTR
  clear H he htk hcast c1 c2 c4 c5 c6 c7 c8 c9
  generalize takenN l = u at *
  generalize nameK m = nm at *
  go_enter Tryz.func43, Tryz.ntmps43
  go_wp2_with fail
  obtain ⟨ι, f, ⟨θ0, hθ0⟩, inst, FT, FE⟩ := held_class w
  have F1 : ∀ θ, (f θ).cell? ⟨b, 3, none⟩ = some (.slice y (m + 1) cy) := fun θ => (FT.out θ).cell c3
  have FR := hid fun θ => (CT.out (f θ) (FT.out θ)).mono fun e w'' ⟨he, h2⟩ => And.intro he (FE.out w'' ((FT.out θ).trans h2 (by simp)))
  refine wp_region_held f θ0 (by kernel_rfl) (by kernel_rfl) hθ0 ?_
  repeat go_big_quiet_step (exact FR.out _)
  refine wpQuiet_nil ?_
  rintro _ ⟨θ, rfl⟩
  have H1 := hid (HT.out _ (FT.out θ))
  obtain ⟨w1, hw1⟩ : ∃ w1, w1 = f θ := ⟨_, rfl⟩
  rw [← hw1] at H1 ⊢
  clear hw1 F1 FR hθ0 inst FT FE CT HT c0 c3
  go_wp2_with fail
  have q1 : w1.cell? ⟨b, 0, none⟩ = some (.pointer (some ⟨d, 0, none⟩)) := ld_c0 H1.out
  have q2 : w1.drew.cell? ⟨b, 0, none⟩ = some (.pointer (some ⟨d, 0, none⟩)) := q1
  have H1d := hid (H1.out.touch (Touch.refl [] w1).drew)
  go_region_held3 (fun w' => w'.cell? ⟨b, 0, none⟩ = some (.pointer (some ⟨d, 0, none⟩))) (first | go_keep | assumption) ((first
    | (go_at_call 41; refine (CF.out _ (by first | exact He.out | exact H1d.out)).mono ?_; rintro e w5 ⟨rfl, h5⟩; have Hf := hid h5; have q5 := ld_c0 h5; clear h5)
    | (go_at_call 71; refine (CE.out _ (by first | exact Hf.out | exact H1d.out)).mono ?_; rintro e w6 ⟨rfl, h6⟩; have He := hid h6; have q6 := ld_c0 h6; clear h6)
    | (go_at_call 81; refine (CTR.out _ (by first | exact He.out | exact Hf.out)).mono ?_; rintro e w7 ⟨rfl, h7⟩; have H7 := hid h7; have q7 := ld_c0 h7; clear h7)))
  clear q1 q2 q7 CTR CE CF Hf He H1 H1d HL q5 q6 hx
  obtain ⟨O1, hO1, hLD⟩ := H7.out.anew
  obtain ⟨rv8, kv8, L8, pv8, lv8, own8, H8⟩ := H7.out
  have hWw := hid H8.t
  obtain ⟨e0, e1, e2, e3, e4, e5, e6, -⟩ := lg_cell H8.log.cells
  have f3 := free_of H8.log.cells 3
  have f4 := free_of H8.log.cells 4
  have CP := hid (clone_pt H8.log.parts (by omega))
  obtain ⟨y8, c8, rfl, hnc8, -, -⟩ := part_form H8.log.parts
  rw [hm] at CP e3
  have HLD := hid hLD
  have hO1h := hid hO1
  have HB8 := hid H8.log.cells
  clear hLD hO1 H8 e0 e1 e2 e5 e6
  go_wp2_with fail
  refine CP.out.mono ?_
  rintro e w8 ⟨x1, k2, rfl, hO8, t8⟩
  have T8 := hid t8
  have c83 := t8.cell e3
  have c84 := t8.cell e4
  have hb8 := t8.heap HB8.out (by simp)
  have f83 := free_of hb8 3
  have f84 := free_of hb8 4
  have O8 := hid hO8
  have HB9 := hid hb8
  obtain ⟨x', c', hx', -, -, hPt⟩ := part_form (l := S.parts) (by rw [hm]; exact hO8)
  rw [hm] at hx'
  simp only [Value.slice.injEq, true_and] at hx'
  obtain ⟨rfl, rfl⟩ := hx'
  obtain ⟨g1, rfl, -, hcn⟩ := hPt m (by omega)
  have hg1 := hid (own_base hO8 g1 (by simp [Value.ownBlock]))
  have hg2 := hid (own_lt hO8 g1 (by simp [Value.ownBlock]))
  have hfr : w8.frozen? ⟨g1, m * 2 + 1, none⟩ = false := by
    rcases hO8.2 with ⟨h2, _⟩ | ⟨g', cap, cur, hv, _, hg, _⟩
    · cases h2
    · simp only [Value.slice.injEq, Option.some.injEq, Addr.mk.injEq] at hv
      obtain ⟨⟨rfl, _⟩, _, rfl⟩ := hv
      exact free_of hg _
  have nbg : b ≠ g1 := by
    have hbl := lt_of_block HB8.out
    have := hg1.out
    omega
  have ngb : g1 ≠ b := fun e => nbg e.symm
  have i1 : decide (m < m + 1) = true := by simp
  clear e3 e4 f3 f4 t8 hO8 hPt hb8 CP
  go_wp2_with fail
  obtain ⟨rv9, kv9, L9, pv9, lv9, own9, H9⟩ := HLD.out w8 T8.out
  go_ret
  refine ⟨rfl, ?_⟩
  refine LDIs.parted (w := w7) (pv' := .slice (some ⟨g1, 0, none⟩) (m + 1) k2) H9 hO1h.out (hWw.out.trans T8.out (by simp)) hWw.out.size hg1.out hg2.out ((((Touch.refl _ _).setCell (.inl (by simp)) _).setCell (.inl (by simp)) _).setCell (.inl (by simp)) _) ?_ ?_ (by simp [Value.ownBlock]) rfl
  · have e := heap_set (i := 4) (heap_set (i := 3) H9.log.cells (.slice (some ⟨g1, 0, none⟩) (m + 1) k2)) (.int .i64 (u : Int))
    exact (heap_set_other (p := ⟨g1, m * 2 + 1, none⟩) _ nbg).trans e
  · show World.ownsRow _ 0 tPart 2 _ (S.parts.set m (z, n)).length (partVals (S.parts.set m (z, n)))
    rw [List.length_set, hm]
    refine row_count (v := n) (own_touch (own_zero O8.out) (((Touch.refl [b] _).setCell (.inl (by simp)) _).setCell (.inl (by simp)) _) (fun i hi hmm => ?_)) hp
    have hi' : i = g1 := by simpa [Value.ownBlock] using hi
    rw [hi'] at hmm
    have : g1 = b := by simpa using hmm
    exact ngb this
end Go.Proofs.YtjjocnkockeacaaGreatDoor
