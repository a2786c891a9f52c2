/- Open of a disk that has no files. Open of a disk that has no files. A log by its chunks, opened, appended to, read. alive of chapter 11. -/
import Derived.Test.YtjjocnkockeacaaGreatDoorZs
namespace Go.Proofs.YtjjocnkockeacaaGreatDoor
open Go.RowKit Go.Lib
set_option maxRecDepth 100000

theorem lload_empty {O : List Nat} {W w : World} {d b : Nat} {k : Dk} {S : Lg} (h : LD O W w d k b S) (l : List ByteArray) (hl : listD k nmP = l) (hs : ∀ s ∈ l, 1 ≤ s.size ∧ s.size ≤ 40) (hn : l.length ≤ 200) (hf : l.filter isCh = []) :
    Calls Tryz.prog 33 #[.pointer (some ⟨b, 0, none⟩)] w fun e w' => e = .returned (.tuple #[.bool false, .int .i64 0]) ∧ LD O W w' d k b S := by
  have CF := hid (files_any h l hl hs hn)
  rw [hf] at CF
  have HL := hid h
  clear hl hs hn hf h
  go_enter Tryz.func33, Tryz.ntmps33
  go_wp2_with fail
  refine CF.out.mono ?_
  rintro e w1 ⟨v, rfl, hO, t1⟩
  obtain ⟨x, c, rfl, hc1, hc2, hob, hTx, -, hxa⟩ := row_form (l := []) hO
  have H1 := hid (HL.out.touch t1)
  simp only [List.length_nil]
  clear hO t1 hob hxa hTx hc1 hc2
  go_wp2_with fail
  go_loopw [15] (fun iv wr => iv = .int .i64 0 ∧ Hid (wr = w1)) (fun iv _ => 0)
  case atStart => exact ⟨rfl, hid rfl⟩
  case round =>
    obtain ⟨rfl, hwr⟩ := hrel
    obtain rfl : wr = w1 := hwr.out
    go_wp2
    go_ret2
    exact ⟨rfl, H1.out⟩
theorem lsyncall_empty {w : World} {b d : Nat} {S : Lg} {pv lv : Value} {own : List Nat} (h : LgIs w d b S pv lv own) (hp : S.parts = []) :
    Calls Tryz.prog 72 #[.pointer (some ⟨b, 0, none⟩)] w fun e w' => e = .returned (.int .i64 0) ∧ w' = w := by
  obtain ⟨-, -, -, c3, -⟩ := lg_cell h.cells
  obtain ⟨x, c, hpv, -⟩ := part_form h.parts
  rw [hp] at hpv
  subst hpv
  clear h
  go_enter Tryz.func72, Tryz.ntmps72
  go_wp2_with fail
  go_loopw [17] (fun iv wr => iv = .int .i64 0 ∧ Hid (wr = w)) (fun iv _ => 0)
  case atStart => exact ⟨rfl, hid rfl⟩
  case round =>
    obtain ⟨rfl, hwr⟩ := hrel
    obtain rfl : wr = w := hwr.out
    go_wp2
    go_ret
    exact ⟨rfl, rfl⟩
theorem lmendmark_none {O : List Nat} {W w : World} {d b : Nat} {k : Dk} {S : Lg} (h : LD O W w d k b S) (h1 : sizeD k nmMark = (0, 8)) :
    Calls Tryz.prog 73 #[.pointer (some ⟨b, 0, none⟩)] w fun e w' => e = .returned (.int .i64 0) ∧ Touch [] w w' := by
  have CR := hid (lread_none h h1)
  obtain ⟨rv, kv, L, pv, lv, own, H⟩ := h
  obtain ⟨-, c1, -⟩ := lg_cell H.log.cells
  have hnm : nmP ++ ⟨#[109, 97, 114, 107]⟩ = nmMark := rfl
  clear H h1
  go_enter Tryz.func73, Tryz.ntmps73
  go_wp2_with fail
  refine CR.out.mono ?_
  rintro e w1 ⟨rfl, t1⟩
  have T1 := hid t1
  clear t1
  go_wp2_with fail
  go_ret
  exact ⟨rfl, T1.out⟩
theorem lmend_empty {O : List Nat} {W w : World} {d b : Nat} {k : Dk} {S : Lg} (h : LD O W w d k b S) (hp : S.parts = []) (h1 : sizeD k nmMark = (0, 8)) (h2 : removeD k nmNew = (8, k)) (hs : Sm k 0) :
    Calls Tryz.prog 34 #[.pointer (some ⟨b, 0, none⟩), .bool false] w fun e w' => e = .returned (.int .i64 0) ∧ LD O W w' d k b S := by
  have HD := hid (ldiscard_any h hs h2 (.inr (.inl rfl)))
  obtain ⟨rv, kv, L, pv, lv, own, H⟩ := h
  obtain ⟨-, c1, -, c3, -⟩ := lg_cell H.log.cells
  obtain ⟨x, c, hpv, -⟩ := part_form H.log.parts
  rw [hp] at hpv
  subst hpv
  have hnm : nmP ++ ⟨#[110, 101, 119]⟩ = nmNew := rfl
  have CS := hid fun w' pv lv own (h : LgIs w' d b S pv lv own) => lsyncall_empty h hp
  have CM := hid fun w' (h : LD O W w' d k b S) => lmendmark_none h h1
  clear H h1 h2 hs
  go_enter Tryz.func34, Tryz.ntmps34
  go_wp2_with fail
  refine HD.out.mono ?_
  rintro e w1 ⟨rfl, h5⟩
  have H5 := hid h5
  obtain ⟨rv5, kv5, L5, pv5, lv5, own5, H5'⟩ := h5
  obtain ⟨-, c15, -, c35, -⟩ := lg_cell H5'.log.cells
  obtain ⟨x5, d5, hpv, -⟩ := part_form H5'.log.parts
  rw [hp] at hpv
  subst hpv
  have HS := hid (CS.out _ _ _ _ H5'.log)
  clear H5' c1 c3
  go_wp2_with fail
  refine HS.out.mono ?_
  rintro e w2 ⟨rfl, rfl⟩
  have HM := hid (CM.out _ H5.out)
  go_wp2_with fail
  refine HM.out.mono ?_
  rintro e w3 ⟨rfl, t3⟩
  have H6 := hid (H5.out.touch t3)
  clear t3
  go_wp2_with fail
  go_ret
  exact ⟨rfl, H6.out⟩
end Go.Proofs.YtjjocnkockeacaaGreatDoor

namespace Go.Proofs.YtjjocnkockeacaaGreatDoor
open Go.RowKit Go.Lib
set_option maxRecDepth 100000

def lg0 (z : Nat) : Lg := ⟨z, [], 0, [], 0, 0, 0⟩
theorem made0 {O : List Nat} {W w : World} {d z : Nat} {k : Dk} (h : Left d O W k w) : LD O W (w.alloc (.cells (lgCells d (lg0 z) (.slice none 0 0) (.pointer none)) tLog)) d k w.heap.size (lg0 z) := by
  refine LD.made (own := []) h ((Touch.refl _ _).alloc _) ⟨heap_alloc_new _ _, World.ownsRow_nil _ _ _ _, .inl ⟨rfl, rfl, rfl⟩⟩ ?_
  intro i hi
  simp [lgOwn, Value.ownBlock] at hi
  omega
theorem open_empty {O : List Nat} {W w : World} {d z : Nat} {k : Dk} (h : Left d O W k w) (hg : Gd k []) (h1 : 100 ≤ z) (h2 : z ≤ 1000000) :
    Calls Tryz.prog 9 #[.pointer (some ⟨d, 0, none⟩), .string nmP, .int .i64 z] w fun e w' => ∃ b, e = .returned (.tuple #[.pointer (some ⟨b, 0, none⟩), .int .i64 0]) ∧ LD O W w' d k b (lg0 z) := by
  have CS := hid (start_any 0 z w (by omega))
  have hS : StartV 0 z = .tuple #[.string (stB z 0), .int .i64 0] := by
    unfold StartV stB
    rw [if_neg (by omega)]
    rfl
  rw [hS] at CS
  have hL := hid (show listD k nmP = [] from by unfold listD; rw [hg.files]; simp)
  have hM := hid (show sizeD k nmMark = (0, 8) from hg.size_none okN_mark (by simp))
  have hN := hid (show removeD k nmNew = (8, k) from hg.remove_none okN_new (by simp))
  have hSm := hid (hg.sm (n := 0) (by simp [used]))
  have HL := hid h
  clear h hg hS
  have hp : nmP = ⟨#[112]⟩ := rfl
  have hp1 : nmP.size = 1 := rfl
  have CC := hid fun w => clstr_any nmP w (by decide)
  go_enter Tryz.func9, Tryz.ntmps9
  go_wp2_with (go_at_call 31; refine CS.out.mono ?_; rintro e w1 ⟨rfl, t1⟩; have T1 := hid t1; clear t1)
  refine (CC.out _).mono ?_
  rintro e w2 ⟨rfl, t2⟩
  have H2 := hid (HL.out.touch (T1.out.trans t2 (by simp)))
  clear t2
  have LA := hid (made0 (z := z) H2.out)
  go_wp2_with fail
  refine (lload_empty LA.out [] hL.out (by simp) (by simp) rfl).mono ?_
  rintro e w3 ⟨rfl, h3⟩
  have H3 := hid h3
  clear h3
  go_wp2_with fail
  refine (lmend_empty H3.out rfl hM.out hN.out hSm.out).mono ?_
  rintro e w4 ⟨rfl, h4⟩
  have H4 := hid h4
  clear h4
  have CL := hid (len_ld H4.out)
  obtain ⟨k7, z7⟩ := ld_c7 H4.out
  have H5 := hid (ld_synced H4.out 0)
  clear LA H2
  generalize w2.heap.size = b at *
  go_wp2_with (first
    | (go_at_call 17; refine CL.out.mono ?_; rintro e w1 ⟨rfl, hw1⟩; rw [hw1]))
  go_ret2
  exact ⟨b, rfl, H5.out⟩
end Go.Proofs.YtjjocnkockeacaaGreatDoor

namespace Go.Proofs.YtjjocnkockeacaaGreatDoor
open Go.RowKit Go.Lib
set_option maxRecDepth 100000

theorem gd_new : Gd (newD 0) [] := ⟨rfl, rfl, rfl, by decide, rfl, by simp [Sorted]⟩
theorem lst_open {O : List Nat} {W w : World} {d z : Nat} {k : Dk} (h : Left d O W k w) (hg : Gd k []) (h1 : 100 ≤ z) (h2 : z ≤ 1000000) :
    Calls Tryz.prog 9 #[.pointer (some ⟨d, 0, none⟩), .string ⟨#[112]⟩, .int .i64 z] w fun e w' => ∃ b, e = .returned (.tuple #[.pointer (some ⟨b, 0, none⟩), .int .i64 0]) ∧ Lst O W w' d b z [] 0 true [] 0 k (lg0 z) := by
  refine (open_empty h hg h1 h2).mono ?_
  rintro e w' ⟨b, rfl, hl⟩
  exact ⟨b, rfl, hl, hg, ⟨rfl, rfl, rfl, rfl, fun i l h => by simp at h⟩, ⟨h1, h2, by simp, by simp, by simp⟩, rfl⟩
section
variable {O : List Nat} {W w : World} {d b z : Nat} {cs : List (List ByteArray)} {sy : Nat} {la : Bool} {tail : List Fl} {mk : Nat} {k : Dk} {S : Lg}
theorem Lst.touch {w' : World} (h : Lst O W w d b z cs sy la tail mk k S) (t : Touch [] w w') : Lst O W w' d b z cs sy la tail mk k S := ⟨h.ld.touch t, h.gd, h.sg, h.bd, h.mrk⟩
theorem Lst.t (h : Lst O W w d b z cs sy la tail mk k S) : Touch O W w := ld_touch h.ld
theorem Lst.anew (h : Lst O W w d b z cs sy la tail mk k S) : ∃ O', (∀ i ∈ O', (i ∈ O ∨ W.heap.size ≤ i) ∧ i < w.heap.size) ∧ ∀ w', Touch [] w w' → Lst O' w' w' d b z cs sy la tail mk k S := by
  obtain ⟨O', h1, h2⟩ := h.ld.anew
  exact ⟨O', h1, fun w' t => ⟨h2 w' t, h.gd, h.sg, h.bd, h.mrk⟩⟩
theorem lst_len (h : Lst O W w d b z cs sy la tail mk k S) : Calls Tryz.prog 17 #[.pointer (some ⟨b, 0, none⟩)] w fun e w' => e = .returned (.int .i64 cs.flatten.length) ∧ w' = w := by
  have := len_ld h.ld
  rw [h.sg.bodies] at this
  exact this
theorem lst_get (h : Lst O W w d b z cs sy la tail mk k S) (n : Nat) (s : ByteArray) (hn : cs.flatten[n]? = some s) : Calls Tryz.prog 12 #[.pointer (some ⟨b, 0, none⟩), .int .i64 n] w fun e w' => e = .returned (.tuple #[.string s, .int .i64 0]) ∧ Touch [] w w' := by
  obtain ⟨rv, kv, L, pv, lv, own, H⟩ := h.ld
  obtain ⟨hlt, rfl⟩ := List.getElem?_eq_some_iff.1 hn
  have hb := h.sg.bodies
  have hsm := h.bd.small _ (List.getElem_mem hlt)
  have hm := h.bd.many
  have hlt' : n < S.bodies.length := by rw [hb]; exact hlt
  have he : S.bodies[n]'hlt' = cs.flatten[n] := by simp only [hb]
  have := lget_any H.log h.sg.broken n hlt' (by rw [hb]; omega) (by rw [he]; omega)
  rw [he] at this
  exact this
theorem lst_range (h : Lst O W w d b z cs sy la tail mk k S) (n m : Nat) (hn : n < cs.flatten.length) (hm : m ≤ 100000) : Calls Tryz.prog 20 #[.pointer (some ⟨b, 0, none⟩), .int .i64 n, .int .i64 m] w fun e w' => ∃ v, e = .returned v ∧ w'.ownsRow w.heap.size tStg 1 v ((cs.flatten.drop n).take m).length (txtVals ((cs.flatten.drop n).take m)) ∧ Touch [] w w' := by
  obtain ⟨rv, kv, L, pv, lv, own, H⟩ := h.ld
  have hb := h.sg.bodies
  have hm2 := h.bd.many
  have := lrange_any H.log n m (by rw [hb]; exact hn) hm (by rw [hb]; omega) (fun s hs => by rw [hb] at hs; have := h.bd.small s hs; omega)
  rw [hb] at this
  exact this
theorem lst_back (h : Lst O W w d b z cs sy la tail mk k S) (n m a q : Nat) (ha : a = min n (cs.flatten.length - 1)) (hq : q = min m (a + 1)) (hn : cs.flatten.length ≠ 0) (hm : m ≤ 100000) (h1 : 1 ≤ m) : Calls Tryz.prog 21 #[.pointer (some ⟨b, 0, none⟩), .int .i64 n, .int .i64 m] w fun e w' => ∃ v, e = .returned v ∧ w'.ownsRow w.heap.size tStg 1 v q (txtVals ((cs.flatten.drop (a + 1 - q)).take q).reverse) ∧ Touch [] w w' := by
  obtain ⟨rv, kv, L, pv, lv, own, H⟩ := h.ld
  have hb := h.sg.bodies
  have hm2 := h.bd.many
  have := lback_any H.log n m a q (by rw [hb]; exact ha) hq (by rw [hb]; exact hn) hm h1 (by rw [hb]; omega) (fun s hs => by rw [hb] at hs; have := h.bd.small s hs; omega)
  rw [hb] at this
  exact this
end
end Go.Proofs.YtjjocnkockeacaaGreatDoor

namespace Go.Proofs.YtjjocnkockeacaaGreatDoor
open Go.RowKit Go.Lib
set_option maxRecDepth 100000

theorem two_lit {w : World} {g : Nat} {a b : ByteArray} {fz : Nat × Nat} (hc : w.heap[g]? = some (.cells #[.string a, .string b] tStg fz)) : TxR w (some ⟨g, 0, none⟩) [a, b] := by
  intro i hi
  rcases i with _ | _ | i
  · exact ⟨g, 0, rfl, cell_of hc 0⟩
  · exact ⟨g, 0, rfl, cell_of hc 1⟩
  · simp at hi; omega
def ab2 : List (List ByteArray) := addAll 200 [] [⟨#[97]⟩, ⟨#[98]⟩]
theorem ab2_flat : ab2.flatten = [⟨#[97]⟩, ⟨#[98]⟩] := by unfold ab2; rw [addAll_flat]; rfl
theorem append_ab {w : World} {d b : Nat} {k : Dk} {S : Lg} {sy : Nat} {la : Bool} {mk : Nat} {W : World} (h : Lst [] W w d b 200 [] sy la [] mk k S) :
    Calls Tryz.prog 11 #[.pointer (some ⟨b, 0, none⟩), .slice (some ⟨w.heap.size, 0, none⟩) 2 2] (w.alloc (.cells #[.string ⟨#[97]⟩, .string ⟨#[98]⟩] tStg)) fun e w' => e = .returned (.tuple #[.int .i64 0, .int .i64 0]) ∧ Touch [] W w' ∧ ∃ O' W' k' S' sy' la', Lst O' W' w' d b 200 ab2 sy' la' [] mk k' S' := by
  obtain ⟨O', ho, hl⟩ := h.anew
  have t := (Touch.refl [] w).alloc (.cells #[.string ⟨#[97]⟩, .string ⟨#[98]⟩] tStg)
  have hn : w.heap.size ∉ O' := fun hm => Nat.lt_irrefl _ (ho _ hm).2
  refine (lappend_ok (hl _ t) [⟨#[97]⟩, ⟨#[98]⟩] (some ⟨w.heap.size, 0, none⟩) 2 2 (fun w' t' => two_lit (t'.heap (heap_alloc_new _ _) hn)) rfl ?_ (by decide) (by decide)).mono ?_
  · have := room_zero (z := 200) (by omega)
    intro s hs
    simp at hs
    rcases hs with rfl | rfl <;> (show (1 : Int) ≤ _; omega)
  · rintro e w' ⟨rfl, k', S', sy', la', hl'⟩
    exact ⟨rfl, (h.t.trans t (by simp)).trans hl'.t fun i hi => (ho i hi).1, O', _, k', S', sy', la', hl'⟩
theorem alive_true (w : World) : Calls Tryz.prog 8 #[] w fun e w' => e = .returned (.bool true) ∧ Touch [] w w' := by
  have CN := hid (new_left 0 w)
  have CO := hid fun d w1 (h : Left d [] w (newD 0) w1) => lst_open (z := 200) h gd_new (by omega) (by omega)
  go_enter Tryz.func8, Tryz.ntmps8
  go_wp2_with fail
  refine CN.out.mono ?_
  rintro e w1 ⟨d, rfl, h1⟩
  have H1 := hid (CO.out _ _ h1)
  clear h1
  go_wp2_with fail
  refine H1.out.mono ?_
  rintro e w2 ⟨b, rfl, h2⟩
  have H2 := hid (append_ab h2)
  clear h2
  go_wp2_with fail
  refine H2.out.mono ?_
  rintro e w3 ⟨rfl, t3, O3, W3, k3, S3, sy3, la3, h3⟩
  have T3 := hid t3
  have H3 := hid h3
  have H3g := hid (lst_get h3 1 ⟨#[98]⟩ (by rw [ab2_flat]; rfl))
  clear h3 t3
  go_wp2_with fail
  refine H3g.out.mono ?_
  rintro e w4 ⟨rfl, t4⟩
  have T4 := hid (T3.out.trans t4 (by simp))
  have H4 := hid (H3.out.touch t4)
  have H4b := hid (lst_back H4.out 5 9 1 2 (by rw [ab2_flat]; rfl) rfl (by rw [ab2_flat]; simp) (by omega) (by omega))
  rw [ab2_flat] at H4b
  clear t4
  go_wp2_with fail
  refine H4b.out.mono ?_
  rintro e w5 ⟨v, rfl, hO, t5⟩
  have T5 := hid (T4.out.trans t5 (by simp))
  have H5 := hid (lst_len (H4.out.touch t5))
  rw [ab2_flat] at H5
  obtain ⟨x, c, rfl, hc1, hc2, hob, hTx, -, hxa⟩ := row_form (l := [⟨#[98]⟩, ⟨#[97]⟩]) hO
  obtain ⟨g, off, rfl, g0⟩ := hTx 0 (by simp)
  have g1 : w5.cell? ⟨g, off, none⟩ = some (.string ⟨#[98]⟩) := g0
  clear hO t5 hob hxa hTx hc1 hc2 g0
  go_wp2_with fail
  refine H5.out.mono ?_
  rintro e w6 ⟨rfl, rfl⟩
  go_wp2_with fail
  go_ret
  exact ⟨rfl, T5.out⟩
end Go.Proofs.YtjjocnkockeacaaGreatDoor
