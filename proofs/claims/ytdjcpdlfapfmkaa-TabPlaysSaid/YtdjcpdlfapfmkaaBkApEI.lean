/- The book's Apart: Ints, Entries. -/
import Derived.Test.YtdjcpdlfapfmkaaBk0
import Derived.Test.YtdjcpdlfapfmkaaBkEd
import Derived.Test.YtdjcpdlfapfmkaaBkId
namespace Go.Proofs.Ytdjcpdlfapfmkaa
set_option maxRecDepth 100000
open Go.RowKit Go.Lib Go.ChangeShapes Go.WideShapes

set_option maxHeartbeats 8000000 in
theorem apartEI_any (kb base : Nat) (c : Cs) (vsE usE : List Value) (LsE : List (List En)) (vsI usI : List Value) (LsI : List (List Int)) (W : World) (hB : BkBlk W kb c) (hKI : Kept kdI W base (c 2) (c 3) vsI usI LsI) (hKE : Kept kdE W base (c 6) (c 7) vsE usE LsE) (nT : c 0 = nilS) (nS : c 4 = nilS) (nP : c 8 = nilS) (nQ : c 10 = nilS) (hb : base ≤ W.heap.size) :
    Calls Try.prog 29 #[.pointer (some ⟨kb, 0, none⟩)] W fun e W' => e = .returned (.bool true) ∧ Newer W base W' := by
  have CT : Hid (∀ w, BkBlk w kb c → w.cell? ⟨kb, 0, none⟩ = some nilS) := hid fun w h => by have := bk_cell h 0 (by decide); rwa [show c ⟨0, by decide⟩ = nilS from nT] at this
  have CI : Hid (∀ w, BkBlk w kb c → w.cell? ⟨kb, 2, none⟩ = some (c 2)) := hid fun w h => bk_cell h 2 (by decide)
  have CS : Hid (∀ w, BkBlk w kb c → w.cell? ⟨kb, 4, none⟩ = some nilS) := hid fun w h => by have := bk_cell h 4 (by decide); rwa [show c ⟨4, by decide⟩ = nilS from nS] at this
  have CE : Hid (∀ w, BkBlk w kb c → w.cell? ⟨kb, 6, none⟩ = some (c 6)) := hid fun w h => bk_cell h 6 (by decide)
  have CP : Hid (∀ w, BkBlk w kb c → w.cell? ⟨kb, 8, none⟩ = some nilS) := hid fun w h => by have := bk_cell h 8 (by decide); rwa [show c ⟨8, by decide⟩ = nilS from nP] at this
  have CQ : Hid (∀ w, BkBlk w kb c → w.cell? ⟨kb, 10, none⟩ = some nilS) := hid fun w h => by have := bk_cell h 10 (by decide); rwa [show c ⟨10, by decide⟩ = nilS from nQ] at this
  have B0 := hid hB
  have KE0 := hid hKE
  have KI0 := hid hKI
  have N0 := hid (Newer.refl W base)
  have Z0 := hid hb
  clear hB hb hKE hKI nT nS nP nQ
  go_enter Try.func29, Try.ntmps29
  go_wp2_with fail
  refine (none_stillTexts kb _ (CT.out _ B0.out)).mono ?_
  rintro e w' ⟨rfl, rfl⟩
  go_wp2_with fail
  refine (stillI_any kb base c vsI usI LsI _ B0.out KI0.out).mono ?_
  rintro e w1 ⟨rfl, t1⟩
  have B1 := hid (bk_touch B0.out t1)
  have KE1 := hid (KE0.out.touch t1)
  have KI1 := hid (KI0.out.touch t1)
  have N1 := hid (N0.out.touch t1)
  have Z1 := hid (Nat.le_trans Z0.out t1.size)
  clear t1 KE0 KI0 N0 Z0 B0
  go_wp2_with fail
  refine (none_stillStored kb _ (CS.out _ B1.out)).mono ?_
  rintro e w' ⟨rfl, rfl⟩
  go_wp2_with fail
  refine (stillE_any kb base c vsE usE LsE _ B1.out KE1.out).mono ?_
  rintro e w2 ⟨rfl, t2⟩
  have B2 := hid (bk_touch B1.out t2)
  have KE2 := hid (KE1.out.touch t2)
  have KI2 := hid (KI1.out.touch t2)
  have N2 := hid (N1.out.touch t2)
  have Z2 := hid (Nat.le_trans Z1.out t2.size)
  clear t2 KE1 KI1 N1 Z1 B1
  go_wp2_with fail
  refine (none_stillPackets kb _ (CP.out _ B2.out)).mono ?_
  rintro e w' ⟨rfl, rfl⟩
  go_wp2_with fail
  refine (none_stillSteps kb _ (CQ.out _ B2.out)).mono ?_
  rintro e w' ⟨rfl, rfl⟩
  have RE2 := hid (KE2.out.rows1)
  clear KE2
  generalize hnsE : (fun j : Nat => (LsE[j]?.getD []).length) = nsE at *
  generalize hME : (fun j : Nat => LsE[j]?.getD []) = ME at *
  clear hnsE hME
  have RI2 := hid (KI2.out.rows1)
  clear KI2
  generalize hnsI : (fun j : Nat => (LsI[j]?.getD []).length) = nsI at *
  generalize hMI : (fun j : Nat => LsI[j]?.getD []) = MI at *
  clear hnsI hMI
  go_wp2_with fail
  refine (none_putSteps kb _ (CQ.out _ B2.out)).mono ?_
  rintro e w' ⟨rfl, rfl⟩
  go_wp2_with fail
  refine (none_putTexts kb _ (CT.out _ B2.out)).mono ?_
  rintro e w' ⟨rfl, rfl⟩
  go_wp2_with fail
  refine (putmI_any kb base c vsI nsI MI _ B2.out RI2.out).mono ?_
  rintro e w3 ⟨rfl, s3, x3, z3, r3⟩
  have B3 := hid (s3.blk B2.out (by decide))
  have RE3 := hid (RE2.out.rest s3 (by decide) (by decide))
  have RI3 := hid r3.marked
  have N3 := hid (N2.out.trans x3)
  have Z3 := hid (Nat.le_trans Z2.out z3)
  clear s3 x3 z3 r3 RE2 RI2 N2 Z2 B2
  go_wp2_with fail
  refine (none_putStored kb _ (CS.out _ B3.out)).mono ?_
  rintro e w' ⟨rfl, rfl⟩
  go_wp2_with fail
  refine (putmE_any kb base c vsE nsE ME _ B3.out RE3.out).mono ?_
  rintro e w4 ⟨rfl, s4, x4, z4, r4⟩
  have B4 := hid (s4.blk B3.out (by decide))
  have RE4 := hid r4.marked
  have RI4 := hid (RI3.out.rest s4 (by decide) (by decide))
  have N4 := hid (N3.out.trans x4)
  have Z4 := hid (Nat.le_trans Z3.out z4)
  clear s4 x4 z4 r4 RE3 RI3 N3 Z3 B3
  go_wp2_with fail
  refine (none_putPackets kb _ (CP.out _ B4.out)).mono ?_
  rintro e w' ⟨rfl, rfl⟩
  go_wp2_with fail
  refine (none_growTexts kb _ (CT.out _ B4.out)).mono ?_
  rintro e w' ⟨rfl, rfl⟩
  go_wp2_with fail
  refine (growI_any kb base c vsI nsI _ B4.out RI4.out Z4.out).mono ?_
  rintro e w5 ⟨ovI, gsI, rfl, glI, s5, x5, z5, g5, o5⟩
  have B5 := hid (s5.blk B4.out (by decide))
  have RE5 := hid (RE4.out.rest s5 (by decide) (by decide))
  have GI5 := hid g5
  have OI5 := hid (own_up (base' := 0) o5 (Nat.zero_le _))
  have LI := hid glI
  have N5 := hid (N4.out.trans x5)
  have Z5 := hid (Nat.le_trans Z4.out z5)
  clear s5 x5 z5 g5 o5 glI RE4 RI4 N4 Z4 B4
  go_wp2_with fail
  refine (none_growStored kb _ (CS.out _ B5.out)).mono ?_
  rintro e w' ⟨rfl, rfl⟩
  go_wp2_with fail
  refine (growE_any kb base c vsE nsE _ B5.out RE5.out Z5.out).mono ?_
  rintro e w6 ⟨ovE, gsE, rfl, glE, s6, x6, z6, g6, o6⟩
  have B6 := hid (s6.blk B5.out (by decide))
  have GE6 := hid g6
  have OE6 := hid (own_up (base' := 0) o6 (Nat.zero_le _))
  have LE := hid glE
  have GI6 := hid (GI5.out.rest s6 (by decide) (by decide))
  have OI6 := hid (s6.row OI5.out (by decide))
  have N6 := hid (N5.out.trans x6)
  have Z6 := hid (Nat.le_trans Z5.out z6)
  clear s6 x6 z6 g6 o6 glE RE5 GI5 OI5 N5 Z5 B5
  go_wp2_with fail
  refine (none_growPackets kb _ (CP.out _ B6.out)).mono ?_
  rintro e w' ⟨rfl, rfl⟩
  go_wp2_with fail
  refine (none_growSteps kb _ (CQ.out _ B6.out)).mono ?_
  rintro e w' ⟨rfl, rfl⟩
  have lT0 := CT.out _ B6.out
  go_wp2_with fail
  refine (none_markedTexts _).mono ?_
  rintro e w' ⟨rfl, rfl⟩
  clear lT0
  have lT1 := CT.out _ B6.out
  go_wp2_with fail
  refine (none_markedTexts _).mono ?_
  rintro e w' ⟨rfl, rfl⟩
  clear lT1
  have lI0 := CI.out _ B6.out
  go_wp2_with fail
  refine (markedI_any ovI gsI (fun j => nsI j + 72) 0 base _ OI6.out GI6.out.g1 (by have := GI6.out.r.few; have := LI.out; omega) (fun j => by have := GI6.out.r.small j; show nsI j + 72 ≤ 3200; omega)).mono ?_
  rintro e w7 ⟨rfl, t7⟩
  have B7 := hid (bk_touch B6.out t7)
  have GE7 := hid (GE6.out.touch t7)
  have OE7 := hid (owns_touch OE6.out t7)
  have GI7 := hid (GI6.out.touch t7)
  have OI7 := hid (owns_touch OI6.out t7)
  have N7 := hid (N6.out.touch t7)
  clear t7 GE6 OE6 GI6 OI6 N6 B6
  clear lI0
  have lI1 := CI.out _ B7.out
  go_wp2_with fail
  refine (markedI_any (c 2) vsI nsI base base _ GI7.out.r.own1 GI7.out.r.r1 GI7.out.r.few (fun j => by have := GI7.out.r.small j; omega)).mono ?_
  rintro e w8 ⟨rfl, t8⟩
  have B8 := hid (bk_touch B7.out t8)
  have GE8 := hid (GE7.out.touch t8)
  have OE8 := hid (owns_touch OE7.out t8)
  have GI8 := hid (GI7.out.touch t8)
  have OI8 := hid (owns_touch OI7.out t8)
  have N8 := hid (N7.out.touch t8)
  clear t8 GE7 OE7 GI7 OI7 N7 B7
  clear lI1
  have lS0 := CS.out _ B8.out
  go_wp2_with fail
  refine (none_markedStored _).mono ?_
  rintro e w' ⟨rfl, rfl⟩
  clear lS0
  have lS1 := CS.out _ B8.out
  go_wp2_with fail
  refine (none_markedStored _).mono ?_
  rintro e w' ⟨rfl, rfl⟩
  clear lS1
  have lE0 := CE.out _ B8.out
  go_wp2_with fail
  refine (markedE_any ovE gsE (fun j => nsE j + 72) 0 base _ OE8.out GE8.out.g1 (by have := GE8.out.r.few; have := LE.out; omega) (fun j => by have := GE8.out.r.small j; show nsE j + 72 ≤ 3200; omega)).mono ?_
  rintro e w9 ⟨rfl, t9⟩
  have B9 := hid (bk_touch B8.out t9)
  have GE9 := hid (GE8.out.touch t9)
  have OE9 := hid (owns_touch OE8.out t9)
  have GI9 := hid (GI8.out.touch t9)
  have OI9 := hid (owns_touch OI8.out t9)
  have N9 := hid (N8.out.touch t9)
  clear t9 GE8 OE8 GI8 OI8 N8 B8
  clear lE0
  have lE1 := CE.out _ B9.out
  go_wp2_with fail
  refine (markedE_any (c 6) vsE nsE base base _ GE9.out.r.own1 GE9.out.r.r1 GE9.out.r.few (fun j => by have := GE9.out.r.small j; omega)).mono ?_
  rintro e w10 ⟨rfl, t10⟩
  have B10 := hid (bk_touch B9.out t10)
  have GE10 := hid (GE9.out.touch t10)
  have OE10 := hid (owns_touch OE9.out t10)
  have GI10 := hid (GI9.out.touch t10)
  have OI10 := hid (owns_touch OI9.out t10)
  have N10 := hid (N9.out.touch t10)
  clear t10 GE9 OE9 GI9 OI9 N9 B9
  clear lE1
  have lP0 := CP.out _ B10.out
  go_wp2_with fail
  refine (none_markedPackets _).mono ?_
  rintro e w' ⟨rfl, rfl⟩
  clear lP0
  have lP1 := CP.out _ B10.out
  go_wp2_with fail
  refine (none_markedPackets _).mono ?_
  rintro e w' ⟨rfl, rfl⟩
  clear lP1
  have lQ0 := CQ.out _ B10.out
  go_wp2_with fail
  refine (none_markedSteps _).mono ?_
  rintro e w' ⟨rfl, rfl⟩
  clear lQ0
  have lQ1 := CQ.out _ B10.out
  go_wp2_with fail
  refine (none_markedSteps _).mono ?_
  rintro e w' ⟨rfl, rfl⟩
  clear lQ1
  go_wp2
  go_ret
  exact ⟨rfl, N10.out⟩
end Go.Proofs.Ytdjcpdlfapfmkaa
