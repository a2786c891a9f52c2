/- Light of chapter 9. -/
import Derived.Test.YthibabfojndlkaaOp9
import Derived.BigRegion
import Derived.Deep.RegionHeld3
namespace Go.Proofs.Ythibabfojndlkaa
open Go.RowKit Go.Lib
set_option maxRecDepth 100000

def OpD.wt (o : OpD) : Nat := o.name.size + o.nt.size + o.data.size + o.keep.length
def wt (l : List OpD) : Nat := (l.map OpD.wt).sum
theorem wt_snoc (l : List OpD) (i : Nat) (hi : i < l.length) : wt (l.take (i + 1)) = wt (l.take i) + l[i].wt := by
  unfold wt
  rw [List.take_succ_eq_append_getElem hi, List.map_append, List.sum_append]
  simp
theorem ints_four (w : World) (a b c d : Int) : IntsR (w.alloc (.cells #[.int .i64 a, .int .i64 b, .int .i64 c, .int .i64 d] tInt)) (some ⟨w.heap.size, 0, none⟩) [a, b, c, d] := by
  intro i hi
  have h := heap_alloc_new w (.cells #[.int .i64 a, .int .i64 b, .int .i64 c, .int .i64 d] tInt)
  refine ⟨w.heap.size, 0, rfl, ?_⟩
  rw [cell_of h]
  match i, hi with
  | 0, _ => rfl
  | 1, _ => rfl
  | 2, _ => rfl
  | 3, _ => rfl
def LightPost (l : List OpD) (w : World) (e : Ending) (w' : World) : Prop := ∃ r : Bool, e = .returned (.bool r) ∧ Touch [] w w' ∧ (r = true → l.length ≤ 80 ∧ wt l ≤ 20000)

set_option maxHeartbeats 2000000 in
theorem light_any (x : Option Addr) (c : Nat) (l : List OpD) (w : World) (hl : l.length ≤ 9223372036854775807) (hi : OpsX w x l) :
    Calls Try.prog 27 #[.slice x l.length c] w (LightPost l w) := by
  have HI := hid hi
  have HL := hid hl
  clear hi hl
  go_enter Try.func27, Try.ntmps27
  go_wp2
  go_loopw [3, 4] (fun rv iv wr => ∃ (i : Nat) (q : Int), i ≤ l.length ∧ i ≤ 200 ∧ iv = .int .i64 i ∧ rv = .int .i64 q ∧ -1 ≤ q ∧ q ≤ 20000 ∧ Hid (0 ≤ q → q + wt (l.take i) = 20000) ∧ Hid (Touch [] w wr)) (fun _ iv _ => 201 - (RowKit.intOf iv).toNat)
  case atStart => exact ⟨0, 20000, Nat.zero_le _, by omega, rfl, rfl, by omega, by omega, hid (by simp [wt]), hid (Touch.refl _ _)⟩
  case round =>
    obtain ⟨i, q, hi, hi2, rfl, rfl, hq1, hq2, hQ, T⟩ := hrel
    by_cases hlt : i < l.length
    · have hlt' : decide (i < l.length) = true := by simpa using hlt
      by_cases h2 : i < 200
      · have h2' : decide ((i : Int) < 200) = true := by rw [decide_eq_true_eq]; omega
        have h2'' : decide (i < 200) = true := by rw [decide_eq_true_eq]; omega
        by_cases h0 : 0 ≤ q
        · have h0' : decide (0 ≤ q) = true := by simpa using h0
          obtain ⟨b, off, rfl, ⟨g0, g1, g2, g3, g4, g5⟩, hok⟩ := HI.out i hlt
          have hw := hid (wt_snoc l i hlt)
          have c2 := touch_cell T.out g2 (by simp)
          have c3 := touch_cell T.out g3 (by simp)
          have c4 := touch_cell T.out g4 (by simp)
          have c5 := touch_cell T.out g5 (by simp)
          have CR : Hid (∀ (g : Nat) (w1 : World), IntsR w1 (some ⟨g, 0, none⟩) [(l[i].name.size : Int), (l[i].nt.size : Int), (l[i].data.size : Int), (l[i].keep.length : Int)] → Calls Try.prog 49 #[.int .i64 q, .slice (some ⟨g, 0, none⟩) 4 4] w1 fun e w' => e = .returned (.int .i64 (roomV q [(l[i].name.size : Int), (l[i].nt.size : Int), (l[i].data.size : Int), (l[i].keep.length : Int)])) ∧ w1 = w') := hid fun g w1 h => room_any q (some ⟨g, 0, none⟩) 4 [(l[i].name.size : Int), (l[i].nt.size : Int), (l[i].data.size : Int), (l[i].keep.length : Int)] w1 (by omega) (by simp) (by intro z hz; simp at hz; omega) h
          obtain ⟨V, hV⟩ : ∃ V, V = roomV q [(l[i].name.size : Int), (l[i].nt.size : Int), (l[i].data.size : Int), (l[i].keep.length : Int)] := ⟨_, rfl⟩
          rw [← hV] at CR
          have hVb : Hid (-1 ≤ V ∧ V ≤ 20000 ∧ (0 ≤ V → V + (l[i].wt : Nat) = q)) := hid (by
            rw [hV]
            unfold OpD.wt
            simp only [roomV]
            split
            · omega
            · split
              · omega
              · split
                · omega
                · split <;> omega)
          generalize hnw : l[i].wt = nw at *
          have HS := hid (fun w' (t : Touch [] wr w') => And.intro (touch_cell t c2 (by simp)) (And.intro (touch_cell t c3 (by simp)) (And.intro (touch_cell t c4 (by simp)) (touch_cell t c5 (by simp)))))
          generalize l[i].name = nm at *
          generalize l[i].nt = nt at *
          generalize l[i].data = da at *
          generalize l[i].kx = kx at *
          generalize l[i].kc = kc at *
          generalize l[i].keep.length = kn at *
          clear g0 g1 g2 g3 g4 g5 hok hV hnw
          go_wp2
          go_region_held3 (fun w' => w'.cell? ⟨b, off + i * 6 + 2, none⟩ = some (.string nm) ∧ w'.cell? ⟨b, off + i * 6 + 3, none⟩ = some (.string nt) ∧ w'.cell? ⟨b, off + i * 6 + 4, none⟩ = some (.string da) ∧ w'.cell? ⟨b, off + i * 6 + 5, none⟩ = some (.slice kx kn kc)) (first | go_keep | exact HS.out _ (by first | assumption | exact (Touch.refl [] wr).drew.alloc _ | exact (Touch.refl [] wr).drew | exact Touch.refl _ _)) ((go_at_call 49; refine (CR.out _ _ ?_).mono ?_; (first | exact ints_four wr _ _ _ _ | exact ints_four wr.drew _ _ _ _ | exact ints_four _ _ _ _ _); rintro e w3 ⟨rfl, rfl⟩))
          all_goals
            have hwV : Hid (0 ≤ V → V + wt (l.take (i + 1)) = 20000) := hid (by intro h; have h1 := hVb.out.2.2 h; have h2 := hQ.out h0; rw [hw.out]; omega)
            have v1 := hVb.out.1
            have v2 := hVb.out.2.1
            go_wp2
            go_roundw
            case rel => exact ⟨i + 1, V, by omega, by omega, by go_num, rfl, v1, v2, hwV, hid (T.out.trans ((Touch.refl [] wr).alloc _).drew nil_mem)⟩
            case measure => simp [RowKit.intOf]; omega
        · have h0' : decide (0 ≤ q) = false := by simpa using h0
          by_cases h80 : l.length ≤ 80
          · have l1 : decide ((l.length : Int) ≤ 80) = true := by rw [decide_eq_true_eq]; omega
            have l2 : decide (l.length ≤ 80) = true := by rw [decide_eq_true_eq]; omega
            clear h0 h80
            go_wp2
            go_ret
            exact ⟨_, rfl, T.out, by simp⟩
          · have l1 : decide ((l.length : Int) ≤ 80) = false := by rw [decide_eq_false_iff_not]; omega
            have l2 : decide (l.length ≤ 80) = false := by rw [decide_eq_false_iff_not]; omega
            clear h0 h80
            go_wp2
            go_ret
            exact ⟨_, rfl, T.out, by simp⟩
      · have h2' : decide ((i : Int) < 200) = false := by rw [decide_eq_false_iff_not]; omega
        have h2'' : decide (i < 200) = false := by rw [decide_eq_false_iff_not]; omega
        have l1 : decide ((l.length : Int) ≤ 80) = false := by rw [decide_eq_false_iff_not]; omega
        have l2 : decide (l.length ≤ 80) = false := by rw [decide_eq_false_iff_not]; omega
        clear h2
        go_wp2
        go_ret
        exact ⟨_, rfl, T.out, by simp⟩
    · have hlt' : decide (i < l.length) = false := by simpa using hlt
      have hie : i = l.length := by omega
      by_cases h80 : l.length ≤ 80
      · by_cases h0 : 0 ≤ q
        · have hfin : Hid (l.length ≤ 80 ∧ wt l ≤ 20000) := hid ⟨h80, by have := hQ.out h0; rw [hie, List.take_of_length_le (Nat.le_refl _)] at this; omega⟩
          have l1 : decide ((l.length : Int) ≤ 80) = true := by rw [decide_eq_true_eq]; omega
          have l2 : decide (l.length ≤ 80) = true := by rw [decide_eq_true_eq]; omega
          have l3 : decide (0 ≤ q) = true := by rw [decide_eq_true_eq]; omega
          clear h0 h80 hie
          go_wp2
          go_ret
          exact ⟨_, rfl, T.out, fun _ => hfin.out⟩
        · have l1 : decide ((l.length : Int) ≤ 80) = true := by rw [decide_eq_true_eq]; omega
          have l2 : decide (l.length ≤ 80) = true := by rw [decide_eq_true_eq]; omega
          have l3 : decide (0 ≤ q) = false := by rw [decide_eq_false_iff_not]; omega
          clear h0 h80 hie
          go_wp2
          go_ret
          exact ⟨_, rfl, T.out, by simp⟩
      · have l1 : decide ((l.length : Int) ≤ 80) = false := by rw [decide_eq_false_iff_not]; omega
        have l2 : decide (l.length ≤ 80) = false := by rw [decide_eq_false_iff_not]; omega
        clear h80 hie
        go_wp2
        go_ret
        exact ⟨_, rfl, T.out, by simp⟩
end Go.Proofs.Ythibabfojndlkaa
