/- DiskRoom, walked. -/
import Derived.Test.YthibabfojndlkaaWDKeep
import Derived.Test.YthibabfojndlkaaLists
import Derived.Laws.MakeOwn
import Derived.Laws.IdiomStrings
namespace Go.Proofs.Ythibabfojndlkaa
open Go.RowKit Go.Lib
set_option maxRecDepth 100000

theorem bits_511 (z : Int) : ∃ N : Nat, bits .and .i64 z 511 = (N : Int) ∧ N ≤ 511 := by
  have h : ((BitVec.ofInt IntKind.i64.bits z &&& BitVec.ofInt IntKind.i64.bits 511).toNat : Nat) ≤ 511 := by
    rw [BitVec.toNat_and]
    exact Nat.le_trans Nat.and_le_right (by decide)
  refine ⟨((BitVec.ofInt IntKind.i64.bits z &&& BitVec.ofInt IntKind.i64.bits 511).toNat : Nat), ?_, h⟩
  unfold bits
  simp only []
  show IntKind.i64.wrap (((BitVec.ofInt IntKind.i64.bits z &&& BitVec.ofInt IntKind.i64.bits 511).toNat : Nat) : Int) = _
  rw [IntKind.wrap_i64]
  omega
def zs (n : Nat) : ByteArray := ⟨(List.replicate n (0 : UInt8)).toArray⟩
theorem zs_size (n : Nat) : (zs n).size = n := by show (List.replicate n (0 : UInt8)).toArray.size = n; simp
theorem make_run (n : Nat) (hn : n ≤ 3000) (w : World) : (Instr.makeSlice 44 (.int .i64 (n : Int)) (.int .i64 (n : Int))).run Try.prog w = .ok (.slice (some ⟨w.heap.size, 0, none⟩) n n) (w.alloc (.cells (madeCells #[.int .u8 0] n) tU8)) := by
  have := run_makeSlice (P := Try.prog) w 44 tU8 _ (.int .u8 0) rfl rfl rfl .i64 .i64 (n : Int) (n : Int) (by omega) (by omega) (by show (n : Int).toNat * 1 ≤ _; omega) (by show (1 : Int) * (n : Int) ≤ _; omega) (by omega)
  simp only [Int.toNat_natCast] at this
  rw [this]
  show Result.ok _ (w.alloc (.cells (madeCells #[.int .u8 0] (n * 1)) tU8)) = _
  rw [Nat.mul_one]
theorem made_conv (n : Nat) (w : World) : (convert 44 9 (.slice (some ⟨w.heap.size, 0, none⟩) n n)).run Try.prog (w.alloc (.cells (madeCells #[.int .u8 0] n) tU8)) = .ok (.string (zs n)) (w.alloc (.cells (madeCells #[.int .u8 0] n) tU8)) := by
  have h := run_convert_bytes_back (P := Try.prog) (w.alloc (.cells (madeCells #[.int .u8 0] n) tU8)) 44 9 tU8 ⟨w.heap.size, 0, none⟩ n (List.replicate n (0 : UInt8)) rfl rfl rfl (fun j hj => by
    rw [Addr.add_lit, Nat.zero_add, cell_of (heap_alloc_new w _)]
    simp at hj
    simp [madeCells, hj]
    rw [Nat.mod_one]
    rfl)
  rw [List.length_replicate] at h
  exact h

/-- What lies on the disk: nothing yet, or one file of u bytes. -/
inductive Rm (W : World) (d : Nat) (room : Nat) (u : Nat) (w : World) : Prop
  | none : u = 0 → Has W d (newD room) w → Rm W d room u w
  | some : ∀ dat : ByteArray, dat.size = u → Has W d (one room nmF dat 0 false) w → Rm W d room u w
theorem rm_append {W w : World} {d room u n : Nat} (h : Rm W d room u w) (hn : n ≤ room - u) (hu : u ≤ room) (hr : room ≤ 3000) :
    Calls Try.prog 15 #[.pointer (some ⟨d, 0, none⟩), .string nmF, .string (zs n)] w fun e w' => e = .returned (.int .i64 0) ∧ Rm W d room (u + n) w' := by
  have z : -9223372036854775808 ≤ (room : Int) ∧ (room : Int) ≤ 9223372036854775807 := by omega
  have hz := zs_size n
  cases h with
  | none h0 h =>
    subst h0
    refine (append_has h (sm_new (by omega) z) (append_first _ _ okF (.inr (by omega)))).mono ?_
    rintro e w' ⟨rfl, h'⟩
    exact ⟨rfl, .some _ (by omega) h'⟩
  | some dat hd h =>
    refine (append_has h (sm_one (by omega) z) (append_one _ okF (.inr (by omega)))).mono ?_
    rintro e w' ⟨rfl, h'⟩
    exact ⟨rfl, .some _ (by rw [ByteArray.size_append]; omega) h'⟩
theorem rm_full {W w : World} {d room u n : Nat} (h : Rm W d room u w) (hn : ¬ n ≤ room - u) (hu : u ≤ room) (h1 : 1 ≤ room) (hr : room ≤ 3000) (hn2 : n ≤ 511) :
    Calls Try.prog 15 #[.pointer (some ⟨d, 0, none⟩), .string nmF, .string (zs n)] w fun e w' => e = .returned (.int .i64 20) ∧ Rm W d room u w' := by
  have z : -9223372036854775808 ≤ (room : Int) ∧ (room : Int) ≤ 9223372036854775807 := by omega
  have hz := zs_size n
  cases h with
  | none h0 h =>
    subst h0
    refine (append_has h (sm_new (by omega) z) (append_first_full _ okF (by omega) (by omega))).mono ?_
    rintro e w' ⟨rfl, h'⟩
    exact ⟨rfl, .none rfl h'⟩
  | some dat hd h =>
    refine (append_has h (sm_one (by omega) z) (append_full _ okF (by omega) (by omega))).mono ?_
    rintro e w' ⟨rfl, h'⟩
    exact ⟨rfl, .some _ hd h'⟩
theorem rm_used {W w : World} {d room u : Nat} (h : Rm W d room u w) (hu : u ≤ room) (hr : room ≤ 3000) :
    Calls Try.prog 22 #[.pointer (some ⟨d, 0, none⟩)] w fun e w' => e = .returned (.int .i64 u) ∧ w' = w := by
  have z : -9223372036854775808 ≤ (room : Int) ∧ (room : Int) ≤ 9223372036854775807 := by omega
  cases h with
  | none h0 h => exact used_has h (sm_new (by omega) z) (by rw [h0]; simp [newD, used])
  | some dat hd h => exact used_has h (sm_one (by omega) z) (by rw [used_one]; exact hd)
theorem Rm.touch {W w w' : World} {d room u : Nat} (h : Rm W d room u w) (t : Touch [] w w') : Rm W d room u w' := by
  cases h with
  | none h0 h => exact .none h0 (h.touch t)
  | some dat hd h => exact .some dat hd (h.touch t)
theorem Rm.from_ {W w : World} {d room u : Nat} (h : Rm W d room u w) : Touch [] W w := by
  cases h with
  | none h0 h => exact h.from_
  | some dat hd h => exact h.from_
theorem rm_remove {W w : World} {d room u : Nat} (h : Rm W d room u w) (hu : u ≤ room) (hr : room ≤ 3000) :
    Calls Try.prog 19 #[.pointer (some ⟨d, 0, none⟩), .string nmF] w fun e w' => ∃ r, e = .returned (.int .i64 r) ∧ (0 < u → r = 0) ∧ Has W d (newD room) w' := by
  have z : -9223372036854775808 ≤ (room : Int) ∧ (room : Int) ≤ 9223372036854775807 := by omega
  cases h with
  | none h0 h =>
    refine (remove_has h (sm_new (by omega) z) (remove_new okF)).mono ?_
    rintro e w' ⟨rfl, h'⟩
    exact ⟨8, rfl, fun hh => by omega, h'⟩
  | some dat hd h =>
    refine (remove_has h (sm_one (by omega) z) (remove_one okF)).mono ?_
    rintro e w' ⟨rfl, h'⟩
    exact ⟨0, rfl, fun _ => rfl, h'⟩

set_option maxHeartbeats 4000000 in
theorem room_good (room : Nat) (x : Option Addr) (c : Nat) (l : List Int) (w : World) (h1 : 1 ≤ room) (h2 : room ≤ 3000) (h3 : l.length ≤ 30) (hi : IntsR w x l) :
    Calls Try.prog 5 #[.int .i64 room, .slice x l.length c] w fun e w' => e = .returned (.bool true) ∧ Touch [] w w' := by
  have z : -9223372036854775808 ≤ (room : Int) ∧ (room : Int) ≤ 9223372036854775807 := by omega
  have e1 : decide ((room : Int) < 1) = false := by rw [decide_eq_false_iff_not]; omega
  have e1' : decide (room < 1) = false := by rw [decide_eq_false_iff_not]; omega
  have e1'' : (room == 0) = false := by rw [beq_eq_false_iff_ne]; omega
  have e2 : decide ((3000 : Int) < (room : Int)) = false := by rw [decide_eq_false_iff_not]; omega
  have e2' : decide (3000 < room) = false := by rw [decide_eq_false_iff_not]; omega
  have e3 : decide ((30 : Int) < (l.length : Int)) = false := by rw [decide_eq_false_iff_not]; omega
  have e4 : decide (30 < l.length) = false := by rw [decide_eq_false_iff_not]; omega
  have CA := hid fun w => alive_true w
  have CN := hid (new_has room w)
  have HI := hid hi
  have okG : Ok ⟨#[103]⟩ := ⟨by decide, by decide⟩
  have CG := hid fun d w1 (h : Has w d (newD room) w1) => append_has (nm := ⟨#[103]⟩) (s := zs room) h (sm_new (by rw [zs_size]; omega) z) (append_first _ _ okG (.inr (by rw [zs_size]; omega)))
  have CF := hid fun d w1 (h : Has w d (one room ⟨#[103]⟩ (zs room) 0 false) w1) => append_has (nm := ⟨#[103]⟩) (s := ⟨#[120]⟩) h (sm_one (by rw [zs_size]; show room + 1 ≤ _; omega) z) (append_full _ okG (by omega) (by rw [zs_size]; show (room : Int) < room + ((1 : Nat) : Int); omega))
  have CU := hid fun d w1 (h : Has w d (newD room) w1) => used_has (n := 0) h (sm_new (by omega) z) rfl
  have CV := hid fun d w1 (h : Has w d (newD room) w1) => remove_has h (sm_new (by omega) z) (remove_new okF)
  have hmr := make_run room h2
  have hcr := made_conv room
  have RA := hid fun u n d w1 (h : Rm w d room u w1) (hn : n ≤ room - u) (hu : u ≤ room) => rm_append h hn hu h2
  have RF := hid fun u n d w1 (h : Rm w d room u w1) (hn : ¬ n ≤ room - u) (hu : u ≤ room) (hn2 : n ≤ 511) => rm_full h hn hu h1 h2 hn2
  have RU := hid fun u d w1 (h : Rm w d room u w1) (hu : u ≤ room) => rm_used h hu h2
  have RR := hid fun u d w1 (h : Rm w d room u w1) (hu : u ≤ room) => rm_remove h hu h2
  clear z okG hi
  go_enter Try.func5, Try.ntmps5
  go_wp2_with (go_at_call 26; with_reducible refine CN.out.mono ?_; rintro e w0 ⟨d, rfl, h0⟩; have H0 := hid h0; clear h0)
  go_loopw [6, 7] (fun uv iv wr => ∃ (i u : Nat), i ≤ l.length ∧ u ≤ room ∧ iv = .int .i64 i ∧ uv = .int .i64 u ∧ Hid (Rm w d room u wr)) (fun _ iv _ => l.length - (RowKit.intOf iv).toNat)
  case atStart => exact ⟨0, 0, Nat.zero_le _, Nat.zero_le _, rfl, rfl, hid (.none rfl H0.out)⟩
  case round =>
    obtain ⟨i, u, hi2, hur, rfl, rfl, I⟩ := hrel
    by_cases hlt : i < l.length
    · obtain ⟨b, o, rfl, g0⟩ := HI.out i hlt
      have g1 := touch_cell I.out.from_ g0 (by simp)
      obtain ⟨N, hN, hN5⟩ := bits_511 l[i]
      have hmk := make_run N (by omega)
      have hcv := made_conv N
      have hlt' : decide (i < l.length) = true := by simpa using hlt
      have e511 : (0 : Int) ≤ N := by omega
      have q1 : -9223372036854775808 ≤ (room : Int) - u := by omega
      have q2 : (room : Int) - u ≤ 9223372036854775807 := by omega
      have hI := hid fun (o : Obj) => I.out.touch ((Touch.refl [] wr).alloc o)
      have hur2 := hid hur
      have hN52 := hid hN5
      generalize l[i] = z at *
      by_cases hfit : N ≤ room - u
      · have f1 : decide ((N : Int) ≤ (room : Int) - u) = true := by rw [decide_eq_true_eq]; omega
        have q3 : (u : Int) + N ≤ 9223372036854775807 := by omega
        have hu2 := hid (show u + N ≤ room by omega)
        have hfit2 := hid hfit
        clear g0 hfit hur hN5
        go_wp2_with (first
          | (go_at_call 15; with_reducible refine (RA.out _ _ _ _ (hI.out _) hfit2.out hur2.out).mono ?_; rintro e w1 ⟨rfl, h1⟩; have H1 := hid h1; clear h1)
          | (go_at_call 22; with_reducible refine (RU.out _ _ _ H1.out hu2.out).mono ?_; rintro e w2 ⟨rfl, rfl⟩))
        go_roundw
        case rel => exact ⟨i + 1, u + N, by omega, hu2.out, by go_num, by go_num, hid H1.out⟩
        case measure => simp [RowKit.intOf]; omega
      · have f1 : decide ((N : Int) ≤ (room : Int) - u) = false := by rw [decide_eq_false_iff_not]; omega
        have hfit2 := hid hfit
        clear g0 hfit hur hN5
        go_wp2_with (first
          | (go_at_call 15; with_reducible refine (RF.out _ _ _ _ (hI.out _) hfit2.out hur2.out hN52.out).mono ?_; rintro e w1 ⟨rfl, h1⟩; have H1 := hid h1; clear h1)
          | (go_at_call 22; with_reducible refine (RU.out _ _ _ H1.out hur2.out).mono ?_; rintro e w2 ⟨rfl, rfl⟩))
        go_roundw
        case rel => exact ⟨i + 1, u, by omega, hur2.out, by go_num, rfl, hid H1.out⟩
        case measure => simp [RowKit.intOf]; omega
    · obtain rfl : i = l.length := by omega
      by_cases hu0 : 0 < u
      · have f1 : decide (0 < u) = true := by simpa using hu0
        have f2 : decide ((0 : Int) < (u : Int)) = true := by rw [decide_eq_true_eq]; omega
        have hu2 := hid hu0
        have CR : Hid (Calls Try.prog 19 #[.pointer (some ⟨d, 0, none⟩), .string nmF] wr fun e w' => e = .returned (.int .i64 0) ∧ Has w d (newD room) w') := hid ((RR.out _ _ _ I.out hur).mono (by rintro e w' ⟨r, rfl, hr, h'⟩; rw [hr hu2.out]; exact ⟨rfl, h'⟩))
        clear hu0
        go_wp2_with (first
          | (go_at_call 19; with_reducible refine CR.out.mono ?_; rintro e w1 ⟨rfl, h1⟩; have H1 := hid h1; clear h1)
          | (go_at_call 19; with_reducible refine (CV.out _ _ H1.out).mono ?_; rintro e w2 ⟨rfl, h2⟩; have H2 := hid h2; clear h2)
          | (go_at_call 9; with_reducible refine (CA.out _).mono ?_; rintro e w3 ⟨rfl, t3⟩; have H3 := hid (H2.out.touch t3); have H3o := hid (fun o : Obj => H3.out.touch ((Touch.refl [] w3).alloc o)); clear t3)
          | (go_at_call 22; with_reducible refine (CU.out _ _ H3.out).mono ?_; rintro e w4 ⟨rfl, rfl⟩)
          | (go_at_call 15; with_reducible refine (CG.out _ _ (H3o.out _)).mono ?_; rintro e w5 ⟨rfl, h5⟩; have H5 := hid h5; clear h5)
          | (go_at_call 15; with_reducible refine (CF.out _ _ H5.out).mono ?_; rintro e w6 ⟨rfl, h6⟩; have H6 := hid h6; clear h6))
        go_ret
        exact ⟨rfl, H6.out.from_⟩
      · have f1 : decide (0 < u) = false := by simpa using hu0
        have f2 : decide ((0 : Int) < (u : Int)) = false := by rw [decide_eq_false_iff_not]; omega
        have CR := hid (RR.out _ _ _ I.out hur)
        clear hu0
        go_wp2_with (first
          | (go_at_call 19; with_reducible refine CR.out.mono ?_; rintro e w2 ⟨r, rfl, -, h2⟩; have H2 := hid h2; clear h2)
          | (go_at_call 9; with_reducible refine (CA.out _).mono ?_; rintro e w3 ⟨rfl, t3⟩; have H3 := hid (H2.out.touch t3); have H3o := hid (fun o : Obj => H3.out.touch ((Touch.refl [] w3).alloc o)); clear t3)
          | (go_at_call 22; with_reducible refine (CU.out _ _ H3.out).mono ?_; rintro e w4 ⟨rfl, rfl⟩)
          | (go_at_call 15; with_reducible refine (CG.out _ _ (H3o.out _)).mono ?_; rintro e w5 ⟨rfl, h5⟩; have H5 := hid h5; clear h5)
          | (go_at_call 15; with_reducible refine (CF.out _ _ H5.out).mono ?_; rintro e w6 ⟨rfl, h6⟩; have H6 := hid h6; clear h6))
        go_ret
        exact ⟨rfl, H6.out.from_⟩
theorem walk_DiskRoom (room : Int) (hr : (Lit.int .i64 room).wf = true) (v : Value) (l : List Int) (w : World) (hi : Ints w v l) :
    Calls Try.prog 5 #[.int .i64 room, v] w fun e w' => e = .returned (.bool true) ∧ Touch [] w w' := by
  have CA := hid fun w => alive_true w
  obtain ⟨x, c, rfl, hl, hc⟩ := hi
  by_cases h1 : room < 1
  · have e1 : decide (room < 1) = true := by rw [decide_eq_true_eq]; exact h1
    clear h1 hc hr hl
    go_enter Try.func5, Try.ntmps5
    go_wp2_with (go_at_call 9; with_reducible refine (CA.out _).mono ?_; rintro e w12 ⟨rfl, t12⟩; have T12 := hid t12; clear t12)
    go_ret
    exact ⟨rfl, T12.out⟩
  obtain ⟨n, rfl⟩ : ∃ n : Nat, room = n := ⟨room.toNat, by omega⟩
  have e1 : decide ((n : Int) < 1) = false := by rw [decide_eq_false_iff_not]; exact h1
  have e1' : decide (n < 1) = false := by rw [decide_eq_false_iff_not]; omega
  have e1'' : (n == 0) = false := by rw [beq_eq_false_iff_ne]; omega
  by_cases h2 : 3000 < n
  · have e2 : decide ((3000 : Int) < (n : Int)) = true := by rw [decide_eq_true_eq]; omega
    have e2' : decide (3000 < n) = true := by rw [decide_eq_true_eq]; exact h2
    clear h1 h2 hc hr hl
    go_enter Try.func5, Try.ntmps5
    go_wp2_with (go_at_call 9; with_reducible refine (CA.out _).mono ?_; rintro e w12 ⟨rfl, t12⟩; have T12 := hid t12; clear t12)
    go_ret
    exact ⟨rfl, T12.out⟩
  by_cases h3 : 30 < l.length
  · have e2 : decide ((3000 : Int) < (n : Int)) = false := by rw [decide_eq_false_iff_not]; omega
    have e2' : decide (3000 < n) = false := by rw [decide_eq_false_iff_not]; omega
    have e3 : decide ((30 : Int) < (l.length : Int)) = true := by rw [decide_eq_true_eq]; omega
    have e3' : decide (30 < l.length) = true := by rw [decide_eq_true_eq]; exact h3
    clear h1 h2 h3 hc hr hl
    go_enter Try.func5, Try.ntmps5
    go_wp2_with (go_at_call 9; with_reducible refine (CA.out _).mono ?_; rintro e w12 ⟨rfl, t12⟩; have T12 := hid t12; clear t12)
    go_ret
    exact ⟨rfl, T12.out⟩
  exact room_good n x c l w (by omega) (by omega) (by omega) (fun i hi => by obtain ⟨b, o, h5, h6⟩ := hc i hi; exact ⟨b, o, h5, h6⟩)
end Go.Proofs.Ythibabfojndlkaa
