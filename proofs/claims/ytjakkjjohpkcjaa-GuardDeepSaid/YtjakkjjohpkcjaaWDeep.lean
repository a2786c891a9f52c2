/- The walk of GuardDeep. -/
import Derived.Test.YtjakkjjohpkcjaaDeepb
import Derived.Laws.Bits128
import Derived.Laws.MakeOwn
import Derived.Deep.LoopGhost
import Derived.Deep.QuietTactic
import Derived.BigQuiet
namespace Go.Proofs.Ytjakkjjohpkcjaa
open Go.RowKit Go.Lib

theorem i64_and3 (n : Int) : bits .and .i64 n 3 = n % 4 := by
  have h3 : (BitVec.ofInt 64 3).toNat = 2 ^ 2 - 1 := by decide
  have key : (BitVec.ofInt 64 n &&& BitVec.ofInt 64 3).toNat = (n % ((2 ^ 64 : Nat) : Int)).toNat % 2 ^ 2 := by
    rw [BitVec.toNat_and, BitVec.toNat_ofInt, h3, Nat.and_two_pow_sub_one_eq_mod]
  show IntKind.i64.wrap ((BitVec.ofInt 64 n &&& BitVec.ofInt 64 3).toNat : Nat) = n % 4
  rw [key, IntKind.wrap_i64]
  omega

theorem infoFaultB : (Try.prog.info? TFault).map (fun i => (i.zero, i.size, i.bytes)) = some (some (FltD.val fine), 3, 32) := by kernel_rfl
theorem make_faults : ∃ C : Array Value, C.size = 120 ∧ ∀ w : World, (Instr.makeSlice 42 (.int .i64 0) (.int .i64 40)).run Try.prog w = .ok (.slice (some ⟨w.heap.size, 0, none⟩) 0 40) (w.alloc (.cells C TFault)) := by
  obtain ⟨i, hi, hz⟩ := Option.map_eq_some_iff.1 infoFaultB
  simp only [Prod.mk.injEq] at hz
  obtain ⟨h1, h2, h3⟩ := hz
  refine ⟨_, ?_, fun w => by have := run_make (P := Try.prog) w 42 TFault i _ Try.underlying42 hi h1 .i64 .i64 0 40 (by omega) (by omega) (by rw [h3]; decide) (by decide); simpa using this⟩
  rw [size_madeCells, h2]

theorem gdeep_early (d : Int) (k : Int) (s : ByteArray) (w : World) (h : d < 0 ∨ (¬ d < 0 ∧ 30 < d) ∨ (¬ d < 0 ∧ ¬ 30 < d ∧ (300 : Int) < s.size)) :
    Calls Try.prog 7 #[.int .i64 d, .int .i64 k, .string s] w fun e w' => e = .returned (.bool true) ∧ Touch [] w w' := by
  have C0 := hid alive_true
  rcases h with h1 | ⟨h1, h2⟩ | ⟨h1, h2, h3⟩
  all_goals
    go_enter Try.func7, Try.ntmps7
    go_wp2_with (go_at_call 10; refine (C0.out _).mono ?_; rintro e w1 ⟨rfl, a1⟩)
    go_ret
    exact ⟨rfl, a1⟩

/-- The law's loop: behind i rounds. -/
def DeepL (w : World) (bt g bw : Nat) (f : FltD) (d : Nat) (gh : Nat) (t10 : Value) (wr : World) : Prop := ∃ i : Nat, i ≤ d + 1 ∧ gh = d + 1 - i ∧ t10 = .int .i64 i ∧ wr.heap[bt]? = some (headB g (d + 1)) ∧
  Row wr g (f :: List.replicate d fine) ∧ wr.heap[bw]? = some (.cells f.cells TFault (0, 0)) ∧ Touch [] w wr

set_option maxRecDepth 100000 in
set_option maxHeartbeats 4000000 in
theorem gdeep_full (d : Nat) (kind k3 : Int) (s : ByteArray) (w : World) (hd : d ≤ 30) (hs : (s.size : Int) ≤ 300) (hb : bits .and .i64 kind 3 = k3) (hk : k3 = 0 ∨ k3 = 1 ∨ k3 = 2 ∨ k3 = 3) :
    Calls Try.prog 7 #[.int .i64 d, .int .i64 kind, .string s] w fun e w' => e = .returned (.bool true) ∧ Touch [] w w' := by
  have C0 := hid alive_true
  have DA := hid (deep_all k3 s hk d)
  obtain ⟨C, hC, hmk⟩ := make_faults
  have HC := hid hC
  have d0 : (0 : Int) ≤ d := by omega
  have d1 : (d : Int) ≤ 30 := by omega
  clear hC
  go_enter Try.func7, Try.ntmps7
  go_wp2_with fail
  refine (C0.out _).mono ?_
  rintro e w1 ⟨rfl, a1⟩
  have A1 := hid a1
  clear a1
  go_wp2_with fail
  have D := hid (DA.out [] 0 0 (((w1.alloc (.cells C TFault)).alloc (headB w1.heap.size 0)).alloc (intB 0)) (w1.heap.size + 1) w1.heap.size (w1.heap.size + 2) rfl (by omega) (by omega) (by omega) (by omega) (by omega) (by omega)
    (heap_alloc_keep (by simpa using heap_alloc_new (w1.alloc (.cells C TFault)) (headB w1.heap.size 0)) _) ⟨C, heap_alloc_keep (heap_alloc_keep (heap_alloc_new w1 _) _) _, HC.out, by simp [flat]⟩ (by simpa using heap_alloc_new ((w1.alloc (.cells C TFault)).alloc (headB w1.heap.size 0)) (intB 0)))
  refine D.out.mono ?_
  rintro e w2 ⟨rfl, hh, hr, he, ht⟩
  simp only [Nat.zero_add, Int.zero_add, List.nil_append] at hh hr he
  have T2 : Hid (Touch [] w w2) := hid ((((A1.out.alloc _).alloc _).alloc _).trans ht (by simp; have := A1.out.size; omega))
  obtain ⟨c0, c1⟩ := cell_one hh
  obtain ⟨c2, c3⟩ := cell_one he
  have HH := hid hh
  have HR := hid hr
  have HE := hid he
  clear hh hr he ht D DA A1 C0 hmk
  have hr0 : (0 : Int) ≤ (d : Int) + 1 := by omega
  obtain ⟨f, hf⟩ : ∃ f, wantF k3 s = f := ⟨_, rfl⟩
  have HR2 : Hid (Row w2 w1.heap.size (f :: List.replicate d fine)) := hid (hf ▸ HR.out)
  have HF := hid hf
  have hlt := lt_of_block HH.out
  clear hf HR HE
  rcases hk with rfl | rfl | rfl | rfl
  all_goals
    go_wp2
    go_loopg [10] (d + 1) (fun g t10 wr => DeepL w (w1.heap.size + 1) w1.heap.size w2.heap.size f d g t10 wr)
    case atStart => exact ⟨0, Nat.zero_le _, rfl, rfl, heap_alloc_keep HH.out _, HR2.out.touch ((Touch.refl [] _).alloc _) (by simp), by rw [← HF.out]; exact heap_alloc_new w2 _, T2.out.alloc _⟩
    case round =>
      clear c0 c1 c2 c3 HH HR2 HF T2
      obtain ⟨i, hi, rfl, rfl, hh, hr, hw, ht⟩ := hrel
      obtain ⟨c0, _⟩ := cell_one hh
      obtain ⟨⟨c1, c2, c3⟩, _⟩ := cell_three hw
      have HH := hid hh
      have HR := hid hr
      have HW := hid hw
      have HT := hid ht
      clear hh hr hw ht
      have i0 : (0 : Int) ≤ i := by omega
      by_cases hlt : i < d + 1
      · by_cases h0 : i = 0
        · subst h0
          have e0 := HR.out.cell 0 0 (by simp) (by omega)
          have e1 := HR.out.cell 0 1 (by simp) (by omega)
          have e2 := HR.out.cell 0 2 (by simp) (by omega)
          simp [FltD.list] at e0 e1 e2
          go_wp2
          go_quiet (fail)
          go_wp2
          go_roundg (d + 1 - 1)
          case measure => omega
          case rel => exact ⟨1, by omega, rfl, rfl, by rw [drewN_heap]; exact HH.out, HR.out.touch ((Touch.refl [] _).drewN _) (by simp), by rw [drewN_heap]; exact HW.out, HT.out.drewN _⟩
        · have h1 : (0 : Int) < i := by omega
          have h3 : decide (0 < i) = true := by simp; omega
          have h4 : 0 < i := by omega
          have h2 : ((i : Int) == 0) = false := by simp; omega
          have j3 : i < (f :: List.replicate d fine).length := by simp; omega
          have hfi : (f :: List.replicate d fine)[i] = fine := by
            rw [List.getElem_cons]
            simp [h0]
          have e0 := HR.out.cell i 0 j3 (by omega)
          have e1 := HR.out.cell i 1 j3 (by omega)
          have e2 := HR.out.cell i 2 j3 (by omega)
          rw [hfi] at e0 e1 e2
          simp [FltD.list] at e0 e1 e2
          clear hfi
          go_wp2
          go_quiet (fail)
          go_wp2
          go_roundg (d + 1 - (i + 1))
          case measure => omega
          case rel => exact ⟨i + 1, by omega, rfl, by go_num, by rw [drewN_heap]; exact HH.out, HR.out.touch ((Touch.refl [] _).drewN _) (by simp), by rw [drewN_heap]; exact HW.out, HT.out.drewN _⟩
      · obtain rfl : i = d + 1 := by omega
        go_wp2
        go_ret
        exact ⟨rfl, HT.out⟩

theorem walk_GuardDeep (d : Int) (_ : (Lit.int .i64 d).wf = true) (kind : Int) (_ : (Lit.int .i64 kind).wf = true) (s : ByteArray) (_ : s.size ≤ maxLen) (w : World) :
    Calls Try.prog 7 #[.int .i64 d, .int .i64 kind, .string s] w fun e w' => e = .returned (.bool true) ∧ Touch [] w w' := by
  by_cases h : d < 0 ∨ (¬ d < 0 ∧ 30 < d) ∨ (¬ d < 0 ∧ ¬ 30 < d ∧ (300 : Int) < s.size)
  · exact gdeep_early d kind s w h
  · obtain ⟨n, rfl⟩ : ∃ n : Nat, d = n := ⟨d.toNat, by omega⟩
    exact gdeep_full n kind (kind % 4) s w (by omega) (by omega) (i64_and3 kind) (by omega)
end Go.Proofs.Ytjakkjjohpkcjaa
