/- A list of steps that came in, and what 'Light' tells of it. -/
import Derived.Test.YtfmaeaaaiagcbaaDoorAlive
import Derived.Test.YtfmaeaaaiagcbaaDoorRefText
namespace Go.Proofs.YtfmaeaaaiagcbaaDoor
open Go.RowKit Go.Lib

structure OpD where
  kind : Int
  n : Int
  bits : Nat
  s : ByteArray
instance : Inhabited OpD := ⟨⟨0, 0, 0, ⟨#[]⟩⟩⟩

/-- The slice value v is the list ops of steps. -/
def IsOps (w : World) (v : Value) (ops : List OpD) : Prop :=
  (v = .slice none 0 0 ∧ ops = []) ∨ ∃ b off cap, v = .slice (some ⟨b, off, none⟩) ops.length cap ∧ ops.length ≤ 9223372036854775807 ∧
    ∀ i (h : i < ops.length), w.cell? ⟨b, off + i * 4, none⟩ = some (.int .i64 ops[i].kind) ∧ w.cell? ⟨b, off + i * 4 + 1, none⟩ = some (.int .i64 ops[i].n) ∧ w.cell? ⟨b, off + i * 4 + 2, none⟩ = some (.int .u64 ops[i].bits) ∧
      w.cell? ⟨b, off + i * 4 + 3, none⟩ = some (.string ops[i].s) ∧ -9223372036854775808 ≤ ops[i].kind ∧ ops[i].kind ≤ 9223372036854775807 ∧ -9223372036854775808 ≤ ops[i].n ∧ ops[i].n ≤ 9223372036854775807 ∧ ops[i].bits < 18446744073709551616 ∧ ops[i].s.size ≤ 9223372036854775807

def IsLight (ops : List OpD) : Prop := ops.length ≤ 60 ∧ ∀ o ∈ ops, o.s.size ≤ 300
instance (ops : List OpD) : Decidable (IsLight ops) := by unfold IsLight; infer_instance

theorem light_bad {ops : List OpD} {k : Nat} (h : k < ops.length) (hs : 300 < ops[k].s.size) : decide (IsLight ops) = false := by
  simp only [decide_eq_false_iff_not]
  intro hl
  have := hl.2 _ (List.getElem_mem h)
  omega
theorem light_end {ops : List OpD} {k : Nat} (h : ∀ o ∈ ops.take k, o.s.size ≤ 300) (hk : 200 ≤ k ∨ k = ops.length) (hk2 : k ≤ ops.length) : decide (IsLight ops) = decide ((ops.length : Int) ≤ 60) := by
  rw [Bool.eq_iff_iff, decide_eq_true_iff, decide_eq_true_iff]
  constructor
  · intro hl; have := hl.1; omega
  · intro hl
    refine ⟨by omega, fun o ho => h o ?_⟩
    rcases hk with hk | rfl
    · omega
    · rw [List.take_of_length_le (Nat.le_refl _)]
      exact ho
theorem light_step {ops : List OpD} {k : Nat} (hk : k < ops.length) (h : ∀ o ∈ ops.take k, o.s.size ≤ 300) (hs : ops[k].s.size ≤ 300) : ∀ o ∈ ops.take (k + 1), o.s.size ≤ 300 := by
  rw [List.take_succ_eq_append_getElem hk]
  intro o ho
  simp only [List.mem_append, List.mem_singleton] at ho
  rcases ho with h1 | rfl
  · exact h o h1
  · exact hs

set_option maxRecDepth 100000 in
theorem light_some (b off cap : Nat) (ops : List OpD) (L : Bool) (w : World) (hL : Hid (decide (IsLight ops) = L)) (hlen : ops.length ≤ 9223372036854775807) (hc : ∀ i (h : i < ops.length), w.cell? ⟨b, off + i * 4 + 3, none⟩ = some (.string ops[i].s)) :
    Calls Tryd.prog 4 #[.slice (some ⟨b, off, none⟩) ops.length cap] w fun e w' => e = .returned (.bool L) ∧ w = w' := by
  have Hc := hid hc; clear hc
  have Hlen := hid hlen; clear hlen
  go_enter Tryd.func4, Tryd.ntmps4
  go_wp2
  go_loop [3] (fun kv => ∃ k : Nat, k ≤ ops.length ∧ kv = .int .i64 k ∧ k ≤ 200 ∧ ∀ o ∈ ops.take k, o.s.size ≤ 300) (fun kv => 200 - (RowKit.intOf kv).toNat)
  case atStart => exact ⟨0, Nat.zero_le _, rfl, by omega, by simp⟩
  case round =>
    obtain ⟨k, hk, rfl, hk2, hall⟩ := hrel
    have Hall := hid hall; clear hall
    by_cases hlt : k < ops.length
    · by_cases h2 : k < 200
      · have hcell := Hc.out k hlt
        have hbad : Hid (300 < ops[k].s.size → L = false) := fun h => by rw [← hL.out]; exact light_bad hlt h
        have hgood : Hid (ops[k].s.size ≤ 300 → ∀ o ∈ ops.take (k + 1), o.s.size ≤ 300) := light_step hlt Hall.out
        generalize ops[k].s = S at *
        have hl2 : decide (k < ops.length) = true := by simpa using hlt
        have h2I : (k : Int) < 200 := by omega
        clear hk2
        go_upto_region 4 with fail
        go_wp2
        · have hb : (300 : Int) < S.size := by assumption
          go_ret
          exact ⟨by rw [hbad.out (by omega)]; rfl, rfl⟩
        · have hb : (S.size : Int) ≤ 300 := by assumption
          exact ⟨⟨k + 1, by omega, by go_num, by omega, hgood.out (by omega)⟩, by simp [RowKit.intOf]; omega⟩
      · have hend := hid (light_end Hall.out (.inl (by omega)) hk)
        have hl2 : decide (k < ops.length) = true := by simpa using hlt
        have h2I : (200 : Int) ≤ k := by omega
        clear hk hk2 hlt h2 Hall
        go_upto_region 6 with fail
        clear hl2 h2I
        go_wp2
        go_ret
        exact ⟨by rw [← hL.out, hend.out]; rfl, rfl⟩
    · have hend := hid (light_end Hall.out (.inr (by omega)) hk)
      have hl2 : decide (k < ops.length) = false := by simpa using hlt
      clear hk hk2 hlt Hall
      go_upto_region 6 with fail
      clear hl2
      go_wp2
      go_ret
      exact ⟨by rw [← hL.out, hend.out]; rfl, rfl⟩

theorem light_nil (w : World) :
    Calls Tryd.prog 4 #[.slice none 0 0] w fun e w' => e = .returned (.bool true) ∧ w = w' := by
  go_enter Tryd.func4, Tryd.ntmps4
  go_wp2
  refine wp_loop_rounds 1 ?_
  rw [rounds_succ]
  go_wp2
  go_ret
  exact ⟨rfl, rfl⟩

theorem light_any (v : Value) (ops : List OpD) (w : World) (h : IsOps w v ops) :
    Calls Tryd.prog 4 #[v] w fun e w' => e = .returned (.bool (decide (IsLight ops))) ∧ w = w' := by
  rcases h with ⟨rfl, rfl⟩ | ⟨b, off, cap, rfl, hl, hc⟩
  · have e : decide (IsLight []) = true := by decide
    rw [e]
    exact light_nil w
  · exact light_some b off cap ops _ w rfl hl (fun i hi => (hc i hi).2.2.2.1)
end Go.Proofs.YtfmaeaaaiagcbaaDoor
