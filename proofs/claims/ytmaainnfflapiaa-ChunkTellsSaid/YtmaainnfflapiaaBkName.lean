/- The book's name of a mark; its marks; copies. -/
import Derived.Test.YtmaainnfflapiaaBk
namespace Go.Proofs.Ytmaainnfflapiaa
set_option maxRecDepth 100000
open Go.RowKit Go.Lib

def nameB (i k : Nat) : List UInt8 := [109, UInt8.ofNat (65 + i % 26), UInt8.ofNat (65 + i / 26 % 26), UInt8.ofNat (48 + k % 10), UInt8.ofNat (48 + k / 10 % 10), UInt8.ofNat (48 + k / 100 % 10)]
def nameOf (i k : Nat) : ByteArray := ⟨(nameB i k).toArray⟩
theorem nameOf_size (i k : Nat) : (nameOf i k).size = 6 := rfl
theorem byte_nat (a : Nat) (x : Int) (h : x = ((a % 256 : Nat) : Int)) : Value.int .u8 x = .int .u8 ((UInt8.ofNat a).toNat : Int) := by
  rw [h, UInt8.toNat_ofNat']
set_option maxRecDepth 100000 in
theorem conv_nameB (i k : Nat) (w : World) :
    (convert 52 9 (.slice (some ⟨w.heap.size, 0, none⟩) 6 6)).run Try.prog (w.alloc (.cells #[.int .u8 109, .int .u8 (65 + (i : Int) % 26), .int .u8 (65 + (i : Int) / 26 % 26), .int .u8 (48 + (k : Int) % 10), .int .u8 (48 + (k : Int) / 10 % 10), .int .u8 (48 + (k : Int) / 100 % 10)] 5)) =
      .ok (.string (nameOf i k)) (w.alloc (.cells #[.int .u8 109, .int .u8 (65 + (i : Int) % 26), .int .u8 (65 + (i : Int) / 26 % 26), .int .u8 (48 + (k : Int) % 10), .int .u8 (48 + (k : Int) / 10 % 10), .int .u8 (48 + (k : Int) / 100 % 10)] 5)) := by
  have hb := heap_alloc_new w (.cells #[.int .u8 109, .int .u8 (65 + (i : Int) % 26), .int .u8 (65 + (i : Int) / 26 % 26), .int .u8 (48 + (k : Int) % 10), .int .u8 (48 + (k : Int) / 10 % 10), .int .u8 (48 + (k : Int) / 100 % 10)] 5)
  have e1 : Value.int .u8 (65 + (i : Int) % 26) = .int .u8 ((UInt8.ofNat (65 + i % 26)).toNat : Int) := byte_nat _ _ (by omega)
  have e2 : Value.int .u8 (65 + (i : Int) / 26 % 26) = .int .u8 ((UInt8.ofNat (65 + i / 26 % 26)).toNat : Int) := byte_nat _ _ (by omega)
  have e3 : Value.int .u8 (48 + (k : Int) % 10) = .int .u8 ((UInt8.ofNat (48 + k % 10)).toNat : Int) := byte_nat _ _ (by omega)
  have e4 : Value.int .u8 (48 + (k : Int) / 10 % 10) = .int .u8 ((UInt8.ofNat (48 + k / 10 % 10)).toNat : Int) := byte_nat _ _ (by omega)
  have e5 : Value.int .u8 (48 + (k : Int) / 100 % 10) = .int .u8 ((UInt8.ofNat (48 + k / 100 % 10)).toNat : Int) := byte_nat _ _ (by omega)
  rw [e1, e2, e3, e4, e5] at hb ⊢
  clear e1 e2 e3 e4 e5
  generalize hW : w.alloc (.cells #[.int .u8 109, .int .u8 ((UInt8.ofNat (65 + i % 26)).toNat : Int), .int .u8 ((UInt8.ofNat (65 + i / 26 % 26)).toNat : Int), .int .u8 ((UInt8.ofNat (48 + k % 10)).toNat : Int), .int .u8 ((UInt8.ofNat (48 + k / 10 % 10)).toNat : Int), .int .u8 ((UInt8.ofNat (48 + k / 100 % 10)).toNat : Int)] 5) = W at *
  exact run_convert_bytes_back W 52 9 5 ⟨w.heap.size, 0, none⟩ 6 (nameB i k) rfl rfl rfl fun j hj => by
    rw [show (⟨w.heap.size, 0, none⟩ : Addr).add j = ⟨w.heap.size, j, none⟩ from by unfold Addr.add; split <;> simp_all]
    rw [cell_of hb j]
    match j, hj with
    | 0, _ => rfl
    | 1, _ => rfl
    | 2, _ => rfl
    | 3, _ => rfl
    | 4, _ => rfl
    | 5, _ => rfl
    | j + 6, hj => exact absurd hj (by show ¬ (j + 6 < 6); omega)
set_option maxRecDepth 100000 in
theorem name_any (i k : Nat) (W : World) (hi : i ≤ 1000) (hk : k ≤ 100000) :
    Calls Try.prog 91 #[.int .i64 i, .int .i64 k] W fun e w' => e = .returned (.string (nameOf i k)) ∧ Touch [] W w' := by
  have h1 : (i : Int) ≤ 1000 := by omega
  have h2 : (k : Int) ≤ 100000 := by omega
  have h3 : (0 : Int) ≤ i := by omega
  have h4 : (0 : Int) ≤ k := by omega
  have hconv := conv_nameB i k W
  go_enter Try.func91, Try.ntmps91
  go_wp2
  go_ret
  exact ⟨rfl, (Touch.refl _ _).alloc _⟩

/-- The marks of list i, from a place on, so many. -/
def marks (i f n : Nat) : List ByteArray := (List.range n).map fun j => nameOf i (f + j)
theorem marks_len (i f n : Nat) : (marks i f n).length = n := by simp [marks]
theorem marks_snoc (i f n : Nat) : marks i f n ++ [nameOf i (f + n)] = marks i f (n + 1) := by simp [marks, List.range_succ]
theorem marks_add (i f n m : Nat) : marks i f n ++ marks i (f + n) m = marks i f (n + m) := by
  induction m with
  | zero => simp [marks]
  | succ m ih => rw [← marks_snoc, ← List.append_assoc, ih, ← Nat.add_assoc n m 1, ← marks_snoc, Nat.add_assoc]
theorem marks_sizes (i f n : Nat) : ∀ s ∈ marks i f n, s.size ≤ maxLen := by
  intro s hs
  simp only [marks, List.mem_map] at hs
  obtain ⟨j, _, rfl⟩ := hs
  rw [nameOf_size]; decide
theorem marks_get (i f n k : Nat) (h : k < n) : (marks i f n)[k]'(by rw [marks_len]; exact h) = nameOf i (f + k) := by simp [marks]
theorem svals_one (l : List ByteArray) : ∀ u ∈ svals l, u.oneCell' = true := by
  intro u hu
  simp [svals] at hu
  obtain ⟨t, _, rfl⟩ := hu
  rfl
theorem svals_app (a b : List ByteArray) : svals a ++ svals b = svals (a ++ b) := by simp [svals]
theorem svals_len (l : List ByteArray) : (svals l).length = l.length := by simp [svals]

set_option maxHeartbeats 1000000 in
set_option maxRecDepth 100000 in
theorem markTexts_any (i f n : Nat) (W : World) (hi : i ≤ 1000) (hf : f + n ≤ 100000) :
    Calls Try.prog 76 #[.int .i64 i, .int .i64 f, .int .i64 n] W fun e w' => ∃ v, e = .returned v ∧ w'.ownsRow W.heap.size TStr 1 v n (svals (marks i f n)) ∧ Touch [] W w' := by
  obtain ⟨i0, hi0, hz0, hz1, hz2⟩ := info_parts infoStrP
  have b1 : (f : Int) + n ≤ 100000 := by omega
  have b2 : (0 : Int) ≤ f := by omega
  have b3 : (0 : Int) ≤ n := by omega
  go_enter Try.func76, Try.ntmps76
  go_wp2
  go_loopw [7, 8] (fun ov kv wr => ∃ j : Nat, j ≤ n ∧ kv = .int .i64 ((f : Int) + j) ∧ wr.ownsRow W.heap.size TStr 1 ov j (svals (marks i f j)) ∧ Touch [] W wr) (fun _ kv _ => f + n - (RowKit.intOf kv).toNat)
  case atStart => exact ⟨0, Nat.zero_le _, by simp, World.ownsRow_nil _ _ _ _, Touch.refl _ _⟩
  case round =>
    obtain ⟨j, hj, rfl, hown, ht⟩ := hrel
    have HO := hid hown
    have HT := hid ht
    clear hown ht
    have b4 : (0 : Int) ≤ j := by omega
    have b5 : (f : Int) + j ≤ 100000 := by omega
    by_cases hlt : j < n
    · have NM := hid (fun w => name_any i (f + j) w hi (by omega))
      rw [show ((f + j : Nat) : Int) = (f : Int) + j from by omega] at NM
      have hlt2 : ((f : Int) + j < (f : Int) + n) := by omega
      go_wp2_with fail
      refine (NM.out _).mono ?_
      rintro e w1 ⟨rfl, t1⟩
      have T1 := hid t1
      have HO1 := hid (owns_touch HO.out t1)
      clear t1
      go_wp2_with (at_builtin; refine wpList_append_row _ rfl (.tmp 17) (.tmp 21) 37 rfl W.heap.size TStr i0 (.string ⟨#[]⟩) 16 Try.underlying37 hi0 hz0 hz1 hz2 rfl _ j (svals (marks i f j)) rfl (HO1.out.alloc _) (.slice (some ⟨w1.heap.size, 0, none⟩) 1 1) 1 0 (svals [nameOf i (f + j)]) rfl (World.ownsRow_lit w1 (svals [nameOf i (f + j)]).toArray 1 (Nat.zero_le _) (by decide) rfl) (svals_one _) (by omega) (by decide) (by have := HT.out.size; have := T1.out.size; simp; omega) ?_; intro y cap w2 hG; have G := hid hG; clear hG)
      go_roundw
      case rel => exact ⟨j + 1, by omega, by go_num, by have := G.out.own; rwa [svals_app, marks_snoc] at this, G.out.touch (HO1.out.alloc _) ((HT.out.trans T1.out (by simp)).alloc _) (Nat.le_refl _)⟩
      case measure => simp [RowKit.intOf]; omega
    · obtain rfl : j = n := by omega
      go_wp2
      go_ret
      exact ⟨_, rfl, HO.out, HT.out⟩

theorem copyTexts_any (v : Value) (n bv : Nat) (l : List ByteArray) (W : World) (hv : W.ownsRow bv TStr 1 v n (svals l)) (hn : n ≤ 100000) :
    Calls Try.prog 32 #[v] W fun e w' => ∃ u, e = .returned u ∧ w'.ownsRow W.heap.size TStr 1 u n (svals l) ∧ Touch [] W w' := by
  obtain ⟨i0, hi0, hz0, hz1, hz2⟩ := info_parts infoStrP
  have HV := hid hv
  clear hv
  go_enter Try.func32, Try.ntmps32
  go_wp2_with (at_builtin; refine wpList_append_row _ rfl (.const (.slice none 0 0)) (.tmp 3) 37 rfl W.heap.size TStr i0 (.string ⟨#[]⟩) 16 Try.underlying37 hi0 hz0 hz1 hz2 rfl (.slice none 0 0) 0 [] rfl (World.ownsRow_nil _ _ _ _) v n bv (svals l) rfl HV.out (svals_one _) (by omega) (by decide) (Nat.le_refl _) ?_; intro y cap w2 hG; have G := hid hG; clear hG)
  go_ret
  exact ⟨_, rfl, by have := G.out.own; simpa using this, G.out.touch (World.ownsRow_nil _ _ _ _) (Touch.refl _ _) (Nat.le_refl _)⟩
end Go.Proofs.Ytmaainnfflapiaa
