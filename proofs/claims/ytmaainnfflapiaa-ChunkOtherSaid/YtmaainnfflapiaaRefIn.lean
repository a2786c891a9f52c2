/- What the laws' own reader returns and leaves, told by the same states as codec's. -/
import Derived.Test.YtmaainnfflapiaaFloat
namespace Go.Proofs.Ytmaainnfflapiaa
set_option maxRecDepth 100000
open Go.RowKit Go.Lib

abbrev tRIn : TypeId := 95

/-- The laws' own reader at block x: what is left (said where it has no error), its error. -/
def RefIs (w : World) (x : Nat) (st : List UInt8 × Int) : Prop := ∃ B : ByteArray, w.heap[x]? = some (.cells #[.string B, .int .i64 st.2] tRIn (0, 0)) ∧ (st.2 = 0 → B.data.toList = st.1)
def RPost (x : Nat) (st : List UInt8 × Int) (w w' : World) : Prop := RefIs w' x st ∧ Touch [x] w w'
theorem RefIs.lt {w : World} {x : Nat} {st : List UInt8 × Int} (h : RefIs w x st) : x < w.heap.size := by obtain ⟨B, h, _⟩ := h; exact lt_of_block h
theorem RefIs.keep {w w' : World} {x : Nat} {G : List Nat} {st : List UInt8 × Int} (h : RefIs w x st) (ht : Touch G w w') (hd : x ∉ G) : RefIs w' x st := by
  have hl := h.lt
  obtain ⟨B, h, hb⟩ := h
  exact ⟨B, (ht.block x hl hd).trans h, hb⟩
theorem RPost.up {x : Nat} {st : List UInt8 × Int} {w w2 w' : World} (h : RPost x st w2 w') (ht : Touch [x] w w2) : RPost x st w w' := ⟨h.1, ht.trans h.2 (by simp)⟩

theorem rFail_any (x : Nat) (B : ByteArray) (e2 : Int) (w : World) (h : w.heap[x]? = some (.cells #[.string B, .int .i64 0] tRIn (0, 0))) :
    Calls Try.prog 85 #[.pointer (some ⟨x, 0, none⟩), .int .i64 e2] w fun e w' => e = .returned (.tuple #[]) ∧ w'.heap[x]? = some (.cells #[.string B, .int .i64 e2] tRIn (0, 0)) ∧ Touch [x] w w' := by
  have c1 : w.cell? ⟨x, 1, none⟩ = some (.int .i64 0) := cell_of h 1
  have f1 : w.frozen? ⟨x, 1, none⟩ = false := free_of h 1
  have H := hid h; clear h
  go_enter Try.func85, Try.ntmps85
  go_wp2
  go_end0
  exact ⟨rfl, by rw [heap_set H.out]; simp, (Touch.refl _ _).setCell (.inl (by simp)) _⟩

theorem val_step2 (V c : Nat) (hV : V < 72057594037927936) (hc : c < 256) : IntKind.u64.wrap (IntKind.u64.wrap ((V : Int) * 256) + IntKind.u64.wrap (c : Int)) = ((V * 256 + c : Nat) : Int) := by
  simp only [IntKind.wrap_u64]; omega

set_option maxRecDepth 100000 in
theorem rNum_good (x : Nat) (B : ByteArray) (n : Nat) (w : World) (h : w.heap[x]? = some (.cells #[.string B, .int .i64 0] tRIn (0, 0))) (hn : n ≤ 8) (hB : n ≤ B.size) (hB2 : B.size ≤ 9223372036854775807) :
    Calls Try.prog 64 #[.pointer (some ⟨x, 0, none⟩), .int .i64 n] w fun e w' => e = .returned (.int .u64 (val (B.data.toList.take n))) ∧ w'.heap[x]? = some (.cells #[.string (B.extract n B.size), .int .i64 0] tRIn (0, 0)) ∧ Touch [x] w w' := by
  have c0 : w.cell? ⟨x, 0, none⟩ = some (.string B) := cell_of h 0
  have c1 : w.cell? ⟨x, 1, none⟩ = some (.int .i64 0) := cell_of h 1
  have f0 : w.frozen? ⟨x, 0, none⟩ = false := free_of h 0
  have H := hid h; clear h
  have h1 : (n : Int) ≤ B.size := by omega
  have h2 : (0 : Int) ≤ n := by omega
  have HB := hid hB2; clear hB2
  have hlen : B.data.toList.length = B.size := list_len B
  have Hlen := hid hlen; clear hlen
  go_enter Try.func64, Try.ntmps64
  go_wp2
  go_loop [5, 6] (fun v kv => ∃ k : Nat, k ≤ n ∧ kv = .int .i64 k ∧ v = .int .u64 (val (B.data.toList.take k))) (fun _ kv => n - (RowKit.intOf kv).toNat)
  case atStart => exact ⟨0, Nat.zero_le _, rfl, rfl⟩
  case round =>
    obtain ⟨k, hk, rfl, rfl⟩ := hrel
    by_cases hlt : k < n
    · have hkl : k < B.data.toList.length := by have := Hlen.out; omega
      have hkB : k < B.size := by omega
      have hv := hid (val_take B.data.toList k hkl)
      have hs := hid (val_step2 (val (B.data.toList.take k)) B[k].toNat (val_take_lt _ k (by omega)) B[k].toNat_lt)
      have hltI : (k : Int) < n := by omega
      have hltB : (k : Int) < B.size := by omega
      go_wp2
      exact ⟨⟨k + 1, by omega, by go_num, by rw [hv.out, hs.out]; rfl⟩, by simp [RowKit.intOf]; omega⟩
    · obtain rfl : k = n := by omega
      clear hlt hk
      go_wp2
      go_ret
      refine ⟨rfl, ?_, (Touch.refl _ _).setCell (.inl (by simp)) _⟩
      rw [heap_set H.out]
      simp

theorem rNum_st (x : Nat) (st : List UInt8 × Int) (n : Nat) (w : World) (h : RefIs w x st) (hn : n ≤ 8) (hl : st.1.length ≤ 100000) :
    Calls Try.prog 64 #[.pointer (some ⟨x, 0, none⟩), .int .i64 n] w fun e w' => e = .returned (.int .u64 (val (iTake st n).1)) ∧ RPost x (iTake st n).2 w w' := by
  obtain ⟨r, er⟩ := st
  have hR := h
  obtain ⟨B, h, hb⟩ := h
  simp only [] at h hb hl
  by_cases he : er = 0
  · subst he
    have hB := hb rfl
    have hlen : B.size = r.length := by rw [← hB, list_len]
    by_cases hs : r.length < n
    · have hi := hid (iTake_short r n hs)
      have c0 : w.cell? ⟨x, 0, none⟩ = some (.string B) := cell_of h 0
      have c1 : w.cell? ⟨x, 1, none⟩ = some (.int .i64 0) := cell_of h 1
      have C := hid (rFail_any x B 5 w h)
      have h1 : (B.size : Int) < n := by omega
      rw [hi.out]
      clear h hb hR hB hlen hs hl
      go_enter Try.func64, Try.ntmps64
      go_wp2_with (go_at_call 85; refine C.out.mono ?_; rintro e w1 ⟨rfl, hp1, hp2⟩)
      have Hp1 := hid hp1
      go_ret
      exact ⟨rfl, ⟨B, Hp1.out, fun h => absurd h (by decide)⟩, hp2⟩
    · rw [iTake_good r n (by omega)]
      refine (rNum_good x B n w h hn (by omega) (by omega)).mono fun e w' ⟨he, h1, h2⟩ => ⟨by rw [he, hB], ⟨_, h1, fun _ => ?_⟩, h2⟩
      rw [extract_data, hB, hlen]
      exact List.take_of_length_le (by simp)
  · rw [iTake_bad _ _ he]
    have c1 : w.cell? ⟨x, 1, none⟩ = some (.int .i64 er) := cell_of h 1
    have h1 : (er != 0) = true := by simpa using he
    have HR := hid hR
    clear h hb hR he hl
    go_enter Try.func64, Try.ntmps64
    go_wp2
    go_ret
    exact ⟨rfl, HR.out, Touch.refl _ _⟩

theorem iTake_err (st : List UInt8 × Int) (n : Nat) (h : (iTake st n).2.2 ≠ 0) : (iTake st n).1 = [] := by
  unfold iTake at *
  split
  · rfl
  · rename_i h1
    split
    · rfl
    · rename_i h2
      rw [if_neg h1, if_neg h2] at h
      exact absurd rfl h

end Go.Proofs.Ytmaainnfflapiaa
