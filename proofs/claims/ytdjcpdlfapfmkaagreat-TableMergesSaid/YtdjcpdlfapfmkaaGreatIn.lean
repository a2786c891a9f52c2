/- What the methods of codec.In return and leave. -/
import Derived.Test.YtdjcpdlfapfmkaaGreatBase
import Derived.Test.YtdjcpdlfapfmkaaGreatProg
import Derived.Lib.Strings
namespace Go.Proofs.YtdjcpdlfapfmkaaGreat
set_option maxRecDepth 100000
open Go.RowKit Go.Lib

abbrev tIn : TypeId := 128

theorem str_eq {s : ByteArray} {l : List UInt8} (h : s.data.toList = l) : s = ⟨l.toArray⟩ := by subst h; simp

/-- The In at block i: what is left, its error (0: none; with one nothing is left). -/
def InIs (w : World) (i : Nat) (st : List UInt8 × Int) : Prop := w.heap[i]? = some (.cells #[.string ⟨st.1.toArray⟩, .int .i64 st.2] tIn (0, 0)) ∧ (st.2 ≠ 0 → st.1 = [])
def InPost (i : Nat) (st : List UInt8 × Int) (w w' : World) : Prop := InIs w' i st ∧ Touch [i] w w'

theorem InIs.lt {w : World} {i : Nat} {st : List UInt8 × Int} (h : InIs w i st) : i < w.heap.size := lt_of_block h.1
theorem InIs.keep {w w' : World} {i : Nat} {G : List Nat} {st : List UInt8 × Int} (h : InIs w i st) (ht : Touch G w w') (hd : i ∉ G) : InIs w' i st := ⟨(ht.block i h.lt hd).trans h.1, h.2⟩
theorem InPost.refl {i : Nat} {st : List UInt8 × Int} {w : World} (h : InIs w i st) : InPost i st w w := ⟨h, Touch.refl _ _⟩
theorem InPost.up {i : Nat} {st : List UInt8 × Int} {w w2 w' : World} (h : InPost i st w2 w') (ht : Touch [i] w w2) : InPost i st w w' := ⟨h.1, ht.trans h.2 (by simp)⟩
theorem InPost.on {i : Nat} {st : List UInt8 × Int} {w w2 w' : World} (h : InPost i st w w2) (ht : Touch [] w2 w') : InPost i st w w' := ⟨h.1.keep ht (by simp), h.2.trans ht (by simp)⟩

def iFail (st : List UInt8 × Int) (e : Int) : List UInt8 × Int := if st.2 = 0 then ([], e) else st

theorem newIn_any (s : ByteArray) (w : World) :
    Calls Tryz.prog 40 #[.string s] w fun e w' => e = .returned (.pointer (some ⟨w.heap.size, 0, none⟩)) ∧ InIs w' w.heap.size (s.data.toList, 0) ∧ Touch [] w w' := by
  go_enter Tryz.func40, Tryz.ntmps40
  go_wp2
  go_ret
  refine ⟨rfl, ⟨?_, fun h => absurd rfl h⟩, (Touch.refl _ _).alloc _⟩
  rw [heap_alloc_new]

theorem err_st (i : Nat) (st : List UInt8 × Int) (w : World) (h : InIs w i st) :
    Calls Tryz.prog 42 #[.pointer (some ⟨i, 0, none⟩)] w fun e w' => e = .returned (.int .i64 st.2) ∧ w = w' := by
  have c1 : w.cell? ⟨i, 1, none⟩ = some (.int .i64 st.2) := cell_of h.1 1
  clear h
  go_enter Tryz.func42, Tryz.ntmps42
  go_wp2
  go_ret
  exact ⟨rfl, rfl⟩
theorem err_nil (w : World) :
    Calls Tryz.prog 42 #[.pointer none] w fun e w' => e = .returned (.int .i64 1) ∧ w = w' := by
  go_enter Tryz.func42, Tryz.ntmps42
  go_wp2
  go_ret
  exact ⟨rfl, rfl⟩

theorem left_st (i : Nat) (st : List UInt8 × Int) (w : World) (h : InIs w i st) :
    Calls Tryz.prog 43 #[.pointer (some ⟨i, 0, none⟩)] w fun e w' => e = .returned (.int .i64 st.1.length) ∧ w = w' := by
  obtain ⟨s, hs⟩ : ∃ s : ByteArray, s = ⟨st.1.toArray⟩ := ⟨_, rfl⟩
  have hl : st.1.length = s.size := by rw [hs]; show _ = st.1.toArray.size; simp
  have h1 := h.1
  rw [← hs] at h1
  rw [hl]
  have c1 : w.cell? ⟨i, 0, none⟩ = some (.string s) := cell_of h1 0
  clear h h1 hl hs
  go_enter Tryz.func43, Tryz.ntmps43
  go_wp2
  go_ret
  exact ⟨rfl, rfl⟩
theorem left_nil (w : World) :
    Calls Tryz.prog 43 #[.pointer none] w fun e w' => e = .returned (.int .i64 0) ∧ w = w' := by
  go_enter Tryz.func43, Tryz.ntmps43
  go_wp2
  go_ret
  exact ⟨rfl, rfl⟩

/-- 'fail' is asked only of one without an error. -/
theorem inFail_st (i : Nat) (r : List UInt8) (e2 : Int) (w : World) (h : InIs w i (r, 0)) :
    Calls Tryz.prog 121 #[.pointer (some ⟨i, 0, none⟩), .int .i64 e2] w fun e w' => e = .returned (.tuple #[]) ∧ InPost i ([], e2) w w' := by
  have H := hid h.1
  have c0 : w.cell? ⟨i, 0, none⟩ = some (.string ⟨r.toArray⟩) := cell_of h.1 0
  have c1 : w.cell? ⟨i, 1, none⟩ = some (.int .i64 0) := cell_of h.1 1
  have f0 : w.frozen? ⟨i, 0, none⟩ = false := free_of h.1 0
  have f1 : w.frozen? ⟨i, 1, none⟩ = false := free_of h.1 1
  clear h
  go_enter Tryz.func121, Tryz.ntmps121
  go_wp2
  go_end0
  exact ⟨rfl, ⟨by rw [heap_set (heap_set H.out _) _]; simp, fun _ => rfl⟩, ((Touch.refl _ _).setCell (.inl (by simp)) _).setCell (.inl (by simp)) _⟩

def iTake (st : List UInt8 × Int) (n : Nat) : List UInt8 × (List UInt8 × Int) :=
  if st.2 ≠ 0 then ([], st) else if st.1.length < n then ([], ([], 5)) else (st.1.take n, (st.1.drop n, 0))

theorem take_st (i : Nat) (st : List UInt8 × Int) (n : Nat) (w : World) (h : InIs w i st) :
    Calls Tryz.prog 116 #[.pointer (some ⟨i, 0, none⟩), .int .i64 n] w fun e w' => e = .returned (.string ⟨(iTake st n).1.toArray⟩) ∧ InPost i (iTake st n).2 w w' := by
  obtain ⟨r, er⟩ := st
  have C := hid (err_st i (r, er) w h)
  by_cases he : er = 0
  · subst he
    by_cases hl : r.length < n
    · have hs : iTake (r, 0) n = ([], ([], 5)) := by simp [iTake, hl]
      rw [hs]
      obtain ⟨s, hse⟩ : ∃ s : ByteArray, s = ⟨r.toArray⟩ := ⟨_, rfl⟩
      have hsz : s.size = r.length := by rw [hse]; show r.toArray.size = _; simp
      have C2 := hid (inFail_st i r 5 w h)
      have c0 : w.cell? ⟨i, 0, none⟩ = some (.string s) := by rw [hse]; exact cell_of h.1 0
      have h1 : (s.size : Int) < n := by omega
      clear hse hsz hs hl h
      go_enter Tryz.func116, Tryz.ntmps116
      go_wp2_with (first | (go_at_call 42; refine C.out.mono ?_; rintro e w' ⟨rfl, rfl⟩) | (go_at_call 121; refine C2.out.mono ?_; rintro e w' ⟨rfl, hp⟩))
      go_ret
      exact ⟨rfl, hp⟩
    · have hs : iTake (r, 0) n = (r.take n, (r.drop n, 0)) := by simp [iTake, hl]
      rw [hs]
      obtain ⟨s, hse⟩ : ∃ s : ByteArray, s = ⟨r.toArray⟩ := ⟨_, rfl⟩
      have hsz : s.size = r.length := by rw [hse]; show r.toArray.size = _; simp
      have hd : s.data.toList = r := by rw [hse]
      have c0 : w.cell? ⟨i, 0, none⟩ = some (.string s) := by rw [hse]; exact cell_of h.1 0
      have f0 : w.frozen? ⟨i, 0, none⟩ = false := free_of h.1 0
      have h1 : (n : Int) ≤ s.size := by omega
      have h2 : (0 : Int) ≤ n := by omega
      have e1 := hid (str_eq (show (s.extract 0 n).data.toList = r.take n by rw [extract_data, hd]; simp))
      have e2 := hid (str_eq (show (s.extract n s.size).data.toList = r.drop n by rw [extract_data, hd, hsz]; apply List.take_of_length_le; simp))
      have H := hid h.1
      clear hse hsz hs hl h hd
      go_enter Tryz.func116, Tryz.ntmps116
      go_wp2_with (first | (go_at_call 42; refine C.out.mono ?_; rintro e w' ⟨rfl, rfl⟩))
      go_ret
      refine ⟨?_, ?_⟩
      · rw [← e1.out]; rfl
      · refine ⟨⟨?_, fun h => absurd rfl h⟩, (Touch.refl _ _).setCell (.inl (by simp)) _⟩
        rw [heap_set H.out, ← e2.out]
        simp
  · have hs : iTake (r, er) n = ([], (r, er)) := by simp [iTake, he]
    have hp := hid (InPost.refl h)
    rw [hs]
    have h1 : (er != 0) = true := by simpa using he
    clear h hs he
    go_enter Tryz.func116, Tryz.ntmps116
    go_wp2_with (go_at_call 42; refine C.out.mono ?_; rintro e w' ⟨rfl, rfl⟩)
    go_ret
    exact ⟨rfl, hp.out⟩

/-- The bytes as a number, the highest first. -/
def val (l : List UInt8) : Nat := l.foldl (fun v c => v * 256 + c.toNat) 0

theorem val_snoc (l : List UInt8) (c : UInt8) : val (l ++ [c]) = val l * 256 + c.toNat := by simp [val]
theorem val_lt_aux : ∀ (l : List UInt8) (a : Nat), l.foldl (fun v c => v * 256 + c.toNat) a < (a + 1) * 256 ^ l.length
  | [], a => by simp
  | c :: l, a => by
    have h := val_lt_aux l (a * 256 + c.toNat)
    have hc := c.toNat_lt
    simp only [List.foldl_cons, List.length_cons]
    refine Nat.lt_of_lt_of_le h ?_
    rw [Nat.pow_succ, Nat.mul_comm (256 ^ l.length) 256, ← Nat.mul_assoc]
    exact Nat.mul_le_mul_right _ (by omega)
theorem val_lt (l : List UInt8) : val l < 256 ^ l.length := by simpa [val] using val_lt_aux l 0
theorem val_take (l : List UInt8) (k : Nat) (h : k < l.length) : val (l.take (k + 1)) = val (l.take k) * 256 + l[k].toNat := by
  rw [List.take_succ_eq_append_getElem h, val_snoc]
theorem val_take_lt (l : List UInt8) (k : Nat) (h : k ≤ 7) : val (l.take k) < 72057594037927936 := by
  have h1 := val_lt (l.take k)
  have h2 : (l.take k).length ≤ 7 := by rw [List.length_take]; omega
  have h3 : 256 ^ (l.take k).length ≤ 256 ^ 7 := Nat.pow_le_pow_right (by decide) h2
  have h4 : (256 : Nat) ^ 7 = 72057594037927936 := by decide
  omega
/-- One step: 'v<<8 | uint64(c)'. -/
theorem val_step (V c : Nat) (hV : V < 72057594037927936) (hc : c < 256) : bits BinOp.or IntKind.u64 (IntKind.u64.wrap ((V : Int) * 256)) (IntKind.u64.wrap (c : Int)) = ((V * 256 + c : Nat) : Int) := by
  have e1 : IntKind.u64.wrap ((V : Int) * 256) = ((V * 256 : Nat) : Int) := by rw [IntKind.wrap_u64]; omega
  have e2 : IntKind.u64.wrap (c : Int) = (c : Int) := by rw [IntKind.wrap_u64]; omega
  rw [e1, e2, u64_or_nat _ _ (by omega) (by omega)]
  have := Nat.two_pow_add_eq_or_of_lt (i := 8) (b := c) (by simpa using hc) V
  rw [show V * 256 = 2 ^ 8 * V by omega, this]

/-- Behind R, and then something that touched nothing. -/
def Behind (R : World → Prop) (w' : World) : Prop := ∃ w1, R w1 ∧ Touch [] w1 w'

theorem inNumber_calls (pv : Value) (R : World → Prop) (l : List UInt8) (n : Nat) (w : World) (hn : n ≤ 8) (hlen : l.length ≤ n)
    (htake : Calls Tryz.prog 116 #[pv, .int .i64 n] w fun e w' => e = .returned (.string ⟨l.toArray⟩) ∧ R w') :
    Calls Tryz.prog 91 #[pv, .int .i64 n] w fun e w' => e = .returned (.int .u64 (val l)) ∧ Behind R w' := by
  have C := hid htake
  clear htake
  have hsz : (⟨l.toArray⟩ : ByteArray).size = l.length := by show l.toArray.size = _; simp
  obtain ⟨cf, Wf, HW, hconv⟩ : ∃ (cf : World → Nat) (Wf : World → World), Hid (∀ w1, Wf w1 = bytesWorld w1 5 ⟨l.toArray⟩) ∧ ∀ w1, (convert 9 123 (.string ⟨l.toArray⟩)).run Tryz.prog w1 = .ok (.slice (some ⟨w1.heap.size, 0, none⟩) l.length (cf w1)) (Wf w1) :=
    ⟨_, _, fun _ => rfl, fun w1 => by have := Go.Lib.run_convert_string_bytes (P := Tryz.prog) w1 9 123 5 ⟨l.toArray⟩ rfl rfl rfl; rw [hsz] at this; exact this⟩
  have hcell := hid (fun (w1 : World) (k : Nat) (hk : k < l.length) => show (Wf w1).cell? ⟨w1.heap.size, k, none⟩ = some (.int .u8 (l[k].toNat : Int)) by
    rw [HW.out, bytesWorld_cell _ _ _ _ (by rw [hsz]; exact hk)]
    simp [List.getD, hk])
  clear hsz
  go_enter Tryz.func91, Tryz.ntmps91
  go_wp2_with (go_at_call 116; refine C.out.mono ?_; rintro e w1 ⟨rfl, hp⟩)
  have hp2 : Hid (Behind R (Wf w1)) := ⟨w1, hp, by rw [HW.out]; exact touch_bytes _ _ _⟩
  clear hp
  go_loop [5, 7, 13] (fun v _ kv => ∃ k : Nat, k ≤ l.length ∧ kv = .int .i64 k ∧ v = .int .u64 (val (l.take k))) (fun _ _ kv => l.length - (intOf kv).toNat)
  case atStart => exact ⟨0, Nat.zero_le _, rfl, rfl⟩
  case round =>
    obtain ⟨k, hk, rfl, rfl⟩ := hrel
    by_cases hlt : k < l.length
    · have hc := hcell.out w1 k hlt
      have hltI : (k : Int) < l.length := by omega
      have hv := hid (val_take l k hlt)
      have hs := hid (val_step (val (l.take k)) l[k].toNat (val_take_lt l k (by omega)) l[k].toNat_lt)
      go_wp2
      go_round
      case rel => exact ⟨k + 1, by omega, by go_num, by rw [hv.out, ← hs.out]⟩
      case measure => simp [intOf]; omega
    · obtain rfl : k = l.length := by omega
      have hv := hid (show val (l.take l.length) = val l by simp)
      clear hk hlt
      go_wp2
      go_ret
      exact ⟨by simp, hp2.out⟩

theorem iTake_len (st : List UInt8 × Int) (n : Nat) : (iTake st n).1.length ≤ n := by
  unfold iTake
  split
  · simp
  · split
    · simp
    · simp; omega
theorem iTake_le (st : List UInt8 × Int) (n : Nat) : (iTake st n).1.length ≤ st.1.length ∧ (iTake st n).2.1.length ≤ st.1.length := by
  unfold iTake
  split
  · simp
  · split
    · simp
    · simp; omega

theorem inNumber_st (i : Nat) (st : List UInt8 × Int) (n : Nat) (w : World) (h : InIs w i st) (hn : n ≤ 8) :
    Calls Tryz.prog 91 #[.pointer (some ⟨i, 0, none⟩), .int .i64 n] w fun e w' => e = .returned (.int .u64 (val (iTake st n).1)) ∧ InPost i (iTake st n).2 w w' :=
  (inNumber_calls _ _ _ n w hn (iTake_len st n) (take_st i st n w h)).mono fun _ _ ⟨he, _, h1, h2⟩ => ⟨he, h1.on h2⟩

theorem take_nil (n : Nat) (w : World) :
    Calls Tryz.prog 116 #[.pointer none, .int .i64 n] w fun e w' => e = .returned (.string ⟨#[]⟩) ∧ w = w' := by
  go_enter Tryz.func116, Tryz.ntmps116
  go_wp2_with (go_at_call 42; refine (err_nil _).mono ?_; rintro e w' ⟨rfl, rfl⟩)
  go_ret
  exact ⟨rfl, rfl⟩
theorem inNumber_nil (n : Nat) (w : World) (hn : n ≤ 8) :
    Calls Tryz.prog 91 #[.pointer none, .int .i64 n] w fun e w' => e = .returned (.int .u64 0) ∧ Touch [] w w' :=
  (inNumber_calls _ _ [] n w hn (by simp) (take_nil n w)).mono fun _ _ ⟨he, _, h1, h2⟩ => ⟨he, h1 ▸ h2⟩

/-! ### The exported readers -/
theorem inU32_st (i : Nat) (st : List UInt8 × Int) (w : World) (h : InIs w i st) :
    Calls Tryz.prog 41 #[.pointer (some ⟨i, 0, none⟩)] w fun e w' => e = .returned (.int .i64 (val (iTake st 4).1)) ∧ InPost i (iTake st 4).2 w w' := by
  have C := hid (inNumber_st i st 4 w h (by decide))
  have hv : val (iTake st 4).1 < 4294967296 := Nat.lt_of_lt_of_le (val_lt _) (Nat.le_trans (Nat.pow_le_pow_right (by decide) (iTake_len st 4)) (by decide))
  generalize (iTake st 4) = r at *
  generalize val r.1 = v at *
  have h1 : (v : Int) < 4294967296 := by omega
  have h2 : (0 : Int) ≤ v := by omega
  clear h hv
  go_enter Tryz.func41, Tryz.ntmps41
  go_wp2_with (go_at_call 91; refine C.out.mono ?_; rintro e w1 ⟨rfl, hp⟩)
  go_ret
  exact ⟨rfl, hp⟩
theorem inI64_st (i : Nat) (st : List UInt8 × Int) (w : World) (h : InIs w i st) :
    Calls Tryz.prog 44 #[.pointer (some ⟨i, 0, none⟩)] w fun e w' => e = .returned (.int .i64 (wrap64 (val (iTake st 8).1))) ∧ InPost i (iTake st 8).2 w w' := by
  have C := hid (inNumber_st i st 8 w h (by decide))
  generalize (iTake st 8) = r at *
  clear h
  go_enter Tryz.func44, Tryz.ntmps44
  go_wp2_with (go_at_call 91; refine C.out.mono ?_; rintro e w1 ⟨rfl, hp⟩)
  go_ret
  exact ⟨rfl, hp⟩

/-- End. -/
def iEnd (st : List UInt8 × Int) : List UInt8 × Int := if st.1 = [] then st else ([], 6)
end Go.Proofs.YtdjcpdlfapfmkaaGreat
