/- codec.Out, further: 'number' and what leans on it. -/
import Derived.Test.YtmaainnfflapiaaOutb
namespace Go.Proofs.Ytmaainnfflapiaa
set_option maxRecDepth 100000
open Go.RowKit Go.Lib

/-- The lowest n bytes of v, the highest first. -/
def be (n : Nat) (v : Nat) : List UInt8 := (List.range n).map fun k => UInt8.ofNat (v / 2 ^ (8 * (n - 1 - k)))

theorem be_length (n v : Nat) : (be n v).length = n := by simp [be]

/-- The head of the loop: k bytes are laid. -/
def NumRel (n v k : Nat) (w wr : World) : Prop :=
  ∃ cs, wr = w.alloc (.cells cs 138) ∧ cs.size = 8 ∧ ∀ j, j < k → cs[j]? = some (.int .u8 ((v : Int) / 2 ^ (8 * (n - 1 - j)) % 256))

theorem byte_toNat (v m : Nat) : (((UInt8.ofNat (v / 2 ^ m)).toNat : Nat) : Int) = (v : Int) / 2 ^ m % 256 := by
  rw [UInt8.toNat_ofNat']
  simp

set_option maxRecDepth 100000 in
set_option maxHeartbeats 400000 in
theorem number_calls (pv : Value) (R : World → Prop) (n v : Nat) (w : World) (hn : n ≤ 8) (hn1 : 1 ≤ n)
    (hput : ∀ cs, Calls Try.prog 92 #[pv, .string ⟨(be n v).toArray⟩] (w.alloc (.cells cs 138)) fun e w' => e = .returned pv ∧ R w') :
    Calls Try.prog 81 #[pv, .int .u64 v, .int .i64 n] w fun e w' => e = .returned pv ∧ R w' := by
  have Hput := hid hput; clear hput
  go_enter Try.func81, Try.ntmps81
  go_wp2
  go_loopw [8, 10] (fun _ kv wr => ∃ k : Nat, k ≤ n ∧ kv = .int .i64 k ∧ NumRel n v k w wr) (fun _ kv _ => n - (intOf kv).toNat)
  case atStart => exact ⟨0, Nat.zero_le _, rfl, _, rfl, rfl, fun j hj => absurd hj (Nat.not_lt_zero j)⟩
  case round =>
    obtain ⟨k, hk, rfl, cs, rfl, hcs, hall⟩ := hrel
    have Hall := hid hall; clear hall
    by_cases hlt : k < n
    · obtain ⟨x, hx⟩ : ∃ x, cs[k]? = some x := ⟨cs[k], by simp⟩
      go_wp2
      go_roundw
      case rel =>
        refine ⟨k + 1, by omega, by go_num, _, rfl, by simpa using hcs, fun j hj => ?_⟩
        by_cases hjk : j = k
        · subst hjk
          rw [Array.getElem?_setIfInBounds_self_of_lt (by omega)]
        · rw [Array.getElem?_setIfInBounds_ne (by omega)]
          exact Hall.out j (by omega)
      case measure => simp [intOf]; omega
    · obtain rfl : k = n := by omega
      have hconv : (convert 52 9 (.slice (some ⟨w.heap.size, 0, none⟩) k 8)).run Try.prog (w.alloc (.cells cs 138)) = .ok (.string ⟨(be k v).toArray⟩) (w.alloc (.cells cs 138)) := by
        have := run_convert_bytes_back (P := Try.prog) (w.alloc (.cells cs 138)) 52 9 5 ⟨w.heap.size, 0, none⟩ 8 (be k v) rfl rfl rfl (fun j hj => by
          have hadd : (⟨w.heap.size, 0, none⟩ : Addr).add j = ⟨w.heap.size, j, none⟩ := by unfold Addr.add; split <;> simp_all
          rw [hadd, cell_of (heap_alloc_new w (.cells cs 138)) j, Hall.out j (by rw [be_length] at hj; exact hj)]
          simp only [be, List.getElem_map, List.getElem_range, byte_toNat])
        rw [be_length] at this
        exact this
      clear hcs hk
      have hn2 : (k : Int) ≤ 8 := by omega
      have hn3 : (0 : Int) ≤ k := by omega
      go_wp2_with (go_at_call 92; refine (Hput.out _).mono ?_; rintro e w' ⟨rfl, hR⟩)
      go_ret
      exact ⟨rfl, hR⟩

/-! ### The state of an Out: its bytes, its error (0: none). -/
def OutIs (w : World) (o : Nat) (F : List Nat) (st : List UInt8 × Int) : Prop := (st.2 = 0 ∧ IsOut w o F st.1) ∨ (IsBad w o st.2 ∧ o ∈ F)
def pPut (st : List UInt8 × Int) (s : List UInt8) : List UInt8 × Int := if st.2 = 0 then (st.1 ++ s, 0) else st
def pFail (st : List UInt8 × Int) (e : Int) : List UInt8 × Int := if st.2 = 0 then (st.1, e) else st

/-- What a method leaves that answers the Out itself. -/
def StPost (o : Nat) (F : List Nat) (st : List UInt8 × Int) (w : World) (w' : World) : Prop := ∃ F', OutIs w' o F' st ∧ Touch F w w' ∧ ∀ f ∈ F', f ∈ F ∨ w.heap.size ≤ f

theorem IsOut.mem {w : World} {o : Nat} {F : List Nat} {bs : List UInt8} (h : IsOut w o F bs) : o ∈ F := by
  rcases h with ⟨_, _, rfl⟩ | ⟨p, g, cap, _, _, _, _, _, _, rfl⟩ <;> simp
theorem OutIs.mem {w : World} {o : Nat} {F : List Nat} {st : List UInt8 × Int} (h : OutIs w o F st) : o ∈ F := by
  rcases h with ⟨_, h⟩ | ⟨_, h⟩
  · exact h.mem
  · exact h
theorem IsOut.lt {w : World} {o : Nat} {F : List Nat} {bs : List UInt8} (h : IsOut w o F bs) : ∀ f ∈ F, f < w.heap.size := by
  rcases h with ⟨h, _, rfl⟩ | ⟨p, g, cap, h, hp, hg, _, _, _, rfl⟩
  · intro f hf; simp at hf; subst hf; exact lt_of_block h
  · intro f hf
    simp at hf
    rcases hf with rfl | rfl | rfl
    · exact lt_of_block h
    · exact lt_of_block hp
    · exact hg.lt
theorem IsOut.keep {w w' : World} {o : Nat} {F G : List Nat} {bs : List UInt8} (h : IsOut w o F bs) (ht : Touch G w w') (hd : ∀ f ∈ F, f ∉ G) : IsOut w' o F bs := by
  have hh : ∀ f ∈ F, w'.heap[f]? = w.heap[f]? := fun f hf => ht.block f (h.lt f hf) (hd f hf)
  rcases h with ⟨h, hb, rfl⟩ | ⟨p, g, cap, h, hp, hg, h1, h2, h3, rfl⟩
  · exact .inl ⟨(hh o (by simp)).trans h, hb, rfl⟩
  · exact .inr ⟨p, g, cap, (hh o (by simp)).trans h, (hh p (by simp)).trans hp, hg.of_heap (hh g (by simp)), h1, h2, h3, rfl⟩
theorem IsBad.keep {w w' : World} {o : Nat} {G : List Nat} {er : Int} (h : IsBad w o er) (ht : Touch G w w') (hd : o ∉ G) : IsBad w' o er := by
  obtain ⟨he, pv, u, h⟩ := h
  exact ⟨he, pv, u, (ht.block o (lt_of_block h) hd).trans h⟩
theorem OutIs.keep {w w' : World} {o : Nat} {F G : List Nat} {st : List UInt8 × Int} (h : OutIs w o F st) (ht : Touch G w w') (hd : ∀ f ∈ F, f ∉ G) : OutIs w' o F st := by
  rcases h with ⟨h0, h⟩ | ⟨h, hm⟩
  · exact .inl ⟨h0, h.keep ht hd⟩
  · exact .inr ⟨h.keep ht (hd o hm), hm⟩
theorem StPost.up {o : Nat} {F G : List Nat} {st : List UInt8 × Int} {w w2 w' : World} (h : StPost o F st w2 w') (ht : Touch G w w2) (hF : ∀ f ∈ F, f ∈ G ∨ w.heap.size ≤ f) : StPost o G st w w' := by
  obtain ⟨F', h1, h2, h3⟩ := h
  refine ⟨F', h1, ht.trans h2 hF, fun f hf => ?_⟩
  rcases h3 f hf with h4 | h4
  · exact hF f h4
  · exact .inr (Nat.le_trans ht.size h4)
/-- Behind what touches nothing that was there. -/
theorem StPost.up0 {o : Nat} {F : List Nat} {st : List UInt8 × Int} {w w2 w' : World} (h : StPost o F st w2 w') (ht : Touch [] w w2) : StPost o F st w w' :=
  h.up (ht.mono (by simp)) fun _ hf => .inl hf

theorem put_st (o : Nat) (F : List Nat) (st : List UInt8 × Int) (s : ByteArray) (w : World) (h : OutIs w o F st) (hb : st.1.length + s.size ≤ 140737488355328) :
    Calls Try.prog 92 #[.pointer (some ⟨o, 0, none⟩), .string s] w fun e w' => e = .returned (.pointer (some ⟨o, 0, none⟩)) ∧ StPost o F (pPut st s.data.toList) w w' := by
  obtain ⟨bs, er⟩ := st
  rcases h with ⟨h0, h⟩ | ⟨h, hm⟩
  · obtain rfl : er = 0 := h0
    refine (put_any o F bs s w h hb).mono fun e w' ⟨he, F', h1, h2, h3⟩ => ⟨he, F', .inl ⟨by simp [pPut], by simpa [pPut] using h1⟩, h2, h3⟩
  · refine (put_bad o er s w h).mono fun e w' ⟨he, hw⟩ => ⟨he, F, ?_, hw ▸ Touch.refl _ _, fun f hf => .inl hf⟩
    subst hw
    have : er ≠ 0 := h.1
    exact .inr ⟨by simpa [pPut, this] using h, hm⟩

theorem fail_st (o : Nat) (F : List Nat) (st : List UInt8 × Int) (e2 : Int) (w : World) (h : OutIs w o F st) (he2 : e2 ≠ 0) :
    Calls Try.prog 93 #[.pointer (some ⟨o, 0, none⟩), .int .i64 e2] w fun e w' => e = .returned (.pointer (some ⟨o, 0, none⟩)) ∧ StPost o F (pFail st e2) w w' := by
  have hm := h.mem
  obtain ⟨bs, er⟩ := st
  rcases h with ⟨h0, h⟩ | ⟨h, _⟩
  · obtain rfl : er = 0 := h0
    refine (fail_good o F bs e2 w h he2).mono fun e w' ⟨he, h1, h2⟩ => ⟨he, F, .inr ⟨by simpa [pFail] using h1, hm⟩, h2.mono (by simp [hm]), fun f hf => .inl hf⟩
  · refine (fail_bad o er e2 w h).mono fun e w' ⟨he, hw⟩ => ⟨he, F, ?_, hw ▸ Touch.refl _ _, fun f hf => .inl hf⟩
    subst hw
    have : er ≠ 0 := h.1
    exact .inr ⟨by simpa [pFail, this] using h, hm⟩

theorem number_st (o : Nat) (F : List Nat) (st : List UInt8 × Int) (n v : Nat) (w : World) (h : OutIs w o F st) (hb : st.1.length + n ≤ 140737488355328) (hn : n ≤ 8) (hn1 : 1 ≤ n) :
    Calls Try.prog 81 #[.pointer (some ⟨o, 0, none⟩), .int .u64 v, .int .i64 n] w fun e w' => e = .returned (.pointer (some ⟨o, 0, none⟩)) ∧ StPost o F (pPut st (be n v)) w w' := by
  refine number_calls _ _ n v w hn hn1 fun cs => ?_
  have ht : Touch [] w (w.alloc (.cells cs 138)) := (Touch.refl _ _).alloc _
  have hsz : (⟨(be n v).toArray⟩ : ByteArray).size = n := by
    show (be n v).toArray.size = n
    simp [be_length]
  refine (put_st o F st ⟨(be n v).toArray⟩ _ (h.keep ht (by simp)) (by rw [hsz]; exact hb)).mono fun e w' ⟨he, hp⟩ => ⟨he, ?_⟩
  have := hp.up0 ht
  simpa using this

theorem number_nil (n v : Nat) (w : World) (hn : n ≤ 8) (hn1 : 1 ≤ n) :
    Calls Try.prog 81 #[.pointer none, .int .u64 v, .int .i64 n] w fun e w' => e = .returned (.pointer none) ∧ Touch [] w w' := by
  refine number_calls _ _ n v w hn hn1 fun cs => (put_nil _ _).mono fun e w' ⟨he, hw⟩ => ⟨he, ?_⟩
  subst hw
  exact (Touch.refl _ _).alloc _
end Go.Proofs.Ytmaainnfflapiaa
