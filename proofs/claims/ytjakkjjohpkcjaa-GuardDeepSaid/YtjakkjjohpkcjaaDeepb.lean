/- deep at every depth. -/
import Derived.Test.YtjakkjjohpkcjaaDeep
namespace Go.Proofs.Ytjakkjjohpkcjaa
open Go.RowKit Go.Lib

def DR (f : FltD) (bt g be : Nat) (gs : List FltD) (m : Nat) (z : Int) (X : World) (f' : FltD) (w1 : World) : Prop := f' = f ∧ DeepR bt g be gs m z X w1
theorem DeepR.touch {bt g be : Nat} {gs : List FltD} {m : Nat} {z : Int} {X w1 w2 : World} {p : Nat} (h : DeepR bt g be gs m z X w1) (t : Touch [p] w1 w2) (hbt : bt < p) (hg : g < p) (hbe : be < p) (hp : X.heap.size ≤ p) : DeepR bt g be gs m z X w2 := by
  obtain ⟨h1, h2, h3, h4⟩ := h
  exact ⟨touch_other t h1 (by simp; omega), h2.touch t (by simp; omega), touch_other t h3 (by simp; omega), h4.trans t (by simp; omega)⟩

theorem deep_zero (kind : Int) (s : ByteArray) (hk : kind = 0 ∨ kind = 1 ∨ kind = 2 ∨ kind = 3) : DeepSays kind s 0 := by
  intro fs n z X bt g be hn hm _ _ n1 n2 n3 hh hr he
  have l1 := lt_of_block hh
  have l2 := hr.lt
  have l3 := lt_of_block he
  obtain ⟨a0, a1, a2, a3, a4, hsz, hT⟩ := deepW_heap 0 kind s bt be X
  have hp := heap_alloc_new (deepW 0 kind s bt be X) (.cells #[.int .i64 0, .int .i64 0, .string none8] TFault)
  have C := deep_last kind s hk ((deepW 0 kind s bt be X).alloc (.cells #[.int .i64 0, .int .i64 0, .string none8] TFault)) _ _ _ _ be (.pointer (some ⟨X.heap.size + 3, 0, none⟩)) z (heap_alloc_keep a0 _) (heap_alloc_keep a1 _) (heap_alloc_keep a2 _) (heap_alloc_keep a4 _) (heap_alloc_keep (touch_other hT he (by simp)) _)
  have D := do_any _ _ (DR (wantF kind s) bt g be fs n z (deepW 0 kind s bt be X)) (deepW 0 kind s bt be X) (enters_deep _ _ _ _ _) (C.mono fun e w1 ⟨t, h⟩ => by
    have key : DeepR bt g be fs n z (deepW 0 kind s bt be X) w1 := ⟨touch_other t (heap_alloc_keep (touch_other hT hh (by simp)) _) (by simp), (hr.touch hT (by simp)).touch (((Touch.refl [] _).alloc _).trans t (by simp)) (by simp), touch_other t (heap_alloc_keep (touch_other hT he (by simp)) _) (by simp), (((Touch.refl [] _).alloc _).trans t (by simp)).mono (by simp)⟩
    refine ⟨touch_other t hp (by simp), ?_⟩
    rcases h with ⟨v, rfl, hf⟩ | ⟨v, rfl, ht⟩
    · exact .inl ⟨v, rfl, hf.symm, key⟩
    · exact .inr ⟨v, _, rfl, ht, rfl, key⟩)
  refine (deep_by 0 kind s fs (wantF kind s) n z X bt g be hn (by omega) n1 n2 n3 l2 l1 l3 (D.mono ?_)).mono ?_
  · rintro e w' ⟨f, w1, rfl, ⟨rfl, h⟩, t⟩
    exact ⟨rfl, h.touch t (by omega) (by omega) (by omega) (Nat.le_refl _)⟩
  · intro e w' h
    simpa using h

theorem deep_succ (kind : Int) (s : ByteArray) (d : Nat) (IH : DeepSays kind s d) : DeepSays kind s (d + 1) := by
  intro fs n z X bt g be hn hm hz hzd n1 n2 n3 hh hr he
  have l1 := lt_of_block hh
  have l2 := hr.lt
  have l3 := lt_of_block he
  obtain ⟨a0, a1, a2, a3, a4, hsz, hT⟩ := deepW_heap ((d : Int) + 1) kind s bt be X
  have hp := heap_alloc_new (deepW ((d : Int) + 1) kind s bt be X) (.cells #[.int .i64 0, .int .i64 0, .string none8] TFault)
  have C := deep_within kind s d IH fs n z ((deepW ((d : Int) + 1) kind s bt be X).alloc (.cells #[.int .i64 0, .int .i64 0, .string none8] TFault)) bt g be _ _ _ _ _ hn (by omega) hz (by omega) n1 n2 n3 (by omega)
    (heap_alloc_keep a0 _) (heap_alloc_keep a1 _) (heap_alloc_keep a2 _) (heap_alloc_keep a3 _) (heap_alloc_keep a4 _) (heap_alloc_keep (touch_other hT hh (by simp)) _) ((hr.touch hT (by simp)).touch ((Touch.refl [] _).alloc _) (by simp)) (heap_alloc_keep (touch_other hT he (by simp)) _)
  have D := do_any _ _ (DR fine bt g be (fs ++ wantF kind s :: List.replicate d fine) (n + d + 1) (z + d + 1) (deepW ((d : Int) + 1) kind s bt be X)) (deepW ((d : Int) + 1) kind s bt be X) (enters_deep _ _ _ _ _) (C.mono fun e w1 ⟨he', h1, h2, h3, t⟩ => by
    subst he'
    exact ⟨touch_other t hp (by simp; omega), .inl ⟨_, rfl, rfl, h1, h2, h3, (((Touch.refl [bt, g, be] _).alloc _).trans t (by simp))⟩⟩)
  refine (deep_by ((d : Int) + 1) kind s (fs ++ wantF kind s :: List.replicate d fine) fine (n + d + 1) (z + d + 1) X bt g be (by simp [hn]; omega) (by omega) n1 n2 n3 l2 l1 l3 (D.mono ?_)).mono ?_
  · rintro e w' ⟨f, w1, rfl, ⟨rfl, h⟩, t⟩
    exact ⟨rfl, h.touch t (by omega) (by omega) (by omega) (Nat.le_refl _)⟩
  · intro e w' h
    have e1 : (fs ++ wantF kind s :: List.replicate d fine) ++ [fine] = fs ++ wantF kind s :: List.replicate (d + 1) fine := by
      rw [List.append_assoc, List.cons_append, List.replicate_succ']
    have e2 : z + d + 1 = z + ((d + 1 : Nat) : Int) := by omega
    rw [e1, e2] at h
    exact h

theorem deep_all (kind : Int) (s : ByteArray) (hk : kind = 0 ∨ kind = 1 ∨ kind = 2 ∨ kind = 3) : ∀ d, DeepSays kind s d
  | 0 => deep_zero kind s hk
  | d + 1 => deep_succ kind s d (deep_all kind s hk d)
end Go.Proofs.Ytjakkjjohpkcjaa
