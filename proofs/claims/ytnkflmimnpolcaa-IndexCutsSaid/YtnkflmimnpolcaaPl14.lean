/- A table's own: where an entry stands, whether it is there, the entries of a hash's versions, the last one, those below a place. -/
import Derived.Test.YtnkflmimnpolcaaBs14
import Derived.Test.YtnkflmimnpolcaaLa12
namespace Go.Proofs.Ytnkflmimnpolcaa
open Go.RowKit Go.Lib
set_option maxRecDepth 100000

set_option maxHeartbeats 1000000 in
theorem place_any (x : Option Addr) (c : Nat) (l : List En) (e : En) (w : World) (hx : EntX w x l) (hs : SortedE l) (hlen : l.length ≤ 1000000) :
    Calls Try.prog 59 #[.slice x l.length c, enV e] w fun r w' => r = .returned (.tuple #[.int .i64 (cntE l e : Nat), .bool (decide (e ∈ l))]) ∧ Touch [] w w' := by
  obtain ⟨W, hW⟩ : ∃ W, W = w.alloc (.cells #[.int .i64 e.1, .int .i64 e.2.1, .int .i64 e.2.2] 32) := ⟨_, rfl⟩
  obtain ⟨b1, hb1⟩ : ∃ b1, b1 = w.heap.size := ⟨_, rfl⟩
  have E1 : EnB W b1 e := by rw [hW, hb1]; exact heap_alloc_new w _
  have T1 : Hid (Touch [] w W) := hid (by rw [hW]; exact (Touch.refl [] w).alloc _)
  have B := hid (bsearch_any x c l e W (hx.t0 T1.out) hs hlen)
  obtain ⟨p1, p2, p3⟩ := E1.c
  generalize decide (e ∈ l) = bv at *
  generalize cntE l e = k at *
  clear E1 hx hs
  go_enter Try.func59, Try.ntmps59
  go_upto_region 1 with fail
  rw [← hW, ← hb1]
  clear hW hb1
  go_wp2_with (go_at_call 68; refine B.out.mono ?_; rintro r w2 ⟨rfl, t2⟩; have T2 := hid t2; clear t2)
  go_ret2
  exact ⟨rfl, T1.out.trans T2.out (by simp)⟩
set_option maxHeartbeats 1000000 in
theorem has_any (x : Option Addr) (c : Nat) (l : List En) (e : En) (w : World) (hx : EntX w x l) (hs : SortedE l) (hlen : l.length ≤ 1000000) :
    Calls Try.prog 51 #[.slice x l.length c, enV e] w fun r w' => r = .returned (.bool (decide (e ∈ l))) ∧ Touch [] w w' := by
  obtain ⟨W, hW⟩ : ∃ W, W = w.alloc (.cells #[.int .i64 e.1, .int .i64 e.2.1, .int .i64 e.2.2] 32) := ⟨_, rfl⟩
  obtain ⟨b1, hb1⟩ : ∃ b1, b1 = w.heap.size := ⟨_, rfl⟩
  have E1 : EnB W b1 e := by rw [hW, hb1]; exact heap_alloc_new w _
  have T1 : Hid (Touch [] w W) := hid (by rw [hW]; exact (Touch.refl [] w).alloc _)
  have B := hid (place_any x c l e W (hx.t0 T1.out) hs hlen)
  obtain ⟨p1, p2, p3⟩ := E1.c
  generalize decide (e ∈ l) = bv at *
  generalize cntE l e = k at *
  clear E1 hx hs
  go_enter Try.func51, Try.ntmps51
  go_upto_region 1 with fail
  rw [← hW, ← hb1]
  clear hW hb1
  go_wp2_with (go_at_call 59; refine B.out.mono ?_; rintro r w2 ⟨rfl, t2⟩; have T2 := hid t2; clear t2)
  go_ret
  exact ⟨rfl, T1.out.trans T2.out (by simp)⟩
/-- The entries of a hash's versions from one to another one. -/
def isV (h f u : Int) (e : En) : Bool := decide (e.1 = h) && (decide (f ≤ e.2.1) && decide (e.2.1 ≤ u))
theorem vers_eq {l : List En} (hs : SortedE l) (hk : ∀ e ∈ l, okE e ∧ wfE e) (h f u : Int) (hfu : f ≤ u) :
    cntE l (h, f, 0) ≤ cntE l (h, u, 9223372036854775807) + (if (h, u, 9223372036854775807) ∈ l then 1 else 0) ∧ cntE l (h, u, 9223372036854775807) + (if (h, u, 9223372036854775807) ∈ l then 1 else 0) ≤ l.length ∧
      (l.drop (cntE l (h, f, 0))).take (cntE l (h, u, 9223372036854775807) + (if (h, u, 9223372036854775807) ∈ l then 1 else 0) - cntE l (h, f, 0)) = l.filter (isV h f u) := by
  have hm := mem_cnt hs (h, u, 9223372036854775807)
  have key : ∀ j (hj : j < l.length), (j < cntE l (h, u, 9223372036854775807) + (if (h, u, 9223372036854775807) ∈ l then 1 else 0)) ↔ (l[j].1 < h ∨ (l[j].1 = h ∧ l[j].2.1 ≤ u)) := by
    intro j hj
    have h1 := cnt_iff hs (h, u, 9223372036854775807) j hj
    rw [ltE_mk] at h1
    obtain ⟨ho, hw⟩ := hk _ (List.getElem_mem hj)
    unfold okE at ho
    unfold wfE at hw
    by_cases hin : (h, u, 9223372036854775807) ∈ l
    · rw [if_pos hin]
      rcases Nat.lt_trichotomy j (cntE l (h, u, 9223372036854775807)) with h2 | h2 | h2
      · have := h1.2 h2; constructor
        · intro _; omega
        · intro _; omega
      · have hlt : cntE l (h, u, 9223372036854775807) < l.length := by omega
        have e2 : l[cntE l (h, u, 9223372036854775807)] = (h, u, 9223372036854775807) := by
          rcases Classical.em (l[cntE l (h, u, 9223372036854775807)] = (h, u, 9223372036854775807)) with e | e
          · exact e
          · exact absurd hin (hm.2.1 hlt e)
        have e3 : l[j] = (h, u, 9223372036854775807) := by rw [← e2]; congr 1
        rw [e3]
        constructor
        · intro _; right; exact ⟨rfl, Int.le_refl _⟩
        · intro _; omega
      · have n1 : ¬ (l[j].1 < h ∨ (l[j].1 = h ∧ (l[j].2.1 < u ∨ (l[j].2.1 = u ∧ l[j].2.2 < 9223372036854775807)))) := fun hc => by have := h1.1 hc; omega
        have hlt : cntE l (h, u, 9223372036854775807) < l.length := by omega
        have e2 : l[cntE l (h, u, 9223372036854775807)] = (h, u, 9223372036854775807) := by
          rcases Classical.em (l[cntE l (h, u, 9223372036854775807)] = (h, u, 9223372036854775807)) with e | e
          · exact e
          · exact absurd hin (hm.2.1 hlt e)
        have h3 := (List.pairwise_iff_getElem.1 hs) _ _ hlt hj h2
        rw [e2] at h3
        unfold ltE at h3
        dsimp only at h3
        constructor
        · intro hc; omega
        · intro hc; omega
    · rw [if_neg hin, Nat.add_zero, ← h1]
      constructor
      · intro hc; omega
      · intro hc
        rcases Classical.em (l[j].2.2 = 9223372036854775807) with e | e
        · by_cases e1 : l[j].1 = h
          · by_cases e2 : l[j].2.1 = u
            · exact absurd (show (h, u, 9223372036854775807) ∈ l from by
                have : l[j] = (h, u, 9223372036854775807) := by rw [← e1, ← e2, ← e]
                rw [← this]; exact List.getElem_mem hj) hin
            · omega
          · omega
        · omega
  have low : ∀ j (hj : j < l.length), j < cntE l (h, f, 0) ↔ (l[j].1 < h ∨ (l[j].1 = h ∧ l[j].2.1 < f)) := by
    intro j hj
    have h1 := cnt_iff hs (h, f, 0) j hj
    rw [ltE_mk] at h1
    obtain ⟨ho, hw⟩ := hk _ (List.getElem_mem hj)
    unfold okE at ho
    rw [← h1]
    constructor
    · intro hc; omega
    · intro hc; omega
  have c1 := cnt_le l (h, f, 0)
  have c2 := cnt_le l (h, u, 9223372036854775807)
  have up : cntE l (h, u, 9223372036854775807) + (if (h, u, 9223372036854775807) ∈ l then 1 else 0) ≤ l.length := by
    by_cases hin : (h, u, 9223372036854775807) ∈ l
    · rw [if_pos hin]
      rcases Nat.lt_or_ge (cntE l (h, u, 9223372036854775807)) l.length with h3 | h3
      · omega
      · exact absurd hin (hm.2.2 h3)
    · rw [if_neg hin]; omega
  generalize cntE l (h, f, 0) = a at *
  generalize cntE l (h, u, 9223372036854775807) + (if (h, u, 9223372036854775807) ∈ l then 1 else 0) = b at *
  have hab : a ≤ b := by
    rcases Nat.lt_or_ge b a with h3 | h3
    · exfalso
      have hb : b < l.length := by omega
      have := (low b hb).1 h3
      have h4 : ¬ b < b := Nat.lt_irrefl b
      exact h4 ((key b hb).2 (by omega))
    · exact h3
  refine ⟨hab, up, ?_⟩
  have e0 : l = l.take a ++ ((l.drop a).take (b - a) ++ l.drop b) := by
    conv => lhs; rw [← List.take_append_drop a l, ← List.take_append_drop (b - a) (l.drop a), List.drop_drop]
    congr 3
    omega
  have f1 : (l.take a).filter (isV h f u) = [] := by
    rw [List.filter_eq_nil_iff]
    intro x hx
    obtain ⟨j, hj, rfl⟩ := List.mem_iff_getElem.1 hx
    rw [List.length_take] at hj
    rw [List.getElem_take]
    have := (low j (by omega)).1 (by omega)
    simp [isV]
    omega
  have f2 : (l.drop b).filter (isV h f u) = [] := by
    rw [List.filter_eq_nil_iff]
    intro x hx
    obtain ⟨j, hj, rfl⟩ := List.mem_iff_getElem.1 hx
    rw [List.length_drop] at hj
    rw [List.getElem_drop]
    have h5 := key (b + j) (by omega)
    have h6 : ¬ b + j < b := by omega
    simp [isV]
    intro q1 q2
    rcases Int.lt_or_le u (l[b + j]'(by omega)).2.1 with h7 | h7
    · exact h7
    · exact absurd (h5.2 (.inr ⟨q1, h7⟩)) h6
  have f3 : ((l.drop a).take (b - a)).filter (isV h f u) = (l.drop a).take (b - a) := by
    rw [List.filter_eq_self]
    intro x hx
    obtain ⟨j, hj, rfl⟩ := List.mem_iff_getElem.1 hx
    rw [List.length_take, List.length_drop] at hj
    rw [List.getElem_take, List.getElem_drop]
    have h5 := (key (a + j) (by omega)).1 (by omega)
    have h6 : ¬ ((l[a + j]'(by omega)).1 < h ∨ ((l[a + j]'(by omega)).1 = h ∧ (l[a + j]'(by omega)).2.1 < f)) := fun hc => by have := (low (a + j) (by omega)).2 hc; omega
    simp [isV]
    omega
  conv => rhs; rw [e0]
  rw [List.filter_append, List.filter_append, f1, f2, f3]
  simp
end Go.Proofs.Ytnkflmimnpolcaa
