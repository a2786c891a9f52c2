/- slices.BinarySearchFunc over a row of files, and the disk's find. -/
import Derived.Test.YthibabfojndlkaaSlc
import Derived.Test.YthibabfojndlkaaShelf
namespace Go.Proofs.Ythibabfojndlkaa
open Go.RowKit Go.Lib
set_option maxRecDepth 100000

theorem byName_any {w : World} {x : Px} (h : HeadAt w x) (nm : ByteArray) :
    Calls Try.prog 51 #[ptr x.b, .string nm] w fun e w' => e = .returned (.int .i64 (cmpN x.f.name nm)) ∧ w' = w := by
  have c0 : w.cell? ⟨x.b, 0, none⟩ = some (.string x.f.name) := cell_of h 0
  have C := hid (Try.strings_Compare x.f.name nm w)
  unfold ptr
  clear h
  unfold cmpN
  generalize Lib.compareBytes x.f.name.data.toList nm.data.toList = r at *
  go_enter Try.func51, Try.ntmps51
  go_wp2_with (go_at_call 52; refine C.out.mono ?_; rintro e w1 ⟨rfl, rfl⟩)
  go_ret
  exact ⟨rfl, rfl⟩
theorem row_cell {w : World} {v : Value} {L : List Px} (h : RowAt w v L) :
    ∃ x c, v = .slice x L.length c ∧ L.length ≤ c ∧ c ≤ maxLen ∧ v.ownBlock = x.map (·.block) ∧ ∀ i (hi : i < L.length), ∃ b, x = some ⟨b, 0, none⟩ ∧ w.cell? ⟨b, i, none⟩ = some (ptr L[i].b) := by
  obtain ⟨x, c, h1, h2, h3, h4, h5⟩ := own_form h
  refine ⟨x, c, h1, h2, h3, h4, fun i hi => ?_⟩
  obtain ⟨b, hb, hc⟩ := h5 i (by simpa [rowVals] using hi)
  exact ⟨b, hb, by simpa [rowVals] using hc⟩

/-- Ahead of the place all precede, from it on none does. -/
theorem plc_at {l : List Fl} {nm : ByteArray} {k : Nat} (h1 : ∀ t (ht : t < l.length), t < k → cmpN l[t].name nm < 0) (h2 : ∀ t (ht : t < l.length), k ≤ t → ¬ cmpN l[t].name nm < 0) (hk : k ≤ l.length) : plc l nm = k := by
  have e : l = l.take k ++ l.drop k := by simp
  unfold plc
  rw [e, List.countP_append, List.countP_eq_length.2 ?_, List.countP_eq_zero.2 ?_]
  · simp; omega
  · intro a ha
    obtain ⟨t, ht, rfl⟩ := List.getElem_of_mem ha
    simp only [List.length_drop] at ht
    rw [List.getElem_drop]
    simpa using h2 (k + t) (by omega) (by omega)
  · intro a ha
    obtain ⟨t, ht, rfl⟩ := List.getElem_of_mem ha
    simp only [List.length_take] at ht
    rw [List.getElem_take]
    simpa using h1 t (by omega) (by omega)
theorem sorted_lt {l : List Fl} {nm : ByteArray} (h : Sorted l) {s t : Nat} (hst : s ≤ t) (ht : t < l.length) (hlt : cmpN l[t].name nm < 0) : cmpN (l[s]'(by omega)).name nm < 0 := by
  rcases Nat.lt_or_eq_of_le hst with h1 | rfl
  · exact cmpN_trans (List.pairwise_iff_getElem.1 h s t (by omega) ht h1) hlt
  · exact hlt

set_option maxHeartbeats 1000000 in
theorem search_any {w : World} {v : Value} {L : List Px} (h : RowAt w v L) (hh : ∀ x ∈ L, HeadAt w x) (hs : Sorted (L.map (·.f))) (hl : L.length ≤ 1000000) (nm : ByteArray) :
    Calls Try.prog 50 #[v, .string nm, .func (.func 51) #[] #[]] w fun e w' =>
      e = .returned (.tuple #[.int .i64 (plc (L.map (·.f)) nm : Nat), .bool (getF (L.map (·.f)) nm).isSome]) ∧ w' = w := by
  obtain ⟨x, c, rfl, hc, -, -, hcell⟩ := row_cell h
  have HC := hid hcell
  have HH := hid hh
  have HS := hid hs
  have HB := hid (fun (t : Nat) (ht : t < L.length) => byName_any (hh _ (List.getElem_mem ht)) nm)
  have hn := hid (find_plc hs (nm := nm))
  have hpl := hid fun k h1 h2 hk => plc_at (l := L.map (·.f)) (nm := nm) (k := k) h1 h2 hk
  have e := hid (show (L.map (·.f)).length = L.length by simp)
  generalize hP : plc (L.map (·.f)) nm = p at *
  generalize hG : (getF (L.map (·.f)) nm).isSome = q at *
  have HG := hid hG
  clear hcell hh hs h hP hG
  have eg : ∀ args w, (callFunc 51 args).run Try.prog w = .ok (.enter 51 args) w := by intro a w; simp [go_sem]
  go_enter Try.func50, Try.ntmps50
  go_wp2
  go_loopg [9, 10] L.length (fun kx s9 s10 wr => ∃ lo hi : Nat, s9 = .int .i64 lo ∧ s10 = .int .i64 hi ∧ lo ≤ hi ∧ hi ≤ L.length ∧ hi - lo ≤ kx ∧ w = wr ∧
    Hid ((∀ t (ht : t < L.length), t < lo → cmpN L[t].f.name nm < 0) ∧ (∀ t (ht : t < L.length), hi ≤ t → ¬ cmpN L[t].f.name nm < 0)))
  case atStart => exact ⟨0, L.length, rfl, rfl, Nat.zero_le _, Nat.le_refl _, by omega, rfl, hid ⟨fun t _ ht => absurd ht (Nat.not_lt_zero _), fun t h1 h2 => by omega⟩⟩
  case round =>
    obtain ⟨lo, hi, rfl, rfl, hlh, hin, hg, rfl, I⟩ := hrel
    by_cases hlt : lo < hi
    · have hmid : (lo + hi) / 2 < L.length := by omega
      obtain ⟨b, rfl, cm⟩ := HC.out ((lo + hi) / 2) hmid
      have hc := hid (HB.out ((lo + hi) / 2) hmid)
      have I' : Hid ((∀ t (ht : t < L.length), t < lo → cmpN L[t].f.name nm < 0) ∧ (∀ t (ht : t < L.length), hi ≤ t → ¬ cmpN L[t].f.name nm < 0) ∧
          (cmpN L[(lo + hi) / 2].f.name nm < 0 → ∀ t (ht : t < L.length), t < (lo + hi) / 2 + 1 → cmpN L[t].f.name nm < 0) ∧ (¬ cmpN L[(lo + hi) / 2].f.name nm < 0 → ∀ t (ht : t < L.length), (lo + hi) / 2 ≤ t → ¬ cmpN L[t].f.name nm < 0)) := hid
        ⟨I.out.1, I.out.2, fun hq t ht hle => by simpa using sorted_lt HS.out (nm := nm) (s := t) (t := (lo + hi) / 2) (by omega) (by simpa using hmid) (by simpa using hq),
          fun hq t ht hle hq2 => hq (by simpa using sorted_lt HS.out (nm := nm) (s := (lo + hi) / 2) (t := t) hle (by simpa using ht) (by simpa using hq2))⟩
      generalize cmpN L[(lo + hi) / 2].f.name nm = r at hc I'
      have hll : L.length ≤ 1000000 := hl
      unfold ptr at cm hc
      by_cases hr : r < 0
      · go_wp2_with (go_at_fn 51; refine hc.out.mono ?_; rintro e w1 ⟨rfl, rfl⟩)
        go_roundg (hi - ((lo + hi) / 2 + 1))
        case measure => omega
        case rel => exact ⟨(lo + hi) / 2 + 1, hi, by rw [show ((lo : Int) + (hi : Int)) / 2 + 1 = (((lo + hi) / 2 + 1 : Nat) : Int) by omega], rfl, by omega, hin, Nat.le_refl _, rfl, hid ⟨I'.out.2.2.1 hr, I'.out.2.1⟩⟩
      · go_wp2_with (go_at_fn 51; refine hc.out.mono ?_; rintro e w1 ⟨rfl, rfl⟩)
        go_roundg ((lo + hi) / 2 - lo)
        case measure => omega
        case rel => exact ⟨lo, (lo + hi) / 2, rfl, by rw [show ((lo : Int) + (hi : Int)) / 2 = (((lo + hi) / 2 : Nat) : Int) by omega], by omega, by omega, Nat.le_refl _, rfl, hid ⟨I'.out.1, I'.out.2.2.2 hr⟩⟩
    · obtain rfl : hi = lo := by omega
      have ep : p = hi := hpl.out hi (fun t ht h => by simpa using I.out.1 t (by simpa using ht) h) (fun t ht h => by simpa using I.out.2 t (by simpa using ht) h) (by simpa using hin)
      subst ep
      by_cases hq : p < L.length
      · obtain ⟨b, rfl, cm⟩ := HC.out p hq
        have hc := hid (HB.out p hq)
        have hg2 : Hid (q = decide (cmpN L[p].f.name nm = 0)) := hid (by
          rw [← HG.out, hn.out, List.getElem?_map, List.getElem?_eq_getElem hq]
          simp only [Option.map_some, Option.bind_some]
          split <;> simp_all)
        generalize cmpN L[p].f.name nm = r at hc hg2
        unfold ptr at cm hc
        by_cases hr : r = 0
        · go_wp2_with (go_at_fn 51; refine hc.out.mono ?_; rintro e w1 ⟨rfl, rfl⟩)
          go_ret2
          exact ⟨by rw [hg2.out]; simp [hr], rfl⟩
        · go_wp2_with (go_at_fn 51; refine hc.out.mono ?_; rintro e w1 ⟨rfl, rfl⟩)
          go_ret2
          exact ⟨by rw [hg2.out]; simp [hr], rfl⟩
      · have hg2 : Hid (q = false) := hid (by
          rw [← HG.out, hn.out, List.getElem?_map, List.getElem?_eq_none (by omega)]
          rfl)
        have hq2 : decide (p < L.length) = false := by simpa using hq
        clear hq hin hg hlt hlh
        go_wp2
        go_ret2
        exact ⟨by rw [hg2.out]; simp, rfl⟩
end Go.Proofs.Ythibabfojndlkaa
