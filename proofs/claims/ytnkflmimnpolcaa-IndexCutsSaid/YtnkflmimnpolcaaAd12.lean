/- Entries added to a tab. -/
import Derived.Test.YtnkflmimnpolcaaLa12
import Derived.Test.YtnkflmimnpolcaaWi12
namespace Go.Proofs.Ytnkflmimnpolcaa
open Go.RowKit Go.Lib
set_option maxRecDepth 100000

/-- May an entry be? -/
def okE (e : En) : Prop := 0 ≤ e.1 ∧ 0 ≤ e.2.1 ∧ 0 ≤ e.2.2
instance (e : En) : Decidable (okE e) := by unfold okE; infer_instance
def put1 (l : List En) (e : En) : List En := if okE e then ins l e else l
def addAll (l : List En) (es : List En) : List En := es.foldl put1 l
theorem sorted_put1 {l : List En} (h : SortedE l) (e : En) : SortedE (put1 l e) := by
  unfold put1
  split
  · exact sorted_ins h e
  · exact h
theorem sorted_addAll : ∀ (es : List En) {l : List En}, SortedE l → SortedE (addAll l es)
  | [], _, h => h
  | e :: es, _, h => sorted_addAll es (sorted_put1 h e)
theorem put1_len {l : List En} (h : SortedE l) (e : En) : l.length ≤ (put1 l e).length ∧ (put1 l e).length ≤ l.length + 1 := by
  unfold put1
  split
  · rw [len_ins h]; unfold news; split <;> omega
  · omega
theorem addAll_len : ∀ (es : List En) {l : List En}, SortedE l → l.length ≤ (addAll l es).length ∧ (addAll l es).length ≤ l.length + es.length
  | [], _, _ => by simp [addAll]
  | e :: es, l, h => by
    have h1 := put1_len h e
    have h2 := addAll_len es (sorted_put1 h e)
    have : addAll l (e :: es) = addAll (put1 l e) es := rfl
    rw [this, List.length_cons]
    omega
theorem addAll_snoc (l es : List En) (e : En) : addAll l (es ++ [e]) = put1 (addAll l es) e := by simp [addAll, List.foldl_append]

/-- Entries of a slice, wherever it lies. -/
def EntX (w : World) (x : Option Addr) (l : List En) : Prop := ∀ (i : Nat) (h : i < l.length), ∃ b off, x = some ⟨b, off, none⟩ ∧ w.cell? ⟨b, off + i * 3, none⟩ = some (.int .i64 (l[i]'h).1) ∧ w.cell? ⟨b, off + i * 3 + 1, none⟩ = some (.int .i64 (l[i]'h).2.1) ∧ w.cell? ⟨b, off + i * 3 + 2, none⟩ = some (.int .i64 (l[i]'h).2.2)
theorem TabIn.set {w : World} {tb o : Nat} {cs : Array Value} {ty : TypeId} {T T' : Tr} {r : Option Addr} (h : TabIn w tb o cs ty T) (hr : TreeAt w r T') : TabIn (w.setCell ⟨tb, o, none⟩ (.pointer r)) tb o (cs.setIfInBounds o (.pointer r)) ty T' := by
  obtain ⟨h1, h2, r0, h3, h4⟩ := h
  refine ⟨heap_set h1 _, h2, r, ?_, ?_⟩
  · have : o < cs.size := (Array.getElem?_eq_some_iff.1 h3).1
    simp [this]
  refine hr.touch (F := [tb]) ((Touch.refl [tb] w).setCell (p := ⟨tb, o, none⟩) (.inl (by simp)) _) ?_
  intro b hb ⟨cs', hcs⟩
  simp at hb
  subst hb
  rw [h1] at hcs
  cases hcs
  exact h2.1 rfl

theorem cs_next {cs cs' : Array Value} {o : Nat} (h : cs' = cs ∨ ∃ r, cs' = cs.setIfInBounds o (.pointer r)) (q : Option Addr) : ∃ r, cs'.setIfInBounds o (.pointer q) = cs.setIfInBounds o (.pointer r) := by
  rcases h with rfl | ⟨r', rfl⟩
  · exact ⟨q, rfl⟩
  · exact ⟨q, by simp⟩
theorem min_ok {a : En} (h : okE a) : ((if a.2.2 < if a.2.1 < a.1 then a.2.1 else a.1 then a.2.2 else if a.2.1 < a.1 then a.2.1 else a.1) < 0) = False := by
  unfold okE at h
  rw [eq_iff_iff, iff_false]
  repeat' split
  all_goals omega
theorem min_bad {a : En} (h : ¬ okE a) : ((if a.2.2 < if a.2.1 < a.1 then a.2.1 else a.1 then a.2.2 else if a.2.1 < a.1 then a.2.1 else a.1) < 0) = True := by
  unfold okE at h
  rw [eq_iff_iff, iff_true]
  repeat' split
  all_goals omega
set_option maxHeartbeats 2000000 in
theorem add_any (tb o : Nat) (cs : Array Value) (ty : TypeId) (T : Tr) (x : Option Addr) (l : List En) (n c : Nat) (hn : l.length = n) (w : World) (ht : TabIn w tb o cs ty T) (hs : SortedE T.io) (hlen : T.io.length + n ≤ 700000) (hl : ∀ w', Touch [tb] w w' → EntX w' x l) :
    Calls Try.prog 8 #[.pointer (some ⟨tb, o, none⟩), .slice x n c] w fun e w' => ∃ T' cs', (cs' = cs ∨ ∃ r, cs' = cs.setIfInBounds o (.pointer r)) ∧ e = .returned (.int .i64 (((addAll T.io l).length - T.io.length : Nat) : Int)) ∧ TabIn w' tb o cs' ty T' ∧ T'.io = addAll T.io l ∧ Touch [tb] w w' := by
  have hct := T.ct_io
  have C0 := hid (tablen_any w ht.at)
  rw [hct] at C0
  have HL := hid hl
  have HT := hid ht
  clear hl ht
  go_enter Try.func8, Try.ntmps8
  go_wp2_with (go_at_call 22; refine C0.out.mono ?_; clear C0; rintro e w' ⟨rfl, h⟩; have h := h.symm; subst h)
  go_loopw [14] (fun iv wr => ∃ (i : Nat) (T' : Tr) (cs' : Array Value), i ≤ n ∧ iv = .int .i64 i ∧ (cs' = cs ∨ ∃ r, cs' = cs.setIfInBounds o (.pointer r)) ∧ TabIn wr tb o cs' ty T' ∧ T'.io = addAll T.io (l.take i) ∧ Hid (Touch [tb] w wr)) (fun iv _ => n - (RowKit.intOf iv).toNat)
  case atStart => exact ⟨0, T, cs, Nat.zero_le _, rfl, .inl rfl, HT.out, by simp [addAll], hid (Touch.refl _ _)⟩
  case round =>
    obtain ⟨i, T', cs', hi, rfl, hcs, hT, hio, t⟩ := hrel
    have HCS := hid hcs
    clear hcs
    by_cases hlt : i < n
    · have hlt' : decide (i < n) = true := by simpa using hlt
      obtain ⟨b, off, rfl, g0, g1, g2⟩ := HL.out wr t.out i (by omega)
      have hst : l.take (i + 1) = l.take i ++ [l[i]'(by omega)] := (List.take_succ_eq_append_getElem (by omega))
      have hso : SortedE T'.io := by rw [hio]; exact sorted_addAll _ hs
      have hle : T'.io.length ≤ T.io.length + n := by
        have h1 := (addAll_len (l.take i) hs).2
        have h2 : (l.take i).length ≤ n := by rw [List.length_take]; omega
        rw [hio]; omega
      have hadd : addAll T.io (l.take (i + 1)) = put1 T'.io (l[i]'(by omega)) := by rw [hst, addAll_snoc, hio]
      clear hst hio
      generalize l[i]'(by omega) = a at *
      have CW := hid fun w' r (k : TreeAt w' r T') => with_any a T' r w' k hso (by rw [T'.ct_io]; omega)
      by_cases hok : okE a
      · have hp : put1 T'.io a = (wi T' a).io := by rw [wi_io T' a hso]; unfold put1; rw [if_pos hok]
        rw [hp] at hadd
        have hmin : ¬ ((if a.2.2 < if a.2.1 < a.1 then a.2.1 else a.1 then a.2.2 else if a.2.1 < a.1 then a.2.1 else a.1) < 0) := by rw [min_ok hok]; exact fun h => h
        clear hp hok hle
        obtain ⟨w1, hw1⟩ : ∃ w1, w1 = wr.alloc (.cells #[.int .i64 a.1, .int .i64 a.2.1, .int .i64 a.2.2] 32) := ⟨_, rfl⟩
        have t1 : Touch [] wr w1 := by rw [hw1]; exact (Touch.refl [] wr).alloc _
        have hT1 := hid (hT.t0 t1.drew)
        obtain ⟨r, k0, hr2⟩ := (hT.t0 t1.drew).cell
        have B1 : EnB w1 wr.heap.size a := by rw [hw1]; exact heap_alloc_new wr _
        obtain ⟨⟨k1, k2, k3⟩, -⟩ := B1.all
        obtain ⟨l1, l2, l3⟩ := B1.c
        have CW2 := hid (CW.out _ _ hr2)
        have F := hid fun w3 (t3 : Touch [] w1.drew w3) => (hT1.out.t0 t3)
        have t' := hid (t.out.trans (t1.drew) (by simp))
        clear CW B1 hr2 hT1 HT HL
        go_upto_region 7 with fail
        rw [← hw1]
        clear hw1
        go_upto_region 8 with fail
        all_goals first
          | (exfalso; omega)
          | skip
        · rename_i hcond
          clear hmin hcond
          generalize (if a.2.2 < if a.2.1 < a.1 then a.2.1 else a.1 then a.2.2 else if a.2.1 < a.1 then a.2.1 else a.1) = mm at *
          go_region_with (go_at_call 27; refine CW2.out.mono ?_; clear CW2; rintro e w3 ⟨q, rfl, hq, t3⟩; have H3 := hid (F.out w3 t3); have q0 : w3.cell? ⟨tb, o, none⟩ = some (.pointer r) := t3.cell k0; have qf : w3.frozen? ⟨tb, o, none⟩ = false := free_of H3.out.hb o; have HQ := hid hq; have T3 := hid t3; clear hq t3)
          all_goals go_wp2
          all_goals go_roundw
          all_goals first
            | exact ⟨i + 1, wi T' a, _, by omega, by go_num, .inr (cs_next HCS.out q), H3.out.set HQ.out, by rw [hadd], hid ((t'.out.trans T3.out (by simp)).setCell (p := ⟨tb, o, none⟩) (.inl (by simp)) _)⟩
            | (simp [RowKit.intOf]; omega)
      · have hp : put1 T'.io a = T'.io := by unfold put1; rw [if_neg hok]
        rw [hp] at hadd
        have hmin : (if a.2.2 < if a.2.1 < a.1 then a.2.1 else a.1 then a.2.2 else if a.2.1 < a.1 then a.2.1 else a.1) < 0 := by rw [min_bad hok]; trivial
        clear hp hok hle
        go_wp2
        all_goals first
          | (exfalso; omega)
          | skip
        go_roundw
        case rel => exact ⟨i + 1, T', cs', by omega, by go_num, HCS.out, hT.t0 ((Touch.refl [] wr).alloc _), by rw [hadd], hid (t.out.alloc _)⟩
        case measure => simp [RowKit.intOf]; omega
    · have hlt' : decide (i < n) = false := by simpa using hlt
      have e : i = n := by omega
      subst e
      have hfull : l.take l.length = l := List.take_length
      rw [hn] at hfull
      rw [hfull] at hio
      have hct2 := T'.ct_io
      have C1 := hid (tablen_any wr hT.at)
      rw [hct2, hio] at C1
      have h1 := addAll_len l hs
      have hsub : IntKind.i64.wrap (((addAll T.io l).length : Int) - (T.io.length : Int)) = (((addAll T.io l).length - T.io.length : Nat) : Int) := by
        rw [Int.ofNat_sub h1.1]
        exact IntWalk.i64_in _ (by omega)
      go_wp2_with (go_at_call 22; refine C1.out.mono ?_; clear C1; rintro e w' ⟨rfl, h⟩; have h := h.symm; subst h)
      go_ret
      exact ⟨T', cs', HCS.out, rfl, hT, hio, t.out⟩
end Go.Proofs.Ytnkflmimnpolcaa
