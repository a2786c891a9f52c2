/- Crash. -/
import Derived.Test.YthibabfojndlkaaCrL9
import Derived.Deep.AppendLies
namespace Go.Proofs.Ythibabfojndlkaa
open Go.RowKit Go.Lib
set_option maxRecDepth 100000

theorem hid_pf {w : World} {base n : Nat} {v : Value} {xs : List Value} (h : w.ownsRow base tPF 1 v n xs) : ∃ x c, v = .slice x n c := by
  obtain ⟨x, c, hv, -⟩ := own_form h
  exact ⟨x, c, hv⟩
theorem crash_off {w : World} {d : Nat} {k : Dk} {rv kv : Value} {x : Option Addr} {n c : Nat} (h : w.heap[d]? = some (.cells (dkCells k rv kv) tDisk (0, 0))) (hon : k.on = false) :
    Calls Try.prog 21 #[ptr d, .slice x n c] w fun e w' => e = .returned (.int .i64 0) ∧ w' = w := by
  have C := hid (on_any h)
  rw [hon] at C
  unfold ptr at C ⊢
  clear h hon
  go_enter Try.func21, Try.ntmps21
  go_wp2_with (go_at_call 24; refine C.out.mono ?_; rintro e w1 ⟨rfl, rfl⟩)
  go_ret
  exact ⟨rfl, rfl⟩

theorem toNat_max (k : Int) : max k 0 = (k.toNat : Int) := by omega

theorem made_out {O : List Nat} {f' : Fl} {F : List Nat} {w : World} {e : Ending} {w' : World} (h : Made O f' F w e w') : ∃ y : Px, y.f = f' ∧ e = .returned (ptr y.b) ∧ FileAt w' y ∧ w.heap.size ≤ y.b ∧ (∀ k ∈ y.own, k ∈ O ∨ w.heap.size ≤ k) ∧ Touch F w w' := h
theorem mut_own {x : Px} {b : Nat} (h : b ∈ x.mut) : b ∈ x.own := by simp only [Px.mut, Px.own, List.mem_cons] at *; exact .inr h
theorem rowVals_snoc (S : List Px) (y : Px) : rowVals (S ++ [y]) = rowVals S ++ [.pointer (some ⟨y.b, 0, none⟩)] := by simp [rowVals, ptr]
theorem ne_row {w : World} {base n : Nat} {v : Value} {xs : List Value} {x : Px} (h : w.ownsRow base tPF 1 v n xs) (hf : FileAt w x) : ∀ k ∈ x.own, k ∉ v.ownBlock.toList := by
  intro k hk hm
  rcases h.2 with ⟨rfl, _⟩ | ⟨g, cap, cur, rfl, hb, hg, _⟩
  · simp [Value.ownBlock] at hm
  · simp [Value.ownBlock] at hm
    subst hm
    simp only [Px.own, List.mem_cons] at hk
    rcases hk with hk | hk | hk
    · subst hk; exact ne_type hg hf.head (by decide) rfl
    · subst hk; exact ne_type hg hf.pool (by decide) rfl
    · exact hf.pv.ne hg (by decide) _ hk (by simp)
theorem lostL_le : ∀ (l : List Fl) (ks : List Int), lostL l ks ≤ used l
  | [], _ => Nat.zero_le _
  | f :: r, ks => by
    have := lostL_le r ks.tail
    simp only [lostL, used, List.map_cons, List.sum_cons] at *
    omega
theorem lost_used {l : List Fl} {ks : List Int} : ∀ i, i ≤ l.length → lostL l ks ≤ used (l.take i) + lostL (l.drop i) (ks.drop i) := by
  induction l generalizing ks with
  | nil => intro i _; simp [lostL]
  | cons f r ih =>
    intro i hi
    cases i with
    | zero => simp [used]
    | succ i =>
      have := ih (ks := ks.tail) i (by simpa using hi)
      simp only [lostL, List.take_succ_cons, List.drop_succ_cons, used, List.map_cons, List.sum_cons] at *
      rw [show ks.drop (i + 1) = ks.tail.drop i by cases ks <;> simp]
      omega
theorem FileSum {L : List Px} {ks : List Int} {lost i : Nat} (hu : used (L.map (·.f)) ≤ 70368744177664) (hi : i < L.length) (h : lost + lostL ((L.map (·.f)).drop i) (ks.drop i) = lostL (L.map (·.f)) ks) : lost + L[i].f.data.size ≤ 70368744177664 := by
  have h1 := lost_used (l := L.map (·.f)) (ks := ks) i (by simp; omega)
  have h2 : used ((L.map (·.f)).take (i + 1)) ≤ used (L.map (·.f)) := by
    conv => rhs; rw [← List.take_append_drop (i + 1) (L.map (·.f)), used_app]
    omega
  rw [List.take_succ_eq_append_getElem (by simpa using hi), used_app] at h2
  simp [used] at h2 h1 hu
  have h3 : lostL ((L.map (·.f)).drop i) (ks.drop i) = lostL ((L.map (·.f)).drop i) (ks.drop i) := rfl
  omega

set_option maxHeartbeats 8000000 in
theorem crash_on {w : World} {d : Nat} {k : Dk} {rv kv : Value} {L : List Px} {x : Option Addr} {ks : List Int} {c : Nat} (h : DiskIs w d k rv kv L) (hon : k.on = true) (hk : IntsR w x ks) (hkl : ks.length ≤ 1000000) (hu : used k.files ≤ 70368744177664) :
    Calls Try.prog 21 #[ptr d, .slice x ks.length c] w fun e w' => e = .returned (.int .i64 (lostL k.files ks : Nat)) ∧ ∃ sv S wr, CrSt w L ks L.length sv (lostL k.files ks) S wr ∧
      w' = ((((wr.setCell ⟨d, 3, none⟩ sv).setCell ⟨d, 1, none⟩ (.bool false)).setCell ⟨d, 4, none⟩ (.bool false)).setCell ⟨d, 5, none⟩ (.int .i64 0)).setCell ⟨d, 6, none⟩ (.slice none 0 0) := by
  have C0 := hid (on_any h.cells)
  rw [hon] at C0
  have hlen : L.length ≤ 200 := by have := h.many; rw [← h.files, List.length_map] at this; exact this
  obtain ⟨-, -, -, c3, -⟩ := dk_cell h.cells
  obtain ⟨rx, rc, hrv, hrc, hrm, -, hcell⟩ := row_cell h.row
  subst hrv
  have HC := hid hcell
  have HE := hid h.each
  have HA := hid h.apart
  have HD := hid h.cells
  have HK := hid hk
  have HF := hid h.files
  rw [← h.files] at hu ⊢
  have HU := hid hu
  have hst : Hid (CrSt w L ks 0 (.slice none 0 0) 0 [] w) := hid ⟨Nat.zero_le _, World.ownsRow_nil _ _ _ _, by simp, by simp, by simp, by simp, by simp, by simp [Apart], Touch.refl _ _⟩
  have HFZ := hid (And.intro (free_of h.cells 1) (free_of h.cells 3))
  unfold ptr at C0 ⊢
  clear h hon hcell hk hu hrm
  go_enter Try.func21, Try.ntmps21
  go_wp2_with (go_at_call 24; refine C0.out.mono ?_; rintro e w1 ⟨rfl, rfl⟩)
  go_loopw [5, 6, 19] (fun sv lv iv wr => ∃ (i lost : Nat) (S : List Px) (sx : Option Addr) (sc : Nat), i ≤ L.length ∧ iv = .int .i64 i ∧ lv = .int .i64 lost ∧ sv = .slice sx S.length sc ∧ Hid (CrSt w1 L ks i sv lost S wr)) (fun _ _ iv _ => L.length - (RowKit.intOf iv).toNat)
  case atStart => exact ⟨0, 0, [], none, 0, Nat.zero_le _, rfl, rfl, rfl, hst⟩
  case round =>
    obtain ⟨i, lost, S, sx, sc, hi, rfl, rfl, rfl, I⟩ := hrel
    by_cases hlt : i < L.length
    · obtain ⟨b, rfl, g0⟩ := HC.out i hlt
      have g1 := touch_cell I.out.touch g0 (by simp)
      unfold ptr at g1
      have fx := (HE.out _ (List.getElem_mem hlt)).touch I.out.touch (by simp)
      obtain ⟨f0, f1, f2, f3, f4⟩ := head_cells fx.head
      have C1 := hid fun W (t : Touch [] wr W) n hn => cut_any (fx.touch t (by simp)) n hn
      have CQ := hid fun n => unsynced_q fx n
      obtain ⟨kk, hkk⟩ : ∃ kk, kk = (ks.drop i).headD 0 := ⟨_, rfl⟩
      obtain ⟨K, hK⟩ : ∃ K, K = keepN L[i].f kk := ⟨_, rfl⟩
      have hsy := fx.syn
      have hsm := fx.small
      have hKle : K ≤ L[i].f.data.size := by rw [hK]; exact keepN_le _ _ hsy
      have hsum : (L[i].f.syn : Int) + min (max kk 0) ((L[i].f.data.size - L[i].f.syn : Nat) : Int) = (K : Int) := by rw [hK]; unfold keepN; omega
      have hkk1 : ∀ hk : i < ks.length, kk = ks[i] := by intro hk; rw [hkk, List.drop_eq_getElem_cons hk]; rfl
      have hkk0 : ¬ i < ks.length → kk = 0 := by intro hk; rw [hkk, List.drop_of_length_le (by omega)]; rfl
      have FSkip : Hid (¬ (0 < K ∨ L[i].f.last = true) → ∀ wr', Touch [] wr wr' → CrSt w1 L ks (i + 1) (.slice sx S.length sc) (lost + (L[i].f.data.size - K)) S wr') := hid fun hz wr' t => by
        refine crst_skip I.out hlt t ?_ ?_
        · rw [← hkk, ← hK]; exact hz
        · rw [← hkk, ← hK]
      have FStay : Hid ((0 < K ∨ L[i].f.last = true) → ∀ w' sv' y, Touch (Value.slice sx S.length sc).ownBlock.toList wr w' → y.f = lastF (cutF L[i].f K) → FileAt w' y → (∀ b ∈ y.own, b ∈ L[i].own ∨ wr.heap.size ≤ b) → w'.ownsRow w1.heap.size tPF 1 sv' (S.length + 1) (rowVals (S ++ [y])) →
          CrSt w1 L ks (i + 1) sv' (lost + (L[i].f.data.size - K)) (S ++ [y]) w') := hid fun hz w' sv' y t hy hfy hyo ho => by
        refine crst_stay I.out hlt HA.out (fun x hx => (HE.out x hx).lt) t ?_ ?_ ?_ hfy hyo ho
        · rw [← hkk, ← hK]; exact hz
        · rw [← hkk, ← hK]
        · rw [← hkk, ← hK]; exact hy
      have hl1 : lost + L[i].f.data.size ≤ 70368744177664 := by
        have h1 := I.out.lost
        have h2 := lostL_le (L.map (·.f)) ks
        have h3 := HU.out
        have h4 := FileSum HU.out hlt I.out.lost
        omega
      have HS := hid (show S.length ≤ 200 by have := I.out.slen; omega)
      unfold ptr at C1
      generalize hsz' : L[i].f.data.size = sz at *
      generalize hsy' : L[i].f.syn = sy at *
      generalize hla' : L[i].f.last = la at *
      generalize L[i].b = xb at *
      have hsb : (sy : Int) + min (max kk 0) ((sz - sy : Nat) : Int) ≤ 9223372036854775807 := by omega
      have hb3 : (lost : Int) + ((sz : Int) - K) ≤ 9223372036854775807 := by omega
      have hb4 : (0 : Int) ≤ (sz : Int) - K := by omega
      have hb5 : (lost : Int) + ((sz : Int) - K) = ((lost + (sz - K) : Nat) : Int) := by omega
      have hlt' : decide (i < L.length) = true := by simpa using hlt
      clear fx hK hkk hsz' hsy' hla' g0
      by_cases hks : i < ks.length
      · obtain ⟨kb, ko, rfl, kc0⟩ := HK.out i hks
        have kc := touch_cell I.out.touch kc0 (by simp)
        rw [← hkk1 hks] at kc
        have hks' : decide (i < ks.length) = true := by simpa using hks
        clear kc0 hkk1 hkk0
        by_cases hK1 : 0 < K
        · have hz : 0 < K ∨ la = true := .inl hK1
          have hKi : (0 : Int) < K := by omega
          have hKd : decide (0 < K) = true := by simpa using hK1
          go_wp2
          go_quiet ((go_at_call 47; exact CQ.out _))
          go_wp2_with (first
              | (go_at_call 42; with_reducible refine (C1.out _ ((Touch.refl _ _).drewN _) K hKle).mono ?_; intro e wa hh; obtain ⟨y1, hf1, he1, fa1, hb1, ho1, t1⟩ := made_out hh; unfold ptr at he1; subst he1; have FA := hid fa1; have C2 := hid (lasting_any fa1); unfold ptr at C2; have P1 := hid (And.intro hf1 (And.intro ho1 t1)); clear hf1 fa1 hb1 ho1 t1)
              | (go_at_call 41; with_reducible refine C2.out.mono ?_; intro e wb hh; obtain ⟨y2, hf2, he2, fa2, hb2, ho2, t2⟩ := made_out hh; unfold ptr at he2; subst he2; have P2 := hid (And.intro hf2 (And.intro fa2 (And.intro ho2 (P1.out.2.2.trans t2 (by simp))))); have P3 := hid (own_touch I.out.own (((Touch.refl [] wr).drewN nq).trans P2.out.2.2.2 (by simp)) (by simp)); have P4 := hid (Nat.le_trans I.out.touch.size (((Touch.refl [] wr).drewN nq).trans P2.out.2.2.2 (by simp)).size); clear hf2 fa2 hb2 ho2 t2)
              | (at_builtin; refine wpList_append_lies _ rfl _ _ 55 rfl w1.heap.size tPF _ (.pointer none) 1 8 rfl rfl rfl rfl rfl rfl (by omega) _ S.length (rowVals S) rfl (P3.out.alloc _) ⟨wb.heap.size, 0, none⟩ 1 1 [.pointer (some ⟨y2.b, 0, none⟩)] rfl rfl (World.news_of_block (heap_alloc_new wb _)) (by intro u hu; simp at hu; subst hu; rfl) (by omega) (by have := HS.out; unfold maxLen; omega) (by have := HS.out; omega) (by have := P4.out; simp; omega) _ rfl ?_; intro gg cap w3 hown hgrow hat hlt3; have O3 := hid (And.intro hown (And.intro hgrow hat)); clear hown hgrow hat hlt3))
          go_roundw
          case rel =>
            have tb : Touch [] wr wb := ((Touch.refl [] wr).drewN nq).trans P2.out.2.2.2 (by simp)
            have tc : Touch (Value.slice sx S.length sc).ownBlock.toList wr w3 := (((tb.alloc _).mono (by simp))).grown O3.out.2.1 (fun k hk => .inl (Option.mem_toList.2 hk))
            have tb3 : Touch (Value.slice sx S.length sc).ownBlock.toList wb w3 := ((((Touch.refl [] wb).alloc _).mono (by simp))).grown O3.out.2.1 (fun k hk => .inl (Option.mem_toList.2 hk))
            refine ⟨i + 1, lost + (sz - K), S ++ [y2], some ⟨gg, 0, none⟩, cap, by omega, by go_num, by go_num, by simp, ?_⟩
            refine hid (FStay.out hz w3 _ y2 tc ?_ (P2.out.2.1.touch tb3 ?_) ?_ ?_)
            · rw [P2.out.1, P1.out.1]
            · exact ne_row P3.out P2.out.2.1
            · intro q hq
              rcases P2.out.2.2.1 q hq with h1 | h1
              · rcases P1.out.2.1 q (mut_own h1) with h2 | h2
                · exact .inl (mut_own h2)
                · exact .inr h2
              · exact .inr (Nat.le_trans P1.out.2.2.size h1)
            · have := O3.out.1
              rw [rowVals_snoc]
              exact this
          case measure => simp [RowKit.intOf]; omega
        · have hK2 : K = 0 := by omega
          have hKd : decide (0 < K) = false := by simpa using hK1
          cases hla : la
          · rw [hla] at f4
            have hz : ¬ (0 < K ∨ la = true) := by rw [hla]; simp; omega
            have hz2 := hid hz
            have hla2 := hid hla
            have hK3 := hid hK2
            clear hla hK2 hK1 hz
            go_wp2
            go_quiet ((go_at_call 47; exact CQ.out _))
            go_wp2
            go_roundw
            case rel => exact ⟨i + 1, lost + (sz - K), S, sx, sc, by omega, by go_num, by go_num, rfl, hid (FSkip.out hz2.out _ ((Touch.refl _ _).drewN _))⟩
            case measure => simp [RowKit.intOf]; omega
          · rw [hla] at f4
            have hz : 0 < K ∨ la = true := .inr hla
            have hz2 := hid hz
            clear hla hK2 hK1 hz
            go_wp2
            go_quiet ((go_at_call 47; exact CQ.out _))
            go_wp2_with (first
                | (go_at_call 42; with_reducible refine (C1.out _ ((Touch.refl _ _).drewN _) K hKle).mono ?_; intro e wa hh; obtain ⟨y1, hf1, he1, fa1, hb1, ho1, t1⟩ := made_out hh; unfold ptr at he1; subst he1; have FA := hid fa1; have C2 := hid (lasting_any fa1); unfold ptr at C2; have P1 := hid (And.intro hf1 (And.intro ho1 t1)); clear hf1 fa1 hb1 ho1 t1)
                | (go_at_call 41; with_reducible refine C2.out.mono ?_; intro e wb hh; obtain ⟨y2, hf2, he2, fa2, hb2, ho2, t2⟩ := made_out hh; unfold ptr at he2; subst he2; have P2 := hid (And.intro hf2 (And.intro fa2 (And.intro ho2 (P1.out.2.2.trans t2 (by simp))))); have P3 := hid (own_touch I.out.own (((Touch.refl [] wr).drewN nq).trans P2.out.2.2.2 (by simp)) (by simp)); have P4 := hid (Nat.le_trans I.out.touch.size (((Touch.refl [] wr).drewN nq).trans P2.out.2.2.2 (by simp)).size); clear hf2 fa2 hb2 ho2 t2)
                | (at_builtin; refine wpList_append_lies _ rfl _ _ 55 rfl w1.heap.size tPF _ (.pointer none) 1 8 rfl rfl rfl rfl rfl rfl (by omega) _ S.length (rowVals S) rfl (P3.out.alloc _) ⟨wb.heap.size, 0, none⟩ 1 1 [.pointer (some ⟨y2.b, 0, none⟩)] rfl rfl (World.news_of_block (heap_alloc_new wb _)) (by intro u hu; simp at hu; subst hu; rfl) (by omega) (by have := HS.out; unfold maxLen; omega) (by have := HS.out; omega) (by have := P4.out; simp; omega) _ rfl ?_; intro gg cap w3 hown hgrow hat hlt3; have O3 := hid (And.intro hown (And.intro hgrow hat)); clear hown hgrow hat hlt3))
            go_roundw
            case rel =>
              have tb : Touch [] wr wb := ((Touch.refl [] wr).drewN nq).trans P2.out.2.2.2 (by simp)
              have tc : Touch (Value.slice sx S.length sc).ownBlock.toList wr w3 := (((tb.alloc _).mono (by simp))).grown O3.out.2.1 (fun k hk => .inl (Option.mem_toList.2 hk))
              have tb3 : Touch (Value.slice sx S.length sc).ownBlock.toList wb w3 := ((((Touch.refl [] wb).alloc _).mono (by simp))).grown O3.out.2.1 (fun k hk => .inl (Option.mem_toList.2 hk))
              refine ⟨i + 1, lost + (sz - K), S ++ [y2], some ⟨gg, 0, none⟩, cap, by omega, by go_num, by go_num, by simp, ?_⟩
              refine hid (FStay.out hz2.out w3 _ y2 tc ?_ (P2.out.2.1.touch tb3 ?_) ?_ ?_)
              · rw [P2.out.1, P1.out.1]
              · exact ne_row P3.out P2.out.2.1
              · intro q hq
                rcases P2.out.2.2.1 q hq with h1 | h1
                · rcases P1.out.2.1 q (mut_own h1) with h2 | h2
                  · exact .inl (mut_own h2)
                  · exact .inr h2
                · exact .inr (Nat.le_trans P1.out.2.2.size h1)
              · have := O3.out.1
                rw [rowVals_snoc]
                exact this
            case measure => simp [RowKit.intOf]; omega
      · obtain rfl : kk = 0 := hkk0 hks
        have hks' : decide (i < ks.length) = false := by simpa using hks
        have hK0 : K = sy := by simp at hsum; omega
        subst hK0
        have hm0 : min (0 : Int) ((sz - K : Nat) : Int) = 0 := by omega
        clear hkk1 hkk0 hks hsum hsb
        by_cases hK1 : 0 < K
        · have hz : 0 < K ∨ la = true := .inl hK1
          have hKi : (0 : Int) < K := by omega
          have hKd : decide (0 < K) = true := by simpa using hK1
          go_wp2
          go_quiet ((go_at_call 47; exact CQ.out _))
          go_wp2_with (first
              | (go_at_call 42; with_reducible refine (C1.out _ ((Touch.refl _ _).drewN _) K hKle).mono ?_; intro e wa hh; obtain ⟨y1, hf1, he1, fa1, hb1, ho1, t1⟩ := made_out hh; unfold ptr at he1; subst he1; have FA := hid fa1; have C2 := hid (lasting_any fa1); unfold ptr at C2; have P1 := hid (And.intro hf1 (And.intro ho1 t1)); clear hf1 fa1 hb1 ho1 t1)
              | (go_at_call 41; with_reducible refine C2.out.mono ?_; intro e wb hh; obtain ⟨y2, hf2, he2, fa2, hb2, ho2, t2⟩ := made_out hh; unfold ptr at he2; subst he2; have P2 := hid (And.intro hf2 (And.intro fa2 (And.intro ho2 (P1.out.2.2.trans t2 (by simp))))); have P3 := hid (own_touch I.out.own (((Touch.refl [] wr).drewN nq).trans P2.out.2.2.2 (by simp)) (by simp)); have P4 := hid (Nat.le_trans I.out.touch.size (((Touch.refl [] wr).drewN nq).trans P2.out.2.2.2 (by simp)).size); clear hf2 fa2 hb2 ho2 t2)
              | (at_builtin; refine wpList_append_lies _ rfl _ _ 55 rfl w1.heap.size tPF _ (.pointer none) 1 8 rfl rfl rfl rfl rfl rfl (by omega) _ S.length (rowVals S) rfl (P3.out.alloc _) ⟨wb.heap.size, 0, none⟩ 1 1 [.pointer (some ⟨y2.b, 0, none⟩)] rfl rfl (World.news_of_block (heap_alloc_new wb _)) (by intro u hu; simp at hu; subst hu; rfl) (by omega) (by have := HS.out; unfold maxLen; omega) (by have := HS.out; omega) (by have := P4.out; simp; omega) _ rfl ?_; intro gg cap w3 hown hgrow hat hlt3; have O3 := hid (And.intro hown (And.intro hgrow hat)); clear hown hgrow hat hlt3))
          go_roundw
          case rel =>
            have tb : Touch [] wr wb := ((Touch.refl [] wr).drewN nq).trans P2.out.2.2.2 (by simp)
            have tc : Touch (Value.slice sx S.length sc).ownBlock.toList wr w3 := (((tb.alloc _).mono (by simp))).grown O3.out.2.1 (fun k hk => .inl (Option.mem_toList.2 hk))
            have tb3 : Touch (Value.slice sx S.length sc).ownBlock.toList wb w3 := ((((Touch.refl [] wb).alloc _).mono (by simp))).grown O3.out.2.1 (fun k hk => .inl (Option.mem_toList.2 hk))
            refine ⟨i + 1, lost + (sz - K), S ++ [y2], some ⟨gg, 0, none⟩, cap, by omega, by go_num, by go_num, by simp, ?_⟩
            refine hid (FStay.out hz w3 _ y2 tc ?_ (P2.out.2.1.touch tb3 ?_) ?_ ?_)
            · rw [P2.out.1, P1.out.1]
            · exact ne_row P3.out P2.out.2.1
            · intro q hq
              rcases P2.out.2.2.1 q hq with h1 | h1
              · rcases P1.out.2.1 q (mut_own h1) with h2 | h2
                · exact .inl (mut_own h2)
                · exact .inr h2
              · exact .inr (Nat.le_trans P1.out.2.2.size h1)
            · have := O3.out.1
              rw [rowVals_snoc]
              exact this
          case measure => simp [RowKit.intOf]; omega
        · have hK2 : K = 0 := by omega
          have hKd : decide (0 < K) = false := by simpa using hK1
          cases hla : la
          · rw [hla] at f4
            have hz : ¬ (0 < K ∨ la = true) := by rw [hla]; simp; omega
            have hz2 := hid hz
            have hla2 := hid hla
            have hK3 := hid hK2
            clear hla hK2 hK1 hz
            go_wp2
            go_quiet ((go_at_call 47; exact CQ.out _))
            go_wp2
            go_roundw
            case rel => exact ⟨i + 1, lost + (sz - K), S, sx, sc, by omega, by go_num, by go_num, rfl, hid (FSkip.out hz2.out _ ((Touch.refl _ _).drewN _))⟩
            case measure => simp [RowKit.intOf]; omega
          · rw [hla] at f4
            have hz : 0 < K ∨ la = true := .inr hla
            have hz2 := hid hz
            clear hla hK2 hK1 hz
            go_wp2
            go_quiet ((go_at_call 47; exact CQ.out _))
            go_wp2_with (first
                | (go_at_call 42; with_reducible refine (C1.out _ ((Touch.refl _ _).drewN _) K hKle).mono ?_; intro e wa hh; obtain ⟨y1, hf1, he1, fa1, hb1, ho1, t1⟩ := made_out hh; unfold ptr at he1; subst he1; have FA := hid fa1; have C2 := hid (lasting_any fa1); unfold ptr at C2; have P1 := hid (And.intro hf1 (And.intro ho1 t1)); clear hf1 fa1 hb1 ho1 t1)
                | (go_at_call 41; with_reducible refine C2.out.mono ?_; intro e wb hh; obtain ⟨y2, hf2, he2, fa2, hb2, ho2, t2⟩ := made_out hh; unfold ptr at he2; subst he2; have P2 := hid (And.intro hf2 (And.intro fa2 (And.intro ho2 (P1.out.2.2.trans t2 (by simp))))); have P3 := hid (own_touch I.out.own (((Touch.refl [] wr).drewN nq).trans P2.out.2.2.2 (by simp)) (by simp)); have P4 := hid (Nat.le_trans I.out.touch.size (((Touch.refl [] wr).drewN nq).trans P2.out.2.2.2 (by simp)).size); clear hf2 fa2 hb2 ho2 t2)
                | (at_builtin; refine wpList_append_lies _ rfl _ _ 55 rfl w1.heap.size tPF _ (.pointer none) 1 8 rfl rfl rfl rfl rfl rfl (by omega) _ S.length (rowVals S) rfl (P3.out.alloc _) ⟨wb.heap.size, 0, none⟩ 1 1 [.pointer (some ⟨y2.b, 0, none⟩)] rfl rfl (World.news_of_block (heap_alloc_new wb _)) (by intro u hu; simp at hu; subst hu; rfl) (by omega) (by have := HS.out; unfold maxLen; omega) (by have := HS.out; omega) (by have := P4.out; simp; omega) _ rfl ?_; intro gg cap w3 hown hgrow hat hlt3; have O3 := hid (And.intro hown (And.intro hgrow hat)); clear hown hgrow hat hlt3))
            go_roundw
            case rel =>
              have tb : Touch [] wr wb := ((Touch.refl [] wr).drewN nq).trans P2.out.2.2.2 (by simp)
              have tc : Touch (Value.slice sx S.length sc).ownBlock.toList wr w3 := (((tb.alloc _).mono (by simp))).grown O3.out.2.1 (fun k hk => .inl (Option.mem_toList.2 hk))
              have tb3 : Touch (Value.slice sx S.length sc).ownBlock.toList wb w3 := ((((Touch.refl [] wb).alloc _).mono (by simp))).grown O3.out.2.1 (fun k hk => .inl (Option.mem_toList.2 hk))
              refine ⟨i + 1, lost + (sz - K), S ++ [y2], some ⟨gg, 0, none⟩, cap, by omega, by go_num, by go_num, by simp, ?_⟩
              refine hid (FStay.out hz2.out w3 _ y2 tc ?_ (P2.out.2.1.touch tb3 ?_) ?_ ?_)
              · rw [P2.out.1, P1.out.1]
              · exact ne_row P3.out P2.out.2.1
              · intro q hq
                rcases P2.out.2.2.1 q hq with h1 | h1
                · rcases P1.out.2.1 q (mut_own h1) with h2 | h2
                  · exact .inl (mut_own h2)
                  · exact .inr h2
                · exact .inr (Nat.le_trans P1.out.2.2.size h1)
              · have := O3.out.1
                rw [rowVals_snoc]
                exact this
            case measure => simp [RowKit.intOf]; omega
    · obtain rfl : i = L.length := by omega
      have hl : lost = lostL (L.map (·.f)) ks := by
        have := I.out.lost
        rw [List.drop_of_length_le (by simp)] at this
        simpa [lostL] using this
      subst hl
      have dd := (I.out.touch.block d (lt_of_block HD.out) (by simp)).trans HD.out
      have z1 := free_of dd 1
      have z3 := free_of dd 3
      have z4 := free_of dd 4
      have z5 := free_of dd 5
      have z6 := free_of dd 6
      have v1 := cell_of dd 1
      have v3 := cell_of dd 3
      have v4 := cell_of dd 4
      have v5 := cell_of dd 5
      have v6 := cell_of dd 6
      simp [dkCells] at v1 v3 v4 v5 v6
      clear dd
      go_wp2
      go_ret
      exact ⟨rfl, _, S, wr, I.out, rfl⟩
end Go.Proofs.Ythibabfojndlkaa
