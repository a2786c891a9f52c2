/- What prog.Parse tells. -/
import Derived.Test.YtiglfdefeaddmaaSplit
import Derived.Laws.AppendOwnNone
namespace Go.Proofs.Ytiglfdefeaddmaa
open Go.RowKit Go.Lib

abbrev TStr : TypeId := 9
abbrev TProg : TypeId := 29
def svals (l : List ByteArray) : List Value := l.map fun s => Value.string s
theorem svals_snoc (l : List ByteArray) (s : ByteArray) : svals l ++ [Value.string s] = svals (l ++ [s]) := by simp [svals]
/-- A list that is one's own: the texts of a slice value. -/
theorem texts_own {w : World} {base n : Nat} {v : Value} {l : List ByteArray} (h : w.ownsRow base TStr 1 v n (svals l)) (hn : n = l.length) (hw : ∀ s ∈ l, s.size ≤ maxLen) :
    ∃ x c, v = .slice x l.length c ∧ l.length ≤ c ∧ c ≤ maxLen ∧ TextsX w x l := by
  subst hn
  rcases h.2 with ⟨rfl, h0⟩ | ⟨g, cap, cur, rfl, hb, _, hc, hm, _⟩
  · have hl : l = [] := List.eq_nil_of_length_eq_zero h0
    subst hl
    exact ⟨none, 0, rfl, Nat.le_refl _, Nat.zero_le _, fun i hi => absurd hi (Nat.not_lt_zero i)⟩
  · refine ⟨_, cap, rfl, hc, hm, fun i hi => ⟨g, 0, rfl, ?_, hw _ (List.getElem_mem hi)⟩⟩
    have := h.cells (g := g) rfl i (.string l[i]) (by simp [svals, hi])
    rw [show (⟨g, 0, none⟩ : Addr).add i = ⟨g, i, none⟩ from by unfold Addr.add; split <;> simp_all] at this
    rw [Nat.zero_add]
    exact this

/-- The words of a text, as texts. -/
def wordsB (l : List UInt8) : List ByteArray := (wordsW l).map txt
theorem wordsB_nil : wordsB [] = [] := rfl
theorem wordsB_no {l : List UInt8} (h : l ≠ []) (e : hdW l = []) : wordsB l = wordsB (tlW l) := by
  unfold wordsB
  rw [wordsW_step h, if_pos e]; rfl
theorem wordsB_yes {l : List UInt8} (h : l ≠ []) (e : hdW l ≠ []) : wordsB l = txt (hdW l) :: wordsB (tlW l) := by
  unfold wordsB
  rw [wordsW_step h, if_neg e]; rfl
theorem hd_le (l : List UInt8) : (hdW l).length ≤ l.length := by
  unfold hdW
  exact (List.takeWhile_sublist _).length_le
theorem tl_le (l : List UInt8) : (tlW l).length ≤ l.length := by
  by_cases h : l = []
  · subst h; simp [tlW]
  · exact Nat.le_of_lt (tl_lt h)
theorem wordsN_size : ∀ (n : Nat) (l : List UInt8), ∀ x ∈ wordsN n l, x.length ≤ l.length
  | 0, _, x, hx => by simp [wordsN] at hx
  | n + 1, l, x, hx => by
    unfold wordsN at hx
    split at hx
    · simp at hx
    · rw [List.mem_append] at hx
      rcases hx with hx | hx
      · split at hx
        · simp at hx
        · simp at hx; subst hx; exact hd_le l
      · exact Nat.le_trans (wordsN_size n _ x hx) (tl_le l)
theorem wordsB_size (l : List UInt8) : ∀ s ∈ wordsB l, s.size ≤ l.length := by
  intro s hs
  unfold wordsB at hs
  simp only [List.mem_map] at hs
  obtain ⟨x, hx, rfl⟩ := hs
  rw [txt_size]
  exact wordsN_size _ _ x hx

/-- What Parse tells: the program's words, or none, and the error with its place. -/
def ParsePost (l : List ByteArray) (W : World) (e : Ending) (W' : World) : Prop :=
  Touch [] W W' ∧ ∃ v n, e = .returned (.tuple #[.agg #[v], .int .i64 (checkOf l).1, .int .i64 (checkOf l).2]) ∧ W'.ownsRow W.heap.size TStr 1 v n (svals (if (checkOf l).1 = 0 then l else [])) ∧ n = (if (checkOf l).1 = 0 then l else []).length
theorem parsePost_ok {l : List ByteArray} {W : World} (h : (checkOf l).1 = 0) : ParsePost l W = fun e W' => Touch [] W W' ∧ ∃ v n, e = .returned (.tuple #[.agg #[v], .int .i64 0, .int .i64 0]) ∧ W'.ownsRow W.heap.size TStr 1 v n (svals l) ∧ n = l.length := by
  have h2 : (checkOf l).2 = 0 := by
    unfold checkOf at *
    split at h
    · simp at h
    · split at h
      · simp at h
      · split
        · omega
        · rfl
  funext e W'
  unfold ParsePost
  rw [h2, h, if_pos rfl]
theorem parsePost_no {l : List ByteArray} {W : World} (h : ¬ (checkOf l).1 = 0) : ParsePost l W = fun e W' => Touch [] W W' ∧ ∃ v n, e = .returned (.tuple #[.agg #[v], .int .i64 (checkOf l).1, .int .i64 (checkOf l).2]) ∧ W'.ownsRow W.heap.size TStr 1 v n [] ∧ n = 0 := by
  funext e W'
  unfold ParsePost
  rw [if_neg h]
  rfl
theorem check_same {ws l rest : List ByteArray} (h : ws ++ rest = l) (hl : rest = [] ∨ 64 < ws.length) : checkOf ws = checkOf l := by
  rcases hl with rfl | hl
  · rw [List.append_nil] at h; rw [h]
  · rw [check_long hl, check_long (by rw [← h, List.length_append]; omega)]
theorem check_zero_at {l : List ByteArray} (h : (checkOf l).1 = 0) : (checkOf l).2 = 0 := by
  unfold checkOf at *
  split at h
  · simp at h
  · split at h
    · simp at h
    · split
      · omega
      · rfl

theorem infoStrP : (Try.prog.info? TStr).map (fun i => (i.zero, i.size, i.bytes)) = some (some (.string ⟨#[]⟩), 1, 16) := by kernel_rfl

theorem drewN_touch' (W : World) (n : Nat) : Touch [] W (W.drewN n) := (Touch.refl _ _).drewN n
theorem own_touch_f {base : Nat} {e : TypeId} {size : Nat} {v : Value} {n : Nat} {xs : List Value} {F : List Nat} {W W' : World} (h : W.ownsRow base e size v n xs) (ht : Touch F W W') (hF : ∀ f ∈ F, f < base) : W'.ownsRow base e size v n xs := by
  refine ⟨h.1, ?_⟩
  rcases h.2 with h2 | ⟨b, cap, cur, hv, hb, hh, r⟩
  · exact .inl h2
  · exact .inr ⟨b, cap, cur, hv, hb, (ht.block b (lt_of_block hh) (fun e => by have := hF b e; omega)).trans hh, r⟩
theorem own_base {base base' : Nat} {e : TypeId} {size : Nat} {v : Value} {n : Nat} {xs : List Value} {W : World} (h : W.ownsRow base e size v n xs) (hb : base' ≤ base) : W.ownsRow base' e size v n xs := by
  refine ⟨h.1, ?_⟩
  rcases h.2 with h2 | ⟨b, cap, cur, hv, hb', r⟩
  · exact .inl h2
  · exact .inr ⟨b, cap, cur, hv, by omega, r⟩
theorem new_at_drewN (W : World) (n : Nat) (o : Obj) : ((W.drewN n).alloc o).heap[W.heap.size]? = some o := by
  have h := heap_alloc_new (W.drewN n) o
  rwa [show (W.drewN n).heap.size = W.heap.size by rw [drewN_heap]] at h
theorem own_row {W : World} {base : Nat} {e : TypeId} {size : Nat} {v : Value} {n : Nat} {xs : List Value} (h : W.ownsRow base e size v n xs) : ∀ k, v.ownBlock = some k → base ≤ k := fun k hk => by
  rcases h.2 with ⟨rfl, _⟩ | ⟨b, cap, cur, rfl, hb, _⟩
  · simp [Value.ownBlock] at hk
  · simp [Value.ownBlock] at hk; omega
theorem empty_text {t : ByteArray} (h : t.data.toList = []) : t = ⟨#[]⟩ := arr_eq h

set_option maxHeartbeats 4000000 in
set_option maxRecDepth 100000 in
theorem progParse_any (s : ByteArray) (W : World) (hs : s.size ≤ 100000) :
    Calls Try.prog 26 #[.string s] W (ParsePost (wordsB s.data.toList) W) := by
  obtain ⟨i0, hi, hz0, hz1, hz2⟩ := info_parts infoStrP
  go_enter Try.func26, Try.ntmps26
  go_wp2
  have hn0 := heap_alloc_new (W.alloc (.cells #[.slice none 0 0] TProg)) (.cells #[.slice none 0 0] TProg)
  have hr0 := heap_alloc_keep (heap_alloc_new W (.cells #[.slice none 0 0] TProg)) (.cells #[.slice none 0 0] TProg)
  have hz : (W.alloc (.cells #[.slice none 0 0] TProg)).heap.size = W.heap.size + 1 := by simp
  rw [hz] at hn0
  have HN := hid hn0
  have HR := hid hr0
  have HT : Hid (Touch [] W ((W.alloc (.cells #[.slice none 0 0] TProg)).alloc (.cells #[.slice none 0 0] TProg))) := hid (((Touch.refl [] W).alloc _).alloc _)
  have hz2' : ((W.alloc (.cells #[.slice none 0 0] TProg)).alloc (.cells #[.slice none 0 0] TProg)).heap.size = W.heap.size + 2 := by simp
  have HZ := hid hz2'
  clear hn0 hr0 hz hz2'
  generalize (W.alloc (.cells #[.slice none 0 0] TProg)).alloc (.cells #[.slice none 0 0] TProg) = W1 at *
  go_loopw [0] (fun tv wr => ∃ (t : ByteArray) (ws : List ByteArray) (v : Value), tv = .string t ∧ t.size ≤ s.size ∧ ws ++ wordsB t.data.toList = wordsB s.data.toList ∧ ws.length ≤ 65 ∧ wr.heap[W.heap.size + 1]? = some (.cells #[v] TProg (0, 0)) ∧ wr.ownsRow (W.heap.size + 2) TStr 1 v ws.length (svals ws) ∧ Touch [W.heap.size + 1] W1 wr) (fun tv _ => match tv with | .string t => t.size | _ => 0)
  case atStart => exact ⟨s, [], _, rfl, Nat.le_refl _, rfl, Nat.zero_le _, HN.out, World.ownsRow_nil _ _ _ _, Touch.refl _ _⟩
  case round =>
    obtain ⟨t, ws, v, rfl, hts, hws, hwl, hb, hown, ht⟩ := hrel
    have HWS := hid hws
    have HB := hid hb
    have HO := hid hown
    have HT1 := hid ht
    have c0 := cell_of hb 0
    have f0 := free_of hb 0
    have hvl : ∃ a0 cc, v = .slice a0 ws.length cc := by
      rcases hown.2 with ⟨rfl, h0⟩ | ⟨b, cap, cur, rfl, _⟩
      · exact ⟨_, _, by rw [h0]⟩
      · exact ⟨_, _, rfl⟩
    have hsz := hid (fun x (hx : x ∈ ws) => Nat.le_trans (wordsB_size s.data.toList x (by rw [← HWS.out]; simp [hx])) (by rw [list_len]; exact hs) : ∀ x ∈ ws, x.size ≤ 100000)
    obtain ⟨a0, cc, hv⟩ := hvl
    subst hv
    clear hws hb hown ht
    by_cases hgo : t.data.toList ≠ [] ∧ ws.length ≤ 64
    · obtain ⟨hne, hle⟩ := hgo
      have e1 : t.toList.isEmpty = false := by rw [ByteArray.toList_eq]; simpa using hne
      have e2 : decide (ws.length ≤ 64) = true := by simpa using hle
      have e3 : decide ((ws.length : Int) ≤ 64) = true := by simp; omega
      have htl := tl_lt hne
      rw [list_len] at htl
      obtain ⟨T2, hT2⟩ : ∃ T2, T2 = txt (tlW t.data.toList) := ⟨_, rfl⟩
      have hT2s : T2.size < t.size := by rw [hT2, txt_size]; exact htl
      have hle2 := hid hle
      by_cases hh : hdW t.data.toList = []
      · have C : Hid (∀ w, Calls Try.prog 40 #[.string t, .string ⟨#[32]⟩] w fun e w' => e = .returned (.tuple #[.string ⟨#[]⟩, .string T2, .bool (foundB t.data.toList)]) ∧ ∃ n, w' = w.drewN n) :=
          fun w => (cut_blank t w (by omega)).mono fun e w' ⟨he, hn⟩ => ⟨by rw [he, hh, hT2]; rfl, hn⟩
        have HW2 : Hid (ws ++ wordsB T2.data.toList = wordsB s.data.toList) := by
          have := HWS.out
          rw [wordsB_no hne hh] at this
          rw [hT2]; exact this
        generalize foundB t.data.toList = fb at *
        clear hT2 hh hne htl hle
        go_wp2_with (go_at_call 40; refine (C.out _).mono ?_; rintro e w1 ⟨rfl, n, rfl⟩)
        go_roundw
        case rel => exact ⟨T2, ws, _, rfl, by omega, HW2.out, hwl, by rw [drewN_heap]; exact HB.out, own_touch_f HO.out (drewN_touch' _ _) (by simp), HT1.out.drewN _⟩
        case measure => exact hT2s
      · have C : Hid (∀ w, Calls Try.prog 40 #[.string t, .string ⟨#[32]⟩] w fun e w' => e = .returned (.tuple #[.string (txt (hdW t.data.toList)), .string T2, .bool (foundB t.data.toList)]) ∧ ∃ n, w' = w.drewN n) :=
          fun w => (cut_blank t w (by omega)).mono fun e w' ⟨he, hn⟩ => ⟨by rw [he, hT2], hn⟩
        have HW2 : Hid ((ws ++ [txt (hdW t.data.toList)]) ++ wordsB T2.data.toList = wordsB s.data.toList) := by
          have := HWS.out
          rw [wordsB_yes hne hh] at this
          rw [hT2, List.append_assoc]; exact this
        have e4 : (txt (hdW t.data.toList)).toList.isEmpty = false := by rw [ByteArray.toList_eq, txt_list]; simpa using hh
        generalize txt (hdW t.data.toList) = H at *
        generalize foundB t.data.toList = fb at *
        clear hT2 hh hne htl hle
        have hlt := lt_of_block HB.out
        go_wp2_with (first | (go_at_call 40; refine (C.out _).mono ?_; rintro e w1 ⟨rfl, n, rfl⟩) | (at_builtin; (refine wpList_append_lies _ rfl (.tmp 28) (.tmp 30) 22 rfl (W.heap.size + 2) TStr i0 (.string ⟨#[]⟩) 1 16 Try.underlying22 hi hz0 hz1 hz2 rfl (by decide) (.slice a0 ws.length cc) ws.length (svals ws) rfl (own_touch_f HO.out ((drewN_touch' _ _).alloc _) (by simp)) ⟨wr.heap.size, 0, none⟩ 1 1 [.string H] (by first | rfl | simp [Act.eval, drewN_heap]) rfl (World.news_of_block (cs := #[.string H]) (t := TStr) (fr := (0, 0)) (new_at_drewN _ _ _)) (by intro u hu; simp at hu; subst hu; rfl) (by decide) (by unfold maxLen; omega) (by omega) (by first | omega | (simp; omega)) _ rfl ?_); intro gx capx w1 hown' hgrow _ _; (have hq : w1.heap[W.heap.size + 1]? = some (.cells #[.slice a0 ws.length cc] TProg (0, 0)) := (hgrow.block _ (by simp; omega) (own_far HO.out (by omega))).trans (heap_alloc_keep (by rw [drewN_heap]; exact HB.out) _)); (have q0 := cell_of hq 0); (have q1 := free_of hq 0); (have HQ := hid hq); (have HOW := hid hown'); (have HG := hid hgrow); clear hq hown' hgrow))
        go_roundw
        case rel =>
          refine ⟨T2, ws ++ [H], _, rfl, by omega, HW2.out, by have := hle2.out; simp; omega, heap_set HQ.out _, ?_, ?_⟩
          · rw [List.length_append, ← svals_snoc]
            exact ownsRow_setCell_below HOW.out (by show W.heap.size + 1 < W.heap.size + 2; omega) _
          · exact (Touch.grown ((HT1.out.drewN _).alloc _) HG.out (fun k hk => .inr (by have := own_row HO.out k hk; have := HZ.out; omega))).setCell (.inl (by simp)) _
        case measure => exact hT2s
    · have HX : ∃ x, a0 = x := ⟨_, rfl⟩
      obtain ⟨x, c, hv, hcap, hcm, htx⟩ := texts_own HO.out rfl (fun z hz => by have := hsz.out z hz; unfold maxLen; omega)
      simp only [Value.slice.injEq] at hv
      obtain ⟨rfl, _, rfl⟩ := hv
      have hcs := hid (check_same HWS.out (by
        by_cases h1 : t.data.toList = []
        · left; rw [h1]; rfl
        · right
          have : ¬ ws.length ≤ 64 := fun h2 => hgo ⟨h1, h2⟩
          omega))
      have C := hid (fun w (ht : Touch [] wr w) => check_any a0 cc ws w (by omega) (htx.touch ht))
      rw [hcs.out] at C
      have ht01 : t.data.toList = [] ∨ (¬ t.data.toList = [] ∧ ws.length = 65) := by
        by_cases h1 : t.data.toList = []
        · exact .inl h1
        · right
          have : ¬ ws.length ≤ 64 := fun h2 => hgo ⟨h1, h2⟩
          exact ⟨h1, by omega⟩
      have hfull : Hid ((checkOf (wordsB s.data.toList)).1 = 0 → ws = wordsB s.data.toList) := fun h => by
        rcases ht01 with h1 | ⟨h1, h2⟩
        · have := HWS.out
          rw [h1, wordsB_nil, List.append_nil] at this
          exact this
        · have := hcs.out
          rw [check_long (by omega)] at this
          rw [← this] at h
          simp at h
      clear hgo hcs HX
      have HR1 := hid (touch_other HT1.out HR.out (by simp))
      have HTW : Hid (Touch [] W wr) := Touch.trans (G := [W.heap.size + 1]) HT.out HT1.out (by simp)
      rcases ht01 with h1 | ⟨h1, h2⟩
      · obtain rfl := empty_text h1
        clear h1
        by_cases hz : (checkOf (wordsB s.data.toList)).1 = 0
        · have hf := hid (hfull.out hz)
          have hp := hid (parsePost_ok (W := W) hz)
          rw [hz, check_zero_at hz] at C
          clear hz hfull
          go_wp2_with (go_at_call 24; refine (C.out _ (Touch.refl _ _)).mono ?_; rintro e w1 ⟨rfl, q1⟩; (have r1 := touch_other q1 HR1.out (by simp)); (have b1 := touch_other q1 HB.out (by simp)); (have r10 := cell_of r1 0); (have r11 := free_of r1 0); (have b10 := cell_of b1 0); (have R1 := hid r1); (have Q1 := hid q1); clear r1 b1 q1)
          have S := cell_of (heap_set R1.out (i := 0) (.slice a0 ws.length cc)) 0
          refine bodyPost_ret (v := .tuple #[.agg #[.slice a0 ws.length cc], .int .i64 0, .int .i64 0]) (by simp [results, Try.results26, go_sem, S]) rfl ?_
          rw [hp.out]
          refine ⟨HTW.out.trans Q1.out (by simp) |>.setCell (.inr (by simp)) _, _, _, rfl, ?_, rfl⟩
          rw [← hf.out]
          exact own_base (base := W.heap.size + 2) (ownsRow_setCell_below (owns_touch HO.out Q1.out) (by show W.heap.size < W.heap.size + 2; omega) _) (by omega)
        · have hp := hid (parsePost_no (W := W) hz)
          have hz1 : ((checkOf (wordsB s.data.toList)).1 != 0) = true := by simpa using hz
          generalize (checkOf (wordsB s.data.toList)).1 = k1 at *
          generalize (checkOf (wordsB s.data.toList)).2 = k2 at *
          clear hz hfull
          go_wp2_with (go_at_call 24; refine (C.out _ (Touch.refl _ _)).mono ?_; rintro e w1 ⟨rfl, q1⟩; (have r1 := touch_other q1 HR1.out (by simp)); (have b1 := touch_other q1 HB.out (by simp)); (have r10 := cell_of r1 0); (have r11 := free_of r1 0); (have b10 := cell_of b1 0); (have R1 := hid r1); (have Q1 := hid q1); clear r1 b1 q1)
          have S := cell_of (heap_set R1.out (i := 0) (.slice none 0 0)) 0
          refine bodyPost_ret (v := .tuple #[.agg #[.slice none 0 0], .int .i64 k1, .int .i64 k2]) (by simp [results, Try.results26, go_sem, S]) rfl ?_
          rw [hp.out]
          exact ⟨HTW.out.trans Q1.out (by simp) |>.setCell (.inr (by simp)) _, _, _, rfl, World.ownsRow_nil _ _ _ _, rfl⟩
      · have e1 : t.toList.isEmpty = false := by rw [ByteArray.toList_eq]; simpa using h1
        have e2 : decide (ws.length ≤ 64) = false := by simp; omega
        have e3 : decide ((ws.length : Int) ≤ 64) = false := by simp; omega
        clear h1 h2
        by_cases hz : (checkOf (wordsB s.data.toList)).1 = 0
        · have hf := hid (hfull.out hz)
          have hp := hid (parsePost_ok (W := W) hz)
          rw [hz, check_zero_at hz] at C
          clear hz hfull
          go_wp2_with (go_at_call 24; refine (C.out _ (Touch.refl _ _)).mono ?_; rintro e w1 ⟨rfl, q1⟩; (have r1 := touch_other q1 HR1.out (by simp)); (have b1 := touch_other q1 HB.out (by simp)); (have r10 := cell_of r1 0); (have r11 := free_of r1 0); (have b10 := cell_of b1 0); (have R1 := hid r1); (have Q1 := hid q1); clear r1 b1 q1)
          have S := cell_of (heap_set R1.out (i := 0) (.slice a0 ws.length cc)) 0
          refine bodyPost_ret (v := .tuple #[.agg #[.slice a0 ws.length cc], .int .i64 0, .int .i64 0]) (by simp [results, Try.results26, go_sem, S]) rfl ?_
          rw [hp.out]
          refine ⟨HTW.out.trans Q1.out (by simp) |>.setCell (.inr (by simp)) _, _, _, rfl, ?_, rfl⟩
          rw [← hf.out]
          exact own_base (base := W.heap.size + 2) (ownsRow_setCell_below (owns_touch HO.out Q1.out) (by show W.heap.size < W.heap.size + 2; omega) _) (by omega)
        · have hp := hid (parsePost_no (W := W) hz)
          have hz1 : ((checkOf (wordsB s.data.toList)).1 != 0) = true := by simpa using hz
          generalize (checkOf (wordsB s.data.toList)).1 = k1 at *
          generalize (checkOf (wordsB s.data.toList)).2 = k2 at *
          clear hz hfull
          go_wp2_with (go_at_call 24; refine (C.out _ (Touch.refl _ _)).mono ?_; rintro e w1 ⟨rfl, q1⟩; (have r1 := touch_other q1 HR1.out (by simp)); (have b1 := touch_other q1 HB.out (by simp)); (have r10 := cell_of r1 0); (have r11 := free_of r1 0); (have b10 := cell_of b1 0); (have R1 := hid r1); (have Q1 := hid q1); clear r1 b1 q1)
          have S := cell_of (heap_set R1.out (i := 0) (.slice none 0 0)) 0
          refine bodyPost_ret (v := .tuple #[.agg #[.slice none 0 0], .int .i64 k1, .int .i64 k2]) (by simp [results, Try.results26, go_sem, S]) rfl ?_
          rw [hp.out]
          exact ⟨HTW.out.trans Q1.out (by simp) |>.setCell (.inr (by simp)) _, _, _, rfl, World.ownsRow_nil _ _ _ _, rfl⟩
end Go.Proofs.Ytiglfdefeaddmaa
