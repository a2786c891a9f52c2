/- The laws' own Words. -/
import Derived.Test.YtepbflcmghkieaaDoorBk
import Derived.Test.YtepbflcmghkieaaDoorWp15
namespace Go.Proofs.YtepbflcmghkieaaDoor
open Go.RowKit Go.Lib

theorem arr_eq {s : ByteArray} {l : List UInt8} (h : s.data.toList = l) : s = ⟨l.toArray⟩ := by subst h; simp
theorem svals_one (l : List ByteArray) : ∀ u ∈ svals l, u.oneCell' = true := by
  intro u hu
  unfold svals at hu
  obtain ⟨s, -, rfl⟩ := List.mem_map.1 hu
  rfl
theorem svals_app (a b : List ByteArray) : svals a ++ svals b = svals (a ++ b) := by simp [svals]
theorem svals_len (l : List ByteArray) : (svals l).length = l.length := by simp [svals]
theorem hd_all : ∀ {p : List UInt8}, (∀ x ∈ p, x ≠ 32) → hdW p = p ∧ tlW p = []
  | [], _ => ⟨rfl, rfl⟩
  | b :: p, h => by
    have hb : (b != 32) = true := by simpa using h b (by simp)
    obtain ⟨h1, h2⟩ := hd_all (p := p) fun x hx => h x (by simp [hx])
    unfold hdW tlW at *
    rw [List.takeWhile_cons, if_pos hb, List.dropWhile_cons, if_pos hb, h1]
    exact ⟨rfl, h2⟩
theorem hd_app : ∀ {p q : List UInt8}, (∀ x ∈ p, x ≠ 32) → hdW (p ++ 32 :: q) = p ∧ tlW (p ++ 32 :: q) = q
  | [], q, _ => ⟨rfl, rfl⟩
  | b :: p, q, h => by
    have hb : (b != 32) = true := by simpa using h b (by simp)
    obtain ⟨h1, h2⟩ := hd_app (p := p) (q := q) fun x hx => h x (by simp [hx])
    unfold hdW tlW at *
    rw [List.cons_append, List.takeWhile_cons, if_pos hb, List.dropWhile_cons, if_pos hb, h1]
    exact ⟨rfl, h2⟩
/-- No blank from a place up to another one. -/
def NoBlank (L : List UInt8) (a i : Nat) : Prop := ∀ x ∈ (L.drop a).take (i - a), x ≠ 32
theorem noBlank_self (L : List UInt8) (a : Nat) : NoBlank L a a := by
  intro x hx
  simp at hx
theorem noBlank_step {L : List UInt8} {a i : Nat} (h : NoBlank L a i) (hai : a ≤ i) (hi : i < L.length) (hx : L[i] ≠ 32) : NoBlank L a (i + 1) := by
  intro x hxm
  rw [show i + 1 - a = (i - a) + 1 by omega, List.take_succ_eq_append_getElem (by simp; omega), List.mem_append] at hxm
  rcases hxm with hxm | hxm
  · exact h x hxm
  · simp only [List.mem_singleton, List.getElem_drop] at hxm
    subst hxm
    rwa [show L[a + (i - a)]'(by omega) = L[i] from by congr 1; omega]
theorem words_blank {L : List UInt8} {a i : Nat} (h : NoBlank L a i) (hai : a ≤ i) (hi : i < L.length) (hx : L[i] = 32) :
    wordsB (L.drop a) = (if a < i then [txt ((L.drop a).take (i - a))] else []) ++ wordsB (L.drop (i + 1)) := by
  have hsp : L.drop a = (L.drop a).take (i - a) ++ 32 :: L.drop (i + 1) := by
    conv => lhs; rw [← List.take_append_drop (i - a) (L.drop a)]
    congr 1
    rw [List.drop_drop, show a + (i - a) = i by omega, List.drop_eq_getElem_cons hi, hx]
  have hne : L.drop a ≠ [] := by
    intro e
    have := congrArg List.length e
    simp at this
    omega
  obtain ⟨h1, h2⟩ := hd_app (q := L.drop (i + 1)) h
  rw [← hsp] at h1 h2
  by_cases hlt : a < i
  · rw [if_pos hlt]
    have hhd : hdW (L.drop a) ≠ [] := by
      rw [h1]
      intro e
      have := congrArg List.length e
      simp at this
      omega
    rw [wordsB_yes hne hhd, h1, h2]; rfl
  · rw [if_neg hlt]
    have hhd : hdW (L.drop a) = [] := by
      rw [h1, show i - a = 0 by omega]; rfl
    rw [wordsB_no hne hhd, h2]; rfl
theorem words_end {L : List UInt8} {a : Nat} (h : NoBlank L a L.length) (ha : a ≤ L.length) :
    wordsB (L.drop a) = (if a < L.length then [txt ((L.drop a).take (L.length - a))] else []) ++ wordsB (L.drop (L.length + 1)) := by
  have hz : L.drop (L.length + 1) = [] := List.drop_of_length_le (by omega)
  rw [hz, wordsB_nil, List.append_nil]
  by_cases hlt : a < L.length
  · rw [if_pos hlt]
    have hne : L.drop a ≠ [] := by
      intro e
      have := congrArg List.length e
      simp at this
      omega
    have ht : (L.drop a).take (L.length - a) = L.drop a := List.take_of_length_le (by simp)
    unfold NoBlank at h
    rw [ht] at h ⊢
    obtain ⟨h1, h2⟩ := hd_all h
    rw [wordsB_yes hne (by rw [h1]; exact hne), h1, h2, wordsB_nil]
  · rw [if_neg hlt, List.drop_of_length_le (by omega), wordsB_nil]

structure WordsR (s : ByteArray) (W wr : World) (a i : Nat) (ws : List ByteArray) (ov : Value) : Prop where
  le : a ≤ i
  hi : i ≤ s.size + 1
  no : i ≤ s.size → NoBlank s.data.toList a i
  all : ws ++ wordsB (s.data.toList.drop a) = wordsB s.data.toList
  few : ws.length ≤ i
  fin : i ≤ s.size ∨ a = i
  own : wr.ownsRow W.heap.size TStr 1 ov ws.length (svals ws)
  t : Touch [] W wr

theorem cut_eq (s : ByteArray) (a i : Nat) : s.extract a i = txt ((s.data.toList.drop a).take (i - a)) := by
  have h := extract_data s a i
  exact (arr_eq h).trans rfl

set_option maxHeartbeats 4000000 in
set_option maxRecDepth 100000 in
theorem refWords_any (s : ByteArray) (W : World) (hs : s.size ≤ 3000) :
    Calls Tryd.prog 24 #[.string s] W fun e W' => ∃ v, e = .returned v ∧ W'.ownsRow W.heap.size TStr 1 v (wordsB s.data.toList).length (svals (wordsB s.data.toList)) ∧ (wordsB s.data.toList).length ≤ 3001 ∧ Touch [] W W' := by
  obtain ⟨i0, hi, hz0, hz1, hz2⟩ := info_parts infoStrP
  have hs1 : (s.size : Int) ≤ 3000 := by omega
  go_enter Tryd.func24, Tryd.ntmps24
  go_wp2
  go_loopw [3, 4, 5] (fun ov av iv wr => ∃ (a i : Nat) (ws : List ByteArray), av = .int .i64 a ∧ iv = .int .i64 i ∧ WordsR s W wr a i ws ov) (fun _ _ iv _ => s.size + 1 - (RowKit.intOf iv).toNat)
  case atStart => exact ⟨0, 0, [], rfl, rfl, ⟨Nat.le_refl _, Nat.zero_le _, fun _ => noBlank_self _ _, rfl, Nat.le_refl _, .inl (Nat.zero_le _), World.ownsRow_nil _ _ _ _, Touch.refl _ _⟩⟩
  case round =>
    obtain ⟨a, i, ws, rfl, rfl, hR⟩ := hrel
    have HR := hid hR
    have ha := hR.le
    have hii := hR.hi
    have hfew := hR.few
    clear hR
    have HD : Hid (∀ t ∈ ws, t.size ≤ 3000) := fun t htt => by
      have h1 := wordsB_size s.data.toList t (by rw [← HR.out.all]; exact List.mem_append_left _ htt)
      rw [list_len] at h1
      omega
    by_cases hend : i ≤ s.size
    · have hiI : (i : Int) ≤ s.size := by omega
      have ha0 : (0 : Int) ≤ a := by omega
      have haI : (a : Int) ≤ i := by omega
      have hcase : ((i : Int) < s.size ∧ ∃ h : i < s.size, s[i] ≠ 32) ∨ (wordsB (s.data.toList.drop a) = (if a < i then [s.extract a i] else []) ++ wordsB (s.data.toList.drop (i + 1)) ∧ (i = s.size ∨ ∃ h : i < s.size, s[i] = 32)) := by
        by_cases h : i < s.size
        · by_cases hx : s[i] = 32
          · right
            rw [cut_eq]
            exact ⟨words_blank (HR.out.no hend) ha (by rw [list_len]; exact h) hx, .inr ⟨h, hx⟩⟩
          · left
            exact ⟨by omega, h, hx⟩
        · right
          obtain rfl : i = s.size := by omega
          have h2 := words_end (L := s.data.toList) (a := a) (by rw [list_len]; exact HR.out.no (Nat.le_refl _)) (by rw [list_len]; exact ha)
          rw [list_len] at h2
          rw [cut_eq]
          exact ⟨h2, .inl rfl⟩
      rcases hcase with ⟨hltI, hlt, hx⟩ | ⟨hw, hor⟩
      · have t1 : ((i : Int) == (s.size : Int)) = false := by simp; omega
        have t2 : ((s[i].toNat : Int) == 32) = false := by
          rw [beq_eq_false_iff_ne]
          intro e
          apply hx
          apply UInt8.toNat_inj.1
          show s[i].toNat = 32
          omega
        have HNX := hid (noBlank_step (HR.out.no hend) ha (by rw [list_len]; exact hlt) hx)
        clear hx hend
        go_wp2
        go_roundw
        case rel => exact ⟨a, i + 1, ws, by go_num, by go_num, ⟨by omega, by omega, fun _ => HNX.out, HR.out.all, by omega, .inl (by omega), HR.out.own, HR.out.t⟩⟩
        case measure => simp [RowKit.intOf]; omega
      · have HW := hid hw
        clear hw
        have hor2 : Hid ((i = s.size) ∨ (((i : Int) == (s.size : Int)) = false ∧ (i : Int) < s.size ∧ ∃ h : i < s.size, ((s[i].toNat : Int) == 32) = true)) := by
          rcases hor with h | ⟨h, hx⟩
          · exact .inl h
          · exact .inr ⟨by simp; omega, by omega, h, by rw [hx]; rfl⟩
        clear hor
        by_cases hlt : a < i
        · have hltI : (a : Int) < i := by omega
          have HA : Hid ((ws ++ [s.extract a i]) ++ wordsB (s.data.toList.drop (i + 1)) = wordsB s.data.toList) := by
            have h1 := HR.out.all
            rw [HW.out, if_pos hlt, ← List.append_assoc] at h1
            exact h1
          have HO := hid HR.out.own
          rcases hor2.out with rfl | ⟨q1, q2, q3, q4⟩
          all_goals
            go_wp2_with (at_builtin; refine wpList_append_row _ rfl (.tmp 25) (.tmp 30) 40 rfl W.heap.size TStr i0 (.string ⟨#[]⟩) 16 Tryd.underlying40 hi hz0 hz1 hz2 rfl _ ws.length (svals ws) rfl (HO.out.alloc _) (.slice (some ⟨wr.heap.size, 0, none⟩) 1 1) 1 0 (svals [s.extract a _]) rfl (World.ownsRow_lit wr (svals [s.extract a _]).toArray 1 (Nat.zero_le _) (by decide) rfl) (svals_one _) (by omega) (by decide) (by have := HR.out.t.size; simp; omega) ?_; intro y cap w2 hG; have G := hid hG; clear hG)
            go_roundw
            case rel => exact ⟨_, _, ws ++ [s.extract a _], by go_num, by go_num, ⟨Nat.le_refl _, by omega, fun _ => noBlank_self _ _, HA.out, by simp; omega, .inr rfl, by have := G.out.own; rw [svals_app] at this; simpa using this, G.out.touch (HO.out.alloc _) (HR.out.t.alloc _) (Nat.le_refl _)⟩⟩
            case measure => simp [RowKit.intOf] <;> omega
        · obtain rfl : a = i := by omega
          have HA : Hid (ws ++ wordsB (s.data.toList.drop (a + 1)) = wordsB s.data.toList) := by
            have h1 := HR.out.all
            rw [HW.out, if_neg hlt, List.nil_append] at h1
            exact h1
          clear hlt
          rcases hor2.out with rfl | ⟨q1, q2, q3, q4⟩
          all_goals
            go_wp2
            go_roundw
            case rel => exact ⟨_, _, ws, by go_num, by go_num, ⟨Nat.le_refl _, by omega, fun _ => noBlank_self _ _, HA.out, by omega, .inr rfl, HR.out.own, HR.out.t⟩⟩
            case measure => simp [RowKit.intOf] <;> omega
    · obtain rfl : i = s.size + 1 := by omega
      have hz : a = s.size + 1 := by rcases HR.out.fin with h | h <;> omega
      have HA : Hid (ws = wordsB s.data.toList) := by
        have h1 := HR.out.all
        rw [hz, List.drop_of_length_le (by rw [list_len]; omega), wordsB_nil, List.append_nil] at h1
        exact h1
      clear hz hend
      go_wp2
      go_ret
      refine ⟨_, rfl, ?_, ?_, HR.out.t⟩
      · rw [← HA.out]; exact HR.out.own
      · rw [← HA.out]; omega
end Go.Proofs.YtepbflcmghkieaaDoor
