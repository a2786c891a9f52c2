/- What the laws' own Number returns: the same as codec's. -/
import Derived.Test.YtmgglmoiepjebaaNumber
namespace Go.Proofs.Ytmgglmoiepjebaa
set_option maxRecDepth 100000
open Go.RowKit Go.Lib
theorem trim_pos (l : List UInt8) (h : l.head? ≠ some 45) : trimPrefix l [45] = l := by
  cases l with
  | nil => simp [trimPrefix, hasPrefix]
  | cons c d =>
    have hc : c ≠ 45 := fun e => h (by rw [e]; rfl)
    simp [trimPrefix, hasPrefix]
    exact fun e => hc e.symm
theorem trim_neg (d : List UInt8) : trimPrefix (45 :: d) [45] = d := by simp [trimPrefix, hasPrefix]

theorem idx_eq (s : ByteArray) (k : Nat) (h : k < s.size) : s.data.toList[k]'(by rw [list_len]; exact h) = s[k] := rfl
theorem ref_bad (s : ByteArray) (k : Nat) (h : k < s.size) (ng : Bool) (hb : (s[k].toNat : Int) < 48 ∨ (57 : Int) < s[k].toNat) : numRes s.data.toList ng = .tuple #[.int .i64 0, .int .i64 1] :=
  numRes_bad k (by rw [list_len]; exact h) (by rw [idx_eq s k h]; simp [isDig]; omega) ng
theorem ref_step (s : ByteArray) (k : Nat) (h : k < s.size) (h18 : s.size ≤ 18) (hall : ∀ c ∈ s.data.toList.take k, isDig c = true) (h1 : (48 : Int) ≤ s[k].toNat) (h2 : (s[k].toNat : Int) ≤ 57) :
    wrap64 (wrap64 ((dv (s.data.toList.take k) : Int) * 10) + ((s[k].toNat : Int) - 48)) = dv (s.data.toList.take (k + 1)) ∧ ∀ c ∈ s.data.toList.take (k + 1), isDig c = true := by
  have hk : k < s.data.toList.length := by rw [list_len]; exact h
  have hb := dv_lt17 s.data.toList k hall (by omega)
  refine ⟨?_, take_all _ k hall hk (by rw [idx_eq s k h]; simp [isDig]; omega)⟩
  rw [dv_take _ k hk, idx_eq s k h]
  unfold wrap64
  omega
theorem ref_end (s : ByteArray) (k : Nat) (h : k = s.size) (h18 : s.size ≤ 18) (hall : ∀ c ∈ s.data.toList.take k, isDig c = true) (ng : Bool) :
    numRes s.data.toList ng = .tuple #[.int .i64 (if ng = true then -(dv (s.data.toList.take k) : Int) else dv (s.data.toList.take k)), .int .i64 0] ∧ (dv (s.data.toList.take k) : Int) < 1000000000000000000 := by
  have ht : s.data.toList.take k = s.data.toList := List.take_of_length_le (by rw [list_len]; omega)
  rw [ht] at hall ⊢
  have h1 := dv_lt _ hall
  have h2 : 10 ^ s.data.toList.length ≤ 10 ^ 18 := Nat.pow_le_pow_right (by decide) (by rw [list_len]; exact h18)
  have h4 : (10 : Nat) ^ 18 = 1000000000000000000 := by decide
  exact ⟨numRes_good hall ng, by omega⟩

set_option maxRecDepth 100000 in
set_option maxHeartbeats 1000000 in
theorem refNum_loop (s D : ByteArray) (ng : Bool) (w : World) (h1 : (1 : Int) ≤ D.size) (h2 : (D.size : Int) ≤ 18) (hs1 : (0 : Int) < s.size) (h3 : 0 < s.size) (hD3 : 0 < D.size)
    (h : (ng = false ∧ s = D ∧ ((D[0].toNat : Int) == 45) = false ∧ ((D[0].toNat : Int) == 48) = false) ∨ (ng = false ∧ s = D ∧ D[0].toNat = 48 ∧ (D.size : Int) ≤ 1) ∨
      (ng = true ∧ s[0].toNat = 45 ∧ s.extract 1 s.size = D ∧ ((D[0].toNat : Int) == 48) = false)) :
    Calls Try.prog 21 #[.string s] w fun e w' => e = .returned (numRes D.data.toList ng) ∧ w = w' := by
  have h18 : Hid (D.size ≤ 18) := by unfold Hid; omega
  have hex : Hid ((1 : Int) ≤ s.size) := by unfold Hid; omega
  rcases h with ⟨rfl, rfl, h4, h5⟩ | ⟨rfl, rfl, h4, h5⟩ | ⟨rfl, h4, h5, h6⟩
  · go_enter Try.func21, Try.ntmps21
    go_wp2
    go_loop [5, 6] (fun v kv => ∃ k : Nat, k ≤ s.size ∧ kv = .int .i64 k ∧ v = .int .i64 (dv (s.data.toList.take k)) ∧ ∀ c ∈ s.data.toList.take k, isDig c = true) (fun _ kv => s.size - (RowKit.intOf kv).toNat)
    case atStart => exact ⟨0, Nat.zero_le _, rfl, rfl, by simp⟩
    case round =>
      obtain ⟨k, hk, rfl, rfl, hall⟩ := hrel
      have Hall := hid hall; clear hall
      by_cases hlt : k < s.size
      · have hltI : (k : Int) < s.size := by omega
        clear h4 h5 h1 h2
        go_upto_region 10 with fail
        go_wp2
        · have hb : (s[k].toNat : Int) < 48 ∨ (57 : Int) < s[k].toNat := by assumption
          go_ret2
          exact ⟨by rw [ref_bad s k hlt false hb]; rfl, rfl⟩
        · have hb : (48 : Int) ≤ s[k].toNat ∧ (s[k].toNat : Int) ≤ 57 := by assumption
          have hst := ref_step s k hlt h18.out Hall.out hb.1 hb.2
          refine ⟨⟨k + 1, by omega, by go_num, by rw [hst.1], hst.2⟩, by simp [RowKit.intOf]; omega⟩
        · have hb : (s[k].toNat : Int) < 48 := by assumption
          go_ret2
          exact ⟨by rw [ref_bad s k hlt false (.inl hb)]; rfl, rfl⟩
      · have hend := hid (ref_end s k (by omega) h18.out Hall.out false)
        have hge : (s.size : Int) ≤ k := by omega
        clear h4 h5 h1 h2 hlt hk Hall
        go_wp2
        go_ret2
        exact ⟨by rw [hend.out.1]; rfl, rfl⟩
  · go_enter Try.func21, Try.ntmps21
    go_wp2
    go_loop [5, 6] (fun v kv => ∃ k : Nat, k ≤ s.size ∧ kv = .int .i64 k ∧ v = .int .i64 (dv (s.data.toList.take k)) ∧ ∀ c ∈ s.data.toList.take k, isDig c = true) (fun _ kv => s.size - (RowKit.intOf kv).toNat)
    case atStart => exact ⟨0, Nat.zero_le _, rfl, rfl, by simp⟩
    case round =>
      obtain ⟨k, hk, rfl, rfl, hall⟩ := hrel
      have Hall := hid hall; clear hall
      by_cases hlt : k < s.size
      · have hltI : (k : Int) < s.size := by omega
        clear h4 h5 h1 h2
        go_upto_region 10 with fail
        go_wp2
        · have hb : (s[k].toNat : Int) < 48 ∨ (57 : Int) < s[k].toNat := by assumption
          go_ret2
          exact ⟨by rw [ref_bad s k hlt false hb]; rfl, rfl⟩
        · have hb : (48 : Int) ≤ s[k].toNat ∧ (s[k].toNat : Int) ≤ 57 := by assumption
          have hst := ref_step s k hlt h18.out Hall.out hb.1 hb.2
          refine ⟨⟨k + 1, by omega, by go_num, by rw [hst.1], hst.2⟩, by simp [RowKit.intOf]; omega⟩
        · have hb : (s[k].toNat : Int) < 48 := by assumption
          go_ret2
          exact ⟨by rw [ref_bad s k hlt false (.inl hb)]; rfl, rfl⟩
      · have hend := hid (ref_end s k (by omega) h18.out Hall.out false)
        have hge : (s.size : Int) ≤ k := by omega
        clear h4 h5 h1 h2 hlt hk Hall
        go_wp2
        go_ret2
        exact ⟨by rw [hend.out.1]; rfl, rfl⟩
  · go_enter Try.func21, Try.ntmps21
    go_wp2
    go_loop [5, 6] (fun v kv => ∃ k : Nat, k ≤ D.size ∧ kv = .int .i64 k ∧ v = .int .i64 (dv (D.data.toList.take k)) ∧ ∀ c ∈ D.data.toList.take k, isDig c = true) (fun _ kv => D.size - (RowKit.intOf kv).toNat)
    case atStart => exact ⟨0, Nat.zero_le _, rfl, rfl, by simp⟩
    case round =>
      obtain ⟨k, hk, rfl, rfl, hall⟩ := hrel
      have Hall := hid hall; clear hall
      by_cases hlt : k < D.size
      · have hltI : (k : Int) < D.size := by omega
        clear h4 h6 h1 h2
        go_upto_region 10 with fail
        go_wp2
        · have hb : (D[k].toNat : Int) < 48 ∨ (57 : Int) < D[k].toNat := by assumption
          go_ret2
          exact ⟨by rw [ref_bad D k hlt true hb]; rfl, rfl⟩
        · have hb : (48 : Int) ≤ D[k].toNat ∧ (D[k].toNat : Int) ≤ 57 := by assumption
          have hst := ref_step D k hlt h18.out Hall.out hb.1 hb.2
          refine ⟨⟨k + 1, by omega, by go_num, by rw [hst.1], hst.2⟩, by simp [RowKit.intOf]; omega⟩
        · have hb : (D[k].toNat : Int) < 48 := by assumption
          go_ret2
          exact ⟨by rw [ref_bad D k hlt true (.inl hb)]; rfl, rfl⟩
      · have hend := hid (ref_end D k (by omega) h18.out Hall.out true)
        have hw := hid (show wrap64 (-(dv (D.data.toList.take k) : Int)) = -(dv (D.data.toList.take k) : Int) by have := hend.out.2; unfold wrap64; omega)
        have hge : (D.size : Int) ≤ k := by omega
        clear h4 h6 h1 h2 hlt hk Hall
        go_wp2
        go_ret2
        exact ⟨by rw [hend.out.1, if_pos trivial, hw.out]; rfl, rfl⟩

theorem refNum_bad (s D : ByteArray) (w : World) (h : (s.size : Int) < 1 ∨ (∃ h3 : 0 < s.size, (0 : Int) < s.size ∧ ((s[0].toNat : Int) == 45) = false ∧ (1 : Int) ≤ s.size ∧ (18 : Int) < s.size) ∨
      (∃ h3 : 0 < s.size, (0 : Int) < s.size ∧ s[0].toNat = 48 ∧ (1 : Int) ≤ s.size ∧ (s.size : Int) ≤ 18 ∧ (1 : Int) < s.size) ∨
      (∃ h3 : 0 < s.size, (0 : Int) < s.size ∧ (1 : Int) ≤ s.size ∧ s[0].toNat = 45 ∧ s.extract 1 s.size = D ∧ (D.size : Int) < 1) ∨
      (∃ h3 : 0 < s.size, (0 : Int) < s.size ∧ (1 : Int) ≤ s.size ∧ s[0].toNat = 45 ∧ s.extract 1 s.size = D ∧ (1 : Int) ≤ D.size ∧ (18 : Int) < D.size) ∨
      (∃ h3 : 0 < s.size, (0 : Int) < s.size ∧ (1 : Int) ≤ s.size ∧ s[0].toNat = 45 ∧ s.extract 1 s.size = D ∧ (1 : Int) ≤ D.size ∧ (D.size : Int) ≤ 18 ∧ ∃ h4 : 0 < D.size, D[0].toNat = 48)) :
    Calls Try.prog 21 #[.string s] w fun e w' => e = .returned (.tuple #[.int .i64 0, .int .i64 1]) ∧ w = w' := by
  rcases h with h1 | ⟨h3, h4, h5, h6, h7⟩ | ⟨h3, h4, h5, h6, h7, h8⟩ | ⟨h3, h4, h8, h5, h6, h7⟩ | ⟨h3, h4, h8, h5, h6, h7, h9⟩ | ⟨h3, h4, h8, h5, h6, h7, h9, h10, h11⟩
  all_goals
    go_enter Try.func21, Try.ntmps21
    go_wp2
    all_goals (go_ret2; exact ⟨rfl, rfl⟩)

theorem refNumber_any (s : ByteArray) (w : World) :
    Calls Try.prog 21 #[.string s] w fun e w' => e = .returned (numSpec s.data.toList) ∧ w = w' := by
  have hsl := list_len s
  by_cases h3 : 0 < s.size
  · have hh : s.data.toList.head? = some s[0] := by
      rw [List.head?_eq_getElem?, List.getElem?_eq_getElem (by rw [list_len]; exact h3)]
      rfl
    have hch : ∀ (c : UInt8) (n : UInt8), (c = n) ↔ c.toNat = n.toNat := fun c n => UInt8.toNat_inj.symm
    by_cases h45 : s[0].toNat = 45
    · obtain ⟨D, hD⟩ : ∃ D, s.extract 1 s.size = D := ⟨_, rfl⟩
      have hc : s[0] = 45 := (hch _ _).2 h45
      have hl : s.data.toList = 45 :: D.data.toList := by
        have hd : D.data.toList = s.data.toList.drop 1 := by
          rw [← hD, extract_data, List.take_of_length_le (by simp)]
        rw [hd]
        cases hs : s.data.toList with
        | nil => rw [hs] at hsl; simp at hsl; omega
        | cons a l =>
          rw [hs] at hh
          simp only [List.head?_cons, Option.some.injEq] at hh
          simp [hh, hc]
      have hDl := list_len D
      have hsz : s.size = D.size + 1 := by rw [← list_len s, hl, List.length_cons, list_len]
      have hne : s.data.toList ≠ [48] := by rw [hl]; simp
      unfold numSpec
      rw [hl, trim_neg, hDl]
      by_cases h0 : D.size < 1
      · rw [if_pos (.inl h0)]
        exact refNum_bad s D w (.inr (.inr (.inr (.inl ⟨h3, by omega, by omega, h45, hD, by omega⟩))))
      · by_cases h18 : 18 < D.size
        · rw [if_pos (.inr (.inl h18))]
          exact refNum_bad s D w (.inr (.inr (.inr (.inr (.inl ⟨h3, by omega, by omega, h45, hD, by omega, by omega⟩)))))
        · have h4 : 0 < D.size := by omega
          have hhD : D.data.toList.head? = some D[0] := by
            rw [List.head?_eq_getElem?, List.getElem?_eq_getElem (by rw [list_len]; exact h4)]
            rfl
          rw [hhD]
          by_cases h48 : D[0].toNat = 48
          · rw [if_pos (.inr (.inr ⟨by rw [(hch _ 48).2 h48], by simp⟩))]
            exact refNum_bad s D w (.inr (.inr (.inr (.inr (.inr ⟨h3, by omega, by omega, h45, hD, by omega, by omega, h4, h48⟩)))))
          · rw [if_neg, show decide (D.size < (45 :: D.data.toList).length) = true by simp]
            · exact refNum_loop s D true w (by omega) (by omega) (by omega) h3 h4 (.inr (.inr ⟨rfl, h45, hD, by simp; omega⟩))
            · rintro (h | h | ⟨h, _⟩)
              · exact h0 h
              · exact h18 h
              · exact h48 ((hch _ 48).1 (Option.some.inj h))
    · have ht : trimPrefix s.data.toList [45] = s.data.toList := trim_pos _ (by rw [hh]; intro e; exact h45 ((hch _ 45).1 (Option.some.inj e)))
      unfold numSpec
      rw [ht, hsl, hh]
      by_cases h18 : 18 < s.size
      · rw [if_pos (.inr (.inl h18))]
        exact refNum_bad s s w (.inr (.inl ⟨h3, by omega, by simp; omega, by omega, by omega⟩))
      · rw [show decide (s.size < s.size) = false by simp]
        by_cases h48 : s[0].toNat = 48
        · by_cases h1 : 1 < s.size
          · rw [if_pos (.inr (.inr ⟨by rw [(hch _ 48).2 h48], fun e => by rw [e] at hsl; simp at hsl; omega⟩))]
            exact refNum_bad s s w (.inr (.inr (.inl ⟨h3, by omega, h48, by omega, by omega, by omega⟩)))
          · rw [if_neg]
            · exact refNum_loop s s false w (by omega) (by omega) (by omega) h3 h3 (.inr (.inl ⟨rfl, rfl, h48, by omega⟩))
            · rintro (h | h | ⟨_, h⟩)
              · omega
              · exact h18 h
              · apply h
                cases hs : s.data.toList with
                | nil => rw [hs] at hsl; simp at hsl; omega
                | cons a l =>
                  rw [hs] at hh hsl
                  simp only [List.head?_cons, Option.some.injEq] at hh
                  simp only [List.length_cons] at hsl
                  rw [hh, (hch _ 48).2 h48, List.eq_nil_of_length_eq_zero (show l.length = 0 by omega)]
        · rw [if_neg]
          · exact refNum_loop s s false w (by omega) (by omega) (by omega) h3 h3 (.inl ⟨rfl, rfl, by simp; omega, by simp; omega⟩)
          · rintro (h | h | ⟨h, _⟩)
            · omega
            · exact h18 h
            · exact h48 ((hch _ 48).1 (Option.some.inj h))
  · have hs : s.data.toList = [] := List.eq_nil_of_length_eq_zero (by omega)
    unfold numSpec
    rw [hs, trim_pos _ (by simp), if_pos (.inl (by simp))]
    exact refNum_bad s s w (.inl (by omega))
end Go.Proofs.Ytmgglmoiepjebaa
