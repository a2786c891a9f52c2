/- What codec.Number returns, and what the laws' own answer does. -/
import Derived.Test.YtmgglmoiepjebaaInb
namespace Go.Proofs.Ytmgglmoiepjebaa
set_option maxRecDepth 100000
open Go.RowKit Go.Lib

def isDig (c : UInt8) : Bool := decide (48 ≤ c.toNat) && decide (c.toNat ≤ 57)
/-- The number that digits tell. -/
def dv (l : List UInt8) : Nat := l.foldl (fun v c => v * 10 + (c.toNat - 48)) 0
theorem dv_snoc (l : List UInt8) (c : UInt8) : dv (l ++ [c]) = dv l * 10 + (c.toNat - 48) := by simp [dv]
theorem dv_take (l : List UInt8) (k : Nat) (h : k < l.length) : dv (l.take (k + 1)) = dv (l.take k) * 10 + (l[k].toNat - 48) := by
  rw [List.take_succ_eq_append_getElem h, dv_snoc]
theorem dv_lt_aux : ∀ (l : List UInt8) (a : Nat), (∀ c ∈ l, isDig c = true) → l.foldl (fun v c => v * 10 + (c.toNat - 48)) a < (a + 1) * 10 ^ l.length
  | [], a, _ => by simp
  | c :: l, a, hd => by
    have h := dv_lt_aux l (a * 10 + (c.toNat - 48)) (fun x hx => hd x (by simp [hx]))
    have hc : c.toNat - 48 ≤ 9 := by
      have := hd c (by simp)
      simp [isDig] at this
      omega
    simp only [List.foldl_cons, List.length_cons]
    refine Nat.lt_of_lt_of_le h ?_
    rw [Nat.pow_succ, Nat.mul_comm (10 ^ l.length) 10, ← Nat.mul_assoc]
    exact Nat.mul_le_mul_right _ (by omega)
theorem dv_lt (l : List UInt8) (hd : ∀ c ∈ l, isDig c = true) : dv l < 10 ^ l.length := by simpa [dv] using dv_lt_aux l 0 hd
theorem dv_lt17 (l : List UInt8) (k : Nat) (hd : ∀ c ∈ l.take k, isDig c = true) (hk : k ≤ 17) : dv (l.take k) < 100000000000000000 := by
  have h1 := dv_lt (l.take k) hd
  have h2 : (l.take k).length ≤ 17 := by rw [List.length_take]; omega
  have h3 : 10 ^ (l.take k).length ≤ 10 ^ 17 := Nat.pow_le_pow_right (by decide) h2
  have h4 : (10 : Nat) ^ 17 = 100000000000000000 := by decide
  omega

/-- Digits, with a sign or without: the number, or ErrArg. -/
def numRes (d : List UInt8) (neg : Bool) : Value := if (∀ c ∈ d, isDig c = true) then .tuple #[.int .i64 (if neg = true then -(dv d : Int) else dv d), .int .i64 0] else .tuple #[.int .i64 0, .int .i64 1]
theorem numRes_bad {d : List UInt8} (k : Nat) (hk : k < d.length) (h : isDig d[k] = false) (neg : Bool) : numRes d neg = .tuple #[.int .i64 0, .int .i64 1] := by
  unfold numRes
  rw [if_neg]
  intro hall
  have := hall d[k] (List.getElem_mem hk)
  rw [h] at this
  cases this
theorem numRes_good {d : List UInt8} (h : ∀ c ∈ d, isDig c = true) (neg : Bool) : numRes d neg = .tuple #[.int .i64 (if neg = true then -(dv d : Int) else dv d), .int .i64 0] := by
  unfold numRes; rw [if_pos h]
theorem take_all (d : List UInt8) (k : Nat) (h : ∀ c ∈ d.take k, isDig c = true) (hk : k < d.length) (hc : isDig d[k] = true) : ∀ c ∈ d.take (k + 1), isDig c = true := by
  rw [List.take_succ_eq_append_getElem hk]
  intro c hc'
  simp only [List.mem_append, List.mem_singleton] at hc'
  rcases hc' with h1 | rfl
  · exact h c h1
  · exact hc

set_option maxRecDepth 100000 in
set_option maxHeartbeats 1000000 in
theorem num_loop (s D : ByteArray) (ng : Bool) (w : World) (hng : Hid (ng = decide (D.size < s.size))) (h1 : (1 : Int) ≤ D.size) (h2 : (D.size : Int) ≤ 18) (hd : (⟨(trimPrefix s.data.toList [45]).toArray⟩ : ByteArray) = D) (hle : D.size ≤ s.size) (hsz : s.size ≤ 9223372036854775807)
    (h3 : 0 < D.size) (h0 : ((D[0].toNat : Int) == 48) = false ∨ (D[0].toNat = 48 ∧ (!s.toList == [48]) = false)) :
    Calls Try.prog 44 #[.string s] w fun e w' => e = .returned (numRes D.data.toList ng) ∧ Touch [] w w' := by
  have C := hid (Try.strings_TrimPrefix s ⟨#[45]⟩ w)
  rw [show (⟨#[45]⟩ : ByteArray).data.toList = [45] from rfl, hd] at C
  clear hd
  obtain ⟨l, hl⟩ : ∃ l, l = D.data.toList := ⟨_, rfl⟩
  have hll : l.length = D.size := by rw [hl, list_len]
  rw [← hl]
  obtain ⟨cf, Wf, HW, hconv⟩ : ∃ (cf : World → Nat) (Wf : World → World), Hid (∀ w1, Wf w1 = bytesWorld w1 5 D) ∧ ∀ w1, (convert 9 73 (.string D)).run Try.prog w1 = .ok (.slice (some ⟨w1.heap.size, 0, none⟩) D.size (cf w1)) (Wf w1) :=
    ⟨_, _, fun _ => rfl, fun w1 => Go.Lib.run_convert_string_bytes (P := Try.prog) w1 9 73 5 D rfl rfl rfl⟩
  have hcell := hid (fun (w1 : World) (k : Nat) (hk : k < l.length) => show (Wf w1).cell? ⟨w1.heap.size, k, none⟩ = some (.int .u8 (l[k].toNat : Int)) by
    rw [HW.out, bytesWorld_cell _ _ _ _ (by omega)]
    subst hl
    rw [show D.data.toList.getD k 0 = D.data.toList[k] from by rw [List.getD_eq_getElem?_getD, List.getElem?_eq_getElem hk]; rfl])
  have hT : Hid (∀ w1 : World, Touch [] w1 (Wf w1)) := fun w1 => by rw [HW.out]; exact touch_bytes _ _ _
  have hsl : Hid ((s.size : Int) ≤ 9223372036854775807) := by unfold Hid; omega
  have Hle : Hid ((D.size : Int) ≤ s.size) := by unfold Hid; omega
  have Hll := hid hll
  clear hl hll hsz hle
  rcases h0 with h0 | ⟨h0, h0'⟩
  all_goals
    go_enter Try.func44, Try.ntmps44
    go_wp2_with (go_at_call 51; refine C.out.mono ?_; rintro e w1 ⟨rfl, rfl⟩)
    go_loop [5, 7, 30] (fun v _ kv => ∃ k : Nat, k ≤ D.size ∧ kv = .int .i64 k ∧ v = .int .i64 (dv (l.take k)) ∧ ∀ c ∈ l.take k, isDig c = true) (fun _ _ kv => D.size - (RowKit.intOf kv).toNat)
    case atStart => exact ⟨0, Nat.zero_le _, rfl, rfl, by simp⟩
    case round =>
      obtain ⟨k, hk, rfl, rfl, hall⟩ := hrel
      have Hall := hid hall; clear hall
      try clear h0'
      clear h0
      by_cases hlt : k < D.size
      · have hkl : k < l.length := by have := Hll.out; omega
        have hc := hcell.out w1 k hkl
        have hltI : (k : Int) < D.size := by omega
        have hdv := dv_lt17 l k Hall.out (by omega)
        have hb1 : (0 : Int) ≤ dv (l.take k) := by omega
        have hb2 : (dv (l.take k) : Int) < 100000000000000000 := by omega
        have hu := l[k].toNat_lt
        have hbad : Hid (l[k].toNat < 48 ∨ 57 < l[k].toNat → numRes l ng = .tuple #[.int .i64 0, .int .i64 1]) := fun h => numRes_bad k hkl (show isDig l[k] = false by simp [isDig]; omega) _
        have hgood : Hid (48 ≤ l[k].toNat → l[k].toNat ≤ 57 → (∀ c ∈ l.take (k + 1), isDig c = true) ∧ ((dv (l.take (k + 1)) : Nat) : Int) = (dv (l.take k) : Int) * 10 + ((l[k].toNat : Int) - 48)) := fun h1 h2 =>
          ⟨take_all l k Hall.out hkl (by simp [isDig]; omega), by rw [dv_take l k hkl]; omega⟩
        generalize l[k].toNat = c at *
        generalize dv (l.take k) = V at *
        have hu2 : (c : Int) < 256 := by omega
        have hu3 : (0 : Int) ≤ c := by omega
        clear hdv hkl
        by_cases hlo : c < 48
        · have hr := hid (hbad.out (.inl hlo))
          have q1 : (c : Int) < 48 := by omega
          go_wp2
          go_ret2
          exact ⟨by rw [hr.out]; rfl, hT.out w1⟩
        · by_cases hhi : 57 < c
          · have hr := hid (hbad.out (.inr hhi))
            have q1 : (48 : Int) ≤ c := by omega
            have q2 : (57 : Int) < c := by omega
            go_wp2
            go_ret2
            exact ⟨by rw [hr.out]; rfl, hT.out w1⟩
          · have hta := hid (hgood.out (by omega) (by omega))
            have q1 : (48 : Int) ≤ c := by omega
            have q2 : (c : Int) ≤ 57 := by omega
            have t1 : decide ((c : Int) < 48) = false := by simp; omega
            have t2 : decide ((57 : Int) < c) = false := by simp; omega
            have Q1 := hid q1; have Q2 := hid q2
            clear hu hlo hhi hu2 hu3 q1 q2
            go_upto_region 10 with fail
            have q1 := Q1.out; have q2 := Q2.out
            clear Q1 Q2 t1 t2
            go_wp2
            go_round
            case rel => exact ⟨k + 1, by omega, by go_num, by rw [hta.out.2]; go_num, hta.out.1⟩
            case measure => simp [RowKit.intOf]; omega
      · obtain rfl : k = D.size := by omega
        have hwhole := hid (show l.take D.size = l from List.take_of_length_le (by have := Hll.out; omega))
        have hr := hid (numRes_good (d := l) (by have := Hall.out; rw [hwhole.out] at this; exact this) ng)
        have hV := dv_lt l (by have := Hall.out; rw [hwhole.out] at this; exact this)
        have hV2 : 10 ^ l.length ≤ 10 ^ 18 := Nat.pow_le_pow_right (by decide) (by have := Hll.out; omega)
        have hV3 : (10 : Nat) ^ 18 = 1000000000000000000 := by decide
        have hb1 : (0 : Int) ≤ dv l := by omega
        have hb2 : (dv l : Int) < 1000000000000000000 := by omega
        rw [hwhole.out]
        clear hV hV2 hV3 Hall hwhole hlt hk
        generalize dv l = V at *
        by_cases hneg : D.size < s.size
        · have q1 : (D.size : Int) < s.size := by omega
          have Hn := hid hneg; clear hneg
          go_wp2
          go_ret2
          exact ⟨by rw [hr.out, if_pos (by rw [hng.out]; simpa using Hn.out)]; rfl, hT.out w1⟩
        · have q1 : decide ((D.size : Int) < s.size) = false := by simp; omega
          have Hn := hid hneg; clear hneg
          go_upto_region 12 with fail
          clear h1 h2 hb1 hb2
          go_upto_region 14 with fail
          clear q1
          go_wp2
          go_ret2
          exact ⟨by rw [hr.out, if_neg (by rw [hng.out]; simpa using Hn.out)]; rfl, hT.out w1⟩

/-- What Number tells. -/
def numSpec (l : List UInt8) : Value :=
  if (trimPrefix l [45]).length < 1 ∨ 18 < (trimPrefix l [45]).length ∨ ((trimPrefix l [45]).head? = some 48 ∧ l ≠ [48]) then .tuple #[.int .i64 0, .int .i64 1]
  else numRes (trimPrefix l [45]) (decide ((trimPrefix l [45]).length < l.length))

theorem num_bad (s D : ByteArray) (w : World) (hd : (⟨(trimPrefix s.data.toList [45]).toArray⟩ : ByteArray) = D)
    (h : (D.size : Int) < 1 ∨ ((1 : Int) ≤ D.size ∧ (18 : Int) < D.size) ∨ ((1 : Int) ≤ D.size ∧ (D.size : Int) ≤ 18 ∧ ∃ h : 0 < D.size, D[0].toNat = 48 ∧ (!s.toList == [48]) = true)) :
    Calls Try.prog 44 #[.string s] w fun e w' => e = .returned (.tuple #[.int .i64 0, .int .i64 1]) ∧ Touch [] w w' := by
  have C := hid (Try.strings_TrimPrefix s ⟨#[45]⟩ w)
  rw [show (⟨#[45]⟩ : ByteArray).data.toList = [45] from rfl, hd] at C
  clear hd
  rcases h with h1 | ⟨h1, h2⟩ | ⟨h1, h2, h3, h4, h5⟩
  all_goals
    go_enter Try.func44, Try.ntmps44
    go_wp2_with (go_at_call 51; refine C.out.mono ?_; rintro e w1 ⟨rfl, rfl⟩)
    go_ret2
    exact ⟨rfl, Touch.refl _ _⟩

theorem number_any (s : ByteArray) (w : World) (hsz : s.size ≤ 9223372036854775807) :
    Calls Try.prog 44 #[.string s] w fun e w' => e = .returned (numSpec s.data.toList) ∧ Touch [] w w' := by
  obtain ⟨D, hd⟩ : ∃ D : ByteArray, (⟨(trimPrefix s.data.toList [45]).toArray⟩ : ByteArray) = D := ⟨_, rfl⟩
  have hdl : trimPrefix s.data.toList [45] = D.data.toList := by rw [← hd]
  have hlen : (trimPrefix s.data.toList [45]).length = D.size := by rw [hdl, list_len]
  have hle := trimPrefix_le s.data.toList [45]
  have hsl := list_len s
  unfold numSpec
  rw [hlen, hsl]
  by_cases h0 : D.size < 1
  · rw [if_pos (.inl h0)]
    exact num_bad s D w hd (.inl (by omega))
  · by_cases h1 : 18 < D.size
    · rw [if_pos (.inr (.inl h1))]
      exact num_bad s D w hd (.inr (.inl ⟨by omega, by omega⟩))
    · have h3 : 0 < D.size := by omega
      have hh : (trimPrefix s.data.toList [45]).head? = some D[0] := by
        rw [hdl, List.head?_eq_getElem?, List.getElem?_eq_getElem (by rw [list_len]; exact h3)]
        rfl
      have h48 : (D[0] = 48) ↔ D[0].toNat = 48 := by
        constructor
        · intro h; rw [h]; rfl
        · intro h; exact UInt8.toNat_inj.1 h
      rw [hh]
      by_cases hz : D[0].toNat = 48 ∧ (!s.toList == [48]) = true
      · rw [if_pos (.inr (.inr ⟨by rw [h48.2 hz.1], fun e => by have := hz.2; rw [ByteArray.toList_eq, e] at this; simp at this⟩))]
        exact num_bad s D w hd (.inr (.inr ⟨by omega, by omega, h3, hz⟩))
      · rw [if_neg]
        · rw [hdl]
          refine num_loop s D _ w rfl (by omega) (by omega) hd (by omega) hsz h3 ?_
          by_cases ha : D[0].toNat = 48
          · exact .inr ⟨ha, by by_cases hq : (!s.toList == [48]) = true; exact absurd ⟨ha, hq⟩ hz; simpa using hq⟩
          · exact .inl (by simp; omega)
        · rintro (h | h | ⟨h, h'⟩)
          · exact h0 h
          · exact h1 h
          · refine hz ⟨h48.1 (Option.some.inj h), ?_⟩
            rw [ByteArray.toList_eq]
            simpa using h'
end Go.Proofs.Ytmgglmoiepjebaa
