/- What may be a name, as plain lists; what name.Stream, Type, System and the laws' own Stream, System tell. -/
import Derived.Test.YtmgglmoiepjebaaNumber
import Derived.Lib.IndexLaws
import Derived.IntWalk
namespace Go.Proofs.Ytmgglmoiepjebaa
set_option maxRecDepth 100000
open Go.RowKit Go.Lib

/-- A byte of a name. -/
def okB (c : UInt8) : Bool := decide (33 ≤ c.toNat) && decide (c.toNat ≤ 126) && decide (c.toNat ≠ 64)
/-- May it be a stream's name? -/
def strm (l : List UInt8) : Bool := decide (1 ≤ l.length) && decide (l.length ≤ 60) && l.all okB
/-- Is it a system's? -/
def sysB (l : List UInt8) : Bool := l.head? == some 36

theorem strm_short {l : List UInt8} (h : l.length < 1) : strm l = false := by simp [strm]; omega
theorem strm_long {l : List UInt8} (h : 60 < l.length) : strm l = false := by simp [strm]; omega
theorem strm_bad {l : List UInt8} {k : Nat} (hk : k < l.length) (h : okB l[k] = false) : strm l = false := by
  have : l.all okB = false := by
    rw [Bool.eq_false_iff]
    intro e
    have := List.all_eq_true.1 e l[k] (List.getElem_mem hk)
    rw [h] at this
    cases this
  simp [strm, this]
theorem strm_good {l : List UInt8} (h1 : 1 ≤ l.length) (h2 : l.length ≤ 60) (h : ∀ c ∈ l.take l.length, okB c = true) : strm l = true := by
  rw [List.take_length] at h
  simp only [strm, Bool.and_eq_true, decide_eq_true_eq, List.all_eq_true]
  exact ⟨⟨h1, h2⟩, h⟩
theorem strm_iff {l : List UInt8} : strm l = true ↔ 1 ≤ l.length ∧ l.length ≤ 60 ∧ ∀ c ∈ l, okB c = true := by
  simp only [strm, Bool.and_eq_true, decide_eq_true_eq, List.all_eq_true, and_assoc]
theorem take_ok (l : List UInt8) (k : Nat) (h : ∀ c ∈ l.take k, okB c = true) (hk : k < l.length) (hd : okB l[k] = true) : ∀ c ∈ l.take (k + 1), okB c = true := by
  intro c hc
  rw [List.take_succ_eq_append_getElem hk, List.mem_append] at hc
  rcases hc with hc | hc
  · exact h c hc
  · rw [List.mem_singleton.1 hc]; exact hd
theorem ok_at {c : UInt8} (h1 : 33 ≤ c.toNat) (h2 : c.toNat ≤ 126) (h3 : c.toNat ≠ 64) : okB c = true := by simp [okB, h1, h2, h3]
theorem bad_at {c : UInt8} (h : c.toNat < 33 ∨ 126 < c.toNat ∨ c.toNat = 64) : okB c = false := by
  rcases h with h | h | h
  · simp [okB]; omega
  · simp [okB]; omega
  · simp [okB, h]

theorem index_neg {l : List UInt8} {c : UInt8} : indexByte l c < 0 → c ∉ l := by
  induction l with
  | nil => intro _; simp
  | cons b l ih =>
    intro h
    unfold indexByte at h
    by_cases hb : (b == c) = true
    · rw [hb] at h; simp at h
    · have hb2 : (b == c) = false := by simpa using hb
      have hne : ¬ (c = b) := fun e => by rw [e] at hb2; simp at hb2
      rw [hb2] at h
      have hl : indexByte l c < 0 := by
        by_cases h0 : indexByte l c < 0
        · exact h0
        · have : ¬ (indexByte l c = -1) := by omega
          rw [if_neg (by simp), if_neg (by simpa using this)] at h
          omega
      simp only [List.mem_cons, not_or]
      exact ⟨hne, ih hl⟩
theorem index_pos {l : List UInt8} {c : UInt8} (h : 0 ≤ indexByte l c) : c ∈ l := by
  induction l with
  | nil => simp [indexByte] at h
  | cons b l ih =>
    unfold indexByte at h
    by_cases hb : (b == c) = true
    · simp only [List.mem_cons]; left; simpa using (eq_of_beq hb).symm
    · have hb2 : (b == c) = false := by simpa using hb
      rw [hb2] at h
      simp only [List.mem_cons]
      right
      apply ih
      rw [if_neg (by simp)] at h
      by_cases hm : indexByte l c = -1
      · rw [if_pos (by simpa using hm)] at h; omega
      · rw [if_neg (by simpa using hm)] at h; omega

/-! ### System -/
/-! ### The laws' own Stream -/
set_option maxRecDepth 100000 in
theorem refStm_any (s : ByteArray) (w : World) : Calls Try.prog 22 #[.string s] w fun e w' => e = .returned (.bool (strm s.data.toList)) ∧ w = w' := by
  have hsl := list_len s
  by_cases h1 : s.size < 1
  · have hb := hid (strm_short (l := s.data.toList) (by omega))
    have h2 : (s.size : Int) < 1 := by omega
    rw [hb.out]
    clear hb h1 hsl
    go_enter Try.func22, Try.ntmps22
    go_wp2
    go_ret
    exact ⟨rfl, rfl⟩
  by_cases h60 : 60 < s.size
  · have hb := hid (strm_long (l := s.data.toList) (by omega))
    have h2 : (1 : Int) ≤ s.size := by omega
    have h3 : (60 : Int) < s.size := by omega
    rw [hb.out]
    clear hb h1 hsl h60
    go_enter Try.func22, Try.ntmps22
    go_wp2
    go_ret
    exact ⟨rfl, rfl⟩
  have h2 : (1 : Int) ≤ s.size := by omega
  have h3 : (s.size : Int) ≤ 60 := by omega
  have hpos : 1 ≤ s.size := by omega
  have Hsl := hid hsl
  clear h1 h60 hsl
  go_enter Try.func22, Try.ntmps22
  go_wp2
  go_loop [3] (fun kv => ∃ k : Nat, k ≤ s.size ∧ kv = .int .i64 k ∧ ∀ c ∈ s.data.toList.take k, okB c = true) (fun kv => s.size - (RowKit.intOf kv).toNat)
  case atStart => exact ⟨0, Nat.zero_le _, rfl, by simp⟩
  case round =>
    obtain ⟨k, hk, rfl, hall⟩ := hrel
    have Hall := hid hall; clear hall
    by_cases hlt : k < s.size
    · have hltI : (k : Int) < s.size := by omega
      have hbad : Hid ((s[k].toNat : Int) < 33 ∨ (126 : Int) < s[k].toNat ∨ (s[k].toNat : Int) = 64 → strm s.data.toList = false) := fun h =>
        strm_bad (k := k) (by rw [list_len]; exact hlt) (bad_at (by show s[k].toNat < 33 ∨ 126 < s[k].toNat ∨ s[k].toNat = 64; omega))
      have hgood : Hid ((33 : Int) ≤ s[k].toNat → (s[k].toNat : Int) ≤ 126 → (s[k].toNat : Int) ≠ 64 → ∀ c ∈ s.data.toList.take (k + 1), okB c = true) := fun a b c =>
        take_ok _ k Hall.out (by rw [list_len]; exact hlt) (ok_at (c := s[k]) (by omega) (by omega) (by omega))
      clear h2 h3
      go_upto_region 6 with fail
      by_cases q1 : (s[k].toNat : Int) < 33
      · have hb := hid (hbad.out (.inl q1))
        clear hgood hbad
        go_wp2
        go_ret
        exact ⟨by rw [hb.out]; rfl, rfl⟩
      · by_cases q2 : (126 : Int) < s[k].toNat
        · have hb := hid (hbad.out (.inr (.inl q2)))
          have q3 : (33 : Int) ≤ s[k].toNat := by omega
          clear hgood hbad q1
          go_wp2
          go_ret
          exact ⟨by rw [hb.out]; rfl, rfl⟩
        · by_cases q5 : (s[k].toNat : Int) = 64
          · have hb := hid (hbad.out (.inr (.inr q5)))
            have q3 : (33 : Int) ≤ s[k].toNat := by omega
            have q4 : (s[k].toNat : Int) ≤ 126 := by omega
            have q6 : ((s[k].toNat : Int) == 64) = true := by simpa using q5
            clear hgood hbad q1 q2 q5
            go_wp2
            go_ret
            exact ⟨by rw [hb.out]; rfl, rfl⟩
          · have q3 : (33 : Int) ≤ s[k].toNat := by omega
            have q4 : (s[k].toNat : Int) ≤ 126 := by omega
            have q6 : ((s[k].toNat : Int) == 64) = false := by simpa using q5
            have hg := hid (hgood.out q3 q4 q5)
            clear hgood hbad q1 q2 q5
            go_wp2
            go_round
            case rel => exact ⟨k + 1, by omega, by go_num, hg.out⟩
            case measure => simp [RowKit.intOf]; omega
    · obtain rfl : k = s.size := by omega
      have hb := hid (strm_good (l := s.data.toList) (by have := Hsl.out; omega) (by have := Hsl.out; omega) (by rw [Hsl.out]; exact Hall.out))
      have q1 : ¬ ((s.size : Int) < s.size) := by omega
      clear Hall h2 h3 hlt
      go_wp2
      go_ret
      exact ⟨by rw [hb.out]; rfl, rfl⟩

/-! ### name.Stream, name.Type -/
theorem contains_at (s : ByteArray) (w : World) : Calls Try.prog 58 #[.string s, .string ⟨#[64]⟩] w fun e w' => e = .returned (.bool (decide (64 ∈ s.data.toList))) ∧ w = w' := by
  refine (Try.strings_Contains_one s 64 w).mono ?_
  rintro e w' ⟨rfl, rfl⟩
  refine ⟨?_, rfl⟩
  congr 2
  rw [decide_eq_decide]
  exact ⟨index_pos, fun h => by
    by_cases h0 : indexByte s.data.toList 64 < 0
    · exact absurd h (index_neg h0)
    · omega⟩

theorem named_false (s : ByteArray) (w : World) (h : s.size < 1 ∨ (1 ≤ s.size ∧ 60 < s.size) ∨ (1 ≤ s.size ∧ s.size ≤ 60 ∧ 64 ∈ s.data.toList)) :
    Calls Try.prog 52 #[.string s] w fun e w' => e = .returned (.bool false) ∧ Touch [] w w' := by
  have hsl := list_len s
  have C := hid (contains_at s w)
  rcases h with h | ⟨h1, h2⟩ | ⟨h1, h2, h3⟩
  · have hs : s.data.toList = [] := List.eq_nil_of_length_eq_zero (by omega)
    have he : (s.toList == []) = true := by rw [ByteArray.toList_eq, hs]; rfl
    clear hs hsl h
    go_enter Try.func52, Try.ntmps52
    go_wp2
    go_ret
    exact ⟨rfl, Touch.refl _ _⟩
  · have he : (s.toList == []) = false := by rw [ByteArray.toList_eq]; rw [Bool.eq_false_iff]; intro e; rw [eq_of_beq e] at hsl; simp at hsl; omega
    have h3 : (60 : Int) < s.size := by omega
    clear hsl h2 h1
    go_enter Try.func52, Try.ntmps52
    go_wp2
    go_ret
    exact ⟨rfl, Touch.refl _ _⟩
  · have he : (s.toList == []) = false := by rw [ByteArray.toList_eq]; rw [Bool.eq_false_iff]; intro e; rw [eq_of_beq e] at hsl; simp at hsl; omega
    have h4 : (s.size : Int) ≤ 60 := by omega
    rw [show decide ((64 : UInt8) ∈ s.data.toList) = true from by simpa using h3] at C
    clear hsl h2 h1 h3
    go_enter Try.func52, Try.ntmps52
    go_wp2_with (go_at_call 58; refine C.out.mono ?_; rintro e w1 ⟨rfl, rfl⟩)
    go_ret
    exact ⟨rfl, Touch.refl _ _⟩

set_option maxRecDepth 100000 in
theorem named_loop (s : ByteArray) (l : List UInt8) (w : World) (hl : l = s.data.toList) (h1 : 1 ≤ s.size) (h2 : s.size ≤ 60) (h3 : 64 ∉ l) :
    Calls Try.prog 52 #[.string s] w fun e w' => e = .returned (.bool (strm l)) ∧ Touch [] w w' := by
  have hsl := list_len s
  rw [← hl] at hsl
  have C := hid (contains_at s w)
  rw [← hl, show decide ((64 : UInt8) ∈ l) = false from by simpa using h3] at C
  have he : (s.toList == []) = false := by rw [ByteArray.toList_eq, ← hl]; rw [Bool.eq_false_iff]; intro e; rw [eq_of_beq e] at hsl; simp at hsl; omega
  have h4 : (s.size : Int) ≤ 60 := by omega
  have hle : s.size ≤ 9223372036854775807 := by omega
  obtain ⟨cf, Wf, HW, hconv⟩ : ∃ (cf : World → Nat) (Wf : World → World), Hid (∀ w1, Wf w1 = bytesWorld w1 5 s) ∧ ∀ w1, (convert 9 73 (.string s)).run Try.prog w1 = .ok (.slice (some ⟨w1.heap.size, 0, none⟩) s.size (cf w1)) (Wf w1) :=
    ⟨_, _, fun _ => rfl, fun w1 => Go.Lib.run_convert_string_bytes (P := Try.prog) w1 9 73 5 s rfl rfl rfl⟩
  have hcell := hid (fun (w1 : World) (k : Nat) (hk : k < l.length) => show (Wf w1).cell? ⟨w1.heap.size, k, none⟩ = some (.int .u8 (l[k].toNat : Int)) by
    rw [HW.out, bytesWorld_cell _ _ _ _ (by omega)]
    subst hl
    rw [show s.data.toList.getD k 0 = s.data.toList[k] from by rw [List.getD_eq_getElem?_getD, List.getElem?_eq_getElem hk]; rfl])
  have hT : Hid (∀ w1 : World, Touch [] w1 (Wf w1)) := fun w1 => by rw [HW.out]; exact touch_bytes _ _ _
  have Hsl := hid hsl
  have H1 := hid h1
  have H3 := hid h3
  clear hl hsl hle h1 h3
  go_enter Try.func52, Try.ntmps52
  go_wp2_with (go_at_call 58; refine C.out.mono ?_; rintro e w1 ⟨rfl, rfl⟩)
  clear he
  go_loop [19, 4] (fun kv _ => ∃ k : Nat, k ≤ s.size ∧ kv = .int .i64 k ∧ ∀ c ∈ l.take k, okB c = true) (fun kv _ => s.size - (RowKit.intOf kv).toNat)
  case atStart => exact ⟨0, Nat.zero_le _, rfl, by simp⟩
  case round =>
    obtain ⟨k, hk, rfl, hall⟩ := hrel
    have Hall := hid hall; clear hall
    by_cases hlt : k < s.size
    · have hkl : k < l.length := by have := Hsl.out; omega
      have hc := hcell.out w k hkl
      have hltI : (k : Int) < s.size := by omega
      have hu := l[k].toNat_lt
      have h64 : l[k].toNat ≠ 64 := fun e => H3.out (by rw [show (64 : UInt8) = l[k] from UInt8.toNat_inj.1 e.symm]; exact List.getElem_mem hkl)
      have hbad : Hid (l[k].toNat < 33 ∨ 126 < l[k].toNat → strm l = false) := fun h => strm_bad hkl (bad_at (by omega))
      have hgood : Hid (33 ≤ l[k].toNat → l[k].toNat ≤ 126 → ∀ c ∈ l.take (k + 1), okB c = true) := fun a b => take_ok _ k Hall.out hkl (ok_at a b h64)
      clear h64
      generalize l[k].toNat = c at *
      have hu2 : (c : Int) < 256 := by omega
      have hu3 : (0 : Int) ≤ c := by omega
      clear hkl h2 h4
      by_cases hlo : c < 33
      · have hr := hid (hbad.out (.inl hlo))
        have q1 : (c : Int) < 33 := by omega
        go_wp2
        go_ret
        exact ⟨by rw [hr.out]; rfl, hT.out w⟩
      · by_cases hhi : 126 < c
        · have hr := hid (hbad.out (.inr hhi))
          have q1 : (33 : Int) ≤ c := by omega
          have q2 : (126 : Int) < c := by omega
          go_wp2
          go_ret
          exact ⟨by rw [hr.out]; rfl, hT.out w⟩
        · have hg := hid (hgood.out (by omega) (by omega))
          have q1 : (33 : Int) ≤ c := by omega
          have q2 : (c : Int) ≤ 126 := by omega
          clear hu hlo hhi hu2
          go_wp2
          go_round
          case rel => exact ⟨k + 1, by omega, by go_num, hg.out⟩
          case measure => simp [RowKit.intOf]; omega
    · obtain rfl : k = s.size := by omega
      have hr := hid (strm_good (l := l) (by have := Hsl.out; have := H1.out; omega) (by have := Hsl.out; omega) (by rw [Hsl.out]; exact Hall.out))
      clear h2 h4
      go_wp2
      go_ret
      exact ⟨by rw [hr.out]; rfl, hT.out w⟩

theorem named_any (s : ByteArray) (w : World) : Calls Try.prog 52 #[.string s] w fun e w' => e = .returned (.bool (strm s.data.toList)) ∧ Touch [] w w' := by
  have hsl := list_len s
  by_cases h1 : s.size < 1
  · rw [strm_short (by omega)]
    exact named_false s w (.inl h1)
  · by_cases h2 : 60 < s.size
    · rw [strm_long (by omega)]
      exact named_false s w (.inr (.inl ⟨by omega, h2⟩))
    · by_cases h3 : 64 ∈ s.data.toList
      · obtain ⟨k, hk, he⟩ := List.getElem_of_mem h3
        rw [strm_bad hk (bad_at (by rw [he]; decide))]
        exact named_false s w (.inr (.inr ⟨by omega, by omega, h3⟩))
      · exact named_loop s _ w rfl (by omega) (by omega) h3

theorem stm_any (s : ByteArray) (w : World) : Calls Try.prog 45 #[.string s] w fun e w' => e = .returned (.bool (strm s.data.toList)) ∧ Touch [] w w' := by
  have C := hid (named_any s w)
  generalize strm s.data.toList = b at *
  go_enter Try.func45, Try.ntmps45
  go_wp2_with (go_at_call 52; refine C.out.mono ?_; rintro e w1 ⟨rfl, a1⟩)
  go_ret
  exact ⟨rfl, a1⟩
end Go.Proofs.Ytmgglmoiepjebaa
