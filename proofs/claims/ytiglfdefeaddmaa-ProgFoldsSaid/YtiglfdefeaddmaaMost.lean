/- What real.Least and real.Most return. -/
import Derived.Test.YtiglfdefeaddmaaSum
namespace Go.Proofs.Ytiglfdefeaddmaa
open Go.RowKit Go.Lib

abbrev pickB (ahead : Nat → Nat → Bool) (m f : Nat) : Nat := if ahead f m = true then f else m
/-- What 'first' tells. -/
def firstOf (ahead : Nat → Nat → Bool) : List Nat → Nat
  | [] => oneNan
  | a :: t => can (t.foldl (pickB ahead) a)
theorem pick_take (ahead : Nat → Nat → Bool) (l : List Nat) (a k : Nat) (h : k < l.length) : (l.take (k + 1)).foldl (pickB ahead) a = pickB ahead ((l.take k).foldl (pickB ahead) a) l[k] := by
  rw [List.take_succ_eq_append_getElem h, List.foldl_append]; rfl
theorem pick_wd (ahead : Nat → Nat → Bool) (l : List Nat) (a : Nat) (ha : Wd a) (hl : ∀ x ∈ l, Wd x) : Wd (l.foldl (pickB ahead) a) := by
  induction l generalizing a with
  | nil => exact ha
  | cons c t ih =>
    refine ih _ ?_ (fun x hx => hl x (by simp [hx]))
    unfold pickB
    split
    · exact hl c (by simp)
    · exact ha

def aheadL (a b : Nat) : Bool := decide (rank a < rank b)
def aheadM (a b : Nat) : Bool := decide (rank b < rank a)
def leastOf (l : List Nat) : Nat := firstOf aheadL l
def mostOf (l : List Nat) : Nat := firstOf aheadM l
theorem most1_any (a b : Nat) (w : World) (ha : Wd a) (hb : Wd b) :
    Calls Try.prog 92 #[.float .f64 a, .float .f64 b] w fun e w' => e = .returned (.bool (aheadM a b)) ∧ w = w' := by
  go_enter Try.func92, Try.ntmps92
  go_wp2_with (go_at_call 91; refine (less_any _ _ _ (by assumption) (by assumption)).mono ?_; rintro e w' ⟨rfl, rfl⟩)
  go_ret
  exact ⟨rfl, rfl⟩
theorem lessL_any (a b : Nat) (w : World) (ha : Wd a) (hb : Wd b) :
    Calls Try.prog 91 #[.float .f64 a, .float .f64 b] w fun e w' => e = .returned (.bool (aheadL a b)) ∧ w = w' := less_any a b w ha hb
set_option maxHeartbeats 1000000 in
theorem first_less
    (x : Option Addr) (cap : Nat) (l : List Nat) (w : World) (hlen : l.length ≤ 9223372036854775807) (hcap : l.length ≤ cap) (hc : Flts w x l) :
    Calls Try.prog 90 #[.slice x l.length cap, .func (.func 91) #[] #[]] w fun e w' => e = .returned (.float .f64 (firstOf aheadL l)) ∧ w = w' := by
  cases l with
  | nil =>
    go_enter Try.func90, Try.ntmps90
    go_wp2_with (go_at_call 79; refine (of_any _ _ (by decide)).mono ?_; rintro e w' ⟨rfl, rfl⟩)
    go_ret
    exact ⟨rfl, rfl⟩
  | cons a t =>
    obtain ⟨b, off, rfl, h0, hwa⟩ := hc 0 (by simp)
    have HC : Hid (∀ i (h : i < t.length), w.cell? ⟨b, off + 1 + i, none⟩ = some (.float .f64 t[i]) ∧ Wd t[i]) := fun i hi => by
      obtain ⟨b', off', e, h1, h2⟩ := hc (i + 1) (by simp; omega)
      simp at e
      obtain ⟨rfl, rfl⟩ := e
      rw [show off + 1 + i = off + (i + 1) by omega]
      exact ⟨h1, h2⟩
    simp only [List.getElem_cons_zero, Nat.add_zero] at h0 hwa
    have hl1 : (a :: t).length = t.length + 1 := rfl
    rw [hl1] at hlen hcap ⊢
    clear hc hl1
    by_cases h1 : cap = 1
    · subst h1
      have ht : t = [] := List.eq_nil_of_length_eq_zero (by omega)
      subst ht
      clear hlen hcap HC
      go_enter Try.func90, Try.ntmps90
      go_wp2
      go_loop [5, 18] (fun sv iv => sv = .float .f64 a ∧ iv = .int .i64 0) (fun _ _ => 0)
      case atStart => exact ⟨rfl, rfl⟩
      case round =>
        obtain ⟨rfl, rfl⟩ := hrel
        go_wp2_with (go_at_call 31; refine (canon_any _ _ (by assumption)).mono ?_; rintro e w' ⟨rfl, rfl⟩)
        go_ret
        exact ⟨rfl, rfl⟩
    · have h2 : 2 ≤ cap := by omega
      have h2i : (2 : Int) ≤ cap := by omega
      have hz : ((t.length : Int) + 1 == 0) = false := by simp; omega
      have hall : Hid (∀ x ∈ t, Wd x) := fun y hy => by
        obtain ⟨i, hi, rfl⟩ := List.getElem_of_mem hy
        exact (HC.out i hi).2
      go_enter Try.func90, Try.ntmps90
      go_wp2
      go_loop [5, 18] (fun sv iv => ∃ k : Nat, k ≤ t.length ∧ iv = .int .i64 k ∧ sv = .float .f64 ((t.take k).foldl (pickB aheadL) a)) (fun _ iv => t.length - (RowKit.intOf iv).toNat)
      case atStart => exact ⟨0, Nat.zero_le _, rfl, rfl⟩
      case round =>
        obtain ⟨k, hk, rfl, rfl⟩ := hrel
        have hs := pick_wd aheadL (t.take k) a hwa (fun x hx => hall.out x (List.mem_of_mem_take hx))
        by_cases hlt : k < t.length
        · obtain ⟨c0, c1⟩ := HC.out k hlt
          have hn := pick_take aheadL t a k hlt
          generalize t[k] = f at *
          generalize (t.take k).foldl (pickB aheadL) a = m at *
          have hltI : (k : Int) < t.length := by omega
          cases hb : aheadL f m
          all_goals
            have Hn := hid hn
            clear hn
            go_wp2_with (go_at_call 91; refine (lessL_any _ _ _ (by assumption) (by assumption)).mono ?_; rintro e w' ⟨rfl, rfl⟩)
            go_round
            case rel => exact ⟨k + 1, by omega, by go_num, by rw [Hn.out]; simp [pickB, hb]⟩
            case measure => simp [RowKit.intOf]; omega
        · obtain rfl : k = t.length := by omega
          rw [List.take_of_length_le (Nat.le_refl _)] at *
          have Hn : Hid (can (t.foldl (pickB aheadL) a) = firstOf aheadL (a :: t)) := rfl
          generalize t.foldl (pickB aheadL) a = m at *
          go_wp2_with (go_at_call 31; refine (canon_any _ _ (by assumption)).mono ?_; rintro e w' ⟨rfl, rfl⟩)
          go_ret
          exact ⟨by rw [← Hn.out]; rfl, rfl⟩

set_option maxHeartbeats 1000000 in
theorem first_most
    (x : Option Addr) (cap : Nat) (l : List Nat) (w : World) (hlen : l.length ≤ 9223372036854775807) (hcap : l.length ≤ cap) (hc : Flts w x l) :
    Calls Try.prog 90 #[.slice x l.length cap, .func (.func 92) #[] #[]] w fun e w' => e = .returned (.float .f64 (firstOf aheadM l)) ∧ w = w' := by
  cases l with
  | nil =>
    go_enter Try.func90, Try.ntmps90
    go_wp2_with (go_at_call 79; refine (of_any _ _ (by decide)).mono ?_; rintro e w' ⟨rfl, rfl⟩)
    go_ret
    exact ⟨rfl, rfl⟩
  | cons a t =>
    obtain ⟨b, off, rfl, h0, hwa⟩ := hc 0 (by simp)
    have HC : Hid (∀ i (h : i < t.length), w.cell? ⟨b, off + 1 + i, none⟩ = some (.float .f64 t[i]) ∧ Wd t[i]) := fun i hi => by
      obtain ⟨b', off', e, h1, h2⟩ := hc (i + 1) (by simp; omega)
      simp at e
      obtain ⟨rfl, rfl⟩ := e
      rw [show off + 1 + i = off + (i + 1) by omega]
      exact ⟨h1, h2⟩
    simp only [List.getElem_cons_zero, Nat.add_zero] at h0 hwa
    have hl1 : (a :: t).length = t.length + 1 := rfl
    rw [hl1] at hlen hcap ⊢
    clear hc hl1
    by_cases h1 : cap = 1
    · subst h1
      have ht : t = [] := List.eq_nil_of_length_eq_zero (by omega)
      subst ht
      clear hlen hcap HC
      go_enter Try.func90, Try.ntmps90
      go_wp2
      go_loop [5, 18] (fun sv iv => sv = .float .f64 a ∧ iv = .int .i64 0) (fun _ _ => 0)
      case atStart => exact ⟨rfl, rfl⟩
      case round =>
        obtain ⟨rfl, rfl⟩ := hrel
        go_wp2_with (go_at_call 31; refine (canon_any _ _ (by assumption)).mono ?_; rintro e w' ⟨rfl, rfl⟩)
        go_ret
        exact ⟨rfl, rfl⟩
    · have h2 : 2 ≤ cap := by omega
      have h2i : (2 : Int) ≤ cap := by omega
      have hz : ((t.length : Int) + 1 == 0) = false := by simp; omega
      have hall : Hid (∀ x ∈ t, Wd x) := fun y hy => by
        obtain ⟨i, hi, rfl⟩ := List.getElem_of_mem hy
        exact (HC.out i hi).2
      go_enter Try.func90, Try.ntmps90
      go_wp2
      go_loop [5, 18] (fun sv iv => ∃ k : Nat, k ≤ t.length ∧ iv = .int .i64 k ∧ sv = .float .f64 ((t.take k).foldl (pickB aheadM) a)) (fun _ iv => t.length - (RowKit.intOf iv).toNat)
      case atStart => exact ⟨0, Nat.zero_le _, rfl, rfl⟩
      case round =>
        obtain ⟨k, hk, rfl, rfl⟩ := hrel
        have hs := pick_wd aheadM (t.take k) a hwa (fun x hx => hall.out x (List.mem_of_mem_take hx))
        by_cases hlt : k < t.length
        · obtain ⟨c0, c1⟩ := HC.out k hlt
          have hn := pick_take aheadM t a k hlt
          generalize t[k] = f at *
          generalize (t.take k).foldl (pickB aheadM) a = m at *
          have hltI : (k : Int) < t.length := by omega
          cases hb : aheadM f m
          all_goals
            have Hn := hid hn
            clear hn
            go_wp2_with (go_at_call 92; refine (most1_any _ _ _ (by assumption) (by assumption)).mono ?_; rintro e w' ⟨rfl, rfl⟩)
            go_round
            case rel => exact ⟨k + 1, by omega, by go_num, by rw [Hn.out]; simp [pickB, hb]⟩
            case measure => simp [RowKit.intOf]; omega
        · obtain rfl : k = t.length := by omega
          rw [List.take_of_length_le (Nat.le_refl _)] at *
          have Hn : Hid (can (t.foldl (pickB aheadM) a) = firstOf aheadM (a :: t)) := rfl
          generalize t.foldl (pickB aheadM) a = m at *
          go_wp2_with (go_at_call 31; refine (canon_any _ _ (by assumption)).mono ?_; rintro e w' ⟨rfl, rfl⟩)
          go_ret
          exact ⟨by rw [← Hn.out]; rfl, rfl⟩

theorem least_any (x : Option Addr) (cap : Nat) (l : List Nat) (w : World) (hlen : l.length ≤ 9223372036854775807) (hcap : l.length ≤ cap) (hc : Flts w x l) :
    Calls Try.prog 75 #[.slice x l.length cap] w fun e w' => e = .returned (.float .f64 (leastOf l)) ∧ w = w' := by
  have C := hid (first_less x cap l w hlen hcap hc)
  clear hc hlen hcap
  go_enter Try.func75, Try.ntmps75
  go_wp2_with (go_at_call 90; refine C.out.mono ?_; rintro e w' ⟨rfl, rfl⟩)
  go_ret
  exact ⟨rfl, rfl⟩
theorem most_any (x : Option Addr) (cap : Nat) (l : List Nat) (w : World) (hlen : l.length ≤ 9223372036854775807) (hcap : l.length ≤ cap) (hc : Flts w x l) :
    Calls Try.prog 77 #[.slice x l.length cap] w fun e w' => e = .returned (.float .f64 (mostOf l)) ∧ w = w' := by
  have C := hid (first_most x cap l w hlen hcap hc)
  clear hc hlen hcap
  go_enter Try.func77, Try.ntmps77
  go_wp2_with (go_at_call 90; refine C.out.mono ?_; rintro e w' ⟨rfl, rfl⟩)
  go_ret
  exact ⟨rfl, rfl⟩
end Go.Proofs.Ytiglfdefeaddmaa
