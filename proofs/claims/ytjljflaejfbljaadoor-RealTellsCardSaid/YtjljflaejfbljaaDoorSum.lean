/- Lists of numbers: what real.Sum, Least and Most return. -/
import Derived.Test.YtjljflaejfbljaaDoorRealb
import Derived.Laws.FloatArith
import Derived.Laws.NewFold
namespace Go.Proofs.YtjljflaejfbljaaDoor
open Go.RowKit Go.Lib Ieee

/-- The numbers of a slice value's elements, from x on. -/
def Flts (w : World) (x : Option Addr) (l : List Nat) : Prop := ∀ i (h : i < l.length), ∃ b off, x = some ⟨b, off, none⟩ ∧ w.cell? ⟨b, off + i, none⟩ = some (.float .f64 l[i]) ∧ Wd l[i]
theorem Flts.touch {w w' : World} {x : Option Addr} {l : List Nat} (h : Flts w x l) (ht : Touch [] w w') : Flts w' x l := fun i hi => by
  obtain ⟨b, off, h1, h2, h3⟩ := h i hi
  exact ⟨b, off, h1, ht.cell h2, h3⟩

/-- What a sum of two comes to; of what has none the one NaN. -/
def padd (a b : Nat) : Nat := (DD.add a b).getD oneNan
theorem add_nan {a b : Nat} (ha : Wd a) (hb : Wd b) (h : isNan a = true ∨ isNan b = true) : DD.add a b = none := by
  have hr : ∀ x, Wd x → isNan x = true → ∃ s t, DD.read x = .nan s t := fun x hx hn => by
    rw [isNan_iff] at hn
    rw [read_eq x hx.lt, if_neg (by omega), if_neg (by omega)]
    exact ⟨_, _, rfl⟩
  unfold Format.add
  rcases h with h | h
  · obtain ⟨s, t, e⟩ := hr a ha h
    rw [e]
    cases DD.read b <;> rfl
  · obtain ⟨s, t, e⟩ := hr b hb h
    rw [e]
    cases DD.read a <;> rfl
theorem padd_nan {a b : Nat} (ha : Wd a) (hb : Wd b) (h : isNan a = true ∨ isNan b = true) : padd a b = oneNan := by
  unfold padd
  rw [add_nan ha hb h]; rfl
theorem padd_wd (a b : Nat) : Wd (padd a b) := by
  unfold padd
  cases h : DD.add a b with
  | none => exact (by decide : Wd oneNan)
  | some r => exact DD.add_lt h
theorem can_eq_nan {a b : Nat} (h : can a = can b) : isNan a = isNan b := by rw [← can_isNan a, h, can_isNan]
/-- Which NaN it is that is added does not show. -/
theorem padd_can {a b c : Nat} (ha : Wd a) (hb : Wd b) (hc : Wd c) (h : can a = can b) : can (padd a c) = can (padd b c) := by
  have hn := can_eq_nan h
  by_cases h1 : isNan a = true
  · rw [padd_nan ha hc (.inl h1), padd_nan hb hc (.inl (by rw [← hn]; exact h1))]
  · rw [can_num (isNan_false a h1), can_num (by rw [← hn]; exact isNan_false a h1)] at h
    rw [h]

theorem nan_cut (q : Nat) : Wd ((q % 2) * 2 ^ 63 + 0x7ff0000000000000 + 1 + (q / 2) % (2 ^ 52 - 1)) ∧ isNan ((q % 2) * 2 ^ 63 + 0x7ff0000000000000 + 1 + (q / 2) % (2 ^ 52 - 1)) = true := by
  have h2 : (q / 2) % (2 ^ 52 - 1) < 2 ^ 52 - 1 := Nat.mod_lt _ (by decide)
  have h1 : q % 2 < 2 := Nat.mod_lt _ (by decide)
  generalize (q / 2) % (2 ^ 52 - 1) = y at *
  generalize q % 2 = z at *
  unfold Wd
  rw [isNan_iff]
  unfold rung
  constructor <;> omega
theorem run_add (a b : Nat) (w : World) (_ha : Wd a) (_hb : Wd b) : ∃ r w', (∀ t, (binOp .add t (.float .f64 a) (.float .f64 b)).run Tryd.prog w = .ok (.float .f64 r) w') ∧ Wd r ∧ can r = can (padd a b) ∧ Touch [] w w' := by
  cases h : DD.add a b with
  | some r =>
    refine ⟨r, w, fun t => run_float_arith w .add t .f64 a b r h, DD.add_lt h, ?_, Touch.refl _ _⟩
    unfold padd
    rw [h]; rfl
  | none =>
    have hq := nan_cut (w.tape w.drawn (.nanBits .f64 a b))
    refine ⟨_, w.drew, fun t => ?_, hq.1, ?_, (Touch.refl _ w).drew⟩
    · have h' : FloatKind.f64.format.add a b = none := h
      simp [binOp, Op.floatArith, h', Question.forced, Question.cut]
    · rw [can_nan hq.2]
      unfold padd
      rw [h]; rfl

/-- What Sum tells. -/
def sumOf : List Nat → Nat
  | [] => 0
  | a :: t => can (t.foldl padd a)
theorem fold_take (l : List Nat) (a k : Nat) (h : k < l.length) : (l.take (k + 1)).foldl padd a = padd ((l.take k).foldl padd a) l[k] := by
  rw [List.take_succ_eq_append_getElem h, List.foldl_append]; rfl
theorem fold_wd (l : List Nat) (a : Nat) (ha : Wd a) : Wd (l.foldl padd a) := by
  induction l generalizing a with
  | nil => exact ha
  | cons c t ih => exact ih _ (padd_wd a c)

set_option maxHeartbeats 1000000 in
theorem sum_any (x : Option Addr) (cap : Nat) (l : List Nat) (w : World) (hlen : l.length ≤ 9223372036854775807) (hcap : l.length ≤ cap) (hc : Flts w x l) :
    Calls Tryd.prog 30 #[.slice x l.length cap] w fun e w' => e = .returned (.float .f64 (sumOf l)) ∧ Touch [] w w' := by
  cases l with
  | nil =>
    go_enter Tryd.func30, Tryd.ntmps30
    go_wp2
    go_ret
    exact ⟨rfl, Touch.refl _ _⟩
  | cons a t =>
    obtain ⟨b, off, rfl, h0, hwa⟩ := hc 0 (by simp)
    have HC : Hid (∀ i (h : i < t.length), w.cell? ⟨b, off + 1 + i, none⟩ = some (.float .f64 t[i]) ∧ Wd t[i]) := fun i hi => by
      obtain ⟨b', off', e, h1, h2⟩ := hc (i + 1) (by simp; omega)
      simp at e
      obtain ⟨rfl, rfl⟩ := e
      rw [show off + 1 + i = off + (i + 1) by omega]
      exact ⟨h1, h2⟩
    simp only [List.getElem_cons_zero, Nat.add_zero] at h0 hwa
    have hl1 : (a :: t).length = t.length + 1 := rfl
    rw [hl1] at hlen hcap ⊢
    clear hc hl1
    by_cases h1 : cap = 1
    · subst h1
      have ht : t = [] := List.eq_nil_of_length_eq_zero (by omega)
      subst ht
      clear hlen hcap HC
      go_enter Tryd.func30, Tryd.ntmps30
      go_wp2
      go_loopw [3, 15] (fun sv iv wr => sv = .float .f64 a ∧ iv = .int .i64 0 ∧ wr = w) (fun _ _ _ => 0)
      case atStart => exact ⟨rfl, rfl, rfl⟩
      case round =>
        obtain ⟨rfl, rfl, rfl⟩ := hrel
        go_wp2_with (go_at_call 19; refine (canon_any _ _ (by assumption)).mono ?_; rintro e w' ⟨rfl, rfl⟩)
        go_ret
        exact ⟨rfl, Touch.refl _ _⟩
    · have h2 : 2 ≤ cap := by omega
      have h2i : (2 : Int) ≤ cap := by omega
      go_enter Tryd.func30, Tryd.ntmps30
      go_wp2
      go_loopw [3, 15] (fun sv iv wr => ∃ k s : Nat, k ≤ t.length ∧ iv = .int .i64 k ∧ sv = .float .f64 s ∧ Wd s ∧ can s = can ((t.take k).foldl padd a) ∧ Touch [] w wr) (fun _ iv _ => t.length - (RowKit.intOf iv).toNat)
      case atStart => exact ⟨0, a, Nat.zero_le _, rfl, rfl, hwa, rfl, Touch.refl _ _⟩
      case round =>
        obtain ⟨k, s, hk, rfl, rfl, hs, hcan, ht⟩ := hrel
        have Hcan := hid hcan; clear hcan
        have HT := hid ht; clear ht
        by_cases hlt : k < t.length
        · obtain ⟨c0, c1⟩ := HC.out k hlt
          have c2 := HT.out.cell c0
          obtain ⟨r, w2, hr, hr1, hr2, hr3⟩ := run_add s t[k] wr hs c1
          have Hn : Hid (can r = can ((t.take (k + 1)).foldl padd a)) := by
            unfold Hid
            rw [hr2, fold_take t a k hlt]
            exact padd_can hs (fold_wd _ _ hwa) c1 Hcan.out
          have HR := hid hr3
          clear hr2 hr3 c0 c1
          generalize t[k] = f at *
          have hltI : (k : Int) < t.length := by omega
          go_wp2
          go_roundw
          case rel => exact ⟨k + 1, r, by omega, by go_num, rfl, hr1, Hn.out, HT.out.trans HR.out (by simp)⟩
          case measure => simp [RowKit.intOf]; omega
        · obtain rfl : k = t.length := by omega
          have Hn : Hid (can s = sumOf (a :: t)) := by
            have := Hcan.out
            rw [List.take_of_length_le (Nat.le_refl _)] at this
            exact this
          go_wp2_with (go_at_call 19; refine (canon_any _ _ (by assumption)).mono ?_; rintro e w' ⟨rfl, rfl⟩)
          go_ret
          exact ⟨by rw [← Hn.out]; rfl, HT.out⟩

/-- A list that is built at once. -/
theorem flts_new (w : World) (t : TypeId) (l : List Nat) (h : ∀ x ∈ l, Wd x) : Flts (w.alloc (.cells (l.map fun b => Value.float .f64 b).toArray t)) (some ⟨w.heap.size, 0, none⟩) l := fun i hi => by
  refine ⟨_, _, rfl, ?_, h _ (List.getElem_mem hi)⟩
  rw [Nat.zero_add]
  have h1 : (w.alloc (.cells (l.map fun b => Value.float .f64 b).toArray t)).heap[w.heap.size]? = some (.cells (l.map fun b => Value.float .f64 b).toArray t (0, 0)) := heap_alloc_new w _
  rw [cell_of h1]
  simp [hi]
end Go.Proofs.YtjljflaejfbljaaDoor
