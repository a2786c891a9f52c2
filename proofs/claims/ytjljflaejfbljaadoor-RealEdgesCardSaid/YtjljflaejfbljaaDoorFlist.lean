/- Lists of words that came in, and the laws' 'floats' of them. -/
import Derived.Test.YtjljflaejfbljaaDoorSum
import Derived.Test.YtjljflaejfbljaaDoorLists
import Derived.Laws.AppendOwnNone
namespace Go.Proofs.YtjljflaejfbljaaDoor
open Go.RowKit Go.Lib Go.ChangeShapes Go.WideShapes

theorem Tryd.infoFlt : (Tryd.prog.info? 24).map (fun i => (i.zero, i.size, i.bytes)) = some (some (.float .f64 0), 1, 8) := by kernel_rfl
theorem cellsU64L : Tryd.prog.cellsOf 22 = 1 := by kernel_rfl

/-- The slice value v is the list l of words. -/
def U64s (W : World) (v : Value) (l : List Nat) : Prop :=
  ∃ (x : Option Addr) (c : Nat), v = .slice x l.length c ∧ l.length ≤ 9223372036854775807 ∧ ∀ i (h : i < l.length), ∃ b off, x = some ⟨b, off, none⟩ ∧ W.cell? ⟨b, off + i, none⟩ = some (.int .u64 (l[i] : Int)) ∧ Wd l[i]
theorem u64s_of {H : Type} {enc : TypeId × Value → H} {W : World} {a0 : Option Addr} {len0 cap0 fuel : Nat} {x : DataW H × List MemPlace} {cs : List Value} (hv : cs = [.slice a0 len0 cap0])
    (hf : DataW.trod enc Tryd.prog W 0 (fun _ => true) true fuel 45 cs = some x) : ∃ l, U64s W (.slice a0 len0 cap0) l := by
  rcases open_ints Tryd.underlying45 Tryd.underlying22 cellsU64L hf with ⟨hcs, _⟩ | ⟨a, len, cap, zs, hcs, _, hl, hm, hz, _, hc, hwf⟩
  · rw [hv] at hcs
    simp at hcs
    obtain ⟨rfl, rfl, rfl⟩ := hcs
    exact ⟨[], none, 0, rfl, by simp, fun i hi => absurd hi (Nat.not_lt_zero i)⟩
  · rw [hv] at hcs
    simp at hcs
    obtain ⟨rfl, rfl, rfl⟩ := hcs
    have hz2 : len0 ≤ zs.length := by rw [hz]; simp; omega
    have hlen : ((zs.take len0).map Int.toNat).length = len0 := by rw [List.length_map, List.length_take]; omega
    refine ⟨(zs.take len0).map Int.toNat, some a, cap0, by rw [hlen], by rw [hlen]; unfold maxLen at hm; omega, fun i hi => ?_⟩
    rw [hlen] at hi
    obtain ⟨b, off, rfl, h2⟩ := spot_none (hc 0 (by omega)) (hc i (by omega))
    refine ⟨b, off, rfl, ?_⟩
    have hm2 := hwf zs[i] (List.getElem_mem _)
    have h3 : 0 ≤ zs[i] ∧ zs[i] ≤ 18446744073709551615 := by
      have e1 : IntKind.u64.min = 0 := rfl
      have e2 : IntKind.u64.max = 18446744073709551615 := rfl
      simp only [Lit.wf, e1, e2, Bool.and_eq_true, decide_eq_true_eq] at hm2
      exact hm2
    rw [List.getElem_map, List.getElem_take]
    refine ⟨?_, by unfold Wd; omega⟩
    rw [h2, List.getD_eq_getElem?_getD, List.getElem?_eq_getElem (by omega)]
    show some (Value.int .u64 zs[i]) = _
    congr 2
    omega

def fvals (l : List Nat) : List Value := l.map fun b => Value.float .f64 b
theorem fvals_snoc (l : List Nat) (b : Nat) : fvals l ++ [Value.float .f64 b] = fvals (l ++ [b]) := by simp [fvals]
theorem fvals_one (l : List Nat) : ∀ u ∈ fvals l, u.oneCell' = true := by
  intro u hu
  simp [fvals] at hu
  obtain ⟨t, _, rfl⟩ := hu
  rfl
/-- A list that is one's own: the numbers of a slice value. -/
theorem flts_own {w : World} {base n : Nat} {v : Value} {l : List Nat} (h : w.ownsRow base 24 1 v n (fvals l)) (hn : n = l.length) (hw : ∀ x ∈ l, Wd x) :
    ∃ x c, v = .slice x l.length c ∧ l.length ≤ c ∧ c ≤ maxLen ∧ Flts w x l ∧ (x = none → l = [] ∧ c = 0) := by
  subst hn
  rcases h.2 with ⟨rfl, h0⟩ | ⟨g, cap, cur, rfl, hb, _, hc, hm, _⟩
  · have hl : l = [] := List.eq_nil_of_length_eq_zero h0
    subst hl
    exact ⟨none, 0, rfl, Nat.le_refl _, Nat.zero_le _, fun i hi => absurd hi (Nat.not_lt_zero i), fun _ => ⟨rfl, rfl⟩⟩
  · refine ⟨_, cap, rfl, hc, hm, fun i hi => ⟨g, 0, rfl, ?_, hw _ (List.getElem_mem hi)⟩, fun e => by cases e⟩
    have := h.cells (g := g) rfl i (.float .f64 l[i]) (by simp [fvals, hi])
    rw [show (⟨g, 0, none⟩ : Addr).add i = ⟨g, i, none⟩ from by unfold Addr.add; split <;> simp_all] at this
    rw [Nat.zero_add]
    exact this

/-- What 'floats' leaves. -/
def FloatsPost (l : List Nat) (w : World) (e : Ending) (w' : World) : Prop := ∃ v, e = .returned v ∧ w'.ownsRow w.heap.size 24 1 v l.length (fvals l) ∧ Touch [] w w'

set_option maxHeartbeats 2000000 in
theorem floats_any (x : Option Addr) (c : Nat) (l : List Nat) (w : World) (hl : (l.length : Int) ≤ 100000)
    (hc : ∀ i (h : i < l.length), ∃ b off, x = some ⟨b, off, none⟩ ∧ w.cell? ⟨b, off + i, none⟩ = some (.int .u64 (l[i] : Int)) ∧ Wd l[i]) :
    Calls Tryd.prog 34 #[.slice x l.length c] w (FloatsPost l w) := by
  have HC := hid hc; clear hc
  obtain ⟨i0, hi, hz0, hz1, hz2⟩ := info_parts Tryd.infoFlt
  go_enter Tryd.func34, Tryd.ntmps34
  go_wp2
  go_loopw [3, 4] (fun lv iv wr => ∃ k : Nat, k ≤ l.length ∧ iv = .int .i64 k ∧ wr.ownsRow w.heap.size 24 1 lv k (fvals (l.take k)) ∧ Touch [] w wr) (fun _ iv _ => l.length - (RowKit.intOf iv).toNat)
  case atStart => exact ⟨0, Nat.zero_le _, rfl, World.ownsRow_nil _ _ _ _, Touch.refl _ _⟩
  case round =>
    obtain ⟨k, hk, rfl, hown, ht⟩ := hrel
    have HO := hid hown
    have HT := hid ht
    clear hown ht
    by_cases hlt : k < l.length
    · obtain ⟨b, off, rfl, g1, _⟩ := HC.out k hlt
      have g2 := HT.out.cell g1
      have hsn : Hid (fvals (l.take (k + 1)) = fvals (l.take k) ++ [Value.float .f64 l[k]]) := by
        unfold Hid
        rw [fvals_snoc, List.take_succ_eq_append_getElem hlt]
      clear g1
      generalize l[k] = z at *
      have hb := frombits_run z
      have hl2 : decide (k < l.length) = true := by simpa using hlt
      go_wp2_with (at_builtin; refine wpList_append_own _ rfl (.tmp 11) (.tmp 17) 42 rfl w.heap.size 24 i0 (.float .f64 0) 1 8 Tryd.underlying42 hi hz0 hz1 hz2 rfl (by decide) u3 k (fvals (l.take k)) rfl (HO.out.alloc _) ⟨wr.heap.size, 0, none⟩ 1 1 [.float .f64 z] rfl rfl (World.news_of_block (cs := #[.float .f64 z]) (t := 24) (fr := (0, 0)) (heap_alloc_new wr _)) (by intro u hu; simp at hu; subst hu; rfl) (by unfold maxLen; omega) (by omega) (by have := HT.out.size; simp; omega) ?_; intro v' w1 hown' hgrow _)
      go_roundw
      case rel => exact ⟨k + 1, by omega, by go_num, by rw [hsn.out]; exact hown', (HT.out.alloc _).grown hgrow fun b hb => .inr (HO.out.lt b hb).1⟩
      case measure => simp [RowKit.intOf]; omega
    · obtain rfl : k = l.length := by omega
      have hw : fvals (l.take l.length) = fvals l := by rw [List.take_of_length_le (Nat.le_refl _)]
      have HO2 := HO.out
      rw [hw] at HO2
      have HO3 := hid HO2
      have hl2 : decide (l.length < l.length) = false := by simp
      clear hk hlt HO2 hw
      go_wp2
      go_ret
      exact ⟨_, rfl, HO3.out, HT.out⟩
end Go.Proofs.YtjljflaejfbljaaDoor
