/- The walk of CheckParts. -/
import Derived.Test.YtfmaeaaaiagcbaaChkd
import Derived.Deep.Slices
import Derived.OpenShut
import Derived.ChangeSlices
import Derived.SliceStrings
namespace Go.Proofs.Ytfmaeaaaiagcbaa
open Go.RowKit Go.Lib Go.ChangeShapes Go.WideShapes

theorem wpList_append_own_g {P : Program} (w : World) {ops : Array Oper} {rest : List Oper} {o : Oper} {a : Act} {Q : Exit → Act → World → Prop} (hw : Region.wanted o (yielded ops a.tmps) = true) (s x : Operand) (t : TypeId)
    (ho : o.op = .call { callee := .builtin .append, args := #[s, x], argTypes := #[t, t] })
    (base : Nat) (e : TypeId) (i : TypeInfo) (z : Value) (size bytes : Nat) (ht : P.underlying t = some (.slice e)) (hi : P.info? e = some i) (hz : i.zero = some z)
    (hsize : i.size = size) (hby : i.bytes = bytes) (hzs : z.cells.size = size) (hsz : 0 < size)
    (v : Value) (n : Nat) (xs : List Value) (hs : a.eval s = v) (hown : w.ownsRow base e size v n xs)
    (ad : Addr) (m c : Nat) (news : List Value) (hx : a.eval x = .slice (some ad) m c) (hl : news.length = m * size) (hnews : ∀ j u, news[j]? = some u → w.cell? (ad.add j) = some u) (h1 : ∀ u ∈ news, u.oneCell' = true)
    (h63 : n + m ≤ maxLen) (hbytes : (n + m) * bytes ≤ 140737488355328) (hbase : base ≤ w.heap.size)
    (h : ∀ v' w', w'.ownsRow base e size v' (n + m) (xs ++ news) → w.grownBy w' v.ownBlock → (v' = .slice none 0 0 ↔ v = .slice none 0 0 ∧ m = 0) → wpList P ops Q rest (a.put o.dst v') w') : wpList P ops Q (o :: rest) a w :=
  wpList_step fun _ hK => by rw [if_pos hw]; exact wp_append_own w s x t ho base e i z size bytes ht hi hz hsize hby hzs hsz v n xs hs hown ad m c news hx hl hnews h1 h63 hbytes hbase fun v' w' h2 h3 h4 => hK _ _ (h v' w' h2 h3 h4)
theorem Touch.grownBy {w w' : World} (h : Touch [] w w') : w.grownBy w' none := ⟨h.os, h.tape, h.output, h.size, fun k hk _ => h.block k hk (by simp)⟩

theorem Try.infoStr : (Try.prog.info? 9).map (fun i => (i.zero, i.size, i.bytes)) = some (some (.string ⟨#[]⟩), 1, 16) := by kernel_rfl
theorem cellsInt : Try.prog.cellsOf 3 = 1 := by kernel_rfl
theorem cellsStr : Try.prog.cellsOf 9 = 1 := by kernel_rfl

/-- The slice value v is the list l of ints. -/
def Ints (W : World) (v : Value) (l : List Int) : Prop :=
  ∃ (x : Option Addr) (c : Nat), v = .slice x l.length c ∧ l.length ≤ 9223372036854775807 ∧ ∀ i (h : i < l.length), ∃ b off, x = some ⟨b, off, none⟩ ∧ W.cell? ⟨b, off + i, none⟩ = some (.int .i64 l[i])
/-- The slice value v is the list l of texts. -/
def Strs (W : World) (v : Value) (l : List ByteArray) : Prop :=
  ∃ (x : Option Addr) (c : Nat), v = .slice x l.length c ∧ l.length ≤ 9223372036854775807 ∧ TextsX W x l

theorem spot_none {w : World} {a : Addr} {i : Nat} {v v0 : Value} (h0 : w.cell? (a.add 0) = some v0) (h : w.cell? (a.add i) = some v) : ∃ b off, a = ⟨b, off, none⟩ ∧ w.cell? ⟨b, off + i, none⟩ = some v := by
  obtain ⟨b, off, spot⟩ := a
  have hs : spot = none := by simpa [Addr.add] using World.cell?_spot h0
  subst hs
  exact ⟨b, off, rfl, by rw [show (⟨b, off, none⟩ : Addr).add i = ⟨b, off + i, none⟩ from by unfold Addr.add; split <;> simp_all] at h; exact h⟩

theorem ints_of {H : Type} {enc : TypeId × Value → H} {W : World} {a0 : Option Addr} {len0 cap0 fuel : Nat} {x : DataW H × List MemPlace} {cs : List Value} (hv : cs = [.slice a0 len0 cap0])
    (hf : DataW.trod enc Try.prog W 0 (fun _ => true) true fuel 37 cs = some x) : ∃ l, Ints W (.slice a0 len0 cap0) l := by
  rcases open_ints Try.underlying37 Try.underlying3 cellsInt hf with ⟨hcs, _⟩ | ⟨a, len, cap, zs, hcs, _, hl, hm, hz, _, hc, _⟩
  · rw [hv] at hcs
    simp at hcs
    obtain ⟨rfl, rfl, rfl⟩ := hcs
    exact ⟨[], none, 0, rfl, by simp, fun i hi => absurd hi (Nat.not_lt_zero i)⟩
  · rw [hv] at hcs
    simp at hcs
    obtain ⟨rfl, rfl, rfl⟩ := hcs
    have hz2 : len0 ≤ zs.length := by rw [hz]; simp; omega
    have hlen : (zs.take len0).length = len0 := by rw [List.length_take]; omega
    refine ⟨zs.take len0, some a, cap0, by rw [hlen], by rw [hlen]; unfold maxLen at hm; omega, fun i hi => ?_⟩
    rw [hlen] at hi
    obtain ⟨b, off, rfl, h2⟩ := spot_none (hc 0 (by omega)) (hc i (by omega))
    refine ⟨b, off, rfl, ?_⟩
    rw [h2, List.getElem_take, List.getD_eq_getElem?_getD, List.getElem?_eq_getElem (by omega)]
    rfl
theorem strs_of {H : Type} {enc : TypeId × Value → H} {W : World} {a0 : Option Addr} {len0 cap0 fuel : Nat} {x : DataW H × List MemPlace} {cs : List Value} (hv : cs = [.slice a0 len0 cap0])
    (hf : DataW.trod enc Try.prog W 0 (fun _ => true) true fuel 22 cs = some x) : ∃ l, Strs W (.slice a0 len0 cap0) l := by
  rcases open_strings Try.underlying22 Try.underlying9 cellsStr hf with ⟨hcs, _⟩ | ⟨a, len, cap, zs, hcs, _, hl, hm, hz, _, hc, hsz⟩
  · rw [hv] at hcs
    simp at hcs
    obtain ⟨rfl, rfl, rfl⟩ := hcs
    exact ⟨[], none, 0, rfl, by simp, fun i hi => absurd hi (Nat.not_lt_zero i)⟩
  · rw [hv] at hcs
    simp at hcs
    obtain ⟨rfl, rfl, rfl⟩ := hcs
    have hz2 : len0 ≤ zs.length := by rw [hz]; simp; omega
    have hlen : (zs.take len0).length = len0 := by rw [List.length_take]; omega
    refine ⟨zs.take len0, some a, cap0, by rw [hlen], by rw [hlen]; unfold maxLen at hm; omega, fun i hi => ?_⟩
    rw [hlen] at hi
    obtain ⟨b, off, rfl, h2⟩ := spot_none (hc 0 (by omega)) (hc i (by omega))
    refine ⟨b, off, rfl, ?_, ?_⟩
    · rw [h2, List.getElem_take, List.getD_eq_getElem?_getD, List.getElem?_eq_getElem (by omega)]
      rfl
    · rw [List.getElem_take]
      exact hsz _ (List.getElem_mem _)

theorem parts_early (s : ByteArray) (x : Option Addr) (n c : Nat) (w : World) (h : (3000 : Int) < s.size ∨ ((s.size : Int) ≤ 3000 ∧ (40 : Int) < n)) :
    Calls Try.prog 5 #[.string s, .slice x n c] w fun e w' => e = .returned (.bool true) ∧ Touch [] w w' := by
  have C0 := hid (alive_true w)
  rcases h with h1 | ⟨h1, h2⟩
  all_goals
    go_enter Try.func5, Try.ntmps5
    go_wp2_with (go_at_call 8; refine C0.out.mono ?_; rintro e w1 ⟨rfl, a1⟩)
    go_ret
    exact ⟨rfl, a1⟩

/-- What was cut off so far. -/
structure PartsR (s : ByteArray) (n k p : Nat) (L : List ByteArray) (lv : Value) (w wr : World) : Prop where
  le : k ≤ n
  ps : p ≤ s.size
  len : L.length = k
  all : cat L = s.data.toList.take p
  size : ∀ t ∈ L, t.size ≤ maxLen
  own : wr.ownsRow w.heap.size 9 1 lv k (L.map Value.string)
  touch : Touch [] w wr

theorem parts_step {s : ByteArray} {n k p q : Nat} {L : List ByteArray} {lv v' : Value} {w wr w1 : World} (h : PartsR s n k p L lv w wr) (hk : k < n) (hpq : p ≤ q) (hq : q ≤ s.size) (hs : s.size ≤ maxLen)
    (hown : w1.ownsRow w.heap.size 9 1 v' (k + 1) (L.map Value.string ++ [Value.string (s.extract p q)])) (hg : (wr.alloc (.cells #[.string (s.extract p q)] 9)).grownBy w1 lv.ownBlock) :
    PartsR s n (k + 1) q (L ++ [s.extract p q]) v' w w1 := by
  have hlt := h.own.lt
  refine ⟨hk, hq, by rw [List.length_append, h.len]; rfl, ?_, ?_, by rw [List.map_append]; exact hown, (h.touch.alloc _).grown hg fun b hb => .inr (hlt b hb).1⟩
  · rw [cat_snoc, h.all, extract_data]
    conv => rhs; rw [show q = p + (q - p) by omega, List.take_add]
  · intro t ht
    simp only [List.mem_append, List.mem_singleton] at ht
    rcases ht with ht | rfl
    · exact h.size t ht
    · rw [ByteArray.size_extract]; omega

theorem sum_own {w : World} {base n : Nat} {v : Value} {l : List ByteArray} (h : w.ownsRow base 9 1 v n (l.map Value.string)) (hpos : 0 < n) (hn : n ≤ 9223372036854775807) (hsz : ∀ t ∈ l, t.size ≤ maxLen) :
    Calls Try.prog 12 #[v] w fun e w' => e = .returned (.int .u32 (crc (cat l) : Int)) ∧ Touch [] w w' := by
  have hl : l.length = n := by have := h.1; rw [List.length_map] at this; omega
  rcases h.2 with ⟨_, h0⟩ | ⟨g, cap, cur, rfl, _⟩
  · omega
  · subst hl
    refine sum_some g 0 cap l w hn fun i hi => ⟨?_, hsz _ (List.getElem_mem hi)⟩
    have := h.cells (g := g) rfl i (.string l[i]) (by simp [hi])
    rw [show (⟨g, 0, none⟩ : Addr).add i = ⟨g, i, none⟩ from by unfold Addr.add; split <;> simp_all] at this
    rw [Nat.zero_add]
    exact this
theorem cat_all {s : ByteArray} {L : List ByteArray} {p : Nat} (h : cat L = s.data.toList.take p) : cat (L ++ [s.extract p s.size, ⟨#[]⟩]) = s.data.toList := by
  have e : (s.extract p s.size).data.toList = s.data.toList.drop p := by rw [extract_data, List.take_of_length_le (by rw [List.length_drop, list_len]; omega)]
  rw [show L ++ [s.extract p s.size, ⟨#[]⟩] = (L ++ [s.extract p s.size]) ++ [⟨#[]⟩] by simp, cat_snoc, cat_snoc, h, e, List.take_append_drop]
  simp

set_option maxHeartbeats 2000000 in
theorem parts_full (s : ByteArray) (x : Option Addr) (cuts : List Int) (c : Nat) (w : World) (h1 : (s.size : Int) ≤ 3000) (h2 : (cuts.length : Int) ≤ 40)
    (hc : ∀ i (h : i < cuts.length), ∃ b off, x = some ⟨b, off, none⟩ ∧ w.cell? ⟨b, off + i, none⟩ = some (.int .i64 cuts[i])) :
    Calls Try.prog 5 #[.string s, .slice x cuts.length c] w fun e w' => e = .returned (.bool true) ∧ Touch [] w w' := by
  have HC := hid hc; clear hc
  obtain ⟨i0, hi, hz0, hz1, hz2⟩ := info_parts Try.infoStr
  go_enter Try.func5, Try.ntmps5
  go_wp2
  go_loopw [5, 6, 7] (fun lv pv iv wr => ∃ (k p : Nat) (L : List ByteArray), iv = .int .i64 k ∧ pv = .int .i64 p ∧ PartsR s cuts.length k p L lv w wr) (fun _ _ iv _ => cuts.length - (RowKit.intOf iv).toNat)
  case atStart => exact ⟨0, 0, [], rfl, rfl, Nat.zero_le _, Nat.zero_le _, rfl, rfl, by simp, World.ownsRow_nil _ _ _ _, Touch.refl _ _⟩
  case round =>
    obtain ⟨k, p, L, rfl, rfl, hR⟩ := hrel
    have hk := hR.le
    have hp := hR.ps
    have HR := hid hR; clear hR
    by_cases hlt : k < cuts.length
    · obtain ⟨b, off, rfl, g1⟩ := HC.out k hlt
      have g2 := HR.out.touch.cell g1
      clear g1
      generalize cuts[k] = z at *
      obtain ⟨q, hq⟩ : ∃ q : Nat, (q : Int) = min (max z (p : Int)) (s.size : Int) := ⟨(min (max z (p : Int)) (s.size : Int)).toNat, by omega⟩
      have hq1 : (p : Int) ≤ q := by omega
      have hq2 : (q : Int) ≤ s.size := by omega
      have hq3 : min (max z (p : Int)) (s.size : Int) = (q : Int) := hq.symm
      have hl2 : decide (k < cuts.length) = true := by simpa using hlt
      clear hq
      go_wp2_with (at_builtin; refine wpList_append_own _ rfl (.tmp 33) (.tmp 38) 22 rfl w.heap.size 9 i0 (.string ⟨#[]⟩) 1 16 Try.underlying22 hi hz0 hz1 hz2 rfl (by decide) u5 k (L.map Value.string) rfl (HR.out.own.alloc _) ⟨wr.heap.size, 0, none⟩ 1 1 [.string (s.extract p q)] rfl rfl (World.news_of_block (cs := #[.string (s.extract p q)]) (t := 9) (fr := (0, 0)) (heap_alloc_new wr _)) (by intro u hu; simp at hu; subst hu; rfl) (by unfold maxLen; omega) (by omega) (by have := HR.out.touch.size; simp; omega) ?_; intro v' w1 hown' hgrow _)
      go_roundw
      case rel => exact ⟨k + 1, q, L ++ [s.extract p q], by go_num, rfl, parts_step HR.out hlt (by omega) (by omega) (by unfold maxLen; omega) hown' hgrow⟩
      case measure => simp [RowKit.intOf]; omega
    · obtain rfl : k = cuts.length := by omega
      have hl2 : decide (cuts.length < cuts.length) = false := by simp
      have hpI : (p : Int) ≤ s.size := by omega
      have C0 := hid (alive_true wr)
      clear hk hlt
      go_wp2_with (first | (go_at_call 8; refine C0.out.mono ?_; rintro e w1 ⟨rfl, a1⟩; have hown1 := HR.out.own.kept a1.grownBy (by cases u5.ownBlock with | none => exact .inl rfl | some b => exact .inr (by simp))) | (at_builtin; go_loud (refine wpList_append_own_g _ (by rfl) (.tmp 43) (.tmp 47) 22 rfl w.heap.size 9 i0 (.string ⟨#[]⟩) 1 16 Try.underlying22 hi hz0 hz1 hz2 rfl (by decide) u5 cuts.length (L.map Value.string) rfl (hown1.alloc _) ⟨w1.heap.size, 0, none⟩ 2 2 [.string (s.extract p s.size), .string ⟨#[]⟩] rfl rfl (World.news_of_block (cs := #[.string (s.extract p s.size), .string ⟨#[]⟩]) (t := 9) (fr := (0, 0)) (heap_alloc_new w1 _)) (by intro u hu; simp at hu; rcases hu with rfl | rfl <;> rfl) (by unfold maxLen; omega) (by omega) (by have := HR.out.touch.size; have := a1.size; simp; omega) ?_; intro v' w2 hown' hgrow hnil)))
      have hm : L.map Value.string ++ [Value.string (s.extract p s.size), .string ⟨#[]⟩] = (L ++ [s.extract p s.size, ⟨#[]⟩]).map Value.string := by simp
      rw [hm] at hown'
      have S1 := hid (sum_own hown' (by omega) (by omega) (fun t ht => by
        simp only [List.mem_append, List.mem_cons, List.not_mem_nil, or_false] at ht
        rcases ht with ht | rfl | rfl
        · exact HR.out.size t ht
        · rw [ByteArray.size_extract]; unfold maxLen; omega
        · decide))
      rw [cat_all HR.out.all] at S1
      have T2 : Hid (Touch [] w w2) := ((HR.out.touch.trans a1 (by simp)).alloc _).grown hgrow (fun b hb => .inr (HR.out.own.lt b hb).1)
      have S2 := hid fun (w3 : World) => sum_one w3.heap.size 1 s (w3.alloc (.cells #[.string s] 9)) (by unfold maxLen; omega) (cell_of (heap_alloc_new w3 _) 0)
      have S4 := hid fun (w3 : World) => sum_one w3.heap.size 1 ⟨#[]⟩ (w3.alloc (.cells #[.string ⟨#[]⟩] 9)) (by decide) (cell_of (heap_alloc_new w3 _) 0)
      clear hown' hgrow hnil hm hown1 a1 hp hl2 hpI
      refine S1.out.mono ?_
      rintro e w3 ⟨rfl, b1⟩
      go_wp2_with fail
      refine (S2.out _).mono ?_
      rintro e w4 ⟨rfl, b2⟩
      go_wp2_with fail
      refine (sum_none none 0 _).mono ?_
      rintro e w5 ⟨rfl, b3⟩
      go_wp2_with fail
      refine (S4.out _).mono ?_
      rintro e w6 ⟨rfl, b4⟩
      have T6 : Hid (Touch [] w w6) := (((((T2.out.trans b1 (by simp)).alloc _).trans b2 (by simp)).trans b3 (by simp)).alloc _).trans b4 (by simp)
      clear b1 b2 b3 b4
      go_wp2_with fail
      go_ret
      exact ⟨rfl, T6.out⟩

theorem walk_CheckParts (s : ByteArray) (_ws : s.size ≤ maxLen) (v : Value) (l : List Int) (w : World) (hv : Ints w v l) :
    Calls Try.prog 5 #[.string s, v] w fun e w' => e = .returned (.bool true) ∧ Touch [] w w' := by
  obtain ⟨x, c, rfl, hl, hc⟩ := hv
  by_cases h : (s.size : Int) ≤ 3000 ∧ (l.length : Int) ≤ 40
  · exact parts_full s x l c w h.1 h.2 hc
  · exact parts_early s x l.length c w (by omega)
end Go.Proofs.Ytfmaeaaaiagcbaa
