/- The laws' helpers over lists of texts, further: SameTexts, StaysTexts. append of a list of texts onto a row of one's own, nil or not. LogBacks, walked: where the log is written and read. LogBacks, walked. -/
import Derived.Test.YtjjocnkockeacaaGreatDoorZo
import Derived.Test.YtjjocnkockeacaaGreatDoorZb
import Derived.Test.YtjjocnkockeacaaGreatDoorZt
namespace Go.Proofs.YtjjocnkockeacaaGreatDoor
set_option maxRecDepth 100000
open Go.RowKit Go.Lib

set_option maxHeartbeats 1000000 in
theorem sameTexts_any (x1 x2 : Option Addr) (c1 c2 : Nat) (l1 l2 : List ByteArray) (w : World) (hl1 : l1.length ≤ 9223372036854775807) (hl2 : l2.length ≤ 9223372036854775807) (h1 : TextsX w x1 l1) (h2 : TextsX w x2 l2) :
    Calls Tryz.prog 28 #[.slice x1 l1.length c1, .slice x2 l2.length c2] w fun e w' => e = .returned (.bool (decide (l1 = l2))) ∧ Touch [] w w' := by
  have H1 := hid h1; have H2 := hid h2
  have L1 := hid hl1; have L2 := hid hl2
  clear h1 h2 hl1 hl2
  by_cases hlen : l1.length = l2.length
  · have q : ((l1.length : Int) != (l2.length : Int)) = false := by rw [hlen]; simp
    have HL := hid hlen
    clear hlen
    go_enter Tryz.func28, Tryz.ntmps28
    go_wp2
    go_loopw [5] (fun iv wr => ∃ k : Nat, k ≤ l1.length ∧ iv = .int .i64 k ∧ l1.take k = l2.take k ∧ Touch [] w wr) (fun iv _ => l1.length - (RowKit.intOf iv).toNat)
    case atStart => exact ⟨0, Nat.zero_le _, rfl, rfl, Touch.refl _ _⟩
    case round =>
      obtain ⟨k, hk, rfl, heq, ht⟩ := hrel
      have HE := hid heq
      have HT := hid ht
      clear heq ht
      have hi63 := L1.out
      by_cases hlt : k < l1.length
      · have hlt2 : k < l2.length := by rw [← HL.out]; exact hlt
        obtain ⟨b1, o1, rfl, g1, _⟩ := H1.out k hlt
        obtain ⟨b2, o2, rfl, g2, _⟩ := H2.out k hlt2
        have e1 := HT.out.cell g1
        have e2 := HT.out.cell g2
        have hstep : Hid (l1[k] = l2[k] → l1.take (k + 1) = l2.take (k + 1)) := fun h => by rw [List.take_succ_eq_append_getElem hlt, List.take_succ_eq_append_getElem hlt2, HE.out, h]
        have hne : Hid (l1[k] ≠ l2[k] → decide (l1 = l2) = false) := fun h => by
          rw [decide_eq_false_iff_not]
          intro e
          apply h
          subst e
          rfl
        clear g1 g2
        generalize l1[k] = s1 at *
        generalize l2[k] = s2 at *
        have hl2' : decide (k < l1.length) = true := by simpa using hlt
        have hl2'' : decide (k < l2.length) = true := by simpa using hlt2
        have hI : (k : Int) < l1.length := by omega
        have hI2 : (k : Int) < l2.length := by omega
        by_cases he : s1 = s2
        · have hs := hid (hstep.out he)
          subst he
          clear hne hstep
          go_wp2
          go_quiet (fail)
          go_wp2
          exact ⟨⟨k + 1, by omega, by go_num, hs.out, HT.out.drewN _⟩, by simp [RowKit.intOf]; omega⟩
        · have t1 : (s1.toList == s2.toList) = false := by
            rw [beq_eq_false_iff_ne, ByteArray.toList_eq, ByteArray.toList_eq]
            intro e
            exact he (ByteArray.ext (Array.ext' e))
          have hd := hid (hne.out he)
          clear hstep hne he
          go_wp2
          go_quiet (fail)
          go_wp2
          go_ret
          exact ⟨by rw [hd.out]; rfl, HT.out.drewN _⟩
      · have hk : k = l1.length := by omega
        have hd : decide (l1 = l2) = true := by
          rw [decide_eq_true_iff]
          have e := HE.out
          rw [hk, List.take_of_length_le (Nat.le_refl _), List.take_of_length_le (by rw [HL.out]; exact Nat.le_refl _)] at e
          exact e
        have Hd := hid hd
        have hl2' : decide (k < l1.length) = false := by simpa using hlt
        clear hd hk hlt
        go_wp2
        go_ret
        exact ⟨by rw [Hd.out]; rfl, HT.out⟩
  · have q : ((l1.length : Int) != (l2.length : Int)) = true := by rw [bne_iff_ne]; omega
    have hd : Hid (decide (l1 = l2) = false) := by
      unfold Hid
      rw [decide_eq_false_iff_not]
      intro e
      exact hlen (by rw [e])
    clear hlen
    go_enter Tryz.func28, Tryz.ntmps28
    go_wp2
    go_ret
    exact ⟨by rw [hd.out]; rfl, Touch.refl _ _⟩

end Go.Proofs.YtjjocnkockeacaaGreatDoor

namespace Go.Proofs.YtjjocnkockeacaaGreatDoor
set_option maxRecDepth 100000
open Go.RowKit Go.Lib Go.ChangeShapes Go.WideShapes

theorem slice_own {w : World} {base n : Nat} {v : Value} {xs : List Value} (h : w.ownsRow base TStr 1 v n xs) : ∃ y cap, v = .slice y n cap := by
  rcases h.2 with ⟨rfl, h0⟩ | ⟨g, cap, cur, rfl, _⟩
  · exact ⟨none, 0, by rw [h0]⟩
  · exact ⟨_, cap, rfl⟩
theorem texts_row {w : World} {base n cap : Nat} {y : Option Addr} {l : List ByteArray} (h : w.ownsRow base TStr 1 (.slice y n cap) n (svalsC l)) (hw : ∀ s ∈ l, s.size ≤ maxLen) : TextsX w y l ∧ n = l.length ∧ (y = none → cap = 0 ∧ l = []) := by
  have hn : n = l.length := by have := h.1; simp [svalsC] at this; exact this.symm
  obtain ⟨x, c, he, _, _, ht⟩ := texts_own h hn hw
  cases he
  refine ⟨ht, hn, fun e => ?_⟩
  subst e
  rcases h.2 with ⟨he, h0⟩ | ⟨g, cap, cur, he, _⟩
  · simp only [Value.slice.injEq] at he
    exact ⟨he.2.2, List.eq_nil_of_length_eq_zero (by omega)⟩
  · simp at he
theorem TextsX.sizes {w : World} {x : Option Addr} {l : List ByteArray} (h : TextsX w x l) : ∀ s ∈ l, s.size ≤ maxLen := fun s hs => by
  obtain ⟨i, hi, rfl⟩ := List.getElem_of_mem hs
  obtain ⟨_, _, _, _, h3⟩ := h i hi
  exact h3

theorem wpList_append_texts {w : World} {ops : Array Oper} {rest : List Oper} {o : Oper} {a : Act} {Q : Exit → Act → World → Prop} (hgd : o.guard = none) (s x : Operand)
    (ho : o.op = .call { callee := .builtin .append, args := #[s, x], argTypes := #[43, 43] })
    (base : Nat) (v : Value) (n : Nat) (xs : List ByteArray) (hs : a.eval s = v) (hown : w.ownsRow base TStr 1 v n (svalsC xs))
    (ax : Option Addr) (m c : Nat) (l : List ByteArray) (hx : a.eval x = .slice ax m c) (hm : m = l.length) (htx : TextsX w ax l) (hnone : ax = none → c = 0 ∧ l = []) (hb : n + m ≤ 1000000) (hbase : base ≤ w.heap.size)
    (h : ∀ y cap w', w'.ownsRow base TStr 1 (.slice y (n + m) cap) (n + m) (svalsC (xs ++ l)) → w.grownBy w' v.ownBlock → wpList Tryz.prog ops Q rest (a.put o.dst (.slice y (n + m) cap)) w') : wpList Tryz.prog ops Q (o :: rest) a w := by
  obtain ⟨i0, hi, hz0, hz1, hz2⟩ := info_parts infoStrP
  subst hm
  cases ax with
  | none =>
    obtain ⟨rfl, rfl⟩ := hnone rfl
    refine wpList_append_own_none hgd s x 43 ho base TStr i0 1 Tryz.underlying43 hi v n (svalsC xs) hs hown hx ?_
    obtain ⟨y, cap, rfl⟩ := slice_own hown
    exact h y cap w (by simpa using hown) ⟨rfl, rfl, rfl, Nat.le_refl _, fun _ _ _ => rfl⟩
  | some ad =>
    have hnews : ∀ j u, (svalsC l)[j]? = some u → w.cell? (ad.add j) = some u := fun j u hu => by
      unfold svalsC at hu
      rw [List.getElem?_map] at hu
      cases hj : l[j]? with
      | none => rw [hj] at hu; cases hu
      | some t =>
        rw [hj] at hu
        obtain ⟨hlt, rfl⟩ := List.getElem?_eq_some_iff.1 hj
        obtain ⟨b, off, he, h2, _⟩ := htx j hlt
        obtain rfl := Option.some.inj he
        rw [show (⟨b, off, none⟩ : Addr).add j = ⟨b, off + j, none⟩ from by unfold Addr.add; split <;> simp_all, h2]
        exact hu
    refine wpList_append_own _ hgd s x 43 ho base TStr i0 (.string ⟨#[]⟩) 1 16 Tryz.underlying43 hi hz0 hz1 hz2 rfl (by decide) v n (svalsC xs) hs hown ad l.length c (svalsC l) hx (by simp [svalsC]) hnews (by intro u hu; simp [svalsC] at hu; obtain ⟨t, _, rfl⟩ := hu; rfl) (by unfold maxLen; omega) (by omega) hbase ?_
    intro v' w' hown' hg _
    obtain ⟨y, cap, rfl⟩ := slice_own hown'
    exact h y cap w' (by unfold svalsC at *; rw [List.map_append]; exact hown') hg
end Go.Proofs.YtjjocnkockeacaaGreatDoor

namespace Go.Proofs.YtjjocnkockeacaaGreatDoor
open Go.RowKit Go.Lib
set_option maxRecDepth 100000

theorem TextsX.txr {w : World} {x : Option Addr} {l : List ByteArray} (h : TextsX w x l) : TxR w x l := fun i hi => by
  obtain ⟨b, off, h1, h2, _⟩ := h i hi
  exact ⟨b, off, h1, h2⟩
theorem cat_mem {l : List ByteArray} {s : ByteArray} (h : s ∈ l) : s.size ≤ (cat l).length := by
  obtain ⟨i, hi, rfl⟩ := List.getElem_of_mem h
  exact get_le hi

/-- Range, as the appends want it. -/
theorem lst_range_tx {O : List Nat} {W w : World} {d b z : Nat} {cs : List (List ByteArray)} {sy : Nat} {la : Bool} {tail : List Fl} {mk : Nat} {k : Dk} {S : Lg} (h : Lst O W w d b z cs sy la tail mk k S) (l : List ByteArray) (hfl : cs.flatten = l) (n m : Nat) (hn : n < l.length) (hm : m ≤ 100000) (hs : ∀ s ∈ l, s.size ≤ maxLen) :
    Calls Tryz.prog 20 #[.pointer (some ⟨b, 0, none⟩), .int .i64 n, .int .i64 m] w fun e w' => ∃ y q c, e = .returned (.slice y q c) ∧ Hid (q = ((l.drop n).take m).length ∧ TextsX w' y ((l.drop n).take m) ∧ (y = none → c = 0 ∧ (l.drop n).take m = [])) ∧ Touch [] w w' := by
  have h0 := lst_range h n m (by rw [hfl]; exact hn) hm
  rw [hfl] at h0
  refine h0.mono ?_
  rintro e w' ⟨v, rfl, hO, t⟩
  obtain ⟨y, c, rfl⟩ := slice_own hO
  obtain ⟨r1, r2, r3⟩ := texts_row (l := (l.drop n).take m) hO fun s hs2 => hs s (List.mem_of_mem_drop (List.mem_of_mem_take hs2))
  exact ⟨y, _, c, rfl, hid ⟨r2, r1, r3⟩, t⟩
theorem lst_back_tx {O : List Nat} {W w : World} {d b z : Nat} {cs : List (List ByteArray)} {sy : Nat} {la : Bool} {tail : List Fl} {mk : Nat} {k : Dk} {S : Lg} (h : Lst O W w d b z cs sy la tail mk k S) (l : List ByteArray) (hfl : cs.flatten = l) (n m q : Nat) (hq : q = min m (n + 1)) (hn : n < l.length) (h1 : 1 ≤ m) (hm : m ≤ 100000) (hs : ∀ s ∈ l, s.size ≤ maxLen) :
    Calls Tryz.prog 21 #[.pointer (some ⟨b, 0, none⟩), .int .i64 n, .int .i64 m] w fun e w' => ∃ y c, e = .returned (.slice y q c) ∧ Hid (TextsX w' y ((l.drop (n + 1 - q)).take q).reverse) ∧ Touch [] w w' := by
  have h0 := lst_back h n m n q (by rw [hfl]; omega) hq (by rw [hfl]; omega) hm h1
  rw [hfl] at h0
  refine h0.mono ?_
  rintro e w' ⟨v, rfl, hO, t⟩
  obtain ⟨y, c, rfl⟩ := slice_own hO
  obtain ⟨r1, r2, r3⟩ := texts_row (l := ((l.drop (n + 1 - q)).take q).reverse) hO fun s hs2 => hs s (List.mem_of_mem_drop (List.mem_of_mem_take (List.mem_reverse.1 hs2)))
  exact ⟨y, c, rfl, hid r1, t⟩
theorem rev_at {l : List ByteArray} {a q i : Nat} (h1 : a < l.length) (h2 : q ≤ a + 1) (h3 : i < q) (h4 : i < ((l.drop (a + 1 - q)).take q).reverse.length) : l[a - i]? = some (((l.drop (a + 1 - q)).take q).reverse[i]) := by
  simp only [List.getElem_reverse, List.getElem_take, List.getElem_drop, List.length_take, List.length_drop]
  rw [List.getElem?_eq_getElem (by omega)]
  congr 2
  omega
theorem rev_len {l : List ByteArray} {a q : Nat} (h1 : a < l.length) (h2 : q ≤ a + 1) : ((l.drop (a + 1 - q)).take q).reverse.length = q := by
  simp only [List.length_reverse, List.length_take, List.length_drop]
  omega
theorem Left.back {W W' w : World} {d : Nat} {k : Dk} (h : Left d [] W' k w) (t : Touch [] W W') : Left d [] W k w := by
  obtain ⟨own, h1, h2, h3⟩ := h
  exact ⟨own, h1, t.trans h2 (by simp), fun i hi => by
    rcases h3 i hi with h4 | h4
    · exact .inl h4
    · exact .inr (Nat.le_trans t.size h4)⟩
set_option maxHeartbeats 2000000 in
theorem backs_good (z : Nat) (n : Int) (l : List ByteArray) (x : Option Addr) (c : Nat) (w : World) (h1 : 100 ≤ z) (h2 : z ≤ 2000) (hl0 : l.length ≤ 9223372036854775807) (HX : TextsX w x l) :
    Calls Tryz.prog 5 #[.int .i64 z, .slice x l.length c, .int .i64 n] w fun e w' => e = .returned (.bool true) ∧ Touch [] w w' := by
  have AL := hid fun w => alive_true w
  have CN := hid fun w => new_left 0 w
  have CO := hid fun d w1 (h : Left d [] w (newD 0) w1) => lst_open (z := z) h gd_new (by omega) (by omega)
  have CH := hid fun w' (t : Touch [] w w') => short_any 40 3000 x c l w' (by omega) (HX.touch t) (by omega) (by omega) (by omega)
  have HX0 := hid HX
  have d1 : decide ((z : Int) < 100) = false := decide_eq_false (by omega)
  have d2 : decide ((2000 : Int) < (z : Int)) = false := decide_eq_false (by omega)
  clear HX
  go_enter Tryz.func5, Tryz.ntmps5
  go_wp2_with fail
  refine (CH.out _ (Touch.refl _ _)).mono ?_
  rintro e w1 ⟨r, rfl, t1, hsh⟩
  have T1 := hid t1
  clear t1
  cases r
  · clear hsh
    go_wp2_with (go_at_call 8; refine (AL.out _).mono ?_; rintro e w12 ⟨rfl, t12⟩; have T12 := hid (T1.out.trans t12 (by simp)); clear t12)
    go_ret
    exact ⟨rfl, T12.out⟩
  obtain ⟨hl, hc⟩ := hsh rfl
  clear hsh
  by_cases hn : 1 ≤ n ∧ n ≤ 20
  case neg =>
    by_cases hn1 : n < 1
    · have d3 : decide (n < 1) = true := decide_eq_true hn1
      clear hn hn1
      go_wp2_with (go_at_call 8; refine (AL.out _).mono ?_; rintro e w12 ⟨rfl, t12⟩; have T12 := hid (T1.out.trans t12 (by simp)); clear t12)
      go_ret
      exact ⟨rfl, T12.out⟩
    · have d3 : decide (n < 1) = false := decide_eq_false hn1
      have d4 : decide (20 < n) = true := decide_eq_true (by omega)
      clear hn hn1
      go_wp2_with (go_at_call 8; refine (AL.out _).mono ?_; rintro e w12 ⟨rfl, t12⟩; have T12 := hid (T1.out.trans t12 (by simp)); clear t12)
      go_ret
      exact ⟨rfl, T12.out⟩
  obtain ⟨hn1, hn2⟩ := hn
  have d3 : decide (n < 1) = false := decide_eq_false (by omega)
  have d4 : decide (20 < n) = false := decide_eq_false (by omega)
  go_wp2_with fail
  refine (CN.out _).mono ?_
  rintro e w2 ⟨d, rfl, h2⟩
  have H2 := hid (CO.out _ _ (h2.back T1.out))
  clear h2 T1
  go_wp2_with fail
  refine H2.out.mono ?_
  rintro e w3 ⟨b, rfl, h3⟩
  have H3 := hid h3
  clear h3
  have hz0 := room_zero (z := z) (by omega)
  by_cases hr : ∃ s ∈ l, roomV z 0 < (s.size : Int)
  case pos =>
    have HE := hid hr
    have CA := hid (lappend_long H3.out l x c l.length ((HX0.out.touch H3.out.t).txr) rfl (by omega) HE.out)
    have CL := hid fun w' (t : Touch [] w3 w') => lst_len (H3.out.touch t)
    clear hr
    go_wp2_with fail
    refine CA.out.mono ?_
    rintro e w4 ⟨rfl, hw4⟩
    rw [hw4]
    go_wp2_with (first
      | (go_at_call 8; refine (AL.out _).mono ?_; rintro e w12 ⟨rfl, t12⟩; have T12 := hid t12; clear t12)
      | (go_at_call 17; refine (CL.out _ T12.out).mono ?_; rintro e w13 ⟨rfl, hw13⟩; rw [hw13]))
    go_ret
    exact ⟨rfl, H3.out.t.trans T12.out (by simp)⟩
  have hr2 : ∀ s ∈ l, (s.size : Int) ≤ roomV z 0 := fun s hs => Int.not_lt.1 fun h => hr ⟨s, hs, h⟩
  have CA := hid (lappend_ok H3.out l x c l.length (fun w' t => (HX0.out.touch t).txr) rfl hr2 (by simp; omega) (by simp; omega))
  clear hr hr2
  go_wp2_with fail
  refine CA.out.mono ?_
  rintro e w4 ⟨rfl, k4, S4, sy4, la4, h4⟩
  have H4 := hid h4
  clear h4
  go_wp2_with fail
  have hfl : (addAll z [] l).flatten = l := by rw [addAll_flat]; rfl
  obtain ⟨nn, rfl⟩ : ∃ nn : Nat, n = nn := ⟨n.toNat, by omega⟩
  have HS := hid (show ∀ s ∈ l, s.size ≤ maxLen from HX0.out.sizes)
  have CR := hid fun w' (t : Touch [] w4 w') j (hj : j < l.length) => lst_range_tx (H4.out.touch t) l hfl j nn hj (by omega) HS.out
  have CB := hid fun w' (t : Touch [] w4 w') a (h1 : a < l.length) => lst_back_tx (H4.out.touch t) l hfl a nn _ rfl h1 (by omega) (by omega) HS.out
  have Hl := hid hl
  clear hfl hl hz0
  go_loopw [12, 14] (fun av iv wr => ∃ (j m : Nat) (y : Option Addr) (cap : Nat), j ≤ l.length + 20 ∧ iv = .int .i64 j ∧ av = .slice y m cap ∧ Hid (m = min j l.length ∧ wr.ownsRow w4.heap.size TStr 1 (.slice y m cap) m (svalsC (l.take j)) ∧ Touch [] w4 wr)) (fun _ iv _ => l.length - (RowKit.intOf iv).toNat)
  case atStart => exact ⟨0, 0, none, 0, by omega, rfl, rfl, hid ⟨by omega, World.ownsRow_nil _ _ _ _, Touch.refl _ _⟩⟩
  case round =>
    obtain ⟨j, m, y, cap, hj, rfl, rfl, I⟩ := hrel
    by_cases hlt : j < l.length
    · have hlt' : decide (j < l.length) = true := by simpa using hlt
      have CRj := hid fun w' t => CR.out w' t j hlt
      have hta : Hid (l.take (j + nn) = l.take j ++ (l.drop j).take nn) := hid List.take_add
      have hql : Hid (((l.drop j).take nn).length = min nn (l.length - j)) := hid (by simp)
      generalize (l.drop j).take nn = seg at *
      have hll := Hl.out
      go_wp2_with (first
        | (go_at_call 20; refine (CRj.out _ I.out.2.2).mono ?_; rintro e w6 ⟨y6, q6, c6, rfl, R6, t6⟩; have I6 := hid (own_touch I.out.2.1 t6 (by simp)); have T6 := hid (I.out.2.2.trans t6 (by simp)); clear t6)
        | (at_builtin; refine wpList_append_texts rfl _ _ rfl w4.heap.size (.slice y m cap) m (l.take j) rfl I6.out y6 q6 c6 seg rfl R6.out.1 R6.out.2.1 R6.out.2.2 (by have := R6.out.1; have := hql.out; have := I.out.1; omega) T6.out.size ?_; intro y7 c7 w7 hO7 hg7; have O7 := hid hO7; have G7 := hid hg7; clear hO7 hg7))
      go_roundw
      case rel =>
        refine ⟨j + nn, m + q6, y7, c7, by omega, by go_num, rfl, hid ⟨by have := R6.out.1; have := hql.out; have := I.out.1; omega, ?_, T6.out.grown G7.out (fun k hk => .inr (own_base I6.out k (Option.mem_toList.2 hk)))⟩⟩
        rw [hta.out]
        exact O7.out
      case measure => simp [RowKit.intOf]; omega
    · have hlt' : decide (j < l.length) = false := by simpa using hlt
      have hI : Hid (m = l.length ∧ wr.ownsRow w4.heap.size TStr 1 (.slice y m cap) m (svalsC l) ∧ Touch [] w4 wr) := hid (by
        have := I.out
        rw [List.take_of_length_le (by omega)] at this
        exact ⟨by omega, this.2⟩)
      clear I
      go_wp2_with fail
      clear hlt hlt' hj CR
      generalize wr = wa at *
      go_loopw [13, 15] (fun av iv wr2 => ∃ (k m2 : Nat) (y2 : Option Addr) (cap2 : Nat) (at2 : Int), k ≤ l.length + 20 ∧ iv = .int .i64 at2 ∧ av = .slice y2 m2 cap2 ∧ Hid (at2 = (l.length : Int) - 1 - k ∧ m2 = min k l.length ∧ wr2.ownsRow wa.heap.size TStr 1 (.slice y2 m2 cap2) m2 (svalsC (l.drop (l.length - k))) ∧ Touch [] wa wr2)) (fun _ iv _ => (RowKit.intOf iv + 30).toNat)
      case atStart => exact ⟨0, 0, none, 0, _, by omega, rfl, rfl, hid ⟨by omega, by omega, by rw [Nat.sub_zero, List.drop_length]; exact World.ownsRow_nil _ _ _ _, Touch.refl _ _⟩⟩
      case round =>
        obtain ⟨k, m2, y2, cap2, at2, hk, rfl, rfl, I⟩ := hrel
        by_cases hlt : k < l.length
        · obtain ⟨a, ha⟩ : ∃ a : Nat, at2 = a := ⟨at2.toNat, by have := I.out.1; omega⟩
          subst ha
          have hpos : decide ((0 : Int) ≤ (a : Int)) = true := decide_eq_true (by omega)
          have CBa := hid fun w' t => CB.out w' t a (by have := I.out.1; omega)
          have hq := hid (show min nn (a + 1) ≤ a + 1 from Nat.min_le_right _ _)
          generalize hqq : min nn (a + 1) = q at *
          have HQ := hid hqq
          have hq20 : q ≤ 20 := by omega
          have hrl := hid (rev_len (l := l) (a := a) (q := q) (by have := I.out.1; omega) hq.out)
          have hra := hid fun i (h3 : i < q) h4 => rev_at (l := l) (a := a) (q := q) (by have := I.out.1; omega) hq.out h3 h4
          generalize ((l.drop (a + 1 - q)).take q).reverse = seg at *
          clear hqq
          go_wp2_with (go_at_call 21; refine (CBa.out _ (hI.out.2.2.trans I.out.2.2.2 (by simp))).mono ?_; rintro e w6 ⟨y6, c6, rfl, R6, t6⟩; have T6 := hid t6; clear t6)
          have hm2 := hid I.out.2.1
          have hak : Hid (a + k + 1 = l.length) := hid (by have := I.out.1; omega)
          have I2 := hid (own_touch I.out.2.2.1 T6.out (by simp))
          have TA := hid (I.out.2.2.2.trans T6.out (by simp))
          clear I
          go_loopw [13, 17] (fun av iv wr3 => ∃ (i m3 : Nat) (y3 : Option Addr) (cap3 : Nat), i ≤ q ∧ iv = .int .i64 i ∧ av = .slice y3 m3 cap3 ∧ Hid (m3 = m2 + i ∧ wr3.ownsRow wa.heap.size TStr 1 (.slice y3 m3 cap3) m3 (svalsC (l.drop (l.length - (k + i)))) ∧ Touch [] w6 wr3)) (fun _ iv _ => q - (RowKit.intOf iv).toNat)
          case atStart => exact ⟨0, m2, y2, cap2, Nat.zero_le _, rfl, rfl, hid ⟨rfl, I2.out, Touch.refl _ _⟩⟩
          case round =>
            obtain ⟨i, m3, y3, cap3, hi, rfl, rfl, J⟩ := hrel
            by_cases hiq : i < q
            · have hiq' : decide (i < q) = true := by simpa using hiq
              obtain ⟨g, off, rfl, hg, hgs⟩ := (R6.out.touch J.out.2.2) i (by rw [hrl.out]; exact hiq)
              have hsi := hid (hra.out i hiq (by rw [hrl.out]; exact hiq))
              generalize seg[i]'(by rw [hrl.out]; exact hiq) = si at *
              have hsd : Hid (l.drop (l.length - (k + (i + 1))) = si :: l.drop (l.length - (k + i))) := hid (by
                have e1 : l.length - (k + (i + 1)) = a - i := by have := hak.out; have := hq.out; omega
                have e2 : l.length - (k + i) = a - i + 1 := by have := hak.out; have := hq.out; omega
                obtain ⟨hlt3, e3⟩ := List.getElem?_eq_some_iff.1 hsi.out
                rw [e1, e2, ← e3]
                exact List.drop_eq_getElem_cons hlt3)
              clear hsi
              have hsz2 : Hid (∀ s ∈ l.drop (l.length - (k + i)), s.size ≤ maxLen) := hid fun s hs => HS.out s (List.mem_of_mem_drop hs)
              have hln : Hid (m3 ≤ 200) := hid (by have := J.out.1; have := hm2.out; have := Hl.out; have := hq.out; have := hak.out; omega)
              generalize l.drop (l.length - (k + i)) = done at *
              have RW := hid (texts_row ((J.out.2.1).alloc (.cells #[.string si] TStr)) hsz2.out)
              have OL := hid (World.ownsRow_lit (base := wa.heap.size) (e := TStr) (size := 1) wr #[.string si] 1 (by have := TA.out.size; have := J.out.2.2.size; omega) (by decide) rfl)
              go_wp2_with (at_builtin; refine wpList_append_texts rfl _ _ rfl wa.heap.size (.slice (some ⟨wr.heap.size, 0, none⟩) 1 1) 1 [si] rfl OL.out y3 m3 cap3 done rfl RW.out.2.1 RW.out.1 RW.out.2.2 (by have := hln.out; omega) (by have := TA.out.size; have := J.out.2.2.size; simp; omega) ?_; intro y7 c7 w7 hO7 hg7; have O7 := hid hO7; have G7 := hid hg7; clear hO7 hg7)
              go_roundw
              case rel =>
                refine ⟨i + 1, 1 + m3, y7, c7, by omega, by go_num, rfl, hid ⟨by have := J.out.1; omega, ?_, (J.out.2.2.alloc _).grown G7.out (fun k hk => .inr (by simp [Value.ownBlock] at hk; have := J.out.2.2.size; omega))⟩⟩
                rw [hsd.out]
                exact O7.out
              case measure => simp [RowKit.intOf]; omega
            · have hiq' : decide (i < q) = false := by simpa using hiq
              obtain rfl : i = q := by omega
              have ha40 : a ≤ 40 := by have := hak.out; have := Hl.out; omega
              go_wp2_with fail
              go_roundw
              case rel =>
                refine ⟨k + nn, m3, y3, cap3, _, by omega, rfl, rfl, hid ⟨?_, ?_, ?_, TA.out.trans J.out.2.2 (by simp)⟩⟩
                · have := hak.out; have := Hl.out; omega
                · have := J.out.1; have := hm2.out; have := HQ.out; have := hak.out; omega
                · have e : l.length - (k + nn) = l.length - (k + i) := by have := HQ.out; have := hak.out; omega
                  rw [e]
                  exact J.out.2.1
              case measure => simp [RowKit.intOf]; omega
        · have hpos : decide ((0 : Int) ≤ at2) = false := decide_eq_false (by have := I.out.1; omega)
          have hI2 : Hid (m2 = l.length ∧ wr.ownsRow wa.heap.size TStr 1 (.slice y2 m2 cap2) m2 (svalsC l) ∧ Touch [] wa wr) := hid (by
            have := I.out
            have e : l.length - k = 0 := by omega
            rw [e, List.drop_zero] at this
            exact ⟨by omega, this.2.2⟩)
          clear I
          have H12 := hid ((H4.out.t.trans hI.out.2.2 (by simp)).trans hI2.out.2.2 (by simp))
          have R1 := hid (texts_row (own_touch hI.out.2.1 hI2.out.2.2 (by simp)) HS.out)
          have R2 := hid (texts_row hI2.out.2.1 HS.out)
          obtain rfl : m = l.length := hI.out.1
          obtain rfl : m2 = l.length := hI2.out.1
          have CS := hid fun w' (t : Touch [] wr w') (x1 : Option Addr) c1 (h : TextsX wr x1 l) => sameTexts_any x1 x c1 c l l w' hl0 hl0 (h.touch t) (HX0.out.touch (H12.out.trans t (by simp)))
          clear hl0 hI hI2
          go_wp2_with (first
            | (go_at_call 8; refine (AL.out _).mono ?_; rintro e w12 ⟨rfl, t12⟩; have T12 := hid t12; clear t12)
            | (go_at_call 28; refine (CS.out _ T12.out _ _ R1.out.1).mono ?_; rintro e w13 ⟨rfl, t13⟩; have T13 := hid (T12.out.trans t13 (by simp)); clear t13; clear R1)
            | (go_at_call 28; refine (CS.out _ T13.out _ _ R2.out.1).mono ?_; rintro e w14 ⟨rfl, t14⟩; have T14 := hid (T13.out.trans t14 (by simp)); clear t14))
          go_ret
          exact ⟨by simp, H12.out.trans T14.out (by simp)⟩
end Go.Proofs.YtjjocnkockeacaaGreatDoor

namespace Go.Proofs.YtjjocnkockeacaaGreatDoor
open Go.RowKit Go.Lib
set_option maxRecDepth 100000

theorem walk_LogBacks (z : Int) (_hz : (Lit.int .i64 z).wf = true) (v : Value) (l : List ByteArray) (n : Int) (_hn : (Lit.int .i64 n).wf = true) (W : World) (h : Strs W v l) : Calls Tryz.prog 5 #[.int .i64 z, v, .int .i64 n] W fun e w' => e = .returned (.bool true) ∧ Touch [] W w' := by
  obtain ⟨x, c, rfl, hl, hx, -⟩ := h
  have AL := hid fun w => alive_true w
  by_cases h1 : z < 100
  · have d1 : decide (z < 100) = true := decide_eq_true h1
    clear h1 hx hl
    go_enter Tryz.func5, Tryz.ntmps5
    go_wp2_with (go_at_call 8; refine (AL.out _).mono ?_; rintro e w12 ⟨rfl, t12⟩; have T12 := hid t12; clear t12)
    go_ret
    exact ⟨rfl, T12.out⟩
  by_cases h2 : 2000 < z
  · have d1 : decide (z < 100) = false := decide_eq_false h1
    have d2 : decide (2000 < z) = true := decide_eq_true h2
    clear h1 h2 hx hl
    go_enter Tryz.func5, Tryz.ntmps5
    go_wp2_with (go_at_call 8; refine (AL.out _).mono ?_; rintro e w12 ⟨rfl, t12⟩; have T12 := hid t12; clear t12)
    go_ret
    exact ⟨rfl, T12.out⟩
  obtain ⟨zz, rfl⟩ : ∃ zz : Nat, z = zz := ⟨z.toNat, by omega⟩
  exact backs_good zz n l x c W (by omega) (by omega) hl hx
end Go.Proofs.YtjjocnkockeacaaGreatDoor
