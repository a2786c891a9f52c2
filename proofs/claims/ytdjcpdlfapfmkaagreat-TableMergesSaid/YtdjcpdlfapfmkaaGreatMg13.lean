/- Two lists in order told together, each entry once: past, both. -/
import Derived.Test.YtdjcpdlfapfmkaaGreatLm13
import Derived.Test.YtdjcpdlfapfmkaaGreatWi12
import Derived.OwnWalk
import Derived.BigQuiet
namespace Go.Proofs.YtdjcpdlfapfmkaaGreat
open Go.RowKit Go.Lib
set_option maxRecDepth 100000

def mrg : List En → List En → List En
  | [], b => b
  | x :: a, [] => x :: a
  | x :: a, y :: b => if x = y then x :: mrg a b else if ltE y x then y :: mrg (x :: a) b else x :: mrg a (y :: b)
termination_by a b => a.length + b.length
theorem mrg_nil (a : List En) : mrg a [] = a := by cases a <;> simp [mrg]
theorem nil_mrg (b : List En) : mrg [] b = b := by simp [mrg]
/-- The list without an entry, if it begins with that. -/
def pastE (l : List En) (e : En) : List En := match l with
  | [] => []
  | x :: t => if x = e then t else x :: t
def leastE (x y : En) : En := if ltE y x then y else x
theorem mrg_step (x y : En) (a b : List En) : mrg (x :: a) (y :: b) = leastE x y :: mrg (pastE (x :: a) (leastE x y)) (pastE (y :: b) (leastE x y)) := by
  rw [mrg]
  by_cases h : x = y
  · subst h
    simp [leastE, pastE, ltE_irrefl]
  · rw [if_neg h]
    by_cases k : ltE y x
    · rw [if_pos k]
      simp [leastE, pastE, if_pos k, h]
    · rw [if_neg k]
      have h' : ¬ y = x := fun e => h e.symm
      simp [leastE, pastE, if_neg k, h']
theorem mrg_props : ∀ (n : Nat) (a b : List En), a.length + b.length ≤ n → SortedE a → SortedE b → SortedE (mrg a b) ∧ (∀ z, z ∈ mrg a b ↔ z ∈ a ∨ z ∈ b) ∧ (mrg a b).length ≤ a.length + b.length
  | 0, a, b, h, _, _ => by
    obtain rfl : a = [] := List.eq_nil_of_length_eq_zero (by omega)
    obtain rfl : b = [] := List.eq_nil_of_length_eq_zero (by omega)
    simp [mrg, SortedE]
  | n + 1, [], b, _, _, hb => by rw [nil_mrg]; exact ⟨hb, by simp, by simp⟩
  | n + 1, x :: a, [], _, ha, _ => by rw [mrg_nil]; exact ⟨ha, by simp, by simp⟩
  | n + 1, x :: a, y :: b, h, ha, hb => by
    simp only [List.length_cons] at h
    obtain ⟨ha1, ha2⟩ := List.pairwise_cons.1 ha
    obtain ⟨hb1, hb2⟩ := List.pairwise_cons.1 hb
    rw [mrg]
    by_cases e : x = y
    · subst e
      rw [if_pos rfl]
      obtain ⟨i1, i2, i3⟩ := mrg_props n a b (by omega) ha2 hb2
      refine ⟨List.pairwise_cons.2 ⟨fun z hz => ?_, i1⟩, fun z => ?_, ?_⟩
      · rcases (i2 z).1 hz with k | k
        · exact ha1 z k
        · exact hb1 z k
      · simp only [List.mem_cons, i2]
        constructor
        · rintro (k | k | k)
          · exact .inl (.inl k)
          · exact .inl (.inr k)
          · exact .inr (.inr k)
        · rintro ((k | k) | (k | k))
          · exact .inl k
          · exact .inr (.inl k)
          · exact .inl k
          · exact .inr (.inr k)
      · simp only [List.length_cons]; omega
    · rw [if_neg e]
      by_cases k : ltE y x
      · rw [if_pos k]
        obtain ⟨i1, i2, i3⟩ := mrg_props n (x :: a) b (by simp only [List.length_cons]; omega) ha hb2
        refine ⟨List.pairwise_cons.2 ⟨fun z hz => ?_, i1⟩, fun z => ?_, ?_⟩
        · rcases (i2 z).1 hz with k' | k'
          · rcases List.mem_cons.1 k' with rfl | k2
            · exact k
            · exact ltE_trans k (ha1 z k2)
          · exact hb1 z k'
        · simp only [List.mem_cons, i2]
          constructor
          · rintro (k' | k' | k')
            · exact .inr (.inl k')
            · exact .inl k'
            · exact .inr (.inr k')
          · rintro (k' | (k' | k'))
            · exact .inr (.inl k')
            · exact .inl k'
            · exact .inr (.inr k')
        · simp only [List.length_cons] at i3 ⊢; omega
      · rw [if_neg k]
        have k1 : ltE x y := by
          rcases ltE_tri x y with h1 | h1 | h1
          · exact absurd h1 e
          · exact h1
          · exact absurd h1 k
        obtain ⟨i1, i2, i3⟩ := mrg_props n a (y :: b) (by simp only [List.length_cons]; omega) ha2 hb
        refine ⟨List.pairwise_cons.2 ⟨fun z hz => ?_, i1⟩, fun z => ?_, ?_⟩
        · rcases (i2 z).1 hz with k' | k'
          · exact ha1 z k'
          · rcases List.mem_cons.1 k' with rfl | k2
            · exact k1
            · exact ltE_trans k1 (hb1 z k2)
        · simp only [List.mem_cons, i2]
          constructor
          · rintro (k' | k' | k')
            · exact .inl (.inl k')
            · exact .inl (.inr k')
            · exact .inr k'
          · rintro ((k' | k') | k')
            · exact .inl k'
            · exact .inr (.inl k')
            · exact .inr (.inr k')
        · simp only [List.length_cons] at i3 ⊢; omega
theorem past_len (l : List En) (e : En) : (pastE l e).length ≤ l.length := by
  cases l with
  | nil => simp [pastE]
  | cons x t => simp only [pastE]; split <;> simp
theorem past_least (x y : En) (a b : List En) : (pastE (x :: a) (leastE x y)).length + (pastE (y :: b) (leastE x y)).length < (x :: a).length + (y :: b).length := by
  unfold leastE
  split
  · have := past_len (x :: a) y
    simp only [pastE, if_true, List.length_cons] at *
    omega
  · have := past_len (y :: b) x
    simp only [pastE, if_true, List.length_cons] at *
    omega

/-- append of a list of entries, nil or not, at a plain region's list. -/
theorem wpList_append_entx (w : World) {ops : Array Oper} {rest : List Oper} {o : Oper} {a : Act} {Q : Exit → Act → World → Prop} (hgd : o.guard = none) (s x : Operand)
    (ho : o.op = .call { callee := .builtin .append, args := #[s, x], argTypes := #[TEns, TEns] })
    (base : Nat) (v : Value) (m : List En) (hs : a.eval s = v) (hown : w.ownsRow base TEn 3 v m.length (envals m)) (y : Option Addr) (c : Nat) (l : List En) (hx : a.eval x = .slice y l.length c) (hX : EntX w y l) (hc : y = none → c = 0)
    (hn : m.length + l.length ≤ 1000000000) (hbase : base ≤ w.heap.size)
    (h : ∀ y' cap w', Grew w w' base TEn 3 v (.slice y' (m.length + l.length) cap) m.length l.length (envals m) (envals l) → wpList Tryz.prog ops Q rest (a.put o.dst (.slice y' (m.length + l.length) cap)) w') : wpList Tryz.prog ops Q (o :: rest) a w := by
  obtain ⟨i0, hi, hz0, hz1, hz2⟩ := info_parts infoEn
  cases y with
  | none =>
    obtain rfl := hc rfl
    have hl0 : l = [] := by
      cases l with
      | nil => rfl
      | cons e l => obtain ⟨b, off, hb, _⟩ := hX 0 (by simp); cases hb
    subst hl0
    obtain ⟨y', cap, rfl, _, _⟩ := slice_form hown
    exact wpList_append_own_none hgd s x TEns ho base TEn i0 3 Tryz.underlying22 hi _ m.length (envals m) hs hown hx (h y' cap w (by simpa [envals] using grew_none hown))
  | some ad =>
    exact wpList_append_cells w hgd s x TEns ho base TEn i0 (.agg #[.int .i64 0, .int .i64 0, .int .i64 0]) 3 24 Tryz.underlying22 hi hz0 hz1 hz2 rfl (by decide) v m.length (envals m) hs hown ad l.length c (envals l) hx (envals_len l) (entX_cells hX) (envals_one l) hn (by decide) hbase h

set_option maxHeartbeats 1000000 in
theorem past_any (x : Option Addr) (c : Nat) (y : En) (t : List En) (e : En) (w : World) (hx : EntX w x (y :: t)) (hlen : (y :: t).length ≤ 1000000) (hc : (y :: t).length ≤ c) :
    ∃ (x' : Option Addr) (c' : Nat), ((pastE (y :: t) e).length ≤ c' ∧ (x' = none → c' = 0) ∧ EntX w x' (pastE (y :: t) e)) ∧ Hid (∀ W, Touch [] w W →
      Calls Tryz.prog 119 #[.slice x (y :: t).length c, enV e] W fun r w' => r = .returned (.slice x' (pastE (y :: t) e).length c') ∧ Touch [] W w') := by
  obtain ⟨b, off, rfl, g0, g1, g2⟩ := hx 0 (by simp)
  have HX := hid hx
  have hI : (0 : Int) < ((y :: t).length : Int) := by simp only [List.length_cons]; omega
  have hN : 0 < (y :: t).length := by simp
  have e0 := fun W (h : Touch [] w W) => h.cell g0
  have e1 := fun W (h : Touch [] w W) => h.cell g1
  have e2 := fun W (h : Touch [] w W) => h.cell g2
  simp only [Nat.zero_mul, Nat.add_zero, List.getElem_cons_zero] at e0 e1 e2
  clear hx g0 g1 g2
  by_cases he : y = e
  · subst he
    have hp : pastE (y :: t) y = t := by simp [pastE]
    rw [hp]
    have X1 : c = 1 ∨ c ≠ 1 := by omega
    rcases X1 with h1 | h1
    · subst h1
      obtain rfl : t = [] := List.eq_nil_of_length_eq_zero (by simp only [List.length_cons] at hc; omega)
      refine ⟨some ⟨b, off, none⟩, 0, ⟨by simp, fun h => (by cases h), entX_nil _ _⟩, hid fun V hV => ?_⟩
      obtain ⟨W, hW⟩ : ∃ W, W = V.alloc (.cells #[.int .i64 y.1, .int .i64 y.2.1, .int .i64 y.2.2] TEn) := ⟨_, rfl⟩
      obtain ⟨b1, hb1⟩ : ∃ b1, b1 = V.heap.size := ⟨_, rfl⟩
      have E1 : EnB W b1 y := by rw [hW, hb1]; exact heap_alloc_new V _
      have T1 : Hid (Touch [] V W) := hid (by rw [hW]; exact (Touch.refl [] V).alloc _)
      obtain ⟨⟨a0, a1, a2⟩, -⟩ := E1.all
      have d0 := e0 _ (hV.trans T1.out.drew (by simp))
      have d1 := e1 _ (hV.trans T1.out.drew (by simp))
      have d2 := e2 _ (hV.trans T1.out.drew (by simp))
      clear E1 e0 e1 e2 hV
      go_enter Tryz.func119, Tryz.ntmps119
      go_upto_region 1 with fail
      rw [← hW, ← hb1]
      clear hW hb1
      go_region
      all_goals go_wp2
      all_goals go_ret
      all_goals exact ⟨rfl, T1.out.drew⟩
    · have h2 : 1 < c := by simp only [List.length_cons] at hc; omega
      refine ⟨some ⟨b, off + 3, none⟩, c - 1, ⟨by simp only [List.length_cons] at hc; omega, fun h => (by cases h), ?_⟩, hid fun V hV => ?_⟩
      · have := entX_part HX.out 1 t.length (by simp; omega) ((some ⟨b, off, none⟩ : Option Addr).map (·.add (1 * 3))) (.inl rfl)
        simpa [Addr.add] using this
      obtain ⟨W, hW⟩ : ∃ W, W = V.alloc (.cells #[.int .i64 y.1, .int .i64 y.2.1, .int .i64 y.2.2] TEn) := ⟨_, rfl⟩
      obtain ⟨b1, hb1⟩ : ∃ b1, b1 = V.heap.size := ⟨_, rfl⟩
      have E1 : EnB W b1 y := by rw [hW, hb1]; exact heap_alloc_new V _
      have T1 : Hid (Touch [] V W) := hid (by rw [hW]; exact (Touch.refl [] V).alloc _)
      obtain ⟨⟨a0, a1, a2⟩, -⟩ := E1.all
      have d0 := e0 _ (hV.trans T1.out.drew (by simp))
      have d1 := e1 _ (hV.trans T1.out.drew (by simp))
      have d2 := e2 _ (hV.trans T1.out.drew (by simp))
      have hl : (y :: t).length - 1 = t.length := by simp
      clear E1 e0 e1 e2 hV hp
      generalize (y :: t).length = n at *
      have HL := hid hl
      clear hl h2
      go_enter Tryz.func119, Tryz.ntmps119
      go_upto_region 1 with fail
      rw [← hW, ← hb1]
      clear hW hb1
      go_region
      all_goals go_wp2
      all_goals go_ret
      all_goals rw [← HL.out]
      all_goals exact ⟨rfl, T1.out.drew⟩
  · have EQ := en_ne he
    have hp : pastE (y :: t) e = y :: t := by simp [pastE, he]
    rw [hp]
    refine ⟨some ⟨b, off, none⟩, c, ⟨hc, fun h => (by cases h), HX.out⟩, hid fun V hV => ?_⟩
    obtain ⟨W, hW⟩ : ∃ W, W = V.alloc (.cells #[.int .i64 e.1, .int .i64 e.2.1, .int .i64 e.2.2] TEn) := ⟨_, rfl⟩
    obtain ⟨b1, hb1⟩ : ∃ b1, b1 = V.heap.size := ⟨_, rfl⟩
    have E1 : EnB W b1 e := by rw [hW, hb1]; exact heap_alloc_new V _
    have T1 : Hid (Touch [] V W) := hid (by rw [hW]; exact (Touch.refl [] V).alloc _)
    obtain ⟨⟨a0, a1, a2⟩, -⟩ := E1.all
    have d0 := e0 _ (hV.trans T1.out.drew (by simp))
    have d1 := e1 _ (hV.trans T1.out.drew (by simp))
    have d2 := e2 _ (hV.trans T1.out.drew (by simp))
    clear E1 e0 e1 e2 he hV hp
    generalize (y :: t).length = n at *
    go_enter Tryz.func119, Tryz.ntmps119
    go_upto_region 1 with fail
    rw [← hW, ← hb1]
    clear hW hb1
    go_region
    all_goals go_wp2
    all_goals go_ret
    all_goals exact ⟨rfl, T1.out.drew⟩
theorem mrg_len : ∀ (n : Nat) (a b : List En), a.length + b.length ≤ n → (mrg a b).length ≤ a.length + b.length
  | 0, a, b, h => by
    obtain rfl : a = [] := List.eq_nil_of_length_eq_zero (by omega)
    rw [nil_mrg]; omega
  | n + 1, [], b, _ => by rw [nil_mrg]; simp
  | n + 1, x :: a, [], _ => by rw [mrg_nil]; simp
  | n + 1, x :: a, y :: b, h => by
    simp only [List.length_cons] at h
    have h1 := mrg_len n a b (by omega)
    have h2 := mrg_len n (x :: a) b (by simp only [List.length_cons]; omega)
    have h3 := mrg_len n a (y :: b) (by simp only [List.length_cons]; omega)
    rw [mrg]
    simp only [List.length_cons] at h2 h3 ⊢
    split
    · simp only [List.length_cons]; omega
    · split
      · simp only [List.length_cons]; omega
      · simp only [List.length_cons]; omega
def sliceLen : Value → Nat
  | .slice _ n _ => n
  | _ => 0
/-- How the loop of both stands. -/
structure BothI (w wr : World) (a b a' b' pre : List En) (xa xb : Option Addr) (ca cb : Nat) (vu : Value) : Prop where
  ea : EntX w xa a'
  eb : EntX w xb b'
  ka : a'.length ≤ ca
  kb : b'.length ≤ cb
  za : xa = none → ca = 0
  zb : xb = none → cb = 0
  na : a'.length ≤ 400000
  nb : b'.length ≤ 400000
  np : pre.length ≤ 800000
  eq : pre ++ mrg a' b' = mrg a b
  row : wr.ownsRow w.heap.size TEn 3 vu pre.length (envals pre)
  t : Touch [] w wr

set_option maxHeartbeats 4000000 in
theorem both_any (xa xb : Option Addr) (ca cb : Nat) (a b : List En) (w : World) (ha : EntX w xa a) (hb : EntX w xb b) (na : a.length ≤ 400000) (nb : b.length ≤ 400000) (ka : a.length ≤ ca) (kb : b.length ≤ cb) (za : xa = none → ca = 0) (zb : xb = none → cb = 0) :
    Calls Tryz.prog 109 #[.slice xa a.length ca, .slice xb b.length cb] w fun e w' => ∃ u, e = .returned u ∧ w'.ownsRow w.heap.size TEn 3 u (mrg a b).length (envals (mrg a b)) ∧ Touch [] w w' := by
  obtain ⟨i0, hi, hz0, hz1, hz2⟩ := info_parts infoEn
  have H0 : Hid (BothI w w a b a b [] xa xb ca cb (.slice none 0 0)) := hid ⟨ha, hb, ka, kb, za, zb, na, nb, by simp, rfl, World.ownsRow_nil _ _ _ _, Touch.refl _ _⟩
  have ML : Hid ((mrg a b).length ≤ 800000) := hid (by have := mrg_len _ a b (Nat.le_refl _); omega)
  clear ha hb na nb ka kb za zb
  go_enter Tryz.func109, Tryz.ntmps109
  go_wp2
  go_loopw [0, 1, 5] (fun va vb vu wr => ∃ (a' b' pre : List En) (xa' xb' : Option Addr) (ca' cb' : Nat), va = .slice xa' a'.length ca' ∧ vb = .slice xb' b'.length cb' ∧ Hid (BothI w wr a b a' b' pre xa' xb' ca' cb' vu)) (fun va vb _ _ => sliceLen va + sliceLen vb)
  case atStart => exact ⟨a, b, [], xa, xb, ca, cb, rfl, rfl, H0⟩
  case round =>
    obtain ⟨a', b', pre, xa', xb', ca', cb', rfl, rfl, HI⟩ := hrel
    clear H0
    obtain ⟨yu, cu, rfl, -, -⟩ := slice_form HI.out.row
    by_cases hab : a' = [] ∨ b' = []
    · have HE : Hid (mrg a b = pre ++ a' ++ b') := hid (by
        rw [← HI.out.eq, List.append_assoc]
        rcases hab with rfl | rfl
        · rw [nil_mrg]; rfl
        · rw [mrg_nil]; simp)
      have hd : Hid (a'.length = 0 ∨ (0 < a'.length ∧ b'.length = 0)) := hid (by
        rcases hab with rfl | rfl
        · exact .inl rfl
        · cases a' with
          | nil => exact .inl rfl
          | cons x s => exact .inr ⟨by simp, rfl⟩)
      clear hab
      have q1 : Hid (pre.length + a'.length ≤ 1200000) := hid (by have := HI.out.np; have := HI.out.na; omega)
      have q2 : Hid ((pre ++ a').length + b'.length ≤ 1600000) := hid (by have := HI.out.np; have := HI.out.na; have := HI.out.nb; rw [List.length_append]; omega)
      have TT := hid HI.out.t
      have go2 : ∀ (y : Option Addr) (cap : Nat) (w2 : World), Hid (Grew wr w2 w.heap.size TEn 3 (.slice yu pre.length cu) (.slice y (pre.length + a'.length) cap) pre.length a'.length (envals pre) (envals a')) →
          Hid (w2.ownsRow w.heap.size TEn 3 (.slice y (pre.length + a'.length) cap) (pre ++ a').length (envals (pre ++ a')) ∧ Touch [] w w2 ∧ EntX w2 xb' b') := fun y cap w2 G =>
        have t2 := G.out.touch HI.out.row HI.out.t (Nat.le_refl _)
        hid ⟨by rw [List.length_append, envals_append]; exact G.out.own, t2, HI.out.eb.t0 t2⟩
      rcases hd.out with h0 | ⟨h0, h1⟩
      · have g1 : decide (0 < a'.length) = false := by rw [h0]; rfl
        clear h0 hd
        go_wp2_with (at_builtin; first
          | (refine wpList_append_entx _ rfl _ _ rfl w.heap.size (.slice yu pre.length cu) pre rfl HI.out.row xa' ca' a' rfl (HI.out.ea.t0 HI.out.t) HI.out.za (by have := q1.out; omega) TT.out.size ?_; intro y cap w2 hG; have G1 := hid hG; clear hG; have G2 := go2 y cap w2 G1)
          | (refine wpList_append_entx _ rfl _ _ rfl w.heap.size _ (pre ++ a') rfl G2.out.1 xb' cb' b' rfl G2.out.2.2 HI.out.zb (by have := q2.out; omega) G2.out.2.1.size ?_; intro y3 cap3 w3 hG; have G3 := hid hG; clear hG))
        go_ret
        rw [HE.out]
        exact ⟨_, rfl, (by have h9 := G3.out.own; rw [← envals_append] at h9; simp only [List.length_append] at h9 ⊢; exact h9), G3.out.touch G2.out.1 G2.out.2.1 (Nat.le_refl _)⟩
      · have g1 : decide (0 < a'.length) = true := by simpa using h0
        have g2 : decide (0 < b'.length) = false := by rw [h1]; rfl
        clear h0 h1 hd
        go_wp2_with (at_builtin; first
          | (refine wpList_append_entx _ rfl _ _ rfl w.heap.size (.slice yu pre.length cu) pre rfl HI.out.row xa' ca' a' rfl (HI.out.ea.t0 HI.out.t) HI.out.za (by have := q1.out; omega) TT.out.size ?_; intro y cap w2 hG; have G1 := hid hG; clear hG; have G2 := go2 y cap w2 G1)
          | (refine wpList_append_entx _ rfl _ _ rfl w.heap.size _ (pre ++ a') rfl G2.out.1 xb' cb' b' rfl G2.out.2.2 HI.out.zb (by have := q2.out; omega) G2.out.2.1.size ?_; intro y3 cap3 w3 hG; have G3 := hid hG; clear hG))
        go_ret
        rw [HE.out]
        exact ⟨_, rfl, (by have h9 := G3.out.own; rw [← envals_append] at h9; simp only [List.length_append] at h9 ⊢; exact h9), G3.out.touch G2.out.1 G2.out.2.1 (Nat.le_refl _)⟩
    · obtain ⟨x, s, rfl⟩ : ∃ x s, a' = x :: s := by
        cases a' with
        | nil => simp at hab
        | cons x s => exact ⟨x, s, rfl⟩
      obtain ⟨y, r, rfl⟩ : ∃ y r, b' = y :: r := by
        cases b' with
        | nil => simp at hab
        | cons y r => exact ⟨y, r, rfl⟩
      clear hab
      have ST := hid (mrg_step x y s r)
      have SL := hid (past_least x y s r)
      have la := hid (past_len (x :: s) (leastE x y))
      have lb := hid (past_len (y :: r) (leastE x y))
      obtain ⟨ba, oa, rfl, a0, a1, a2⟩ := HI.out.ea 0 (by simp)
      obtain ⟨bb, ob, rfl, b0, b1, b2⟩ := HI.out.eb 0 (by simp)
      have A0 := hid (fun w' (t : Touch [] w w') => (show w'.cell? ⟨ba, oa, none⟩ = some (.int .i64 x.1) ∧ w'.cell? ⟨ba, oa + 1, none⟩ = some (.int .i64 x.2.1) ∧ w'.cell? ⟨ba, oa + 2, none⟩ = some (.int .i64 x.2.2) from ⟨t.cell a0, t.cell a1, t.cell a2⟩))
      have B0 := hid (fun w' (t : Touch [] w w') => (show w'.cell? ⟨bb, ob, none⟩ = some (.int .i64 y.1) ∧ w'.cell? ⟨bb, ob + 1, none⟩ = some (.int .i64 y.2.1) ∧ w'.cell? ⟨bb, ob + 2, none⟩ = some (.int .i64 y.2.2) from ⟨t.cell b0, t.cell b1, t.cell b2⟩))
      have LE := hid (fun w' => less_any y x w')
      obtain ⟨xa1, ca1, PA0, PA⟩ := past_any (some ⟨ba, oa, none⟩) ca' x s (leastE x y) w HI.out.ea (by have := HI.out.na; omega) HI.out.ka
      obtain ⟨xb1, cb1, PB0, PB⟩ := past_any (some ⟨bb, ob, none⟩) cb' y r (leastE x y) w HI.out.eb (by have := HI.out.nb; omega) HI.out.kb
      have A1 := hid PA0
      have B1 := hid PB0
      clear PA0 PB0
      obtain ⟨na, hna⟩ : ∃ na, na = (x :: s).length := ⟨_, rfl⟩
      obtain ⟨nb, hnb⟩ : ∃ nb, nb = (y :: r).length := ⟨_, rfl⟩
      have pa : 0 < na := by rw [hna]; simp
      have pb : 0 < nb := by rw [hnb]; simp
      have g1 : decide (0 < na) = true := by simpa using pa
      have g2 : decide (0 < nb) = true := by simpa using pb
      have i1 : (0 : Int) < na := by omega
      have i2 : (0 : Int) < nb := by omega
      rw [← hna] at PA
      rw [← hnb] at PB
      rw [← hna, ← hnb]
      have HNA := hid hna
      have HNB := hid hnb
      clear hna hnb a0 a1 a2 b0 b1 b2
      obtain ⟨c0, c1, c2⟩ := A0.out wr HI.out.t
      go_upto_region 4 with fail
      obtain ⟨W1, hW1⟩ : ∃ W1, W1 = wr.alloc (.cells #[.int .i64 x.1, .int .i64 x.2.1, .int .i64 x.2.2] TEn) := ⟨_, rfl⟩
      obtain ⟨L, hL⟩ : ∃ L, L = wr.heap.size := ⟨_, rfl⟩
      have E1 : Hid (EnB W1 L x) := hid (by rw [hW1, hL]; exact heap_alloc_new wr _)
      have T1 : Hid (Touch [] wr W1) := hid (by rw [hW1]; exact (Touch.refl [] wr).alloc _)
      have HL := hid hL
      rw [← hW1, ← hL]
      clear hW1 hL c0 c1 c2 pa pb
      obtain ⟨ι, f, ⟨θ0, hθ0⟩, inst, FT, FE⟩ := held_class W1
      have F0 : ∀ θ, (f θ).cell? ⟨bb, ob, none⟩ = some (.int .i64 y.1) := fun θ => (B0.out _ (HI.out.t.trans (T1.out.trans (FT.out θ) (by simp)) (by simp))).1
      have F1 : ∀ θ, (f θ).cell? ⟨bb, ob + 1, none⟩ = some (.int .i64 y.2.1) := fun θ => (B0.out _ (HI.out.t.trans (T1.out.trans (FT.out θ) (by simp)) (by simp))).2.1
      have F2 : ∀ θ, (f θ).cell? ⟨bb, ob + 2, none⟩ = some (.int .i64 y.2.2) := fun θ => (B0.out _ (HI.out.t.trans (T1.out.trans (FT.out θ) (by simp)) (by simp))).2.2
      have G0 : ∀ θ, (f θ).cell? ⟨L, 0, none⟩ = some (.int .i64 x.1) := fun θ => (FT.out θ).cell E1.out.c.1
      have G1 : ∀ θ, (f θ).cell? ⟨L, 1, none⟩ = some (.int .i64 x.2.1) := fun θ => (FT.out θ).cell E1.out.c.2.1
      have G2 : ∀ θ, (f θ).cell? ⟨L, 2, none⟩ = some (.int .i64 x.2.2) := fun θ => (FT.out θ).cell E1.out.c.2.2
      have LL : Hid (∀ θ, Calls Tryz.prog 80 #[enV y, enV x] (f θ) fun r w'' => r = .returned (.bool (decide (ltE y x))) ∧ ∃ θ', w'' = f θ') := hid fun θ => (LE.out (f θ)).mono fun r w'' ⟨h1, h2⟩ => ⟨h1, FE.out _ ((FT.out θ).trans h2 (by simp))⟩
      clear LE
      refine wp_region_held f θ0 (by kernel_rfl) (by kernel_rfl) hθ0 ?_
      repeat go_big_quiet_step (exact LL.out _)
      refine wpQuiet_nil ?_
      rintro _ ⟨θ, rfl⟩
      have k1 := F0 θ
      have k2 := F1 θ
      have k3 := F2 θ
      have k4 := G0 θ
      have k5 := G1 θ
      have k6 := G2 θ
      have E2 : Hid (EnB (f θ) L x) := hid (E1.out.t (FT.out θ))
      have T2 : Hid (Touch [] wr (f θ)) := hid (T1.out.trans (FT.out θ) (by simp))
      generalize f θ = w6 at *
      clear F0 F1 F2 G0 G1 G2 LL FT FE hθ0 inst E1 T1
      by_cases hle : ltE y x
      · have hdl : decide (ltE y x) = true := by simpa using hle
        have HLE : Hid (leastE x y = y) := hid (by simp [leastE, hle])
        rw [hdl]
        clear hle hdl
        obtain ⟨f0, f1, f2⟩ : w6.frozen? ⟨L, 0, none⟩ = false ∧ w6.frozen? ⟨L, 1, none⟩ = false ∧ w6.frozen? ⟨L, 2, none⟩ = false := ⟨free_of E2.out 0, free_of E2.out 1, free_of E2.out 2⟩
        go_upto_region 6 with fail
        obtain ⟨W2, hW2⟩ : ∃ W2, W2 = ((w6.setCell ⟨L, 0, none⟩ (.int .i64 y.1)).setCell ⟨L, 1, none⟩ (.int .i64 y.2.1)).setCell ⟨L, 2, none⟩ (.int .i64 y.2.2) := ⟨_, rfl⟩
        have E3 : Hid (EnB W2 L (leastE x y)) := hid (by rw [hW2, HLE.out]; exact en_set E2.out y)
        have T3 : Hid (Touch [] wr W2) := hid (by rw [hW2]; exact ((T2.out.setCell (p := ⟨L, 0, none⟩) (.inr (by have := HL.out; simp; omega)) _).setCell (p := ⟨L, 1, none⟩) (.inr (by have := HL.out; simp; omega)) _).setCell (p := ⟨L, 2, none⟩) (.inr (by have := HL.out; simp; omega)) _)
        rw [← hW2]
        clear hW2 f0 f1 f2
        clear E2 T2 k1 k2 k3 k4 k5 k6 HLE A0 B0
        generalize leastE x y = m at *
        obtain ⟨m0, m1, m2⟩ := E3.out.c
        have RW : Hid (W2.ownsRow w.heap.size TEn 3 (.slice yu pre.length cu) pre.length (envals pre)) := hid (owns_touch HI.out.row T3.out)
        have hLk : Hid (∀ k, (Value.slice yu pre.length cu).ownBlock = some k → k ≠ L) := hid (fun k hk => by have := (HI.out.row.lt k hk).2; have := HL.out; omega)
        have SZ : Hid (w.heap.size ≤ W2.heap.size) := hid (HI.out.t.trans T3.out (by simp)).size
        go_wp2_with (at_builtin; refine wpList_append_grew _ rfl _ _ TEns rfl w.heap.size TEn i0 (.agg #[.int .i64 0, .int .i64 0, .int .i64 0]) 3 24 Tryz.underlying22 hi hz0 hz1 hz2 rfl (by decide) _ pre.length (envals pre) rfl (RW.out.alloc _) (.slice (some ⟨W2.heap.size, 0, none⟩) 1 1) 1 0 (enc3 m) rfl (lit_en _ m _ rfl) (enc3_one m) (by have := HI.out.np; omega) (by decide) (by have := SZ.out; simp; omega) ?_; intro yc cap w7 hG; have G7 := hid hG; clear hG)
        have E7 : Hid (EnB w7 L m) := hid (by
          have h7 := heap_alloc_keep E3.out (.cells #[.int .i64 m.1, .int .i64 m.2.1, .int .i64 m.2.2] TEn)
          exact (G7.out.grown.block L (lt_of_block h7) (fun e => hLk.out _ e.symm rfl)).trans h7)
        have T7 : Hid (Touch [] w w7) := hid (G7.out.touch (RW.out.alloc _) ((HI.out.t.trans T3.out (by simp)).alloc _) (Nat.le_refl _))
        clear m0 m1 m2 hLk SZ
        obtain ⟨ι, f, ⟨θ0, hθ0⟩, inst, FT, FE⟩ := held_class w7
        have M0 : ∀ θ, (f θ).cell? ⟨L, 0, none⟩ = some (.int .i64 m.1) := fun θ => (FT.out θ).cell E7.out.c.1
        have M1 : ∀ θ, (f θ).cell? ⟨L, 1, none⟩ = some (.int .i64 m.2.1) := fun θ => (FT.out θ).cell E7.out.c.2.1
        have M2 : ∀ θ, (f θ).cell? ⟨L, 2, none⟩ = some (.int .i64 m.2.2) := fun θ => (FT.out θ).cell E7.out.c.2.2
        have CA : Hid (∀ θ, Calls Tryz.prog 119 #[.slice (some ⟨ba, oa, none⟩) na ca', enV m] (f θ) fun r' w'' => r' = .returned (.slice xa1 (pastE (x :: s) m).length ca1) ∧ ∃ θ', w'' = f θ') := hid fun θ => (PA.out _ (T7.out.trans (FT.out θ) (by simp))).mono fun r w'' ⟨h1, h2⟩ => ⟨h1, FE.out _ ((FT.out θ).trans h2 (by simp))⟩
        have CB : Hid (∀ θ, Calls Tryz.prog 119 #[.slice (some ⟨bb, ob, none⟩) nb cb', enV m] (f θ) fun r' w'' => r' = .returned (.slice xb1 (pastE (y :: r) m).length cb1) ∧ ∃ θ', w'' = f θ') := hid fun θ => (PB.out _ (T7.out.trans (FT.out θ) (by simp))).mono fun r w'' ⟨h1, h2⟩ => ⟨h1, FE.out _ ((FT.out θ).trans h2 (by simp))⟩
        clear PA PB
        generalize hpa : pastE (x :: s) m = ra at *
        generalize hpb : pastE (y :: r) m = rb at *
        clear hpa hpb
        generalize hla : ra.length = la' at CA
        generalize hlb : rb.length = lb' at CB
        have HLA := hid hla
        have HLB := hid hlb
        clear hla hlb
        refine wp_region_held f θ0 (by kernel_rfl) (by kernel_rfl) hθ0 ?_
        repeat go_big_quiet_step (first | (with_reducible exact CA.out _) | (with_reducible exact CB.out _))
        refine wpQuiet_nil ?_
        rintro _ ⟨θ, rfl⟩
        have T8 : Hid (Touch [] w7 (f θ)) := hid (FT.out θ)
        generalize f θ = w8 at *
        clear M0 M1 M2 CA CB FT FE hθ0 inst
        go_wp2
        go_roundw
        case rel =>
          refine ⟨ra, rb, pre ++ [m], xa1, xb1, ca1, cb1, by rw [HLA.out], by rw [HLB.out], hid ⟨A1.out.2.2, B1.out.2.2, A1.out.1, B1.out.1, A1.out.2.1, B1.out.2.1, ?_, ?_, ?_, ?_, ?_, T7.out.trans T8.out (by simp)⟩⟩
          · have := la.out; have := HI.out.na; omega
          · have := lb.out; have := HI.out.nb; omega
          · have h9 := congrArg List.length HI.out.eq
            have := ML.out
            rw [ST.out] at h9
            simp only [List.length_append, List.length_cons] at h9
            simp only [List.length_append, List.length_cons, List.length_nil]
            omega
          · rw [← HI.out.eq, ST.out]; simp
          · rw [List.length_append, envals_append]
            simpa [envals] using owns_touch G7.out.own T8.out
        case measure =>
          have := SL.out
          have := HNA.out
          have := HNB.out
          have := HLA.out
          have := HLB.out
          simp only [sliceLen] at *
          omega
      · have hdl : decide (ltE y x) = false := by simpa using hle
        have HLE : Hid (leastE x y = x) := hid (by simp [leastE, hle])
        rw [hdl]
        clear hle hdl
        have E3 : Hid (EnB w6 L (leastE x y)) := hid (by rw [HLE.out]; exact E2.out)
        have T3 : Hid (Touch [] wr w6) := hid T2.out
        go_upto_region 6 with fail
        clear E2 T2 k1 k2 k3 k4 k5 k6 HLE A0 B0
        generalize leastE x y = m at *
        obtain ⟨m0, m1, m2⟩ := E3.out.c
        have RW : Hid (w6.ownsRow w.heap.size TEn 3 (.slice yu pre.length cu) pre.length (envals pre)) := hid (owns_touch HI.out.row T3.out)
        have hLk : Hid (∀ k, (Value.slice yu pre.length cu).ownBlock = some k → k ≠ L) := hid (fun k hk => by have := (HI.out.row.lt k hk).2; have := HL.out; omega)
        have SZ : Hid (w.heap.size ≤ w6.heap.size) := hid (HI.out.t.trans T3.out (by simp)).size
        go_wp2_with (at_builtin; refine wpList_append_grew _ rfl _ _ TEns rfl w.heap.size TEn i0 (.agg #[.int .i64 0, .int .i64 0, .int .i64 0]) 3 24 Tryz.underlying22 hi hz0 hz1 hz2 rfl (by decide) _ pre.length (envals pre) rfl (RW.out.alloc _) (.slice (some ⟨w6.heap.size, 0, none⟩) 1 1) 1 0 (enc3 m) rfl (lit_en _ m _ rfl) (enc3_one m) (by have := HI.out.np; omega) (by decide) (by have := SZ.out; simp; omega) ?_; intro yc cap w7 hG; have G7 := hid hG; clear hG)
        have E7 : Hid (EnB w7 L m) := hid (by
          have h7 := heap_alloc_keep E3.out (.cells #[.int .i64 m.1, .int .i64 m.2.1, .int .i64 m.2.2] TEn)
          exact (G7.out.grown.block L (lt_of_block h7) (fun e => hLk.out _ e.symm rfl)).trans h7)
        have T7 : Hid (Touch [] w w7) := hid (G7.out.touch (RW.out.alloc _) ((HI.out.t.trans T3.out (by simp)).alloc _) (Nat.le_refl _))
        clear m0 m1 m2 hLk SZ
        obtain ⟨ι, f, ⟨θ0, hθ0⟩, inst, FT, FE⟩ := held_class w7
        have M0 : ∀ θ, (f θ).cell? ⟨L, 0, none⟩ = some (.int .i64 m.1) := fun θ => (FT.out θ).cell E7.out.c.1
        have M1 : ∀ θ, (f θ).cell? ⟨L, 1, none⟩ = some (.int .i64 m.2.1) := fun θ => (FT.out θ).cell E7.out.c.2.1
        have M2 : ∀ θ, (f θ).cell? ⟨L, 2, none⟩ = some (.int .i64 m.2.2) := fun θ => (FT.out θ).cell E7.out.c.2.2
        have CA : Hid (∀ θ, Calls Tryz.prog 119 #[.slice (some ⟨ba, oa, none⟩) na ca', enV m] (f θ) fun r' w'' => r' = .returned (.slice xa1 (pastE (x :: s) m).length ca1) ∧ ∃ θ', w'' = f θ') := hid fun θ => (PA.out _ (T7.out.trans (FT.out θ) (by simp))).mono fun r w'' ⟨h1, h2⟩ => ⟨h1, FE.out _ ((FT.out θ).trans h2 (by simp))⟩
        have CB : Hid (∀ θ, Calls Tryz.prog 119 #[.slice (some ⟨bb, ob, none⟩) nb cb', enV m] (f θ) fun r' w'' => r' = .returned (.slice xb1 (pastE (y :: r) m).length cb1) ∧ ∃ θ', w'' = f θ') := hid fun θ => (PB.out _ (T7.out.trans (FT.out θ) (by simp))).mono fun r w'' ⟨h1, h2⟩ => ⟨h1, FE.out _ ((FT.out θ).trans h2 (by simp))⟩
        clear PA PB
        generalize hpa : pastE (x :: s) m = ra at *
        generalize hpb : pastE (y :: r) m = rb at *
        clear hpa hpb
        generalize hla : ra.length = la' at CA
        generalize hlb : rb.length = lb' at CB
        have HLA := hid hla
        have HLB := hid hlb
        clear hla hlb
        refine wp_region_held f θ0 (by kernel_rfl) (by kernel_rfl) hθ0 ?_
        repeat go_big_quiet_step (first | (with_reducible exact CA.out _) | (with_reducible exact CB.out _))
        refine wpQuiet_nil ?_
        rintro _ ⟨θ, rfl⟩
        have T8 : Hid (Touch [] w7 (f θ)) := hid (FT.out θ)
        generalize f θ = w8 at *
        clear M0 M1 M2 CA CB FT FE hθ0 inst
        go_wp2
        go_roundw
        case rel =>
          refine ⟨ra, rb, pre ++ [m], xa1, xb1, ca1, cb1, by rw [HLA.out], by rw [HLB.out], hid ⟨A1.out.2.2, B1.out.2.2, A1.out.1, B1.out.1, A1.out.2.1, B1.out.2.1, ?_, ?_, ?_, ?_, ?_, T7.out.trans T8.out (by simp)⟩⟩
          · have := la.out; have := HI.out.na; omega
          · have := lb.out; have := HI.out.nb; omega
          · have h9 := congrArg List.length HI.out.eq
            have := ML.out
            rw [ST.out] at h9
            simp only [List.length_append, List.length_cons] at h9
            simp only [List.length_append, List.length_cons, List.length_nil]
            omega
          · rw [← HI.out.eq, ST.out]; simp
          · rw [List.length_append, envals_append]
            simpa [envals] using owns_touch G7.out.own T8.out
        case measure =>
          have := SL.out
          have := HNA.out
          have := HNB.out
          have := HLA.out
          have := HLB.out
          simp only [sliceLen] at *
          omega
end Go.Proofs.YtdjcpdlfapfmkaaGreat
