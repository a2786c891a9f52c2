/- The laws' own Add: an entry more, in its place. -/
import Derived.Test.YtdjcpdlfapfmkaaRb13
import Derived.Test.YtdjcpdlfapfmkaaHeld
import Derived.BigQuiet
import Derived.OwnWalk
namespace Go.Proofs.Ytdjcpdlfapfmkaa
open Go.RowKit Go.Lib Go.ChangeShapes Go.WideShapes
set_option maxRecDepth 100000

theorem entX_cells2 {w : World} {ad : Addr} {l : List En} (hX : EntX w (some ad) l) : ∀ j u, (envals l)[j]? = some u → w.cell? (ad.add j) = some u := by
  intro j u hj
  have hjl : j < l.length * 3 := by rw [← envals_len]; exact (List.getElem?_eq_some_iff.1 hj).1
  obtain ⟨b, off, hb, c0, c1, c2⟩ := hX (j / 3) (by omega)
  cases hb
  have had : (⟨b, off, none⟩ : Addr).add j = ⟨b, off + j, none⟩ := by unfold Addr.add; split <;> simp_all
  rw [had]
  have key : ∀ (l : List En) (i : Nat) (h : i < l.length), (envals l)[i * 3]? = some (.int .i64 (l[i]'h).1) ∧ (envals l)[i * 3 + 1]? = some (.int .i64 (l[i]'h).2.1) ∧ (envals l)[i * 3 + 2]? = some (.int .i64 (l[i]'h).2.2) := by
    intro l
    induction l with
    | nil => intro i h; simp at h
    | cons e l ih =>
      intro i h
      cases i with
      | zero => simp [envals, enc3]
      | succ i =>
        have := ih i (by simpa using h)
        have e1 : (i + 1) * 3 = i * 3 + 3 := by omega
        rw [e1]
        simpa [envals, enc3] using this
  obtain ⟨k0, k1, k2⟩ := key l (j / 3) (by omega)
  have hm : j % 3 = 0 ∨ j % 3 = 1 ∨ j % 3 = 2 := by omega
  rcases hm with hm | hm | hm
  · have e : j = j / 3 * 3 := by omega
    rw [← e] at k0 c0
    rw [k0] at hj; cases hj; exact c0
  · have e : j = j / 3 * 3 + 1 := by omega
    rw [← e] at k1
    rw [show off + j / 3 * 3 + 1 = off + j by omega] at c1
    rw [k1] at hj; cases hj; exact c1
  · have e : j = j / 3 * 3 + 2 := by omega
    rw [← e] at k2
    rw [show off + j / 3 * 3 + 2 = off + j by omega] at c2
    rw [k2] at hj; cases hj; exact c2

theorem REnB.t {w w' : World} {b : Nat} {e : En} (H : REnB w b e) (t : Touch [] w w') : REnB w' b e := touch_other t H (by simp)
/-- append of the laws' entries, nil or not, at a step of a region that draws its order. -/
theorem step_append_rens (w : World) {ops : Array Oper} {o : Oper} {a : Act} {K : Act → World → Prop} {Q : Exit → Act → World → Prop} {E : Prop} (hgd : o.guard = none) (s x : Operand)
    (ho : o.op = .call { callee := .builtin .append, args := #[s, x], argTypes := #[TREns, TREns] })
    (w0 : World) (v : Value) (n : Nat) (xs : List Value) (hs : a.eval s = v) (hown : w.ownsRow w0.heap.size TREn 3 v n xs) (ht : Touch [] w0 w)
    (y : Option Addr) (c : Nat) (m : List En) (hx : a.eval x = .slice y m.length c) (hc : y = none → c = 0 ∧ m = []) (hX : EntX w y m) (h63 : n + m.length ≤ 1000000000)
    (h : ∀ y' cap w', w'.ownsRow w0.heap.size TREn 3 (.slice y' (n + m.length) cap) (n + m.length) (xs ++ envals m) → Touch [] w0 w' → K (a.put o.dst (.slice y' (n + m.length) cap)) w') :
    if Region.wanted o (yielded ops a.tmps) = true then Oper.wp Try.prog o a w K Q else E := by
  obtain ⟨i0, hi, hz0, hz1, hz2⟩ := info_parts infoREn
  cases y with
  | some ad => exact step_append_grew w hgd s x TREns ho w0.heap.size TREn i0 (.agg #[.int .i64 0, .int .i64 0, .int .i64 0]) 3 24 Try.underlying26 hi hz0 hz1 hz2 rfl (by decide) v n xs hs hown ad m.length c (envals m) hx (envals_len m) (entX_cells2 hX) (envals_one m) h63 (by decide) ht.size fun y' cap w' G => h y' cap w' G.own (G.touch hown ht (Nat.le_refl _))
  | none =>
    obtain ⟨rfl, rfl⟩ := hc rfl
    rw [if_pos (by simp [Region.wanted, hgd])]
    have hrun := run_append_owned_none (P := Try.prog) (w := w) w0.heap.size TREns o.type TREn i0 3 Try.underlying26 hi v n xs hown
    obtain ⟨yv, cap, rfl, _, _⟩ := slice_form hown
    unfold Oper.wp
    simp only [List.length_nil] at hx
    simp [execOp, ho, resolve, invoke, builtin, hs, hx, hrun, Result.andThen]
    exact h yv cap w (by simpa [envals] using hown) ht

theorem ins_at : ∀ (l : List En) (e : En) (k : Nat), k ≤ l.length → (∀ j (h : j < l.length), j < k → ltE l[j] e) → (∀ h : k < l.length, ¬ ltE l[k] e) → ins l e = if l[k]? = some e then l else l.take k ++ e :: l.drop k
  | [], e, k, hk, _, _ => by simp [ins]
  | x :: l, e, 0, _, _, h2 => by
    have h := h2 (Nat.zero_lt_succ _)
    rw [List.getElem_cons_zero] at h
    unfold ins
    by_cases hx : e = x
    · simp [hx]
    · have hx2 : ¬ x = e := fun h => hx h.symm
      have : ltE e x := by rcases ltE_tri x e with h1 | h1 | h1 <;> simp_all
      simp [hx, hx2, this]
  | x :: l, e, k + 1, hk, h1, h2 => by
    have hx := h1 0 (by simp) (by omega)
    rw [List.getElem_cons_zero] at hx
    have hne : ¬ e = x := fun h => ltE_irrefl x (h ▸ hx)
    have hnl : ¬ ltE e x := ltE_asymm hx
    have ih := ins_at l e k (by simpa using hk) (fun j hj hjk => h1 (j + 1) (by simpa using hj) (by omega)) (fun h => h2 (by simpa using h))
    unfold ins
    rw [if_neg hne, if_neg hnl, ih, List.getElem?_cons_succ]
    split <;> simp
theorem mem_at : ∀ {l : List En}, SortedE l → ∀ (e : En) (k : Nat), k ≤ l.length → (∀ j (h : j < l.length), j < k → ltE l[j] e) → (∀ h : k < l.length, ¬ ltE l[k] e) → (e ∈ l ↔ l[k]? = some e)
  | l, hs, e, k, hk, h1, h2 => by
    constructor
    · intro h
      obtain ⟨j, hj, he⟩ := List.getElem_of_mem h
      have hjk : ¬ j < k := fun hjk => ltE_irrefl e (by have := h1 j hj hjk; rwa [he] at this)
      have hkl : k < l.length := by omega
      by_cases h3 : j = k
      · subst h3
        rw [List.getElem?_eq_getElem hj, he]
      · have := List.pairwise_iff_getElem.1 hs k j hkl hj (by omega)
        rw [he] at this
        exact (h2 hkl this).elim
    · exact List.mem_of_getElem?

theorem entX_rlit (w : World) (e : En) : EntX (w.alloc (.cells #[.int .i64 e.1, .int .i64 e.2.1, .int .i64 e.2.2] TREn)) (some ⟨w.heap.size, 0, none⟩) [e] := fun i hi => by
  obtain rfl : i = 0 := by simpa using hi
  have h : REnB (w.alloc (.cells #[.int .i64 e.1, .int .i64 e.2.1, .int .i64 e.2.2] TREn)) w.heap.size e := heap_alloc_new w _
  exact ⟨_, _, rfl, by simp only [Nat.zero_mul, Nat.add_zero]; exact h.c.1, by simp only [Nat.zero_mul, Nat.add_zero]; exact h.c.2.1, by simp only [Nat.zero_mul, Nat.add_zero]; exact h.c.2.2⟩
set_option maxHeartbeats 4000000 in
theorem refAdd_any (v : Value) (l : List En) (e : En) (B : Nat) (w : World) (hown : w.ownsRow B TREn 3 v l.length (envals l)) (hB : B ≤ w.heap.size) (hs : SortedE l) (hlen : l.length ≤ 100000) :
    Calls Try.prog 13 #[v, enV e] w fun r w' => ∃ u, r = .returned (.tuple #[u, .bool (decide (okE e ∧ e ∉ l))]) ∧ w'.ownsRow B TREn 3 u (put1 l e).length (envals (put1 l e)) ∧ Touch [] w w' := by
  obtain ⟨x, c, rfl, hlc, hnn, hsp, hx⟩ : ∃ x c, v = .slice x l.length c ∧ l.length ≤ c ∧ (x = none → c = 0 ∧ l = []) ∧ (∀ a, x = some a → a.off = 0 ∧ a.spot = none) ∧ EntX w x l := by
    obtain ⟨x, c, rfl, -, hlc, h1, h2, hx⟩ := entX_ownT hown
    refine ⟨x, c, rfl, hlc, fun h => ⟨h1 h, ?_⟩, h2, hx⟩
    subst h
    cases l with
    | nil => rfl
    | cons e l => obtain ⟨b, off, hb, _⟩ := hx 0 (by simp); cases hb
  have HX := hid hx
  have HS := hid hs
  have HW := hid hown
  have HNN := hid hnn
  have HSP := hid hsp
  clear hx hs hown hnn hsp
  obtain ⟨bx, hbx⟩ : ∃ bx, bx = w.heap.size := ⟨_, rfl⟩
  obtain ⟨w1, hw1⟩ : ∃ w1, w1 = w.alloc (.cells #[.int .i64 e.1, .int .i64 e.2.1, .int .i64 e.2.2] TREn) := ⟨_, rfl⟩
  have B1 : REnB w1 bx e := by rw [hw1, hbx]; exact heap_alloc_new w _
  have T1 : Hid (Touch [] w w1) := hid (by rw [hw1]; exact (Touch.refl [] w).alloc _)
  have EX := hid B1
  clear B1
  go_enter Try.func13, Try.ntmps13
  go_upto_region 1 with fail
  rw [← hw1, ← hbx]
  clear hw1 hbx
  go_cut [19] from 7 (fun sv wz => sv = .bool (!decide (okE e)) ∧ wz = w1)
  case first =>
    obtain ⟨q0, q1, q2⟩ := EX.out.c
    go_wp2
    all_goals go_meet
    all_goals exact ⟨by congr 1; rw [Bool.eq_iff_iff]; simp [okE]; clear HX HS HW HNN T1 EX; grind, rfl⟩
  case rest =>
    obtain ⟨hsv, hwz⟩ := hcut
    subst hsv
    rw [← hwz] at EX T1
    clear hwz
    by_cases hok : okE e
    · have hokb : (!decide (okE e)) = false := by simpa using hok
      have HOK := hid hok
      rw [hokb]
      clear hokb hok
      go_wp2
      go_loopw [6] (fun iv wr => ∃ k : Nat, k ≤ l.length ∧ iv = .int .i64 k ∧ Hid (∀ j (h : j < l.length), j < k → ltE l[j] e) ∧ Touch [] wc wr) (fun iv _ => l.length - (RowKit.intOf iv).toNat)
      case atStart => exact ⟨0, Nat.zero_le _, rfl, hid (fun j h hj => by omega), Touch.refl _ _⟩
      case round =>
        obtain ⟨k, hk, rfl, HK, ht⟩ := hrel
        have HT := hid ht
        clear ht
        obtain ⟨ι, f, ⟨θ0, hθ0⟩, inst, FT, FE⟩ := held_class wr
        have EB := hid (fun θ => EX.out.t (HT.out.trans (FT.out θ) (by simp)))
        have F0 : ∀ θ, (f θ).cell? ⟨bx, 0, none⟩ = some (.int .i64 e.1) := fun θ => (EB.out θ).c.1
        have F1 : ∀ θ, (f θ).cell? ⟨bx, 1, none⟩ = some (.int .i64 e.2.1) := fun θ => (EB.out θ).c.2.1
        have F2 : ∀ θ, (f θ).cell? ⟨bx, 2, none⟩ = some (.int .i64 e.2.2) := fun θ => (EB.out θ).c.2.2
        by_cases hlt : k < l.length
        · have hlt2 : decide (k < l.length) = true := by simpa using hlt
          have hI : (k : Int) < l.length := by omega
          obtain ⟨b, off, hxx, g0, g1, g2⟩ := HX.out k hlt
          subst hxx
          have KK : ∀ θ, Touch [] w (f θ) := fun θ => (T1.out.trans HT.out (by simp)).trans (FT.out θ) (by simp)
          have G0 : ∀ θ, (f θ).cell? ⟨b, off + k * 3, none⟩ = some (.int .i64 (l[k]'hlt).1) := fun θ => (KK θ).cell g0
          have G1 : ∀ θ, (f θ).cell? ⟨b, off + k * 3 + 1, none⟩ = some (.int .i64 (l[k]'hlt).2.1) := fun θ => (KK θ).cell g1
          have G2 : ∀ θ, (f θ).cell? ⟨b, off + k * 3 + 2, none⟩ = some (.int .i64 (l[k]'hlt).2.2) := fun θ => (KK θ).cell g2
          have MORE := hid (fun (h : ltE (l[k]'hlt) e) => fun (j : Nat) (hj : j < l.length) (hjk : j < k + 1) => by
            by_cases h1 : j < k
            · exact HK.out j hj h1
            · obtain rfl : j = k := by omega
              exact h)
          have STOP := hid (fun (h : ¬ ltE (l[k]'hlt) e) => And.intro (ins_at l e k hk HK.out fun _ => h) (mem_at HS.out e k hk HK.out fun _ => h))
          have AT := hid (List.getElem?_eq_getElem hlt)
          have KH := hid KK
          clear KK g0 g1 g2
          generalize l[k] = s at *
          have LL : Hid (∀ θ, Calls Try.prog 42 #[enV s, enV e] (f θ) fun q w'' => q = .returned (.bool (decide (ltE s e))) ∧ ∃ θ', w'' = f θ') := hid fun θ => (refLess_any s e (f θ)).mono fun q w'' ⟨h1, h2⟩ => ⟨h1, FE.out _ ((FT.out θ).trans h2 (by simp))⟩
          go_upto_region 4 with fail
          refine wp_region_held f θ0 (by kernel_rfl) (by kernel_rfl) hθ0 ?_
          repeat go_big_quiet_step (exact LL.out _)
          refine wpQuiet_nil ?_
          rintro _ ⟨θ, rfl⟩
          by_cases hle : ltE s e
          · have hb : decide (ltE s e) = true := by simpa using hle
            have M := hid (MORE.out hle)
            rw [hb]
            clear hb hle MORE STOP LL
            go_wp2
            go_roundw
            case rel => exact ⟨k + 1, by omega, by go_num, M, FT.out θ |> (HT.out.trans · (by simp))⟩
            case measure => simp [RowKit.intOf]; omega
          · have hb : decide (ltE s e) = false := by simpa using hle
            have M := hid (STOP.out hle)
            rw [hb]
            clear hb hle MORE STOP LL
            go_upto_region 6 with fail
            by_cases he : s = e
            · subst he
              obtain ⟨θ1, h1⟩ := FE.out _ (FT.out θ).drew
              refine wp_region_held f θ1 (by kernel_rfl) (by kernel_rfl) h1.symm ?_
              repeat go_big_quiet_step (fail)
              refine wpQuiet_nil ?_
              rintro _ ⟨θ2, rfl⟩
              have T2 := hid (KH.out θ2)
              generalize f θ2 = w6 at *
              have PD : Hid (put1 l s = l ∧ decide (okE s ∧ s ∉ l) = false) := hid (by
                obtain ⟨m1, m2⟩ := M.out
                rw [AT.out] at m1 m2
                have hin : s ∈ l := m2.2 rfl
                exact ⟨(if_pos HOK.out).trans (m1.trans (if_pos rfl)), by simp [hin]⟩)
              go_wp2
              go_ret2
              exact ⟨_, by rw [PD.out.2]; rfl, by rw [PD.out.1]; exact owns_touch HW.out T2.out, T2.out⟩
            · have EQ := en_ne he
              have PD : Hid (put1 l e = l.take k ++ e :: l.drop k ∧ decide (okE e ∧ e ∉ l) = true) := hid (by
                obtain ⟨m1, m2⟩ := M.out
                rw [AT.out] at m1 m2
                have hne : ¬ some s = some e := fun h => he (by cases h; rfl)
                have hin : ¬ e ∈ l := fun h => hne (m2.1 h)
                exact ⟨(if_pos HOK.out).trans (m1.trans (if_neg hne)), by simp [hin, HOK.out]⟩)
              obtain ⟨θ1, h1⟩ := FE.out _ (FT.out θ).drew
              refine wp_region_held f θ1 (by kernel_rfl) (by kernel_rfl) h1.symm ?_
              repeat go_big_quiet_step (fail)
              refine wpQuiet_nil ?_
              rintro _ ⟨θ2, rfl⟩
              have hkc : k ≤ c := by omega
              have hckn : ¬ c = k := by omega
              have KK2 := hid (KH.out θ2)
              have hkl : (l.take k).length = k := by rw [List.length_take]; omega
              have RW : Hid ((put1 l e).length = k + 1 + (l.length - k) ∧ envals (put1 l e) = envals (l.take k) ++ envals [e] ++ envals (l.drop k)) := hid (by rw [PD.out.1]; exact ⟨by simp; omega, by rw [envals_append, show e :: l.drop k = [e] ++ l.drop k from rfl, envals_append, List.append_assoc]⟩)
              have A1 := hid (fun W (t : Touch [] (f θ2) W) => (HX.out.t0 (KK2.out.trans t (by simp))).take k)
              have A3 := hid (fun W (t : Touch [] (f θ2) W) => (HX.out.t0 (KK2.out.trans t (by simp))).drop k)
              have hdl : (l.drop k).length = l.length - k := List.length_drop
              have EB2 := hid (fun W (t : Touch [] (f θ2) W) => ((EB.out θ2).t t).c)
              go_upto_region 8 with fail
              have hBW : B ≤ (f θ2).heap.size := Nat.le_trans hB KK2.out.size
              generalize f θ2 = W0 at *
              obtain ⟨r0, r1, r2⟩ := EB2.out _ (Touch.refl [] W0)
              go_region_law (first
                | (refine step_append_rens _ rfl (.const (.slice none 0 0)) (.tmp 50) rfl _ (.slice none 0 0) 0 [] rfl (World.ownsRow_nil _ _ _ _) (Touch.refl [] _) (some ⟨b, off, none⟩) c (l.take k) (by rw [hkl]; rfl) (fun h => by cases h) (A1.out _ ((Touch.refl [] W0).drew)) (by rw [hkl]; omega) ?_; rw [hkl, Nat.zero_add, List.nil_append]; intro y1 c1 w2 hG1 hT1; have U1 := hid (show Touch [] W0 w2 from Touch.trans ((Touch.refl [] W0).drew) hT1 (by simp)); have V1 := hid hT1; have G1 := hid (own_up hG1 (show W0.heap.size ≤ _ from ((Touch.refl [] W0).drew).size)); clear hG1 hT1; obtain ⟨q0, q1, q2⟩ := EB2.out _ U1.out)
                | (refine step_append_rens _ rfl (.const (.slice none 0 0)) (.tmp 50) rfl _ (.slice none 0 0) 0 [] rfl (World.ownsRow_nil _ _ _ _) (Touch.refl [] _) (some ⟨b, off, none⟩) c (l.take k) (by rw [hkl]; rfl) (fun h => by cases h) (A1.out _ ((Touch.refl [] W0).drew.alloc _)) (by rw [hkl]; omega) ?_; rw [hkl, Nat.zero_add, List.nil_append]; intro y1 c1 w2 hG1 hT1; have U1 := hid (show Touch [] W0 w2 from Touch.trans ((Touch.refl [] W0).drew.alloc _) hT1 (by simp)); have V1 := hid hT1; have G1 := hid (own_up hG1 (show W0.heap.size ≤ _ from ((Touch.refl [] W0).drew.alloc _).size)); clear hG1 hT1; obtain ⟨q0, q1, q2⟩ := EB2.out _ U1.out)
                | (refine step_append_rens _ rfl (.tmp 51) (.tmp 53) rfl W0 (.slice y1 k c1) k (envals (l.take k)) rfl (owns_touch G1.out ((Touch.refl [] _).alloc _)) (U1.out.alloc _) (some ⟨w2.heap.size, 0, none⟩) 1 [e] rfl (fun h => by cases h) (entX_rlit w2 e) (by simp; omega) ?_; rw [List.length_singleton]; intro y2 c2 w3 hG1 hT1; have G2 := hid hG1; have U2 := hid hT1; clear hG1 hT1)
                | (refine step_append_rens _ rfl (.tmp 51) (.tmp 53) rfl W0 (.slice y1 k c1) k (envals (l.take k)) rfl G1.out U1.out (some ⟨W0.heap.size, 0, none⟩) 1 [e] rfl (fun h => by cases h) ((entX_rlit W0.drew e).t0 V1.out) (by simp; omega) ?_; rw [List.length_singleton]; intro y2 c2 w3 hG1 hT1; have G2 := hid hG1; have U2 := hid hT1; clear hG1 hT1)
                | (refine step_append_rens _ rfl (.tmp 54) (.tmp 57) rfl W0 (.slice y2 (k + 1) c2) (k + 1) (envals (l.take k) ++ envals [e]) rfl G2.out U2.out (some ⟨b, off + k * 3, none⟩) (c - k) (l.drop k) (by rw [hdl]; rfl) (fun h => by cases h) (A3.out _ U2.out) (by rw [hdl]; omega) ?_; rw [hdl]; intro y3 c3 w4 hG1 hT1; have G3 := hid hG1; have U3 := hid hT1; clear hG1 hT1))
              all_goals
                go_wp2
                go_ret2
                exact ⟨_, by rw [PD.out.2]; rfl, by rw [RW.out.1, RW.out.2]; exact own_up G3.out hBW, KK2.out.trans U3.out (by simp)⟩
        · obtain rfl : k = l.length := by omega
          have hlt2 : decide (l.length < l.length) = false := by simp
          go_upto_region 4 with fail
          refine wp_region_held f θ0 (by kernel_rfl) (by kernel_rfl) hθ0 ?_
          repeat go_big_quiet_step (fail)
          refine wpQuiet_nil ?_
          rintro _ ⟨θ, rfl⟩
          go_upto_region 6 with fail
          obtain ⟨θ1, h1⟩ := FE.out _ (FT.out θ).drew
          refine wp_region_held f θ1 (by kernel_rfl) (by kernel_rfl) h1.symm ?_
          repeat go_big_quiet_step (fail)
          refine wpQuiet_nil ?_
          rintro _ ⟨θ2, rfl⟩
          have PD : Hid (put1 l e = l ++ [e] ∧ decide (okE e ∧ e ∉ l) = true) := hid (by
            have m1 := ins_at l e l.length (Nat.le_refl _) HK.out (fun h => by omega)
            have m2 := mem_at HS.out e l.length (Nat.le_refl _) HK.out (fun h => by omega)
            rw [List.getElem?_eq_none (Nat.le_refl _)] at m1 m2
            have hin : ¬ e ∈ l := fun h => by cases m2.1 h
            exact ⟨(if_pos HOK.out).trans (m1.trans (by simp)), by simp [hin, HOK.out]⟩)
          have RW : Hid ((put1 l e).length = l.length + 1 + ([] : List En).length ∧ envals (put1 l e) = envals l ++ envals [e] ++ envals []) := hid (by rw [PD.out.1]; exact ⟨by simp, by rw [envals_append]; simp [envals]⟩)
          have KK2 := hid (show Touch [] w (f θ2) from (T1.out.trans HT.out (by simp)).trans (FT.out θ2) (by simp))
          have A1 := hid (fun W (t : Touch [] (f θ2) W) => HX.out.t0 (KK2.out.trans t (by simp)))
          have EB2 := hid (fun W (t : Touch [] (f θ2) W) => ((EB.out θ2).t t).c)
          go_upto_region 8 with fail
          have hBW : B ≤ (f θ2).heap.size := Nat.le_trans hB KK2.out.size
          generalize f θ2 = W0 at *
          obtain ⟨r0, r1, r2⟩ := EB2.out _ (Touch.refl [] W0)
          by_cases hckn : c = l.length
          · subst hckn
            go_region_law (first
              | (refine step_append_rens _ rfl (.const (.slice none 0 0)) (.tmp 50) rfl _ (.slice none 0 0) 0 [] rfl (World.ownsRow_nil _ _ _ _) (Touch.refl [] _) x l.length l rfl (fun h => HNN.out h) (A1.out _ ((Touch.refl [] W0).drew)) (by omega) ?_; rw [Nat.zero_add, List.nil_append]; intro y1 c1 w2 hG1 hT1; have U1 := hid (show Touch [] W0 w2 from Touch.trans ((Touch.refl [] W0).drew) hT1 (by simp)); have V1 := hid hT1; have G1 := hid (own_up hG1 (show W0.heap.size ≤ _ from ((Touch.refl [] W0).drew).size)); clear hG1 hT1; obtain ⟨q0, q1, q2⟩ := EB2.out _ U1.out)
              | (refine step_append_rens _ rfl (.const (.slice none 0 0)) (.tmp 50) rfl _ (.slice none 0 0) 0 [] rfl (World.ownsRow_nil _ _ _ _) (Touch.refl [] _) x l.length l rfl (fun h => HNN.out h) (A1.out _ ((Touch.refl [] W0).drew.alloc _)) (by omega) ?_; rw [Nat.zero_add, List.nil_append]; intro y1 c1 w2 hG1 hT1; have U1 := hid (show Touch [] W0 w2 from Touch.trans ((Touch.refl [] W0).drew.alloc _) hT1 (by simp)); have V1 := hid hT1; have G1 := hid (own_up hG1 (show W0.heap.size ≤ _ from ((Touch.refl [] W0).drew.alloc _).size)); clear hG1 hT1; obtain ⟨q0, q1, q2⟩ := EB2.out _ U1.out)
              | (refine step_append_rens _ rfl (.tmp 51) (.tmp 53) rfl W0 (.slice y1 l.length c1) l.length (envals l) rfl (owns_touch G1.out ((Touch.refl [] _).alloc _)) (U1.out.alloc _) (some ⟨w2.heap.size, 0, none⟩) 1 [e] rfl (fun h => by cases h) (entX_rlit w2 e) (by simp; omega) ?_; rw [List.length_singleton]; intro y2 c2 w3 hG1 hT1; have G2 := hid hG1; have U2 := hid hT1; clear hG1 hT1)
              | (refine step_append_rens _ rfl (.tmp 51) (.tmp 53) rfl W0 (.slice y1 l.length c1) l.length (envals l) rfl G1.out U1.out (some ⟨W0.heap.size, 0, none⟩) 1 [e] rfl (fun h => by cases h) ((entX_rlit W0.drew e).t0 V1.out) (by simp; omega) ?_; rw [List.length_singleton]; intro y2 c2 w3 hG1 hT1; have G2 := hid hG1; have U2 := hid hT1; clear hG1 hT1)
              | (refine step_append_rens _ rfl (.tmp 54) (.tmp 57) rfl W0 (.slice y2 (l.length + 1) c2) (l.length + 1) (envals l ++ envals [e]) rfl G2.out U2.out x (l.length - l.length) [] (by simp [Act.eval]) (fun h => ⟨by simp, rfl⟩) (fun i hi => by simp at hi) (by simp; omega) ?_; intro y3 c3 w4 hG1 hT1; have G3 := hid hG1; have U3 := hid hT1; clear hG1 hT1))
            all_goals
              go_wp2
              go_ret2
              exact ⟨_, by rw [PD.out.2]; rfl, by rw [RW.out.1, RW.out.2]; exact own_up G3.out hBW, KK2.out.trans U3.out (by simp)⟩
          · go_region_law (first
              | (refine step_append_rens _ rfl (.const (.slice none 0 0)) (.tmp 50) rfl _ (.slice none 0 0) 0 [] rfl (World.ownsRow_nil _ _ _ _) (Touch.refl [] _) x c l rfl (fun h => HNN.out h) (A1.out _ ((Touch.refl [] W0).drew)) (by omega) ?_; rw [Nat.zero_add, List.nil_append]; intro y1 c1 w2 hG1 hT1; have U1 := hid (show Touch [] W0 w2 from Touch.trans ((Touch.refl [] W0).drew) hT1 (by simp)); have V1 := hid hT1; have G1 := hid (own_up hG1 (show W0.heap.size ≤ _ from ((Touch.refl [] W0).drew).size)); clear hG1 hT1; obtain ⟨q0, q1, q2⟩ := EB2.out _ U1.out)
              | (refine step_append_rens _ rfl (.const (.slice none 0 0)) (.tmp 50) rfl _ (.slice none 0 0) 0 [] rfl (World.ownsRow_nil _ _ _ _) (Touch.refl [] _) x c l rfl (fun h => HNN.out h) (A1.out _ ((Touch.refl [] W0).drew.alloc _)) (by omega) ?_; rw [Nat.zero_add, List.nil_append]; intro y1 c1 w2 hG1 hT1; have U1 := hid (show Touch [] W0 w2 from Touch.trans ((Touch.refl [] W0).drew.alloc _) hT1 (by simp)); have V1 := hid hT1; have G1 := hid (own_up hG1 (show W0.heap.size ≤ _ from ((Touch.refl [] W0).drew.alloc _).size)); clear hG1 hT1; obtain ⟨q0, q1, q2⟩ := EB2.out _ U1.out)
              | (refine step_append_rens _ rfl (.tmp 51) (.tmp 53) rfl W0 (.slice y1 l.length c1) l.length (envals l) rfl (owns_touch G1.out ((Touch.refl [] _).alloc _)) (U1.out.alloc _) (some ⟨w2.heap.size, 0, none⟩) 1 [e] rfl (fun h => by cases h) (entX_rlit w2 e) (by simp; omega) ?_; rw [List.length_singleton]; intro y2 c2 w3 hG1 hT1; have G2 := hid hG1; have U2 := hid hT1; clear hG1 hT1)
              | (refine step_append_rens _ rfl (.tmp 51) (.tmp 53) rfl W0 (.slice y1 l.length c1) l.length (envals l) rfl G1.out U1.out (some ⟨W0.heap.size, 0, none⟩) 1 [e] rfl (fun h => by cases h) ((entX_rlit W0.drew e).t0 V1.out) (by simp; omega) ?_; rw [List.length_singleton]; intro y2 c2 w3 hG1 hT1; have G2 := hid hG1; have U2 := hid hT1; clear hG1 hT1)
              | (refine step_append_rens _ rfl (.tmp 54) (.tmp 57) rfl W0 (.slice y2 (l.length + 1) c2) (l.length + 1) (envals l ++ envals [e]) rfl G2.out U2.out (Option.map (fun a => a.add (l.length * 3)) x) (c - l.length) [] (by simp [Act.eval]) (fun h => ⟨by have h2 := (HNN.out (by simpa using h)).1; omega, rfl⟩) (fun i hi => by simp at hi) (by simp; omega) ?_; intro y3 c3 w4 hG1 hT1; have G3 := hid hG1; have U3 := hid hT1; clear hG1 hT1))
            all_goals
              go_wp2
              go_ret2
              exact ⟨_, by rw [PD.out.2]; rfl, by rw [RW.out.1, RW.out.2]; exact own_up G3.out hBW, KK2.out.trans U3.out (by simp)⟩
    · have hokb : (!decide (okE e)) = true := by simpa using hok
      have hd : decide (okE e ∧ e ∉ l) = false := by simp [hok]
      have hp : put1 l e = l := if_neg hok
      have HDP := hid (And.intro hd hp)
      rw [hokb]
      clear hokb hok hd hp
      go_wp2
      go_ret2
      exact ⟨_, by rw [HDP.out.1]; rfl, by rw [HDP.out.2]; exact owns_touch HW.out T1.out, T1.out⟩
end Go.Proofs.Ytdjcpdlfapfmkaa
