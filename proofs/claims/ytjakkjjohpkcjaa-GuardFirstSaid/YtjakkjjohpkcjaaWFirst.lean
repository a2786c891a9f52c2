/- The walk of GuardFirst. -/
import Derived.Test.YtjakkjjohpkcjaaGfirstb
import Derived.Deep.RegionHeld3
import Derived.Laws.MakeOwn
namespace Go.Proofs.Ytjakkjjohpkcjaa
open Go.RowKit Go.Lib Go.ChangeShapes Go.WideShapes

theorem infoInt : (Try.prog.info? 3).map (fun i => (i.zero, i.size, i.bytes)) = some (some (.int .i64 0), 1, 8) := by kernel_rfl
theorem infoFn : (Try.prog.info? 1).map (fun i => (i.zero, i.size, i.bytes)) = some (some .nilFunc, 1, 8) := by kernel_rfl
theorem made_ints (n : Nat) : madeCells #[.int .i64 0] n = cnt n 0 := by
  apply Array.ext_getElem?
  intro i
  by_cases h : i < n
  · rw [cnt_at h]
    simp [madeCells, h, Nat.mod_one]
  · simp [madeCells, cnt, h]
theorem make_ints (n : Nat) (hn : n ≤ 40) (w : World) : (Instr.makeSlice 37 (.int .i64 n) (.int .i64 n)).run Try.prog w = .ok (.slice (some ⟨w.heap.size, 0, none⟩) n n) (w.alloc (.cells (cnt n 0) 3)) := by
  obtain ⟨i, hi, hz⟩ := Option.map_eq_some_iff.1 infoInt
  simp only [Prod.mk.injEq] at hz
  obtain ⟨h1, h2, h3⟩ := hz
  have := run_make (P := Try.prog) w 37 3 i _ Try.underlying37 hi h1 .i64 .i64 n n (by omega) (by omega) (by rw [h3]; omega) (by omega)
  rw [h2] at this
  rw [this, Int.toNat_natCast, Nat.mul_one]
  have e : (Value.int IntKind.i64 0).cells = #[.int .i64 0] := rfl
  rw [e, made_ints]

/-- A row of functions is no block of another type. -/
theorem own_ne {w : World} {base n : Nat} {v : Value} {xs : List Value} (h : w.ownsRow base 1 1 v n xs) {b : Nat} {cs : Array Value} {T : TypeId} {fz : Nat × Nat} (hb : w.heap[b]? = some (.cells cs T fz)) (hT : T ≠ 1) : some b ≠ v.ownBlock := by
  intro e
  rcases h.2 with ⟨rfl, _⟩ | ⟨g, cap, cur, rfl, _, hg, _⟩
  · simp [Value.ownBlock] at e
  · simp [Value.ownBlock] at e
    subst e
    rw [hg] at hb
    simp at hb
    exact hT hb.2.1.symm
theorem grown_keep {w w' : World} {base n : Nat} {v : Value} {xs : List Value} (h : w.ownsRow base 1 1 v n xs) (hg : w.grownBy w' v.ownBlock) {b : Nat} {cs : Array Value} {T : TypeId} {fz : Nat × Nat} (hb : w.heap[b]? = some (.cells cs T fz)) (hT : T ≠ 1) : w'.heap[b]? = some (.cells cs T fz) :=
  (hg.block b (lt_of_block hb) (own_ne h hb hT)).trans hb
theorem own_touch {F : List Nat} {w w' : World} {base n : Nat} {v : Value} {xs : List Value} (h : w.ownsRow base 1 1 v n xs) (t : Touch F w w') (hF : ∀ q, v.ownBlock = some q → q ∉ F) : w'.ownsRow base 1 1 v n xs := by
  refine ⟨h.1, ?_⟩
  rcases h.2 with hn | ⟨g, cap, cur, rfl, hb, hg, rest⟩
  · exact .inl hn
  · exact .inr ⟨g, cap, cur, rfl, hb, touch_other t hg (hF g rfl), rest⟩

/-- The first loop of the law: behind k rounds. -/
def FirstLoop (js : List JobD) (W : Nat) (w : World) (v : Value) (bl bh g bf len : Nat) (gh : Nat) (t3 t5 t7 : Value) (wr : World) : Prop := ∃ (k bi : Nat) (ibs : List Nat), k ≤ len ∧ gh = len - k ∧ t7 = .pointer (some ⟨bi, 0, none⟩) ∧ wr.heap[bi]? = some (intO k) ∧ w.heap.size ≤ bi ∧ ibs.length = k ∧
  wr.ownsRow w.heap.size 1 1 t3 k (ibs.map (clos bl bh)) ∧ (∀ i (h : i < ibs.length), wr.heap[ibs[i]]? = some (intO i) ∧ ibs[i] ≠ g) ∧ t5 = .int .i64 (if W < k then W else len) ∧ wr.heap[bf]? = some (.cells (if W < k then toldAt js W else fine).cells TFault (0, 0)) ∧
  wr.heap[bl]? = some (jobsO v) ∧ wr.heap[bh]? = some (intsO g len) ∧ wr.heap[g]? = some (.cells (cnt len 0) 3 (0, 0)) ∧ bi ≠ g ∧ Touch [] w wr

/-- Within a round, behind the append. -/
structure FF (w : World) (v : Value) (bl bh g bf len k bi : Nat) (ibs : List Nat) (t3 : Value) (ft : FltD) (wr : World) : Prop where
  hbi : wr.heap[bi]? = some (intO k)
  hl : ibs.length = k
  own : wr.ownsRow w.heap.size 1 1 t3 (k + 1) ((ibs ++ [bi]).map (clos bl bh))
  ib : ∀ i (h : i < ibs.length), wr.heap[ibs[i]]? = some (intO i) ∧ ibs[i] ≠ g
  hbf : wr.heap[bf]? = some (.cells ft.cells TFault (0, 0))
  hbl : wr.heap[bl]? = some (jobsO v)
  hbh : wr.heap[bh]? = some (intsO g len)
  hg : wr.heap[g]? = some (.cells (cnt len 0) 3 (0, 0))
  nbi : bi ≠ g
  ht : Touch [] w wr
theorem FF.touch {w : World} {v : Value} {bl bh g bf len k bi : Nat} {ibs : List Nat} {t3 : Value} {ft : FltD} {wr wr' : World} (h : FF w v bl bh g bf len k bi ibs t3 ft wr) (t : Touch [] wr wr') : FF w v bl bh g bf len k bi ibs t3 ft wr' :=
  ⟨touch_other t h.hbi (by simp), h.hl, own_touch h.own t (by simp), fun i hi => ⟨touch_other t (h.ib i hi).1 (by simp), (h.ib i hi).2⟩, touch_other t h.hbf (by simp), touch_other t h.hbl (by simp), touch_other t h.hbh (by simp), touch_other t h.hg (by simp), h.nbi, h.ht.trans t (by simp)⟩
/-- The fault's block is written. -/
theorem FF.put {w : World} {v : Value} {bl bh g bf len k bi : Nat} {ibs : List Nat} {t3 : Value} {ft : FltD} {wr wr' : World} (h : FF w v bl bh g bf len k bi ibs t3 ft wr) (t : Touch [bf] wr wr') (f2 : FltD) (h2 : wr'.heap[bf]? = some (.cells f2.cells TFault (0, 0))) (hbf : w.heap.size ≤ bf) :
    FF w v bl bh g bf len k bi ibs t3 f2 wr' := by
  have other : ∀ {b : Nat} {cs : Array Value} {T : TypeId}, wr.heap[b]? = some (.cells cs T (0, 0)) → T ≠ TFault → wr'.heap[b]? = some (.cells cs T (0, 0)) := fun {b cs T} hb hT => touch_other t hb (by
    simp only [List.mem_singleton]
    rintro rfl
    have := hb.symm.trans h.hbf
    simp at this
    exact hT this.2)
  exact ⟨other h.hbi (by decide), h.hl, own_touch h.own t (fun q hq => by
      simp only [List.mem_singleton]
      rintro rfl
      exact own_ne h.own h.hbf (by decide) hq.symm), fun i hi => ⟨other (h.ib i hi).1 (by decide), (h.ib i hi).2⟩, h2, other h.hbl (by decide), other h.hbh (by decide), other h.hg (by decide), h.nbi, h.ht.trans t (by simpa using hbf)⟩
/-- The next round. -/
theorem FF.next {js : List JobD} {W : Nat} {w : World} {v : Value} {bl bh g bf k bi : Nat} {ibs : List Nat} {t3 : Value} {ft : FltD} {wr : World} {wv : Int} (h : FF w v bl bh g bf js.length k bi ibs t3 ft wr) (hk : k < js.length) (hwv : wv = if W < k + 1 then (W : Int) else (js.length : Int)) (hft : ft = if W < k + 1 then toldAt js W else fine) :
    FirstLoop js W w v bl bh g bf js.length (js.length - (k + 1)) t3 (.int .i64 wv) (.pointer (some ⟨wr.heap.size, 0, none⟩)) (wr.alloc (.cells #[.int .i64 ((k : Int) + 1)] 3)) := by
  have hgl := lt_of_block h.hg
  refine ⟨k + 1, wr.heap.size, ibs ++ [bi], by omega, rfl, rfl, heap_alloc_new _ _, h.ht.size, by simp [h.hl], h.own.alloc _, fun i hi => ?_, by rw [hwv], by rw [← hft]; exact heap_alloc_keep h.hbf _, heap_alloc_keep h.hbl _, heap_alloc_keep h.hbh _, heap_alloc_keep h.hg _, by omega, h.ht.alloc _⟩
  by_cases e : i < ibs.length
  · rw [List.getElem_append_left e]
    exact ⟨heap_alloc_keep (h.ib i e).1 _, (h.ib i e).2⟩
  · have e2 : i = ibs.length := by simp at hi; omega
    subst e2
    have e3 : (ibs ++ [bi])[ibs.length]'(by simp) = bi := by simp
    rw [e3, h.hl]
    exact ⟨heap_alloc_keep h.hbi _, h.nbi⟩

theorem own_fns {wr : World} {base n bl bh g : Nat} {v : Value} {ibs : List Nat} {cs : Array Value} (h : wr.ownsRow base 1 1 v n (ibs.map (clos bl bh))) (hl : ibs.length = n) (hg : wr.heap[g]? = some (.cells cs 3 (0, 0))) :
    ∃ y cp, v = .slice y n cp ∧ ∀ i, i < n → ∃ q, y = some ⟨q, 0, none⟩ ∧ q ≠ g ∧ wr.cell? ⟨q, i, none⟩ = some (clos bl bh (ibs.getD i 0)) := by
  have hne := own_ne h hg (by decide)
  have hcells := fun q hq => World.ownsRow.cells h (g := q) hq
  rcases h.2 with ⟨rfl, rfl⟩ | ⟨q, cap, cur, rfl, _, hq, _⟩
  · exact ⟨none, 0, rfl, fun i hi => absurd hi (Nat.not_lt_zero i)⟩
  · refine ⟨some ⟨q, 0, none⟩, cap, rfl, fun i hi => ⟨q, rfl, fun e => hne (by simp [Value.ownBlock, e]), ?_⟩⟩
    have := hcells q rfl i (clos bl bh (ibs.getD i 0)) (by simp [hl, hi])
    rw [show (⟨q, 0, none⟩ : Addr).add i = ⟨q, i, none⟩ from by unfold Addr.add; split <;> simp_all] at this
    exact this

/-- The second loop of the law: behind i rounds. -/
def FirstLoop2 (w : World) (v : Value) (bl bh g bf bq len W : Nat) (f : FltD) (gh : Nat) (t10 : Value) (wx : World) : Prop := ∃ i : Nat, i ≤ len ∧ gh = len - i ∧ t10 = .int .i64 i ∧ wx.heap[bl]? = some (jobsO v) ∧ wx.heap[bh]? = some (intsO g len) ∧
  wx.heap[g]? = some (.cells (cnt len W) 3 (0, 0)) ∧ wx.heap[bf]? = some (.cells f.cells TFault (0, 0)) ∧ wx.heap[bq]? = some (.cells f.cells TFault (0, 0)) ∧ Touch [] w wx

set_option maxRecDepth 100000 in
set_option maxHeartbeats 8000000 in
theorem gfirst_full (x : Option Addr) (js : List JobD) (c : Nat) (w : World) (hv : Jobs w (.slice x js.length c) js) :
    Calls Try.prog 5 #[.slice x js.length c] w fun e w' => e = .returned (.bool true) ∧ Touch [] w w' := by
  obtain ⟨W, hW⟩ := isW js
  have HW := hid hW
  have C0 := hid alive_true
  have HV := hid hv
  have B0 : Hid ((w.alloc (jobsO (.slice x js.length c))).heap[w.heap.size]? = some (jobsO (.slice x js.length c))) := hid (heap_alloc_new w _)
  have hmf := make_func
  have hnot : ∀ (b : Bool) (w : World), (Op.unary .not (.bool b)).run Try.prog w = .ok (.bool (!b)) w := fun _ _ => rfl
  clear hv hW
  go_enter Try.func5, Try.ntmps5
  go_wp2_with fail
  refine (light_any _ js _ (HV.out.touch ((Touch.refl [] _).alloc _))).mono ?_
  rintro e w0 ⟨b, rfl, hb, rfl⟩
  have HB := hid hb
  clear hb
  cases b
  · go_wp2_with (go_at_call 10; refine (C0.out _).mono ?_; rintro e w1 ⟨rfl, a1⟩)
    go_ret
    exact ⟨rfl, ((Touch.refl _ _).alloc _).trans a1 (by simp)⟩
  · have h40 : js.length ≤ 40 := HB.out rfl
    go_wp2_with fail
    refine (C0.out _).mono ?_
    rintro e w1 ⟨rfl, a1⟩
    have T1 := hid (((Touch.refl [] _).alloc _).trans a1 (by simp))
    have hl := touch_other a1 B0.out (by simp)
    have hlt := lt_of_block hl
    have hmk := fun w => make_ints js.length h40 w
    obtain ⟨c0, _⟩ := cell_one hl
    have HL := hid hl
    clear HB a1 B0 C0 hl
    have c1 : ∀ o : Obj, (w1.alloc o).cell? ⟨w.heap.size, 0, none⟩ = some (.slice x js.length c) := fun o => cell_alloc HL.out 0 o
    have c2 : ∀ o1 o2 : Obj, ((w1.alloc o1).alloc o2).cell? ⟨w.heap.size, 0, none⟩ = some (.slice x js.length c) := fun o1 o2 => cell_alloc (heap_alloc_keep HL.out o1) 0 o2
    go_wp2
    go_loopg [3, 5, 7] js.length (fun gh t3 t5 t7 wr => FirstLoop js W w (.slice x js.length c) w.heap.size (w1.heap.size + 1) w1.heap.size (w1.heap.size + 2) js.length gh t3 t5 t7 wr)
    case atStart =>
      refine ⟨0, w1.heap.size + 3, [], Nat.zero_le _, rfl, rfl, ?_, by omega, rfl, World.ownsRow_nil _ _ _ _, fun i h => absurd h (Nat.not_lt_zero i), by simp, ?_, ?_, ?_, ?_, by omega, (((T1.out.alloc _).alloc _).alloc _).alloc _⟩
      · simpa using heap_alloc_new (((w1.alloc (.cells (cnt js.length 0) 3)).alloc (intsO w1.heap.size js.length)).alloc (.cells fine.cells TFault)) (intO 0)
      · simpa using heap_alloc_keep (heap_alloc_new ((w1.alloc (.cells (cnt js.length 0) 3)).alloc (intsO w1.heap.size js.length)) (.cells fine.cells TFault)) (intO 0)
      · exact heap_alloc_keep (heap_alloc_keep (heap_alloc_keep (heap_alloc_keep HL.out _) _) _) _
      · exact heap_alloc_keep (heap_alloc_keep (by simpa using heap_alloc_new (w1.alloc (.cells (cnt js.length 0) 3)) (intsO w1.heap.size js.length)) _) _
      · exact heap_alloc_keep (heap_alloc_keep (heap_alloc_keep (heap_alloc_new _ _) _) _) _
    case round =>
      clear c0 c1 c2
      obtain ⟨k, bi, ibs, hk, rfl, rfl, hbi, hbiw, hibl, hown, hibs, rfl, hbf, hbl, hbh, hg, nbi, ht⟩ := hrel
      obtain ⟨wv, hwv⟩ : ∃ wv : Int, wv = if W < k then (W : Int) else (js.length : Int) := ⟨_, rfl⟩
      obtain ⟨ft, hft⟩ : ∃ ft : FltD, ft = if W < k then toldAt js W else fine := ⟨_, rfl⟩
      rw [← hwv]
      rw [← hft] at hbf
      have HWV := hid hwv
      have HFT := hid hft
      clear hwv hft
      have HBI := hid hbi
      have HIBL := hid hibl
      have HO := hid hown
      have HIBS := hid hibs
      have HBF := hid hbf
      have HBL := hid hbl
      have HBH := hid hbh
      have HG := hid hg
      have HT := hid ht
      obtain ⟨c0, c00⟩ := cell_one hbi
      obtain ⟨c1, c11⟩ := cell_one hbl
      clear hbi hibl hown hibs hbf hbl hbh hg ht hmk
      have k0 : (0 : Int) ≤ k := by omega
      have k40 : (k : Int) ≤ 40 := by omega
      by_cases hlt2 : k < js.length
      · have hkI : (k : Int) < js.length := by omega
        obtain ⟨i0, hi0, hz0, hz1, hz2⟩ := info_parts infoFn
        go_upto_region 10 with (at_builtin; refine wpList_append_own _ rfl (.tmp 31) (.tmp 33) 36 rfl w.heap.size 1 i0 .nilFunc 1 8 Try.underlying36 hi0 hz0 hz1 hz2 rfl (by decide) _ k _ rfl (HO.out.alloc _) ⟨wr.heap.size, 0, none⟩ 1 1 [clos w.heap.size (w1.heap.size + 1) bi] rfl rfl (World.news_of_block (cs := #[clos w.heap.size (w1.heap.size + 1) bi]) (t := 1) (fr := (0, 0)) (heap_alloc_new _ _)) (fun u hu => by simp at hu; subst hu; rfl) (by unfold maxLen; omega) (by omega) (by have := HT.out.size; simp; omega) ?_; intro v2 w2 ho2 hg2 _)
        have hrow : ∀ q, u3.ownBlock = some q → w.heap.size ≤ q := fun q hq => (HO.out.lt q hq).1
        have F : FF w (.slice x js.length c) w.heap.size (w1.heap.size + 1) w1.heap.size (w1.heap.size + 2) js.length k bi ibs v2 ft w2 :=
          ⟨grown_keep (HO.out.alloc _) hg2 (heap_alloc_keep HBI.out _) (by decide), HIBL.out, by rw [List.map_append]; exact ho2, fun i hi => ⟨grown_keep (HO.out.alloc _) hg2 (heap_alloc_keep (HIBS.out i hi).1 _) (by decide), (HIBS.out i hi).2⟩, grown_keep (HO.out.alloc _) hg2 (heap_alloc_keep HBF.out _) (by decide), grown_keep (HO.out.alloc _) hg2 (heap_alloc_keep HBL.out _) (by decide),
            grown_keep (HO.out.alloc _) hg2 (heap_alloc_keep HBH.out _) (by decide), grown_keep (HO.out.alloc _) hg2 (heap_alloc_keep HG.out _) (by decide), nbi, (HT.out.alloc _).grown hg2 (fun q hq => .inr (hrow q hq))⟩
        have HF := hid F
        clear F ho2 hg2 HBI HIBL HO HIBS HBF HBL HBH HG HT c0 c00 c1 c11 hrow
        obtain ⟨c0, c00⟩ := cell_one HF.out.hbi
        obtain ⟨c1, c11⟩ := cell_one HF.out.hbl
        by_cases hWk : W < k
        · have hwl := HW.out.le
          have hq : (wv == (js.length : Int)) = false := by
            rw [HWV.out, if_pos hWk]
            simp
            omega
          go_wp2
          go_roundg (js.length - (k + 1))
          case measure => omega
          case rel => exact HF.out.next hlt2 (by rw [HWV.out, if_pos hWk, if_pos (by omega)]) (by rw [HFT.out, if_pos hWk, if_pos (by omega)])
        · obtain ⟨b, off, rfl, hone⟩ := jobs_one HV.out hlt2
          have hcap : js.length ≤ c := by obtain ⟨_, _, e, h, _⟩ := HV.out; cases e; exact h
          have hs := slice_one b off js.length c k hlt2 hcap
          have Tl : Hid (∀ W', Touch [] w W' → Calls Try.prog 14 #[.slice (some ⟨b, off + k * 3, none⟩) 1 (c - k), .int .i64 0] W' fun e w' => e = .returned (toldAt js k).val ∧ Touch [] W' w') := hid fun W' h => by
            rw [← told_alone hlt2]
            exact told_any _ [js[k]] 0 W' (hone.touch h)
          have HX := hid (incs_alone hlt2)
          have e1 : wv = (js.length : Int) := by rw [HWV.out, if_neg hWk]
          subst e1
          clear hone
          by_cases hkW : k = W
          · have hbad := HW.out.bad (by omega)
            rw [← hkW] at hbad
            have HTW : Hid (toldAt js k = toldAt js W) := hid (by rw [hkW])
            have HKW := hid hkW
            clear hkW
            generalize toldAt js k = t at *
            have q1 : (t.err == 0) = false := by simpa using hbad
            clear hbad
            go_wp2_with fail
            refine (Tl.out w2 HF.out.ht).mono ?_
            rintro e w3 ⟨rfl, t3⟩
            have F3 := hid (HF.out.touch t3)
            clear c0 c00 c1 c11 t3
            obtain ⟨c0, c00⟩ := cell_one F3.out.hbi
            obtain ⟨c1, c11⟩ := cell_one F3.out.hbl
            go_upto_region 11 with fail
            have hw1 : IntKind.i64.wrap ((k : Int) + 1) = (k : Int) + 1 := IntWalk.i64_in _ (by omega)
            have nb : w1.heap.size + 1 + 1 ≠ bi := fun e => by
              have h1 := F3.out.hbi
              have h2 := F3.out.hbf
              rw [← e] at h1
              have := h1.symm.trans h2
              simp at this
            have nl : w1.heap.size + 1 + 1 ≠ w.heap.size := by omega
            go_region_held3 (fun w' => w'.cell? ⟨bi, 0, none⟩ = some (.int .i64 k) ∧ w'.cell? ⟨w.heap.size, 0, none⟩ = some (.slice (some ⟨b, off, none⟩) js.length c)) (go_keep)
              ((go_at_call 14
                refine (Tl.out _ F3.out.ht.drew).mono ?_
                rintro e w4 ⟨rfl, t4⟩
                have F4 := hid (F3.out.touch (((Touch.refl [] w3).drew).trans t4 (by simp)))
                obtain ⟨u0, _⟩ := cell_one F4.out.hbi
                obtain ⟨u1, _⟩ := cell_one F4.out.hbl
                obtain ⟨⟨u2, u3, u4⟩, _⟩ := cell_three F4.out.hbf
                have u5 : ∀ i : Nat, w4.frozen? ⟨w1.heap.size + 1 + 1, i, none⟩ = false := fun i => free_of F4.out.hbf i
                clear t4))
            all_goals
              have S5 : (((w4.setCell ⟨w1.heap.size + 2, 0, none⟩ (.int .i64 t.err)).setCell ⟨w1.heap.size + 2, 1, none⟩ (.int .i64 t.kind)).setCell ⟨w1.heap.size + 2, 2, none⟩ (.string t.text)).heap[w1.heap.size + 2]? = some (.cells t.cells TFault (0, 0)) :=
                heap_set (heap_set (heap_set F4.out.hbf (i := 0) (.int .i64 t.err)) (i := 1) (.int .i64 t.kind)) (i := 2) (.string t.text)
              have T5 : Touch [w1.heap.size + 2] w4 (((w4.setCell ⟨w1.heap.size + 2, 0, none⟩ (.int .i64 t.err)).setCell ⟨w1.heap.size + 2, 1, none⟩ (.int .i64 t.kind)).setCell ⟨w1.heap.size + 2, 2, none⟩ (.string t.text)) :=
                (((Touch.refl _ _).setCell (.inl (by simp)) _).setCell (.inl (by simp)) _).setCell (.inl (by simp)) _
              have F5 := hid (F4.out.put T5 t S5 (by omega))
              clear S5 T5 u0 u1 u2 u3 u4 u5 c0 c00 c1 c11 hs hw1
              try clear hHeld
              change Exit.inBlock _ _ _ _ (((w4.setCell ⟨w1.heap.size + 2, 0, none⟩ (.int .i64 t.err)).setCell ⟨w1.heap.size + 2, 1, none⟩ (.int .i64 t.kind)).setCell ⟨w1.heap.size + 2, 2, none⟩ (.string t.text))
              generalize ((w4.setCell ⟨w1.heap.size + 2, 0, none⟩ (.int .i64 t.err)).setCell ⟨w1.heap.size + 2, 1, none⟩ (.int .i64 t.kind)).setCell ⟨w1.heap.size + 2, 2, none⟩ (.string t.text) = w5 at F5 ⊢
              obtain ⟨c0, c00⟩ := cell_one F5.out.hbi
              go_wp2
              go_roundg (js.length - (k + 1))
              case measure => omega
              case rel => exact F5.out.next hlt2 (by rw [HKW.out, if_pos (by omega)]) (by rw [if_pos (by have := HKW.out; omega)]; exact HTW.out)
          · have hfine := HW.out.fine k (by omega)
            rw [hfine] at Tl
            clear hfine HX
            go_wp2_with fail
            refine (Tl.out w2 HF.out.ht).mono ?_
            rintro e w3 ⟨rfl, t3⟩
            have F3 := hid (HF.out.touch t3)
            clear c0 c00 c1 c11 t3
            obtain ⟨c0, c00⟩ := cell_one F3.out.hbi
            obtain ⟨c1, c11⟩ := cell_one F3.out.hbl
            go_wp2
            go_roundg (js.length - (k + 1))
            case measure => omega
            case rel => exact F3.out.next hlt2 (by rw [if_neg (by omega)]) (by rw [HFT.out, if_neg hWk, if_neg (by omega)])
      · obtain rfl : k = js.length := by omega
        have hwl := HW.out.le
        have e1 : wv = (W : Int) := by
          rw [HWV.out]
          split
          · rfl
          · omega
        have e2 : ft = toldAt js W := by
          rw [HFT.out]
          split
          · rfl
          · exact (told_past (by omega)).symm
        subst e1 e2
        obtain ⟨y, cp, rfl, hfn⟩ := own_fns HO.out HIBL.out HG.out
        have FD := hid (first_any js W HW.out w wr x y c cp js.length rfl w.heap.size (w1.heap.size + 1) w1.heap.size (fun i => ibs.getD i 0) HV.out HT.out (by omega) h40 HBL.out HBH.out HG.out (fun i hi => by
          have h := HIBS.out i (by rw [HIBL.out]; exact hi)
          have e : ibs.getD i 0 = ibs[i]'(by rw [HIBL.out]; exact hi) := by simp [List.getD, hi, HIBL.out]
          simp only [e]
          exact h) hfn (by omega) (by omega))
        generalize toldAt js W = f at *
        have lbf := lt_of_block HBF.out
        have HT2 := HT
        clear c00 c11 hfn HO HIBL HIBS HFT HWV
        go_wp2_with fail
        refine FD.out.mono ?_
        rintro e w2 ⟨rfl, hg2, t2⟩
        have hbf2 := touch_other t2 HBF.out (by simp)
        have hbl2 := touch_other t2 HBL.out (by simp; omega)
        have hbh2 := touch_other t2 HBH.out (by simp)
        have T2 := hid (HT2.out.trans t2 (by simp; omega))
        have A1 := hid hg2
        have A2 := hid hbf2
        have A3 := hid hbl2
        have A4 := hid hbh2
        clear c0 c1 FD hg2 t2 hbf2 hbl2 hbh2 HBF HBL HBH HG HT HT2 HBI
        go_wp2
        go_loopg [10] js.length (fun gh t10 wx => FirstLoop2 w (.slice x js.length c) w.heap.size (w1.heap.size + 1) w1.heap.size (w1.heap.size + 2) w2.heap.size js.length W f gh t10 wx)
        case atStart => exact ⟨0, Nat.zero_le _, rfl, rfl, heap_alloc_keep A3.out _, heap_alloc_keep A4.out _, heap_alloc_keep A1.out _, heap_alloc_keep A2.out _, heap_alloc_new _ _, T2.out.alloc _⟩
        case round =>
          clear A1 A2 A3 A4 T2
          obtain ⟨i, hi, rfl, rfl, h1, h2, h3, h4, h5, ht⟩ := hrel
          obtain ⟨c0, _⟩ := cell_one h1
          obtain ⟨c1, _⟩ := cell_one h2
          obtain ⟨⟨c2, c3, c4⟩, _⟩ := cell_three h4
          obtain ⟨⟨c5, c6, c7⟩, _⟩ := cell_three h5
          have H1 := hid h1
          have H2 := hid h2
          have H3 := hid h3
          have H4 := hid h4
          have H5 := hid h5
          have HT := hid ht
          clear h1 h2 h3 h4 h5 ht
          have i0 : (0 : Int) ≤ i := by omega
          have i40 : (i : Int) ≤ 40 := by omega
          by_cases hlt3 : i < js.length
          · have hlI : (i : Int) < js.length := by omega
            have hlN : decide (i < js.length) = true := by simpa using hlt3
            by_cases hiW : i < W
            · have c8 : wr.cell? ⟨w1.heap.size, i, none⟩ = some (.int .i64 1) := by rw [cell_of H3.out, cnt_at hlt3]; simp [hiW]
              have d1 : decide (i < W) = true := by simpa using hiW
              have d2 : decide (W ≤ i) = false := by simp; omega
              go_wp2
              go_roundg (js.length - (i + 1))
              case measure => omega
              case rel => exact ⟨i + 1, by omega, rfl, by go_num, H1.out, H2.out, H3.out, H4.out, H5.out, HT.out⟩
            · have c8 : wr.cell? ⟨w1.heap.size, i, none⟩ = some (.int .i64 0) := by rw [cell_of H3.out, cnt_at hlt3]; simp [hiW]
              have d1 : decide (i < W) = false := by simpa using hiW
              have d2 : decide (W ≤ i) = true := by simp; omega
              go_wp2
              go_roundg (js.length - (i + 1))
              case measure => omega
              case rel => exact ⟨i + 1, by omega, rfl, by go_num, H1.out, H2.out, H3.out, H4.out, H5.out, HT.out⟩
          · obtain rfl : i = js.length := by omega
            go_wp2
            go_ret
            exact ⟨rfl, HT.out⟩

theorem walk_GuardFirst (v : Value) (js : List JobD) (w : World) (hv : Jobs w v js) :
    Calls Try.prog 5 #[v] w fun e w' => e = .returned (.bool true) ∧ Touch [] w w' := by
  have hv2 := hv
  obtain ⟨x, c, rfl, _⟩ := hv2
  exact gfirst_full x js c w hv
end Go.Proofs.Ytjakkjjohpkcjaa
