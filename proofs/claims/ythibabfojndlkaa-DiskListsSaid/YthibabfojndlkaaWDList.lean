/- DiskLists, walked. -/
import Derived.Test.YthibabfojndlkaaAl9
import Derived.Test.YthibabfojndlkaaBook
import Derived.Lib.Strings
import Derived.Laws.Strings2
import Derived.Laws.Slices
namespace Go.Proofs.Ythibabfojndlkaa
open Go.RowKit Go.Lib
set_option maxRecDepth 100000

theorem less_cmp : ∀ a b : List UInt8, Op.bytesLess a b = decide (compareBytes a b < 0)
  | [], [] => rfl
  | [], _ :: _ => rfl
  | _ :: _, [] => rfl
  | a :: x, b :: y => by
    unfold Op.bytesLess compareBytes
    rw [less_cmp x y]
    by_cases h1 : a < b
    · simp [h1]
    · by_cases h2 : b < a
      · have h3 : ¬ a = b := by rintro rfl; exact h1 h2
        simp [h1, h2, h3]
      · have h3 : a = b := by
          apply UInt8.toNat_inj.1
          simp only [UInt8.lt_iff_toNat_lt] at h1 h2
          omega
        subst h3
        simp [h1]
theorem not_leq {a b : ByteArray} (h : cmpN a b < 0) : Op.bytesLess b.toList a.toList = false ∧ (b.toList == a.toList) = false := by
  rw [ByteArray.toList_eq, ByteArray.toList_eq, less_cmp]
  constructor
  · rw [decide_eq_false_iff_not]
    have := cmpN_neg a b
    unfold cmpN at this h
    omega
  · rw [beq_eq_false_iff_ne]
    intro e
    unfold cmpN at h
    rw [e, cmp_self] at h
    omega
theorem sl_to9 (b : ByteArray) (hi : Nat) (h2 : hi ≤ b.size) : ∀ w, (Instr.slice 9 (.string b) none (some (.int .i64 (hi : Int))) none).run Try.prog w = .ok (.string (b.extract 0 hi)) w := fun w => by
  have h := run_slice_string_h (P := Try.prog) w 9 b (by kernel_rfl) .i64 (hi : Int) (by omega) (by omega)
  rw [show (hi : Int).toNat = hi by omega] at h
  exact h

/-- A disk that took i appends of one byte each. -/
structure LsK (k : Dk) (i : Nat) : Prop where
  on : k.on = true
  room : k.room = 0
  armed : k.armed = false
  keep : k.keep = []
  used : used k.files ≤ i
  len : k.files.length ≤ i
theorem Has.sorted {W w : World} {d : Nat} {k : Dk} (h : Has W d k w) : Sorted k.files := by
  obtain ⟨own, ⟨rv, kv, L, hD, _, _⟩, _, _⟩ := h
  exact hD.sorted
theorem ls_sm {k : Dk} {i n : Nat} (h : LsK k i) (hi : i + n ≤ 1000000) : Sm k n := ⟨by rw [h.keep]; simp, by have := h.used; omega, by rw [h.room]; omega⟩
theorem ls_bad {k : Dk} {i : Nat} {nm s : ByteArray} (h : LsK k i) (hb : ¬ Ok nm) : appendD k nm s = (1, k) := by
  have : refuse k nm = 1 := by
    unfold refuse
    rw [if_pos h.on, if_pos (by unfold Ok at hb; omega)]
  unfold appendD
  rw [this, if_pos (by omega)]
theorem ls_good {k : Dk} {i : Nat} {nm s : ByteArray} (h : LsK k i) (hs : Sorted k.files) (hb : Ok nm) (hi : i < 200) : ∃ k', appendD k nm s = (0, k') ∧ LsK k' (i + max 1 s.size) := by
  have hl : ∀ f, (putF k.files f).length ≤ i + 1 := fun f => by have := putF_len_le k.files f; have := h.len; omega
  refine ⟨{ k with files := putF k.files (withF ((getF k.files nm).getD (freshF nm)) s) }, ?_, h.on, h.room, h.armed, h.keep, ?_, ?_⟩
  · unfold appendD
    rw [refuse_ok h.on hb, if_neg (by simp), if_neg ?_]
    · unfold goesD
      rw [if_neg (by simp [h.armed])]
    · rintro (⟨_, h2⟩ | ⟨h1, _⟩)
      · have := h.len; omega
      · rw [h.room] at h1; omega
  · show used (putF k.files _) ≤ _
    rw [used_with hs]
    have := h.used
    omega
  · have := hl (withF ((getF k.files nm).getD (freshF nm)) s)
    show (putF k.files _).length ≤ _
    omega

def cnt (l : List Fl) (p : ByteArray) (i : Nat) : Nat := ((l.take i).filter (begins p)).length
theorem cnt_succ (l : List Fl) (p : ByteArray) (i : Nat) (hi : i < l.length) : cnt l p (i + 1) = cnt l p i + if begins p l[i] then 1 else 0 := by
  unfold cnt
  rw [List.take_succ_eq_append_getElem hi, List.filter_append, List.length_append]
  cases h : begins p l[i] <;> simp [List.filter, h]
theorem cnt_get (l : List Fl) (p : ByteArray) (i : Nat) (hi : i < l.length) (h : begins p l[i] = true) : (l.filter (begins p))[cnt l p i]? = some l[i] := by
  have e : l.filter (begins p) = (l.take i).filter (begins p) ++ l[i] :: (l.drop (i + 1)).filter (begins p) := by
    conv => lhs; rw [← List.take_append_drop i l, List.filter_append, List.drop_eq_getElem_cons hi]
    simp [List.filter, h]
  rw [e, List.getElem?_append_right (by unfold cnt; omega)]
  simp [cnt]
theorem cnt_le (l : List Fl) (p : ByteArray) (i : Nat) : cnt l p i ≤ i := by
  unfold cnt
  exact Nat.le_trans (List.length_filter_le _ _) (by simp; omega)
theorem all_begin (k : Dk) (hon : k.on = true) : listD k ⟨#[]⟩ = k.files.map (·.name) := by
  unfold listD
  rw [if_pos hon]
  congr 1
  rw [List.filter_eq_self]
  intro f _
  unfold begins
  rw [← hasPrefix_of_take]
  simp

theorem sorted_get {l : List Fl} (h : Sorted l) : ∀ j i (hj : j < l.length) (hi : i < l.length), j < i → cmpN l[j].name l[i].name < 0 := fun j i hj hi hji => List.pairwise_iff_getElem.1 h j i hj hi hji
theorem hasPrefix_all (p : ByteArray) : ∀ f : Fl, (decide (p.size ≤ f.name.size) && ((f.name.extract 0 p.size).toList == p.toList)) = begins p f := fun f => hasPrefix_raw f.name p
instance : Inhabited Fl := ⟨freshF ⟨#[]⟩⟩
def TX (w : World) (x : Option Addr) (l : List ByteArray) : Prop := ∀ i (hi : i < l.length), ∃ b, x = some ⟨b, 0, none⟩ ∧ w.cell? ⟨b, i, none⟩ = some (.string l[i])
theorem TX.of {w : World} {base n c : Nat} {x : Option Addr} {l : List ByteArray} (h : w.ownsRow base 9 1 (.slice x n c) n (svals l)) : TX w x l := by
  obtain ⟨x', c', e, -, -, -, hc⟩ := own_form h
  cases e
  intro i hi
  obtain ⟨b, hb, hcc⟩ := hc i (by simpa [svals] using hi)
  exact ⟨b, hb, by simpa [svals] using hcc⟩
theorem TX.touch {w w' : World} {x : Option Addr} {l : List ByteArray} (h : TX w x l) (t : Touch [] w w') : TX w' x l := by
  intro i hi
  obtain ⟨b, hb, hc⟩ := h i hi
  exact ⟨b, hb, touch_cell t hc (by simp)⟩

set_option maxHeartbeats 4000000 in
theorem list_good (x : Option Addr) (c : Nat) (l : List ByteArray) (p : ByteArray) (w : World) (hc : TextsX w x l) (hll : l.length ≤ 9223372036854775807) :
    Calls Try.prog 8 #[.slice x l.length c, .string p] w fun e w' => e = .returned (.bool true) ∧ Touch [] w w' := by
  have CS := hid (short_any 20 600 x c l w hll hc (by omega) (by omega) (by omega))
  have CA := hid fun w => alive_true w
  have CN := hid fun w => new_has 0 w
  have HC := hid hc
  have LB := hid fun W d k i nm w1 (h : Has W d k w1) (hk : LsK k i) (hi : i < 100) (hb : ¬ Ok nm) => append_has (nm := nm) (s := ⟨#[122]⟩) h (ls_sm hk (by show i + 1 ≤ _; omega)) (ls_bad hk hb)
  have LG : Hid (∀ W d k i nm w1, Has W d k w1 → LsK k i → i < 100 → Ok nm → Calls Try.prog 15 #[.pointer (some ⟨d, 0, none⟩), .string nm, .string ⟨#[122]⟩] w1 fun e w' => e = .returned (.int .i64 0) ∧ ∃ k', Has W d k' w' ∧ LsK k' (i + 1)) := hid (by
    intro W d k i nm w1 h hk hi hb
    obtain ⟨k', h1, h2⟩ := ls_good (s := ⟨#[122]⟩) hk h.sorted hb (by omega)
    refine (append_has h (ls_sm hk (by show i + 1 ≤ _; omega)) h1).mono ?_
    rintro e w' ⟨rfl, h'⟩
    exact ⟨rfl, k', h', h2⟩)
  clear hc hll
  go_enter Try.func8, Try.ntmps8
  go_wp2_with fail
  go_at_call 31
  refine CS.out.mono ?_
  rintro e ws ⟨r, rfl, ts, hr⟩
  have TS := hid ts
  cases r
  · clear ts hr
    go_wp2_with (go_at_call 9; with_reducible refine (CA.out _).mono ?_; rintro e w3 ⟨rfl, t3⟩; have T3 := hid t3; clear t3)
    go_ret
    exact ⟨rfl, TS.out.trans T3.out (by simp)⟩
  have hl : l.length ≤ 20 := by have := (hr rfl).1; omega
  clear ts hr
  by_cases hp0 : 60 < p.size
  · have e1 : decide ((60 : Int) < (p.size : Int)) = true := by rw [decide_eq_true_eq]; omega
    have e2 : decide (60 < p.size) = true := by rw [decide_eq_true_eq]; exact hp0
    clear hp0
    go_wp2_with (go_at_call 9; with_reducible refine (CA.out _).mono ?_; rintro e w3 ⟨rfl, t3⟩; have T3 := hid t3; clear t3)
    go_ret
    exact ⟨rfl, TS.out.trans T3.out (by simp)⟩
  have hp : p.size ≤ 60 := by omega
  have e1 : decide ((60 : Int) < (p.size : Int)) = false := by rw [decide_eq_false_iff_not]; omega
  have e2 : decide (60 < p.size) = false := by rw [decide_eq_false_iff_not]; omega
  clear hp0
  go_wp2_with (first
    | (go_at_call 26; with_reducible refine (CN.out _).mono ?_; rintro e w0 ⟨d, rfl, h0⟩; have H0 := hid h0; clear h0))
  go_loopw [6] (fun iv wr => ∃ i : Nat, i ≤ l.length ∧ iv = .int .i64 i ∧ Hid (∃ k, Has ws d k wr ∧ LsK k i)) (fun iv _ => l.length - (RowKit.intOf iv).toNat)
  case atStart => exact ⟨0, Nat.zero_le _, rfl, hid ⟨_, H0.out, rfl, rfl, rfl, rfl, by simp [newD, used], by simp [newD]⟩⟩
  case round =>
    obtain ⟨i, hi, rfl, I⟩ := hrel
    obtain ⟨k, hk1, hk2⟩ := I.out
    by_cases hlt : i < l.length
    · obtain ⟨b, off, rfl, g1, gm⟩ := HC.out i hlt
      have g2 := touch_cell (TS.out.trans hk1.from_ (by simp)) g1 (by simp)
      have hlt' : decide (i < l.length) = true := by simpa using hlt
      generalize l[i] = nm at *
      by_cases hok : Ok nm
      · have CG := hid (LG.out ws d k i nm wr hk1 hk2 (by omega) hok)
        have q1 : decide ((1 : Int) ≤ (nm.size : Int)) = true := by rw [decide_eq_true_eq]; have := hok.1; omega
        have q2 : decide (1 ≤ nm.size) = true := by rw [decide_eq_true_eq]; have := hok.1; omega
        have q3 : decide ((nm.size : Int) ≤ 40) = true := by rw [decide_eq_true_eq]; have := hok.2; omega
        have q4 : decide (nm.size ≤ 40) = true := by rw [decide_eq_true_eq]; exact hok.2
        have q5 : decide (0 < nm.size) = true := by rw [decide_eq_true_eq]; have := hok.1; omega
        clear hok I hk1 hk2 g1 gm
        go_wp2_with (go_at_call 15; with_reducible refine CG.out.mono ?_; rintro e w1 ⟨rfl, hk'⟩; have HK := hid hk'; clear hk')
        go_roundw
        case rel => exact ⟨i + 1, by omega, by go_num, HK⟩
        case measure => simp [RowKit.intOf]; omega
      · have CB := hid (LB.out ws d k i nm wr hk1 hk2 (by omega) hok)
        have hkn : Hid (∃ k, Has ws d k wr ∧ LsK k (i + 1)) := hid ⟨k, hk1, hk2.on, hk2.room, hk2.armed, hk2.keep, Nat.le_succ_of_le hk2.used, Nat.le_succ_of_le hk2.len⟩
        have hkk := hid fun w1 (h : Has ws d k w1) => (show ∃ k, Has ws d k w1 ∧ LsK k (i + 1) from ⟨k, h, hk2.on, hk2.room, hk2.armed, hk2.keep, Nat.le_succ_of_le hk2.used, Nat.le_succ_of_le hk2.len⟩)
        by_cases h1 : 1 ≤ nm.size
        · have h40 : 40 < nm.size := by unfold Ok at hok; omega
          have q1 : decide ((1 : Int) ≤ (nm.size : Int)) = true := by rw [decide_eq_true_eq]; omega
          have q2 : decide (1 ≤ nm.size) = true := by rw [decide_eq_true_eq]; omega
          have q3 : decide ((nm.size : Int) ≤ 40) = false := by rw [decide_eq_false_iff_not]; omega
          have q4 : decide (nm.size ≤ 40) = false := by rw [decide_eq_false_iff_not]; omega
          have q5 : decide (0 < nm.size) = true := by rw [decide_eq_true_eq]; omega
          clear hok I hk1 hk2 g1 gm h1 h40
          go_wp2_with (go_at_call 15; with_reducible refine CB.out.mono ?_; rintro e w1 ⟨rfl, hk'⟩; have HK := hid hk'; clear hk')
          go_roundw
          case rel => exact ⟨i + 1, by omega, by go_num, hid (hkk.out _ HK.out)⟩
          case measure => simp [RowKit.intOf]; omega
        · have q1 : decide ((1 : Int) ≤ (nm.size : Int)) = false := by rw [decide_eq_false_iff_not]; omega
          have q2 : decide (1 ≤ nm.size) = false := by rw [decide_eq_false_iff_not]; omega
          have q5 : decide (0 < nm.size) = false := by rw [decide_eq_false_iff_not]; omega
          clear hok I hk1 hk2 g1 gm h1
          go_wp2_with (go_at_call 15; with_reducible refine CB.out.mono ?_; rintro e w1 ⟨rfl, hk'⟩; have HK := hid hk'; clear hk')
          go_roundw
          case rel => exact ⟨i + 1, by omega, by go_num, hid (hkk.out _ HK.out)⟩
          case measure => simp [RowKit.intOf]; omega
    · obtain rfl : i = l.length := by omega
      have hn := hk2.len
      have hs := hid hk1.sorted
      have C1 := hid fun w1 (h : Has ws d k w1) => list_has (p := p) (n := (k.files.filter (begins p)).length) h (show listD k p = (k.files.filter (begins p)).map (·.name) by unfold listD; rw [if_pos hk2.on]) (by simp)
      have C2 := hid fun w1 (h : Has ws d k w1) => list_has (p := ⟨#[]⟩) (n := k.files.length) h (all_begin k hk2.on) (by simp)
      have hfl := Nat.le_trans (List.length_filter_le (begins p) k.files) hn
      have HK := hid hk1
      clear I hk1 hk2
      go_wp2_with (first
        | (go_at_call 20; with_reducible refine (C1.out _ HK.out).mono ?_; rintro e w1 ⟨x1, c1, rfl, o1, t1⟩; have H1 := hid (HK.out.touch t1); have X1 := hid (TX.of o1); clear o1 t1)
        | (go_at_call 20; with_reducible refine (C2.out _ H1.out).mono ?_; rintro e w2 ⟨x2, c2, rfl, o2, t2⟩; have H2 := hid (H1.out.touch t2); have X2 := hid (TX.of o2); have X1' := hid (X1.out.touch t2); clear o2 t2))
      have hst := hid (sorted_get hs.out)
      generalize hfs : k.files = fs at *
      have CW := hid (cnt_succ fs p)
      have CG := hid (cnt_get fs p)
      have CL := hid (cnt_le fs p)
      have CE := hid (show cnt fs p fs.length = (fs.filter (begins p)).length by unfold cnt; rw [List.take_of_length_le (Nat.le_refl _)])
      have hg2 := hid (hasPrefix_all p)
      generalize hM : (fs.filter (begins p)).length = M at *
      have HM := hid hM
      clear hM hfs
      go_loopw [10, 11] (fun kv iv wr => ∃ i : Nat, i ≤ fs.length ∧ iv = .int .i64 i ∧ kv = .int .i64 (cnt fs p i : Nat) ∧ Hid (Touch [] w2 wr)) (fun _ iv _ => fs.length - (RowKit.intOf iv).toNat)
      case atStart => exact ⟨0, Nat.zero_le _, rfl, by simp [cnt], hid (Touch.refl _ _)⟩
      case round =>
        obtain ⟨i, hi, rfl, rfl, T⟩ := hrel
        by_cases hlt : i < fs.length
        · obtain ⟨b2, rfl, g0⟩ := X2.out i (by simpa using hlt)
          have g1 := touch_cell T.out g0 (by simp)
          simp only [List.getElem_map] at g1
          have hlt' : decide (i < fs.length) = true := by simpa using hlt
          have hpre := hid (hg2.out fs[i])
          have hsucc := hid (CW.out i hlt)
          have hget : Hid (begins p fs[i] = true → ∃ b1, x1 = some ⟨b1, 0, none⟩ ∧ wr.cell? ⟨b1, cnt fs p i, none⟩ = some (.string fs[i].name) ∧ cnt fs p i < M) := hid (by
            intro hb
            have h1 := CG.out i hlt hb
            obtain ⟨hm, h2⟩ := List.getElem?_eq_some_iff.1 h1
            obtain ⟨b1, hb1, hc1⟩ := X1'.out (cnt fs p i) (by simpa using hm)
            refine ⟨b1, hb1, ?_, by rw [← HM.out]; exact hm⟩
            have h3 := touch_cell T.out hc1 (by simp)
            simp only [List.getElem_map, h2] at h3
            exact h3)
          have hprev : Hid (∀ j, i = j + 1 → wr.cell? ⟨b2, j, none⟩ = some (.string (fs[j]!).name) ∧ Op.bytesLess fs[i].name.toList (fs[j]!).name.toList = false ∧ (fs[i].name.toList == (fs[j]!).name.toList) = false) := hid (by
            intro j hj
            have hjl : j < fs.length := by omega
            obtain ⟨b3, hb3, hc3⟩ := X2.out j (by simpa using hjl)
            simp at hb3
            subst hb3
            have h3 := touch_cell T.out hc3 (by simp)
            simp only [List.getElem_map] at h3
            have e : fs[j]! = fs[j] := by rw [getElem!_pos fs j hjl]
            rw [e]
            have := not_leq (hst.out j i hjl hlt (by omega))
            exact ⟨h3, this.1, this.2⟩)
          have hcl := CL.out i
          have hM2 : M ≤ 20 := by omega
          have hfl2 : fs.length ≤ 20 := by omega
          generalize fs[i].name = nm at *
          generalize hq : begins p fs[i] = q at *
          clear g0
          generalize hcn : cnt fs p i = kk at *
          have hcn2 := hid hcn
          clear hcn hq
          cases i with
          | zero =>
            clear hprev
            by_cases hsz : p.size ≤ nm.size
            · have s1 : decide ((p.size : Int) ≤ (nm.size : Int)) = true := by rw [decide_eq_true_eq]; omega
              have s2 : decide (p.size ≤ nm.size) = true := by rw [decide_eq_true_eq]; exact hsz
              have hsl := sl_to9 nm p.size hsz
              have hpe := hpre.out
              rw [s2, Bool.true_and] at hpe
              clear hsz
              cases q
              · go_wp2
                go_quiet (fail)
                go_wp2
                go_roundw
                case rel => exact ⟨0 + 1, by omega, by go_num, by rw [hsucc.out]; simp, hid (T.out.trans (by first | exact Touch.refl _ _ | exact (Touch.refl _ _).drewN _ | exact ((Touch.refl _ _).drewN _).drewN _) nil_mem)⟩
                case measure => simp [RowKit.intOf]; omega
              · obtain ⟨b1, hx1, k1, k2⟩ := hget.out rfl
                subst hx1
                have k3 : decide ((M : Int) ≤ (kk : Int)) = false := by rw [decide_eq_false_iff_not]; omega
                have k4 : decide (M ≤ kk) = false := by rw [decide_eq_false_iff_not]; omega
                have k5 : (nm.toList != nm.toList) = false := by simp
                go_wp2
                go_quiet (fail)
                go_wp2
                go_quiet (fail)
                go_wp2
                go_roundw
                case rel => exact ⟨0 + 1, by omega, by go_num, by rw [hsucc.out]; simp, hid (T.out.trans (by first | exact Touch.refl _ _ | exact (Touch.refl _ _).drewN _ | exact ((Touch.refl _ _).drewN _).drewN _) nil_mem)⟩
                case measure => simp [RowKit.intOf]; omega
            · have s1 : decide ((p.size : Int) ≤ (nm.size : Int)) = false := by rw [decide_eq_false_iff_not]; omega
              have s2 : decide (p.size ≤ nm.size) = false := by rw [decide_eq_false_iff_not]; exact hsz
              have hqf : q = false := by have := hpre.out; rw [s2] at this; simpa using this.symm
              subst hqf
              clear hsz
              go_wp2
              go_quiet (fail)
              go_wp2
              go_roundw
              case rel => exact ⟨0 + 1, by omega, by go_num, by rw [hsucc.out]; simp, hid (T.out.trans (by first | exact Touch.refl _ _ | exact (Touch.refl _ _).drewN _ | exact ((Touch.refl _ _).drewN _).drewN _) nil_mem)⟩
              case measure => simp [RowKit.intOf]; omega
          | succ j =>
            obtain ⟨p1, p2, p3⟩ := hprev.out j rfl
            generalize (fs[j]!).name = nm0 at *
            clear hprev
            by_cases hsz : p.size ≤ nm.size
            · have s1 : decide ((p.size : Int) ≤ (nm.size : Int)) = true := by rw [decide_eq_true_eq]; omega
              have s2 : decide (p.size ≤ nm.size) = true := by rw [decide_eq_true_eq]; exact hsz
              have hsl := sl_to9 nm p.size hsz
              have hpe := hpre.out
              rw [s2, Bool.true_and] at hpe
              clear hsz
              cases q
              · go_wp2
                go_quiet (fail)
                go_wp2
                go_roundw
                case rel => exact ⟨(j + 1) + 1, by omega, by go_num, by rw [hsucc.out]; simp, hid (T.out.trans (by first | exact Touch.refl _ _ | exact (Touch.refl _ _).drewN _ | exact ((Touch.refl _ _).drewN _).drewN _) nil_mem)⟩
                case measure => simp [RowKit.intOf]; omega
              · obtain ⟨b1, hx1, k1, k2⟩ := hget.out rfl
                subst hx1
                have k3 : decide ((M : Int) ≤ (kk : Int)) = false := by rw [decide_eq_false_iff_not]; omega
                have k4 : decide (M ≤ kk) = false := by rw [decide_eq_false_iff_not]; omega
                have k5 : (nm.toList != nm.toList) = false := by simp
                go_wp2
                go_quiet (fail)
                go_wp2
                go_quiet (fail)
                go_wp2
                go_roundw
                case rel => exact ⟨(j + 1) + 1, by omega, by go_num, by rw [hsucc.out]; simp, hid (T.out.trans (by first | exact Touch.refl _ _ | exact (Touch.refl _ _).drewN _ | exact ((Touch.refl _ _).drewN _).drewN _) nil_mem)⟩
                case measure => simp [RowKit.intOf]; omega
            · have s1 : decide ((p.size : Int) ≤ (nm.size : Int)) = false := by rw [decide_eq_false_iff_not]; omega
              have s2 : decide (p.size ≤ nm.size) = false := by rw [decide_eq_false_iff_not]; exact hsz
              have hqf : q = false := by have := hpre.out; rw [s2] at this; simpa using this.symm
              subst hqf
              clear hsz
              go_wp2
              go_quiet (fail)
              go_wp2
              go_roundw
              case rel => exact ⟨(j + 1) + 1, by omega, by go_num, by rw [hsucc.out]; simp, hid (T.out.trans (by first | exact Touch.refl _ _ | exact (Touch.refl _ _).drewN _ | exact ((Touch.refl _ _).drewN _).drewN _) nil_mem)⟩
              case measure => simp [RowKit.intOf]; omega
        · obtain rfl : i = fs.length := by omega
          rw [CE.out]
          have HT := hid (H2.out.from_.trans T.out (by simp))
          clear hs
          go_wp2_with (go_at_call 9; with_reducible refine (CA.out _).mono ?_; rintro e w3 ⟨rfl, t3⟩; have T3 := hid t3; clear t3)
          go_ret
          exact ⟨rfl, (TS.out.trans HT.out (by simp)).trans T3.out (by simp)⟩
theorem walk_DiskLists (v : Value) (l : List ByteArray) (p : ByteArray) (_hp : p.size ≤ maxLen) (w : World) (hi : Strs w v l) :
    Calls Try.prog 8 #[v, .string p] w fun e w' => e = .returned (.bool true) ∧ Touch [] w w' := by
  obtain ⟨x, c, rfl, hl, hc, _⟩ := hi
  exact list_good x c l p w hc hl
end Go.Proofs.Ythibabfojndlkaa
