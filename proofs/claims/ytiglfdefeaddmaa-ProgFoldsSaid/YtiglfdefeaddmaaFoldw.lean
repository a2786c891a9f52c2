/- A region that draws its order, whose operations read and whose callees leave what is read as it is: one walk, over a class of worlds that is given by a name. ProgFolds, walked; what the laws' own Run tells is a premise here. ProgFolds, walked: the case that runs. -/
import Derived.Test.YtiglfdefeaddmaaBase
import Derived.Deep.QuietTactic
import Derived.BigQuiet
import Derived.Test.YtiglfdefeaddmaaFolda
import Derived.Test.YtiglfdefeaddmaaBook
import Derived.Test.YtiglfdefeaddmaaAlive5
import Derived.StillTailTactics
namespace Go.Proofs.Ytiglfdefeaddmaa

theorem wp_region_held {P : Program} {ι : Type} (f : ι → World) (c0 : ι) {id : Nat} {Q : Exit → Act → World → Prop} {a : Act} {w : World} {l : List Oper} (hm : P.follows .mixedOrders = true) (hB : Region.lexB .any l.toArray = true) (hC : f c0 = w.drew)
    (h : wpQuiet P l.toArray (fun w' => ∃ c, w' = f c) (fun a' => ∀ w', (∃ c, w' = f c) → Q .normal a' w') l a) : (Code.region id l.toArray true).wp P Q a w :=
  wp_region_quiet (C := fun w' => ∃ c, w' = f c) hm hB ⟨c0, hC.symm⟩ (by simpa using h)
end Go.Proofs.Ytiglfdefeaddmaa

namespace Go.Proofs.Ytiglfdefeaddmaa
open Go.RowKit Go.Lib Go.ChangeShapes Go.WideShapes

/-- What the laws' own Run tells. -/
def RPost (r : Nat × FltD) (W : World) (e : Ending) (W' : World) : Prop := e = .returned (.tuple #[.float .f64 r.1, .int .i64 r.2.err, .int .i64 r.2.kind, .string r.2.text]) ∧ Touch [] W W'
def RefSays (x : Option Addr) (c : Nat) (ws : List ByteArray) (W : World) : Prop :=
  ∀ (E : EnvD) (w : World), E.Ok → TextsX w x ws → Touch [] W w → Calls Try.prog 12 #[.slice x ws.length c, .float .f64 E.state, .agg #[.int .i64 E.id, .string E.typ, .string E.data, .float .f64 E.value], .int .i64 E.version] w (RPost (runOf E ws) w)
theorem cat_part {l : List ByteArray} {s : ByteArray} (h : s ∈ l) : s.size ≤ (cat l).length := by
  obtain ⟨a, b, rfl⟩ := List.append_of_mem h
  simp only [cat, List.flatMap_append, List.flatMap_cons, List.length_append]
  have : s.data.toList.length = s.size := list_len s
  omega

/-- The slice from a place on. -/
def lowAt (y : Option Addr) (d cut : Nat) : Option Addr := if d = cut then y else y.map (·.add (cut * 8))
theorem stoX_drop {W : World} {y : Option Addr} {l : List StoD} {d cut : Nat} (h : StoX W y l) (hd : l.length ≤ d) : StoX W (lowAt y d cut) (l.drop cut) := fun i hi => by
  rw [List.length_drop] at hi
  obtain ⟨b, off, rfl, h1, h2⟩ := h (cut + i) (by omega)
  refine ⟨b, off + cut * 8, ?_, ?_, ?_⟩
  · unfold lowAt
    rw [if_neg (by omega), Option.map_some, add_at]
  · rw [List.getElem_drop]
    have e : off + (cut + i) * 8 = off + cut * 8 + i * 8 := by omega
    obtain ⟨c0, c1, c2, c3, c4, c5, c6, c7⟩ := h1
    rw [e] at c0 c1 c2 c3 c4 c5 c6 c7
    exact ⟨c0, c1, c2, c3, c4, c5, c6, c7⟩
  · rw [List.getElem_drop]; exact h2
theorem stoX_take {W : World} {y : Option Addr} {l : List StoD} (cut : Nat) (h : StoX W y l) : StoX W y (l.take cut) := fun i hi => by
  rw [List.length_take] at hi
  obtain ⟨b, off, rfl, h1, h2⟩ := h i (by omega)
  exact ⟨b, off, rfl, by rw [List.getElem_take]; exact h1, by rw [List.getElem_take]; exact h2⟩

set_option maxHeartbeats 8000000 in
set_option maxRecDepth 100000 in
theorem folds_out (x : Option Addr) (c : Nat) (ws : List ByteArray) (st : Nat) (y : Option Addr) (d : Nat) (l : List StoD) (z : Int) (W : World) (hx : TextsX W x ws) (hws : ws.length ≤ 9223372036854775807) (hy : StoX W y l) (hl : l.length ≤ 9223372036854775807)
    (hz1 : -9223372036854775808 ≤ z) (hz2 : z ≤ 9223372036854775807) (h : fewB 30 l = false ∨ z < 0 ∨ (l.length : Int) < z) :
    Calls Try.prog 3 #[.slice x ws.length c, .int .u64 st, .slice y l.length d, .int .i64 z] W fun e w' => e = .returned (.bool true) ∧ Touch [] W w' := by
  have S := hid (short_any 70 1500 x c ws W hws hx (by decide) (by decide) (by decide))
  have FW := hid (fun w (t : Touch [] W w) => few_any 30 (by decide) y d l w hl (hy.touch t))
  have AL := hid (fun w => alive_any w)
  have HH := hid h
  clear hx hy h
  go_enter Try.func3, Try.ntmps3
  go_wp2_with fail
  refine S.out.mono ?_
  rintro e w1 ⟨r, rfl, t1, _⟩
  have T1 := hid t1
  clear t1 S
  cases r with
  | false =>
    go_wp2_with (go_at_call 10; refine (AL.out _).mono ?_; rintro e w2 ⟨rfl, t2⟩)
    go_ret
    exact ⟨rfl, T1.out.trans t2 (by simp)⟩
  | true =>
    go_wp2_with fail
    refine (FW.out w1 T1.out).mono ?_
    rintro e w2 ⟨rfl, rfl⟩
    cases hf : fewB 30 l with
    | false =>
      clear hf
      go_wp2_with (go_at_call 10; refine (AL.out _).mono ?_; rintro e w2 ⟨rfl, t2⟩)
      go_ret
      exact ⟨rfl, T1.out.trans t2 (by simp)⟩
    | true =>
      have hzz : z < 0 ∨ (l.length : Int) < z := by
        rcases HH.out with h | h
        · rw [hf] at h; cases h
        · exact h
      clear hf HH
      by_cases hz : z < 0
      · clear hzz
        go_wp2_with (go_at_call 10; refine (AL.out _).mono ?_; rintro e w2 ⟨rfl, t2⟩)
        go_ret
        exact ⟨rfl, T1.out.trans t2 (by simp)⟩
      · have hz3 : (l.length : Int) < z := by omega
        have hz4 : (0 : Int) ≤ z := by omega
        clear hzz hz
        go_wp2_with (go_at_call 10; refine (AL.out _).mono ?_; rintro e w2 ⟨rfl, t2⟩)
        go_ret
        exact ⟨rfl, T1.out.trans t2 (by simp)⟩
end Go.Proofs.Ytiglfdefeaddmaa

namespace Go.Proofs.Ytiglfdefeaddmaa
open Go.RowKit Go.Lib Go.ChangeShapes Go.WideShapes

set_option maxHeartbeats 16000000 in
set_option maxRecDepth 100000 in
theorem folds_in (x : Option Addr) (c : Nat) (ws : List ByteArray) (st : Nat) (y : Option Addr) (d : Nat) (l : List StoD) (cut : Nat) (W : World) (hR : (∀ s ∈ ws, s.size ≤ 100000) → ws.length ≤ 100000 → RefSays x c ws W) (hx : TextsX W x ws) (hws : ws.length ≤ 9223372036854775807) (hst : Wd st)
    (hy : StoX W y l) (hyn : y = none → d = 0 ∧ l = []) (hld : l.length ≤ d) (hd : d ≤ 9223372036854775807) (hcut : cut ≤ l.length) (hf : fewB 30 l = true) :
    Calls Try.prog 3 #[.slice x ws.length c, .int .u64 st, .slice y l.length d, .int .i64 cut] W fun e w' => e = .returned (.bool true) ∧ Touch [] W w' := by
  obtain ⟨hl, hdata⟩ := few_parts hf
  have hok : ∀ s ∈ l, s.Ok := fun s hs => by
    obtain ⟨i, hi, rfl⟩ := List.getElem_of_mem hs
    obtain ⟨_, _, _, _, h3⟩ := hy i hi
    exact h3
  have S := hid (short_any 70 1500 x c ws W hws hx (by decide) (by decide) (by decide))
  have FW := hid (fun w (t : Touch [] W w) => few_any 30 (by decide) y d l w (by omega) (hy.touch t))
  rw [hf] at FW
  have AL := hid (fun w => alive_any w)
  have HX := hid hx
  have HY := hid hy
  have HYN := hid hyn
  have HOK : Hid (∀ s ∈ l, s.Ok ∧ s.data.size ≤ 300) := fun s hs => ⟨hok s hs, hdata s hs⟩
  have HR := hid hR
  have HST := hid hst
  have hnn : ∀ w : World, (callFunc 11 #[.int .u64 st]).run Try.prog w = .ok (.value (.float .f64 st)) w := frombits_run st
  have hc1 : decide ((cut : Int) < 0) = false := by simp
  have hc2 : decide (l.length < cut) = false := by simp; omega
  have hc3 : (cut : Int) ≤ l.length := by omega
  have hc4 : (cut : Int) ≤ d := by omega
  have hc5 : (0 : Int) ≤ cut := by omega
  have hl1 : (l.length : Int) ≤ 30 := by omega
  have hd1 : (d : Int) ≤ 9223372036854775807 := by omega
  have hd0 : (l.length : Int) ≤ d := by omega
  have HN := hid (And.intro hl (And.intro hld hcut))
  clear hx hy hyn hok hdata hf hR hst
  go_enter Try.func3, Try.ntmps3
  go_wp2_with fail
  refine S.out.mono ?_
  rintro e w1 ⟨r, rfl, t1, hr⟩
  have T1 := hid t1
  clear t1 S
  cases r with
  | false =>
    clear hr
    go_wp2_with (go_at_call 10; refine (AL.out _).mono ?_; rintro e w2 ⟨rfl, t2⟩)
    go_ret
    exact ⟨rfl, T1.out.trans t2 (by simp)⟩
  | true =>
    obtain ⟨h70, h1500⟩ := hr rfl
    have hsz : ∀ s ∈ ws, s.size ≤ 100000 := fun s hs => by have := cat_part hs; omega
    have HL := hid (show ws.length ≤ 70 by omega)
    have RR := hid (HR.out hsz (by omega))
    clear hr h70 h1500 hsz HR
    go_wp2_with fail
    refine (FW.out w1 T1.out).mono ?_
    rintro e w2 ⟨rfl, rfl⟩
    clear FW
    go_wp2
    have HB := hid (heap_alloc_new w1 (.cells #[.slice x ws.length c] 29))
    have HT : Hid (Touch [] W (w1.alloc (.cells #[.slice x ws.length c] 29))) := hid (T1.out.alloc _)
    generalize w1.alloc (.cells #[.slice x ws.length c] 29) = w3 at *
    go_loopw [11, 12, 13] (fun vv nv iv wr => ∃ k : Nat, k ≤ l.length ∧ iv = .int .i64 k ∧ vv = .float .f64 ((l.take k).foldl (foldStep ws) (st, 0)).1 ∧ nv = .int .i64 (((l.take k).foldl (foldStep ws) (st, 0)).2 : Int) ∧ Touch [] w3 wr) (fun _ _ iv _ => l.length - (RowKit.intOf iv).toNat)
    case atStart => exact ⟨0, Nat.zero_le _, rfl, rfl, rfl, Touch.refl _ _⟩
    case round =>
      obtain ⟨k, hk, rfl, rfl, rfl, ht⟩ := hrel
      have HTr := hid ht
      clear ht
      have hpw := folds_wd ws (l.take k) (st, 0) HST.out (fun s hs => HOK.out s (List.mem_of_mem_take hs))
      have hcnt := fold_cnt ws (l.take k) (st, 0)
      have hcn : ((l.take k).foldl (foldStep ws) (st, 0)).2 ≤ 30 := by
        have := HN.out.1
        have h2 := List.length_take_le k l
        simp only [Nat.zero_add] at hcnt
        omega
      clear hcnt
      by_cases hlt : k < l.length
      · obtain ⟨b, off, rfl, g1, g2⟩ := HY.out k hlt
        have hn := hid (fold_take_one ws st l k hlt)
        obtain ⟨a0, a1, a2, a3, a4, a5, a6, a7⟩ := g1.touch (HT.out.trans HTr.out (by simp))
        have hdk := (HOK.out l[k] (List.getElem_mem hlt)).2
        have hl2 : decide (k < l.length) = true := by simpa using hlt
        have hkI : (k : Int) < l.length := by omega
        have hk0 : (0 : Int) ≤ k := by omega
        generalize (l.take k).foldl (foldStep ws) (st, 0) = p at *
        obtain ⟨p1, p2⟩ := p
        simp only at hpw hcn
        have HE := hid (show (envOf p1 l[k]).Ok from ⟨hpw, g2.v, hdk, g2.lo, g2.hi⟩)
        have R := hid (fun (w1 : World) (h : Touch [] W w1) => RR.out (envOf p1 l[k]) w1 HE.out (HX.out.touch h) h)
        have hp2 : (p2 : Int) ≤ 30 := by omega
        unfold foldStep at hn
        simp only at hn
        unfold envOf RPost at R
        unfold envOf at hn
        clear g1 g2 hdk hpw HE RR
        generalize l[k] = s at *
        obtain ⟨sid, styp, sdata, svalue, sstream, sversion, sposition, stime⟩ := s
        generalize runOf _ ws = r at *
        obtain ⟨r1, ⟨er, kd, tx⟩⟩ := r
        have HE2 : Hid ((er = 0 ∧ (l.take (k + 1)).foldl (foldStep ws) (st, 0) = (r1, p2)) ∨ (er ≠ 0 ∧ (l.take (k + 1)).foldl (foldStep ws) (st, 0) = (p1, p2 + 1))) := by
          by_cases he : er = 0
          · exact .inl ⟨he, hn.out.trans (if_pos he)⟩
          · exact .inr ⟨he, hn.out.trans (if_neg he)⟩
        clear hn
        go_upto_region 9 with fail
        obtain ⟨ι, f, ⟨θ0, hθ0⟩, F0, F1, F2, F3, F5, FT, FC⟩ : ∃ (ι : Type) (f : ι → World), (∃ θ, f θ = wr.drew) ∧ (∀ θ, (f θ).cell? ⟨b, off + k * 8, none⟩ = some (.int .i64 sid)) ∧ (∀ θ, (f θ).cell? ⟨b, off + k * 8 + 1, none⟩ = some (.string styp)) ∧
            (∀ θ, (f θ).cell? ⟨b, off + k * 8 + 2, none⟩ = some (.string sdata)) ∧ (∀ θ, (f θ).cell? ⟨b, off + k * 8 + 3, none⟩ = some (.float .f64 svalue)) ∧ (∀ θ, (f θ).cell? ⟨b, off + k * 8 + 5, none⟩ = some (.int .i64 sversion)) ∧
            Hid (∀ θ, Touch [] w3 (f θ)) ∧ Hid (∀ θ, Calls Try.prog 12 #[.slice x ws.length c, .float .f64 p1, .agg #[.int .i64 sid, .string styp, .string sdata, .float .f64 svalue], .int .i64 sversion] (f θ) fun e w'' => e = .returned (.tuple #[.float .f64 r1, .int .i64 er, .int .i64 kd, .string tx]) ∧ ∃ θ', w'' = f θ') :=
          ⟨{wx // Touch [] wr wx}, Subtype.val, ⟨⟨_, (Touch.refl [] wr).drew⟩, rfl⟩, fun θ => θ.2.cell a0, fun θ => θ.2.cell a1, fun θ => θ.2.cell a2, fun θ => θ.2.cell a3, fun θ => θ.2.cell a5,
            hid fun θ => HTr.out.trans θ.2 (by simp), hid fun θ => (R.out _ ((HT.out.trans HTr.out (by simp)).trans θ.2 (by simp))).mono fun e w'' ⟨he, h2⟩ => ⟨he, ⟨⟨w'', θ.2.trans h2 (by simp)⟩, rfl⟩⟩⟩
        have Hθ := hid hθ0
        have inst : Nonempty ι := ⟨θ0⟩
        clear hθ0 R a0 a1 a2 a3 a4 a5 a6 a7
        refine wp_region_held f θ0 (by kernel_rfl) (by kernel_rfl) Hθ.out ?_
        repeat go_big_quiet_step (exact FC.out _)
        refine wpQuiet_nil ?_
        intro _ hw'
        obtain ⟨θ, hw''⟩ := hw'
        subst hw''
        have T4 := hid (FT.out θ)
        rcases HE2.out with ⟨he, hn2⟩ | ⟨he, hn2⟩
        · subst he
          have hn3 := hid hn2
          clear hn2 HE2
          go_wp2
          go_roundw
          case rel => exact ⟨k + 1, by omega, by go_num, by rw [hn3.out], by rw [hn3.out], T4.out⟩
          case measure => simp [RowKit.intOf]; omega
        · have he2 : (er != 0) = true := by simpa using he
          have hn3 := hid hn2
          clear hn2 HE2 he
          go_wp2
          go_roundw
          case rel => exact ⟨k + 1, by omega, by go_num, by rw [hn3.out], by rw [hn3.out]; go_num, T4.out⟩
          case measure => simp [RowKit.intOf]; omega
      · obtain rfl : k = l.length := by omega
        have hl2 : decide (l.length < l.length) = false := by simp
        have hw : l.take l.length = l := List.take_of_length_le (Nat.le_refl _)
        rw [hw] at hpw hcn ⊢
        rw [← fold_same] at hpw hcn ⊢
        have htwo := fold_two ws st l cut
        have hwb := folds_wd ws (l.take cut) (st, 0) HST.out (fun s hs => HOK.out s (List.mem_of_mem_take hs))
        have hwc := folds_wd ws (l.drop cut) (can (foldOf ws st (l.take cut)).1, 0) (by rw [← fold_same] at hwb; exact hwb.can) (fun s hs => HOK.out s (List.mem_of_mem_drop hs))
        rw [← fold_same] at hwb hwc
        have hN := HN.out
        have hdat : ∀ s ∈ l, s.data.size ≤ 300 := fun s hs => (HOK.out s hs).2
        have hoks : ∀ s ∈ l, s.Ok := fun s hs => (HOK.out s hs).1
        have FA := hid (fun (w9 : World) (g cap : Nat) (h : StoX w9 (some ⟨g, 0, none⟩) l) (t : Touch [] W w9) => fold_any x c ws st (some ⟨g, 0, none⟩) cap l w9 (HX.out.touch t) (by have := HL.out; omega) HST.out (by omega) h hdat)
        have FB : Hid (∀ (w9 : World) (d' : Nat), Touch [] W w9 → Calls Try.prog 14 #[.agg #[.slice x ws.length c], .float .f64 st, .slice y cut d'] w9 (FoldPost (foldOf ws st (l.take cut)) w9)) := fun w9 d' t => by
          have h := fold_any x c ws st y d' (l.take cut) w9 (HX.out.touch t) (by have := HL.out; omega) HST.out (by rw [List.length_take]; omega) (stoX_take cut (HY.out.touch t)) (fun s hs => hdat s (List.mem_of_mem_take hs))
          rwa [show (l.take cut).length = cut by rw [List.length_take]; omega] at h
        have FC : Hid (∀ (w9 : World) (d' : Nat), Touch [] W w9 → Calls Try.prog 14 #[.agg #[.slice x ws.length c], .float .f64 (can (foldOf ws st (l.take cut)).1), .slice (lowAt y d cut) (l.length - cut) d'] w9 (FoldPost (foldOf ws (can (foldOf ws st (l.take cut)).1) (l.drop cut)) w9)) := fun w9 d' t => by
          have h := fold_any x c ws (can (foldOf ws st (l.take cut)).1) (lowAt y d cut) d' (l.drop cut) w9 (HX.out.touch t) (by have := HL.out; omega) hwb.can (by rw [List.length_drop]; omega) (stoX_drop (HY.out.touch t) hN.2.1) (fun s hs => hdat s (List.mem_of_mem_drop hs))
          rwa [List.length_drop] at h
        have LS := hid (fun (w9 : World) (t : Touch [] W w9) => lentSto_any y d l w9 (by omega) (HY.out.touch t) HYN.out)
        have ST := hid (fun (w9 : World) (g cap base : Nat) (t : Touch [] W w9) (hc : l.length + 1 ≤ cap) (hm : Marked w9 base g cap l) => stays_any g cap base y d l w9 (by omega) hc hm (HY.out.touch t) hoks)
        have HOKS := hid hoks
        clear hoks hdat hN HX HY HYN HOK HN HST RR HL hw hlt hk
        unfold FoldPost at FA FB FC
        generalize foldOf ws (can (foldOf ws st (l.take cut)).1) (l.drop cut) = rc at *
        generalize foldOf ws st (l.take cut) = rb at *
        generalize foldOf ws st l = ra at *
        obtain ⟨a1, n1⟩ := ra
        obtain ⟨b1, n2⟩ := rb
        obtain ⟨c1, n3⟩ := rc
        obtain ⟨hcan, hsum⟩ := htwo
        simp only at hcan hsum hpw hcn hwb hwc FA FB FC
        have SA := hid (fun w => refSame_any (can a1) a1 w hpw.can hpw)
        rw [can_can, decide_eq_true rfl] at SA
        have SC : Hid (∀ w : World, Calls Try.prog 15 #[.float .f64 (can c1), .float .f64 a1] w fun e w' => e = .returned (.bool true) ∧ w = w') := fun w => by
          have h := refSame_any (can c1) a1 w hwc.can hpw
          rwa [show decide (can (can c1) = can a1) = true from by rw [can_can, hcan]; simp] at h
        have n1I : (n1 : Int) ≤ 30 := by omega
        have n2I : (n2 : Int) ≤ 30 := by omega
        have n3I : (n3 : Int) ≤ 30 := by omega
        have nsum : ((n2 : Int) + n3 == n1) = true := by simp; omega
        clear hcan hsum hpw hcn hwb hwc
        go_wp2_with fail
        refine (LS.out _ (HT.out.trans HTr.out (by simp))).mono ?_
        rintro e w4 ⟨g, cap, rfl, hcap, hcm, hown, t4⟩
        have M4 : Hid (Marked w4 wr.heap.size g cap l) := hid hown
        have T4 := hid (HTr.out.trans t4 (by simp))
        have b4 := cell_of (touch_other T4.out HB.out (by simp)) 0
        have X4 := hid (M4.out.list HOKS.out)
        have hcapI : (l.length : Int) + 1 ≤ cap := by omega
        have HCAP := hid hcap
        clear hown t4 hcap LS
        go_wp2_with fail
        refine (FA.out _ g cap X4.out (HT.out.trans T4.out (by simp))).mono ?_
        rintro e w5 ⟨rfl, t5⟩
        have M5 := hid (M4.out.touch t5)
        have T5 := hid (T4.out.trans t5 (by simp))
        clear t5 FA b4 X4 M4
        go_upto_region 15 with fail
        obtain ⟨ι, f, ⟨θ0, hθ0⟩, F0, FT, FD⟩ : ∃ (ι : Type) (f : ι → World), (∃ θ, f θ = w5.drew) ∧ (∀ θ, (f θ).cell? ⟨w1.heap.size, 0, none⟩ = some (.slice x ws.length c)) ∧
            Hid (∀ θ, Touch [] w5 (f θ)) ∧ Hid (∀ θ d', Calls Try.prog 14 #[.agg #[.slice x ws.length c], .float .f64 st, .slice y cut d'] (f θ) fun e w'' => e = .returned (.tuple #[.float .f64 (can b1), .int .i64 n2]) ∧ ∃ θ', w'' = f θ') :=
          ⟨{wx // Touch [] w5 wx}, Subtype.val, ⟨⟨_, (Touch.refl [] w5).drew⟩, rfl⟩, fun θ => cell_of (touch_other (T5.out.trans θ.2 (by simp)) HB.out (by simp)) 0,
            hid fun θ => θ.2, hid fun θ d' => (FB.out _ d' ((HT.out.trans T5.out (by simp)).trans θ.2 (by simp))).mono fun e w'' ⟨he, h2⟩ => ⟨he, ⟨⟨w'', θ.2.trans h2 (by simp)⟩, rfl⟩⟩⟩
        have Hθ := hid hθ0
        have inst : Nonempty ι := ⟨θ0⟩
        clear hθ0 FB
        refine wp_region_held f θ0 (by kernel_rfl) (by kernel_rfl) Hθ.out ?_
        repeat go_big_quiet_step (exact FD.out _ _)
        refine wpQuiet_nil ?_
        intro _ hw'
        obtain ⟨θ, hw''⟩ := hw'
        subst hw''
        have T6 := hid (T5.out.trans (FT.out θ) (by simp))
        have M6 := hid (M5.out.touch (FT.out θ))
        clear F0 FT FD M5 T5 Hθ
        generalize f θ = w6 at *
        clear inst θ0 θ
        clear f
        clear ι
        go_upto_region 16 with fail
        obtain ⟨ι, f, ⟨θ0, hθ0⟩, F0, FT, FD⟩ : ∃ (ι : Type) (f : ι → World), (∃ θ, f θ = w6.drew) ∧ (∀ θ, (f θ).cell? ⟨w1.heap.size, 0, none⟩ = some (.slice x ws.length c)) ∧
            Hid (∀ θ, Touch [] w6 (f θ)) ∧ Hid (∀ θ d', Calls Try.prog 14 #[.agg #[.slice x ws.length c], .float .f64 (can b1), .slice (lowAt y d cut) (l.length - cut) d'] (f θ) fun e w'' => e = .returned (.tuple #[.float .f64 (can c1), .int .i64 n3]) ∧ ∃ θ', w'' = f θ') :=
          ⟨{wx // Touch [] w6 wx}, Subtype.val, ⟨⟨_, (Touch.refl [] w6).drew⟩, rfl⟩, fun θ => cell_of (touch_other (T6.out.trans θ.2 (by simp)) HB.out (by simp)) 0,
            hid fun θ => θ.2, hid fun θ d' => (FC.out _ d' ((HT.out.trans T6.out (by simp)).trans θ.2 (by simp))).mono fun e w'' ⟨he, h2⟩ => ⟨he, ⟨⟨w'', θ.2.trans h2 (by simp)⟩, rfl⟩⟩⟩
        have Hθ := hid hθ0
        have inst : Nonempty ι := ⟨θ0⟩
        clear hθ0 FC
        refine wp_region_held f θ0 (by kernel_rfl) (by kernel_rfl) Hθ.out ?_
        repeat go_big_quiet_step (exact FD.out _ _)
        refine wpQuiet_nil ?_
        intro _ hw'
        obtain ⟨θ, hw''⟩ := hw'
        subst hw''
        have T7 := hid (T6.out.trans (FT.out θ) (by simp))
        have M7 := hid (M6.out.touch (FT.out θ))
        generalize (ite (d = cut) y _) = yy at *
        clear F0 FT FD M6 T6 Hθ
        generalize f θ = w7 at *
        clear inst θ0 θ
        clear f
        clear ι
        go_wp2_with fail
        refine (AL.out _).mono ?_
        rintro e w8 ⟨rfl, t8⟩
        have T8 : Hid (Touch [] W w8) := hid ((HT.out.trans T7.out (by simp)).trans t8 (by simp))
        have M8 := hid (M7.out.touch t8)
        clear t8 AL
        go_wp2_with fail
        refine (SA.out _).mono ?_
        rintro e w9 ⟨rfl, rfl⟩
        clear SA
        go_wp2_with fail
        refine (SC.out _).mono ?_
        rintro e w9 ⟨rfl, rfl⟩
        clear SC
        go_wp2_with fail
        refine (ST.out _ _ _ _ T8.out HCAP.out M8.out).mono ?_
        rintro e w9 ⟨rfl, t9⟩
        go_wp2_with fail
        go_ret
        exact ⟨rfl, T8.out.trans t9 (by simp)⟩
end Go.Proofs.Ytiglfdefeaddmaa
