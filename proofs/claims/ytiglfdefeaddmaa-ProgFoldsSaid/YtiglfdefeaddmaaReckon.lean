/- What reckon comes to. -/
import Derived.Test.YtiglfdefeaddmaaCheck
namespace Go.Proofs.Ytiglfdefeaddmaa
open Go.RowKit Go.Lib

theorem step_len (E : EnvD) (k : Wk) (s s' : List Nat) (h : stepK E k s = .ok s') : s'.length ≤ s.length + 1 := by
  unfold stepK at h
  split at h <;> first | (cases h; simp; done) | (cases h; simp; omega) | (split at h <;> first | (cases h; simp; done) | cases h) | cases h

/-- The words of texts. -/
def wordsL (l : List ByteArray) : List (List UInt8) := l.map fun s => s.data.toList
theorem exec_take (E : EnvD) (l : List ByteArray) (k : Nat) (h : k < l.length) (s : List Nat) (hs : exec E (wordsL (l.take k)) [] = .ok s) :
    exec E (wordsL (l.take (k + 1))) [] = match stepK E (kindOf l[k].data.toList) s with | .ok s' => .ok s' | .bad f => .bad f := by
  rw [List.take_succ_eq_append_getElem h]
  unfold wordsL at *
  rw [List.map_append, exec_append, hs]
  rfl
theorem exec_bad (E : EnvD) (l : List ByteArray) (k : Nat) (f : FltD) (hs : exec E (wordsL (l.take k)) [] = .bad f) : exec E (wordsL l) [] = .bad f := by
  have : wordsL l = wordsL (l.take k) ++ wordsL (l.drop k) := by unfold wordsL; rw [← List.map_append, List.take_append_drop]
  rw [this, exec_append, hs]

abbrev numberF : FltD := ⟨6, 2, none8⟩
/-- What reckon comes to. -/
def RecPost (o : Out) (W : World) (e : Ending) (W' : World) : Prop := Below W.heap.size W W' ∧
  match o with
  | .bad f => ∃ v, e = .panicked [{ v := v, recovered := false }] ∧ Tells v f
  | .ok [x] => e = .returned (.float .f64 x) ∧ Wd x
  | .ok _ => ∃ v, e = .panicked [{ v := v, recovered := false }] ∧ Tells v numberF

@[reducible] def EnvD.val (E : EnvD) : Value := .agg #[.float .f64 E.state, .int .i64 E.id, .string E.typ, .string E.data, .float .f64 E.value, .int .i64 E.version]

theorem mach_new (E : EnvD) (W : World) : Mach E W.heap.size [] (W.alloc (.cells (E.cells (.slice none 0 0)) TMach)) :=
  ⟨_, heap_alloc_new W _, World.ownsRow_nil _ _ _ _, by simp⟩
/-- The slice of a machine. -/
theorem Mach.stack {E : EnvD} {g : Nat} {s : List Nat} {W : World} (h : Mach E g s W) : ∃ a0 c, W.cell? ⟨g, 6, none⟩ = some (.slice a0 s.length c) ∧ ∀ x, s = [x] → ∃ b, a0 = some ⟨b, 0, none⟩ ∧ W.cell? ⟨b, 0, none⟩ = some (.float .f64 x) := by
  obtain ⟨v, hg, hrow, _⟩ := h
  rcases hrow.2 with ⟨rfl, h0⟩ | ⟨b, cap, cur, rfl, hb, hh, _⟩
  · refine ⟨none, 0, by rw [cell_of hg 6, h0]; rfl, fun x hx => ?_⟩
    rw [hx] at h0; cases h0
  · refine ⟨_, cap, cell_of hg 6, fun x hx => ⟨b, rfl, ?_⟩⟩
    have := hrow.cells (g := b) rfl 0 (.float .f64 x) (by rw [hx]; simp [fvals])
    rwa [show (⟨b, 0, none⟩ : Addr).add 0 = ⟨b, 0, none⟩ from by unfold Addr.add; split <;> simp_all] at this
theorem TextsX.below {W W' : World} {x : Option Addr} {l : List ByteArray} {B : Nat} (h : TextsX W x l) (hW : W.heap.size ≤ B) (hb : Below B W W') : TextsX W' x l := fun i hi => by
  obtain ⟨b, off, h1, h2, h3⟩ := h i hi
  exact ⟨b, off, h1, (hb.cell (p := ⟨b, off + i, none⟩) (Nat.lt_of_lt_of_le (World.block_lt_of_cell? W _ h2) hW)).trans h2, h3⟩

set_option maxHeartbeats 2000000 in
theorem reckon_any (x : Option Addr) (c : Nat) (l : List ByteArray) (E : EnvD) (W : World) (hE : E.Ok) (hl : l.length ≤ 64) (hx : TextsX W x l) (hok : ∀ j (hj : j < l.length), noWord l[j] = false) :
    Calls Try.prog 37 #[.agg #[.slice x l.length c], E.val] W (RecPost (exec E (wordsL l) []) W) := by
  have HX := hid hx
  have HO := hid hok
  have HE := hid hE
  have HL := hid hl
  have hsf := store_flt
  clear hx hok hE
  go_enter Try.func37, Try.ntmps37
  go_wp2
  have HM := hid (mach_new E ((W.alloc (.cells #[.slice x l.length c] 29)).alloc (.cells #[.float .f64 E.state, .int .i64 E.id, .string E.typ, .string E.data, .float .f64 E.value, .int .i64 E.version] 51)))
  have hz : ((W.alloc (.cells #[.slice x l.length c] 29)).alloc (.cells #[.float .f64 E.state, .int .i64 E.id, .string E.typ, .string E.data, .float .f64 E.value, .int .i64 E.version] 51)).heap.size = W.heap.size + 1 + 1 := by simp
  rw [hz] at HM
  have HB : Hid (Below W.heap.size W (((W.alloc (.cells #[.slice x l.length c] 29)).alloc (.cells #[.float .f64 E.state, .int .i64 E.id, .string E.typ, .string E.data, .float .f64 E.value, .int .i64 E.version] 51)).alloc (.cells (E.cells (.slice none 0 0)) TMach))) :=
    hid ((((Below.refl _ _).alloc (Nat.le_refl _) _).alloc (by simp) _).alloc (by simp; omega) _)
  clear hz
  generalize ((W.alloc (.cells #[.slice x l.length c] 29)).alloc (.cells #[.float .f64 E.state, .int .i64 E.id, .string E.typ, .string E.data, .float .f64 E.value, .int .i64 E.version] 51)).alloc (.cells (E.cells (.slice none 0 0)) TMach) = W1 at *
  go_loopw [13] (fun iv wr => ∃ (k : Nat) (s : List Nat), k ≤ l.length ∧ iv = .int .i64 k ∧ exec E (wordsL (l.take k)) [] = .ok s ∧ s.length ≤ k ∧ Mach E (W.heap.size + 1 + 1) s wr ∧ Below W.heap.size W wr) (fun iv _ => l.length - (RowKit.intOf iv).toNat)
  case atStart => exact ⟨0, [], Nat.zero_le _, rfl, rfl, Nat.le_refl _, HM.out, HB.out⟩
  case round =>
    obtain ⟨k, s, hk, rfl, hex, hsl, hm, hb⟩ := hrel
    have HEx := hid hex
    have HMa := hid hm
    have HBe := hid hb
    clear hex hm hb
    by_cases hlt : k < l.length
    · obtain ⟨b, off, rfl, g1, g2⟩ := (HX.out.below (Nat.le_refl _) HBe.out) k hlt
      have hl2 : decide (k < l.length) = true := by simpa using hlt
      have C := hid (fun w => mean_some l[k] w (by unfold maxLen at g2; omega) (fun e => by have := HO.out k hlt; rw [(noWord_iff _).2 e] at this; cases this))
      have HT := hid (exec_take E l k hlt s HEx.out)
      clear g2
      generalize l[k] = sw at *
      go_wp2_with fail
      refine (C.out _).mono ?_
      rintro e w1 ⟨v, rfl, ⟨fn, cap, rfl, hen, hfn⟩, h1⟩
      have hm1 := HMa.out.touch h1
      have F := hid (hfn E (W.heap.size + 1 + 1) s HE.out HMa.out.lt hm1 (by omega))
      have hb1 := hid (HBe.out.trans (h1.below (by have := HBe.out.size; omega) (by simp)) : Below W.heap.size W w1)
      clear hfn C
      cases hst : stepK E (kindOf sw.data.toList) s with
      | ok s' =>
        have hlen := step_len E _ s s' hst
        rw [hst] at F HT
        have HT2 := hid (HT.out : exec E (wordsL (l.take (k + 1))) [] = .ok s')
        clear hst HT
        go_wp2_with fail
        refine F.out.mono ?_
        rintro e w2 ⟨rfl, hm2, hbb⟩
        have HM2 := hid hm2
        have HB2 := hid (hb1.out.trans (hbb _ (by omega)) : Below W.heap.size W w2)
        clear hm2 hbb hen hm1
        go_wp2
        go_roundw
        case rel => exact ⟨k + 1, s', by omega, by go_num, HT2.out, by omega, HM2.out, HB2.out⟩
        case measure => simp [RowKit.intOf]; omega
      | bad f =>
        rw [hst] at F HT
        have HT2 := hid (exec_bad E l (k + 1) f HT.out)
        clear hst HT
        go_wp2_with fail
        refine F.out.mono ?_
        rintro e w2 ⟨⟨pv, rfl, htl⟩, hbb⟩
        have HTL := hid htl
        have HB2 := hid (hb1.out.trans (hbb _ (by omega)) : Below W.heap.size W w2)
        clear htl hbb hen hm1
        go_wp2
        refine ⟨rfl, ?_⟩
        rw [HT2.out]
        exact ⟨HB2.out, _, rfl, HTL.out⟩
    · obtain rfl : k = l.length := by omega
      have hl2 : decide (l.length < l.length) = false := by simp
      have hw : l.take l.length = l := List.take_of_length_le (Nat.le_refl _)
      rw [hw] at HEx
      obtain ⟨a0, cc, c6, hone⟩ := HMa.out.stack
      have hwd := hid (HMa.out.wd)
      rcases s with _ | ⟨y, _ | ⟨y2, s⟩⟩
      · have P := hid (fun w => must_panics 6 (by decide) w)
        have c6' : wr.cell? ⟨W.heap.size + 1 + 1, 6, none⟩ = some (.slice a0 0 cc) := c6
        clear hone c6 hw hsl
        go_wp2_with (go_at_call 47; refine (P.out _).mono ?_; rintro e w1 ⟨rfl, rfl⟩)
        refine ⟨rfl, ?_⟩
        rw [HEx.out]
        exact ⟨HBe.out, _, rfl, tells_errno (by decide)⟩
      · obtain ⟨b, rfl, cb⟩ := hone y rfl
        have c6' : wr.cell? ⟨W.heap.size + 1 + 1, 6, none⟩ = some (.slice (some ⟨b, 0, none⟩) 1 cc) := c6
        clear hone c6 hw hsl
        go_wp2
        go_ret
        rw [HEx.out]
        exact ⟨HBe.out, rfl, hwd.out y (by simp)⟩
      · have P := hid (fun w => must_panics 6 (by decide) w)
        have c6' : wr.cell? ⟨W.heap.size + 1 + 1, 6, none⟩ = some (.slice a0 (s.length + 2) cc) := c6
        have hne : ((s.length : Int) + 2 != 1) = true := by simp; omega
        clear hone c6 hw hsl
        go_wp2_with (go_at_call 47; refine (P.out _).mono ?_; rintro e w1 ⟨rfl, rfl⟩)
        refine ⟨rfl, ?_⟩
        rw [HEx.out]
        exact ⟨HBe.out, _, rfl, tells_errno (by decide)⟩
end Go.Proofs.Ytiglfdefeaddmaa
