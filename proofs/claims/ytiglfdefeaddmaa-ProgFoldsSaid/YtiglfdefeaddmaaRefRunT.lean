/- What the laws' own Run tells. -/
import Derived.Test.YtiglfdefeaddmaaStk
import Derived.Test.YtiglfdefeaddmaaTakes
import Derived.Test.YtiglfdefeaddmaaPRun
import Derived.Test.YtiglfdefeaddmaaByte
import Derived.Deep.DeepCutAuto
import Derived.IntWalk
import Derived.Deep.CutBlock
import Derived.Deep.RegionHeld3
namespace Go.Proofs.Ytiglfdefeaddmaa
open Go.RowKit Go.Lib

def needN : Wk → Nat
  | .byte => 1 | .neg => 1 | .add => 2 | .sub => 2 | .mul => 2 | .div => 2 | .min => 2 | .max => 2 | .less => 2
  | .dup => 1 | .drop => 1 | .swap => 2 | .pick => 3 | _ => 0
theorem needN_eq {k : Wk} (h : isNo k = false) : (needs k).1 = (needN k : Int) := by
  cases k <;> first | rfl | (simp [isNo] at h)
theorem step_short (E : EnvD) {k : Wk} {s : List Nat} (hs : s.length < needN k) : stepK E k s = .bad runtimeF := by
  rcases s with _ | ⟨c, _ | ⟨b, _ | ⟨a, s⟩⟩⟩ <;> cases k <;> first | rfl | (simp [needN] at hs; done) | (exfalso; simp only [needN, List.length_cons] at hs; omega)

@[reducible] def EnvD.ev (E : EnvD) : Value := .agg #[.int .i64 E.id, .string E.typ, .string E.data, .float .f64 E.value]
def RefPost (r : Nat × FltD) (W : World) (e : Ending) (W' : World) : Prop := e = .returned (.tuple #[.float .f64 r.1, .int .i64 r.2.err, .int .i64 r.2.kind, .string r.2.text]) ∧ Touch [] W W'

/-- What stands in the stack's slot behind a word, ahead of Canon. -/
def CutR (base : Nat) (s' : List Nat) (W1 : World) (sv : Value) (wx : World) : Prop :=
  ∃ (L : List Nat) (y : Option Addr) (cap : Nat), sv = .slice y L.length cap ∧ wx.ownsRow base TFlt 1 (.slice y L.length cap) L.length (fvals L) ∧ (∀ x ∈ L, Wd x) ∧ L.map can = s'.reverse ∧ Touch [] W1 wx
theorem cut_close {base n cap3 : Nat} {rest s' vs : List Nat} {y3 : Option Addr} {W1 wx : World} (hok : ∀ x ∈ rest, Wd x ∧ can x = x) (hv : ∀ x ∈ vs, Wd x) (own : wx.ownsRow base TFlt 1 (.slice y3 n cap3) n (fvals (rest.reverse ++ vs))) (hs : s' = (vs.map can).reverse ++ rest) (ht : Touch [] W1 wx) :
    CutR base s' W1 (.slice y3 n cap3) wx := by
  have hn := flt_len own
  rw [hn] at own ⊢
  refine ⟨_, y3, cap3, rfl, own, ?_, ?_, ht⟩
  · intro x hx
    rw [List.mem_append, List.mem_reverse] at hx
    rcases hx with hx | hx
    · exact (hok x hx).1
    · exact hv x hx
  · rw [hs, List.map_append, List.reverse_append, List.reverse_reverse, List.map_reverse]
    congr 2
    exact (List.map_congr_left fun x hx => (hok x hx).2).trans (List.map_id _)
theorem flts_one {w : World} (z : Nat) (n : Nat) (hz : Wd z) (hn : w.heap.size = n) : Flts (w.alloc (.cells #[.float .f64 z] TFlt)) (some ⟨n, 0, none⟩) [z] := by
  subst hn
  exact flts_new w TFlt [z] (by simpa using hz)
theorem run_ar_fn (op : BinOp) (hop : op = .add ∨ op = .sub ∨ op = .mul ∨ op = .quo) (a b : Nat) : ∃ (rf : World → Nat) (wf : World → World), (∀ t w, (binOp op t (.float .f64 a) (.float .f64 b)).run Try.prog w = .ok (.float .f64 (rf w)) (wf w)) ∧ ∀ w, Wd (rf w) ∧ can (rf w) = can (ar op a b) ∧ Touch [] w (wf w) := by
  have key : ∀ w : World, ∃ x : Nat × World, (∀ t, (binOp op t (.float .f64 a) (.float .f64 b)).run Try.prog w = .ok (.float .f64 x.1) x.2) ∧ Wd x.1 ∧ can x.1 = can (ar op a b) ∧ Touch [] w x.2 := fun w => by
    obtain ⟨r, w', h⟩ := run_ar op hop a b w
    exact ⟨(r, w'), h⟩
  exact ⟨fun w => (Classical.choose (key w)).1, fun w => (Classical.choose (key w)).2, fun t w => (Classical.choose_spec (key w)).1 t, fun w => (Classical.choose_spec (key w)).2⟩
/-- Which of two is picked, by the laws' own test. -/
theorem pick_test {c : Nat} (hc : Wd c) : ((FloatKind.f64.format.order c 0 != some .eq) = true ∧ (FloatKind.f64.format.order c c == some .eq) = false ∧ cls c = 0) ∨ ((FloatKind.f64.format.order c 0 != some .eq) = false ∧ (cls c = 3 ∨ cls c = 4)) ∨ ((FloatKind.f64.format.order c 0 != some .eq) = true ∧ (FloatKind.f64.format.order c c == some .eq) = true ∧ ¬ (cls c = 0 ∨ cls c = 3 ∨ cls c = 4)) := by
  by_cases hn : isNan c = true
  · left
    have h1 : FloatKind.f64.format.order c 0 = none := order_nan hc.lt (by decide) (.inl hn)
    have h2 : FloatKind.f64.format.order c c = none := order_nan hc.lt hc.lt (.inl hn)
    refine ⟨by rw [h1]; rfl, by rw [h2]; rfl, by unfold cls; rw [if_pos hn]⟩
  · right
    have nc := isNan_false c hn
    have he : (FloatKind.f64.format.order c 0 == some .eq) = decide (sr c = sr 0) := eq_eq hc.lt (by decide) nc (by decide)
    have he2 : (FloatKind.f64.format.order c c == some .eq) = decide (sr c = sr c) := eq_eq hc.lt hc.lt nc nc
    have hne : (FloatKind.f64.format.order c 0 != some .eq) = !(FloatKind.f64.format.order c 0 == some .eq) := rfl
    rw [sr_zero] at he
    have hcl := cls_num c hc nc
    by_cases h0 : sr c = 0
    · left
      refine ⟨by rw [hne, he, decide_eq_true h0]; rfl, ?_⟩
      have hr : rung c = 0 := by unfold sr at h0; split at h0 <;> omega
      rw [hcl, hr]
      cases neg c
      · exact .inr rfl
      · exact .inl rfl
    · right
      refine ⟨by rw [hne, he, decide_eq_false h0]; rfl, by rw [he2]; simp, ?_⟩
      have hr : ¬ rung c = 0 := fun e => h0 (by unfold sr; rw [e]; split <;> rfl)
      rw [hcl, decide_eq_false hr]
      cases neg c <;> cases decide (rung c = 9218868437227405312) <;> simp [clsB]

theorem fvals_app (a b : List Nat) : fvals a ++ fvals b = fvals (a ++ b) := by unfold fvals; rw [List.map_append]
theorem placeB_parts {n x : Nat} (h : placeB n x = true) : inside n x = true ∧ Proofs.Ytiglfdefeaddmaa.W x := by
  unfold placeB at h
  simp only [Bool.and_eq_true, decide_eq_true_eq] at h
  exact h
theorem inside_tests {n x : Nat} (h : inside n x = true) : (FloatKind.f64.format.order x 0 == some .gt || FloatKind.f64.format.order x 0 == some .eq) = true ∧ (FloatKind.f64.format.order x (fl n) == some .lt) = true := by
  unfold inside at h
  rw [Bool.and_eq_true] at h
  exact h
theorem low_rung {n x : Nat} (hn : n ≤ 300) (ht : tr (rung x) < n) : rung x ≤ 4831355200913801208 := by
  have h1 : mv (rung x) < 300 * U := Nat.lt_of_lt_of_le ((tr_lt _ _).1 ht) (Nat.mul_le_mul_right _ hn)
  rw [← (nr_spec 300 (by decide)).1] at h1
  have h2 := mv_lt_iff.1 h1
  have h3 : nr 300 = 4643985272004935680 := by
    have h4 := (fl_parts 300 (by decide)).2.2.1
    have h5 : rung (fl 300) = 4643985272004935680 := by decide +kernel
    rw [h5] at h4
    exact h4.symm
  omega
theorem len_one {α : Type} {l : List α} (h : l.length = 1) : ∃ a, l = [a] := by
  rcases l with _ | ⟨a, _ | ⟨b, t⟩⟩ <;> simp_all
theorem len_two {α : Type} {l : List α} (h : l.length = 2) : ∃ b a, l = [b, a] := by
  rcases l with _ | ⟨a, _ | ⟨b, _ | ⟨c, t⟩⟩⟩ <;> simp_all
theorem len_three {α : Type} {l : List α} (h : l.length = 3) : ∃ c b a, l = [c, b, a] := by
  rcases l with _ | ⟨a, _ | ⟨b, _ | ⟨c, _ | ⟨d, t⟩⟩⟩⟩ <;> simp_all
theorem bad_kinds {E : EnvD} {kd : Wk} {top rest : List Nat} {f : FltD} (h : stepK E kd (top ++ rest) = .bad f) (hn : top.length = needN kd) (hno : isNo kd = false) :
    (kd = .fail ∧ f = ⟨21, 3, ⟨wFail.toArray⟩⟩) ∨ (kd = .byte ∧ f = runtimeF ∧ ∃ a, top = [a] ∧ placeB E.data.size a = false) := by
  have z : ∀ {t : List Nat}, t.length = 0 → t = [] := fun e => List.eq_nil_of_length_eq_zero e
  cases kd
  case fail =>
    obtain rfl := z hn
    cases rest <;> (cases h; exact .inl ⟨rfl, rfl⟩)
  case byte =>
    obtain ⟨a, rfl⟩ := len_one hn
    right
    have h' : (if placeB E.data.size a = true then Out.ok (can (fl ((E.data.data.toList.getD (placeOf a) 0).toNat : Int)) :: rest) else .bad runtimeF) = .bad f := h
    cases hp : placeB E.data.size a
    · rw [hp, if_neg (by simp)] at h'
      cases h'
      exact ⟨rfl, rfl, a, rfl, hp⟩
    · rw [hp, if_pos rfl] at h'
      cases h'
  case none => simp [isNo] at hno
  case state => obtain rfl := z hn; cases rest <;> cases h
  case value => obtain rfl := z hn; cases rest <;> cases h
  case version => obtain rfl := z hn; cases rest <;> cases h
  case len => obtain rfl := z hn; cases rest <;> cases h
  case num => obtain rfl := z hn; cases rest <;> cases h
  case neg => obtain ⟨a, rfl⟩ := len_one hn; cases h
  case dup => obtain ⟨a, rfl⟩ := len_one hn; cases h
  case drop => obtain ⟨a, rfl⟩ := len_one hn; cases h
  case pick => obtain ⟨a, b, c, rfl⟩ := len_three hn; cases h
  all_goals (obtain ⟨a, b, rfl⟩ := len_two hn; cases h)
theorem fail_word {l : List UInt8} (h : kindOf l = .fail) : l = wFail := by
  rcases named_cases l with ⟨kd, hN, hkd⟩ | hno
  · rw [hkd] at h
    cases hN <;> first | rfl | cases h
  · by_cases e : (parseOf l).2 = 0
    · rw [kind_num hno e] at h; cases h
    · rw [kind_none hno e] at h; cases h
theorem byte_word {l : List UInt8} (h : kindOf l = .byte) : l = wByte := by
  rcases named_cases l with ⟨kd, hN, hkd⟩ | hno
  · rw [hkd] at h
    cases hN <;> first | rfl | cases h
  · by_cases e : (parseOf l).2 = 0
    · rw [kind_num hno e] at h; cases h
    · rw [kind_none hno e] at h; cases h
theorem canon_step {L : List Nat} {j : Nat} (h : j < L.length) : (fvals ((L.take j).map can ++ L.drop j)).set j (.float .f64 (can L[j])) = fvals ((L.take (j + 1)).map can ++ L.drop (j + 1)) := by
  have h1 : (fvals ((L.take j).map can ++ L.drop j)).set j (.float .f64 (can L[j])) = fvals (((L.take j).map can ++ L.drop j).set j (can L[j])) := by
    unfold fvals
    rw [List.map_set]
  rw [h1]
  congr 1
  rw [List.set_append_right _ _ (by simp; omega), List.take_succ_eq_append_getElem h, List.map_append, List.append_assoc]
  congr 1
  have : j - ((L.take j).map can).length = 0 := by simp; omega
  rw [this, List.drop_eq_getElem_cons h]
  rfl
theorem canon_at {L : List Nat} {j : Nat} (h : j < L.length) : ∃ hj : j < ((L.take j).map can ++ L.drop j).length, ((L.take j).map can ++ L.drop j)[j] = L[j] := by
  refine ⟨by simp; omega, ?_⟩
  rw [List.getElem_append_right (by simp; omega)]
  simp [Nat.min_eq_left (Nat.le_of_lt h)]

theorem ref_whole {n x : Nat} (hn : n ≤ 300) (hx : Wd x) (h : inside n x = true) (hw : Proofs.Ytiglfdefeaddmaa.W x) : (FloatKind.f64.format.order (fl (ival x)) x == some .eq) = true := by
  obtain ⟨_, h2, h3, _⟩ := inside_facts hn hx h
  exact ((refW_iff x hx.lt h2).1 hw).2
theorem ref_part {n x : Nat} (hn : n ≤ 300) (hx : Wd x) (h : inside n x = true) (hw : ¬ Proofs.Ytiglfdefeaddmaa.W x) : (FloatKind.f64.format.order (fl (ival x)) x == some .eq) = false := by
  obtain ⟨_, h2, h3, _⟩ := inside_facts hn hx h
  rw [Bool.eq_false_iff]
  intro e
  refine hw ((refW_iff x hx.lt h2).2 ⟨?_, e⟩)
  rw [refW_eq x hx.lt h2, decide_eq_true_eq]
  exact low_rung hn h3

/-- What an arm may use. -/
structure ArmCtx (l : List ByteArray) (E : EnvD) (W W1 wr : World) (k bx ox : Nat) (sw : ByteArray) (top rest : List Nat) (ax : Option Addr) (cx nt : Nat) (y2 : Option Addr) (c2 : Nat) (w2 : World) (s' : List Nat) : Prop where
  HE : Hid E.Ok
  HZ : Hid (W1.heap.size = W.heap.size + 1)
  HMEM : Hid (sw.size ≤ 100000)
  HNK : Hid (isNo (kindOf sw.data.toList) = false)
  HFA : Hid (Flts wr ax top.reverse)
  b0 : (0 : Int) ≤ rest.length
  b3 : (rest.length : Int) ≤ 64
  HOK : Hid (∀ x ∈ top ++ rest, Wd x ∧ can x = x)
  HN : Hid (nt = needN (kindOf sw.data.toList))
  t1 : decide (rest.length + nt < nt) = false
  t1i : decide ((rest.length : Int) + nt < nt) = false
  b1 : (rest.length : Int) + nt ≤ 64
  b2 : (0 : Int) ≤ nt
  b4 : (nt : Int) ≤ 64
  HLE : Hid (rest.length + nt ≤ 64)
  HNT : Hid (top.length = nt)
  O2 : Hid (w2.ownsRow (W.heap.size + 1) TFlt 1 (.slice y2 rest.length c2) rest.length (fvals rest.reverse))
  T2 : Hid (Touch [] wr w2)
  g4 : w2.cell? ⟨bx, ox + k, none⟩ = some (.string sw)
  x2 : w2.cell? ⟨W.heap.size, 2, none⟩ = #[Value.int IntKind.i64 E.id, Value.string E.typ, Value.string E.data, Value.float FloatKind.f64 E.value][2]?
  x3 : w2.cell? ⟨W.heap.size, 3, none⟩ = #[Value.int IntKind.i64 E.id, Value.string E.typ, Value.string E.data, Value.float FloatKind.f64 E.value][3]?
  Wt : Hid (Touch [] W1 w2)
  hst2 : stepK E (kindOf sw.data.toList) (top ++ rest) = .ok s'
  hlt : k < l.length
  hl2 : decide (k < l.length) = true
def grp : Wk → Nat
  | .state => 0 | .value => 0 | .version => 0 | .len => 0 | .byte => 0 | .neg => 0 | .add => 1 | .sub => 1 | .mul => 1 | .div => 2 | .min => 2 | .max => 2 | .less => 2
  | .dup => 3 | .drop => 3 | .swap => 3 | .pick => 3 | .fail => 0 | .num _ => 0 | .none => 0
theorem grp_lt (k : Wk) : grp k = 0 ∨ grp k = 1 ∨ grp k = 2 ∨ grp k = 3 := by cases k <;> simp [grp]

set_option linter.unusedVariables false
set_option maxHeartbeats 100000000 in
set_option maxRecDepth 100000 in
@[reducible] noncomputable def frameT : { T : Nat → List ByteArray → EnvD → World → World → World → Value → Value → Value → Value → Value → Value → Value → Value → Value → Value → Value → Value → Value → Value → Value → Value → Value → Value → Value → Value → Value → Value → Value → Value → Value → Value → Value → Value → Value → Value → Value → Value → Value → Value → Value → Value → Value → Value → Value → Value → Value → Value → Value → Value → Value → Value → Value → Value → Value → Value → Value → Value → Value → Value → Value → Value → Value → Value → Value → Value → Value → Value → Value → Value → Value → Value → Value → Value → Value → Value → Value → Value → Value → Value → Value → Value → Value → Value → Value → Value → Value → Value → Value → Value → Value → Value → Value → Value → Value → Value → Value → Value → Value → Value → Value → Value → Value → Value → Value → Value → Value → Value → Value → Value → Value → Value → Value → Value → Value → Value → Value → Value → Value → Value → Value → Value → Value → Value → Value → Value → Value → Value → Value → Value → Value → Value → Value → Value → Value → Value → Value → Value → Value → Value → Value → Value → Value → Value → Value → Value → Value → Value → Value → Value → Value → Value → Value → Value → Value → Value → Value → Value → Value → Value → Value → Value → Value → Value → Value → Value → Value → Value → Value → Value → Value → Value → Value → Value → Value → Value → Value → Value → Value → Value → Value → Value → Value → Value → Value → Value → Value → Value → Value → Value → Value → Value → Value → Value → Value → Value → Value → Value → Value → Value → Value → Value → Value → Value → Value → Value → Value → Value → Value → Value → Value → Value → Value → Value → Value → Value → Value → Value → Value → Value → Value → Value → Value → Value → Value → Value → Value → Value → Value → Value → Value → Value → Value → Value → Value → Value → Value → Value → Value → Value → Value → Value → Value → Value → Value → Value → Value → Value → Value → Value → Value → Value → Value → Value → Value → Value → Value → Value → Value → Value → Value → Value → Value → Value → Value → Value → Value → Value → Value → Value → Value → Value → Value → Value → Value → Value → Value → Value → Nat → Option Addr → Nat → Nat → Nat → ByteArray → List Nat → List Nat → Option Addr → Nat → Int → Nat → (Act → World → Prop) → (Act → World → Prop) → (Act → World → Prop) → Option Addr → Nat → World → List Nat → Prop // (∀ (c : Nat) (l : List ByteArray) (E : EnvD) (W W1 wr : World) (u8 u9 u10 u11 u16 u17 u18 u19 u20 u21 u22 u30 u31 u32 u33 u34 u35 u36 u37 u38 u39 u40 u41 u42 u43 u44 u45 u46 u47 u48 u49 u50 u51 u52 u53 u54 u55 u56 u57 u58 u59 u60 u61 u62 u63 u64 u65 u66 u67 u68 u69 u70 u71 u72 u73 u74 u75 u76 u77 u78 u79 u80 u81 u82 u83 u84 u85 u86 u87 u88 u89 u90 u91 u92 u93 u94 u95 u96 u97 u98 u99 u100 u101 u102 u103 u104 u105 u106 u107 u108 u109 u110 u111 u112 u113 u114 u115 u116 u117 u118 u119 u120 u121 u122 u123 u124 u125 u126 u127 u128 u129 u130 u131 u132 u133 u134 u135 u136 u137 u138 u139 u140 u141 u142 u143 u144 u145 u146 u147 u148 u149 u150 u151 u152 u153 u154 u155 u156 u157 u158 u159 u160 u161 u162 u163 u164 u165 u166 u167 u168 u169 u170 u171 u172 u173 u174 u175 u176 u177 u178 u179 u180 u181 u182 u183 u184 u185 u186 u187 u188 u189 u190 u191 u192 u193 u194 u195 u196 u197 u198 u199 u200 u201 u202 u203 u204 u205 u206 u207 u208 u209 u210 u211 u212 u213 u214 u215 u216 u217 u218 u219 u220 u221 u222 u223 u224 u225 u226 u227 u228 u229 u230 u231 u232 u233 u234 u235 u236 u237 u238 u239 u240 u241 u242 u243 u244 u245 u246 u247 u248 u249 u250 u251 u252 u253 u254 u255 u256 u257 u258 u259 u260 u261 u262 u263 u264 u265 u266 u267 u268 u269 u270 u271 u272 u273 u274 u275 u276 u277 u278 u279 u280 u281 u282 u283 u284 u285 u286 u287 u288 u289 u290 : Value) (k : Nat) (y : Option Addr) (cap bx ox : Nat) (sw : ByteArray) (top rest : List Nat) (ax : Option Addr) (cx : Nat) (n2 : Int) (nt : Nat) (K2 K1 K0 : Act → World → Prop) (y2 : Option Addr) (c2 : Nat) (w2 : World) (s' : List Nat), ArmCtx l E W W1 wr k bx ox sw top rest ax cx nt y2 c2 w2 s' → T c l E W W1 wr u8 u9 u10 u11 u16 u17 u18 u19 u20 u21 u22 u30 u31 u32 u33 u34 u35 u36 u37 u38 u39 u40 u41 u42 u43 u44 u45 u46 u47 u48 u49 u50 u51 u52 u53 u54 u55 u56 u57 u58 u59 u60 u61 u62 u63 u64 u65 u66 u67 u68 u69 u70 u71 u72 u73 u74 u75 u76 u77 u78 u79 u80 u81 u82 u83 u84 u85 u86 u87 u88 u89 u90 u91 u92 u93 u94 u95 u96 u97 u98 u99 u100 u101 u102 u103 u104 u105 u106 u107 u108 u109 u110 u111 u112 u113 u114 u115 u116 u117 u118 u119 u120 u121 u122 u123 u124 u125 u126 u127 u128 u129 u130 u131 u132 u133 u134 u135 u136 u137 u138 u139 u140 u141 u142 u143 u144 u145 u146 u147 u148 u149 u150 u151 u152 u153 u154 u155 u156 u157 u158 u159 u160 u161 u162 u163 u164 u165 u166 u167 u168 u169 u170 u171 u172 u173 u174 u175 u176 u177 u178 u179 u180 u181 u182 u183 u184 u185 u186 u187 u188 u189 u190 u191 u192 u193 u194 u195 u196 u197 u198 u199 u200 u201 u202 u203 u204 u205 u206 u207 u208 u209 u210 u211 u212 u213 u214 u215 u216 u217 u218 u219 u220 u221 u222 u223 u224 u225 u226 u227 u228 u229 u230 u231 u232 u233 u234 u235 u236 u237 u238 u239 u240 u241 u242 u243 u244 u245 u246 u247 u248 u249 u250 u251 u252 u253 u254 u255 u256 u257 u258 u259 u260 u261 u262 u263 u264 u265 u266 u267 u268 u269 u270 u271 u272 u273 u274 u275 u276 u277 u278 u279 u280 u281 u282 u283 u284 u285 u286 u287 u288 u289 u290 k y cap bx ox sw top rest ax cx n2 nt K2 K1 K0 y2 c2 w2 s') →
    ∀ (x : Option Addr) (c : Nat) (l : List ByteArray) (E : EnvD) (W : World) (hE : E.Ok) (hl : l.length ≤ 64) (hx : TextsX W x l) (hsz : ∀ s ∈ l, s.size ≤ 100000) (hok : ∀ j (hj : j < l.length), noWord l[j] = false), Calls Try.prog 12 #[.slice x l.length c, .float .f64 E.state, E.ev, .int .i64 E.version] W (RefPost (resOf (exec E (wordsL l) [])) W) } := by
  apply Subtype.mk
  case property =>
  intro HH x c l E W hE hl hx hsz hok
  replace HH := hid HH
  have K := hid (fun (w1 : World) (h : Touch [] W w1) => refCheck_any x c l w1 (by omega) (hx.touch h) hsz)
  rw [check_ok hl hok] at K
  have HX := hid hx
  have HE := hid hE
  have HO := hid hok
  have HL := hid hl
  have HS := hid hsz
  have hsf := store_flt
  clear hx hE hok hl hsz
  go_enter Try.func12, Try.ntmps12
  go_wp2_with (go_at_call 27; refine (K.out _ ((Touch.refl _ _).alloc _)).mono ?_; rintro e w' ⟨rfl, rfl⟩)
  have HB := hid (heap_alloc_new W (.cells #[.int .i64 E.id, .string E.typ, .string E.data, .float .f64 E.value] 36))
  have HT : Hid (Touch [] W (W.alloc (.cells #[.int .i64 E.id, .string E.typ, .string E.data, .float .f64 E.value] 36))) := hid ((Touch.refl _ _).alloc _)
  have HZ : Hid ((W.alloc (.cells #[.int .i64 E.id, .string E.typ, .string E.data, .float .f64 E.value] 36)).heap.size = W.heap.size + 1) := hid (by simp)
  generalize W.alloc (.cells #[.int .i64 E.id, .string E.typ, .string E.data, .float .f64 E.value] 36) = W1 at *
  go_loopw [14, 15] (fun sv iv wr => ∃ (k : Nat) (s : List Nat) (y : Option Addr) (cap : Nat), k ≤ l.length ∧ iv = .int .i64 k ∧ sv = .slice y s.length cap ∧ exec E (wordsL (l.take k)) [] = .ok s ∧ s.length ≤ k ∧ Stk (W.heap.size + 1) s y cap wr ∧ Touch [] W1 wr) (fun _ iv _ => l.length - (RowKit.intOf iv).toNat)
  case atStart => exact ⟨0, [], none, 0, Nat.zero_le _, rfl, rfl, rfl, Nat.le_refl _, ⟨World.ownsRow_nil _ _ _ _, by simp⟩, Touch.refl _ _⟩
  case round =>
    obtain ⟨k, s, y, cap, hk, rfl, rfl, hex, hsl, hst, ht⟩ := hrel
    have HEx := hid hex
    have HSt := hid hst
    have HTr := hid ht
    clear hex hst ht
    by_cases hlt : k < l.length
    · have hl2 : decide (k < l.length) = true := by simpa using hlt
      obtain ⟨bx, ox, rfl, g1, g2⟩ := HX.out k hlt
      have g3 := HTr.out.cell (HT.out.cell g1)
      have hno := HO.out k hlt
      have hnk : isNo (kindOf l[k].data.toList) = false := hno
      have hstp := exec_take E l k hlt s HEx.out
      have hmem := HS.out l[k] (List.getElem_mem hlt)
      have C := hid (fun w => takes_any l[k] w hmem)
      rw [needN_eq hnk] at C
      clear g1 g2 hno
      have HMEM := hid hmem
      clear hmem
      have HSTP := hid hstp
      have HNK := hid hnk
      clear hstp hnk
      generalize l[k] = sw at *
      by_cases hsh : s.length < needN (kindOf sw.data.toList)
      · have hb := step_short E hsh
        have hh := HSTP.out
        rw [hb] at hh
        have HBAD := hid (exec_bad E l (k + 1) runtimeF hh)
        have t1 : decide (s.length < needN (kindOf sw.data.toList)) = true := by simpa using hsh
        clear hb hh hsh
        generalize needN (kindOf sw.data.toList) = nn at *
        generalize (needs (kindOf sw.data.toList)).2 = n2 at *
        clear HH
        as_aux_lemma =>
          go_wp2_with (go_at_call 28; refine (C.out _).mono ?_; rintro e w1 ⟨rfl, rfl⟩)
          refine bodyPost_ret (v := .tuple #[.float .f64 0, .int .i64 21, .int .i64 1, .string none8]) (by simp [results, Try.results12, go_sem]) rfl ?_
          rw [HBAD.out]
          exact ⟨rfl, HT.out.trans HTr.out (by simp)⟩
      · obtain ⟨top, rest, hs2, hn⟩ : ∃ top rest, s = top ++ rest ∧ top.length = needN (kindOf sw.data.toList) := ⟨s.take (needN (kindOf sw.data.toList)), s.drop (needN (kindOf sw.data.toList)), (List.take_append_drop _ _).symm, by rw [List.length_take]; omega⟩
        subst hs2
        obtain ⟨⟨ax, cx, hlo, hfa⟩, hhi, hfr, hyn⟩ := stk_parts HSt.out
        have HFA := hid hfa
        have HFR := hid hfr
        have HYN := hid hyn
        have HN := hid hn
        rw [← hn] at C
        have hlen : (top ++ rest).length = rest.length + top.length := by simp; omega
        simp only [hlen] at hlo hhi hsl ⊢
        have t1 : decide (rest.length + top.length < top.length) = false := by simp
        have t1i : decide ((rest.length : Int) + top.length < top.length) = false := by simp; omega
        have b1 : (rest.length : Int) + top.length ≤ 64 := by have := HL.out; omega
        have b0 : (0 : Int) ≤ rest.length := by omega
        have b2 : (0 : Int) ≤ top.length := by omega
        have b3 : (rest.length : Int) ≤ 64 := by omega
        have b4 : (top.length : Int) ≤ 64 := by omega
        have HLE : Hid (rest.length + top.length ≤ 64) := by unfold Hid; omega
        have HOK : Hid (∀ x ∈ top ++ rest, Wd x ∧ can x = x) := HSt.out.ok
        clear hfa hfr hyn hn hsh hlen
        generalize (needs (kindOf sw.data.toList)).2 = n2 at *
        generalize hnt : top.length = nt at *
        have HNT := hid hnt
        clear hnt
        go_upto_block 2 with (first | (go_at_call 28; refine (C.out _).mono ?_; rintro e w1 ⟨rfl, rfl⟩) | (at_builtin; refine wpList_append_flts rfl (.const (.slice none 0 0)) (.tmp 59) rfl (W.heap.size + 1) (.slice none 0 0) 0 [] rfl (World.ownsRow_nil _ _ _ _) y rest.length cap rest.reverse rfl (by simp) HFR.out (fun e => ⟨(HYN.out e).1, by rw [(HYN.out e).2]; rfl⟩) (by have := HLE.out; omega) (by have := HTr.out.size; rw [HZ.out] at this; exact this) ?_; intro y2 c2 w2 hown2 hg2; simp only [Nat.zero_add, List.nil_append] at hown2; have O2 := hid hown2; have T2 : Hid (Touch [] wr w2) := hid ((Touch.refl [] wr).grown hg2 (fun k hk => by cases hk)); (have g4 := T2.out.cell g3); (have hbx := touch_other T2.out (touch_other HTr.out HB.out (by simp)) (by simp)); (have x2 := cell_of hbx 2); (have x3 := cell_of hbx 3); clear hown2 hg2 hbx))
        have Wt : Hid (Touch [] W1 w2) := hid (HTr.out.trans T2.out (by simp))
        cases hst2 : stepK E (kindOf sw.data.toList) (top ++ rest) with
        | bad f =>
          clear HH
          as_aux_lemma =>
            have hh := HSTP.out
            rw [hst2] at hh
            have HBAD := hid (exec_bad E l (k + 1) f hh)
            clear hh
            have HTW : Hid (Touch [] W w2) := hid (HT.out.trans Wt.out (by simp))
            rcases bad_kinds hst2 (HNT.out.trans HN.out) HNK.out with ⟨hkd, rfl⟩ | ⟨hkd, rfl, a, rfl, hpb⟩
            · obtain rfl := arr_eq (fail_word hkd)
              clear hst2 hkd
              go_wp2
              refine bodyPost_ret (v := .tuple #[.float .f64 0, .int .i64 21, .int .i64 3, .string ⟨#[102, 97, 105, 108]⟩]) (by simp [results, Try.results12, go_sem]) rfl ?_
              rw [HBAD.out]
              exact ⟨rfl, HTW.out⟩
            · obtain rfl := arr_eq (byte_word hkd)
              obtain ⟨ba, oa, rfl, ca0, wa⟩ := HFA.out 0 (by simp)
              replace ca0 := T2.out.cell ca0
              replace ca0 : w2.cell? ⟨ba, oa, none⟩ = some (.float .f64 a) := ca0
              replace wa : Wd a := wa
              obtain rfl : nt = 1 := HNT.out.symm
              have cl : ∀ w, (convert 3 30 (.int .i64 (E.data.size : Int))).run Try.prog w = .ok (.float .f64 (fl E.data.size)) w := (fun w => run_convert_int_float w _ _ _ _ _ (by kernel_rfl) (by kernel_rfl))
              have hq : (∃ g0 l0, (FloatKind.f64.format.order a 0 == some .gt || FloatKind.f64.format.order a 0 == some .eq) = g0 ∧ (FloatKind.f64.format.order a (fl E.data.size) == some .lt) = l0 ∧ (g0 = false ∨ (g0 = true ∧ l0 = false))) ∨ (inside E.data.size a = true ∧ ¬ Proofs.Ytiglfdefeaddmaa.W a) := by
                cases hin : inside E.data.size a
                · left
                  refine ⟨_, _, rfl, rfl, ?_⟩
                  unfold inside at hin
                  rw [Bool.and_eq_false_iff] at hin
                  rcases hin with hp | hp
                  · exact .inl hp
                  · cases e : (FloatKind.f64.format.order a 0 == some .gt || FloatKind.f64.format.order a 0 == some .eq)
                    · exact .inl rfl
                    · exact .inr ⟨rfl, hp⟩
                · right
                  exact ⟨rfl, fun hw => by rw [placeB_yes hin hw] at hpb; cases hpb⟩
              clear hst2 hkd hpb
              rcases hq with ⟨g0, l0, t0, tl, h01⟩ | ⟨hin, hwh⟩
              · clear wa
                rcases h01 with rfl | ⟨rfl, rfl⟩
                all_goals
                  go_wp2
                  refine bodyPost_ret (v := .tuple #[.float .f64 0, .int .i64 21, .int .i64 1, .string none8]) (by simp [results, Try.results12, go_sem]) rfl ?_
                  rw [HBAD.out]
                  exact ⟨rfl, HTW.out⟩
              · obtain ⟨nx, hf, htr, hiv⟩ := inside_facts HE.out.d wa hin
                obtain ⟨t0, tl⟩ := inside_tests hin
                have cv : ∀ w, (convert 30 3 (.float .f64 a)).run Try.prog w = .ok (.int .i64 ((tr (rung a) : Nat) : Int)) w := fun w => by
                  rw [← hiv]
                  exact run_convert_float_int w 30 3 .f64 .i64 a (ival a) (by kernel_rfl) (by kernel_rfl) (toInt_ival a wa.lt hf (by have := HE.out.d; omega))
                have cb : ∀ w, (convert 3 30 (.int .i64 ((tr (rung a) : Nat) : Int))).run Try.prog w = .ok (.float .f64 (fl ((tr (rung a) : Nat) : Int))) w := (fun w => run_convert_int_float w _ _ _ _ _ (by kernel_rfl) (by kernel_rfl))
                have t2 : (FloatKind.f64.format.order (fl ((tr (rung a) : Nat) : Int)) a != some .eq) = true := by
                  have := ref_part HE.out.d wa hin hwh
                  rw [hiv] at this
                  simp only [bne, this, Bool.not_false]
                generalize tr (rung a) = ix at *
                clear wa hin hwh nx hf hiv
                go_wp2
                refine bodyPost_ret (v := .tuple #[.float .f64 0, .int .i64 21, .int .i64 1, .string none8]) (by simp [results, Try.results12, go_sem]) rfl ?_
                rw [HBAD.out]
                exact ⟨rfl, HTW.out⟩
        | ok s' =>
        have hh := HSTP.out
        rw [hst2] at hh
        have HNEXT := hid hh
        have hlen' := step_len E _ _ _ hst2
        have HLS : Hid (s'.length ≤ k + 1) := by
          have h1 : (top ++ rest).length = top.length + rest.length := List.length_append
          have h2 := HNT.out
          unfold Hid
          omega
        clear hh hlen'
        go_cut [14] (fun sv wx => CutR (W.heap.size + 1) s' W1 sv wx)
        case rest =>
          clear HH
          as_aux_lemma =>
            obtain ⟨L, y3, c3, rfl, own3, wd3, hmap, ht3⟩ := hcut
            have HWD := hid wd3
            have HMAP := hid hmap
            have hLs : L.length = s'.length := by have := congrArg List.length hmap; simpa using this
            have HLs := hid hLs
            have O3 := hid own3
            have T3 := hid ht3
            have hk1 : (k : Int) ≤ 63 := by have := HL.out; omega
            have hL1 : (L.length : Int) ≤ 100 := by have := HLS.out; have := HL.out; omega
            clear own3 wd3 hmap ht3 hLs hst2 g4 x2 x3
            go_wp2_with fail
            go_loopw [22] (fun jv wq => ∃ j : Nat, j ≤ L.length ∧ jv = .int .i64 j ∧ wq.ownsRow (W.heap.size + 1) TFlt 1 (.slice y3 L.length c3) L.length (fvals ((L.take j).map can ++ L.drop j)) ∧ Touch [] W1 wq) (fun jv _ => L.length - (RowKit.intOf jv).toNat)
            case atStart => exact ⟨0, Nat.zero_le _, rfl, by simpa using O3.out, T3.out⟩
            case round =>
              obtain ⟨j, hj, rfl, hoj, htj⟩ := hrel
              have OJ := hid hoj
              have TJ := hid htj
              clear hoj htj
              by_cases hjl : j < L.length
              · obtain ⟨hat1, hat2⟩ := canon_at hjl
                have hstep := hid (canon_step hjl)
                have hwj := HWD.out L[j] (List.getElem_mem hjl)
                obtain ⟨gg, rfl⟩ : ∃ gg, y3 = some ⟨gg, 0, none⟩ := by
                  rcases OJ.out.2 with ⟨he, h0⟩ | ⟨gg, _, _, he, _⟩
                  · omega
                  · simp only [Value.slice.injEq] at he
                    exact ⟨gg, he.1⟩
                have cj := flt_at OJ.out j hat1
                rw [hat2] at cj
                have fj := OJ.out.frozenAt j
                have CJ := hid (fun w => refCanon_any L[j] w hwj)
                have hjd : decide (j < L.length) = true := by simpa using hjl
                have hbase : W.heap.size + 1 ≤ gg := own_row OJ.out gg rfl
                clear hat1 hat2 hwj
                generalize L[j] = z at *
                go_wp2_with (go_at_call 30; refine (CJ.out _).mono ?_; rintro e w' ⟨rfl, rfl⟩)
                go_roundw
                case rel => exact ⟨j + 1, by omega, by go_num, by rw [← hstep.out]; exact (OJ.out.stored j _).1, TJ.out.setCell (.inr (by rw [HZ.out]; exact hbase)) _⟩
                case measure => simp [RowKit.intOf]; omega
              · obtain rfl : j = L.length := by omega
                have hjd : decide (L.length < L.length) = false := by simp
                have hfin := OJ.out
                rw [List.take_of_length_le (Nat.le_refl _), List.drop_of_length_le (Nat.le_refl _), List.append_nil, HMAP.out] at hfin
                have HF := hid hfin
                clear hfin hj hjl
                go_wp2
                go_roundw
                case rel =>
                  refine ⟨k + 1, s', y3, c3, by omega, by go_num, by rw [HLs.out], HNEXT.out, HLS.out, ⟨by rw [← HLs.out]; exact HF.out, ?_⟩, TJ.out⟩
                  intro q hq
                  have hq2 : q ∈ L.map can := by rw [HMAP.out, List.mem_reverse]; exact hq
                  rw [List.mem_map] at hq2
                  obtain ⟨p, hp, rfl⟩ := hq2
                  exact ⟨(HWD.out p hp).can, can_can p⟩
                case measure => simp [RowKit.intOf]; omega
        case first =>
        rename_i K2 a4 Qq K1 a3 K0 a2 J KK hJ hM
        revert J KK hJ hM
        clear a2 a3 a4
        revert Qq
        exact HH.out c l E W W1 wr u8 u9 u10 u11 u16 u17 u18 u19 u20 u21 u22 u30 u31 u32 u33 u34 u35 u36 u37 u38 u39 u40 u41 u42 u43 u44 u45 u46 u47 u48 u49 u50 u51 u52 u53 u54 u55 u56 u57 u58 u59 u60 u61 u62 u63 u64 u65 u66 u67 u68 u69 u70 u71 u72 u73 u74 u75 u76 u77 u78 u79 u80 u81 u82 u83 u84 u85 u86 u87 u88 u89 u90 u91 u92 u93 u94 u95 u96 u97 u98 u99 u100 u101 u102 u103 u104 u105 u106 u107 u108 u109 u110 u111 u112 u113 u114 u115 u116 u117 u118 u119 u120 u121 u122 u123 u124 u125 u126 u127 u128 u129 u130 u131 u132 u133 u134 u135 u136 u137 u138 u139 u140 u141 u142 u143 u144 u145 u146 u147 u148 u149 u150 u151 u152 u153 u154 u155 u156 u157 u158 u159 u160 u161 u162 u163 u164 u165 u166 u167 u168 u169 u170 u171 u172 u173 u174 u175 u176 u177 u178 u179 u180 u181 u182 u183 u184 u185 u186 u187 u188 u189 u190 u191 u192 u193 u194 u195 u196 u197 u198 u199 u200 u201 u202 u203 u204 u205 u206 u207 u208 u209 u210 u211 u212 u213 u214 u215 u216 u217 u218 u219 u220 u221 u222 u223 u224 u225 u226 u227 u228 u229 u230 u231 u232 u233 u234 u235 u236 u237 u238 u239 u240 u241 u242 u243 u244 u245 u246 u247 u248 u249 u250 u251 u252 u253 u254 u255 u256 u257 u258 u259 u260 u261 u262 u263 u264 u265 u266 u267 u268 u269 u270 u271 u272 u273 u274 u275 u276 u277 u278 u279 u280 u281 u282 u283 u284 u285 u286 u287 u288 u289 u290 k y cap bx ox sw top rest ax cx n2 nt K2 K1 K0 y2 c2 w2 s' ⟨HE, HZ, HMEM, HNK, HFA, b0, b3, HOK, HN, t1, t1i, b1, b2, b4, HLE, HNT, O2, T2, g4, x2, x3, Wt, hst2, hlt, hl2⟩
    · clear HH
      as_aux_lemma =>
      obtain rfl : k = l.length := by omega
      have hl2 : decide (l.length < l.length) = false := by simp
      have hex2 := HEx.out
      rw [List.take_of_length_le (Nat.le_refl _)] at hex2
      have HX2 := hid hex2
      have HTW : Hid (Touch [] W wr) := hid (HT.out.trans HTr.out (by simp))
      clear hex2 hk hlt
      rcases s with _ | ⟨z, _ | ⟨z2, s⟩⟩
      · go_wp2
        refine bodyPost_ret (v := .tuple #[.float .f64 0, .int .i64 6, .int .i64 2, .string none8]) (by simp [results, Try.results12, go_sem]) rfl ?_
        rw [HX2.out]
        exact ⟨rfl, HTW.out⟩
      · obtain ⟨gg, rfl⟩ : ∃ gg, y = some ⟨gg, 0, none⟩ := by
          rcases HSt.out.own.2 with ⟨he, h0⟩ | ⟨gg, _, _, he, _⟩
          · simp at h0
          · simp only [Value.slice.injEq] at he
            exact ⟨gg, he.1⟩
        have cj := flt_at HSt.out.own 0 (by simp)
        simp only [List.reverse_singleton, List.getElem_cons_zero] at cj
        go_wp2
        refine bodyPost_ret (v := .tuple #[.float .f64 z, .int .i64 0, .int .i64 0, .string none8]) (by simp [results, Try.results12, go_sem]) rfl ?_
        rw [HX2.out]
        exact ⟨rfl, HTW.out⟩
      · have hne : ((s.length : Int) + 1 + 1 != 1) = true := by simp; omega
        go_wp2
        refine bodyPost_ret (v := .tuple #[.float .f64 0, .int .i64 6, .int .i64 2, .string none8]) (by simp [results, Try.results12, go_sem]) rfl ?_
        rw [HX2.out]
        exact ⟨rfl, HTW.out⟩
end Go.Proofs.Ytiglfdefeaddmaa
