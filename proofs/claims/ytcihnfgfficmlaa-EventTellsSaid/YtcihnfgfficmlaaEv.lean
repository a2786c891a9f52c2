/- Events and commands as plain data, as values and in memory; what may be, as plain functions. -/
import Derived.Test.YtcihnfgfficmlaaStm
import Derived.Test.YtcihnfgfficmlaaFloat
namespace Go.Proofs.Ytcihnfgfficmlaa
open Go.RowKit Go.Lib

abbrev tEv : TypeId := 32
abbrev tCmd : TypeId := 26

/-- An event. -/
structure EvD where
  id : Int
  typ : ByteArray
  data : ByteArray
  val : Nat
/-- Its parts are of their kinds. -/
structure EvD.Ok (e : EvD) : Prop where
  i0 : -9223372036854775808 ≤ e.id
  i1 : e.id ≤ 9223372036854775807
  t : e.typ.size ≤ 9223372036854775807
  d : e.data.size ≤ 9223372036854775807
  v : e.val < 18446744073709551616
def EvD.agg (e : EvD) : Value := .agg #[.int .i64 e.id, .string e.typ, .string e.data, .float .f64 e.val]
/-- At place i of the row at b, off stands e. -/
structure EvAt (W : World) (b off i : Nat) (e : EvD) : Prop where
  c0 : W.cell? ⟨b, off + i * 4, none⟩ = some (.int .i64 e.id)
  c1 : W.cell? ⟨b, off + i * 4 + 1, none⟩ = some (.string e.typ)
  c2 : W.cell? ⟨b, off + i * 4 + 2, none⟩ = some (.string e.data)
  c3 : W.cell? ⟨b, off + i * 4 + 3, none⟩ = some (.float .f64 e.val)
theorem EvAt.touch {W W' : World} {b off i : Nat} {e : EvD} (h : EvAt W b off i e) (t : Touch [] W W') : EvAt W' b off i e := ⟨t.cell h.c0, t.cell h.c1, t.cell h.c2, t.cell h.c3⟩
/-- The events of a slice. -/
def EvX (W : World) (x : Option Addr) (l : List EvD) : Prop := ∀ i (h : i < l.length), ∃ b off, x = some ⟨b, off, none⟩ ∧ EvAt W b off i l[i] ∧ l[i].Ok
theorem EvX.touch {W W' : World} {x : Option Addr} {l : List EvD} (h : EvX W x l) (t : Touch [] W W') : EvX W' x l := fun i hi => by
  obtain ⟨b, off, h1, h2, h3⟩ := h i hi
  exact ⟨b, off, h1, h2.touch t, h3⟩

/-- A command. -/
structure CmdD where
  kind : Int
  time : Int
  stream : ByteArray
  exp : Int
  evs : List EvD
  cnt : Int
  age : Int
  bef : Int
structure CmdD.Ok (c : CmdD) : Prop where
  k0 : -9223372036854775808 ≤ c.kind
  k1 : c.kind ≤ 9223372036854775807
  t0 : -9223372036854775808 ≤ c.time
  t1 : c.time ≤ 9223372036854775807
  s : c.stream.size ≤ 9223372036854775807
  e0 : -9223372036854775808 ≤ c.exp
  e1 : c.exp ≤ 9223372036854775807
  l : c.evs.length ≤ 9223372036854775807
  c0 : -9223372036854775808 ≤ c.cnt
  c1 : c.cnt ≤ 9223372036854775807
  a0 : -9223372036854775808 ≤ c.age
  a1 : c.age ≤ 9223372036854775807
  b0 : -9223372036854775808 ≤ c.bef
  b1 : c.bef ≤ 9223372036854775807
/-- A command's value, its events in the slice at x. -/
def CmdD.agg (c : CmdD) (x : Option Addr) (cap : Nat) : Value := .agg #[.int .i64 c.kind, .int .i64 c.time, .string c.stream, .int .i64 c.exp, .slice x c.evs.length cap, .int .i64 c.cnt, .int .i64 c.age, .int .i64 c.bef]

/-! ### What may be -/
def great : Int := 1099511627776
def validE (e : EvD) : Bool := decide (1 ≤ e.id) && strm e.typ.data.toList && decide (e.data.size ≤ 200)
def inGreat (x : Int) : Bool := decide (0 ≤ x) && decide (x ≤ great)
def validM (a b c : Int) : Bool := inGreat a && inGreat b && inGreat c
/-- Expected of an append and a delete. -/
def expOk (x : Int) : Bool := decide (x = -1) || decide (x = -2) || decide (x = -4) || inGreat x
/-- What Check tells. -/
def checkC (c : CmdD) : Int :=
  if c.kind < 1 ∨ 5 < c.kind ∨ c.time < 0 ∨ great < c.time then 1
  else if c.kind ≤ 3 ∧ strm c.stream.data.toList = false then 1
  else if c.kind = 1 ∧ c.evs = [] then 1
  else if c.kind = 1 ∧ 8 < c.evs.length then 2
  else if c.kind = 1 ∧ c.evs.all validE = false then 1
  else if (c.kind = 1 ∨ c.kind = 3) ∧ expOk c.exp = false then 1
  else if c.kind = 2 ∧ validM c.cnt c.age c.bef = false then 1
  else if c.kind ≠ 1 ∧ c.evs ≠ [] ∨ c.kind ≠ 2 ∧ (c.cnt ≠ 0 ∨ c.age ≠ 0 ∨ c.bef ≠ 0) ∨ c.kind ≠ 1 ∧ c.kind ≠ 3 ∧ c.exp ≠ 0 ∨ 3 < c.kind ∧ c.stream.size ≠ 0 then 1
  else 0

/-! ### The laws' own Valid, ValidMeta -/
theorem valid_no {e : EvD} (h : e.id < 1 ∨ strm e.typ.data.toList = false ∨ 200 < e.data.size) : validE e = false := by
  unfold validE
  rcases h with h | h | h
  · rw [decide_eq_false (show ¬ 1 ≤ e.id by omega)]; rfl
  · rw [h]; simp
  · rw [decide_eq_false (show ¬ e.data.size ≤ 200 by omega)]; simp
theorem valid_yes {e : EvD} (h1 : 1 ≤ e.id) (h2 : strm e.typ.data.toList = true) (h3 : e.data.size ≤ 200) : validE e = true := by
  unfold validE
  rw [h2, decide_eq_true h1, decide_eq_true h3]; rfl
theorem valid_iff {e : EvD} : validE e = true ↔ 1 ≤ e.id ∧ strm e.typ.data.toList = true ∧ e.data.size ≤ 200 := by
  unfold validE
  simp only [Bool.and_eq_true, decide_eq_true_eq, and_assoc]
set_option maxRecDepth 100000 in
theorem refValid_any (e : EvD) (w : World) : Calls Try.prog 13 #[e.agg] w fun r w' => r = .returned (.bool (validE e)) ∧ Touch [] w w' := by
  have C := hid (fun w => refStm_any e.typ w)
  by_cases h1 : 1 ≤ e.id
  · by_cases hs : strm e.typ.data.toList = true
    · have hv := hid (show validE e = decide ((e.data.size : Int) ≤ 200) by unfold validE; rw [hs, decide_eq_true h1]; simp; omega)
      rw [hs] at C
      unfold EvD.agg
      clear hs
      generalize e.typ = t at *
      generalize e.data = d at *
      generalize e.id = i at *
      generalize e.val = b at *
      go_enter Try.func13, Try.ntmps13
      go_wp2_with (go_at_call 35; refine (C.out _).mono ?_; rintro e w1 ⟨rfl, rfl⟩)
      go_ret
      exact ⟨by rw [hv.out]; rfl, (Touch.refl _ _).alloc _⟩
    · have hs2 : strm e.typ.data.toList = false := by simpa using hs
      have hv := hid (valid_no (.inr (.inl hs2)))
      rw [hs2] at C
      unfold EvD.agg
      clear hs hs2
      generalize e.typ = t at *
      generalize e.data = d at *
      generalize e.id = i at *
      generalize e.val = b at *
      go_enter Try.func13, Try.ntmps13
      go_wp2_with (go_at_call 35; refine (C.out _).mono ?_; rintro e w1 ⟨rfl, rfl⟩)
      go_ret
      exact ⟨by rw [hv.out]; rfl, (Touch.refl _ _).alloc _⟩
  · have hv := hid (valid_no (e := e) (.inl (by omega)))
    have h2 : decide (1 ≤ e.id) = false := by simpa using h1
    clear h1
    unfold EvD.agg
    generalize e.typ = t at *
    generalize e.data = d at *
    generalize e.id = i at *
    generalize e.val = b at *
    go_enter Try.func13, Try.ntmps13
    go_wp2
    go_ret
    exact ⟨by rw [hv.out]; rfl, (Touch.refl _ _).alloc _⟩

theorem great_no {x : Int} (h : x < 0 ∨ 1099511627776 < x) : inGreat x = false := by
  unfold inGreat great
  rcases h with h | h
  · rw [decide_eq_false (by omega)]; rfl
  · rw [decide_eq_false (show ¬ x ≤ 1099511627776 by omega)]; simp
theorem great_yes {x : Int} (h : 0 ≤ x) (h2 : x ≤ 1099511627776) : inGreat x = true := by
  unfold inGreat great
  rw [decide_eq_true h, decide_eq_true h2]; rfl
theorem great_iff {x : Int} : inGreat x = true ↔ 0 ≤ x ∧ x ≤ 1099511627776 := by
  unfold inGreat great
  simp only [Bool.and_eq_true, decide_eq_true_eq]
def metaV (a b c : Int) : Value := .agg #[.int .i64 a, .int .i64 b, .int .i64 c]
set_option maxRecDepth 100000 in
theorem refValidMeta_bad (a b c : Int) (w : World) (h : a < 0 ∨ (0 ≤ a ∧ 1099511627776 < a) ∨ (0 ≤ a ∧ a ≤ 1099511627776 ∧ b < 0) ∨ (0 ≤ a ∧ a ≤ 1099511627776 ∧ 0 ≤ b ∧ 1099511627776 < b) ∨
      (0 ≤ a ∧ a ≤ 1099511627776 ∧ 0 ≤ b ∧ b ≤ 1099511627776 ∧ c < 0) ∨ (0 ≤ a ∧ a ≤ 1099511627776 ∧ 0 ≤ b ∧ b ≤ 1099511627776 ∧ 0 ≤ c ∧ 1099511627776 < c)) :
    Calls Try.prog 21 #[metaV a b c] w fun r w' => r = .returned (.bool false) ∧ Touch [] w w' := by
  unfold metaV
  have n1 : ∀ x : Int, x < 0 → decide (0 ≤ x) = false := fun x h => by simpa using h
  have n2 : ∀ x : Int, 1099511627776 < x → decide (x ≤ 1099511627776) = false := fun x h => by simp; omega
  rcases h with h | ⟨h1, h⟩ | ⟨h1, h2, h⟩ | ⟨h1, h2, h3, h⟩ | ⟨h1, h2, h3, h4, h⟩ | ⟨h1, h2, h3, h4, h5, h⟩
  all_goals
    first | have q := n1 _ h | have q := n2 _ h
    clear n1 n2 h
    go_enter Try.func21, Try.ntmps21
    go_wp2
    go_ret
    exact ⟨rfl, (Touch.refl _ _).alloc _⟩
set_option maxRecDepth 100000 in
theorem refValidMeta_good (a b c : Int) (w : World) (h1 : 0 ≤ a) (h2 : a ≤ 1099511627776) (h3 : 0 ≤ b) (h4 : b ≤ 1099511627776) (h5 : 0 ≤ c) (h6 : c ≤ 1099511627776) :
    Calls Try.prog 21 #[metaV a b c] w fun r w' => r = .returned (.bool true) ∧ Touch [] w w' := by
  unfold metaV
  go_enter Try.func21, Try.ntmps21
  go_wp2
  go_ret
  exact ⟨by simp, (Touch.refl _ _).alloc _⟩
theorem refValidMeta_any (a b c : Int) (w : World) : Calls Try.prog 21 #[metaV a b c] w fun r w' => r = .returned (.bool (validM a b c)) ∧ Touch [] w w' := by
  unfold validM
  by_cases ha : a < 0
  · rw [great_no (.inl ha)]; exact refValidMeta_bad a b c w (.inl ha)
  by_cases ha2 : 1099511627776 < a
  · rw [great_no (.inr ha2)]; exact refValidMeta_bad a b c w (.inr (.inl ⟨by omega, ha2⟩))
  rw [great_yes (x := a) (by omega) (by omega)]
  by_cases hb : b < 0
  · rw [great_no (.inl hb)]; exact refValidMeta_bad a b c w (.inr (.inr (.inl ⟨by omega, by omega, hb⟩)))
  by_cases hb2 : 1099511627776 < b
  · rw [great_no (.inr hb2)]; exact refValidMeta_bad a b c w (.inr (.inr (.inr (.inl ⟨by omega, by omega, by omega, hb2⟩))))
  rw [great_yes (x := b) (by omega) (by omega)]
  by_cases hc : c < 0
  · rw [great_no (.inl hc)]; exact refValidMeta_bad a b c w (.inr (.inr (.inr (.inr (.inl ⟨by omega, by omega, by omega, by omega, hc⟩)))))
  by_cases hc2 : 1099511627776 < c
  · rw [great_no (.inr hc2)]; exact refValidMeta_bad a b c w (.inr (.inr (.inr (.inr (.inr ⟨by omega, by omega, by omega, by omega, by omega, hc2⟩)))))
  rw [great_yes (x := c) (by omega) (by omega)]
  exact refValidMeta_good a b c w (by omega) (by omega) (by omega) (by omega) (by omega) (by omega)

/-! ### The laws' own SameEvent -/
def sameE (a b : EvD) : Bool := decide (a.id = b.id) && decide (a.typ = b.typ) && decide (a.data = b.data) && decide (canon a.val = canon b.val)
end Go.Proofs.Ytcihnfgfficmlaa
