/- A list of steps that came in. -/
import Derived.Test.YthibabfojndlkaaAl9
import Derived.Test.YthibabfojndlkaaBookb
import Derived.Deep.Slices
namespace Go.Proofs.Ythibabfojndlkaa
open Go.RowKit Go.Lib Go.ChangeShapes Go.WideShapes
set_option maxRecDepth 100000

structure OpD where
  kind : Int
  n : Int
  name : ByteArray
  nt : ByteArray
  data : ByteArray
  kx : Option Addr
  kc : Nat
  keep : List Int
def OpD.Ok (W : World) (o : OpD) : Prop := IntsR W o.kx o.keep ∧ o.keep.length ≤ 9223372036854775807 ∧ o.name.size ≤ maxLen ∧ o.nt.size ≤ maxLen ∧ o.data.size ≤ maxLen ∧ (-9223372036854775808 ≤ o.n ∧ o.n ≤ 9223372036854775807)
def OpAt (W : World) (b off i : Nat) (o : OpD) : Prop :=
  W.cell? ⟨b, off + i * 6, none⟩ = some (.int .i64 o.kind) ∧ W.cell? ⟨b, off + i * 6 + 1, none⟩ = some (.int .i64 o.n) ∧ W.cell? ⟨b, off + i * 6 + 2, none⟩ = some (.string o.name) ∧ W.cell? ⟨b, off + i * 6 + 3, none⟩ = some (.string o.nt) ∧
    W.cell? ⟨b, off + i * 6 + 4, none⟩ = some (.string o.data) ∧ W.cell? ⟨b, off + i * 6 + 5, none⟩ = some (.slice o.kx o.keep.length o.kc)
def OpsX (W : World) (x : Option Addr) (l : List OpD) : Prop := ∀ i (h : i < l.length), ∃ b off, x = some ⟨b, off, none⟩ ∧ OpAt W b off i l[i] ∧ l[i].Ok W
/-- The slice value v is the list l of steps. -/
def Ops9 (W : World) (v : Value) (l : List OpD) : Prop := ∃ (x : Option Addr) (c : Nat), v = .slice x l.length c ∧ l.length ≤ 9223372036854775807 ∧ OpsX W x l
instance : Inhabited OpD := ⟨⟨0, 0, ⟨#[]⟩, ⟨#[]⟩, ⟨#[]⟩, none, 0, []⟩⟩

theorem cellsOp9 : Try.prog.cellsOf 75 = 6 := by kernel_rfl
theorem i64_range {x : Int} (h : (Lit.int .i64 x).wf = true) : -9223372036854775808 ≤ x ∧ x ≤ 9223372036854775807 := by
  have e1 : IntKind.i64.min = -9223372036854775808 := rfl
  have e2 : IntKind.i64.max = 9223372036854775807 := rfl
  simp only [Lit.wf, e1, e2, Bool.and_eq_true, decide_eq_true_eq] at h
  exact h
theorem ints_ofc {H : Type} {enc : TypeId × Value → H} {W : World} {fuel : Nat} {x : DataW H × List MemPlace} {cs : List Value}
    (hf : DataW.trod enc Try.prog W 0 (fun _ => true) true fuel 43 cs = some x) : ∃ a c l, cs = [.slice a l.length c] ∧ l.length ≤ 9223372036854775807 ∧ IntsR W a l := by
  have h0 := hf
  rcases open_ints Try.underlying43 Try.underlying3 cellsIntL hf with ⟨hcs, _⟩ | ⟨a, len, cap, zs, hcs, _⟩
  · exact ⟨none, 0, [], by simpa using hcs, by simp, by intro i hi; simp at hi⟩
  · obtain ⟨l, y, c, e, hl, hc⟩ := ints_of hcs h0
    have e' := e
    simp at e'
    obtain ⟨rfl, rfl, rfl⟩ := e'
    exact ⟨a, cap, l, hcs, hl, fun i hi => hc i hi⟩
set_option maxRecDepth 100000 in
theorem op_cells {H : Type} {enc : TypeId × Value → H} {W : World} {fuel : Nat} {x : DataW H × List MemPlace} {cs : List Value} (hlen : cs.length = 6)
    (hf : DataW.trod enc Try.prog W 0 (fun _ => true) true fuel 75 cs = some x) :
    ∃ o : OpD, cs = [.int .i64 o.kind, .int .i64 o.n, .string o.name, .string o.nt, .string o.data, .slice o.kx o.keep.length o.kc] ∧ o.Ok W := by
  obtain ⟨xs, n', _, _, hl, hxs, hg⟩ := DataW.trod_struct Try.underlying75 hf
  match xs, hxs with
  | [y0, y1, y2, y3, y4, y5], _ =>
    have k0 := hg 0 _ rfl; have k1 := hg 1 _ rfl; have k2 := hg 2 _ rfl; have k3 := hg 3 _ rfl; have k4 := hg 4 _ rfl; have k5 := hg 5 _ rfl
    obtain ⟨z0, e0, _, w0⟩ := DataW.trod_int (t := 3) Try.underlying3 k0
    obtain ⟨z1, e1, _, w1⟩ := DataW.trod_int (t := 3) Try.underlying3 k1
    obtain ⟨z2, e2, _, w2⟩ := DataW.trod_string (t := 9) Try.underlying9 k2
    obtain ⟨z3, e3, _, w3⟩ := DataW.trod_string (t := 9) Try.underlying9 k3
    obtain ⟨z4, e4, _, w4⟩ := DataW.trod_string (t := 9) Try.underlying9 k4
    obtain ⟨ka, kc, ks, e5, kl, kr⟩ := ints_ofc k5
    clear k0 k1 k2 k3 k4 k5 hg hl hf
    match cs, hlen with
    | [a0, a1, a2, a3, a4, a5], _ =>
      have e0 : [a0] = [Value.int .i64 z0] := e0
      have e1 : [a1] = [Value.int .i64 z1] := e1
      have e2 : [a2] = [Value.string z2] := e2
      have e3 : [a3] = [Value.string z3] := e3
      have e4 : [a4] = [Value.string z4] := e4
      have e5 : [a5] = [Value.slice ka ks.length kc] := e5
      obtain rfl : a0 = _ := List.head_eq_of_cons_eq e0
      obtain rfl : a1 = _ := List.head_eq_of_cons_eq e1
      obtain rfl : a2 = _ := List.head_eq_of_cons_eq e2
      obtain rfl : a3 = _ := List.head_eq_of_cons_eq e3
      obtain rfl : a4 = _ := List.head_eq_of_cons_eq e4
      obtain rfl : a5 = _ := List.head_eq_of_cons_eq e5
      exact ⟨⟨z0, z1, z2, z3, z4, ka, kc, ks⟩, rfl, kr, kl, by simpa [Lit.wf] using w2, by simpa [Lit.wf] using w3, by simpa [Lit.wf] using w4, i64_range w1⟩
set_option maxRecDepth 100000 in
theorem ops9_of {H : Type} {enc : TypeId × Value → H} {W : World} {a0 : Option Addr} {len0 cap0 fuel : Nat} {x : DataW H × List MemPlace} {cs : List Value} (hv : cs = [.slice a0 len0 cap0])
    (hf : DataW.trod enc Try.prog W 0 (fun _ => true) true fuel 46 cs = some x) : ∃ js, Ops9 W (.slice a0 len0 cap0) js := by
  have hml : maxLen = 9223372036854775807 := rfl
  rcases Deep.open_slice Try.underlying46 hf with ⟨hcs, _⟩ | ⟨a, len, cap, m, n, D, Pl, hcs, _, hl, hm, hmm, _, hx⟩
  · rw [hv] at hcs
    simp at hcs
    obtain ⟨rfl, rfl, rfl⟩ := hcs
    exact ⟨[], none, 0, rfl, by simp, fun i hi => absurd hi (Nat.not_lt_zero i)⟩
  · rw [hv] at hcs
    simp at hcs
    obtain ⟨rfl, rfl, rfl⟩ := hcs
    by_cases h0 : len0 = 0
    · subst h0
      exact ⟨[], some a, cap0, rfl, by simp, fun i hi => absurd hi (Nat.not_lt_zero i)⟩
    · rw [cellsOp9] at hx
      obtain ⟨b, off, spot⟩ := a
      have hspot : spot = none := by
        obtain ⟨cs', h1, h2⟩ := hx 0 (by simp at hmm; omega)
        have hc := (World.cells?_some h1).2.2 0 (by omega)
        have hl4 := (World.cells?_some h1).2.1
        rw [List.getElem?_eq_getElem (by omega)] at hc
        simpa [Addr.add] using World.cell?_spot hc
      subst hspot
      have key : ∀ i, i < len0 → ∃ o : OpD, OpAt W b off i o ∧ o.Ok W := fun i hi => by
        obtain ⟨cs', h1, h2⟩ := hx i (by simp at hmm; omega)
        rw [show (⟨b, off, none⟩ : Addr).add (i * 6) = ⟨b, off + i * 6, none⟩ from by unfold Addr.add; split <;> simp_all] at h1
        obtain ⟨_, hlen, hcell⟩ := World.cells?_some h1
        obtain ⟨o, rfl, ok⟩ := op_cells hlen h2
        exact ⟨o, ⟨hcell 0 (by omega), hcell 1 (by omega), hcell 2 (by omega), hcell 3 (by omega), hcell 4 (by omega), hcell 5 (by omega)⟩, ok⟩
      obtain ⟨f, hf⟩ := Deep.choose_lt (p := fun i o => OpAt W b off i o ∧ o.Ok W) (fun i hi => key i hi)
      refine ⟨(List.range len0).map f, some ⟨b, off, none⟩, cap0, by simp, by simp; omega, fun i hi => ⟨b, off, rfl, ?_⟩⟩
      have := hf i (by simpa using hi)
      simpa using this

def roomV : Int → List Int → Int
  | r, [] => r
  | r, z :: t => if r < 0 ∨ r < z then -1 else roomV (r - z) t
theorem roomV_neg : ∀ (l : List Int), roomV (-1) l = -1
  | [] => rfl
  | z :: t => by rw [roomV, if_pos (.inl (by omega))]
set_option maxHeartbeats 1000000 in
theorem room_any (r : Int) (x : Option Addr) (c : Nat) (zs : List Int) (w : World) (hr : -1 ≤ r ∧ r ≤ 1000000) (hl : zs.length ≤ 1000) (hz : ∀ z ∈ zs, 0 ≤ z) (hi : IntsR w x zs) :
    Calls Try.prog 49 #[.int .i64 r, .slice x zs.length c] w fun e w' => e = .returned (.int .i64 (roomV r zs)) ∧ w = w' := by
  have HI := hid hi
  have HZ := hid hz
  clear hi hz
  go_enter Try.func49, Try.ntmps49
  go_wp2
  go_loopw [0, 5] (fun rv iv wr => ∃ (i : Nat) (q : Int), i ≤ zs.length ∧ iv = .int .i64 i ∧ rv = .int .i64 q ∧ -1 ≤ q ∧ q ≤ 1000000 ∧ Hid (roomV q (zs.drop i) = roomV r zs) ∧ w = wr) (fun _ iv _ => zs.length - (RowKit.intOf iv).toNat)
  case atStart => exact ⟨0, r, Nat.zero_le _, rfl, rfl, hr.1, hr.2, hid rfl, rfl⟩
  case round =>
    obtain ⟨i, q, hi, rfl, rfl, hq1, hq2, hR, rfl⟩ := hrel
    by_cases hlt : i < zs.length
    · obtain ⟨b, o, rfl, g1⟩ := HI.out i hlt
      have hz0 := HZ.out _ (List.getElem_mem hlt)
      have hstep : Hid (roomV q (zs.drop i) = if q < 0 ∨ q < zs[i] then -1 else roomV (q - zs[i]) (zs.drop (i + 1))) := hid (by rw [List.drop_eq_getElem_cons hlt]; rfl)
      have hlt' : decide (i < zs.length) = true := by simpa using hlt
      generalize zs[i] = z at *
      by_cases h1 : q < 0
      · have f1 : decide (q < 0) = true := by simpa using h1
        have hE : Hid (roomV r zs = -1) := hid (by rw [← hR.out, hstep.out, if_pos (.inl h1)])
        clear h1
        go_wp2
        go_ret
        exact ⟨by rw [hE.out]; rfl, rfl⟩
      · have f1 : decide (q < 0) = false := by simpa using h1
        by_cases h2 : q < z
        · have f2 : decide (q < z) = true := by simpa using h2
          have hE : Hid (roomV r zs = -1) := hid (by rw [← hR.out, hstep.out, if_pos (.inr h2)])
          clear h1 h2
          go_wp2
          go_ret
          exact ⟨by rw [hE.out]; rfl, rfl⟩
        · have f2 : decide (q < z) = false := by simpa using h2
          have hE : Hid (roomV (q - z) (zs.drop (i + 1)) = roomV r zs) := hid (by rw [← hR.out, hstep.out, if_neg (by omega)])
          have b1 : -9223372036854775808 ≤ q - z := by omega
          have b2 : q - z ≤ 9223372036854775807 := by omega
          have b3 : -1 ≤ q - z := by omega
          have b4 : q - z ≤ 1000000 := by omega
          clear h1 h2
          go_wp2
          go_roundw
          case rel => exact ⟨i + 1, q - z, by omega, by go_num, rfl, b3, b4, hE, by first | rfl | trivial⟩
          case measure => simp [RowKit.intOf]; omega
    · obtain rfl : i = zs.length := by omega
      have hE : Hid (roomV r zs = q) := hid (by rw [← hR.out, List.drop_of_length_le (Nat.le_refl _)]; rfl)
      go_wp2
      go_ret
      exact ⟨by rw [hE.out]; rfl, rfl⟩
end Go.Proofs.Ythibabfojndlkaa
