/- append told in full; a page, as it lies. -/
import Derived.Test.YtmgglmoiepjebaaIt16
import Derived.Test.YtmgglmoiepjebaaFs16
import Derived.OneCell
import Derived.Maps.AppendAt
import Derived.Laws.OwnMore
import Derived.IntWalk
import Derived.RangeFuncBox
import Derived.Deep.RegionHeld3
namespace Go.Proofs.Ytmgglmoiepjebaa
open Go.RowKit Go.Lib Go.ChangeShapes Go.WideShapes Go.Shelf
set_option maxRecDepth 100000

/-- A longer row in the same place: the shorter one is still there. -/
theorem own_short {w : World} {base : Nat} {e : TypeId} {size n m g cap : Nat} {xs news : List Value} (h : w.ownsRow base e size (.slice (some ⟨g, 0, none⟩) (n + m) cap) (n + m) (xs ++ news)) (hx : xs.length = n * size) : w.ownsRow base e size (.slice (some ⟨g, 0, none⟩) n cap) n xs := by
  refine ⟨hx, ?_⟩
  rcases h.2 with ⟨h1, _⟩ | ⟨g', cap', cur, h1, hb, hh, hc, hm, hs, ht⟩
  · simp at h1
  · simp only [Value.slice.injEq, Option.some.injEq, Addr.mk.injEq, and_true, true_and] at h1
    obtain ⟨rfl, rfl⟩ := h1
    refine .inr ⟨g, cap, cur, rfl, hb, hh, by omega, hm, hs, ?_⟩
    have h2 := congrArg (List.take (n * size)) ht
    rw [List.take_take, Nat.min_eq_left (Nat.mul_le_mul_right _ (by omega)), List.take_left' hx] at h2
    exact h2

/-- What an append leaves. -/
structure Grew (w w' : World) (base : Nat) (e : TypeId) (size : Nat) (v v' : Value) (n m : Nat) (xs news : List Value) : Prop where
  own : w'.ownsRow base e size v' (n + m) (xs ++ news)
  old : w'.ownsRow base e size v n xs
  at' : (v'.ownBlock = v.ownBlock ∧ w.grownBy w' v.ownBlock ∧ ∃ y c, v = .slice y n c ∧ v' = .slice y (n + m) c) ∨ (v'.ownBlock = some w.heap.size ∧ w.grownBy w' none)

theorem append_full {P : Program} (w : World) (base : Nat) (t ty e : TypeId) (i : TypeInfo) (z : Value) (size bytes : Nat) (ht : P.underlying t = some (.slice e)) (hi : P.info? e = some i) (hz : i.zero = some z)
    (hsize : i.size = size) (hby : i.bytes = bytes) (hzs : z.cells.size = size) (hsz : 0 < size) (v : Value) (n : Nat) (xs : List Value) (hown : w.ownsRow base e size v n xs)
    (a : Addr) (m c : Nat) (news : List Value) (hl : news.length = m * size) (hnews : ∀ j u, news[j]? = some u → w.cell? (a.add j) = some u) (h1 : ∀ u ∈ news, u.oneCell' = true)
    (h63 : n + m ≤ 1000000000) (hb : bytes ≤ 1000) (hbase : base ≤ w.heap.size) :
    ∃ v' w', (Builtin.append_ #[t, t] ty #[v, .slice (some a) m c]).run P w = .ok v' w' ∧ Grew w w' base e size v v' n m xs news := by
  have hbytes : (n + m) * bytes ≤ 140737488355328 := Nat.le_trans (Nat.mul_le_mul h63 hb) (by decide)
  have hmax : n + m ≤ maxLen := by unfold maxLen; omega
  rcases hown.2 with ⟨rfl, rfl⟩ | ⟨g, cap, cur, rfl, hbg, hg, hnc, hcm, hcs, htake⟩
  · obtain ⟨v', w', hr, ho, hgr, hiff, hat⟩ := run_append_own_at (P := P) w base t ty e i z size bytes ht hi hz hsize hby hzs hsz (.slice none 0 0) 0 xs hown a m c news hl hnews h1 hmax hbytes hbase
    refine ⟨v', w', hr, ho, hown.kept hgr (.inl rfl), ?_⟩
    rcases hat with hat | hat
    · refine .inl ⟨hat, hgr, none, 0, rfl, ?_⟩
      rcases ho.2 with ⟨h1, h2⟩ | ⟨g, cap, cur, rfl, _⟩
      · rw [h1, h2]
      · cases hat
    · exact .inr ⟨hat, hgr⟩
  · by_cases hroom : n + m ≤ cap
    · obtain ⟨w', hr, ho, hgr⟩ := run_append_fits (P := P) w base t ty e i size ht hi hsize g n cap xs hown a m c news hl hnews h1 hroom
      exact ⟨_, w', hr, ho, own_short ho hown.1, .inl ⟨rfl, hgr, _, _, rfl, rfl⟩⟩
    · obtain ⟨v', w', hr, ho, hgr, hiff, hat⟩ := run_append_own_at (P := P) w base t ty e i z size bytes ht hi hz hsize hby hzs hsz _ n xs hown a m c news hl hnews h1 hmax hbytes hbase
      subst hsize
      have hxs := hown.1
      have holds : ∀ j u, xs[j]? = some u → w.cell? ((⟨g, 0, none⟩ : Addr).add j) = some u := fun j u hu => hown.cells (g := g) rfl j u hu
      subst hby
      have hfit := growslice_fits (old := cap) (by omega) hbytes
      have hr2 := run_append_grow (P := P) w t ty e i z ht hi hz ⟨g, 0, none⟩ n cap xs hxs holds a m c news hl hnews (by omega) (by omega) hfit
      rw [hr2] at hr
      cases hr
      refine ⟨_, _, hr2, ho, ?_, .inr ⟨rfl, ⟨rfl, rfl, rfl, by simp, fun k hk _ => heap_alloc_old w.drew _ k (by simpa using hk)⟩⟩⟩
      exact hown.kept ⟨rfl, rfl, rfl, by simp, fun k hk _ => heap_alloc_old w.drew _ k (by simpa using hk)⟩ (row := none) (.inr (by simp [Value.ownBlock]))

theorem slice_form {w : World} {base n size : Nat} {e : TypeId} {v : Value} {xs : List Value} (h : w.ownsRow base e size v n xs) : ∃ y cap, v = .slice y n cap ∧ (y = none → cap = 0 ∧ n = 0) ∧ (∀ a, y = some a → ∃ g, a = ⟨g, 0, none⟩) := by
  rcases h.2 with ⟨rfl, h0⟩ | ⟨g, cap, cur, rfl, _⟩
  · exact ⟨none, 0, by rw [h0], ⟨fun _ => ⟨rfl, h0⟩, fun a e => by cases e⟩⟩
  · exact ⟨_, cap, rfl, ⟨fun e => (by cases e), fun a e => ⟨g, by cases e; rfl⟩⟩⟩

theorem Grew.grown {w w' : World} {base : Nat} {e : TypeId} {size : Nat} {v v' : Value} {n m : Nat} {xs news : List Value} (h : Grew w w' base e size v v' n m xs news) : w.grownBy w' v.ownBlock := by
  rcases h.at' with ⟨_, hg, _⟩ | ⟨_, hg⟩
  · exact hg
  · exact ⟨hg.os, hg.tape, hg.output, hg.size, fun k hk _ => hg.block k hk (by simp)⟩


theorem wpOp_round {l n i : Nat} {P : Program} {ops : Array Oper} {Q : Exit → Act → World → Prop} {K : Act → World → Prop} {a : Act} {w : World} (hd : ∀ (j : Nat) (o : Oper) c, ops[j]? = some o → o.op ≠ .defer c) (hq : ¬ LetsOut Q)
    (h : wpOp P ops Q i K a w) : wpOpIn (Fence.wide.inRound l) n P ops Q i K a w := by
  unfold wpOp at h
  unfold wpOpIn
  cases ho : ops[i]? with
  | none => simpa [ho] using h
  | some o =>
    simp only [ho] at h ⊢
    split
    · rename_i hw
      simp only [hw, if_true] at h
      rcases h with h | h
      · unfold Oper.wpIn
        unfold Oper.wp at h
        refine ⟨fun _ _ => trivial, ?_⟩
        rw [Oper.semAt_eq _ _ _ (fun c => hd i o c ho)]
        generalize (execOp a.eval o).run P w = r at *
        cases r with
        | ok x w' =>
          cases x <;> simp only [Oper.upon, Oper.uponIn] at h ⊢
          case value => exact h
          case skip => exact h
          case defer => exact h
          case enter f args => exact ⟨fun h => by simp [Fence.wide, Fence.inRound] at h, (callsIn_wide.2 h).inRound l⟩
          case row row args => exact ⟨fun h => by simp [Fence.wide, Fence.inRound] at h, fun c cs _ => let ⟨v, w', r, s⟩ := h c cs; ⟨v, w', r, stepsIn_wide.2 s⟩⟩
        | halt x w' => cases x <;> simp only [Oper.upon, Oper.uponIn] at h ⊢ <;> exact h
      · exact absurd h.2 hq
    · rename_i hw
      simp only [hw] at h
      exact ⟨fun _ _ => trivial, h⟩
theorem wpAny_round {l n : Nat} {P : Program} {md : Region.Mode} {ops : Array Oper} {Q : Exit → Act → World → Prop} (hd : ∀ (j : Nat) (o : Oper) c, ops[j]? = some o → o.op ≠ .defer c) (hq : ¬ LetsOut Q) :
    ∀ (fuel : Nat) (listed : Array Bool) (a : Act) (w : World), wpAny P md ops Q fuel listed a w → wpAnyIn (Fence.wide.inRound l) n P md ops Q fuel listed a w
  | 0, _, _, _, h => h
  | fuel + 1, _, _, _, h => ⟨h.1, fun i hi => wpOp_round hd hq (wpOp_mono (fun a' w' h' => wpAny_round hd hq fuel _ a' w' h') (h.2 i hi))⟩
/-- A region that draws, in a round, under a condition that holds behind every operation. -/
theorem wpIn_round_held {l n id : Nat} {P : Program} {ops : Array Oper} {Q : Exit → Act → World → Prop} {S : World → Prop} {a : Act} {w : World} (hm : P.follows .mixedOrders = true) (hd : ∀ (j : Nat) (o : Oper) c, ops[j]? = some o → o.op ≠ .defer c) (hq : ¬ LetsOut Q)
    (h : wpAnyH P .any ops Q S ops.size (Array.replicate ops.size false) a w.drew) : (Code.region id ops true).wpIn (Fence.wide.inRound l) n P Q a w :=
  wpIn_region_any hm (wpAny_round hd hq _ _ _ _ (wpAny_of_held _ _ _ _ h))

abbrev TPage : TypeId := 41
theorem row_lt {W : World} {base : Nat} {e : TypeId} {size : Nat} {v : Value} {n : Nat} {xs : List Value} (h : W.ownsRow base e size v n xs) {k : Nat} (hk : v.ownBlock = some k) : base ≤ k ∧ ∃ cur, W.heap[k]? = some (.cells cur e (0, 0)) := by
  rcases h.2 with ⟨rfl, _⟩ | ⟨g, cap, cur, rfl, hb, hg, _⟩
  · simp [Value.ownBlock] at hk
  · simp [Value.ownBlock] at hk
    subst hk
    exact ⟨hb, cur, hg⟩
/-- A row stays where its block does. -/
theorem row_stays {W W' : World} {base : Nat} {e : TypeId} {size : Nat} {v : Value} {n : Nat} {xs : List Value} (h : W.ownsRow base e size v n xs) (hk : ∀ k, v.ownBlock = some k → W'.heap[k]? = W.heap[k]?) : W'.ownsRow base e size v n xs := by
  refine ⟨h.1, ?_⟩
  rcases h.2 with h2 | ⟨b, cap, cur, rfl, hb, hh, r⟩
  · exact .inl h2
  · exact .inr ⟨b, cap, cur, rfl, hb, (hk b (by simp [Value.ownBlock])).trans hh, r⟩
theorem row_touch {F : List Nat} {W W' : World} {base : Nat} {e : TypeId} {size : Nat} {v : Value} {n : Nat} {xs : List Value} (h : W.ownsRow base e size v n xs) (t : Touch F W W') (hF : ∀ k ∈ F, ∃ cs ty, W.heap[k]? = some (.cells cs ty (0, 0)) ∧ ty ≠ e) : W'.ownsRow base e size v n xs :=
  row_stays h fun k hk => by
    obtain ⟨_, cur, hg⟩ := row_lt h hk
    refine t.block k (lt_of_block hg) (fun hm => ?_)
    obtain ⟨cs, ty, h1, h2⟩ := hF k hm
    rw [hg] at h1
    cases h1
    exact h2 rfl
/-- A page in its block. -/
def PgB (W : World) (b : Nat) (v : Value) (nx : Int) (en : Bool) : Prop := W.heap[b]? = some (.cells #[v, .int .i64 nx, .bool en] TPage)
/-- What the loop of page holds: of the list so far, in the page at P. -/
def PgI (w0 : World) (P : Nat) (l : List StoD) (nx : Int) (en : Bool) (W : World) : Prop :=
  (∃ v, PgB W P v nx en ∧ W.ownsRow w0.heap.size TSto 8 v l.length (stoVals l)) ∧ Touch [P] w0 W
theorem pgI_own {β : Type} (w0 : World) (P B : Nat) (f : β → List StoD) (g : β → Int) (q : β → Bool) (hB : w0.heap.size ≤ B) : OwnFrom B (fun (s : β) W => PgI w0 P (f s) (g s) (q s) W) := by
  rintro s W W' row ⟨⟨v, hb, hr⟩, ht⟩ hg hrow
  have ne : ∀ (k : Nat) (cs : Array Value) (ty : TypeId) (fz : Nat × Nat), W.heap[k]? = some (.cells cs ty fz) → row ≠ some k := fun k cs ty fz hk e => by
    obtain ⟨_, o, ho, hc⟩ := hrow k e
    rw [hk] at ho
    cases ho
    cases hc
  refine ⟨⟨v, (hg.block P (lt_of_block hb) (fun e => ne _ _ _ _ hb e.symm)).trans hb, row_stays hr fun k hk => ?_⟩, ht.grown hg (fun k e => .inr (Nat.le_trans hB (hrow k e).1))⟩
  obtain ⟨_, cur, hgk⟩ := row_lt hr hk
  exact hg.block k (lt_of_block hgk) (fun e => ne _ _ _ _ hgk e.symm)

/-- What is taken. -/
def flt (p : StoD → Bool) (pre : List SI) : List StoD := (pre.map fun x => x.2.1).filter p
theorem flt_yes {p : StoD → Bool} {pre : List SI} {x : SI} (h : p x.2.1 = true) : flt p (pre ++ [x]) = flt p pre ++ [x.2.1] := by simp [flt, h]
theorem flt_no {p : StoD → Bool} {pre : List SI} {x : SI} (h : p x.2.1 = false) : flt p (pre ++ [x]) = flt p pre := by simp [flt, h]
def nxt (nf : Int → Int) (from_ : Int) (l : List StoD) : Int := match l.getLast? with | none => from_ | some s => nf s.position
theorem nxt_snoc (nf : Int → Int) (from_ : Int) (l : List StoD) (s : StoD) : nxt nf from_ (l ++ [s]) = nf s.position := by simp [nxt]
def aboveV (p : Int) : Int := if p = 9223372036854775807 then p else p + 1
def belowV (p : Int) : Int := max p 0 - 1
def fwdP (from_ : Int) (s : StoD) : Bool := decide (s.position ≥ from_)
def bwdP (from_ : Int) (s : StoD) : Bool := decide (s.position ≤ from_)

theorem above_any (p : Int) (h0 : -9223372036854775808 ≤ p) (h1 : p ≤ 9223372036854775807) (w : World) : Calls Try.prog 27 #[.int .i64 p] w fun e w' => e = .returned (.int .i64 (aboveV p)) ∧ w = w' := by
  by_cases h : p = 9223372036854775807
  · have q : (p == 9223372036854775807) = true := by simpa using h
    have hv := hid (show aboveV p = p by unfold aboveV; rw [if_pos h])
    clear h h0 h1
    go_enter Try.func27, Try.ntmps27
    go_wp2
    go_ret
    exact ⟨by rw [hv.out]; rfl, rfl⟩
  · have q : (p == 9223372036854775807) = false := by simpa using h
    have hv := hid (show aboveV p = p + 1 by unfold aboveV; rw [if_neg h])
    have hwr : IntKind.i64.wrap (p + 1) = p + 1 := IntWalk.i64_in _ (by omega)
    clear h h0 h1
    go_enter Try.func27, Try.ntmps27
    go_wp2
    go_ret
    exact ⟨by rw [hv.out]; rfl, rfl⟩
theorem below_any (p : Int) (h0 : -9223372036854775808 ≤ p) (h1 : p ≤ 9223372036854775807) (w : World) : Calls Try.prog 30 #[.int .i64 p] w fun e w' => e = .returned (.int .i64 (belowV p)) ∧ w = w' := by
  have hwr : IntKind.i64.wrap (max p 0 - 1) = max p 0 - 1 := IntWalk.i64_in _ (by omega)
  go_enter Try.func30, Try.ntmps30
  go_wp2
  go_ret
  exact ⟨by unfold belowV; first | rfl | (congr 2), rfl⟩
theorem fwd1_any (from_ p : Int) (b : Nat) (w : World) (hb : w.cell? ⟨b, 0, none⟩ = some (.int .i64 from_)) : Calls Try.prog 24 #[.int .i64 p, .pointer (some ⟨b, 0, none⟩)] w fun e w' => e = .returned (.bool (decide (p ≥ from_))) ∧ w = w' := by
  go_enter Try.func24, Try.ntmps24
  go_wp2
  go_ret
  exact ⟨by simp, rfl⟩
theorem bwd1_any (from_ p : Int) (b : Nat) (w : World) (hb : w.cell? ⟨b, 0, none⟩ = some (.int .i64 from_)) : Calls Try.prog 28 #[.int .i64 p, .pointer (some ⟨b, 0, none⟩)] w fun e w' => e = .returned (.bool (decide (p ≤ from_))) ∧ w = w' := by
  go_enter Try.func28, Try.ntmps28
  go_wp2
  go_ret
  exact ⟨by simp, rfl⟩
end Go.Proofs.Ytmgglmoiepjebaa
