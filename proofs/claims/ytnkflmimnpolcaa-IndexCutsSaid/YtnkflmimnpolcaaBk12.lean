/- append, told in full: what lies where. -/
import Derived.Test.YtnkflmimnpolcaaFt12
import Derived.OneCell
import Derived.Maps.AppendAt
import Derived.Laws.OwnMore
import Derived.Laws.IdiomStrings
import Derived.IntWalk
import Derived.OwnWalkIn
import Derived.RangeFuncBox
namespace Go.Proofs.Ytnkflmimnpolcaa
open Go.RowKit Go.Lib Go.ChangeShapes Go.WideShapes Go.Shelf
set_option maxRecDepth 100000

/-- A longer row in the same place: the shorter one is still there. -/
theorem own_short {w : World} {base : Nat} {e : TypeId} {size n m g cap : Nat} {xs news : List Value} (h : w.ownsRow base e size (.slice (some ⟨g, 0, none⟩) (n + m) cap) (n + m) (xs ++ news)) (hx : xs.length = n * size) : w.ownsRow base e size (.slice (some ⟨g, 0, none⟩) n cap) n xs := by
  refine ⟨hx, ?_⟩
  rcases h.2 with ⟨h1, _⟩ | ⟨g', cap', cur, h1, hb, hh, hc, hm, hs, ht⟩
  · simp at h1
  · simp only [Value.slice.injEq, Option.some.injEq, Addr.mk.injEq, and_true, true_and] at h1
    obtain ⟨rfl, rfl⟩ := h1
    refine .inr ⟨g, cap, cur, rfl, hb, hh, by omega, hm, hs, ?_⟩
    have h2 := congrArg (List.take (n * size)) ht
    rw [List.take_take, Nat.min_eq_left (Nat.mul_le_mul_right _ (by omega)), List.take_left' hx] at h2
    exact h2
/-- What an append leaves. -/
structure Grew (w w' : World) (base : Nat) (e : TypeId) (size : Nat) (v v' : Value) (n m : Nat) (xs news : List Value) : Prop where
  own : w'.ownsRow base e size v' (n + m) (xs ++ news)
  old : w'.ownsRow base e size v n xs
  at' : (v'.ownBlock = v.ownBlock ∧ w.grownBy w' v.ownBlock ∧ ∃ y c, v = .slice y n c ∧ v' = .slice y (n + m) c) ∨ (v'.ownBlock = some w.heap.size ∧ w.grownBy w' none)
theorem append_full {P : Program} (w : World) (base : Nat) (t ty e : TypeId) (i : TypeInfo) (z : Value) (size bytes : Nat) (ht : P.underlying t = some (.slice e)) (hi : P.info? e = some i) (hz : i.zero = some z)
    (hsize : i.size = size) (hby : i.bytes = bytes) (hzs : z.cells.size = size) (hsz : 0 < size) (v : Value) (n : Nat) (xs : List Value) (hown : w.ownsRow base e size v n xs)
    (a : Addr) (m c : Nat) (news : List Value) (hl : news.length = m * size) (hnews : ∀ j u, news[j]? = some u → w.cell? (a.add j) = some u) (h1 : ∀ u ∈ news, u.oneCell' = true)
    (h63 : n + m ≤ 1000000000) (hb : bytes ≤ 1000) (hbase : base ≤ w.heap.size) :
    ∃ v' w', (Builtin.append_ #[t, t] ty #[v, .slice (some a) m c]).run P w = .ok v' w' ∧ Grew w w' base e size v v' n m xs news := by
  have hbytes : (n + m) * bytes ≤ 140737488355328 := Nat.le_trans (Nat.mul_le_mul h63 hb) (by decide)
  have hmax : n + m ≤ maxLen := by unfold maxLen; omega
  rcases hown.2 with ⟨rfl, rfl⟩ | ⟨g, cap, cur, rfl, hbg, hg, hnc, hcm, hcs, htake⟩
  · obtain ⟨v', w', hr, ho, hgr, hiff, hat⟩ := run_append_own_at (P := P) w base t ty e i z size bytes ht hi hz hsize hby hzs hsz (.slice none 0 0) 0 xs hown a m c news hl hnews h1 hmax hbytes hbase
    refine ⟨v', w', hr, ho, hown.kept hgr (.inl rfl), ?_⟩
    rcases hat with hat | hat
    · refine .inl ⟨hat, hgr, none, 0, rfl, ?_⟩
      rcases ho.2 with ⟨h1, h2⟩ | ⟨g, cap, cur, rfl, _⟩
      · rw [h1, h2]
      · cases hat
    · exact .inr ⟨hat, hgr⟩
  · by_cases hroom : n + m ≤ cap
    · obtain ⟨w', hr, ho, hgr⟩ := run_append_fits (P := P) w base t ty e i size ht hi hsize g n cap xs hown a m c news hl hnews h1 hroom
      exact ⟨_, w', hr, ho, own_short ho hown.1, .inl ⟨rfl, hgr, _, _, rfl, rfl⟩⟩
    · obtain ⟨v', w', hr, ho, hgr, hiff, hat⟩ := run_append_own_at (P := P) w base t ty e i z size bytes ht hi hz hsize hby hzs hsz _ n xs hown a m c news hl hnews h1 hmax hbytes hbase
      subst hsize
      have hxs := hown.1
      have holds : ∀ j u, xs[j]? = some u → w.cell? ((⟨g, 0, none⟩ : Addr).add j) = some u := fun j u hu => hown.cells (g := g) rfl j u hu
      subst hby
      have hfit := growslice_fits (old := cap) (by omega) hbytes
      have hr2 := run_append_grow (P := P) w t ty e i z ht hi hz ⟨g, 0, none⟩ n cap xs hxs holds a m c news hl hnews (by omega) (by omega) hfit
      rw [hr2] at hr
      cases hr
      refine ⟨_, _, hr2, ho, ?_, .inr ⟨rfl, ⟨rfl, rfl, rfl, by simp, fun k hk _ => heap_alloc_old w.drew _ k (by simpa using hk)⟩⟩⟩
      exact hown.kept ⟨rfl, rfl, rfl, by simp, fun k hk _ => heap_alloc_old w.drew _ k (by simpa using hk)⟩ (row := none) (.inr (by simp [Value.ownBlock]))

theorem slice_form {w : World} {base n size : Nat} {e : TypeId} {v : Value} {xs : List Value} (h : w.ownsRow base e size v n xs) : ∃ y cap, v = .slice y n cap ∧ (y = none → cap = 0 ∧ n = 0) ∧ (∀ a, y = some a → ∃ g, a = ⟨g, 0, none⟩) := by
  rcases h.2 with ⟨rfl, h0⟩ | ⟨g, cap, cur, rfl, _⟩
  · exact ⟨none, 0, by rw [h0], ⟨fun _ => ⟨rfl, h0⟩, fun a e => by cases e⟩⟩
  · exact ⟨_, cap, rfl, ⟨fun e => (by cases e), fun a e => ⟨g, by cases e; rfl⟩⟩⟩

/-- append at a region's list within a fence, told in full. -/
theorem wpListIn_append_full {F : Fence} {r : Nat} {P : Program} (w : World) {ops : Array Oper} {rest : List Oper} {o : Oper} {a : Act} {Q : Exit → Act → World → Prop}
    (hg : o.guard = none) (s x : Operand) (t : TypeId) (ho : o.op = .call { callee := .builtin .append, args := #[s, x], argTypes := #[t, t] })
    (base : Nat) (e : TypeId) (i : TypeInfo) (z : Value) (size bytes : Nat) (ht : P.underlying t = some (.slice e)) (hi : P.info? e = some i) (hz : i.zero = some z) (hsize : i.size = size) (hby : i.bytes = bytes) (hzs : z.cells.size = size) (hsz : 0 < size)
    (v : Value) (n : Nat) (xs : List Value) (hs : a.eval s = v) (hown : w.ownsRow base e size v n xs)
    (ad : Addr) (m c : Nat) (news : List Value) (hx : a.eval x = .slice (some ad) m c) (hl : news.length = m * size) (hnews : ∀ j u, news[j]? = some u → w.cell? (ad.add j) = some u) (h1 : ∀ u ∈ news, u.oneCell' = true)
    (h63 : n + m ≤ 1000000000) (hb : bytes ≤ 1000) (hbase : base ≤ w.heap.size)
    (h : ∀ y cap w', Grew w w' base e size v (.slice y (n + m) cap) n m xs news → wpListIn F r P ops Q rest (a.put o.dst (.slice y (n + m) cap)) w') : wpListIn F r P ops Q (o :: rest) a w := by
  refine wpListIn_plain hg fun K hK => ?_
  obtain ⟨v', w', hr, hG⟩ := append_full (P := P) w base t o.type e i z size bytes ht hi hz hsize hby hzs hsz v n xs hown ad m c news hl hnews h1 h63 hb hbase
  obtain ⟨y, cap', rfl, _, _⟩ := slice_form hG.own
  unfold Oper.wpIn
  refine ⟨?_, ?_⟩
  · simp [Oper.about, ho, resolve, Target.leads, Sem.run_pure]
  · rw [Oper.semAt_plain F _ _ (by rw [ho]; intro c hc'; cases hc')]
    simp [execOp, ho, resolve, invoke, builtin, hs, hx, hr, Result.andThen]
    exact hK _ _ (h y cap' w' hG)
end Go.Proofs.Ytnkflmimnpolcaa
