/- Ints that are handed in, and held against what they were. -/
import Derived.Test.YtepbflcmghkieaaDoorSj15
import Derived.Test.YtepbflcmghkieaaDoorRWords
namespace Go.Proofs.YtepbflcmghkieaaDoor
open Go.RowKit Go.Lib Go.ChangeShapes Go.WideShapes
set_option maxRecDepth 100000

/-- append of what lies in cells, at a plain region's list. -/
theorem wpList_append_cells {P : Program} (w : World) {ops : Array Oper} {rest : List Oper} {o : Oper} {a : Act} {Q : Exit → Act → World → Prop} (hgd : o.guard = none) (s x : Operand) (t : TypeId)
    (ho : o.op = .call { callee := .builtin .append, args := #[s, x], argTypes := #[t, t] })
    (base : Nat) (e : TypeId) (i : TypeInfo) (z : Value) (size bytes : Nat) (ht : P.underlying t = some (.slice e)) (hi : P.info? e = some i) (hz : i.zero = some z) (hsize : i.size = size) (hby : i.bytes = bytes) (hzs : z.cells.size = size) (hsz : 0 < size)
    (v : Value) (n : Nat) (xs : List Value) (hs : a.eval s = v) (hown : w.ownsRow base e size v n xs)
    (ad : Addr) (m c : Nat) (news : List Value) (hx : a.eval x = .slice (some ad) m c) (hl : news.length = m * size) (hnews : ∀ j u, news[j]? = some u → w.cell? (ad.add j) = some u) (h1 : ∀ u ∈ news, u.oneCell' = true) (h63 : n + m ≤ 1000000000) (hb : bytes ≤ 1000) (hbase : base ≤ w.heap.size)
    (h : ∀ y cap w', Grew w w' base e size v (.slice y (n + m) cap) n m xs news → wpList P ops Q rest (a.put o.dst (.slice y (n + m) cap)) w') : wpList P ops Q (o :: rest) a w := by
  refine wpList_plain hgd fun K hK => ?_
  obtain ⟨v', w', hr, hG⟩ := append_full (P := P) w base t o.type e i z size bytes ht hi hz hsize hby hzs hsz v n xs hown ad m c news hl hnews h1 h63 hb hbase
  obtain ⟨y, cap', rfl, _, _⟩ := slice_form hG.own
  unfold Oper.wp execOp
  simp only [ho, resolve, invoke, builtin, Sem.run_bind, Sem.run_pure, Result.andThen_ok, List.map_toArray, List.map_cons, List.map_nil, hs, hx, hr]
  exact hK _ _ (h y cap' w' hG)

abbrev TInts : TypeId := 24
theorem infoInt : (Tryd.prog.info? TInt).map (fun i => (i.zero, i.size, i.bytes)) = some (some (.int .i64 0), 1, 8) := by kernel_rfl
theorem intV_app (a b : List Int) : intV (a ++ b) = intV a ++ intV b := by simp [intV]
theorem intV_one (l : List Int) : ∀ u ∈ intV l, u.oneCell' = true := by
  intro u hu
  unfold intV at hu
  obtain ⟨i, -, rfl⟩ := List.mem_map.1 hu
  rfl
theorem intX_cells {w : World} {ad : Addr} {l : List Int} (h : IntX w (some ad) l) : ∀ j u, (intV l)[j]? = some u → w.cell? (ad.add j) = some u := by
  intro j u hu
  obtain ⟨hj, rfl⟩ := List.getElem?_eq_some_iff.1 hu
  rw [intV_len] at hj
  obtain ⟨b, off, e, hc⟩ := h j hj
  cases e
  rw [show (⟨b, off, none⟩ : Addr).add j = ⟨b, off + j, none⟩ by unfold Addr.add; split <;> simp_all, hc]
  simp [intV]
/-- append of ints of a list, nil or not, at a plain region's list. -/
theorem wpList_append_tints (w : World) {ops : Array Oper} {rest : List Oper} {o : Oper} {a : Act} {Q : Exit → Act → World → Prop} (hgd : o.guard = none) (s x : Operand)
    (ho : o.op = .call { callee := .builtin .append, args := #[s, x], argTypes := #[TInts, TInts] })
    (w0 : World) (v : Value) (n : Nat) (xs : List Value) (hs : a.eval s = v) (hown : w.ownsRow w0.heap.size TInt 1 v n xs) (ht : Touch [] w0 w)
    (y : Option Addr) (c : Nat) (m : List Int) (hx : a.eval x = .slice y m.length c) (hc : y = none → c = 0 ∧ m = []) (hX : IntX w y m) (h63 : n + m.length ≤ 1000000000)
    (h : ∀ y' cap w', w'.ownsRow w0.heap.size TInt 1 (.slice y' (n + m.length) cap) (n + m.length) (xs ++ intV m) → Touch [] w0 w' → wpList Tryd.prog ops Q rest (a.put o.dst (.slice y' (n + m.length) cap)) w') :
    wpList Tryd.prog ops Q (o :: rest) a w := by
  obtain ⟨i0, hi, hz0, hz1, hz2⟩ := info_parts infoInt
  cases y with
  | some ad => exact wpList_append_cells w hgd s x TInts ho w0.heap.size TInt i0 (.int .i64 0) 1 8 Tryd.underlying24 hi hz0 hz1 hz2 rfl (by decide) v n xs hs hown ad m.length c (intV m) hx (by rw [intV_len]; omega) (intX_cells hX) (intV_one m) h63 (by decide) ht.size fun y' cap w' G => h y' cap w' G.own (G.touch hown ht (Nat.le_refl _))
  | none =>
    obtain ⟨rfl, rfl⟩ := hc rfl
    obtain ⟨yv, cap, rfl, _, _⟩ := slice_form hown
    exact wpList_append_own_none hgd s x TInts ho w0.heap.size TInt i0 1 Tryd.underlying24 hi _ n xs hs hown hx (h yv cap w (by simpa [intV] using hown) ht)
theorem intX_lit (w : World) (e : Int) : IntX (w.alloc (.cells #[.int .i64 e] TInt)) (some ⟨w.heap.size, 0, none⟩) [e] := fun i hi => by
  obtain rfl : i = 0 := by simpa using hi
  exact ⟨_, _, rfl, cell_of (heap_alloc_new w _) 0⟩
/-- What LentInts hands out: the list, and one more behind it. -/
def LentI (w : World) (B : Nat) (v : Value) (l : List Int) : Prop := ∃ y cap, v = .slice (some y) l.length cap ∧ w.ownsRow B TInt 1 (.slice (some y) (l.length + 1) cap) (l.length + 1) (intV (l ++ [-77]))
theorem LentI.t {w w' : World} {B : Nat} {v : Value} {l : List Int} (h : LentI w B v l) (t : Touch [] w w') : LentI w' B v l := by
  obtain ⟨y, cap, rfl, h⟩ := h
  exact ⟨y, cap, rfl, owns_touch h t⟩
theorem own_some {w : World} {B n cap size : Nat} {e : TypeId} {y : Option Addr} {xs : List Value} (h : w.ownsRow B e size (.slice y (n + 1) cap) (n + 1) xs) : ∃ g, y = some ⟨g, 0, none⟩ ∧ n + 1 ≤ cap := by
  rcases h.2 with ⟨h1, h0⟩ | ⟨g, cap', cur, hv, _, _, hnc, _⟩
  · omega
  · injection hv with h1 h2 h3
    subst h3
    exact ⟨g, h1, hnc⟩
theorem LentI.x {w : World} {B : Nat} {v : Value} {l : List Int} (h : LentI w B v l) : ∃ g c, v = .slice (some ⟨g, 0, none⟩) l.length c ∧ l.length + 1 ≤ c ∧ IntX w (some ⟨g, 0, none⟩) (l ++ [-77]) := by
  obtain ⟨y, cap, rfl, h⟩ := h
  obtain ⟨g, hy, hc⟩ := own_some h
  cases hy
  refine ⟨g, cap, rfl, hc, ?_⟩
  obtain ⟨x, c', hv, hn, hx⟩ := intX_own h
  injection hv with h1 h2 h3
  rw [h1]
  exact hx
set_option maxHeartbeats 2000000 in
theorem lentI_any (x : Option Addr) (c : Nat) (l : List Int) (w : World) (hx : IntX w x l) (hc : x = none → c = 0 ∧ l = []) (hlen : l.length ≤ 1000000) :
    Calls Tryd.prog 12 #[.slice x l.length c] w fun e w' => ∃ u, e = .returned u ∧ LentI w' w.heap.size u l ∧ Touch [] w w' := by
  have HX := hid hx
  have HC := hid hc
  clear hx hc
  go_enter Tryd.func12, Tryd.ntmps12
  go_wp2_with (first
    | (at_builtin; refine wpList_append_tints _ rfl (.const (.slice none 0 0)) (.tmp 3) rfl w (.slice none 0 0) 0 [] rfl (World.ownsRow_nil _ _ _ _) (Touch.refl [] w) x c l rfl (fun h => HC.out h) HX.out (by omega) ?_; rw [Nat.zero_add, List.nil_append]; intro y1 c1 w2 hG1 hT1; have G1 := hid hG1; have U1 := hid hT1; clear hG1 hT1)
    | (at_builtin; refine wpList_append_tints _ rfl (.tmp 4) (.tmp 5) rfl w (.slice y1 l.length c1) l.length (intV l) rfl (owns_touch G1.out ((Touch.refl [] _).alloc _)) (U1.out.alloc _) (some ⟨w2.heap.size, 0, none⟩) 1 [-77] rfl (fun h => by cases h) (intX_lit w2 (-77)) (by simp; omega) ?_; rw [List.length_singleton]; intro y2 c2 w3 hG1 hT1; have G2 := hid hG1; have U2 := hid hT1; clear hG1 hT1; obtain ⟨g2, hy2, hc2⟩ := own_some G2.out; subst hy2; have hc3 : l.length ≤ c2 := by omega))
  go_ret
  exact ⟨_, rfl, ⟨_, _, rfl, by rw [intV_app]; exact G2.out⟩, U2.out⟩
theorem IntX.pre {w : World} {x : Option Addr} {l m : List Int} (h : IntX w x (l ++ m)) : IntX w x l := fun i hi => by
  have := h i (by simp; omega)
  rw [List.getElem_append_left hi] at this
  exact this
set_option maxHeartbeats 2000000 in
theorem staysI_any (v : Value) (B : Nat) (x : Option Addr) (c : Nat) (l : List Int) (w : World) (hm : LentI w B v l) (hx : IntX w x l) (hlen : l.length ≤ 1000000) :
    Calls Tryd.prog 15 #[v, .slice x l.length c] w fun e w' => e = .returned (.bool true) ∧ Touch [] w w' := by
  obtain ⟨g, cm, rfl, hcm, hX⟩ := hm.x
  have S := hid (sameInts_any (some ⟨g, 0, none⟩) x cm c l l w hlen hlen hX.pre hx)
  have L := hid (hX l.length (by simp))
  clear hm hx hX
  have hcI : ((l.length : Int) + 1) ≤ cm := by omega
  go_enter Tryd.func15, Tryd.ntmps15
  go_wp2_with fail
  refine S.out.mono ?_
  rintro e w1 ⟨rfl, t1⟩
  obtain ⟨b, off, hb, g0⟩ := L.out
  cases hb
  have e2 := t1.cell g0
  have T1 := hid t1
  clear t1 g0
  rw [List.getElem_append_right (Nat.le_refl _)] at e2
  simp only [Nat.sub_self, List.getElem_cons_zero, Nat.zero_add] at e2
  go_wp2
  go_ret
  exact ⟨rfl, T1.out⟩
end Go.Proofs.YtepbflcmghkieaaDoor
