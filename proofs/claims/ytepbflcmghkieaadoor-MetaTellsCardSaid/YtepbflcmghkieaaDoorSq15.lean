/- strings.SplitSeq at one blank: the iterator. -/
import Derived.Test.YtepbflcmghkieaaDoorRl15
import Derived.Test.YtepbflcmghkieaaDoorMp15
import Derived.TacticsInMore
import Derived.LoopIn
import Derived.OwnWalkIn
import Derived.RangeFuncCalls
import Derived.RangeFuncLeaves
namespace Go.Proofs.YtepbflcmghkieaaDoor
open Go.RowKit Go.Lib
set_option maxRecDepth 100000
attribute [local go_sem] Oper.semAt_some

theorem splitSeq_any (s : ByteArray) (w : World) : Calls Tryd.prog 22 #[.string s, .string ⟨#[32]⟩] w fun e w' =>
    e = .returned (.func (.func 43) #[] #[.pointer (some ⟨w.heap.size + 1, 0, none⟩), .pointer (some ⟨w.heap.size, 0, none⟩), .pointer (some ⟨w.heap.size + 2, 0, none⟩)]) ∧
    w' = ((w.alloc (.cells #[.string s] 9)).alloc (.cells #[.string ⟨#[32]⟩] 9)).alloc (.cells #[.int .i64 0] 3) := by
  go_enter Tryd.func22, Tryd.ntmps22
  go_wp2
  go_ret
  exact ⟨by simp, rfl⟩
/-- Its three boxes: the blank, what is left of the text, nought. -/
structure SqB (b1 b2 b3 : Nat) (t : List UInt8) (W : World) : Prop where
  sep : W.heap[b1]? = some (.cells #[.string ⟨#[32]⟩] 9)
  txt : W.heap[b2]? = some (.cells #[.string (txt t)] 9)
  sav : W.heap[b3]? = some (.cells #[.int .i64 0] 3)
def prS (b1 b2 b3 : Nat) : Nat → Prop := fun k => k = b1 ∨ k = b2 ∨ k = b3
theorem SqB.kp {b1 b2 b3 : Nat} {t : List UInt8} {W W' : World} (h : SqB b1 b2 b3 t W) (k : KpP (prS b1 b2 b3) W W') : SqB b1 b2 b3 t W' :=
  ⟨(k.keep b1 (.inl rfl) (lt_of_block h.sep)).trans h.sep, (k.keep b2 (.inr (.inl rfl)) (lt_of_block h.txt)).trans h.txt, (k.keep b3 (.inr (.inr rfl)) (lt_of_block h.sav)).trans h.sav⟩
theorem SqB.set {b1 b2 b3 : Nat} {t : List UInt8} {W : World} (h : SqB b1 b2 b3 t W) (h1 : b1 ≠ b2) (h3 : b3 ≠ b2) (t' : List UInt8) : SqB b1 b2 b3 t' (W.setCell ⟨b2, 0, none⟩ (.string (Proofs.YtepbflcmghkieaaDoor.txt t'))) :=
  ⟨(heap_set_other _ h1).trans h.sep, heap_set h.txt _, (heap_set_other _ h3).trans h.sav⟩
theorem txt_take (t : List UInt8) (i : Nat) : (txt t).extract 0 i = txt (t.take i) := by
  refine (arr_eq ?_).trans rfl
  simp [txt, ByteArray.extract, ByteArray.copySlice]
theorem txt_drop (t : List UInt8) (i : Nat) : (txt t).extract i (txt t).size = txt (t.drop i) := by
  refine (arr_eq ?_).trans rfl
  simp [txt, ByteArray.extract, ByteArray.copySlice, ByteArray.size]
  rw [List.take_of_length_le (by simp)]
theorem no32 {l : List UInt8} (h : indexByte l 32 < 0) : 32 ∉ l := fun hm => by
  rcases index_hd l with ⟨h1, h2, -⟩ | ⟨i, h1, -⟩
  · have : ∀ x ∈ hdW l, (x != 32) = true := fun x hx => by
      unfold hdW at hx
      exact List.all_eq_true.1 (List.all_takeWhile (p := (· != 32)) (l := l)) x hx
    rw [h2] at this
    have := this 32 hm
    revert this
    decide
  · omega
theorem is32 {l : List UInt8} {i : Nat} (h : indexByte l 32 = i) : 32 ∈ l := by
  rcases index_hd l with ⟨h1, -⟩ | ⟨j, h1, h2, h3, h4⟩
  · omega
  · have e : l = hdW l ++ l.drop j := by rw [h3, List.take_append_drop]
    by_cases hm : 32 ∈ l
    · exact hm
    · exfalso
      have : hdW l = l := (hd_all fun x hx e => hm (e ▸ hx)).1
      rw [this] at h3
      have := congrArg List.length h3
      rw [List.length_take] at this
      omega
set_option maxHeartbeats 4000000 in
theorem split1_in (n l b1 b2 b3 N : Nat) (h12 : b1 ≠ b2) (h32 : b3 ≠ b2) (L : List UInt8) (hL : L.length ≤ 100000) (hN : (pieces L).length ≤ N) (J Jx : List (List UInt8) → World → Prop)
    (hJs : ∀ pre W (v : ByteArray), J pre W → (∃ t, SqB b1 b2 b3 t W) → J pre (W.setCell ⟨b2, 0, none⟩ (.string v)))
    (hY : ∀ m pre x W, x.length ≤ L.length → J pre W → pre.length < N → YieldAt Fence.wide m Tryd.prog l #[.string (txt x)] W fun e W' =>
      (e = .returned (.bool true) ∧ J (pre ++ [x]) W' ∧ KpP (prS b1 b2 b3) W W') ∨ (e = .returned (.bool false) ∧ Jx (pre ++ [x]) W'))
    (W : World) (hB : SqB b1 b2 b3 L W) (h0 : J [] W) :
    CallsIn Fence.wide n Tryd.prog 43 #[.func (.yield l) #[] #[], .pointer (some ⟨b1, 0, none⟩), .pointer (some ⟨b2, 0, none⟩), .pointer (some ⟨b3, 0, none⟩)] W fun e W' => (∃ v, e = .returned v) ∧
      ((∃ ys, ys = pieces L ∧ J ys W') ∨ (∃ pre, pre <+: pieces L ∧ Jx pre W')) := by
  have CI := hid fun t W => Tryd.strings_Index_one (txt t) 32 W
  have HY := hid hY
  have HS := hid hJs
  have c1 := cell_of hB.sep 0
  have c2 := cell_of hB.txt 0
  have HB := hid hB
  clear hY hJs hB
  refine callsIn_of_wp Tryd.func43 rfl trivial ?_ rfl
  simp only [Tryd.ntmps43, List.size_toArray, List.length_cons, List.length_nil, Nat.reduceAdd, Nat.reduceSub, Array.replicate_succ, Array.replicate_zero, List.push_toArray, List.append_toArray, List.nil_append, List.cons_append]
  gi_wp2
  gi_loopw [7] (fun iv wr => ∃ (pre : List (List UInt8)) (t : List UInt8), Hid (pre ++ pieces t = pieces L) ∧ t.length ≤ L.length ∧ Hid (SqB b1 b2 b3 t wr) ∧ Hid (J pre wr)) (fun _ wr => match wr.cell? ⟨b2, 0, none⟩ with | some (.string s) => s.size | _ => 0)
  case atStart => exact ⟨[], L, hid rfl, Nat.le_refl _, HB, hid h0⟩
  case round =>
    obtain ⟨pre, t, hp, ht, hb, hj⟩ := hrel
    have d1 := cell_of hb.out.sep 0
    have d2 := cell_of hb.out.txt 0
    have d3 := cell_of hb.out.sav 0
    have hts : (txt t).size = t.length := txt_size t
    have CIt := hid (CI.out t)
    rcases index_hd t with ⟨e1, e2, e3⟩ | ⟨i, e1, e2, e3, e4⟩
    · have PC : Hid (pieces L = pre ++ [t]) := hid (by rw [← hp.out, pieces_no (no32 (by omega))])
      have LT : pre.length < N := by have := congrArg List.length PC.out; simp at this; omega
      obtain ⟨fn, tmps, assign, body, hy, hR⟩ := HY.out 0 pre t wr ht hj.out LT
      have ti : (txt t).data.toList = t := rfl
      rw [ti, e1] at CIt
      clear HY HS e1 e2 e3 ti
      gi_wp2_with (refine ⟨trivial, fun h => by simp [Fence.wide] at h, ?_⟩; gi_at_call 45; refine (callsIn_wide.2 (CIt.out _)).mono ?_; rintro e w' ⟨rfl, rfl⟩)
      refine ⟨fun h => by simp [Fence.wide] at h, (round_anyDepth rfl hR).mono ?_⟩
      rintro e W3 (⟨rfl, hJ3, hk4⟩ | ⟨rfl, hJx3⟩)
      · have H4 := hid hJ3
        clear hJ3 hk4
        gi_wp2
        go_end0
        exact ⟨⟨_, rfl⟩, .inl ⟨_, rfl, by rw [PC.out]; exact H4.out⟩⟩
      · have H4 := hid hJx3
        clear hJx3
        gi_wp2
        go_end0
        exact ⟨⟨_, rfl⟩, .inr ⟨_, by rw [PC.out]; exact ⟨[], List.append_nil _⟩, H4.out⟩⟩
    · have h32t : 32 ∈ t := is32 e1
      have PC : Hid ((pre ++ [hdW t]) ++ pieces (tlW t) = pieces L) := hid (by rw [← hp.out, pieces_yes h32t, List.append_assoc]; rfl)
      have LT : pre.length < N := by have := congrArg List.length PC.out; simp at this; omega
      have TL := tl_lt2 h32t
      obtain ⟨fn, tmps, assign, body, hy, hR⟩ := HY.out 0 pre (hdW t) wr (Nat.le_trans (hd_le t) ht) hj.out LT
      have ti : (txt t).data.toList = t := rfl
      rw [ti, e1] at CIt
      have X1 : (txt t).extract 0 i = txt (hdW t) := by rw [txt_take, e3]
      have X2 : (txt t).extract (i + 1) (txt t).size = txt (tlW t) := by rw [txt_drop, e4]
      have X3 : (txt t).extract (i + 1) t.length = txt (tlW t) := by rw [← hts]; exact X2
      have hi1 : (i : Int) ≤ 100000 := by omega
      have hi2 : i ≤ (txt t).size := by omega
      have hi3 : i + 1 ≤ (txt t).size := by omega
      have HT := hid TL
      have PX : Hid (pre ++ [hdW t] <+: pieces L) := hid (by rw [← PC.out]; exact List.prefix_append _ _)
      clear HY e1 e3 e4 ti h32t LT TL
      gi_wp2_with (refine ⟨trivial, fun h => by simp [Fence.wide] at h, ?_⟩; gi_at_call 45; refine (callsIn_wide.2 (CIt.out _)).mono ?_; rintro e w' ⟨rfl, rfl⟩)
      refine ⟨fun h => by simp [Fence.wide] at h, (round_anyDepth rfl hR).mono ?_⟩
      rintro e W3 (⟨rfl, hJ3, hk4⟩ | ⟨rfl, hJx3⟩)
      · have B3 := hb.out.kp hk4
        have H4 := hid (HS.out _ _ (txt (tlW t)) hJ3 ⟨_, B3⟩)
        have B4 := hid (B3.set h12 h32 (tlW t))
        have g1 := cell_of B3.sep 0
        have g2 := cell_of B3.txt 0
        have g3 := cell_of B3.sav 0
        have f2 := free_of B3.txt 0
        have E4 := hid (cell_of B4.out.txt 0)
        clear hJ3 hk4 B3
        gi_wp2
        go_roundw
        case rel => exact ⟨_, _, PC, by have := HT.out; omega, B4, H4⟩
        case measure =>
          have := HT.out
          have e4 := E4.out
          simp [e4, d2, txt_size]
          omega
      · have H4 := hid hJx3
        clear hJx3
        gi_wp2
        refine bodyPost_ret (results_none rfl _ _ _) rfl ?_
        exact ⟨⟨_, rfl⟩, .inr ⟨_, PX.out, H4.out⟩⟩
end Go.Proofs.YtepbflcmghkieaaDoor
