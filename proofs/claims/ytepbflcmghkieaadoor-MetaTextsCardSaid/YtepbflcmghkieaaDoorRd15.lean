/- meta.read. -/
import Derived.Test.YtepbflcmghkieaaDoorTx15
namespace Go.Proofs.YtepbflcmghkieaaDoor
open Go.RowKit Go.Lib
set_option maxRecDepth 100000

def setM (m : MetaD) : Nat → Int → MetaD
  | 0, v => (v, m.2.1, m.2.2)
  | 1, v => (m.1, v, m.2.2)
  | _, v => (m.1, m.2.1, v)
theorem readW_hit {m : MetaD} {l : List UInt8} {k : Nat} (hk : k < 3) (h : ∀ j, j < k → hasPrefix l (pk j) = false) (hp : hasPrefix l (pk k) = true) :
    readW m l = (setM m k (numP (trimPrefix l (pk k))).1, decide ((numP (trimPrefix l (pk k))).2 = 0)) := by
  unfold readW
  match k, hk with
  | 0, _ => rw [if_pos (by exact hp)]; rfl
  | 1, _ =>
    have h0 : hasPrefix l cB = false := h 0 (by omega)
    rw [if_neg (by rw [h0]; decide), if_pos (by exact hp)]; rfl
  | 2, _ =>
    have h0 : hasPrefix l cB = false := h 0 (by omega)
    have h1 : hasPrefix l aB = false := h 1 (by omega)
    rw [if_neg (by rw [h0]; decide), if_neg (by rw [h1]; decide), if_pos (by exact hp)]; rfl
theorem readW_miss {m : MetaD} {l : List UInt8} (h : ∀ j, j < 3 → hasPrefix l (pk j) = false) : readW m l = (m, false) := by
  have h0 : hasPrefix l cB = false := h 0 (by omega)
  have h1 : hasPrefix l aB = false := h 1 (by omega)
  have h2 : hasPrefix l bB = false := h 2 (by omega)
  unfold readW
  rw [if_neg (by rw [h0]; decide), if_neg (by rw [h1]; decide), if_neg (by rw [h2]; decide)]
theorem MetaB.set {w : World} {b : Nat} {m : MetaD} (h : MetaB w b m) {k : Nat} (hk : k < 3) (v : Int) : MetaB (w.setCell ⟨b, k, none⟩ (.int .i64 v)) b (setM m k v) := by
  have h1 := heap_set (i := k) h (.int .i64 v)
  match k, hk with
  | 0, _ => exact h1
  | 1, _ => exact h1
  | 2, _ => exact h1
theorem MetaB.lt {w : World} {b : Nat} {m : MetaD} (h : MetaB w b m) : b < w.heap.size := lt_of_block h
set_option maxHeartbeats 4000000 in
theorem read_any (s : ByteArray) (m : MetaD) (b : Nat) (w : World) (hb : MetaB w b m) (hs : s.size ≤ 100000) :
    Calls Tryd.prog 23 #[.pointer (some ⟨b, 0, none⟩), .string s] w fun e w' => e = .returned (.bool (readW m s.data.toList).2) ∧ MetaB w' b (readW m s.data.toList).1 ∧ Touch [b] w w' := by
  have CP := hid (parts_any b w)
  have CC := hid fun p W => Tryd.strings_CutPrefix s p W
  have CN : Hid (∀ k W, Calls Tryd.prog 35 #[.string ⟨(trimPrefix s.data.toList (pk k)).toArray⟩] W fun e w' => e = .returned (.tuple #[.int .i64 (numP (trimPrefix s.data.toList (pk k))).1, .int .i64 (numP (trimPrefix s.data.toList (pk k))).2]) ∧ Touch [] W w') := hid fun k W => by
    have := number_any ⟨(trimPrefix s.data.toList (pk k)).toArray⟩ W (by
      show (trimPrefix s.data.toList (pk k)).length ≤ _
      have h1 : (trimPrefix s.data.toList (pk k)).length ≤ s.data.toList.length := by
        unfold trimPrefix
        split
        · rw [List.length_drop]; omega
        · exact Nat.le_refl _
      have h2 : s.data.toList.length = s.size := list_len s
      omega)
    rw [numP_eq] at this
    exact this
  have HIT := hid fun k hk h hp => readW_hit (m := m) (l := s.data.toList) (k := k) hk h hp
  have MISS := hid fun h => readW_miss (m := m) (l := s.data.toList) h
  have NE : Hid (∀ k, (numP (trimPrefix s.data.toList (pk k))).2 = 0 ∨ (numP (trimPrefix s.data.toList (pk k))).2 = 1) := hid fun k => numP_err _
  have HB := hid hb
  have hlt := hb.lt
  clear hb
  go_enter Tryd.func23, Tryd.ntmps23
  go_wp2_with (go_at_call 17; refine CP.out.mono ?_; rintro e w2 ⟨rfl, p2, t2⟩; have P2 := hid p2; have T2 := hid t2; clear p2 t2)
  go_loopw [14] (fun iv wr => ∃ k : Nat, k ≤ 3 ∧ iv = .int .i64 k ∧ Hid (∀ j, j < k → hasPrefix s.data.toList (pk j) = false) ∧ Hid (Touch [] w2 wr)) (fun iv _ => 3 - (RowKit.intOf iv).toNat)
  case atStart => exact ⟨0, Nat.zero_le _, rfl, hid (fun j h => absurd h (by omega)), hid (Touch.refl [] _)⟩
  case round =>
    obtain ⟨k, hk, rfl, HP, HT⟩ := hrel
    by_cases hlt3 : k < 3
    · have hlt2 : decide (k < 3) = true := by simpa using hlt3
      have hI : (k : Int) < 3 := by omega
      obtain ⟨e0, e1⟩ := parts_at (touch_other HT.out P2.out (by simp)) hlt3
      have HBr := hid (HB.out.t (T2.out.trans HT.out (by simp)))
      have CNk := hid (CN.out k)
      have CCk : Hid (∀ W, Calls Tryd.prog 34 #[.string s, .string (txt (pk k))] W fun e w' => e = .returned (.tuple #[.string ⟨(trimPrefix s.data.toList (pk k)).toArray⟩, .bool (hasPrefix s.data.toList (pk k))]) ∧ w' = W) := hid fun W => CC.out (txt (pk k)) W
      have HK := hid (HIT.out k hlt3 HP.out)
      have NEk := NE.out k
      have HPN : Hid (hasPrefix s.data.toList (pk k) = false → ∀ j, j < k + 1 → hasPrefix s.data.toList (pk j) = false) := hid fun h j hj => by
        by_cases hjk : j = k
        · subst hjk; exact h
        · exact HP.out j (by omega)
      have TWr := hid (T2.out.trans HT.out (by simp))
      clear HP CN CC HIT MISS NE
      obtain ⟨W1, hW1⟩ : ∃ W1, W1 = wr.alloc (.cells #[.string (txt (pk k)), .pointer (some ⟨b, k, none⟩)] TPart) := ⟨_, rfl⟩
      have t1 : Touch [] wr W1 := by rw [hW1]; exact (Touch.refl [] wr).alloc _
      have B1 : W1.heap[wr.heap.size]? = some (.cells #[.string (txt (pk k)), .pointer (some ⟨b, k, none⟩)] TPart) := by rw [hW1]; exact heap_alloc_new wr _
      have c0 := cell_of B1 0
      have c1 := cell_of B1 1
      have HB1 := hid (HBr.out.t t1)
      have TW1 := hid (TWr.out.trans t1 (by simp))
      have TH1 := hid (HT.out.trans t1 (by simp))
      have hB1 := hid B1
      clear t1 B1 HT HBr
      generalize txt (pk k) = p at *
      generalize (⟨(trimPrefix s.data.toList (pk k)).toArray⟩ : ByteArray) = rest at *
      generalize numP (trimPrefix s.data.toList (pk k)) = nn at *
      obtain ⟨nv, ne⟩ := nn
      dsimp only at *
      go_upto_region 4 with fail
      rw [← hW1]
      clear hW1 e0 e1
      cases hhp : hasPrefix s.data.toList (pk k)
      · have HN := hid (HPN.out hhp)
        rw [hhp] at CCk
        clear HK HPN hhp
        go_wp2_with (go_at_call 34; refine (CCk.out _).mono ?_; rintro e w3 ⟨rfl, rfl⟩)
        go_roundw
        case rel => exact ⟨k + 1, by omega, by go_num, HN, TH1⟩
        case measure => simp [RowKit.intOf]; omega
      · have HK2 := hid (HK.out hhp)
        rw [hhp] at CCk
        clear HK HPN hhp
        go_wp2_with (first
          | (go_at_call 34; refine (CCk.out _).mono ?_; rintro e w3 ⟨rfl, rfl⟩)
          | (go_at_call 35; refine (CNk.out _).mono ?_; rintro e w4 ⟨rfl, t4⟩; have B4 := touch_other t4 hB1.out (by simp); have d1 := cell_of B4 1; have M4 := hid (HB1.out.t t4); have T4 := hid (TW1.out.trans t4 (by simp)); have f4 := free_of (show w4.heap[b]? = _ from M4.out) k; have g4 := M4.out.at hlt3; clear t4 B4))
        go_ret
        rw [HK2.out]
        refine ⟨?_, M4.out.set hlt3 _, (T4.out.mono (by simp)).setCell (.inl (by simp)) _⟩
        rcases NEk with h | h <;> subst h <;> rfl
    · obtain rfl : k = 3 := by omega
      have hlt2 : decide (3 < 3) = false := by simp
      have MS := hid (MISS.out HP.out)
      have HBr := hid (HB.out.t (T2.out.trans HT.out (by simp)))
      have TWr := hid (T2.out.trans HT.out (by simp))
      clear HP MISS
      go_wp2
      go_ret
      rw [MS.out]
      exact ⟨rfl, HBr.out, TWr.out.mono (by simp)⟩
end Go.Proofs.YtepbflcmghkieaaDoor
