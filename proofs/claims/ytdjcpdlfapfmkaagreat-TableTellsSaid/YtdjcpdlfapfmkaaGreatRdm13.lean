/- The laws' own Seal and Open. The laws' own writer, told by the same states as codec's. What the laws' own reader returns and leaves, told by the same states as codec's. The laws' own writer, begun with a constant's bytes: such a row bears a mark, and the first append lays a new one. -/
import Derived.Test.YtdjcpdlfapfmkaaGreatChk
import Derived.Deep.RegionWith
import Derived.Test.YtdjcpdlfapfmkaaGreatFacts
import Derived.Test.YtdjcpdlfapfmkaaGreatFloat
import Derived.Deep.CutBlock
import Derived.Lib.SlBytesConst
import Derived.Deep.AppendLies
import Derived.ArgAppend
namespace Go.Proofs.YtdjcpdlfapfmkaaGreat
open Go.RowKit Go.Lib
set_option maxRecDepth 100000

theorem refFour_any (n : Nat) (h : (n : Int) < 4294967296) (w : World) :
    Calls Tryz.prog 92 #[.int .u32 (n : Int)] w fun e w' => e = .returned (.string ⟨(four n).toArray⟩) ∧ Touch [] w w' := by
  have hconv := conv_four n (by omega) w
  go_enter Tryz.func92, Tryz.ntmps92
  go_wp2
  go_ret
  exact ⟨rfl, (Touch.refl _ _).alloc _⟩

/-- The laws' own sum. -/
theorem refSum_any (s : ByteArray) (w : World) (hs : s.size ≤ maxLen) :
    Calls Tryz.prog 93 #[.string s] w fun e w' => e = .returned (.int .u32 (crc s.data.toList : Int)) ∧ w = w' := by
  unfold maxLen at hs
  go_enter Tryz.func93, Tryz.ntmps93
  go_wp2
  go_loop [3, 4] (fun xv iv => ∃ k : Nat, k ≤ s.size ∧ iv = .int .i64 k ∧ xv = .int .u32 ((eats ones (s.data.toList.take k)).toNat : Int)) (fun _ iv => s.size - (RowKit.intOf iv).toNat)
  case atStart => exact ⟨0, Nat.zero_le _, rfl, rfl⟩
  case round =>
    obtain ⟨k, hk, rfl, rfl⟩ := hrel
    by_cases hlt : k < s.size
    · have hsn := take_getD s k hlt
      have hsg : s.data.toList.getD k 0 = s[k] := by
        have h2 : k < s.data.toList.length := by rw [list_len]; exact hlt
        rw [List.getD_eq_getElem?_getD, List.getElem?_eq_getElem h2]
        rfl
      rw [hsg] at hsn
      clear hsg
      have hn : Hid (eats ones (s.data.toList.take (k + 1)) = ticks 8 (eats ones (s.data.toList.take k) ^^^ BitVec.ofNat 32 s[k].toNat)) := by rw [hsn, eats_snoc]; rfl
      clear hsn
      generalize eats ones (s.data.toList.take k) = y at *
      have hb := s[k].toNat_lt
      have hbI : (s[k].toNat : Int) ≤ 255 := by omega
      have hx := xor_byte y s[k]
      generalize y ^^^ BitVec.ofNat 32 s[k].toNat = z at *
      go_wp2
      clear hx
      go_loop [3, 5] (fun xv jv => ∃ j : Nat, j ≤ 8 ∧ jv = .int .i64 j ∧ xv = .int .u32 ((ticks j z).toNat : Int)) (fun _ jv => 8 - (RowKit.intOf jv).toNat)
      case atStart => exact ⟨0, Nat.zero_le _, rfl, rfl⟩
      case round =>
        obtain ⟨j, hj, rfl, rfl⟩ := hrel
        by_cases hj8 : j < 8
        · have hjI : (j : Int) < 8 := by omega
          have hts : Hid (ticks (j + 1) z = tick (ticks j z)) := rfl
          generalize ticks j z = t at *
          have htl : t.toNat < 4294967296 := t.isLt
          by_cases hodd : t.toNat % 2 = 1
          · have q : (((t.toNat : Nat) : Int) % 2 == 1) = true := by rw [beq_iff_eq]; omega
            have ht := hid (tick_ref t hodd)
            clear hodd
            go_wp2
            go_round
            case rel => exact ⟨j + 1, by omega, by go_num, by rw [ht.out, hts.out]⟩
            case measure => simp [RowKit.intOf]; omega
          · have q : (((t.toNat : Nat) : Int) % 2 == 1) = false := by rw [beq_eq_false_iff_ne]; omega
            have ht := hid (tick_ref0 t (by omega))
            clear hodd
            go_wp2
            go_round
            case rel => exact ⟨j + 1, by omega, by go_num, by rw [ht.out, hts.out]⟩
            case measure => simp [RowKit.intOf]; omega
        · have h8 : j = 8 := by omega
          subst h8
          go_wp2
          go_round
          case rel => exact ⟨k + 1, by omega, by go_num, by rw [hn.out]⟩
          case measure => simp [RowKit.intOf]; omega
    · have he : s.data.toList.take k = s.data.toList := List.take_of_length_le (by rw [list_len]; omega)
      rw [he]
      clear he
      have hz := hid (end_ref (eats ones s.data.toList))
      have hlt2 := (eats ones s.data.toList).isLt
      go_wp2
      go_ret
      exact ⟨by rw [hz.out]; rfl, rfl⟩

theorem refSeal_any (s : ByteArray) (w : World) (hs : s.size ≤ 100000) :
    Calls Tryz.prog 88 #[.string s] w fun e w' => e = .returned (.string (sealed s)) ∧ Touch [] w w' := by
  have C := hid (refSum_any s w (by unfold maxLen; omega))
  have D := hid fun (w1 : World) => refFour_any (crc s.data.toList) (by have := crc_lt s.data.toList; omega) w1
  have E := hid (sealed_eq s)
  generalize crc s.data.toList = n at *
  have hl : (four n).length + s.size ≤ 9223372036854775807 := by rw [four_length]; omega
  go_enter Tryz.func88, Tryz.ntmps88
  go_wp2_with (first | (go_at_call 93; refine C.out.mono ?_; rintro e w1 ⟨rfl, rfl⟩) | (go_at_call 92; refine (D.out _).mono ?_; rintro e w2 ⟨rfl, h2⟩))
  go_ret
  exact ⟨by rw [← E.out]; rfl, h2⟩


theorem refOpen_short (b : ByteArray) (w : World) (h : (b.size : Int) < 4) :
    Calls Tryz.prog 45 #[.string b] w fun e w' => e = .returned (.tuple #[.string ⟨#[]⟩, .int .i64 5]) ∧ w = w' := by
  go_enter Tryz.func45, Tryz.ntmps45
  go_wp2
  go_ret2
  exact ⟨rfl, rfl⟩

set_option maxHeartbeats 2000000 in
theorem refOpen_long (b : ByteArray) (w : World) (h : (4 : Int) ≤ b.size) (hs : b.size ≤ 100000) :
    Calls Tryz.prog 45 #[.string b] w fun e w' => e = .returned (openOf (b.extract 0 4) (b.extract 4 b.size)) ∧ Touch [] w w' := by
  have hq := extract_le b hs
  have C := hid fun (w1 : World) => refSum_any (b.extract 4 b.size) w1 (by unfold maxLen; omega)
  have D := hid fun (w1 : World) => refFour_any (crc (b.extract 4 b.size).data.toList) (by have := crc_lt (b.extract 4 b.size).data.toList; omega) w1
  have sym : ∀ p q : List UInt8, (p == q) = (q == p) := fun p q => by rw [Bool.eq_iff_iff, beq_iff_eq, beq_iff_eq]; exact ⟨Eq.symm, Eq.symm⟩
  by_cases he : b.extract 0 4 = ⟨(four (crc (b.extract 4 b.size).data.toList)).toArray⟩
  · have hR := hid (show openOf (b.extract 0 4) (b.extract 4 b.size) = .tuple #[.string (b.extract 4 b.size), .int .i64 0] by unfold openOf; rw [if_pos he])
    have t1 : (four (crc (b.extract 4 b.size).data.toList) == (b.extract 0 4).toList) = true := by rw [sym, open_test]; exact decide_eq_true he
    clear he sym
    generalize crc (b.extract 4 b.size).data.toList = n at C D t1
    go_enter Tryz.func45, Tryz.ntmps45
    go_upto_region 3 with fail
    go_region_with (first | (go_at_call 93; refine (C.out _).mono ?_; rintro e w1 ⟨rfl, rfl⟩) | (go_at_call 92; refine (D.out _).mono ?_; rintro e w2 ⟨rfl, h2⟩))
    go_wp2
    go_ret2
    exact ⟨by rw [hR.out]; rfl, by first | exact (Touch.refl [] w).drew.trans h2 (by simp) | exact ((Touch.refl [] w).drew.trans h2 (by simp)).drew | exact ((Touch.refl [] w).drew.trans h2 (by simp)).drewN _⟩
  · have hR := hid (show openOf (b.extract 0 4) (b.extract 4 b.size) = .tuple #[.string ⟨#[]⟩, .int .i64 7] by unfold openOf; rw [if_neg he])
    have t1 : (four (crc (b.extract 4 b.size).data.toList) == (b.extract 0 4).toList) = false := by rw [sym, open_test]; exact decide_eq_false he
    clear he sym
    generalize crc (b.extract 4 b.size).data.toList = n at C D t1
    go_enter Tryz.func45, Tryz.ntmps45
    go_upto_region 3 with fail
    go_region_with (first | (go_at_call 93; refine (C.out _).mono ?_; rintro e w1 ⟨rfl, rfl⟩) | (go_at_call 92; refine (D.out _).mono ?_; rintro e w2 ⟨rfl, h2⟩))
    go_wp2
    go_ret2
    exact ⟨by rw [hR.out]; rfl, by first | exact (Touch.refl [] w).drew.trans h2 (by simp) | exact ((Touch.refl [] w).drew.trans h2 (by simp)).drew | exact ((Touch.refl [] w).drew.trans h2 (by simp)).drewN _⟩
end Go.Proofs.YtdjcpdlfapfmkaaGreat

namespace Go.Proofs.YtdjcpdlfapfmkaaGreat
open Go.RowKit Go.Lib

abbrev tROut : TypeId := 125
def byteCells (l : List UInt8) : List Value := l.map fun b => Value.int .u8 b.toNat

/-- The laws' own writer at block x: its bytes, its error; its blocks are G. -/
def RoutIs (w : World) (x : Nat) (G : List Nat) (st : List UInt8 × Int) : Prop :=
  ∃ v, w.heap[x]? = some (.cells #[v, .int .i64 st.2] tROut (0, 0)) ∧ w.ownsRow 0 tByte 1 v st.1.length (byteCells st.1) ∧ v.ownBlock ≠ some x ∧ G = x :: v.ownBlock.toList
def RoPost (x : Nat) (G : List Nat) (st : List UInt8 × Int) (w w' : World) : Prop := ∃ G', RoutIs w' x G' st ∧ Touch G w w' ∧ ∀ f ∈ G', f ∈ G ∨ w.heap.size ≤ f

theorem ownsRow_same {w w' : World} {v : Value} {n : Nat} {xs : List Value} (h : w.ownsRow 0 tByte 1 v n xs) (hb : ∀ g, v.ownBlock = some g → w'.heap[g]? = w.heap[g]?) : w'.ownsRow 0 tByte 1 v n xs := by
  obtain ⟨h1, h2 | ⟨g, cap, cur, hv, h3, h4, h5⟩⟩ := h
  · exact ⟨h1, .inl h2⟩
  · refine ⟨h1, .inr ⟨g, cap, cur, hv, h3, (hb g ?_).trans h4, h5⟩⟩
    rw [hv]; rfl
theorem ownsRow_lt {w : World} {v : Value} {n : Nat} {xs : List Value} (h : w.ownsRow 0 tByte 1 v n xs) : ∀ g, v.ownBlock = some g → g < w.heap.size := by
  intro g hg
  obtain ⟨_, ⟨rfl, _⟩ | ⟨g', cap, cur, rfl, _, h4, _⟩⟩ := h
  · simp [Value.ownBlock] at hg
  · simp [Value.ownBlock] at hg
    subst hg
    exact lt_of_block h4
theorem RoutIs.lt {w : World} {x : Nat} {G : List Nat} {st : List UInt8 × Int} (h : RoutIs w x G st) : ∀ f ∈ G, f < w.heap.size := by
  obtain ⟨v, h1, h2, _, rfl⟩ := h
  intro f hf
  simp at hf
  rcases hf with rfl | hf
  · exact lt_of_block h1
  · exact ownsRow_lt h2 f hf
theorem RoutIs.keep {w w' : World} {x : Nat} {F G : List Nat} {st : List UInt8 × Int} (h : RoutIs w x G st) (ht : Touch F w w') (hd : ∀ f ∈ G, f ∉ F) : RoutIs w' x G st := by
  have hl := h.lt
  obtain ⟨v, h1, h2, h3, rfl⟩ := h
  exact ⟨v, (ht.block x (hl x (by simp)) (hd x (by simp))).trans h1, ownsRow_same h2 (fun g hg => ht.block g (hl g (by simp [hg])) (hd g (by simp [hg]))), h3, rfl⟩
theorem RoPost.refl {w : World} {x : Nat} {G : List Nat} {st : List UInt8 × Int} (h : RoutIs w x G st) : RoPost x G st w w := ⟨G, h, Touch.refl _ _, fun _ hf => .inl hf⟩
theorem RoPost.up {x : Nat} {F G : List Nat} {st : List UInt8 × Int} {w w2 w' : World} (h : RoPost x F st w2 w') (ht : Touch G w w2) (hF : ∀ f ∈ F, f ∈ G ∨ w.heap.size ≤ f) : RoPost x G st w w' := by
  obtain ⟨G', h1, h2, h3⟩ := h
  refine ⟨G', h1, ht.trans h2 hF, fun f hf => ?_⟩
  rcases h3 f hf with h | h
  · exact hF f h
  · exact .inr (Nat.le_trans ht.size h)

theorem byte_append (st : List UInt8) (c : UInt8) : byteCells (st ++ [c]) = byteCells st ++ [.int .u8 c.toNat] := by simp [byteCells]
theorem byteCells_len (l : List UInt8) : (byteCells l).length = l.length := by simp [byteCells]

theorem be_take (n v k : Nat) (h : k < n) : (be n v).take (k + 1) = (be n v).take k ++ [UInt8.ofNat (v / 2 ^ (8 * (n - 1 - k)))] := by
  rw [List.take_succ_eq_append_getElem (by rw [be_length]; exact h)]
  simp [be]

theorem ro_close {x : Nat} {G G' : List Nat} {cur : List UInt8} {c : UInt8} {w wr w1 : World} {va : Value} {O : Obj} {gg cap : Nat} (r1 : wr.heap[x]? = some (.cells #[va, .int .i64 0] tROut (0, 0))) (r3 : va.ownBlock ≠ some x)
    (rG : G' = x :: va.ownBlock.toList) (hT : Touch G w wr) (hF : ∀ f ∈ G', f ∈ G ∨ w.heap.size ≤ f)
    (hown : w1.ownsRow 0 tByte 1 (.slice (some ⟨gg, 0, none⟩) (cur.length + 1) cap) (cur.length + 1) (byteCells cur ++ [.int .u8 c.toNat])) (hg : (wr.alloc O).grownBy w1 va.ownBlock) (hat : va.ownBlock = some gg ∨ gg = wr.heap.size + 1) :
    RoPost x G (cur ++ [c], 0) w (w1.setCell ⟨x, 0, none⟩ (.slice (some ⟨gg, 0, none⟩) (cur.length + 1) cap)) := by
  have hx := lt_of_block r1
  have hne : gg ≠ x := by
    rcases hat with h | h
    · rintro rfl; exact r3 h
    · omega
  have hs : (wr.alloc O).heap.size = wr.heap.size + 1 := by simp
  have h1 : w1.heap[x]? = some (.cells #[va, .int .i64 0] tROut (0, 0)) := by
    rw [hg.block x (by omega) (fun e => r3 e.symm)]
    exact (Below.heap_alloc wr O x hx).trans r1
  refine ⟨[x, gg], ⟨.slice (some ⟨gg, 0, none⟩) (cur.length + 1) cap, by rw [heap_set h1]; simp, ?_, ?_, rfl⟩, ?_, ?_⟩
  · refine ownsRow_same ?_ (fun g hgg => heap_set_other _ (by simp [Value.ownBlock] at hgg; subst hgg; exact hne))
    simp only [List.length_append, List.length_singleton, byte_append]
    exact hown
  · simp [Value.ownBlock]; exact hne
  · refine ((hT.alloc O).grown hg ?_).setCell (hF x (by rw [rG]; simp)) _
    intro k hk
    exact hF k (by rw [rG]; simp [hk])
  · intro f hf
    simp at hf
    rcases hf with rfl | rfl
    · exact hF f (by rw [rG]; simp)
    · rcases hat with h | h
      · exact hF f (by rw [rG]; simp [h])
      · right; have := hT.size; omega

set_option maxRecDepth 100000 in
set_option maxHeartbeats 1600000 in
theorem roNum_good (x : Nat) (G : List Nat) (bs : List UInt8) (n v : Nat) (w : World) (h : RoutIs w x G (bs, 0)) (hn : n ≤ 8) (hb : bs.length + 8 ≤ 140737488355328) :
    Calls Tryz.prog 87 #[.pointer (some ⟨x, 0, none⟩), .int .u64 v, .int .i64 n] w fun e w' => e = .returned (.tuple #[]) ∧ RoPost x G (bs ++ be n v, 0) w w' := by
  have HR := hid h; clear h
  have Hb := hid hb; clear hb
  have hn0 : (0 : Int) ≤ n := by omega
  have hn1 : (n : Int) ≤ 8 := by omega
  go_enter Tryz.func87, Tryz.ntmps87
  go_wp2
  go_loopw [6] (fun kv wr => ∃ m : Nat, m ≤ n ∧ kv = .int .i64 ((m : Int) - 1) ∧ RoPost x G (bs ++ (be n v).take (n - m), 0) w wr) (fun kv _ => (RowKit.intOf kv + 1).toNat)
  case atStart => exact ⟨n, Nat.le_refl _, by go_num, by simpa using RoPost.refl HR.out⟩
  case round =>
    obtain ⟨m, hm, rfl, hP⟩ := hrel
    obtain ⟨G', hR, hT, hF⟩ := hP
    obtain ⟨va, r1, r2, r3, rG⟩ := hR
    have c0 : wr.cell? ⟨x, 0, none⟩ = some va := cell_of r1 0
    have c1 : wr.cell? ⟨x, 1, none⟩ = some (.int .i64 0) := cell_of r1 1
    have f0 : wr.frozen? ⟨x, 0, none⟩ = false := free_of r1 0
    have R1 := hid r1; have R2 := hid r2; have R3 := hid r3; have RG := hid rG; have HT := hid hT; have HF := hid hF
    clear r1 r2 r3 rG hT hF
    cases m with
    | succ j =>
      have ej : (((j + 1 : Nat) : Int) - 1) = (j : Int) := by omega
      rw [ej]
      have Hm := hid hm
      have hj7 : j < 8 := by omega
      have hj0 : (0 : Int) ≤ j := by omega
      clear hm ej
      go_upto_region 3 with fail
      have m1 : IntKind.i64.wrap (8 * (j : Int)) = 8 * (j : Int) := by rw [IntKind.wrap_i64]; omega
      have m2 : (0 : Int) ≤ 8 * (j : Int) := by omega
      have m3 : (8 * (j : Int)).toNat = 8 * j := by omega
      obtain ⟨i0, hi, hz0, hz1, hz2⟩ := info_parts Tryz.infoByte
      obtain ⟨cur, hcur⟩ : ∃ cur, cur = bs ++ (be n v).take (n - (j + 1)) := ⟨_, rfl⟩
      have hlen : cur.length ≤ 140737488355320 + 7 := by
        have := Hm.out; have := Hb.out
        rw [hcur, List.length_append, List.length_take, be_length]; omega
      have H1 := R1.out; have H2 := R2.out
      rw [← hcur] at H2
      simp only [] at H1 H2
      have K1 := hid H1; have K2 := hid H2; clear H1 H2
      have Hlen := hid hlen; clear hlen
      have hxl := lt_of_block K1.out
      obtain ⟨O, hO⟩ : ∃ O, O = Obj.cells #[Value.int IntKind.u8 (IntKind.u8.wrap ((v : Int) / 2 ^ (8 * j)))] tByte (0, 0) := ⟨_, rfl⟩
      have d0 : (wr.alloc O).cell? ⟨x, 0, none⟩ = some va := (World.cell?_of_block (a := ⟨x, 0, none⟩) (Below.heap_alloc wr O x hxl)).trans c0
      have d1 : (wr.alloc O).frozen? ⟨x, 0, none⟩ = false := (World.frozen?_of_block (a := ⟨x, 0, none⟩) (Below.heap_alloc wr O x hxl)).trans f0
      have D0 := hid d0; have D1 := hid d1; clear d0 d1
      have HO := hid hO; clear hO
      have HC := hid hcur; clear hcur
      go_region_law ((refine step_append_lies _ rfl (.tmp 24) (.tmp 30) 123 rfl 0 tByte i0 _ 1 1 Tryz.underlying123 hi hz0 hz1 hz2 rfl (by omega) va cur.length (byteCells cur) (by rfl) ((K2.out.alloc _).drew) ⟨wr.heap.size, 0, none⟩ 1 1 [Value.int IntKind.u8 (IntKind.u8.wrap ((v : Int) / 2 ^ (8 * j)))] (by rfl) (by rfl) (World.news_of_block (cs := #[Value.int IntKind.u8 (IntKind.u8.wrap ((v : Int) / 2 ^ (8 * j)))]) (t := tByte) (fr := (0, 0)) (heap_alloc_new wr _)) (by intro u hu; simp at hu; subst hu; rfl) (by omega) (by have := Hlen.out; unfold maxLen; omega) (by have := Hlen.out; omega) (by simp) (wr.heap.size + 1) (by simp) ?_); (intro gg cap w1 hown1 hgrow hat hlt); (have e0 : w1.cell? ⟨x, 0, none⟩ = some va := by (have := D0.out; rw [HO.out] at this; exact hgrow.cell this (fun e => R3.out e.symm))); (have e1 : w1.frozen? ⟨x, 0, none⟩ = false := by (have := D1.out; rw [HO.out] at this; exact (hgrow.frozen_far ⟨x, 0, none⟩ (by simpa using Nat.lt_succ_of_lt hxl) (fun e => R3.out e.symm)).trans this)))
      all_goals go_wp2
      all_goals
        refine ⟨⟨j, by have := Hm.out; omega, rfl, ?_⟩, by simp [RowKit.intOf]⟩
        have e : bs ++ List.take (n - j) (be n v) = cur ++ [UInt8.ofNat (v / 2 ^ (8 * j))] := by
          have hn2 := Hm.out
          rw [HC.out, show n - j = n - (j + 1) + 1 by omega, be_take n v (n - (j + 1)) (by omega), show n - 1 - (n - (j + 1)) = j by omega, List.append_assoc]
        have eb : IntKind.u8.wrap ((v : Int) / 2 ^ (8 * j)) = ((UInt8.ofNat (v / 2 ^ (8 * j))).toNat : Int) := by rw [byte_toNat, IntKind.wrap_u8]
        rw [e]
        rw [eb] at hown1
        exact ro_close K1.out R3.out RG.out HT.out HF.out hown1 ⟨hgrow.os, hgrow.tape, hgrow.output, hgrow.size, hgrow.block⟩ hat
    | zero =>
      clear hm
      go_wp2
      go_end0
      have e : bs ++ List.take (n - 0) (be n v) = bs ++ be n v := by rw [List.take_of_length_le (by rw [be_length]; omega)]
      refine ⟨rfl, G', ⟨va, R1.out, ?_, R3.out, RG.out⟩, HT.out, HF.out⟩
      have := R2.out
      rw [e] at this
      exact this

theorem roNum_st (x : Nat) (G : List Nat) (st : List UInt8 × Int) (n v : Nat) (w : World) (h : RoutIs w x G st) (hn : n ≤ 8) (hn1 : 1 ≤ n) (hb : st.1.length + 8 ≤ 140737488355328) :
    Calls Tryz.prog 87 #[.pointer (some ⟨x, 0, none⟩), .int .u64 v, .int .i64 n] w fun e w' => e = .returned (.tuple #[]) ∧ RoPost x G (pPut st (be n v)) w w' := by
  obtain ⟨bs, er⟩ := st
  by_cases he : er = 0
  · subst he
    exact roNum_good x G bs n v w h hn hb
  · have hs : pPut (bs, er) (be n v) = (bs, er) := by simp [pPut, he]
    rw [hs]
    have HR := hid h
    obtain ⟨va, h1, _, _, _⟩ := h
    have c1 : w.cell? ⟨x, 1, none⟩ = some (.int .i64 er) := cell_of h1 1
    have hb2 : (er == 0) = false := by simpa using he
    have hn0 : (1 : Int) ≤ n := by omega
    have hn2 : (n : Int) ≤ 8 := by omega
    clear h1 he hs hb
    go_enter Tryz.func87, Tryz.ntmps87
    go_wp2
    refine wp_loop_rounds 1 ?_
    rw [rounds_succ]
    go_wp2
    go_end0
    exact ⟨rfl, RoPost.refl HR.out⟩

end Go.Proofs.YtdjcpdlfapfmkaaGreat

namespace Go.Proofs.YtdjcpdlfapfmkaaGreat
open Go.RowKit Go.Lib

abbrev tRIn : TypeId := 92

/-- The laws' own reader at block x: what is left (said where it has no error), its error. -/
def RefIs (w : World) (x : Nat) (st : List UInt8 × Int) : Prop := ∃ B : ByteArray, w.heap[x]? = some (.cells #[.string B, .int .i64 st.2] tRIn (0, 0)) ∧ (st.2 = 0 → B.data.toList = st.1)
def RPost (x : Nat) (st : List UInt8 × Int) (w w' : World) : Prop := RefIs w' x st ∧ Touch [x] w w'
theorem RefIs.lt {w : World} {x : Nat} {st : List UInt8 × Int} (h : RefIs w x st) : x < w.heap.size := by obtain ⟨B, h, _⟩ := h; exact lt_of_block h
theorem RefIs.keep {w w' : World} {x : Nat} {G : List Nat} {st : List UInt8 × Int} (h : RefIs w x st) (ht : Touch G w w') (hd : x ∉ G) : RefIs w' x st := by
  have hl := h.lt
  obtain ⟨B, h, hb⟩ := h
  exact ⟨B, (ht.block x hl hd).trans h, hb⟩
theorem RPost.up {x : Nat} {st : List UInt8 × Int} {w w2 w' : World} (h : RPost x st w2 w') (ht : Touch [x] w w2) : RPost x st w w' := ⟨h.1, ht.trans h.2 (by simp)⟩

theorem rFail_any (x : Nat) (B : ByteArray) (e2 : Int) (w : World) (h : w.heap[x]? = some (.cells #[.string B, .int .i64 0] tRIn (0, 0))) :
    Calls Tryz.prog 94 #[.pointer (some ⟨x, 0, none⟩), .int .i64 e2] w fun e w' => e = .returned (.tuple #[]) ∧ w'.heap[x]? = some (.cells #[.string B, .int .i64 e2] tRIn (0, 0)) ∧ Touch [x] w w' := by
  have c1 : w.cell? ⟨x, 1, none⟩ = some (.int .i64 0) := cell_of h 1
  have f1 : w.frozen? ⟨x, 1, none⟩ = false := free_of h 1
  have H := hid h; clear h
  go_enter Tryz.func94, Tryz.ntmps94
  go_wp2
  go_end0
  exact ⟨rfl, by rw [heap_set H.out]; simp, (Touch.refl _ _).setCell (.inl (by simp)) _⟩

theorem val_step2 (V c : Nat) (hV : V < 72057594037927936) (hc : c < 256) : IntKind.u64.wrap (IntKind.u64.wrap ((V : Int) * 256) + IntKind.u64.wrap (c : Int)) = ((V * 256 + c : Nat) : Int) := by
  simp only [IntKind.wrap_u64]; omega

set_option maxRecDepth 100000 in
theorem rNum_good (x : Nat) (B : ByteArray) (n : Nat) (w : World) (h : w.heap[x]? = some (.cells #[.string B, .int .i64 0] tRIn (0, 0))) (hn : n ≤ 8) (hB : n ≤ B.size) (hB2 : B.size ≤ 9223372036854775807) :
    Calls Tryz.prog 46 #[.pointer (some ⟨x, 0, none⟩), .int .i64 n] w fun e w' => e = .returned (.int .u64 (val (B.data.toList.take n))) ∧ w'.heap[x]? = some (.cells #[.string (B.extract n B.size), .int .i64 0] tRIn (0, 0)) ∧ Touch [x] w w' := by
  have c0 : w.cell? ⟨x, 0, none⟩ = some (.string B) := cell_of h 0
  have c1 : w.cell? ⟨x, 1, none⟩ = some (.int .i64 0) := cell_of h 1
  have f0 : w.frozen? ⟨x, 0, none⟩ = false := free_of h 0
  have H := hid h; clear h
  have h1 : (n : Int) ≤ B.size := by omega
  have h2 : (0 : Int) ≤ n := by omega
  have HB := hid hB2; clear hB2
  have hlen : B.data.toList.length = B.size := list_len B
  have Hlen := hid hlen; clear hlen
  go_enter Tryz.func46, Tryz.ntmps46
  go_wp2
  go_loop [5, 6] (fun v kv => ∃ k : Nat, k ≤ n ∧ kv = .int .i64 k ∧ v = .int .u64 (val (B.data.toList.take k))) (fun _ kv => n - (RowKit.intOf kv).toNat)
  case atStart => exact ⟨0, Nat.zero_le _, rfl, rfl⟩
  case round =>
    obtain ⟨k, hk, rfl, rfl⟩ := hrel
    by_cases hlt : k < n
    · have hkl : k < B.data.toList.length := by have := Hlen.out; omega
      have hkB : k < B.size := by omega
      have hv := hid (val_take B.data.toList k hkl)
      have hs := hid (val_step2 (val (B.data.toList.take k)) B[k].toNat (val_take_lt _ k (by omega)) B[k].toNat_lt)
      have hltI : (k : Int) < n := by omega
      have hltB : (k : Int) < B.size := by omega
      go_wp2
      exact ⟨⟨k + 1, by omega, by go_num, by rw [hv.out, hs.out]; rfl⟩, by simp [RowKit.intOf]; omega⟩
    · obtain rfl : k = n := by omega
      clear hlt hk
      go_wp2
      go_ret
      refine ⟨rfl, ?_, (Touch.refl _ _).setCell (.inl (by simp)) _⟩
      rw [heap_set H.out]
      simp

theorem rNum_st (x : Nat) (st : List UInt8 × Int) (n : Nat) (w : World) (h : RefIs w x st) (hn : n ≤ 8) (hl : st.1.length ≤ 100000) :
    Calls Tryz.prog 46 #[.pointer (some ⟨x, 0, none⟩), .int .i64 n] w fun e w' => e = .returned (.int .u64 (val (iTake st n).1)) ∧ RPost x (iTake st n).2 w w' := by
  obtain ⟨r, er⟩ := st
  have hR := h
  obtain ⟨B, h, hb⟩ := h
  simp only [] at h hb hl
  by_cases he : er = 0
  · subst he
    have hB := hb rfl
    have hlen : B.size = r.length := by rw [← hB, list_len]
    by_cases hs : r.length < n
    · have hi := hid (iTake_short r n hs)
      have c0 : w.cell? ⟨x, 0, none⟩ = some (.string B) := cell_of h 0
      have c1 : w.cell? ⟨x, 1, none⟩ = some (.int .i64 0) := cell_of h 1
      have C := hid (rFail_any x B 5 w h)
      have h1 : (B.size : Int) < n := by omega
      rw [hi.out]
      clear h hb hR hB hlen hs hl
      go_enter Tryz.func46, Tryz.ntmps46
      go_wp2_with (go_at_call 94; refine C.out.mono ?_; rintro e w1 ⟨rfl, hp1, hp2⟩)
      have Hp1 := hid hp1
      go_ret
      exact ⟨rfl, ⟨B, Hp1.out, fun h => absurd h (by decide)⟩, hp2⟩
    · rw [iTake_good r n (by omega)]
      refine (rNum_good x B n w h hn (by omega) (by omega)).mono fun e w' ⟨he, h1, h2⟩ => ⟨by rw [he, hB], ⟨_, h1, fun _ => ?_⟩, h2⟩
      rw [extract_data, hB, hlen]
      exact List.take_of_length_le (by simp)
  · rw [iTake_bad _ _ he]
    have c1 : w.cell? ⟨x, 1, none⟩ = some (.int .i64 er) := cell_of h 1
    have h1 : (er != 0) = true := by simpa using he
    have HR := hid hR
    clear h hb hR he hl
    go_enter Tryz.func46, Tryz.ntmps46
    go_wp2
    go_ret
    exact ⟨rfl, HR.out, Touch.refl _ _⟩

theorem iTake_err (st : List UInt8 × Int) (n : Nat) (h : (iTake st n).2.2 ≠ 0) : (iTake st n).1 = [] := by
  unfold iTake at *
  split
  · rfl
  · rename_i h1
    split
    · rfl
    · rename_i h2
      rw [if_neg h1, if_neg h2] at h
      exact absurd rfl h

end Go.Proofs.YtdjcpdlfapfmkaaGreat

namespace Go.Proofs.YtdjcpdlfapfmkaaGreat
open Go.RowKit Go.Lib
set_option maxRecDepth 100000

/-- A row of one's own, or a constant's: full, and marked. -/
def RowM (w : World) (va : Value) (n : Nat) (xs : List Value) : Prop := w.ownsRow 0 tByte 1 va n xs ∨ ∃ g C, va = .slice (some ⟨g, 0, none⟩) n n ∧ w.heap[g]? = some (.cells C tByte (n, n + 1)) ∧ C.toList = xs ∧ C.size = n ∧ n ≤ maxLen
theorem RowM.alloc {w : World} {va : Value} {n : Nat} {xs : List Value} (h : RowM w va n xs) (o : Obj) : RowM (w.alloc o) va n xs := by
  rcases h with h | ⟨g, C, h1, h2, h3⟩
  · exact .inl (h.alloc o)
  · exact .inr ⟨g, C, h1, (Below.heap_alloc w o g (lt_of_block h2)).trans h2, h3⟩
theorem RowM.drew {w : World} {va : Value} {n : Nat} {xs : List Value} (h : RowM w va n xs) : RowM w.drew va n xs := by
  rcases h with h | ⟨g, C, h1, h2, h3⟩
  · exact .inl h.drew
  · exact .inr ⟨g, C, h1, h2, h3⟩
def RoutM (w : World) (x : Nat) (G : List Nat) (st : List UInt8 × Int) : Prop :=
  ∃ v, w.heap[x]? = some (.cells #[v, .int .i64 st.2] tROut (0, 0)) ∧ RowM w v st.1.length (byteCells st.1) ∧ v.ownBlock ≠ some x ∧ G = x :: v.ownBlock.toList
def RoPostM (x : Nat) (G : List Nat) (st : List UInt8 × Int) (w w' : World) : Prop := ∃ G', RoutM w' x G' st ∧ Touch G w w' ∧ ∀ f ∈ G', f ∈ G ∨ w.heap.size ≤ f
theorem RoPost.m {x : Nat} {G : List Nat} {st : List UInt8 × Int} {w w' : World} (h : RoPost x G st w w') : RoPostM x G st w w' := by
  obtain ⟨G', ⟨v, h1, h2, h3⟩, h4, h5⟩ := h
  exact ⟨G', ⟨v, h1, .inl h2, h3⟩, h4, h5⟩
theorem run_append_M {P : Program} {w : World} (t ty : TypeId) (i : TypeInfo) (z : Value) (ht : P.underlying t = some (.slice tByte)) (hi : P.info? tByte = some i) (hz : i.zero = some z)
    (hsize : i.size = 1) (hby : i.bytes = 1) (hzs : z.cells.size = 1)
    (v : Value) (n : Nat) (xs : List Value) (hown : RowM w v n xs)
    (ad : Addr) (m c : Nat) (news : List Value) (hl : news.length = m * 1) (hnews : ∀ j u, news[j]? = some u → w.cell? (ad.add j) = some u) (h1 : ∀ u ∈ news, u.oneCell' = true)
    (hm : 0 < m) (h63 : n + m ≤ maxLen) (hbytes : (n + m) * 1 ≤ 140737488355328) (H : Nat) (hH : w.heap.size = H) :
    ∃ g cap w', (Builtin.append_ #[t, t] ty #[v, .slice (some ad) m c]).run P w = .ok (.slice (some ⟨g, 0, none⟩) (n + m) cap) w' ∧
      w'.ownsRow 0 tByte 1 (.slice (some ⟨g, 0, none⟩) (n + m) cap) (n + m) (xs ++ news) ∧ w.grownBy w' v.ownBlock ∧ (v.ownBlock = some g ∨ g = H) ∧ g < w'.heap.size := by
  rcases hown with hown | ⟨g, C, rfl, hg, hC, hCs, hcm0⟩
  · exact run_append_lies (P := P) w t ty 0 tByte i z 1 1 ht hi hz hsize hby hzs (by omega) v n xs hown ad m c news hl hnews h1 hm h63 hbytes (Nat.zero_le _) H hH
  · subst hC
    have holds : ∀ j u, C.toList[j]? = some u → w.cell? ((⟨g, 0, none⟩ : Addr).add j) = some u := fun j u hj => by
      have had : (⟨g, 0, none⟩ : Addr).add j = ⟨g, j, none⟩ := by unfold Addr.add; split <;> simp_all
      rw [had, cell_of hg j]
      simpa using hj
    have hlo : C.toList.length = n * i.size := by rw [hsize]; simp [hCs]
    have hl' : news.length = m * i.size := by rw [hsize]; exact hl
    have hr := run_append_grow (P := P) w t ty tByte i z ht hi hz ⟨g, 0, none⟩ n n C.toList hlo holds ad m c news hl' hnews (by omega) (by unfold maxLen at h63; omega) (growslice_fits (by omega) (by rw [hby]; exact hbytes))
    have hge := grownCap_ge w (n + m) n tByte
    have hcm : grownCap w (n + m) n tByte ≤ maxLen := grownCap_le_maxLen w (n + m) n tByte h63
    have hlen : (C.toList ++ news).length = (n + m) * 1 := by rw [List.length_append, hl]; simp [hCs]
    refine ⟨_, _, _, hr, ⟨hlen, .inr ⟨w.heap.size, _, _, rfl, Nat.zero_le _, heap_alloc_new w.drew _, hge, hcm, ?_, ?_⟩⟩, ⟨rfl, rfl, rfl, by simp, fun k hk _ => Below.heap_alloc w.drew _ k hk⟩, .inr hH, by simp⟩
    · have := hlen
      rw [List.length_append] at this
      simp only [Array.size_append, List.size_toArray, size_zeroCells, hzs]
      omega
    · simp only [Array.toList_append, List.append_assoc]
      rw [← List.append_assoc, ← hlen]
      exact List.take_left
theorem step_append_M {P : Program} (w : World) {ops : Array Oper} {o : Oper} {a : Act} {K : Act → World → Prop} {Q : Exit → Act → World → Prop} {E : Prop} (hgd : o.guard = none) (s x : Operand) (t : TypeId)
    (ho : o.op = .call { callee := .builtin .append, args := #[s, x], argTypes := #[t, t] })
    (base : Nat) (e : TypeId) (i : TypeInfo) (z : Value) (size bytes : Nat) (ht : P.underlying t = some (.slice tByte)) (hi : P.info? tByte = some i) (hz : i.zero = some z)
    (hsize : i.size = 1) (hby : i.bytes = 1) (hzs : z.cells.size = 1) (hsz : 0 < size)
    (v : Value) (n : Nat) (xs : List Value) (hs : a.eval s = v) (hown : RowM w v n xs)
    (ad : Addr) (m c : Nat) (news : List Value) (hx : a.eval x = .slice (some ad) m c) (hl : news.length = m * 1) (hnews : ∀ j u, news[j]? = some u → w.cell? (ad.add j) = some u) (h1 : ∀ u ∈ news, u.oneCell' = true)
    (hm : 0 < m) (h63 : n + m ≤ maxLen) (hbytes : (n + m) * 1 ≤ 140737488355328) (hbase : base ≤ w.heap.size) (H : Nat) (hH : w.heap.size = H)
    (h : ∀ g cap w', w'.ownsRow 0 tByte 1 (.slice (some ⟨g, 0, none⟩) (n + m) cap) (n + m) (xs ++ news) → w.grownBy w' v.ownBlock → (v.ownBlock = some g ∨ g = H) → g < w'.heap.size → K (a.put o.dst (.slice (some ⟨g, 0, none⟩) (n + m) cap)) w') :
    if Region.wanted o (yielded ops a.tmps) = true then Oper.wp P o a w K Q else E := by
  rw [if_pos (by simp [Region.wanted, hgd])]
  obtain ⟨g, cap, w', hr, h2, h3, h4, h5⟩ := run_append_M (P := P) t o.type i z ht hi hz hsize hby hzs v n xs hown ad m c news hl hnews h1 hm h63 hbytes H hH
  unfold Oper.wp execOp
  simp only [ho, resolve, invoke, builtin, Sem.run_bind, Sem.run_pure, Result.andThen_ok, List.map_toArray, List.map_cons, List.map_nil, hs, hx, hr]
  exact h g cap w' h2 h3 h4 h5
set_option maxHeartbeats 1600000 in
theorem roNumM (x : Nat) (G : List Nat) (bs : List UInt8) (n v : Nat) (w : World) (h : RoutM w x G (bs, 0)) (hn : n ≤ 8) (hn1' : 1 ≤ n) (hb : bs.length + 8 ≤ 140737488355328) :
    Calls Tryz.prog 87 #[.pointer (some ⟨x, 0, none⟩), .int .u64 v, .int .i64 n] w fun e w' => e = .returned (.tuple #[]) ∧ RoPost x G (bs ++ be n v, 0) w w' := by
  have HR := hid h; clear h
  have Hb := hid hb; clear hb
  have hn0 : (0 : Int) ≤ n := by omega
  have hn1 : (n : Int) ≤ 8 := by omega
  go_enter Tryz.func87, Tryz.ntmps87
  go_wp2
  go_loopw [6] (fun kv wr => ∃ m : Nat, m ≤ n ∧ kv = .int .i64 ((m : Int) - 1) ∧ RoPostM x G (bs ++ (be n v).take (n - m), 0) w wr ∧ (m < n → RoPost x G (bs ++ (be n v).take (n - m), 0) w wr)) (fun kv _ => (RowKit.intOf kv + 1).toNat)
  case atStart => exact ⟨n, Nat.le_refl _, by go_num, ⟨G, by simpa using HR.out, Touch.refl _ _, fun _ hf => .inl hf⟩, fun h => absurd h (Nat.lt_irrefl _)⟩
  case round =>
    obtain ⟨m, hm, rfl, hP, hZ⟩ := hrel
    have HZ := hid hZ
    clear hZ
    obtain ⟨G', hR, hT, hF⟩ := hP
    obtain ⟨va, r1, r2, r3, rG⟩ := hR
    have c0 : wr.cell? ⟨x, 0, none⟩ = some va := cell_of r1 0
    have c1 : wr.cell? ⟨x, 1, none⟩ = some (.int .i64 0) := cell_of r1 1
    have f0 : wr.frozen? ⟨x, 0, none⟩ = false := free_of r1 0
    have R1 := hid r1; have R2 := hid r2; have R3 := hid r3; have RG := hid rG; have HT := hid hT; have HF := hid hF
    clear r1 r2 r3 rG hT hF
    cases m with
    | succ j =>
      have ej : (((j + 1 : Nat) : Int) - 1) = (j : Int) := by omega
      rw [ej]
      have Hm := hid hm
      have hj7 : j < 8 := by omega
      have hj0 : (0 : Int) ≤ j := by omega
      clear hm ej
      go_upto_region 3 with fail
      have m1 : IntKind.i64.wrap (8 * (j : Int)) = 8 * (j : Int) := by rw [IntKind.wrap_i64]; omega
      have m2 : (0 : Int) ≤ 8 * (j : Int) := by omega
      have m3 : (8 * (j : Int)).toNat = 8 * j := by omega
      obtain ⟨i0, hi, hz0, hz1, hz2⟩ := info_parts Tryz.infoByte
      obtain ⟨cur, hcur⟩ : ∃ cur, cur = bs ++ (be n v).take (n - (j + 1)) := ⟨_, rfl⟩
      have hlen : cur.length ≤ 140737488355320 + 7 := by
        have := Hm.out; have := Hb.out
        rw [hcur, List.length_append, List.length_take, be_length]; omega
      have H1 := R1.out; have H2 := R2.out
      rw [← hcur] at H2
      simp only [] at H1 H2
      have K1 := hid H1; have K2 := hid H2; clear H1 H2
      have Hlen := hid hlen; clear hlen
      have hxl := lt_of_block K1.out
      obtain ⟨O, hO⟩ : ∃ O, O = Obj.cells #[Value.int IntKind.u8 (IntKind.u8.wrap ((v : Int) / 2 ^ (8 * j)))] tByte (0, 0) := ⟨_, rfl⟩
      have d0 : (wr.alloc O).cell? ⟨x, 0, none⟩ = some va := (World.cell?_of_block (a := ⟨x, 0, none⟩) (Below.heap_alloc wr O x hxl)).trans c0
      have d1 : (wr.alloc O).frozen? ⟨x, 0, none⟩ = false := (World.frozen?_of_block (a := ⟨x, 0, none⟩) (Below.heap_alloc wr O x hxl)).trans f0
      have D0 := hid d0; have D1 := hid d1; clear d0 d1
      have HO := hid hO; clear hO
      have HC := hid hcur; clear hcur
      go_region_law ((refine step_append_M _ rfl (.tmp 24) (.tmp 30) 123 rfl 0 tByte i0 _ 1 1 Tryz.underlying123 hi hz0 hz1 hz2 rfl (by omega) va cur.length (byteCells cur) (by rfl) ((K2.out.alloc _).drew) ⟨wr.heap.size, 0, none⟩ 1 1 [Value.int IntKind.u8 (IntKind.u8.wrap ((v : Int) / 2 ^ (8 * j)))] (by rfl) (by rfl) (World.news_of_block (cs := #[Value.int IntKind.u8 (IntKind.u8.wrap ((v : Int) / 2 ^ (8 * j)))]) (t := tByte) (fr := (0, 0)) (heap_alloc_new wr _)) (by intro u hu; simp at hu; subst hu; rfl) (by omega) (by have := Hlen.out; unfold maxLen; omega) (by have := Hlen.out; omega) (by simp) (wr.heap.size + 1) (by simp) ?_); (intro gg cap w1 hown1 hgrow hat hlt); (have e0 : w1.cell? ⟨x, 0, none⟩ = some va := by (have := D0.out; rw [HO.out] at this; exact hgrow.cell this (fun e => R3.out e.symm))); (have e1 : w1.frozen? ⟨x, 0, none⟩ = false := by (have := D1.out; rw [HO.out] at this; exact (hgrow.frozen_far ⟨x, 0, none⟩ (by simpa using Nat.lt_succ_of_lt hxl) (fun e => R3.out e.symm)).trans this)))
      all_goals go_wp2
      all_goals
        refine ⟨⟨j, by have := Hm.out; omega, rfl, ?_⟩, by simp [RowKit.intOf]⟩
        clear HZ
        have e : bs ++ List.take (n - j) (be n v) = cur ++ [UInt8.ofNat (v / 2 ^ (8 * j))] := by
          have hn2 := Hm.out
          rw [HC.out, show n - j = n - (j + 1) + 1 by omega, be_take n v (n - (j + 1)) (by omega), show n - 1 - (n - (j + 1)) = j by omega, List.append_assoc]
        have eb : IntKind.u8.wrap ((v : Int) / 2 ^ (8 * j)) = ((UInt8.ofNat (v / 2 ^ (8 * j))).toNat : Int) := by rw [byte_toNat, IntKind.wrap_u8]
        rw [e]
        rw [eb] at hown1
        have hp := ro_close K1.out R3.out RG.out HT.out HF.out hown1 ⟨hgrow.os, hgrow.tape, hgrow.output, hgrow.size, hgrow.block⟩ hat
        exact ⟨hp.m, fun _ => hp⟩
    | zero =>
      clear hm
      go_wp2
      go_end0
      have e : bs ++ List.take (n - 0) (be n v) = bs ++ be n v := by rw [List.take_of_length_le (by rw [be_length]; omega)]
      have := HZ.out (by omega)
      rw [e] at this
      exact ⟨rfl, this⟩

end Go.Proofs.YtdjcpdlfapfmkaaGreat
