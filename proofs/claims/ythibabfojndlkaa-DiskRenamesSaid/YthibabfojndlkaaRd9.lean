/- Size, Unsynced, Read. -/
import Derived.Test.YthibabfojndlkaaMf9
import Derived.Laws.BytesString
import Derived.Laws.IdiomStrings
namespace Go.Proofs.Ythibabfojndlkaa
open Go.RowKit Go.Lib
set_option maxRecDepth 100000

theorem size_any {w : World} {d : Nat} {k : Dk} {own : List Nat} (h : Dsk w d k own) (nm : ByteArray) :
    Calls Try.prog 14 #[ptr d, .string nm] w fun e w' => e = .returned (.tuple #[.int .i64 (sizeD k nm).1, .int .i64 (sizeD k nm).2]) ∧ Touch [] w w' := by
  obtain ⟨rv, kv, L, hD, hO, hB⟩ := h
  have CP := hid (place_any hD nm)
  unfold sizeD
  by_cases hP : placeE k nm = 0
  rotate_left
  · rw [if_pos hP]
    unfold ptr at CP ⊢
    simp only []
    generalize placeE k nm = E at *
    clear hD hO hB
    go_enter Try.func14, Try.ntmps14
    go_wp2_with (go_at_call 33; with_reducible refine CP.out.mono ?_; rintro e w1 ⟨rfl, rfl⟩)
    go_ret2
    exact ⟨by simp, Touch.refl _ _⟩
  rw [if_neg (by simpa using hP)]
  have hPP : placeP k nm = plc k.files nm := by unfold placeP; rw [if_pos hP]
  rw [hP, hPP] at CP
  obtain ⟨x, b, c, hx, hxf, hxn, hp, hc, hl, g3, g4, -⟩ := fetch hD rfl hP
  have g5 := (head_cells (hD.each x hx).head).2.2.1
  rw [hxf] at g5
  unfold ptr at CP ⊢
  generalize plc k.files nm = p at *
  generalize L.length = n at *
  generalize x.b = xb at *
  generalize (fileD k nm).data.size = sz at *
  clear hD hO hB hx hxf hxn hP hPP
  go_enter Try.func14, Try.ntmps14
  go_wp2_with (go_at_call 33; with_reducible refine CP.out.mono ?_; rintro e w1 ⟨rfl, rfl⟩)
  go_ret2
  exact ⟨rfl, Touch.refl _ _⟩

theorem unsyn_any {w : World} {d : Nat} {k : Dk} {own : List Nat} (h : Dsk w d k own) (nm : ByteArray) :
    Calls Try.prog 23 #[ptr d, .string nm] w fun e w' => e = .returned (.int .i64 (unsynD k nm : Nat)) ∧ Touch [] w w' := by
  obtain ⟨rv, kv, L, hD, hO, hB⟩ := h
  have CP := hid (place_any hD nm)
  unfold unsynD
  by_cases hP : placeE k nm = 0
  rotate_left
  · rw [if_pos hP]
    unfold ptr at CP ⊢
    generalize placeE k nm = E at *
    clear hD hO hB
    go_enter Try.func23, Try.ntmps23
    go_wp2_with (go_at_call 33; with_reducible refine CP.out.mono ?_; rintro e w1 ⟨rfl, rfl⟩)
    go_ret
    exact ⟨rfl, Touch.refl _ _⟩
  rw [if_neg (by simpa using hP)]
  have hPP : placeP k nm = plc k.files nm := by unfold placeP; rw [if_pos hP]
  rw [hP, hPP] at CP
  obtain ⟨x, b, c, hx, hxf, hxn, hp, hc, hl, g3, g4, -⟩ := fetch hD rfl hP
  have CU := hid (unsynced_any (hD.each x hx))
  rw [hxf] at CU
  unfold ptr at CP CU ⊢
  generalize plc k.files nm = p at *
  generalize L.length = n at *
  generalize x.b = xb at *
  generalize (fileD k nm).data.size - (fileD k nm).syn = sz at *
  clear hD hO hB hx hxf hxn hP hPP
  go_enter Try.func23, Try.ntmps23
  go_wp2_with (first
    | (go_at_call 33; with_reducible refine CP.out.mono ?_; rintro e w1 ⟨rfl, rfl⟩)
    | (go_at_call 47; with_reducible refine CU.out.mono ?_; rintro e w2 ⟨rfl, m, rfl⟩))
  go_ret
  exact ⟨rfl, (Touch.refl _ _).drewN _⟩

set_option maxHeartbeats 1000000 in
theorem read_any {w : World} {d : Nat} {k : Dk} {own : List Nat} (h : Dsk w d k own) (nm : ByteArray) (a n : Int) (ha : -9223372036854775808 ≤ a ∧ a ≤ 9223372036854775807) (hn : -9223372036854775808 ≤ n ∧ n ≤ 9223372036854775807) :
    Calls Try.prog 13 #[ptr d, .string nm, .int .i64 a, .int .i64 n] w fun e w' => e = .returned (.tuple #[.string (readD k nm a n).1, .int .i64 (readD k nm a n).2]) ∧ Touch [] w w' := by
  obtain ⟨rv, kv, L, hD, hO, hB⟩ := h
  have CP := hid (place_any hD nm)
  unfold readD
  by_cases hP : placeE k nm = 0
  rotate_left
  · rw [if_pos hP]
    unfold ptr at CP ⊢
    simp only []
    generalize placeE k nm = E at *
    clear hD hO hB
    go_enter Try.func13, Try.ntmps13
    go_wp2_with (go_at_call 33; with_reducible refine CP.out.mono ?_; rintro e w1 ⟨rfl, rfl⟩)
    go_ret2
    exact ⟨by simp, Touch.refl _ _⟩
  rw [if_neg (by simpa using hP)]
  have hPP : placeP k nm = plc k.files nm := by unfold placeP; rw [if_pos hP]
  rw [hP, hPP] at CP
  obtain ⟨x, b, c, hx, hxf, hxn, hp, hc, hl, g3, g4, -⟩ := fetch hD rfl hP
  have fx := hD.each x hx
  have CB := hid (bytes_any fx)
  have hsm := fx.small
  obtain ⟨y, c', hv, hcc, hcm⟩ := pv_form fx.pv
  have hpv := hid fx.pv
  rw [hv] at CB
  rw [list_len, hxf] at hv hcc
  rw [list_len, hxf] at CB
  rw [hxf] at hsm hpv
  have hV := hid hv
  have hcm' : c' ≤ 9223372036854775807 := hcm
  unfold ptr at CP CB ⊢
  generalize plc k.files nm = p at *
  generalize L.length = Ln at *
  generalize x.b = xb at *
  clear hD hO hB hx hxf hxn hP hPP fx hv hcm
  generalize hds : (fileD k nm).data = ds at *
  have hsz : (ds.size : Int) ≤ 70368744177664 := by omega
  obtain ⟨a1, a2⟩ := ha
  obtain ⟨n1, n2⟩ := hn
  by_cases ha0 : a < 0
  · rw [if_pos (.inl ha0)]
    have r1 : decide (a < 0) = true := by simpa using ha0
    clear hpv hds hcc
    go_enter Try.func13, Try.ntmps13
    go_wp2_with (first
      | (go_at_call 33; with_reducible refine CP.out.mono ?_; rintro e w1 ⟨rfl, rfl⟩)
      | (go_at_call 34; with_reducible refine CB.out.mono ?_; rintro e w2 ⟨rfl, t2⟩; have T2 := hid t2; clear t2))
    go_ret2
    exact ⟨rfl, T2.out⟩
  by_cases hn0 : n < 0
  · rw [if_pos (.inr (.inl hn0))]
    have r1 : decide (a < 0) = false := by simpa using ha0
    have r2 : decide (n < 0) = true := by simpa using hn0
    clear hpv hds hcc
    go_enter Try.func13, Try.ntmps13
    go_wp2_with (first
      | (go_at_call 33; with_reducible refine CP.out.mono ?_; rintro e w1 ⟨rfl, rfl⟩)
      | (go_at_call 34; with_reducible refine CB.out.mono ?_; rintro e w2 ⟨rfl, t2⟩; have T2 := hid t2; clear t2))
    go_ret2
    exact ⟨rfl, T2.out⟩
  obtain ⟨a, rfl⟩ : ∃ m : Nat, a = m := ⟨a.toNat, by omega⟩
  obtain ⟨n, rfl⟩ : ∃ m : Nat, n = m := ⟨n.toNat, by omega⟩
  have r1 : decide ((a : Int) < 0) = false := by simp
  have r2 : decide ((n : Int) < 0) = false := by simp
  have q1 : (ds.size : Int) - a ≤ 9223372036854775807 := by omega
  have q2 : -9223372036854775808 ≤ (ds.size : Int) - a := by omega
  clear ha0 hn0
  by_cases hr : (ds.size : Int) - a < n
  · rw [if_pos (.inr (.inr hr))]
    have r3 : decide ((ds.size : Int) - a < n) = true := by simpa using hr
    clear hpv hds hcc
    go_enter Try.func13, Try.ntmps13
    go_wp2_with (first
      | (go_at_call 33; with_reducible refine CP.out.mono ?_; rintro e w1 ⟨rfl, rfl⟩)
      | (go_at_call 34; with_reducible refine CB.out.mono ?_; rintro e w2 ⟨rfl, t2⟩; have T2 := hid t2; clear t2))
    go_ret2
    exact ⟨rfl, T2.out⟩
  rw [if_neg (by rintro (h | h | h) <;> omega)]
  have r3 : decide ((ds.size : Int) - a < n) = false := by rw [decide_eq_false_iff_not]; exact hr
  have hle : a + n ≤ ds.size := by omega
  have hlec : a + n ≤ c' := by omega
  have q4 : (a : Int) + n ≤ 9223372036854775807 := by omega
  have htn : ((a : Int) + (n : Int)).toNat = a + n := by omega
  rw [Int.toNat_natCast, Int.toNat_natCast]
  have hq5 : (a : Int) ≤ (a : Int) + n := by omega
  have hq6 : (a : Int) + n ≤ (c' : Int) := by omega
  by_cases hn0 : n = 0
  · have hcv : ∀ (w : World) (y : Option Addr) (c : Nat), (convert 44 9 (.slice y n c)).run Try.prog w = .ok (.string ⟨#[]⟩) w := by
      intro w y c
      subst hn0
      rw [run_convert_bytes_string (P := Try.prog) w 44 9 tU8 y 0 c rfl rfl rfl]
      cases y <;> simp [Conv.bytesToString, loadCells] <;> rfl
    have he : ds.extract a (a + n) = ⟨#[]⟩ := by
      apply ByteArray.ext
      simp [hn0]
      try rfl
    rw [he]
    clear hpv hds hcc hn0 he hV
    go_enter Try.func13, Try.ntmps13
    go_wp2_with (first
      | (go_at_call 33; with_reducible refine CP.out.mono ?_; rintro e w1 ⟨rfl, rfl⟩)
      | (go_at_call 34; with_reducible refine CB.out.mono ?_; rintro e w2 ⟨rfl, t2⟩; have T2 := hid t2; clear t2))
    all_goals
      go_ret2
      exact ⟨rfl, T2.out⟩
  · have hac : ¬ (c' = a) := by omega
    rcases hpv.out with ⟨_, e0, _⟩ | ⟨g, cg, hv2, hB, _⟩
    · have := list_len ds
      rw [e0] at this
      simp at this
      omega
    rw [hV.out] at hv2
    have e1 : y = some ⟨g, 0, none⟩ ∧ c' = cg := by simp at hv2; exact ⟨hv2.1, hv2.2⟩
    obtain ⟨rfl, rfl⟩ := e1
    have hcv : Hid (∀ w2, Touch [] w w2 → (convert 44 9 (.slice (some ⟨g, a, none⟩) n (c' - a))).run Try.prog w2 = .ok (.string (ds.extract a (a + n))) w2) := hid (by
      intro w2 t
      have hB2 := hB.of_heap (w' := w2) (t.block g hB.lt (by simp))
      have hl : ((ds.extract a (a + n)).data.toList).length = n := by
        rw [list_len, ByteArray.size_extract]; omega
      have := run_convert_bytes_back (P := Try.prog) w2 44 9 tU8 ⟨g, a, none⟩ (c' - a) (ds.extract a (a + n)).data.toList rfl rfl rfl (fun j hj => by
        rw [Addr.add_lit]
        rw [hl] at hj
        have h1 := hB2.cell (a + j) (by rw [list_len]; omega)
        rw [Addr.add_lit, Nat.zero_add] at h1
        rw [h1]
        congr 3
        simp [ByteArray.data_extract])
      rw [hl] at this
      rw [this])
    clear hpv hds hcc hV hv2 hB
    generalize ds.extract a (a + n) = ex at *
    go_enter Try.func13, Try.ntmps13
    go_wp2_with (first
      | (go_at_call 33; with_reducible refine CP.out.mono ?_; rintro e w1 ⟨rfl, rfl⟩)
      | (go_at_call 34; with_reducible refine CB.out.mono ?_; rintro e w2 ⟨rfl, t2⟩; have T2 := hid t2; have hcw := hcv.out _ t2; clear t2))
    go_ret2
    exact ⟨rfl, T2.out⟩
end Go.Proofs.Ythibabfojndlkaa
