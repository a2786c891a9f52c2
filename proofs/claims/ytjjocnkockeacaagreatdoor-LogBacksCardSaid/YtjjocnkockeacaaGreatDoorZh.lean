/- Size, Unsynced, Read. List. Twin, Arm. -/
import Derived.Test.YtjjocnkockeacaaGreatDoorZg
import Derived.Laws.BytesString
import Derived.Laws.IdiomStrings
import Derived.Deep.AppendLies
import Derived.Deep.RegionLaw
namespace Go.Proofs.YtjjocnkockeacaaGreatDoor
open Go.RowKit Go.Lib
set_option maxRecDepth 100000

theorem size_any {w : World} {d : Nat} {k : Dk} {own : List Nat} (h : Dsk w d k own) (nm : ByteArray) :
    Calls Tryz.prog 101 #[ptr d, .string nm] w fun e w' => e = .returned (.tuple #[.int .i64 (sizeD k nm).1, .int .i64 (sizeD k nm).2]) ∧ Touch [] w w' := by
  obtain ⟨rv, kv, L, hD, hO, hB⟩ := h
  have CP := hid (place_any hD nm)
  unfold sizeD
  by_cases hP : placeE k nm = 0
  rotate_left
  · rw [if_pos hP]
    unfold ptr at CP ⊢
    simp only []
    generalize placeE k nm = E at *
    clear hD hO hB
    go_enter Tryz.func101, Tryz.ntmps101
    go_wp2_with (go_at_call 76; with_reducible refine CP.out.mono ?_; rintro e w1 ⟨rfl, rfl⟩)
    go_ret2
    exact ⟨by simp, Touch.refl _ _⟩
  rw [if_neg (by simpa using hP)]
  have hPP : placeP k nm = plc k.files nm := by unfold placeP; rw [if_pos hP]
  rw [hP, hPP] at CP
  obtain ⟨x, b, c, hx, hxf, hxn, hp, hc, hl, g3, g4, -⟩ := fetch hD rfl hP
  have g5 := (head_cells (hD.each x hx).head).2.2.1
  rw [hxf] at g5
  unfold ptr at CP ⊢
  generalize plc k.files nm = p at *
  generalize L.length = n at *
  generalize x.b = xb at *
  generalize (fileD k nm).data.size = sz at *
  clear hD hO hB hx hxf hxn hP hPP
  go_enter Tryz.func101, Tryz.ntmps101
  go_wp2_with (go_at_call 76; with_reducible refine CP.out.mono ?_; rintro e w1 ⟨rfl, rfl⟩)
  go_ret2
  exact ⟨rfl, Touch.refl _ _⟩

theorem unsyn_any {w : World} {d : Nat} {k : Dk} {own : List Nat} (h : Dsk w d k own) (nm : ByteArray) :
    Calls Tryz.prog 106 #[ptr d, .string nm] w fun e w' => e = .returned (.int .i64 (unsynD k nm : Nat)) ∧ Touch [] w w' := by
  obtain ⟨rv, kv, L, hD, hO, hB⟩ := h
  have CP := hid (place_any hD nm)
  unfold unsynD
  by_cases hP : placeE k nm = 0
  rotate_left
  · rw [if_pos hP]
    unfold ptr at CP ⊢
    generalize placeE k nm = E at *
    clear hD hO hB
    go_enter Tryz.func106, Tryz.ntmps106
    go_wp2_with (go_at_call 76; with_reducible refine CP.out.mono ?_; rintro e w1 ⟨rfl, rfl⟩)
    go_ret
    exact ⟨rfl, Touch.refl _ _⟩
  rw [if_neg (by simpa using hP)]
  have hPP : placeP k nm = plc k.files nm := by unfold placeP; rw [if_pos hP]
  rw [hP, hPP] at CP
  obtain ⟨x, b, c, hx, hxf, hxn, hp, hc, hl, g3, g4, -⟩ := fetch hD rfl hP
  have CU := hid (unsynced_any (hD.each x hx))
  rw [hxf] at CU
  unfold ptr at CP CU ⊢
  generalize plc k.files nm = p at *
  generalize L.length = n at *
  generalize x.b = xb at *
  generalize (fileD k nm).data.size - (fileD k nm).syn = sz at *
  clear hD hO hB hx hxf hxn hP hPP
  go_enter Tryz.func106, Tryz.ntmps106
  go_wp2_with (first
    | (go_at_call 76; with_reducible refine CP.out.mono ?_; rintro e w1 ⟨rfl, rfl⟩)
    | (go_at_call 57; with_reducible refine CU.out.mono ?_; rintro e w2 ⟨rfl, m, rfl⟩))
  go_ret
  exact ⟨rfl, (Touch.refl _ _).drewN _⟩

set_option maxHeartbeats 1000000 in
theorem read_any {w : World} {d : Nat} {k : Dk} {own : List Nat} (h : Dsk w d k own) (nm : ByteArray) (a n : Int) (ha : -9223372036854775808 ≤ a ∧ a ≤ 9223372036854775807) (hn : -9223372036854775808 ≤ n ∧ n ≤ 9223372036854775807) :
    Calls Tryz.prog 102 #[ptr d, .string nm, .int .i64 a, .int .i64 n] w fun e w' => e = .returned (.tuple #[.string (readD k nm a n).1, .int .i64 (readD k nm a n).2]) ∧ Touch [] w w' := by
  obtain ⟨rv, kv, L, hD, hO, hB⟩ := h
  have CP := hid (place_any hD nm)
  unfold readD
  by_cases hP : placeE k nm = 0
  rotate_left
  · rw [if_pos hP]
    unfold ptr at CP ⊢
    simp only []
    generalize placeE k nm = E at *
    clear hD hO hB
    go_enter Tryz.func102, Tryz.ntmps102
    go_wp2_with (go_at_call 76; with_reducible refine CP.out.mono ?_; rintro e w1 ⟨rfl, rfl⟩)
    go_ret2
    exact ⟨by simp, Touch.refl _ _⟩
  rw [if_neg (by simpa using hP)]
  have hPP : placeP k nm = plc k.files nm := by unfold placeP; rw [if_pos hP]
  rw [hP, hPP] at CP
  obtain ⟨x, b, c, hx, hxf, hxn, hp, hc, hl, g3, g4, -⟩ := fetch hD rfl hP
  have fx := hD.each x hx
  have CB := hid (bytes_any fx)
  have hsm := fx.small
  obtain ⟨y, c', hv, hcc, hcm⟩ := pv_form fx.pv
  have hpv := hid fx.pv
  rw [hv] at CB
  rw [list_len, hxf] at hv hcc
  rw [list_len, hxf] at CB
  rw [hxf] at hsm hpv
  have hV := hid hv
  have hcm' : c' ≤ 9223372036854775807 := hcm
  unfold ptr at CP CB ⊢
  generalize plc k.files nm = p at *
  generalize L.length = Ln at *
  generalize x.b = xb at *
  clear hD hO hB hx hxf hxn hP hPP fx hv hcm
  generalize hds : (fileD k nm).data = ds at *
  have hsz : (ds.size : Int) ≤ 70368744177664 := by omega
  obtain ⟨a1, a2⟩ := ha
  obtain ⟨n1, n2⟩ := hn
  by_cases ha0 : a < 0
  · rw [if_pos (.inl ha0)]
    have r1 : decide (a < 0) = true := by simpa using ha0
    clear hpv hds hcc
    go_enter Tryz.func102, Tryz.ntmps102
    go_wp2_with (first
      | (go_at_call 76; with_reducible refine CP.out.mono ?_; rintro e w1 ⟨rfl, rfl⟩)
      | (go_at_call 99; with_reducible refine CB.out.mono ?_; rintro e w2 ⟨rfl, t2⟩; have T2 := hid t2; clear t2))
    go_ret2
    exact ⟨rfl, T2.out⟩
  by_cases hn0 : n < 0
  · rw [if_pos (.inr (.inl hn0))]
    have r1 : decide (a < 0) = false := by simpa using ha0
    have r2 : decide (n < 0) = true := by simpa using hn0
    clear hpv hds hcc
    go_enter Tryz.func102, Tryz.ntmps102
    go_wp2_with (first
      | (go_at_call 76; with_reducible refine CP.out.mono ?_; rintro e w1 ⟨rfl, rfl⟩)
      | (go_at_call 99; with_reducible refine CB.out.mono ?_; rintro e w2 ⟨rfl, t2⟩; have T2 := hid t2; clear t2))
    go_ret2
    exact ⟨rfl, T2.out⟩
  obtain ⟨a, rfl⟩ : ∃ m : Nat, a = m := ⟨a.toNat, by omega⟩
  obtain ⟨n, rfl⟩ : ∃ m : Nat, n = m := ⟨n.toNat, by omega⟩
  have r1 : decide ((a : Int) < 0) = false := by simp
  have r2 : decide ((n : Int) < 0) = false := by simp
  have q1 : (ds.size : Int) - a ≤ 9223372036854775807 := by omega
  have q2 : -9223372036854775808 ≤ (ds.size : Int) - a := by omega
  clear ha0 hn0
  by_cases hr : (ds.size : Int) - a < n
  · rw [if_pos (.inr (.inr hr))]
    have r3 : decide ((ds.size : Int) - a < n) = true := by simpa using hr
    clear hpv hds hcc
    go_enter Tryz.func102, Tryz.ntmps102
    go_wp2_with (first
      | (go_at_call 76; with_reducible refine CP.out.mono ?_; rintro e w1 ⟨rfl, rfl⟩)
      | (go_at_call 99; with_reducible refine CB.out.mono ?_; rintro e w2 ⟨rfl, t2⟩; have T2 := hid t2; clear t2))
    go_ret2
    exact ⟨rfl, T2.out⟩
  rw [if_neg (by rintro (h | h | h) <;> omega)]
  have r3 : decide ((ds.size : Int) - a < n) = false := by rw [decide_eq_false_iff_not]; exact hr
  have hle : a + n ≤ ds.size := by omega
  have hlec : a + n ≤ c' := by omega
  have q4 : (a : Int) + n ≤ 9223372036854775807 := by omega
  have htn : ((a : Int) + (n : Int)).toNat = a + n := by omega
  rw [Int.toNat_natCast, Int.toNat_natCast]
  have hq5 : (a : Int) ≤ (a : Int) + n := by omega
  have hq6 : (a : Int) + n ≤ (c' : Int) := by omega
  by_cases hn0 : n = 0
  · have hcv : ∀ (w : World) (y : Option Addr) (c : Nat), (convert 117 9 (.slice y n c)).run Tryz.prog w = .ok (.string ⟨#[]⟩) w := by
      intro w y c
      subst hn0
      rw [run_convert_bytes_string (P := Tryz.prog) w 117 9 tU8 y 0 c rfl rfl rfl]
      cases y <;> simp [Conv.bytesToString, loadCells] <;> rfl
    have he : ds.extract a (a + n) = ⟨#[]⟩ := by
      apply ByteArray.ext
      simp [hn0]
      try rfl
    rw [he]
    clear hpv hds hcc hn0 he hV
    go_enter Tryz.func102, Tryz.ntmps102
    go_wp2_with (first
      | (go_at_call 76; with_reducible refine CP.out.mono ?_; rintro e w1 ⟨rfl, rfl⟩)
      | (go_at_call 99; with_reducible refine CB.out.mono ?_; rintro e w2 ⟨rfl, t2⟩; have T2 := hid t2; clear t2))
    all_goals
      go_ret2
      exact ⟨rfl, T2.out⟩
  · have hac : ¬ (c' = a) := by omega
    rcases hpv.out with ⟨_, e0, _⟩ | ⟨g, cg, hv2, hB, _⟩
    · have := list_len ds
      rw [e0] at this
      simp at this
      omega
    rw [hV.out] at hv2
    have e1 : y = some ⟨g, 0, none⟩ ∧ c' = cg := by simp at hv2; exact ⟨hv2.1, hv2.2⟩
    obtain ⟨rfl, rfl⟩ := e1
    have hcv : Hid (∀ w2, Touch [] w w2 → (convert 117 9 (.slice (some ⟨g, a, none⟩) n (c' - a))).run Tryz.prog w2 = .ok (.string (ds.extract a (a + n))) w2) := hid (by
      intro w2 t
      have hB2 := hB.of_heap (w' := w2) (t.block g hB.lt (by simp))
      have hl : ((ds.extract a (a + n)).data.toList).length = n := by
        rw [list_len, ByteArray.size_extract]; omega
      have := run_convert_bytes_back (P := Tryz.prog) w2 117 9 tU8 ⟨g, a, none⟩ (c' - a) (ds.extract a (a + n)).data.toList rfl rfl rfl (fun j hj => by
        rw [Addr.add_lit]
        rw [hl] at hj
        have h1 := hB2.cell (a + j) (by rw [list_len]; omega)
        rw [Addr.add_lit, Nat.zero_add] at h1
        rw [h1]
        congr 3
        simp [ByteArray.data_extract])
      rw [hl] at this
      rw [this])
    clear hpv hds hcc hV hv2 hB
    generalize ds.extract a (a + n) = ex at *
    go_enter Tryz.func102, Tryz.ntmps102
    go_wp2_with (first
      | (go_at_call 76; with_reducible refine CP.out.mono ?_; rintro e w1 ⟨rfl, rfl⟩)
      | (go_at_call 99; with_reducible refine CB.out.mono ?_; rintro e w2 ⟨rfl, t2⟩; have T2 := hid t2; have hcw := hcv.out _ t2; clear t2))
    go_ret2
    exact ⟨rfl, T2.out⟩
end Go.Proofs.YtjjocnkockeacaaGreatDoor

namespace Go.Proofs.YtjjocnkockeacaaGreatDoor
open Go.RowKit Go.Lib
set_option maxRecDepth 100000

def begins (p : ByteArray) (f : Fl) : Bool := Lib.hasPrefix f.name.data.toList p.data.toList
def svals (l : List ByteArray) : List Value := l.map fun s => Value.string s
def listD (k : Dk) (p : ByteArray) : List ByteArray := if k.on then (k.files.filter (begins p)).map (·.name) else []

set_option maxHeartbeats 1000000 in
theorem list_any {w : World} {d : Nat} {k : Dk} {own : List Nat} (h : Dsk w d k own) (p : ByteArray) :
    Calls Tryz.prog 29 #[ptr d, .string p] w fun e w' => ∃ v, e = .returned v ∧ w'.ownsRow w.heap.size 9 1 v (listD k p).length (svals (listD k p)) ∧ Touch [] w w' := by
  obtain ⟨rv, kv, L, hD, hO, hB⟩ := h
  have C0 := hid (on_any hD.cells)
  unfold listD
  by_cases hon : k.on = true
  rotate_left
  · rw [if_neg hon]
    replace hon : k.on = false := by simpa using hon
    rw [hon] at C0
    unfold ptr at C0 ⊢
    clear hD hO hB
    go_enter Tryz.func29, Tryz.ntmps29
    go_wp2_with (go_at_call 26; with_reducible refine C0.out.mono ?_; rintro e w1 ⟨rfl, rfl⟩)
    go_ret
    exact ⟨_, rfl, World.ownsRow_nil _ _ _ _, Touch.refl _ _⟩
  rw [if_pos hon]
  rw [hon] at C0
  obtain ⟨-, -, -, c3, -⟩ := dk_cell hD.cells
  obtain ⟨rx, rc, hrv, hrc, hrm, -, hcell⟩ := row_cell hD.row
  subst hrv
  have hlen : L.length ≤ 200 := by have := hD.many; rw [← hD.files, List.length_map] at this; exact this
  have HC := hid hcell
  have HE := hid hD.each
  have hfl := hid hD.files
  rw [← hD.files]
  unfold ptr at C0 ⊢
  clear hD hO hB hcell hrm hon
  have hstep : Hid (∀ i (hi : i < L.length), ((L.map (·.f)).take (i + 1)).filter (begins p) = ((L.map (·.f)).take i).filter (begins p) ++ if begins p L[i].f then [L[i].f] else []) := hid fun i hi => by
    rw [List.take_succ_eq_append_getElem (by simpa using hi), List.filter_append]
    congr 1
    cases hb : begins p L[i].f <;> simp [List.filter, hb]
  go_enter Tryz.func29, Tryz.ntmps29
  go_wp2_with (go_at_call 26; with_reducible refine C0.out.mono ?_; rintro e w1 ⟨rfl, rfl⟩)
  go_loopw [5, 16] (fun sv iv wr => ∃ (i m : Nat) (sx : Option Addr) (sc : Nat), i ≤ L.length ∧ m ≤ i ∧ iv = .int .i64 i ∧ sv = .slice sx m sc ∧ Hid (wr.ownsRow w1.heap.size 9 1 (.slice sx m sc) m (svals ((((L.map (·.f)).take i).filter (begins p)).map (·.name))) ∧ Touch [] w1 wr)) (fun _ iv _ => L.length - (RowKit.intOf iv).toNat)
  case atStart => exact ⟨0, 0, none, 0, Nat.zero_le _, Nat.le_refl _, rfl, rfl, hid ⟨World.ownsRow_nil _ _ _ _, Touch.refl _ _⟩⟩
  case round =>
    obtain ⟨i, m, sx, sc, hi, hmi, rfl, rfl, I⟩ := hrel
    by_cases hlt : i < L.length
    · obtain ⟨b, rfl, g0⟩ := HC.out i hlt
      have g1 := touch_cell I.out.2 g0 (by simp)
      unfold ptr at g1
      have fx := (HE.out _ (List.getElem_mem hlt)).touch I.out.2 (by simp)
      obtain ⟨f0, -⟩ := head_cells fx.head
      have hnl := fx.len
      have CH := hid (fun w => Tryz.strings_HasPrefix L[i].f.name p w)
      have CC := hid (fun w => clone_any L[i].f.name w (by omega))
      have hst := hid (hstep.out i hlt)
      have hbd : begins p L[i].f = Lib.hasPrefix L[i].f.name.data.toList p.data.toList := rfl
      rw [hbd] at hst
      have hm200 := hid (show m ≤ 200 by omega)
      have hname : Hid (∀ q : Bool, q = true → svals ((((L.map (·.f)).take i).filter (begins p) ++ if q then [L[i].f] else []).map (·.name)) = svals ((((L.map (·.f)).take i).filter (begins p)).map (·.name)) ++ [.string L[i].f.name]) := hid (by rintro q rfl; simp [svals])
      have hlt' : decide (i < L.length) = true := by simpa using hlt
      generalize L[i].f.name = nm at *
      generalize L[i].b = xb at *
      generalize Lib.hasPrefix nm.data.toList p.data.toList = q at *
      clear fx g0 hbd
      cases q
      · go_wp2_with (go_at_call 56; with_reducible refine (CH.out _).mono ?_; rintro e wa ⟨rfl, rfl⟩)
        go_roundw
        case rel =>
          refine ⟨i + 1, m, sx, sc, by omega, by omega, by go_num, rfl, hid ⟨?_, I.out.2⟩⟩
          rw [hst.out]
          simpa using I.out.1
        case measure => simp [RowKit.intOf]; omega
      · go_wp2_with (first
          | (go_at_call 56; with_reducible refine (CH.out _).mono ?_; rintro e wa ⟨rfl, rfl⟩)
          | (go_at_call 32; with_reducible refine (CC.out _).mono ?_; rintro e wb ⟨rfl, tb⟩; have P3 := hid (own_touch I.out.1 tb (by simp)); have TB := hid (I.out.2.trans tb nil_mem); clear tb)
          | (at_builtin; refine wpList_append_lies _ rfl _ _ 43 rfl w1.heap.size 9 _ (.string ⟨#[]⟩) 1 16 rfl rfl rfl rfl rfl rfl (by omega) _ m _ rfl (P3.out.alloc _) ⟨wb.heap.size, 0, none⟩ 1 1 [.string nm] rfl rfl (World.news_of_block (heap_alloc_new wb _)) (by intro u hu; simp at hu; subst hu; rfl) (by omega) (by have := hm200.out; unfold maxLen; omega) (by have := hm200.out; omega) (by have := TB.out.size; simp; omega) _ rfl ?_; intro gg cap w3 hown hgrow hat hlt3; have O3 := hid (And.intro hown (And.intro hgrow hat)); clear hown hgrow hat hlt3))
        go_roundw
        case rel =>
          refine ⟨i + 1, m + 1, some ⟨gg, 0, none⟩, cap, by omega, by omega, by go_num, rfl, hid ⟨?_, (TB.out.alloc _).grown O3.out.2.1 (fun k hk => .inr (own_base I.out.1 k (Option.mem_toList.2 hk)))⟩⟩
          have e := hname.out true rfl
          rw [if_pos rfl] at e
          rw [hst.out, if_pos trivial, e]
          exact O3.out.1
        case measure => simp [RowKit.intOf]; omega
    · obtain rfl : i = L.length := by omega
      have e : (L.map (·.f)).take L.length = L.map (·.f) := List.take_of_length_le (by simp)
      have hI := hid I.out
      rw [e] at hI
      have hml : ((L.map (·.f)).filter (begins p)).length = m := by have := hI.out.1.1; simp [svals] at this; omega
      have hML := hid hml
      clear I hml
      go_wp2
      go_ret
      refine ⟨_, rfl, ?_, hI.out.2⟩
      rw [hML.out]
      exact hI.out.1
end Go.Proofs.YtjjocnkockeacaaGreatDoor

namespace Go.Proofs.YtjjocnkockeacaaGreatDoor
open Go.RowKit Go.Lib
set_option maxRecDepth 100000

/-- A call of a function of the program's, at a step of a region that draws its order. -/
theorem step_call {P : Program} (w : World) {ops : Array Oper} {o : Oper} {a : Act} {K : Act → World → Prop} {Q : Exit → Act → World → Prop} {E : Prop} {f : FuncId} {args : Array Value} {R : Ending → World → Prop} (hgd : o.guard = none)
    (hop : (execOp a.eval o).run P w = .ok (.enter f args) w) (hc : Calls P f args w R) (h : ∀ e w', R e w' → ∃ v, e = .returned v ∧ K (a.put o.dst v) w') :
    if Region.wanted o (yielded ops a.tmps) = true then Oper.wp P o a w K Q else E := by
  rw [if_pos (by simp [Region.wanted, hgd])]
  unfold Oper.wp
  rw [hop, Oper.upon_enter]
  exact hc.mono fun e w' hR => by obtain ⟨v, rfl, hK⟩ := h e w' hR; exact hK

structure TwSt (w : World) (T : Nat) (k : Dk) (L : List Px) (kv2 : Value) (i : Nat) (sv : Value) (S : List Px) (wr : World) : Prop where
  le : i ≤ L.length
  slen : S.length = i
  cells : wr.heap[T]? = some (.cells (dkCells k sv kv2) tDisk (0, 0))
  own : wr.ownsRow w.heap.size tPF 1 sv S.length (rowVals S)
  files : S.map (·.f) = (L.map (·.f)).take i
  each : ∀ x ∈ S, FileAt wr x
  new : ∀ x ∈ S, ∀ b ∈ x.own, w.heap.size ≤ b
  apart : Apart S
  keep : wr.ownsRow w.heap.size tInt 1 kv2 k.keep.length (intVals k.keep)
  touch : Touch [] w wr

theorem tw_step {w wr w2 w3 : World} {T : Nat} {k : Dk} {L : List Px} {kv2 sv sv' : Value} {i : Nat} {S : List Px} {y : Px} (h : TwSt w T k L kv2 i sv S wr) (hT : w.heap.size ≤ T) (hi : i < L.length) (t2 : Touch [] wr w2) (hy : FileAt w2 y) (hf : y.f = L[i].f) (hyo : ∀ b ∈ y.own, wr.heap.size ≤ b)
    (t3 : Touch sv.ownBlock.toList w2 w3) (ho : w3.ownsRow w.heap.size tPF 1 sv' (S.length + 1) (rowVals S ++ [.pointer (some ⟨y.b, 0, none⟩)])) : TwSt w T k L kv2 (i + 1) sv' (S ++ [y]) (w3.setCell ⟨T, 3, none⟩ sv') := by
  have own2 := own_touch h.own t2 (by simp)
  have c2 := (t2.block T (lt_of_block h.cells) (by simp)).trans h.cells
  have c3 := (t3.block T (lt_of_block c2) (fun hm => row_ne_disk c2 own2 (by decide) T hm rfl)).trans c2
  have t4 : Touch [T] w3 (w3.setCell ⟨T, 3, none⟩ sv') := (Touch.refl _ _).setCell (.inl (by simp)) _
  have k2 := own_touch h.keep t2 (by simp)
  have k3 := own_touch k2 t3 (fun q hq hm => by
    rcases k2.2 with ⟨e, _⟩ | ⟨g, cap, cur, e, hb, hg, _⟩
    · rw [e] at hq; simp [Value.ownBlock] at hq
    · rw [e] at hq
      simp [Value.ownBlock] at hq
      subst hq
      rcases own2.2 with ⟨e2, _⟩ | ⟨g2, cap2, cur2, e2, hb2, hg2, _⟩
      · rw [e2] at hm; simp [Value.ownBlock] at hm
      · rw [e2] at hm
        simp [Value.ownBlock] at hm
        subst hm
        exact ne_type hg hg2 (by decide) rfl)
  have hz : ∀ z, FileAt w2 z → FileAt (w3.setCell ⟨T, 3, none⟩ sv') z := by
    intro z hz
    have z3 := hz.touch t3 (ne_row own2 hz)
    exact z3.touch t4 (fun q hq => by simpa using own_ne_disk c3 z3 q hq)
  refine ⟨by omega, by simp [h.slen], heap_set (i := 3) c3 sv', ?_, ?_, ?_, ?_, ?_, own_touch k3 t4 (fun q hq => by simpa using row_ne_disk c3 k3 (by decide) q hq), ((h.touch.trans t2 (by simp)).trans t3 (fun q hq => .inr (own_base h.own q hq))).trans t4 (fun q hq => by simp at hq; subst hq; exact .inr hT)⟩
  · have e1 : (S ++ [y]).length = S.length + 1 := by simp
    rw [e1, rowVals_snoc]
    exact own_touch ho t4 (fun q hq => by simpa using row_ne_disk c3 ho (by decide) q hq)
  · rw [List.map_append, h.files, List.take_succ_eq_append_getElem (by simpa using hi)]
    simp [hf]
  · intro z hzm
    rcases List.mem_append.1 hzm with h1 | h1
    · exact hz z ((h.each z h1).touch t2 (by simp))
    · simp at h1; subst h1; exact hz _ hy
  · intro z hzm b hb
    rcases List.mem_append.1 hzm with h1 | h1
    · exact h.new z h1 b hb
    · simp at h1; subst h1; exact Nat.le_trans h.touch.size (hyo b hb)
  · unfold Apart
    rw [List.pairwise_append]
    refine ⟨h.apart, by simp, ?_⟩
    intro a ha b hb q hq hqb
    simp at hb; subst hb
    have := (h.each a ha).lt q hq
    have := hyo q hqb
    omega

theorem touch_blk {w : World} {b : Nat} {x : Obj} (h : w.heap[b]? = some x) (o : Obj) : (w.alloc o).heap[b]? = some x := (Below.heap_alloc w o b (lt_of_block h)).trans h
def armD (k : Dk) (n : Int) (ks : List Int) : Dk := { k with armed := decide (0 ≤ n), left := n.toNat, keep := ks }
set_option maxHeartbeats 1000000 in
theorem arm_any {w : World} {d : Nat} {k : Dk} {own : List Nat} {base : Nat} {v : Value} {ks : List Int} (h : Dsk w d k own) (n : Int) (hn : n ≤ 9223372036854775807) (hk : w.ownsRow base tInt 1 v ks.length (intVals ks)) (hkl : ks.length ≤ 1000000) :
    Calls Tryz.prog 25 #[ptr d, .int .i64 n, v] w fun e w' => e = .returned (.tuple #[]) ∧ Left d own w (armD k n ks) w' := by
  obtain ⟨rv, kv, L, hD, hO, hB⟩ := h
  obtain ⟨kx, kc, rfl, -⟩ := ints_own hk
  have CK : Hid (Calls Tryz.prog 55 #[.slice kx ks.length kc] w fun e w1 => ∃ y cc, e = .returned (.slice y ks.length cc) ∧ (∃ u4 u5 u6, w1.cell? ⟨d, 4, none⟩ = some u4 ∧ w1.cell? ⟨d, 5, none⟩ = some u5 ∧ w1.cell? ⟨d, 6, none⟩ = some u6) ∧ w1.frozen? ⟨d, 4, none⟩ = false ∧ w1.frozen? ⟨d, 5, none⟩ = false ∧ w1.frozen? ⟨d, 6, none⟩ = false ∧
      Left d own w (armD k n ks) (((w1.setCell ⟨d, 4, none⟩ (.bool (decide (0 ≤ n)))).setCell ⟨d, 5, none⟩ (.int .i64 (max n 0))).setCell ⟨d, 6, none⟩ (.slice y ks.length cc))) := hid (by
    refine (clone_int hk (by omega) (by intro u hu; obtain ⟨_, _, rfl⟩ := List.mem_map.1 hu; rfl)).mono ?_
    rintro e w1 ⟨v1, rfl, o1, t1⟩
    obtain ⟨y, cc, rfl, -⟩ := own_form o1
    have b1 := (t1.block d (lt_of_block hD.cells) (by simp)).trans hD.cells
    have hD1 := hD.touch t1 (by simp)
    refine ⟨y, cc, rfl, ⟨_, _, _, cell_of b1 4, cell_of b1 5, cell_of b1 6⟩, free_of b1 4, free_of b1 5, free_of b1 6, ?_⟩
    have tt : Touch [d] w1 (((w1.setCell ⟨d, 4, none⟩ (.bool (decide (0 ≤ n)))).setCell ⟨d, 5, none⟩ (.int .i64 (max n 0))).setCell ⟨d, 6, none⟩ (.slice y ks.length cc)) := (((Touch.refl _ _).setCell (.inl (by simp)) _).setCell (.inl (by simp)) _).setCell (.inl (by simp)) _
    refine DiskIs.leaves (k' := armD k n ks) (rv := rv) (kv := .slice y ks.length cc) (L := L) ⟨?_, ?_, hD.files, fun x hx => (hD1.each x hx).touch tt (fun i hi => by simpa using own_ne_disk b1 (hD1.each x hx) i hi), hD.apart, ?_, hD.sorted, hD.many, by show n.toNat ≤ _; omega⟩ ((t1.mono (by simp)).trans tt (fun i hi => by simp at hi; subst hi; exact .inl (hO _ (by simp [ownOf])))) ?_
    · have := heap_set (i := 6) (heap_set (i := 5) (heap_set (i := 4) b1 (.bool (decide (0 ≤ n)))) (.int .i64 (max n 0))) (.slice y ks.length cc)
      rw [show max n 0 = ((n.toNat : Nat) : Int) by omega] at this ⊢
      exact this
    · exact own_touch hD1.row tt (fun i hi => by simpa using row_ne_disk b1 hD1.row (by decide) i hi)
    · exact own_touch (own_zero o1) tt (fun i hi => by simpa using row_ne_disk b1 o1 (by decide) i hi)
    · intro i hi
      rcases mem_own.1 hi with rfl | hi | hi | ⟨x, hx, hi⟩
      · exact .inl (hO _ (by simp [ownOf]))
      · exact .inl (hO i (mem_own.2 (.inr (.inl hi))))
      · exact .inr (own_base o1 i hi)
      · exact .inl (hO i (mem_own.2 (.inr (.inr (.inr ⟨x, hx, hi⟩))))))
  unfold ptr
  generalize Left d own w (armD k n ks) = M at *
  clear hD hO hB hk
  go_enter Tryz.func25, Tryz.ntmps25
  go_wp2_with (go_at_call 55; with_reducible refine CK.out.mono ?_; rintro e w1 ⟨y, cc, rfl, ⟨u4, u5, u6, z4, z5, z6⟩, f4, f5, f6, hm⟩; have HM := hid hm; clear hm)
  exact bodyPost_end (results_none rfl _ _ _) rfl ⟨rfl, HM.out⟩
end Go.Proofs.YtjjocnkockeacaaGreatDoor
