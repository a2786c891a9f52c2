/- slices.BinarySearchFunc over a row of files, and the disk's find. A disk's own small functions: On, refuses, find, place, Used. -/
import Derived.Test.YtjjocnkockeacaaGreatDoorZc
import Derived.Test.YtjjocnkockeacaaGreatDoorShelf
import Derived.Test.YtjjocnkockeacaaGreatDoorYFi9
namespace Go.Proofs.YtjjocnkockeacaaGreatDoor
open Go.RowKit Go.Lib
set_option maxRecDepth 100000

theorem byName_any {w : World} {x : Px} (h : HeadAt w x) (nm : ByteArray) :
    Calls Tryz.prog 115 #[ptr x.b, .string nm] w fun e w' => e = .returned (.int .i64 (cmpN x.f.name nm)) ∧ w' = w := by
  have c0 : w.cell? ⟨x.b, 0, none⟩ = some (.string x.f.name) := cell_of h 0
  have C := hid (Tryz.strings_Compare x.f.name nm w)
  unfold ptr
  clear h
  unfold cmpN
  generalize Lib.compareBytes x.f.name.data.toList nm.data.toList = r at *
  go_enter Tryz.func115, Tryz.ntmps115
  go_wp2_with (go_at_call 116; refine C.out.mono ?_; rintro e w1 ⟨rfl, rfl⟩)
  go_ret
  exact ⟨rfl, rfl⟩
theorem row_cell {w : World} {v : Value} {L : List Px} (h : RowAt w v L) :
    ∃ x c, v = .slice x L.length c ∧ L.length ≤ c ∧ c ≤ maxLen ∧ v.ownBlock = x.map (·.block) ∧ ∀ i (hi : i < L.length), ∃ b, x = some ⟨b, 0, none⟩ ∧ w.cell? ⟨b, i, none⟩ = some (ptr L[i].b) := by
  obtain ⟨x, c, h1, h2, h3, h4, h5⟩ := own_form h
  refine ⟨x, c, h1, h2, h3, h4, fun i hi => ?_⟩
  obtain ⟨b, hb, hc⟩ := h5 i (by simpa [rowVals] using hi)
  exact ⟨b, hb, by simpa [rowVals] using hc⟩

/-- Ahead of the place all precede, from it on none does. -/
theorem plc_at {l : List Fl} {nm : ByteArray} {k : Nat} (h1 : ∀ t (ht : t < l.length), t < k → cmpN l[t].name nm < 0) (h2 : ∀ t (ht : t < l.length), k ≤ t → ¬ cmpN l[t].name nm < 0) (hk : k ≤ l.length) : plc l nm = k := by
  have e : l = l.take k ++ l.drop k := by simp
  unfold plc
  rw [e, List.countP_append, List.countP_eq_length.2 ?_, List.countP_eq_zero.2 ?_]
  · simp; omega
  · intro a ha
    obtain ⟨t, ht, rfl⟩ := List.getElem_of_mem ha
    simp only [List.length_drop] at ht
    rw [List.getElem_drop]
    simpa using h2 (k + t) (by omega) (by omega)
  · intro a ha
    obtain ⟨t, ht, rfl⟩ := List.getElem_of_mem ha
    simp only [List.length_take] at ht
    rw [List.getElem_take]
    simpa using h1 t (by omega) (by omega)
theorem sorted_lt {l : List Fl} {nm : ByteArray} (h : Sorted l) {s t : Nat} (hst : s ≤ t) (ht : t < l.length) (hlt : cmpN l[t].name nm < 0) : cmpN (l[s]'(by omega)).name nm < 0 := by
  rcases Nat.lt_or_eq_of_le hst with h1 | rfl
  · exact cmpN_trans (List.pairwise_iff_getElem.1 h s t (by omega) ht h1) hlt
  · exact hlt

set_option maxHeartbeats 1000000 in
theorem search_any {w : World} {v : Value} {L : List Px} (h : RowAt w v L) (hh : ∀ x ∈ L, HeadAt w x) (hs : Sorted (L.map (·.f))) (hl : L.length ≤ 1000000) (nm : ByteArray) :
    Calls Tryz.prog 114 #[v, .string nm, .func (.func 115) #[] #[]] w fun e w' =>
      e = .returned (.tuple #[.int .i64 (plc (L.map (·.f)) nm : Nat), .bool (getF (L.map (·.f)) nm).isSome]) ∧ w' = w := by
  obtain ⟨x, c, rfl, hc, -, -, hcell⟩ := row_cell h
  have HC := hid hcell
  have HH := hid hh
  have HS := hid hs
  have HB := hid (fun (t : Nat) (ht : t < L.length) => byName_any (hh _ (List.getElem_mem ht)) nm)
  have hn := hid (find_plc hs (nm := nm))
  have hpl := hid fun k h1 h2 hk => plc_at (l := L.map (·.f)) (nm := nm) (k := k) h1 h2 hk
  have e := hid (show (L.map (·.f)).length = L.length by simp)
  generalize hP : plc (L.map (·.f)) nm = p at *
  generalize hG : (getF (L.map (·.f)) nm).isSome = q at *
  have HG := hid hG
  clear hcell hh hs h hP hG
  have eg : ∀ args w, (callFunc 115 args).run Tryz.prog w = .ok (.enter 115 args) w := by intro a w; simp [go_sem]
  go_enter Tryz.func114, Tryz.ntmps114
  go_wp2
  go_loopg [9, 10] L.length (fun kx s9 s10 wr => ∃ lo hi : Nat, s9 = .int .i64 lo ∧ s10 = .int .i64 hi ∧ lo ≤ hi ∧ hi ≤ L.length ∧ hi - lo ≤ kx ∧ w = wr ∧
    Hid ((∀ t (ht : t < L.length), t < lo → cmpN L[t].f.name nm < 0) ∧ (∀ t (ht : t < L.length), hi ≤ t → ¬ cmpN L[t].f.name nm < 0)))
  case atStart => exact ⟨0, L.length, rfl, rfl, Nat.zero_le _, Nat.le_refl _, by omega, rfl, hid ⟨fun t _ ht => absurd ht (Nat.not_lt_zero _), fun t h1 h2 => by omega⟩⟩
  case round =>
    obtain ⟨lo, hi, rfl, rfl, hlh, hin, hg, rfl, I⟩ := hrel
    by_cases hlt : lo < hi
    · have hmid : (lo + hi) / 2 < L.length := by omega
      obtain ⟨b, rfl, cm⟩ := HC.out ((lo + hi) / 2) hmid
      have hc := hid (HB.out ((lo + hi) / 2) hmid)
      have I' : Hid ((∀ t (ht : t < L.length), t < lo → cmpN L[t].f.name nm < 0) ∧ (∀ t (ht : t < L.length), hi ≤ t → ¬ cmpN L[t].f.name nm < 0) ∧
          (cmpN L[(lo + hi) / 2].f.name nm < 0 → ∀ t (ht : t < L.length), t < (lo + hi) / 2 + 1 → cmpN L[t].f.name nm < 0) ∧ (¬ cmpN L[(lo + hi) / 2].f.name nm < 0 → ∀ t (ht : t < L.length), (lo + hi) / 2 ≤ t → ¬ cmpN L[t].f.name nm < 0)) := hid
        ⟨I.out.1, I.out.2, fun hq t ht hle => by simpa using sorted_lt HS.out (nm := nm) (s := t) (t := (lo + hi) / 2) (by omega) (by simpa using hmid) (by simpa using hq),
          fun hq t ht hle hq2 => hq (by simpa using sorted_lt HS.out (nm := nm) (s := (lo + hi) / 2) (t := t) hle (by simpa using ht) (by simpa using hq2))⟩
      generalize cmpN L[(lo + hi) / 2].f.name nm = r at hc I'
      have hll : L.length ≤ 1000000 := hl
      unfold ptr at cm hc
      by_cases hr : r < 0
      · go_wp2_with (go_at_fn 115; refine hc.out.mono ?_; rintro e w1 ⟨rfl, rfl⟩)
        go_roundg (hi - ((lo + hi) / 2 + 1))
        case measure => omega
        case rel => exact ⟨(lo + hi) / 2 + 1, hi, by rw [show ((lo : Int) + (hi : Int)) / 2 + 1 = (((lo + hi) / 2 + 1 : Nat) : Int) by omega], rfl, by omega, hin, Nat.le_refl _, rfl, hid ⟨I'.out.2.2.1 hr, I'.out.2.1⟩⟩
      · go_wp2_with (go_at_fn 115; refine hc.out.mono ?_; rintro e w1 ⟨rfl, rfl⟩)
        go_roundg ((lo + hi) / 2 - lo)
        case measure => omega
        case rel => exact ⟨lo, (lo + hi) / 2, rfl, by rw [show ((lo : Int) + (hi : Int)) / 2 = (((lo + hi) / 2 : Nat) : Int) by omega], by omega, by omega, Nat.le_refl _, rfl, hid ⟨I'.out.1, I'.out.2.2.2 hr⟩⟩
    · obtain rfl : hi = lo := by omega
      have ep : p = hi := hpl.out hi (fun t ht h => by simpa using I.out.1 t (by simpa using ht) h) (fun t ht h => by simpa using I.out.2 t (by simpa using ht) h) (by simpa using hin)
      subst ep
      by_cases hq : p < L.length
      · obtain ⟨b, rfl, cm⟩ := HC.out p hq
        have hc := hid (HB.out p hq)
        have hg2 : Hid (q = decide (cmpN L[p].f.name nm = 0)) := hid (by
          rw [← HG.out, hn.out, List.getElem?_map, List.getElem?_eq_getElem hq]
          simp only [Option.map_some, Option.bind_some]
          split <;> simp_all)
        generalize cmpN L[p].f.name nm = r at hc hg2
        unfold ptr at cm hc
        by_cases hr : r = 0
        · go_wp2_with (go_at_fn 115; refine hc.out.mono ?_; rintro e w1 ⟨rfl, rfl⟩)
          go_ret2
          exact ⟨by rw [hg2.out]; simp [hr], rfl⟩
        · go_wp2_with (go_at_fn 115; refine hc.out.mono ?_; rintro e w1 ⟨rfl, rfl⟩)
          go_ret2
          exact ⟨by rw [hg2.out]; simp [hr], rfl⟩
      · have hg2 : Hid (q = false) := hid (by
          rw [← HG.out, hn.out, List.getElem?_map, List.getElem?_eq_none (by omega)]
          rfl)
        have hq2 : decide (p < L.length) = false := by simpa using hq
        clear hq hin hg hlt hlh
        go_wp2
        go_ret2
        exact ⟨by rw [hg2.out]; simp, rfl⟩
end Go.Proofs.YtjjocnkockeacaaGreatDoor

namespace Go.Proofs.YtjjocnkockeacaaGreatDoor
open Go.RowKit Go.Lib
set_option maxRecDepth 100000

theorem dk_cell {w : World} {d : Nat} {k : Dk} {rv kv : Value} (h : w.heap[d]? = some (.cells (dkCells k rv kv) tDisk (0, 0))) :
    w.cell? ⟨d, 0, none⟩ = some (.bool true) ∧ w.cell? ⟨d, 1, none⟩ = some (.bool k.on) ∧ w.cell? ⟨d, 2, none⟩ = some (.int .i64 k.room) ∧ w.cell? ⟨d, 3, none⟩ = some rv ∧ w.cell? ⟨d, 4, none⟩ = some (.bool k.armed) ∧ w.cell? ⟨d, 5, none⟩ = some (.int .i64 k.left) ∧ w.cell? ⟨d, 6, none⟩ = some kv :=
  ⟨cell_of h 0, cell_of h 1, cell_of h 2, cell_of h 3, cell_of h 4, cell_of h 5, cell_of h 6⟩

theorem on_any {w : World} {d : Nat} {k : Dk} {rv kv : Value} (h : w.heap[d]? = some (.cells (dkCells k rv kv) tDisk (0, 0))) :
    Calls Tryz.prog 26 #[ptr d] w fun e w' => e = .returned (.bool k.on) ∧ w' = w := by
  obtain ⟨-, c1, -⟩ := dk_cell h
  unfold ptr
  generalize k.on = b at *
  clear h
  go_enter Tryz.func26, Tryz.ntmps26
  go_wp2
  go_ret
  exact ⟨rfl, rfl⟩

theorem refuses_any {w : World} {d : Nat} {k : Dk} {rv kv : Value} (h : w.heap[d]? = some (.cells (dkCells k rv kv) tDisk (0, 0))) (nm : ByteArray) :
    Calls Tryz.prog 84 #[ptr d, .string nm] w fun e w' => e = .returned (.int .i64 (refuse k nm)) ∧ w' = w := by
  have C := hid (on_any h)
  unfold refuse
  unfold ptr at C ⊢
  cases hon : k.on
  · rw [if_neg (by simp)]
    rw [hon] at C
    clear h hon
    go_enter Tryz.func84, Tryz.ntmps84
    go_wp2_with (go_at_call 26; refine C.out.mono ?_; rintro e w1 ⟨rfl, rfl⟩)
    go_ret
    exact ⟨rfl, rfl⟩
  · rw [if_pos rfl]
    rw [hon] at C
    clear h hon
    by_cases h0 : nm.size = 0
    · have e0 : nm = ⟨#[]⟩ := by
        cases nm with | mk a => cases a with | mk l => cases l with | nil => rfl | cons x r => simp [ByteArray.size] at h0
      subst e0
      rw [if_pos (.inl rfl)]
      clear h0
      go_enter Tryz.func84, Tryz.ntmps84
      go_wp2_with (go_at_call 26; refine C.out.mono ?_; rintro e w1 ⟨rfl, rfl⟩)
      go_ret
      exact ⟨rfl, rfl⟩
    · have t1 : nm.toList.isEmpty = false := by
        rw [ByteArray.toList_eq, List.isEmpty_eq_false_iff]
        intro e
        apply h0
        have := list_len nm
        rw [e] at this
        exact this.symm
      by_cases h1 : 40 < nm.size
      · rw [if_pos (.inr h1)]
        have t2 : decide (40 < nm.size) = true := by simpa using h1
        have t3 : (40 : Int) < nm.size := by omega
        clear h0 h1
        go_enter Tryz.func84, Tryz.ntmps84
        go_wp2_with (go_at_call 26; refine C.out.mono ?_; rintro e w1 ⟨rfl, rfl⟩)
        go_ret
        exact ⟨rfl, rfl⟩
      · rw [if_neg (by omega)]
        have t2 : decide (40 < nm.size) = false := by simpa using h1
        have t3 : decide ((40 : Int) < (nm.size : Int)) = false := by simp; omega
        clear h0 h1
        go_enter Tryz.func84, Tryz.ntmps84
        go_wp2_with (go_at_call 26; refine C.out.mono ?_; rintro e w1 ⟨rfl, rfl⟩)
        go_ret
        exact ⟨rfl, rfl⟩

/-- What a row's search wants. -/
structure RowOk (w : World) (d : Nat) (rv : Value) (L : List Px) : Prop where
  cell : w.cell? ⟨d, 3, none⟩ = some rv
  row : RowAt w rv L
  heads : ∀ x ∈ L, HeadAt w x
  sorted : Sorted (L.map (·.f))
  len : L.length ≤ 1000
theorem DiskIs.ok {w : World} {d : Nat} {k : Dk} {rv kv : Value} {L : List Px} (h : DiskIs w d k rv kv L) : RowOk w d rv L :=
  ⟨(dk_cell h.cells).2.2.2.1, h.row, fun x hx => (h.each x hx).head, by rw [h.files]; exact h.sorted, by have := h.many; rw [← h.files, List.length_map] at this; omega⟩

theorem find_any {w : World} {d : Nat} {rv : Value} {L : List Px} (h : RowOk w d rv L) (nm : ByteArray) :
    Calls Tryz.prog 85 #[ptr d, .string nm] w fun e w' => e = .returned (.tuple #[.int .i64 (plc (L.map (·.f)) nm : Nat), .bool (getF (L.map (·.f)) nm).isSome]) ∧ w' = w := by
  have C := hid (search_any h.row h.heads h.sorted (by have := h.len; omega) nm)
  have c3 := h.cell
  unfold ptr
  generalize plc (L.map (·.f)) nm = p at *
  generalize (getF (L.map (·.f)) nm).isSome = q at *
  clear h
  go_enter Tryz.func85, Tryz.ntmps85
  go_wp2_with (go_at_call 114; refine C.out.mono ?_; rintro e w1 ⟨rfl, rfl⟩)
  go_ret2
  exact ⟨rfl, rfl⟩

def placeP (k : Dk) (nm : ByteArray) : Nat := if placeE k nm = 0 then plc k.files nm else 0
theorem place_any {w : World} {d : Nat} {k : Dk} {rv kv : Value} {L : List Px} (h : DiskIs w d k rv kv L) (nm : ByteArray) :
    Calls Tryz.prog 76 #[ptr d, .string nm] w fun e w' => e = .returned (.tuple #[.int .i64 (placeP k nm : Nat), .int .i64 (placeE k nm)]) ∧ w' = w := by
  have C1 := hid (refuses_any h.cells nm)
  have C2 := hid (find_any h.ok nm)
  rw [h.files] at C2
  unfold placeP placeE
  unfold ptr at C1 C2 ⊢
  generalize refuse k nm = r at *
  generalize plc k.files nm = p at *
  generalize getF k.files nm = g at *
  clear h
  by_cases h1 : r = 0
  · subst h1
    cases g with
    | none =>
      simp only [Option.isSome_none] at C2
      go_enter Tryz.func76, Tryz.ntmps76
      go_wp2_with (first
        | (go_at_call 84; refine C1.out.mono ?_; rintro e w1 ⟨rfl, rfl⟩)
        | (go_at_call 85; refine C2.out.mono ?_; rintro e w1 ⟨rfl, rfl⟩))
      go_ret2
      exact ⟨rfl, rfl⟩
    | some f =>
      simp only [Option.isSome_some] at C2
      go_enter Tryz.func76, Tryz.ntmps76
      go_wp2_with (first
        | (go_at_call 84; refine C1.out.mono ?_; rintro e w1 ⟨rfl, rfl⟩)
        | (go_at_call 85; refine C2.out.mono ?_; rintro e w1 ⟨rfl, rfl⟩))
      go_ret2
      exact ⟨by simp, rfl⟩
  · simp only [ne_eq, h1, not_false_eq_true, if_true, if_false]
    clear C2
    go_enter Tryz.func76, Tryz.ntmps76
    go_wp2_with (go_at_call 84; refine C1.out.mono ?_; rintro e w1 ⟨rfl, rfl⟩)
    go_ret2
    exact ⟨rfl, rfl⟩
/-- Where it stands, if it does. -/
theorem place_ok {w : World} {d : Nat} {k : Dk} {rv kv : Value} {L : List Px} (h : DiskIs w d k rv kv L) {nm : ByteArray} (he : placeE k nm = 0) :
    refuse k nm = 0 ∧ placeP k nm = plc k.files nm ∧ getF k.files nm = some (fileD k nm) ∧ ∃ (hp : plc k.files nm < L.length), L[plc k.files nm].f = fileD k nm := by
  have hP : placeP k nm = plc k.files nm := by unfold placeP; rw [if_pos he]
  unfold placeE at he
  by_cases h1 : refuse k nm = 0
  · rw [if_neg (by simpa using h1)] at he
    by_cases h2 : getF k.files nm = none
    · rw [if_pos h2] at he; omega
    · obtain ⟨f, hf⟩ := Option.ne_none_iff_exists'.1 h2
      refine ⟨h1, hP, by rw [fileD, hf]; rfl, ?_⟩
      have h3 := find_plc (nm := nm) h.sorted
      rw [hf] at h3
      have h4 : L.length = k.files.length := by rw [← h.files, List.length_map]
      rcases Nat.lt_or_ge (plc k.files nm) k.files.length with h5 | h5
      · refine ⟨by omega, ?_⟩
        rw [List.getElem?_eq_getElem h5] at h3
        simp only [Option.bind_some] at h3
        split at h3
        · rw [fileD, hf]
          simp only [Option.getD_some]
          have h6 : f = k.files[plc k.files nm] := by simpa using h3
          rw [h6]
          simp [← h.files]
        · cases h3
      · rw [List.getElem?_eq_none h5] at h3
        cases h3
  · rw [if_pos h1] at he; exact absurd he h1

theorem used_app (l m : List Fl) : used (l ++ m) = used l + used m := by simp [used]
theorem used_any {w : World} {d : Nat} {k : Dk} {rv kv : Value} {L : List Px} (h : DiskIs w d k rv kv L) (hu : used k.files ≤ 70368744177664) :
    Calls Tryz.prog 86 #[ptr d] w fun e w' => e = .returned (.int .i64 (used k.files : Nat)) ∧ w' = w := by
  obtain ⟨-, -, -, c3, -⟩ := dk_cell h.cells
  obtain ⟨x, c, rfl, hc, hm, -, hcell⟩ := row_cell h.row
  have hlen : L.length ≤ 200 := by have := h.many; rw [← h.files, List.length_map] at this; exact this
  have HC := hid hcell
  have HF := hid h.each
  rw [← h.files] at hu ⊢
  unfold ptr
  clear hcell h
  have HU := hid (fun (i : Nat) (hi : i < L.length) => (show used ((L.map (·.f)).take i) + L[i].f.data.size = used ((L.map (·.f)).take (i + 1)) by
    rw [List.take_succ_eq_append_getElem (by simpa using hi), used_app]; simp [used]))
  have HL := hid (fun (i : Nat) => (show used ((L.map (·.f)).take i) ≤ used (L.map (·.f)) by
    conv => rhs; rw [← List.take_append_drop i (L.map (·.f)), used_app]
    omega))
  go_enter Tryz.func86, Tryz.ntmps86
  go_wp2
  go_loopw [3, 13] (fun sv iv wr => ∃ i : Nat, i ≤ L.length ∧ iv = .int .i64 i ∧ sv = .int .i64 (used ((L.map (·.f)).take i) : Nat) ∧ w = wr) (fun _ iv _ => L.length - (RowKit.intOf iv).toNat)
  case atStart => exact ⟨0, Nat.zero_le _, rfl, by simp [used], rfl⟩
  case round =>
    obtain ⟨i, hi, rfl, rfl, rfl⟩ := hrel
    by_cases hlt : i < L.length
    · obtain ⟨b, rfl, g1⟩ := HC.out i hlt
      unfold ptr at g1
      have g2 := (head_cells (HF.out _ (List.getElem_mem hlt)).head).2.2.1
      have h1 := HU.out i hlt
      have h2 := HL.out i
      have h3 := HL.out (i + 1)
      have hU1 := hid h1
      generalize L[i].f.data.size = n at *
      generalize L[i].b = y at *
      generalize used ((L.map (·.f)).take i) = u at *
      generalize hu2 : used ((L.map (·.f)).take (i + 1)) = u2 at *
      have hu3 := hid hu2
      have hb1 : (u : Int) + n ≤ 9223372036854775807 := by omega
      have hb2 : decide (i < L.length) = true := by simpa using hlt
      clear h1 h2 h3 hu2
      go_wp2
      go_roundw
      case rel => exact ⟨i + 1, by omega, by go_num, by rw [hu3.out, ← hU1.out]; simp, by first | rfl | trivial⟩
      case measure => simp [RowKit.intOf]; omega
    · obtain rfl : i = L.length := by omega
      have e : (L.map (·.f)).take L.length = L.map (·.f) := List.take_of_length_le (by simp)
      rw [e]
      go_wp2
      go_ret
      exact ⟨rfl, rfl⟩
end Go.Proofs.YtjjocnkockeacaaGreatDoor
