/- A disk's own small functions: On, refuses, find, place, Used. -/
import Derived.Test.YthibabfojndlkaaSlB
import Derived.Test.YthibabfojndlkaaFi9
namespace Go.Proofs.Ythibabfojndlkaa
open Go.RowKit Go.Lib
set_option maxRecDepth 100000

theorem dk_cell {w : World} {d : Nat} {k : Dk} {rv kv : Value} (h : w.heap[d]? = some (.cells (dkCells k rv kv) tDisk (0, 0))) :
    w.cell? ⟨d, 0, none⟩ = some (.bool true) ∧ w.cell? ⟨d, 1, none⟩ = some (.bool k.on) ∧ w.cell? ⟨d, 2, none⟩ = some (.int .i64 k.room) ∧ w.cell? ⟨d, 3, none⟩ = some rv ∧ w.cell? ⟨d, 4, none⟩ = some (.bool k.armed) ∧ w.cell? ⟨d, 5, none⟩ = some (.int .i64 k.left) ∧ w.cell? ⟨d, 6, none⟩ = some kv :=
  ⟨cell_of h 0, cell_of h 1, cell_of h 2, cell_of h 3, cell_of h 4, cell_of h 5, cell_of h 6⟩

theorem on_any {w : World} {d : Nat} {k : Dk} {rv kv : Value} (h : w.heap[d]? = some (.cells (dkCells k rv kv) tDisk (0, 0))) :
    Calls Try.prog 24 #[ptr d] w fun e w' => e = .returned (.bool k.on) ∧ w' = w := by
  obtain ⟨-, c1, -⟩ := dk_cell h
  unfold ptr
  generalize k.on = b at *
  clear h
  go_enter Try.func24, Try.ntmps24
  go_wp2
  go_ret
  exact ⟨rfl, rfl⟩

theorem refuses_any {w : World} {d : Nat} {k : Dk} {rv kv : Value} (h : w.heap[d]? = some (.cells (dkCells k rv kv) tDisk (0, 0))) (nm : ByteArray) :
    Calls Try.prog 35 #[ptr d, .string nm] w fun e w' => e = .returned (.int .i64 (refuse k nm)) ∧ w' = w := by
  have C := hid (on_any h)
  unfold refuse
  unfold ptr at C ⊢
  cases hon : k.on
  · rw [if_neg (by simp)]
    rw [hon] at C
    clear h hon
    go_enter Try.func35, Try.ntmps35
    go_wp2_with (go_at_call 24; refine C.out.mono ?_; rintro e w1 ⟨rfl, rfl⟩)
    go_ret
    exact ⟨rfl, rfl⟩
  · rw [if_pos rfl]
    rw [hon] at C
    clear h hon
    by_cases h0 : nm.size = 0
    · have e0 : nm = ⟨#[]⟩ := by
        cases nm with | mk a => cases a with | mk l => cases l with | nil => rfl | cons x r => simp [ByteArray.size] at h0
      subst e0
      rw [if_pos (.inl rfl)]
      clear h0
      go_enter Try.func35, Try.ntmps35
      go_wp2_with (go_at_call 24; refine C.out.mono ?_; rintro e w1 ⟨rfl, rfl⟩)
      go_ret
      exact ⟨rfl, rfl⟩
    · have t1 : nm.toList.isEmpty = false := by
        rw [ByteArray.toList_eq, List.isEmpty_eq_false_iff]
        intro e
        apply h0
        have := list_len nm
        rw [e] at this
        exact this.symm
      by_cases h1 : 40 < nm.size
      · rw [if_pos (.inr h1)]
        have t2 : decide (40 < nm.size) = true := by simpa using h1
        have t3 : (40 : Int) < nm.size := by omega
        clear h0 h1
        go_enter Try.func35, Try.ntmps35
        go_wp2_with (go_at_call 24; refine C.out.mono ?_; rintro e w1 ⟨rfl, rfl⟩)
        go_ret
        exact ⟨rfl, rfl⟩
      · rw [if_neg (by omega)]
        have t2 : decide (40 < nm.size) = false := by simpa using h1
        have t3 : decide ((40 : Int) < (nm.size : Int)) = false := by simp; omega
        clear h0 h1
        go_enter Try.func35, Try.ntmps35
        go_wp2_with (go_at_call 24; refine C.out.mono ?_; rintro e w1 ⟨rfl, rfl⟩)
        go_ret
        exact ⟨rfl, rfl⟩

/-- What a row's search wants. -/
structure RowOk (w : World) (d : Nat) (rv : Value) (L : List Px) : Prop where
  cell : w.cell? ⟨d, 3, none⟩ = some rv
  row : RowAt w rv L
  heads : ∀ x ∈ L, HeadAt w x
  sorted : Sorted (L.map (·.f))
  len : L.length ≤ 1000
theorem DiskIs.ok {w : World} {d : Nat} {k : Dk} {rv kv : Value} {L : List Px} (h : DiskIs w d k rv kv L) : RowOk w d rv L :=
  ⟨(dk_cell h.cells).2.2.2.1, h.row, fun x hx => (h.each x hx).head, by rw [h.files]; exact h.sorted, by have := h.many; rw [← h.files, List.length_map] at this; omega⟩

theorem find_any {w : World} {d : Nat} {rv : Value} {L : List Px} (h : RowOk w d rv L) (nm : ByteArray) :
    Calls Try.prog 36 #[ptr d, .string nm] w fun e w' => e = .returned (.tuple #[.int .i64 (plc (L.map (·.f)) nm : Nat), .bool (getF (L.map (·.f)) nm).isSome]) ∧ w' = w := by
  have C := hid (search_any h.row h.heads h.sorted (by have := h.len; omega) nm)
  have c3 := h.cell
  unfold ptr
  generalize plc (L.map (·.f)) nm = p at *
  generalize (getF (L.map (·.f)) nm).isSome = q at *
  clear h
  go_enter Try.func36, Try.ntmps36
  go_wp2_with (go_at_call 50; refine C.out.mono ?_; rintro e w1 ⟨rfl, rfl⟩)
  go_ret2
  exact ⟨rfl, rfl⟩

def placeP (k : Dk) (nm : ByteArray) : Nat := if placeE k nm = 0 then plc k.files nm else 0
theorem place_any {w : World} {d : Nat} {k : Dk} {rv kv : Value} {L : List Px} (h : DiskIs w d k rv kv L) (nm : ByteArray) :
    Calls Try.prog 33 #[ptr d, .string nm] w fun e w' => e = .returned (.tuple #[.int .i64 (placeP k nm : Nat), .int .i64 (placeE k nm)]) ∧ w' = w := by
  have C1 := hid (refuses_any h.cells nm)
  have C2 := hid (find_any h.ok nm)
  rw [h.files] at C2
  unfold placeP placeE
  unfold ptr at C1 C2 ⊢
  generalize refuse k nm = r at *
  generalize plc k.files nm = p at *
  generalize getF k.files nm = g at *
  clear h
  by_cases h1 : r = 0
  · subst h1
    cases g with
    | none =>
      simp only [Option.isSome_none] at C2
      go_enter Try.func33, Try.ntmps33
      go_wp2_with (first
        | (go_at_call 35; refine C1.out.mono ?_; rintro e w1 ⟨rfl, rfl⟩)
        | (go_at_call 36; refine C2.out.mono ?_; rintro e w1 ⟨rfl, rfl⟩))
      go_ret2
      exact ⟨rfl, rfl⟩
    | some f =>
      simp only [Option.isSome_some] at C2
      go_enter Try.func33, Try.ntmps33
      go_wp2_with (first
        | (go_at_call 35; refine C1.out.mono ?_; rintro e w1 ⟨rfl, rfl⟩)
        | (go_at_call 36; refine C2.out.mono ?_; rintro e w1 ⟨rfl, rfl⟩))
      go_ret2
      exact ⟨by simp, rfl⟩
  · simp only [ne_eq, h1, not_false_eq_true, if_true, if_false]
    clear C2
    go_enter Try.func33, Try.ntmps33
    go_wp2_with (go_at_call 35; refine C1.out.mono ?_; rintro e w1 ⟨rfl, rfl⟩)
    go_ret2
    exact ⟨rfl, rfl⟩
/-- Where it stands, if it does. -/
theorem place_ok {w : World} {d : Nat} {k : Dk} {rv kv : Value} {L : List Px} (h : DiskIs w d k rv kv L) {nm : ByteArray} (he : placeE k nm = 0) :
    refuse k nm = 0 ∧ placeP k nm = plc k.files nm ∧ getF k.files nm = some (fileD k nm) ∧ ∃ (hp : plc k.files nm < L.length), L[plc k.files nm].f = fileD k nm := by
  have hP : placeP k nm = plc k.files nm := by unfold placeP; rw [if_pos he]
  unfold placeE at he
  by_cases h1 : refuse k nm = 0
  · rw [if_neg (by simpa using h1)] at he
    by_cases h2 : getF k.files nm = none
    · rw [if_pos h2] at he; omega
    · obtain ⟨f, hf⟩ := Option.ne_none_iff_exists'.1 h2
      refine ⟨h1, hP, by rw [fileD, hf]; rfl, ?_⟩
      have h3 := find_plc (nm := nm) h.sorted
      rw [hf] at h3
      have h4 : L.length = k.files.length := by rw [← h.files, List.length_map]
      rcases Nat.lt_or_ge (plc k.files nm) k.files.length with h5 | h5
      · refine ⟨by omega, ?_⟩
        rw [List.getElem?_eq_getElem h5] at h3
        simp only [Option.bind_some] at h3
        split at h3
        · rw [fileD, hf]
          simp only [Option.getD_some]
          have h6 : f = k.files[plc k.files nm] := by simpa using h3
          rw [h6]
          simp [← h.files]
        · cases h3
      · rw [List.getElem?_eq_none h5] at h3
        cases h3
  · rw [if_pos h1] at he; exact absurd he h1

theorem used_app (l m : List Fl) : used (l ++ m) = used l + used m := by simp [used]
theorem used_any {w : World} {d : Nat} {k : Dk} {rv kv : Value} {L : List Px} (h : DiskIs w d k rv kv L) (hu : used k.files ≤ 70368744177664) :
    Calls Try.prog 22 #[ptr d] w fun e w' => e = .returned (.int .i64 (used k.files : Nat)) ∧ w' = w := by
  obtain ⟨-, -, -, c3, -⟩ := dk_cell h.cells
  obtain ⟨x, c, rfl, hc, hm, -, hcell⟩ := row_cell h.row
  have hlen : L.length ≤ 200 := by have := h.many; rw [← h.files, List.length_map] at this; exact this
  have HC := hid hcell
  have HF := hid h.each
  rw [← h.files] at hu ⊢
  unfold ptr
  clear hcell h
  have HU := hid (fun (i : Nat) (hi : i < L.length) => (show used ((L.map (·.f)).take i) + L[i].f.data.size = used ((L.map (·.f)).take (i + 1)) by
    rw [List.take_succ_eq_append_getElem (by simpa using hi), used_app]; simp [used]))
  have HL := hid (fun (i : Nat) => (show used ((L.map (·.f)).take i) ≤ used (L.map (·.f)) by
    conv => rhs; rw [← List.take_append_drop i (L.map (·.f)), used_app]
    omega))
  go_enter Try.func22, Try.ntmps22
  go_wp2
  go_loopw [3, 13] (fun sv iv wr => ∃ i : Nat, i ≤ L.length ∧ iv = .int .i64 i ∧ sv = .int .i64 (used ((L.map (·.f)).take i) : Nat) ∧ w = wr) (fun _ iv _ => L.length - (RowKit.intOf iv).toNat)
  case atStart => exact ⟨0, Nat.zero_le _, rfl, by simp [used], rfl⟩
  case round =>
    obtain ⟨i, hi, rfl, rfl, rfl⟩ := hrel
    by_cases hlt : i < L.length
    · obtain ⟨b, rfl, g1⟩ := HC.out i hlt
      unfold ptr at g1
      have g2 := (head_cells (HF.out _ (List.getElem_mem hlt)).head).2.2.1
      have h1 := HU.out i hlt
      have h2 := HL.out i
      have h3 := HL.out (i + 1)
      have hU1 := hid h1
      generalize L[i].f.data.size = n at *
      generalize L[i].b = y at *
      generalize used ((L.map (·.f)).take i) = u at *
      generalize hu2 : used ((L.map (·.f)).take (i + 1)) = u2 at *
      have hu3 := hid hu2
      have hb1 : (u : Int) + n ≤ 9223372036854775807 := by omega
      have hb2 : decide (i < L.length) = true := by simpa using hlt
      clear h1 h2 h3 hu2
      go_wp2
      go_roundw
      case rel => exact ⟨i + 1, by omega, by go_num, by rw [hu3.out, ← hU1.out]; simp, by first | rfl | trivial⟩
      case measure => simp [RowKit.intOf]; omega
    · obtain rfl : i = L.length := by omega
      have e : (L.map (·.f)).take L.length = L.map (·.f) := List.take_of_length_le (by simp)
      rw [e]
      go_wp2
      go_ret
      exact ⟨rfl, rfl⟩
end Go.Proofs.Ythibabfojndlkaa
