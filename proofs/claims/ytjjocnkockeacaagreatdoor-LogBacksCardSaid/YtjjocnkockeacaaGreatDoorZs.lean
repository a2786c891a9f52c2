/- files: the names of a log's chunks. read, discard, trim. -/
import Derived.Test.YtjjocnkockeacaaGreatDoorZr
import Derived.Shelf.Strings.SlTrimAscii
namespace Go.Proofs.YtjjocnkockeacaaGreatDoor
open Go.RowKit Go.Lib
set_option maxRecDepth 100000

def digs : ByteArray := ⟨#[48, 49, 50, 51, 52, 53, 54, 55, 56, 57]⟩
theorem trim_digs (s : ByteArray) (w : World) (hs : s.size ≤ 1000) : Calls Tryz.prog 100 #[.string s, .string digs] w fun e w' => e = .returned (.string ⟨(Lib.trimS s.data.toList digs.data.toList).toArray⟩) ∧ Touch [] w w' := by
  refine (Any.strings_Trim_laid Tryz.lays160 (by kernel_rfl) s digs w (by omega) (by decide) (ascii_of_all (by decide))).mono ?_
  rintro e w' ⟨rfl, hb⟩
  exact ⟨rfl, Touch.of_below hb⟩
/-- Is it the name of a chunk of the log "p"? -/
def isCh (nm : ByteArray) : Bool := decide (nm.size = 7) && (Lib.trimS (nm.extract 1 nm.size).data.toList digs.data.toList).isEmpty
theorem isCh_name : ∀ k < 100, isCh (nameK k) = true := by decide +kernel
theorem isCh_mark : isCh nmMark = false := by decide +kernel
theorem isCh_new : isCh nmNew = false := by decide +kernel
theorem sl_from1 (s : ByteArray) (h1 : 1 ≤ s.size) : ∀ w, (Instr.slice 9 (.string s) (some (.int .i64 1)) none none).run Tryz.prog w = .ok (.string (s.extract 1 s.size)) w := by
  intro w
  have := sl_from s 1 1 rfl h1 w
  exact this
set_option maxHeartbeats 1000000 in
theorem files_any {O : List Nat} {W w : World} {d b : Nat} {k : Dk} {S : Lg} (h : LD O W w d k b S) (l : List ByteArray) (hl : listD k nmP = l) (hs : ∀ s ∈ l, 1 ≤ s.size ∧ s.size ≤ 40) (hn : l.length ≤ 200) :
    Calls Tryz.prog 63 #[.pointer (some ⟨b, 0, none⟩)] w fun e w' => ∃ v, e = .returned v ∧ w'.ownsRow w.heap.size tStg 1 v (l.filter isCh).length (txtVals (l.filter isCh)) ∧ Touch [] w w' := by
  have CL := hid (list_ld h hl)
  have CLD := hid (list_ld (h.touch (Touch.refl [] w).drew) hl)
  obtain ⟨rv, kv, L, pv, lv, own, H⟩ := h
  obtain ⟨c0, c1, -⟩ := lg_cell H.log.cells
  have hp1 : nmP.size = 1 := rfl
  have HC := hid fun w' (t : Touch [] w w') => t.cell c1
  have HS := hid hs
  clear H hs
  generalize nmP = pp at *
  clear CL
  go_enter Tryz.func63, Tryz.ntmps63
  go_wp2_with fail
  have HS2 := hid fun w' (t : Touch [] w w') => And.intro (t.cell c0) (t.cell c1)
  go_region_held3 (fun w' => w'.cell? ⟨b, 0, none⟩ = some (.pointer (some ⟨d, 0, none⟩)) ∧ w'.cell? ⟨b, 1, none⟩ = some (.string pp)) (first | go_keep | exact HS2.out _ (by first | assumption | exact (Touch.refl [] w).drew | exact Touch.refl _ _)) ((go_at_call 29; refine (CLD.out).mono ?_; rintro e w1 ⟨v, rfl, hO, t1⟩; obtain ⟨x, c, rfl, hc1, hc2, -, hTx, -, -⟩ := row_form hO; have T1 : Touch [] w w1 := (Touch.refl [] w).drew.trans t1 (by simp); have HTx := hid hTx; clear hO t1 hTx))
  have HT1 := hid T1
  clear T1 c0 c1 HS2 CLD
  have hcap : c ≤ 9223372036854775807 := hc2
  have hst : Hid (∀ i (hi : i < l.length), (l.take (i + 1)).filter isCh = (l.take i).filter isCh ++ if isCh l[i] then [l[i]] else []) := hid fun i hi => by
    rw [List.take_succ_eq_append_getElem hi, List.filter_append]
    congr 1
    cases hb : isCh l[i] <;> simp [List.filter, hb]
  clear hl hc2
  go_wp2_with fail
  go_loopw [3, 17] (fun sv iv wr => ∃ (i m : Nat) (sx : Option Addr) (sc : Nat), i ≤ l.length ∧ m ≤ i ∧ iv = .int .i64 i ∧ sv = .slice sx m sc ∧ Hid (wr.ownsRow w1.heap.size tStg 1 (.slice sx m sc) m (txtVals ((l.take i).filter isCh)) ∧ Touch [] w1 wr)) (fun _ iv _ => l.length - (RowKit.intOf iv).toNat)
  case atStart => exact ⟨0, 0, none, 0, Nat.zero_le _, Nat.le_refl _, rfl, rfl, hid ⟨World.ownsRow_nil _ _ _ _, Touch.refl _ _⟩⟩
  case round =>
    obtain ⟨i, m, sx, sc, hi, hmi, rfl, rfl, I⟩ := hrel
    by_cases hlt : i < l.length
    · have hlt' : decide (i < l.length) = true := by simpa using hlt
      obtain ⟨g, off, rfl, g0⟩ := HTx.out i hlt
      have g1 := I.out.2.cell g0
      have c1r := HC.out wr (HT1.out.trans I.out.2 (by simp))
      have hsz := HS.out l[i] (List.getElem_mem _)
      have hsn := hid (hst.out i hlt)
      have hsl := sl_from1 l[i] hsz.1
      have hnb : (l[i].extract 1 l[i].size).size = l[i].size - 1 := by rw [ByteArray.size_extract]; omega
      have CT := hid fun w => trim_digs (l[i].extract 1 l[i].size) w (by omega)
      have hch : isCh l[i] = (decide (l[i].size = 7) && (Lib.trimS (l[i].extract 1 l[i].size).data.toList digs.data.toList).isEmpty) := rfl
      rw [hch] at hsn
      clear g0 hch
      have hemp : (⟨(Lib.trimS (l[i].extract 1 l[i].size).data.toList digs.data.toList).toArray⟩ : ByteArray).toList.isEmpty = (Lib.trimS (l[i].extract 1 l[i].size).data.toList digs.data.toList).isEmpty := by rw [ByteArray.toList_eq]
      have hm200 := hid (show m ≤ 200 by omega)
      generalize hTZ : (⟨(Lib.trimS (l[i].extract 1 l[i].size).data.toList digs.data.toList).toArray⟩ : ByteArray) = tz at *
      generalize (Lib.trimS (l[i].extract 1 l[i].size).data.toList digs.data.toList).isEmpty = te at *
      generalize l[i].extract 1 l[i].size = nb at *
      generalize l[i] = nm at *
      clear hTZ
      have hdg : digs = ⟨#[48, 49, 50, 51, 52, 53, 54, 55, 56, 57]⟩ := rfl
      rw [hdg] at CT
      clear hdg
      by_cases h7 : nm.size = 7
      · rw [decide_eq_true h7, Bool.true_and] at hsn
        have hb6 : ((nb.size : Int) == 6) = true := by simp; omega
        cases te
        · go_wp2_with (go_at_call 100; refine (CT.out _).mono ?_; rintro e w3 ⟨rfl, t3⟩; have T3 := hid t3; clear t3)
          go_roundw
          case rel =>
            refine ⟨i + 1, m, sx, sc, by omega, by omega, by go_num, rfl, hid ⟨?_, I.out.2.trans T3.out (by simp)⟩⟩
            rw [hsn.out]
            simpa using own_touch I.out.1 T3.out (by simp)
          case measure => simp [RowKit.intOf]; omega
        · go_wp2_with (first
            | (go_at_call 100; refine (CT.out _).mono ?_; rintro e w3 ⟨rfl, t3⟩; have T3 := hid t3; have P3 := hid (own_touch I.out.1 t3 (by simp)); clear t3)
            | (at_builtin; refine wpList_append_lies _ rfl _ _ 43 rfl w1.heap.size tStg _ (.string ⟨#[]⟩) 1 16 rfl rfl rfl rfl rfl rfl (by omega) _ m _ rfl (P3.out.alloc _) ⟨w3.heap.size, 0, none⟩ 1 1 [.string nm] rfl rfl (World.news_of_block (heap_alloc_new w3 _)) (by intro u hu; simp at hu; subst hu; rfl) (by omega) (by have := hm200.out; unfold maxLen; omega) (by have := hm200.out; omega) (by have := I.out.2.size; have := T3.out.size; simp; omega) _ rfl ?_; intro gg cap w4 hown hgrow hat hlt3; have O3 := hid (And.intro hown (And.intro hgrow hat)); clear hown hgrow hat hlt3))
          go_roundw
          case rel =>
            refine ⟨i + 1, m + 1, some ⟨gg, 0, none⟩, cap, by omega, by omega, by go_num, by go_num, hid ⟨?_, ((I.out.2.trans T3.out (by simp)).alloc _).grown O3.out.2.1 (fun k hk => .inr (own_base I.out.1 k (Option.mem_toList.2 hk)))⟩⟩
            have e := O3.out.1
            rw [hsn.out, if_pos trivial, ← txtVals_app]
            exact e
          case measure => simp [RowKit.intOf]; omega
      · rw [decide_eq_false h7, Bool.false_and] at hsn
        have hb6 : ((nb.size : Int) == 6) = false := by simp; omega
        go_wp2_with (go_at_call 100; refine (CT.out _).mono ?_; rintro e w3 ⟨rfl, t3⟩; have T3 := hid t3; clear t3)
        go_roundw
        case rel =>
          refine ⟨i + 1, m, sx, sc, by omega, by omega, by go_num, rfl, hid ⟨?_, I.out.2⟩⟩
          rw [hsn.out]
          simpa using I.out.1
        case measure => simp [RowKit.intOf]; omega
    · obtain rfl : i = l.length := by omega
      have hI := hid I.out
      rw [List.take_length] at hI
      have hml : Hid ((l.filter isCh).length = m) := hid (by have := hI.out.1.1; rw [txtVals_len] at this; omega)
      clear I
      go_wp2
      go_ret
      refine ⟨_, rfl, ?_, HT1.out.trans hI.out.2 (by simp)⟩
      rw [hml.out]
      exact own_weak hI.out.1 HT1.out.size
end Go.Proofs.YtjjocnkockeacaaGreatDoor

namespace Go.Proofs.YtjjocnkockeacaaGreatDoor
open Go.RowKit Go.Lib
set_option maxRecDepth 100000

theorem lread_some {O : List Nat} {W w : World} {d b n : Nat} {k : Dk} {S : Lg} {nm s : ByteArray} (h : LD O W w d k b S) (h1 : sizeD k nm = (n, 0)) (h2 : readD k nm 0 n = (s, 0)) (hn : n ≤ 1000000000) :
    Calls Tryz.prog 64 #[.pointer (some ⟨b, 0, none⟩), .string nm] w fun e w' => e = .returned (.tuple #[.string s, .int .i64 0]) ∧ Touch [] w w' := by
  have c0 := ld_c0 h
  have C1 := hid fun w' (t : Touch [] w w') => size_ld (h.touch t) h1
  have C2 := hid fun w' (t : Touch [] w w') => read_ld (h.touch t) (by omega) (by omega) h2
  have HC := hid fun w' (t : Touch [] w w') => t.cell c0
  clear h h1 h2
  go_enter Tryz.func64, Tryz.ntmps64
  go_wp2_with (first
    | (go_at_call 101; refine (C1.out _ (Touch.refl _ _)).mono ?_; rintro e w1 ⟨rfl, t1⟩; have T1 := hid t1; have c01 := HC.out _ t1; clear t1)
    | (go_at_call 102; refine (C2.out _ T1.out).mono ?_; rintro e w2 ⟨rfl, t2⟩; have T2 := hid (T1.out.trans t2 (by simp)); clear t2))
  go_ret2
  exact ⟨rfl, T2.out⟩
theorem lread_none {O : List Nat} {W w : World} {d b : Nat} {k : Dk} {S : Lg} {nm : ByteArray} (h : LD O W w d k b S) (h1 : sizeD k nm = (0, 8)) :
    Calls Tryz.prog 64 #[.pointer (some ⟨b, 0, none⟩), .string nm] w fun e w' => e = .returned (.tuple #[.string ⟨#[]⟩, .int .i64 0]) ∧ Touch [] w w' := by
  have c0 := ld_c0 h
  have C1 := hid fun w' (t : Touch [] w w') => size_ld (h.touch t) h1
  clear h h1
  go_enter Tryz.func64, Tryz.ntmps64
  go_wp2_with (first
    | (go_at_call 101; refine (C1.out _ (Touch.refl _ _)).mono ?_; rintro e w1 ⟨rfl, t1⟩; have T1 := hid t1; clear t1))
  go_ret2
  exact ⟨rfl, T1.out⟩
theorem ldiscard_any {O : List Nat} {W w : World} {d b : Nat} {k k' : Dk} {S : Lg} {nm : ByteArray} {r : Int} (h : LD O W w d k b S) (hs : Sm k 0) (he : removeD k nm = (r, k')) (hr : r = 0 ∨ r = 8 ∨ r = 14) :
    Calls Tryz.prog 68 #[.pointer (some ⟨b, 0, none⟩), .string nm] w fun e w' => e = .returned (.int .i64 (if r = 8 then 0 else r)) ∧ LD O W w' d k' b S := by
  have c0 := ld_c0 h
  have C1 := hid (remove_ld h hs he)
  clear h he
  rcases hr with rfl | rfl | rfl
  all_goals
    go_enter Tryz.func68, Tryz.ntmps68
    go_wp2_with (go_at_call 69; refine C1.out.mono ?_; rintro e w1 ⟨rfl, h1⟩; have H1 := hid h1; clear h1)
    go_ret
    exact ⟨rfl, H1.out⟩
/-- trim of a file that is good to its end. -/
theorem ltrim_whole {O : List Nat} {W w : World} {d b n : Nat} {k : Dk} {S : Lg} {nm : ByteArray} (h : LD O W w d k b S) (h1 : sizeD k nm = (n, 0)) (g : Int) (hg : g = n) :
    Calls Tryz.prog 70 #[.pointer (some ⟨b, 0, none⟩), .string nm, .int .i64 g] w fun e w' => e = .returned (.int .i64 0) ∧ LD O W w' d k b S := by
  subst hg
  have c0 := ld_c0 h
  have HL := hid h
  have C1 := hid fun w' (t : Touch [] w w') => size_ld (h.touch t) h1
  clear h h1
  have d1 : decide ((n : Int) < (n : Int)) = false := by simp
  go_enter Tryz.func70, Tryz.ntmps70
  go_wp2_with (go_at_call 101; refine (C1.out _ (Touch.refl _ _)).mono ?_; rintro e w1 ⟨rfl, t1⟩; have H1 := hid (HL.out.touch t1); clear t1)
  go_ret
  exact ⟨rfl, H1.out⟩
end Go.Proofs.YtjjocnkockeacaaGreatDoor
