/- all of chapter 9: every file, and what is in it. -/
import Derived.Test.YthibabfojndlkaaAl9
import Derived.Test.YthibabfojndlkaaWDList
namespace Go.Proofs.Ythibabfojndlkaa
open Go.RowKit Go.Lib
set_option maxRecDepth 100000

def allD (k : Dk) : List ByteArray := (if k.on then k.files else []).flatMap fun f => [f.name, f.data]
theorem all_step (l : List Fl) (i : Nat) (hi : i < l.length) : (l.take (i + 1)).flatMap (fun f => [f.name, f.data]) = (l.take i).flatMap (fun f => [f.name, f.data]) ++ [l[i].name, l[i].data] := by
  rw [List.take_succ_eq_append_getElem hi, List.flatMap_append]
  simp
theorem all_len (l : List Fl) : (l.flatMap (fun f => [f.name, f.data])).length = 2 * l.length := by
  induction l with
  | nil => rfl
  | cons a r ih => simp [ih]; omega
/-- The names of a disk's files may be. -/
theorem Has.names {W w : World} {d : Nat} {k : Dk} (h : Has W d k w) : ∀ f ∈ k.files, f.name.size ≤ 40 ∧ f.data.size ≤ 70368744177664 := by
  obtain ⟨own, ⟨rv, kv, L, hD, _, _⟩, _, _⟩ := h
  intro f hf
  rw [← hD.files] at hf
  obtain ⟨x, hx, rfl⟩ := List.mem_map.1 hf
  exact ⟨(hD.each x hx).len, (hD.each x hx).small⟩
theorem Has.many {W w : World} {d : Nat} {k : Dk} (h : Has W d k w) : k.files.length ≤ 200 := by
  obtain ⟨own, ⟨rv, kv, L, hD, _, _⟩, _, _⟩ := h
  exact hD.many
theorem getF_mem {l : List Fl} (hs : Sorted l) (i : Nat) (hi : i < l.length) : getF l l[i].name = some l[i] := by
  rw [find_plc hs]
  have hp : plc l l[i].name = i := by
    refine plc_at (fun t ht hlt => sorted_get hs t i ht hi hlt) (fun t ht hle => ?_) (Nat.le_of_lt hi)
    rcases Nat.lt_or_eq_of_le hle with h1 | rfl
    · have := sorted_get hs i t hi ht h1
      rw [cmpN_neg] at this
      omega
    · rw [cmpN_self]; omega
  rw [hp, List.getElem?_eq_getElem hi]
  simp [cmpN_self]
theorem name_place {k : Dk} (hon : k.on = true) (hs : Sorted k.files) (hk : ∀ f ∈ k.files, Ok f.name) (i : Nat) (hi : i < k.files.length) :
    placeE k k.files[i].name = 0 ∧ fileD k k.files[i].name = k.files[i] := by
  have hg := getF_mem hs i hi
  constructor
  · unfold placeE
    rw [refuse_ok hon (hk _ (List.getElem_mem hi)), if_neg (by simp), if_neg (by rw [hg]; simp)]
  · rw [fileD, hg]; rfl
/-- Names that are no empty ones. -/
def Named (k : Dk) : Prop := ∀ f ∈ k.files, Ok f.name

set_option maxHeartbeats 2000000 in
theorem all_any {W w : World} {d : Nat} {k : Dk} (h : Has W d k w) (hn : Named k) :
    Calls Try.prog 29 #[.pointer (some ⟨d, 0, none⟩)] w fun e w' => ∃ x c, e = .returned (.slice x (allD k).length c) ∧ TextsX w' x (allD k) ∧ Touch [] w w' ∧ (∀ a, x = some a → w.heap.size ≤ a.block ∧ a.block < w'.heap.size) := by
  have hl200 := h.many
  have hs := h.sorted
  have hnm := hid h.names
  obtain ⟨fs, hfs⟩ : ∃ fs, fs = (if k.on then k.files else []) := ⟨_, rfl⟩
  have hlist : listD k ⟨#[]⟩ = fs.map (·.name) := by
    rw [hfs]
    by_cases hon : k.on = true
    · rw [if_pos hon]; exact all_begin k hon
    · rw [if_neg hon]; unfold listD; rw [if_neg hon]; rfl
  have hall : allD k = fs.flatMap (fun f => [f.name, f.data]) := by unfold allD; rw [hfs]
  have hlen : fs.length ≤ 200 := by rw [hfs]; split; exact hl200; exact Nat.zero_le _
  have hfn : Hid (∀ f ∈ fs, f.name.size ≤ 40 ∧ f.data.size ≤ 70368744177664) := hid (by rw [hfs]; split; exact hnm.out; simp)
  have C1 := hid fun w1 (h1 : Has W d k w1) => list_has (n := fs.length) h1 hlist (by simp)
  have hfile : Hid (∀ i (hi : i < fs.length), sizeD k fs[i].name = (fs[i].data.size, 0) ∧ readD k fs[i].name 0 (fs[i].data.size : Int) = (fs[i].data, 0)) := hid (by
    intro i hi
    by_cases hon : k.on = true
    · have e : fs = k.files := by rw [hfs, if_pos hon]
      subst e
      obtain ⟨p1, p2⟩ := name_place hon hs hn i hi
      constructor
      · unfold sizeD
        rw [p1, if_neg (by simp), p2]
      · unfold readD
        rw [p1, if_neg (by simp), p2, if_neg (by omega)]
        have := ext_all k.files[i].data
        simp only [Int.toNat_zero, Int.toNat_natCast, Nat.zero_add]
        rw [this]
    · rw [hfs, if_neg hon] at hi
      simp at hi)
  have C2 := hid fun i (hi : i < fs.length) w1 (h1 : Has W d k w1) => size_has h1 (hfile.out i hi).1
  have C3 := hid fun i (hi : i < fs.length) w1 (h1 : Has W d k w1) => read_has (a := 0) (n := (fs[i].data.size : Int)) h1 (by omega) (by have := (hfn.out _ (List.getElem_mem hi)).2; omega) (hfile.out i hi).2
  have HH := hid h
  rw [hall]
  have hst := hid (all_step fs)
  have hle := hid (all_len fs)
  clear h hn hs hl200 hfs hlist hall
  go_enter Try.func29, Try.ntmps29
  go_wp2_with (go_at_call 20; with_reducible refine (C1.out _ HH.out).mono ?_; rintro e w1 ⟨x1, c1, rfl, o1, t1⟩; have T1 := hid t1; have H1 := hid (HH.out.touch t1); have X1 := hid (TX.of o1); clear o1 t1)
  go_loopw [4, 5] (fun sv iv wr => ∃ (i : Nat) (sx : Option Addr) (sc m : Nat), i ≤ fs.length ∧ m = 2 * i ∧ iv = .int .i64 i ∧ sv = .slice sx m sc ∧ Hid (wr.ownsRow w1.heap.size 9 1 (.slice sx m sc) m (svals ((fs.take i).flatMap (fun f => [f.name, f.data])))) ∧ Hid (Touch [] w1 wr)) (fun _ iv _ => fs.length - (RowKit.intOf iv).toNat)
  case atStart => exact ⟨0, none, 0, 0, Nat.zero_le _, rfl, rfl, rfl, hid (World.ownsRow_nil _ _ _ _), hid (Touch.refl _ _)⟩
  case round =>
    obtain ⟨i, sx, sc, m, hi, hm, rfl, rfl, O, T⟩ := hrel
    by_cases hlt : i < fs.length
    · obtain ⟨b, rfl, g0⟩ := X1.out i (by simpa using hlt)
      simp only [List.getElem_map] at g0
      have g1 := fun w2 (t : Touch [] w1 w2) => touch_cell t g0 List.not_mem_nil
      have G1 := hid g1
      have g2 := g1 _ T.out
      have K2 := hid (C2.out i hlt _ (H1.out.touch T.out))
      have K3 := hid fun w2 (t : Touch [] w1 w2) => C3.out i hlt _ (H1.out.touch t)
      have hlt' : decide (i < fs.length) = true := by simpa using hlt
      have hstep := hid (hst.out i hlt)
      have hm2 := hid (show m ≤ 400 by omega)
      have hd := (hfn.out _ (List.getElem_mem hlt)).2
      have hmi := hid hm
      generalize fs[i].name = nm at *
      generalize fs[i].data = da at *
      clear g0 g1 hm
      go_wp2_with (first
        | (go_at_call 14; with_reducible refine K2.out.mono ?_; rintro e w2 ⟨rfl, t2⟩; have T2 := hid (T.out.trans t2 nil_mem); have z2 := G1.out _ T2.out; have O2 := hid (own_touch O.out t2 (fun _ _ => List.not_mem_nil)); clear t2)
        | (go_at_call 13; with_reducible refine (K3.out _ T2.out).mono ?_; rintro e w3 ⟨rfl, t3⟩; have T3 := hid (T2.out.trans t3 nil_mem); have z3 := G1.out _ T3.out; have O3 := hid (own_touch O2.out t3 (fun _ _ => List.not_mem_nil)); clear t3)
        | (at_builtin; refine wpList_append_lies _ rfl _ _ 34 rfl w1.heap.size 9 _ (.string ⟨#[]⟩) 1 16 rfl rfl rfl rfl rfl rfl (by omega) _ m _ rfl (O3.out.alloc _) ⟨w3.heap.size, 0, none⟩ 2 2 [.string nm, .string da] rfl rfl (World.news_of_block (heap_alloc_new w3 _)) (by intro u hu; simp at hu; rcases hu with rfl | rfl <;> rfl) (by omega) (by have := hm2.out; unfold maxLen; omega) (by have := hm2.out; omega) (by have := T3.out.size; simp; omega) _ rfl ?_; intro gg cap w4 hown hgrow hat hlt4; have O4 := hid (And.intro hown (And.intro hgrow hat)); clear hown hgrow hat hlt4))
      go_roundw
      case rel =>
        refine ⟨i + 1, some ⟨gg, 0, none⟩, cap, m + 2, by omega, by have := hmi.out; omega, by go_num, rfl, hid ?_, hid ((T3.out.alloc _).grown O4.out.2.1 (fun q hq => .inr (own_base O.out q (Option.mem_toList.2 hq))))⟩
        rw [hstep.out]
        have := O4.out.1
        simpa [svals] using this
      case measure => simp [RowKit.intOf]; omega
    · obtain rfl : i = fs.length := by omega
      have e : fs.take fs.length = fs := List.take_of_length_le (Nat.le_refl _)
      have O' := hid O.out
      rw [e] at O'
      have hml : Hid ((fs.flatMap (fun f => [f.name, f.data])).length = m) := hid (by rw [hle.out]; omega)
      have hsz : Hid (∀ s ∈ fs.flatMap (fun f => [f.name, f.data]), s.size ≤ maxLen) := hid (by
        intro s hs
        obtain ⟨f, hf, hsf⟩ := List.mem_flatMap.1 hs
        have := hfn.out f hf
        simp at hsf
        unfold maxLen
        rcases hsf with rfl | rfl <;> omega)
      have hm2 := hid hm
      clear hm O
      go_wp2
      go_ret
      refine ⟨sx, sc, by rw [hml.out]; rfl, ?_, T1.out.trans T.out (by simp), fun a ha => ?_⟩
      rotate_left
      · subst ha
        exact ⟨Nat.le_trans T1.out.size (own_base O'.out a.block (by simp [Value.ownBlock])), own_lt O'.out a.block (by simp [Value.ownBlock])⟩
      intro j hj
      obtain ⟨b, hb, hc⟩ := TX.of O'.out j hj
      exact ⟨b, 0, hb, by rw [Nat.zero_add]; exact hc, hsz.out _ (List.getElem_mem hj)⟩
end Go.Proofs.Ythibabfojndlkaa
