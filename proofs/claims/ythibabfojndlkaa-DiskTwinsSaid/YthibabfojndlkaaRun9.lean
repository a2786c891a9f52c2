/- run of chapter 9: steps of a disk. -/
import Derived.Test.YthibabfojndlkaaLt9
import Derived.Test.YthibabfojndlkaaAll9
import Derived.Test.YthibabfojndlkaaLft9
namespace Go.Proofs.Ythibabfojndlkaa
open Go.RowKit Go.Lib
set_option maxRecDepth 100000

def opD (k : Dk) (o : OpD) : Dk :=
  if o.kind = 1 then (appendD k o.name o.data).2 else if o.kind = 2 then (syncD k o.name).2 else if o.kind = 3 then (truncD k o.name o.n).2
  else if o.kind = 4 then (renameD k o.name o.nt).2 else if o.kind = 5 then (removeD k o.name).2 else if o.kind = 6 then crashD k o.keep else if o.kind = 7 then { k with on := true } else k
def runD (k : Dk) (l : List OpD) : Dk := l.foldl opD k
theorem run_snoc (k : Dk) (l : List OpD) (i : Nat) (hi : i < l.length) : runD k (l.take (i + 1)) = opD (runD k (l.take i)) l[i] := by
  unfold runD
  rw [List.take_succ_eq_append_getElem hi, List.foldl_append]
  rfl
structure Rn (k : Dk) (n : Nat) : Prop where
  keep : k.keep = []
  room : k.room = 0
  armed : k.armed = false
  used : used k.files ≤ n
  named : Named k
theorem Rn.sm {k : Dk} {n m : Nat} (h : Rn k n) (hm : n + m ≤ 70368744177664) : Sm k m := ⟨by rw [h.keep]; simp, by have := h.used; omega, by rw [h.room]; omega⟩
theorem Rn.le {k : Dk} {n m : Nat} (h : Rn k n) (hm : n ≤ m) : Rn k m := ⟨h.keep, h.room, h.armed, Nat.le_trans h.used hm, h.named⟩
theorem goes_un {k : Dk} (h : k.armed = false) : goesD k = (0, k) := by unfold goesD; rw [if_neg (by simp [h])]
theorem used_drop : ∀ {l : List Fl} {nm : ByteArray} {f : Fl}, getF l nm = some f → used (dropF l nm) + f.data.size = used l
  | [], _, _, h => by simp [getF] at h
  | a :: r, nm, f, h => by
    rw [getF] at h
    rw [dropF]
    by_cases h1 : cmpN a.name nm = 0
    · rw [if_pos h1] at h ⊢
      simp at h; subst h
      simp [used]; omega
    · rw [if_neg h1] at h ⊢
      have := used_drop h
      simp only [used, List.map_cons, List.sum_cons] at this ⊢
      omega
theorem used_put_le : ∀ (l : List Fl) (f : Fl), used (putF l f) ≤ used l + f.data.size
  | [], f => by simp [putF, used]
  | a :: r, f => by
    have := used_put_le r f
    rw [putF]
    simp only [used, List.map_cons, List.sum_cons] at this ⊢
    split
    · simp only [List.map_cons, List.sum_cons]; omega
    · split
      · simp only [List.map_cons, List.sum_cons]; omega
      · simp only [List.map_cons, List.sum_cons]; omega
theorem used_put_same {l : List Fl} {f f0 : Fl} (hs : Sorted l) (h : getF l f.name = some f0) (hf : f.data.size ≤ f0.data.size) : used (putF l f) ≤ used l := by
  have := used_putF (f := f) hs
  rw [h] at this
  simp at this
  omega
theorem used_crash : ∀ (l : List Fl) (ks : List Int), used (crashL l ks) ≤ used l
  | [], _ => by simp [crashL, used]
  | f :: r, ks => by
    have := used_crash r ks.tail
    rw [crashL, used_app]
    have h2 : used (f :: r) = f.data.size + used r := by simp [used]
    rw [h2]
    have h3 : used (if 0 < keepN f (ks.headD 0) ∨ f.last = true then [lastF (cutF f (keepN f (ks.headD 0)))] else []) ≤ f.data.size := by
      split
      · simp only [used, List.map_cons, List.map_nil, List.sum_cons, List.sum_nil, lastF, cutF, ByteArray.size_extract]; omega
      · simp [used]
    omega
theorem named_put {l : List Fl} {f : Fl} (h : ∀ x ∈ l, Ok x.name) (hf : Ok f.name) : ∀ x ∈ putF l f, Ok x.name := by
  intro x hx
  rcases mem_putF hx with rfl | hx
  · exact hf
  · exact h x hx
theorem refuse_zero {k : Dk} {nm : ByteArray} (h : refuse k nm = 0) : Ok nm := by
  unfold refuse at h
  split at h
  · split at h
    · omega
    · unfold Ok; omega
  · omega
theorem placeE_ok {k : Dk} {nm : ByteArray} (h : placeE k nm = 0) : refuse k nm = 0 := by
  unfold placeE at h
  split at h
  · rename_i h1; exact absurd h h1
  · rename_i h1; simpa using h1
theorem fileD_name {k : Dk} {nm : ByteArray} (h : placeE k nm = 0) : (fileD k nm).name = nm ∧ fileD k nm ∈ k.files := by
  have := getF_name (place_some h).2
  exact ⟨this.2, this.1⟩
theorem rn_step {k : Dk} {n : Nat} (o : OpD) (hs : Sorted k.files) (h : Rn k n) : Rn (opD k o) (n + o.data.size) := by
  have hsame : Rn k (n + o.data.size) := h.le (by omega)
  have hg := goes_un h.armed
  have hu := h.used
  unfold opD
  split
  · unfold appendD
    split
    · exact hsame
    · rename_i hr
      split
      · exact hsame
      · rw [goes_un (by exact h.armed)]
        refine ⟨h.keep, h.room, h.armed, ?_, ?_⟩
        · show used (putF k.files _) ≤ _
          rw [used_with hs]; omega
        · refine named_put h.named ?_
          have hok := refuse_zero (k := k) (nm := o.name) (by simpa using hr)
          cases hgf : getF k.files o.name with
          | none => exact hok
          | some f => show Ok (withF f o.data).name; rw [show (withF f o.data).name = f.name from rfl, (getF_name hgf).2]; exact hok
  split
  · unfold syncD
    rw [hg]
    split
    · exact hsame
    · rename_i hp
      rw [if_neg (by simp)]
      have hp0 : placeE k o.name = 0 := by simpa using hp
      obtain ⟨hnm, hmem⟩ := fileD_name hp0
      refine ⟨h.keep, h.room, h.armed, ?_, named_put h.named (show Ok (lastF (fileD k o.name)).name from h.named (fileD k o.name) hmem)⟩
      have := used_put_same (l := k.files) (f0 := fileD k o.name) (f := lastF (fileD k o.name)) hs (by show getF k.files (fileD k o.name).name = some (fileD k o.name); rw [hnm]; exact (place_some hp0).2) (Nat.le_refl _)
      show used (putF k.files _) ≤ _
      omega
  split
  · unfold truncD
    rw [hg]
    split
    · exact hsame
    · rename_i hp
      split
      · exact hsame
      · rw [if_neg (by simp)]
        have hp0 : placeE k o.name = 0 := by simpa using hp
        obtain ⟨hnm, hmem⟩ := fileD_name hp0
        refine ⟨h.keep, h.room, h.armed, ?_, named_put h.named (show Ok (cutF (fileD k o.name) o.n.toNat).name from h.named (fileD k o.name) hmem)⟩
        have := used_put_same (l := k.files) (f0 := fileD k o.name) (f := cutF (fileD k o.name) o.n.toNat) hs (by show getF k.files (fileD k o.name).name = some (fileD k o.name); rw [hnm]; exact (place_some hp0).2) (by simp only [cutF, ByteArray.size_extract]; omega)
        show used (putF k.files _) ≤ _
        omega
  split
  · unfold renameD
    rw [hg]
    split
    · exact hsame
    · rename_i hr
      split
      · exact hsame
      · rename_i hp
        rw [if_neg (by simp)]
        have hp0 : placeE k o.name = 0 := by simpa using hp
        refine ⟨h.keep, h.room, h.armed, ?_, named_put (fun x hx => h.named x ((dropF_sub _ _).subset hx)) (refuse_zero (k := k) (nm := o.nt) (by simpa using hr))⟩
        have h1 := used_put_le (dropF k.files o.name) (namedF (fileD k o.name) o.nt)
        have h2 := used_drop (place_some hp0).2
        show used (putF (dropF k.files o.name) _) ≤ _
        have h3 : (namedF (fileD k o.name) o.nt).data.size = (fileD k o.name).data.size := rfl
        omega
  split
  · unfold removeD
    rw [hg]
    split
    · exact hsame
    · rename_i hp
      rw [if_neg (by simp)]
      have hp0 : placeE k o.name = 0 := by simpa using hp
      refine ⟨h.keep, h.room, h.armed, ?_, fun x hx => h.named x ((dropF_sub _ _).subset hx)⟩
      have h2 := used_drop (place_some hp0).2
      show used (dropF k.files o.name) ≤ _
      omega
  split
  · unfold crashD
    split
    · refine ⟨rfl, h.room, rfl, ?_, ?_⟩
      · have := used_crash k.files o.keep
        show used (crashL k.files o.keep) ≤ _
        omega
      · intro x hx
        obtain ⟨f, hf, e⟩ := crash_name k.files o.keep x hx
        rw [e]
        exact h.named f hf
    · exact hsame
  split
  · exact ⟨h.keep, h.room, h.armed, Nat.le_trans h.used (by omega), h.named⟩
  · exact hsame

set_option maxHeartbeats 4000000 in
theorem run_any {W0 W w : World} {O : List Nat} {d : Nat} {k : Dk} {n : Nat} (x : Option Addr) (c : Nat) (l : List OpD) (hW : Touch [] W0 W) (hO : ∀ i ∈ O, W0.heap.size ≤ i) (h : Left d O W k w) (hr : Rn k n) (hn : n + wt l ≤ 1000000) (hl : l.length ≤ 1000) (hi : OpsX W0 x l) :
    Calls Try.prog 28 #[.pointer (some ⟨d, 0, none⟩), .slice x l.length c] w fun e w' => e = .returned (.tuple #[]) ∧ Left d O W (runD k l) w' ∧ Rn (runD k l) (n + wt l) := by
  have HI := hid hi
  have HH := hid h
  have HB := hid (fun k' w' (h' : Left d O W k' w') => Left.base hW hO h')
  have HR := hid hr
  have HN := hid hn
  clear h hr hn hi hW hO
  go_enter Try.func28, Try.ntmps28
  go_wp2
  go_loopw [4] (fun iv wr => ∃ i : Nat, i ≤ l.length ∧ iv = .int .i64 i ∧ Hid (Left d O W (runD k (l.take i)) wr ∧ Rn (runD k (l.take i)) (n + wt (l.take i)))) (fun iv _ => l.length - (RowKit.intOf iv).toNat)
  case atStart => exact ⟨0, Nat.zero_le _, rfl, hid ⟨HH.out, by simpa [runD, wt] using HR.out⟩⟩
  case round =>
    obtain ⟨i, hile, rfl, I⟩ := hrel
    by_cases hlt : i < l.length
    · have hlt' : decide (i < l.length) = true := by simpa using hlt
      obtain ⟨b, off, rfl, ⟨g0, g1, g2, g3, g4, g5⟩, hok⟩ := HI.out i hlt
      obtain ⟨q, hq⟩ : ∃ q, q = runD k (l.take i) := ⟨_, rfl⟩
      have hI := hid I.out
      rw [← hq] at hI
      have hstep : Hid (runD k (l.take (i + 1)) = opD q l[i]) := hid (by rw [hq]; exact run_snoc k l i hlt)
      have hwt := hid (wt_snoc l i hlt)
      have hle : wt (l.take (i + 1)) ≤ wt l := by
        unfold wt
        conv => rhs; rw [← List.take_append_drop (i + 1) l, List.map_append, List.sum_append]
        omega
      have hNle := hid (show n + wt (l.take i) + l[i].data.size + l[i].keep.length ≤ 1000000 by have := hwt.out; have h2 : l[i].wt = l[i].name.size + l[i].nt.size + l[i].data.size + l[i].keep.length := rfl; have := HN.out; omega)
      have hRn : Hid (Rn (opD q l[i]) (n + wt (l.take (i + 1)))) := hid ((rn_step l[i] hI.out.1.sorted hI.out.2).le (by rw [hwt.out]; have h2 : l[i].wt = l[i].name.size + l[i].nt.size + l[i].data.size + l[i].keep.length := rfl; omega))
      have T := hid (HB.out _ _ hI.out.1)
      have S : Hid (∀ w', Touch [] W0 w' → w'.cell? ⟨b, off + i * 6 + 1, none⟩ = some (.int .i64 l[i].n) ∧ w'.cell? ⟨b, off + i * 6 + 2, none⟩ = some (.string l[i].name) ∧ w'.cell? ⟨b, off + i * 6 + 3, none⟩ = some (.string l[i].nt) ∧ w'.cell? ⟨b, off + i * 6 + 4, none⟩ = some (.string l[i].data) ∧ w'.cell? ⟨b, off + i * 6 + 5, none⟩ = some (.slice l[i].kx l[i].keep.length l[i].kc)) :=
        hid fun w' t => ⟨touch_cell t g1 (by simp), touch_cell t g2 (by simp), touch_cell t g3 (by simp), touch_cell t g4 (by simp), touch_cell t g5 (by simp)⟩
      have c0 := touch_cell T.out g0 (by simp)
      obtain ⟨c1, c2, c3, c4, c5⟩ := S.out wr T.out
      have hop : Hid (opD q l[i] = opD q l[i]) := hid rfl
      have KI := hid (fun w' (t : Touch [] W0 w') => (show IntsR w' l[i].kx l[i].keep from fun j hj => by obtain ⟨b, o, e, cc⟩ := hok.1 j hj; exact ⟨b, o, e, touch_cell t cc (by simp)⟩))
      have C1 : Hid (l[i].kind = 1 → ∀ w1, Left d O W q w1 → Calls Try.prog 15 #[.pointer (some ⟨d, 0, none⟩), .string l[i].name, .string l[i].data] w1 fun e w' => ∃ r, e = .returned (.int .i64 r) ∧ Left d O W (opD q l[i]) w') := hid (fun hk w1 h1 => (append_left h1 (hI.out.2.sm (by have := hNle.out; omega)) rfl).mono (by rintro e w' ⟨rfl, h'⟩; exact ⟨_, rfl, by unfold opD; rw [if_pos hk]; exact h'⟩))
      have C2 : Hid (l[i].kind = 2 → ∀ w1, Left d O W q w1 → Calls Try.prog 16 #[.pointer (some ⟨d, 0, none⟩), .string l[i].name] w1 fun e w' => ∃ r, e = .returned (.int .i64 r) ∧ Left d O W (opD q l[i]) w') := hid (fun hk w1 h1 => (sync_left h1 (hI.out.2.sm (by have := hNle.out; omega)) rfl).mono (by rintro e w' ⟨rfl, h'⟩; exact ⟨_, rfl, by unfold opD; rw [if_neg (by omega), if_pos hk]; exact h'⟩))
      have C3 : Hid (l[i].kind = 3 → ∀ w1, Left d O W q w1 → Calls Try.prog 17 #[.pointer (some ⟨d, 0, none⟩), .string l[i].name, .int .i64 l[i].n] w1 fun e w' => ∃ r, e = .returned (.int .i64 r) ∧ Left d O W (opD q l[i]) w') := hid (fun hk w1 h1 => (trunc_left h1 (hI.out.2.sm (by have := hNle.out; omega)) rfl).mono (by rintro e w' ⟨rfl, h'⟩; exact ⟨_, rfl, by unfold opD; rw [if_neg (by omega), if_neg (by omega), if_pos hk]; exact h'⟩))
      have C4 : Hid (l[i].kind = 4 → ∀ w1, Left d O W q w1 → Calls Try.prog 18 #[.pointer (some ⟨d, 0, none⟩), .string l[i].name, .string l[i].nt] w1 fun e w' => ∃ r, e = .returned (.int .i64 r) ∧ Left d O W (opD q l[i]) w') := hid (fun hk w1 h1 => (rename_left h1 (hI.out.2.sm (by have := hNle.out; omega)) rfl).mono (by rintro e w' ⟨rfl, h'⟩; exact ⟨_, rfl, by unfold opD; rw [if_neg (by omega), if_neg (by omega), if_neg (by omega), if_pos hk]; exact h'⟩))
      have C5 : Hid (l[i].kind = 5 → ∀ w1, Left d O W q w1 → Calls Try.prog 19 #[.pointer (some ⟨d, 0, none⟩), .string l[i].name] w1 fun e w' => ∃ r, e = .returned (.int .i64 r) ∧ Left d O W (opD q l[i]) w') := hid (fun hk w1 h1 => (remove_left h1 (hI.out.2.sm (by have := hNle.out; omega)) rfl).mono (by rintro e w' ⟨rfl, h'⟩; exact ⟨_, rfl, by unfold opD; rw [if_neg (by omega), if_neg (by omega), if_neg (by omega), if_neg (by omega), if_pos hk]; exact h'⟩))
      have C6 : Hid (l[i].kind = 6 → ∀ w1, Left d O W q w1 → Calls Try.prog 21 #[.pointer (some ⟨d, 0, none⟩), .slice l[i].kx l[i].keep.length l[i].kc] w1 fun e w' => ∃ r, e = .returned (.int .i64 r) ∧ Left d O W (opD q l[i]) w') := hid (fun hk w1 h1 => (crash_left h1 (hI.out.2.sm (by have := hNle.out; omega)) (KI.out w1 (HB.out _ _ h1)) rfl (by have := hNle.out; omega) rfl rfl).mono (by rintro e w' ⟨rfl, h'⟩; exact ⟨_, rfl, by unfold opD; rw [if_neg (by omega), if_neg (by omega), if_neg (by omega), if_neg (by omega), if_neg (by omega), if_pos hk]; exact h'⟩))
      have C7 : Hid (l[i].kind = 7 → ∀ w1, Left d O W q w1 → Calls Try.prog 10 #[.pointer (some ⟨d, 0, none⟩)] w1 fun e w' => e = .returned (.tuple #[]) ∧ Left d O W (opD q l[i]) w') := hid (fun hk w1 h1 => (restore_left h1 rfl).mono (by rintro e w' ⟨rfl, h'⟩; exact ⟨rfl, by unfold opD; rw [if_neg (by omega), if_neg (by omega), if_neg (by omega), if_neg (by omega), if_neg (by omega), if_neg (by omega), if_pos hk]; exact h'⟩))
      have C8 : Hid (l[i].kind ≠ 1 ∧ l[i].kind ≠ 2 ∧ l[i].kind ≠ 3 ∧ l[i].kind ≠ 4 ∧ l[i].kind ≠ 5 ∧ l[i].kind ≠ 6 ∧ l[i].kind ≠ 7 → opD q l[i] = q) := hid (by rintro ⟨h1, h2, h3, h4, h5, h6, h7⟩; unfold opD; rw [if_neg h1, if_neg h2, if_neg h3, if_neg h4, if_neg h5, if_neg h6, if_neg h7])
      have HQ := hid (fun w1 (t : Touch [] wr w1) => hI.out.1.touch t)
      have HS := hid (fun w' (t : Touch [] wr w') => S.out w' (T.out.trans t nil_mem))
      clear g0 g1 g2 g3 g4 g5 hok hq hle
      generalize opD q l[i] = q' at *
      generalize l[i].kind = kd at *
      generalize l[i].n = on at *
      generalize l[i].name = nm at *
      generalize l[i].nt = nt at *
      generalize l[i].data = da at *
      generalize l[i].kx = kx at *
      generalize l[i].kc = kc at *
      generalize l[i].keep.length = kn at *
      by_cases k1 : kd = 1
      · subst k1
        go_wp2
        go_region_held3 (fun w' => w'.cell? ⟨b, off + i * 6 + 2, none⟩ = some (.string nm) ∧ w'.cell? ⟨b, off + i * 6 + 4, none⟩ = some (.string da)) (first | go_keep | (obtain ⟨z1, z2, z3, z4, z5⟩ := HS.out _ (by first | exact (Touch.refl [] wr).drew | exact Touch.refl _ _); exact ⟨z2, z4⟩) | (obtain ⟨z1, z2, z3, z4, z5⟩ := S.out _ (by assumption); exact ⟨z2, z4⟩)) ((go_at_call 15; refine (C1.out (by first | rfl | trivial) _ (HQ.out _ (by first | exact (Touch.refl [] wr).drew | exact Touch.refl _ _ | exact (Touch.refl [] wr).drewN _))).mono ?_; rintro e w3 ⟨r, rfl, h3⟩; have tw3 := HB.out _ _ h3; have H3 := hid h3; clear h3))
        all_goals
          go_wp2
          go_roundw
          case rel => exact ⟨i + 1, by omega, by go_num, hid ⟨by rw [hstep.out]; exact H3.out, by rw [hstep.out]; exact hRn.out⟩⟩
          case measure => simp [RowKit.intOf]; omega
      have n1 : (kd == 1) = false := by rw [beq_eq_false_iff_ne]; exact k1
      by_cases k2 : kd = 2
      · subst k2
        go_wp2_with (go_at_call 16; with_reducible refine (C2.out rfl _ (HQ.out _ (Touch.refl _ _))).mono ?_; rintro e w3 ⟨r, rfl, h3⟩; have H3 := hid h3; clear h3)
        go_roundw
        case rel => exact ⟨i + 1, by omega, by go_num, hid ⟨by rw [hstep.out]; exact H3.out, by rw [hstep.out]; exact hRn.out⟩⟩
        case measure => simp [RowKit.intOf]; omega
      have n2 : (kd == 2) = false := by rw [beq_eq_false_iff_ne]; exact k2
      by_cases k3 : kd = 3
      · subst k3
        go_wp2
        go_region_held3 (fun w' => w'.cell? ⟨b, off + i * 6 + 2, none⟩ = some (.string nm) ∧ w'.cell? ⟨b, off + i * 6 + 1, none⟩ = some (.int .i64 on)) (first | go_keep | (obtain ⟨z1, z2, z3, z4, z5⟩ := HS.out _ (by first | exact (Touch.refl [] wr).drew | exact Touch.refl _ _); exact ⟨z2, z1⟩) | (obtain ⟨z1, z2, z3, z4, z5⟩ := S.out _ (by assumption); exact ⟨z2, z1⟩)) ((go_at_call 17; refine (C3.out (by first | rfl | trivial) _ (HQ.out _ (by first | exact (Touch.refl [] wr).drew | exact Touch.refl _ _ | exact (Touch.refl [] wr).drewN _))).mono ?_; rintro e w3 ⟨r, rfl, h3⟩; have tw3 := HB.out _ _ h3; have H3 := hid h3; clear h3))
        all_goals
          go_wp2
          go_roundw
          case rel => exact ⟨i + 1, by omega, by go_num, hid ⟨by rw [hstep.out]; exact H3.out, by rw [hstep.out]; exact hRn.out⟩⟩
          case measure => simp [RowKit.intOf]; omega
      have n3 : (kd == 3) = false := by rw [beq_eq_false_iff_ne]; exact k3
      by_cases k4 : kd = 4
      · subst k4
        go_wp2
        go_region_held3 (fun w' => w'.cell? ⟨b, off + i * 6 + 2, none⟩ = some (.string nm) ∧ w'.cell? ⟨b, off + i * 6 + 3, none⟩ = some (.string nt)) (first | go_keep | (obtain ⟨z1, z2, z3, z4, z5⟩ := HS.out _ (by first | exact (Touch.refl [] wr).drew | exact Touch.refl _ _); exact ⟨z2, z3⟩) | (obtain ⟨z1, z2, z3, z4, z5⟩ := S.out _ (by assumption); exact ⟨z2, z3⟩)) ((go_at_call 18; refine (C4.out (by first | rfl | trivial) _ (HQ.out _ (by first | exact (Touch.refl [] wr).drew | exact Touch.refl _ _ | exact (Touch.refl [] wr).drewN _))).mono ?_; rintro e w3 ⟨r, rfl, h3⟩; have tw3 := HB.out _ _ h3; have H3 := hid h3; clear h3))
        all_goals
          go_wp2
          go_roundw
          case rel => exact ⟨i + 1, by omega, by go_num, hid ⟨by rw [hstep.out]; exact H3.out, by rw [hstep.out]; exact hRn.out⟩⟩
          case measure => simp [RowKit.intOf]; omega
      have n4 : (kd == 4) = false := by rw [beq_eq_false_iff_ne]; exact k4
      by_cases k5 : kd = 5
      · subst k5
        go_wp2_with (go_at_call 19; with_reducible refine (C5.out rfl _ (HQ.out _ (Touch.refl _ _))).mono ?_; rintro e w3 ⟨r, rfl, h3⟩; have H3 := hid h3; clear h3)
        go_roundw
        case rel => exact ⟨i + 1, by omega, by go_num, hid ⟨by rw [hstep.out]; exact H3.out, by rw [hstep.out]; exact hRn.out⟩⟩
        case measure => simp [RowKit.intOf]; omega
      have n5 : (kd == 5) = false := by rw [beq_eq_false_iff_ne]; exact k5
      by_cases k6 : kd = 6
      · subst k6
        go_wp2_with (go_at_call 21; with_reducible refine (C6.out rfl _ (HQ.out _ (Touch.refl _ _))).mono ?_; rintro e w3 ⟨r, rfl, h3⟩; have H3 := hid h3; clear h3)
        go_roundw
        case rel => exact ⟨i + 1, by omega, by go_num, hid ⟨by rw [hstep.out]; exact H3.out, by rw [hstep.out]; exact hRn.out⟩⟩
        case measure => simp [RowKit.intOf]; omega
      have n6 : (kd == 6) = false := by rw [beq_eq_false_iff_ne]; exact k6
      by_cases k7 : kd = 7
      · subst k7
        go_wp2_with (go_at_call 10; with_reducible refine (C7.out rfl _ (HQ.out _ (Touch.refl _ _))).mono ?_; rintro e w3 ⟨rfl, h3⟩; have H3 := hid h3; clear h3)
        go_roundw
        case rel => exact ⟨i + 1, by omega, by go_num, hid ⟨by rw [hstep.out]; exact H3.out, by rw [hstep.out]; exact hRn.out⟩⟩
        case measure => simp [RowKit.intOf]; omega
      have n7 : (kd == 7) = false := by rw [beq_eq_false_iff_ne]; exact k7
      have hsame : q' = q := C8.out ⟨k1, k2, k3, k4, k5, k6, k7⟩
      subst hsame
      clear k1 k2 k3 k4 k5 k6 k7
      go_wp2
      go_roundw
      case rel => exact ⟨i + 1, by omega, by go_num, hid ⟨by rw [hstep.out]; exact HQ.out _ (Touch.refl _ _), by rw [hstep.out]; exact hRn.out⟩⟩
      case measure => simp [RowKit.intOf]; omega
    · obtain rfl : i = l.length := by omega
      have hI := hid I.out
      rw [List.take_of_length_le (Nat.le_refl _)] at hI
      clear I
      go_wp2
      exact bodyPost_end (results_none rfl _ _ _) rfl ⟨rfl, hI.out.1, hI.out.2⟩
end Go.Proofs.Ythibabfojndlkaa
