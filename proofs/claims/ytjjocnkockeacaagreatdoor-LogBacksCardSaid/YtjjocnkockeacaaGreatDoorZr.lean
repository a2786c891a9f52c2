/- add. A log by its chunks; add by plain lists. Append, Sync. -/
import Derived.Test.YtjjocnkockeacaaGreatDoorYLn11
import Derived.Test.YtjjocnkockeacaaGreatDoorYGd11
import Derived.StillTailTactics
namespace Go.Proofs.YtjjocnkockeacaaGreatDoor
open Go.RowKit Go.Lib
set_option maxRecDepth 100000

theorem len_ld {O : List Nat} {W w : World} {d b : Nat} {k : Dk} {S : Lg} (h : LD O W w d k b S) :
    Calls Tryz.prog 17 #[.pointer (some ⟨b, 0, none⟩)] w fun e w' => e = .returned (.int .i64 S.bodies.length) ∧ w' = w := by
  obtain ⟨rv, kv, L, pv, lv, own, H⟩ := h
  exact llen_any H.log.cells
theorem ld_c7 {O : List Nat} {W w : World} {d b : Nat} {k : Dk} {S : Lg} (h : LD O W w d k b S) : w.cell? ⟨b, 7, none⟩ = some (.int .i64 S.synced) ∧ w.frozen? ⟨b, 7, none⟩ = false := by
  obtain ⟨rv, kv, L, pv, lv, own, H⟩ := h
  exact ⟨(lg_cell H.log.cells).2.2.2.2.2.2.2.1, free_of H.log.cells 7⟩
/-- A number put into the log's own block, beside its rows. -/
theorem ld_set {O : List Nat} {W w : World} {d b i : Nat} {k : Dk} {S S' : Lg} {u : Value} (h : LD O W w d k b S) (hc : ∀ pv lv, (lgCells d S pv lv).setIfInBounds i u = lgCells d S' pv lv) (hp : S'.parts = S.parts) (hb : S'.bodies = S.bodies) : LD O W (w.setCell ⟨b, i, none⟩ u) d k b S' := by
  obtain ⟨rv, kv, L, pv, lv, own, H⟩ := h
  have t1 : Touch [b] w (w.setCell ⟨b, i, none⟩ u) := (Touch.refl [b] w).setCell (.inl (by simp)) _
  have nb := H.log.not_own
  refine H.logged (F := [b]) (pv' := pv) (lv' := lv) (own' := own) ⟨by rw [← hc]; exact heap_set H.log.cells u, ?_, ?_⟩ t1 (fun i hi => by simp at hi; simp [hi, lgOwn]) (fun i hi => .inl hi)
  · rw [hp]
    refine own_touch H.log.parts t1 fun i hi hm => ?_
    obtain ⟨cs, ty, fz, h4, h5⟩ := row_type H.log.parts (ts := [tPart]) (by simp) _ hi
    obtain rfl : ty = tPart := by simpa using h5
    obtain rfl : i = b := by simpa using hm
    exact ne_type h4 H.log.cells (by decide) rfl
  · rw [hb]
    refine H.log.list.touch t1 fun i hi hm => ?_
    obtain rfl : i = b := by simpa using hm
    exact nb hi
theorem ld_synced {O : List Nat} {W w : World} {d b : Nat} {k : Dk} {S : Lg} (h : LD O W w d k b S) (n : Nat) : LD O W (w.setCell ⟨b, 7, none⟩ (.int .i64 (n : Int))) d k b { S with synced := n } := ld_set h (fun _ _ => rfl) rfl rfl
theorem ladd_first {O : List Nat} {W w : World} {d b : Nat} {k : Dk} {S : Lg} {M : World → Prop} (h : LD O W w d k b S) (hp : S.parts = []) (body : ByteArray)
    (CW : ∀ w', Touch [] w w' → Calls Tryz.prog 74 #[.pointer (some ⟨b, 0, none⟩), .int .i64 0, .string body] w' fun e w'' => e = .returned (.int .i64 0) ∧ M w'') :
    Calls Tryz.prog 37 #[.pointer (some ⟨b, 0, none⟩), .string body] w fun e w' => e = .returned (.int .i64 0) ∧ M w' := by
  obtain ⟨rv, kv, L, pv, lv, own, H⟩ := h
  obtain ⟨c0, c1, c2, c3, c4, -⟩ := lg_cell H.log.cells
  obtain ⟨x, c, hpv, -, -, -⟩ := part_form H.log.parts
  rw [hp] at hpv
  subst hpv
  have C := hid CW
  clear CW H c0 c1
  obtain ⟨ι, f, ⟨θ0, hθ0⟩, inst, FT, FE⟩ := held_class w
  have F2 : ∀ θ, (f θ).cell? ⟨b, 2, none⟩ = some (.int .i64 S.size) := fun θ => (FT.out θ).cell c2
  have F4 : ∀ θ, (f θ).cell? ⟨b, 4, none⟩ = some (.int .i64 S.used) := fun θ => (FT.out θ).cell c4
  go_enter Tryz.func37, Tryz.ntmps37
  go_wp2_with fail
  refine wp_region_held f θ0 (by kernel_rfl) (by kernel_rfl) hθ0 ?_
  repeat go_big_quiet_step (fail)
  refine wpQuiet_nil ?_
  rintro _ ⟨θ, rfl⟩
  have TT := hid (FT.out θ)
  go_wp2_with fail
  refine (C.out _ TT.out).mono ?_
  rintro e w2 ⟨rfl, hM⟩
  have HM := hid hM
  go_wp2_with fail
  go_ret
  exact ⟨rfl, HM.out⟩
theorem ladd_fits {O : List Nat} {W w : World} {d b : Nat} {k : Dk} {S : Lg} {M : World → Prop} (h : LD O W w d k b S) (m : Nat) (hp : S.parts.length = m + 1) (hm : m < 100) (body : ByteArray) (hr : (body.size : Int) ≤ roomV S.size S.used) (hz : S.size ≤ 1000000) (hu : S.used ≤ 1000000000)
    (CW : ∀ w', Touch [] w w' → Calls Tryz.prog 74 #[.pointer (some ⟨b, 0, none⟩), .int .i64 m, .string body] w' fun e w'' => e = .returned (.int .i64 0) ∧ M w'') :
    Calls Tryz.prog 37 #[.pointer (some ⟨b, 0, none⟩), .string body] w fun e w' => e = .returned (.int .i64 0) ∧ M w' := by
  obtain ⟨rv, kv, L, pv, lv, own, H⟩ := h
  obtain ⟨c0, c1, c2, c3, c4, -⟩ := lg_cell H.log.cells
  obtain ⟨x, c, hpv, -, -, -⟩ := part_form H.log.parts
  rw [hp] at hpv
  subst hpv
  have C := hid CW
  have CR := hid fun w => room_any S.size S.used w (by omega) (by omega)
  clear CW H c0 c1
  generalize hrv : roomV S.size S.used = rv at *
  obtain ⟨ι, f, ⟨θ0, hθ0⟩, inst, FT, FE⟩ := held_class w
  have F2 : ∀ θ, (f θ).cell? ⟨b, 2, none⟩ = some (.int .i64 S.size) := fun θ => (FT.out θ).cell c2
  have F4 : ∀ θ, (f θ).cell? ⟨b, 4, none⟩ = some (.int .i64 S.used) := fun θ => (FT.out θ).cell c4
  have FR := hid fun θ => (CR.out (f θ)).mono fun e w'' ⟨he, h2⟩ => And.intro he (Exists.intro (p := fun θ' => w'' = f θ') θ h2.symm)
  have m0 : decide ((m : Int) < 0) = false := decide_eq_false (by omega)
  have m1 : max (m : Int) 0 = m := by omega
  have hr2 : decide ((body.size : Int) ≤ rv) = true := decide_eq_true hr
  go_enter Tryz.func37, Tryz.ntmps37
  go_wp2_with fail
  refine wp_region_held f θ0 (by kernel_rfl) (by kernel_rfl) hθ0 ?_
  repeat go_big_quiet_step (exact FR.out _)
  refine wpQuiet_nil ?_
  rintro _ ⟨θ, rfl⟩
  have TT := hid (FT.out θ)
  go_wp2_with fail
  refine (C.out _ TT.out).mono ?_
  rintro e w2 ⟨rfl, hM⟩
  have HM := hid hM
  go_wp2_with fail
  go_ret
  exact ⟨rfl, HM.out⟩
theorem ladd_next {O : List Nat} {W w : World} {d b : Nat} {k k2 k3 : Dk} {S S3 : Lg} (h : LD O W w d k b S) (m : Nat) (hp : S.parts.length = m + 1) (hm : m < 90) (body : ByteArray) (hr : roomV S.size S.used < (body.size : Int)) (hz : S.size ≤ 1000000) (hu : S.used ≤ 1000000000)
    (CF : ∀ w', LD O W w' d k b S → Calls Tryz.prog 75 #[.pointer (some ⟨b, 0, none⟩), .int .i64 m] w' fun e w'' => e = .returned (.int .i64 0) ∧ LD O W w'' d k2 b S)
    (CW : ∀ w', LD O W w' d k2 b S → Calls Tryz.prog 74 #[.pointer (some ⟨b, 0, none⟩), .int .i64 ((m + 1 : Nat) : Int), .string body] w' fun e w'' => e = .returned (.int .i64 0) ∧ LD O W w'' d k3 b S3) :
    Calls Tryz.prog 37 #[.pointer (some ⟨b, 0, none⟩), .string body] w fun e w' => e = .returned (.int .i64 0) ∧ LD O W w' d k3 b { S3 with synced := S.bodies.length } := by
  have HL := hid h
  obtain ⟨rv, kv, L, pv, lv, own, H⟩ := h
  obtain ⟨c0, c1, c2, c3, c4, -⟩ := lg_cell H.log.cells
  obtain ⟨x, c, hpv, -, -, -⟩ := part_form H.log.parts
  rw [hp] at hpv
  subst hpv
  have CFh := hid CF
  have CWh := hid CW
  have CR := hid fun w => room_any S.size S.used w (by omega) (by omega)
  clear CW CF H c0 c1
  generalize hrv : roomV S.size S.used = rv at *
  obtain ⟨ι, f, ⟨θ0, hθ0⟩, inst, FT, FE⟩ := held_class w
  have F2 : ∀ θ, (f θ).cell? ⟨b, 2, none⟩ = some (.int .i64 S.size) := fun θ => (FT.out θ).cell c2
  have F4 : ∀ θ, (f θ).cell? ⟨b, 4, none⟩ = some (.int .i64 S.used) := fun θ => (FT.out θ).cell c4
  have FR := hid fun θ => (CR.out (f θ)).mono fun e w'' ⟨he, h2⟩ => And.intro he (Exists.intro (p := fun θ' => w'' = f θ') θ h2.symm)
  have m0 : decide ((m : Int) < 0) = false := decide_eq_false (by omega)
  have hr2 : decide ((body.size : Int) ≤ rv) = false := decide_eq_false (by omega)
  go_enter Tryz.func37, Tryz.ntmps37
  go_wp2_with fail
  refine wp_region_held f θ0 (by kernel_rfl) (by kernel_rfl) hθ0 ?_
  repeat go_big_quiet_step (exact FR.out _)
  refine wpQuiet_nil ?_
  rintro _ ⟨θ, rfl⟩
  have TT := hid (FT.out θ)
  have hmm : ((m + 1 : Nat) : Int) = (m : Int) + 1 := by omega
  rw [hmm] at CWh
  have H1 := hid (HL.out.touch TT.out)
  clear F2 F4 FR hθ0 inst FT FE c2 c3 c4
  go_wp2_with fail
  refine (CFh.out _ H1.out).mono ?_
  rintro e w2 ⟨rfl, h2⟩
  have H2 := hid h2
  have CL2 := hid (len_ld h2)
  clear h2
  go_wp2_with (first
    | (go_at_call 17; refine CL2.out.mono ?_; rintro e w3 ⟨rfl, hw3⟩; rw [hw3])
    | (go_at_call 74; refine (CWh.out _ H2.out).mono ?_; rintro e w4 ⟨rfl, h4⟩; have H4 := hid h4; obtain ⟨k7, z7⟩ := ld_c7 h4; clear h4))
  go_ret
  exact ⟨rfl, ld_synced H4.out _⟩
end Go.Proofs.YtjjocnkockeacaaGreatDoor

namespace Go.Proofs.YtjjocnkockeacaaGreatDoor
open Go.RowKit Go.Lib
set_option maxRecDepth 100000

/-- What a log's own fields say of the chunks. -/
structure Sg (S : Lg) (z : Nat) (cs : List (List ByteArray)) : Prop where
  size : S.size = z
  parts : S.parts = cs.map fun c => (z, c.length)
  bodies : S.bodies = cs.flatten
  broken : S.broken = 0
  used : ∀ init lc, cs = init ++ [lc] → S.used = takenN lc
/-- The files of a log's chunks, the last of them open. -/
def filesC (z : Nat) (cs : List (List ByteArray)) (sy : Nat) (la : Bool) (tail : List Fl) : List Fl :=
  match cs.getLast? with
  | none => tail
  | some lc => doneL z 0 cs.dropLast ++ openF z (cs.length - 1) lc sy la :: tail
theorem filesC_nil (z sy : Nat) (la : Bool) (tail : List Fl) : filesC z [] sy la tail = tail := rfl
theorem filesC_snoc (z : Nat) (init : List (List ByteArray)) (lc : List ByteArray) (sy : Nat) (la : Bool) (tail : List Fl) : filesC z (init ++ [lc]) sy la tail = doneL z 0 init ++ openF z init.length lc sy la :: tail := by
  unfold filesC
  simp
/-- What is asked of the chunks' sizes. -/
structure Bd (z : Nat) (cs : List (List ByteArray)) : Prop where
  z1 : 100 ≤ z
  z2 : z ≤ 1000000
  len : cs.length ≤ 70
  many : cs.flatten.length ≤ 150
  small : ∀ s ∈ cs.flatten, s.size ≤ 3999
theorem Bd.taken {z : Nat} {cs : List (List ByteArray)} (h : Bd z cs) : takenN cs.flatten ≤ 700000 := by
  have h1 := taken_le cs.flatten 3999 h.small
  have h2 := h.many
  have : (3999 + 13) * cs.flatten.length ≤ 4012 * 150 := Nat.mul_le_mul (by omega) h2
  omega
theorem Bd.used {z : Nat} {cs : List (List ByteArray)} (h : Bd z cs) (sy : Nat) (la : Bool) (tail : List Fl) : used (filesC z cs sy la tail) ≤ 710000 + used tail := by
  have ht := h.taken
  rcases List.eq_nil_or_concat cs with rfl | ⟨init, lc, rfl⟩
  · rw [filesC_nil]; omega
  · rw [List.concat_eq_append, filesC_snoc, used_app, used_done, used_cons]
    rw [List.concat_eq_append] at h ht
    have hl := h.len
    rw [List.flatten_append, takenN_app] at ht
    have e : takenN ([lc] : List (List ByteArray)).flatten = takenN lc := by simp
    rw [e] at ht
    have e2 : (openF z init.length lc sy la).data.size = 33 + takenN lc := openB_size _ _ _
    rw [e2]
    simp at hl
    omega
/-- A record behind these chunks. -/
def addC (z : Nat) (cs : List (List ByteArray)) (s : ByteArray) : List (List ByteArray) :=
  match cs.getLast? with
  | none => [[s]]
  | some lc => if (s.size : Int) ≤ roomV z (takenN lc) then cs.dropLast ++ [lc ++ [s]] else cs ++ [[s]]
theorem addC_nil (z : Nat) (s : ByteArray) : addC z [] s = [[s]] := rfl
theorem addC_snoc (z : Nat) (init : List (List ByteArray)) (lc : List ByteArray) (s : ByteArray) : addC z (init ++ [lc]) s = if (s.size : Int) ≤ roomV z (takenN lc) then init ++ [lc ++ [s]] else init ++ [lc] ++ [[s]] := by
  unfold addC
  simp
theorem addC_flat (z : Nat) (cs : List (List ByteArray)) (s : ByteArray) : (addC z cs s).flatten = cs.flatten ++ [s] := by
  rcases List.eq_nil_or_concat cs with rfl | ⟨init, lc, rfl⟩
  · rfl
  · rw [List.concat_eq_append, addC_snoc]
    split <;> simp
theorem addC_len (z : Nat) (cs : List (List ByteArray)) (s : ByteArray) : (addC z cs s).length ≤ cs.length + 1 := by
  rcases List.eq_nil_or_concat cs with rfl | ⟨init, lc, rfl⟩
  · simp [addC_nil]
  · rw [List.concat_eq_append, addC_snoc]
    split <;> simp
theorem addC_ne (z : Nat) (cs : List (List ByteArray)) (s : ByteArray) (h : ∀ c ∈ cs, c ≠ []) : ∀ c ∈ addC z cs s, c ≠ [] := by
  rcases List.eq_nil_or_concat cs with rfl | ⟨init, lc, rfl⟩
  · simp [addC_nil]
  · rw [List.concat_eq_append] at h ⊢
    rw [addC_snoc]
    split
    · intro c hc
      rcases List.mem_append.1 hc with hc | hc
      · exact h c (by simp [hc])
      · simp at hc; subst hc; simp
    · intro c hc
      rcases List.mem_append.1 hc with hc | hc
      · exact h c hc
      · simp at hc; subst hc; simp
theorem Bd.add {z : Nat} {cs : List (List ByteArray)} (h : Bd z cs) (s : ByteArray) (hs : s.size ≤ 3999) (h1 : cs.length < 70) (h2 : cs.flatten.length < 150) : Bd z (addC z cs s) := by
  refine ⟨h.z1, h.z2, by have := addC_len z cs s; omega, by rw [addC_flat]; simp only [List.length_append, List.length_cons, List.length_nil]; omega, ?_⟩
  rw [addC_flat]
  intro x hx
  rcases List.mem_append.1 hx with hx | hx
  · exact h.small x hx
  · simp at hx; subst hx; exact hs
theorem doneL_lt {z k n : Nat} {cs : List (List ByteArray)} (hn : k + cs.length ≤ n) (h : n ≤ 100) : ∀ x ∈ doneL z k cs, cmpN x.name (nameK n) < 0 := by
  intro x hx
  obtain ⟨i, h1, h2, h3⟩ := doneL_name z k cs x hx
  rw [h3]
  exact nameK_lt (by omega) h
/-- A log on its disk. -/
structure Lst (O : List Nat) (W w : World) (d b z : Nat) (cs : List (List ByteArray)) (sy : Nat) (la : Bool) (tail : List Fl) (mk : Nat) (k : Dk) (S : Lg) : Prop where
  ld : LD O W w d k b S
  gd : Gd k (filesC z cs sy la tail)
  sg : Sg S z cs
  bd : Bd z cs
  mrk : S.mark = mk

theorem ladd_any {O : List Nat} {W w : World} {d b z : Nat} {cs : List (List ByteArray)} {sy : Nat} {la : Bool} {mk : Nat} {k : Dk} {S : Lg} (h : Lst O W w d b z cs sy la [] mk k S) (body : ByteArray) (hs : body.size ≤ 3999) (h1 : cs.length < 70) (h2 : cs.flatten.length < 150) :
    Calls Tryz.prog 37 #[.pointer (some ⟨b, 0, none⟩), .string body] w fun e w' => e = .returned (.int .i64 0) ∧ ∃ k' S' sy' la', Lst O W w' d b z (addC z cs body) sy' la' [] mk k' S' := by
  obtain ⟨hld, hgd, hsg, hbd, hmk⟩ := h
  have hbd2 := hbd.add body hs h1 h2
  have hta := hbd.taken
  rcases List.eq_nil_or_concat cs with rfl | ⟨init, lc, rfl⟩
  · -- the first record
    rw [filesC_nil] at hgd
    rw [addC_nil] at hbd2 ⊢
    obtain ⟨e1, e2⟩ := hgd.append_new (stB z 0 ++ recB body) (okN_name 0) (by simp) (by simp)
    have hp : S.parts = [] := hsg.parts
    have hC : WCase S 0 [(S.size, 0)] (stB S.size 0) 0 := .inr ⟨by rw [hp]; rfl, by rw [hp]; rfl, rfl, rfl, by rw [hsg.size]; exact hbd.z1, by rw [hsg.size]; exact hbd.z2⟩
    refine (ladd_first (M := fun w' => LD O W w' d { k with files := [] ++ [⟨nameK 0, stB z 0 ++ recB body, 0, false⟩] } b { S with parts := [(S.size, 0)].set 0 (S.size, 0 + 1), used := 0 + (body.size + 13), bodies := S.bodies ++ [body] }) hld hp body fun w' t => ?_).mono ?_
    · exact lwrite_any (hld.touch t) 0 S.size 0 0 _ _ hC rfl (by omega) (by omega) body hs (hgd.sm (by rw [stB_size]; simp [used]; omega)) (by omega) (by rw [hsg.bodies]; simp) (by rw [hsg.size]; exact e1)
    · rintro e w' ⟨rfl, hl⟩
      refine ⟨rfl, _, _, 0, false, hl, ?_, ⟨hsg.size, ?_, ?_, hsg.broken, ?_⟩, hbd2, hmk⟩
      · have := hgd.with_ e2
        rw [show ([[body]] : List (List ByteArray)) = [] ++ [[body]] from rfl, filesC_snoc]
        rw [openB_new] at this ⊢
        exact this
      · rw [hsg.size]; rfl
      · show S.bodies ++ [body] = _
        rw [hsg.bodies]; rfl
      · intro init lc he
        have : lc = [body] := by
          cases init with
          | nil => simpa using he.symm
          | cons a r => simp at he
        subst this
        show 0 + (body.size + 13) = _
        simp [takenN, cat]
  · rw [List.concat_eq_append] at *
    rw [filesC_snoc] at hgd
    have hlen : init.length < 100 := by simp at h1; omega
    have hpl : S.parts.length = init.length + 1 := by rw [hsg.parts]; simp
    have hpm : S.parts[init.length]? = some (z, lc.length) := by rw [hsg.parts]; simp
    have hus := hsg.used init lc rfl
    have htl : takenN lc ≤ 700000 := by
      rw [List.flatten_append, takenN_app] at hta
      have e : takenN ([lc] : List (List ByteArray)).flatten = takenN lc := by simp
      omega
    have hbl : S.bodies.length ≤ 150 := by rw [hsg.bodies]; exact hbd.many
    have hlcl : lc.length ≤ 150 := by
      have := hbd.many
      simp at this
      omega
    have hused := hbd.used sy la []
    rw [filesC_snoc] at hused
    have hu0 : used ([] : List Fl) = 0 := rfl
    have hok : OkN (openF z init.length lc sy la).name := okN_name _
    have hz2 := hbd.z2
    by_cases hr : (body.size : Int) ≤ roomV z (takenN lc)
    · rw [addC_snoc, if_pos hr] at hbd2 ⊢
      obtain ⟨e1, e2⟩ := hgd.append_mid (recB body) hok
      have ef : withF (openF z init.length lc sy la) (recB body) = openF z init.length (lc ++ [body]) sy la := by
        unfold withF openF
        simp only [openB_snoc]
      rw [ef] at e1 e2
      have hC : WCase S init.length S.parts ⟨#[]⟩ S.used := .inl ⟨hpl, rfl, rfl, rfl⟩
      refine (ladd_fits (M := fun w' => LD O W w' d { k with files := doneL z 0 init ++ openF z init.length (lc ++ [body]) sy la :: [] } b { S with parts := S.parts.set init.length (z, lc.length + 1), used := S.used + (body.size + 13), bodies := S.bodies ++ [body] }) hld init.length hpl hlen body (by rw [hsg.size, hus]; exact hr) (by rw [hsg.size]; exact hz2) (by omega) fun w' t => ?_).mono ?_
      · exact lwrite_any (hld.touch t) init.length z lc.length S.used _ _ hC hpm hlen (by omega) body hs (hgd.sm (by rw [show (⟨#[]⟩ : ByteArray).size = 0 from rfl]; omega)) (by omega) (by omega) (by rw [emp_app]; exact e1)
      · rintro e w' ⟨rfl, hl⟩
        refine ⟨rfl, _, _, sy, la, hl, ?_, ⟨hsg.size, ?_, ?_, hsg.broken, ?_⟩, hbd2, hmk⟩
        · rw [filesC_snoc]
          exact hgd.with_ e2
        · rw [hsg.parts]
          simp
        · show S.bodies ++ [body] = _
          rw [hsg.bodies]; simp
        · intro i2 l2 he
          obtain ⟨rfl, h4⟩ := List.append_inj' he rfl
          simp at h4
          subst h4
          show S.used + (body.size + 13) = _
          rw [hus, takenN_snoc]
    · rw [addC_snoc, if_neg hr] at hbd2 ⊢
      obtain ⟨e1, e2⟩ := hgd.append_mid (finB init.length lc.length) hok
      have g1 := hgd.with_ e2
      obtain ⟨e3, e4⟩ := g1.sync (f := withF (openF z init.length lc sy la) (finB init.length lc.length)) hok
      have ef : lastF (withF (openF z init.length lc sy la) (finB init.length lc.length)) = doneF z init.length lc := by
        unfold withF openF doneF lastF
        simp only [openB_done]
      rw [ef] at e3 e4
      have g2 := g1.with_ e4
      have efs : doneL z 0 init ++ doneF z init.length lc :: [] = doneL z 0 (init ++ [lc]) := by rw [doneL_app, Nat.zero_add]; rfl
      rw [efs] at g2 e3
      have hlt : ∀ x ∈ doneL z 0 (init ++ [lc]), cmpN x.name (nameK (init.length + 1)) < 0 := doneL_lt (by simp) (by omega)
      have hl70 : (init ++ [lc]).length < 70 := h1
      obtain ⟨e5, e6⟩ := g2.append_new (stB z (init.length + 1) ++ recB body) (okN_name _) hlt (by rw [doneL_len]; omega)
      have hud : used (doneL z 0 (init ++ [lc])) ≤ 710000 := by
        rw [used_done]
        omega
      have hC : WCase S (init.length + 1) (S.parts ++ [(S.size, 0)]) (stB S.size (init.length + 1)) 0 := .inr ⟨hpl, rfl, rfl, rfl, by rw [hsg.size]; exact hbd.z1, by rw [hsg.size]; exact hbd.z2⟩
      have hwf : (withF (openF z init.length lc sy la) (finB init.length lc.length)).data.size = 66 + takenN lc := by
        show (openB z init.length lc ++ finB init.length lc.length).size = _
        rw [openB_done, doneB_size]
      refine (ladd_next hld init.length hpl (by simp at hl70; omega) body (by rw [hsg.size, hus]; omega) (by rw [hsg.size]; exact hz2) (by omega)
        (fun w' h' => lfinish_any h' init.length z lc.length hpm hlen (by omega) (hgd.sm (by omega)) (g1.sm (by
          rw [used_app, used_cons] at hused ⊢
          rw [hwf]
          have e7 : (openF z init.length lc sy la).data.size = 33 + takenN lc := openB_size _ _ _
          omega)) e1 e3)
        (fun w' h' => lwrite_any h' (init.length + 1) z 0 0 _ _ hC (by rw [List.getElem?_append_right (by omega), hpl, hsg.size]; simp) (by simp at hl70; omega) (by omega) body hs (g2.sm (by rw [stB_size]; omega)) (by omega) (by omega) (by rw [hsg.size]; exact e5))).mono ?_
      rintro e w' ⟨rfl, hl⟩
      refine ⟨rfl, _, _, 0, false, hl, ?_, ⟨hsg.size, ?_, ?_, hsg.broken, ?_⟩, hbd2, hmk⟩
      · rw [filesC_snoc]
        have := g2.with_ e6
        rw [openB_new] at this ⊢
        have el : (init ++ [lc]).length = init.length + 1 := by simp
        rw [el]
        exact this
      · rw [hsg.parts]
        simp
      · show S.bodies ++ [body] = _
        rw [hsg.bodies]; simp
      · intro i2 l2 he
        obtain ⟨rfl, h4⟩ := List.append_inj' he rfl
        simp at h4
        subst h4
        show 0 + (body.size + 13) = _
        simp [takenN, cat]
end Go.Proofs.YtjjocnkockeacaaGreatDoor

namespace Go.Proofs.YtjjocnkockeacaaGreatDoor
open Go.RowKit Go.Lib
set_option maxRecDepth 100000

def addAll (z : Nat) (cs : List (List ByteArray)) (l : List ByteArray) : List (List ByteArray) := l.foldl (addC z) cs
theorem addAll_snoc (z : Nat) (cs : List (List ByteArray)) (l : List ByteArray) (i : Nat) (h : i < l.length) : addAll z cs (l.take (i + 1)) = addC z (addAll z cs (l.take i)) l[i] := by
  unfold addAll
  rw [List.take_succ_eq_append_getElem h, List.foldl_append]
  rfl
theorem addAll_flat (z : Nat) : ∀ (l : List ByteArray) (cs : List (List ByteArray)), (addAll z cs l).flatten = cs.flatten ++ l
  | [], cs => by simp [addAll]
  | s :: r, cs => by
    have := addAll_flat z r (addC z cs s)
    unfold addAll at this ⊢
    rw [List.foldl_cons, this, addC_flat]
    simp
theorem addAll_len (z : Nat) : ∀ (l : List ByteArray) (cs : List (List ByteArray)), (addAll z cs l).length ≤ cs.length + l.length
  | [], cs => by simp [addAll]
  | s :: r, cs => by
    have := addAll_len z r (addC z cs s)
    have h2 := addC_len z cs s
    unfold addAll at this ⊢
    rw [List.foldl_cons, List.length_cons]
    omega
theorem addAll_ne (z : Nat) : ∀ (l : List ByteArray) (cs : List (List ByteArray)), (∀ c ∈ cs, c ≠ []) → ∀ c ∈ addAll z cs l, c ≠ []
  | [], cs, h => by simpa [addAll] using h
  | s :: r, cs, h => by
    have := addAll_ne z r (addC z cs s) (addC_ne z cs s h)
    unfold addAll at this ⊢
    rw [List.foldl_cons]
    exact this
theorem room_zero {z : Nat} (h : 100 ≤ z) : 87 ≤ roomV z 0 ∧ roomV z 0 ≤ 3999 := by
  unfold roomV
  rw [if_neg (by omega)]
  omega

theorem ld_touch {O : List Nat} {W w : World} {d b : Nat} {k : Dk} {S : Lg} (h : LD O W w d k b S) : Touch O W w := by
  obtain ⟨rv, kv, L, pv, lv, own, H⟩ := h
  exact H.t
set_option maxHeartbeats 1000000 in
theorem lappend_ok {O : List Nat} {W w : World} {d b z : Nat} {cs : List (List ByteArray)} {sy : Nat} {la : Bool} {mk : Nat} {k : Dk} {S : Lg} (h : Lst O W w d b z cs sy la [] mk k S)
    (l : List ByteArray) (x : Option Addr) (c n : Nat) (HX : ∀ w', Touch O W w' → TxR w' x l) (hn : l.length = n) (hl : ∀ s ∈ l, (s.size : Int) ≤ roomV z 0) (h1 : cs.length + n ≤ 70) (h2 : cs.flatten.length + n ≤ 150) :
    Calls Tryz.prog 11 #[.pointer (some ⟨b, 0, none⟩), .slice x n c] w fun e w' => e = .returned (.tuple #[.int .i64 cs.flatten.length, .int .i64 0]) ∧ ∃ k' S' sy' la', Lst O W w' d b z (addAll z cs l) sy' la' [] mk k' S' := by
  have HL := hid h
  obtain ⟨rv, kv, L, pv, lv, own, H⟩ := h.ld
  obtain ⟨c0, c1, c2, -⟩ := lg_cell H.log.cells
  have CR := hid (lrefuses_any H.log.cells)
  rw [h.sg.broken] at CR
  have hz1 := h.bd.z1
  have hz2 := h.bd.z2
  rw [h.sg.size] at c2
  have CRM := hid fun w => room_any z 0 w (by omega) (by omega)
  have CL := hid fun w' (t : Touch [] w w') => len_ld (h.ld.touch t)
  have hbl : S.bodies.length = cs.flatten.length := by rw [h.sg.bodies]
  have HL2 : Hid (∃ k' S' sy' la', Lst O W w d b z (addAll z cs (l.take 0)) sy' la' [] mk k' S') := hid ⟨k, S, sy, la, h⟩
  rw [hbl] at CL
  obtain ⟨hrz1, hrz2⟩ := room_zero hz1
  have HR := hid hl
  have HTw := hid H.t
  have HX0 := hid HX
  clear h H hl hbl HX c0 c1
  generalize hrv : roomV z 0 = rv at *
  obtain ⟨N, hN⟩ : ∃ N, N = cs.flatten.length := ⟨_, rfl⟩
  have hNc := hid hN
  rw [← hN] at CL h2 ⊢
  clear hN
  go_enter Tryz.func11, Tryz.ntmps11
  go_wp2_with (go_at_call 35; refine CR.out.mono ?_; rintro e w1 ⟨rfl, hw1⟩; rw [hw1])
  go_loopw [20] (fun iv wr => ∃ (i : Nat), i ≤ n ∧ iv = .int .i64 i ∧ Hid (wr = w)) (fun iv _ => n - (RowKit.intOf iv).toNat)
  case atStart => exact ⟨0, Nat.zero_le _, rfl, hid rfl⟩
  case round =>
    obtain ⟨i, hi, rfl, hwr⟩ := hrel
    obtain rfl : wr = w := hwr.out
    by_cases hlt : i < n
    · have hlt' : decide (i < n) = true := by simpa using hlt
      obtain ⟨g, off, rfl, g0⟩ := HX0.out wr HTw.out i (by omega)
      have hsz := HR.out l[i] (List.getElem_mem _)
      have hd : decide (rv < (l[i].size : Int)) = false := decide_eq_false (by omega)
      generalize l[i] = s at *
      clear hsz
      go_wp2_with (go_at_call 36; refine (CRM.out _).mono ?_; rintro e w1 ⟨rfl, rfl⟩)
      go_roundw
      case rel => exact ⟨i + 1, by omega, by go_num, hid (by first | rfl | trivial)⟩
      case measure => simp [RowKit.intOf]; omega
    · have hlt' : decide (i < n) = false := by simpa using hlt
      obtain rfl : i = n := by omega
      go_wp2_with (go_at_call 17; refine (CL.out _ (Touch.refl _ _)).mono ?_; rintro e w1 ⟨rfl, hw1⟩; rw [hw1])
      clear c2
      go_loopw [37] (fun iv wr2 => ∃ (j : Nat), j ≤ i ∧ iv = .int .i64 j ∧ Hid (∃ k' S' sy' la', Lst O W wr2 d b z (addAll z cs (l.take j)) sy' la' [] mk k' S')) (fun iv _ => i - (RowKit.intOf iv).toNat)
      case atStart => exact ⟨0, Nat.zero_le _, rfl, HL2⟩
      case round =>
        obtain ⟨j, hj, rfl, HJ⟩ := hrel
        by_cases hlj : j < i
        · have hlj' : decide (j < i) = true := by simpa using hlj
          obtain ⟨k', S', sy', la', HJ'⟩ := HJ.out
          obtain ⟨g, off, rfl, g0⟩ := HX0.out _ (ld_touch HJ'.ld) j (by omega)
          have hsz := HR.out l[j] (List.getElem_mem _)
          have hbd1 : (addAll z cs (l.take j)).length < 70 := by
            have := addAll_len z (l.take j) cs
            rw [List.length_take] at this
            omega
          have hbd2 : (addAll z cs (l.take j)).flatten.length < 150 := by
            rw [addAll_flat, List.length_append, List.length_take]
            have := hNc.out
            omega
          have CAD := hid (ladd_any HJ' l[j] (by omega) hbd1 hbd2)
          have hsn := hid (addAll_snoc z cs l j (by omega))
          rw [← hsn.out] at CAD
          clear hsz hbd1 hbd2 HJ' HJ
          generalize l[j] = s at *
          go_wp2_with (go_at_call 37; refine CAD.out.mono ?_; rintro e w5 ⟨rfl, h5⟩; have H5 := hid h5; clear h5)
          go_roundw
          case rel => exact ⟨j + 1, by omega, by go_num, H5⟩
          case measure => simp [RowKit.intOf]; omega
        · have hlj' : decide (j < i) = false := by simpa using hlj
          obtain rfl : j = i := by omega
          have HJ2 := hid HJ.out
          rw [List.take_of_length_le (by omega)] at HJ2
          clear HJ
          go_wp2
          go_ret2
          exact ⟨rfl, HJ2.out⟩
set_option maxHeartbeats 1000000 in
/-- A record that is too long: nothing. -/
theorem lappend_long {O : List Nat} {W w : World} {d b z : Nat} {cs : List (List ByteArray)} {sy : Nat} {la : Bool} {tail : List Fl} {mk : Nat} {k : Dk} {S : Lg} (h : Lst O W w d b z cs sy la tail mk k S)
    (l : List ByteArray) (x : Option Addr) (c n : Nat) (HX : TxR w x l) (hn : l.length = n) (hn2 : n ≤ 1000000) (hl : ∃ s ∈ l, roomV z 0 < (s.size : Int)) :
    Calls Tryz.prog 11 #[.pointer (some ⟨b, 0, none⟩), .slice x n c] w fun e w' => e = .returned (.tuple #[.int .i64 0, .int .i64 2]) ∧ w' = w := by
  obtain ⟨rv, kv, L, pv, lv, own, H⟩ := h.ld
  obtain ⟨c0, c1, c2, -⟩ := lg_cell H.log.cells
  have CR := hid (lrefuses_any H.log.cells)
  rw [h.sg.broken] at CR
  have hz1 := h.bd.z1
  have hz2 := h.bd.z2
  rw [h.sg.size] at c2
  have CRM := hid fun w => room_any z 0 w (by omega) (by omega)
  have HX0 := hid HX
  have HE : Hid (∃ i, ∃ hi : i < l.length, roomV z 0 < (l[i].size : Int)) := hid (by
    obtain ⟨s, hs, h2⟩ := hl
    obtain ⟨i, hi, rfl⟩ := List.getElem_of_mem hs
    exact ⟨i, hi, h2⟩)
  clear h H hl HX c0 c1
  generalize hrv : roomV z 0 = rv at *
  go_enter Tryz.func11, Tryz.ntmps11
  go_wp2_with (go_at_call 35; refine CR.out.mono ?_; rintro e w1 ⟨rfl, hw1⟩; rw [hw1])
  go_loopw [20] (fun iv wr => ∃ (i : Nat), i ≤ n ∧ iv = .int .i64 i ∧ Hid (wr = w ∧ ∀ j (hj : j < l.length), j < i → (l[j].size : Int) ≤ rv)) (fun iv _ => n - (RowKit.intOf iv).toNat)
  case atStart => exact ⟨0, Nat.zero_le _, rfl, hid ⟨rfl, fun j _ h => absurd h (Nat.not_lt_zero _)⟩⟩
  case round =>
    obtain ⟨i, hi, rfl, hwr⟩ := hrel
    obtain rfl : wr = w := hwr.out.1
    by_cases hlt : i < n
    · have hlt' : decide (i < n) = true := by simpa using hlt
      obtain ⟨g, off, rfl, g0⟩ := HX0.out i (by omega)
      by_cases hsz : (l[i].size : Int) ≤ rv
      · have hd : decide (rv < (l[i].size : Int)) = false := decide_eq_false (by omega)
        have HN : Hid (∀ j (hj : j < l.length), j < i + 1 → (l[j].size : Int) ≤ rv) := hid fun j hj h => by
          by_cases e : j = i
          · subst e; exact hsz
          · exact hwr.out.2 j hj (by omega)
        generalize l[i] = s at *
        clear hsz hwr
        go_wp2_with (go_at_call 36; refine (CRM.out _).mono ?_; rintro e w1 ⟨rfl, rfl⟩)
        go_roundw
        case rel => exact ⟨i + 1, by omega, by go_num, hid ⟨by first | rfl | trivial, HN.out⟩⟩
        case measure => simp [RowKit.intOf]; omega
      · have hd : decide (rv < (l[i].size : Int)) = true := decide_eq_true (by omega)
        generalize l[i] = s at *
        clear hsz hwr
        go_wp2_with (go_at_call 36; refine (CRM.out _).mono ?_; rintro e w1 ⟨rfl, rfl⟩)
        go_ret2
        exact ⟨rfl, rfl⟩
    · exfalso
      obtain ⟨j, hj, h2⟩ := HE.out
      have := hwr.out.2 j hj (by omega)
      omega
theorem LDIs.touch {O : List Nat} {W w w' : World} {d b : Nat} {k : Dk} {S : Lg} {rv kv : Value} {L : List Px} {pv lv : Value} {own : List Nat} (h : LDIs O W w d k b S rv kv L pv lv own) (t : Touch [] w w') : LDIs O W w' d k b S rv kv L pv lv own :=
  ⟨h.disk.touch t (by simp), h.log.touch t (by simp), h.down, h.lown, h.t.trans t (by simp)⟩
theorem sync_ldis {O : List Nat} {W w : World} {d b : Nat} {k k' : Dk} {S : Lg} {rv kv : Value} {L : List Px} {pv lv : Value} {own : List Nat} {nm : ByteArray} {r : Int} (H : LDIs O W w d k b S rv kv L pv lv own) (hs : Sm k 0) (he : syncD k nm = (r, k')) :
    Calls Tryz.prog 40 #[.pointer (some ⟨d, 0, none⟩), .string nm] w fun e w' => e = .returned (.int .i64 r) ∧ LD O W w' d k' b S ∧ w'.heap[b]? = w.heap[b]? := by
  refine (sync_any ⟨H.dsk, hs.keep, hs.used⟩ nm).mono ?_
  rintro e w' ⟨rfl, hl⟩
  rw [he] at hl ⊢
  refine ⟨rfl, H.disked hl, ?_⟩
  obtain ⟨own', h1, t, h3⟩ := hl
  exact t.block b (lt_of_block H.log.cells) fun hm => types_apart (H.log.types b (by simp [lgOwn])) (H.disk.types b hm)
theorem cells_03 {w w' : World} {b d : Nat} {S : Lg} {pv lv : Value} (hb : w'.heap[b]? = w.heap[b]?) (h : w.heap[b]? = some (.cells (lgCells d S pv lv) tLog (0, 0))) : w'.cell? ⟨b, 0, none⟩ = some (.pointer (some ⟨d, 0, none⟩)) ∧ w'.cell? ⟨b, 3, none⟩ = some pv := by
  obtain ⟨c0, c1, c2, c3, -⟩ := lg_cell (hb.trans h)
  exact ⟨c0, c3⟩
/-! ### Sync -/
set_option maxHeartbeats 400000 in
/-- Sync of a log whose last chunk is there. -/
theorem lsync_any {O : List Nat} {W w : World} {d b z : Nat} {cs : List (List ByteArray)} {sy : Nat} {la : Bool} {tail : List Fl} {mk : Nat} {k : Dk} {S : Lg} (h : Lst O W w d b z cs sy la tail mk k S) (htail : used tail ≤ 1000000) :
    Calls Tryz.prog 13 #[.pointer (some ⟨b, 0, none⟩)] w fun e w' => e = .returned (.int .i64 0) ∧ ∃ k' S', Lst O W w' d b z cs (match cs.getLast? with | none => 0 | some lc => 33 + takenN lc) true tail mk k' S' := by
  have h0 := h
  obtain ⟨hld, hgd, hsg, hbd, hmk⟩ := h
  have HL := hid hld
  obtain ⟨rv, kv, L, pv, lv, own, H⟩ := hld
  obtain ⟨c0, c1, c2, c3, -⟩ := lg_cell H.log.cells
  have CR := hid (lrefuses_any H.log.cells)
  rw [hsg.broken] at CR
  obtain ⟨x, c, hpv, -, -, -⟩ := part_form H.log.parts
  rcases List.eq_nil_or_concat cs with rfl | ⟨init, lc, rfl⟩
  · have hp : S.parts.length = 0 := by rw [hsg.parts]; rfl
    rw [hp] at hpv
    subst hpv
    have CL := hid (len_ld HL.out)
    obtain ⟨k7, z7⟩ := ld_c7 HL.out
    have HF : Hid (∃ k' S', Lst O W (w.setCell ⟨b, 7, none⟩ (.int .i64 (S.bodies.length : Int))) d b z [] 0 true tail mk k' S') := hid ⟨k, _, ld_synced HL.out _, hgd, ⟨hsg.size, hsg.parts, hsg.bodies, hsg.broken, hsg.used⟩, hbd, hmk⟩
    clear H hsg hgd hbd h0 c0 c1 c2 HL
    go_enter Tryz.func13, Tryz.ntmps13
    go_wp2_with (first
      | (go_at_call 35; refine CR.out.mono ?_; rintro e w1 ⟨rfl, hw1⟩; rw [hw1])
      | (go_at_call 17; refine CL.out.mono ?_; rintro e w1 ⟨rfl, hw1⟩; rw [hw1]))
    go_ret
    exact ⟨rfl, HF.out⟩
  · rw [List.concat_eq_append] at *
    rw [filesC_snoc] at hgd
    have hl70 := hbd.len
    have hpl : S.parts.length = init.length + 1 := by rw [hsg.parts]; simp
    rw [hpl] at hpv
    subst hpv
    have hok : OkN (openF z init.length lc sy la).name := okN_name _
    obtain ⟨e1, e2⟩ := hgd.sync hok
    have ef : lastF (openF z init.length lc sy la) = openF z init.length lc (33 + takenN lc) true := by
      unfold lastF openF
      simp only [openB_size]
    rw [ef] at e1 e2
    have hus := hbd.used sy la tail
    rw [filesC_snoc] at hus
    obtain ⟨K1, hK1⟩ : ∃ K1, K1 = ({ k with files := doneL z 0 init ++ openF z init.length lc (33 + takenN lc) true :: tail } : Dk) := ⟨_, rfl⟩
    have gK1 : Gd K1 (doneL z 0 init ++ openF z init.length lc (33 + takenN lc) true :: tail) := by rw [hK1]; exact hgd.with_ e2
    rw [← hK1] at e1
    have CF := hid fun w' (h' : LD O W w' d k b S) => file_ld h' init.length (by simp at hl70; omega)
    have CF2 := hid fun w' (t : Touch [] w w') => file_any (t.heap H.log.cells (by simp)) init.length (by simp at hl70; omega)
    have CS := hid fun w' (t : Touch [] w w') => sync_ldis (H.touch t) (hgd.sm (by omega)) e1
    have HBc := hid H.log.cells
    have HF : Hid (∀ w', LD O W w' d K1 b S → ∃ k' S', Lst O W (w'.setCell ⟨b, 7, none⟩ (.int .i64 (S.bodies.length : Int))) d b z (init ++ [lc]) (match (init ++ [lc]).getLast? with | none => 0 | some lc => 33 + takenN lc) true tail mk k' S') := hid fun w' h' => by
      refine ⟨_, _, ld_synced h' _, ?_, ⟨hsg.size, hsg.parts, hsg.bodies, hsg.broken, hsg.used⟩, hbd, hmk⟩
      rw [filesC_snoc]
      have : (match (init ++ [lc]).getLast? with | none => 0 | some lc => 33 + takenN lc) = 33 + takenN lc := by simp
      rw [this]
      exact gK1
    have HT := hid fun w' (t : Touch [] w w') => HL.out.touch t
    have hm100 : init.length < 100 := by simp at hl70; omega
    have hnm : (openF z init.length lc sy la).name = nameK init.length := rfl
    rw [hnm] at CS
    clear H hsg hgd hbd h0 c1 c2 hl70 hus e1 e2 ef hok hpl hnm hK1 gK1 CF htail hmk
    generalize (match (init ++ [lc]).getLast? with | none => 0 | some lc => 33 + takenN lc) = ZZ at *
    generalize nameK init.length = nm at *
    generalize init ++ [lc] = CS1 at *
    generalize init.length = m at *
    go_enter Tryz.func13, Tryz.ntmps13
    go_wp2_with (go_at_call 35; refine CR.out.mono ?_; rintro e w1 ⟨rfl, hw1⟩; rw [hw1])
    clear HL CR HT
    have hwm : IntKind.i64.wrap (m : Int) = (m : Int) := by rw [IntKind.wrap_i64]; omega
    have T1 := hid ((Touch.refl [] w).drew)
    have q1 : w.drew.cell? ⟨b, 0, none⟩ = some (.pointer (some ⟨d, 0, none⟩)) := c0
    have q3 : w.drew.cell? ⟨b, 3, none⟩ = some (.slice x (m + 1) c) := c3
    go_region_law (first
      | (refine step_call _ rfl (f := 41) (args := #[.pointer (some ⟨b, 0, none⟩), .int .i64 m]) (by simp [go_sem, Act.eval]) (CF2.out _ T1.out) ?_
         rintro e w5 ⟨rfl, t5⟩
         refine ⟨_, rfl, ?_⟩
         have T5 := hid (T1.out.trans t5 (by simp))
         have r1 : w5.cell? ⟨b, 0, none⟩ = some (.pointer (some ⟨d, 0, none⟩)) := T5.out.cell c0
         have r3 : w5.cell? ⟨b, 3, none⟩ = some (.slice x (m + 1) c) := T5.out.cell c3
         clear t5)
      | (refine step_call _ rfl (f := 40) (args := #[.pointer (some ⟨d, 0, none⟩), .string nm]) (by simp [go_sem, Act.eval]) (CS.out _ T5.out) ?_
         rintro e w6 ⟨rfl, h6, hb6⟩
         refine ⟨_, rfl, ?_⟩
         have H6 := hid h6
         clear h6 hb6))
    all_goals
      have CL := hid (len_ld H6.out)
      obtain ⟨k7, z7⟩ := ld_c7 H6.out
      clear q1 q3 CF2 CS
      go_wp2_with (first
        | (go_at_call 17; refine CL.out.mono ?_; rintro e w1 ⟨rfl, hw1⟩; rw [hw1]))
      go_ret
      exact ⟨rfl, HF.out _ H6.out⟩
end Go.Proofs.YtjjocnkockeacaaGreatDoor
