/- The arms of the laws' own Run, group 3. -/
import Derived.Test.YtiglfdefeaddmaaRefRunT
namespace Go.Proofs.Ytiglfdefeaddmaa
open Go.RowKit Go.Lib

set_option maxHeartbeats 100000000 in
set_option maxRecDepth 100000 in
theorem arms3 (c : Nat) (l : List ByteArray) (E : EnvD) (W W1 wr : World) (u8 u9 u10 u11 u16 u17 u18 u19 u20 u21 u22 u30 u31 u32 u33 u34 u35 u36 u37 u38 u39 u40 u41 u42 u43 u44 u45 u46 u47 u48 u49 u50 u51 u52 u53 u54 u55 u56 u57 u58 u59 u60 u61 u62 u63 u64 u65 u66 u67 u68 u69 u70 u71 u72 u73 u74 u75 u76 u77 u78 u79 u80 u81 u82 u83 u84 u85 u86 u87 u88 u89 u90 u91 u92 u93 u94 u95 u96 u97 u98 u99 u100 u101 u102 u103 u104 u105 u106 u107 u108 u109 u110 u111 u112 u113 u114 u115 u116 u117 u118 u119 u120 u121 u122 u123 u124 u125 u126 u127 u128 u129 u130 u131 u132 u133 u134 u135 u136 u137 u138 u139 u140 u141 u142 u143 u144 u145 u146 u147 u148 u149 u150 u151 u152 u153 u154 u155 u156 u157 u158 u159 u160 u161 u162 u163 u164 u165 u166 u167 u168 u169 u170 u171 u172 u173 u174 u175 u176 u177 u178 u179 u180 u181 u182 u183 u184 u185 u186 u187 u188 u189 u190 u191 u192 u193 u194 u195 u196 u197 u198 u199 u200 u201 u202 u203 u204 u205 u206 u207 u208 u209 u210 u211 u212 u213 u214 u215 u216 u217 u218 u219 u220 u221 u222 u223 u224 u225 u226 u227 u228 u229 u230 u231 u232 u233 u234 u235 u236 u237 u238 u239 u240 u241 u242 u243 u244 u245 u246 u247 u248 u249 u250 u251 u252 u253 u254 u255 u256 u257 u258 u259 u260 u261 u262 u263 u264 u265 u266 u267 u268 u269 u270 u271 u272 u273 u274 u275 u276 u277 u278 u279 u280 u281 u282 u283 u284 u285 u286 u287 u288 u289 u290 : Value) (k : Nat) (y : Option Addr) (cap bx ox : Nat) (sw : ByteArray) (top rest : List Nat) (ax : Option Addr) (cx : Nat) (n2 : Int) (nt : Nat) (K2 K1 K0 : Act → World → Prop) (y2 : Option Addr) (c2 : Nat) (w2 : World) (s' : List Nat) (ctx : ArmCtx l E W W1 wr k bx ox sw top rest ax cx nt y2 c2 w2 s') (hg : grp (kindOf sw.data.toList) = 3) : frameT.1 c l E W W1 wr u8 u9 u10 u11 u16 u17 u18 u19 u20 u21 u22 u30 u31 u32 u33 u34 u35 u36 u37 u38 u39 u40 u41 u42 u43 u44 u45 u46 u47 u48 u49 u50 u51 u52 u53 u54 u55 u56 u57 u58 u59 u60 u61 u62 u63 u64 u65 u66 u67 u68 u69 u70 u71 u72 u73 u74 u75 u76 u77 u78 u79 u80 u81 u82 u83 u84 u85 u86 u87 u88 u89 u90 u91 u92 u93 u94 u95 u96 u97 u98 u99 u100 u101 u102 u103 u104 u105 u106 u107 u108 u109 u110 u111 u112 u113 u114 u115 u116 u117 u118 u119 u120 u121 u122 u123 u124 u125 u126 u127 u128 u129 u130 u131 u132 u133 u134 u135 u136 u137 u138 u139 u140 u141 u142 u143 u144 u145 u146 u147 u148 u149 u150 u151 u152 u153 u154 u155 u156 u157 u158 u159 u160 u161 u162 u163 u164 u165 u166 u167 u168 u169 u170 u171 u172 u173 u174 u175 u176 u177 u178 u179 u180 u181 u182 u183 u184 u185 u186 u187 u188 u189 u190 u191 u192 u193 u194 u195 u196 u197 u198 u199 u200 u201 u202 u203 u204 u205 u206 u207 u208 u209 u210 u211 u212 u213 u214 u215 u216 u217 u218 u219 u220 u221 u222 u223 u224 u225 u226 u227 u228 u229 u230 u231 u232 u233 u234 u235 u236 u237 u238 u239 u240 u241 u242 u243 u244 u245 u246 u247 u248 u249 u250 u251 u252 u253 u254 u255 u256 u257 u258 u259 u260 u261 u262 u263 u264 u265 u266 u267 u268 u269 u270 u271 u272 u273 u274 u275 u276 u277 u278 u279 u280 u281 u282 u283 u284 u285 u286 u287 u288 u289 u290 k y cap bx ox sw top rest ax cx n2 nt K2 K1 K0 y2 c2 w2 s' := by
  have hsf := store_flt
  obtain ⟨HE, HZ, HMEM, HNK, HFA, b0, b3, HOK, HN, t1, t1i, b1, b2, b4, HLE, HNT, O2, T2, g4, x2, x3, Wt, hst2, hlt, hl2⟩ := ctx
  with_reducible (conv => whnf)
  intro J KK hJ hM
  rcases named_cases sw.data.toList with ⟨kd, hN, hkd⟩ | hno
  · generalize hlw : sw.data.toList = lw at hN
    obtain rfl := arr_eq hlw
    clear hlw
    cases hN
    · rw [hkd] at hg
      cases hg
    · rw [hkd] at hg
      cases hg
    · rw [hkd] at hg
      cases hg
    · rw [hkd] at hg
      cases hg
    · rw [hkd] at hg
      cases hg
    · rw [hkd] at hg
      cases hg
    · rw [hkd] at hg
      cases hg
    · rw [hkd] at hg
      cases hg
    · rw [hkd] at hg
      cases hg
    · rw [hkd] at hg
      cases hg
    · rw [hkd] at hg
      cases hg
    · rw [hkd] at hg
      cases hg
    · rw [hkd] at hg
      cases hg
    · as_aux_lemma =>
      obtain ⟨a, rfl⟩ : ∃ a, top = [a] := len_one (HNT.out.trans (HN.out.trans (by rw [hkd]; rfl)))
      obtain rfl : nt = 1 := HNT.out.symm
      obtain ⟨ba, oa, rfl, ca0, wa⟩ := HFA.out 0 (by simp)
      replace ca0 := T2.out.cell ca0
      simp only [Nat.add_zero, List.reverse_singleton, List.getElem_cons_zero] at ca0 wa
      rw [hkd] at hst2
      have HS2 : Hid (s' = can a :: can a :: rest) := (Out.ok.inj hst2).symm
      have HWA := hid wa
      obtain ⟨i0, hi0, hz0, hz1, hz2⟩ := info_parts Try.infoFlt
      clear wa
      go_upto_region 48 with fail
      go_region_law (refine step_append_lies _ rfl (.tmp 226) (.tmp 233) 53 rfl (W.heap.size + 1) TFlt i0 (.float .f64 0) 1 8 Try.underlying53 hi0 hz0 hz1 hz2 rfl (by decide) (.slice y2 rest.length c2) rest.length (fvals rest.reverse) (by simp [Act.eval]) (O2.out.alloc _) ⟨w2.heap.size, 0, none⟩ 2 2 [.float .f64 a, .float .f64 a] (by simp [Act.eval]) rfl (World.news_of_block (cs := #[.float .f64 a, .float .f64 a]) (t := TFlt) (fr := (0, 0)) (heap_alloc_new _ _)) (by intro u hu; simp at hu; rcases hu with rfl | rfl <;> rfl) (by decide) (by have := HLE.out; unfold maxLen; omega) (by have := HLE.out; omega) (by have h1 := Wt.out.size; have h2 := HZ.out; simp; omega) _ rfl ?_; intro g3 c3 w3 hown3 hg3 hl3 hlt3; have O3 : Hid (w3.ownsRow (W.heap.size + 1) TFlt 1 (.slice (some ⟨g3, 0, none⟩) (rest.length + 2) c3) (rest.length + 2) (fvals (rest.reverse ++ [a, a]))) := hid (by rw [← fvals_app]; exact hown3); have T3 : Hid (Touch [] W1 w3) := hid ((by first | exact (Wt.out.alloc _).grown hg3 (fun k hk => .inr (by have h1 := own_row O2.out k hk; have h2 := HZ.out; omega)) | exact ((Wt.out.alloc _).drew).grown hg3 (fun k hk => .inr (by have h1 := own_row O2.out k hk; have h2 := HZ.out; omega)))); clear hown3 hg3 hl3 hlt3)
      all_goals (go_wp2; go_meet)
      all_goals exact cut_close (vs := [a, a]) (fun q hq => HOK.out q (List.mem_append_right _ hq)) (by intro q hq; simp at hq; subst hq; exact HWA.out) O3.out (by rw [HS2.out]; rfl) T3.out
    · as_aux_lemma =>
      obtain ⟨a, rfl⟩ : ∃ a, top = [a] := len_one (HNT.out.trans (HN.out.trans (by rw [hkd]; rfl)))
      obtain rfl : nt = 1 := HNT.out.symm
      obtain ⟨ba, oa, rfl, ca0, wa⟩ := HFA.out 0 (by simp)
      replace ca0 := T2.out.cell ca0
      simp only [Nat.add_zero, List.reverse_singleton, List.getElem_cons_zero] at ca0 wa
      rw [hkd] at hst2
      have HS2 : Hid (s' = rest) := (Out.ok.inj hst2).symm
      go_wp2
      go_meet
      exact cut_close (vs := []) (fun q hq => HOK.out q (List.mem_append_right _ hq)) (by simp) (by simpa using O2.out) (by rw [HS2.out]; rfl) Wt.out
    · as_aux_lemma =>
      obtain ⟨b, a, rfl⟩ : ∃ b a, top = [b, a] := len_two (HNT.out.trans (HN.out.trans (by rw [hkd]; rfl)))
      obtain rfl : nt = 2 := HNT.out.symm
      obtain ⟨ba, oa, rfl, ca0, wa⟩ := HFA.out 0 (by simp)
      obtain ⟨ba', oa', e', cb0, wb⟩ := HFA.out 1 (by simp)
      simp only [Option.some.injEq, Addr.mk.injEq, and_true] at e'
      obtain ⟨rfl, rfl⟩ := e'
      replace ca0 := T2.out.cell ca0
      replace cb0 := T2.out.cell cb0
      replace ca0 : w2.cell? ⟨ba, oa, none⟩ = some (.float .f64 a) := ca0
      replace cb0 : w2.cell? ⟨ba, oa + 1, none⟩ = some (.float .f64 b) := cb0
      replace wa : Wd a := wa
      replace wb : Wd b := wb
      rw [hkd] at hst2
      have HS2 : Hid (s' = can a :: can b :: rest) := (Out.ok.inj hst2).symm
      have HWA := hid wa
      have HWB := hid wb
      obtain ⟨i0, hi0, hz0, hz1, hz2⟩ := info_parts Try.infoFlt
      clear wa wb
      go_upto_region 51 with fail
      go_region_law (refine step_append_lies _ rfl (.tmp 239) (.tmp 246) 53 rfl (W.heap.size + 1) TFlt i0 (.float .f64 0) 1 8 Try.underlying53 hi0 hz0 hz1 hz2 rfl (by decide) (.slice y2 rest.length c2) rest.length (fvals rest.reverse) (by simp [Act.eval]) (O2.out.alloc _) ⟨w2.heap.size, 0, none⟩ 2 2 [.float .f64 b, .float .f64 a] (by simp [Act.eval]) rfl (World.news_of_block (cs := #[.float .f64 b, .float .f64 a]) (t := TFlt) (fr := (0, 0)) (heap_alloc_new _ _)) (by intro u hu; simp at hu; rcases hu with rfl | rfl <;> rfl) (by decide) (by have := HLE.out; unfold maxLen; omega) (by have := HLE.out; omega) (by have h1 := Wt.out.size; have h2 := HZ.out; simp; omega) _ rfl ?_; intro g3 c3 w3 hown3 hg3 hl3 hlt3; have O3 : Hid (w3.ownsRow (W.heap.size + 1) TFlt 1 (.slice (some ⟨g3, 0, none⟩) (rest.length + 2) c3) (rest.length + 2) (fvals (rest.reverse ++ [b, a]))) := hid (by rw [← fvals_app]; exact hown3); have T3 : Hid (Touch [] W1 w3) := hid ((by first | exact (Wt.out.alloc _).grown hg3 (fun k hk => .inr (by have h1 := own_row O2.out k hk; have h2 := HZ.out; omega)) | exact ((Wt.out.alloc _).drew).grown hg3 (fun k hk => .inr (by have h1 := own_row O2.out k hk; have h2 := HZ.out; omega)))); clear hown3 hg3 hl3 hlt3)
      all_goals (go_wp2; go_meet)
      all_goals exact cut_close (vs := [b, a]) (fun q hq => HOK.out q (List.mem_append_right _ hq)) (by intro q hq; simp at hq; rcases hq with rfl | rfl; exact HWB.out; exact HWA.out) O3.out (by rw [HS2.out]; rfl) T3.out
    · as_aux_lemma =>
      obtain ⟨c', b, a, rfl⟩ : ∃ c' b a, top = [c', b, a] := len_three (HNT.out.trans (HN.out.trans (by rw [hkd]; rfl)))
      obtain rfl : nt = 3 := HNT.out.symm
      obtain ⟨ba, oa, rfl, ca0, wa⟩ := HFA.out 0 (by simp)
      obtain ⟨ba', oa', e', cb0, wb⟩ := HFA.out 1 (by simp)
      simp only [Option.some.injEq, Addr.mk.injEq, and_true] at e'
      obtain ⟨rfl, rfl⟩ := e'
      obtain ⟨ba', oa', e', cc0, wc⟩ := HFA.out 2 (by simp)
      simp only [Option.some.injEq, Addr.mk.injEq, and_true] at e'
      obtain ⟨rfl, rfl⟩ := e'
      replace ca0 := T2.out.cell ca0
      replace cb0 := T2.out.cell cb0
      replace cc0 := T2.out.cell cc0
      replace ca0 : w2.cell? ⟨ba, oa, none⟩ = some (.float .f64 a) := ca0
      replace cb0 : w2.cell? ⟨ba, oa + 1, none⟩ = some (.float .f64 b) := cb0
      replace cc0 : w2.cell? ⟨ba, oa + 2, none⟩ = some (.float .f64 c') := cc0
      replace wa : Wd a := wa
      replace wb : Wd b := wb
      replace wc : Wd c' := wc
      rw [hkd] at hst2
      have HS2 : Hid (s' = can (if cls c' = 0 ∨ cls c' = 3 ∨ cls c' = 4 then b else a) :: rest) := (Out.ok.inj hst2).symm
      have hpt := pick_test wc
      have ca1 : ∀ n, (w2.drewN n).cell? ⟨ba, oa, none⟩ = some (.float .f64 a) := fun n => (drewN_touch' w2 n).cell ca0
      have cb1 : ∀ n, (w2.drewN n).cell? ⟨ba, oa + 1, none⟩ = some (.float .f64 b) := fun n => (drewN_touch' w2 n).cell cb0
      have HWA := hid wa
      have HWB := hid wb
      clear wa wb wc
      rcases hpt with ⟨p1, p2, p3⟩ | ⟨p1, p3⟩ | ⟨p1, p2, p3⟩
      · rw [if_pos (.inl p3)] at HS2
        clear p3
        go_upto_region 53 with fail
        go_quiet (fail)
        go_wp2_with (at_builtin; refine wpList_append_flts rfl (.tmp 269) (.tmp 273) rfl (W.heap.size + 1) (.slice y2 rest.length c2) rest.length rest.reverse rfl (own_touch_f O2.out ((drewN_touch' _ _).alloc _) (by simp)) (some ⟨w2.heap.size, 0, none⟩) 1 1 [b] rfl rfl (flts_one b _ HWB.out (by rw [drewN_heap])) (fun e => by cases e) (by have := HLE.out; omega) (by have h1 := Wt.out.size; have h2 := HZ.out; simp; omega) ?_; intro y3 c3 w3 hown3 hg3; have O3 := hid hown3; have T3 : Hid (Touch [] W1 w3) := hid (((Wt.out.drewN _).alloc _).grown hg3 (fun k hk => .inr (by have h1 := own_row O2.out k hk; have h2 := HZ.out; omega))); clear hown3 hg3)
        go_meet
        exact cut_close (vs := [b]) (fun q hq => HOK.out q (List.mem_append_right _ hq)) (by simpa using HWB.out) O3.out (by rw [HS2.out]; rfl) T3.out
      · rw [if_pos (.inr p3)] at HS2
        clear p3
        go_upto_region 53 with fail
        go_quiet (fail)
        go_wp2_with (at_builtin; refine wpList_append_flts rfl (.tmp 269) (.tmp 273) rfl (W.heap.size + 1) (.slice y2 rest.length c2) rest.length rest.reverse rfl (own_touch_f O2.out ((drewN_touch' _ _).alloc _) (by simp)) (some ⟨w2.heap.size, 0, none⟩) 1 1 [b] rfl rfl (flts_one b _ HWB.out (by rw [drewN_heap])) (fun e => by cases e) (by have := HLE.out; omega) (by have h1 := Wt.out.size; have h2 := HZ.out; simp; omega) ?_; intro y3 c3 w3 hown3 hg3; have O3 := hid hown3; have T3 : Hid (Touch [] W1 w3) := hid (((Wt.out.drewN _).alloc _).grown hg3 (fun k hk => .inr (by have h1 := own_row O2.out k hk; have h2 := HZ.out; omega))); clear hown3 hg3)
        go_meet
        exact cut_close (vs := [b]) (fun q hq => HOK.out q (List.mem_append_right _ hq)) (by simpa using HWB.out) O3.out (by rw [HS2.out]; rfl) T3.out
      · rw [if_neg p3] at HS2
        clear p3
        go_upto_region 53 with fail
        go_quiet (fail)
        go_wp2_with (at_builtin; refine wpList_append_flts rfl (.tmp 263) (.tmp 267) rfl (W.heap.size + 1) (.slice y2 rest.length c2) rest.length rest.reverse rfl (own_touch_f O2.out ((drewN_touch' _ _).alloc _) (by simp)) (some ⟨w2.heap.size, 0, none⟩) 1 1 [a] rfl rfl (flts_one a _ HWA.out (by rw [drewN_heap])) (fun e => by cases e) (by have := HLE.out; omega) (by have h1 := Wt.out.size; have h2 := HZ.out; simp; omega) ?_; intro y3 c3 w3 hown3 hg3; have O3 := hid hown3; have T3 : Hid (Touch [] W1 w3) := hid (((Wt.out.drewN _).alloc _).grown hg3 (fun k hk => .inr (by have h1 := own_row O2.out k hk; have h2 := HZ.out; omega))); clear hown3 hg3)
        go_meet
        exact cut_close (vs := [a]) (fun q hq => HOK.out q (List.mem_append_right _ hq)) (by simpa using HWA.out) O3.out (by rw [HS2.out]; rfl) T3.out
    · rw [hkd] at hg
      cases hg
  · have e0 : (parseOf sw.data.toList).2 = 0 ∨ (parseOf sw.data.toList).2 ≠ 0 := by omega
    rcases e0 with e0 | e0
    · rw [kind_num hno e0] at hg; cases hg
    · rw [kind_none hno e0] at hg; cases hg
end Go.Proofs.Ytiglfdefeaddmaa
