/- The arms of the laws' own Run, group 0. -/
import Derived.Test.YtiglfdefeaddmaaRefRunT
namespace Go.Proofs.Ytiglfdefeaddmaa
open Go.RowKit Go.Lib

set_option maxHeartbeats 100000000 in
set_option maxRecDepth 100000 in
theorem arms0 (c : Nat) (l : List ByteArray) (E : EnvD) (W W1 wr : World) (u8 u9 u10 u11 u16 u17 u18 u19 u20 u21 u22 u30 u31 u32 u33 u34 u35 u36 u37 u38 u39 u40 u41 u42 u43 u44 u45 u46 u47 u48 u49 u50 u51 u52 u53 u54 u55 u56 u57 u58 u59 u60 u61 u62 u63 u64 u65 u66 u67 u68 u69 u70 u71 u72 u73 u74 u75 u76 u77 u78 u79 u80 u81 u82 u83 u84 u85 u86 u87 u88 u89 u90 u91 u92 u93 u94 u95 u96 u97 u98 u99 u100 u101 u102 u103 u104 u105 u106 u107 u108 u109 u110 u111 u112 u113 u114 u115 u116 u117 u118 u119 u120 u121 u122 u123 u124 u125 u126 u127 u128 u129 u130 u131 u132 u133 u134 u135 u136 u137 u138 u139 u140 u141 u142 u143 u144 u145 u146 u147 u148 u149 u150 u151 u152 u153 u154 u155 u156 u157 u158 u159 u160 u161 u162 u163 u164 u165 u166 u167 u168 u169 u170 u171 u172 u173 u174 u175 u176 u177 u178 u179 u180 u181 u182 u183 u184 u185 u186 u187 u188 u189 u190 u191 u192 u193 u194 u195 u196 u197 u198 u199 u200 u201 u202 u203 u204 u205 u206 u207 u208 u209 u210 u211 u212 u213 u214 u215 u216 u217 u218 u219 u220 u221 u222 u223 u224 u225 u226 u227 u228 u229 u230 u231 u232 u233 u234 u235 u236 u237 u238 u239 u240 u241 u242 u243 u244 u245 u246 u247 u248 u249 u250 u251 u252 u253 u254 u255 u256 u257 u258 u259 u260 u261 u262 u263 u264 u265 u266 u267 u268 u269 u270 u271 u272 u273 u274 u275 u276 u277 u278 u279 u280 u281 u282 u283 u284 u285 u286 u287 u288 u289 u290 : Value) (k : Nat) (y : Option Addr) (cap bx ox : Nat) (sw : ByteArray) (top rest : List Nat) (ax : Option Addr) (cx : Nat) (n2 : Int) (nt : Nat) (K2 K1 K0 : Act → World → Prop) (y2 : Option Addr) (c2 : Nat) (w2 : World) (s' : List Nat) (ctx : ArmCtx l E W W1 wr k bx ox sw top rest ax cx nt y2 c2 w2 s') (hg : grp (kindOf sw.data.toList) = 0) : frameT.1 c l E W W1 wr u8 u9 u10 u11 u16 u17 u18 u19 u20 u21 u22 u30 u31 u32 u33 u34 u35 u36 u37 u38 u39 u40 u41 u42 u43 u44 u45 u46 u47 u48 u49 u50 u51 u52 u53 u54 u55 u56 u57 u58 u59 u60 u61 u62 u63 u64 u65 u66 u67 u68 u69 u70 u71 u72 u73 u74 u75 u76 u77 u78 u79 u80 u81 u82 u83 u84 u85 u86 u87 u88 u89 u90 u91 u92 u93 u94 u95 u96 u97 u98 u99 u100 u101 u102 u103 u104 u105 u106 u107 u108 u109 u110 u111 u112 u113 u114 u115 u116 u117 u118 u119 u120 u121 u122 u123 u124 u125 u126 u127 u128 u129 u130 u131 u132 u133 u134 u135 u136 u137 u138 u139 u140 u141 u142 u143 u144 u145 u146 u147 u148 u149 u150 u151 u152 u153 u154 u155 u156 u157 u158 u159 u160 u161 u162 u163 u164 u165 u166 u167 u168 u169 u170 u171 u172 u173 u174 u175 u176 u177 u178 u179 u180 u181 u182 u183 u184 u185 u186 u187 u188 u189 u190 u191 u192 u193 u194 u195 u196 u197 u198 u199 u200 u201 u202 u203 u204 u205 u206 u207 u208 u209 u210 u211 u212 u213 u214 u215 u216 u217 u218 u219 u220 u221 u222 u223 u224 u225 u226 u227 u228 u229 u230 u231 u232 u233 u234 u235 u236 u237 u238 u239 u240 u241 u242 u243 u244 u245 u246 u247 u248 u249 u250 u251 u252 u253 u254 u255 u256 u257 u258 u259 u260 u261 u262 u263 u264 u265 u266 u267 u268 u269 u270 u271 u272 u273 u274 u275 u276 u277 u278 u279 u280 u281 u282 u283 u284 u285 u286 u287 u288 u289 u290 k y cap bx ox sw top rest ax cx n2 nt K2 K1 K0 y2 c2 w2 s' := by
  have hsf := store_flt
  obtain ⟨HE, HZ, HMEM, HNK, HFA, b0, b3, HOK, HN, t1, t1i, b1, b2, b4, HLE, HNT, O2, T2, g4, x2, x3, Wt, hst2, hlt, hl2⟩ := ctx
  with_reducible (conv => whnf)
  intro J KK hJ hM
  rcases named_cases sw.data.toList with ⟨kd, hN, hkd⟩ | hno
  · generalize hlw : sw.data.toList = lw at hN
    obtain rfl := arr_eq hlw
    clear hlw
    cases hN
    · as_aux_lemma =>
      obtain rfl : top = [] := List.eq_nil_of_length_eq_zero (HNT.out.trans (HN.out.trans (by rw [hkd]; rfl)))
      obtain rfl : nt = 0 := HNT.out.symm
      rw [hkd] at hst2
      have HS2 : Hid (s' = can E.state :: rest) := (Out.ok.inj hst2).symm
      go_wp2_with (at_builtin; refine wpList_append_flts rfl (.tmp 79) (.tmp 81) rfl (W.heap.size + 1) (.slice y2 rest.length c2) rest.length rest.reverse rfl (O2.out.alloc _) (some ⟨w2.heap.size, 0, none⟩) 1 1 [E.state] rfl rfl (flts_one E.state _ HE.out.s rfl) (fun e => by cases e) (by have := HLE.out; omega) (by have h1 := Wt.out.size; have h2 := HZ.out; simp; omega) ?_; intro y3 c3 w3 hown3 hg3; have O3 := hid hown3; have T3 : Hid (Touch [] W1 w3) := hid ((Wt.out.alloc _).grown hg3 (fun k hk => .inr (by have h1 := own_row O2.out k hk; have h2 := HZ.out; omega))); clear hown3 hg3)
      go_meet
      exact cut_close (vs := [E.state]) (fun q hq => HOK.out q (List.mem_append_right _ hq)) (by simpa using HE.out.s) O3.out (by rw [HS2.out]; rfl) T3.out
    · as_aux_lemma =>
      obtain rfl : top = [] := List.eq_nil_of_length_eq_zero (HNT.out.trans (HN.out.trans (by rw [hkd]; rfl)))
      obtain rfl : nt = 0 := HNT.out.symm
      rw [hkd] at hst2
      have HS2 : Hid (s' = can E.value :: rest) := (Out.ok.inj hst2).symm
      go_wp2_with (at_builtin; refine wpList_append_flts rfl (.tmp 85) (.tmp 88) rfl (W.heap.size + 1) (.slice y2 rest.length c2) rest.length rest.reverse rfl (O2.out.alloc _) (some ⟨w2.heap.size, 0, none⟩) 1 1 [E.value] rfl rfl (flts_one E.value _ HE.out.v rfl) (fun e => by cases e) (by have := HLE.out; omega) (by have h1 := Wt.out.size; have h2 := HZ.out; simp; omega) ?_; intro y3 c3 w3 hown3 hg3; have O3 := hid hown3; have T3 : Hid (Touch [] W1 w3) := hid ((Wt.out.alloc _).grown hg3 (fun k hk => .inr (by have h1 := own_row O2.out k hk; have h2 := HZ.out; omega))); clear hown3 hg3)
      go_meet
      exact cut_close (vs := [E.value]) (fun q hq => HOK.out q (List.mem_append_right _ hq)) (by simpa using HE.out.v) O3.out (by rw [HS2.out]; rfl) T3.out
    · as_aux_lemma =>
      obtain rfl : top = [] := List.eq_nil_of_length_eq_zero (HNT.out.trans (HN.out.trans (by rw [hkd]; rfl)))
      obtain rfl : nt = 0 := HNT.out.symm
      rw [hkd] at hst2
      have HS2 : Hid (s' = can (fl E.version) :: rest) := (Out.ok.inj hst2).symm
      have cv : ∀ w, (convert 3 30 (.int .i64 E.version)).run Try.prog w = .ok (.float .f64 (fl E.version)) w := (fun w => run_convert_int_float w _ _ _ _ _ (by kernel_rfl) (by kernel_rfl))
      go_wp2_with (at_builtin; refine wpList_append_flts rfl (.tmp 92) (.tmp 95) rfl (W.heap.size + 1) (.slice y2 rest.length c2) rest.length rest.reverse rfl (O2.out.alloc _) (some ⟨w2.heap.size, 0, none⟩) 1 1 [(fl E.version)] rfl rfl (flts_one (fl E.version) _ (fl_wd _) rfl) (fun e => by cases e) (by have := HLE.out; omega) (by have h1 := Wt.out.size; have h2 := HZ.out; simp; omega) ?_; intro y3 c3 w3 hown3 hg3; have O3 := hid hown3; have T3 : Hid (Touch [] W1 w3) := hid ((Wt.out.alloc _).grown hg3 (fun k hk => .inr (by have h1 := own_row O2.out k hk; have h2 := HZ.out; omega))); clear hown3 hg3)
      go_meet
      exact cut_close (vs := [(fl E.version)]) (fun q hq => HOK.out q (List.mem_append_right _ hq)) (by simpa using (fl_wd _)) O3.out (by rw [HS2.out]; rfl) T3.out
    · as_aux_lemma =>
      obtain rfl : top = [] := List.eq_nil_of_length_eq_zero (HNT.out.trans (HN.out.trans (by rw [hkd]; rfl)))
      obtain rfl : nt = 0 := HNT.out.symm
      rw [hkd] at hst2
      have HS2 : Hid (s' = can (fl E.data.size) :: rest) := (Out.ok.inj hst2).symm
      have cv : ∀ w, (convert 3 30 (.int .i64 (E.data.size : Int))).run Try.prog w = .ok (.float .f64 (fl E.data.size)) w := (fun w => run_convert_int_float w _ _ _ _ _ (by kernel_rfl) (by kernel_rfl))
      go_wp2_with (at_builtin; refine wpList_append_flts rfl (.tmp 99) (.tmp 104) rfl (W.heap.size + 1) (.slice y2 rest.length c2) rest.length rest.reverse rfl (O2.out.alloc _) (some ⟨w2.heap.size, 0, none⟩) 1 1 [(fl E.data.size)] rfl rfl (flts_one (fl E.data.size) _ (fl_wd _) rfl) (fun e => by cases e) (by have := HLE.out; omega) (by have h1 := Wt.out.size; have h2 := HZ.out; simp; omega) ?_; intro y3 c3 w3 hown3 hg3; have O3 := hid hown3; have T3 : Hid (Touch [] W1 w3) := hid ((Wt.out.alloc _).grown hg3 (fun k hk => .inr (by have h1 := own_row O2.out k hk; have h2 := HZ.out; omega))); clear hown3 hg3)
      go_meet
      exact cut_close (vs := [(fl E.data.size)]) (fun q hq => HOK.out q (List.mem_append_right _ hq)) (by simpa using (fl_wd _)) O3.out (by rw [HS2.out]; rfl) T3.out
    · as_aux_lemma =>
      obtain ⟨a, rfl⟩ : ∃ a, top = [a] := len_one (HNT.out.trans (HN.out.trans (by rw [hkd]; rfl)))
      obtain rfl : nt = 1 := HNT.out.symm
      obtain ⟨ba, oa, rfl, ca0, wa⟩ := HFA.out 0 (by simp)
      replace ca0 := T2.out.cell ca0
      simp only [Nat.add_zero, List.reverse_singleton, List.getElem_cons_zero] at ca0 wa
      rw [hkd] at hst2
      have hpb : placeB E.data.size a = true := by
        cases hpb : placeB E.data.size a
        · have : stepK E .byte ([a] ++ rest) = .bad runtimeF := by
            show (if placeB E.data.size a = true then _ else _) = _
            rw [hpb]; rfl
          rw [this] at hst2; cases hst2
        · rfl
      have hst3 : stepK E .byte ([a] ++ rest) = .ok (can (fl ((E.data.data.toList.getD (placeOf a) 0).toNat : Int)) :: rest) := by
        show (if placeB E.data.size a = true then _ else _) = _
        rw [if_pos hpb]; rfl
      rw [hst3] at hst2
      have HS2 : Hid (s' = can (fl ((E.data.data.toList.getD (placeOf a) 0).toNat : Int)) :: rest) := (Out.ok.inj hst2).symm
      obtain ⟨hin, hwh⟩ := placeB_parts hpb
      obtain ⟨nx, hf, htr, hiv⟩ := inside_facts HE.out.d wa hin
      obtain ⟨t0, t1'⟩ := inside_tests hin
      have cl : ∀ w, (convert 3 30 (.int .i64 (E.data.size : Int))).run Try.prog w = .ok (.float .f64 (fl E.data.size)) w := (fun w => run_convert_int_float w _ _ _ _ _ (by kernel_rfl) (by kernel_rfl))
      have cv : ∀ w, (convert 30 3 (.float .f64 a)).run Try.prog w = .ok (.int .i64 ((tr (rung a) : Nat) : Int)) w := fun w => by
        rw [← hiv]
        exact run_convert_float_int w 30 3 .f64 .i64 a (ival a) (by kernel_rfl) (by kernel_rfl) (toInt_ival a wa.lt hf (by have := HE.out.d; omega))
      have cb : ∀ w, (convert 3 30 (.int .i64 ((tr (rung a) : Nat) : Int))).run Try.prog w = .ok (.float .f64 (fl ((tr (rung a) : Nat) : Int))) w := (fun w => run_convert_int_float w _ _ _ _ _ (by kernel_rfl) (by kernel_rfl))
      have t2 : (FloatKind.f64.format.order (fl ((tr (rung a) : Nat) : Int)) a != some .eq) = false := by
        have := ref_whole HE.out.d wa hin hwh
        rw [hiv] at this
        simp only [bne, this, Bool.not_true]
      have hpl : placeOf a = tr (rung a) := by unfold placeOf; rw [hiv]; simp
      rw [hpl] at HS2
      generalize tr (rung a) = ix at *
      have hget : E.data.data.toList.getD ix 0 = E.data[ix] := by
        rw [List.getD_eq_getElem?_getD, List.getElem?_eq_getElem (by rw [list_len]; exact htr)]; rfl
      rw [hget] at HS2
      have cbb : ∀ w, (convert 5 30 (.int .u8 (E.data[ix].toNat : Int))).run Try.prog w = .ok (.float .f64 (fl (E.data[ix].toNat : Int))) w := (fun w => run_convert_int_float w _ _ _ _ _ (by kernel_rfl) (by kernel_rfl))
      have hwd := hid (fl_wd (E.data[ix].toNat : Int))
      clear hst2 hst3 hpb hin hwh nx hf hiv hpl hget wa
      go_wp2_with (at_builtin; refine wpList_append_flts rfl (.tmp 129) (.tmp 136) rfl (W.heap.size + 1) (.slice y2 rest.length c2) rest.length rest.reverse rfl (O2.out.alloc _) (some ⟨w2.heap.size, 0, none⟩) 1 1 [(fl (E.data[ix].toNat : Int))] rfl rfl (flts_one (fl (E.data[ix].toNat : Int)) _ hwd.out rfl) (fun e => by cases e) (by have := HLE.out; omega) (by have h1 := Wt.out.size; have h2 := HZ.out; simp; omega) ?_; intro y3 c3 w3 hown3 hg3; have O3 := hid hown3; have T3 : Hid (Touch [] W1 w3) := hid ((Wt.out.alloc _).grown hg3 (fun k hk => .inr (by have h1 := own_row O2.out k hk; have h2 := HZ.out; omega))); clear hown3 hg3)
      go_meet
      exact cut_close (vs := [fl (E.data[ix].toNat : Int)]) (fun q hq => HOK.out q (List.mem_append_right _ hq)) (by simpa using hwd.out) O3.out (by rw [HS2.out]; rfl) T3.out
    · as_aux_lemma =>
      obtain ⟨a, rfl⟩ : ∃ a, top = [a] := len_one (HNT.out.trans (HN.out.trans (by rw [hkd]; rfl)))
      obtain rfl : nt = 1 := HNT.out.symm
      obtain ⟨ba, oa, rfl, ca0, wa⟩ := HFA.out 0 (by simp)
      replace ca0 := T2.out.cell ca0
      simp only [Nat.add_zero, List.reverse_singleton, List.getElem_cons_zero] at ca0 wa
      rw [hkd] at hst2
      have HS2 : Hid (s' = can (flip a) :: rest) := (Out.ok.inj hst2).symm
      have hn := neg_run a wa
      have HWA := hid wa
      clear wa
      go_wp2_with (at_builtin; refine wpList_append_flts rfl (.tmp 140) (.tmp 145) rfl (W.heap.size + 1) (.slice y2 rest.length c2) rest.length rest.reverse rfl (O2.out.alloc _) (some ⟨w2.heap.size, 0, none⟩) 1 1 [(flip a)] rfl rfl (flts_one (flip a) _ HWA.out.flip rfl) (fun e => by cases e) (by have := HLE.out; omega) (by have h1 := Wt.out.size; have h2 := HZ.out; simp; omega) ?_; intro y3 c3 w3 hown3 hg3; have O3 := hid hown3; have T3 : Hid (Touch [] W1 w3) := hid ((Wt.out.alloc _).grown hg3 (fun k hk => .inr (by have h1 := own_row O2.out k hk; have h2 := HZ.out; omega))); clear hown3 hg3)
      go_meet
      exact cut_close (vs := [(flip a)]) (fun q hq => HOK.out q (List.mem_append_right _ hq)) (by simpa using HWA.out.flip) O3.out (by rw [HS2.out]; rfl) T3.out
    · rw [hkd] at hg
      cases hg
    · rw [hkd] at hg
      cases hg
    · rw [hkd] at hg
      cases hg
    · rw [hkd] at hg
      cases hg
    · rw [hkd] at hg
      cases hg
    · rw [hkd] at hg
      cases hg
    · rw [hkd] at hg
      cases hg
    · rw [hkd] at hg
      cases hg
    · rw [hkd] at hg
      cases hg
    · rw [hkd] at hg
      cases hg
    · rw [hkd] at hg
      cases hg
    · rw [hkd] at hst2
      cases top with
      | nil => cases hst2
      | cons q t => cases hst2
  · clear hg
    have e0 : (parseOf sw.data.toList).2 = 0 := by
      cases h0 : decide ((parseOf sw.data.toList).2 = 0)
      · have h1 : (parseOf sw.data.toList).2 ≠ 0 := by simpa using h0
        have := HNK.out
        rw [kind_none hno h1] at this
        cases this
      · simpa using h0
    have hkd := kind_num hno e0
    obtain rfl : top = [] := List.eq_nil_of_length_eq_zero (HNT.out.trans (HN.out.trans (by rw [hkd]; rfl)))
    obtain rfl : nt = 0 := HNT.out.symm
    rw [hkd] at hst2
    have HS2 : Hid (s' = can (parseOf sw.data.toList).1 :: rest) := (Out.ok.inj hst2).symm
    have D := hid (fun w => refParse_any sw w HMEM.out)
    obtain ⟨n1, n2', n3, n4, n5, n6, n7, n8, n9, n10, n11⟩ := no_tests hno
    obtain ⟨m1, m2, m3, m4, m5, m6, m7⟩ := two_tests hno
    have PW := hid (parse_wd sw.data.toList)
    rw [e0] at D
    clear hst2 hkd e0 hno
    generalize (parseOf sw.data.toList).1 = p at *
    go_wp2_with (first | (go_at_call 29; refine (D.out _).mono ?_; rintro e w' ⟨rfl, rfl⟩) | (at_builtin; refine wpList_append_flts rfl (.tmp 73) (.tmp 75) rfl (W.heap.size + 1) (.slice y2 rest.length c2) rest.length rest.reverse rfl (O2.out.alloc _) (some ⟨w2.heap.size, 0, none⟩) 1 1 [p] rfl rfl (flts_one p _ PW.out rfl) (fun e => by cases e) (by have := HLE.out; omega) (by have h1 := Wt.out.size; have h2 := HZ.out; simp; omega) ?_; intro y3 c3 w3 hown3 hg3; have O3 := hid hown3; have T3 : Hid (Touch [] W1 w3) := hid ((Wt.out.alloc _).grown hg3 (fun k hk => .inr (by have h1 := own_row O2.out k hk; have h2 := HZ.out; omega))); clear hown3 hg3))
    go_meet
    exact cut_close (vs := [p]) (fun q hq => HOK.out q (List.mem_append_right _ hq)) (by simpa using PW.out) O3.out (by rw [HS2.out]; rfl) T3.out
end Go.Proofs.Ytiglfdefeaddmaa
