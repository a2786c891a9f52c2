/- What the laws' own Run tells, put together. The laws' own Run of a program that Check refuses. ProgFolds, walked. -/
import Derived.Test.YtiglfdefeaddmaaRefRunP0
import Derived.Test.YtiglfdefeaddmaaRefRunP1
import Derived.Test.YtiglfdefeaddmaaRefRunP2
import Derived.Test.YtiglfdefeaddmaaRefRunP3
import Derived.Test.YtiglfdefeaddmaaStk
import Derived.Test.YtiglfdefeaddmaaTakes
import Derived.Test.YtiglfdefeaddmaaPRun
import Derived.Test.YtiglfdefeaddmaaFoldw
namespace Go.Proofs.Ytiglfdefeaddmaa
open Go.RowKit Go.Lib

theorem refRun_ok (x : Option Addr) (c : Nat) (l : List ByteArray) (E : EnvD) (W : World) (hE : E.Ok) (hl : l.length ≤ 64) (hx : TextsX W x l) (hsz : ∀ s ∈ l, s.size ≤ 100000) (hok : ∀ j (hj : j < l.length), noWord l[j] = false) :
    Calls Try.prog 12 #[.slice x l.length c, .float .f64 E.state, E.ev, .int .i64 E.version] W (RefPost (resOf (exec E (wordsL l) [])) W) :=
  frameT.2 (fun c l E W W1 wr u8 u9 u10 u11 u16 u17 u18 u19 u20 u21 u22 u30 u31 u32 u33 u34 u35 u36 u37 u38 u39 u40 u41 u42 u43 u44 u45 u46 u47 u48 u49 u50 u51 u52 u53 u54 u55 u56 u57 u58 u59 u60 u61 u62 u63 u64 u65 u66 u67 u68 u69 u70 u71 u72 u73 u74 u75 u76 u77 u78 u79 u80 u81 u82 u83 u84 u85 u86 u87 u88 u89 u90 u91 u92 u93 u94 u95 u96 u97 u98 u99 u100 u101 u102 u103 u104 u105 u106 u107 u108 u109 u110 u111 u112 u113 u114 u115 u116 u117 u118 u119 u120 u121 u122 u123 u124 u125 u126 u127 u128 u129 u130 u131 u132 u133 u134 u135 u136 u137 u138 u139 u140 u141 u142 u143 u144 u145 u146 u147 u148 u149 u150 u151 u152 u153 u154 u155 u156 u157 u158 u159 u160 u161 u162 u163 u164 u165 u166 u167 u168 u169 u170 u171 u172 u173 u174 u175 u176 u177 u178 u179 u180 u181 u182 u183 u184 u185 u186 u187 u188 u189 u190 u191 u192 u193 u194 u195 u196 u197 u198 u199 u200 u201 u202 u203 u204 u205 u206 u207 u208 u209 u210 u211 u212 u213 u214 u215 u216 u217 u218 u219 u220 u221 u222 u223 u224 u225 u226 u227 u228 u229 u230 u231 u232 u233 u234 u235 u236 u237 u238 u239 u240 u241 u242 u243 u244 u245 u246 u247 u248 u249 u250 u251 u252 u253 u254 u255 u256 u257 u258 u259 u260 u261 u262 u263 u264 u265 u266 u267 u268 u269 u270 u271 u272 u273 u274 u275 u276 u277 u278 u279 u280 u281 u282 u283 u284 u285 u286 u287 u288 u289 u290 k y cap bx ox sw top rest ax cx n2 nt K2 K1 K0 y2 c2 w2 s' ctx => by
    rcases grp_lt (kindOf sw.data.toList) with h | h | h | h
    · exact arms0 c l E W W1 wr u8 u9 u10 u11 u16 u17 u18 u19 u20 u21 u22 u30 u31 u32 u33 u34 u35 u36 u37 u38 u39 u40 u41 u42 u43 u44 u45 u46 u47 u48 u49 u50 u51 u52 u53 u54 u55 u56 u57 u58 u59 u60 u61 u62 u63 u64 u65 u66 u67 u68 u69 u70 u71 u72 u73 u74 u75 u76 u77 u78 u79 u80 u81 u82 u83 u84 u85 u86 u87 u88 u89 u90 u91 u92 u93 u94 u95 u96 u97 u98 u99 u100 u101 u102 u103 u104 u105 u106 u107 u108 u109 u110 u111 u112 u113 u114 u115 u116 u117 u118 u119 u120 u121 u122 u123 u124 u125 u126 u127 u128 u129 u130 u131 u132 u133 u134 u135 u136 u137 u138 u139 u140 u141 u142 u143 u144 u145 u146 u147 u148 u149 u150 u151 u152 u153 u154 u155 u156 u157 u158 u159 u160 u161 u162 u163 u164 u165 u166 u167 u168 u169 u170 u171 u172 u173 u174 u175 u176 u177 u178 u179 u180 u181 u182 u183 u184 u185 u186 u187 u188 u189 u190 u191 u192 u193 u194 u195 u196 u197 u198 u199 u200 u201 u202 u203 u204 u205 u206 u207 u208 u209 u210 u211 u212 u213 u214 u215 u216 u217 u218 u219 u220 u221 u222 u223 u224 u225 u226 u227 u228 u229 u230 u231 u232 u233 u234 u235 u236 u237 u238 u239 u240 u241 u242 u243 u244 u245 u246 u247 u248 u249 u250 u251 u252 u253 u254 u255 u256 u257 u258 u259 u260 u261 u262 u263 u264 u265 u266 u267 u268 u269 u270 u271 u272 u273 u274 u275 u276 u277 u278 u279 u280 u281 u282 u283 u284 u285 u286 u287 u288 u289 u290 k y cap bx ox sw top rest ax cx n2 nt K2 K1 K0 y2 c2 w2 s' ctx h
    · exact arms1 c l E W W1 wr u8 u9 u10 u11 u16 u17 u18 u19 u20 u21 u22 u30 u31 u32 u33 u34 u35 u36 u37 u38 u39 u40 u41 u42 u43 u44 u45 u46 u47 u48 u49 u50 u51 u52 u53 u54 u55 u56 u57 u58 u59 u60 u61 u62 u63 u64 u65 u66 u67 u68 u69 u70 u71 u72 u73 u74 u75 u76 u77 u78 u79 u80 u81 u82 u83 u84 u85 u86 u87 u88 u89 u90 u91 u92 u93 u94 u95 u96 u97 u98 u99 u100 u101 u102 u103 u104 u105 u106 u107 u108 u109 u110 u111 u112 u113 u114 u115 u116 u117 u118 u119 u120 u121 u122 u123 u124 u125 u126 u127 u128 u129 u130 u131 u132 u133 u134 u135 u136 u137 u138 u139 u140 u141 u142 u143 u144 u145 u146 u147 u148 u149 u150 u151 u152 u153 u154 u155 u156 u157 u158 u159 u160 u161 u162 u163 u164 u165 u166 u167 u168 u169 u170 u171 u172 u173 u174 u175 u176 u177 u178 u179 u180 u181 u182 u183 u184 u185 u186 u187 u188 u189 u190 u191 u192 u193 u194 u195 u196 u197 u198 u199 u200 u201 u202 u203 u204 u205 u206 u207 u208 u209 u210 u211 u212 u213 u214 u215 u216 u217 u218 u219 u220 u221 u222 u223 u224 u225 u226 u227 u228 u229 u230 u231 u232 u233 u234 u235 u236 u237 u238 u239 u240 u241 u242 u243 u244 u245 u246 u247 u248 u249 u250 u251 u252 u253 u254 u255 u256 u257 u258 u259 u260 u261 u262 u263 u264 u265 u266 u267 u268 u269 u270 u271 u272 u273 u274 u275 u276 u277 u278 u279 u280 u281 u282 u283 u284 u285 u286 u287 u288 u289 u290 k y cap bx ox sw top rest ax cx n2 nt K2 K1 K0 y2 c2 w2 s' ctx h
    · exact arms2 c l E W W1 wr u8 u9 u10 u11 u16 u17 u18 u19 u20 u21 u22 u30 u31 u32 u33 u34 u35 u36 u37 u38 u39 u40 u41 u42 u43 u44 u45 u46 u47 u48 u49 u50 u51 u52 u53 u54 u55 u56 u57 u58 u59 u60 u61 u62 u63 u64 u65 u66 u67 u68 u69 u70 u71 u72 u73 u74 u75 u76 u77 u78 u79 u80 u81 u82 u83 u84 u85 u86 u87 u88 u89 u90 u91 u92 u93 u94 u95 u96 u97 u98 u99 u100 u101 u102 u103 u104 u105 u106 u107 u108 u109 u110 u111 u112 u113 u114 u115 u116 u117 u118 u119 u120 u121 u122 u123 u124 u125 u126 u127 u128 u129 u130 u131 u132 u133 u134 u135 u136 u137 u138 u139 u140 u141 u142 u143 u144 u145 u146 u147 u148 u149 u150 u151 u152 u153 u154 u155 u156 u157 u158 u159 u160 u161 u162 u163 u164 u165 u166 u167 u168 u169 u170 u171 u172 u173 u174 u175 u176 u177 u178 u179 u180 u181 u182 u183 u184 u185 u186 u187 u188 u189 u190 u191 u192 u193 u194 u195 u196 u197 u198 u199 u200 u201 u202 u203 u204 u205 u206 u207 u208 u209 u210 u211 u212 u213 u214 u215 u216 u217 u218 u219 u220 u221 u222 u223 u224 u225 u226 u227 u228 u229 u230 u231 u232 u233 u234 u235 u236 u237 u238 u239 u240 u241 u242 u243 u244 u245 u246 u247 u248 u249 u250 u251 u252 u253 u254 u255 u256 u257 u258 u259 u260 u261 u262 u263 u264 u265 u266 u267 u268 u269 u270 u271 u272 u273 u274 u275 u276 u277 u278 u279 u280 u281 u282 u283 u284 u285 u286 u287 u288 u289 u290 k y cap bx ox sw top rest ax cx n2 nt K2 K1 K0 y2 c2 w2 s' ctx h
    · exact arms3 c l E W W1 wr u8 u9 u10 u11 u16 u17 u18 u19 u20 u21 u22 u30 u31 u32 u33 u34 u35 u36 u37 u38 u39 u40 u41 u42 u43 u44 u45 u46 u47 u48 u49 u50 u51 u52 u53 u54 u55 u56 u57 u58 u59 u60 u61 u62 u63 u64 u65 u66 u67 u68 u69 u70 u71 u72 u73 u74 u75 u76 u77 u78 u79 u80 u81 u82 u83 u84 u85 u86 u87 u88 u89 u90 u91 u92 u93 u94 u95 u96 u97 u98 u99 u100 u101 u102 u103 u104 u105 u106 u107 u108 u109 u110 u111 u112 u113 u114 u115 u116 u117 u118 u119 u120 u121 u122 u123 u124 u125 u126 u127 u128 u129 u130 u131 u132 u133 u134 u135 u136 u137 u138 u139 u140 u141 u142 u143 u144 u145 u146 u147 u148 u149 u150 u151 u152 u153 u154 u155 u156 u157 u158 u159 u160 u161 u162 u163 u164 u165 u166 u167 u168 u169 u170 u171 u172 u173 u174 u175 u176 u177 u178 u179 u180 u181 u182 u183 u184 u185 u186 u187 u188 u189 u190 u191 u192 u193 u194 u195 u196 u197 u198 u199 u200 u201 u202 u203 u204 u205 u206 u207 u208 u209 u210 u211 u212 u213 u214 u215 u216 u217 u218 u219 u220 u221 u222 u223 u224 u225 u226 u227 u228 u229 u230 u231 u232 u233 u234 u235 u236 u237 u238 u239 u240 u241 u242 u243 u244 u245 u246 u247 u248 u249 u250 u251 u252 u253 u254 u255 u256 u257 u258 u259 u260 u261 u262 u263 u264 u265 u266 u267 u268 u269 u270 u271 u272 u273 u274 u275 u276 u277 u278 u279 u280 u281 u282 u283 u284 u285 u286 u287 u288 u289 u290 k y cap bx ox sw top rest ax cx n2 nt K2 K1 K0 y2 c2 w2 s' ctx h) x c l E W hE hl hx hsz hok
end Go.Proofs.Ytiglfdefeaddmaa

namespace Go.Proofs.Ytiglfdefeaddmaa
open Go.RowKit Go.Lib

set_option maxHeartbeats 100000000 in
set_option maxRecDepth 100000 in
theorem refRun_bad (x : Option Addr) (c : Nat) (l : List ByteArray) (E : EnvD) (W : World) (hl : l.length ≤ 100000) (hx : TextsX W x l) (hsz : ∀ s ∈ l, s.size ≤ 100000) (hbad : (checkOf l).1 ≠ 0) :
    Calls Try.prog 12 #[.slice x l.length c, .float .f64 E.state, .agg #[.int .i64 E.id, .string E.typ, .string E.data, .float .f64 E.value], .int .i64 E.version] W
      fun e W' => e = .returned (.tuple #[.float .f64 (runOf E l).1, .int .i64 (runOf E l).2.err, .int .i64 (runOf E l).2.kind, .string (runOf E l).2.text]) ∧ Touch [] W W' := by
  have K := hid (fun (w1 : World) (h : Touch [] W w1) => refCheck_any x c l w1 hl (hx.touch h) hsz)
  have hr : Hid (runOf E l = (0, ⟨6, 0, none8⟩)) := hid (by unfold runOf; rw [if_neg hbad])
  have hb : Hid ((checkOf l).1 = 2 ∨ (checkOf l).1 = 6) := hid (by
    unfold checkOf at hbad ⊢
    split
    · exact .inl rfl
    · split
      · exact .inr rfl
      · rename_i h1 _ h2
        rw [if_neg h1, h2] at hbad
        exact absurd rfl hbad)
  clear hx hl hsz hbad
  generalize checkOf l = ck at *
  obtain ⟨ca, cb⟩ := ck
  go_enter Try.func12, Try.ntmps12
  rcases hb.out with hb2 | hb2 <;> (
    obtain rfl := hb2
    go_wp2_with (go_at_call 27; refine (K.out _ ((Touch.refl _ _).alloc _)).mono ?_; rintro e w' ⟨rfl, rfl⟩)
    refine bodyPost_ret (v := .tuple #[.float .f64 0, .int .i64 6, .int .i64 0, .string none8]) (by simp [results, Try.results12, go_sem]) rfl ?_
    exact ⟨by rw [hr.out], (Touch.refl _ _).alloc _⟩)
end Go.Proofs.Ytiglfdefeaddmaa

namespace Go.Proofs.Ytiglfdefeaddmaa
open Go.RowKit Go.Lib Go.ChangeShapes Go.WideShapes

theorem refRun_any (x : Option Addr) (c : Nat) (ws : List ByteArray) (W : World) (hl : ws.length ≤ 100000) (hsz : ∀ s ∈ ws, s.size ≤ 100000) : RefSays x c ws W := fun E w hE hx _ => by
  by_cases h : (checkOf ws).1 = 0
  · obtain ⟨h64, hok⟩ := ok_of_check h
    have hr : runOf E ws = resOf (exec E (wordsL ws) []) := by unfold runOf; rw [if_pos h]
    rw [hr]
    exact refRun_ok x c ws E w hE h64 hx hsz hok
  · exact refRun_bad x c ws E w hl hx hsz h

theorem fold_u64 {x : Int} (h : (Lit.int .u64 x).wf = true) : ∃ n : Nat, x = n ∧ Wd n := by
  have h2 : 0 ≤ x ∧ x ≤ 18446744073709551615 := by
    have e1 : IntKind.u64.min = 0 := rfl
    have e2 : IntKind.u64.max = 18446744073709551615 := rfl
    simp only [Lit.wf, e1, e2, Bool.and_eq_true, decide_eq_true_eq] at h
    exact h
  exact ⟨x.toNat, by omega, by unfold Wd; omega⟩
theorem walk_ProgFolds (va : Value) (ws : List ByteArray) (a : Int) (wa : (Lit.int .u64 a).wf = true) (vb : Value) (l : List StoD) (z : Int) (wz : (Lit.int .i64 z).wf = true) (W : World) (ha : Strs W va ws) (hb : Stos W vb l) :
    Calls Try.prog 3 #[va, .int .u64 a, vb, .int .i64 z] W fun e w' => e = .returned (.bool true) ∧ Touch [] W w' := by
  obtain ⟨x, c, rfl, hws, hx, _⟩ := ha
  obtain ⟨y, d, rfl, hld, hd, hy, hyn⟩ := hb
  obtain ⟨st, rfl, hst⟩ := fold_u64 wa
  obtain ⟨b1, b2⟩ := bounds_i64 wz
  by_cases h : fewB 30 l = false ∨ z < 0 ∨ (l.length : Int) < z
  · exact folds_out x c ws st y d l z W hx hws hy (by omega) b1 b2 h
  · simp only [not_or, Bool.not_eq_false, Int.not_lt] at h
    obtain ⟨h1, h2, h3⟩ := h
    obtain ⟨cut, rfl⟩ := Int.eq_ofNat_of_zero_le h2
    exact folds_in x c ws st y d l cut W (fun hsz hl => refRun_any x c ws W hl hsz) hx hws hst hy hyn hld hd (by omega) h1
end Go.Proofs.Ytiglfdefeaddmaa
