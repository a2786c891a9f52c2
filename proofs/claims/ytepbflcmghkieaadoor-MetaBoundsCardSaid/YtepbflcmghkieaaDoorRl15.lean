/- A loop over a function value whose own steps store into boxes that lay there ahead of the loop: such a loop, for the caller's one invariant. -/
import Derived.RangeFuncNested
import Derived.Test.YtepbflcmghkieaaDoorBase
namespace Go.Proofs.YtepbflcmghkieaaDoor
open Go.RowKit

theorem room_of_none {F : Fence} (hd : F.depth = none) (k : Nat) : F.room k := fun d h => by rw [hd] at h; cases h
theorem round_anyDepth {F : Fence} (hd : F.depth = none) {m m' : Nat} {P : Program} {l : Nat} {f : FuncId} {tmps : Array Value} {assign body : Code} {w : World} {R : Ending → World → Prop}
    (h : RoundIn F m P l f tmps assign body w R) : RoundIn F m' P l f tmps assign body w R := ⟨h.1, fun c cs _ => h.2 c cs (room_of_none hd _)⟩
theorem yield_anyDepth {F : Fence} (hd : F.depth = none) {m : Nat} (m' : Nat) {P : Program} {l : Nat} {args : Array Value} {W : World} {R : Ending → World → Prop} (h : YieldAt F m P l args W R) : YieldAt F m' P l args W R := by
  obtain ⟨fn, tmps, assign, body, hy, hR⟩ := h
  exact ⟨fn, tmps, assign, body, hy, round_anyDepth hd hR⟩
/-- What a round may not turn: the blocks of which Pr holds. -/
structure KpP (Pr : Nat → Prop) (W W' : World) : Prop where
  size : W.heap.size ≤ W'.heap.size
  keep : ∀ k, Pr k → k < W.heap.size → W'.heap[k]? = W.heap[k]?
theorem KpP.refl (Pr : Nat → Prop) (W : World) : KpP Pr W W := ⟨Nat.le_refl _, fun _ _ _ => rfl⟩
theorem KpP.trans {Pr : Nat → Prop} {A B C : World} (h : KpP Pr A B) (k : KpP Pr B C) : KpP Pr A C := ⟨Nat.le_trans h.size k.size, fun i hi hl => (k.keep i hi (Nat.lt_of_lt_of_le hl h.size)).trans (h.keep i hi hl)⟩
theorem KpP.of_touch {Pr : Nat → Prop} {F : List Nat} {W W' : World} (t : Touch F W W') (hF : ∀ k ∈ F, ¬ Pr k) : KpP Pr W W' := ⟨t.size, fun k hk hl => t.block k hl (fun h => hF k h hk)⟩
theorem KpP.put {Pr : Nat → Prop} (W : World) {l : Nat} (o : Obj) (hn : ¬ Pr l) : KpP Pr W (W.putObj l o) :=
  KpP.of_touch (F := [l]) ((Touch.refl [l] W).grown (grownBy_putObj' W l o) (fun k e => by cases e; left; simp)) (fun k hk => by obtain rfl := List.mem_singleton.1 hk; exact hn)
/-- The books of such a loop: at b what its rounds deferred, behind it its record. -/
structure Books (b : Nat) (r : Loop) (W : World) : Prop where
  dfr : W.heap[b]? = some (.deferred (some []))
  rec' : W.heap[b + 1]? = some (.loop r)
theorem Books.keep {b : Nat} {r : Loop} {W W' : World} (h : Books b r W) (k : KeepsFrom b W W') : Books b r W' := ⟨k.same _ _ (Nat.le_refl _) h.dfr rfl, k.same _ _ (Nat.le_succ _) h.rec' rfl⟩
theorem Books.turn {b : Nat} {r : Loop} {W : World} (h : Books b r W) (r' : Loop) : Books b r' (W.putObj (b + 1) (.loop r')) :=
  ⟨(World.putObj_heap_other (by omega)).trans h.dfr, World.putObj_heap_same (Array.getElem?_eq_some_iff.1 h.rec').1⟩
theorem Books.own {b : Nat} {r : Loop} {W : World} {β : Type} {I : β → World → Prop} (h : Books b r W) (hI : OwnFrom b I) (r' : Loop) {s : β} (hs : I s W) : I s (W.putObj (b + 1) (.loop r')) :=
  hI.putObj _ hs (Nat.le_succ _) h.rec' rfl
/-- A jump of the body's: what is then kept, and what is left to be done. -/
def bookOf (w : World) (a : Act) (fn : FuncId) (ps : Array Tmp) (assign body : Code) (st : LoopState) (pe : Option Code) : Loop :=
  { state := st, pending := pe, fn, tmps := a.tmps, params := ps, assign, body, defers := w.heap.size }
theorem round_done {P : Program} {w W : World} {a : Act} {fn : FuncId} {ps : Array Tmp} {assign body : Code} (h : Books w.heap.size (bookOf w a fn ps assign body .busy none) W) (jump : Option Code) :
    (Instr.endRound (w.heap.size + 1) jump).run P W = .ok (.bool jump.isNone) (W.putObj (w.heap.size + 1) (.loop (bookOf w a fn ps assign body (if jump.isNone then .ready else .done) jump))) :=
  run_endRound jump h.rec'
section
variable {F : Fence} {n : Nat} {P : Program} {α : Type} {g : Operand} {ps : Array Tmp} {assign body : Code} {Q : Exit → Act → World → Prop} {a : Act} {w : World} {gf : Nat} {lb : Array Value} {encs : α → Array Value} {Pr : Nat → Prop} {S Sp : List α → Prop} {N : Nat}
theorem rangeBoxes (hro : F.round = none) (h1 : 1 ≤ n) (hg : a.eval g = .func (.func gf) #[] lb) (hFg : F.fn gf) (eg : ∀ args w, (callFunc gf args).run P w = .ok (.enter gf args) w) (hps : ∀ x, (encs x).size = ps.size) (hPr : ∀ k, Pr k → k < w.heap.size)
    (I : List α → World → Prop) (Ix : Code → List α → World → Prop) (hI : OwnFrom w.heap.size I) (hIx : ∀ c, OwnFrom w.heap.size (Ix c)) (h0 : I [] w)
    (hseq : ∀ (l : Nat) (J Jx : List α → World → Prop) (W : World), KpP Pr w W → J [] W → (∀ pre W1, J pre W1 → I pre W1) → (∀ pre W1 W2, J pre W1 → I pre W2 → KeepsFrom w.heap.size W1 W2 → J pre W2) →
      (∀ pre x W1, J pre W1 → pre.length < N → YieldAt F (n - 1 - 1) P l (encs x) W1 fun e W' => (e = .returned (.bool true) ∧ J (pre ++ [x]) W' ∧ KpP Pr W1 W') ∨ (e = .returned (.bool false) ∧ Jx (pre ++ [x]) W')) →
      CallsIn F (n - 1) P gf (#[.func (.yield l) #[] #[]] ++ lb) W fun e W' => (∃ v, e = .returned v) ∧ ((∃ xs, S xs ∧ J xs W') ∨ (∃ pre, Sp pre ∧ Jx pre W')))
    (act : α → Act) (hassign : ∀ (l : Nat) (x : α) (W : World) (K : Act → World → Prop), K (act x) W →
      assign.wpIn (F.inRound l) (n - 1 - 1) P (Exit.then K (fun _ _ _ => False)) { tmps := (ps.zip (encs x)).foldl (fun t (p, v) => t.setIfInBounds p v) a.tmps, defers := [] } W)
    (hbody : ∀ (l : Nat) (pre : List α) (x : α) (W : World), w.heap.size ≤ l → (∃ r, W.heap[l]? = some (.loop r)) → I pre W → pre.length < N → body.wpIn (F.inRound l) (n - 1 - 1) P (ownPostG w.heap.size (KpP Pr) I Ix (pre ++ [x]) W) (act x) W)
    (hdone : ∀ (D : Nat) (xs : List α) (W : World), w.heap.size ≤ D → S xs → I xs W → W.heap[D]? = some (.deferred (some [])) → Q .normal { a with defers := { target := .collected D, args := #[] } :: a.defers } W)
    (hstop : ∀ (D : Nat) (c : Code) (pre : List α) (W : World), w.heap.size ≤ D → Sp pre → Ix c pre W → W.heap[D]? = some (.deferred (some [])) → c.wpIn F n P Q { a with defers := { target := .collected D, args := #[] } :: a.defers } W) :
    (Code.rangeFunc g ps assign body).wpIn F n P Q a w := by
  refine wpIn_rangeFunc fun fn hfn => ?_
  rw [hro]
  have hB1 : Books w.heap.size (bookOf w a fn ps assign body .ready none) ((w.alloc (.deferred (some []))).alloc (.loop (bookOf w a fn ps assign body .ready none))) := by
    refine ⟨(Below.heap_alloc _ _ _ (by simp)).trans (World.alloc_heap_new w _), ?_⟩
    have := World.alloc_heap_new (w.alloc (.deferred (some []))) (.loop (bookOf w a fn ps assign body .ready none))
    rwa [World.size_alloc] at this
  have hI1 : I [] ((w.alloc (.deferred (some []))).alloc (.loop (bookOf w a fn ps assign body .ready none))) := hI.alloc _ (hI.alloc _ h0)
  have hK1 : KpP Pr w ((w.alloc (.deferred (some []))).alloc (.loop (bookOf w a fn ps assign body .ready none))) := KpP.of_touch (((Touch.refl [] w).alloc _).alloc _) (by simp)
  refine ⟨w.heap.size + 1, [{ target := .collected w.heap.size, args := #[] }], ((w.alloc (.deferred (some []))).alloc (.loop (bookOf w a fn ps assign body .ready none))), { target := .fn (.func gf) lb, args := #[.func (.yield (w.heap.size + 1)) #[] #[]] }, ((w.alloc (.deferred (some []))).alloc (.loop (bookOf w a fn ps assign body .ready none))), gf, #[.func (.yield (w.heap.size + 1)) #[] #[]] ++ lb, ((w.alloc (.deferred (some []))).alloc (.loop (bookOf w a fn ps assign body .ready none))),
    run_enterLoop_outer _ _ _ _ _, ?_, ?_, ?_, fun _ => h1, ?_⟩
  · simp only [resolve, hg]
    simp [go_sem]
  · intro f' hf'
    simp [Target.leads] at hf'
    subst hf'
    exact hFg
  · simp [invoke, go_sem, eg]
  · change CallsIn _ _ _ _ _ ((w.alloc (.deferred (some []))).alloc (.loop (bookOf w a fn ps assign body .ready none))) _
    generalize (w.alloc (.deferred (some []))).alloc (.loop (bookOf w a fn ps assign body .ready none)) = W1 at *
    refine (hseq (w.heap.size + 1) (fun pre W => I pre W ∧ Books w.heap.size (bookOf w a fn ps assign body .ready none) W)
      (fun pre W => ∃ c, Ix c pre W ∧ Books w.heap.size (bookOf w a fn ps assign body .done (some c)) W) W1 hK1 ⟨hI1, hB1⟩ (fun _ _ h => h.1) (fun _ _ _ h hi hk => ⟨hi, h.2.keep hk⟩) ?_).mono ?_
    · rintro pre x W ⟨hi, hb⟩ hlen
      have hy := run_yield (P := P) (args := encs x) hb.rec' (hps x)
      refine ⟨fn, _, assign, body, hy, roundIn_of_wpIn hfn (hassign _ x W _ ?_)⟩
      refine ⟨_, run_beginRound hb.rec' rfl, ?_⟩
      have hb2 : Books w.heap.size (bookOf w a fn ps assign body .busy none) (W.putObj (w.heap.size + 1) (.loop (bookOf w a fn ps assign body .busy none))) := hb.turn _
      have hn : ¬ Pr (w.heap.size + 1) := fun h => by have := hPr _ h; omega
      refine wpIn_mono (hbody _ pre x _ (by omega) ⟨_, hb2.rec'⟩ (hb.own hI _ hi) hlen) ?_
      have fin : ∀ {c : Code} {W3 : World}, KeepsFrom w.heap.size (W.putObj (w.heap.size + 1) (.loop (bookOf w a fn ps assign body .busy none))) W3 → Ix c (pre ++ [x]) W3 →
          ∃ v w2, (Instr.endRound (w.heap.size + 1) (some c)).run P W3 = .ok v w2 ∧ ((Ending.returned v = .returned (.bool true) ∧ (I (pre ++ [x]) w2 ∧ Books w.heap.size (bookOf w a fn ps assign body .ready none) w2) ∧ KpP Pr W w2) ∨
            (Ending.returned v = .returned (.bool false) ∧ ∃ c, Ix c (pre ++ [x]) w2 ∧ Books w.heap.size (bookOf w a fn ps assign body .done (some c)) w2)) := fun {c W3} hk hx =>
        have hb3 := hb2.keep hk
        ⟨_, _, round_done hb3 (some c), .inr ⟨rfl, c, hb3.own (hIx c) _ hx, hb3.turn _⟩⟩
      rintro e a3 W3 hp
      cases e with
      | normal =>
        obtain ⟨hk3, hkp3, hi3⟩ := hp
        have hb3 := hb2.keep hk3
        exact ⟨_, _, round_done hb3 none, .inl ⟨rfl, ⟨hb3.own hI _ hi3, hb3.turn _⟩, ((KpP.put W _ hn).trans hkp3).trans (KpP.put W3 _ hn)⟩⟩
      | ret => exact fin hp.1 hp.2
      | exit id => exact fin hp.1 hp.2
      | goto t => exact fin hp.1 hp.2
      | panic ch => exact hp.elim
      | outgrown => exact hp.elim
    · rintro e W2 ⟨⟨v, rfl⟩, (⟨xs, hS, hi, hb⟩ | ⟨pre, hSp, c, hx, hb⟩)⟩
      · exact ⟨none, _, run_endLoop hb.rec' (by simp [bookOf]), hdone _ xs _ (Nat.le_refl _) hS (hb.own hI _ hi) ((World.putObj_heap_other (by omega)).trans hb.dfr)⟩
      · exact ⟨some c, _, run_endLoop hb.rec' (by simp [bookOf]), hstop _ c pre _ (Nat.le_refl _) hSp (hb.own (hIx c) _ hx) ((World.putObj_heap_other (by omega)).trans hb.dfr)⟩
end
end Go.Proofs.YtepbflcmghkieaaDoor
