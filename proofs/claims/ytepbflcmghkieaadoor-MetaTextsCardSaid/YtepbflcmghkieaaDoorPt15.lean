/- meta.parts. -/
import Derived.Test.YtepbflcmghkieaaDoorMp15
import Derived.StillTailTactics
import Derived.Lib.LaidTab
namespace Go.Proofs.YtepbflcmghkieaaDoor
open Go.RowKit Go.Lib
set_option maxRecDepth 100000

abbrev TPart : TypeId := 46
abbrev TMeta : TypeId := 23
def partsV (b : Nat) : Array Value := #[.string ⟨cB.toArray⟩, .pointer (some ⟨b, 0, none⟩), .string ⟨aB.toArray⟩, .pointer (some ⟨b, 1, none⟩), .string ⟨bB.toArray⟩, .pointer (some ⟨b, 2, none⟩)]
theorem parts_any (b : Nat) (w : World) :
    Calls Tryd.prog 17 #[.pointer (some ⟨b, 0, none⟩)] w fun e w' => e = .returned (.slice (some ⟨w.heap.size, 0, none⟩) 3 3) ∧ w'.heap[w.heap.size]? = some (.cells (partsV b) TPart) ∧ Touch [] w w' := by
  have FIN : Hid ((w.drew.alloc (.cells (partsV b) TPart)).heap[w.heap.size]? = some (.cells (partsV b) TPart)) := hid (heap_alloc_new w.drew _)
  have TT : Hid (Touch [] w (w.drew.alloc (.cells (partsV b) TPart))) := hid ((Touch.refl [] w).drew.alloc _)
  unfold partsV cB aB bB at *
  go_enter Tryd.func17, Tryd.ntmps17
  go_wp2
  go_still_tail 12, (by kernel_rfl)
  change wpList _ _ _ _ _ w.drew
  go_wp2
  go_ret
  exact ⟨rfl, FIN.out, TT.out⟩
abbrev Tab (w : World) : Prop := TabIs Tryd.prog w "internal/strconv.uint64pow10" .u64 pow10Tab
theorem Tab.touch {w w' : World} (h : Tab w) (ht : Touch [] w w') : Tab w' := by
  unfold Tab TabIs World.var? at *
  cases hg : Program.globalNamed Tryd.prog "internal/strconv.uint64pow10" with
  | none => rw [hg] at h; simp at h
  | some g =>
    rw [hg] at h
    simp only [Option.bind_some] at h ⊢
    have hlt : g < w.heap.size := by
      rcases Nat.lt_or_ge g w.heap.size with h' | h'
      · exact h'
      · simp [Array.getElem?_eq_none h'] at h
    rw [ht.block g hlt (by simp)]
    exact h
theorem step_call {P : Program} (w : World) {ops : Array Oper} {o : Oper} {a : Act} {K : Act → World → Prop} {Q : Exit → Act → World → Prop} {E : Prop} {f : FuncId} {args : Array Value} {R : Ending → World → Prop} (hgd : o.guard = none)
    (hop : (execOp a.eval o).run P w = .ok (.enter f args) w) (hc : Calls P f args w R) (h : ∀ e w', R e w' → ∃ v, e = .returned v ∧ K (a.put o.dst v) w') :
    if Region.wanted o (yielded ops a.tmps) = true then Oper.wp P o a w K Q else E := by
  rw [if_pos (by simp [Region.wanted, hgd])]
  unfold Oper.wp
  rw [hop, Oper.upon_enter]
  exact hc.mono fun e w' hR => by obtain ⟨v, rfl, hK⟩ := h e w' hR; exact hK
/-- The k-th part's word and number. -/
def pk : Nat → List UInt8 | 0 => cB | 1 => aB | _ => bB
def vk (m : MetaD) : Nat → Int | 0 => m.1 | 1 => m.2.1 | _ => m.2.2
def wsk (m : MetaD) : Nat → List ByteArray
  | 0 => []
  | k + 1 => wsk m k ++ (wordOf (pk k) (vk m k)).map txt
theorem wsk_all (m : MetaD) : wsk m 3 = partsT m := by simp [wsk, partsT, partsW, pk, vk]
theorem wsk_len (m : MetaD) : ∀ k, (wsk m k).length ≤ k
  | 0 => Nat.le_refl _
  | k + 1 => by
    have := wsk_len m k
    unfold wsk wordOf
    rw [List.length_append]
    split <;> simp <;> omega
theorem parts_at {w : World} {b P : Nat} (h : w.heap[P]? = some (.cells (partsV b) TPart)) {k : Nat} (hk : k < 3) :
    w.cell? ⟨P, k * 2, none⟩ = some (.string (txt (pk k))) ∧ w.cell? ⟨P, k * 2 + 1, none⟩ = some (.pointer (some ⟨b, k, none⟩)) := by
  rw [cell_of h, cell_of h]
  match k, hk with
  | 0, _ => exact ⟨rfl, rfl⟩
  | 1, _ => exact ⟨rfl, rfl⟩
  | 2, _ => exact ⟨rfl, rfl⟩
/-- Metadata in a box. -/
def MetaB (w : World) (b : Nat) (m : MetaD) : Prop := w.heap[b]? = some (.cells #[.int .i64 m.1, .int .i64 m.2.1, .int .i64 m.2.2] TMeta)
theorem MetaB.at {w : World} {b : Nat} {m : MetaD} (h : MetaB w b m) {k : Nat} (hk : k < 3) : w.cell? ⟨b, k, none⟩ = some (.int .i64 (vk m k)) := by
  have h : w.heap[b]? = _ := h
  rw [cell_of h]
  match k, hk with
  | 0, _ => rfl
  | 1, _ => rfl
  | 2, _ => rfl
theorem MetaB.t {w w' : World} {b : Nat} {m : MetaD} (h : MetaB w b m) (t : Touch [] w w') : MetaB w' b m := touch_other t h (by simp)
end Go.Proofs.YtepbflcmghkieaaDoor
