/-
  No cell of these rows narrows 'for every input' (looked for: loops, veiled, ifaces, maps, wideKeys, modest, calm, conditions, laid).
  DERIVED. THE GIVEN ROWS OF THIS SEAT. 4 by the template 'for every input the law returns true; each argument reads behind the call as it read before'; 0 by the template 'total and deterministic' (their statements: YtmaainnfflapiaaTotals.lean).
  GIVEN WITH THE SEED: the statements are not yours to turn. If you find one false, say at which input.
  Laid BY PROGRAM, IN A SANDBOX (cutbox-rows.mjs): the forced cells as the released guide's own fill.sh prints them over the translation 1ab2ee362b1e9c9d… (all of the seat's roots in one cut). By AI agents, Wed Nov 11 2026. No macro, syntax, notation, axiom, sorry.
-/
import Derived.Test.YtmaainnfflapiaaChecked
import GoSem.Claim
import GoSem.ClaimJoined
import GoSem.ClaimMapViews
import Derived.JoinedTies
import Derived.KernelRfl
namespace Go.Proofs.Ytmaainnfflapiaa
/- THE CELL 'sum', in the pinned program and in every row, IS THE sha256 OF THE DUMP (.gsa) THAT YtmaainnfflapiaaProg.lean LOADS. Nothing in Lean hashes anything: it is a label: what it is worth is what the hold of that sum in a sandbox is worth. -/
noncomputable def Try.pinned : Pinned := { name := "ytmaainnfflapiaa", sum := "1ab2ee362b1e9c9d93ca249867dc377828d8ff4867f5c9f2ae0c564587dff288", checked := Try.checked }
namespace Rows
def none {H : Type} : Left H := { results := [], args := [] }

/-- 'chroniclelaw10.ChunkTells': WHATEVER THE INPUT: true; the input reads as it did. -/
def chunkTellsSpec : ChangeSpec := { name := "chunkTells", fn := fun _ => fun
  | [d1, d2, d3, d4, d5, d6] => { results := [.lit (.bool true)], args := [d1, d2, d3, d4, d5, d6] }
  | _ => none }
def chunkTellsRow : OpenClaim := { program := "ytmaainnfflapiaa", sum := "1ab2ee362b1e9c9d93ca249867dc377828d8ff4867f5c9f2ae0c564587dff288", func := "chronicle/chroniclelaw10.ChunkTells", spec := "chunkTells", inPlace := ["math.Float64bits"], apart := false }
def ChunkTellsSaid : Prop := chunkTellsRow.holds Try.pinned (OpenSpec.ofChange chunkTellsSpec)

/-- ITS FALSE NEIGHBOUR: 'it returns false'. Refute it at one input. -/
def chunkTellsWrong : ChangeSpec := { name := "chunkTells", fn := fun _ => fun
  | [d1, d2, d3, d4, d5, d6] => { results := [.lit (.bool false)], args := [d1, d2, d3, d4, d5, d6] }
  | _ => none }
def ChunkTellsWrongFalsely : Prop := chunkTellsRow.holds Try.pinned (OpenSpec.ofChange chunkTellsWrong)

/-- 'chroniclelaw10.ChunkKept': WHATEVER THE INPUT: true; the input reads as it did. -/
def chunkKeptSpec : ChangeSpec := { name := "chunkKept", fn := fun _ => fun
  | [d1, d2, d3, d4, d5] => { results := [.lit (.bool true)], args := [d1, d2, d3, d4, d5] }
  | _ => none }
def chunkKeptRow : OpenClaim := { program := "ytmaainnfflapiaa", sum := "1ab2ee362b1e9c9d93ca249867dc377828d8ff4867f5c9f2ae0c564587dff288", func := "chronicle/chroniclelaw10.ChunkKept", spec := "chunkKept", apart := false }
def ChunkKeptSaid : Prop := chunkKeptRow.holds Try.pinned (OpenSpec.ofChange chunkKeptSpec)

/-- ITS FALSE NEIGHBOUR: 'it returns false'. Refute it at one input. -/
def chunkKeptWrong : ChangeSpec := { name := "chunkKept", fn := fun _ => fun
  | [d1, d2, d3, d4, d5] => { results := [.lit (.bool false)], args := [d1, d2, d3, d4, d5] }
  | _ => none }
def ChunkKeptWrongFalsely : Prop := chunkKeptRow.holds Try.pinned (OpenSpec.ofChange chunkKeptWrong)

/-- 'chroniclelaw10.ChunkRooms': WHATEVER THE INPUT: true; the input reads as it did. -/
def chunkRoomsSpec : ChangeSpec := { name := "chunkRooms", fn := fun _ => fun
  | [d1, d2] => { results := [.lit (.bool true)], args := [d1, d2] }
  | _ => none }
def chunkRoomsRow : OpenClaim := { program := "ytmaainnfflapiaa", sum := "1ab2ee362b1e9c9d93ca249867dc377828d8ff4867f5c9f2ae0c564587dff288", func := "chronicle/chroniclelaw10.ChunkRooms", spec := "chunkRooms", apart := false }
def ChunkRoomsSaid : Prop := chunkRoomsRow.holds Try.pinned (OpenSpec.ofChange chunkRoomsSpec)

/-- ITS FALSE NEIGHBOUR: 'it returns false'. Refute it at one input. -/
def chunkRoomsWrong : ChangeSpec := { name := "chunkRooms", fn := fun _ => fun
  | [d1, d2] => { results := [.lit (.bool false)], args := [d1, d2] }
  | _ => none }
def ChunkRoomsWrongFalsely : Prop := chunkRoomsRow.holds Try.pinned (OpenSpec.ofChange chunkRoomsWrong)

/-- 'chroniclelaw10.ChunkOther': WHATEVER THE INPUT: true; the input reads as it did. -/
def chunkOtherSpec : ChangeSpec := { name := "chunkOther", fn := fun _ => fun
  | [d1, d2, d3, d4] => { results := [.lit (.bool true)], args := [d1, d2, d3, d4] }
  | _ => none }
def chunkOtherRow : OpenClaim := { program := "ytmaainnfflapiaa", sum := "1ab2ee362b1e9c9d93ca249867dc377828d8ff4867f5c9f2ae0c564587dff288", func := "chronicle/chroniclelaw10.ChunkOther", spec := "chunkOther", apart := false }
def ChunkOtherSaid : Prop := chunkOtherRow.holds Try.pinned (OpenSpec.ofChange chunkOtherSpec)

/-- ITS FALSE NEIGHBOUR: 'it returns false'. Refute it at one input. -/
def chunkOtherWrong : ChangeSpec := { name := "chunkOther", fn := fun _ => fun
  | [d1, d2, d3, d4] => { results := [.lit (.bool false)], args := [d1, d2, d3, d4] }
  | _ => none }
def ChunkOtherWrongFalsely : Prop := chunkOtherRow.holds Try.pinned (OpenSpec.ofChange chunkOtherWrong)

/- THE SECOND FORM. 'bulk': how many values and letters a reading holds, each counted each time it is reached (what is shared counts as often as it is met; a slice's spare places count too). A statement '..UptoSaid' is the law's where the arguments, and the package variables that the reading takes, are together of bulk at most 1048576: NARROWER than '..Said'. Prove '..Said' where nothing that the law and all that it calls make is longer than what came in: it says more and counts as full. Else prove '..UptoSaid'. A law counts once. -/
mutual
def uptoBulk {H : Type} : DataW H → Nat
  | .lit (.string bytes) => bytes.length + 1
  | .lit _ => 1
  | .nil => 1
  | .ptr d => uptoBulk d + 1
  | .slice elems spare => uptoBulkAll elems + uptoBulkAll spare + 1
  | .agg parts => uptoBulkAll parts + 1
  | .iface _ d => uptoBulk d + 1
  | .map entries => uptoBulkEntries entries + 1
  | .held _ => 1
def uptoBulkAll {H : Type} : List (DataW H) → Nat
  | [] => 0
  | d :: r => uptoBulk d + uptoBulkAll r
def uptoBulkEntries {H : Type} : List (Lit × DataW H) → Nat
  | [] => 0
  | x :: r => uptoBulkEntry x + uptoBulkEntries r
def uptoBulkEntry {H : Type} : Lit × DataW H → Nat
  | (.string bytes, d) => bytes.length + uptoBulk d + 1
  | (_, d) => uptoBulk d + 1
 end
def uptoSmall : (H : Type) → List (DataW H) → Bool := fun _ ds => decide (uptoBulkAll ds ≤ 1048576)
def OpenSpec.upto (s : _root_.Go.ChangeSpec) : _root_.Go.OpenSpec := { _root_.Go.OpenSpec.ofChange s with cond := some uptoSmall }

/-- 'chroniclelaw10.ChunkTells', WHERE WHAT IT READS IS OF BULK AT MOST 1048576: true; the input reads as it did. -/
def chunkTellsUptoRow : OpenClaim := { program := "ytmaainnfflapiaa", sum := "1ab2ee362b1e9c9d93ca249867dc377828d8ff4867f5c9f2ae0c564587dff288", func := "chronicle/chroniclelaw10.ChunkTells", spec := "chunkTells", inPlace := ["math.Float64bits"], apart := false, narrowed := true }
def ChunkTellsUptoSaid : Prop := chunkTellsUptoRow.holds Try.pinned (OpenSpec.upto chunkTellsSpec)

/-- 'chroniclelaw10.ChunkKept', WHERE WHAT IT READS IS OF BULK AT MOST 1048576: true; the input reads as it did. -/
def chunkKeptUptoRow : OpenClaim := { program := "ytmaainnfflapiaa", sum := "1ab2ee362b1e9c9d93ca249867dc377828d8ff4867f5c9f2ae0c564587dff288", func := "chronicle/chroniclelaw10.ChunkKept", spec := "chunkKept", apart := false, narrowed := true }
def ChunkKeptUptoSaid : Prop := chunkKeptUptoRow.holds Try.pinned (OpenSpec.upto chunkKeptSpec)

/-- 'chroniclelaw10.ChunkRooms', WHERE WHAT IT READS IS OF BULK AT MOST 1048576: true; the input reads as it did. -/
def chunkRoomsUptoRow : OpenClaim := { program := "ytmaainnfflapiaa", sum := "1ab2ee362b1e9c9d93ca249867dc377828d8ff4867f5c9f2ae0c564587dff288", func := "chronicle/chroniclelaw10.ChunkRooms", spec := "chunkRooms", apart := false, narrowed := true }
def ChunkRoomsUptoSaid : Prop := chunkRoomsUptoRow.holds Try.pinned (OpenSpec.upto chunkRoomsSpec)

/-- 'chroniclelaw10.ChunkOther', WHERE WHAT IT READS IS OF BULK AT MOST 1048576: true; the input reads as it did. -/
def chunkOtherUptoRow : OpenClaim := { program := "ytmaainnfflapiaa", sum := "1ab2ee362b1e9c9d93ca249867dc377828d8ff4867f5c9f2ae0c564587dff288", func := "chronicle/chroniclelaw10.ChunkOther", spec := "chunkOther", apart := false, narrowed := true }
def ChunkOtherUptoSaid : Prop := chunkOtherUptoRow.holds Try.pinned (OpenSpec.upto chunkOtherSpec)

end Rows
end Go.Proofs.Ytmaainnfflapiaa
