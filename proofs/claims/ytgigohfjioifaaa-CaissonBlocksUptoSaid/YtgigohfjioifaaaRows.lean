/-
  No cell of these rows narrows 'for every input' (looked for: loops, veiled, ifaces, maps, wideKeys, modest, calm, conditions, laid).
  DERIVED. THE GIVEN ROWS OF THIS SEAT. 8 by the template 'for every input the law returns true; each argument reads behind the call as it read before'; 0 by the template 'total and deterministic' (their statements: YtgigohfjioifaaaTotals.lean).
  GIVEN WITH THE SEED: the statements are not yours to turn. If you find one false, say at which input.
  Laid BY PROGRAM, IN A SANDBOX (cutbox-rows.mjs): the forced cells as the released guide's own fill.sh prints them over the translation 91a60dbc8ac4e5e2… (all of the seat's roots in one cut). By AI agents, Wed Nov 11 2026. No macro, syntax, notation, axiom, sorry.
-/
import Derived.Test.YtgigohfjioifaaaChecked
import GoSem.Claim
import GoSem.ClaimJoined
import GoSem.ClaimMapViews
import Derived.JoinedTies
import Derived.KernelRfl
namespace Go.Proofs.Ytgigohfjioifaaa
/- THE CELL 'sum', in the pinned program and in every row, IS THE sha256 OF THE DUMP (.gsa) THAT YtgigohfjioifaaaProg.lean LOADS. Nothing in Lean hashes anything: it is a label: what it is worth is what the hold of that sum in a sandbox is worth. -/
noncomputable def Try.pinned : Pinned := { name := "ytgigohfjioifaaa", sum := "91a60dbc8ac4e5e2b1e7c1b2e147e1c97eaa50c7af0f614df0429eb5c1ba9021", checked := Try.checked }
namespace Rows
def none {H : Type} : Left H := { results := [], args := [] }

/-- 'caissonlaw08.BlockReads': WHATEVER THE INPUT: true; the input reads as it did. -/
def blockReadsSpec : ChangeSpec := { name := "blockReads", fn := fun _ => fun
  | [d1, d2, d3] => { results := [.lit (.bool true)], args := [d1, d2, d3] }
  | _ => none }
def blockReadsRow : OpenClaim := { program := "ytgigohfjioifaaa", sum := "91a60dbc8ac4e5e2b1e7c1b2e147e1c97eaa50c7af0f614df0429eb5c1ba9021", func := "caisson/caissonlaw08.BlockReads", spec := "blockReads", inPlace := ["internal/bytealg.Compare"], unfollowed := true, recurses := true, apart := false }
def BlockReadsSaid : Prop := blockReadsRow.holds Try.pinned (OpenSpec.ofChange blockReadsSpec)

/-- ITS FALSE NEIGHBOUR: 'it returns false'. Refute it at one input. -/
def blockReadsWrong : ChangeSpec := { name := "blockReads", fn := fun _ => fun
  | [d1, d2, d3] => { results := [.lit (.bool false)], args := [d1, d2, d3] }
  | _ => none }
def BlockReadsWrongFalsely : Prop := blockReadsRow.holds Try.pinned (OpenSpec.ofChange blockReadsWrong)

/-- 'caissonlaw11.MergeMerges': WHATEVER THE INPUT: true; the input reads as it did. -/
def mergeMergesSpec : ChangeSpec := { name := "mergeMerges", fn := fun _ => fun
  | [d] => { results := [.lit (.bool true)], args := [d] }
  | _ => none }
def mergeMergesRow : OpenClaim := { program := "ytgigohfjioifaaa", sum := "91a60dbc8ac4e5e2b1e7c1b2e147e1c97eaa50c7af0f614df0429eb5c1ba9021", func := "caisson/caissonlaw11.MergeMerges", spec := "mergeMerges", inPlace := ["internal/bytealg.Compare"], unfollowed := true, recurses := true, apart := false }
def MergeMergesSaid : Prop := mergeMergesRow.holds Try.pinned (OpenSpec.ofChange mergeMergesSpec)

/-- ITS FALSE NEIGHBOUR: 'it returns false'. Refute it at one input. -/
def mergeMergesWrong : ChangeSpec := { name := "mergeMerges", fn := fun _ => fun
  | [d] => { results := [.lit (.bool false)], args := [d] }
  | _ => none }
def MergeMergesWrongFalsely : Prop := mergeMergesRow.holds Try.pinned (OpenSpec.ofChange mergeMergesWrong)

/-- 'caissonlaw11.MergeSees': WHATEVER THE INPUT: true; the input reads as it did. -/
def mergeSeesSpec : ChangeSpec := { name := "mergeSees", fn := fun _ => fun
  | [d1, d2] => { results := [.lit (.bool true)], args := [d1, d2] }
  | _ => none }
def mergeSeesRow : OpenClaim := { program := "ytgigohfjioifaaa", sum := "91a60dbc8ac4e5e2b1e7c1b2e147e1c97eaa50c7af0f614df0429eb5c1ba9021", func := "caisson/caissonlaw11.MergeSees", spec := "mergeSees", inPlace := ["internal/bytealg.Compare"], unfollowed := true, recurses := true, apart := false }
def MergeSeesSaid : Prop := mergeSeesRow.holds Try.pinned (OpenSpec.ofChange mergeSeesSpec)

/-- ITS FALSE NEIGHBOUR: 'it returns false'. Refute it at one input. -/
def mergeSeesWrong : ChangeSpec := { name := "mergeSees", fn := fun _ => fun
  | [d1, d2] => { results := [.lit (.bool false)], args := [d1, d2] }
  | _ => none }
def MergeSeesWrongFalsely : Prop := mergeSeesRow.holds Try.pinned (OpenSpec.ofChange mergeSeesWrong)

/-- 'caissonlaw11.MergeKeeps': WHATEVER THE INPUT: true; the input reads as it did. -/
def mergeKeepsSpec : ChangeSpec := { name := "mergeKeeps", fn := fun _ => fun
  | [d1, d2, d3] => { results := [.lit (.bool true)], args := [d1, d2, d3] }
  | _ => none }
def mergeKeepsRow : OpenClaim := { program := "ytgigohfjioifaaa", sum := "91a60dbc8ac4e5e2b1e7c1b2e147e1c97eaa50c7af0f614df0429eb5c1ba9021", func := "caisson/caissonlaw11.MergeKeeps", spec := "mergeKeeps", inPlace := ["internal/bytealg.Compare"], unfollowed := true, recurses := true, apart := false }
def MergeKeepsSaid : Prop := mergeKeepsRow.holds Try.pinned (OpenSpec.ofChange mergeKeepsSpec)

/-- ITS FALSE NEIGHBOUR: 'it returns false'. Refute it at one input. -/
def mergeKeepsWrong : ChangeSpec := { name := "mergeKeeps", fn := fun _ => fun
  | [d1, d2, d3] => { results := [.lit (.bool false)], args := [d1, d2, d3] }
  | _ => none }
def MergeKeepsWrongFalsely : Prop := mergeKeepsRow.holds Try.pinned (OpenSpec.ofChange mergeKeepsWrong)

/-- 'caissonlaw11.MergeSame': WHATEVER THE INPUT: true; the input reads as it did. -/
def mergeSameSpec : ChangeSpec := { name := "mergeSame", fn := fun _ => fun
  | [d1, d2, d3] => { results := [.lit (.bool true)], args := [d1, d2, d3] }
  | _ => none }
def mergeSameRow : OpenClaim := { program := "ytgigohfjioifaaa", sum := "91a60dbc8ac4e5e2b1e7c1b2e147e1c97eaa50c7af0f614df0429eb5c1ba9021", func := "caisson/caissonlaw11.MergeSame", spec := "mergeSame", inPlace := ["internal/bytealg.Compare"], unfollowed := true, recurses := true, apart := false }
def MergeSameSaid : Prop := mergeSameRow.holds Try.pinned (OpenSpec.ofChange mergeSameSpec)

/-- ITS FALSE NEIGHBOUR: 'it returns false'. Refute it at one input. -/
def mergeSameWrong : ChangeSpec := { name := "mergeSame", fn := fun _ => fun
  | [d1, d2, d3] => { results := [.lit (.bool false)], args := [d1, d2, d3] }
  | _ => none }
def MergeSameWrongFalsely : Prop := mergeSameRow.holds Try.pinned (OpenSpec.ofChange mergeSameWrong)

/-- 'caissonlaw11.MergeStreams': WHATEVER THE INPUT: true; the input reads as it did. -/
def mergeStreamsSpec : ChangeSpec := { name := "mergeStreams", fn := fun _ => fun
  | [d1, d2] => { results := [.lit (.bool true)], args := [d1, d2] }
  | _ => none }
def mergeStreamsRow : OpenClaim := { program := "ytgigohfjioifaaa", sum := "91a60dbc8ac4e5e2b1e7c1b2e147e1c97eaa50c7af0f614df0429eb5c1ba9021", func := "caisson/caissonlaw11.MergeStreams", spec := "mergeStreams", inPlace := ["internal/bytealg.Compare"], unfollowed := true, recurses := true, apart := false }
def MergeStreamsSaid : Prop := mergeStreamsRow.holds Try.pinned (OpenSpec.ofChange mergeStreamsSpec)

/-- ITS FALSE NEIGHBOUR: 'it returns false'. Refute it at one input. -/
def mergeStreamsWrong : ChangeSpec := { name := "mergeStreams", fn := fun _ => fun
  | [d1, d2] => { results := [.lit (.bool false)], args := [d1, d2] }
  | _ => none }
def MergeStreamsWrongFalsely : Prop := mergeStreamsRow.holds Try.pinned (OpenSpec.ofChange mergeStreamsWrong)

/-- 'caissonlaw11.MergeMemory': WHATEVER THE INPUT: true; the input reads as it did. -/
def mergeMemorySpec : ChangeSpec := { name := "mergeMemory", fn := fun _ => fun
  | [d1, d2] => { results := [.lit (.bool true)], args := [d1, d2] }
  | _ => none }
def mergeMemoryRow : OpenClaim := { program := "ytgigohfjioifaaa", sum := "91a60dbc8ac4e5e2b1e7c1b2e147e1c97eaa50c7af0f614df0429eb5c1ba9021", func := "caisson/caissonlaw11.MergeMemory", spec := "mergeMemory", inPlace := ["internal/bytealg.Compare"], unfollowed := true, recurses := true, apart := false }
def MergeMemorySaid : Prop := mergeMemoryRow.holds Try.pinned (OpenSpec.ofChange mergeMemorySpec)

/-- ITS FALSE NEIGHBOUR: 'it returns false'. Refute it at one input. -/
def mergeMemoryWrong : ChangeSpec := { name := "mergeMemory", fn := fun _ => fun
  | [d1, d2] => { results := [.lit (.bool false)], args := [d1, d2] }
  | _ => none }
def MergeMemoryWrongFalsely : Prop := mergeMemoryRow.holds Try.pinned (OpenSpec.ofChange mergeMemoryWrong)

/-- 'caissontop.CaissonBlocks': WHATEVER THE INPUT: true; the input reads as it did. -/
def caissonBlocksSpec : ChangeSpec := { name := "caissonBlocks", fn := fun _ => fun
  | [d1, d2, d3] => { results := [.lit (.bool true)], args := [d1, d2, d3] }
  | _ => none }
def caissonBlocksRow : OpenClaim := { program := "ytgigohfjioifaaa", sum := "91a60dbc8ac4e5e2b1e7c1b2e147e1c97eaa50c7af0f614df0429eb5c1ba9021", func := "caisson/caissontop.CaissonBlocks", spec := "caissonBlocks", inPlace := ["internal/bytealg.Compare"], unfollowed := true, recurses := true, apart := false }
def CaissonBlocksSaid : Prop := caissonBlocksRow.holds Try.pinned (OpenSpec.ofChange caissonBlocksSpec)

/-- ITS FALSE NEIGHBOUR: 'it returns false'. Refute it at one input. -/
def caissonBlocksWrong : ChangeSpec := { name := "caissonBlocks", fn := fun _ => fun
  | [d1, d2, d3] => { results := [.lit (.bool false)], args := [d1, d2, d3] }
  | _ => none }
def CaissonBlocksWrongFalsely : Prop := caissonBlocksRow.holds Try.pinned (OpenSpec.ofChange caissonBlocksWrong)

/- THE SECOND FORM. 'bulk': how many values and letters a reading holds, each counted each time it is reached (what is shared counts as often as it is met; a slice's spare places count too). A statement '..UptoSaid' is the law's where the arguments, and the package variables that the reading takes, are together of bulk at most 1048576: NARROWER than '..Said'. Prove '..Said' where nothing that the law and all that it calls make is longer than what came in: it says more and counts as full. Else prove '..UptoSaid'. A law counts once. -/
mutual
def uptoBulk {H : Type} : DataW H → Nat
  | .lit (.string bytes) => bytes.length + 1
  | .lit _ => 1
  | .nil => 1
  | .ptr d => uptoBulk d + 1
  | .slice elems spare => uptoBulkAll elems + uptoBulkAll spare + 1
  | .agg parts => uptoBulkAll parts + 1
  | .iface _ d => uptoBulk d + 1
  | .map entries => uptoBulkEntries entries + 1
  | .held _ => 1
def uptoBulkAll {H : Type} : List (DataW H) → Nat
  | [] => 0
  | d :: r => uptoBulk d + uptoBulkAll r
def uptoBulkEntries {H : Type} : List (Lit × DataW H) → Nat
  | [] => 0
  | x :: r => uptoBulkEntry x + uptoBulkEntries r
def uptoBulkEntry {H : Type} : Lit × DataW H → Nat
  | (.string bytes, d) => bytes.length + uptoBulk d + 1
  | (_, d) => uptoBulk d + 1
 end
def uptoSmall : (H : Type) → List (DataW H) → Bool := fun _ ds => decide (uptoBulkAll ds ≤ 1048576)
def OpenSpec.upto (s : _root_.Go.ChangeSpec) : _root_.Go.OpenSpec := { _root_.Go.OpenSpec.ofChange s with cond := some uptoSmall }

/-- 'caissonlaw08.BlockReads', WHERE WHAT IT READS IS OF BULK AT MOST 1048576: true; the input reads as it did. -/
def blockReadsUptoRow : OpenClaim := { program := "ytgigohfjioifaaa", sum := "91a60dbc8ac4e5e2b1e7c1b2e147e1c97eaa50c7af0f614df0429eb5c1ba9021", func := "caisson/caissonlaw08.BlockReads", spec := "blockReads", inPlace := ["internal/bytealg.Compare"], unfollowed := true, recurses := true, apart := false, narrowed := true }
def BlockReadsUptoSaid : Prop := blockReadsUptoRow.holds Try.pinned (OpenSpec.upto blockReadsSpec)

/-- 'caissonlaw11.MergeMerges', WHERE WHAT IT READS IS OF BULK AT MOST 1048576: true; the input reads as it did. -/
def mergeMergesUptoRow : OpenClaim := { program := "ytgigohfjioifaaa", sum := "91a60dbc8ac4e5e2b1e7c1b2e147e1c97eaa50c7af0f614df0429eb5c1ba9021", func := "caisson/caissonlaw11.MergeMerges", spec := "mergeMerges", inPlace := ["internal/bytealg.Compare"], unfollowed := true, recurses := true, apart := false, narrowed := true }
def MergeMergesUptoSaid : Prop := mergeMergesUptoRow.holds Try.pinned (OpenSpec.upto mergeMergesSpec)

/-- 'caissonlaw11.MergeSees', WHERE WHAT IT READS IS OF BULK AT MOST 1048576: true; the input reads as it did. -/
def mergeSeesUptoRow : OpenClaim := { program := "ytgigohfjioifaaa", sum := "91a60dbc8ac4e5e2b1e7c1b2e147e1c97eaa50c7af0f614df0429eb5c1ba9021", func := "caisson/caissonlaw11.MergeSees", spec := "mergeSees", inPlace := ["internal/bytealg.Compare"], unfollowed := true, recurses := true, apart := false, narrowed := true }
def MergeSeesUptoSaid : Prop := mergeSeesUptoRow.holds Try.pinned (OpenSpec.upto mergeSeesSpec)

/-- 'caissonlaw11.MergeKeeps', WHERE WHAT IT READS IS OF BULK AT MOST 1048576: true; the input reads as it did. -/
def mergeKeepsUptoRow : OpenClaim := { program := "ytgigohfjioifaaa", sum := "91a60dbc8ac4e5e2b1e7c1b2e147e1c97eaa50c7af0f614df0429eb5c1ba9021", func := "caisson/caissonlaw11.MergeKeeps", spec := "mergeKeeps", inPlace := ["internal/bytealg.Compare"], unfollowed := true, recurses := true, apart := false, narrowed := true }
def MergeKeepsUptoSaid : Prop := mergeKeepsUptoRow.holds Try.pinned (OpenSpec.upto mergeKeepsSpec)

/-- 'caissonlaw11.MergeSame', WHERE WHAT IT READS IS OF BULK AT MOST 1048576: true; the input reads as it did. -/
def mergeSameUptoRow : OpenClaim := { program := "ytgigohfjioifaaa", sum := "91a60dbc8ac4e5e2b1e7c1b2e147e1c97eaa50c7af0f614df0429eb5c1ba9021", func := "caisson/caissonlaw11.MergeSame", spec := "mergeSame", inPlace := ["internal/bytealg.Compare"], unfollowed := true, recurses := true, apart := false, narrowed := true }
def MergeSameUptoSaid : Prop := mergeSameUptoRow.holds Try.pinned (OpenSpec.upto mergeSameSpec)

/-- 'caissonlaw11.MergeStreams', WHERE WHAT IT READS IS OF BULK AT MOST 1048576: true; the input reads as it did. -/
def mergeStreamsUptoRow : OpenClaim := { program := "ytgigohfjioifaaa", sum := "91a60dbc8ac4e5e2b1e7c1b2e147e1c97eaa50c7af0f614df0429eb5c1ba9021", func := "caisson/caissonlaw11.MergeStreams", spec := "mergeStreams", inPlace := ["internal/bytealg.Compare"], unfollowed := true, recurses := true, apart := false, narrowed := true }
def MergeStreamsUptoSaid : Prop := mergeStreamsUptoRow.holds Try.pinned (OpenSpec.upto mergeStreamsSpec)

/-- 'caissonlaw11.MergeMemory', WHERE WHAT IT READS IS OF BULK AT MOST 1048576: true; the input reads as it did. -/
def mergeMemoryUptoRow : OpenClaim := { program := "ytgigohfjioifaaa", sum := "91a60dbc8ac4e5e2b1e7c1b2e147e1c97eaa50c7af0f614df0429eb5c1ba9021", func := "caisson/caissonlaw11.MergeMemory", spec := "mergeMemory", inPlace := ["internal/bytealg.Compare"], unfollowed := true, recurses := true, apart := false, narrowed := true }
def MergeMemoryUptoSaid : Prop := mergeMemoryUptoRow.holds Try.pinned (OpenSpec.upto mergeMemorySpec)

/-- 'caissontop.CaissonBlocks', WHERE WHAT IT READS IS OF BULK AT MOST 1048576: true; the input reads as it did. -/
def caissonBlocksUptoRow : OpenClaim := { program := "ytgigohfjioifaaa", sum := "91a60dbc8ac4e5e2b1e7c1b2e147e1c97eaa50c7af0f614df0429eb5c1ba9021", func := "caisson/caissontop.CaissonBlocks", spec := "caissonBlocks", inPlace := ["internal/bytealg.Compare"], unfollowed := true, recurses := true, apart := false, narrowed := true }
def CaissonBlocksUptoSaid : Prop := caissonBlocksUptoRow.holds Try.pinned (OpenSpec.upto caissonBlocksSpec)

end Rows
end Go.Proofs.Ytgigohfjioifaaa
