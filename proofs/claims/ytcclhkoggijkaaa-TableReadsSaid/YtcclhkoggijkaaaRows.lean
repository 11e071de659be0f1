/-
  No cell of these rows narrows 'for every input' (looked for: loops, veiled, ifaces, maps, wideKeys, modest, calm, conditions, laid).
  DERIVED. THE GIVEN ROWS OF THIS SEAT. 6 by the template 'for every input the law returns true; each argument reads behind the call as it read before'; 0 by the template 'total and deterministic' (their statements: YtcclhkoggijkaaaTotals.lean).
  GIVEN WITH THE SEED: the statements are not yours to turn. If you find one false, say at which input.
  Laid BY PROGRAM, IN A SANDBOX (cutbox-rows.mjs): the forced cells as the released guide's own fill.sh prints them over the translation 46ad3ed1a02aa41d… (all of the seat's roots in one cut). By AI agents, Wed Nov 11 2026. No macro, syntax, notation, axiom, sorry.
-/
import Derived.Test.YtcclhkoggijkaaaChecked
import GoSem.Claim
import GoSem.ClaimJoined
import GoSem.ClaimMapViews
import Derived.JoinedTies
import Derived.KernelRfl
namespace Go.Proofs.Ytcclhkoggijkaaa
/- THE CELL 'sum', in the pinned program and in every row, IS THE sha256 OF THE DUMP (.gsa) THAT YtcclhkoggijkaaaProg.lean LOADS. Nothing in Lean hashes anything: it is a label: what it is worth is what the hold of that sum in a sandbox is worth. -/
noncomputable def Try.pinned : Pinned := { name := "ytcclhkoggijkaaa", sum := "46ad3ed1a02aa41dced684f9882771223cda2287ad6f20f93b2e244876bf4074", checked := Try.checked }
namespace Rows
def none {H : Type} : Left H := { results := [], args := [] }

/-- 'caissonlaw10.TableBytes': WHATEVER THE INPUT: true; the input reads as it did. -/
def tableBytesSpec : ChangeSpec := { name := "tableBytes", fn := fun _ => fun
  | [d1, d2] => { results := [.lit (.bool true)], args := [d1, d2] }
  | _ => none }
def tableBytesRow : OpenClaim := { program := "ytcclhkoggijkaaa", sum := "46ad3ed1a02aa41dced684f9882771223cda2287ad6f20f93b2e244876bf4074", func := "caisson/caissonlaw10.TableBytes", spec := "tableBytes", inPlace := ["internal/bytealg.Compare"], unfollowed := true, recurses := true, apart := false }
def TableBytesSaid : Prop := tableBytesRow.holds Try.pinned (OpenSpec.ofChange tableBytesSpec)

/-- ITS FALSE NEIGHBOUR: 'it returns false'. Refute it at one input. -/
def tableBytesWrong : ChangeSpec := { name := "tableBytes", fn := fun _ => fun
  | [d1, d2] => { results := [.lit (.bool false)], args := [d1, d2] }
  | _ => none }
def TableBytesWrongFalsely : Prop := tableBytesRow.holds Try.pinned (OpenSpec.ofChange tableBytesWrong)

/-- 'caissonlaw10.TableReads': WHATEVER THE INPUT: true; the input reads as it did. -/
def tableReadsSpec : ChangeSpec := { name := "tableReads", fn := fun _ => fun
  | [d] => { results := [.lit (.bool true)], args := [d] }
  | _ => none }
def tableReadsRow : OpenClaim := { program := "ytcclhkoggijkaaa", sum := "46ad3ed1a02aa41dced684f9882771223cda2287ad6f20f93b2e244876bf4074", func := "caisson/caissonlaw10.TableReads", spec := "tableReads", inPlace := ["internal/bytealg.Compare"], unfollowed := true, recurses := true, apart := false }
def TableReadsSaid : Prop := tableReadsRow.holds Try.pinned (OpenSpec.ofChange tableReadsSpec)

/-- ITS FALSE NEIGHBOUR: 'it returns false'. Refute it at one input. -/
def tableReadsWrong : ChangeSpec := { name := "tableReads", fn := fun _ => fun
  | [d] => { results := [.lit (.bool false)], args := [d] }
  | _ => none }
def TableReadsWrongFalsely : Prop := tableReadsRow.holds Try.pinned (OpenSpec.ofChange tableReadsWrong)

/-- 'caissonlaw11.MergeStreams': WHATEVER THE INPUT: true; the input reads as it did. -/
def mergeStreamsSpec : ChangeSpec := { name := "mergeStreams", fn := fun _ => fun
  | [d1, d2] => { results := [.lit (.bool true)], args := [d1, d2] }
  | _ => none }
def mergeStreamsRow : OpenClaim := { program := "ytcclhkoggijkaaa", sum := "46ad3ed1a02aa41dced684f9882771223cda2287ad6f20f93b2e244876bf4074", func := "caisson/caissonlaw11.MergeStreams", spec := "mergeStreams", inPlace := ["internal/bytealg.Compare"], unfollowed := true, recurses := true, apart := false }
def MergeStreamsSaid : Prop := mergeStreamsRow.holds Try.pinned (OpenSpec.ofChange mergeStreamsSpec)

/-- ITS FALSE NEIGHBOUR: 'it returns false'. Refute it at one input. -/
def mergeStreamsWrong : ChangeSpec := { name := "mergeStreams", fn := fun _ => fun
  | [d1, d2] => { results := [.lit (.bool false)], args := [d1, d2] }
  | _ => none }
def MergeStreamsWrongFalsely : Prop := mergeStreamsRow.holds Try.pinned (OpenSpec.ofChange mergeStreamsWrong)

/-- 'caissonlaw12.ManifestApplies': WHATEVER THE INPUT: true; the input reads as it did. -/
def manifestAppliesSpec : ChangeSpec := { name := "manifestApplies", fn := fun _ => fun
  | [d1, d2] => { results := [.lit (.bool true)], args := [d1, d2] }
  | _ => none }
def manifestAppliesRow : OpenClaim := { program := "ytcclhkoggijkaaa", sum := "46ad3ed1a02aa41dced684f9882771223cda2287ad6f20f93b2e244876bf4074", func := "caisson/caissonlaw12.ManifestApplies", spec := "manifestApplies", inPlace := ["internal/bytealg.Compare"], unfollowed := true, recurses := true, apart := false }
def ManifestAppliesSaid : Prop := manifestAppliesRow.holds Try.pinned (OpenSpec.ofChange manifestAppliesSpec)

/-- ITS FALSE NEIGHBOUR: 'it returns false'. Refute it at one input. -/
def manifestAppliesWrong : ChangeSpec := { name := "manifestApplies", fn := fun _ => fun
  | [d1, d2] => { results := [.lit (.bool false)], args := [d1, d2] }
  | _ => none }
def ManifestAppliesWrongFalsely : Prop := manifestAppliesRow.holds Try.pinned (OpenSpec.ofChange manifestAppliesWrong)

/-- 'caissonlaw12.ManifestCodes': WHATEVER THE INPUT: true; the input reads as it did. -/
def manifestCodesSpec : ChangeSpec := { name := "manifestCodes", fn := fun _ => fun
  | [d1, d2] => { results := [.lit (.bool true)], args := [d1, d2] }
  | _ => none }
def manifestCodesRow : OpenClaim := { program := "ytcclhkoggijkaaa", sum := "46ad3ed1a02aa41dced684f9882771223cda2287ad6f20f93b2e244876bf4074", func := "caisson/caissonlaw12.ManifestCodes", spec := "manifestCodes", inPlace := ["internal/bytealg.Compare"], unfollowed := true, recurses := true, apart := false }
def ManifestCodesSaid : Prop := manifestCodesRow.holds Try.pinned (OpenSpec.ofChange manifestCodesSpec)

/-- ITS FALSE NEIGHBOUR: 'it returns false'. Refute it at one input. -/
def manifestCodesWrong : ChangeSpec := { name := "manifestCodes", fn := fun _ => fun
  | [d1, d2] => { results := [.lit (.bool false)], args := [d1, d2] }
  | _ => none }
def ManifestCodesWrongFalsely : Prop := manifestCodesRow.holds Try.pinned (OpenSpec.ofChange manifestCodesWrong)

/-- 'caissonlaw12.ManifestKeeps': WHATEVER THE INPUT: true; the input reads as it did. -/
def manifestKeepsSpec : ChangeSpec := { name := "manifestKeeps", fn := fun _ => fun
  | [d1, d2, d3] => { results := [.lit (.bool true)], args := [d1, d2, d3] }
  | _ => none }
def manifestKeepsRow : OpenClaim := { program := "ytcclhkoggijkaaa", sum := "46ad3ed1a02aa41dced684f9882771223cda2287ad6f20f93b2e244876bf4074", func := "caisson/caissonlaw12.ManifestKeeps", spec := "manifestKeeps", inPlace := ["internal/bytealg.Compare"], unfollowed := true, recurses := true, apart := false }
def ManifestKeepsSaid : Prop := manifestKeepsRow.holds Try.pinned (OpenSpec.ofChange manifestKeepsSpec)

/-- ITS FALSE NEIGHBOUR: 'it returns false'. Refute it at one input. -/
def manifestKeepsWrong : ChangeSpec := { name := "manifestKeeps", fn := fun _ => fun
  | [d1, d2, d3] => { results := [.lit (.bool false)], args := [d1, d2, d3] }
  | _ => none }
def ManifestKeepsWrongFalsely : Prop := manifestKeepsRow.holds Try.pinned (OpenSpec.ofChange manifestKeepsWrong)

/- THE SECOND FORM. 'bulk': how many values and letters a reading holds, each counted each time it is reached (what is shared counts as often as it is met; a slice's spare places count too). A statement '..UptoSaid' is the law's where the arguments, and the package variables that the reading takes, are together of bulk at most 1048576: NARROWER than '..Said'. Prove '..Said' where nothing that the law and all that it calls make is longer than what came in: it says more and counts as full. Else prove '..UptoSaid'. A law counts once. -/
mutual
def uptoBulk {H : Type} : DataW H → Nat
  | .lit (.string bytes) => bytes.length + 1
  | .lit _ => 1
  | .nil => 1
  | .ptr d => uptoBulk d + 1
  | .slice elems spare => uptoBulkAll elems + uptoBulkAll spare + 1
  | .agg parts => uptoBulkAll parts + 1
  | .iface _ d => uptoBulk d + 1
  | .map entries => uptoBulkEntries entries + 1
  | .held _ => 1
def uptoBulkAll {H : Type} : List (DataW H) → Nat
  | [] => 0
  | d :: r => uptoBulk d + uptoBulkAll r
def uptoBulkEntries {H : Type} : List (Lit × DataW H) → Nat
  | [] => 0
  | x :: r => uptoBulkEntry x + uptoBulkEntries r
def uptoBulkEntry {H : Type} : Lit × DataW H → Nat
  | (.string bytes, d) => bytes.length + uptoBulk d + 1
  | (_, d) => uptoBulk d + 1
 end
def uptoSmall : (H : Type) → List (DataW H) → Bool := fun _ ds => decide (uptoBulkAll ds ≤ 1048576)
def OpenSpec.upto (s : _root_.Go.ChangeSpec) : _root_.Go.OpenSpec := { _root_.Go.OpenSpec.ofChange s with cond := some uptoSmall }

/-- 'caissonlaw10.TableBytes', WHERE WHAT IT READS IS OF BULK AT MOST 1048576: true; the input reads as it did. -/
def tableBytesUptoRow : OpenClaim := { program := "ytcclhkoggijkaaa", sum := "46ad3ed1a02aa41dced684f9882771223cda2287ad6f20f93b2e244876bf4074", func := "caisson/caissonlaw10.TableBytes", spec := "tableBytes", inPlace := ["internal/bytealg.Compare"], unfollowed := true, recurses := true, apart := false, narrowed := true }
def TableBytesUptoSaid : Prop := tableBytesUptoRow.holds Try.pinned (OpenSpec.upto tableBytesSpec)

/-- 'caissonlaw10.TableReads', WHERE WHAT IT READS IS OF BULK AT MOST 1048576: true; the input reads as it did. -/
def tableReadsUptoRow : OpenClaim := { program := "ytcclhkoggijkaaa", sum := "46ad3ed1a02aa41dced684f9882771223cda2287ad6f20f93b2e244876bf4074", func := "caisson/caissonlaw10.TableReads", spec := "tableReads", inPlace := ["internal/bytealg.Compare"], unfollowed := true, recurses := true, apart := false, narrowed := true }
def TableReadsUptoSaid : Prop := tableReadsUptoRow.holds Try.pinned (OpenSpec.upto tableReadsSpec)

/-- 'caissonlaw11.MergeStreams', WHERE WHAT IT READS IS OF BULK AT MOST 1048576: true; the input reads as it did. -/
def mergeStreamsUptoRow : OpenClaim := { program := "ytcclhkoggijkaaa", sum := "46ad3ed1a02aa41dced684f9882771223cda2287ad6f20f93b2e244876bf4074", func := "caisson/caissonlaw11.MergeStreams", spec := "mergeStreams", inPlace := ["internal/bytealg.Compare"], unfollowed := true, recurses := true, apart := false, narrowed := true }
def MergeStreamsUptoSaid : Prop := mergeStreamsUptoRow.holds Try.pinned (OpenSpec.upto mergeStreamsSpec)

/-- 'caissonlaw12.ManifestApplies', WHERE WHAT IT READS IS OF BULK AT MOST 1048576: true; the input reads as it did. -/
def manifestAppliesUptoRow : OpenClaim := { program := "ytcclhkoggijkaaa", sum := "46ad3ed1a02aa41dced684f9882771223cda2287ad6f20f93b2e244876bf4074", func := "caisson/caissonlaw12.ManifestApplies", spec := "manifestApplies", inPlace := ["internal/bytealg.Compare"], unfollowed := true, recurses := true, apart := false, narrowed := true }
def ManifestAppliesUptoSaid : Prop := manifestAppliesUptoRow.holds Try.pinned (OpenSpec.upto manifestAppliesSpec)

/-- 'caissonlaw12.ManifestCodes', WHERE WHAT IT READS IS OF BULK AT MOST 1048576: true; the input reads as it did. -/
def manifestCodesUptoRow : OpenClaim := { program := "ytcclhkoggijkaaa", sum := "46ad3ed1a02aa41dced684f9882771223cda2287ad6f20f93b2e244876bf4074", func := "caisson/caissonlaw12.ManifestCodes", spec := "manifestCodes", inPlace := ["internal/bytealg.Compare"], unfollowed := true, recurses := true, apart := false, narrowed := true }
def ManifestCodesUptoSaid : Prop := manifestCodesUptoRow.holds Try.pinned (OpenSpec.upto manifestCodesSpec)

/-- 'caissonlaw12.ManifestKeeps', WHERE WHAT IT READS IS OF BULK AT MOST 1048576: true; the input reads as it did. -/
def manifestKeepsUptoRow : OpenClaim := { program := "ytcclhkoggijkaaa", sum := "46ad3ed1a02aa41dced684f9882771223cda2287ad6f20f93b2e244876bf4074", func := "caisson/caissonlaw12.ManifestKeeps", spec := "manifestKeeps", inPlace := ["internal/bytealg.Compare"], unfollowed := true, recurses := true, apart := false, narrowed := true }
def ManifestKeepsUptoSaid : Prop := manifestKeepsUptoRow.holds Try.pinned (OpenSpec.upto manifestKeepsSpec)

end Rows
end Go.Proofs.Ytcclhkoggijkaaa
