/-
  No cell of these rows narrows 'for every input' (looked for: loops, veiled, ifaces, maps, wideKeys, modest, calm, conditions, laid).
  DERIVED. THE GIVEN ROWS OF THIS SEAT. 12 by the template 'for every input the law returns true; each argument reads behind the call as it read before'; 0 by the template 'total and deterministic' (their statements: YtheefpgokdejcaaTotals.lean).
  GIVEN WITH THE SEED: the statements are not yours to turn. If you find one false, say at which input.
  Laid BY PROGRAM, IN A SANDBOX (cutbox-rows.mjs): the forced cells as the released guide's own fill.sh prints them over the translation 355fb9929fae0a30… (all of the seat's roots in one cut). By AI agents, Wed Nov 11 2026. No macro, syntax, notation, axiom, sorry.
-/
import Derived.Test.YtheefpgokdejcaaChecked
import GoSem.Claim
import GoSem.ClaimJoined
import GoSem.ClaimMapViews
import Derived.JoinedTies
import Derived.KernelRfl
namespace Go.Proofs.Ytheefpgokdejcaa
/- THE CELL 'sum', in the pinned program and in every row, IS THE sha256 OF THE DUMP (.gsa) THAT YtheefpgokdejcaaProg.lean LOADS. Nothing in Lean hashes anything: it is a label: what it is worth is what the hold of that sum in a sandbox is worth. -/
noncomputable def Try.pinned : Pinned := { name := "ytheefpgokdejcaa", sum := "355fb9929fae0a306c61e893a92b18069c72b98bc75eba6cefd82fc264eac434", checked := Try.checked }
namespace Rows
def none {H : Type} : Left H := { results := [], args := [] }

/-- 'caissonlaw07.MemTables': WHATEVER THE INPUT: true; the input reads as it did. -/
def memTablesSpec : ChangeSpec := { name := "memTables", fn := fun _ => fun
  | [d1, d2] => { results := [.lit (.bool true)], args := [d1, d2] }
  | _ => none }
def memTablesRow : OpenClaim := { program := "ytheefpgokdejcaa", sum := "355fb9929fae0a306c61e893a92b18069c72b98bc75eba6cefd82fc264eac434", func := "caisson/caissonlaw07.MemTables", spec := "memTables", inPlace := ["internal/bytealg.Compare"], recurses := true, apart := false }
def MemTablesSaid : Prop := memTablesRow.holds Try.pinned (OpenSpec.ofChange memTablesSpec)

/-- ITS FALSE NEIGHBOUR: 'it returns false'. Refute it at one input. -/
def memTablesWrong : ChangeSpec := { name := "memTables", fn := fun _ => fun
  | [d1, d2] => { results := [.lit (.bool false)], args := [d1, d2] }
  | _ => none }
def MemTablesWrongFalsely : Prop := memTablesRow.holds Try.pinned (OpenSpec.ofChange memTablesWrong)

/-- 'caissonlaw07.MemCounts': WHATEVER THE INPUT: true; the input reads as it did. -/
def memCountsSpec : ChangeSpec := { name := "memCounts", fn := fun _ => fun
  | [d1, d2] => { results := [.lit (.bool true)], args := [d1, d2] }
  | _ => none }
def memCountsRow : OpenClaim := { program := "ytheefpgokdejcaa", sum := "355fb9929fae0a306c61e893a92b18069c72b98bc75eba6cefd82fc264eac434", func := "caisson/caissonlaw07.MemCounts", spec := "memCounts", inPlace := ["internal/bytealg.Compare"], recurses := true, apart := false }
def MemCountsSaid : Prop := memCountsRow.holds Try.pinned (OpenSpec.ofChange memCountsSpec)

/-- ITS FALSE NEIGHBOUR: 'it returns false'. Refute it at one input. -/
def memCountsWrong : ChangeSpec := { name := "memCounts", fn := fun _ => fun
  | [d1, d2] => { results := [.lit (.bool false)], args := [d1, d2] }
  | _ => none }
def MemCountsWrongFalsely : Prop := memCountsRow.holds Try.pinned (OpenSpec.ofChange memCountsWrong)

/-- 'caissonlaw07.MemKeeps': WHATEVER THE INPUT: true; the input reads as it did. -/
def memKeepsSpec : ChangeSpec := { name := "memKeeps", fn := fun _ => fun
  | [d1, d2] => { results := [.lit (.bool true)], args := [d1, d2] }
  | _ => none }
def memKeepsRow : OpenClaim := { program := "ytheefpgokdejcaa", sum := "355fb9929fae0a306c61e893a92b18069c72b98bc75eba6cefd82fc264eac434", func := "caisson/caissonlaw07.MemKeeps", spec := "memKeeps", inPlace := ["internal/bytealg.Compare"], recurses := true, apart := false }
def MemKeepsSaid : Prop := memKeepsRow.holds Try.pinned (OpenSpec.ofChange memKeepsSpec)

/-- ITS FALSE NEIGHBOUR: 'it returns false'. Refute it at one input. -/
def memKeepsWrong : ChangeSpec := { name := "memKeeps", fn := fun _ => fun
  | [d1, d2] => { results := [.lit (.bool false)], args := [d1, d2] }
  | _ => none }
def MemKeepsWrongFalsely : Prop := memKeepsRow.holds Try.pinned (OpenSpec.ofChange memKeepsWrong)

/-- 'caissonlaw08.BlockReads': WHATEVER THE INPUT: true; the input reads as it did. -/
def blockReadsSpec : ChangeSpec := { name := "blockReads", fn := fun _ => fun
  | [d1, d2, d3] => { results := [.lit (.bool true)], args := [d1, d2, d3] }
  | _ => none }
def blockReadsRow : OpenClaim := { program := "ytheefpgokdejcaa", sum := "355fb9929fae0a306c61e893a92b18069c72b98bc75eba6cefd82fc264eac434", func := "caisson/caissonlaw08.BlockReads", spec := "blockReads", inPlace := ["internal/bytealg.Compare"], unfollowed := true, recurses := true, apart := false }
def BlockReadsSaid : Prop := blockReadsRow.holds Try.pinned (OpenSpec.ofChange blockReadsSpec)

/-- ITS FALSE NEIGHBOUR: 'it returns false'. Refute it at one input. -/
def blockReadsWrong : ChangeSpec := { name := "blockReads", fn := fun _ => fun
  | [d1, d2, d3] => { results := [.lit (.bool false)], args := [d1, d2, d3] }
  | _ => none }
def BlockReadsWrongFalsely : Prop := blockReadsRow.holds Try.pinned (OpenSpec.ofChange blockReadsWrong)

/-- 'caissonlaw08.BlockSeeks': WHATEVER THE INPUT: true; the input reads as it did. -/
def blockSeeksSpec : ChangeSpec := { name := "blockSeeks", fn := fun _ => fun
  | [d1, d2, d3] => { results := [.lit (.bool true)], args := [d1, d2, d3] }
  | _ => none }
def blockSeeksRow : OpenClaim := { program := "ytheefpgokdejcaa", sum := "355fb9929fae0a306c61e893a92b18069c72b98bc75eba6cefd82fc264eac434", func := "caisson/caissonlaw08.BlockSeeks", spec := "blockSeeks", inPlace := ["internal/bytealg.Compare"], unfollowed := true, recurses := true, apart := false }
def BlockSeeksSaid : Prop := blockSeeksRow.holds Try.pinned (OpenSpec.ofChange blockSeeksSpec)

/-- ITS FALSE NEIGHBOUR: 'it returns false'. Refute it at one input. -/
def blockSeeksWrong : ChangeSpec := { name := "blockSeeks", fn := fun _ => fun
  | [d1, d2, d3] => { results := [.lit (.bool false)], args := [d1, d2, d3] }
  | _ => none }
def BlockSeeksWrongFalsely : Prop := blockSeeksRow.holds Try.pinned (OpenSpec.ofChange blockSeeksWrong)

/-- 'caissonlaw08.BlockBursts': WHATEVER THE INPUT: true; the input reads as it did. -/
def blockBurstsSpec : ChangeSpec := { name := "blockBursts", fn := fun _ => fun
  | [d1, d2, d3] => { results := [.lit (.bool true)], args := [d1, d2, d3] }
  | _ => none }
def blockBurstsRow : OpenClaim := { program := "ytheefpgokdejcaa", sum := "355fb9929fae0a306c61e893a92b18069c72b98bc75eba6cefd82fc264eac434", func := "caisson/caissonlaw08.BlockBursts", spec := "blockBursts", inPlace := ["internal/bytealg.Compare"], apart := false }
def BlockBurstsSaid : Prop := blockBurstsRow.holds Try.pinned (OpenSpec.ofChange blockBurstsSpec)

/-- ITS FALSE NEIGHBOUR: 'it returns false'. Refute it at one input. -/
def blockBurstsWrong : ChangeSpec := { name := "blockBursts", fn := fun _ => fun
  | [d1, d2, d3] => { results := [.lit (.bool false)], args := [d1, d2, d3] }
  | _ => none }
def BlockBurstsWrongFalsely : Prop := blockBurstsRow.holds Try.pinned (OpenSpec.ofChange blockBurstsWrong)

/-- 'caissonlaw08.BlockKeeps': WHATEVER THE INPUT: true; the input reads as it did. -/
def blockKeepsSpec : ChangeSpec := { name := "blockKeeps", fn := fun _ => fun
  | [d1, d2] => { results := [.lit (.bool true)], args := [d1, d2] }
  | _ => none }
def blockKeepsRow : OpenClaim := { program := "ytheefpgokdejcaa", sum := "355fb9929fae0a306c61e893a92b18069c72b98bc75eba6cefd82fc264eac434", func := "caisson/caissonlaw08.BlockKeeps", spec := "blockKeeps", inPlace := ["internal/bytealg.Compare"], unfollowed := true, recurses := true, apart := false }
def BlockKeepsSaid : Prop := blockKeepsRow.holds Try.pinned (OpenSpec.ofChange blockKeepsSpec)

/-- ITS FALSE NEIGHBOUR: 'it returns false'. Refute it at one input. -/
def blockKeepsWrong : ChangeSpec := { name := "blockKeeps", fn := fun _ => fun
  | [d1, d2] => { results := [.lit (.bool false)], args := [d1, d2] }
  | _ => none }
def BlockKeepsWrongFalsely : Prop := blockKeepsRow.holds Try.pinned (OpenSpec.ofChange blockKeepsWrong)

/-- 'caissonlaw09.BloomBuilds': WHATEVER THE INPUT: true; the input reads as it did. -/
def bloomBuildsSpec : ChangeSpec := { name := "bloomBuilds", fn := fun _ => fun
  | [d1, d2, d3] => { results := [.lit (.bool true)], args := [d1, d2, d3] }
  | _ => none }
def bloomBuildsRow : OpenClaim := { program := "ytheefpgokdejcaa", sum := "355fb9929fae0a306c61e893a92b18069c72b98bc75eba6cefd82fc264eac434", func := "caisson/caissonlaw09.BloomBuilds", spec := "bloomBuilds", unfollowed := true, recurses := true, apart := false }
def BloomBuildsSaid : Prop := bloomBuildsRow.holds Try.pinned (OpenSpec.ofChange bloomBuildsSpec)

/-- ITS FALSE NEIGHBOUR: 'it returns false'. Refute it at one input. -/
def bloomBuildsWrong : ChangeSpec := { name := "bloomBuilds", fn := fun _ => fun
  | [d1, d2, d3] => { results := [.lit (.bool false)], args := [d1, d2, d3] }
  | _ => none }
def BloomBuildsWrongFalsely : Prop := bloomBuildsRow.holds Try.pinned (OpenSpec.ofChange bloomBuildsWrong)

/-- 'caissonlaw09.BloomMisses': WHATEVER THE INPUT: true; the input reads as it did. -/
def bloomMissesSpec : ChangeSpec := { name := "bloomMisses", fn := fun _ => fun
  | [d1, d2] => { results := [.lit (.bool true)], args := [d1, d2] }
  | _ => none }
def bloomMissesRow : OpenClaim := { program := "ytheefpgokdejcaa", sum := "355fb9929fae0a306c61e893a92b18069c72b98bc75eba6cefd82fc264eac434", func := "caisson/caissonlaw09.BloomMisses", spec := "bloomMisses", unfollowed := true, recurses := true, apart := false }
def BloomMissesSaid : Prop := bloomMissesRow.holds Try.pinned (OpenSpec.ofChange bloomMissesSpec)

/-- ITS FALSE NEIGHBOUR: 'it returns false'. Refute it at one input. -/
def bloomMissesWrong : ChangeSpec := { name := "bloomMisses", fn := fun _ => fun
  | [d1, d2] => { results := [.lit (.bool false)], args := [d1, d2] }
  | _ => none }
def BloomMissesWrongFalsely : Prop := bloomMissesRow.holds Try.pinned (OpenSpec.ofChange bloomMissesWrong)

/-- 'caissonlaw09.BloomAsks': WHATEVER THE INPUT: true; the input reads as it did. -/
def bloomAsksSpec : ChangeSpec := { name := "bloomAsks", fn := fun _ => fun
  | [d1, d2] => { results := [.lit (.bool true)], args := [d1, d2] }
  | _ => none }
def bloomAsksRow : OpenClaim := { program := "ytheefpgokdejcaa", sum := "355fb9929fae0a306c61e893a92b18069c72b98bc75eba6cefd82fc264eac434", func := "caisson/caissonlaw09.BloomAsks", spec := "bloomAsks", unfollowed := true, recurses := true, apart := false }
def BloomAsksSaid : Prop := bloomAsksRow.holds Try.pinned (OpenSpec.ofChange bloomAsksSpec)

/-- ITS FALSE NEIGHBOUR: 'it returns false'. Refute it at one input. -/
def bloomAsksWrong : ChangeSpec := { name := "bloomAsks", fn := fun _ => fun
  | [d1, d2] => { results := [.lit (.bool false)], args := [d1, d2] }
  | _ => none }
def BloomAsksWrongFalsely : Prop := bloomAsksRow.holds Try.pinned (OpenSpec.ofChange bloomAsksWrong)

/-- 'caissonlaw09.BloomUnions': WHATEVER THE INPUT: true; the input reads as it did. -/
def bloomUnionsSpec : ChangeSpec := { name := "bloomUnions", fn := fun _ => fun
  | [d1, d2, d3] => { results := [.lit (.bool true)], args := [d1, d2, d3] }
  | _ => none }
def bloomUnionsRow : OpenClaim := { program := "ytheefpgokdejcaa", sum := "355fb9929fae0a306c61e893a92b18069c72b98bc75eba6cefd82fc264eac434", func := "caisson/caissonlaw09.BloomUnions", spec := "bloomUnions", unfollowed := true, recurses := true, apart := false }
def BloomUnionsSaid : Prop := bloomUnionsRow.holds Try.pinned (OpenSpec.ofChange bloomUnionsSpec)

/-- ITS FALSE NEIGHBOUR: 'it returns false'. Refute it at one input. -/
def bloomUnionsWrong : ChangeSpec := { name := "bloomUnions", fn := fun _ => fun
  | [d1, d2, d3] => { results := [.lit (.bool false)], args := [d1, d2, d3] }
  | _ => none }
def BloomUnionsWrongFalsely : Prop := bloomUnionsRow.holds Try.pinned (OpenSpec.ofChange bloomUnionsWrong)

/-- 'caissonlaw09.BloomKeeps': WHATEVER THE INPUT: true; the input reads as it did. -/
def bloomKeepsSpec : ChangeSpec := { name := "bloomKeeps", fn := fun _ => fun
  | [d1, d2] => { results := [.lit (.bool true)], args := [d1, d2] }
  | _ => none }
def bloomKeepsRow : OpenClaim := { program := "ytheefpgokdejcaa", sum := "355fb9929fae0a306c61e893a92b18069c72b98bc75eba6cefd82fc264eac434", func := "caisson/caissonlaw09.BloomKeeps", spec := "bloomKeeps", unfollowed := true, recurses := true, apart := false }
def BloomKeepsSaid : Prop := bloomKeepsRow.holds Try.pinned (OpenSpec.ofChange bloomKeepsSpec)

/-- ITS FALSE NEIGHBOUR: 'it returns false'. Refute it at one input. -/
def bloomKeepsWrong : ChangeSpec := { name := "bloomKeeps", fn := fun _ => fun
  | [d1, d2] => { results := [.lit (.bool false)], args := [d1, d2] }
  | _ => none }
def BloomKeepsWrongFalsely : Prop := bloomKeepsRow.holds Try.pinned (OpenSpec.ofChange bloomKeepsWrong)

/- THE SECOND FORM. 'bulk': how many values and letters a reading holds, each counted each time it is reached (what is shared counts as often as it is met; a slice's spare places count too). A statement '..UptoSaid' is the law's where the arguments, and the package variables that the reading takes, are together of bulk at most 1048576: NARROWER than '..Said'. Prove '..Said' where nothing that the law and all that it calls make is longer than what came in: it says more and counts as full. Else prove '..UptoSaid'. A law counts once. -/
mutual
def uptoBulk {H : Type} : DataW H → Nat
  | .lit (.string bytes) => bytes.length + 1
  | .lit _ => 1
  | .nil => 1
  | .ptr d => uptoBulk d + 1
  | .slice elems spare => uptoBulkAll elems + uptoBulkAll spare + 1
  | .agg parts => uptoBulkAll parts + 1
  | .iface _ d => uptoBulk d + 1
  | .map entries => uptoBulkEntries entries + 1
  | .held _ => 1
def uptoBulkAll {H : Type} : List (DataW H) → Nat
  | [] => 0
  | d :: r => uptoBulk d + uptoBulkAll r
def uptoBulkEntries {H : Type} : List (Lit × DataW H) → Nat
  | [] => 0
  | x :: r => uptoBulkEntry x + uptoBulkEntries r
def uptoBulkEntry {H : Type} : Lit × DataW H → Nat
  | (.string bytes, d) => bytes.length + uptoBulk d + 1
  | (_, d) => uptoBulk d + 1
 end
def uptoSmall : (H : Type) → List (DataW H) → Bool := fun _ ds => decide (uptoBulkAll ds ≤ 1048576)
def OpenSpec.upto (s : _root_.Go.ChangeSpec) : _root_.Go.OpenSpec := { _root_.Go.OpenSpec.ofChange s with cond := some uptoSmall }

/-- 'caissonlaw07.MemTables', WHERE WHAT IT READS IS OF BULK AT MOST 1048576: true; the input reads as it did. -/
def memTablesUptoRow : OpenClaim := { program := "ytheefpgokdejcaa", sum := "355fb9929fae0a306c61e893a92b18069c72b98bc75eba6cefd82fc264eac434", func := "caisson/caissonlaw07.MemTables", spec := "memTables", inPlace := ["internal/bytealg.Compare"], recurses := true, apart := false, narrowed := true }
def MemTablesUptoSaid : Prop := memTablesUptoRow.holds Try.pinned (OpenSpec.upto memTablesSpec)

/-- 'caissonlaw07.MemCounts', WHERE WHAT IT READS IS OF BULK AT MOST 1048576: true; the input reads as it did. -/
def memCountsUptoRow : OpenClaim := { program := "ytheefpgokdejcaa", sum := "355fb9929fae0a306c61e893a92b18069c72b98bc75eba6cefd82fc264eac434", func := "caisson/caissonlaw07.MemCounts", spec := "memCounts", inPlace := ["internal/bytealg.Compare"], recurses := true, apart := false, narrowed := true }
def MemCountsUptoSaid : Prop := memCountsUptoRow.holds Try.pinned (OpenSpec.upto memCountsSpec)

/-- 'caissonlaw07.MemKeeps', WHERE WHAT IT READS IS OF BULK AT MOST 1048576: true; the input reads as it did. -/
def memKeepsUptoRow : OpenClaim := { program := "ytheefpgokdejcaa", sum := "355fb9929fae0a306c61e893a92b18069c72b98bc75eba6cefd82fc264eac434", func := "caisson/caissonlaw07.MemKeeps", spec := "memKeeps", inPlace := ["internal/bytealg.Compare"], recurses := true, apart := false, narrowed := true }
def MemKeepsUptoSaid : Prop := memKeepsUptoRow.holds Try.pinned (OpenSpec.upto memKeepsSpec)

/-- 'caissonlaw08.BlockReads', WHERE WHAT IT READS IS OF BULK AT MOST 1048576: true; the input reads as it did. -/
def blockReadsUptoRow : OpenClaim := { program := "ytheefpgokdejcaa", sum := "355fb9929fae0a306c61e893a92b18069c72b98bc75eba6cefd82fc264eac434", func := "caisson/caissonlaw08.BlockReads", spec := "blockReads", inPlace := ["internal/bytealg.Compare"], unfollowed := true, recurses := true, apart := false, narrowed := true }
def BlockReadsUptoSaid : Prop := blockReadsUptoRow.holds Try.pinned (OpenSpec.upto blockReadsSpec)

/-- 'caissonlaw08.BlockSeeks', WHERE WHAT IT READS IS OF BULK AT MOST 1048576: true; the input reads as it did. -/
def blockSeeksUptoRow : OpenClaim := { program := "ytheefpgokdejcaa", sum := "355fb9929fae0a306c61e893a92b18069c72b98bc75eba6cefd82fc264eac434", func := "caisson/caissonlaw08.BlockSeeks", spec := "blockSeeks", inPlace := ["internal/bytealg.Compare"], unfollowed := true, recurses := true, apart := false, narrowed := true }
def BlockSeeksUptoSaid : Prop := blockSeeksUptoRow.holds Try.pinned (OpenSpec.upto blockSeeksSpec)

/-- 'caissonlaw08.BlockBursts', WHERE WHAT IT READS IS OF BULK AT MOST 1048576: true; the input reads as it did. -/
def blockBurstsUptoRow : OpenClaim := { program := "ytheefpgokdejcaa", sum := "355fb9929fae0a306c61e893a92b18069c72b98bc75eba6cefd82fc264eac434", func := "caisson/caissonlaw08.BlockBursts", spec := "blockBursts", inPlace := ["internal/bytealg.Compare"], apart := false, narrowed := true }
def BlockBurstsUptoSaid : Prop := blockBurstsUptoRow.holds Try.pinned (OpenSpec.upto blockBurstsSpec)

/-- 'caissonlaw08.BlockKeeps', WHERE WHAT IT READS IS OF BULK AT MOST 1048576: true; the input reads as it did. -/
def blockKeepsUptoRow : OpenClaim := { program := "ytheefpgokdejcaa", sum := "355fb9929fae0a306c61e893a92b18069c72b98bc75eba6cefd82fc264eac434", func := "caisson/caissonlaw08.BlockKeeps", spec := "blockKeeps", inPlace := ["internal/bytealg.Compare"], unfollowed := true, recurses := true, apart := false, narrowed := true }
def BlockKeepsUptoSaid : Prop := blockKeepsUptoRow.holds Try.pinned (OpenSpec.upto blockKeepsSpec)

/-- 'caissonlaw09.BloomBuilds', WHERE WHAT IT READS IS OF BULK AT MOST 1048576: true; the input reads as it did. -/
def bloomBuildsUptoRow : OpenClaim := { program := "ytheefpgokdejcaa", sum := "355fb9929fae0a306c61e893a92b18069c72b98bc75eba6cefd82fc264eac434", func := "caisson/caissonlaw09.BloomBuilds", spec := "bloomBuilds", unfollowed := true, recurses := true, apart := false, narrowed := true }
def BloomBuildsUptoSaid : Prop := bloomBuildsUptoRow.holds Try.pinned (OpenSpec.upto bloomBuildsSpec)

/-- 'caissonlaw09.BloomMisses', WHERE WHAT IT READS IS OF BULK AT MOST 1048576: true; the input reads as it did. -/
def bloomMissesUptoRow : OpenClaim := { program := "ytheefpgokdejcaa", sum := "355fb9929fae0a306c61e893a92b18069c72b98bc75eba6cefd82fc264eac434", func := "caisson/caissonlaw09.BloomMisses", spec := "bloomMisses", unfollowed := true, recurses := true, apart := false, narrowed := true }
def BloomMissesUptoSaid : Prop := bloomMissesUptoRow.holds Try.pinned (OpenSpec.upto bloomMissesSpec)

/-- 'caissonlaw09.BloomAsks', WHERE WHAT IT READS IS OF BULK AT MOST 1048576: true; the input reads as it did. -/
def bloomAsksUptoRow : OpenClaim := { program := "ytheefpgokdejcaa", sum := "355fb9929fae0a306c61e893a92b18069c72b98bc75eba6cefd82fc264eac434", func := "caisson/caissonlaw09.BloomAsks", spec := "bloomAsks", unfollowed := true, recurses := true, apart := false, narrowed := true }
def BloomAsksUptoSaid : Prop := bloomAsksUptoRow.holds Try.pinned (OpenSpec.upto bloomAsksSpec)

/-- 'caissonlaw09.BloomUnions', WHERE WHAT IT READS IS OF BULK AT MOST 1048576: true; the input reads as it did. -/
def bloomUnionsUptoRow : OpenClaim := { program := "ytheefpgokdejcaa", sum := "355fb9929fae0a306c61e893a92b18069c72b98bc75eba6cefd82fc264eac434", func := "caisson/caissonlaw09.BloomUnions", spec := "bloomUnions", unfollowed := true, recurses := true, apart := false, narrowed := true }
def BloomUnionsUptoSaid : Prop := bloomUnionsUptoRow.holds Try.pinned (OpenSpec.upto bloomUnionsSpec)

/-- 'caissonlaw09.BloomKeeps', WHERE WHAT IT READS IS OF BULK AT MOST 1048576: true; the input reads as it did. -/
def bloomKeepsUptoRow : OpenClaim := { program := "ytheefpgokdejcaa", sum := "355fb9929fae0a306c61e893a92b18069c72b98bc75eba6cefd82fc264eac434", func := "caisson/caissonlaw09.BloomKeeps", spec := "bloomKeeps", unfollowed := true, recurses := true, apart := false, narrowed := true }
def BloomKeepsUptoSaid : Prop := bloomKeepsUptoRow.holds Try.pinned (OpenSpec.upto bloomKeepsSpec)

end Rows
end Go.Proofs.Ytheefpgokdejcaa
