/-
  No cell of these rows narrows 'for every input' (looked for: loops, veiled, ifaces, maps, wideKeys, modest, calm, conditions, laid).
  DERIVED. THE GIVEN ROWS OF THIS SEAT. 12 by the template 'for every input the law returns true; each argument reads behind the call as it read before'; 0 by the template 'total and deterministic' (their statements: YtbmaaofomgkllaaTotals.lean).
  GIVEN WITH THE SEED: the statements are not yours to turn. If you find one false, say at which input.
  Laid BY PROGRAM, IN A SANDBOX (cutbox-rows.mjs): the forced cells as the released guide's own fill.sh prints them over the translation d6d0547e7714571b… (all of the seat's roots in one cut). By AI agents, Wed Nov 11 2026. No macro, syntax, notation, axiom, sorry.
-/
import Derived.Test.YtbmaaofomgkllaaChecked
import GoSem.Claim
import GoSem.ClaimJoined
import GoSem.ClaimMapViews
import Derived.JoinedTies
import Derived.KernelRfl
namespace Go.Proofs.Ytbmaaofomgkllaa
/- THE CELL 'sum', in the pinned program and in every row, IS THE sha256 OF THE DUMP (.gsa) THAT YtbmaaofomgkllaaProg.lean LOADS. Nothing in Lean hashes anything: it is a label: what it is worth is what the hold of that sum in a sandbox is worth. -/
noncomputable def Try.pinned : Pinned := { name := "ytbmaaofomgkllaa", sum := "d6d0547e7714571b6262169a9256582652ad5e2ff5e125e35e99865151250a32", checked := Try.checked }
namespace Rows
def none {H : Type} : Left H := { results := [], args := [] }

/-- 'caissonlaw01.CodecNumbers': WHATEVER THE INPUT: true; the input reads as it did. -/
def codecNumbersSpec : ChangeSpec := { name := "codecNumbers", fn := fun _ => fun
  | [d1, d2, d3] => { results := [.lit (.bool true)], args := [d1, d2, d3] }
  | _ => none }
def codecNumbersRow : OpenClaim := { program := "ytbmaaofomgkllaa", sum := "d6d0547e7714571b6262169a9256582652ad5e2ff5e125e35e99865151250a32", func := "caisson/caissonlaw01.CodecNumbers", spec := "codecNumbers", apart := false }
def CodecNumbersSaid : Prop := codecNumbersRow.holds Try.pinned (OpenSpec.ofChange codecNumbersSpec)

/-- ITS FALSE NEIGHBOUR: 'it returns false'. Refute it at one input. -/
def codecNumbersWrong : ChangeSpec := { name := "codecNumbers", fn := fun _ => fun
  | [d1, d2, d3] => { results := [.lit (.bool false)], args := [d1, d2, d3] }
  | _ => none }
def CodecNumbersWrongFalsely : Prop := codecNumbersRow.holds Try.pinned (OpenSpec.ofChange codecNumbersWrong)

/-- 'caissonlaw01.CodecOrders': WHATEVER THE INPUT: true; the input reads as it did. -/
def codecOrdersSpec : ChangeSpec := { name := "codecOrders", fn := fun _ => fun
  | [d1, d2, d3] => { results := [.lit (.bool true)], args := [d1, d2, d3] }
  | _ => none }
def codecOrdersRow : OpenClaim := { program := "ytbmaaofomgkllaa", sum := "d6d0547e7714571b6262169a9256582652ad5e2ff5e125e35e99865151250a32", func := "caisson/caissonlaw01.CodecOrders", spec := "codecOrders", apart := false }
def CodecOrdersSaid : Prop := codecOrdersRow.holds Try.pinned (OpenSpec.ofChange codecOrdersSpec)

/-- ITS FALSE NEIGHBOUR: 'it returns false'. Refute it at one input. -/
def codecOrdersWrong : ChangeSpec := { name := "codecOrders", fn := fun _ => fun
  | [d1, d2, d3] => { results := [.lit (.bool false)], args := [d1, d2, d3] }
  | _ => none }
def CodecOrdersWrongFalsely : Prop := codecOrdersRow.holds Try.pinned (OpenSpec.ofChange codecOrdersWrong)

/-- 'caissonlaw01.CodecTexts': WHATEVER THE INPUT: true; the input reads as it did. -/
def codecTextsSpec : ChangeSpec := { name := "codecTexts", fn := fun _ => fun
  | [d1, d2, d3] => { results := [.lit (.bool true)], args := [d1, d2, d3] }
  | _ => none }
def codecTextsRow : OpenClaim := { program := "ytbmaaofomgkllaa", sum := "d6d0547e7714571b6262169a9256582652ad5e2ff5e125e35e99865151250a32", func := "caisson/caissonlaw01.CodecTexts", spec := "codecTexts", apart := false }
def CodecTextsSaid : Prop := codecTextsRow.holds Try.pinned (OpenSpec.ofChange codecTextsSpec)

/-- ITS FALSE NEIGHBOUR: 'it returns false'. Refute it at one input. -/
def codecTextsWrong : ChangeSpec := { name := "codecTexts", fn := fun _ => fun
  | [d1, d2, d3] => { results := [.lit (.bool false)], args := [d1, d2, d3] }
  | _ => none }
def CodecTextsWrongFalsely : Prop := codecTextsRow.holds Try.pinned (OpenSpec.ofChange codecTextsWrong)

/-- 'caissonlaw01.CodecTuples': WHATEVER THE INPUT: true; the input reads as it did. -/
def codecTuplesSpec : ChangeSpec := { name := "codecTuples", fn := fun _ => fun
  | [d1, d2] => { results := [.lit (.bool true)], args := [d1, d2] }
  | _ => none }
def codecTuplesRow : OpenClaim := { program := "ytbmaaofomgkllaa", sum := "d6d0547e7714571b6262169a9256582652ad5e2ff5e125e35e99865151250a32", func := "caisson/caissonlaw01.CodecTuples", spec := "codecTuples", inPlace := ["internal/bytealg.Compare"], apart := false }
def CodecTuplesSaid : Prop := codecTuplesRow.holds Try.pinned (OpenSpec.ofChange codecTuplesSpec)

/-- ITS FALSE NEIGHBOUR: 'it returns false'. Refute it at one input. -/
def codecTuplesWrong : ChangeSpec := { name := "codecTuples", fn := fun _ => fun
  | [d1, d2] => { results := [.lit (.bool false)], args := [d1, d2] }
  | _ => none }
def CodecTuplesWrongFalsely : Prop := codecTuplesRow.holds Try.pinned (OpenSpec.ofChange codecTuplesWrong)

/-- 'caissonlaw01.CodecFrames': WHATEVER THE INPUT: true; the input reads as it did. -/
def codecFramesSpec : ChangeSpec := { name := "codecFrames", fn := fun _ => fun
  | [d1, d2] => { results := [.lit (.bool true)], args := [d1, d2] }
  | _ => none }
def codecFramesRow : OpenClaim := { program := "ytbmaaofomgkllaa", sum := "d6d0547e7714571b6262169a9256582652ad5e2ff5e125e35e99865151250a32", func := "caisson/caissonlaw01.CodecFrames", spec := "codecFrames", apart := false }
def CodecFramesSaid : Prop := codecFramesRow.holds Try.pinned (OpenSpec.ofChange codecFramesSpec)

/-- ITS FALSE NEIGHBOUR: 'it returns false'. Refute it at one input. -/
def codecFramesWrong : ChangeSpec := { name := "codecFrames", fn := fun _ => fun
  | [d1, d2] => { results := [.lit (.bool false)], args := [d1, d2] }
  | _ => none }
def CodecFramesWrongFalsely : Prop := codecFramesRow.holds Try.pinned (OpenSpec.ofChange codecFramesWrong)

/-- 'caissonlaw01.CodecNext': WHATEVER THE INPUT: true; the input reads as it did. -/
def codecNextSpec : ChangeSpec := { name := "codecNext", fn := fun _ => fun
  | [d1, d2, d3] => { results := [.lit (.bool true)], args := [d1, d2, d3] }
  | _ => none }
def codecNextRow : OpenClaim := { program := "ytbmaaofomgkllaa", sum := "d6d0547e7714571b6262169a9256582652ad5e2ff5e125e35e99865151250a32", func := "caisson/caissonlaw01.CodecNext", spec := "codecNext", inPlace := ["internal/bytealg.Compare"], apart := false }
def CodecNextSaid : Prop := codecNextRow.holds Try.pinned (OpenSpec.ofChange codecNextSpec)

/-- ITS FALSE NEIGHBOUR: 'it returns false'. Refute it at one input. -/
def codecNextWrong : ChangeSpec := { name := "codecNext", fn := fun _ => fun
  | [d1, d2, d3] => { results := [.lit (.bool false)], args := [d1, d2, d3] }
  | _ => none }
def CodecNextWrongFalsely : Prop := codecNextRow.holds Try.pinned (OpenSpec.ofChange codecNextWrong)

/-- 'caissonlaw01.CodecKeeps': WHATEVER THE INPUT: true; the input reads as it did. -/
def codecKeepsSpec : ChangeSpec := { name := "codecKeeps", fn := fun _ => fun
  | [d1, d2] => { results := [.lit (.bool true)], args := [d1, d2] }
  | _ => none }
def codecKeepsRow : OpenClaim := { program := "ytbmaaofomgkllaa", sum := "d6d0547e7714571b6262169a9256582652ad5e2ff5e125e35e99865151250a32", func := "caisson/caissonlaw01.CodecKeeps", spec := "codecKeeps", apart := false }
def CodecKeepsSaid : Prop := codecKeepsRow.holds Try.pinned (OpenSpec.ofChange codecKeepsSpec)

/-- ITS FALSE NEIGHBOUR: 'it returns false'. Refute it at one input. -/
def codecKeepsWrong : ChangeSpec := { name := "codecKeeps", fn := fun _ => fun
  | [d1, d2] => { results := [.lit (.bool false)], args := [d1, d2] }
  | _ => none }
def CodecKeepsWrongFalsely : Prop := codecKeepsRow.holds Try.pinned (OpenSpec.ofChange codecKeepsWrong)

/-- 'caissonlaw02.TextRunes': WHATEVER THE INPUT: true; the input reads as it did. -/
def textRunesSpec : ChangeSpec := { name := "textRunes", fn := fun _ => fun
  | [d1, d2] => { results := [.lit (.bool true)], args := [d1, d2] }
  | _ => none }
def textRunesRow : OpenClaim := { program := "ytbmaaofomgkllaa", sum := "d6d0547e7714571b6262169a9256582652ad5e2ff5e125e35e99865151250a32", func := "caisson/caissonlaw02.TextRunes", spec := "textRunes", inPlace := ["internal/abi.NoEscape"], apart := false }
def TextRunesSaid : Prop := textRunesRow.holds Try.pinned (OpenSpec.ofChange textRunesSpec)

/-- ITS FALSE NEIGHBOUR: 'it returns false'. Refute it at one input. -/
def textRunesWrong : ChangeSpec := { name := "textRunes", fn := fun _ => fun
  | [d1, d2] => { results := [.lit (.bool false)], args := [d1, d2] }
  | _ => none }
def TextRunesWrongFalsely : Prop := textRunesRow.holds Try.pinned (OpenSpec.ofChange textRunesWrong)

/-- 'caissonlaw02.TextClips': WHATEVER THE INPUT: true; the input reads as it did. -/
def textClipsSpec : ChangeSpec := { name := "textClips", fn := fun _ => fun
  | [d1, d2] => { results := [.lit (.bool true)], args := [d1, d2] }
  | _ => none }
def textClipsRow : OpenClaim := { program := "ytbmaaofomgkllaa", sum := "d6d0547e7714571b6262169a9256582652ad5e2ff5e125e35e99865151250a32", func := "caisson/caissonlaw02.TextClips", spec := "textClips", inPlace := ["internal/abi.NoEscape"], apart := false }
def TextClipsSaid : Prop := textClipsRow.holds Try.pinned (OpenSpec.ofChange textClipsSpec)

/-- ITS FALSE NEIGHBOUR: 'it returns false'. Refute it at one input. -/
def textClipsWrong : ChangeSpec := { name := "textClips", fn := fun _ => fun
  | [d1, d2] => { results := [.lit (.bool false)], args := [d1, d2] }
  | _ => none }
def TextClipsWrongFalsely : Prop := textClipsRow.holds Try.pinned (OpenSpec.ofChange textClipsWrong)

/-- 'caissonlaw02.TextFolds': WHATEVER THE INPUT: true; the input reads as it did. -/
def textFoldsSpec : ChangeSpec := { name := "textFolds", fn := fun _ => fun
  | [d] => { results := [.lit (.bool true)], args := [d] }
  | _ => none }
def textFoldsRow : OpenClaim := { program := "ytbmaaofomgkllaa", sum := "d6d0547e7714571b6262169a9256582652ad5e2ff5e125e35e99865151250a32", func := "caisson/caissonlaw02.TextFolds", spec := "textFolds", inPlace := ["internal/abi.NoEscape"], apart := false }
def TextFoldsSaid : Prop := textFoldsRow.holds Try.pinned (OpenSpec.ofChange textFoldsSpec)

/-- ITS FALSE NEIGHBOUR: 'it returns false'. Refute it at one input. -/
def textFoldsWrong : ChangeSpec := { name := "textFolds", fn := fun _ => fun
  | [d] => { results := [.lit (.bool false)], args := [d] }
  | _ => none }
def TextFoldsWrongFalsely : Prop := textFoldsRow.holds Try.pinned (OpenSpec.ofChange textFoldsWrong)

/-- 'caissonlaw02.TextKeys': WHATEVER THE INPUT: true; the input reads as it did. -/
def textKeysSpec : ChangeSpec := { name := "textKeys", fn := fun _ => fun
  | [d1, d2, d3] => { results := [.lit (.bool true)], args := [d1, d2, d3] }
  | _ => none }
def textKeysRow : OpenClaim := { program := "ytbmaaofomgkllaa", sum := "d6d0547e7714571b6262169a9256582652ad5e2ff5e125e35e99865151250a32", func := "caisson/caissonlaw02.TextKeys", spec := "textKeys", inPlace := ["internal/abi.NoEscape", "internal/bytealg.Compare"], apart := false }
def TextKeysSaid : Prop := textKeysRow.holds Try.pinned (OpenSpec.ofChange textKeysSpec)

/-- ITS FALSE NEIGHBOUR: 'it returns false'. Refute it at one input. -/
def textKeysWrong : ChangeSpec := { name := "textKeys", fn := fun _ => fun
  | [d1, d2, d3] => { results := [.lit (.bool false)], args := [d1, d2, d3] }
  | _ => none }
def TextKeysWrongFalsely : Prop := textKeysRow.holds Try.pinned (OpenSpec.ofChange textKeysWrong)

/-- 'caissonlaw02.TextLikes': WHATEVER THE INPUT: true; the input reads as it did. -/
def textLikesSpec : ChangeSpec := { name := "textLikes", fn := fun _ => fun
  | [d1, d2] => { results := [.lit (.bool true)], args := [d1, d2] }
  | _ => none }
def textLikesRow : OpenClaim := { program := "ytbmaaofomgkllaa", sum := "d6d0547e7714571b6262169a9256582652ad5e2ff5e125e35e99865151250a32", func := "caisson/caissonlaw02.TextLikes", spec := "textLikes", inPlace := ["internal/abi.NoEscape"], apart := false }
def TextLikesSaid : Prop := textLikesRow.holds Try.pinned (OpenSpec.ofChange textLikesSpec)

/-- ITS FALSE NEIGHBOUR: 'it returns false'. Refute it at one input. -/
def textLikesWrong : ChangeSpec := { name := "textLikes", fn := fun _ => fun
  | [d1, d2] => { results := [.lit (.bool false)], args := [d1, d2] }
  | _ => none }
def TextLikesWrongFalsely : Prop := textLikesRow.holds Try.pinned (OpenSpec.ofChange textLikesWrong)

/- THE SECOND FORM. 'bulk': how many values and letters a reading holds, each counted each time it is reached (what is shared counts as often as it is met; a slice's spare places count too). A statement '..UptoSaid' is the law's where the arguments, and the package variables that the reading takes, are together of bulk at most 1048576: NARROWER than '..Said'. Prove '..Said' where nothing that the law and all that it calls make is longer than what came in: it says more and counts as full. Else prove '..UptoSaid'. A law counts once. -/
mutual
def uptoBulk {H : Type} : DataW H → Nat
  | .lit (.string bytes) => bytes.length + 1
  | .lit _ => 1
  | .nil => 1
  | .ptr d => uptoBulk d + 1
  | .slice elems spare => uptoBulkAll elems + uptoBulkAll spare + 1
  | .agg parts => uptoBulkAll parts + 1
  | .iface _ d => uptoBulk d + 1
  | .map entries => uptoBulkEntries entries + 1
  | .held _ => 1
def uptoBulkAll {H : Type} : List (DataW H) → Nat
  | [] => 0
  | d :: r => uptoBulk d + uptoBulkAll r
def uptoBulkEntries {H : Type} : List (Lit × DataW H) → Nat
  | [] => 0
  | x :: r => uptoBulkEntry x + uptoBulkEntries r
def uptoBulkEntry {H : Type} : Lit × DataW H → Nat
  | (.string bytes, d) => bytes.length + uptoBulk d + 1
  | (_, d) => uptoBulk d + 1
 end
def uptoSmall : (H : Type) → List (DataW H) → Bool := fun _ ds => decide (uptoBulkAll ds ≤ 1048576)
def OpenSpec.upto (s : _root_.Go.ChangeSpec) : _root_.Go.OpenSpec := { _root_.Go.OpenSpec.ofChange s with cond := some uptoSmall }

/-- 'caissonlaw01.CodecNumbers', WHERE WHAT IT READS IS OF BULK AT MOST 1048576: true; the input reads as it did. -/
def codecNumbersUptoRow : OpenClaim := { program := "ytbmaaofomgkllaa", sum := "d6d0547e7714571b6262169a9256582652ad5e2ff5e125e35e99865151250a32", func := "caisson/caissonlaw01.CodecNumbers", spec := "codecNumbers", apart := false, narrowed := true }
def CodecNumbersUptoSaid : Prop := codecNumbersUptoRow.holds Try.pinned (OpenSpec.upto codecNumbersSpec)

/-- 'caissonlaw01.CodecOrders', WHERE WHAT IT READS IS OF BULK AT MOST 1048576: true; the input reads as it did. -/
def codecOrdersUptoRow : OpenClaim := { program := "ytbmaaofomgkllaa", sum := "d6d0547e7714571b6262169a9256582652ad5e2ff5e125e35e99865151250a32", func := "caisson/caissonlaw01.CodecOrders", spec := "codecOrders", apart := false, narrowed := true }
def CodecOrdersUptoSaid : Prop := codecOrdersUptoRow.holds Try.pinned (OpenSpec.upto codecOrdersSpec)

/-- 'caissonlaw01.CodecTexts', WHERE WHAT IT READS IS OF BULK AT MOST 1048576: true; the input reads as it did. -/
def codecTextsUptoRow : OpenClaim := { program := "ytbmaaofomgkllaa", sum := "d6d0547e7714571b6262169a9256582652ad5e2ff5e125e35e99865151250a32", func := "caisson/caissonlaw01.CodecTexts", spec := "codecTexts", apart := false, narrowed := true }
def CodecTextsUptoSaid : Prop := codecTextsUptoRow.holds Try.pinned (OpenSpec.upto codecTextsSpec)

/-- 'caissonlaw01.CodecTuples', WHERE WHAT IT READS IS OF BULK AT MOST 1048576: true; the input reads as it did. -/
def codecTuplesUptoRow : OpenClaim := { program := "ytbmaaofomgkllaa", sum := "d6d0547e7714571b6262169a9256582652ad5e2ff5e125e35e99865151250a32", func := "caisson/caissonlaw01.CodecTuples", spec := "codecTuples", inPlace := ["internal/bytealg.Compare"], apart := false, narrowed := true }
def CodecTuplesUptoSaid : Prop := codecTuplesUptoRow.holds Try.pinned (OpenSpec.upto codecTuplesSpec)

/-- 'caissonlaw01.CodecFrames', WHERE WHAT IT READS IS OF BULK AT MOST 1048576: true; the input reads as it did. -/
def codecFramesUptoRow : OpenClaim := { program := "ytbmaaofomgkllaa", sum := "d6d0547e7714571b6262169a9256582652ad5e2ff5e125e35e99865151250a32", func := "caisson/caissonlaw01.CodecFrames", spec := "codecFrames", apart := false, narrowed := true }
def CodecFramesUptoSaid : Prop := codecFramesUptoRow.holds Try.pinned (OpenSpec.upto codecFramesSpec)

/-- 'caissonlaw01.CodecNext', WHERE WHAT IT READS IS OF BULK AT MOST 1048576: true; the input reads as it did. -/
def codecNextUptoRow : OpenClaim := { program := "ytbmaaofomgkllaa", sum := "d6d0547e7714571b6262169a9256582652ad5e2ff5e125e35e99865151250a32", func := "caisson/caissonlaw01.CodecNext", spec := "codecNext", inPlace := ["internal/bytealg.Compare"], apart := false, narrowed := true }
def CodecNextUptoSaid : Prop := codecNextUptoRow.holds Try.pinned (OpenSpec.upto codecNextSpec)

/-- 'caissonlaw01.CodecKeeps', WHERE WHAT IT READS IS OF BULK AT MOST 1048576: true; the input reads as it did. -/
def codecKeepsUptoRow : OpenClaim := { program := "ytbmaaofomgkllaa", sum := "d6d0547e7714571b6262169a9256582652ad5e2ff5e125e35e99865151250a32", func := "caisson/caissonlaw01.CodecKeeps", spec := "codecKeeps", apart := false, narrowed := true }
def CodecKeepsUptoSaid : Prop := codecKeepsUptoRow.holds Try.pinned (OpenSpec.upto codecKeepsSpec)

/-- 'caissonlaw02.TextRunes', WHERE WHAT IT READS IS OF BULK AT MOST 1048576: true; the input reads as it did. -/
def textRunesUptoRow : OpenClaim := { program := "ytbmaaofomgkllaa", sum := "d6d0547e7714571b6262169a9256582652ad5e2ff5e125e35e99865151250a32", func := "caisson/caissonlaw02.TextRunes", spec := "textRunes", inPlace := ["internal/abi.NoEscape"], apart := false, narrowed := true }
def TextRunesUptoSaid : Prop := textRunesUptoRow.holds Try.pinned (OpenSpec.upto textRunesSpec)

/-- 'caissonlaw02.TextClips', WHERE WHAT IT READS IS OF BULK AT MOST 1048576: true; the input reads as it did. -/
def textClipsUptoRow : OpenClaim := { program := "ytbmaaofomgkllaa", sum := "d6d0547e7714571b6262169a9256582652ad5e2ff5e125e35e99865151250a32", func := "caisson/caissonlaw02.TextClips", spec := "textClips", inPlace := ["internal/abi.NoEscape"], apart := false, narrowed := true }
def TextClipsUptoSaid : Prop := textClipsUptoRow.holds Try.pinned (OpenSpec.upto textClipsSpec)

/-- 'caissonlaw02.TextFolds', WHERE WHAT IT READS IS OF BULK AT MOST 1048576: true; the input reads as it did. -/
def textFoldsUptoRow : OpenClaim := { program := "ytbmaaofomgkllaa", sum := "d6d0547e7714571b6262169a9256582652ad5e2ff5e125e35e99865151250a32", func := "caisson/caissonlaw02.TextFolds", spec := "textFolds", inPlace := ["internal/abi.NoEscape"], apart := false, narrowed := true }
def TextFoldsUptoSaid : Prop := textFoldsUptoRow.holds Try.pinned (OpenSpec.upto textFoldsSpec)

/-- 'caissonlaw02.TextKeys', WHERE WHAT IT READS IS OF BULK AT MOST 1048576: true; the input reads as it did. -/
def textKeysUptoRow : OpenClaim := { program := "ytbmaaofomgkllaa", sum := "d6d0547e7714571b6262169a9256582652ad5e2ff5e125e35e99865151250a32", func := "caisson/caissonlaw02.TextKeys", spec := "textKeys", inPlace := ["internal/abi.NoEscape", "internal/bytealg.Compare"], apart := false, narrowed := true }
def TextKeysUptoSaid : Prop := textKeysUptoRow.holds Try.pinned (OpenSpec.upto textKeysSpec)

/-- 'caissonlaw02.TextLikes', WHERE WHAT IT READS IS OF BULK AT MOST 1048576: true; the input reads as it did. -/
def textLikesUptoRow : OpenClaim := { program := "ytbmaaofomgkllaa", sum := "d6d0547e7714571b6262169a9256582652ad5e2ff5e125e35e99865151250a32", func := "caisson/caissonlaw02.TextLikes", spec := "textLikes", inPlace := ["internal/abi.NoEscape"], apart := false, narrowed := true }
def TextLikesUptoSaid : Prop := textLikesUptoRow.holds Try.pinned (OpenSpec.upto textLikesSpec)

end Rows
end Go.Proofs.Ytbmaaofomgkllaa
