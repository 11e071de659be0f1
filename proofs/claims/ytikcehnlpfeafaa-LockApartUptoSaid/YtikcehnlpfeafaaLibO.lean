/- The library's contract of a sort at pointers, proved once over any program, at this program's own numbers. -/
import Derived.Shelf.SlGeneric
import Derived.Shelf.SlSortCmp.Whole1
import Derived.Shelf.SlSortCmp.NoneTotal
import Derived.Ground.SlsfProg
import Derived.Test.YtikcehnlpfeafaaProg
namespace Go.Proofs.Ytikcehnlpfeafaa
open Go.Shelf
def sorto_ren : Go.Shelf.Ren := ⟨fun | 6 => 190 | 15 => 159 | 14 => 246 | 28 => 220 | 29 => 221 | 20 => 261 | 21 => 262 | 22 => 263 | 23 => 264 | 24 => 265 | 25 => 266 | 26 => 267 | 27 => 268 | 46 => 272 | 47 => 253 | 48 => 254 | 49 => 273 | 50 => 274 | 57 => 277 | n => n, fun | 22 => 76 | 24 => 196 | 25 => 258 | 3 => 3 | 39 => 129 | 0 => 0 | 53 => 280 | 55 => 35 | 4 => 4 | 46 => 274 | 45 => 273 | 50 => 229 | 5 => 5 | 9 => 9 | 66 => 304 | 70 => 307 | 76 => 317 | 77 => 318 | n => n, fun | n => n⟩
theorem sorto : Go.Proofs.SlLaysF.n6 Try.prog sorto_ren := {
  mixed := by kernel_rfl
  f6 := ⟨Try.f190.name, by decide, Try.func190.trans (congrArg some (by kernel_rfl))⟩
  f14 := ⟨Try.f246.name, by decide, Try.func246.trans (congrArg some (by kernel_rfl))⟩
  f15 := Try.func159.trans (congrArg some (by kernel_rfl))
  f20 := ⟨Try.f261.name, by decide, Try.func261.trans (congrArg some (by kernel_rfl))⟩
  f21 := ⟨Try.f262.name, by decide, Try.func262.trans (congrArg some (by kernel_rfl))⟩
  f22 := ⟨Try.f263.name, by decide, Try.func263.trans (congrArg some (by kernel_rfl))⟩
  f23 := ⟨Try.f264.name, by decide, Try.func264.trans (congrArg some (by kernel_rfl))⟩
  f24 := ⟨Try.f265.name, by decide, Try.func265.trans (congrArg some (by kernel_rfl))⟩
  f25 := ⟨Try.f266.name, by decide, Try.func266.trans (congrArg some (by kernel_rfl))⟩
  f26 := ⟨Try.f267.name, by decide, Try.func267.trans (congrArg some (by kernel_rfl))⟩
  f27 := ⟨Try.f268.name, by decide, Try.func268.trans (congrArg some (by kernel_rfl))⟩
  f28 := Try.func220.trans (congrArg some (by kernel_rfl))
  f29 := Try.func221.trans (congrArg some (by kernel_rfl))
  f46 := ⟨Try.f272.name, by decide, Try.func272.trans (congrArg some (by kernel_rfl))⟩
  f47 := Try.func253.trans (congrArg some (by kernel_rfl))
  f48 := Try.func254.trans (congrArg some (by kernel_rfl))
  f49 := ⟨Try.f273.name, by decide, Try.func273.trans (congrArg some (by kernel_rfl))⟩
  f50 := ⟨Try.f274.name, by decide, Try.func274.trans (congrArg some (by kernel_rfl))⟩
  f57 := ⟨Try.f277.name, by decide, Try.func277.trans (congrArg some (by kernel_rfl))⟩
  t0 := Try.underlying0
  a0 := Try.isAgg0
  z0 := Try.sizeOf0
  v0 := Try.zeroValue0
  t3 := Try.underlying3
  a3 := Try.isAgg3
  z3 := Try.sizeOf3
  v3 := Try.zeroValue3
  t4 := Try.underlying4
  a4 := Try.isAgg4
  z4 := Try.sizeOf4
  v4 := Try.zeroValue4
  t5 := Try.underlying5
  a5 := Try.isAgg5
  z5 := Try.sizeOf5
  v5 := Try.zeroValue5
  t9 := Try.underlying9
  a9 := Try.isAgg9
  z9 := Try.sizeOf9
  v9 := Try.zeroValue9
  t22 := Try.underlying76
  a22 := Try.isAgg76
  z22 := Try.sizeOf76
  v22 := Try.zeroValue76
  a24 := Try.isAgg196
  z24 := Try.sizeOf196
  t25 := Try.underlying258
  a25 := Try.isAgg258
  z25 := Try.sizeOf258
  v25 := Try.zeroValue258
  t39 := Try.underlying129
  a39 := Try.isAgg129
  z39 := Try.sizeOf129
  v39 := Try.zeroValue129
  t45 := Try.underlying273
  a45 := Try.isAgg273
  z45 := Try.sizeOf273
  v45 := Try.zeroValue273
  t46 := Try.underlying274
  a46 := Try.isAgg274
  z46 := Try.sizeOf274
  v46 := Try.zeroValue274
  t50 := Try.underlying229
  a50 := Try.isAgg229
  z50 := Try.sizeOf229
  v50 := Try.zeroValue229
  t53 := Try.underlying280
  a53 := Try.isAgg280
  z53 := Try.sizeOf280
  v53 := Try.zeroValue280
  t55 := Try.underlying35
  a55 := Try.isAgg35
  z55 := Try.sizeOf35
  v55 := Try.zeroValue35
  t66 := Try.underlying304
  a66 := Try.isAgg304
  z66 := Try.sizeOf304
  v66 := Try.zeroValue304
  t70 := Try.underlying307
  a70 := Try.isAgg307
  z70 := Try.sizeOf307
  v70 := Try.zeroValue307
  t76 := Try.underlying317
  a76 := Try.isAgg317
  z76 := Try.sizeOf317
  v76 := Try.zeroValue317
  t77 := Try.underlying318
  a77 := Try.isAgg318
  z77 := Try.sizeOf318
  v77 := Try.zeroValue318 }
open Go.RowKit Go.Lib Go.Sort in
theorem lib_sortO {α : Type} [Inhabited α] (enc : α → Value) (h1 : OneCell enc) (cf : α → α → Int) (hO : SWO (ltOf cf)) (g : Nat) (cb : Array Value) (blk off cap : Nat) (d : Array α) (w : World) (eg : ∀ args w, (callFunc g args).run Try.prog w = .ok (.enter g args) w) (hcmp : CmpLays1 Try.prog g cb enc cf blk off d.size w) (hH : Holds enc w blk off d) (hblk : blk < w.heap.size) (hsz : d.size < 4611686018427387904) :
    Calls Try.prog 190 #[.slice (some ⟨blk, off, none⟩) d.size cap, .func (.func g) #[] cb] w fun e w' => e = .returned (.tuple #[]) ∧ ∃ d' n os, PermIn 0 d.size d d' ∧ SortedIn (ltOf cf) 0 d.size d' ∧ w' = sortWorld enc w blk off n d' os := Any.slices_SortFunc sorto enc h1 cf hO g cb blk off cap d w eg hcmp hH hblk hsz
open Go.RowKit Go.Lib Go.Sort in
theorem lib_sortO_none (p : Option Addr) (cap : Nat) (fv : Value) (w : World) : Calls Try.prog 190 #[.slice p 0 cap, fv] w fun e w' => e = .returned (.tuple #[]) ∧ w' = w := AnyF.slices_SortFunc_none { sorto with } p cap fv w
end Go.Proofs.Ytikcehnlpfeafaa
