/- Entries: the reference's and the program's Less, Check, Twin, few. No condition but sizes. -/
import Derived.Test.YtmpdenpopokigaaEn
import Derived.Test.YtmpdenpopokigaaCl
import Derived.Test.YtmpdenpopokigaaCmp
import Derived.Test.YtmpdenpopokigaaBcmp
import Derived.Test.YtmpdenpopokigaaAwake
namespace Go.Proofs.Ytmpdenpopokigaa
open Go Go.RowKit

def RetNu (w : World) (z : Int) (e : Ending) (w' : World) : Prop := e = .returned (.int .i64 z) ∧ Below w.heap.size w w'
theorem cut4_h {P : Program} {t e : TypeId} (ht : P.underlying t = some (.slice e)) (he : P.elem t = e) (hs : ∀ w, (sizeOf e).run P w = .ok 4 w)
    (A : Option Addr) {n cap m : Nat} (hm : m ≤ cap) (w : World) :
    (Instr.slice t (.slice A n cap) none (some (.int .i64 (m : Int))) none).run P w = .ok (.slice A m cap) w := by
  subst he
  rw [run_slice_h w t A n cap ht .i64 (m : Int) (by omega) (by omega)]
  simp only [hs, Result.andThen, sliced, Int.toNat_natCast, Nat.zero_mul, Nat.sub_zero]
  cases A <;> simp [Addr.add]

/-- 'These two share no block.' -/
def Dj (K V : Option Addr) : Prop := ∀ b, blk K = some b → blk V ≠ some b
theorem Dj.old {e : TypeId} {w w' : World} {base base' n c m d : Nat} {K V : Option Addr} {xs ys : List UInt8} (h : Own e w base K n c xs) (k : Own e w' base' V m d ys) (hb : w.heap.size ≤ base') : Dj K V := fun b h1 h2 => by
  have a1 := (OwnV.lt h b h1).2
  have a2 := (OwnV.lt k b h2).1
  omega
theorem Dj.symm {K V : Option Addr} (h : Dj K V) : Dj V K := fun b h1 h2 => h b h2 h1
section
variable {w : World} {a b : En} {v0 v1 v2 v3 u0 u1 u2 u3 : Value}
end
end Go.Proofs.Ytmpdenpopokigaa
