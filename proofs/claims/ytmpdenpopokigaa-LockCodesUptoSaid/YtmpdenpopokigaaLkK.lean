/- Lock: reach. No condition but sizes. -/
import Derived.Test.YtmpdenpopokigaaEnE
import Derived.Test.YtmpdenpopokigaaEnC
import Derived.Deep.RegionLaw
import Derived.Test.YtmpdenpopokigaaTr
import Derived.Test.YtmpdenpopokigaaNext
import Derived.Test.YtmpdenpopokigaaBkB
import Derived.Test.YtmpdenpopokigaaCl
import Derived.Test.YtmpdenpopokigaaFamD
import Derived.Test.YtmpdenpopokigaaEnD
import Derived.Test.YtmpdenpopokigaaCmp
import Derived.Laws.MakeOwn
import Derived.Test.YtmpdenpopokigaaEnL
import Derived.Test.YtmpdenpopokigaaEnB
import Derived.Deep.LoopGhost
import Derived.Laws.BytesArg
import Derived.Deep.QuietTactic
import Derived.BigQuiet
import Derived.Test.YtmpdenpopokigaaFrW
import Derived.Deep.DeepCutAuto
import Derived.Deep.CutBlock
import Derived.Laws.StructEq
import Derived.LaidEqlPtr
import Derived.Deep.RegionHeld3
import Derived.Test.YtmpdenpopokigaaSnk
import Derived.Maps.AppendAt
import Derived.Test.YtmpdenpopokigaaApartF
import Derived.ArgAppend
namespace Go.Proofs.Ytmpdenpopokigaa
open Go Go.RowKit

theorem OwnE.mono {w : World} {base base' n c : Nat} {A : Option Addr} {vs : List Value} (h : OwnE w base A n c vs) (hb : base' ≤ base) : OwnE w base' A n c vs := by
  refine ⟨h.1, ?_⟩
  rcases h.2 with h1 | ⟨g, cap, cur, h1, h2, h3⟩
  · exact .inl h1
  · exact .inr ⟨g, cap, cur, h1, Nat.le_trans hb h2, h3⟩
/-- What an insertion comes to: a row of the call's own, with the values that were handed in. -/
def RetIns (w : World) (n : Nat) (es : List En) (us : List Value) (e : Ending) (w' : World) : Prop :=
  ∃ L d vs, e = .returned (.slice L n d) ∧ OwnE w' w.heap.size L n d vs ∧ EVs w' es vs ∧ Below w.heap.size w w' ∧ ∀ u ∈ vs, u ∈ us
theorem RetIns.out {w : World} {n : Nat} {es : List En} {us : List Value} {e : Ending} {w' : World} (h : RetIns w n es us e w') : ∃ L d vs, e = .returned (.slice L n d) ∧ OwnE w' w.heap.size L n d vs ∧ EVs w' es vs ∧ Below w.heap.size w w' ∧ ∀ u ∈ vs, u ∈ us := h
end Go.Proofs.Ytmpdenpopokigaa
namespace Go.Proofs.Ytmpdenpopokigaa
open Go Go.RowKit

end Go.Proofs.Ytmpdenpopokigaa
namespace Go.Proofs.Ytmpdenpopokigaa
open Go Go.RowKit

theorem Made.out {base : Nat} {w w' : World} {xs : List UInt8} {e : Ending} (h : Made base w xs e w') : ∃ A n c, e = .returned (.slice A n c) ∧ Own 5 w' base A n c xs ∧ Below base w w' := h
section
variable {w : World} {a : En} {v0 v1 v2 v3 : Value}
end
end Go.Proofs.Ytmpdenpopokigaa
namespace Go.Proofs.Ytmpdenpopokigaa
open Go Go.RowKit

end Go.Proofs.Ytmpdenpopokigaa
namespace Go.Proofs.Ytmpdenpopokigaa
open Go Go.RowKit

def szL : List En → Nat
  | [] => 0
  | e :: t => wE e + szL t
end Go.Proofs.Ytmpdenpopokigaa
namespace Go.Proofs.Ytmpdenpopokigaa
open Go Go.RowKit

theorem RetT.out {w : World} {b : Bool} {e : Ending} {w' : World} (h : RetT w b e w') : e = .returned (.bool b) ∧ Below w.heap.size w w' := h
end Go.Proofs.Ytmpdenpopokigaa
namespace Go.Proofs.Ytmpdenpopokigaa
open Go Go.RowKit

/-- What the reference's Get answers: an entry's values as they lie in the list. -/
def RetGl (w : World) (o : Option En) (e : Ending) (w' : World) : Prop :=
  (o = none ∧ e = .returned (.tuple #[.agg #[.slice none 0 0, .int .u64 0, .int .u8 0, .slice none 0 0], .bool false]) ∧ Below w.heap.size w w') ∨
  ∃ x v0 v1 v2 v3, o = some x ∧ e = .returned (.tuple #[.agg #[v0, v1, v2, v3], .bool true]) ∧ EV w' x v0 v1 v2 v3 ∧ Below w.heap.size w w'
end Go.Proofs.Ytmpdenpopokigaa
namespace Go.Proofs.Ytmpdenpopokigaa
open Go Go.RowKit

/-- 'All memory that these values name lies in good blocks.' -/
def GV (G : Nat → Prop) (vs : List Value) : Prop := ∀ A m c g, Value.slice A m c ∈ vs → 0 < m → blk A = some g → G g
/-- 'The slice of n entries at A reads as these, and its memory lies in good blocks.' -/
def RG (G : Nat → Prop) (w : World) (A : Option Addr) (n : Nat) (es : List En) : Prop :=
  es.length = n ∧ ∃ vs, EVs w es vs ∧ RdV w A (n * 4) vs ∧ GV G vs ∧ (0 < n → ∀ g, blk A = some g → G g)
/-- 'What is good and was there stands.' -/
def FrG (G : Nat → Prop) (w w' : World) : Prop := w.heap.size ≤ w'.heap.size ∧ ∀ b, b < w.heap.size → G b → w'.heap[b]? = w.heap[b]?
section
variable {G H : Nat → Prop} {w w' w2 : World} {A : Option Addr} {n : Nat} {es gs : List En} {vs us : List Value}
theorem GV.app (h1 : GV G vs) (h2 : GV G us) : GV G (vs ++ us) := fun A m c g hv => by
  rcases List.mem_append.1 hv with h | h
  · exact h1 A m c g h
  · exact h2 A m c g h
theorem GV.nil : GV G [] := fun A m c g hv => by cases hv
theorem GV.sub (h : GV G vs) (hs : ∀ u ∈ us, u ∈ vs) : GV G us := fun A m c g hv => h A m c g (hs _ hv)
theorem GV.mono (h : GV G vs) (hs : ∀ g, G g → H g) : GV H vs := fun A m c g hv h0 hb => hs g (h A m c g hv h0 hb)
theorem RG.len (h : RG G w A n es) : es.length = n := h.1
theorem RG.nil (G : Nat → Prop) (w : World) (A : Option Addr) : RG G w A 0 [] := ⟨rfl, [], rfl, RdV.nil _ _, GV.nil, fun h => absurd h (by omega)⟩
theorem RG.below (h : RG G w A n es) (hb : Below w.heap.size w w') : RG G w' A n es := by
  obtain ⟨h1, vs, h2, h3, h4⟩ := h
  exact ⟨h1, vs, h2.below hb, h3.below hb, h4⟩
theorem FrG.refl (G : Nat → Prop) (w : World) : FrG G w w := ⟨Nat.le_refl _, fun _ _ _ => rfl⟩
theorem FrG.trans (h : FrG G w w') (k : FrG G w' w2) : FrG G w w2 := ⟨Nat.le_trans h.1 k.1, fun b hb hg => (k.2 b (Nat.lt_of_lt_of_le hb h.1) hg).trans (h.2 b hb hg)⟩
theorem FrG.of_below (h : Below w.heap.size w w') : FrG G w w' := ⟨h.size, fun b hb _ => h.block b hb⟩
theorem FrG.of_grown {row : Option Nat} (h : w.grownBy w' row) (hr : ∀ g, row = some g → ¬ G g) : FrG G w w' := by
  obtain ⟨_, _, _, h4, h5⟩ := h
  exact ⟨h4, fun b hb hg => h5 b hb (fun e => hr b e.symm hg)⟩
theorem cell_of_heap {p : Addr} (h : w'.heap[p.block]? = w.heap[p.block]?) : w'.cell? p = w.cell? p := by
  unfold World.cell?
  rw [h]
theorem rd_good {xs : List UInt8} (h : Rd w A n xs) (hg : 0 < n → ∀ g, blk A = some g → G g) (hf : FrG G w w') : Rd w' A n xs := by
  refine ⟨h.1, fun hn => ?_⟩
  obtain ⟨b, off, rfl, h2, h3⟩ := h.2 hn
  exact ⟨b, off, rfl, Nat.lt_of_lt_of_le h2 hf.1, fun i x hx => (cell_of_heap (p := ⟨b, off + i, none⟩) (hf.2 b h2 (hg hn b rfl))).trans (h3 i x hx)⟩
theorem rdv_good (h : RdV w A n vs) (hg : 0 < n → ∀ g, blk A = some g → G g) (hf : FrG G w w') : RdV w' A n vs := by
  refine ⟨h.1, fun hn => ?_⟩
  obtain ⟨b, off, rfl, h2, h3⟩ := h.2 hn
  exact ⟨b, off, rfl, Nat.lt_of_lt_of_le h2 hf.1, fun i x hx => (cell_of_heap (p := ⟨b, off + i, none⟩) (hf.2 b h2 (hg hn b rfl))).trans (h3 i x hx)⟩
theorem ev_good {e : En} {v0 v1 v2 v3 : Value} (h : EV w e v0 v1 v2 v3) (hg : GV G [v0, v1, v2, v3]) (hf : FrG G w w') : EV w' e v0 v1 v2 v3 := by
  obtain ⟨h1, h2, h3, h4, ⟨K, kn, kc, rfl, r0, c0, d0⟩, ⟨V, vn, vc, rfl, r3, c3, d3⟩⟩ := h
  exact ⟨h1, h2, h3, h4, ⟨K, kn, kc, rfl, rd_good r0 (fun h0 g hb => hg K kn kc g (by simp) h0 hb) hf, c0, d0⟩, ⟨V, vn, vc, rfl, rd_good r3 (fun h0 g hb => hg V vn vc g (by simp) h0 hb) hf, c3, d3⟩⟩
theorem evs_good (hf : FrG G w w') : ∀ {es : List En} {vs : List Value}, EVs w es vs → GV G vs → EVs w' es vs
  | [], _, h, _ => h
  | _ :: _, _, ⟨v0, v1, v2, v3, r, e, h1, h2⟩, hg => ⟨v0, v1, v2, v3, r, e, ev_good h1 (hg.sub (fun u hu => by rw [e]; simp only [List.mem_cons, List.not_mem_nil, or_false] at hu ⊢; rcases hu with h | h | h | h <;> simp [h])) hf, evs_good hf h2 (hg.sub (fun u hu => by rw [e]; simp [hu]))⟩
/-- Behind whatever leaves the good blocks. -/
theorem RG.good (h : RG G w A n es) (hf : FrG G w w') : RG G w' A n es := by
  obtain ⟨h1, vs, h2, h3, h4, h5⟩ := h
  exact ⟨h1, vs, evs_good hf h2 h4, rdv_good h3 (fun h0 => h5 (by omega)) hf, h4, h5⟩
theorem ev_mem {e : En} {v0 v1 v2 v3 : Value} (h : EV w e v0 v1 v2 v3) {B : Option Addr} {m c : Nat} (hv : Value.slice B m c ∈ [v0, v1, v2, v3]) (h0 : 0 < m) {g : Nat} (hb : blk B = some g) : g < w.heap.size := by
  obtain ⟨K, kn, kc, V, vn, vc, rfl, rfl, rfl, rfl, r0, r3, _⟩ := h.parts
  simp only [List.mem_cons, List.not_mem_nil, or_false] at hv
  rcases hv with e | e | e | e
  · injection e with e1 e2 e3
    subst e1 e2
    obtain ⟨b, off, rfl, hl⟩ := r0.pos h0
    injection hb with hb
    rw [← hb]; exact hl
  · cases e
  · cases e
  · injection e with e1 e2 e3
    subst e1 e2
    obtain ⟨b, off, rfl, hl⟩ := r3.pos h0
    injection hb with hb
    rw [← hb]; exact hl
theorem evs_lt : ∀ {es : List En} {vs : List Value}, EVs w es vs → GV (fun g => g < w.heap.size) vs
  | [], _, h => by rw [h]; exact GV.nil
  | _ :: _, _, ⟨v0, v1, v2, v3, r, e, h1, h2⟩ => by
    rw [e]
    exact GV.app (vs := [v0, v1, v2, v3]) (fun A m c g hv h0 hb => ev_mem h1 hv h0 hb) (evs_lt h2)
/-- What is read lies in blocks that are there. -/
theorem REs.lt (h : REs w A n es) : RG (fun g => g < w.heap.size) w A n es := by
  obtain ⟨h1, vs, h2, h3⟩ := h
  refine ⟨h1, vs, h2, h3, evs_lt h2, fun h0 g hb => ?_⟩
  obtain ⟨b, off, rfl, hl⟩ := h3.pos (by omega)
  injection hb with hb
  rw [← hb]; exact hl
theorem RG.mono (h : RG G w A n es) (hs : ∀ g, G g → H g) : RG H w A n es := by
  obtain ⟨h1, vs, h2, h3, h4, h5⟩ := h
  exact ⟨h1, vs, h2, h3, h4.mono hs, fun h0 g hb => hs g (h5 h0 g hb)⟩
theorem RG.at_ {b off : Nat} (h : RG G w (some ⟨b, off, none⟩) n es) (k : Nat) (hk : k < n) :
    ∃ e v0 v1 v2 v3, es[k]? = some e ∧ w.cell? ⟨b, off + k * 4, none⟩ = some v0 ∧ w.cell? ⟨b, off + k * 4 + 1, none⟩ = some v1 ∧
      w.cell? ⟨b, off + k * 4 + 2, none⟩ = some v2 ∧ w.cell? ⟨b, off + k * 4 + 3, none⟩ = some v3 ∧ EV w e v0 v1 v2 v3 ∧ GV G [v0, v1, v2, v3] := by
  obtain ⟨h1, vs, h2, h3, h4, _⟩ := h
  obtain ⟨b', off', e, hb, hc⟩ := h3.2 (by omega)
  injection e with e
  injection e with e1 e2
  subst e1 e2
  obtain ⟨x, hx⟩ : ∃ x, es[k]? = some x := ⟨_, List.getElem?_eq_getElem (by omega)⟩
  obtain ⟨v0, v1, v2, v3, e0, e1, e2, e3, g0⟩ := h2.at_ k hx
  refine ⟨x, v0, v1, v2, v3, hx, hc _ _ e0, ?_, ?_, ?_, g0, h4.sub (fun u hu => ?_)⟩
  · rw [Nat.add_assoc]; exact hc _ _ e1
  · rw [Nat.add_assoc]; exact hc _ _ e2
  · rw [Nat.add_assoc]; exact hc _ _ e3
  · simp only [List.mem_cons, List.not_mem_nil, or_false] at hu
    rcases hu with rfl | rfl | rfl | rfl
    · exact List.mem_of_getElem? e0
    · exact List.mem_of_getElem? e1
    · exact List.mem_of_getElem? e2
    · exact List.mem_of_getElem? e3
end
def RetPA (G : Nat → Prop) (w : World) (z : Int × List En) (e : Ending) (w' : World) : Prop :=
  ∃ L k d, e = .returned (.tuple #[.slice L k d, .int .i64 z.1]) ∧ RG G w' L k z.2 ∧ k ≤ d ∧ Below w.heap.size w w'
theorem RetPA.out {G : Nat → Prop} {w : World} {z : Int × List En} {e : Ending} {w' : World} (h : RetPA G w z e w') : ∃ L k d, e = .returned (.tuple #[.slice L k d, .int .i64 z.1]) ∧ RG G w' L k z.2 ∧ k ≤ d ∧ Below w.heap.size w w' := h
end Go.Proofs.Ytmpdenpopokigaa
namespace Go.Proofs.Ytmpdenpopokigaa
open Go Go.RowKit

/-- Blocks of other kinds are other blocks. -/
theorem row_ne {t1 t2 : TypeId} {s1 s2 : Nat} {w : World} {b1 b2 n c m d : Nat} {L A : Option Addr} {i j : Nat} {vs us : List Value} (h : w.ownsRow b1 t1 s1 (.slice L n c) i vs) (k : w.ownsRow b2 t2 s2 (.slice A m d) j us) (hne : t1 ≠ t2) : Dj L A := fun b e1 e2 => by
  rcases h.2 with ⟨h1, _⟩ | ⟨g, cap, cur, h1, _, hg, _⟩
  · injection h1 with h1
    rw [h1] at e1; cases e1
  · injection h1 with h1
    rw [h1] at e1
    injection e1 with e1
    rcases k.2 with ⟨k1, _⟩ | ⟨g2, cap2, cur2, k1, _, kg, _⟩
    · injection k1 with k1
      rw [k1] at e2; cases e2
    · injection k1 with k1
      rw [k1] at e2
      injection e2 with e2
      simp only at e1 e2
      subst e1 e2
      rw [hg] at kg
      injection kg with kg
      injection kg with _ kg
      exact hne kg
theorem ownV_ne {t : TypeId} {w : World} {b1 b2 n c m d : Nat} {L A : Option Addr} {vs : List Value} {xs : List UInt8} (h : OwnV t w b1 L n c vs) (k : Own 5 w b2 A m d xs) (hne : t ≠ 5) : Dj L A := row_ne h k hne
theorem cl_row {ty t : TypeId} {s : Nat} {w : World} {p b2 m d j : Nat} {A : Option Addr} {us : Array Value} {vs : List Value} (h : Cl w p us ty) (k : w.ownsRow b2 t s (.slice A m d) j vs) (hne : ty ≠ t) : blk A ≠ some p := fun e2 => by
  rcases k.2 with ⟨k1, _⟩ | ⟨g2, cap2, cur2, k1, _, kg, _⟩
  · injection k1 with k1
    rw [k1] at e2; cases e2
  · injection k1 with k1
    rw [k1] at e2
    injection e2 with e2
    simp only at e2
    subst e2
    unfold Cl at h
    rw [h] at kg
    injection kg with kg
    injection kg with _ kg
    exact hne kg
theorem Cl.grown {w w' : World} {p : Nat} {us : Array Value} {ty : TypeId} {row : Option Nat} (h : Cl w p us ty) (hg : w.grownBy w' row) (hne : row ≠ some p) : Cl w' p us ty := by
  obtain ⟨_, _, _, h4, h5⟩ := hg
  exact (h5 p h.lt (fun e => hne e.symm)).trans h
theorem ownV_box2 (w : World) (t : TypeId) (base : Nat) (vs : List Value) (n : Nat) (hl : vs.length = n) (hn : n ≤ 1024) (hb : base ≤ w.heap.size) (cs : Array Value) (hc : cs = vs.toArray) : OwnV t (w.alloc (.cells cs t)) base (some ⟨w.heap.size, 0, none⟩) n n vs := by
  subst hc
  refine ⟨by simp [hl], .inr ⟨w.heap.size, n, vs.toArray, rfl, hb, heap_alloc_new w _, Nat.le_refl _, by unfold maxLen; omega, by simp [hl], ?_⟩⟩
  simp only [Nat.mul_one]
  exact List.take_of_length_le (by simp [hl])
section
variable {w w' : World} {base : Nat} {ps qs : List VB}
theorem Fam.off_row (h : Fam w base ps) {t : TypeId} {b1 n c : Nat} {L : Option Addr} {vs : List Value} (hl : OwnV t w b1 L n c vs) (hne : t ≠ 5) : ∀ b, blk L = some b → OffF ps b := fun b hb q hq e => by
  obtain ⟨A, m, d, e1, ho⟩ := h.1 q hq
  rw [e1, own_blk] at e
  exact ownV_ne hl ho hne b hb e
theorem Fam.app {base' : Nat} (h : Fam w base ps) (hn : Fam w' base' qs) (hb : Below w.heap.size w w') (h1 : w.heap.size ≤ base') (h2 : base ≤ base') : Fam w' base (ps ++ qs) := by
  have h0 : Fam w base (ps ++ []) := by rw [List.append_nil]; exact h
  have := Fam.ins h0 hn hb h1 h2
  rw [List.append_nil] at this
  exact this
theorem OffF.app {p : Nat} (h : OffF ps p) (k : OffF qs p) : OffF (ps ++ qs) p := fun q hq => by
  rcases List.mem_append.1 hq with h1 | h1
  · exact h q h1
  · exact k q h1
end
theorem ownE_kept {w w' : World} {base n c : Nat} {A : Option Addr} {vs : List Value} {row : Option Nat} (h : OwnE w base A n c vs) (hg : w.grownBy w' row) (hne : ∀ b, blk A = some b → row ≠ some b) : OwnE w' base A n c vs := by
  refine World.ownsRow.kept h hg ?_
  rw [own_blk]
  cases hb : blk A with
  | none => exact .inl rfl
  | some b => exact .inr (fun e => hne b hb e.symm)
end Go.Proofs.Ytmpdenpopokigaa
namespace Go.Proofs.Ytmpdenpopokigaa
open Go Go.RowKit

end Go.Proofs.Ytmpdenpopokigaa
namespace Go.Proofs.Ytmpdenpopokigaa
open Go Go.RowKit

section
variable {w : World} {a : En} {v0 v1 v2 v3 : Value}
end
end Go.Proofs.Ytmpdenpopokigaa
namespace Go.Proofs.Ytmpdenpopokigaa
open Go Go.RowKit

def Tr.sz (t : Tr) : Nat := szL t.list
section
variable {w : World} {p : Nat} {a b c : Value} {d : Array Value} {ty : TypeId}
end
end Go.Proofs.Ytmpdenpopokigaa
namespace Go.Proofs.Ytmpdenpopokigaa
open Go Go.RowKit

/-- What a list that is picked out of another comes to. -/
def RetPick (w : World) (es : List En) (us : List Value) (e : Ending) (w' : World) : Prop :=
  ∃ L k d vs, e = .returned (.slice L k d) ∧ OwnE w' w.heap.size L k d vs ∧ EVs w' es vs ∧ es.length = k ∧ Below w.heap.size w w' ∧ ∀ u ∈ vs, u ∈ us
theorem RetPick.out {w : World} {es : List En} {us : List Value} {e : Ending} {w' : World} (h : RetPick w es us e w') : ∃ L k d vs, e = .returned (.slice L k d) ∧ OwnE w' w.heap.size L k d vs ∧ EVs w' es vs ∧ es.length = k ∧ Below w.heap.size w w' ∧ ∀ u ∈ vs, u ∈ us := h
/-- 'So far picked.' -/
def Pck (w : World) (us : List Value) (es : List En) (L : Option Addr) (k d : Nat) (wr : World) : Prop :=
  ∃ vs, OwnE wr w.heap.size L k d vs ∧ EVs w es vs ∧ es.length = k ∧ Below w.heap.size w wr ∧ ∀ u ∈ vs, u ∈ us
theorem Pck.zero (w : World) (us : List Value) : Pck w us [] none 0 0 w := ⟨[], OwnE.nil _ _, rfl, rfl, Below.refl _ _, fun u hu => by cases hu⟩
theorem Pck.below {w wr w' : World} {us : List Value} {es : List En} {L : Option Addr} {k d : Nat} (h : Pck w us es L k d wr) (hb : Below wr.heap.size wr w') : Pck w us es L k d w' := by
  obtain ⟨vs, h1, h2, h3, h4, h5⟩ := h
  exact ⟨vs, h1.below hb, h2, h3, belowT' h4 hb, h5⟩
theorem Pck.bel {w wr : World} {us : List Value} {es : List En} {L : Option Addr} {k d : Nat} (h : Pck w us es L k d wr) : Below w.heap.size w wr := by
  obtain ⟨vs, h1, h2, h3, h4, h5⟩ := h
  exact h4
theorem Pck.len {w wr : World} {us : List Value} {es : List En} {L : Option Addr} {k d : Nat} (h : Pck w us es L k d wr) : es.length = k := by
  obtain ⟨vs, h1, h2, h3, h4, h5⟩ := h
  exact h3
theorem Pck.ret {w wr : World} {us : List Value} {es : List En} {L : Option Addr} {k d : Nat} (h : Pck w us es L k d wr) : RetPick w es us (.returned (.slice L k d)) wr := by
  obtain ⟨vs, h1, h2, h3, h4, h5⟩ := h
  exact ⟨L, k, d, vs, rfl, h1, h2.below h4, h3, h4, h5⟩
theorem Pck.snoc {w w4 : World} {us vs : List Value} {es : List En} {L' : Option Addr} {k d' : Nat} {x : En} {v0 v1 v2 v3 : Value} (h2 : EVs w es vs) (h3 : es.length = k) (h5 : ∀ u ∈ vs, u ∈ us)
    (hx : EV w x v0 v1 v2 v3) (hm : ∀ u ∈ [v0, v1, v2, v3], u ∈ us) (o4 : OwnE w4 w.heap.size L' (k + 1) d' (vs ++ [v0, v1, v2, v3])) (b4 : Below w.heap.size w w4) : Pck w us (es ++ [x]) L' (k + 1) d' w4 :=
  ⟨vs ++ [v0, v1, v2, v3], o4, h2.app (EVs.one hx), by simp [h3], b4, fun u hu => by
    rcases List.mem_append.1 hu with h | h
    · exact h5 u h
    · exact hm u h⟩
end Go.Proofs.Ytmpdenpopokigaa
namespace Go.Proofs.Ytmpdenpopokigaa
open Go Go.RowKit

/-- What a table's Get hands back: nothing, or a copy. -/
def RetGt (w : World) (o : Option En) (e : Ending) (w' : World) : Prop :=
  (o = none ∧ e = .returned (.tuple #[.agg #[.slice none 0 0, .int .u64 0, .int .u8 0, .slice none 0 0], .bool false]) ∧ Below w.heap.size w w') ∨
  ∃ x K kn kc V vn vc, o = some x ∧ e = .returned (.tuple #[.agg #[.slice K kn kc, .int .u64 (x.seq : Int), .int .u8 (x.kind : Int), .slice V vn vc], .bool true]) ∧ Own 5 w' w.heap.size K kn kc x.key ∧ Own 5 w' w.heap.size V vn vc x.val ∧ Below w.heap.size w w' ∧ Dj K V
def zeE2 : En := ⟨[], 0, 0, []⟩
/-- What Get hands back, in one form. -/
theorem RetGt.both {w : World} {o : Option En} {e : Ending} {w' : World} (h : RetGt w o e w') (hw : ∀ x, o = some x → U64 x.seq ∧ x.kind < 256) : ∃ K kn kc V vn vc, e = .returned (.tuple #[.agg #[.slice K kn kc, .int .u64 ((o.getD zeE2).seq : Int), .int .u8 ((o.getD zeE2).kind : Int), .slice V vn vc], .bool o.isSome]) ∧
    EO w.heap.size w' (o.getD zeE2) (.slice K kn kc) (.int .u64 ((o.getD zeE2).seq : Int)) (.int .u8 ((o.getD zeE2).kind : Int)) (.slice V vn vc) ∧ Dj K V ∧ Below w.heap.size w w' := by
  rcases h with ⟨rfl, rfl, h⟩ | ⟨x, K, kn, kc, V, vn, vc, rfl, rfl, o1, o2, h, dj⟩
  · exact ⟨none, 0, 0, none, 0, 0, rfl, ⟨none, 0, 0, none, 0, 0, rfl, rfl, rfl, rfl, Own.nil _ _ _, Own.nil _ _ _, by unfold U64; simp [zeE2], by simp [zeE2]⟩, (fun b h => by cases h), h⟩
  · exact ⟨K, kn, kc, V, vn, vc, rfl, ⟨K, kn, kc, V, vn, vc, rfl, rfl, rfl, rfl, o1, o2, hw x rfl⟩, dj, h⟩
theorem RetGl.both {w : World} {o : Option En} {e : Ending} {w' : World} (h : RetGl w o e w') : ∃ v0 v1 v2 v3, e = .returned (.tuple #[.agg #[v0, v1, v2, v3], .bool o.isSome]) ∧ EV w' (o.getD zeE2) v0 v1 v2 v3 ∧ Below w.heap.size w w' := by
  rcases h with ⟨rfl, rfl, h⟩ | ⟨x, v0, v1, v2, v3, rfl, rfl, h1, h2⟩
  · exact ⟨_, _, _, _, rfl, ⟨rfl, rfl, by unfold U64; simp [zeE2], by simp [zeE2], ⟨none, 0, 0, rfl, Rd.nil _ _, Nat.le_refl _, fun _ => rfl⟩, ⟨none, 0, 0, rfl, Rd.nil _ _, Nat.le_refl _, fun _ => rfl⟩⟩, h⟩
  · exact ⟨_, _, _, _, rfl, h1, h2⟩
/-- 'A copy of these bytes.' -/
def Ow (w : World) (C : Option Addr) (cn cc : Nat) (xs : List UInt8) : Prop := ∃ b, Own 5 w b C cn cc xs
theorem Ow.mk {w : World} {b : Nat} {C : Option Addr} {cn cc : Nat} {xs : List UInt8} (h : Own 5 w b C cn cc xs) : Ow w C cn cc xs := ⟨b, h⟩
theorem Ow.below {w w' : World} {C : Option Addr} {cn cc : Nat} {xs : List UInt8} (h : Ow w C cn cc xs) (hb : Below w.heap.size w w') : Ow w' C cn cc xs := by
  obtain ⟨b, h⟩ := h
  exact ⟨b, h.below hb⟩
theorem EO.set2 {w : World} {base g : Nat} {e : En} {v0 v1 v2 v3 : Value} (h : EO base w e v0 v1 v2 v3) (hg : g < base) (i : Nat) (v : Value) : EO base (w.setCell ⟨g, i, none⟩ v) e v0 v1 v2 v3 := by
  obtain ⟨K, kn, kc, V, vn, vc, h1, h2, h3, h4, o1, o2, u⟩ := h
  exact ⟨K, kn, kc, V, vn, vc, h1, h2, h3, h4, o1.set hg i v, o2.set hg i v, u⟩
/-- The box of an answer, filled. -/
def Bx (W1 : World) (y : En) (z : Bool) (s16 s17 : Value) (wx : World) : Prop :=
  ∃ (g base : Nat) (C : Option Addr) (cn cc : Nat) (D : Option Addr) (dn dc : Nat), s16 = .pointer (some ⟨g, 0, none⟩) ∧ s17 = .bool z ∧ Below W1.heap.size W1 wx ∧ Cl wx g #[.slice C cn cc, .int .u64 (y.seq : Int), .int .u8 (y.kind : Int), .slice D dn dc] 38 ∧ EO base wx y (.slice C cn cc) (.int .u64 (y.seq : Int)) (.int .u8 (y.kind : Int)) (.slice D dn dc) ∧ Dj C D ∧ W1.heap.size ≤ base
theorem Bx.put {W1 w5 X : World} {y : En} {z : Bool} {g base cn cc dn dc : Nat} {C D : Option Addr} {q : Array Value} (hb : Below W1.heap.size W1 w5) (hz : Cl w5 g q 38) (hq : q.size = 4) (hg : W1.heap.size ≤ g) (hgb : g < base) (he : EO base w5 y (.slice C cn cc) (.int .u64 (y.seq : Int)) (.int .u8 (y.kind : Int)) (.slice D dn dc)) (dj : Dj C D)
    (hX : X = ((((w5.setCell ⟨g, 0, none⟩ (.slice C cn cc)).setCell ⟨g, 1, none⟩ (.int .u64 (y.seq : Int))).setCell ⟨g, 2, none⟩ (.int .u8 (y.kind : Int))).setCell ⟨g, 3, none⟩ (.slice D dn dc))) : Bx W1 y z (.pointer (some ⟨g, 0, none⟩)) (.bool z) X := by
  subst hX
  exact ⟨g, base, C, cn, cc, D, dn, dc, rfl, rfl, below_set (below_set (below_set (below_set hb 0 _ hg) 1 _ hg) 2 _ hg) 3 _ hg, hz.put4 hq _ _ _ _, (((he.set2 hgb 0 _).set2 hgb 1 _).set2 hgb 2 _).set2 hgb 3 _, dj, by omega⟩
theorem Bx.new {W1 w5 : World} {y : En} {z : Bool} {base cn cc dn dc : Nat} {C D : Option Addr} (hb : Below W1.heap.size W1 w5) (hgb : W1.heap.size ≤ base) (he : EO base w5 y (.slice C cn cc) (.int .u64 (y.seq : Int)) (.int .u8 (y.kind : Int)) (.slice D dn dc)) (dj : Dj C D) :
    Bx W1 y z (.pointer (some ⟨w5.heap.size, 0, none⟩)) (.bool z) (w5.alloc (.cells #[.slice C cn cc, .int .u64 (y.seq : Int), .int .u8 (y.kind : Int), .slice D dn dc] 38)) :=
  ⟨_, base, C, cn, cc, D, dn, dc, rfl, rfl, hb.alloc hb.size _, Cl.new _ _ _, he.below ((Below.refl _ _).alloc (Nat.le_refl _) _), dj, hgb⟩
def RetRs (w : World) (es : List En) (e : Ending) (w' : World) : Prop := ∃ L k d, e = .returned (.slice L k d) ∧ REs w' L k es ∧ Below w.heap.size w w'
theorem RetRs.out {w : World} {es : List En} {e : Ending} {w' : World} (h : RetRs w es e w') : ∃ L k d, e = .returned (.slice L k d) ∧ REs w' L k es ∧ Below w.heap.size w w' := h
end Go.Proofs.Ytmpdenpopokigaa
namespace Go.Proofs.Ytmpdenpopokigaa
open Go Go.RowKit

/-- A range as plain data. -/
structure Rg where
  lo : List UInt8
  hi : List UInt8
  ex : Bool
deriving DecidableEq
/-- 'These three values are the range r.' -/
def GrV (w : World) (r : Rg) (v0 v1 v2 : Value) : Prop := v2 = .bool r.ex ∧ ElB w v0 r.lo ∧ ElB w v1 r.hi
def GrVs (w : World) : List Rg → List Value → Prop
  | [], vs => vs = []
  | r :: rs, vs => ∃ v0 v1 v2 t, vs = v0 :: v1 :: v2 :: t ∧ GrV w r v0 v1 v2 ∧ GrVs w rs t
/-- 'The slice of n ranges at A reads as these.' -/
def RGr (w : World) (A : Option Addr) (n : Nat) (rs : List Rg) : Prop := rs.length = n ∧ ∃ vs, GrVs w rs vs ∧ RdV w A (n * 3) vs
section
variable {w w' : World}
theorem GrV.below {r : Rg} {v0 v1 v2 : Value} (h : GrV w r v0 v1 v2) (hb : Below w.heap.size w w') : GrV w' r v0 v1 v2 := ⟨h.1, h.2.1.below hb, h.2.2.below hb⟩
theorem GrV.parts {r : Rg} {v0 v1 v2 : Value} (h : GrV w r v0 v1 v2) : ∃ K kn kc T tn tc, v0 = .slice K kn kc ∧ v1 = .slice T tn tc ∧ v2 = .bool r.ex ∧ Rd w K kn r.lo ∧ Rd w T tn r.hi ∧ kn ≤ kc ∧ tn ≤ tc ∧ (K = none → kc = 0) ∧ (T = none → tc = 0) := by
  obtain ⟨h1, ⟨K, kn, kc, e1, r1, c1, d1⟩, T, tn, tc, e2, r2, c2, d2⟩ := h
  exact ⟨K, kn, kc, T, tn, tc, e1, e2, h1, r1, r2, c1, c2, d1, d2⟩
theorem GrV.cells {r : Rg} {v0 v1 v2 : Value} (h : GrV w r v0 v1 v2) : ∀ u ∈ [v0, v1, v2], u.oneCell' = true := by
  obtain ⟨K, kn, kc, T, tn, tc, rfl, rfl, rfl, _⟩ := h.parts
  intro u hu
  simp only [List.mem_cons, List.not_mem_nil, or_false] at hu
  rcases hu with rfl | rfl | rfl <;> rfl
theorem GrVs.below (hb : Below w.heap.size w w') : ∀ {rs : List Rg} {vs : List Value}, GrVs w rs vs → GrVs w' rs vs
  | [], _, h => h
  | _ :: _, _, ⟨v0, v1, v2, t, e, h1, h2⟩ => ⟨v0, v1, v2, t, e, h1.below hb, GrVs.below hb h2⟩
theorem GrVs.app : ∀ {rs gs : List Rg} {vs us : List Value}, GrVs w rs vs → GrVs w gs us → GrVs w (rs ++ gs) (vs ++ us)
  | [], _, _, _, h, h2 => by rw [h]; exact h2
  | _ :: _, _, _, _, ⟨v0, v1, v2, t, e, h1, h2⟩, h3 => ⟨v0, v1, v2, _, by rw [e]; rfl, h1, GrVs.app h2 h3⟩
theorem GrVs.one {r : Rg} {v0 v1 v2 : Value} (h : GrV w r v0 v1 v2) : GrVs w [r] [v0, v1, v2] := ⟨v0, v1, v2, [], rfl, h, rfl⟩
theorem GrVs.at_ : ∀ {rs : List Rg} {vs : List Value} (i : Nat) {r : Rg}, GrVs w rs vs → rs[i]? = some r → ∃ v0 v1 v2, vs[i * 3]? = some v0 ∧ vs[i * 3 + 1]? = some v1 ∧ vs[i * 3 + 2]? = some v2 ∧ GrV w r v0 v1 v2
  | [], _, i, r, _, h => by simp at h
  | g :: _, _, 0, r, ⟨v0, v1, v2, t, q, h1, h2⟩, h => by
    simp only [List.getElem?_cons_zero, Option.some.injEq] at h
    subst h q
    exact ⟨v0, v1, v2, rfl, rfl, rfl, h1⟩
  | _ :: _, _, i + 1, r, ⟨v0, v1, v2, t, q, h1, h2⟩, h => by
    rw [List.getElem?_cons_succ] at h
    obtain ⟨a, b, c, e0, e1, e2, e4⟩ := GrVs.at_ i h2 h
    subst q
    refine ⟨a, b, c, ?_, ?_, ?_, e4⟩
    · rw [show (i + 1) * 3 = i * 3 + 3 by omega]; exact e0
    · rw [show (i + 1) * 3 + 1 = i * 3 + 1 + 3 by omega]; exact e1
    · rw [show (i + 1) * 3 + 2 = i * 3 + 2 + 3 by omega]; exact e2
theorem GrVs.cells : ∀ {rs : List Rg} {vs : List Value}, GrVs w rs vs → ∀ u ∈ vs, u.oneCell' = true
  | [], _, h, u, hu => by rw [h] at hu; cases hu
  | _ :: _, _, ⟨v0, v1, v2, t, e, h1, h2⟩, u, hu => by
    subst e
    have hc := h1.cells
    simp only [List.mem_cons] at hu
    rcases hu with rfl | rfl | rfl | hu
    · exact hc _ (by simp)
    · exact hc _ (by simp)
    · exact hc _ (by simp)
    · exact GrVs.cells h2 u hu
theorem RGr.below {A : Option Addr} {n : Nat} {rs : List Rg} (h : RGr w A n rs) (hb : Below w.heap.size w w') : RGr w' A n rs := by
  obtain ⟨h1, vs, h2, h3⟩ := h
  exact ⟨h1, vs, h2.below hb, h3.below hb⟩
theorem RGr.nil (w : World) (A : Option Addr) : RGr w A 0 [] := ⟨rfl, [], rfl, RdV.nil _ _⟩
theorem RGr.len {A : Option Addr} {n : Nat} {rs : List Rg} (h : RGr w A n rs) : rs.length = n := h.1
theorem RGr.mk {A : Option Addr} {n : Nat} {rs : List Rg} {vs : List Value} (h : GrVs w rs vs) (hr : RdV w A (n * 3) vs) (hn : rs.length = n) : RGr w A n rs := ⟨hn, vs, h, hr⟩
theorem RGr.pos {A : Option Addr} {n : Nat} {rs : List Rg} (h : RGr w A n rs) (hn : 0 < n) : ∃ b off, A = some ⟨b, off, none⟩ ∧ b < w.heap.size := by
  obtain ⟨h1, vs, h2, h3⟩ := h
  exact h3.pos (by omega)
/-- A range's cells. -/
theorem RGr.at_ {b off n : Nat} {rs : List Rg} (h : RGr w (some ⟨b, off, none⟩) n rs) (k : Nat) (hk : k < n) :
    ∃ r v0 v1 v2, rs[k]? = some r ∧ w.cell? ⟨b, off + k * 3, none⟩ = some v0 ∧ w.cell? ⟨b, off + k * 3 + 1, none⟩ = some v1 ∧ w.cell? ⟨b, off + k * 3 + 2, none⟩ = some v2 ∧ GrV w r v0 v1 v2 := by
  obtain ⟨h1, vs, h2, h3⟩ := h
  obtain ⟨b', off', e, hb, hc⟩ := h3.2 (by omega)
  injection e with e
  injection e with e1 e2
  subst e1 e2
  obtain ⟨x, hx⟩ : ∃ x, rs[k]? = some x := ⟨_, List.getElem?_eq_getElem (by omega)⟩
  obtain ⟨v0, v1, v2, e0, e1, e2, g0⟩ := h2.at_ k hx
  refine ⟨x, v0, v1, v2, hx, hc _ _ e0, ?_, ?_, g0⟩
  · rw [Nat.add_assoc]; exact hc _ _ e1
  · rw [Nat.add_assoc]; exact hc _ _ e2
end

/-- Is a key below a range's end? -/
def belB (key hi : List UInt8) : Bool := decide (hi.length = 0) || decide (cmpB key hi < 0)
def emptyR (r : Rg) : Bool := !belB r.lo r.hi
def longR (r : Rg) : Bool := decide (1024 < r.lo.length) || decide (1024 < r.hi.length)
def clash1 (a b : Rg) : Bool := (a.ex || b.ex) && belB a.lo b.hi && belB b.lo a.hi
def clashR (ps qs : List Rg) : Bool := ps.any fun a => qs.any fun b => clash1 a b
/-- The error of ranges that are asked for. -/
def checkR (rs : List Rg) : Int := if 64 < rs.length ∨ rs.any longR = true then 2 else if rs.any emptyR = true then 3 else 0
section
variable {w : World}
set_option maxRecDepth 100000 in
set_option maxHeartbeats 4000000 in
theorem below_any {K T : Option Addr} {kn kc tn tc : Nat} {xs ys : List UInt8} (hx : Rd w K kn xs) (hy : Rd w T tn ys) : Calls Try.prog 182 #[.slice K kn kc, .slice T tn tc] w (fun e w' => e = .returned (.bool (belB xs ys)) ∧ w = w') := by
  obtain ⟨z, hz⟩ : ∃ z, cmpB xs ys = z := ⟨_, rfl⟩
  have HC := Lib.hid (Cmp_is K T kn tn kc tc xs ys z hz w hx hy)
  have hl := hy.len
  by_cases h0 : tn = 0
  · have HF : Hid (belB xs ys = true) := Lib.hid (by unfold belB; simp [hl, h0])
    subst h0
    clear hx hy hz hl
    go_enter Try.func182, Try.ntmps182
    go_wp2_with fail
    go_ret
    exact ⟨by rw [HF.out]; rfl, rfl⟩
  · have t0 : ((tn : Int) == 0) = false := by rw [beq_eq_false_iff_ne]; omega
    by_cases h1 : z < 0
    · have t1 : decide (z < 0) = true := by simpa using h1
      have HF : Hid (belB xs ys = true) := Lib.hid (by unfold belB; rw [hz]; simp [h1])
      clear hx hy hz hl
      go_enter Try.func182, Try.ntmps182
      go_wp2_with fail
      with_reducible refine HC.out.mono ?_
      rintro e w1 ⟨rfl, rfl⟩
      go_wp2_with fail
      go_ret
      exact ⟨by rw [HF.out]; rfl, rfl⟩
    · have t1 : decide (z < 0) = false := by simpa using h1
      have HF : Hid (belB xs ys = false) := Lib.hid (by unfold belB; rw [hz]; simp [h1, hl, h0])
      clear hx hy hz hl
      go_enter Try.func182, Try.ntmps182
      go_wp2_with fail
      with_reducible refine HC.out.mono ?_
      rintro e w1 ⟨rfl, rfl⟩
      go_wp2_with fail
      go_ret
      exact ⟨by rw [HF.out]; rfl, rfl⟩
set_option maxRecDepth 100000 in
set_option maxHeartbeats 4000000 in
theorem empty_any {r : Rg} {v0 v1 v2 : Value} (h : GrV w r v0 v1 v2) : Calls Try.prog 146 #[.agg #[v0, v1, v2]] w (RetT w (emptyR r)) := by
  obtain ⟨K, kn, kc, T, tn, tc, rfl, rfl, rfl, r1, r2, _⟩ := h.parts
  obtain ⟨W, hW⟩ : ∃ W, W = w.alloc (.cells #[.slice K kn kc, .slice T tn tc, .bool r.ex] 97) := ⟨_, rfl⟩
  have bW : Below w.heap.size w W := by rw [hW]; exact (Below.refl _ _).alloc (Nat.le_refl _) _
  have zW : Cl W w.heap.size #[.slice K kn kc, .slice T tn tc, .bool r.ex] 97 := by rw [hW]; exact Cl.new _ _ _
  obtain ⟨c0, c1, c2, _⟩ := zW.c3
  obtain ⟨b, hb⟩ : ∃ b, b = belB r.lo r.hi := ⟨_, rfl⟩
  have HBL : Hid (Calls Try.prog 182 #[.slice K kn kc, .slice T tn tc] W (fun e w' => e = .returned (.bool b) ∧ W = w')) := Lib.hid (by rw [hb]; exact below_any (r1.below bW) (r2.below bW))
  have HB := Lib.hid bW
  have HW := Lib.hid hW
  have HE : Hid (emptyR r = !b) := Lib.hid (by rw [hb]; rfl)
  clear h r1 r2 bW zW hW hb
  go_enter Try.func146, Try.ntmps146
  go_upto_region 1 with (fail)
  rw [← HW.out]
  go_wp2_with fail
  with_reducible refine HBL.out.mono ?_
  rintro e w1 ⟨rfl, rfl⟩
  cases b <;>
  · go_wp2_with fail
    go_ret
    exact ⟨by rw [HE.out]; rfl, HB.out⟩
set_option maxRecDepth 100000 in
set_option maxHeartbeats 4000000 in
theorem long_any {r : Rg} {v0 v1 v2 : Value} (h : GrV w r v0 v1 v2) : Calls Try.prog 144 #[.agg #[v0, v1, v2]] w (RetT w (longR r)) := by
  obtain ⟨K, kn, kc, T, tn, tc, rfl, rfl, rfl, r1, r2, _⟩ := h.parts
  obtain ⟨W, hW⟩ : ∃ W, W = w.alloc (.cells #[.slice K kn kc, .slice T tn tc, .bool r.ex] 97) := ⟨_, rfl⟩
  have bW : Below w.heap.size w W := by rw [hW]; exact (Below.refl _ _).alloc (Nat.le_refl _) _
  have zW : Cl W w.heap.size #[.slice K kn kc, .slice T tn tc, .bool r.ex] 97 := by rw [hW]; exact Cl.new _ _ _
  obtain ⟨c0, c1, c2, _⟩ := zW.c3
  have HB := Lib.hid bW
  have HW := Lib.hid hW
  have hl1 := r1.len
  have hl2 := r2.len
  by_cases h1 : 1024 < kn
  · have t1 : decide ((1024 : Int) < (kn : Int)) = true := by simp; omega
    have HE : Hid (longR r = true) := Lib.hid (by unfold longR; simp; omega)
    clear h r1 r2 bW zW hW hl1 hl2 h1
    go_enter Try.func144, Try.ntmps144
    go_upto_region 1 with (fail)
    rw [← HW.out]
    go_wp2_with fail
    go_ret
    exact ⟨by rw [HE.out]; rfl, HB.out⟩
  · have t1 : decide ((1024 : Int) < (kn : Int)) = false := by simp; omega
    by_cases h2 : 1024 < tn
    · have t2 : decide ((1024 : Int) < (tn : Int)) = true := by simp; omega
      have HE : Hid (longR r = true) := Lib.hid (by unfold longR; simp; omega)
      clear h r1 r2 bW zW hW hl1 hl2 h1 h2
      go_enter Try.func144, Try.ntmps144
      go_upto_region 1 with (fail)
      rw [← HW.out]
      go_wp2_with fail
      go_ret
      exact ⟨by rw [HE.out]; rfl, HB.out⟩
    · have t2 : decide ((1024 : Int) < (tn : Int)) = false := by simp; omega
      have HE : Hid (longR r = false) := Lib.hid (by unfold longR; simp; omega)
      clear h r1 r2 bW zW hW hl1 hl2 h1 h2
      go_enter Try.func144, Try.ntmps144
      go_upto_region 1 with (fail)
      rw [← HW.out]
      go_wp2_with fail
      go_ret
      exact ⟨by rw [HE.out]; rfl, HB.out⟩
end
end Go.Proofs.Ytmpdenpopokigaa
namespace Go.Proofs.Ytmpdenpopokigaa
open Go Go.RowKit

end Go.Proofs.Ytmpdenpopokigaa
namespace Go.Proofs.Ytmpdenpopokigaa
open Go Go.RowKit

section
variable {w : World} {A : Option Addr} {n c : Nat} {es : List En}
end
end Go.Proofs.Ytmpdenpopokigaa
namespace Go.Proofs.Ytmpdenpopokigaa
open Go Go.RowKit

/-- Rows of other kinds lie in other blocks than an entry's bytes. -/
theorem eos_off {base : Nat} {w : World} {t : TypeId} {s b1 n c j : Nat} {L : Option Addr} {us : List Value} (k : w.ownsRow b1 t s (.slice L n c) j us) (hne : t ≠ 5) : ∀ {es : List En} {vs : List Value}, EOs base w es vs → OffW vs (blk L)
  | [], _, h => by rw [show _ = [] from h]; exact OffW.nil _
  | e :: es, vs, h => fun g hg A m d hv => by
    obtain ⟨v0, v1, v2, v3, r, rfl, ⟨K, kn, kc, V, vn, vc, rfl, rfl, rfl, rfl, o1, o2, _⟩, h2⟩ := h
    have ih := eos_off k hne h2 g hg A m d
    simp only [List.mem_cons] at hv
    rcases hv with e | e | e | e | e
    · injection e with e1 e2 e3
      rw [e1]
      exact fun h => row_ne k o1 hne g hg h
    · cases e
    · cases e
    · injection e with e1 e2 e3
      rw [e1]
      exact fun h => row_ne k o2 hne g hg h
    · exact ih e
end Go.Proofs.Ytmpdenpopokigaa
namespace Go.Proofs.Ytmpdenpopokigaa
open Go Go.RowKit

end Go.Proofs.Ytmpdenpopokigaa
namespace Go.Proofs.Ytmpdenpopokigaa
open Go Go.RowKit

/-- A place that is at least 0 just if b. -/
def RetIx (w : World) (b : Bool) (e : Ending) (w' : World) : Prop := ∃ z : Int, e = .returned (.int .i64 z) ∧ decide (0 ≤ z) = b ∧ Below w.heap.size w w'
theorem RetIx.out {w : World} {b : Bool} {e : Ending} {w' : World} (h : RetIx w b e w') : ∃ z : Int, e = .returned (.int .i64 z) ∧ decide (0 ≤ z) = b ∧ Below w.heap.size w w' := h
theorem any_take_succ {α : Type} (P : α → Bool) {l : List α} {k : Nat} {x : α} (h : l[k]? = some x) : (l.take (k + 1)).any P = ((l.take k).any P || P x) := by
  rw [List.take_add_one, h, List.any_append]
  simp
section
variable {w : World} {A : Option Addr} {n c : Nat} {rs : List Rg}
set_option maxRecDepth 100000 in
set_option maxHeartbeats 4000000 in
theorem indexR_any (g : Nat) (cb : Array Value) (P : Rg → Bool) (eg : ∀ args w, (callFunc g args).run Try.prog w = .ok (.enter g args) w) (hr : RGr w A n rs) (hn : n ≤ 1099511627776)
    (hf : ∀ wx, Below w.heap.size w wx → ∀ (r : Rg) (v0 v1 v2 : Value), r ∈ rs → GrV wx r v0 v1 v2 → Calls Try.prog g (#[.agg #[v0, v1, v2]] ++ cb) wx (RetT wx (P r))) :
    Calls Try.prog 185 #[.slice A n c, .func (.func g) #[] cb] w (RetIx w (rs.any P)) := by
  have HF := Lib.hid hf
  have HR := Lib.hid hr
  have HL := Lib.hid hr.len
  clear hf hr
  go_enter Try.func185, Try.ntmps185
  go_wp2_with fail
  go_loopw [8] (fun s8 wr => ∃ k : Nat, k ≤ n ∧ s8 = .int .i64 (k : Int) ∧ (rs.take k).any P = false ∧ Below w.heap.size w wr) (fun s _ => n - (intOf s).toNat)
  case atStart => exact ⟨0, Nat.zero_le _, rfl, rfl, Below.refl _ _⟩
  case round =>
    obtain ⟨k, hk, rfl, hany, hB⟩ := hrel
    have HA := Lib.hid hany
    have HB := Lib.hid hB
    clear hany hB
    by_cases hlt : k < n
    · have hR := HR.out.below HB.out
      obtain ⟨b, off, hAb, hbl⟩ := hR.pos (by omega)
      subst hAb
      obtain ⟨x, v0, v1, v2, hx, m0, m1, m2, hv⟩ := hR.at_ k hlt
      obtain ⟨z, hz⟩ : ∃ z, z = P x := ⟨_, rfl⟩
      have HC : Hid (Calls Try.prog g (#[.agg #[v0, v1, v2]] ++ cb) wr (RetT wr z)) := Lib.hid (by rw [hz]; exact HF.out wr HB.out x v0 v1 v2 (List.mem_of_getElem? hx) hv)
      have HT : Hid ((rs.take (k + 1)).any P = z) := Lib.hid (by rw [any_take_succ P hx, HA.out, hz]; simp)
      have HM : Hid (z = true → rs.any P = true) := Lib.hid (fun h => List.any_eq_true.2 ⟨x, List.mem_of_getElem? hx, by rw [← hz]; exact h⟩)
      clear hR hx hv hz
      go_wp2_with fail
      with_reducible refine HC.out.mono ?_
      intro e w2 hq
      obtain ⟨h1, b2⟩ := RetT.outD hq
      subst h1
      have HB2 := Lib.hid (belowT' HB.out b2)
      clear hq b2 m0 m1 m2
      cases z with
      | true =>
        have HF2 : Hid (RetIx w (rs.any P) (.returned (.int .i64 (k : Int))) w2) := Lib.hid ⟨k, rfl, by rw [HM.out rfl]; simp, HB2.out⟩
        go_wp2_with fail
        go_ret
        exact HF2.out
      | false =>
        go_wp2_with fail
        go_roundw
        case rel => exact ⟨k + 1, by omega, by go_num, HT.out, HB2.out⟩
        case measure => simp [intOf]; omega
    · have HF2 : Hid (RetIx w (rs.any P) (.returned (.int .i64 (-1))) wr) := Lib.hid ⟨-1, rfl, by
        have h1 := HA.out
        rw [List.take_of_length_le (by rw [HL.out]; omega)] at h1
        rw [h1]; rfl, HB.out⟩
      go_wp2_with fail
      go_ret
      exact HF2.out
set_option maxRecDepth 100000 in
set_option maxHeartbeats 4000000 in
theorem containsR_any (g : Nat) (cb : Array Value) (P : Rg → Bool) (eg : ∀ args w, (callFunc g args).run Try.prog w = .ok (.enter g args) w) (hr : RGr w A n rs) (hn : n ≤ 1099511627776)
    (hf : ∀ wx, Below w.heap.size w wx → ∀ (r : Rg) (v0 v1 v2 : Value), r ∈ rs → GrV wx r v0 v1 v2 → Calls Try.prog g (#[.agg #[v0, v1, v2]] ++ cb) wx (RetT wx (P r))) :
    Calls Try.prog 145 #[.slice A n c, .func (.func g) #[] cb] w (RetT w (rs.any P)) := by
  have HI := Lib.hid (indexR_any (c := c) g cb P eg hr hn hf)
  clear hf hr eg
  go_enter Try.func145, Try.ntmps145
  go_wp2_with fail
  with_reducible refine HI.out.mono ?_
  intro e w2 hq
  obtain ⟨z, h1, h2, b2⟩ := hq.out
  subst h1
  have HB2 := Lib.hid b2
  clear hq b2
  go_wp2_with fail
  go_ret
  exact ⟨rfl, HB2.out⟩
set_option maxRecDepth 100000 in
set_option maxHeartbeats 4000000 in
theorem check16_any (hr : RGr w A n rs) (hn : n ≤ 1099511627776) : Calls Try.prog 103 #[.slice A n c] w (RetNu w (checkR rs)) := by
  have HC1 := Lib.hid (containsR_any (c := c) 144 #[] longR (fun _ _ => rfl) hr hn (fun wx hb r v0 v1 v2 _ hv => long_any hv))
  have HC2 : Hid (∀ wx, Below w.heap.size w wx → Calls Try.prog 145 #[.slice A n c, .func (.func 146) #[] #[]] wx (RetT wx (rs.any emptyR))) := Lib.hid (fun wx hb => containsR_any (c := c) 146 #[] emptyR (fun _ _ => rfl) (hr.below hb) hn (fun wx hb r v0 v1 v2 _ hv => empty_any hv))
  have HL := Lib.hid hr.len
  obtain ⟨b1, hb1⟩ : ∃ b, b = rs.any longR := ⟨_, rfl⟩
  obtain ⟨b2, hb2⟩ : ∃ b, b = rs.any emptyR := ⟨_, rfl⟩
  rw [← hb1] at HC1
  rw [← hb2] at HC2
  have HCK : Hid (checkR rs = if 64 < n ∨ b1 = true then 2 else if b2 = true then 3 else 0) := Lib.hid (by unfold checkR; rw [HL.out, hb1, hb2])
  clear hr hb1 hb2
  by_cases h64 : 64 < n
  · have t1 : decide ((64 : Int) < (n : Int)) = true := by simp; omega
    have HF : Hid (checkR rs = 2) := Lib.hid (by rw [HCK.out, if_pos (.inl h64)])
    go_enter Try.func103, Try.ntmps103
    go_wp2_with fail
    go_ret
    exact ⟨by rw [HF.out]; rfl, Below.refl _ _⟩
  · have t1 : decide ((64 : Int) < (n : Int)) = false := by simp; omega
    cases b1 with
    | true =>
      have HF : Hid (checkR rs = 2) := Lib.hid (by rw [HCK.out, if_pos (.inr rfl)])
      go_enter Try.func103, Try.ntmps103
      go_wp2_with fail
      with_reducible refine HC1.out.mono ?_
      intro e w2 hq
      obtain ⟨h1, bb⟩ := RetT.outD hq
      subst h1
      have HB2 := Lib.hid bb
      clear hq bb
      go_wp2_with fail
      go_ret
      exact ⟨by rw [HF.out]; rfl, HB2.out⟩
    | false =>
      cases b2 with
      | true =>
        have HF : Hid (checkR rs = 3) := Lib.hid (by rw [HCK.out, if_neg (by simp; omega), if_pos rfl])
        go_enter Try.func103, Try.ntmps103
        go_wp2_with fail
        with_reducible refine HC1.out.mono ?_
        intro e w2 hq
        obtain ⟨h1, bb⟩ := RetT.outD hq
        subst h1
        have HC3 := Lib.hid (HC2.out w2 bb)
        have HB2 := Lib.hid bb
        clear hq bb
        go_wp2_with fail
        with_reducible refine HC3.out.mono ?_
        intro e w3 hq
        obtain ⟨h1, bb⟩ := RetT.outD hq
        subst h1
        have HB3 := Lib.hid (belowT' HB2.out bb)
        clear hq bb
        go_wp2_with fail
        go_ret
        exact ⟨by rw [HF.out]; rfl, HB3.out⟩
      | false =>
        have HF : Hid (checkR rs = 0) := Lib.hid (by rw [HCK.out, if_neg (by simp; omega), if_neg (by simp)])
        go_enter Try.func103, Try.ntmps103
        go_wp2_with fail
        with_reducible refine HC1.out.mono ?_
        intro e w2 hq
        obtain ⟨h1, bb⟩ := RetT.outD hq
        subst h1
        have HC3 := Lib.hid (HC2.out w2 bb)
        have HB2 := Lib.hid bb
        clear hq bb
        go_wp2_with fail
        with_reducible refine HC3.out.mono ?_
        intro e w3 hq
        obtain ⟨h1, bb⟩ := RetT.outD hq
        subst h1
        have HB3 := Lib.hid (belowT' HB2.out bb)
        clear hq bb
        go_wp2_with fail
        go_ret
        exact ⟨by rw [HF.out]; rfl, HB3.out⟩
set_option maxRecDepth 100000 in
set_option maxHeartbeats 4000000 in
/-- Does this range clash with the one in the box? -/
theorem clash11_any {g : Nat} {a r : Rg} {u0 u1 u2 v0 v1 v2 : Value} (hg : Cl w g #[u0, u1, u2] 97) (ha : GrV w a u0 u1 u2) (h : GrV w r v0 v1 v2) : Calls Try.prog 181 #[.agg #[v0, v1, v2], .pointer (some ⟨g, 0, none⟩)] w (RetT w (clash1 a r)) := by
  obtain ⟨K, kn, kc, T, tn, tc, rfl, rfl, rfl, r1, r2, _⟩ := h.parts
  obtain ⟨K', kn', kc', T', tn', tc', rfl, rfl, rfl, r1', r2', _⟩ := ha.parts
  obtain ⟨W, hW⟩ : ∃ W, W = w.alloc (.cells #[.slice K kn kc, .slice T tn tc, .bool r.ex] 97) := ⟨_, rfl⟩
  have bW : Below w.heap.size w W := by rw [hW]; exact (Below.refl _ _).alloc (Nat.le_refl _) _
  have zW : Cl W w.heap.size #[.slice K kn kc, .slice T tn tc, .bool r.ex] 97 := by rw [hW]; exact Cl.new _ _ _
  have gW := hg.below bW
  obtain ⟨c0, c1, c2, _⟩ := zW.c3
  obtain ⟨d0, d1, d2, _⟩ := gW.c3
  obtain ⟨p, hp⟩ : ∃ p, p = belB a.lo r.hi := ⟨_, rfl⟩
  obtain ⟨q, hq⟩ : ∃ q, q = belB r.lo a.hi := ⟨_, rfl⟩
  have HP : Hid (Calls Try.prog 182 #[.slice K' kn' kc', .slice T tn tc] W (fun e w' => e = .returned (.bool p) ∧ W = w')) := Lib.hid (by rw [hp]; exact below_any (r1'.below bW) (r2.below bW))
  have HQ : Hid (Calls Try.prog 182 #[.slice K kn kc, .slice T' tn' tc'] W (fun e w' => e = .returned (.bool q) ∧ W = w')) := Lib.hid (by rw [hq]; exact below_any (r1.below bW) (r2'.below bW))
  have HB := Lib.hid bW
  have HW := Lib.hid hW
  obtain ⟨x, hx⟩ : ∃ x, x = a.ex := ⟨_, rfl⟩
  obtain ⟨y, hy⟩ : ∃ y, y = r.ex := ⟨_, rfl⟩
  rw [← hx] at d2
  rw [← hy] at c2 HW
  have HE : Hid (clash1 a r = ((x || y) && p && q)) := Lib.hid (by rw [hp, hq, hx, hy]; rfl)
  have HY := Lib.hid hy
  clear h ha hg r1 r2 r1' r2' bW zW gW hW hp hq hx hy
  rw [← HY.out]
  have HX : Hid (∀ wx, Below w.heap.size w wx → RetT w (clash1 a r) (.returned (.bool ((x || y) && p && q))) wx) := Lib.hid (fun wx hb => ⟨by rw [HE.out], hb⟩)
  cases x with
  | true =>
    cases p with
    | true =>
      go_enter Try.func181, Try.ntmps181
      go_upto_region 1 with (fail)
      rw [← HW.out]
      go_wp2_with fail
      with_reducible refine HP.out.mono ?_
      rintro e w1 ⟨rfl, rfl⟩
      go_wp2_with fail
      with_reducible refine HQ.out.mono ?_
      rintro e w1 ⟨rfl, rfl⟩
      go_wp2_with fail
      go_ret
      exact HX.out W HB.out
    | false =>
      go_enter Try.func181, Try.ntmps181
      go_upto_region 1 with (fail)
      rw [← HW.out]
      go_wp2_with fail
      with_reducible refine HP.out.mono ?_
      rintro e w1 ⟨rfl, rfl⟩
      go_wp2_with fail
      go_ret
      exact HX.out W HB.out
  | false =>
    cases y with
    | true =>
      cases p with
      | true =>
        go_enter Try.func181, Try.ntmps181
        go_upto_region 1 with (fail)
        rw [← HW.out]
        go_wp2_with fail
        with_reducible refine HP.out.mono ?_
        rintro e w1 ⟨rfl, rfl⟩
        go_wp2_with fail
        with_reducible refine HQ.out.mono ?_
        rintro e w1 ⟨rfl, rfl⟩
        go_wp2_with fail
        go_ret
        exact HX.out W HB.out
      | false =>
        go_enter Try.func181, Try.ntmps181
        go_upto_region 1 with (fail)
        rw [← HW.out]
        go_wp2_with fail
        with_reducible refine HP.out.mono ?_
        rintro e w1 ⟨rfl, rfl⟩
        go_wp2_with fail
        go_ret
        exact HX.out W HB.out
    | false =>
      go_enter Try.func181, Try.ntmps181
      go_upto_region 1 with (fail)
      rw [← HW.out]
      go_wp2_with fail
      go_ret
      exact HX.out W HB.out
set_option maxRecDepth 100000 in
set_option maxHeartbeats 4000000 in
theorem clash1_any {g : Nat} {a : Rg} {B : Option Addr} {m d : Nat} {qs : List Rg} {u0 u1 u2 : Value} (hg : Cl w g #[.slice B m d] 98) (hq : RGr w B m qs) (hm : m ≤ 1099511627776) (ha : GrV w a u0 u1 u2) : Calls Try.prog 180 #[.agg #[u0, u1, u2], .pointer (some ⟨g, 0, none⟩)] w (RetT w (qs.any fun b => clash1 a b)) := by
  obtain ⟨K, kn, kc, T, tn, tc, rfl, rfl, rfl, _⟩ := ha.parts
  obtain ⟨W, hW⟩ : ∃ W, W = w.alloc (.cells #[.slice K kn kc, .slice T tn tc, .bool a.ex] 97) := ⟨_, rfl⟩
  have bW : Below w.heap.size w W := by rw [hW]; exact (Below.refl _ _).alloc (Nat.le_refl _) _
  have zW : Cl W w.heap.size #[.slice K kn kc, .slice T tn tc, .bool a.ex] 97 := by rw [hW]; exact Cl.new _ _ _
  have c0 : W.cell? ⟨g, 0, none⟩ = some (.slice B m d) := (hg.below bW).cell 0
  have HC := Lib.hid (containsR_any (c := d) 181 #[.pointer (some ⟨w.heap.size, 0, none⟩)] (fun b => clash1 a b) (fun _ _ => rfl) (hq.below bW) hm (fun wx hb r v0 v1 v2 _ hv => clash11_any (zW.below hb) (ha.below (belowT' bW hb)) hv))
  have HW := Lib.hid hW
  have HB := Lib.hid bW
  clear hg hq ha bW zW hW
  go_enter Try.func180, Try.ntmps180
  go_upto_region 1 with (fail)
  rw [← HW.out]
  go_wp2_with fail
  with_reducible refine HC.out.mono ?_
  intro e w2 hq
  obtain ⟨h1, bb⟩ := RetT.outD hq
  subst h1
  have HB2 := Lib.hid (belowT' HB.out bb)
  clear hq bb
  go_wp2_with fail
  go_ret
  exact ⟨rfl, HB2.out⟩
set_option maxRecDepth 100000 in
set_option maxHeartbeats 4000000 in
theorem clash_any {B : Option Addr} {m d : Nat} {qs : List Rg} (hr : RGr w A n rs) (hn : n ≤ 1099511627776) (hq : RGr w B m qs) (hm : m ≤ 1099511627776) : Calls Try.prog 138 #[.slice A n c, .slice B m d] w (RetT w (clashR rs qs)) := by
  obtain ⟨W, hW⟩ : ∃ W, W = w.alloc (.cells #[.slice B m d] 98) := ⟨_, rfl⟩
  have bW : Below w.heap.size w W := by rw [hW]; exact (Below.refl _ _).alloc (Nat.le_refl _) _
  have zW : Cl W w.heap.size #[.slice B m d] 98 := by rw [hW]; exact Cl.new _ _ _
  have HC := Lib.hid (containsR_any (c := c) 180 #[.pointer (some ⟨w.heap.size, 0, none⟩)] (fun a => qs.any fun b => clash1 a b) (fun _ _ => rfl) (hr.below bW) hn (fun wx hb r v0 v1 v2 _ hv => clash1_any (zW.below hb) (hq.below (belowT' bW hb)) hm hv))
  have HW := Lib.hid hW
  have HB := Lib.hid bW
  clear hr hq bW zW hW
  go_enter Try.func138, Try.ntmps138
  go_upto_region 1 with (fail)
  rw [← HW.out]
  go_wp2_with fail
  with_reducible refine HC.out.mono ?_
  intro e w2 hq
  obtain ⟨h1, bb⟩ := RetT.outD hq
  subst h1
  have HB2 := Lib.hid (belowT' HB.out bb)
  clear hq bb
  go_wp2_with fail
  go_ret
  exact ⟨rfl, HB2.out⟩
end
end Go.Proofs.Ytmpdenpopokigaa
namespace Go.Proofs.Ytmpdenpopokigaa
open Go Go.RowKit

end Go.Proofs.Ytmpdenpopokigaa
namespace Go.Proofs.Ytmpdenpopokigaa
open Go Go.RowKit

theorem RLs.below {w w' : World} {A : Option Addr} {n : Nat} {ls : List (List En)} (h : RLs w A n ls) (hb : Below w.heap.size w w') : RLs w' A n ls := by
  refine ⟨h.1, fun h0 => ?_⟩
  obtain ⟨b, off, e, hbl, hc⟩ := h.2 h0
  refine ⟨b, off, e, Nat.lt_of_lt_of_le hbl hb.size, fun i es hi => ?_⟩
  obtain ⟨B, m, c, h1, h2, h3⟩ := hc i es hi
  exact ⟨B, m, c, (hb.cell (p := ⟨b, off + i, none⟩) hbl).trans h1, h2.below hb, h3⟩
theorem RLs.len {w : World} {A : Option Addr} {n : Nat} {ls : List (List En)} (h : RLs w A n ls) : ls.length = n := h.1
section
variable {w : World} {A : Option Addr} {n c : Nat} {ls : List (List En)}
end
end Go.Proofs.Ytmpdenpopokigaa
namespace Go.Proofs.Ytmpdenpopokigaa
open Go Go.RowKit

/-- 'The pointer F leads to this entry; or it is nil, and there is none.' -/
def FP (G : Nat → Prop) (w : World) : Option En → Option Addr → Prop
  | none, F => F = none
  | some e, F => ∃ p, F = some ⟨p, 0, none⟩ ∧ EB G w e p
theorem FP.below {G : Nat → Prop} {w w' : World} (hb : Below w.heap.size w w') : ∀ {o : Option En} {F : Option Addr}, FP G w o F → FP G w' o F
  | none, _, h => h
  | some _, _, ⟨p, h1, h2⟩ => ⟨p, h1, h2.below hb⟩
def RetFst (G : Nat → Prop) (w : World) (o : Option En) (e : Ending) (w' : World) : Prop := ∃ F, e = .returned (.pointer F) ∧ FP G w' o F ∧ Below w.heap.size w w'
theorem RetFst.out {G : Nat → Prop} {w : World} {o : Option En} {e : Ending} {w' : World} (h : RetFst G w o e w') : ∃ F, e = .returned (.pointer F) ∧ FP G w' o F ∧ Below w.heap.size w w' := h
end Go.Proofs.Ytmpdenpopokigaa
namespace Go.Proofs.Ytmpdenpopokigaa
open Go Go.RowKit

/-- 'A row of ranges of the call's own.' -/
def OwnGr (w : World) (base : Nat) (A : Option Addr) (n c : Nat) (vs : List Value) : Prop := w.ownsRow base 97 3 (.slice A n c) n vs
section
variable {w w' : World} {base n c : Nat} {A : Option Addr} {vs : List Value}
theorem OwnGr.rd (h : OwnGr w base A n c vs) : RdV w A (n * 3) vs := by
  refine ⟨by have := h.1; simpa [Nat.mul_comm] using this, fun hn => ?_⟩
  rcases h.2 with ⟨_, h2⟩ | ⟨g, cap, cur, h1, _, hg, _⟩
  · omega
  · injection h1 with h1
    subst h1
    refine ⟨g, 0, rfl, (Array.getElem?_eq_some_iff.1 hg).1, fun i x hx => ?_⟩
    have := World.ownsRow.cells h (g := g) rfl i _ hx
    simpa [Addr.add_lit] using this
theorem OwnGr.cap (h : OwnGr w base A n c vs) : n ≤ c ∧ c ≤ maxLen := by
  rcases h.2 with ⟨h1, h2⟩ | ⟨g, cap, cur, h1, _, _, h2, h3, _⟩
  · injection h1 with h1 h2 h3
    subst h2 h3
    unfold maxLen
    omega
  · injection h1 with _ _ h4
    subst h4
    exact ⟨h2, h3⟩
theorem OwnGr.lt (h : OwnGr w base A n c vs) (b : Nat) (hb : blk A = some b) : base ≤ b ∧ b < w.heap.size := World.ownsRow.lt h b (by rw [own_blk]; exact hb)
theorem OwnGr.nil (w : World) (base : Nat) : OwnGr w base none 0 0 [] := World.ownsRow_nil _ _ _ _
theorem OwnGr.below (h : OwnGr w base A n c vs) (hb : Below w.heap.size w w') : OwnGr w' base A n c vs := by
  refine ⟨h.1, ?_⟩
  rcases h.2 with h1 | ⟨g, cap, cur, h1, h2, h3, h4⟩
  · exact .inl h1
  · exact .inr ⟨g, cap, cur, h1, h2, (hb.block g (Array.getElem?_eq_some_iff.1 h3).1).trans h3, h4⟩
theorem OwnGr.nil_of (h : OwnGr w base A n c vs) (hA : A = none) : c = 0 := by
  subst hA
  rcases h.2 with ⟨h1, _⟩ | ⟨g, cap, cur, h1, _⟩
  · injection h1
  · injection h1 with h1; cases h1
theorem OwnGr.mono {base' : Nat} (h : OwnGr w base A n c vs) (hb : base' ≤ base) : OwnGr w base' A n c vs := by
  refine ⟨h.1, ?_⟩
  rcases h.2 with h1 | ⟨g, cap, cur, h1, h2, h3⟩
  · exact .inl h1
  · exact .inr ⟨g, cap, cur, h1, by omega, h3⟩
theorem OwnGr.kept {row : Option Nat} (h : OwnGr w base A n c vs) (hg : w.grownBy w' row) (hne : ∀ b, blk A = some b → row ≠ some b) : OwnGr w' base A n c vs := by
  refine World.ownsRow.kept h hg ?_
  rw [own_blk]
  cases hb : blk A with
  | none => exact .inl rfl
  | some b => exact .inr (fun e => hne b hb e.symm)
theorem OwnGr.at0 (h : OwnGr w base A n c vs) (g : Nat) (hA : blk A = some g) : A = some ⟨g, 0, none⟩ := by
  rcases h.2 with ⟨h1, _⟩ | ⟨k, cap, cur, h1, _⟩
  · injection h1 with h1; rw [h1] at hA; cases hA
  · injection h1 with h1
    rw [h1] at hA ⊢
    injection hA with hA
    simp only at hA
    rw [hA]
end
theorem info_rg : (Try.prog.info? 97).map (fun i => (i.zero, i.size, i.bytes)) = some (some (.agg #[.slice none 0 0, .slice none 0 0, .bool false]), 3, 56) := by kernel_rfl
/-- Ranges appended at a step of a region that draws its order. -/
theorem wp_app3 {P : Program} (w : World) {o : Oper} {a : Act} {K : Act → World → Prop} {Q : Exit → Act → World → Prop} (s x : Operand) (tt : TypeId)
    (ho : o.op = .call { callee := .builtin .append, args := #[s, x], argTypes := #[tt, tt] })
    (base : Nat) (z : Value) (by_ : Nat) (ht : P.underlying tt = some (.slice 97)) (hi : (P.info? 97).map (fun i => (i.zero, i.size, i.bytes)) = some (some z, 3, by_)) (hz1 : z.cells.size = 3)
    (A : Option Addr) (n c : Nat) (vs : List Value) (hs : a.eval s = .slice A n c) (hown : OwnGr w base A n c vs)
    (ad : Addr) (m d : Nat) (ys : List Value) (hx : a.eval x = .slice (some ad) m d) (hr : RdV w (some ad) (m * 3) ys) (hm : 0 < m) (h1 : ∀ u ∈ ys, u.oneCell' = true)
    (hn : n + m ≤ maxLen) (hby : (n + m) * by_ ≤ 140737488355328) (hbase : base ≤ w.heap.size)
    (h : ∀ A' c' w', OwnGr w' base A' (n + m) c' (vs ++ ys) → w.grownBy w' (blk A) → K (a.put o.dst (.slice A' (n + m) c')) w') : o.wp P a w K Q := by
  obtain ⟨i, hi, hz, hsz, hby2⟩ := info_parts hi
  obtain ⟨b, off, e, _, hc⟩ := hr.2 (by omega)
  injection e with e
  subst e
  refine wp_append_own w s x tt ho base 97 i z 3 by_ ht hi hz hsz hby2 hz1 (by decide) (.slice A n c) n vs hs hown ⟨b, off, none⟩ m d ys hx hr.1 (fun j u hj => by rw [Addr.add_lit]; exact hc j u hj) h1 hn hby hbase ?_
  intro v' w' k1 k2 _
  obtain ⟨A', c', rfl⟩ : ∃ A' c', v' = .slice A' (n + m) c' := by
    rcases k1.2 with ⟨h3, h4⟩ | ⟨g, cap, cur, h3, _⟩
    · exact ⟨none, 0, by rw [h3, h4]⟩
    · exact ⟨_, _, h3⟩
  rw [own_blk] at k2
  exact h A' c' w' k1 k2
theorem step_app3 {P : Program} (w : World) {ops : Array Oper} {o : Oper} {a : Act} {K : Act → World → Prop} {Q : Exit → Act → World → Prop} {E : Prop} (hgd : o.guard = none) (s x : Operand) (tt : TypeId)
    (ho : o.op = .call { callee := .builtin .append, args := #[s, x], argTypes := #[tt, tt] })
    (base : Nat) (z : Value) (by_ : Nat) (ht : P.underlying tt = some (.slice 97)) (hi : (P.info? 97).map (fun i => (i.zero, i.size, i.bytes)) = some (some z, 3, by_)) (hz1 : z.cells.size = 3)
    (A : Option Addr) (n c : Nat) (vs : List Value) (hs : a.eval s = .slice A n c) (hown : OwnGr w base A n c vs)
    (ad : Addr) (m d : Nat) (ys : List Value) (hx : a.eval x = .slice (some ad) m d) (hr : RdV w (some ad) (m * 3) ys) (hm : 0 < m) (h1 : ∀ u ∈ ys, u.oneCell' = true)
    (hn : n + m ≤ maxLen) (hby : (n + m) * by_ ≤ 140737488355328) (hbase : base ≤ w.heap.size)
    (h : ∀ A' c' w', OwnGr w' base A' (n + m) c' (vs ++ ys) → w.grownBy w' (blk A) → K (a.put o.dst (.slice A' (n + m) c')) w') :
    if Region.wanted o (yielded ops a.tmps) = true then Oper.wp P o a w K Q else E := by
  have hw : Region.wanted o (yielded ops a.tmps) = true := by simp [Region.wanted, hgd]
  rw [if_pos hw]
  exact wp_app3 w s x tt ho base z by_ ht hi hz1 A n c vs hs hown ad m d ys hx hr hm h1 hn hby hbase h
/-- The same in plain code. -/
theorem wpList_app3 {P : Program} (w : World) {ops : Array Oper} {rest : List Oper} {o : Oper} {a : Act} {Q : Exit → Act → World → Prop} (hgd : o.guard = none) (s x : Operand) (tt : TypeId)
    (ho : o.op = .call { callee := .builtin .append, args := #[s, x], argTypes := #[tt, tt] })
    (base : Nat) (z : Value) (by_ : Nat) (ht : P.underlying tt = some (.slice 97)) (hi : (P.info? 97).map (fun i => (i.zero, i.size, i.bytes)) = some (some z, 3, by_)) (hz1 : z.cells.size = 3)
    (A : Option Addr) (n c : Nat) (vs : List Value) (hs : a.eval s = .slice A n c) (hown : OwnGr w base A n c vs)
    (ad : Addr) (m d : Nat) (ys : List Value) (hx : a.eval x = .slice (some ad) m d) (hr : RdV w (some ad) (m * 3) ys) (hm : 0 < m) (h1 : ∀ u ∈ ys, u.oneCell' = true)
    (hn : n + m ≤ maxLen) (hby : (n + m) * by_ ≤ 140737488355328) (hbase : base ≤ w.heap.size)
    (h : ∀ A' c' w', OwnGr w' base A' (n + m) c' (vs ++ ys) → w.grownBy w' (blk A) → (blk A' = blk A ∨ blk A' = some w.heap.size) → wpList P ops Q rest (a.put o.dst (.slice A' (n + m) c')) w') : wpList P ops Q (o :: rest) a w := by
  obtain ⟨i, hi, hz, hsz, hby2⟩ := info_parts hi
  obtain ⟨b, off, e, _, hc⟩ := hr.2 (by omega)
  injection e with e
  subst e
  refine wpList_append_own_at (w := w) hgd s x tt ho base 97 i z 3 by_ ht hi hz hsz hby2 hz1 (by decide) (.slice A n c) n vs hs hown ⟨b, off, none⟩ m d ys hx hr.1 (fun j u hj => by rw [Addr.add_lit]; exact hc j u hj) h1 hn hby hbase ?_
  intro v' w' k1 k2 _ k3
  obtain ⟨A', c', rfl⟩ : ∃ A' c', v' = .slice A' (n + m) c' := by
    rcases k1.2 with ⟨h3, h4⟩ | ⟨g, cap, cur, h3, _⟩
    · exact ⟨none, 0, by rw [h3, h4]⟩
    · exact ⟨_, _, h3⟩
  rw [own_blk] at k2
  rw [own_blk, own_blk] at k3
  exact h A' c' w' k1 k2 k3

theorem rdv_of_cl3 {w : World} {g : Nat} {v0 v1 v2 : Value} {t : TypeId} (h : Cl w g #[v0, v1, v2] t) : RdV w (some ⟨g, 0, none⟩) (1 * 3) [v0, v1, v2] :=
  ⟨rfl, fun _ => ⟨g, 0, rfl, h.lt, fun i x hx => by rw [Nat.zero_add, h.cell i]; simpa using hx⟩⟩
theorem Made.outL {base : Nat} {w w' : World} {xs : List UInt8} {e : Ending} (h : Made base w xs e w') : ∃ A n c, e = .returned (.slice A n c) ∧ Own 5 w' base A n c xs ∧ Below base w w' := h
/-- The values of ranges whose bytes are these slices, two for each. -/
def flatG : List Rg → List VB → List Value
  | r :: rs, p :: q :: ps => p.1 :: q.1 :: .bool r.ex :: flatG rs ps
  | _, _ => []
/-- The bytes of ranges. -/
def datG : List Rg → List (List UInt8)
  | [] => []
  | r :: rs => r.lo :: r.hi :: datG rs
theorem datG_app (rs gs : List Rg) : datG (rs ++ gs) = datG rs ++ datG gs := by
  induction rs with
  | nil => rfl
  | cons r rs ih => simp [datG, ih]
theorem datG_len (rs : List Rg) : (datG rs).length = rs.length * 2 := by
  induction rs with
  | nil => rfl
  | cons r rs ih => simp only [datG, List.length_cons, ih]; omega
theorem flatG_app {gs : List Rg} {qs : List VB} : ∀ {rs : List Rg} {ps : List VB}, ps.length = rs.length * 2 → flatG (rs ++ gs) (ps ++ qs) = flatG rs ps ++ flatG gs qs
  | [], [], _ => rfl
  | [], p :: ps, h => by simp at h
  | r :: rs, [], h => by simp at h
  | r :: rs, [p], h => by simp at h; omega
  | r :: rs, p :: q :: ps, h => by
    simp only [List.cons_append, flatG]
    rw [flatG_app (by simp only [List.length_cons] at h; omega)]
theorem grvs_of_fam {w : World} {base : Nat} : ∀ {rs : List Rg} {ps : List VB}, Fam w base ps → ps.map (·.2) = datG rs → GrVs w rs (flatG rs ps)
  | [], ps, _, _ => by cases ps <;> rfl
  | r :: rs, [], _, h => by simp [datG] at h
  | r :: rs, [p], _, h => by simp [datG] at h
  | r :: rs, p :: q :: ps, hf, h => by
    simp only [List.map_cons, datG, List.cons.injEq] at h
    obtain ⟨A, m, c, e1, ho⟩ := hf.1 p (by simp)
    obtain ⟨B, k, d, e2, ho2⟩ := hf.1 q (by simp)
    refine ⟨_, _, _, _, rfl, ⟨rfl, ?_, ?_⟩, grvs_of_fam (base := base) ⟨fun x hx => hf.1 x (by simp [hx]), (List.pairwise_cons.1 (List.pairwise_cons.1 hf.2).2).2⟩ h.2.2⟩
    · rw [e1, ← h.1]; exact elb_own ho
    · rw [e2, ← h.2.1]; exact elb_own ho2
/-- 'A row of ranges that the call has made, their bytes its own; no two share memory.' -/
def RowGr (W : World) (base : Nat) (L : Option Addr) (i d : Nat) (rs : List Rg) (ps : List VB) (wr : World) : Prop :=
  OwnGr wr base L i d (flatG rs ps) ∧ Fam wr base ps ∧ ps.map (·.2) = datG rs ∧ rs.length = i ∧ Below base W wr ∧ base ≤ wr.heap.size
section
variable {W wr w4 U : World} {base i d d' : Nat} {L L' : Option Addr} {rs : List Rg} {ps : List VB} {r : Rg}
theorem RowGr.zero (W : World) (base : Nat) (hb : base ≤ W.heap.size) : RowGr W base none 0 0 [] [] W := ⟨OwnGr.nil _ _, Fam.nil _ _, rfl, rfl, Below.refl _ _, hb⟩
theorem RowGr.own (h : RowGr W base L i d rs ps wr) : OwnGr wr base L i d (flatG rs ps) := h.1
theorem RowGr.fam (h : RowGr W base L i d rs ps wr) : Fam wr base ps := h.2.1
theorem RowGr.dat (h : RowGr W base L i d rs ps wr) : ps.map (·.2) = datG rs := h.2.2.1
theorem RowGr.len (h : RowGr W base L i d rs ps wr) : rs.length = i := h.2.2.2.1
theorem RowGr.bel (h : RowGr W base L i d rs ps wr) : Below base W wr := h.2.2.2.2.1
theorem RowGr.size (h : RowGr W base L i d rs ps wr) : base ≤ wr.heap.size := h.2.2.2.2.2
theorem RowGr.plen (h : RowGr W base L i d rs ps wr) : ps.length = rs.length * 2 := by have := congrArg List.length h.dat; rw [datG_len] at this; simpa using this
theorem RowGr.below {w' : World} (h : RowGr W base L i d rs ps wr) (hb : Below wr.heap.size wr w') : RowGr W base L i d rs ps w' := by
  obtain ⟨h1, h2, h3, h5, h6, h7⟩ := h
  exact ⟨h1.below hb, h2.below hb, h3, h5, h6.trans (hb.mono h7), Nat.le_trans h7 hb.size⟩
theorem RowGr.rd (h : RowGr W base L i d rs ps wr) : RGr wr L i rs := RGr.mk (grvs_of_fam h.fam h.dat) h.own.rd h.len
theorem RowGr.lower {w wx : World} (h : RowGr wx wx.heap.size L i d rs ps wr) (hb : Below w.heap.size w wx) : RowGr w w.heap.size L i d rs ps wr := by
  obtain ⟨h1, h2, h3, h5, h6, h7⟩ := h
  have hs := hb.size
  exact ⟨h1.mono hs, h2.mono hs, h3, h5, belowT' hb h6, by omega⟩
theorem fam_off_Gr {w : World} {b1 b2 n c : Nat} {A : Option Addr} {vs : List Value} {qs : List VB} (hf : Fam w b1 qs) (h : OwnGr w b2 A n c vs) : ∀ b, blk A = some b → OffF qs b := fun b hb q hq e => by
  obtain ⟨A', m, d, e1, ho⟩ := hf.1 q hq
  rw [e1, own_blk] at e
  exact row_ne h ho (by decide) b hb e
/-- One more. -/
theorem RowGr.snoc {qs : List VB} {vs us : List Value} (h : RowGr W base L i d rs ps wr) (hU : Below wr.heap.size wr U) (hf : Fam U wr.heap.size qs) (hd : qs.map (·.2) = [r.lo, r.hi]) (hus : us = flatG [r] qs) {V : World} (hV : Below U.heap.size U V)
    (h4 : OwnGr w4 base L' (i + 1) d' vs) (hvs : vs = flatG rs ps ++ us) (hg : V.grownBy w4 (blk L)) : RowGr W base L' (i + 1) d' (rs ++ [r]) (ps ++ qs) w4 := by
  subst hvs hus
  have hbU := hU.size
  have hbV := hV.size
  have hgs := hg.size
  have hz := h.size
  have hfm : Fam U base (ps ++ qs) := Fam.app h.fam hf hU (Nat.le_refl _) hz
  have hfv := hfm.below hV
  have hoV : OwnGr V base L i d (flatG rs ps) := (h.own.below hU).below hV
  refine ⟨?_, hfv.kept hg (fun b e => fam_off_Gr hfv hoV b e), ?_, by simp [h.len], ((h.bel.trans (hU.mono hz)).trans (hV.mono (by omega))).grown hg (by omega) (fun k hk => (h.own.lt k hk).1), by omega⟩
  · rw [flatG_app h.plen]
    exact h4
  · rw [List.map_append, datG_app, h.dat, hd]; rfl
end
/-- What a list of ranges that is made comes to. -/
def RetRg (w : World) (rs : List Rg) (e : Ending) (w' : World) : Prop := ∃ L n c ps, e = .returned (.slice L n c) ∧ RowGr w w.heap.size L n c rs ps w'
theorem RetRg.out {w : World} {rs : List Rg} {e : Ending} {w' : World} (h : RetRg w rs e w') : ∃ L n c ps, e = .returned (.slice L n c) ∧ RowGr w w.heap.size L n c rs ps w' := h
/-- Bytes that are not too many. -/
def SzG (rs : List Rg) : Prop := ∀ r ∈ rs, r.lo.length ≤ 1099511627776 ∧ r.hi.length ≤ 1099511627776
set_option maxRecDepth 100000 in
set_option maxHeartbeats 8000000 in
theorem ownR_any {w : World} {A : Option Addr} {n c : Nat} {rs : List Rg} (h : RGr w A n rs) (hn : n ≤ 1099511627776) (hs : SzG rs) : Calls Try.prog 105 #[.slice A n c] w (RetRg w rs) := by
  have HL := Lib.hid h.len
  have HS := Lib.hid hs
  have HH := Lib.hid h
  clear hs h
  go_enter Try.func105, Try.ntmps105
  go_wp2_with fail
  go_loopw [3, 8] (fun s3 s8 wr => ∃ (k d : Nat) (L : Option Addr), k ≤ n ∧ s8 = .int .i64 (k : Int) ∧ s3 = .slice L k d ∧ ∃ ps, RowGr w w.heap.size L k d (rs.take k) ps wr) (fun _ s _ => n - (intOf s).toNat)
  case atStart => exact ⟨0, 0, none, Nat.zero_le _, rfl, rfl, [], RowGr.zero _ _ (Nat.le_refl _)⟩
  case round =>
    obtain ⟨k, d, L, hk, rfl, rfl, ps, hrow⟩ := hrel
    have HR := Lib.hid hrow
    have hR : RGr wr A n rs := HH.out.below hrow.bel
    clear hrow
    by_cases hlt : k < n
    · obtain ⟨b, off, hAb, hbl⟩ := hR.pos (by omega)
      subst hAb
      obtain ⟨x, v0, v1, v2, hx, m0, m1, m2, hev⟩ := hR.at_ k hlt
      obtain ⟨sx1, sx2⟩ := HS.out x (List.mem_of_getElem? hx)
      obtain ⟨K, kn, kc, T, tn, tc, rfl, rfl, rfl, rk, rt, hkc, htc, hkd, htd⟩ := hev.parts
      have hlk := rk.len
      have hlt2 := rt.len
      obtain ⟨U, hU⟩ : ∃ U, U = wr.alloc (.cells #[.slice K kn kc, .slice T tn tc, .bool x.ex] 97) := ⟨_, rfl⟩
      obtain ⟨g0, hg0⟩ : ∃ g0, g0 = wr.heap.size := ⟨_, rfl⟩
      have bU : Below wr.heap.size wr U := by rw [hU]; exact (Below.refl _ _).alloc (Nat.le_refl _) _
      have zU : Cl U g0 #[.slice K kn kc, .slice T tn tc, .bool x.ex] 97 := by rw [hU, hg0]; exact Cl.new _ _ _
      have HCK : Hid (∀ wx, Below U.heap.size U wx → Calls Try.prog 126 #[.slice K kn kc] wx (Made wx.heap.size wx x.lo)) := Lib.hid (fun wx hb => Clone_any K kn kc x.lo wx ((rk.below bU).below hb) (by omega) hkd)
      have HCT : Hid (∀ wx, Below U.heap.size U wx → Calls Try.prog 126 #[.slice T tn tc] wx (Made wx.heap.size wx x.hi)) := Lib.hid (fun wx hb => Clone_any T tn tc x.hi wx ((rt.below bU).below hb) (by omega) htd)
      have HLD : Hid (∀ wx, Below U.heap.size U wx → wx.cell? ⟨g0, 0, none⟩ = some (.slice K kn kc) ∧ wx.cell? ⟨g0, 1, none⟩ = some (.slice T tn tc) ∧ wx.cell? ⟨g0, 2, none⟩ = some (.bool x.ex)) := Lib.hid (fun wx hb => ⟨(zU.below hb).cell 0, (zU.below hb).cell 1, (zU.below hb).cell 2⟩)
      have HRU := Lib.hid (HR.out.below bU)
      have HUE := Lib.hid hU
      have HGE := Lib.hid hg0
      have HX := Lib.hid hx
      have q0 : U.cell? ⟨g0, 0, none⟩ = some (.slice K kn kc) := zU.cell 0
      have q1 : U.cell? ⟨g0, 1, none⟩ = some (.slice T tn tc) := zU.cell 1
      have q2 : U.cell? ⟨g0, 2, none⟩ = some (.bool x.ex) := zU.cell 2
      have hB1 : Below U.heap.size U U.drew := (Below.refl _ _).drew
      clear hx hev hR rk rt bU zU hU hg0 sx1 sx2 hlk hlt2
      go_upto_region 5 with (fail)
      rw [← HUE.out, ← HGE.out]
      clear m0 m1 m2
      go_region_law (first | (go_simp; go_at_call 126; with_reducible refine (HCK.out _ (by first | exact hB1 | assumption)).mono ?_; intro e wk hq; obtain ⟨C, cn, cc, h1, oC, bC⟩ := Made.outL hq; subst h1; have bC' := belowT' (by first | exact hB1 | assumption : Below U.heap.size U _) bC; obtain ⟨p0, p1, p2⟩ := HLD.out _ bC') | (go_simp; go_at_call 126; with_reducible refine (HCT.out _ (by first | exact hB1 | assumption)).mono ?_; intro e wv hq; obtain ⟨D, dn, dc, h2, oD, bD⟩ := Made.outL hq; subst h2; have bD' := belowT' (by first | exact hB1 | assumption : Below U.heap.size U _) bD; obtain ⟨n0, n1, n2⟩ := HLD.out _ bD') | (refine step_app3 _ rfl (Operand.tmp 12) (Operand.tmp 22) 98 rfl w.heap.size _ 56 Try.underlying98 info_rg rfl L k d (flatG (rs.take k) ps) (by first | (simp [Act.eval]; done) | (simp [Act.eval, Act.put]; done) | rfl) (HRU.out.below (bD'.alloc bD'.size _)).own ⟨wv.heap.size, 0, none⟩ 1 1 [.slice C cn cc, .slice D dn dc, .bool x.ex] (by first | (simp [Act.eval]; done) | (simp [Act.eval, Act.put]; done) | rfl) (rdv_of_cl3 (Cl.new wv #[.slice C cn cc, .slice D dn dc, .bool x.ex] 97)) (by omega) (by simp [Value.oneCell']) (by unfold maxLen; omega) (by omega) (HRU.out.below (bD'.alloc bD'.size _)).size ?_; intro L2 d2 w6 hL hg) | (refine step_app3 _ rfl (Operand.tmp 12) (Operand.tmp 22) 98 rfl w.heap.size _ 56 Try.underlying98 info_rg rfl L k d (flatG (rs.take k) ps) (by first | (simp [Act.eval]; done) | (simp [Act.eval, Act.put]; done) | rfl) (HRU.out.below (bC'.alloc bC'.size _)).own ⟨wk.heap.size, 0, none⟩ 1 1 [.slice C cn cc, .slice D dn dc, .bool x.ex] (by first | (simp [Act.eval]; done) | (simp [Act.eval, Act.put]; done) | rfl) (rdv_of_cl3 (Cl.new wk #[.slice C cn cc, .slice D dn dc, .bool x.ex] 97)) (by omega) (by simp [Value.oneCell']) (by unfold maxLen; omega) (by omega) (HRU.out.below (bC'.alloc bC'.size _)).size ?_; intro L2 d2 w6 hL hg))
      all_goals first
        | (have hsz1 : U.heap.size ≤ wk.heap.size := bC'.size
           have HQ : Hid (∃ ps, RowGr w w.heap.size L2 (k + 1) d2 (rs.take (k + 1)) ps w6) := Lib.hid ⟨_, by
             rw [List.take_add_one, HX.out]
             exact RowGr.snoc (qs := [(.slice C cn cc, x.lo), (.slice D dn dc, x.hi)]) HRU.out bD' (fam_two ((oC.mono (show U.heap.size ≤ _ by first | exact Nat.le_refl _ | omega)).below bD) (oD.mono hsz1) (Dj.old oC oD (Nat.le_refl _))) rfl rfl ((Below.refl _ _).alloc (Nat.le_refl _) _) hL rfl hg⟩
           clear hL hg oC oD bC bD bC' bD' p0 p1 p2 n0 n1 n2 hsz1
           go_wp2_with fail
           go_roundw
           case rel => exact ⟨k + 1, d2, L2, by omega, by go_num, rfl, HQ.out⟩
           case measure => simp [intOf]; omega)
        | (have hsz1 : U.heap.size ≤ wv.heap.size := bD'.size
           have HQ : Hid (∃ ps, RowGr w w.heap.size L2 (k + 1) d2 (rs.take (k + 1)) ps w6) := Lib.hid ⟨_, by
             rw [List.take_add_one, HX.out]
             exact RowGr.snoc (qs := [(.slice C cn cc, x.lo), (.slice D dn dc, x.hi)]) HRU.out bC' (fam_two (oC.mono hsz1) ((oD.mono (show U.heap.size ≤ _ by first | exact Nat.le_refl _ | omega)).below bC) (Dj.symm (Dj.old oD oC (Nat.le_refl _)))) rfl rfl ((Below.refl _ _).alloc (Nat.le_refl _) _) hL rfl hg⟩
           clear hL hg oC oD bC bD bC' bD' p0 p1 p2 n0 n1 n2 hsz1
           go_wp2_with fail
           go_roundw
           case rel => exact ⟨k + 1, d2, L2, by omega, by go_num, rfl, HQ.out⟩
           case measure => simp [intOf]; omega)
    · obtain rfl : k = n := by omega
      have htk : rs.take k = rs := List.take_of_length_le (by rw [HL.out]; exact Nat.le_refl _)
      have HF : Hid (RetRg w rs (.returned (.slice L k d)) wr) := Lib.hid ⟨L, k, d, ps, rfl, by have := HR.out; rw [htk] at this; exact this⟩
      clear htk hR
      go_wp2_with fail
      go_ret
      exact HF.out
end Go.Proofs.Ytmpdenpopokigaa
namespace Go.Proofs.Ytmpdenpopokigaa
end Go.Proofs.Ytmpdenpopokigaa
namespace Go.Proofs.Ytmpdenpopokigaa
open Go Go.RowKit

section
variable {w : World} {A : Option Addr} {n c : Nat} {es : List En}
end
end Go.Proofs.Ytmpdenpopokigaa
namespace Go.Proofs.Ytmpdenpopokigaa
open Go Go.RowKit

end Go.Proofs.Ytmpdenpopokigaa
namespace Go.Proofs.Ytmpdenpopokigaa
open Go Go.RowKit

theorem OwnGr.fr {w w' : World} {bl : List Nat} {base n c : Nat} {A : Option Addr} {vs : List Value} (h : OwnGr w base A n c vs) (hf : Fr w w' bl) (ho : ∀ b, blk A = some b → b ∉ bl) : OwnGr w' base A n c vs := by
  refine ⟨h.1, ?_⟩
  rcases h.2 with h1 | ⟨g, cap, cur, h1, h2, h3, h4⟩
  · exact .inl h1
  · injection h1 with h1 h5 h6
    subst h1 h6
    exact .inr ⟨g, _, cur, rfl, h2, (hf.block g (Array.getElem?_eq_some_iff.1 h3).1 (ho g rfl)).trans h3, h4⟩
/-- An owner: its block, its name, what it holds and asks for (where that lies), its turn. -/
structure Ob where
  b : Nat
  s : Nat
  q : Nat
  hA : Option Addr
  hc : Nat
  held : List Rg
  aA : Option Addr
  ac : Nat
  asked : List Rg
  turn : Nat
/-- The rows' blocks. -/
def Ob.rows (o : Ob) : List Nat := (blk o.hA).toList ++ (blk o.aA).toList
/-- Bytes that lie somewhere from base on; some may share memory. -/
def FamW (w : World) (base : Nat) (ps : List VB) : Prop := ∀ p ∈ ps, ∃ A m c, p.1 = .slice A m c ∧ Own 5 w base A m c p.2
/-- A row of ranges, whose bytes lie somewhere. -/
def RgAt (w : World) (bs : Nat) (A : Option Addr) (c : Nat) (rs : List Rg) : Prop := ∃ ps, OwnGr w bs A rs.length c (flatG rs ps) ∧ FamW w bs ps ∧ ps.map (·.2) = datG rs
/-- 'The owner lies in memory so.' -/
def ObAt (w : World) (bs : Nat) (o : Ob) : Prop :=
  Cl w o.b #[.int .u64 (o.s : Int), .int .u64 (o.q : Int), .slice o.hA o.held.length o.hc, .slice o.aA o.asked.length o.ac, .int .u64 (o.turn : Int)] 164 ∧
  bs ≤ o.b ∧ RgAt w bs o.hA o.hc o.held ∧ RgAt w bs o.aA o.ac o.asked ∧ o.rows.Nodup
/-- Two owners that share no block of their own. -/
def ApO (a b : Ob) : Prop := a.b ≠ b.b ∧ ∀ k ∈ a.rows, k ∉ b.rows
def obP (o : Ob) : Value := .pointer (some ⟨o.b, 0, none⟩)
theorem grvs_of_famW {w : World} {base : Nat} : ∀ {rs : List Rg} {ps : List VB}, FamW w base ps → ps.map (·.2) = datG rs → GrVs w rs (flatG rs ps)
  | [], ps, _, _ => by cases ps <;> rfl
  | r :: rs, [], _, h => by simp [datG] at h
  | r :: rs, [p], _, h => by simp [datG] at h
  | r :: rs, p :: q :: ps, hf, h => by
    simp only [List.map_cons, datG, List.cons.injEq] at h
    obtain ⟨A, m, c, e1, ho⟩ := hf p (by simp)
    obtain ⟨B, k, d, e2, ho2⟩ := hf q (by simp)
    refine ⟨_, _, _, _, rfl, ⟨rfl, ?_, ?_⟩, grvs_of_famW (fun x hx => hf x (by simp [hx])) h.2.2⟩
    · rw [e1, ← h.1]; exact elb_own ho
    · rw [e2, ← h.2.1]; exact elb_own ho2
theorem FamW.of {w : World} {base b2 : Nat} {ps : List VB} (h : Fam w base ps) (hb : b2 ≤ base) : FamW w b2 ps := fun p hp => by
  obtain ⟨A, m, c, e, ho⟩ := h.1 p hp
  exact ⟨A, m, c, e, ho.mono hb⟩
theorem FamW.app {w : World} {base : Nat} {ps qs : List VB} (h : FamW w base ps) (h2 : FamW w base qs) : FamW w base (ps ++ qs) := fun p hp => by
  rcases List.mem_append.1 hp with hp | hp
  · exact h p hp
  · exact h2 p hp
theorem FamW.below {w w' : World} {base : Nat} {ps : List VB} (h : FamW w base ps) (hb : Below w.heap.size w w') : FamW w' base ps := fun p hp => by
  obtain ⟨A, m, c, e, ho⟩ := h p hp
  exact ⟨A, m, c, e, ho.below hb⟩
/-- No bytes lie in these blocks. -/
def NoBy (w : World) (bl : List Nat) : Prop := ∀ b ∈ bl, ∀ (base : Nat) (A : Option Addr) (m c : Nat) (xs : List UInt8), Own 5 w base A m c xs → blk A ≠ some b
theorem NoBy.app {w : World} {bl bm : List Nat} (h : NoBy w bl) (h2 : NoBy w bm) : NoBy w (bl ++ bm) := fun b hb => by
  rcases List.mem_append.1 hb with hb | hb
  · exact h b hb
  · exact h2 b hb
theorem NoBy.cl {w : World} {p : Nat} {us : Array Value} {ty : TypeId} (hp : Cl w p us ty) (hne : ty ≠ 5) : NoBy w [p] := fun b hb base A m c xs ho => by
  obtain rfl : b = p := by simpa using hb
  exact cl_row hp ho hne
theorem NoBy.row {w : World} {base t s n c : Nat} {A : Option Addr} {vs : List Value} (h : w.ownsRow base t s (.slice A n c) n vs) (hne : t ≠ 5) : NoBy w (blk A).toList := fun b hb base A m c xs ho e => by
  simp only [Option.mem_toList] at hb
  exact row_ne h ho hne b hb e
theorem FamW.fr {w w' : World} {bl : List Nat} {base : Nat} {ps : List VB} (h : FamW w base ps) (hf : Fr w w' bl) (hn : NoBy w bl) : FamW w' base ps := fun p hp => by
  obtain ⟨A, m, c, e, ho⟩ := h p hp
  exact ⟨A, m, c, e, ho.fr hf (fun b hb hm => hn b hm _ _ _ _ _ ho hb)⟩
section
variable {w w' : World} {bs : Nat} {A : Option Addr} {c : Nat} {rs : List Rg} {o : Ob}
theorem RgAt.rd (h : RgAt w bs A c rs) : RGr w A rs.length rs := by
  obtain ⟨ps, h1, h2, h3⟩ := h
  exact RGr.mk (grvs_of_famW h2 h3) h1.rd rfl
theorem RgAt.below (h : RgAt w bs A c rs) (hb : Below w.heap.size w w') : RgAt w' bs A c rs := by
  obtain ⟨ps, h1, h2, h3⟩ := h
  exact ⟨ps, h1.below hb, h2.below hb, h3⟩
theorem RgAt.lt (h : RgAt w bs A c rs) (b : Nat) (hb : blk A = some b) : bs ≤ b ∧ b < w.heap.size := by
  obtain ⟨ps, h1, _⟩ := h
  exact h1.lt b hb
theorem RgAt.cap (h : RgAt w bs A c rs) : rs.length ≤ c ∧ c ≤ maxLen := by
  obtain ⟨ps, h1, _⟩ := h
  exact h1.cap
theorem RgAt.ne_cl {p : Nat} {us : Array Value} {ty : TypeId} (h : RgAt w bs A c rs) (hp : Cl w p us ty) (hne : ty ≠ 97) : blk A ≠ some p := by
  obtain ⟨ps, h1, _⟩ := h
  exact cl_row hp h1 hne
theorem RgAt.noBy (h : RgAt w bs A c rs) : NoBy w (blk A).toList := by
  obtain ⟨ps, h1, _⟩ := h
  exact NoBy.row h1 (by decide)
/-- Blocks that are neither the row's nor bytes have turned. -/
theorem RgAt.fr {bl : List Nat} (h : RgAt w bs A c rs) (hf : Fr w w' bl) (ho : ∀ b, blk A = some b → b ∉ bl) (hd : NoBy w bl) : RgAt w' bs A c rs := by
  obtain ⟨ps, h1, h2, h3⟩ := h
  exact ⟨ps, h1.fr hf ho, h2.fr hf hd, h3⟩
theorem RgAt.nil (w : World) (bs : Nat) : RgAt w bs none 0 [] := ⟨[], OwnGr.nil _ _, (fun p hp => by cases hp), rfl⟩
theorem ObAt.cl (h : ObAt w bs o) : Cl w o.b #[.int .u64 (o.s : Int), .int .u64 (o.q : Int), .slice o.hA o.held.length o.hc, .slice o.aA o.asked.length o.ac, .int .u64 (o.turn : Int)] 164 := h.1
theorem ObAt.hR (h : ObAt w bs o) : RgAt w bs o.hA o.hc o.held := h.2.2.1
theorem ObAt.aR (h : ObAt w bs o) : RgAt w bs o.aA o.ac o.asked := h.2.2.2.1
theorem ObAt.nd (h : ObAt w bs o) : o.rows.Nodup := h.2.2.2.2
theorem ObAt.ge (h : ObAt w bs o) : bs ≤ o.b := h.2.1
theorem ObAt.below (h : ObAt w bs o) (hb : Below w.heap.size w w') : ObAt w' bs o := ⟨h.1.below hb, h.2.1, h.2.2.1.below hb, h.2.2.2.1.below hb, h.2.2.2.2⟩
theorem ObAt.k0 (h : ObAt w bs o) : w.cell? ⟨o.b, 0, none⟩ = some (.int .u64 (o.s : Int)) := h.1.cell 0
theorem ObAt.k1 (h : ObAt w bs o) : w.cell? ⟨o.b, 1, none⟩ = some (.int .u64 (o.q : Int)) := h.1.cell 1
theorem ObAt.k2 (h : ObAt w bs o) : w.cell? ⟨o.b, 2, none⟩ = some (.slice o.hA o.held.length o.hc) := h.1.cell 2
theorem ObAt.k3 (h : ObAt w bs o) : w.cell? ⟨o.b, 3, none⟩ = some (.slice o.aA o.asked.length o.ac) := h.1.cell 3
theorem ObAt.k4 (h : ObAt w bs o) : w.cell? ⟨o.b, 4, none⟩ = some (.int .u64 (o.turn : Int)) := h.1.cell 4
theorem ObAt.lt (h : ObAt w bs o) : o.b < w.heap.size := h.1.lt
end
/-- 'A slice of pointers reads as these owners.' -/
def ROb (w : World) (bs : Nat) (A : Option Addr) (n : Nat) (os : List Ob) : Prop := RdV w A n (os.map obP) ∧ ∀ o ∈ os, ObAt w bs o
theorem ROb.below {w w' : World} {bs : Nat} {A : Option Addr} {n : Nat} {os : List Ob} (h : ROb w bs A n os) (hb : Below w.heap.size w w') : ROb w' bs A n os := ⟨h.1.below hb, fun o ho => (h.2 o ho).below hb⟩
theorem ROb.len {w : World} {bs : Nat} {A : Option Addr} {n : Nat} {os : List Ob} (h : ROb w bs A n os) : os.length = n := by have := h.1.len; simpa using this
theorem ROb.at_ {w : World} {bs b off n : Nat} {os : List Ob} (h : ROb w bs (some ⟨b, off, none⟩) n os) (k : Nat) (hk : k < n) : ∃ o, os[k]? = some o ∧ w.cell? ⟨b, off + k, none⟩ = some (.pointer (some ⟨o.b, 0, none⟩)) ∧ ObAt w bs o := by
  obtain ⟨v, hv, hc⟩ := h.1.at_ k hk
  rw [List.getElem?_map] at hv
  cases ho : os[k]? with
  | none => rw [ho] at hv; cases hv
  | some o =>
    rw [ho] at hv
    injection hv with hv
    subst hv
    exact ⟨o, rfl, hc, h.2 o (List.mem_of_getElem? ho)⟩
/-- The first place at which P holds, or -1. -/
def ixB (P : Ob → Bool) (os : List Ob) : Int := match os.findIdx? P with
  | some i => (i : Int)
  | none => -1
theorem ixB_no {P : Ob → Bool} {os : List Ob} (h : os.any P = false) : ixB P os = -1 := by
  unfold ixB
  have : os.findIdx? P = none := by
    rw [List.findIdx?_eq_none_iff]
    intro x hx
    have := List.any_eq_false.1 h x hx
    simpa using this
  rw [this]
theorem ixB_yes {P : Ob → Bool} {os : List Ob} {k : Nat} {o : Ob} (h : (os.take k).any P = false) (ho : os[k]? = some o) (hp : P o = true) : ixB P os = (k : Int) := by
  unfold ixB
  have hk := (List.getElem?_eq_some_iff.1 ho)
  obtain ⟨hk1, hk2⟩ := hk
  have : os.findIdx? P = some k := by
    rw [List.findIdx?_eq_some_iff_getElem]
    refine ⟨hk1, by rw [hk2]; exact hp, fun j hj => ?_⟩
    have h1 := List.any_eq_false.1 h (os[j]'(by omega)) (by
      rw [List.mem_iff_getElem]
      exact ⟨j, by rw [List.length_take]; omega, by simp⟩)
    simpa using h1
  rw [this]
section
variable {w : World} {bs : Nat} {A : Option Addr} {n c : Nat} {os : List Ob}
set_option maxRecDepth 100000 in
set_option maxHeartbeats 4000000 in
theorem indexO_any (g : Nat) (pre cb : Array Value) (P : Ob → Bool) (eg : ∀ args w, (callFunc g args).run Try.prog w = .ok (.enter g args) w) (hr : ROb w bs A n os) (hn : n ≤ 1099511627776)
    (hf : ∀ wx, Below w.heap.size w wx → ∀ o, o ∈ os → Calls Try.prog g (pre.push (.pointer (some ⟨o.b, 0, none⟩)) ++ cb) wx (RetT wx (P o))) :
    Calls Try.prog 143 #[.slice A n c, .func (.func g) pre cb] w (RetNu w (ixB P os)) := by
  have HF := Lib.hid hf
  have HR := Lib.hid hr
  have HL := Lib.hid hr.len
  clear hf hr
  go_enter Try.func143, Try.ntmps143
  go_wp2_with fail
  go_loopw [8] (fun s8 wr => ∃ k : Nat, k ≤ n ∧ s8 = .int .i64 (k : Int) ∧ (os.take k).any P = false ∧ Below w.heap.size w wr) (fun s _ => n - (intOf s).toNat)
  case atStart => exact ⟨0, Nat.zero_le _, rfl, rfl, Below.refl _ _⟩
  case round =>
    obtain ⟨k, hk, rfl, hany, hB⟩ := hrel
    have HA := Lib.hid hany
    have HB := Lib.hid hB
    clear hany hB
    by_cases hlt : k < n
    · have hR := HR.out.below HB.out
      obtain ⟨b, off, hAb, hbl⟩ := hR.1.pos (by omega)
      subst hAb
      obtain ⟨x, hx, m0, hv⟩ := hR.at_ k hlt
      obtain ⟨xb, hxb⟩ : ∃ xb, xb = x.b := ⟨_, rfl⟩
      rw [← hxb] at m0
      obtain ⟨z, hz⟩ : ∃ z, z = P x := ⟨_, rfl⟩
      have HC : Hid (Calls Try.prog g (pre.push (.pointer (some ⟨xb, 0, none⟩)) ++ cb) wr (RetT wr z)) := Lib.hid (by rw [hz, hxb]; exact HF.out wr HB.out x (List.mem_of_getElem? hx))
      have HT : Hid ((os.take (k + 1)).any P = z) := Lib.hid (by rw [any_take_succ P hx, HA.out, hz]; simp)
      have HM : Hid (z = true → ixB P os = (k : Int)) := Lib.hid (fun h => ixB_yes HA.out hx (by rw [← hz]; exact h))
      clear hR hx hv hz hxb
      go_wp2_with fail
      with_reducible refine HC.out.mono ?_
      intro e w2 hq
      obtain ⟨h1, b2⟩ := RetT.outD hq
      subst h1
      have HB2 := Lib.hid (belowT' HB.out b2)
      clear hq b2 m0
      cases z with
      | true =>
        have HF2 : Hid (RetNu w (ixB P os) (.returned (.int .i64 (k : Int))) w2) := Lib.hid ⟨by rw [HM.out rfl], HB2.out⟩
        go_wp2_with fail
        go_ret
        exact HF2.out
      | false =>
        go_wp2_with fail
        go_roundw
        case rel => exact ⟨k + 1, by omega, by go_num, HT.out, HB2.out⟩
        case measure => simp [intOf]; omega
    · have HF2 : Hid (RetNu w (ixB P os) (.returned (.int .i64 (-1))) wr) := Lib.hid ⟨by
        have h1 := HA.out
        rw [List.take_of_length_le (by rw [HL.out]; omega)] at h1
        rw [ixB_no h1], HB.out⟩
      go_wp2_with fail
      go_ret
      exact HF2.out
theorem ixB_any (P : Ob → Bool) (os : List Ob) : decide (0 ≤ ixB P os) = os.any P := by
  cases h : os.any P with
  | false => rw [ixB_no h]; rfl
  | true =>
    unfold ixB
    cases h2 : os.findIdx? P with
    | some i => simp
    | none =>
      rw [List.findIdx?_eq_none_iff] at h2
      obtain ⟨x, hx, hp⟩ := List.any_eq_true.1 h
      rw [h2 x hx] at hp
      cases hp
set_option maxRecDepth 100000 in
set_option maxHeartbeats 4000000 in
theorem containsO_any (g : Nat) (pre cb : Array Value) (P : Ob → Bool) (eg : ∀ args w, (callFunc g args).run Try.prog w = .ok (.enter g args) w) (hr : ROb w bs A n os) (hn : n ≤ 1099511627776)
    (hf : ∀ wx, Below w.heap.size w wx → ∀ o, o ∈ os → Calls Try.prog g (pre.push (.pointer (some ⟨o.b, 0, none⟩)) ++ cb) wx (RetT wx (P o))) :
    Calls Try.prog 139 #[.slice A n c, .func (.func g) pre cb] w (RetT w (os.any P)) := by
  obtain ⟨z, hz⟩ : ∃ z, z = ixB P os := ⟨_, rfl⟩
  have HI : Hid (Calls Try.prog 143 #[.slice A n c, .func (.func g) pre cb] w (RetNu w z)) := Lib.hid (by rw [hz]; exact indexO_any (c := c) g pre cb P eg hr hn hf)
  have HZ : Hid (os.any P = decide (0 ≤ z)) := Lib.hid (by rw [hz, ixB_any])
  clear hf hr eg hz
  go_enter Try.func139, Try.ntmps139
  go_wp2_with fail
  with_reducible refine HI.out.mono ?_
  intro e w2 hq
  obtain ⟨h1, b2⟩ : e = .returned (.int .i64 z) ∧ Below w.heap.size w w2 := hq
  subst h1
  have HB2 := Lib.hid b2
  clear b2
  go_wp2_with fail
  go_ret
  exact ⟨by rw [HZ.out]; rfl, HB2.out⟩
set_option maxRecDepth 100000 in
theorem eqTxn (a b c d : Int) (w : World) : (binOp .eql 83 (.agg #[.int .u64 a, .int .u64 b]) (.agg #[.int .u64 c, .int .u64 d])).run Try.prog w = .ok (.bool (a == c && b == d)) w := by
  have hS : Try.prog.underlying 83 = some (.struct (Try.prog.fieldsOf 83)) := by kernel_rfl
  have hp : Try.prog.stoodInHeld 83 = false := by kernel_rfl
  have u := Try.underlying35
  rw [run_eql_struct, show (10000 : Nat) = 9999 + 1 from rfl, run_equalIn_agg w 9999 83 _ _ hS hp]
  simp only [Program.fieldsOf, Try.underlying83]
  go_simp
  by_cases h1 : a = c <;> by_cases h2 : b = d <;> simp [h1, h2]
/-- Is it of that name? -/
def isO (s q : Nat) (o : Ob) : Bool := ((o.s : Int) == (s : Int)) && ((o.q : Int) == (q : Int))
set_option maxRecDepth 100000 in
set_option maxHeartbeats 4000000 in
theorem find1_any {g s q : Nat} {o : Ob} (hg : Cl w g #[.int .u64 (s : Int), .int .u64 (q : Int)] 83) (ho : ObAt w bs o) : Calls Try.prog 147 #[.pointer (some ⟨o.b, 0, none⟩), .pointer (some ⟨g, 0, none⟩)] w (RetT w (isO s q o)) := by
  have c0 := hg.cell 0
  have c1 := hg.cell 1
  have d0 := ho.k0
  have d1 := ho.k1
  have heq := eqTxn (o.s : Int) (o.q : Int) (s : Int) (q : Int)
  obtain ⟨ob, hob⟩ : ∃ ob, ob = o.b := ⟨_, rfl⟩
  rw [← hob] at d0 d1 ⊢
  clear hg ho hob
  go_enter Try.func147, Try.ntmps147
  go_wp2_with fail
  go_quiet (fail)
  clear heq
  go_wp2_with fail
  go_ret
  exact ⟨rfl, below_drewN (Below.refl _ _) nq⟩
theorem ixB_find (P : Ob → Bool) (os : List Ob) : (ixB P os = -1 ∧ os.find? P = none) ∨ ∃ (k : Nat) (o : Ob), ixB P os = (k : Int) ∧ os[k]? = some o ∧ os.find? P = some o := by
  cases h : os.findIdx? P with
  | none =>
    refine .inl ⟨by unfold ixB; rw [h], ?_⟩
    rw [List.findIdx?_eq_none_iff] at h
    rw [List.find?_eq_none]
    intro x hx
    simpa using h x hx
  | some k =>
    have h1 := h
    rw [List.findIdx?_eq_some_iff_getElem] at h1
    obtain ⟨hk, hp, hj⟩ := h1
    refine .inr ⟨k, os[k], by unfold ixB; rw [h], List.getElem?_eq_getElem hk, ?_⟩
    rw [List.find?_eq_some_iff_getElem]
    exact ⟨hp, k, hk, rfl, fun j hjk => by simpa using hj j hjk⟩
end
/-- 'The table lies in memory so.' -/
def TkAt (w : World) (bs : Nat) (p : Nat) (OA : Option Addr) (oc turns : Nat) (os : List Ob) : Prop :=
  Cl w p #[.slice OA os.length oc, .int .u64 (turns : Int)] 91 ∧ bs ≤ p ∧ OwnV 157 w bs OA os.length oc (os.map obP) ∧ (∀ o ∈ os, ObAt w bs o) ∧ os.Pairwise ApO
/-- A pointer to it, or nil. -/
def ptO (o : Option Ob) : Value := .pointer (o.map fun x => ⟨x.b, 0, none⟩)
def RetOb (w : World) (o : Option Ob) (e : Ending) (w' : World) : Prop := e = .returned (ptO o) ∧ Below w.heap.size w w'
theorem RetOb.out {w : World} {o : Option Ob} {e : Ending} {w' : World} (h : RetOb w o e w') : e = .returned (ptO o) ∧ Below w.heap.size w w' := h
section
variable {w w' : World} {bs p : Nat} {OA : Option Addr} {oc turns : Nat} {os : List Ob}
theorem TkAt.cl (h : TkAt w bs p OA oc turns os) : Cl w p #[.slice OA os.length oc, .int .u64 (turns : Int)] 91 := h.1
theorem TkAt.ge (h : TkAt w bs p OA oc turns os) : bs ≤ p := h.2.1
theorem TkAt.row (h : TkAt w bs p OA oc turns os) : OwnV 157 w bs OA os.length oc (os.map obP) := h.2.2.1
theorem TkAt.obs (h : TkAt w bs p OA oc turns os) : ∀ o ∈ os, ObAt w bs o := h.2.2.2.1
theorem TkAt.dis (h : TkAt w bs p OA oc turns os) : os.Pairwise ApO := h.2.2.2.2
theorem TkAt.below (h : TkAt w bs p OA oc turns os) (hb : Below w.heap.size w w') : TkAt w' bs p OA oc turns os := by
  obtain ⟨h1, h0, h2, h3, h4⟩ := h
  exact ⟨h1.below hb, h0, h2.below hb, fun o ho => (h3 o ho).below hb, h4⟩
theorem TkAt.rob (h : TkAt w bs p OA oc turns os) : ROb w bs OA os.length os := ⟨h.row.rd, h.obs⟩
theorem TkAt.k0 (h : TkAt w bs p OA oc turns os) : w.cell? ⟨p, 0, none⟩ = some (.slice OA os.length oc) := h.1.cell 0
theorem TkAt.k1 (h : TkAt w bs p OA oc turns os) : w.cell? ⟨p, 1, none⟩ = some (.int .u64 (turns : Int)) := h.1.cell 1
set_option maxRecDepth 100000 in
set_option maxHeartbeats 4000000 in
theorem find_any16 (h : TkAt w bs p OA oc turns os) (hn : os.length ≤ 1099511627776) (s q : Nat) : Calls Try.prog 104 #[.pointer (some ⟨p, 0, none⟩), .agg #[.int .u64 (s : Int), .int .u64 (q : Int)]] w (RetOb w (os.find? (isO s q))) := by
  obtain ⟨W, hW⟩ : ∃ W, W = w.alloc (.cells #[.int .u64 (s : Int), .int .u64 (q : Int)] 83) := ⟨_, rfl⟩
  have bW : Below w.heap.size w W := by rw [hW]; exact (Below.refl _ _).alloc (Nat.le_refl _) _
  have zW : Cl W w.heap.size #[.int .u64 (s : Int), .int .u64 (q : Int)] 83 := by rw [hW]; exact Cl.new _ _ _
  have hT := h.below bW
  obtain ⟨z, hz⟩ : ∃ z, z = ixB (isO s q) os := ⟨_, rfl⟩
  have HIX : Hid (Calls Try.prog 143 #[.slice OA os.length oc, .func (.func 147) #[] #[.pointer (some ⟨w.heap.size, 0, none⟩)]] W (RetNu W z)) := Lib.hid (by
    rw [hz]
    exact indexO_any (c := oc) 147 #[] #[.pointer (some ⟨w.heap.size, 0, none⟩)] (isO s q) (fun _ _ => rfl) hT.rob hn (fun wx hb o ho => find1_any (zW.below hb) ((hT.obs o ho).below hb)))
  have HZ := Lib.hid (ixB_find (isO s q) os)
  rw [← hz] at HZ
  obtain ⟨n, hn2⟩ : ∃ n, n = os.length := ⟨_, rfl⟩
  have k0 : W.cell? ⟨p, 0, none⟩ = some (.slice OA n oc) := by rw [hn2]; exact hT.k0
  have HT := Lib.hid hT
  have HW := Lib.hid hW
  have HB := Lib.hid bW
  rw [← hn2] at HIX hn
  have HN := Lib.hid hn2
  clear h bW zW hT hz hW hn2
  go_enter Try.func104, Try.ntmps104
  go_upto_region 1 with (fail)
  rw [← HW.out]
  go_wp2_with fail
  with_reducible refine HIX.out.mono ?_
  intro e w2 hq
  obtain ⟨h1, b2⟩ : e = .returned (.int .i64 z) ∧ Below W.heap.size W w2 := hq
  subst h1
  have HT2 := Lib.hid (HT.out.below b2)
  have HB2 := Lib.hid (belowT' HB.out b2)
  clear b2 k0
  have k0 : w2.cell? ⟨p, 0, none⟩ = some (.slice OA n oc) := by rw [HN.out]; exact HT2.out.k0
  rcases HZ.out with ⟨hz, hf⟩ | ⟨k, o, hz, ho, hf⟩
  · subst hz
    have HF : Hid (RetOb w (os.find? (isO s q)) (.returned (.pointer none)) w2) := Lib.hid ⟨by rw [hf]; rfl, HB2.out⟩
    clear hf
    go_wp2_with fail
    go_ret
    exact HF.out
  · subst hz
    have hkn : k < n := by rw [HN.out]; exact (List.getElem?_eq_some_iff.1 ho).1
    obtain ⟨b, off, hOA, _⟩ := HT2.out.rob.1.pos (by rw [← HN.out]; omega)
    subst hOA
    obtain ⟨o', ho', m0, _⟩ := HT2.out.rob.at_ k (by rw [← HN.out]; exact hkn)
    obtain rfl : o' = o := by rw [ho] at ho'; injection ho' with ho'; exact ho'.symm
    have HF : Hid (RetOb w (os.find? (isO s q)) (.returned (.pointer (some ⟨o'.b, 0, none⟩))) w2) := Lib.hid ⟨by rw [hf]; rfl, HB2.out⟩
    obtain ⟨ob, hob⟩ : ∃ ob, ob = o'.b := ⟨_, rfl⟩
    rw [← hob] at m0 HF
    clear hf ho ho' hob
    go_wp2_with fail
    go_ret
    exact HF.out
end
end Go.Proofs.Ytmpdenpopokigaa
namespace Go.Proofs.Ytmpdenpopokigaa
open Go Go.RowKit
section
variable {w : World} {A : Option Addr} {n c : Nat} {rs : List Rg}
end
end Go.Proofs.Ytmpdenpopokigaa
namespace Go.Proofs.Ytmpdenpopokigaa
open Go Go.RowKit

/-- A number as a value. -/
def uv (m : Nat) : Value := .int .u64 (m : Int)
/-- 'The slice of n numbers at A reads as these.' -/
def RdU (w : World) (A : Option Addr) (n : Nat) (ms : List Nat) : Prop := RdV w A n (ms.map uv) ∧ ∀ m ∈ ms, U64 m
theorem RdU.len {w : World} {A : Option Addr} {n : Nat} {ms : List Nat} (h : RdU w A n ms) : ms.length = n := by
  have := h.1.1
  simpa using this
theorem RdU.below {w w' : World} {A : Option Addr} {n : Nat} {ms : List Nat} (h : RdU w A n ms) (hb : Below w.heap.size w w') : RdU w' A n ms := ⟨h.1.below hb, h.2⟩
theorem RdU.drewN {w : World} {A : Option Addr} {n : Nat} {ms : List Nat} (h : RdU w A n ms) (q : Nat) : RdU (w.drewN q) A n ms := h.below (below_drewN (Below.refl _ _) q)
theorem RdU.at_ {w : World} {b off n : Nat} {ms : List Nat} (h : RdU w (some ⟨b, off, none⟩) n ms) (k : Nat) (hk : k < n) : ∃ m, ms[k]? = some m ∧ w.cell? ⟨b, off + k, none⟩ = some (.int .u64 (m : Int)) ∧ U64 m := by
  obtain ⟨v, h1, h2⟩ := h.1.at_ k hk
  rw [List.getElem?_map] at h1
  cases hm : ms[k]? with
  | none => rw [hm] at h1; cases h1
  | some m =>
    rw [hm] at h1
    injection h1 with h1
    exact ⟨m, rfl, by rw [h2, ← h1]; rfl, h.2 m (List.mem_of_getElem? hm)⟩
end Go.Proofs.Ytmpdenpopokigaa
namespace Go.Proofs.Ytmpdenpopokigaa
open Go Go.RowKit

def RetBt (W : World) (es : List En) (e : Ending) (w' : World) : Prop := ∃ L k d, e = .returned (.slice L k d) ∧ RowE W W.heap.size L k d es w'
theorem RetBt.out {W : World} {es : List En} {e : Ending} {w' : World} (h : RetBt W es e w') : ∃ L k d, e = .returned (.slice L k d) ∧ RowE W W.heap.size L k d es w' := h
end Go.Proofs.Ytmpdenpopokigaa
namespace Go.Proofs.Ytmpdenpopokigaa
open Go Go.RowKit

/-- Does it wait for the other one? -/
def wfO (o u : Ob) : Bool := if o.b = u.b ∨ o.turn = 0 then false else clashR o.asked u.held || (decide (0 < u.turn) && decide (u.turn < o.turn) && clashR o.asked u.asked)
def ObSz (o : Ob) : Prop := o.held.length ≤ 1099511627776 ∧ o.asked.length ≤ 1099511627776
theorem info_ow : (Try.prog.info? 164).map (fun i => (i.zero, i.size, i.bytes)) = some (some (.agg #[.int .u64 0, .int .u64 0, .slice none 0 0, .slice none 0 0, .int .u64 0]), 5, 72) := by kernel_rfl
section
variable {w : World} {bs : Nat} {o u : Ob}
set_option maxRecDepth 100000 in
set_option maxHeartbeats 4000000 in
/-- The walk, where all tests are known. -/
theorem waitsFor_walk {ob ub na nh nu tO tu : Nat} {oA uA hA : Option Addr} {oc uc hc : Nat} {c1 c2 z1 z2 : Bool}
    (heq : (binOp .eql 157 (.pointer (some ⟨ob, 0, none⟩)) (.pointer (some ⟨ub, 0, none⟩))).run Try.prog w = .ok (.bool false) w)
    (o4 : w.cell? ⟨ob, 4, none⟩ = some (.int .u64 (tO : Int))) (u4 : w.cell? ⟨ub, 4, none⟩ = some (.int .u64 (tu : Int))) (ht : ¬ tO = 0) (hz1 : z1 = decide (0 < tu)) (hz2 : z2 = decide (tu < tO))
    (hc1 : ∀ wx, Below w.heap.size w wx → Calls Try.prog 138 #[.slice oA na oc, .slice hA nh hc] wx (RetT wx c1))
    (hc2 : ∀ wx, Below w.heap.size w wx → Calls Try.prog 138 #[.slice oA na oc, .slice uA nu uc] wx (RetT wx c2))
    (hs : ∀ wx, Below w.heap.size w wx → wx.cell? ⟨ob, 3, none⟩ = some (.slice oA na oc) ∧ wx.cell? ⟨ub, 2, none⟩ = some (.slice hA nh hc) ∧ wx.cell? ⟨ub, 3, none⟩ = some (.slice uA nu uc)) :
    Calls Try.prog 148 #[.pointer (some ⟨ob, 0, none⟩), .pointer (some ⟨ub, 0, none⟩)] w (RetT w (c1 || (z1 && z2 && c2))) := by
  have e0 : ((tO : Int) == 0) = false := by rw [beq_eq_false_iff_ne]; omega
  have HC1 := Lib.hid hc1
  have HC2 := Lib.hid hc2
  have HS := Lib.hid hs
  clear hc1 hc2 hs
  by_cases h1 : 0 < tu
  · obtain rfl : z1 = true := by rw [hz1]; simpa using h1
    by_cases h2 : tu < tO
    · obtain rfl : z2 = true := by rw [hz2]; simpa using h2
      clear hz1 hz2
      cases c1 with
      | true =>
        go_enter Try.func148, Try.ntmps148
        go_wp2_with fail
        go_quiet (fail)
        obtain ⟨V, hV⟩ : ∃ V, V = w.drewN nq := ⟨_, rfl⟩
        have bV : Below w.heap.size w V := by rw [hV]; exact below_drewN (Below.refl _ _) nq
        have HV := Lib.hid hV
        have bD : Below w.heap.size w V.drew := bV.drew
        have hS0 := HS.out _ bD
        clear hV bV heq o4 u4
        go_upto_region 4 with (fail)
        rw [← HV.out]
        refine AnyS.begin (S := fun wx => wx.cell? ⟨ob, 3, none⟩ = some (.slice oA na oc) ∧ wx.cell? ⟨ub, 2, none⟩ = some (.slice hA nh hc) ∧ wx.cell? ⟨ub, 3, none⟩ = some (.slice uA nu uc)) 23 (by kernel_rfl) hS0 (fun hHeld => ?_)
        refine AnyS.take (i := 0) (oi := _) (d := some 32) (v := ?_) rfl rfl (by kernel_rfl) (fun _ _ _ h => h) (Or.inl ⟨by rfl, ?_⟩) (by assumption) ?_
        rotate_left 1
        · intro w hSw; obtain ⟨g0, g1, g2⟩ := hSw; go_simp <;> with_reducible rfl
        try simp only [Act.put, List.setIfInBounds_toArray, List.set_cons_zero, List.set_cons_succ]
        refine AnyS.take (i := 1) (oi := _) (d := some 33) (v := ?_) rfl rfl (by kernel_rfl) (fun _ _ _ h => h) (Or.inl ⟨by rfl, ?_⟩) (by assumption) ?_
        rotate_left 1
        · intro w hSw; obtain ⟨g0, g1, g2⟩ := hSw; go_simp <;> with_reducible rfl
        try simp only [Act.put, List.setIfInBounds_toArray, List.set_cons_zero, List.set_cons_succ]
        refine AnyS.take (i := 2) (oi := _) (d := some 34) (v := ?_) rfl rfl (by kernel_rfl) (fun _ _ _ h => h) (Or.inl ⟨by rfl, ?_⟩) (by assumption) ?_
        rotate_left 1
        · intro w hSw; obtain ⟨g0, g1, g2⟩ := hSw; go_simp <;> with_reducible rfl
        try simp only [Act.put, List.setIfInBounds_toArray, List.set_cons_zero, List.set_cons_succ]
        refine AnyS.take (i := 3) (oi := _) (d := some 35) (v := ?_) rfl rfl (by kernel_rfl) (fun _ _ _ h => h) (Or.inl ⟨by rfl, ?_⟩) (by assumption) ?_
        rotate_left 1
        · intro w hSw; obtain ⟨g0, g1, g2⟩ := hSw; go_simp <;> with_reducible rfl
        try simp only [Act.put, List.setIfInBounds_toArray, List.set_cons_zero, List.set_cons_succ]
        refine AnyS.take (i := 4) (oi := _) (d := some 36) (v := ?_) rfl rfl (by kernel_rfl) (fun _ _ _ h => h) (Or.inl ⟨by rfl, ?_⟩) (by assumption) ?_
        rotate_left 1
        · intro w hSw; obtain ⟨g0, g1, g2⟩ := hSw; go_simp <;> with_reducible rfl
        try simp only [Act.put, List.setIfInBounds_toArray, List.set_cons_zero, List.set_cons_succ]
        refine AnyS.take (i := 5) (oi := _) (d := some 37) (v := ?_) rfl rfl (by kernel_rfl) (fun _ _ _ h => h) (Or.inl ⟨by rfl, ?_⟩) (by assumption) ?_
        rotate_left 1
        · intro w hSw; obtain ⟨g0, g1, g2⟩ := hSw; go_simp <;> with_reducible rfl
        try simp only [Act.put, List.setIfInBounds_toArray, List.set_cons_zero, List.set_cons_succ]
        refine AnyS.take (i := 6) (oi := _) (d := some 38) (v := ?_) rfl rfl (by kernel_rfl) (fun _ _ _ h => h) (Or.inl ⟨by rfl, ?_⟩) (by assumption) ?_
        rotate_left 1
        · intro w hSw; obtain ⟨g0, g1, g2⟩ := hSw; go_simp <;> with_reducible rfl
        try simp only [Act.put, List.setIfInBounds_toArray, List.set_cons_zero, List.set_cons_succ]
        refine AnyS.take (i := 7) (oi := _) (d := some 39) (v := ?_) rfl rfl (by kernel_rfl) (fun _ _ _ h => h) (Or.inl ⟨by rfl, ?_⟩) (by assumption) ?_
        rotate_left 1
        · intro w hSw; obtain ⟨g0, g1, g2⟩ := hSw; go_simp <;> with_reducible rfl
        try simp only [Act.put, List.setIfInBounds_toArray, List.set_cons_zero, List.set_cons_succ]
        refine AnyS.one (i := 8) (o := _) rfl (by kernel_rfl) (by decide) (fun K hK => ?_)
        go_simp
        go_at_call 138
        with_reducible refine (HC1.out _ bD).mono ?_
        intro e wk1 hq
        obtain ⟨h1, bk⟩ := RetT.outD hq
        subst h1
        have HBK1 := Lib.hid (belowT' bD bk)
        clear bk hq
        have hS1 := HS.out _ HBK1.out
        refine hK.out _ _ hS1 (fun hHeld2 => ?_)
        clear hK K
        try simp only [Act.put, List.setIfInBounds_toArray, List.set_cons_zero, List.set_cons_succ]
        refine AnyS.take (i := 9) (oi := _) (d := some 41) (v := ?_) rfl rfl (by kernel_rfl) (fun _ _ _ h => h) (Or.inl ⟨by rfl, ?_⟩) (by assumption) ?_
        rotate_left 1
        · intro w hSw; obtain ⟨g0, g1, g2⟩ := hSw; go_simp <;> with_reducible rfl
        try simp only [Act.put, List.setIfInBounds_toArray, List.set_cons_zero, List.set_cons_succ]
        refine AnyS.take (i := 10) (oi := _) (d := some 42) (v := undef) rfl rfl (by kernel_rfl) (fun _ _ _ h => h) (Or.inr ⟨by rfl, rfl⟩) (by assumption) ?_
        try simp only [Act.put, List.setIfInBounds_toArray, List.set_cons_zero, List.set_cons_succ]
        refine AnyS.take (i := 11) (oi := _) (d := some 43) (v := undef) rfl rfl (by kernel_rfl) (fun _ _ _ h => h) (Or.inr ⟨by rfl, rfl⟩) (by assumption) ?_
        try simp only [Act.put, List.setIfInBounds_toArray, List.set_cons_zero, List.set_cons_succ]
        refine AnyS.take (i := 12) (oi := _) (d := some 44) (v := undef) rfl rfl (by kernel_rfl) (fun _ _ _ h => h) (Or.inr ⟨by rfl, rfl⟩) (by assumption) ?_
        try simp only [Act.put, List.setIfInBounds_toArray, List.set_cons_zero, List.set_cons_succ]
        refine AnyS.take (i := 13) (oi := _) (d := some 45) (v := undef) rfl rfl (by kernel_rfl) (fun _ _ _ h => h) (Or.inr ⟨by rfl, rfl⟩) (by assumption) ?_
        try simp only [Act.put, List.setIfInBounds_toArray, List.set_cons_zero, List.set_cons_succ]
        refine AnyS.take (i := 14) (oi := _) (d := some 46) (v := undef) rfl rfl (by kernel_rfl) (fun _ _ _ h => h) (Or.inr ⟨by rfl, rfl⟩) (by assumption) ?_
        try simp only [Act.put, List.setIfInBounds_toArray, List.set_cons_zero, List.set_cons_succ]
        refine AnyS.take (i := 15) (oi := _) (d := some 47) (v := undef) rfl rfl (by kernel_rfl) (fun _ _ _ h => h) (Or.inr ⟨by rfl, rfl⟩) (by assumption) ?_
        try simp only [Act.put, List.setIfInBounds_toArray, List.set_cons_zero, List.set_cons_succ]
        refine AnyS.take (i := 16) (oi := _) (d := some 48) (v := undef) rfl rfl (by kernel_rfl) (fun _ _ _ h => h) (Or.inr ⟨by rfl, rfl⟩) (by assumption) ?_
        try simp only [Act.put, List.setIfInBounds_toArray, List.set_cons_zero, List.set_cons_succ]
        refine AnyS.take (i := 17) (oi := _) (d := some 49) (v := undef) rfl rfl (by kernel_rfl) (fun _ _ _ h => h) (Or.inr ⟨by rfl, rfl⟩) (by assumption) ?_
        try simp only [Act.put, List.setIfInBounds_toArray, List.set_cons_zero, List.set_cons_succ]
        refine AnyS.take (i := 18) (oi := _) (d := some 50) (v := undef) rfl rfl (by kernel_rfl) (fun _ _ _ h => h) (Or.inr ⟨by rfl, rfl⟩) (by assumption) ?_
        try simp only [Act.put, List.setIfInBounds_toArray, List.set_cons_zero, List.set_cons_succ]
        refine AnyS.take (i := 19) (oi := _) (d := some 51) (v := undef) rfl rfl (by kernel_rfl) (fun _ _ _ h => h) (Or.inr ⟨by rfl, rfl⟩) (by assumption) ?_
        try simp only [Act.put, List.setIfInBounds_toArray, List.set_cons_zero, List.set_cons_succ]
        refine AnyS.take (i := 20) (oi := _) (d := some 52) (v := undef) rfl rfl (by kernel_rfl) (fun _ _ _ h => h) (Or.inr ⟨by rfl, rfl⟩) (by assumption) ?_
        try simp only [Act.put, List.setIfInBounds_toArray, List.set_cons_zero, List.set_cons_succ]
        refine AnyS.take (i := 21) (oi := _) (d := some 53) (v := undef) rfl rfl (by kernel_rfl) (fun _ _ _ h => h) (Or.inr ⟨by rfl, rfl⟩) (by assumption) ?_
        try simp only [Act.put, List.setIfInBounds_toArray, List.set_cons_zero, List.set_cons_succ]
        refine AnyS.take (i := 22) (oi := _) (d := some 54) (v := ?_) rfl rfl (by kernel_rfl) (fun _ _ _ h => h) (Or.inl ⟨by rfl, ?_⟩) (by assumption) ?_
        rotate_left 1
        · intro w hSw; obtain ⟨g0, g1, g2⟩ := hSw; go_simp <;> with_reducible rfl
        try simp only [Act.put, List.setIfInBounds_toArray, List.set_cons_zero, List.set_cons_succ]
        refine AnyS.last (o := _) rfl (by kernel_rfl) (by kernel_rfl) (fun K hK => ?_)
        go_simp
        refine hK.out _ _ ?_
        clear hK K
        try simp only [Act.put, List.setIfInBounds_toArray, List.set_cons_zero, List.set_cons_succ]
        go_wp2_with fail
        go_ret
        exact ⟨rfl, HBK1.out⟩
      | false =>
        go_enter Try.func148, Try.ntmps148
        go_wp2_with fail
        go_quiet (fail)
        obtain ⟨V, hV⟩ : ∃ V, V = w.drewN nq := ⟨_, rfl⟩
        have bV : Below w.heap.size w V := by rw [hV]; exact below_drewN (Below.refl _ _) nq
        have HV := Lib.hid hV
        have bD : Below w.heap.size w V.drew := bV.drew
        have hS0 := HS.out _ bD
        clear hV bV heq o4 u4
        go_upto_region 4 with (fail)
        rw [← HV.out]
        refine AnyS.begin (S := fun wx => wx.cell? ⟨ob, 3, none⟩ = some (.slice oA na oc) ∧ wx.cell? ⟨ub, 2, none⟩ = some (.slice hA nh hc) ∧ wx.cell? ⟨ub, 3, none⟩ = some (.slice uA nu uc)) 23 (by kernel_rfl) hS0 (fun hHeld => ?_)
        refine AnyS.take (i := 0) (oi := _) (d := some 32) (v := ?_) rfl rfl (by kernel_rfl) (fun _ _ _ h => h) (Or.inl ⟨by rfl, ?_⟩) (by assumption) ?_
        rotate_left 1
        · intro w hSw; obtain ⟨g0, g1, g2⟩ := hSw; go_simp <;> with_reducible rfl
        try simp only [Act.put, List.setIfInBounds_toArray, List.set_cons_zero, List.set_cons_succ]
        refine AnyS.take (i := 1) (oi := _) (d := some 33) (v := ?_) rfl rfl (by kernel_rfl) (fun _ _ _ h => h) (Or.inl ⟨by rfl, ?_⟩) (by assumption) ?_
        rotate_left 1
        · intro w hSw; obtain ⟨g0, g1, g2⟩ := hSw; go_simp <;> with_reducible rfl
        try simp only [Act.put, List.setIfInBounds_toArray, List.set_cons_zero, List.set_cons_succ]
        refine AnyS.take (i := 2) (oi := _) (d := some 34) (v := ?_) rfl rfl (by kernel_rfl) (fun _ _ _ h => h) (Or.inl ⟨by rfl, ?_⟩) (by assumption) ?_
        rotate_left 1
        · intro w hSw; obtain ⟨g0, g1, g2⟩ := hSw; go_simp <;> with_reducible rfl
        try simp only [Act.put, List.setIfInBounds_toArray, List.set_cons_zero, List.set_cons_succ]
        refine AnyS.take (i := 3) (oi := _) (d := some 35) (v := ?_) rfl rfl (by kernel_rfl) (fun _ _ _ h => h) (Or.inl ⟨by rfl, ?_⟩) (by assumption) ?_
        rotate_left 1
        · intro w hSw; obtain ⟨g0, g1, g2⟩ := hSw; go_simp <;> with_reducible rfl
        try simp only [Act.put, List.setIfInBounds_toArray, List.set_cons_zero, List.set_cons_succ]
        refine AnyS.take (i := 4) (oi := _) (d := some 36) (v := ?_) rfl rfl (by kernel_rfl) (fun _ _ _ h => h) (Or.inl ⟨by rfl, ?_⟩) (by assumption) ?_
        rotate_left 1
        · intro w hSw; obtain ⟨g0, g1, g2⟩ := hSw; go_simp <;> with_reducible rfl
        try simp only [Act.put, List.setIfInBounds_toArray, List.set_cons_zero, List.set_cons_succ]
        refine AnyS.take (i := 5) (oi := _) (d := some 37) (v := ?_) rfl rfl (by kernel_rfl) (fun _ _ _ h => h) (Or.inl ⟨by rfl, ?_⟩) (by assumption) ?_
        rotate_left 1
        · intro w hSw; obtain ⟨g0, g1, g2⟩ := hSw; go_simp <;> with_reducible rfl
        try simp only [Act.put, List.setIfInBounds_toArray, List.set_cons_zero, List.set_cons_succ]
        refine AnyS.take (i := 6) (oi := _) (d := some 38) (v := ?_) rfl rfl (by kernel_rfl) (fun _ _ _ h => h) (Or.inl ⟨by rfl, ?_⟩) (by assumption) ?_
        rotate_left 1
        · intro w hSw; obtain ⟨g0, g1, g2⟩ := hSw; go_simp <;> with_reducible rfl
        try simp only [Act.put, List.setIfInBounds_toArray, List.set_cons_zero, List.set_cons_succ]
        refine AnyS.take (i := 7) (oi := _) (d := some 39) (v := ?_) rfl rfl (by kernel_rfl) (fun _ _ _ h => h) (Or.inl ⟨by rfl, ?_⟩) (by assumption) ?_
        rotate_left 1
        · intro w hSw; obtain ⟨g0, g1, g2⟩ := hSw; go_simp <;> with_reducible rfl
        try simp only [Act.put, List.setIfInBounds_toArray, List.set_cons_zero, List.set_cons_succ]
        refine AnyS.one (i := 8) (o := _) rfl (by kernel_rfl) (by decide) (fun K hK => ?_)
        go_simp
        go_at_call 138
        with_reducible refine (HC1.out _ bD).mono ?_
        intro e wk1 hq
        obtain ⟨h1, bk⟩ := RetT.outD hq
        subst h1
        have HBK1 := Lib.hid (belowT' bD bk)
        clear bk hq
        have hS1 := HS.out _ HBK1.out
        refine hK.out _ _ hS1 (fun hHeld2 => ?_)
        clear hK K
        try simp only [Act.put, List.setIfInBounds_toArray, List.set_cons_zero, List.set_cons_succ]
        refine AnyS.take (i := 9) (oi := _) (d := some 41) (v := ?_) rfl rfl (by kernel_rfl) (fun _ _ _ h => h) (Or.inl ⟨by rfl, ?_⟩) (by assumption) ?_
        rotate_left 1
        · intro w hSw; obtain ⟨g0, g1, g2⟩ := hSw; go_simp <;> with_reducible rfl
        try simp only [Act.put, List.setIfInBounds_toArray, List.set_cons_zero, List.set_cons_succ]
        refine AnyS.take (i := 10) (oi := _) (d := some 42) (v := ?_) rfl rfl (by kernel_rfl) (fun _ _ _ h => h) (Or.inl ⟨by rfl, ?_⟩) (by assumption) ?_
        rotate_left 1
        · intro w hSw; obtain ⟨g0, g1, g2⟩ := hSw; go_simp <;> with_reducible rfl
        try simp only [Act.put, List.setIfInBounds_toArray, List.set_cons_zero, List.set_cons_succ]
        refine AnyS.take (i := 11) (oi := _) (d := some 43) (v := ?_) rfl rfl (by kernel_rfl) (fun _ _ _ h => h) (Or.inl ⟨by rfl, ?_⟩) (by assumption) ?_
        rotate_left 1
        · intro w hSw; obtain ⟨g0, g1, g2⟩ := hSw; go_simp <;> with_reducible rfl
        try simp only [Act.put, List.setIfInBounds_toArray, List.set_cons_zero, List.set_cons_succ]
        refine AnyS.take (i := 12) (oi := _) (d := some 44) (v := ?_) rfl rfl (by kernel_rfl) (fun _ _ _ h => h) (Or.inl ⟨by rfl, ?_⟩) (by assumption) ?_
        rotate_left 1
        · intro w hSw; obtain ⟨g0, g1, g2⟩ := hSw; go_simp <;> with_reducible rfl
        try simp only [Act.put, List.setIfInBounds_toArray, List.set_cons_zero, List.set_cons_succ]
        refine AnyS.take (i := 13) (oi := _) (d := some 45) (v := ?_) rfl rfl (by kernel_rfl) (fun _ _ _ h => h) (Or.inl ⟨by rfl, ?_⟩) (by assumption) ?_
        rotate_left 1
        · intro w hSw; obtain ⟨g0, g1, g2⟩ := hSw; go_simp <;> with_reducible rfl
        try simp only [Act.put, List.setIfInBounds_toArray, List.set_cons_zero, List.set_cons_succ]
        refine AnyS.take (i := 14) (oi := _) (d := some 46) (v := ?_) rfl rfl (by kernel_rfl) (fun _ _ _ h => h) (Or.inl ⟨by rfl, ?_⟩) (by assumption) ?_
        rotate_left 1
        · intro w hSw; obtain ⟨g0, g1, g2⟩ := hSw; go_simp <;> with_reducible rfl
        try simp only [Act.put, List.setIfInBounds_toArray, List.set_cons_zero, List.set_cons_succ]
        refine AnyS.take (i := 15) (oi := _) (d := some 47) (v := ?_) rfl rfl (by kernel_rfl) (fun _ _ _ h => h) (Or.inl ⟨by rfl, ?_⟩) (by assumption) ?_
        rotate_left 1
        · intro w hSw; obtain ⟨g0, g1, g2⟩ := hSw; go_simp <;> with_reducible rfl
        try simp only [Act.put, List.setIfInBounds_toArray, List.set_cons_zero, List.set_cons_succ]
        refine AnyS.take (i := 16) (oi := _) (d := some 48) (v := ?_) rfl rfl (by kernel_rfl) (fun _ _ _ h => h) (Or.inl ⟨by rfl, ?_⟩) (by assumption) ?_
        rotate_left 1
        · intro w hSw; obtain ⟨g0, g1, g2⟩ := hSw; go_simp <;> with_reducible rfl
        try simp only [Act.put, List.setIfInBounds_toArray, List.set_cons_zero, List.set_cons_succ]
        refine AnyS.take (i := 17) (oi := _) (d := some 49) (v := ?_) rfl rfl (by kernel_rfl) (fun _ _ _ h => h) (Or.inl ⟨by rfl, ?_⟩) (by assumption) ?_
        rotate_left 1
        · intro w hSw; obtain ⟨g0, g1, g2⟩ := hSw; go_simp <;> with_reducible rfl
        try simp only [Act.put, List.setIfInBounds_toArray, List.set_cons_zero, List.set_cons_succ]
        refine AnyS.take (i := 18) (oi := _) (d := some 50) (v := ?_) rfl rfl (by kernel_rfl) (fun _ _ _ h => h) (Or.inl ⟨by rfl, ?_⟩) (by assumption) ?_
        rotate_left 1
        · intro w hSw; obtain ⟨g0, g1, g2⟩ := hSw; go_simp <;> with_reducible rfl
        try simp only [Act.put, List.setIfInBounds_toArray, List.set_cons_zero, List.set_cons_succ]
        refine AnyS.take (i := 19) (oi := _) (d := some 51) (v := ?_) rfl rfl (by kernel_rfl) (fun _ _ _ h => h) (Or.inl ⟨by rfl, ?_⟩) (by assumption) ?_
        rotate_left 1
        · intro w hSw; obtain ⟨g0, g1, g2⟩ := hSw; go_simp <;> with_reducible rfl
        try simp only [Act.put, List.setIfInBounds_toArray, List.set_cons_zero, List.set_cons_succ]
        refine AnyS.one (i := 20) (o := _) rfl (by kernel_rfl) (by decide) (fun K hK => ?_)
        go_simp
        go_at_call 138
        with_reducible refine (HC2.out _ HBK1.out).mono ?_
        intro e wk2 hq
        obtain ⟨h1, bk⟩ := RetT.outD hq
        subst h1
        have HBK2 := Lib.hid (belowT' HBK1.out bk)
        clear bk hq
        have hS2 := HS.out _ HBK2.out
        refine hK.out _ _ hS2 (fun hHeld2 => ?_)
        clear hK K
        try simp only [Act.put, List.setIfInBounds_toArray, List.set_cons_zero, List.set_cons_succ]
        refine AnyS.take (i := 21) (oi := _) (d := some 53) (v := ?_) rfl rfl (by kernel_rfl) (fun _ _ _ h => h) (Or.inl ⟨by rfl, ?_⟩) (by assumption) ?_
        rotate_left 1
        · intro w hSw; obtain ⟨g0, g1, g2⟩ := hSw; go_simp <;> with_reducible rfl
        try simp only [Act.put, List.setIfInBounds_toArray, List.set_cons_zero, List.set_cons_succ]
        refine AnyS.take (i := 22) (oi := _) (d := some 54) (v := ?_) rfl rfl (by kernel_rfl) (fun _ _ _ h => h) (Or.inl ⟨by rfl, ?_⟩) (by assumption) ?_
        rotate_left 1
        · intro w hSw; obtain ⟨g0, g1, g2⟩ := hSw; go_simp <;> with_reducible rfl
        try simp only [Act.put, List.setIfInBounds_toArray, List.set_cons_zero, List.set_cons_succ]
        refine AnyS.last (o := _) rfl (by kernel_rfl) (by kernel_rfl) (fun K hK => ?_)
        go_simp
        refine hK.out _ _ ?_
        clear hK K
        try simp only [Act.put, List.setIfInBounds_toArray, List.set_cons_zero, List.set_cons_succ]
        go_wp2_with fail
        go_ret
        exact ⟨rfl, HBK2.out⟩
    · obtain rfl : z2 = false := by rw [hz2]; simpa using h2
      clear hz1 hz2
      cases c1 with
      | true =>
        go_enter Try.func148, Try.ntmps148
        go_wp2_with fail
        go_quiet (fail)
        obtain ⟨V, hV⟩ : ∃ V, V = w.drewN nq := ⟨_, rfl⟩
        have bV : Below w.heap.size w V := by rw [hV]; exact below_drewN (Below.refl _ _) nq
        have HV := Lib.hid hV
        have bD : Below w.heap.size w V.drew := bV.drew
        have hS0 := HS.out _ bD
        clear hV bV heq o4 u4
        go_upto_region 4 with (fail)
        rw [← HV.out]
        refine AnyS.begin (S := fun wx => wx.cell? ⟨ob, 3, none⟩ = some (.slice oA na oc) ∧ wx.cell? ⟨ub, 2, none⟩ = some (.slice hA nh hc) ∧ wx.cell? ⟨ub, 3, none⟩ = some (.slice uA nu uc)) 23 (by kernel_rfl) hS0 (fun hHeld => ?_)
        refine AnyS.take (i := 0) (oi := _) (d := some 32) (v := ?_) rfl rfl (by kernel_rfl) (fun _ _ _ h => h) (Or.inl ⟨by rfl, ?_⟩) (by assumption) ?_
        rotate_left 1
        · intro w hSw; obtain ⟨g0, g1, g2⟩ := hSw; go_simp <;> with_reducible rfl
        try simp only [Act.put, List.setIfInBounds_toArray, List.set_cons_zero, List.set_cons_succ]
        refine AnyS.take (i := 1) (oi := _) (d := some 33) (v := ?_) rfl rfl (by kernel_rfl) (fun _ _ _ h => h) (Or.inl ⟨by rfl, ?_⟩) (by assumption) ?_
        rotate_left 1
        · intro w hSw; obtain ⟨g0, g1, g2⟩ := hSw; go_simp <;> with_reducible rfl
        try simp only [Act.put, List.setIfInBounds_toArray, List.set_cons_zero, List.set_cons_succ]
        refine AnyS.take (i := 2) (oi := _) (d := some 34) (v := ?_) rfl rfl (by kernel_rfl) (fun _ _ _ h => h) (Or.inl ⟨by rfl, ?_⟩) (by assumption) ?_
        rotate_left 1
        · intro w hSw; obtain ⟨g0, g1, g2⟩ := hSw; go_simp <;> with_reducible rfl
        try simp only [Act.put, List.setIfInBounds_toArray, List.set_cons_zero, List.set_cons_succ]
        refine AnyS.take (i := 3) (oi := _) (d := some 35) (v := ?_) rfl rfl (by kernel_rfl) (fun _ _ _ h => h) (Or.inl ⟨by rfl, ?_⟩) (by assumption) ?_
        rotate_left 1
        · intro w hSw; obtain ⟨g0, g1, g2⟩ := hSw; go_simp <;> with_reducible rfl
        try simp only [Act.put, List.setIfInBounds_toArray, List.set_cons_zero, List.set_cons_succ]
        refine AnyS.take (i := 4) (oi := _) (d := some 36) (v := ?_) rfl rfl (by kernel_rfl) (fun _ _ _ h => h) (Or.inl ⟨by rfl, ?_⟩) (by assumption) ?_
        rotate_left 1
        · intro w hSw; obtain ⟨g0, g1, g2⟩ := hSw; go_simp <;> with_reducible rfl
        try simp only [Act.put, List.setIfInBounds_toArray, List.set_cons_zero, List.set_cons_succ]
        refine AnyS.take (i := 5) (oi := _) (d := some 37) (v := ?_) rfl rfl (by kernel_rfl) (fun _ _ _ h => h) (Or.inl ⟨by rfl, ?_⟩) (by assumption) ?_
        rotate_left 1
        · intro w hSw; obtain ⟨g0, g1, g2⟩ := hSw; go_simp <;> with_reducible rfl
        try simp only [Act.put, List.setIfInBounds_toArray, List.set_cons_zero, List.set_cons_succ]
        refine AnyS.take (i := 6) (oi := _) (d := some 38) (v := ?_) rfl rfl (by kernel_rfl) (fun _ _ _ h => h) (Or.inl ⟨by rfl, ?_⟩) (by assumption) ?_
        rotate_left 1
        · intro w hSw; obtain ⟨g0, g1, g2⟩ := hSw; go_simp <;> with_reducible rfl
        try simp only [Act.put, List.setIfInBounds_toArray, List.set_cons_zero, List.set_cons_succ]
        refine AnyS.take (i := 7) (oi := _) (d := some 39) (v := ?_) rfl rfl (by kernel_rfl) (fun _ _ _ h => h) (Or.inl ⟨by rfl, ?_⟩) (by assumption) ?_
        rotate_left 1
        · intro w hSw; obtain ⟨g0, g1, g2⟩ := hSw; go_simp <;> with_reducible rfl
        try simp only [Act.put, List.setIfInBounds_toArray, List.set_cons_zero, List.set_cons_succ]
        refine AnyS.one (i := 8) (o := _) rfl (by kernel_rfl) (by decide) (fun K hK => ?_)
        go_simp
        go_at_call 138
        with_reducible refine (HC1.out _ bD).mono ?_
        intro e wk1 hq
        obtain ⟨h1, bk⟩ := RetT.outD hq
        subst h1
        have HBK1 := Lib.hid (belowT' bD bk)
        clear bk hq
        have hS1 := HS.out _ HBK1.out
        refine hK.out _ _ hS1 (fun hHeld2 => ?_)
        clear hK K
        try simp only [Act.put, List.setIfInBounds_toArray, List.set_cons_zero, List.set_cons_succ]
        refine AnyS.take (i := 9) (oi := _) (d := some 41) (v := ?_) rfl rfl (by kernel_rfl) (fun _ _ _ h => h) (Or.inl ⟨by rfl, ?_⟩) (by assumption) ?_
        rotate_left 1
        · intro w hSw; obtain ⟨g0, g1, g2⟩ := hSw; go_simp <;> with_reducible rfl
        try simp only [Act.put, List.setIfInBounds_toArray, List.set_cons_zero, List.set_cons_succ]
        refine AnyS.take (i := 10) (oi := _) (d := some 42) (v := undef) rfl rfl (by kernel_rfl) (fun _ _ _ h => h) (Or.inr ⟨by rfl, rfl⟩) (by assumption) ?_
        try simp only [Act.put, List.setIfInBounds_toArray, List.set_cons_zero, List.set_cons_succ]
        refine AnyS.take (i := 11) (oi := _) (d := some 43) (v := undef) rfl rfl (by kernel_rfl) (fun _ _ _ h => h) (Or.inr ⟨by rfl, rfl⟩) (by assumption) ?_
        try simp only [Act.put, List.setIfInBounds_toArray, List.set_cons_zero, List.set_cons_succ]
        refine AnyS.take (i := 12) (oi := _) (d := some 44) (v := undef) rfl rfl (by kernel_rfl) (fun _ _ _ h => h) (Or.inr ⟨by rfl, rfl⟩) (by assumption) ?_
        try simp only [Act.put, List.setIfInBounds_toArray, List.set_cons_zero, List.set_cons_succ]
        refine AnyS.take (i := 13) (oi := _) (d := some 45) (v := undef) rfl rfl (by kernel_rfl) (fun _ _ _ h => h) (Or.inr ⟨by rfl, rfl⟩) (by assumption) ?_
        try simp only [Act.put, List.setIfInBounds_toArray, List.set_cons_zero, List.set_cons_succ]
        refine AnyS.take (i := 14) (oi := _) (d := some 46) (v := undef) rfl rfl (by kernel_rfl) (fun _ _ _ h => h) (Or.inr ⟨by rfl, rfl⟩) (by assumption) ?_
        try simp only [Act.put, List.setIfInBounds_toArray, List.set_cons_zero, List.set_cons_succ]
        refine AnyS.take (i := 15) (oi := _) (d := some 47) (v := undef) rfl rfl (by kernel_rfl) (fun _ _ _ h => h) (Or.inr ⟨by rfl, rfl⟩) (by assumption) ?_
        try simp only [Act.put, List.setIfInBounds_toArray, List.set_cons_zero, List.set_cons_succ]
        refine AnyS.take (i := 16) (oi := _) (d := some 48) (v := undef) rfl rfl (by kernel_rfl) (fun _ _ _ h => h) (Or.inr ⟨by rfl, rfl⟩) (by assumption) ?_
        try simp only [Act.put, List.setIfInBounds_toArray, List.set_cons_zero, List.set_cons_succ]
        refine AnyS.take (i := 17) (oi := _) (d := some 49) (v := undef) rfl rfl (by kernel_rfl) (fun _ _ _ h => h) (Or.inr ⟨by rfl, rfl⟩) (by assumption) ?_
        try simp only [Act.put, List.setIfInBounds_toArray, List.set_cons_zero, List.set_cons_succ]
        refine AnyS.take (i := 18) (oi := _) (d := some 50) (v := undef) rfl rfl (by kernel_rfl) (fun _ _ _ h => h) (Or.inr ⟨by rfl, rfl⟩) (by assumption) ?_
        try simp only [Act.put, List.setIfInBounds_toArray, List.set_cons_zero, List.set_cons_succ]
        refine AnyS.take (i := 19) (oi := _) (d := some 51) (v := undef) rfl rfl (by kernel_rfl) (fun _ _ _ h => h) (Or.inr ⟨by rfl, rfl⟩) (by assumption) ?_
        try simp only [Act.put, List.setIfInBounds_toArray, List.set_cons_zero, List.set_cons_succ]
        refine AnyS.take (i := 20) (oi := _) (d := some 52) (v := undef) rfl rfl (by kernel_rfl) (fun _ _ _ h => h) (Or.inr ⟨by rfl, rfl⟩) (by assumption) ?_
        try simp only [Act.put, List.setIfInBounds_toArray, List.set_cons_zero, List.set_cons_succ]
        refine AnyS.take (i := 21) (oi := _) (d := some 53) (v := undef) rfl rfl (by kernel_rfl) (fun _ _ _ h => h) (Or.inr ⟨by rfl, rfl⟩) (by assumption) ?_
        try simp only [Act.put, List.setIfInBounds_toArray, List.set_cons_zero, List.set_cons_succ]
        refine AnyS.take (i := 22) (oi := _) (d := some 54) (v := ?_) rfl rfl (by kernel_rfl) (fun _ _ _ h => h) (Or.inl ⟨by rfl, ?_⟩) (by assumption) ?_
        rotate_left 1
        · intro w hSw; obtain ⟨g0, g1, g2⟩ := hSw; go_simp <;> with_reducible rfl
        try simp only [Act.put, List.setIfInBounds_toArray, List.set_cons_zero, List.set_cons_succ]
        refine AnyS.last (o := _) rfl (by kernel_rfl) (by kernel_rfl) (fun K hK => ?_)
        go_simp
        refine hK.out _ _ ?_
        clear hK K
        try simp only [Act.put, List.setIfInBounds_toArray, List.set_cons_zero, List.set_cons_succ]
        go_wp2_with fail
        go_ret
        exact ⟨rfl, HBK1.out⟩
      | false =>
        go_enter Try.func148, Try.ntmps148
        go_wp2_with fail
        go_quiet (fail)
        obtain ⟨V, hV⟩ : ∃ V, V = w.drewN nq := ⟨_, rfl⟩
        have bV : Below w.heap.size w V := by rw [hV]; exact below_drewN (Below.refl _ _) nq
        have HV := Lib.hid hV
        have bD : Below w.heap.size w V.drew := bV.drew
        have hS0 := HS.out _ bD
        clear hV bV heq o4 u4
        go_upto_region 4 with (fail)
        rw [← HV.out]
        refine AnyS.begin (S := fun wx => wx.cell? ⟨ob, 3, none⟩ = some (.slice oA na oc) ∧ wx.cell? ⟨ub, 2, none⟩ = some (.slice hA nh hc) ∧ wx.cell? ⟨ub, 3, none⟩ = some (.slice uA nu uc)) 23 (by kernel_rfl) hS0 (fun hHeld => ?_)
        refine AnyS.take (i := 0) (oi := _) (d := some 32) (v := ?_) rfl rfl (by kernel_rfl) (fun _ _ _ h => h) (Or.inl ⟨by rfl, ?_⟩) (by assumption) ?_
        rotate_left 1
        · intro w hSw; obtain ⟨g0, g1, g2⟩ := hSw; go_simp <;> with_reducible rfl
        try simp only [Act.put, List.setIfInBounds_toArray, List.set_cons_zero, List.set_cons_succ]
        refine AnyS.take (i := 1) (oi := _) (d := some 33) (v := ?_) rfl rfl (by kernel_rfl) (fun _ _ _ h => h) (Or.inl ⟨by rfl, ?_⟩) (by assumption) ?_
        rotate_left 1
        · intro w hSw; obtain ⟨g0, g1, g2⟩ := hSw; go_simp <;> with_reducible rfl
        try simp only [Act.put, List.setIfInBounds_toArray, List.set_cons_zero, List.set_cons_succ]
        refine AnyS.take (i := 2) (oi := _) (d := some 34) (v := ?_) rfl rfl (by kernel_rfl) (fun _ _ _ h => h) (Or.inl ⟨by rfl, ?_⟩) (by assumption) ?_
        rotate_left 1
        · intro w hSw; obtain ⟨g0, g1, g2⟩ := hSw; go_simp <;> with_reducible rfl
        try simp only [Act.put, List.setIfInBounds_toArray, List.set_cons_zero, List.set_cons_succ]
        refine AnyS.take (i := 3) (oi := _) (d := some 35) (v := ?_) rfl rfl (by kernel_rfl) (fun _ _ _ h => h) (Or.inl ⟨by rfl, ?_⟩) (by assumption) ?_
        rotate_left 1
        · intro w hSw; obtain ⟨g0, g1, g2⟩ := hSw; go_simp <;> with_reducible rfl
        try simp only [Act.put, List.setIfInBounds_toArray, List.set_cons_zero, List.set_cons_succ]
        refine AnyS.take (i := 4) (oi := _) (d := some 36) (v := ?_) rfl rfl (by kernel_rfl) (fun _ _ _ h => h) (Or.inl ⟨by rfl, ?_⟩) (by assumption) ?_
        rotate_left 1
        · intro w hSw; obtain ⟨g0, g1, g2⟩ := hSw; go_simp <;> with_reducible rfl
        try simp only [Act.put, List.setIfInBounds_toArray, List.set_cons_zero, List.set_cons_succ]
        refine AnyS.take (i := 5) (oi := _) (d := some 37) (v := ?_) rfl rfl (by kernel_rfl) (fun _ _ _ h => h) (Or.inl ⟨by rfl, ?_⟩) (by assumption) ?_
        rotate_left 1
        · intro w hSw; obtain ⟨g0, g1, g2⟩ := hSw; go_simp <;> with_reducible rfl
        try simp only [Act.put, List.setIfInBounds_toArray, List.set_cons_zero, List.set_cons_succ]
        refine AnyS.take (i := 6) (oi := _) (d := some 38) (v := ?_) rfl rfl (by kernel_rfl) (fun _ _ _ h => h) (Or.inl ⟨by rfl, ?_⟩) (by assumption) ?_
        rotate_left 1
        · intro w hSw; obtain ⟨g0, g1, g2⟩ := hSw; go_simp <;> with_reducible rfl
        try simp only [Act.put, List.setIfInBounds_toArray, List.set_cons_zero, List.set_cons_succ]
        refine AnyS.take (i := 7) (oi := _) (d := some 39) (v := ?_) rfl rfl (by kernel_rfl) (fun _ _ _ h => h) (Or.inl ⟨by rfl, ?_⟩) (by assumption) ?_
        rotate_left 1
        · intro w hSw; obtain ⟨g0, g1, g2⟩ := hSw; go_simp <;> with_reducible rfl
        try simp only [Act.put, List.setIfInBounds_toArray, List.set_cons_zero, List.set_cons_succ]
        refine AnyS.one (i := 8) (o := _) rfl (by kernel_rfl) (by decide) (fun K hK => ?_)
        go_simp
        go_at_call 138
        with_reducible refine (HC1.out _ bD).mono ?_
        intro e wk1 hq
        obtain ⟨h1, bk⟩ := RetT.outD hq
        subst h1
        have HBK1 := Lib.hid (belowT' bD bk)
        clear bk hq
        have hS1 := HS.out _ HBK1.out
        refine hK.out _ _ hS1 (fun hHeld2 => ?_)
        clear hK K
        try simp only [Act.put, List.setIfInBounds_toArray, List.set_cons_zero, List.set_cons_succ]
        refine AnyS.take (i := 9) (oi := _) (d := some 41) (v := ?_) rfl rfl (by kernel_rfl) (fun _ _ _ h => h) (Or.inl ⟨by rfl, ?_⟩) (by assumption) ?_
        rotate_left 1
        · intro w hSw; obtain ⟨g0, g1, g2⟩ := hSw; go_simp <;> with_reducible rfl
        try simp only [Act.put, List.setIfInBounds_toArray, List.set_cons_zero, List.set_cons_succ]
        refine AnyS.take (i := 10) (oi := _) (d := some 42) (v := ?_) rfl rfl (by kernel_rfl) (fun _ _ _ h => h) (Or.inl ⟨by rfl, ?_⟩) (by assumption) ?_
        rotate_left 1
        · intro w hSw; obtain ⟨g0, g1, g2⟩ := hSw; go_simp <;> with_reducible rfl
        try simp only [Act.put, List.setIfInBounds_toArray, List.set_cons_zero, List.set_cons_succ]
        refine AnyS.take (i := 11) (oi := _) (d := some 43) (v := ?_) rfl rfl (by kernel_rfl) (fun _ _ _ h => h) (Or.inl ⟨by rfl, ?_⟩) (by assumption) ?_
        rotate_left 1
        · intro w hSw; obtain ⟨g0, g1, g2⟩ := hSw; go_simp <;> with_reducible rfl
        try simp only [Act.put, List.setIfInBounds_toArray, List.set_cons_zero, List.set_cons_succ]
        refine AnyS.take (i := 12) (oi := _) (d := some 44) (v := undef) rfl rfl (by kernel_rfl) (fun _ _ _ h => h) (Or.inr ⟨by rfl, rfl⟩) (by assumption) ?_
        try simp only [Act.put, List.setIfInBounds_toArray, List.set_cons_zero, List.set_cons_succ]
        refine AnyS.take (i := 13) (oi := _) (d := some 45) (v := undef) rfl rfl (by kernel_rfl) (fun _ _ _ h => h) (Or.inr ⟨by rfl, rfl⟩) (by assumption) ?_
        try simp only [Act.put, List.setIfInBounds_toArray, List.set_cons_zero, List.set_cons_succ]
        refine AnyS.take (i := 14) (oi := _) (d := some 46) (v := undef) rfl rfl (by kernel_rfl) (fun _ _ _ h => h) (Or.inr ⟨by rfl, rfl⟩) (by assumption) ?_
        try simp only [Act.put, List.setIfInBounds_toArray, List.set_cons_zero, List.set_cons_succ]
        refine AnyS.take (i := 15) (oi := _) (d := some 47) (v := undef) rfl rfl (by kernel_rfl) (fun _ _ _ h => h) (Or.inr ⟨by rfl, rfl⟩) (by assumption) ?_
        try simp only [Act.put, List.setIfInBounds_toArray, List.set_cons_zero, List.set_cons_succ]
        refine AnyS.take (i := 16) (oi := _) (d := some 48) (v := undef) rfl rfl (by kernel_rfl) (fun _ _ _ h => h) (Or.inr ⟨by rfl, rfl⟩) (by assumption) ?_
        try simp only [Act.put, List.setIfInBounds_toArray, List.set_cons_zero, List.set_cons_succ]
        refine AnyS.take (i := 17) (oi := _) (d := some 49) (v := undef) rfl rfl (by kernel_rfl) (fun _ _ _ h => h) (Or.inr ⟨by rfl, rfl⟩) (by assumption) ?_
        try simp only [Act.put, List.setIfInBounds_toArray, List.set_cons_zero, List.set_cons_succ]
        refine AnyS.take (i := 18) (oi := _) (d := some 50) (v := undef) rfl rfl (by kernel_rfl) (fun _ _ _ h => h) (Or.inr ⟨by rfl, rfl⟩) (by assumption) ?_
        try simp only [Act.put, List.setIfInBounds_toArray, List.set_cons_zero, List.set_cons_succ]
        refine AnyS.take (i := 19) (oi := _) (d := some 51) (v := undef) rfl rfl (by kernel_rfl) (fun _ _ _ h => h) (Or.inr ⟨by rfl, rfl⟩) (by assumption) ?_
        try simp only [Act.put, List.setIfInBounds_toArray, List.set_cons_zero, List.set_cons_succ]
        refine AnyS.take (i := 20) (oi := _) (d := some 52) (v := undef) rfl rfl (by kernel_rfl) (fun _ _ _ h => h) (Or.inr ⟨by rfl, rfl⟩) (by assumption) ?_
        try simp only [Act.put, List.setIfInBounds_toArray, List.set_cons_zero, List.set_cons_succ]
        refine AnyS.take (i := 21) (oi := _) (d := some 53) (v := ?_) rfl rfl (by kernel_rfl) (fun _ _ _ h => h) (Or.inl ⟨by rfl, ?_⟩) (by assumption) ?_
        rotate_left 1
        · intro w hSw; obtain ⟨g0, g1, g2⟩ := hSw; go_simp <;> with_reducible rfl
        try simp only [Act.put, List.setIfInBounds_toArray, List.set_cons_zero, List.set_cons_succ]
        refine AnyS.take (i := 22) (oi := _) (d := some 54) (v := ?_) rfl rfl (by kernel_rfl) (fun _ _ _ h => h) (Or.inl ⟨by rfl, ?_⟩) (by assumption) ?_
        rotate_left 1
        · intro w hSw; obtain ⟨g0, g1, g2⟩ := hSw; go_simp <;> with_reducible rfl
        try simp only [Act.put, List.setIfInBounds_toArray, List.set_cons_zero, List.set_cons_succ]
        refine AnyS.last (o := _) rfl (by kernel_rfl) (by kernel_rfl) (fun K hK => ?_)
        go_simp
        refine hK.out _ _ ?_
        clear hK K
        try simp only [Act.put, List.setIfInBounds_toArray, List.set_cons_zero, List.set_cons_succ]
        go_wp2_with fail
        go_ret
        exact ⟨rfl, HBK1.out⟩
  · obtain rfl : z1 = false := by rw [hz1]; simpa using h1
    clear hz1 hz2
    cases c1 with
    | true =>
      go_enter Try.func148, Try.ntmps148
      go_wp2_with fail
      go_quiet (fail)
      obtain ⟨V, hV⟩ : ∃ V, V = w.drewN nq := ⟨_, rfl⟩
      have bV : Below w.heap.size w V := by rw [hV]; exact below_drewN (Below.refl _ _) nq
      have HV := Lib.hid hV
      have bD : Below w.heap.size w V.drew := bV.drew
      have hS0 := HS.out _ bD
      clear hV bV heq o4 u4
      go_upto_region 4 with (fail)
      rw [← HV.out]
      refine AnyS.begin (S := fun wx => wx.cell? ⟨ob, 3, none⟩ = some (.slice oA na oc) ∧ wx.cell? ⟨ub, 2, none⟩ = some (.slice hA nh hc) ∧ wx.cell? ⟨ub, 3, none⟩ = some (.slice uA nu uc)) 23 (by kernel_rfl) hS0 (fun hHeld => ?_)
      refine AnyS.take (i := 0) (oi := _) (d := some 32) (v := ?_) rfl rfl (by kernel_rfl) (fun _ _ _ h => h) (Or.inl ⟨by rfl, ?_⟩) (by assumption) ?_
      rotate_left 1
      · intro w hSw; obtain ⟨g0, g1, g2⟩ := hSw; go_simp <;> with_reducible rfl
      try simp only [Act.put, List.setIfInBounds_toArray, List.set_cons_zero, List.set_cons_succ]
      refine AnyS.take (i := 1) (oi := _) (d := some 33) (v := ?_) rfl rfl (by kernel_rfl) (fun _ _ _ h => h) (Or.inl ⟨by rfl, ?_⟩) (by assumption) ?_
      rotate_left 1
      · intro w hSw; obtain ⟨g0, g1, g2⟩ := hSw; go_simp <;> with_reducible rfl
      try simp only [Act.put, List.setIfInBounds_toArray, List.set_cons_zero, List.set_cons_succ]
      refine AnyS.take (i := 2) (oi := _) (d := some 34) (v := ?_) rfl rfl (by kernel_rfl) (fun _ _ _ h => h) (Or.inl ⟨by rfl, ?_⟩) (by assumption) ?_
      rotate_left 1
      · intro w hSw; obtain ⟨g0, g1, g2⟩ := hSw; go_simp <;> with_reducible rfl
      try simp only [Act.put, List.setIfInBounds_toArray, List.set_cons_zero, List.set_cons_succ]
      refine AnyS.take (i := 3) (oi := _) (d := some 35) (v := ?_) rfl rfl (by kernel_rfl) (fun _ _ _ h => h) (Or.inl ⟨by rfl, ?_⟩) (by assumption) ?_
      rotate_left 1
      · intro w hSw; obtain ⟨g0, g1, g2⟩ := hSw; go_simp <;> with_reducible rfl
      try simp only [Act.put, List.setIfInBounds_toArray, List.set_cons_zero, List.set_cons_succ]
      refine AnyS.take (i := 4) (oi := _) (d := some 36) (v := ?_) rfl rfl (by kernel_rfl) (fun _ _ _ h => h) (Or.inl ⟨by rfl, ?_⟩) (by assumption) ?_
      rotate_left 1
      · intro w hSw; obtain ⟨g0, g1, g2⟩ := hSw; go_simp <;> with_reducible rfl
      try simp only [Act.put, List.setIfInBounds_toArray, List.set_cons_zero, List.set_cons_succ]
      refine AnyS.take (i := 5) (oi := _) (d := some 37) (v := ?_) rfl rfl (by kernel_rfl) (fun _ _ _ h => h) (Or.inl ⟨by rfl, ?_⟩) (by assumption) ?_
      rotate_left 1
      · intro w hSw; obtain ⟨g0, g1, g2⟩ := hSw; go_simp <;> with_reducible rfl
      try simp only [Act.put, List.setIfInBounds_toArray, List.set_cons_zero, List.set_cons_succ]
      refine AnyS.take (i := 6) (oi := _) (d := some 38) (v := ?_) rfl rfl (by kernel_rfl) (fun _ _ _ h => h) (Or.inl ⟨by rfl, ?_⟩) (by assumption) ?_
      rotate_left 1
      · intro w hSw; obtain ⟨g0, g1, g2⟩ := hSw; go_simp <;> with_reducible rfl
      try simp only [Act.put, List.setIfInBounds_toArray, List.set_cons_zero, List.set_cons_succ]
      refine AnyS.take (i := 7) (oi := _) (d := some 39) (v := ?_) rfl rfl (by kernel_rfl) (fun _ _ _ h => h) (Or.inl ⟨by rfl, ?_⟩) (by assumption) ?_
      rotate_left 1
      · intro w hSw; obtain ⟨g0, g1, g2⟩ := hSw; go_simp <;> with_reducible rfl
      try simp only [Act.put, List.setIfInBounds_toArray, List.set_cons_zero, List.set_cons_succ]
      refine AnyS.one (i := 8) (o := _) rfl (by kernel_rfl) (by decide) (fun K hK => ?_)
      go_simp
      go_at_call 138
      with_reducible refine (HC1.out _ bD).mono ?_
      intro e wk1 hq
      obtain ⟨h1, bk⟩ := RetT.outD hq
      subst h1
      have HBK1 := Lib.hid (belowT' bD bk)
      clear bk hq
      have hS1 := HS.out _ HBK1.out
      refine hK.out _ _ hS1 (fun hHeld2 => ?_)
      clear hK K
      try simp only [Act.put, List.setIfInBounds_toArray, List.set_cons_zero, List.set_cons_succ]
      refine AnyS.take (i := 9) (oi := _) (d := some 41) (v := ?_) rfl rfl (by kernel_rfl) (fun _ _ _ h => h) (Or.inl ⟨by rfl, ?_⟩) (by assumption) ?_
      rotate_left 1
      · intro w hSw; obtain ⟨g0, g1, g2⟩ := hSw; go_simp <;> with_reducible rfl
      try simp only [Act.put, List.setIfInBounds_toArray, List.set_cons_zero, List.set_cons_succ]
      refine AnyS.take (i := 10) (oi := _) (d := some 42) (v := undef) rfl rfl (by kernel_rfl) (fun _ _ _ h => h) (Or.inr ⟨by rfl, rfl⟩) (by assumption) ?_
      try simp only [Act.put, List.setIfInBounds_toArray, List.set_cons_zero, List.set_cons_succ]
      refine AnyS.take (i := 11) (oi := _) (d := some 43) (v := undef) rfl rfl (by kernel_rfl) (fun _ _ _ h => h) (Or.inr ⟨by rfl, rfl⟩) (by assumption) ?_
      try simp only [Act.put, List.setIfInBounds_toArray, List.set_cons_zero, List.set_cons_succ]
      refine AnyS.take (i := 12) (oi := _) (d := some 44) (v := undef) rfl rfl (by kernel_rfl) (fun _ _ _ h => h) (Or.inr ⟨by rfl, rfl⟩) (by assumption) ?_
      try simp only [Act.put, List.setIfInBounds_toArray, List.set_cons_zero, List.set_cons_succ]
      refine AnyS.take (i := 13) (oi := _) (d := some 45) (v := undef) rfl rfl (by kernel_rfl) (fun _ _ _ h => h) (Or.inr ⟨by rfl, rfl⟩) (by assumption) ?_
      try simp only [Act.put, List.setIfInBounds_toArray, List.set_cons_zero, List.set_cons_succ]
      refine AnyS.take (i := 14) (oi := _) (d := some 46) (v := undef) rfl rfl (by kernel_rfl) (fun _ _ _ h => h) (Or.inr ⟨by rfl, rfl⟩) (by assumption) ?_
      try simp only [Act.put, List.setIfInBounds_toArray, List.set_cons_zero, List.set_cons_succ]
      refine AnyS.take (i := 15) (oi := _) (d := some 47) (v := undef) rfl rfl (by kernel_rfl) (fun _ _ _ h => h) (Or.inr ⟨by rfl, rfl⟩) (by assumption) ?_
      try simp only [Act.put, List.setIfInBounds_toArray, List.set_cons_zero, List.set_cons_succ]
      refine AnyS.take (i := 16) (oi := _) (d := some 48) (v := undef) rfl rfl (by kernel_rfl) (fun _ _ _ h => h) (Or.inr ⟨by rfl, rfl⟩) (by assumption) ?_
      try simp only [Act.put, List.setIfInBounds_toArray, List.set_cons_zero, List.set_cons_succ]
      refine AnyS.take (i := 17) (oi := _) (d := some 49) (v := undef) rfl rfl (by kernel_rfl) (fun _ _ _ h => h) (Or.inr ⟨by rfl, rfl⟩) (by assumption) ?_
      try simp only [Act.put, List.setIfInBounds_toArray, List.set_cons_zero, List.set_cons_succ]
      refine AnyS.take (i := 18) (oi := _) (d := some 50) (v := undef) rfl rfl (by kernel_rfl) (fun _ _ _ h => h) (Or.inr ⟨by rfl, rfl⟩) (by assumption) ?_
      try simp only [Act.put, List.setIfInBounds_toArray, List.set_cons_zero, List.set_cons_succ]
      refine AnyS.take (i := 19) (oi := _) (d := some 51) (v := undef) rfl rfl (by kernel_rfl) (fun _ _ _ h => h) (Or.inr ⟨by rfl, rfl⟩) (by assumption) ?_
      try simp only [Act.put, List.setIfInBounds_toArray, List.set_cons_zero, List.set_cons_succ]
      refine AnyS.take (i := 20) (oi := _) (d := some 52) (v := undef) rfl rfl (by kernel_rfl) (fun _ _ _ h => h) (Or.inr ⟨by rfl, rfl⟩) (by assumption) ?_
      try simp only [Act.put, List.setIfInBounds_toArray, List.set_cons_zero, List.set_cons_succ]
      refine AnyS.take (i := 21) (oi := _) (d := some 53) (v := undef) rfl rfl (by kernel_rfl) (fun _ _ _ h => h) (Or.inr ⟨by rfl, rfl⟩) (by assumption) ?_
      try simp only [Act.put, List.setIfInBounds_toArray, List.set_cons_zero, List.set_cons_succ]
      refine AnyS.take (i := 22) (oi := _) (d := some 54) (v := ?_) rfl rfl (by kernel_rfl) (fun _ _ _ h => h) (Or.inl ⟨by rfl, ?_⟩) (by assumption) ?_
      rotate_left 1
      · intro w hSw; obtain ⟨g0, g1, g2⟩ := hSw; go_simp <;> with_reducible rfl
      try simp only [Act.put, List.setIfInBounds_toArray, List.set_cons_zero, List.set_cons_succ]
      refine AnyS.last (o := _) rfl (by kernel_rfl) (by kernel_rfl) (fun K hK => ?_)
      go_simp
      refine hK.out _ _ ?_
      clear hK K
      try simp only [Act.put, List.setIfInBounds_toArray, List.set_cons_zero, List.set_cons_succ]
      go_wp2_with fail
      go_ret
      exact ⟨rfl, HBK1.out⟩
    | false =>
      go_enter Try.func148, Try.ntmps148
      go_wp2_with fail
      go_quiet (fail)
      obtain ⟨V, hV⟩ : ∃ V, V = w.drewN nq := ⟨_, rfl⟩
      have bV : Below w.heap.size w V := by rw [hV]; exact below_drewN (Below.refl _ _) nq
      have HV := Lib.hid hV
      have bD : Below w.heap.size w V.drew := bV.drew
      have hS0 := HS.out _ bD
      clear hV bV heq o4 u4
      go_upto_region 4 with (fail)
      rw [← HV.out]
      refine AnyS.begin (S := fun wx => wx.cell? ⟨ob, 3, none⟩ = some (.slice oA na oc) ∧ wx.cell? ⟨ub, 2, none⟩ = some (.slice hA nh hc) ∧ wx.cell? ⟨ub, 3, none⟩ = some (.slice uA nu uc)) 23 (by kernel_rfl) hS0 (fun hHeld => ?_)
      refine AnyS.take (i := 0) (oi := _) (d := some 32) (v := ?_) rfl rfl (by kernel_rfl) (fun _ _ _ h => h) (Or.inl ⟨by rfl, ?_⟩) (by assumption) ?_
      rotate_left 1
      · intro w hSw; obtain ⟨g0, g1, g2⟩ := hSw; go_simp <;> with_reducible rfl
      try simp only [Act.put, List.setIfInBounds_toArray, List.set_cons_zero, List.set_cons_succ]
      refine AnyS.take (i := 1) (oi := _) (d := some 33) (v := ?_) rfl rfl (by kernel_rfl) (fun _ _ _ h => h) (Or.inl ⟨by rfl, ?_⟩) (by assumption) ?_
      rotate_left 1
      · intro w hSw; obtain ⟨g0, g1, g2⟩ := hSw; go_simp <;> with_reducible rfl
      try simp only [Act.put, List.setIfInBounds_toArray, List.set_cons_zero, List.set_cons_succ]
      refine AnyS.take (i := 2) (oi := _) (d := some 34) (v := ?_) rfl rfl (by kernel_rfl) (fun _ _ _ h => h) (Or.inl ⟨by rfl, ?_⟩) (by assumption) ?_
      rotate_left 1
      · intro w hSw; obtain ⟨g0, g1, g2⟩ := hSw; go_simp <;> with_reducible rfl
      try simp only [Act.put, List.setIfInBounds_toArray, List.set_cons_zero, List.set_cons_succ]
      refine AnyS.take (i := 3) (oi := _) (d := some 35) (v := ?_) rfl rfl (by kernel_rfl) (fun _ _ _ h => h) (Or.inl ⟨by rfl, ?_⟩) (by assumption) ?_
      rotate_left 1
      · intro w hSw; obtain ⟨g0, g1, g2⟩ := hSw; go_simp <;> with_reducible rfl
      try simp only [Act.put, List.setIfInBounds_toArray, List.set_cons_zero, List.set_cons_succ]
      refine AnyS.take (i := 4) (oi := _) (d := some 36) (v := ?_) rfl rfl (by kernel_rfl) (fun _ _ _ h => h) (Or.inl ⟨by rfl, ?_⟩) (by assumption) ?_
      rotate_left 1
      · intro w hSw; obtain ⟨g0, g1, g2⟩ := hSw; go_simp <;> with_reducible rfl
      try simp only [Act.put, List.setIfInBounds_toArray, List.set_cons_zero, List.set_cons_succ]
      refine AnyS.take (i := 5) (oi := _) (d := some 37) (v := ?_) rfl rfl (by kernel_rfl) (fun _ _ _ h => h) (Or.inl ⟨by rfl, ?_⟩) (by assumption) ?_
      rotate_left 1
      · intro w hSw; obtain ⟨g0, g1, g2⟩ := hSw; go_simp <;> with_reducible rfl
      try simp only [Act.put, List.setIfInBounds_toArray, List.set_cons_zero, List.set_cons_succ]
      refine AnyS.take (i := 6) (oi := _) (d := some 38) (v := ?_) rfl rfl (by kernel_rfl) (fun _ _ _ h => h) (Or.inl ⟨by rfl, ?_⟩) (by assumption) ?_
      rotate_left 1
      · intro w hSw; obtain ⟨g0, g1, g2⟩ := hSw; go_simp <;> with_reducible rfl
      try simp only [Act.put, List.setIfInBounds_toArray, List.set_cons_zero, List.set_cons_succ]
      refine AnyS.take (i := 7) (oi := _) (d := some 39) (v := ?_) rfl rfl (by kernel_rfl) (fun _ _ _ h => h) (Or.inl ⟨by rfl, ?_⟩) (by assumption) ?_
      rotate_left 1
      · intro w hSw; obtain ⟨g0, g1, g2⟩ := hSw; go_simp <;> with_reducible rfl
      try simp only [Act.put, List.setIfInBounds_toArray, List.set_cons_zero, List.set_cons_succ]
      refine AnyS.one (i := 8) (o := _) rfl (by kernel_rfl) (by decide) (fun K hK => ?_)
      go_simp
      go_at_call 138
      with_reducible refine (HC1.out _ bD).mono ?_
      intro e wk1 hq
      obtain ⟨h1, bk⟩ := RetT.outD hq
      subst h1
      have HBK1 := Lib.hid (belowT' bD bk)
      clear bk hq
      have hS1 := HS.out _ HBK1.out
      refine hK.out _ _ hS1 (fun hHeld2 => ?_)
      clear hK K
      try simp only [Act.put, List.setIfInBounds_toArray, List.set_cons_zero, List.set_cons_succ]
      refine AnyS.take (i := 9) (oi := _) (d := some 41) (v := ?_) rfl rfl (by kernel_rfl) (fun _ _ _ h => h) (Or.inl ⟨by rfl, ?_⟩) (by assumption) ?_
      rotate_left 1
      · intro w hSw; obtain ⟨g0, g1, g2⟩ := hSw; go_simp <;> with_reducible rfl
      try simp only [Act.put, List.setIfInBounds_toArray, List.set_cons_zero, List.set_cons_succ]
      refine AnyS.take (i := 10) (oi := _) (d := some 42) (v := ?_) rfl rfl (by kernel_rfl) (fun _ _ _ h => h) (Or.inl ⟨by rfl, ?_⟩) (by assumption) ?_
      rotate_left 1
      · intro w hSw; obtain ⟨g0, g1, g2⟩ := hSw; go_simp <;> with_reducible rfl
      try simp only [Act.put, List.setIfInBounds_toArray, List.set_cons_zero, List.set_cons_succ]
      refine AnyS.take (i := 11) (oi := _) (d := some 43) (v := ?_) rfl rfl (by kernel_rfl) (fun _ _ _ h => h) (Or.inl ⟨by rfl, ?_⟩) (by assumption) ?_
      rotate_left 1
      · intro w hSw; obtain ⟨g0, g1, g2⟩ := hSw; go_simp <;> with_reducible rfl
      try simp only [Act.put, List.setIfInBounds_toArray, List.set_cons_zero, List.set_cons_succ]
      refine AnyS.take (i := 12) (oi := _) (d := some 44) (v := undef) rfl rfl (by kernel_rfl) (fun _ _ _ h => h) (Or.inr ⟨by rfl, rfl⟩) (by assumption) ?_
      try simp only [Act.put, List.setIfInBounds_toArray, List.set_cons_zero, List.set_cons_succ]
      refine AnyS.take (i := 13) (oi := _) (d := some 45) (v := undef) rfl rfl (by kernel_rfl) (fun _ _ _ h => h) (Or.inr ⟨by rfl, rfl⟩) (by assumption) ?_
      try simp only [Act.put, List.setIfInBounds_toArray, List.set_cons_zero, List.set_cons_succ]
      refine AnyS.take (i := 14) (oi := _) (d := some 46) (v := undef) rfl rfl (by kernel_rfl) (fun _ _ _ h => h) (Or.inr ⟨by rfl, rfl⟩) (by assumption) ?_
      try simp only [Act.put, List.setIfInBounds_toArray, List.set_cons_zero, List.set_cons_succ]
      refine AnyS.take (i := 15) (oi := _) (d := some 47) (v := undef) rfl rfl (by kernel_rfl) (fun _ _ _ h => h) (Or.inr ⟨by rfl, rfl⟩) (by assumption) ?_
      try simp only [Act.put, List.setIfInBounds_toArray, List.set_cons_zero, List.set_cons_succ]
      refine AnyS.take (i := 16) (oi := _) (d := some 48) (v := undef) rfl rfl (by kernel_rfl) (fun _ _ _ h => h) (Or.inr ⟨by rfl, rfl⟩) (by assumption) ?_
      try simp only [Act.put, List.setIfInBounds_toArray, List.set_cons_zero, List.set_cons_succ]
      refine AnyS.take (i := 17) (oi := _) (d := some 49) (v := undef) rfl rfl (by kernel_rfl) (fun _ _ _ h => h) (Or.inr ⟨by rfl, rfl⟩) (by assumption) ?_
      try simp only [Act.put, List.setIfInBounds_toArray, List.set_cons_zero, List.set_cons_succ]
      refine AnyS.take (i := 18) (oi := _) (d := some 50) (v := undef) rfl rfl (by kernel_rfl) (fun _ _ _ h => h) (Or.inr ⟨by rfl, rfl⟩) (by assumption) ?_
      try simp only [Act.put, List.setIfInBounds_toArray, List.set_cons_zero, List.set_cons_succ]
      refine AnyS.take (i := 19) (oi := _) (d := some 51) (v := undef) rfl rfl (by kernel_rfl) (fun _ _ _ h => h) (Or.inr ⟨by rfl, rfl⟩) (by assumption) ?_
      try simp only [Act.put, List.setIfInBounds_toArray, List.set_cons_zero, List.set_cons_succ]
      refine AnyS.take (i := 20) (oi := _) (d := some 52) (v := undef) rfl rfl (by kernel_rfl) (fun _ _ _ h => h) (Or.inr ⟨by rfl, rfl⟩) (by assumption) ?_
      try simp only [Act.put, List.setIfInBounds_toArray, List.set_cons_zero, List.set_cons_succ]
      refine AnyS.take (i := 21) (oi := _) (d := some 53) (v := ?_) rfl rfl (by kernel_rfl) (fun _ _ _ h => h) (Or.inl ⟨by rfl, ?_⟩) (by assumption) ?_
      rotate_left 1
      · intro w hSw; obtain ⟨g0, g1, g2⟩ := hSw; go_simp <;> with_reducible rfl
      try simp only [Act.put, List.setIfInBounds_toArray, List.set_cons_zero, List.set_cons_succ]
      refine AnyS.take (i := 22) (oi := _) (d := some 54) (v := ?_) rfl rfl (by kernel_rfl) (fun _ _ _ h => h) (Or.inl ⟨by rfl, ?_⟩) (by assumption) ?_
      rotate_left 1
      · intro w hSw; obtain ⟨g0, g1, g2⟩ := hSw; go_simp <;> with_reducible rfl
      try simp only [Act.put, List.setIfInBounds_toArray, List.set_cons_zero, List.set_cons_succ]
      refine AnyS.last (o := _) rfl (by kernel_rfl) (by kernel_rfl) (fun K hK => ?_)
      go_simp
      refine hK.out _ _ ?_
      clear hK K
      try simp only [Act.put, List.setIfInBounds_toArray, List.set_cons_zero, List.set_cons_succ]
      go_wp2_with fail
      go_ret
      exact ⟨rfl, HBK1.out⟩
set_option maxRecDepth 100000 in
set_option maxHeartbeats 4000000 in
theorem waitsFor_any (ho : ObAt w bs o) (hu : ObAt w bs u) (so : ObSz o) (su : ObSz u) : Calls Try.prog 148 #[.pointer (some ⟨o.b, 0, none⟩), .pointer (some ⟨u.b, 0, none⟩)] w (RetT w (wfO o u)) := by
  obtain ⟨j, hj, _, hsz, _⟩ := info_parts info_ow
  have hj5 : j.size ≠ 0 := by rw [hsz]; omega
  by_cases hb : o.b = u.b
  · have HF : Hid (wfO o u = false) := Lib.hid (by unfold wfO; rw [if_pos (.inl hb)])
    obtain ⟨ob, hob⟩ : ∃ ob, ob = u.b := ⟨_, rfl⟩
    rw [hb, ← hob]
    have heq := run_eql_ptr_same (P := Try.prog) w ⟨ob, 0, none⟩ Try.underlying157 hj
    clear ho hu hb hob so su hsz hj5 hj
    go_enter Try.func148, Try.ntmps148
    go_wp2_with fail
    go_ret
    exact ⟨by rw [HF.out]; rfl, Below.refl _ _⟩
  · have heq := run_eql_ptr_other (P := Try.prog) w (a := ⟨o.b, 0, none⟩) (b := ⟨u.b, 0, none⟩) Try.underlying157 hj hj5 (fun e => hb (by injection e)) ho.cl hu.cl
    have o4 := ho.k4
    have u4 := hu.k4
    by_cases ht : o.turn = 0
    · have HF : Hid (wfO o u = false) := Lib.hid (by unfold wfO; rw [if_pos (.inr ht)])
      rw [ht] at o4
      obtain ⟨ob, hob⟩ : ∃ ob, ob = o.b := ⟨_, rfl⟩
      obtain ⟨ub, hub⟩ : ∃ ub, ub = u.b := ⟨_, rfl⟩
      rw [← hob] at o4 heq ⊢
      rw [← hub] at heq ⊢
      clear ho hu hb hob hub so su hsz hj5 hj ht u4
      go_enter Try.func148, Try.ntmps148
      go_wp2_with fail
      go_ret
      exact ⟨by rw [HF.out]; rfl, Below.refl _ _⟩
    · obtain ⟨c1, hc1⟩ : ∃ c, c = clashR o.asked u.held := ⟨_, rfl⟩
      obtain ⟨c2, hc2⟩ : ∃ c, c = clashR o.asked u.asked := ⟨_, rfl⟩
      obtain ⟨z1, hz1⟩ : ∃ c, c = decide (0 < u.turn) := ⟨_, rfl⟩
      obtain ⟨z2, hz2⟩ : ∃ c, c = decide (u.turn < o.turn) := ⟨_, rfl⟩
      have HF : Hid (wfO o u = (c1 || (z1 && z2 && c2))) := Lib.hid (by unfold wfO; rw [if_neg (by rintro (h | h); exact hb h; exact ht h), hc1, hc2, hz1, hz2])
      have HC1 : Hid (∀ wx, Below w.heap.size w wx → Calls Try.prog 138 #[.slice o.aA o.asked.length o.ac, .slice u.hA u.held.length u.hc] wx (RetT wx c1)) := Lib.hid (fun wx h => by rw [hc1]; exact clash_any (ho.below h).aR.rd so.2 (hu.below h).hR.rd su.1)
      have HC2 : Hid (∀ wx, Below w.heap.size w wx → Calls Try.prog 138 #[.slice o.aA o.asked.length o.ac, .slice u.aA u.asked.length u.ac] wx (RetT wx c2)) := Lib.hid (fun wx h => by rw [hc2]; exact clash_any (ho.below h).aR.rd so.2 (hu.below h).aR.rd su.2)
      have HS : Hid (∀ wx, Below w.heap.size w wx → wx.cell? ⟨o.b, 3, none⟩ = some (.slice o.aA o.asked.length o.ac) ∧ wx.cell? ⟨u.b, 2, none⟩ = some (.slice u.hA u.held.length u.hc) ∧ wx.cell? ⟨u.b, 3, none⟩ = some (.slice u.aA u.asked.length u.ac)) := Lib.hid (fun wx h => ⟨(ho.below h).k3, (hu.below h).k2, (hu.below h).k3⟩)
      rw [HF.out]
      exact waitsFor_walk heq o4 u4 ht hz1 hz2 HC1.out HC2.out HS.out
end
end Go.Proofs.Ytmpdenpopokigaa
namespace Go.Proofs.Ytmpdenpopokigaa
open Go Go.RowKit
section
variable {w : World} {A B : Option Addr} {n m c d : Nat} {rs qs : List Rg}
end
end Go.Proofs.Ytmpdenpopokigaa
namespace Go.Proofs.Ytmpdenpopokigaa
open Go Go.RowKit

theorem RowE.lower {w wr w' : World} {L : Option Addr} {i d : Nat} {es : List En} (h : RowE wr wr.heap.size L i d es w') (hb : Below w.heap.size w wr) : RowE w w.heap.size L i d es w' := by
  obtain ⟨vs, r1, r2, r3, r4, r5, r6, r7⟩ := h
  have hs := hb.size
  have h1 := belowT' hb r5
  exact ⟨vs, OwnE.mono r1 hs, EOs.mono hs r2, r3, r4, h1, h1.size, r7.mono hs⟩
end Go.Proofs.Ytmpdenpopokigaa
namespace Go.Proofs.Ytmpdenpopokigaa
open Go Go.RowKit

end Go.Proofs.Ytmpdenpopokigaa
namespace Go.Proofs.Ytmpdenpopokigaa
open Go Go.RowKit

theorem pw_inj {os : List Ob} (h : os.Pairwise ApO) {a c : Ob} (ha : a ∈ os) (hc : c ∈ os) (hb : a.b = c.b) : a = c := by
  induction os with
  | nil => cases ha
  | cons o os ih =>
    have h1 := List.pairwise_cons.1 h
    rcases List.mem_cons.1 ha with rfl | ha2
    · rcases List.mem_cons.1 hc with rfl | hc2
      · rfl
      · exact absurd hb (h1.1 c hc2).1
    · rcases List.mem_cons.1 hc with rfl | hc2
      · exact absurd hb.symm (h1.1 a ha2).1
      · exact ih h1.2 ha2 hc2
theorem pw_ap {os : List Ob} (h : os.Pairwise ApO) {a c : Ob} (ha : a ∈ os) (hc : c ∈ os) (hb : a.b ≠ c.b) : ApO a c := by
  induction os with
  | nil => cases ha
  | cons o os ih =>
    have h1 := List.pairwise_cons.1 h
    rcases List.mem_cons.1 ha with rfl | ha2
    · rcases List.mem_cons.1 hc with rfl | hc2
      · exact absurd rfl hb
      · exact h1.1 c hc2
    · rcases List.mem_cons.1 hc with rfl | hc2
      · have := h1.1 a ha2
        exact ⟨fun e => this.1 e.symm, fun k hk hk2 => this.2 k hk2 hk⟩
      · exact ih h1.2 ha2 hc2
/-- One owner is another one. -/
def updO (os : List Ob) (x : Ob) : List Ob := os.map fun u => if u.b = x.b then x else u
theorem updO_len (os : List Ob) (x : Ob) : (updO os x).length = os.length := by unfold updO; simp
theorem updO_mem {os : List Ob} {x u : Ob} (h : u ∈ updO os x) : (u = x ∧ ∃ v ∈ os, v.b = x.b) ∨ (u ∈ os ∧ u.b ≠ x.b) := by
  unfold updO at h
  obtain ⟨v, hv, e⟩ := List.mem_map.1 h
  by_cases hb : v.b = x.b
  · rw [if_pos hb] at e; exact .inl ⟨e.symm, v, hv, hb⟩
  · rw [if_neg hb] at e; subst e; exact .inr ⟨hv, hb⟩
theorem mem_updO {os : List Ob} {x u : Ob} (h : u ∈ os) (hb : u.b ≠ x.b) : u ∈ updO os x := List.mem_map.2 ⟨u, h, if_neg hb⟩
theorem mem_updO' {os : List Ob} {x u : Ob} (h : u ∈ os) (hb : u.b = x.b) : x ∈ updO os x := List.mem_map.2 ⟨u, h, if_pos hb⟩
/-- The table's blocks. -/
def tbl (p : Nat) (OA : Option Addr) (os : List Ob) : List Nat := p :: ((blk OA).toList ++ os.flatMap fun o => o.b :: o.rows)
theorem mem_tbl {p b : Nat} {OA : Option Addr} {os : List Ob} : b ∈ tbl p OA os ↔ b = p ∨ blk OA = some b ∨ ∃ o ∈ os, b = o.b ∨ b ∈ o.rows := by
  unfold tbl
  simp only [List.mem_cons, List.mem_append, Option.mem_toList, List.mem_flatMap]
theorem mem_rows {o : Ob} {b : Nat} : b ∈ o.rows ↔ blk o.hA = some b ∨ blk o.aA = some b := by
  unfold Ob.rows
  simp only [List.mem_append, Option.mem_toList]
section
variable {w w' : World} {bs p : Nat} {OA : Option Addr} {oc turns : Nat} {os : List Ob} {o x : Ob}
theorem ObAt.noBy (h : ObAt w bs o) : NoBy w (o.b :: o.rows) := by
  have h1 : NoBy w ([o.b] ++ ((blk o.hA).toList ++ (blk o.aA).toList)) := (NoBy.cl h.cl (by decide)).app (h.hR.noBy.app h.aR.noBy)
  exact h1
theorem ObAt.row_lt (h : ObAt w bs o) {b : Nat} (hb : b ∈ o.rows) : bs ≤ b ∧ b < w.heap.size := by
  rcases mem_rows.1 hb with hb | hb
  · exact h.hR.lt b hb
  · exact h.aR.lt b hb
theorem ObAt.row_ne {q : Nat} {us : Array Value} {ty : TypeId} (h : ObAt w bs o) (hp : Cl w q us ty) (hne : ty ≠ 97) : q ∉ o.rows := fun hm => by
  rcases mem_rows.1 hm with hb | hb
  · exact h.hR.ne_cl hp hne hb
  · exact h.aR.ne_cl hp hne hb
theorem ObAt.fr {bl : List Nat} (h : ObAt w bs o) (hf : Fr w w' bl) (h1 : o.b ∉ bl) (h2 : ∀ k ∈ o.rows, k ∉ bl) (hn : NoBy w bl) : ObAt w' bs o :=
  ⟨(hf.block _ h.lt h1).trans h.cl, h.ge, h.hR.fr hf (fun b hb => h2 b (mem_rows.2 (.inl hb))) hn, h.aR.fr hf (fun b hb => h2 b (mem_rows.2 (.inr hb))) hn, h.nd⟩
theorem cl_typ {q : Nat} {us vs : Array Value} {t1 t2 : TypeId} (h : Cl w q us t1) (k : Cl w q vs t2) : t1 = t2 := by
  unfold Cl at h k
  rw [h] at k
  injection k with k
  injection k
theorem OwnV.frK {e : TypeId} {base n c : Nat} {A : Option Addr} {vs : List Value} {bl : List Nat} (h : OwnV e w base A n c vs) (hf : Fr w w' bl) (ho : ∀ b, blk A = some b → b ∉ bl) : OwnV e w' base A n c vs := by
  refine ⟨h.1, ?_⟩
  rcases h.2 with h1 | ⟨g, cap, cur, h1, h2, h3, h4⟩
  · exact .inl h1
  · injection h1 with h1 h5 h6
    subst h1 h6
    exact .inr ⟨g, _, cur, rfl, h2, (hf.block g (Array.getElem?_eq_some_iff.1 h3).1 (ho g rfl)).trans h3, h4⟩
theorem TkAt.ne_ob (h : TkAt w bs p OA oc turns os) (ho : ObAt w bs o) : p ∉ o.b :: o.rows := fun hm => by
  rcases List.mem_cons.1 hm with e | hm
  · subst e; exact absurd (cl_typ h.cl ho.cl) (by decide)
  · exact ho.row_ne h.cl (by decide) hm
theorem TkAt.ne_row (h : TkAt w bs p OA oc turns os) (ho : ObAt w bs o) (b : Nat) (hb : blk OA = some b) : b ∉ o.b :: o.rows := fun hm => by
  rcases List.mem_cons.1 hm with e | hm
  · subst e; exact cl_row ho.cl h.row (by decide) hb
  · rcases mem_rows.1 hm with e | e
    · obtain ⟨ps, h1, _⟩ := ho.hR; exact Go.Proofs.Ytmpdenpopokigaa.row_ne h.row h1 (by decide) b hb e
    · obtain ⟨ps, h1, _⟩ := ho.aR; exact Go.Proofs.Ytmpdenpopokigaa.row_ne h.row h1 (by decide) b hb e
theorem TkAt.noBy (h : TkAt w bs p OA oc turns os) : NoBy w (tbl p OA os) := fun b hb base A m c xs ho e => by
  rcases mem_tbl.1 hb with rfl | hb | ⟨u, hu, hb⟩
  · exact NoBy.cl h.cl (by decide) b (by simp) _ _ _ _ _ ho e
  · exact NoBy.row h.row (by decide) b (by simpa using hb) _ _ _ _ _ ho e
  · exact (h.obs u hu).noBy b (by simpa using hb) _ _ _ _ _ ho e
theorem TkAt.bl_ge (h : TkAt w bs p OA oc turns os) : ∀ b ∈ tbl p OA os, bs ≤ b ∧ b < w.heap.size := fun b hb => by
  rcases mem_tbl.1 hb with rfl | hb | ⟨u, hu, hb⟩
  · exact ⟨h.ge, h.cl.lt⟩
  · exact OwnV.lt h.row b hb
  · rcases hb with rfl | hb
    · exact ⟨(h.obs u hu).ge, (h.obs u hu).lt⟩
    · exact (h.obs u hu).row_lt hb
theorem updO_ptr : (updO os x).map obP = os.map obP := by
  unfold updO
  rw [List.map_map]
  apply List.map_congr_left
  intro u hu
  simp only [Function.comp]
  by_cases e : u.b = x.b
  · rw [if_pos e]; unfold obP; rw [e]
  · rw [if_neg e]
/-- One owner has turned, in its blocks and new ones. -/
theorem TkAt.upd (h : TkAt w bs p OA oc turns os) (ho : o ∈ os) (hf : Fr w w' (o.b :: o.rows)) (hx : ObAt w' bs x) (hb : x.b = o.b) (hr : ∀ b ∈ x.rows, b ∈ o.rows ∨ w.heap.size ≤ b) : TkAt w' bs p OA oc turns (updO os x) := by
  have hoo := h.obs o ho
  refine ⟨?_, h.ge, ?_, ?_, ?_⟩
  · rw [updO_len]; exact (hf.block p h.cl.lt (h.ne_ob hoo)).trans h.cl
  · rw [updO_len, updO_ptr]
    exact h.row.frK hf (fun b hb => h.ne_row hoo b hb)
  · intro u hu
    rcases updO_mem hu with ⟨rfl, _⟩ | ⟨hu, hne⟩
    · exact hx
    · have hau := pw_ap h.dis hu ho (by rw [← hb]; exact hne)
      refine (h.obs u hu).fr hf ?_ ?_ hoo.noBy
      · intro hm
        rcases List.mem_cons.1 hm with e | hm
        · exact hau.1 e
        · exact hoo.row_ne (h.obs u hu).cl (by decide) hm
      · intro k hk hm
        rcases List.mem_cons.1 hm with e | hm
        · subst e; exact (h.obs u hu).row_ne hoo.cl (by decide) hk
        · exact hau.2 k hk hm
  · unfold updO
    rw [List.pairwise_map]
    refine List.Pairwise.imp_of_mem ?_ h.dis
    intro a c ha hc hap
    have fix : ∀ u ∈ os, u.b ≠ x.b → ApO u x := fun u hu hne => by
      have hau := pw_ap h.dis hu ho (by rw [← hb]; exact hne)
      refine ⟨hne, fun k hk hm => ?_⟩
      rcases hr k hm with h1 | h1
      · exact hau.2 k hk h1
      · have := (h.obs u hu).row_lt hk; omega
    by_cases ea : a.b = x.b
    · by_cases ec : c.b = x.b
      · exact absurd (ea.trans ec.symm) hap.1
      · rw [if_pos ea, if_neg ec]
        have := fix c hc ec
        exact ⟨fun e => this.1 e.symm, fun k hk hm => this.2 k hm hk⟩
    · by_cases ec : c.b = x.b
      · rw [if_neg ea, if_pos ec]; exact fix a ha ea
      · rw [if_neg ea, if_neg ec]; exact hap
/-- What the blocks are behind that. -/
theorem tbl_upd (ho : o ∈ os) (hb : x.b = o.b) {N : Nat} (hr : ∀ b ∈ x.rows, b ∈ o.rows ∨ N ≤ b) : ∀ b ∈ tbl p OA (updO os x), b ∈ tbl p OA os ∨ N ≤ b := fun b hm => by
  rcases mem_tbl.1 hm with h | h | ⟨u, hu, h⟩
  · exact .inl (mem_tbl.2 (.inl h))
  · exact .inl (mem_tbl.2 (.inr (.inl h)))
  · rcases updO_mem hu with ⟨rfl, _⟩ | ⟨hu, _⟩
    · rcases h with h | h
      · exact .inl (mem_tbl.2 (.inr (.inr ⟨o, ho, .inl (by rw [h, hb])⟩)))
      · rcases hr b h with h | h
        · exact .inl (mem_tbl.2 (.inr (.inr ⟨o, ho, .inr h⟩)))
        · exact .inr h
    · exact .inl (mem_tbl.2 (.inr (.inr ⟨u, hu, h⟩)))
end
/-- It waits no more. -/
def giveO (o : Ob) : Ob := { o with aA := none, ac := 0, asked := [], turn := 0 }
def RetGv (w : World) (bs : Nat) (o x : Ob) (e : Ending) (w' : World) : Prop := e = .returned (.tuple #[]) ∧ Fr w w' (o.b :: o.rows) ∧ ObAt w' bs x
theorem RetGv.out {w : World} {bs : Nat} {o x : Ob} {e : Ending} {w' : World} (h : RetGv w bs o x e w') : e = .returned (.tuple #[]) ∧ Fr w w' (o.b :: o.rows) ∧ ObAt w' bs x := h
section
variable {w : World} {bs : Nat} {o : Ob}
set_option maxRecDepth 100000 in
set_option maxHeartbeats 4000000 in
theorem giveUp_any (ho : ObAt w bs o) : Calls Try.prog 149 #[.pointer (some ⟨o.b, 0, none⟩)] w (RetGv w bs o (giveO o)) := by
  have hF : Hid (RetGv w bs o (giveO o) (.returned (.tuple #[])) ((w.setCell ⟨o.b, 3, none⟩ (.slice none 0 0)).setCell ⟨o.b, 4, none⟩ (.int .u64 0))) := Lib.hid (by
    have hf : Fr w ((w.setCell ⟨o.b, 3, none⟩ (.slice none 0 0)).setCell ⟨o.b, 4, none⟩ (.int .u64 0)) [o.b] := (Fr.set _ _ _ _).trans (Fr.set _ _ _ _) (fun b hb => .inl hb)
    refine ⟨rfl, hf.mono (fun b hb => .inl (by simp at hb; simp [hb])), (ho.cl.set 3 _).set 4 _, ho.ge, ?_, RgAt.nil _ _, ?_⟩
    · refine ho.hR.fr hf ?_ (NoBy.cl ho.cl (by decide))
      intro b hb hm
      obtain rfl : b = o.b := by simpa using hm
      exact ho.hR.ne_cl ho.cl (by decide) hb
    · have := ho.nd
      unfold Ob.rows at this ⊢
      rw [show (blk (giveO o).aA).toList = [] from rfl, List.append_nil]
      exact (List.nodup_append.1 this).1)
  have c3 := ho.k3
  have c4 := ho.k4
  have f3 := ho.cl.thaw 3
  have f4 := ho.cl.thaw 4
  obtain ⟨ob, hob⟩ : ∃ ob, ob = o.b := ⟨_, rfl⟩
  rw [← hob] at c3 c4 f3 f4 ⊢
  have HOB := Lib.hid hob
  clear ho hob
  go_enter Try.func149, Try.ntmps149
  go_wp2_with fail
  go_end0
  rw [HOB.out]
  exact hF.out
end
end Go.Proofs.Ytmpdenpopokigaa
namespace Go.Proofs.Ytmpdenpopokigaa
open Go Go.RowKit

end Go.Proofs.Ytmpdenpopokigaa
namespace Go.Proofs.Ytmpdenpopokigaa
open Go Go.RowKit

section
variable {G H : Nat → Prop} {w w' : World}
/-- 'Blocks of this kind are no bytes and no slices of bytes.' -/
def okB (ty : TypeId) : Prop := ty ≠ 5 ∧ ty ≠ 36
/-- 'Good bytes stand, and whatever is no row of bytes or of slices of bytes.' -/
def FrB (G : Nat → Prop) (w w' : World) : Prop := ∀ b us ty, Cl w b us ty → (ty = 5 ∧ G b) ∨ okB ty → Cl w' b us ty
theorem own_good {b n c : Nat} {A : Option Addr} {xs : List UInt8} (h : Own 5 w b A n c xs) (hf : FrB G w w') (hg : ∀ k, blk A = some k → G k) : Own 5 w' b A n c xs := by
  refine ⟨h.1, ?_⟩
  rcases h.2 with h1 | ⟨g, cap, cur, h1, h2, h3, h4⟩
  · exact .inl h1
  · injection h1 with e1 e2 e3
    exact .inr ⟨g, cap, cur, by rw [e1, e2, e3], h2, hf g cur _ h3 (.inl ⟨rfl, hg g (by rw [e1]; rfl)⟩), h4⟩
theorem EG.fr {e : En} {v0 v1 v2 v3 : Value} (h : EG G w e v0 v1 v2 v3) (hf : FrB G w w') : EG G w' e v0 v1 v2 v3 := by
  obtain ⟨⟨K, kn, kc, V, vn, vc, rfl, rfl, rfl, rfl, o1, o2, u⟩, hg⟩ := h
  exact ⟨⟨K, kn, kc, V, vn, vc, rfl, rfl, rfl, rfl, own_good o1 hf (fun k hk => hg K kn kc k (by simp) hk), own_good o2 hf (fun k hk => hg V vn vc k (by simp) hk), u⟩, hg⟩
end
end Go.Proofs.Ytmpdenpopokigaa
namespace Go.Proofs.Ytmpdenpopokigaa
open Go Go.RowKit

/-- Ranges appended at a step of a region that draws its order; where the row lies. -/
theorem step_app3T {P : Program} (w : World) {ops : Array Oper} {o : Oper} {a : Act} {K : Act → World → Prop} {Q : Exit → Act → World → Prop} {E : Prop} (hgd : o.guard = none) (s x : Operand) (tt : TypeId)
    (ho : o.op = .call { callee := .builtin .append, args := #[s, x], argTypes := #[tt, tt] })
    (base : Nat) (z : Value) (by_ : Nat) (ht : P.underlying tt = some (.slice 97)) (hi : (P.info? 97).map (fun i => (i.zero, i.size, i.bytes)) = some (some z, 3, by_)) (hz1 : z.cells.size = 3)
    (A : Option Addr) (n c : Nat) (vs : List Value) (hs : a.eval s = .slice A n c) (hown : OwnGr w base A n c vs)
    (B : Option Addr) (m d : Nat) (ys : List Value) (hx : a.eval x = .slice B m d) (hr : RdV w B (m * 3) ys) (hB : B = none → m = 0) (h1 : ∀ u ∈ ys, u.oneCell' = true)
    (hn : n + m ≤ maxLen) (hby : (n + m) * by_ ≤ 140737488355328) (hbase : base ≤ w.heap.size)
    (h : ∀ A' c' w', OwnGr w' base A' (n + m) c' (vs ++ ys) → w.grownBy w' (blk A) → (blk A' = blk A ∨ blk A' = some w.heap.size) → K (a.put o.dst (.slice A' (n + m) c')) w') :
    if Region.wanted o (yielded ops a.tmps) = true then Oper.wp P o a w K Q else E := by
  have hw : Region.wanted o (yielded ops a.tmps) = true := by simp [Region.wanted, hgd]
  rw [if_pos hw]
  obtain ⟨i, hi, hz, hsz, hby2⟩ := info_parts hi
  cases B with
  | none =>
    obtain rfl := hB rfl
    have hy : ys = [] := List.eq_nil_of_length_eq_zero (by simpa using hr.1)
    subst hy
    have hrun : (Builtin.append_ #[tt, tt] o.type #[.slice A n c, .slice none 0 d]).run P w = .ok (.slice A n c) w := by
      rcases hown.2 with ⟨h3, _⟩ | ⟨g, cap, cur, h3, _, _, hnc, _⟩
      · rw [h3]; simp [Builtin.append_, run_underlying ht, sizeOf, typeInfo, hi, Builtin.lenOf, Builtin.firstCells]
      · rw [h3]; simp [Builtin.append_, run_underlying ht, sizeOf, typeInfo, hi, Builtin.lenOf, Builtin.firstCells, hnc, storeCells]
    unfold Oper.wp execOp
    simp only [ho, resolve, invoke, builtin, Sem.run_bind, Sem.run_pure, Result.andThen_ok, List.map_toArray, List.map_cons, List.map_nil, hs, hx, hrun]
    exact h A c w (by simpa using hown) (World.grownBy.refl w _) (.inl rfl)
  | some ad =>
    obtain ⟨v', w', hrun, k1, k2, _, k3⟩ := run_append_own_at (P := P) w base tt o.type 97 i z 3 by_ ht hi hz hsz hby2 hz1 (by decide) (.slice A n c) n vs hown ad m d ys hr.1 (by
      intro j u hj
      have hm : 0 < m * 3 := by
        have := (List.getElem?_eq_some_iff.1 hj).1
        rw [hr.1] at this
        omega
      obtain ⟨b, off, e, _, hc⟩ := hr.2 hm
      injection e with e
      subst e
      rw [Addr.add_lit]
      exact hc j u hj) h1 hn hby hbase
    obtain ⟨A', c', rfl⟩ : ∃ A' c', v' = .slice A' (n + m) c' := by
      rcases k1.2 with ⟨h3, h4⟩ | ⟨g, cap, cur, h3, _⟩
      · exact ⟨none, 0, by rw [h3, h4]⟩
      · exact ⟨_, _, h3⟩
    rw [own_blk] at k2
    rw [own_blk, own_blk] at k3
    unfold Oper.wp execOp
    simp only [ho, resolve, invoke, builtin, Sem.run_bind, Sem.run_pure, Result.andThen_ok, List.map_toArray, List.map_cons, List.map_nil, hs, hx, hrun]
    exact h A' c' w' k1 k2 k3
/-- It holds what it waited for, too. -/
def midO (o : Ob) (A : Option Addr) (c : Nat) : Ob := { o with hA := A, hc := c, held := o.held ++ o.asked }
def takeO (o : Ob) (A : Option Addr) (c : Nat) : Ob := giveO (midO o A c)
section
variable {w w6 : World} {bs : Nat} {o : Ob}
theorem OwnGr.none_of {w : World} {base n c : Nat} {A : Option Addr} {vs : List Value} (h : OwnGr w base A n c vs) (hA : A = none) : n = 0 := by
  subst hA
  rcases h.2 with ⟨_, h1⟩ | ⟨g, cap, cur, h1, _⟩
  · exact h1
  · injection h1 with h1; cases h1
theorem take_mid (ho : ObAt w bs o) {A' : Option Addr} {c' : Nat} {ps qs : List VB} (hps : FamW w bs ps) (hqs : FamW w bs qs) (hpd : ps.map (·.2) = datG o.held) (hqd : qs.map (·.2) = datG o.asked)
    (h1 : OwnGr w6 bs A' (o.held.length + o.asked.length) c' (flatG o.held ps ++ flatG o.asked qs)) (hg : w.grownBy w6 (blk o.hA)) (h3 : blk A' = blk o.hA ∨ blk A' = some w.heap.size) :
    ObAt (w6.setCell ⟨o.b, 2, none⟩ (.slice A' (o.held.length + o.asked.length) c')) bs (midO o A' c') ∧ Fr w (w6.setCell ⟨o.b, 2, none⟩ (.slice A' (o.held.length + o.asked.length) c')) (o.b :: o.rows) ∧ (∀ b ∈ (midO o A' c').rows, b ∈ o.rows ∨ w.heap.size ≤ b) := by
  have hob : ∀ b, blk o.hA = some b → o.b ≠ b := fun b hb e => ho.hR.ne_cl ho.cl (by decide) (by rw [hb, e])
  have hoa : ∀ b, blk o.aA = some b → o.b ≠ b := fun b hb e => ho.aR.ne_cl ho.cl (by decide) (by rw [hb, e])
  have hf6 : Fr w w6 (blk o.hA).toList := Fr.of_grown hg (fun b hb => by simp [hb])
  have z6 : Cl w6 o.b #[.int .u64 (o.s : Int), .int .u64 (o.q : Int), .slice o.hA o.held.length o.hc, .slice o.aA o.asked.length o.ac, .int .u64 (o.turn : Int)] 164 := ho.cl.grown hg (fun e => hob o.b e rfl)
  have hne' : blk A' ≠ some o.b := fun e => cl_row z6 h1 (by decide) e
  have hnd := ho.nd
  unfold Ob.rows at hnd
  have had : ∀ b, blk o.aA = some b → blk o.hA ≠ some b := fun b hb e => by
    have h5 := (List.nodup_append.1 hnd).2.2
    exact h5 b (by simp only [Option.mem_toList]; exact e) b (by simp only [Option.mem_toList]; exact hb) rfl
  have haN : ∀ b, blk o.aA = some b → blk A' ≠ some b := fun b hb e => by
    rcases h3 with h3 | h3
    · exact had b hb (by rw [← h3, e])
    · rw [e] at h3
      injection h3 with h3
      have := (ho.aR.lt b hb).2
      omega
  have hfs : Fr w6 (w6.setCell ⟨o.b, 2, none⟩ (.slice A' (o.held.length + o.asked.length) c')) [o.b] := Fr.set _ _ _ _
  have ny6 : NoBy w6 [o.b] := NoBy.cl z6 (by decide)
  have hrow6 : FamW w6 bs (ps ++ qs) := (hps.app hqs).fr hf6 ho.hR.noBy
  have ha6 : RgAt w6 bs o.aA o.ac o.asked := ho.aR.fr hf6 (fun b hb hm => had b hb (by simpa using hm)) ho.hR.noBy
  have hpl : ps.length = o.held.length * 2 := by have := congrArg List.length hpd; rw [datG_len] at this; simpa using this
  have hh6 : RgAt w6 bs A' c' (o.held ++ o.asked) := ⟨ps ++ qs, by rw [flatG_app hpl, List.length_append]; exact h1, hrow6, by rw [List.map_append, hpd, hqd, datG_app]⟩
  refine ⟨⟨?_, ho.ge, ?_, ?_, ?_⟩, ?_, ?_⟩
  · have := z6.set 2 (.slice A' (o.held.length + o.asked.length) c')
    unfold midO
    rw [List.length_append]
    exact this
  · refine hh6.fr hfs (fun b hb hm => ?_) ny6
    obtain rfl : b = o.b := by simpa using hm
    exact hne' hb
  · refine ha6.fr hfs (fun b hb hm => ?_) ny6
    obtain rfl : b = o.b := by simpa using hm
    exact hoa o.b hb rfl
  · unfold Ob.rows
    refine List.nodup_append.2 ⟨?_, ?_, ?_⟩
    · cases hA : blk (midO o A' c').hA <;> simp
    · exact (List.nodup_append.1 hnd).2.1
    · intro a ha b hb e
      subst e
      simp only [Option.mem_toList] at ha hb
      exact haN a hb ha
  · have f1 : Fr w w6 (o.b :: o.rows) := hf6.mono (fun b hb => .inl (List.mem_cons.2 (.inr (mem_rows.2 (.inl (by simpa using hb))))))
    exact f1.trans hfs (fun b hb => .inl (by simp at hb; simp [hb]))
  · intro b hb
    rcases mem_rows.1 hb with hb | hb
    · rcases h3 with h3 | h3
      · exact .inl (mem_rows.2 (.inl (by rw [← h3]; exact hb)))
      · refine .inr ?_
        have hb' : blk A' = some b := hb
        rw [h3] at hb'
        injection hb' with hb'
        omega
    · exact .inl (mem_rows.2 (.inr hb))
/-- What take comes to. -/
def RetTk (w : World) (bs : Nat) (o : Ob) (e : Ending) (w' : World) : Prop := e = .returned (.tuple #[]) ∧ Fr w w' (o.b :: o.rows) ∧ ∃ A c, ObAt w' bs (takeO o A c) ∧ ∀ b ∈ (takeO o A c).rows, b ∈ o.rows ∨ w.heap.size ≤ b
theorem RetTk.out {w w' : World} {bs : Nat} {o : Ob} {e : Ending} (h : RetTk w bs o e w') : e = .returned (.tuple #[]) ∧ Fr w w' (o.b :: o.rows) ∧ ∃ A c, ObAt w' bs (takeO o A c) ∧ ∀ b ∈ (takeO o A c).rows, b ∈ o.rows ∨ w.heap.size ≤ b := h
theorem give_rows {x : Ob} {b : Nat} (h : b ∈ (giveO x).rows) : b ∈ x.rows := by
  rcases mem_rows.1 h with h | h
  · exact mem_rows.2 (.inl h)
  · cases h
set_option maxRecDepth 100000 in
set_option maxHeartbeats 4000000 in
theorem take_any16 (ho : ObAt w bs o) (hbs : bs ≤ w.heap.size) (hz : o.held.length + o.asked.length ≤ 1099511627776) : Calls Try.prog 107 #[.pointer (some ⟨o.b, 0, none⟩)] w (RetTk w bs o) := by
  have hD : ObAt w.drew bs o := ho.below ((Below.refl _ _).drew)
  have HOD := Lib.hid hD
  obtain ⟨ps, h1, h2, h3⟩ := hD.hR
  obtain ⟨qs, k1, k2, k3⟩ := hD.aR
  have HM : Hid (∀ A' c' w6, OwnGr w6 bs A' (o.held.length + o.asked.length) c' (flatG o.held ps ++ flatG o.asked qs) → w.drew.grownBy w6 (blk o.hA) → (blk A' = blk o.hA ∨ blk A' = some w.drew.heap.size) →
      ObAt (w6.setCell ⟨o.b, 2, none⟩ (.slice A' (o.held.length + o.asked.length) c')) bs (midO o A' c') ∧ Fr w.drew (w6.setCell ⟨o.b, 2, none⟩ (.slice A' (o.held.length + o.asked.length) c')) (o.b :: o.rows) ∧ (∀ b ∈ (midO o A' c').rows, b ∈ o.rows ∨ w.drew.heap.size ≤ b)) :=
    Lib.hid (fun A' c' w6 a1 a2 a3 => take_mid HOD.out h2 k2 h3 k3 a1 a2 a3)
  have HC : Hid (∀ w6, w.drew.grownBy w6 (blk o.hA) → w6.cell? ⟨o.b, 2, none⟩ = some (.slice o.hA o.held.length o.hc) ∧ w6.frozen? ⟨o.b, 2, none⟩ = false) := Lib.hid (fun w6 hg => by
    have z6 := HOD.out.cl.grown hg (fun e => HOD.out.hR.ne_cl HOD.out.cl (by decide) e)
    exact ⟨z6.cell 2, z6.thaw 2⟩)
  have l2 : w.drew.cell? ⟨o.b, 2, none⟩ = some (.slice o.hA o.held.length o.hc) := hD.k2
  have l3 : w.drew.cell? ⟨o.b, 3, none⟩ = some (.slice o.aA o.asked.length o.ac) := hD.k3
  have H1 := Lib.hid h1
  have HR1 := Lib.hid k1.rd
  have HR2 : Hid (o.aA = none → o.asked.length = 0) := Lib.hid (fun e => k1.none_of e)
  have HR3 : Hid (∀ u ∈ flatG o.asked qs, u.oneCell' = true) := Lib.hid (grvs_of_famW k2 k3).cells
  have HBS : Hid (bs ≤ w.drew.heap.size) := Lib.hid hbs
  obtain ⟨ob, hob⟩ : ∃ ob, ob = o.b := ⟨_, rfl⟩
  obtain ⟨n, hn⟩ : ∃ n, n = o.held.length := ⟨_, rfl⟩
  obtain ⟨m, hm⟩ : ∃ m, m = o.asked.length := ⟨_, rfl⟩
  rw [← hn, ← hm] at HM hz
  rw [← hn] at l2 HC H1
  rw [← hm] at l3 HR1 HR2
  rw [← hob] at l2 l3 HC HM ⊢
  have HOB := Lib.hid hob
  clear ho hD h1 h2 h3 k1 k2 k3 hob hn hm hbs
  go_enter Try.func107, Try.ntmps107
  go_upto_region 0 with (fail)
  go_region_law (refine step_app3T _ rfl (Operand.tmp 6) (Operand.tmp 10) 98 rfl bs _ 56 Try.underlying98 info_rg rfl o.hA n o.hc (flatG o.held ps) (by first | (simp [Act.eval]; done) | (simp [Act.eval, Act.put]; done) | rfl) H1.out o.aA m o.ac (flatG o.asked qs) (by first | (simp [Act.eval]; done) | (simp [Act.eval, Act.put]; done) | rfl) HR1.out HR2.out HR3.out (by unfold maxLen; omega) (by omega) HBS.out ?_; intro A' c' w6 hw1 hw2 hw3; obtain ⟨s2, s3⟩ := HC.out w6 hw2)
  all_goals
    obtain ⟨y1, y2, y3⟩ := HM.out A' c' w6 hw1 hw2 hw3
    obtain ⟨w7, hw7⟩ : ∃ w7, w7 = w6.setCell ⟨ob, 2, none⟩ (.slice A' (n + m) c') := ⟨_, rfl⟩
    rw [← hw7] at y1 y2
    have HW7 := Lib.hid hw7
    have HGU := Lib.hid (giveUp_any y1)
    have HY2 := Lib.hid y2
    have HY3 := Lib.hid y3
    have HMB : Hid ((midO o A' c').b = ob) := Lib.hid HOB.out.symm
    rw [HMB.out] at HGU
    clear y1 y2 y3 hw7 hw1 hw2 hw3 s2 s3 l2 l3
    try rw [← HW7.out]
    go_wp2_with fail
    with_reducible refine HGU.out.mono ?_
    intro e w8 hq
    obtain ⟨g1, g2, g3⟩ := hq.out
    subst g1
    have HF : Hid (RetTk w bs o (.returned (.tuple #[])) w8) := Lib.hid (by
      refine ⟨rfl, ?_, A', c', g3, fun b hb => HY3.out b (give_rows hb)⟩
      have t1 : Fr w.drew w8 (o.b :: o.rows) := by
        have y2 := HY2.out
        rw [HOB.out] at y2
        exact y2.trans g2 (fun b hb => by
          rcases List.mem_cons.1 hb with hb | hb
          · exact .inl (by rw [hb]; exact List.mem_cons_self)
          · rcases HY3.out b hb with h | h
            · exact .inl (List.mem_cons.2 (.inr h))
            · exact .inr h)
      exact ⟨t1.os, t1.tape, t1.output, t1.size, t1.block⟩)
    clear hq g2 g3
    go_wp2_with fail
    go_end0
    exact HF.out
end
end Go.Proofs.Ytmpdenpopokigaa
namespace Go.Proofs.Ytmpdenpopokigaa
open Go Go.RowKit

end Go.Proofs.Ytmpdenpopokigaa
namespace Go.Proofs.Ytmpdenpopokigaa
open Go Go.RowKit

end Go.Proofs.Ytmpdenpopokigaa
namespace Go.Proofs.Ytmpdenpopokigaa
open Go Go.RowKit

/-- A row of transactions of the call's own. -/
def OwnX (w : World) (base : Nat) (A : Option Addr) (n c : Nat) (vs : List Value) : Prop := w.ownsRow base 83 2 (.slice A n c) n vs
def flatX : List (Nat × Nat) → List Value
  | [] => []
  | x :: xs => .int .u64 (x.1 : Int) :: .int .u64 (x.2 : Int) :: flatX xs
theorem flatX_app (xs ys : List (Nat × Nat)) : flatX (xs ++ ys) = flatX xs ++ flatX ys := by
  induction xs with
  | nil => rfl
  | cons x xs ih => simp [flatX, ih]
theorem flatX_at : ∀ (xs : List (Nat × Nat)) (i : Nat) (x : Nat × Nat), xs[i]? = some x → (flatX xs)[i * 2]? = some (.int .u64 (x.1 : Int)) ∧ (flatX xs)[i * 2 + 1]? = some (.int .u64 (x.2 : Int))
  | [], i, x, h => by simp at h
  | y :: xs, 0, x, h => by
    simp only [List.getElem?_cons_zero, Option.some.injEq] at h
    subst h
    exact ⟨rfl, rfl⟩
  | y :: xs, i + 1, x, h => by
    rw [List.getElem?_cons_succ] at h
    have := flatX_at xs i x h
    rw [show (i + 1) * 2 = i * 2 + 2 by omega]
    exact this
section
variable {w w' : World} {base n c : Nat} {A : Option Addr} {vs : List Value}
theorem OwnX.rd (h : OwnX w base A n c vs) : RdV w A (n * 2) vs := by
  refine ⟨by have := h.1; simpa [Nat.mul_comm] using this, fun hn => ?_⟩
  rcases h.2 with ⟨_, h2⟩ | ⟨g, cap, cur, h1, _, hg, _⟩
  · omega
  · injection h1 with h1
    subst h1
    refine ⟨g, 0, rfl, (Array.getElem?_eq_some_iff.1 hg).1, fun i x hx => ?_⟩
    have := World.ownsRow.cells h (g := g) rfl i _ hx
    simpa [Addr.add_lit] using this
theorem OwnX.cap (h : OwnX w base A n c vs) : n ≤ c ∧ c ≤ maxLen := by
  rcases h.2 with ⟨h1, h2⟩ | ⟨g, cap, cur, h1, _, _, h2, h3, _⟩
  · injection h1 with h1 h2 h3
    subst h2 h3
    unfold maxLen
    omega
  · injection h1 with _ _ h4
    subst h4
    exact ⟨h2, h3⟩
theorem OwnX.lt (h : OwnX w base A n c vs) (b : Nat) (hb : blk A = some b) : base ≤ b ∧ b < w.heap.size := World.ownsRow.lt h b (by rw [own_blk]; exact hb)
theorem OwnX.nil (w : World) (base : Nat) : OwnX w base none 0 0 [] := World.ownsRow_nil _ _ _ _
theorem OwnX.below (h : OwnX w base A n c vs) (hb : Below w.heap.size w w') : OwnX w' base A n c vs := by
  refine ⟨h.1, ?_⟩
  rcases h.2 with h1 | ⟨g, cap, cur, h1, h2, h3, h4⟩
  · exact .inl h1
  · exact .inr ⟨g, cap, cur, h1, h2, (hb.block g (Array.getElem?_eq_some_iff.1 h3).1).trans h3, h4⟩
theorem OwnX.mono {base' : Nat} (h : OwnX w base A n c vs) (hb : base' ≤ base) : OwnX w base' A n c vs := by
  refine ⟨h.1, ?_⟩
  rcases h.2 with h1 | ⟨g, cap, cur, h1, h2, h3⟩
  · exact .inl h1
  · exact .inr ⟨g, cap, cur, h1, by omega, h3⟩
theorem OwnX.fr {bl : List Nat} (h : OwnX w base A n c vs) (hf : Fr w w' bl) (ho : ∀ b, blk A = some b → b ∉ bl) : OwnX w' base A n c vs := by
  refine ⟨h.1, ?_⟩
  rcases h.2 with h1 | ⟨g, cap, cur, h1, h2, h3, h4⟩
  · exact .inl h1
  · injection h1 with h1 h5 h6
    subst h1 h6
    exact .inr ⟨g, _, cur, rfl, h2, (hf.block g (Array.getElem?_eq_some_iff.1 h3).1 (ho g rfl)).trans h3, h4⟩
end
theorem info_tx : (Try.prog.info? 83).map (fun i => (i.zero, i.size, i.bytes)) = some (some (.agg #[.int .u64 0, .int .u64 0]), 2, 16) := by kernel_rfl
theorem rdv_of_cl2 {w : World} {g : Nat} {v0 v1 : Value} {t : TypeId} (h : Cl w g #[v0, v1] t) : RdV w (some ⟨g, 0, none⟩) (1 * 2) [v0, v1] :=
  ⟨rfl, fun _ => ⟨g, 0, rfl, h.lt, fun i x hx => by rw [Nat.zero_add, h.cell i]; simpa using hx⟩⟩
/-- Transactions appended in plain code. -/
theorem wpList_appY {P : Program} (w : World) {ops : Array Oper} {rest : List Oper} {o : Oper} {a : Act} {Q : Exit → Act → World → Prop} (hgd : o.guard = none) (s x : Operand) (tt : TypeId)
    (ho : o.op = .call { callee := .builtin .append, args := #[s, x], argTypes := #[tt, tt] })
    (base : Nat) (z : Value) (by_ : Nat) (ht : P.underlying tt = some (.slice 83)) (hi : (P.info? 83).map (fun i => (i.zero, i.size, i.bytes)) = some (some z, 2, by_)) (hz1 : z.cells.size = 2)
    (A : Option Addr) (n c : Nat) (vs : List Value) (hs : a.eval s = .slice A n c) (hown : OwnX w base A n c vs)
    (ad : Addr) (m d : Nat) (ys : List Value) (hx : a.eval x = .slice (some ad) m d) (hr : RdV w (some ad) (m * 2) ys) (hm : 0 < m) (h1 : ∀ u ∈ ys, u.oneCell' = true)
    (hn : n + m ≤ maxLen) (hby : (n + m) * by_ ≤ 140737488355328) (hbase : base ≤ w.heap.size)
    (h : ∀ A' c' w', OwnX w' base A' (n + m) c' (vs ++ ys) → w.grownBy w' (blk A) → (blk A' = blk A ∨ blk A' = some w.heap.size) → wpList P ops Q rest (a.put o.dst (.slice A' (n + m) c')) w') : wpList P ops Q (o :: rest) a w := by
  obtain ⟨i, hi, hz, hsz, hby2⟩ := info_parts hi
  obtain ⟨b, off, e, _, hc⟩ := hr.2 (by omega)
  injection e with e
  subst e
  refine wpList_append_own_at (w := w) hgd s x tt ho base 83 i z 2 by_ ht hi hz hsz hby2 hz1 (by decide) (.slice A n c) n vs hs hown ⟨b, off, none⟩ m d ys hx hr.1 (fun j u hj => by rw [Addr.add_lit]; exact hc j u hj) h1 hn hby hbase ?_
  intro v' w' k1 k2 _ k3
  obtain ⟨A', c', rfl⟩ : ∃ A' c', v' = .slice A' (n + m) c' := by
    rcases k1.2 with ⟨h3, h4⟩ | ⟨g, cap, cur, h3, _⟩
    · exact ⟨none, 0, by rw [h3, h4]⟩
    · exact ⟨_, _, h3⟩
  rw [own_blk] at k2
  rw [own_blk, own_blk] at k3
  exact h A' c' w' k1 k2 k3
def RetX (w : World) (xs : List (Nat × Nat)) (e : Ending) (w' : World) : Prop := ∃ L n c, e = .returned (.slice L n c) ∧ OwnX w' w.heap.size L n c (flatX xs) ∧ xs.length = n ∧ Below w.heap.size w w'
theorem RetX.out {w : World} {xs : List (Nat × Nat)} {e : Ending} {w' : World} (h : RetX w xs e w') : ∃ L n c, e = .returned (.slice L n c) ∧ OwnX w' w.heap.size L n c (flatX xs) ∧ xs.length = n ∧ Below w.heap.size w w' := h
def nmO (o : Ob) : Nat × Nat := (o.s, o.q)
section
variable {w : World} {bs p n c : Nat} {A OA : Option Addr} {oc turns : Nat} {os : List Ob}
set_option maxRecDepth 100000 in
set_option maxHeartbeats 4000000 in
theorem names_any (h : ROb w bs A n os) (hn : n ≤ 1099511627776) : Calls Try.prog 99 #[.slice A n c] w (RetX w (os.map nmO)) := by
  have HL := Lib.hid h.len
  have HH := Lib.hid h
  clear h
  go_enter Try.func99, Try.ntmps99
  go_wp2_with fail
  go_loopw [3, 8] (fun s3 s8 wr => ∃ (k d : Nat) (L : Option Addr), k ≤ n ∧ s8 = .int .i64 (k : Int) ∧ s3 = .slice L k d ∧ OwnX wr w.heap.size L k d (flatX ((os.take k).map nmO)) ∧ Below w.heap.size w wr) (fun _ s _ => n - (intOf s).toNat)
  case atStart => exact ⟨0, 0, none, Nat.zero_le _, rfl, rfl, OwnX.nil _ _, Below.refl _ _⟩
  case round =>
    obtain ⟨k, d, L, hk, rfl, rfl, hrow, hbel⟩ := hrel
    have HR := Lib.hid hrow
    have HB := Lib.hid hbel
    have hR := HH.out.below hbel
    clear hrow hbel
    by_cases hlt : k < n
    · obtain ⟨b, off, hAb, hbl⟩ := hR.1.pos (by omega)
      subst hAb
      obtain ⟨x, hx, m0, hob⟩ := hR.at_ k hlt
      have k0 := hob.k0
      have k1 := hob.k1
      obtain ⟨ob, hbo⟩ : ∃ ob, ob = x.b := ⟨_, rfl⟩
      rw [← hbo] at k0 k1 m0
      have HX := Lib.hid hx
      clear hR hob hx hbo
      have hg0 : OwnX (wr.alloc (.cells #[.int .u64 (x.s : Int), .int .u64 (x.q : Int)] 83)) w.heap.size L k d (flatX ((os.take k).map nmO)) := HR.out.below ((Below.refl _ _).alloc (Nat.le_refl _) _)
      have HG0 := Lib.hid hg0
      have HSZ := Lib.hid HB.out.size
      clear hg0
      go_wp2_with (refine wpList_appY _ rfl (Operand.tmp 12) (Operand.tmp 17) 80 rfl w.heap.size _ 16 Try.underlying80 info_tx rfl L k d (flatX ((os.take k).map nmO)) (by first | (simp [Act.eval]; done) | rfl) HG0.out ⟨wr.heap.size, 0, none⟩ 1 1 [.int .u64 (x.s : Int), .int .u64 (x.q : Int)] (by first | (simp [Act.eval]; done) | rfl) (rdv_of_cl2 (Cl.new wr #[.int .u64 (x.s : Int), .int .u64 (x.q : Int)] 83)) (by omega) (by simp [Value.oneCell']) (by unfold maxLen; omega) (by omega) (by have := HSZ.out; simp; omega) ?_; intro L2 d2 w6 hL hg _)
      have HQ : Hid (OwnX w6 w.heap.size L2 (k + 1) d2 (flatX ((os.take (k + 1)).map nmO)) ∧ Below w.heap.size w w6) := Lib.hid ⟨by
        rw [List.take_add_one, HX.out, List.map_append, flatX_app]; exact hL, ((HB.out.alloc HB.out.size _)).grown hg (by have := HSZ.out; simp; omega) (fun j hj => (HR.out.lt j hj).1)⟩
      clear hL hg
      go_wp2_with fail
      go_roundw
      case rel => exact ⟨k + 1, d2, L2, by omega, by go_num, rfl, HQ.out.1, HQ.out.2⟩
      case measure => simp [intOf]; omega
    · obtain rfl : k = n := by omega
      have HF : Hid (RetX w (os.map nmO) (.returned (.slice L k d)) wr) := Lib.hid ⟨L, k, d, rfl, by
        have := HR.out
        rwa [List.take_of_length_le (by rw [HL.out]; exact Nat.le_refl _)] at this, by simp [HL.out], HB.out⟩
      clear hR
      go_wp2_with fail
      go_ret
      exact HF.out
set_option maxRecDepth 100000 in
set_option maxHeartbeats 4000000 in
theorem all_any16 (h : TkAt w bs p OA oc turns os) (hn : os.length ≤ 1099511627776) : Calls Try.prog 40 #[.pointer (some ⟨p, 0, none⟩)] w (RetX w (os.map nmO)) := by
  have HN := Lib.hid (names_any (c := oc) h.rob hn)
  have k0 := h.k0
  obtain ⟨n, hn2⟩ : ∃ n, n = os.length := ⟨_, rfl⟩
  rw [← hn2] at k0 HN
  clear h hn hn2
  go_enter Try.func40, Try.ntmps40
  go_wp2_with fail
  with_reducible refine HN.out.mono ?_
  intro e w2 hq
  obtain ⟨L, n2, c2, h1, h2, h3, h4⟩ := hq.out
  subst h1
  have HF : Hid (RetX w (os.map nmO) (.returned (.slice L n2 c2)) w2) := Lib.hid ⟨L, n2, c2, rfl, h2, h3, h4⟩
  clear hq h2 h3 h4
  go_wp2_with fail
  go_ret
  exact HF.out
set_option maxRecDepth 100000 in
set_option maxHeartbeats 4000000 in
theorem waits_any {o : Ob} (h : TkAt w bs p OA oc turns os) (hn : os.length ≤ 1099511627776) (ho : ObAt w bs o) (so : ObSz o) (su : ∀ u ∈ os, ObSz u) : Calls Try.prog 106 #[.pointer (some ⟨p, 0, none⟩), .pointer (some ⟨o.b, 0, none⟩)] w (RetT w (os.any (wfO o))) := by
  have HC := Lib.hid (containsO_any (c := oc) 148 #[.pointer (some ⟨o.b, 0, none⟩)] #[] (wfO o) (fun _ _ => rfl) h.rob hn (fun wx hb u hu => by
    have := waitsFor_any (ho.below hb) ((h.obs u hu).below hb) so (su u hu)
    simpa using this))
  have k0 := h.k0
  obtain ⟨n, hn2⟩ : ∃ n, n = os.length := ⟨_, rfl⟩
  rw [← hn2] at k0 HC
  obtain ⟨ob, hob⟩ : ∃ ob, ob = o.b := ⟨_, rfl⟩
  rw [← hob] at HC ⊢
  clear h hn hn2 ho so su hob
  go_enter Try.func106, Try.ntmps106
  go_wp2_with fail
  with_reducible refine HC.out.mono ?_
  intro e w2 hq
  obtain ⟨h1, b2⟩ := RetT.outD hq
  subst h1
  have HB := Lib.hid b2
  clear hq b2
  go_wp2_with fail
  go_ret
  exact ⟨rfl, HB.out⟩
end
end Go.Proofs.Ytmpdenpopokigaa
namespace Go.Proofs.Ytmpdenpopokigaa
open Go Go.RowKit

/-- Entries that can be read, and what was there stands. -/
def RetEs (w : World) (es : List En) (e : Ending) (w' : World) : Prop := ∃ L k d, e = .returned (.slice L k d) ∧ REs w' L k es ∧ k ≤ d ∧ Below w.heap.size w w'
/-- 'So far joined.' -/
def PkM (w : World) (es : List En) (L : Option Addr) (k d : Nat) (wr : World) : Prop :=
  ∃ vs, OwnE wr w.heap.size L k d vs ∧ EVs w es vs ∧ es.length = k ∧ Below w.heap.size w wr
theorem PkM.below {w wr w' : World} {es : List En} {L : Option Addr} {k d : Nat} (h : PkM w es L k d wr) (hb : Below wr.heap.size wr w') : PkM w es L k d w' := by
  obtain ⟨vs, h1, h2, h3, h4⟩ := h
  exact ⟨vs, h1.below hb, h2, h3, belowT' h4 hb⟩
theorem PkM.bel {w wr : World} {es : List En} {L : Option Addr} {k d : Nat} (h : PkM w es L k d wr) : Below w.heap.size w wr := by
  obtain ⟨vs, h1, h2, h3, h4⟩ := h
  exact h4
theorem PkM.len {w wr : World} {es : List En} {L : Option Addr} {k d : Nat} (h : PkM w es L k d wr) : es.length = k := by
  obtain ⟨vs, h1, h2, h3, h4⟩ := h
  exact h3
end Go.Proofs.Ytmpdenpopokigaa
namespace Go.Proofs.Ytmpdenpopokigaa
open Go Go.RowKit

/-- 'A slice of one-cell values in a block of the call's own, wherever in it.' -/
def QuV (t : TypeId) (w : World) (base : Nat) (A : Option Addr) (n c : Nat) (vs : List Value) : Prop :=
  vs.length = n ∧ n ≤ c ∧ c ≤ maxLen ∧ ((c = 0 ∧ ∀ b, blk A = some b → base ≤ b ∧ b < w.heap.size) ∨ ∃ g off arr, A = some ⟨g, off, none⟩ ∧ base ≤ g ∧ Cl w g arr t ∧ off + c ≤ arr.size ∧ ∀ (i : Nat) v, vs[i]? = some v → arr[off + i]? = some v)
section
variable {t : TypeId} {w w' : World} {base n c : Nat} {A : Option Addr} {vs : List Value}
theorem QuV.len (h : QuV t w base A n c vs) : vs.length = n := h.1
theorem QuV.cap (h : QuV t w base A n c vs) : n ≤ c ∧ c ≤ maxLen := ⟨h.2.1, h.2.2.1⟩
theorem QuV.below (h : QuV t w base A n c vs) (hb : Below w.heap.size w w') : QuV t w' base A n c vs := by
  obtain ⟨h1, h2, h3, h4⟩ := h
  refine ⟨h1, h2, h3, ?_⟩
  rcases h4 with h4 | ⟨g, off, arr, e, hg, hz, ho, hi⟩
  · exact .inl ⟨h4.1, fun b e => ⟨(h4.2 b e).1, Nat.lt_of_lt_of_le (h4.2 b e).2 hb.size⟩⟩
  · exact .inr ⟨g, off, arr, e, hg, hz.below hb, ho, hi⟩
theorem QuV.lt (h : QuV t w base A n c vs) (b : Nat) (hb : blk A = some b) : base ≤ b ∧ b < w.heap.size := by
  obtain ⟨h1, h2, h3, h4⟩ := h
  rcases h4 with h4 | ⟨g, off, arr, e, hg, hz, ho, hi⟩
  · exact h4.2 b hb
  · rw [e] at hb; injection hb with hb; subst hb; exact ⟨hg, hz.lt⟩
theorem QuV.rd (h : QuV t w base A n c vs) : RdV w A n vs := by
  obtain ⟨h1, h2, h3, h4⟩ := h
  refine ⟨h1, fun hn => ?_⟩
  rcases h4 with h4 | ⟨g, off, arr, e, hg, hz, ho, hi⟩
  · omega
  · exact ⟨g, off, e, hz.lt, fun i x hx => by rw [hz.cell]; exact hi i x hx⟩
theorem QuV.of_own (h : OwnV t w base A n c vs) : QuV t w base A n c vs := by
  have hc := h.cap
  have hl := h.len
  refine ⟨hl, hc.1, hc.2, ?_⟩
  rcases h.2 with ⟨h1, h2⟩ | ⟨g, cap, cur, h1, hb, hg, h2, h3, h4, h5⟩
  · injection h1 with h1 h6 h7
    exact .inl ⟨h7, fun b e => by rw [h1] at e; cases e⟩
  · injection h1 with h1 h6 h7
    subst h1 h7
    refine .inr ⟨g, 0, cur, rfl, hb, hg, by omega, fun i v hv => ?_⟩
    have : cur.toList[i]? = some v := by
      have h8 := (List.getElem?_eq_some_iff.1 hv).1
      rw [← h5, List.getElem?_take] at hv
      split at hv
      · exact hv
      · cases hv
    simpa using this
theorem QuV.cut1 (h : QuV t w base A (n + 1) c vs) : QuV t w base (cutA A 1 c) n (c - 1) (vs.drop 1) := by
  obtain ⟨h1, h2, h3, h4⟩ := h
  refine ⟨by rw [List.length_drop]; omega, by omega, by omega, ?_⟩
  rcases h4 with h4 | ⟨g, off, arr, e, hg, hz, ho, hi⟩
  · omega
  · unfold cutA
    by_cases hc : c = 1
    · rw [if_pos hc]
      exact .inl ⟨by omega, fun b eb => by rw [e] at eb; injection eb with eb; subst eb; exact ⟨hg, hz.lt⟩⟩
    · rw [if_neg hc, e]
      refine .inr ⟨g, off + 1, arr, by simp [Addr.add], hg, hz, by omega, fun i v hv => ?_⟩
      rw [List.getElem?_drop] at hv
      have := hi (1 + i) v hv
      rw [show off + 1 + i = off + (1 + i) by omega]
      exact this
theorem QuV.kept {row : Option Nat} (h : QuV t w base A n c vs) (hg : w.grownBy w' row) (hne : ∀ b, blk A = some b → row ≠ some b) : QuV t w' base A n c vs := by
  obtain ⟨h1, h2, h3, h4⟩ := h
  refine ⟨h1, h2, h3, ?_⟩
  rcases h4 with h4 | ⟨g, off, arr, e, hb, hz, ho, hi⟩
  · exact .inl ⟨h4.1, fun b e => ⟨(h4.2 b e).1, Nat.lt_of_lt_of_le (h4.2 b e).2 hg.size⟩⟩
  · exact .inr ⟨g, off, arr, e, hb, hz.grown hg (hne g (by rw [e]; rfl)), ho, hi⟩
end
theorem blk_cut {A : Option Addr} {c b : Nat} (h : blk (cutA A 1 c) = some b) : blk A = some b := by
  unfold cutA at h
  split at h
  · exact h
  · cases A with
    | none => cases h
    | some a => simpa [blk, Addr.add] using h
/-- One value appended to such a slice. -/
theorem wpList_appQ {P : Program} (w : World) {ops : Array Oper} {rest : List Oper} {o : Oper} {a : Act} {Q : Exit → Act → World → Prop} (hgd : o.guard = none) (s x : Operand) (tt : TypeId)
    (ho : o.op = .call { callee := .builtin .append, args := #[s, x], argTypes := #[tt, tt] })
    (base : Nat) (t : TypeId) (z : Value) (by_ : Nat) (ht : P.underlying tt = some (.slice t)) (hi : (P.info? t).map (fun i => (i.zero, i.size, i.bytes)) = some (some z, 1, by_)) (hz1 : z.cells.size = 1)
    (A : Option Addr) (n c : Nat) (vs : List Value) (hs : a.eval s = .slice A n c) (hown : QuV t w base A n c vs)
    (ad : Addr) (d : Nat) (y : Value) (hx : a.eval x = .slice (some ad) 1 d) (hr : RdV w (some ad) 1 [y]) (h1 : y.oneCell' = true)
    (hn : n + 1 ≤ maxLen) (hby : (n + 1) * by_ ≤ 140737488355328) (hbase : base ≤ w.heap.size)
    (h : ∀ A' c' w', QuV t w' base A' (n + 1) c' (vs ++ [y]) → w.grownBy w' (blk A) → (blk A' = blk A ∨ ∀ b, blk A' = some b → w.heap.size ≤ b) → wpList P ops Q rest (a.put o.dst (.slice A' (n + 1) c')) w') :
    wpList P ops Q (o :: rest) a w := by
  obtain ⟨i, hi, hz, hsz, hby2⟩ := info_parts hi
  have hnews : ∀ (j : Nat) u, [y][j]? = some u → w.cell? (ad.add j) = some u := fun j u hj => by
    obtain ⟨b, off, e, _, hc⟩ := hr.2 (by omega)
    injection e with e
    subst e
    rw [Addr.add_lit]
    exact hc j u hj
  have hone : ∀ u ∈ [y], u.oneCell' = true := fun u hu => by obtain rfl : u = y := by simpa using hu
                                                             exact h1
  have new : ∀ v' w', w'.ownsRow w.heap.size t 1 v' (n + 1) (vs ++ [y]) → w.grownBy w' none → wpList P ops Q rest (a.put o.dst v') w' := fun v' w' k1 k2 => by
    obtain ⟨A', c', rfl⟩ : ∃ A' c', v' = .slice A' (n + 1) c' := by
      rcases k1.2 with ⟨h3, h4⟩ | ⟨g, cap, cur, h4, _⟩
      · omega
      · exact ⟨_, _, h4⟩
    have k3 : OwnV t w' w.heap.size A' (n + 1) c' (vs ++ [y]) := k1
    refine h A' c' w' (QuV.of_own (k3.mono hbase)) ⟨k2.os, k2.tape, k2.output, k2.size, fun k hk _ => k2.block k hk (by simp)⟩ (.inr fun b hb => (k3.lt b hb).1)
  obtain ⟨q1, q2, q3, q4⟩ := hown
  rcases q4 with ⟨hc0, _⟩ | ⟨g, off, arr, e, hb, hzz, hoff, hall⟩
  · obtain rfl : n = 0 := by omega
    obtain rfl : vs = [] := List.eq_nil_of_length_eq_zero q1
    exact wpList_append_grows w hgd s x tt ho t i z 1 by_ ht hi hz hsz hby2 hz1 (by decide) A 0 c [] hs (fun _ => ⟨rfl, hc0⟩) rfl (fun b _ j u hj => by simp at hj) ad 1 d [y] hx rfl hnews hone (by omega) hn hby new
  · subst e
    refine wpList_append_arg w hgd s x tt ho t i z 1 by_ ht hi hz hsz hby2 hz1 (by decide) g off n c vs hs (by omega) (fun j u hj => by rw [hzz.cell]; exact hall j u hj) ad 1 d [y] hx rfl hnews hone ?_ hn hby ?_ (fun _ => new)
    · intro hroom j hj
      obtain rfl : j = 0 := by simpa using hj
      rw [hzz.cell]
      exact ⟨by simp; omega, hzz.thaw _⟩
    · intro hroom
      have hset : w.setCells g (off + n * 1) [y] = w.setCell ⟨g, off + n, none⟩ y := by rw [Nat.mul_one]; rfl
      rw [hset]
      refine h _ c _ ⟨by simp [q1], hroom, q3, .inr ⟨g, off, _, rfl, hb, hzz.set (off + n) y, by simpa using hoff, fun i v hv => ?_⟩⟩ ⟨rfl, rfl, rfl, by simp, fun k _ hk => heap_setCell_other w ⟨g, off + n, none⟩ k y (fun e => hk (by simp [blk, e]))⟩ (.inl rfl)
      by_cases hin : i < n
      · rw [List.getElem?_append_left (by omega)] at hv
        rw [Array.getElem?_setIfInBounds_ne (by omega)]
        exact hall i v hv
      · have hin2 : i = n := by
          have := (List.getElem?_eq_some_iff.1 hv).1
          simp at this
          omega
        subst hin2
        rw [List.getElem?_append_right (by omega), q1] at hv
        simp at hv
        subst hv
        rw [Array.getElem?_setIfInBounds_self_of_lt (by omega)]
theorem elem_ow : Try.prog.elem 89 = 157 := by kernel_rfl
theorem size_ow (w : World) : (sizeOf 157).run Try.prog w = .ok 1 w := by kernel_rfl
theorem info_po : (Try.prog.info? 157).map (fun i => (i.zero, i.size, i.bytes)) = some (some (.pointer none), 1, 8) := by kernel_rfl
section
variable {w : World} {bs : Nat} {A : Option Addr} {n c : Nat} {os : List Ob}
theorem eqP {a b : Nat} {us vs : Array Value} (ha : Cl w a us 164) (hb : Cl w b vs 164) : (binOp .eql 157 (.pointer (some ⟨a, 0, none⟩)) (.pointer (some ⟨b, 0, none⟩))).run Try.prog w = .ok (.bool (decide (a = b))) w := by
  obtain ⟨j, hj, _, hsz, _⟩ := info_parts info_ow
  have hj5 : j.size ≠ 0 := by rw [hsz]; omega
  by_cases h : a = b
  · subst h
    rw [decide_eq_true rfl]
    exact run_eql_ptr_same (P := Try.prog) w ⟨a, 0, none⟩ Try.underlying157 hj
  · rw [decide_eq_false h]
    exact run_eql_ptr_other (P := Try.prog) w (a := ⟨a, 0, none⟩) (b := ⟨b, 0, none⟩) Try.underlying157 hj hj5 (fun e => h (by injection e)) ha hb
set_option maxRecDepth 100000 in
set_option maxHeartbeats 4000000 in
theorem indexP_any {o : Ob} (hr : ROb w bs A n os) (hn : n ≤ 1099511627776) (ho : ObAt w bs o) :
    Calls Try.prog 97 #[.slice A n c, .pointer (some ⟨o.b, 0, none⟩)] w (RetNu w (ixB (fun u => decide (o.b = u.b)) os)) := by
  have HR := Lib.hid hr
  have HL := Lib.hid hr.len
  have HO := Lib.hid ho
  obtain ⟨ob, hob⟩ : ∃ ob, ob = o.b := ⟨_, rfl⟩
  obtain ⟨P, hP⟩ : ∃ P, P = fun u : Ob => decide (o.b = u.b) := ⟨_, rfl⟩
  have HP : Hid (∀ u : Ob, P u = decide (ob = u.b)) := Lib.hid (fun u => by rw [hP, hob])
  rw [← hP, ← hob]
  have HOB := Lib.hid hob
  clear hr ho hob hP
  go_enter Try.func97, Try.ntmps97
  go_wp2_with fail
  go_loopw [8] (fun s8 wr => ∃ k : Nat, k ≤ n ∧ s8 = .int .i64 (k : Int) ∧ (os.take k).any P = false ∧ Below w.heap.size w wr) (fun s _ => n - (intOf s).toNat)
  case atStart => exact ⟨0, Nat.zero_le _, rfl, rfl, Below.refl _ _⟩
  case round =>
    obtain ⟨k, hk, rfl, hany, hwr⟩ := hrel
    have HA := Lib.hid hany
    have HB := Lib.hid hwr
    clear hany hwr
    by_cases hlt : k < n
    · have hR := HR.out.below HB.out
      obtain ⟨b, off, hAb, hbl⟩ := hR.1.pos (by omega)
      subst hAb
      obtain ⟨x, hx, m0, hob⟩ := hR.at_ k hlt
      have heq := eqP (HO.out.below HB.out).cl hob.cl
      rw [← HOB.out] at heq
      obtain ⟨xb, hxb⟩ : ∃ xb, xb = x.b := ⟨_, rfl⟩
      rw [← hxb] at heq m0
      obtain ⟨z, hz⟩ : ∃ z, z = decide (ob = xb) := ⟨_, rfl⟩
      rw [← hz] at heq
      have HZ : Hid (P x = z) := Lib.hid (by rw [HP.out, hz, hxb])
      have HX := Lib.hid hx
      clear hx hob hxb hz hR
      cases z with
      | true =>
        have HF : Hid (RetNu w (ixB P os) (.returned (.int .i64 (k : Int))) wr) := Lib.hid ⟨by rw [ixB_yes HA.out HX.out HZ.out], HB.out⟩
        go_wp2_with fail
        go_ret
        exact HF.out
      | false =>
        have HT : Hid ((os.take (k + 1)).any P = false) := Lib.hid (by rw [any_take_succ P HX.out, HA.out, HZ.out]; rfl)
        go_wp2_with fail
        go_roundw
        case rel => exact ⟨k + 1, by omega, by go_num, HT.out, HB.out⟩
        case measure => simp [intOf]; omega
    · have HF : Hid (RetNu w (ixB P os) (.returned (.int .i64 (-1))) wr) := Lib.hid ⟨by
        have h1 := HA.out
        rw [List.take_of_length_le (by rw [HL.out]; omega)] at h1
        rw [ixB_no h1], HB.out⟩
      go_wp2_with fail
      go_ret
      exact HF.out
set_option maxRecDepth 100000 in
set_option maxHeartbeats 4000000 in
theorem containsP_any {o : Ob} (hr : ROb w bs A n os) (hn : n ≤ 1099511627776) (ho : ObAt w bs o) :
    Calls Try.prog 190 #[.slice A n c, .pointer (some ⟨o.b, 0, none⟩)] w (RetT w (os.any fun u => decide (o.b = u.b))) := by
  have HI := Lib.hid (indexP_any (c := c) hr hn ho)
  obtain ⟨z, hz⟩ : ∃ z, z = ixB (fun u => decide (o.b = u.b)) os := ⟨_, rfl⟩
  have HD : Hid (decide (0 ≤ z) = os.any fun u => decide (o.b = u.b)) := Lib.hid (by rw [hz]; exact ixB_any _ _)
  rw [← hz] at HI
  obtain ⟨ob, hob⟩ : ∃ ob, ob = o.b := ⟨_, rfl⟩
  rw [← hob] at HI HD ⊢
  clear hr ho hob hz
  go_enter Try.func190, Try.ntmps190
  go_wp2_with fail
  with_reducible refine HI.out.mono ?_
  intro e w2 hq
  obtain ⟨h1, b2⟩ : e = .returned (.int .i64 z) ∧ Below w.heap.size w w2 := hq
  subst h1
  have HB := Lib.hid b2
  clear b2
  go_wp2_with fail
  go_ret
  exact ⟨by rw [HD.out]; rfl, HB.out⟩
end
end Go.Proofs.Ytmpdenpopokigaa
namespace Go.Proofs.Ytmpdenpopokigaa
open Go Go.RowKit

/-- 'The slice at A reads as these names.' -/
def RTx (w : World) (A : Option Addr) (n : Nat) (xs : List (Nat × Nat)) : Prop := xs.length = n ∧ RdV w A (n * 2) (flatX xs)
theorem OwnX.rtx {w : World} {base n c : Nat} {A : Option Addr} {xs : List (Nat × Nat)} (h : OwnX w base A n c (flatX xs)) (hn : xs.length = n) : RTx w A n xs := ⟨hn, h.rd⟩
theorem RTx.below {w w' : World} {A : Option Addr} {n : Nat} {xs : List (Nat × Nat)} (h : RTx w A n xs) (hb : Below w.heap.size w w') : RTx w' A n xs := ⟨h.1, h.2.below hb⟩
theorem RTx.at_ {w : World} {A : Option Addr} {n : Nat} {xs : List (Nat × Nat)} (h : RTx w A n xs) (k : Nat) (hk : k < n) : ∃ b off x, A = some ⟨b, off, none⟩ ∧ xs[k]? = some x ∧ w.cell? ⟨b, off + k * 2, none⟩ = some (.int .u64 (x.1 : Int)) ∧ w.cell? ⟨b, off + k * 2 + 1, none⟩ = some (.int .u64 (x.2 : Int)) := by
  obtain ⟨h1, h2⟩ := h
  obtain ⟨b, off, e, hb, hc⟩ := h2.2 (by omega)
  obtain ⟨x, hx⟩ : ∃ x, xs[k]? = some x := ⟨_, List.getElem?_eq_getElem (by omega)⟩
  obtain ⟨e0, e1⟩ := flatX_at xs k x hx
  exact ⟨b, off, x, e, hx, hc _ _ e0, by rw [Nat.add_assoc]; exact hc _ _ e1⟩
def isX (s q : Nat) (x : Nat × Nat) : Bool := ((s : Int) == (x.1 : Int)) && ((q : Int) == (x.2 : Int))
section
variable {w : World} {A : Option Addr} {n c : Nat} {xs : List (Nat × Nat)}
set_option maxRecDepth 100000 in
set_option maxHeartbeats 4000000 in
theorem indexX_any (hr : RTx w A n xs) (hn : n ≤ 1099511627776) (s q : Nat) :
    Calls Try.prog 151 #[.slice A n c, .agg #[.int .u64 (s : Int), .int .u64 (q : Int)]] w (RetIx w (xs.any (isX s q))) := by
  have hbW : Below w.heap.size w (w.alloc (.cells #[.int .u64 (s : Int), .int .u64 (q : Int)] 83)) := (Below.refl _ _).alloc (Nat.le_refl _) _
  have hzW : Cl (w.alloc (.cells #[.int .u64 (s : Int), .int .u64 (q : Int)] 83)) w.heap.size #[.int .u64 (s : Int), .int .u64 (q : Int)] 83 := Cl.new _ _ _
  obtain ⟨W, hW⟩ : ∃ W, W = w.alloc (.cells #[.int .u64 (s : Int), .int .u64 (q : Int)] 83) := ⟨_, rfl⟩
  rw [← hW] at hbW hzW
  have HW := Lib.hid hW
  have HR := Lib.hid hr
  have HBW := Lib.hid hbW
  have HZW := Lib.hid hzW
  have HL := Lib.hid hr.1
  clear hr hbW hzW hW
  go_enter Try.func151, Try.ntmps151
  go_upto_region 1 with (fail)
  rw [← HW.out]
  go_wp2_with fail
  go_loopw [8] (fun s8 wr => ∃ k : Nat, k ≤ n ∧ s8 = .int .i64 (k : Int) ∧ (xs.take k).any (isX s q) = false ∧ Below W.heap.size W wr) (fun s _ => n - (intOf s).toNat)
  case atStart => exact ⟨0, Nat.zero_le _, rfl, rfl, Below.refl _ _⟩
  case round =>
    obtain ⟨k, hk, rfl, hany, hB⟩ := hrel
    have HA := Lib.hid hany
    have HB := Lib.hid hB
    clear hany
    by_cases hlt : k < n
    · obtain ⟨b, off, x, hAb, hx, m0, m1⟩ := (HR.out.below (belowT' HBW.out hB)).at_ k hlt
      subst hAb
      have c0 : wr.cell? ⟨w.heap.size, 0, none⟩ = some (.int .u64 (s : Int)) := (HZW.out.below hB).cell 0
      have c1 : wr.cell? ⟨w.heap.size, 1, none⟩ = some (.int .u64 (q : Int)) := (HZW.out.below hB).cell 1
      have heq := eqTxn (s : Int) (q : Int) (x.1 : Int) (x.2 : Int)
      obtain ⟨z, hz⟩ : ∃ z, z = isX s q x := ⟨_, rfl⟩
      have hz' : (((s : Int) == (x.1 : Int)) && ((q : Int) == (x.2 : Int))) = z := hz.symm
      rw [hz'] at heq
      have HZ := Lib.hid hz.symm
      have HX := Lib.hid hx
      clear hz hz' hx hB
      cases z with
      | true =>
        have HF : Hid (∀ wx, Below wr.heap.size wr wx → RetIx w (xs.any (isX s q)) (.returned (.int .i64 (k : Int))) wx) := Lib.hid (fun wx hb => ⟨k, rfl, by
          rw [List.any_eq_true.2 ⟨x, List.mem_of_getElem? HX.out, HZ.out⟩]
          simp, belowT' (belowT' HBW.out HB.out) hb⟩)
        go_wp2_with fail
        go_quiet (fail)
        clear heq
        go_wp2_with fail
        go_ret
        exact HF.out _ (below_drewN (Below.refl _ _) nq)
      | false =>
        have HT : Hid ((xs.take (k + 1)).any (isX s q) = false) := Lib.hid (by rw [any_take_succ (isX s q) HX.out, HA.out, HZ.out]; rfl)
        go_wp2_with fail
        go_quiet (fail)
        clear heq
        go_wp2_with fail
        go_roundw
        case rel => exact ⟨k + 1, by omega, by go_num, HT.out, below_drewN HB.out nq⟩
        case measure => simp [intOf]; omega
    · have HF : Hid (RetIx w (xs.any (isX s q)) (.returned (.int .i64 (-1))) wr) := Lib.hid ⟨-1, rfl, by
        have h1 := HA.out
        rw [List.take_of_length_le (by rw [HL.out]; omega)] at h1
        rw [h1]; rfl, belowT' HBW.out HB.out⟩
      go_wp2_with fail
      go_ret
      exact HF.out
set_option maxRecDepth 100000 in
set_option maxHeartbeats 4000000 in
theorem containsX_any (hr : RTx w A n xs) (hn : n ≤ 1099511627776) (s q : Nat) :
    Calls Try.prog 109 #[.slice A n c, .agg #[.int .u64 (s : Int), .int .u64 (q : Int)]] w (RetT w (xs.any (isX s q))) := by
  obtain ⟨W, hW⟩ : ∃ W, W = w.alloc (.cells #[.int .u64 (s : Int), .int .u64 (q : Int)] 83) := ⟨_, rfl⟩
  have bW : Below w.heap.size w W := by rw [hW]; exact (Below.refl _ _).alloc (Nat.le_refl _) _
  have zW : Cl W w.heap.size #[.int .u64 (s : Int), .int .u64 (q : Int)] 83 := by rw [hW]; exact Cl.new _ _ _
  have HI := Lib.hid (indexX_any (c := c) (hr.below bW) hn s q)
  have c0 := zW.cell 0
  have c1 := zW.cell 1
  have HW := Lib.hid hW
  have HB := Lib.hid bW
  clear hr bW zW hW
  go_enter Try.func109, Try.ntmps109
  go_upto_region 1 with (fail)
  rw [← HW.out]
  go_wp2_with fail
  with_reducible refine HI.out.mono ?_
  intro e w2 hq
  obtain ⟨z, h1, h2, b2⟩ := hq.out
  subst h1
  have HB2 := Lib.hid (belowT' HB.out b2)
  clear hq b2
  go_wp2_with fail
  go_ret
  exact ⟨rfl, HB2.out⟩
end
end Go.Proofs.Ytmpdenpopokigaa
namespace Go.Proofs.Ytmpdenpopokigaa
open Go Go.RowKit

theorem RetEs.out {w w' : World} {es : List En} {e : Ending} (h : RetEs w es e w') : ∃ L k d, e = .returned (.slice L k d) ∧ REs w' L k es ∧ k ≤ d ∧ Below w.heap.size w w' := h
end Go.Proofs.Ytmpdenpopokigaa
namespace Go.Proofs.Ytmpdenpopokigaa
open Go Go.RowKit

/-- From f one comes to x, step by step. -/
inductive Rch (R : Ob → Ob → Bool) (os : List Ob) (f : Ob) : Ob → Prop
  | one {x : Ob} : x ∈ os → R f x = true → Rch R os f x
  | more {x y : Ob} : Rch R os f x → y ∈ os → R x y = true → Rch R os f y
/-- What is known ahead of each round. -/
structure BI (R : Ob → Ob → Bool) (os : List Ob) (f : Ob) (out left next : List Ob) : Prop where
  lsub : ∀ x ∈ left, x ∈ os
  nsub : ∀ x ∈ next, x = f ∨ x ∈ out
  osub : ∀ x ∈ out, x ∈ os ∧ Rch R os f x
  cov : ∀ x ∈ os, x ∈ out ∨ x ∈ left
  clo : ∀ x, (x = f ∨ x ∈ out) → x ∈ next ∨ ∀ y ∈ left, R x y = false
  len : out.length + left.length = os.length
  nlen : next.length ≤ out.length + 1
theorem BI.start (R : Ob → Ob → Bool) (os : List Ob) (f : Ob) : BI R os f [] os [f] :=
  ⟨fun _ h => h, fun x h => .inl (by simpa using h), fun _ h => (by cases h), fun _ h => .inr h, fun x h => .inl (by rcases h with h | h; exact (by simp [h]); cases h), by simp, by simp⟩
theorem filter_two {α : Type} (p : α → Bool) (l : List α) : (l.filter p).length + (l.filter fun x => !p x).length = l.length := by
  induction l with
  | nil => rfl
  | cons x l ih =>
    cases h : p x
    · rw [List.filter_cons_of_neg (by simp [h]), List.filter_cons_of_pos (by simp [h])]; simp only [List.length_cons]; omega
    · rw [List.filter_cons_of_pos h, List.filter_cons_of_neg (by simp [h])]; simp only [List.length_cons]; omega
theorem BI.step {R : Ob → Ob → Bool} {os : List Ob} {f x : Ob} {out left t : List Ob} (h : BI R os f out left (x :: t)) : BI R os f (out ++ left.filter (R x)) (left.filter fun y => !R x y) (t ++ left.filter (R x)) := by
  have hx : x = f ∨ Rch R os f x := (h.nsub x (by simp)).imp id (fun hm => (h.osub x hm).2)
  refine ⟨fun y hy => h.lsub y ((List.mem_filter.1 hy).1), ?_, ?_, ?_, ?_, ?_, ?_⟩
  · intro y hy
    rcases List.mem_append.1 hy with hy | hy
    · exact (h.nsub y (by simp [hy])).imp id (fun hm => List.mem_append.2 (.inl hm))
    · exact .inr (List.mem_append.2 (.inr hy))
  · intro y hy
    rcases List.mem_append.1 hy with hy | hy
    · exact h.osub y hy
    · obtain ⟨h1, h2⟩ := List.mem_filter.1 hy
      refine ⟨h.lsub y h1, ?_⟩
      rcases hx with rfl | hx
      · exact .one (h.lsub y h1) h2
      · exact .more hx (h.lsub y h1) h2
  · intro y hy
    rcases h.cov y hy with h1 | h1
    · exact .inl (List.mem_append.2 (.inl h1))
    · cases hr : R x y
      · exact .inr (List.mem_filter.2 ⟨h1, by simp [hr]⟩)
      · exact .inl (List.mem_append.2 (.inr (List.mem_filter.2 ⟨h1, hr⟩)))
  · intro y hy
    have hc : (y = f ∨ y ∈ out) ∨ y ∈ left.filter (R x) := by
      rcases hy with hy | hy
      · exact .inl (.inl hy)
      · rcases List.mem_append.1 hy with hy | hy
        · exact .inl (.inr hy)
        · exact .inr hy
    rcases hc with hc | hc
    · rcases h.clo y hc with h1 | h1
      · rcases List.mem_cons.1 h1 with rfl | h1
        · refine .inr fun z hz => ?_
          have := (List.mem_filter.1 hz).2
          simpa using this
        · exact .inl (List.mem_append.2 (.inl h1))
      · exact .inr fun z hz => h1 z ((List.mem_filter.1 hz).1)
    · exact .inl (List.mem_append.2 (.inr hc))
  · have h1 := h.len
    have h2 := filter_two (R x) left
    rw [List.length_append]
    omega
  · have h1 := h.nlen
    simp only [List.length_cons, List.length_append] at h1 ⊢
    omega
theorem BI.end_ {R : Ob → Ob → Bool} {os : List Ob} {f : Ob} {out left : List Ob} (h : BI R os f out left []) : ∀ x, x ∈ out ↔ Rch R os f x := fun x => by
  refine ⟨fun hx => (h.osub x hx).2, fun hr => ?_⟩
  have key : ∀ y z, (y = f ∨ y ∈ out) → z ∈ os → R y z = true → z ∈ out := fun y z hy hz hyz => by
    rcases h.cov z hz with h1 | h1
    · exact h1
    · rcases h.clo y hy with h2 | h2
      · cases h2
      · rw [h2 z h1] at hyz; cases hyz
  induction hr with
  | one hm h1 => exact key f _ (.inl rfl) hm h1
  | more _ hm h1 ih => exact key _ _ (.inr ih) hm h1
def lenK : Value → Nat
  | .slice _ n _ => n
  | _ => 0
/-- What reach comes to. -/
def RetRch (R : Ob → Ob → Bool) (os : List Ob) (f : Ob) (bs : Nat) (w : World) (e : Ending) (w' : World) : Prop := ∃ L n c out, e = .returned (.slice L n c) ∧ ROb w' bs L n out ∧ n ≤ os.length ∧ (∀ x, x ∈ out ↔ Rch R os f x) ∧ (∀ x ∈ out, x ∈ os) ∧ Below w.heap.size w w'
theorem RetRch.out {R : Ob → Ob → Bool} {os : List Ob} {f : Ob} {bs : Nat} {w : World} {e : Ending} {w' : World} (h : RetRch R os f bs w e w') : ∃ L n c out, e = .returned (.slice L n c) ∧ ROb w' bs L n out ∧ n ≤ os.length ∧ (∀ x, x ∈ out ↔ Rch R os f x) ∧ (∀ x ∈ out, x ∈ os) ∧ Below w.heap.size w w' := h
/-- The slots of the loop, as lists. -/
def RcS (R : Ob → Ob → Bool) (os : List Ob) (f : Ob) (w : World) (s7 s8 s9 : Value) (wr : World) : Prop := ∃ (out left next : List Ob) (OA LA NA : Option Addr) (oc lc nc : Nat),
  s7 = .slice OA out.length oc ∧ s8 = .slice LA left.length lc ∧ s9 = .slice NA next.length nc ∧ OwnV 157 wr w.heap.size OA out.length oc (out.map obP) ∧ RdV wr LA left.length (left.map obP) ∧ QuV 157 wr w.heap.size NA next.length nc (next.map obP) ∧
  Dj OA LA ∧ Dj OA NA ∧ Dj LA NA ∧ (∀ b, blk LA = some b → b < wr.heap.size) ∧ Below w.heap.size w wr ∧ BI R os f out left next
theorem RcS.out {R : Ob → Ob → Bool} {os : List Ob} {f : Ob} {w : World} {s7 s8 s9 : Value} {wr : World} (h : RcS R os f w s7 s8 s9 wr) : ∃ (out left next : List Ob) (OA LA NA : Option Addr) (oc lc nc : Nat),
  s7 = .slice OA out.length oc ∧ s8 = .slice LA left.length lc ∧ s9 = .slice NA next.length nc ∧ OwnV 157 wr w.heap.size OA out.length oc (out.map obP) ∧ RdV wr LA left.length (left.map obP) ∧ QuV 157 wr w.heap.size NA next.length nc (next.map obP) ∧
  Dj OA LA ∧ Dj OA NA ∧ Dj LA NA ∧ (∀ b, blk LA = some b → b < wr.heap.size) ∧ Below w.heap.size w wr ∧ BI R os f out left next := h
theorem QuV.head {t : TypeId} {w : World} {base n c : Nat} {A : Option Addr} {v : Value} {vs : List Value} (h : QuV t w base A (n + 1) c (v :: vs)) : ∃ g off, A = some ⟨g, off, none⟩ ∧ w.cell? ⟨g, off, none⟩ = some v := by
  obtain ⟨b, off, e, _, hc⟩ := h.rd.2 (by omega)
  exact ⟨b, off, e, hc 0 v rfl⟩
/-- The inner loop's lists. -/
def RcJ (R : Ob → Ob → Bool) (x : Ob) (out left next : List Ob) (LA : Option Addr) (w : World) (k : Nat) (OA NA RA : Option Addr) (on nn rn oc nc rc : Nat) (wr : World) : Prop :=
  (out ++ (left.take k).filter (R x)).length = on ∧ (next ++ (left.take k).filter (R x)).length = nn ∧ ((left.take k).filter fun y => !R x y).length = rn ∧
  OwnV 157 wr w.heap.size OA on oc ((out ++ (left.take k).filter (R x)).map obP) ∧ QuV 157 wr w.heap.size NA nn nc ((next ++ (left.take k).filter (R x)).map obP) ∧ OwnV 157 wr w.heap.size RA rn rc (((left.take k).filter fun y => !R x y).map obP) ∧
  RdV wr LA left.length (left.map obP) ∧ Dj OA LA ∧ Dj OA NA ∧ Dj OA RA ∧ Dj LA NA ∧ Dj LA RA ∧ Dj NA RA ∧ (∀ b, blk LA = some b → b < wr.heap.size) ∧ Below w.heap.size w wr
theorem take_filter {p : Ob → Bool} {l : List Ob} {k : Nat} {y : Ob} (h : l[k]? = some y) : (l.take (k + 1)).filter p = (l.take k).filter p ++ (if p y then [y] else []) := by
  rw [List.take_add_one, h, List.filter_append]
  cases hp : p y <;> simp [hp]
theorem Dj.none (A : Option Addr) : Dj A none := fun b _ h => by cases h
/-- A list's own row has grown: what lies in other blocks stands, and the new place is apart from them. -/
theorem dj_new {U : World} {A A' B : Option Addr} (h3 : blk A' = blk A ∨ ∀ b, blk A' = some b → U.heap.size ≤ b) (hd : Dj A B) (hB : ∀ b, blk B = some b → b < U.heap.size) : Dj A' B := fun b h1 h2 => by
  rcases h3 with h3 | h3
  · exact hd b (by rw [← h3]; exact h1) h2
  · have := h3 b h1; have := hB b h2; omega
section
variable {R : Ob → Ob → Bool} {x y : Ob} {out left next : List Ob} {LA OA NA RA OA' NA' RA' : Option Addr} {w wr V w6 V2 w8 : World} {k on nn rn oc nc rc oc' nc' rc' : Nat}
theorem RcJ.below (h : RcJ R x out left next LA w k OA NA RA on nn rn oc nc rc wr) (hb : Below wr.heap.size wr V) : RcJ R x out left next LA w k OA NA RA on nn rn oc nc rc V := by
  obtain ⟨a1, a2, a3, a4, a5, a6, a7, d1, d2, d3, d4, d5, d6, a8, a9⟩ := h
  exact ⟨a1, a2, a3, a4.below hb, a5.below hb, a6.below hb, a7.below hb, d1, d2, d3, d4, d5, d6, fun b e => Nat.lt_of_lt_of_le (a8 b e) hb.size, belowT' a9 hb⟩
theorem rc_no (h : RcJ R x out left next LA w k OA NA RA on nn rn oc nc rc V) (hy : left[k]? = some y) (hr : R x y = false)
    (ho : OwnV 157 w6 w.heap.size RA' (rn + 1) rc' (((left.take k).filter fun y => !R x y).map obP ++ [obP y])) (hg : V.grownBy w6 (blk RA)) (h3 : blk RA' = blk RA ∨ blk RA' = some V.heap.size) :
    RcJ R x out left next LA w (k + 1) OA NA RA' on nn (rn + 1) oc nc rc' w6 := by
  obtain ⟨a1, a2, a3, a4, a5, a6, a7, d1, d2, d3, d4, d5, d6, a8, a9⟩ := h
  have e1 : (left.take (k + 1)).filter (R x) = (left.take k).filter (R x) := by rw [take_filter hy, hr]; simp
  have e2 : ((left.take (k + 1)).filter fun y => !R x y) = ((left.take k).filter fun y => !R x y) ++ [y] := by rw [take_filter hy, hr]; simp
  have h3' : blk RA' = blk RA ∨ ∀ b, blk RA' = some b → V.heap.size ≤ b := h3.imp id (fun e b hb => by rw [e] at hb; injection hb with hb; omega)
  unfold RcJ
  rw [e1, e2]
  refine ⟨a1, a2, by rw [List.length_append, a3]; rfl, a4.kept hg (fun b hb e => d3 b hb e), a5.kept hg (fun b hb e => d6 b hb e), by rw [List.map_append]; exact ho, a7.kept hg (fun b hb e => d5 b hb e), d1, d2, (dj_new h3' d3.symm (fun b hb => (a4.lt b hb).2)).symm, d4, (dj_new h3' d5.symm a8).symm, (dj_new h3' d6.symm (fun b hb => (a5.lt b hb).2)).symm, fun b e => Nat.lt_of_lt_of_le (a8 b e) hg.size, a9.grown hg a9.size (fun j hj => (a6.lt j hj).1)⟩
theorem rc_mid (h : RcJ R x out left next LA w k OA NA RA on nn rn oc nc rc V) (hg : V.grownBy w6 (blk OA)) : QuV 157 w6 w.heap.size NA nn nc ((next ++ (left.take k).filter (R x)).map obP) := by
  obtain ⟨a1, a2, a3, a4, a5, a6, a7, d1, d2, d3, d4, d5, d6, a8, a9⟩ := h
  exact a5.kept hg (fun b hb e => d2 b e hb)
theorem rc_yes (h : RcJ R x out left next LA w k OA NA RA on nn rn oc nc rc V) (hy : left[k]? = some y) (hr : R x y = true)
    (ho : OwnV 157 w6 w.heap.size OA' (on + 1) oc' ((out ++ (left.take k).filter (R x)).map obP ++ [obP y])) (hg : V.grownBy w6 (blk OA)) (h3 : blk OA' = blk OA ∨ blk OA' = some V.heap.size) (hb2 : Below w6.heap.size w6 V2)
    (hq : QuV 157 w8 w.heap.size NA' (nn + 1) nc' ((next ++ (left.take k).filter (R x)).map obP ++ [obP y])) (hg2 : V2.grownBy w8 (blk NA)) (h4 : blk NA' = blk NA ∨ ∀ b, blk NA' = some b → V2.heap.size ≤ b) :
    RcJ R x out left next LA w (k + 1) OA' NA' RA (on + 1) (nn + 1) rn oc' nc' rc w8 := by
  obtain ⟨a1, a2, a3, a4, a5, a6, a7, d1, d2, d3, d4, d5, d6, a8, a9⟩ := h
  have e1 : (left.take (k + 1)).filter (R x) = (left.take k).filter (R x) ++ [y] := by rw [take_filter hy, hr]; simp
  have e2 : ((left.take (k + 1)).filter fun y => !R x y) = ((left.take k).filter fun y => !R x y) := by rw [take_filter hy, hr]; simp
  have h3' : blk OA' = blk OA ∨ ∀ b, blk OA' = some b → V.heap.size ≤ b := h3.imp id (fun e b hb => by rw [e] at hb; injection hb with hb; omega)
  have s1 := hg.size
  have s2 := hb2.size
  have lR : ∀ b, blk RA = some b → b < V.heap.size := fun b hb => (a6.lt b hb).2
  have lN : ∀ b, blk NA = some b → b < V.heap.size := fun b hb => (a5.lt b hb).2
  have f1 : Dj OA' LA := dj_new h3' d1 a8
  have f2 : Dj OA' NA := dj_new h3' d2 lN
  have f3 : Dj OA' RA := dj_new h3' d3 lR
  have o6 : ∀ b, blk OA' = some b → b < V2.heap.size := fun b hb => by have := (ho.lt b hb).2; omega
  unfold RcJ
  rw [e1, e2]
  refine ⟨by rw [← List.append_assoc, List.length_append, a1]; rfl, by rw [← List.append_assoc, List.length_append, a2]; rfl, a3, ?_, ?_, ((a6.kept hg (fun b hb e => d3 b e hb)).below hb2).kept hg2 (fun b hb e => d6 b e hb), ((a7.kept hg (fun b hb e => d1 b e hb)).below hb2).kept hg2 (fun b hb e => d4 b hb e), f1, (dj_new h4 f2.symm o6).symm, f3, (dj_new h4 d4.symm (fun b hb => by have := a8 b hb; omega)).symm, d5, dj_new h4 d6 (fun b hb => by have := lR b hb; omega), fun b e => by have := a8 b e; have := hg2.size; omega, ?_⟩
  · rw [← List.append_assoc, List.map_append]
    exact (ho.below hb2).kept hg2 (fun b hb e => f2 b hb e)
  · rw [← List.append_assoc, List.map_append]
    exact hq
  · have b1 : Below w.heap.size w w6 := a9.grown hg a9.size (fun j hj => (a4.lt j hj).1)
    exact (belowT' b1 hb2).grown hg2 (by have := b1.size; omega) (fun j hj => (a5.lt j hj).1)
end
end Go.Proofs.Ytmpdenpopokigaa
namespace Go.Proofs.Ytmpdenpopokigaa
open Go Go.RowKit

/-- 'These slices read as these lists.' -/
def LsV (w : World) : List (List En) → List Value → Prop
  | [], vs => vs = []
  | es :: ls, vs => ∃ B m c r, vs = .slice B m c :: r ∧ REs w B m es ∧ m ≤ c ∧ LsV w ls r
theorem LsV.below {w w' : World} (hb : Below w.heap.size w w') : ∀ {ls : List (List En)} {vs : List Value}, LsV w ls vs → LsV w' ls vs
  | [], _, h => h
  | _ :: _, _, ⟨B, m, c, r, e, h1, h2, h3⟩ => ⟨B, m, c, r, e, h1.below hb, h2, LsV.below hb h3⟩
theorem LsV.snoc {w : World} {es : List En} {B : Option Addr} {m c : Nat} (hr : REs w B m es) (hc : m ≤ c) : ∀ {ls : List (List En)} {vs : List Value}, LsV w ls vs → LsV w (ls ++ [es]) (vs ++ [.slice B m c])
  | [], _, h => by rw [h]; exact ⟨B, m, c, [], rfl, hr, hc, rfl⟩
  | _ :: _, _, ⟨B', m', c', r, e, h1, h2, h3⟩ => ⟨B', m', c', _, by rw [e]; rfl, h1, h2, LsV.snoc hr hc h3⟩
theorem LsV.at_ {w : World} : ∀ {ls : List (List En)} {vs : List Value} (i : Nat) {es : List En}, LsV w ls vs → ls[i]? = some es → ∃ B m c, vs[i]? = some (.slice B m c) ∧ REs w B m es ∧ m ≤ c
  | [], _, i, _, _, h => by simp at h
  | _ :: _, _, 0, es, ⟨B, m, c, r, e, h1, h2, h3⟩, h => by
    injection h with h
    subst h
    exact ⟨B, m, c, by rw [e]; rfl, h1, h2⟩
  | _ :: _, _, i + 1, es, ⟨B, m, c, r, e, h1, h2, h3⟩, h => by
    obtain ⟨B', m', c', k1, k2, k3⟩ := LsV.at_ i h3 h
    exact ⟨B', m', c', by rw [e]; exact k1, k2, k3⟩
/-- Lists that can be read. -/
def RetLs (w : World) (ls : List (List En)) (e : Ending) (w' : World) : Prop := ∃ L k d, e = .returned (.slice L k d) ∧ RLs w' L k ls ∧ k ≤ d ∧ Below w.heap.size w w'
theorem RetLs.out {w w' : World} {ls : List (List En)} {e : Ending} (h : RetLs w ls e w') : ∃ L k d, e = .returned (.slice L k d) ∧ RLs w' L k ls ∧ k ≤ d ∧ Below w.heap.size w w' := h
/-- 'So far made.' -/
def PkS (w : World) (ls : List (List En)) (L : Option Addr) (k d : Nat) (wr : World) : Prop :=
  ∃ vs, OwnV 22 wr w.heap.size L k d vs ∧ LsV w ls vs ∧ ls.length = k ∧ Below w.heap.size w wr
theorem PkS.bel {w wr : World} {ls : List (List En)} {L : Option Addr} {k d : Nat} (h : PkS w ls L k d wr) : Below w.heap.size w wr := by
  obtain ⟨vs, h1, h2, h3, h4⟩ := h
  exact h4
/-- 'These slices are lists of the call's own.' -/
def LsO (base : Nat) (w : World) : List (List En) → List Value → Prop
  | [], vs => vs = []
  | es :: ls, vs => ∃ B m c r us, vs = .slice B m c :: r ∧ OwnE w base B m c us ∧ EOs base w es us ∧ es.length = m ∧ LsO base w ls r
theorem LsO.below {base : Nat} {w w' : World} (hb : Below w.heap.size w w') : ∀ {ls : List (List En)} {vs : List Value}, LsO base w ls vs → LsO base w' ls vs
  | [], _, h => h
  | _ :: _, _, ⟨B, m, c, r, us, e, h1, h2, h3, h4⟩ => ⟨B, m, c, r, us, e, h1.below hb, h2.below hb, h3, LsO.below hb h4⟩
theorem LsO.kept {base b1 n c : Nat} {w w' : World} {L : Option Addr} {vs0 : List Value} (ho : OwnV 22 w b1 L n c vs0) (hg : w.grownBy w' (blk L)) : ∀ {ls : List (List En)} {vs : List Value}, LsO base w ls vs → LsO base w' ls vs
  | [], _, h => h
  | _ :: _, _, ⟨B, m, c, r, us, e, h1, h2, h3, h4⟩ => ⟨B, m, c, r, us, e, ownE_kept h1 hg (fun b hb e => row_ne ho h1 (by decide) b e hb), EOs.kept hg h2 (eos_off ho (by decide) h2), h3, LsO.kept ho hg h4⟩
theorem LsO.snoc {base : Nat} {w : World} {es : List En} {B : Option Addr} {m c : Nat} {us : List Value} (hr : OwnE w base B m c us) (he : EOs base w es us) (hl : es.length = m) : ∀ {ls : List (List En)} {vs : List Value}, LsO base w ls vs → LsO base w (ls ++ [es]) (vs ++ [.slice B m c])
  | [], _, h => by rw [h]; exact ⟨B, m, c, [], us, rfl, hr, he, hl, rfl⟩
  | _ :: _, _, ⟨B', m', c', r, us', e, h1, h2, h3, h4⟩ => ⟨B', m', c', _, us', by rw [e]; rfl, h1, h2, h3, LsO.snoc hr he hl h4⟩
end Go.Proofs.Ytmpdenpopokigaa
namespace Go.Proofs.Ytmpdenpopokigaa
open Go Go.RowKit

theorem cutP (A : Option Addr) {n c : Nat} (w : World) : (Instr.slice 89 (.slice A (n + 1) c) (some (.int .i64 1)) none none).run Try.prog w = .ok (.slice (cutA A 1 c) n (c - 1)) w := by
  have h := cut_l (P := Try.prog) Try.underlying89 elem_ow size_ow A (n := n + 1) (cap := c) (k := 1) (by omega) w
  simpa using h
theorem rc_end {R : Ob → Ob → Bool} {os : List Ob} {f x : Ob} {out left t : List Ob} {LA OA NA RA : Option Addr} {w wr : World} {k on nn rn oc nc rc : Nat} (h : RcJ R x out left (x :: t) LA w k OA NA RA on (nn + 1) rn oc nc rc wr) (hk : k = left.length) (hB : BI R os f out left (x :: t)) :
    RcS R os f w (.slice OA on oc) (.slice RA rn rc) (.slice (cutA NA 1 nc) nn (nc - 1)) wr ∧ 2 * rn + nn < 2 * left.length + (t.length + 1) := by
  obtain ⟨a1, a2, a3, a4, a5, a6, a7, d1, d2, d3, d4, d5, d6, a8, a9⟩ := h
  rw [hk, List.take_length] at a1 a2 a3 a4 a5 a6
  have h2 := filter_two (R x) left
  have hq := a5.cut1
  have hb := hB.step
  have e2 : nn = (t ++ left.filter (R x)).length := by simp only [List.cons_append, List.length_cons] at a2; omega
  have hq2 : QuV 157 wr w.heap.size (cutA NA 1 nc) nn (nc - 1) ((t ++ left.filter (R x)).map obP) := by simpa using hq
  refine ⟨⟨out ++ left.filter (R x), left.filter (fun y => !R x y), t ++ left.filter (R x), OA, RA, cutA NA 1 nc, oc, rc, nc - 1, by rw [a1], by rw [a3], by rw [e2], by rw [a1]; exact a4, by rw [a3]; exact a6.rd, by rw [← e2]; exact hq2, d3, fun b h1 h2 => d2 b h1 (blk_cut h2), fun b h1 h2 => d6 b (blk_cut h2) h1, fun b hb2 => (a6.lt b hb2).2, a9, hb⟩, ?_⟩
  rw [List.length_append] at e2
  omega
section
variable {w : World} {bs p : Nat} {OA : Option Addr} {oc turns : Nat} {os : List Ob} {f : Ob}
set_option maxRecDepth 100000 in
set_option maxHeartbeats 8000000 in
theorem reach_any (g : Nat) (R : Ob → Ob → Bool) (eg : ∀ args w, (callFunc g args).run Try.prog w = .ok (.enter g args) w) (h : TkAt w bs p OA oc turns os) (hn : os.length ≤ 1099511627776) (hf : ObAt w bs f)
    (hs : ∀ wx, Below w.heap.size w wx → ∀ a b, (a = f ∨ a ∈ os) → b ∈ os → Calls Try.prog g #[.pointer (some ⟨a.b, 0, none⟩), .pointer (some ⟨b.b, 0, none⟩)] wx (RetT wx (R a b))) :
    Calls Try.prog 186 #[.pointer (some ⟨p, 0, none⟩), .pointer (some ⟨f.b, 0, none⟩), .func (.func g) #[] #[]] w (RetRch R os f bs w) := by
  have HT := Lib.hid h
  have HN := Lib.hid hn
  have HFO := Lib.hid hf
  have HS := Lib.hid hs
  have k0 := h.k0
  have HST : Hid (RcS R os f w (.slice none 0 0) (.slice OA os.length oc) (.slice (some ⟨w.heap.size, 0, none⟩) 1 1) (w.alloc (.cells #[.pointer (some ⟨f.b, 0, none⟩)] 157))) := Lib.hid (by
    have hb : Below w.heap.size w (w.alloc (.cells #[.pointer (some ⟨f.b, 0, none⟩)] 157)) := (Below.refl _ _).alloc (Nat.le_refl _) _
    refine ⟨[], os, [f], none, OA, some ⟨w.heap.size, 0, none⟩, 0, oc, 1, rfl, rfl, rfl, OwnV.nil _ _ _, (h.below hb).row.rd, ?_, fun b e => (by cases e), fun b e => (by cases e), ?_, ?_, hb, BI.start R os f⟩
    · refine ⟨rfl, Nat.le_refl _, by unfold maxLen; omega, .inr ⟨w.heap.size, 0, _, rfl, Nat.le_refl _, Cl.new _ _ _, by simp, fun i v hv => ?_⟩⟩
      have := (List.getElem?_eq_some_iff.1 hv).1
      simp at this
      subst this
      simpa [obP] using hv
    · intro b hb1 hb2
      have := (OwnV.lt h.row b hb1).2
      have hb3 : w.heap.size = b := Option.some.inj hb2
      omega
    · intro b hb1
      have := (OwnV.lt h.row b hb1).2
      simp
      omega)
  obtain ⟨n, hn2⟩ : ∃ n, n = os.length := ⟨_, rfl⟩
  rw [← hn2] at k0 HST hn
  obtain ⟨fb, hfb⟩ : ∃ fb, fb = f.b := ⟨_, rfl⟩
  rw [← hfb] at HST ⊢
  have HN2 := Lib.hid hn2
  have HFB := Lib.hid hfb
  clear h hf hs hn2 hfb hn
  go_enter Try.func186, Try.ntmps186
  go_wp2_with fail
  go_loopw [7, 8, 9] (fun s7 s8 s9 wr => RcS R os f w s7 s8 s9 wr) (fun _ s8 s9 _ => 2 * lenK s8 + lenK s9)
  case atStart => exact HST.out
  case round =>
    obtain ⟨out, left, next, XA, LA, NA, xc, lc, nc, rfl, rfl, rfl, ho, hl, hq, d1, d2, d3, hlt, hbel, hBI⟩ := hrel.out
    have HBI := Lib.hid hBI
    have HB := Lib.hid hbel
    have HLN := Lib.hid hBI.len
    have HNL := Lib.hid hBI.nlen
    cases next with
    | nil =>
      have HF : Hid (RetRch R os f bs w (.returned (.slice XA out.length xc)) wr) := Lib.hid ⟨XA, out.length, xc, out, rfl, ⟨ho.rd, fun o ho2 => (HT.out.obs o (hBI.osub o ho2).1).below hbel⟩, by have := hBI.len; omega, hBI.end_, fun x hx => (hBI.osub x hx).1, hbel⟩
      obtain ⟨on, hon⟩ : ∃ on, on = out.length := ⟨_, rfl⟩
      obtain ⟨ln, hln⟩ : ∃ ln, ln = left.length := ⟨_, rfl⟩
      rw [← hon] at HF ⊢
      rw [← hln]
      clear hrel ho hl hq d1 d2 d3 hlt hbel hBI hon hln HLN HNL
      go_wp2_with fail
      go_ret
      exact HF.out
    | cons x t =>
      have HX : Hid (x = f ∨ x ∈ os) := Lib.hid ((hBI.nsub x (by simp)).imp id (fun hm => (hBI.osub x hm).1))
      have HJ : Hid (RcJ R x out left (x :: t) LA w 0 XA NA none out.length (x :: t).length 0 xc nc 0 wr) := Lib.hid ⟨by simp, by simp, by simp, by simpa using ho, by simpa using hq, by simpa using OwnV.nil _ _ _, hl, d1, d2, fun b _ e => (by cases e), d3, fun b _ e => (by cases e), fun b _ e => (by cases e), hlt, hbel⟩
      obtain ⟨on, hon⟩ : ∃ on, on = out.length := ⟨_, rfl⟩
      obtain ⟨ln, hln⟩ : ∃ ln, ln = left.length := ⟨_, rfl⟩
      obtain ⟨tn, htn⟩ : ∃ tn, tn = t.length := ⟨_, rfl⟩
      have hxt : (x :: t).length = tn + 1 := by rw [htn]; rfl
      rw [hxt, ← hon] at HJ
      rw [hxt, ← hon, ← hln]
      have HLE := Lib.hid hln
      have HON := Lib.hid hon
      have HTN := Lib.hid htn
      have hsz : on + ln ≤ 1099511627776 ∧ tn ≤ 1099511627776 := by
        have h1 := HLN.out
        have h2 := HNL.out
        have h3 := HN.out
        simp only [List.length_cons] at h2
        omega
      clear hrel ho hl hq d1 d2 d3 hlt hbel hBI hon hln htn hxt HLN HNL
      go_wp2_with fail
      go_loopw [7, 9, 10, 26] (fun s7 s9 s10 s26 wi => ∃ (k on' nn rn oc' nc' rc : Nat) (OA' NA' RA : Option Addr), k ≤ ln ∧ s26 = .int .i64 (k : Int) ∧ s7 = .slice OA' on' oc' ∧ s9 = .slice NA' nn nc' ∧ s10 = .slice RA rn rc ∧ on' ≤ on + k ∧ nn ≤ tn + 1 + k ∧ 0 < nn ∧ rn ≤ k ∧ RcJ R x out left (x :: t) LA w k OA' NA' RA on' nn rn oc' nc' rc wi) (fun _ _ _ s _ => ln - (intOf s).toNat)
      case atStart => exact ⟨0, on, tn + 1, 0, xc, nc, 0, XA, NA, none, Nat.zero_le _, rfl, rfl, rfl, rfl, by omega, by omega, by omega, Nat.le_refl _, HJ.out⟩
      case round =>
        obtain ⟨k, on', nn, rn, oc', nc', rc, OA', NA', RA, hk, rfl, rfl, rfl, rfl, b1, b2, b3, b4, hj⟩ := hrel
        have HJ2 := Lib.hid hj
        by_cases hlt : k < ln
        · obtain ⟨a1, a2, a3, a4, a5, a6, a7, e1, e2, e3, e4, e5, e6, a8, a9⟩ := hj
          obtain ⟨nn', rfl⟩ : ∃ nn', nn = nn' + 1 := ⟨nn - 1, by omega⟩
          obtain ⟨ng, noff, hNA, nc0⟩ := QuV.head (v := obP x) (vs := ((t ++ (left.take k).filter (R x)).map obP)) (by simpa using a5)
          subst hNA
          have hnc := a5.cap
          obtain ⟨lb, loff, hLA, hlb⟩ := a7.pos (by rw [← HLE.out]; omega)
          subst hLA
          obtain ⟨v, hv, lc0⟩ := a7.at_ k (by rw [← HLE.out]; exact hlt)
          obtain ⟨y, hy⟩ : ∃ y, left[k]? = some y := ⟨_, List.getElem?_eq_getElem (by rw [← HLE.out]; exact hlt)⟩
          obtain rfl : v = obP y := by rw [List.getElem?_map, hy] at hv; injection hv with hv; exact hv.symm
          have hym : y ∈ os := HBI.out.lsub y (List.mem_of_getElem? hy)
          obtain ⟨z, hz⟩ : ∃ z, z = R x y := ⟨_, rfl⟩
          have HC : Hid (Calls Try.prog g #[.pointer (some ⟨x.b, 0, none⟩), .pointer (some ⟨y.b, 0, none⟩)] wr (RetT wr z)) := Lib.hid (by rw [hz]; exact HS.out _ a9 x y HX.out hym)
          have HY := Lib.hid hy
          have HZ := Lib.hid hz.symm
          unfold obP at nc0 lc0
          obtain ⟨xb, hxb⟩ : ∃ xb, xb = x.b := ⟨_, rfl⟩
          obtain ⟨yb, hyb⟩ : ∃ yb, yb = y.b := ⟨_, rfl⟩
          have HYB := Lib.hid hyb
          rw [← hxb] at nc0 HC
          rw [← hyb] at lc0 HC
          clear HJ hlb hym hy hz hxb hyb a1 a2 a3 a4 a5 a6 a7 e1 e2 e3 e4 e5 e6 a8 a9 hv
          go_upto_region 10 with (fail)
          go_wp2_with fail
          with_reducible refine HC.out.mono ?_
          intro e w2 hq
          obtain ⟨h1, b2⟩ := RetT.outD hq
          subst h1
          have HJ3 := Lib.hid (HJ2.out.below b2)
          clear hq b2 nc0 lc0 HC HJ2
          have HOP : Hid (obP y = .pointer (some ⟨yb, 0, none⟩)) := Lib.hid (by rw [HYB.out]; rfl)
          have HV : Hid (RcJ R x out left (x :: t) (some ⟨lb, loff, none⟩) w k OA' (some ⟨ng, noff, none⟩) RA on' (nn' + 1) rn oc' nc' rc (w2.alloc (.cells #[.pointer (some ⟨yb, 0, none⟩)] 157))) := Lib.hid (HJ3.out.below ((Below.refl _ _).alloc (Nat.le_refl _) _))
          have HSZ := Lib.hid HJ3.out.2.2.2.2.2.2.2.2.2.2.2.2.2.2.size
          cases z with
          | false =>
            go_wp2_with (refine wpList_appV _ rfl (Operand.tmp 37) (Operand.tmp 39) 89 rfl w.heap.size 157 _ 8 Try.underlying89 info_po rfl RA rn rc (((left.take k).filter fun y => !R x y).map obP) (by first | (simp [Act.eval]; done) | rfl) HV.out.2.2.2.2.2.1 (some ⟨w2.heap.size, 0, none⟩) 1 1 [.pointer (some ⟨yb, 0, none⟩)] (by first | (simp [Act.eval]; done) | rfl) ⟨rfl, fun _ => ⟨w2.heap.size, 0, rfl, by simp, fun i u hu => by rw [Nat.zero_add, (Cl.new w2 #[.pointer (some ⟨yb, 0, none⟩)] 157).cell i]; simpa using hu⟩⟩ (by simp [Value.oneCell']) (by unfold maxLen; omega) (by omega) (by have := HSZ.out; simp; omega) ?_; intro RA2 rc2 w6 ho6 hg6 h36)
            have HQ : Hid (RcJ R x out left (x :: t) (some ⟨lb, loff, none⟩) w (k + 1) OA' (some ⟨ng, noff, none⟩) RA2 on' (nn' + 1) (rn + 1) oc' nc' rc2 w6) := Lib.hid (rc_no HV.out HY.out HZ.out (by rw [HOP.out]; exact ho6) hg6 h36)
            clear ho6 hg6 h36
            go_wp2_with fail
            go_roundw
            case rel => exact ⟨k + 1, on', nn' + 1, rn + 1, oc', nc', rc2, OA', some ⟨ng, noff, none⟩, RA2, by omega, by go_num, rfl, rfl, rfl, by omega, by omega, by omega, by omega, HQ.out⟩
            case measure => simp [intOf]; omega
          | true =>
            go_wp2_with (first
              | (refine wpList_appV _ rfl (Operand.tmp 41) (Operand.tmp 43) 89 rfl w.heap.size 157 _ 8 Try.underlying89 info_po rfl OA' on' oc' ((out ++ (left.take k).filter (R x)).map obP) (by first | (simp [Act.eval]; done) | rfl) HV.out.2.2.2.1 (some ⟨w2.heap.size, 0, none⟩) 1 1 [.pointer (some ⟨yb, 0, none⟩)] (by first | (simp [Act.eval]; done) | rfl) ⟨rfl, fun _ => ⟨w2.heap.size, 0, rfl, by simp, fun i u hu => by rw [Nat.zero_add, (Cl.new w2 #[.pointer (some ⟨yb, 0, none⟩)] 157).cell i]; simpa using hu⟩⟩ (by simp [Value.oneCell']) (by unfold maxLen; omega) (by omega) (by have := HSZ.out; simp; omega) ?_; intro OA2 oc2 w6 ho6 hg6 h36; have HM6 := Lib.hid ((rc_mid HV.out hg6).below ((Below.refl _ w6).alloc (Nat.le_refl _) (.cells #[.pointer (some ⟨yb, 0, none⟩)] 157))); have HG6 := Lib.hid hg6.size)
              | (refine wpList_appQ _ rfl (Operand.tmp 45) (Operand.tmp 47) 89 rfl w.heap.size 157 _ 8 Try.underlying89 info_po rfl (some ⟨ng, noff, none⟩) (nn' + 1) nc' ((x :: t ++ (left.take k).filter (R x)).map obP) (by first | (simp [Act.eval]; done) | rfl) HM6.out ⟨w6.heap.size, 0, none⟩ 1 (.pointer (some ⟨yb, 0, none⟩)) (by first | (simp [Act.eval]; done) | rfl) ⟨rfl, fun _ => ⟨w6.heap.size, 0, rfl, by simp, fun i u hu => by rw [Nat.zero_add, (Cl.new w6 #[.pointer (some ⟨yb, 0, none⟩)] 157).cell i]; simpa using hu⟩⟩ rfl (by unfold maxLen; omega) (by omega) (by have := HSZ.out; have := HG6.out; simp at *; omega) ?_; intro NA2 nc2 w8 ho8 hg8 h38))
            have HQ : Hid (RcJ R x out left (x :: t) (some ⟨lb, loff, none⟩) w (k + 1) OA2 NA2 RA (on' + 1) (nn' + 1 + 1) rn oc2 nc2 rc w8) := Lib.hid (rc_yes HV.out HY.out HZ.out (by rw [HOP.out]; exact ho6) hg6 h36 ((Below.refl _ w6).alloc (Nat.le_refl _) _) (by rw [HOP.out]; exact ho8) hg8 h38)
            clear ho6 hg6 h36 ho8 hg8 h38 HM6
            go_wp2_with fail
            go_roundw
            case rel => exact ⟨k + 1, on' + 1, nn' + 1 + 1, rn, oc2, nc2, rc, OA2, NA2, RA, by omega, by go_num, rfl, rfl, rfl, by omega, by omega, by omega, by omega, HQ.out⟩
            case measure => simp [intOf]; omega
        · obtain ⟨nn', rfl⟩ : ∃ nn', nn = nn' + 1 := ⟨nn - 1, by omega⟩
          have HE := Lib.hid (rc_end hj (by rw [← HLE.out]; omega) HBI.out)
          have hcut : ∀ W, (Instr.slice 89 (.slice NA' (nn' + 1) nc') (some (.int .i64 1)) none none).run Try.prog W = .ok (.slice (cutA NA' 1 nc') nn' (nc' - 1)) W := fun W => cutP NA' W
          have HMS : Hid (2 * rn + nn' < 2 * ln + (tn + 1)) := Lib.hid (by rw [HLE.out, HTN.out]; exact HE.out.2)
          clear hj HJ HJ2
          go_wp2_with fail
          go_roundw
          case rel => exact HE.out.1
          case measure => simp only [lenK]; have := HMS.out; simpa using this
end
end Go.Proofs.Ytmpdenpopokigaa
