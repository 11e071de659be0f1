/- Words for the disk in memory: the head's block, the map of its files, each file's block and bytes, no two of them the same; what a call may turn. No condition. -/
import Derived.Test.YtjpnfhfeabdhiaaFamD
import Derived.Maps.OwnOps
import Derived.Maps.OwnSet
import Derived.Maps.RangeWalk
namespace Go.Proofs.Ytjpnfhfeabdhiaa
open Go Go.RowKit Go.Maps

abbrev DU := DataW Unit
/-- A text as the model has it. -/
def tx (l : List UInt8) : ByteArray := ⟨l.toArray⟩
theorem tx_list (l : List UInt8) : (tx l).data.toList = l := by simp [tx]
theorem tx_size (l : List UInt8) : (tx l).size = l.length := by rw [← tx_list l]; simp [tx, ByteArray.size]
theorem tx_of (s : ByteArray) : tx s.data.toList = s := by cases s; simp [tx]
theorem tx_inj {a b : List UInt8} (h : tx a = tx b) : a = b := by rw [← tx_list a, h, tx_list]

theorem lawN : Keyed Try.prog 9 := string_keyed Try.underlying9
theorem keyN {x : List UInt8} (h : x.length ≤ maxLen) : keyOf Try.prog 9 (.string (tx x)) = some (.string x) := by
  have := WideMaps.keyOf_string_mk Try.underlying9 (s := tx x) (by rw [tx_size]; exact h)
  rw [tx_list] at this
  exact this
theorem keyN_inv (key : Value) (kl : Lit) (h : keyOf Try.prog 9 key = some kl) : ∃ x : ByteArray, key = .string x := by
  obtain ⟨s, h1, _⟩ := WideMaps.string_of_keyOf Try.underlying9 h
  exact ⟨s, h1⟩
/-- How a pointer to a file reads: its block's number. -/
def ptrEl : Value → Option (DU × List MemPlace)
  | .pointer (some ⟨b, 0, none⟩) => some (.lit (.int .i64 (b : Int)), [])
  | .pointer none => some (.nil, [])
  | _ => none
theorem ptrEl_some (b : Nat) : ptrEl (.pointer (some ⟨b, 0, none⟩)) = some (.lit (.int .i64 (b : Int)), []) := rfl
theorem ptrEl_none : ptrEl (.pointer none) = some (.nil, []) := rfl
theorem ptrEl_inv (v : Value) (y : DU × List MemPlace) (h : ptrEl v = some y) : ∃ p : Option Nat, v = .pointer (p.map fun b => ⟨b, 0, none⟩) := by
  unfold ptrEl at h
  split at h
  · next b => exact ⟨some b, rfl⟩
  · exact ⟨none, rfl⟩
  · cases h
theorem ptrEl_at {v : Value} {b : Nat} {ps : List MemPlace} (h : ptrEl v = some (.lit (.int .i64 (b : Int)), ps)) : v = .pointer (some ⟨b, 0, none⟩) := by
  obtain ⟨p, rfl⟩ := ptrEl_inv v _ h
  cases p with
  | none => cases h
  | some c =>
    have h1 : (some (DataW.lit (.int .i64 (c : Int)), ([] : List MemPlace)) : Option (DU × List MemPlace)) = some (.lit (.int .i64 (b : Int)), ps) := h
    simp only [Option.some.injEq, Prod.mk.injEq, DataW.lit.injEq, Lit.int.injEq, true_and] at h1
    have : c = b := by omega
    rw [this]
    rfl
theorem ptrEl_nil {v : Value} {ps : List MemPlace} (h : ptrEl v = some (.nil, ps)) : v = .pointer none := by
  obtain ⟨p, rfl⟩ := ptrEl_inv v _ h
  cases p with
  | none => rfl
  | some c => cases h
theorem zeroP (w : World) : (zeroValue 105).run Try.prog w = .ok (.pointer none) w := by kernel_rfl

/-- A file: its name, its bytes, how many are safe; its block; where its bytes lie, and in how much room. -/
structure FR where
  name : List UInt8
  dat : List UInt8
  saf : Nat
  fb : Nat
  A : Option Addr
  c : Nat

def FR.bl (r : FR) : List Nat := r.fb :: (blk r.A).toList
def FR.val (r : FR) : List UInt8 × List UInt8 × Nat := (r.name, r.dat, r.saf)
/-- 'The file lies in memory so.' -/
def FileAt (w : World) (r : FR) : Prop :=
  w.heap[r.fb]? = some (.cells #[.slice r.A r.dat.length r.c, .int .i64 (r.saf : Int)] 109 (0, 0)) ∧ Own 5 w 0 r.A r.dat.length r.c r.dat ∧ r.saf ≤ r.dat.length
/-- 'The map reads as these files.' -/
def MR (Dm : DU) (rs : List FR) : Prop :=
  Maps.size Dm = rs.length ∧ (∀ x, has Dm (.string x) = rs.any (fun r => r.name == x)) ∧ ∀ r ∈ rs, ∀ z, Dm.atKey (.string r.name) z = .lit (.int .i64 (r.fb : Int))
def MapAt (w : World) (m : Option Nat) (rs : List FR) : Prop :=
  (m = none ∧ rs = []) ∨ ∃ b Dm, m = some b ∧ w.ownsMap Try.prog 9 ptrEl b rs.length Dm ∧ MR Dm rs
/-- All blocks of a disk. -/
def allB (p : Nat) (m : Option Nat) (rs : List FR) : List Nat := p :: (m.toList ++ rs.flatMap FR.bl)

/-- What a call may turn: some blocks, and new ones. -/
structure Fr (w w' : World) (bl : List Nat) : Prop where
  os : w'.os = w.os
  tape : w'.tape = w.tape
  output : w'.output = w.output
  size : w.heap.size ≤ w'.heap.size
  block : ∀ k, k < w.heap.size → k ∉ bl → w'.heap[k]? = w.heap[k]?

section
variable {w w' w2 : World} {bl bl2 : List Nat}
theorem Fr.refl (w : World) (bl : List Nat) : Fr w w bl := ⟨rfl, rfl, rfl, Nat.le_refl _, fun _ _ _ => rfl⟩
theorem Fr.of_below (h : Below w.heap.size w w') (bl : List Nat) : Fr w w' bl := ⟨h.os, h.tape, h.output, h.size, fun k hk _ => h.block k hk⟩
theorem Fr.of_grown {row : Option Nat} (h : w.grownBy w' row) (hr : ∀ b, row = some b → b ∈ bl) : Fr w w' bl :=
  ⟨h.os, h.tape, h.output, h.size, fun k hk hn => h.block k hk (fun e => hn (hr k e.symm))⟩
theorem Fr.trans (h : Fr w w' bl) (h2 : Fr w' w2 bl2) (hs : ∀ b ∈ bl2, b ∈ bl ∨ w.heap.size ≤ b) : Fr w w2 bl :=
  ⟨h2.os.trans h.os, h2.tape.trans h.tape, h2.output.trans h.output, Nat.le_trans h.size h2.size, fun k hk hn => by
    rw [h2.block k (Nat.lt_of_lt_of_le hk h.size) (fun hm => by rcases hs k hm with h1 | h1; exact hn h1; omega), h.block k hk hn]⟩
theorem Fr.mono (h : Fr w w' bl) (hs : ∀ b ∈ bl, b ∈ bl2 ∨ w.heap.size ≤ b) : Fr w w' bl2 :=
  ⟨h.os, h.tape, h.output, h.size, fun k hk hn => h.block k hk (fun hm => by rcases hs k hm with h1 | h1; exact hn h1; omega)⟩
theorem Fr.below {base : Nat} (h : Fr w w' bl) (hb : ∀ b ∈ bl, base ≤ b) (hs : base ≤ w.heap.size) : Below base w w' :=
  ⟨h.os, h.tape, h.output, h.size, fun k hk => h.block k (by omega) (fun hm => by have := hb k hm; omega)⟩
theorem Fr.drewN (h : Fr w w' bl) (q : Nat) : Fr w (w'.drewN q) bl := ⟨h.os, h.tape, h.output, h.size, h.block⟩
theorem Rd.fr {A : Option Addr} {n : Nat} {xs : List UInt8} (h : Rd w A n xs) (hf : Fr w w' bl) (ho : ∀ b, blk A = some b → b ∉ bl) : Rd w' A n xs := by
  refine ⟨h.1, fun hn => ?_⟩
  obtain ⟨b, off, rfl, h2, h3⟩ := h.2 hn
  refine ⟨b, off, rfl, Nat.lt_of_lt_of_le h2 hf.size, fun i x hx => ?_⟩
  have hb := hf.block b h2 (ho b rfl)
  exact (World.cell?_of_block (a := ⟨b, off + i, none⟩) hb).trans (h3 i x hx)
theorem Own.fr {e : TypeId} {base n c : Nat} {A : Option Addr} {xs : List UInt8} (h : Own e w base A n c xs) (hf : Fr w w' bl) (ho : ∀ b, blk A = some b → b ∉ bl) : Own e w' base A n c xs := by
  refine ⟨h.1, ?_⟩
  rcases h.2 with h1 | ⟨g, cap, cur, h1, h2, h3, h4⟩
  · exact .inl h1
  · injection h1 with h1 h5 h6
    subst h1 h6
    exact .inr ⟨g, _, cur, rfl, h2, (hf.block g (Array.getElem?_eq_some_iff.1 h3).1 (ho g rfl)).trans h3, h4⟩
theorem FileAt.fr {r : FR} (h : FileAt w r) (hf : Fr w w' bl) (ho : ∀ b ∈ r.bl, b ∉ bl) : FileAt w' r := by
  obtain ⟨h1, h2, h3⟩ := h
  refine ⟨(hf.block r.fb (Array.getElem?_eq_some_iff.1 h1).1 (ho _ (by simp [FR.bl]))).trans h1, h2.fr hf (fun b hb => ho b (by simp [FR.bl, hb])), h3⟩
theorem FileAt.lt {r : FR} (h : FileAt w r) : ∀ b ∈ r.bl, b < w.heap.size := fun b hb => by
  simp only [FR.bl, List.mem_cons, Option.mem_toList] at hb
  rcases hb with rfl | hb
  · exact (Array.getElem?_eq_some_iff.1 h.1).1
  · exact (h.2.1.lt b hb).2
theorem MapAt.fr {m : Option Nat} {rs : List FR} (h : MapAt w m rs) (hf : Fr w w' bl) (ho : ∀ b, m = some b → b ∉ bl) : MapAt w' m rs := by
  rcases h with h | ⟨b, Dm, rfl, ⟨es, clock, h1, h2⟩, h3⟩
  · exact .inl h
  · exact .inr ⟨b, Dm, rfl, ⟨es, clock, (hf.block b (Array.getElem?_eq_some_iff.1 h1).1 (ho b rfl)).trans h1, h2⟩, h3⟩
theorem MapAt.lt {m : Option Nat} {rs : List FR} (h : MapAt w m rs) : ∀ b, m = some b → b < w.heap.size := fun b hb => by
  rcases h with ⟨h, _⟩ | ⟨b', Dm, h, h1, _⟩
  · rw [h] at hb; cases hb
  · rw [h] at hb
    injection hb with hb
    rw [← hb]
    exact h1.lt
end
end Go.Proofs.Ytjpnfhfeabdhiaa
