/- Appends that tell where the row lies, and what block's pieces append. No condition. -/
import Derived.Test.YtcclhkoggijkaaaFamD
import Derived.Test.YtcclhkoggijkaaaCrcR
import Derived.Test.YtcclhkoggijkaaaEnA
namespace Go.Proofs.Ytcclhkoggijkaaa
open Go Go.RowKit

/-- 'The row that lay at A lies at A' now: it grew where it lay, or lies in a new block; all else stands.' -/
def Grow (w w' : World) (A A' : Option Addr) : Prop := w.grownBy w' (blk A) ∧ (blk A' = blk A ∨ ∀ b, blk A' = some b → w.heap.size ≤ b)
theorem grown_then {a b c : World} {row row' : Option Nat} (h : a.grownBy b row) (k : b.grownBy c row') (hr : ∀ j, row' = some j → a.heap.size ≤ j ∨ row = some j) : a.grownBy c row := by
  obtain ⟨h1, h2, h3, h4, h5⟩ := h
  obtain ⟨k1, k2, k3, k4, k5⟩ := k
  refine ⟨k1.trans h1, k2.trans h2, k3.trans h3, Nat.le_trans h4 k4, fun i hi hne => (k5 i (Nat.lt_of_lt_of_le hi h4) fun e => ?_).trans (h5 i hi hne)⟩
  rcases hr i e.symm with h6 | h6
  · omega
  · exact hne h6.symm
theorem Grow.refl (w : World) (A : Option Addr) : Grow w w A A := ⟨World.grownBy.refl w _, .inl rfl⟩
theorem Grow.size {w w' : World} {A A' : Option Addr} (h : Grow w w' A A') : w.heap.size ≤ w'.heap.size := h.1.size
theorem Grow.trans {w w1 w2 : World} {A A1 A2 : Option Addr} (h : Grow w w1 A A1) (k : Grow w1 w2 A1 A2) : Grow w w2 A A2 := by
  have hs := h.size
  refine ⟨grown_then h.1 k.1 (fun j hj => ?_), ?_⟩
  · rcases h.2 with e | e
    · exact .inr (by rw [← e]; exact hj)
    · exact .inl (e j hj)
  · rcases k.2 with e | e
    · rcases h.2 with e2 | e2
      · exact .inl (e.trans e2)
      · exact .inr fun b hb => e2 b (by rw [← e]; exact hb)
    · exact .inr fun b hb => Nat.le_trans hs (e b hb)
theorem Grow.of_below {w w1 : World} (A : Option Addr) (h : Below w.heap.size w w1) : Grow w w1 A A :=
  ⟨⟨h.os, h.tape, h.output, h.size, fun b hb _ => h.block b hb⟩, .inl rfl⟩
theorem Grow.below {e : TypeId} {w w' : World} {base n c : Nat} {A A' : Option Addr} {xs : List UInt8} (h : Grow w w' A A') (ho : Own e w base A n c xs) (hb : base ≤ w.heap.size) : Below base w w' :=
  (Below.refl _ _).grown h.1 hb (fun k hk => (ho.lt k hk).1)
theorem Grow.kept {e : TypeId} {w w' : World} {base n c : Nat} {A A' B : Option Addr} {xs : List UInt8} (h : Grow w w' A A') (ho : Own e w base B n c xs) (hd : Dj A B) : Own e w' base B n c xs :=
  ho.kept h.1 (fun b hb e => hd b e hb)
theorem Grow.dj {e : TypeId} {w w' : World} {base n c : Nat} {A A' B : Option Addr} {xs : List UInt8} (h : Grow w w' A A') (ho : Own e w base B n c xs) (hd : Dj A B) : Dj A' B := fun b h1 h2 => by
  rcases h.2 with e | e
  · exact hd b (by rw [← e]; exact h1) h2
  · have h3 := e b h1
    have h4 := (ho.lt b h2).2
    omega
theorem Rd.vals {w : World} {B : Option Addr} {m : Nat} {ys : List UInt8} (h : Rd w B m ys) : RdV w B m (ys.map cv) := by
  refine ⟨by simp [h.1], fun hm => ?_⟩
  obtain ⟨b, off, e, hb, hc⟩ := h.2 hm
  refine ⟨b, off, e, hb, fun i v hv => ?_⟩
  rw [List.getElem?_map] at hv
  cases hy : ys[i]? with
  | none => rw [hy] at hv; cases hv
  | some y =>
    rw [hy] at hv
    injection hv with hv
    subst hv
    exact hc i y hy
/-- An append of bytes that tells where the row lies. -/
theorem wpList_appX {P : Program} (w : World) {ops : Array Oper} {rest : List Oper} {o : Oper} {a : Act} {Q : Exit → Act → World → Prop} (hgd : o.guard = none) (s x : Operand) (tt : TypeId)
    (ho : o.op = .call { callee := .builtin .append, args := #[s, x], argTypes := #[tt, tt] })
    (base : Nat) (t : TypeId) (ht : P.underlying tt = some (.slice t)) (hi : (P.info? t).map (fun i => (i.zero, i.size, i.bytes)) = some (some (.int .u8 0), 1, 1))
    (A : Option Addr) (n c : Nat) (xs : List UInt8) (hs : a.eval s = .slice A n c) (hown : Own t w base A n c xs)
    (B : Option Addr) (m d : Nat) (ys : List UInt8) (hx : a.eval x = .slice B m d) (hr : Rd w B m ys)
    (hby : n + m ≤ 140737488355328) (hbase : base ≤ w.heap.size)
    (h : ∀ A' c' w', Own t w' base A' (n + m) c' (xs ++ ys) → Grow w w' A A' → wpList P ops Q rest (a.put o.dst (.slice A' (n + m) c')) w') :
    wpList P ops Q (o :: rest) a w :=
  wpList_appV w hgd s x tt ho base t (.int .u8 0) 1 ht hi rfl A n c (xs.map cv) hs hown B m d (ys.map cv) hx hr.vals (cv_one ys) (by unfold maxLen; omega) (by omega) hbase
    (fun A' c' w' h1 h2 h3 => h A' c' w' (by rw [← List.map_append] at h1; exact h1) ⟨h2, h3.imp id (fun e b hb => by rw [e] at hb; injection hb with hb; omega)⟩)
/-- 'The row with ys behind it.' -/
def RetAp (base : Nat) (w : World) (A : Option Addr) (n : Nat) (xs ys : List UInt8) (e : Ending) (w' : World) : Prop :=
  ∃ A' c', e = .returned (.slice A' (n + ys.length) c') ∧ Own 5 w' base A' (n + ys.length) c' (xs ++ ys) ∧ Grow w w' A A'
theorem appendWord_any (A : Option Addr) (n c : Nat) (xs : List UInt8) (base v : Nat) (w : World) (ho : Own 5 w base A n c xs) (hb : base ≤ w.heap.size) (hn : n ≤ 1099511627776) (hv : v < 4294967296) :
    Calls Try.prog 188 #[.slice A n c, .int .i64 (v : Int)] w (RetAp base w A n xs (fourB v)) := by
  have hc : ∀ i : Nat, ((bt i).toNat : Int) = (i : Int) % 256 := fun i => by
    have : (UInt8.ofNat i).toNat = i % 256 := by simp [UInt8.toNat_ofNat']
    unfold bt
    omega
  have hw : #[Value.int .u8 ((v : Int) / 16777216), .int .u8 ((v : Int) / 65536 % 256), .int .u8 ((v : Int) / 256 % 256), .int .u8 ((v : Int) % 256)] = ((fourB v).map cv).toArray := by
    have e : fourB v = [bt (v / 16777216), bt (v / 65536), bt (v / 256), bt v] := rfl
    rw [e]
    simp only [List.map_cons, List.map_nil, cv, hc]
    rw [show ((v / 16777216 : Nat) : Int) % 256 = (v : Int) / 16777216 by omega, show ((v / 65536 : Nat) : Int) = (v : Int) / 65536 by omega, show ((v / 256 : Nat) : Int) = (v : Int) / 256 by omega]
  have HW := Lib.hid hw
  clear hw hc
  go_enter Try.func188, Try.ntmps188
  go_wp2_with (at_builtin; refine wpList_appX _ rfl _ _ 25 rfl base 5 Try.underlying25 info_u8 A n c xs rfl (ho.alloc _) _ 4 4 (fourB v) rfl (Rd.lit _ _ 4 (fourB v) rfl _ HW.out) ?_ ?_ ?_)
  · omega
  · simp; omega
  intro A' c' w' o2 g2
  go_wp2_with fail
  go_ret
  exact ⟨A', c', rfl, o2, (Grow.of_below A ((Below.refl _ _).alloc (Nat.le_refl _) _)).trans g2⟩
end Go.Proofs.Ytcclhkoggijkaaa
