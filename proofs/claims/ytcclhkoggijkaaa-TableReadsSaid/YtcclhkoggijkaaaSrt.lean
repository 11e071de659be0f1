/- Lists of entries in order: inserted, looked up, sorted (plain mathematics). -/
import Derived.Test.YtcclhkoggijkaaaFamC
import Derived.Test.YtcclhkoggijkaaaApart
import Derived.Test.YtcclhkoggijkaaaKept
import Derived.BigFrame
import Derived.Test.YtcclhkoggijkaaaCrcR
import Derived.Test.YtcclhkoggijkaaaEnA
import Derived.Test.YtcclhkoggijkaaaBlF
import Derived.Test.YtcclhkoggijkaaaAwake
import Derived.Test.YtcclhkoggijkaaaCrcW
import Derived.Test.YtcclhkoggijkaaaAwake3
import Derived.Maps.OwnOps
import Derived.Maps.OwnSet
import Derived.Maps.RangeWalk
import Derived.Test.YtcclhkoggijkaaaEnB
import Derived.Test.YtcclhkoggijkaaaFam
import Derived.Test.YtcclhkoggijkaaaPool
import Derived.Deep.DeepCutAuto
import Derived.Deep.CutBlock
import Derived.Deep.RegionHeld3
import Derived.Lib.AppendZeros
import Derived.Test.YtcclhkoggijkaaaCrcP
import Derived.Deep.QuietTactic
import Derived.BigQuiet
import Derived.IntWalk
import Derived.Deep.LoopGhost
import Derived.Test.YtcclhkoggijkaaaParts
import Derived.RegionTactic
import Derived.BigRegion
import Derived.Deep.RegionLaw
import Derived.Test.YtcclhkoggijkaaaNext
import Derived.Test.YtcclhkoggijkaaaLib
import Derived.Laws.Cover3
import Derived.Deep.RegionWith
namespace Go.Proofs.Ytcclhkoggijkaaa
open Go Go.RowKit

theorem partsF_tot {xs : List UInt8} : ∀ (f p : Nat) (acc : List (List UInt8)), p ≤ xs.length → tot (partsF xs f p acc).1 ≤ tot acc + (xs.length - p)
  | 0, p, acc, h => by
    rw [partsF]
    split
    · simp [tot]
    · simp only; omega
  | f + 1, p, acc, h => by
    rcases hg : getU xs (p : Int) with ⟨m, nx, e⟩
    by_cases hp : p < xs.length
    · by_cases he : e = 0
      · obtain ⟨k, hk, h1, h2, _⟩ := getU_err (by omega) hg he
        subst hk he
        by_cases hs : (xs.length : Int) - (k : Int) < (m : Int)
        · rw [partsF_short hp hg hs]; simp [tot]
        · rw [partsF_next hp hg hs]
          have := partsF_tot (xs := xs) f (k + m) (acc ++ [(xs.drop k).take m]) (by omega)
          rw [tot_append] at this
          simp only [tot, List.length_take, List.length_drop] at this
          omega
      · rw [partsF_err hp hg he]; simp [tot]
    · rw [partsF_end hp]; simp only; omega
theorem parts_tot (xs : List UInt8) : tot (parts xs).1 ≤ xs.length := by
  have := partsF_tot (xs := xs) xs.length 0 [] (Nat.zero_le _)
  simpa [parts, tot] using this

/-- The append of what reads as these slices onto a row of slices of the call's own. -/
theorem wpList_appV {P : Program} (w : World) {ops : Array Oper} {rest : List Oper} {o : Oper} {a : Act} {Q : Exit → Act → World → Prop} (hgd : o.guard = none) (s x : Operand) (tt : TypeId)
    (ho : o.op = .call { callee := .builtin .append, args := #[s, x], argTypes := #[tt, tt] })
    (base : Nat) (t : TypeId) (z : Value) (by_ : Nat) (ht : P.underlying tt = some (.slice t)) (hi : (P.info? t).map (fun i => (i.zero, i.size, i.bytes)) = some (some z, 1, by_)) (hz1 : z.cells.size = 1)
    (A : Option Addr) (n c : Nat) (vs : List Value) (hs : a.eval s = .slice A n c) (hown : OwnV t w base A n c vs)
    (B : Option Addr) (m d : Nat) (ys : List Value) (hx : a.eval x = .slice B m d) (hr : RdV w B m ys) (h1 : ∀ u ∈ ys, u.oneCell' = true)
    (hn : n + m ≤ maxLen) (hby : (n + m) * by_ ≤ 140737488355328) (hbase : base ≤ w.heap.size)
    (h : ∀ A' c' w', OwnV t w' base A' (n + m) c' (vs ++ ys) → w.grownBy w' (blk A) → (blk A' = blk A ∨ blk A' = some w.heap.size) → wpList P ops Q rest (a.put o.dst (.slice A' (n + m) c')) w') :
    wpList P ops Q (o :: rest) a w := by
  obtain ⟨i, hi, hz, hsz, hby2⟩ := info_parts hi
  cases B with
  | none =>
    obtain ⟨rfl, rfl⟩ : m = 0 ∧ ys = [] := by
      rcases Nat.eq_zero_or_pos m with h0 | h0
      · exact ⟨h0, List.eq_nil_of_length_eq_zero (by rw [hr.1, h0])⟩
      · obtain ⟨_, _, e, _⟩ := hr.2 h0; cases e
    refine wpList_app_none hgd s x tt ho base t i 1 ht (by rw [hi]) (.slice A n c) n vs hs (by exact hown) d hx ?_
    exact h A c w (by simpa using hown) (World.grownBy.refl w _) (.inl rfl)
  | some ad =>
    have hnews : ∀ j u, ys[j]? = some u → w.cell? (ad.add j) = some u := fun j u hj => by
      have hm : 0 < m := by have := hr.1; have := (List.getElem?_eq_some_iff.1 hj).1; omega
      obtain ⟨b, off, e, _, hc⟩ := hr.2 hm
      injection e with e
      subst e
      rw [Addr.add_lit]
      exact hc j u hj
    refine wpList_append_own_at (w := w) hgd s x tt ho base t i z 1 by_ ht hi hz hsz hby2 hz1 (by decide) (.slice A n c) n vs hs hown ad m d ys hx (by rw [hr.1, Nat.mul_one]) hnews h1 hn hby hbase ?_
    intro v' w' k1 k2 _ k3
    rw [own_blk] at k2
    obtain ⟨A', c', rfl⟩ : ∃ A' c', v' = .slice A' (n + m) c' := by
      rcases k1.2 with ⟨h3, h4⟩ | ⟨g, cap, cur, h4, _⟩
      · exact ⟨none, 0, by rw [h3, h4]⟩
      · exact ⟨_, _, h4⟩
    rw [own_blk, own_blk] at k3
    exact h A' c' w' k1 k2 k3

/-- The same at an operation under a guard that says yes; out of a row with an address. -/
theorem wpList_appG {P : Program} (w : World) {ops : Array Oper} {rest : List Oper} {o : Oper} {a : Act} {Q : Exit → Act → World → Prop} (hw : Region.wanted o (yielded ops a.tmps) = true) (s x : Operand) (tt : TypeId)
    (ho : o.op = .call { callee := .builtin .append, args := #[s, x], argTypes := #[tt, tt] })
    (base : Nat) (t : TypeId) (z : Value) (by_ : Nat) (ht : P.underlying tt = some (.slice t)) (hi : (P.info? t).map (fun i => (i.zero, i.size, i.bytes)) = some (some z, 1, by_)) (hz1 : z.cells.size = 1)
    (A : Option Addr) (n c : Nat) (vs : List Value) (hs : a.eval s = .slice A n c) (hown : OwnV t w base A n c vs)
    (ad : Addr) (m d : Nat) (ys : List Value) (hx : a.eval x = .slice (some ad) m d) (hr : RdV w (some ad) m ys) (h1 : ∀ u ∈ ys, u.oneCell' = true)
    (hn : n + m ≤ maxLen) (hby : (n + m) * by_ ≤ 140737488355328) (hbase : base ≤ w.heap.size)
    (h : ∀ A' c' w', OwnV t w' base A' (n + m) c' (vs ++ ys) → w.grownBy w' (blk A) → (blk A' = blk A ∨ blk A' = some w.heap.size) → wpList P ops Q rest (a.put o.dst (.slice A' (n + m) c')) w') :
    wpList P ops Q (o :: rest) a w := by
  obtain ⟨i, hi, hz, hsz, hby2⟩ := info_parts hi
  have hnews : ∀ j u, ys[j]? = some u → w.cell? (ad.add j) = some u := fun j u hj => by
    have hm : 0 < m := by have := hr.1; have := (List.getElem?_eq_some_iff.1 hj).1; omega
    obtain ⟨b, off, e, _, hc⟩ := hr.2 hm
    injection e with e
    subst e
    rw [Addr.add_lit]
    exact hc j u hj
  refine BigFrame.wpList_want hw fun K hK => ?_
  obtain ⟨v', w', hrun, k1, k2, _, k3⟩ := run_append_own_at (P := P) w base tt o.type t i z 1 by_ ht hi hz hsz hby2 hz1 (by decide) (.slice A n c) n vs hown ad m d ys (by rw [hr.1, Nat.mul_one]) hnews h1 hn hby hbase
  rw [own_blk] at k2
  obtain ⟨A', c', rfl⟩ : ∃ A' c', v' = .slice A' (n + m) c' := by
    rcases k1.2 with ⟨h3, h4⟩ | ⟨g, cap, cur, h4, _⟩
    · exact ⟨none, 0, by rw [h3, h4]⟩
    · exact ⟨_, _, h4⟩
  rw [own_blk, own_blk] at k3
  unfold Oper.wp execOp
  simp only [ho, resolve, invoke, builtin, Sem.run_bind, Sem.run_pure, Result.andThen_ok, List.map_toArray, List.map_cons, List.map_nil, hs, hx, hrun]
  exact hK _ _ (h A' c' w' k1 k2 k3)

section
variable {w w' : World} {base : Nat} {a b ps : List VB}
theorem Fam.turn {g N : Nat} {xs ys : List UInt8} (h : Fam w base (a ++ ((.slice (some ⟨g, 0, none⟩) N N, xs) :: b))) (ho : Own 5 w' base (some ⟨g, 0, none⟩) N N ys) (hg : w.grownBy w' (some g)) :
    Fam w' base (a ++ ((.slice (some ⟨g, 0, none⟩) N N, ys) :: b)) := by
  obtain ⟨h1, h2⟩ := h
  rw [List.pairwise_append, List.pairwise_cons] at h2
  obtain ⟨p1, ⟨p2, p3⟩, p4⟩ := h2
  have key : ∀ p, (p ∈ a ∨ p ∈ b) → ∃ A m c, p.1 = .slice A m c ∧ Own 5 w' base A m c p.2 := fun p hp => by
    obtain ⟨A, m, c, e, ho⟩ := h1 p (by rcases hp with hp | hp <;> simp [hp])
    refine ⟨A, m, c, e, ho.kept hg (fun k hk e2 => ?_)⟩
    injection e2 with e2
    subst e2
    rcases hp with hp | hp
    · exact p4 p hp _ (List.mem_cons_self ..) g (by rw [e, own_blk]; exact hk) rfl
    · exact p2 p hp g rfl (by rw [e, own_blk]; exact hk)
  refine ⟨fun p hp => ?_, ?_⟩
  · simp only [List.mem_append, List.mem_cons] at hp
    rcases hp with hp | rfl | hp
    · exact key p (.inl hp)
    · exact ⟨_, _, _, rfl, ho⟩
    · exact key p (.inr hp)
  · rw [List.pairwise_append, List.pairwise_cons]
    exact ⟨p1, ⟨fun q hq => p2 q hq, p3⟩, fun x hx y hy => by
      rcases List.mem_cons.1 hy with rfl | hy
      · exact fun k e1 e2 => p4 x hx _ (List.mem_cons_self ..) k e1 e2
      · exact p4 x hx y (List.mem_cons_of_mem _ hy)⟩
theorem Fam.one_cell (h : Fam w base ps) : ∀ u ∈ ps.map (·.1), u.oneCell' = true := fun u hu => by
  obtain ⟨p, hp, rfl⟩ := List.mem_map.1 hu
  obtain ⟨A, m, c, e, _⟩ := h.1 p hp
  rw [e]
  rfl
theorem Fam.pre (h : Fam w base ps) : Pre w base (ps.map (·.1)) (fun _ _ _ => True) := fun i v hv => by
  rw [List.getElem?_map] at hv
  cases hp : ps[i]? with
  | none => rw [hp] at hv; cases hv
  | some p =>
    rw [hp] at hv
    injection hv with hv
    subst hv
    obtain ⟨A, m, c, e, ho⟩ := h.1 p (List.mem_of_getElem? hp)
    exact ⟨A, m, c, p.2, e, ho, trivial⟩
theorem Fam.dis (h : Fam w base ps) : DisS (ps.map (·.1)) := fun i v i' v' k h1 h2 e1 e2 => by
  rw [List.getElem?_map] at h1 h2
  cases hp : ps[i]? with
  | none => rw [hp] at h1; cases h1
  | some p =>
    cases hq : ps[i']? with
    | none => rw [hq] at h2; cases h2
    | some q =>
      rw [hp] at h1
      rw [hq] at h2
      injection h1 with h1
      injection h2 with h2
      subst h1 h2
      obtain ⟨li, ep⟩ := List.getElem?_eq_some_iff.1 hp
      obtain ⟨lj, eq⟩ := List.getElem?_eq_some_iff.1 hq
      have hpw := List.pairwise_iff_getElem.1 h.2
      rcases Nat.lt_trichotomy i i' with hlt | hlt | hlt
      · exact absurd e2 (by have := hpw i i' li lj hlt k; rw [ep, eq] at this; exact this e1)
      · exact hlt
      · exact absurd e1 (by have := hpw i' i lj li hlt k; rw [ep, eq] at this; exact this e2)
theorem Fam.small (h : Fam w base ps) {M : Nat} (hM : ∀ p ∈ ps, p.2.length ≤ M) : ∀ (i : Nat) (A : Option Addr) (m c : Nat), (ps.map (·.1))[i]? = some (Value.slice A m c) → m ≤ M := fun i A m c hv => by
  rw [List.getElem?_map] at hv
  cases hp : ps[i]? with
  | none => rw [hp] at hv; cases hv
  | some p =>
    rw [hp] at hv
    injection hv with hv
    obtain ⟨A', m', c', e, ho⟩ := h.1 p (List.mem_of_getElem? hp)
    have hv' : p.1 = Value.slice A m c := hv
    rw [hv'] at e
    injection e with _ e
    subst e
    rw [← ho.len]
    exact hM p (List.mem_of_getElem? hp)
theorem OffF.map {k : Nat} (h : OffF ps k) : ∀ (i : Nat) (v : Value), (ps.map (·.1))[i]? = some v → Value.ownBlock v ≠ some k := fun i v hv => by
  rw [List.getElem?_map] at hv
  cases hp : ps[i]? with
  | none => rw [hp] at hv; cases hv
  | some p =>
    rw [hp] at hv
    injection hv with hv
    subst hv
    exact h p (List.mem_of_getElem? hp)
end

end Go.Proofs.Ytcclhkoggijkaaa
namespace Go.Proofs.Ytcclhkoggijkaaa
open Go Go.RowKit

/-- 'The row that lay at A lies at A' now: it grew where it lay, or lies in a new block; all else stands.' -/
def Grow (w w' : World) (A A' : Option Addr) : Prop := w.grownBy w' (blk A) ∧ (blk A' = blk A ∨ ∀ b, blk A' = some b → w.heap.size ≤ b)
theorem grown_then {a b c : World} {row row' : Option Nat} (h : a.grownBy b row) (k : b.grownBy c row') (hr : ∀ j, row' = some j → a.heap.size ≤ j ∨ row = some j) : a.grownBy c row := by
  obtain ⟨h1, h2, h3, h4, h5⟩ := h
  obtain ⟨k1, k2, k3, k4, k5⟩ := k
  refine ⟨k1.trans h1, k2.trans h2, k3.trans h3, Nat.le_trans h4 k4, fun i hi hne => (k5 i (Nat.lt_of_lt_of_le hi h4) fun e => ?_).trans (h5 i hi hne)⟩
  rcases hr i e.symm with h6 | h6
  · omega
  · exact hne h6.symm
theorem Grow.refl (w : World) (A : Option Addr) : Grow w w A A := ⟨World.grownBy.refl w _, .inl rfl⟩
theorem Grow.size {w w' : World} {A A' : Option Addr} (h : Grow w w' A A') : w.heap.size ≤ w'.heap.size := h.1.size
theorem Grow.trans {w w1 w2 : World} {A A1 A2 : Option Addr} (h : Grow w w1 A A1) (k : Grow w1 w2 A1 A2) : Grow w w2 A A2 := by
  have hs := h.size
  refine ⟨grown_then h.1 k.1 (fun j hj => ?_), ?_⟩
  · rcases h.2 with e | e
    · exact .inr (by rw [← e]; exact hj)
    · exact .inl (e j hj)
  · rcases k.2 with e | e
    · rcases h.2 with e2 | e2
      · exact .inl (e.trans e2)
      · exact .inr fun b hb => e2 b (by rw [← e]; exact hb)
    · exact .inr fun b hb => Nat.le_trans hs (e b hb)
theorem Grow.of_below {w w1 : World} (A : Option Addr) (h : Below w.heap.size w w1) : Grow w w1 A A :=
  ⟨⟨h.os, h.tape, h.output, h.size, fun b hb _ => h.block b hb⟩, .inl rfl⟩
theorem Grow.below {e : TypeId} {w w' : World} {base n c : Nat} {A A' : Option Addr} {xs : List UInt8} (h : Grow w w' A A') (ho : Own e w base A n c xs) (hb : base ≤ w.heap.size) : Below base w w' :=
  (Below.refl _ _).grown h.1 hb (fun k hk => (ho.lt k hk).1)
theorem Grow.kept {e : TypeId} {w w' : World} {base n c : Nat} {A A' B : Option Addr} {xs : List UInt8} (h : Grow w w' A A') (ho : Own e w base B n c xs) (hd : Dj A B) : Own e w' base B n c xs :=
  ho.kept h.1 (fun b hb e => hd b e hb)
theorem Grow.dj {e : TypeId} {w w' : World} {base n c : Nat} {A A' B : Option Addr} {xs : List UInt8} (h : Grow w w' A A') (ho : Own e w base B n c xs) (hd : Dj A B) : Dj A' B := fun b h1 h2 => by
  rcases h.2 with e | e
  · exact hd b (by rw [← e]; exact h1) h2
  · have h3 := e b h1
    have h4 := (ho.lt b h2).2
    omega
theorem Rd.vals {w : World} {B : Option Addr} {m : Nat} {ys : List UInt8} (h : Rd w B m ys) : RdV w B m (ys.map cv) := by
  refine ⟨by simp [h.1], fun hm => ?_⟩
  obtain ⟨b, off, e, hb, hc⟩ := h.2 hm
  refine ⟨b, off, e, hb, fun i v hv => ?_⟩
  rw [List.getElem?_map] at hv
  cases hy : ys[i]? with
  | none => rw [hy] at hv; cases hv
  | some y =>
    rw [hy] at hv
    injection hv with hv
    subst hv
    exact hc i y hy
/-- An append of bytes that tells where the row lies. -/
theorem wpList_appX {P : Program} (w : World) {ops : Array Oper} {rest : List Oper} {o : Oper} {a : Act} {Q : Exit → Act → World → Prop} (hgd : o.guard = none) (s x : Operand) (tt : TypeId)
    (ho : o.op = .call { callee := .builtin .append, args := #[s, x], argTypes := #[tt, tt] })
    (base : Nat) (t : TypeId) (ht : P.underlying tt = some (.slice t)) (hi : (P.info? t).map (fun i => (i.zero, i.size, i.bytes)) = some (some (.int .u8 0), 1, 1))
    (A : Option Addr) (n c : Nat) (xs : List UInt8) (hs : a.eval s = .slice A n c) (hown : Own t w base A n c xs)
    (B : Option Addr) (m d : Nat) (ys : List UInt8) (hx : a.eval x = .slice B m d) (hr : Rd w B m ys)
    (hby : n + m ≤ 140737488355328) (hbase : base ≤ w.heap.size)
    (h : ∀ A' c' w', Own t w' base A' (n + m) c' (xs ++ ys) → Grow w w' A A' → wpList P ops Q rest (a.put o.dst (.slice A' (n + m) c')) w') :
    wpList P ops Q (o :: rest) a w :=
  wpList_appV w hgd s x tt ho base t (.int .u8 0) 1 ht hi rfl A n c (xs.map cv) hs hown B m d (ys.map cv) hx hr.vals (cv_one ys) (by unfold maxLen; omega) (by omega) hbase
    (fun A' c' w' h1 h2 h3 => h A' c' w' (by rw [← List.map_append] at h1; exact h1) ⟨h2, h3.imp id (fun e b hb => by rw [e] at hb; injection hb with hb; omega)⟩)
/-- 'The row with ys behind it.' -/
def RetAp (base : Nat) (w : World) (A : Option Addr) (n : Nat) (xs ys : List UInt8) (e : Ending) (w' : World) : Prop :=
  ∃ A' c', e = .returned (.slice A' (n + ys.length) c') ∧ Own 5 w' base A' (n + ys.length) c' (xs ++ ys) ∧ Grow w w' A A'
theorem appendWord_any (A : Option Addr) (n c : Nat) (xs : List UInt8) (base v : Nat) (w : World) (ho : Own 5 w base A n c xs) (hb : base ≤ w.heap.size) (hn : n ≤ 1099511627776) (hv : v < 4294967296) :
    Calls Try.prog 188 #[.slice A n c, .int .i64 (v : Int)] w (RetAp base w A n xs (fourB v)) := by
  have hc : ∀ i : Nat, ((bt i).toNat : Int) = (i : Int) % 256 := fun i => by
    have : (UInt8.ofNat i).toNat = i % 256 := by simp [UInt8.toNat_ofNat']
    unfold bt
    omega
  have hw : #[Value.int .u8 ((v : Int) / 16777216), .int .u8 ((v : Int) / 65536 % 256), .int .u8 ((v : Int) / 256 % 256), .int .u8 ((v : Int) % 256)] = ((fourB v).map cv).toArray := by
    have e : fourB v = [bt (v / 16777216), bt (v / 65536), bt (v / 256), bt v] := rfl
    rw [e]
    simp only [List.map_cons, List.map_nil, cv, hc]
    rw [show ((v / 16777216 : Nat) : Int) % 256 = (v : Int) / 16777216 by omega, show ((v / 65536 : Nat) : Int) = (v : Int) / 65536 by omega, show ((v / 256 : Nat) : Int) = (v : Int) / 256 by omega]
  have HW := Lib.hid hw
  clear hw hc
  go_enter Try.func188, Try.ntmps188
  go_wp2_with (at_builtin; refine wpList_appX _ rfl _ _ 25 rfl base 5 Try.underlying25 info_u8 A n c xs rfl (ho.alloc _) _ 4 4 (fourB v) rfl (Rd.lit _ _ 4 (fourB v) rfl _ HW.out) ?_ ?_ ?_)
  · omega
  · simp; omega
  intro A' c' w' o2 g2
  go_wp2_with fail
  go_ret
  exact ⟨A', c', rfl, o2, (Grow.of_below A ((Below.refl _ _).alloc (Nat.le_refl _) _)).trans g2⟩
end Go.Proofs.Ytcclhkoggijkaaa
namespace Go.Proofs.Ytcclhkoggijkaaa
open Go Go.RowKit

theorem filter_ten : filterB 10 [] = [0, 0, 0, 0, 0, 0, 0, 0, 6] := by decide +kernel
theorem hash_nil : hashB [] = 14695981039346656037 := rfl
end Go.Proofs.Ytcclhkoggijkaaa
namespace Go.Proofs.Ytcclhkoggijkaaa
open Go Go.RowKit

theorem flat_len (xss : List (List UInt8)) : xss.flatten.length ≤ tot xss := by
  induction xss with
  | nil => simp [tot]
  | cons x r ih => simp only [List.flatten_cons, List.length_append, tot]; omega
theorem flat_take_le (xss : List (List UInt8)) (k : Nat) : (xss.take k).flatten.length ≤ xss.flatten.length := by
  have h : xss.flatten = (xss.take k).flatten ++ (xss.drop k).flatten := by rw [← List.flatten_append, List.take_append_drop]
  rw [h, List.length_append]
  omega
theorem flat_snoc {xss : List (List UInt8)} {k : Nat} {x : List UInt8} (h : xss[k]? = some x) : (xss.take (k + 1)).flatten = (xss.take k).flatten ++ x := by
  rw [List.take_add_one, h]; simp

/-- The values of a row of lists. -/
theorem RdL.vals {w : World} {A : Option Addr} {n : Nat} {xss : List (List UInt8)} (h : RdL w A n xss) :
    ∃ vs : List Value, RdV w A n vs ∧ (∀ (i : Nat) v x, vs[i]? = some v → xss[i]? = some x → ElB w v x) ∧ ∀ u ∈ vs, u.oneCell' = true := by
  have key : ∀ m, m ≤ n → ∃ vs : List Value, vs.length = m ∧ (∀ b off, A = some ⟨b, off, none⟩ → ∀ (i : Nat) v, vs[i]? = some v → w.cell? ⟨b, off + i, none⟩ = some v) ∧ (∀ (i : Nat) v x, vs[i]? = some v → xss[i]? = some x → ElB w v x) ∧ ∀ u ∈ vs, u.oneCell' = true := by
    intro m
    induction m with
    | zero => intro _; exact ⟨[], rfl, by simp, by simp, by simp⟩
    | succ m ih =>
      intro hm
      obtain ⟨vs, h1, h2, h3, h4⟩ := ih (by omega)
      obtain ⟨b, off, rfl, _⟩ := h.pos (by omega)
      obtain ⟨x, X, nx, cx, hk1, hc0, rx0, hxc, hnil⟩ := h.at_ m (by omega)
      refine ⟨vs ++ [.slice X nx cx], by simp [h1], ?_, ?_, ?_⟩
      · intro b' off' e i v hi
        rw [List.getElem?_append] at hi
        split at hi
        · exact h2 b' off' e i v hi
        · next hlt =>
          have : i = m := by
            have := (List.getElem?_eq_some_iff.1 hi).1
            simp at this
            omega
          subst this
          injection e with e
          injection e with e1 e2
          subst e1 e2
          rw [h1, Nat.sub_self] at hi
          simp at hi
          rw [← hi]
          exact hc0
      · intro i v y hi hy
        rw [List.getElem?_append] at hi
        split at hi
        · exact h3 i v y hi hy
        · next hlt =>
          have : i = m := by
            have := (List.getElem?_eq_some_iff.1 hi).1
            simp at this
            omega
          subst this
          rw [h1, Nat.sub_self] at hi
          simp at hi
          rw [hk1] at hy
          injection hy with hy
          subst hi hy
          exact ⟨X, nx, cx, rfl, rx0, hxc, hnil⟩
      · intro u hu
        rw [List.mem_append, List.mem_singleton] at hu
        rcases hu with hu | rfl
        · exact h4 u hu
        · rfl
  obtain ⟨vs, h1, h2, h3, h4⟩ := key n (Nat.le_refl _)
  refine ⟨vs, ⟨h1, fun hn => ?_⟩, h3, h4⟩
  obtain ⟨b, off, e, hb⟩ := h.pos hn
  exact ⟨b, off, e, hb, h2 b off e⟩

/-- A row of values that read as lists, read as a list of lists. -/
theorem RdV.rdl {w : World} {A : Option Addr} {n : Nat} {vs : List Value} {xss : List (List UInt8)} (h : RdV w A n vs) (hl : xss.length = n) (he : ∀ (i : Nat) v x, vs[i]? = some v → xss[i]? = some x → ElB w v x) : RdL w A n xss := by
  refine ⟨hl, fun hn => ?_⟩
  obtain ⟨b, off, e, hb, hc⟩ := h.2 hn
  refine ⟨b, off, e, hb, fun i x hx => ?_⟩
  have hi := (List.getElem?_eq_some_iff.1 hx).1
  obtain ⟨v, hv⟩ : ∃ v, vs[i]? = some v := ⟨_, List.getElem?_eq_getElem (by rw [h.1]; omega)⟩
  exact ⟨v, hc i v hv, he i v x hv hx⟩

/-- A block of bytes, read. -/
theorem Rd.row {w : World} {g n : Nat} {e : TypeId} {fr : Nat × Nat} {xs : List UInt8} (h : w.heap[g]? = some (.cells (xs.map cv).toArray e fr)) (hn : xs.length = n) : Rd w (some ⟨g, 0, none⟩) n xs := by
  refine ⟨hn, fun _ => ⟨g, 0, rfl, (Array.getElem?_eq_some_iff.1 h).1, fun i x hx => ?_⟩⟩
  rw [cell_of_row w g (0 + i) _ e fr h]
  simp [hx, cv]

theorem ownV_box (w : World) (t : TypeId) (base : Nat) (vs : List Value) (n : Nat) (hl : vs.length = n) (hn : n ≤ 1024) (hb : base ≤ w.heap.size) (cs : Array Value) (hc : cs = vs.toArray) (g : Nat) (hg : g = w.heap.size) : OwnV t (w.alloc (.cells cs t)) base (some ⟨g, 0, none⟩) n n vs := by
  subst hc hg
  refine ⟨by simp [hl], .inr ⟨w.heap.size, n, vs.toArray, rfl, hb, heap_alloc_new w _, Nat.le_refl _, by unfold maxLen; omega, by simp [hl], ?_⟩⟩
  simp only [Nat.mul_one]
  exact List.take_of_length_le (by simp [hl])

/-- Four noughts. -/
abbrev zero4 : Array Value := #[.int .u8 0, .int .u8 0, .int .u8 0, .int .u8 0]
theorem four_cells (n : Nat) : (((fourB n).map cv).toArray).all (·.oneCell') = true := by
  rw [Array.all_eq_true_iff_forall_mem]
  intro v hv
  rw [List.mem_toArray] at hv
  exact cv_one _ v hv

set_option maxRecDepth 100000 in
set_option maxHeartbeats 4000000 in
theorem Seal_any (A : Option Addr) (n c : Nat) (xss : List (List UInt8)) (w : World) (hx : RdL w A n xss) (ht : tot xss ≤ 268435456) :
    Calls Try.prog 116 #[.slice A n c] w (RetSE w.heap.size w (sealG xss.flatten)) := by
  obtain ⟨base, hbase⟩ : ∃ b, b = w.heap.size := ⟨_, rfl⟩
  rw [← hbase]
  have Hw : Hid (base = w.heap.size) := Lib.hid hbase
  clear hbase
  have hn : n ≤ 268435456 := by have := tot_len xss; have := hx.len; omega
  have HXL := Lib.hid hx.len
  go_enter Try.func116, Try.ntmps116
  go_wp2
  go_loopw [4, 14] (fun vs vk wr => ∃ s k q : Nat, vs = .int .i64 s ∧ vk = .int .i64 k ∧ k ≤ n ∧ s = (xss.take k).flatten.length ∧ s ≤ 1048576 ∧ wr = w.drewN q) (fun _ vk _ => n - (intOf vk).toNat)
  case atStart => exact ⟨0, 0, 0, rfl, rfl, Nat.zero_le _, rfl, Nat.zero_le _, rfl⟩
  case round =>
    obtain ⟨s, k, q, rfl, rfl, hk, hs, hs1, rfl⟩ := hrel
    have Hs := Lib.hid hs
    clear hs
    by_cases hlt : k < n
    · obtain ⟨b, off, rfl, hbl⟩ := hx.pos (by omega)
      obtain ⟨x, X, nx, cx, hk1, hc0, rx0, hxc, _⟩ := hx.at_ k hlt
      have hc : (w.drewN q).cell? ⟨b, off + k, none⟩ = some (.slice X nx cx) := hc0
      have HS := Lib.hid (flat_snoc hk1)
      have HXX := Lib.hid rx0.len
      have hnx : nx ≤ 268435456 := by have := tot_at hk1; have := rx0.len; omega
      obtain ⟨W, hW⟩ : ∃ W, W = w.drewN q := ⟨_, rfl⟩
      rw [← hW] at hc ⊢
      have HW := Lib.hid hW
      clear hW hk1 hc0 hbl
      by_cases hlong : 1048576 - s < nx
      · have G : Hid (sealG xss.flatten = ([], 2)) := Lib.hid (sealG_long rfl (by
          have h1 := flat_take_le xss (k + 1)
          rw [HS.out, List.length_append, ← Hs.out, HXX.out] at h1
          omega))
        have h1 : decide ((1048576 : Int) - (s : Int) < (nx : Int)) = true := by simp; omega
        go_wp2
        go_ret2
        refine ⟨none, 0, 0, by rw [G.out]; rfl, by rw [G.out]; exact Own.nil _ _ _, ?_⟩
        rw [HW.out, Hw.out]
        exact below_drewN (Below.refl _ _) q
      · have h1 : decide ((1048576 : Int) - (s : Int) < (nx : Int)) = false := by simp; omega
        go_wp2
        go_roundw
        case rel => exact ⟨s + nx, k + 1, _, by go_num, by go_num, by omega, by rw [HS.out, List.length_append, ← Hs.out, HXX.out], by omega, HW.out⟩
        case measure => simp [intOf]; omega
    · obtain rfl : k = n := by omega
      obtain ⟨ps, hps⟩ : ∃ ps, ps = xss.flatten := ⟨_, rfl⟩
      have hlp : ps.length = s := by rw [hps, Hs.out, List.take_of_length_le (by rw [HXL.out]; omega)]
      have G : Hid (sealG ps = (sealB ps, 0)) := Lib.hid (sealG_ok hlp (by omega))
      have HPS := Lib.hid hps
      have HLP := Lib.hid hlp
      rw [← hps]
      clear hps hlp Hs
      have hx0 : RdL (w.drewN q) A k xss := hx.drewN q
      have hb0 : Below base w (w.drewN q) := by rw [Hw.out]; exact below_drewN (Below.refl _ _) q
      obtain ⟨W, hW⟩ : ∃ W, W = w.drewN q := ⟨_, rfl⟩
      rw [← hW] at hx0 hb0 ⊢
      clear hW hx
      go_wp2_with fail
      refine (word_any s _ (by omega)).mono ?_
      rintro e w1 ⟨rfl, hb1⟩
      have hx1 := hx0.below hb1
      have hb1 : Below base w w1 := hb0.trans (hb1.mono (by have := hb0.size; have := Hw.out; omega))
      clear hx0 hb0
      have hbw1 : base ≤ w1.heap.size := by have := hb1.size; have := Hw.out; omega
      obtain ⟨W2, hW2⟩ : ∃ W2, W2 = (w1.alloc (.cells zero4 227)).setRow w1.heap.size ((fourB s).map cv).toArray := ⟨_, rfl⟩
      have r2 : W2.heap[w1.heap.size]? = some (.cells ((fourB s).map cv).toArray 227 (0, 0)) := by rw [hW2]; exact setRow_heap _ _ _ _ _ _ (heap_alloc_new _ _)
      have hz2 : W2.heap.size = w1.heap.size + 1 := by rw [hW2, setRow_size]; simp
      have hb12 : Below w1.heap.size w1 W2 := by rw [hW2]; exact below_setRow ((Below.refl _ _).alloc (Nat.le_refl _) _) (Nat.le_refl _) _
      obtain ⟨vs, hv0, hv2, hv3⟩ := hx1.vals
      have hv1 := hv0.below hb12
      have HV2 := Lib.hid hv2
      have HV3 := Lib.hid hv3
      have HZ2 := Lib.hid hz2
      have HR2 := Lib.hid r2
      have HW2 := Lib.hid hW2
      clear hv2 hv3 hz2 r2 hW2 hv0
      go_wp2_with (first
        | (refine wpList_store_row rfl _ _ _ rfl w1.heap.size ((fourB s).map cv).toArray rfl rfl 227 zero4 (heap_alloc_new _ _) info_four rfl (four_cells s) ?_; rw [← HW2.out])
        | (at_builtin; refine wpList_appV _ rfl _ _ 108 rfl w1.heap.size 25 _ 24 Try.underlying108 info_sl rfl (some ⟨W2.heap.size, 0, none⟩) 1 1 [.slice (some ⟨w1.heap.size, 0, none⟩) 4 4] rfl (ownV_box W2 _ _ _ 1 rfl (by omega) hb12.size _ rfl _ rfl) A k c vs rfl (hv1.alloc _) HV3.out ?_ ?_ ?_ ?_))
      · unfold maxLen; omega
      · omega
      · simp; have := HZ2.out; omega
      intro B' d' w3 hB3 hg3 _
      have hb23 : Below w1.heap.size W2 w3 := ((Below.refl _ _).alloc (by have := HZ2.out; omega) _).grown hg3 (by simp; have := HZ2.out; omega) (fun k hk => by injection hk with hk; have := HZ2.out; simp only at hk; omega)
      have hb13 := hb12.trans hb23
      have hx3 := hx1.below hb13
      have r3 : w3.heap[w1.heap.size]? = some (.cells ((fourB s).map cv).toArray 227 (0, 0)) := by
        rw [hg3.block _ (by simp; have := HZ2.out; omega) (by intro e; injection e with e; have := HZ2.out; simp only at e; omega), heap_alloc_old _ _ (show w1.heap.size < W2.heap.size by have := HZ2.out; omega)]
        exact HR2.out
      have rd3 := Rd.row r3 (fourB_len s)
      have hL3 : RdL w3 B' (1 + k) (fourB s :: xss) := hB3.rd.rdl (by rw [List.length_cons, HXL.out]; omega) (fun i v x hv hx => by
        cases i with
        | zero =>
          simp at hv hx
          subst hv hx
          exact ⟨_, 4, 4, rfl, rd3, Nat.le_refl _, fun h => by cases h⟩
        | succ i =>
          simp at hv hx
          exact (HV2.out i v x hv hx).below hb13)
      have hb3 := hb1.trans (hb13.mono hbw1)
      have hbw3 : base ≤ w3.heap.size := by have := hb3.size; have := Hw.out; omega
      clear hb1 hx1 hb12 hv1 hB3 hg3 hb23 hb13 r3
      have hts : tot (fourB s :: xss) ≤ 1099511627776 := by simp only [tot, fourB_len]; omega
      go_wp2_with fail
      refine (Sum_any B' (1 + k) d' (fourB s :: xss) _ hL3 hts).mono ?_
      rintro e w4 ⟨rfl, hb4⟩
      obtain ⟨z, hz⟩ : ∃ z, z = crcB (fourB s :: xss).flatten := ⟨_, rfl⟩
      have hz32 : z < 4294967296 := by rw [hz]; exact crcB_lt _
      have HZ : Hid (z = crcB (fourB s ++ ps)) := Lib.hid (by rw [hz, List.flatten_cons, HPS.out])
      rw [← hz]
      clear hz
      have rd4 := rd3.below hb4
      have hx4 := hx3.below hb4
      have hb4 : Below base w w4 := hb3.trans (hb4.mono hbw3)
      have hbw4 : base ≤ w4.heap.size := by have := hb4.size; have := Hw.out; omega
      clear rd3 hx3 hb3 hL3
      go_wp2_with fail
      refine (word_any z _ hz32).mono ?_
      rintro e w5 ⟨rfl, hb5⟩
      have rd5 := rd4.below hb5
      have hx5 := hx4.below hb5
      have hb5 : Below base w w5 := hb4.trans (hb5.mono hbw4)
      have hbw5 : base ≤ w5.heap.size := by have := hb5.size; have := Hw.out; omega
      clear rd4 hx4 hb4
      obtain ⟨W6, hW6⟩ : ∃ W6, W6 = (w5.alloc (.cells zero4 227)).setRow w5.heap.size ((fourB z).map cv).toArray := ⟨_, rfl⟩
      have r6 : W6.heap[w5.heap.size]? = some (.cells ((fourB z).map cv).toArray 227 (0, 0)) := by rw [hW6]; exact setRow_heap _ _ _ _ _ _ (heap_alloc_new _ _)
      have hb56 : Below w5.heap.size w5 W6 := by rw [hW6]; exact below_setRow ((Below.refl _ _).alloc (Nat.le_refl _) _) (Nat.le_refl _) _
      have rz6 := Rd.row r6 (fourB_len z)
      have rd6 := rd5.below hb56
      have hx6 := hx5.below hb56
      have hb6 : Below base w W6 := hb5.trans (hb56.mono hbw5)
      have hbw6 : base ≤ W6.heap.size := by have := hb6.size; have := Hw.out; omega
      have HW6 := Lib.hid hW6
      have HR6 := Lib.hid r6
      clear hW6 r6 hb56 rd5 hx5 hb5
      go_wp2_with (first
        | (refine wpList_store_row rfl _ _ _ rfl w5.heap.size ((fourB z).map cv).toArray rfl rfl 227 zero4 (heap_alloc_new _ _) info_four rfl (four_cells z) ?_; rw [← HW6.out])
        | (at_make; refine wpList_mk _ rfl _ _ 25 rfl W6.heap.size 5 Try.underlying25 info_u8 _ (8 + s) rfl rfl (by omega) (by omega) (Nat.le_refl _) ?_))
      intro A7 w7 ho7 hb7
      have rd7 := rd6.below hb7
      have rz7 := rz6.below hb7
      have hx7 := hx6.below hb7
      go_wp2_with (at_builtin; refine wpList_app w7 rfl (.tmp 40) (.tmp 41) 25 rfl W6.heap.size 5 Try.underlying25 info_u8 A7 0 (8 + s) [] rfl ho7 (some ⟨w1.heap.size, 0, none⟩) 4 4 (fourB s) rfl rd7 ?_ ?_ ?_)
      · omega
      · exact hb7.size
      intro A8 c8 w8 ho8 hb8
      have hb8 : Below W6.heap.size W6 w8 := hb7.trans hb8
      have rz8 := rz6.below hb8
      have hx8 := hx6.below hb8
      clear rd7 rz7 hx7 hb7 ho7
      go_wp2_with (at_builtin; refine wpList_app w8 rfl (.tmp 43) (.tmp 44) 25 rfl W6.heap.size 5 Try.underlying25 info_u8 A8 4 c8 (fourB s) rfl ho8 (some ⟨w5.heap.size, 0, none⟩) 4 4 (fourB z) rfl rz8 ?_ ?_ ?_)
      · omega
      · exact hb8.size
      intro A9 c9 w9 ho9 hb9
      have hb9 : Below W6.heap.size W6 w9 := hb8.trans hb9
      have HO9 := Lib.hid ho9
      clear rz8 hx8 hb8 ho8 ho9
      go_wp2
      go_loopw [9, 48] (fun v i wr => ∃ (P : Option Addr) (m d j : Nat), v = .slice P m d ∧ i = .int .i64 j ∧ j ≤ k ∧ Own 5 wr W6.heap.size P m d ((fourB s ++ fourB z) ++ (xss.take j).flatten) ∧ m ≤ 8 + tot (xss.take j) ∧ Below W6.heap.size W6 wr) (fun _ i _ => k - (intOf i).toNat)
      case atStart => exact ⟨A9, 4 + 4, c9, 0, rfl, rfl, Nat.zero_le _, by rw [List.take_zero, List.flatten_nil, List.append_nil]; exact HO9.out, by omega, hb9⟩
      case round =>
        clear hb9
        obtain ⟨P, m, d, j, rfl, rfl, hj, op, hm, hb9⟩ := hrel
        have hbs := hb9.size
        by_cases hjk : j < k
        · obtain ⟨b, off, rfl, hbl⟩ := hx6.pos (by omega)
          obtain ⟨x, X, nx, cx, hk1, hc0, rx0, hxc, _⟩ := hx6.at_ j hjk
          have hc := (hb9.cell (p := ⟨b, off + j, none⟩) hbl).trans hc0
          have rx := rx0.below hb9
          have hts := tot_snoc hk1
          have htk := tot_take xss (j + 1)
          have hmt : m + nx + 1 ≤ 8 + tot (xss.take (j + 1)) := by have := rx.len; omega
          have HS := Lib.hid (flat_snoc hk1)
          clear hk1 hc0 hbl hts
          go_wp2_with (at_builtin; refine wpList_app wr rfl (.tmp 52) (.tmp 53) 25 rfl W6.heap.size 5 Try.underlying25 info_u8 P m d _ rfl op X nx cx x rfl rx ?_ ?_ ?_)
          · omega
          · exact hbs
          intro A' c' w' h1 h2
          have H1 := Lib.hid h1
          have H2 := Lib.hid h2
          clear h1 h2 op
          go_wp2
          go_roundw
          case rel => exact ⟨A', m + nx, c', j + 1, rfl, by go_num, by omega, by rw [HS.out, ← List.append_assoc]; exact H1.out, by omega, hb9.trans H2.out⟩
          case measure => simp [intOf]; omega
        · obtain rfl : j = k := by omega
          have HB : Hid (Below base w wr) := Lib.hid (hb6.trans (hb9.mono hbw6))
          go_wp2
          go_ret2
          rw [← HPS.out]
          refine ⟨P, m, d, by rw [G.out]; rfl, ?_, HB.out⟩
          rw [G.out]
          have h9 : sealB ps = (fourB s ++ fourB z) ++ ps := by rw [sealB, HLP.out, HZ.out, List.append_assoc]
          rw [List.take_of_length_le (by rw [HXL.out]; omega), ← HPS.out, ← h9] at op
          exact op.mono hbw6
end Go.Proofs.Ytcclhkoggijkaaa
namespace Go.Proofs.Ytcclhkoggijkaaa
open Go Go.RowKit Go.Maps

abbrev DU := DataW Unit
/-- A text as the model has it. -/
def tx (l : List UInt8) : ByteArray := ⟨l.toArray⟩
theorem tx_list (l : List UInt8) : (tx l).data.toList = l := by simp [tx]
theorem tx_size (l : List UInt8) : (tx l).size = l.length := by rw [← tx_list l]; simp [tx, ByteArray.size]
theorem tx_of (s : ByteArray) : tx s.data.toList = s := by cases s; simp [tx]
theorem tx_inj {a b : List UInt8} (h : tx a = tx b) : a = b := by rw [← tx_list a, h, tx_list]

theorem lawN : Keyed Try.prog 9 := string_keyed Try.underlying9
theorem keyN {x : List UInt8} (h : x.length ≤ maxLen) : keyOf Try.prog 9 (.string (tx x)) = some (.string x) := by
  have := WideMaps.keyOf_string_mk Try.underlying9 (s := tx x) (by rw [tx_size]; exact h)
  rw [tx_list] at this
  exact this
theorem keyN_inv (key : Value) (kl : Lit) (h : keyOf Try.prog 9 key = some kl) : ∃ x : ByteArray, key = .string x := by
  obtain ⟨s, h1, _⟩ := WideMaps.string_of_keyOf Try.underlying9 h
  exact ⟨s, h1⟩
/-- How a pointer to a file reads: its block's number. -/
def ptrEl : Value → Option (DU × List MemPlace)
  | .pointer (some ⟨b, 0, none⟩) => some (.lit (.int .i64 (b : Int)), [])
  | .pointer none => some (.nil, [])
  | _ => none
theorem ptrEl_some (b : Nat) : ptrEl (.pointer (some ⟨b, 0, none⟩)) = some (.lit (.int .i64 (b : Int)), []) := rfl
theorem ptrEl_none : ptrEl (.pointer none) = some (.nil, []) := rfl
theorem ptrEl_inv (v : Value) (y : DU × List MemPlace) (h : ptrEl v = some y) : ∃ p : Option Nat, v = .pointer (p.map fun b => ⟨b, 0, none⟩) := by
  unfold ptrEl at h
  split at h
  · next b => exact ⟨some b, rfl⟩
  · exact ⟨none, rfl⟩
  · cases h
theorem ptrEl_at {v : Value} {b : Nat} {ps : List MemPlace} (h : ptrEl v = some (.lit (.int .i64 (b : Int)), ps)) : v = .pointer (some ⟨b, 0, none⟩) := by
  obtain ⟨p, rfl⟩ := ptrEl_inv v _ h
  cases p with
  | none => cases h
  | some c =>
    have h1 : (some (DataW.lit (.int .i64 (c : Int)), ([] : List MemPlace)) : Option (DU × List MemPlace)) = some (.lit (.int .i64 (b : Int)), ps) := h
    simp only [Option.some.injEq, Prod.mk.injEq, DataW.lit.injEq, Lit.int.injEq, true_and] at h1
    have : c = b := by omega
    rw [this]
    rfl
theorem ptrEl_nil {v : Value} {ps : List MemPlace} (h : ptrEl v = some (.nil, ps)) : v = .pointer none := by
  obtain ⟨p, rfl⟩ := ptrEl_inv v _ h
  cases p with
  | none => rfl
  | some c => cases h
theorem zeroP (w : World) : (zeroValue 127).run Try.prog w = .ok (.pointer none) w := by kernel_rfl

/-- A file: its name, its bytes, how many are safe; its block; where its bytes lie, and in how much room. -/
structure FR where
  name : List UInt8
  dat : List UInt8
  saf : Nat
  fb : Nat
  A : Option Addr
  c : Nat

def FR.bl (r : FR) : List Nat := r.fb :: (blk r.A).toList
def FR.val (r : FR) : List UInt8 × List UInt8 × Nat := (r.name, r.dat, r.saf)
/-- 'The file lies in memory so.' -/
def FileAt (w : World) (r : FR) : Prop :=
  w.heap[r.fb]? = some (.cells #[.slice r.A r.dat.length r.c, .int .i64 (r.saf : Int)] 131 (0, 0)) ∧ Own 5 w 0 r.A r.dat.length r.c r.dat ∧ r.saf ≤ r.dat.length
/-- 'The map reads as these files.' -/
def MR (Dm : DU) (rs : List FR) : Prop :=
  Maps.size Dm = rs.length ∧ (∀ x, has Dm (.string x) = rs.any (fun r => r.name == x)) ∧ ∀ r ∈ rs, ∀ z, Dm.atKey (.string r.name) z = .lit (.int .i64 (r.fb : Int))
def MapAt (w : World) (m : Option Nat) (rs : List FR) : Prop :=
  (m = none ∧ rs = []) ∨ ∃ b Dm, m = some b ∧ w.ownsMap Try.prog 9 ptrEl b rs.length Dm ∧ MR Dm rs
/-- All blocks of a disk. -/
def allB (p : Nat) (m : Option Nat) (rs : List FR) : List Nat := p :: (m.toList ++ rs.flatMap FR.bl)

/-- What a call may turn: some blocks, and new ones. -/
structure Fr (w w' : World) (bl : List Nat) : Prop where
  os : w'.os = w.os
  tape : w'.tape = w.tape
  output : w'.output = w.output
  size : w.heap.size ≤ w'.heap.size
  block : ∀ k, k < w.heap.size → k ∉ bl → w'.heap[k]? = w.heap[k]?

section
variable {w w' w2 : World} {bl bl2 : List Nat}
theorem Fr.refl (w : World) (bl : List Nat) : Fr w w bl := ⟨rfl, rfl, rfl, Nat.le_refl _, fun _ _ _ => rfl⟩
theorem Fr.of_below (h : Below w.heap.size w w') (bl : List Nat) : Fr w w' bl := ⟨h.os, h.tape, h.output, h.size, fun k hk _ => h.block k hk⟩
theorem Fr.of_grown {row : Option Nat} (h : w.grownBy w' row) (hr : ∀ b, row = some b → b ∈ bl) : Fr w w' bl :=
  ⟨h.os, h.tape, h.output, h.size, fun k hk hn => h.block k hk (fun e => hn (hr k e.symm))⟩
theorem Fr.trans (h : Fr w w' bl) (h2 : Fr w' w2 bl2) (hs : ∀ b ∈ bl2, b ∈ bl ∨ w.heap.size ≤ b) : Fr w w2 bl :=
  ⟨h2.os.trans h.os, h2.tape.trans h.tape, h2.output.trans h.output, Nat.le_trans h.size h2.size, fun k hk hn => by
    rw [h2.block k (Nat.lt_of_lt_of_le hk h.size) (fun hm => by rcases hs k hm with h1 | h1; exact hn h1; omega), h.block k hk hn]⟩
theorem Fr.mono (h : Fr w w' bl) (hs : ∀ b ∈ bl, b ∈ bl2 ∨ w.heap.size ≤ b) : Fr w w' bl2 :=
  ⟨h.os, h.tape, h.output, h.size, fun k hk hn => h.block k hk (fun hm => by rcases hs k hm with h1 | h1; exact hn h1; omega)⟩
theorem Fr.below {base : Nat} (h : Fr w w' bl) (hb : ∀ b ∈ bl, base ≤ b) (hs : base ≤ w.heap.size) : Below base w w' :=
  ⟨h.os, h.tape, h.output, h.size, fun k hk => h.block k (by omega) (fun hm => by have := hb k hm; omega)⟩
theorem Fr.drewN (h : Fr w w' bl) (q : Nat) : Fr w (w'.drewN q) bl := ⟨h.os, h.tape, h.output, h.size, h.block⟩
theorem Rd.fr {A : Option Addr} {n : Nat} {xs : List UInt8} (h : Rd w A n xs) (hf : Fr w w' bl) (ho : ∀ b, blk A = some b → b ∉ bl) : Rd w' A n xs := by
  refine ⟨h.1, fun hn => ?_⟩
  obtain ⟨b, off, rfl, h2, h3⟩ := h.2 hn
  refine ⟨b, off, rfl, Nat.lt_of_lt_of_le h2 hf.size, fun i x hx => ?_⟩
  have hb := hf.block b h2 (ho b rfl)
  exact (World.cell?_of_block (a := ⟨b, off + i, none⟩) hb).trans (h3 i x hx)
theorem Own.fr {e : TypeId} {base n c : Nat} {A : Option Addr} {xs : List UInt8} (h : Own e w base A n c xs) (hf : Fr w w' bl) (ho : ∀ b, blk A = some b → b ∉ bl) : Own e w' base A n c xs := by
  refine ⟨h.1, ?_⟩
  rcases h.2 with h1 | ⟨g, cap, cur, h1, h2, h3, h4⟩
  · exact .inl h1
  · injection h1 with h1 h5 h6
    subst h1 h6
    exact .inr ⟨g, _, cur, rfl, h2, (hf.block g (Array.getElem?_eq_some_iff.1 h3).1 (ho g rfl)).trans h3, h4⟩
theorem FileAt.fr {r : FR} (h : FileAt w r) (hf : Fr w w' bl) (ho : ∀ b ∈ r.bl, b ∉ bl) : FileAt w' r := by
  obtain ⟨h1, h2, h3⟩ := h
  refine ⟨(hf.block r.fb (Array.getElem?_eq_some_iff.1 h1).1 (ho _ (by simp [FR.bl]))).trans h1, h2.fr hf (fun b hb => ho b (by simp [FR.bl, hb])), h3⟩
theorem FileAt.lt {r : FR} (h : FileAt w r) : ∀ b ∈ r.bl, b < w.heap.size := fun b hb => by
  simp only [FR.bl, List.mem_cons, Option.mem_toList] at hb
  rcases hb with rfl | hb
  · exact (Array.getElem?_eq_some_iff.1 h.1).1
  · exact (h.2.1.lt b hb).2
theorem MapAt.fr {m : Option Nat} {rs : List FR} (h : MapAt w m rs) (hf : Fr w w' bl) (ho : ∀ b, m = some b → b ∉ bl) : MapAt w' m rs := by
  rcases h with h | ⟨b, Dm, rfl, ⟨es, clock, h1, h2⟩, h3⟩
  · exact .inl h
  · exact .inr ⟨b, Dm, rfl, ⟨es, clock, (hf.block b (Array.getElem?_eq_some_iff.1 h1).1 (ho b rfl)).trans h1, h2⟩, h3⟩
theorem MapAt.lt {m : Option Nat} {rs : List FR} (h : MapAt w m rs) : ∀ b, m = some b → b < w.heap.size := fun b hb => by
  rcases h with ⟨h, _⟩ | ⟨b', Dm, h, h1, _⟩
  · rw [h] at hb; cases hb
  · rw [h] at hb
    injection hb with hb
    rw [← hb]
    exact h1.lt
end
end Go.Proofs.Ytcclhkoggijkaaa
namespace Go.Proofs.Ytcclhkoggijkaaa
open Go Go.RowKit

/-- 'These four values are the entry e, whose bytes are the call's own.' -/
def EO (base : Nat) (w : World) (e : En) (v0 v1 v2 v3 : Value) : Prop :=
  ∃ K kn kc V vn vc, v0 = .slice K kn kc ∧ v1 = .int .u64 (e.seq : Int) ∧ v2 = .int .u8 (e.kind : Int) ∧ v3 = .slice V vn vc ∧ Own 5 w base K kn kc e.key ∧ Own 5 w base V vn vc e.val ∧ U64 e.seq ∧ e.kind < 256
def EOs (base : Nat) (w : World) : List En → List Value → Prop
  | [], vs => vs = []
  | e :: es, vs => ∃ v0 v1 v2 v3 r, vs = v0 :: v1 :: v2 :: v3 :: r ∧ EO base w e v0 v1 v2 v3 ∧ EOs base w es r
/-- 'None of these slices lies in that block.' -/
def OffW (vs : List Value) (b : Option Nat) : Prop := ∀ g, b = some g → ∀ A m c, Value.slice A m c ∈ vs → blk A ≠ some g
theorem OffW.app {a b : List Value} {o : Option Nat} (h1 : OffW a o) (h2 : OffW b o) : OffW (a ++ b) o := fun g hg A m c hv => by
  rcases List.mem_append.1 hv with h | h
  · exact h1 g hg A m c h
  · exact h2 g hg A m c h
theorem OffW.none (vs : List Value) : OffW vs none := fun g hg => by cases hg
theorem OffW.nil (o : Option Nat) : OffW [] o := fun g _ A m c h => by cases h
section
variable {base : Nat} {w w' : World} {e : En} {es : List En} {v0 v1 v2 v3 : Value} {vs : List Value}
theorem elb_own {n c : Nat} {A : Option Addr} {xs : List UInt8} (h : Own 5 w base A n c xs) : ElB w (.slice A n c) xs :=
  ⟨A, n, c, rfl, h.rd, h.cap.1, fun hA => (h.nil_of (by rw [hA]; rfl)).2.2⟩
theorem EO.ev (h : EO base w e v0 v1 v2 v3) : EV w e v0 v1 v2 v3 := by
  obtain ⟨K, kn, kc, V, vn, vc, rfl, rfl, rfl, rfl, h1, h2, h3, h4⟩ := h
  exact ⟨rfl, rfl, h3, h4, elb_own h1, elb_own h2⟩
theorem EO.below (h : EO base w e v0 v1 v2 v3) (hb : Below w.heap.size w w') : EO base w' e v0 v1 v2 v3 := by
  obtain ⟨K, kn, kc, V, vn, vc, h0, h1, h2, h3, h4, h5, h6⟩ := h
  exact ⟨K, kn, kc, V, vn, vc, h0, h1, h2, h3, h4.below hb, h5.below hb, h6⟩
theorem EO.mono {base' : Nat} (h : EO base w e v0 v1 v2 v3) (hb : base' ≤ base) : EO base' w e v0 v1 v2 v3 := by
  obtain ⟨K, kn, kc, V, vn, vc, h0, h1, h2, h3, h4, h5, h6⟩ := h
  exact ⟨K, kn, kc, V, vn, vc, h0, h1, h2, h3, h4.mono hb, h5.mono hb, h6⟩
theorem EO.kept {row : Option Nat} (h : EO base w e v0 v1 v2 v3) (hg : w.grownBy w' row) (ho : OffW [v0, v1, v2, v3] row) : EO base w' e v0 v1 v2 v3 := by
  obtain ⟨K, kn, kc, V, vn, vc, rfl, rfl, rfl, rfl, h4, h5, h6⟩ := h
  exact ⟨K, kn, kc, V, vn, vc, rfl, rfl, rfl, rfl, h4.kept hg (fun b hb he => ho b he K kn kc (by simp) hb), h5.kept hg (fun b hb he => ho b he V vn vc (by simp) hb), h6⟩
/-- The blocks of an entry's slices. -/
theorem EO.lt (h : EO base w e v0 v1 v2 v3) {A : Option Addr} {m c g : Nat} (hv : Value.slice A m c ∈ [v0, v1, v2, v3]) (hg : blk A = some g) : base ≤ g ∧ g < w.heap.size := by
  obtain ⟨K, kn, kc, V, vn, vc, rfl, rfl, rfl, rfl, h4, h5, h6⟩ := h
  simp only [List.mem_cons, List.not_mem_nil, or_false] at hv
  rcases hv with e | e | e | e
  · injection e with e1 e2 e3; subst e1; exact h4.lt g hg
  · cases e
  · cases e
  · injection e with e1 e2 e3; subst e1; exact h5.lt g hg
theorem EO.off (h : EO base w e v0 v1 v2 v3) {o : Option Nat} (ho : ∀ g, o = some g → g < base ∨ w.heap.size ≤ g) : OffW [v0, v1, v2, v3] o := fun g hg A m c hv he => by
  have h1 := h.lt hv he
  rcases ho g hg with h2 | h2 <;> omega
theorem EOs.evs : ∀ {es : List En} {vs : List Value}, EOs base w es vs → EVs w es vs
  | [], _, h => h
  | _ :: _, _, ⟨v0, v1, v2, v3, r, e, h1, h2⟩ => ⟨v0, v1, v2, v3, r, e, h1.ev, EOs.evs h2⟩
theorem EOs.below (hb : Below w.heap.size w w') : ∀ {es : List En} {vs : List Value}, EOs base w es vs → EOs base w' es vs
  | [], _, h => h
  | _ :: _, _, ⟨v0, v1, v2, v3, r, e, h1, h2⟩ => ⟨v0, v1, v2, v3, r, e, h1.below hb, EOs.below hb h2⟩
theorem EOs.mono {base' : Nat} (hb : base' ≤ base) : ∀ {es : List En} {vs : List Value}, EOs base w es vs → EOs base' w es vs
  | [], _, h => h
  | _ :: _, _, ⟨v0, v1, v2, v3, r, e, h1, h2⟩ => ⟨v0, v1, v2, v3, r, e, h1.mono hb, EOs.mono hb h2⟩
theorem EOs.app : ∀ {es gs : List En} {vs us : List Value}, EOs base w es vs → EOs base w gs us → EOs base w (es ++ gs) (vs ++ us)
  | [], _, _, _, h, h2 => by rw [h]; exact h2
  | _ :: _, _, _, _, ⟨v0, v1, v2, v3, r, e, h1, h2⟩, h3 => ⟨v0, v1, v2, v3, _, by rw [e]; rfl, h1, EOs.app h2 h3⟩
theorem EOs.one (h : EO base w e v0 v1 v2 v3) : EOs base w [e] [v0, v1, v2, v3] := ⟨v0, v1, v2, v3, [], rfl, h, rfl⟩
theorem EOs.kept {row : Option Nat} (hg : w.grownBy w' row) : ∀ {es : List En} {vs : List Value}, EOs base w es vs → OffW vs row → EOs base w' es vs
  | [], _, h, _ => h
  | _ :: _, _, ⟨v0, v1, v2, v3, r, e, h1, h2⟩, ho => ⟨v0, v1, v2, v3, r, e, h1.kept hg (fun g hg2 A m c hv => ho g hg2 A m c (by rw [e]; simp at hv ⊢; rcases hv with h | h | h | h <;> simp [h])), EOs.kept hg h2 (fun g hg2 A m c hv => ho g hg2 A m c (by rw [e]; simp [hv]))⟩
theorem EOs.lt : ∀ {es : List En} {vs : List Value}, EOs base w es vs → ∀ {A : Option Addr} {m c g : Nat}, Value.slice A m c ∈ vs → blk A = some g → base ≤ g ∧ g < w.heap.size
  | [], _, h, _, _, _, _, hv, _ => by rw [h] at hv; cases hv
  | _ :: _, _, ⟨v0, v1, v2, v3, r, e, h1, h2⟩, A, m, c, g, hv, hg => by
    rw [e] at hv
    have hv2 : Value.slice A m c ∈ [v0, v1, v2, v3] ∨ Value.slice A m c ∈ r := by
      simp only [List.mem_cons, List.not_mem_nil, or_false] at hv ⊢
      rcases hv with h | h | h | h | h
      · exact .inl (.inl h)
      · exact .inl (.inr (.inl h))
      · exact .inl (.inr (.inr (.inl h)))
      · exact .inl (.inr (.inr (.inr h)))
      · exact .inr h
    rcases hv2 with h | h
    · exact h1.lt h hg
    · exact EOs.lt h2 h hg
end
/-- 'A row of entries of the call's own.' -/
def OwnE (w : World) (base : Nat) (A : Option Addr) (n c : Nat) (vs : List Value) : Prop := w.ownsRow base 37 4 (.slice A n c) n vs
section
variable {w w' : World} {base n c : Nat} {A : Option Addr} {vs : List Value}
theorem OwnE.rd (h : OwnE w base A n c vs) : RdV w A (n * 4) vs := by
  refine ⟨by have := h.1; simpa [Nat.mul_comm] using this, fun hn => ?_⟩
  rcases h.2 with ⟨_, h2⟩ | ⟨g, cap, cur, h1, _, hg, _⟩
  · omega
  · injection h1 with h1
    subst h1
    refine ⟨g, 0, rfl, (Array.getElem?_eq_some_iff.1 hg).1, fun i x hx => ?_⟩
    have := World.ownsRow.cells h (g := g) rfl i _ hx
    simpa [Addr.add_lit] using this
theorem OwnE.cap (h : OwnE w base A n c vs) : n ≤ c ∧ c ≤ maxLen := by
  rcases h.2 with ⟨h1, h2⟩ | ⟨g, cap, cur, h1, _, _, h2, h3, _⟩
  · injection h1 with h1 h2 h3
    subst h2 h3
    unfold maxLen
    omega
  · injection h1 with _ _ h4
    subst h4
    exact ⟨h2, h3⟩
theorem OwnE.lt (h : OwnE w base A n c vs) (b : Nat) (hb : blk A = some b) : base ≤ b ∧ b < w.heap.size := World.ownsRow.lt h b (by rw [own_blk]; exact hb)
theorem OwnE.zero (w : World) : OwnE (w.alloc (.cells #[] 37)) w.heap.size (some ⟨w.heap.size, 0, none⟩) 0 0 [] :=
  ⟨rfl, .inr ⟨w.heap.size, 0, #[], rfl, Nat.le_refl _, heap_alloc_new w _, Nat.le_refl _, by unfold maxLen; omega, rfl, rfl⟩⟩
theorem OwnE.nil (w : World) (base : Nat) : OwnE w base none 0 0 [] := World.ownsRow_nil _ _ _ _
theorem OwnE.below (h : OwnE w base A n c vs) (hb : Below w.heap.size w w') : OwnE w' base A n c vs := by
  refine ⟨h.1, ?_⟩
  rcases h.2 with h1 | ⟨g, cap, cur, h1, h2, h3, h4⟩
  · exact .inl h1
  · exact .inr ⟨g, cap, cur, h1, h2, (hb.block g (Array.getElem?_eq_some_iff.1 h3).1).trans h3, h4⟩
theorem OwnE.nil_of (h : OwnE w base A n c vs) (hA : A = none) : c = 0 := by
  subst hA
  rcases h.2 with ⟨h1, _⟩ | ⟨g, cap, cur, h1, _⟩
  · injection h1
  · injection h1 with h1; cases h1
end
theorem info_ent : (Try.prog.info? 37).map (fun i => (i.zero, i.size, i.bytes)) = some (some (.agg #[.slice none 0 0, .int .u64 0, .int .u8 0, .slice none 0 0]), 4, 64) := by kernel_rfl
/-- Entries that are read, appended onto a row of the call's own. -/
theorem wpList_app4 {P : Program} (w : World) {ops : Array Oper} {rest : List Oper} {o : Oper} {a : Act} {Q : Exit → Act → World → Prop} (hgd : o.guard = none) (s x : Operand) (tt : TypeId)
    (ho : o.op = .call { callee := .builtin .append, args := #[s, x], argTypes := #[tt, tt] })
    (base : Nat) (z : Value) (by_ : Nat) (ht : P.underlying tt = some (.slice 37)) (hi : (P.info? 37).map (fun i => (i.zero, i.size, i.bytes)) = some (some z, 4, by_)) (hz1 : z.cells.size = 4)
    (A : Option Addr) (n c : Nat) (vs : List Value) (hs : a.eval s = .slice A n c) (hown : OwnE w base A n c vs)
    (B : Option Addr) (m d : Nat) (us : List Value) (hx : a.eval x = .slice B m d) (hr : RdV w B (m * 4) us) (hone : ∀ u ∈ us, u.oneCell' = true)
    (hn : n + m ≤ 2199023255552) (hby : by_ ≤ 64 := by omega) (hbase : base ≤ w.heap.size)
    (h : ∀ A' c' w', OwnE w' base A' (n + m) c' (vs ++ us) → w.grownBy w' (blk A) → Below base w w' → wpList P ops Q rest (a.put o.dst (.slice A' (n + m) c')) w') : wpList P ops Q (o :: rest) a w := by
  obtain ⟨i, hi, hz, hsz, hby2⟩ := info_parts hi
  have go : ∀ v' w', w'.ownsRow base 37 4 v' (n + m) (vs ++ us) → w.grownBy w' (Value.ownBlock (.slice A n c)) → wpList P ops Q rest (a.put o.dst v') w' := by
    intro v' w' h1 h2
    obtain ⟨A', c', rfl⟩ : ∃ A' c', v' = .slice A' (n + m) c' := by
      rcases h1.2 with ⟨h3, h4⟩ | ⟨g, cap, cur, h3, _⟩
      · exact ⟨none, 0, by rw [h3, h4]⟩
      · exact ⟨_, _, h3⟩
    exact h A' c' w' h1 (by rw [own_blk] at h2; exact h2) ((Below.refl _ _).grown h2 hbase (fun k hk => (World.ownsRow.lt hown k hk).1))
  rcases Nat.eq_zero_or_pos m with hm | hm
  · subst hm
    have hy : us = [] := List.eq_nil_of_length_eq_zero (by rw [hr.1])
    subst hy
    rcases B with _ | ad
    · exact wpList_app_none hgd s x tt ho base 37 i 4 ht hi (.slice A n c) n vs hs hown d hx (by simpa [OwnE] using go (.slice A n c) w (by simpa [OwnE] using hown) (World.grownBy.refl w _))
    · refine wpList_append_own w hgd s x tt ho base 37 i z 4 by_ ht hi hz hsz hby2 hz1 (by decide) (.slice A n c) n vs hs hown ad 0 d [] hx rfl (by simp) (by simp) (by unfold maxLen; omega) (Nat.le_trans (Nat.mul_le_mul_left _ hby) (by omega)) hbase ?_
      intro v' w' h1 h2 _
      exact go v' w' (by simpa using h1) h2
  · obtain ⟨b, off, rfl, _, hc⟩ := hr.2 (by omega)
    refine wpList_append_own w hgd s x tt ho base 37 i z 4 by_ ht hi hz hsz hby2 hz1 (by decide) (.slice A n c) n vs hs hown ⟨b, off, none⟩ m d us hx hr.1 (fun j u hj => by rw [Addr.add_lit]; exact hc j u hj) hone (by unfold maxLen; omega) (Nat.le_trans (Nat.mul_le_mul_left _ hby) (by omega)) hbase ?_
    intro v' w' h1 h2 _
    exact go v' w' h1 h2
/-- One entry more, out of a box of its own, appended onto a row of entries; whether the row stayed. -/
theorem wpList_app4t {P : Program} (w : World) {ops : Array Oper} {rest : List Oper} {o : Oper} {a : Act} {Q : Exit → Act → World → Prop} (hgd : o.guard = none) (s x : Operand) (tt : TypeId)
    (ho : o.op = .call { callee := .builtin .append, args := #[s, x], argTypes := #[tt, tt] })
    (base : Nat) (z : Value) (by_ : Nat) (ht : P.underlying tt = some (.slice 37)) (hi : (P.info? 37).map (fun i => (i.zero, i.size, i.bytes)) = some (some z, 4, by_)) (hz1 : z.cells.size = 4)
    (A : Option Addr) (n c : Nat) (vs : List Value) (hs : a.eval s = .slice A n c) (hown : OwnE w base A n c vs)
    (v0 v1 v2 v3 : Value) (hone : ∀ u ∈ [v0, v1, v2, v3], u.oneCell' = true) (g : Nat) (hg : g = w.heap.size) (hx : a.eval x = .slice (some ⟨g, 0, none⟩) 1 1)
    (hn : n ≤ 1099511627776) (hby : by_ ≤ 64 := by omega) (hbase : base ≤ w.heap.size)
    (h : ∀ A' c' w', OwnE w' base A' (n + 1) c' (vs ++ [v0, v1, v2, v3]) → w.grownBy w' (blk A) → (blk A' = blk A ∨ blk A' = some (w.heap.size + 1)) → wpList P ops Q rest (a.put o.dst (.slice A' (n + 1) c')) w') :
    wpList P ops Q (o :: rest) a (w.alloc (.cells #[v0, v1, v2, v3] 37)) := by
  subst hg
  obtain ⟨i, hi, hz, hsz, hby2⟩ := info_parts hi
  refine wpList_append_own_at (w := w.alloc (.cells #[v0, v1, v2, v3] 37)) hgd s x tt ho base 37 i z 4 by_ ht hi hz hsz hby2 hz1 (by decide) (.slice A n c) n vs hs (hown.below ((Below.refl _ _).alloc (Nat.le_refl _) _)) ⟨w.heap.size, 0, none⟩ 1 1 [v0, v1, v2, v3] hx rfl
    (fun j u hj => by rw [Addr.add_lit, (Cl.new w #[v0, v1, v2, v3] 37).cell (0 + j), Nat.zero_add]; simpa using hj) hone (by unfold maxLen; omega) (Nat.le_trans (Nat.mul_le_mul_left _ hby) (by omega)) (by simp; omega) ?_
  intro v' w' k1 k2 _ k3
  obtain ⟨A', c', rfl⟩ : ∃ A' c', v' = .slice A' (n + 1) c' := by
    rcases k1.2 with ⟨_, h4⟩ | ⟨g, cap, cur, h4, _⟩
    · omega
    · exact ⟨_, _, h4⟩
  rw [own_blk, own_blk] at k3
  rw [own_blk] at k2
  exact h A' c' w' k1 ((World.grownBy_alloc w _ _).trans k2) (by simpa using k3)

/-- The slices of entries, with what they hold. -/
def pairE : List En → List Value → List VB
  | e :: es, v0 :: _ :: _ :: v3 :: r => (v0, e.key) :: (v3, e.val) :: pairE es r
  | _, _ => []
theorem pairE_app {base : Nat} {w : World} {gs : List En} {us : List Value} : ∀ {es : List En} {vs : List Value}, EOs base w es vs → pairE (es ++ gs) (vs ++ us) = pairE es vs ++ pairE gs us
  | [], vs, h => by rw [h]; rfl
  | e :: es, vs, ⟨v0, v1, v2, v3, r, q, h1, h2⟩ => by
    rw [q]
    simp only [List.cons_append, pairE]
    rw [pairE_app h2]
theorem pairE_mem : ∀ {es : List En} {vs : List Value} {p : VB}, p ∈ pairE es vs → p.1 ∈ vs
  | e :: es, v0 :: v1 :: v2 :: v3 :: r, p, h => by
    unfold pairE at h
    simp only [List.mem_cons] at h ⊢
    rcases h with rfl | rfl | h
    · exact .inl rfl
    · exact .inr (.inr (.inr (.inl rfl)))
    · exact .inr (.inr (.inr (.inr (pairE_mem h))))
theorem fam_two {w : World} {base kn kc vn vc : Nat} {K V : Option Addr} {xs ys : List UInt8} (o1 : Own 5 w base K kn kc xs) (o2 : Own 5 w base V vn vc ys) (dj : Dj K V) : Fam w base [(.slice K kn kc, xs), (.slice V vn vc, ys)] := by
  refine ⟨fun p hp => ?_, List.pairwise_cons.2 ⟨fun q hq => ?_, List.pairwise_singleton _ _⟩⟩
  · simp only [List.mem_cons, List.not_mem_nil, or_false] at hp
    rcases hp with rfl | rfl
    · exact ⟨K, kn, kc, rfl, o1⟩
    · exact ⟨V, vn, vc, rfl, o2⟩
  · simp only [List.mem_singleton] at hq
    subst hq
    intro b h1 h2
    rw [own_blk] at h1 h2
    exact dj b h1 h2
/-- 'A row of entries that the call has made, their bytes its own; no two slices share memory.' -/
def RowE (W : World) (base : Nat) (L : Option Addr) (i d : Nat) (es : List En) (wr : World) : Prop :=
  ∃ vs, OwnE wr base L i d vs ∧ EOs base wr es vs ∧ OffW vs (blk L) ∧ es.length = i ∧ Below base W wr ∧ base ≤ wr.heap.size ∧ Fam wr base (pairE es vs)
section
variable {W wr w4 U : World} {base i d d' : Nat} {L L' : Option Addr} {es : List En} {e : En} {v0 v1 v2 v3 : Value} {vs : List Value}
theorem RowE.zero (W : World) (base : Nat) (hb : base ≤ W.heap.size) : RowE W base none 0 0 [] W := ⟨[], OwnE.nil _ _, rfl, OffW.nil _, rfl, Below.refl _ _, hb, Fam.nil _ _⟩
theorem RowE.below {w' : World} (h : RowE W base L i d es wr) (hb : Below wr.heap.size wr w') : RowE W base L i d es w' := by
  obtain ⟨vs, h1, h2, h3, h4, h5, h6, h7⟩ := h
  exact ⟨vs, h1.below hb, h2.below hb, h3, h4, h5.trans (hb.mono h6), Nat.le_trans h6 hb.size, h7.below hb⟩
theorem RowE.rd (h : RowE W base L i d es wr) : REs wr L i es := by
  obtain ⟨vs, h1, h2, h3, h4, h5⟩ := h
  exact REs.mk h2.evs h1.rd h4
theorem RowE.bel (h : RowE W base L i d es wr) : Below base W wr := by obtain ⟨vs, h1, h2, h3, h4, h5, h6, h7⟩ := h; exact h5
theorem RowE.size (h : RowE W base L i d es wr) : base ≤ wr.heap.size := by obtain ⟨vs, h1, h2, h3, h4, h5, h6, h7⟩ := h; exact h6
theorem RowE.cap (h : RowE W base L i d es wr) : i ≤ d ∧ d ≤ maxLen := by obtain ⟨vs, h1, _⟩ := h; exact h1.cap
theorem RowE.len (h : RowE W base L i d es wr) : es.length = i := by obtain ⟨vs, h1, h2, h3, h4, h5⟩ := h; exact h4
theorem RowE.lt (h : RowE W base L i d es wr) (b : Nat) (hb : blk L = some b) : base ≤ b ∧ b < wr.heap.size := by obtain ⟨vs, h1, _⟩ := h; exact h1.lt b hb
/-- One more. -/
theorem rowE_snoc (h1 : OwnE wr base L i d vs) (h2 : EOs base wr es vs) (h3 : OffW vs (blk L)) (hl : es.length = i) (hw : Below base W wr) (hs : base ≤ wr.heap.size) (h7 : Fam wr base (pairE es vs))
    (hU : Below wr.heap.size wr U) (hf : EO base U e v0 v1 v2 v3) (ho : OffW [v0, v1, v2, v3] (blk L)) (hfm : Fam U wr.heap.size [(v0, e.key), (v3, e.val)])
    (h4 : OwnE w4 base L' (i + 1) d' (vs ++ [v0, v1, v2, v3])) (hg : U.grownBy w4 (blk L)) (hb : blk L' = blk L ∨ blk L' = some (U.heap.size + 1)) : RowE W base L' (i + 1) d' (es ++ [e]) w4 := by
  have hus := hU.size
  have hgs := hg.size
  refine ⟨vs ++ [v0, v1, v2, v3], h4, (EOs.kept hg (h2.below hU) h3).app (EOs.one (hf.kept hg ho)), ?_, by simp [hl], (hw.trans (hU.mono hs)).grown hg (by omega) (fun k hk => (h1.lt k hk).1), by omega, ?_⟩
  · rcases hb with e | e
    · rw [e]
      exact h3.app ho
    · rw [e]
      intro g hg2 B m c hv2 hv3
      injection hg2 with hg2
      rcases List.mem_append.1 hv2 with hq | hq
      · have := EOs.lt h2 hq hv3
        omega
      · have := hf.lt hq hv3
        omega
  · rw [pairE_app h2]
    have k1 : Fam wr base (pairE es vs ++ []) := by rw [List.append_nil]; exact h7
    have k2 := Fam.ins k1 hfm hU (Nat.le_refl _) hs
    rw [List.append_nil] at k2
    refine k2.kept hg (fun b e p hp e2 => ?_)
    obtain ⟨A, m, c, q, _⟩ := k2.1 p hp
    have hm : Value.slice A m c ∈ vs ++ [v0, v1, v2, v3] := by
      rw [← q]
      rcases List.mem_append.1 hp with h | h
      · exact List.mem_append_left _ (pairE_mem h)
      · refine List.mem_append_right _ ?_
        simp only [List.mem_cons, List.not_mem_nil, or_false] at h
        rcases h with rfl | rfl
        · simp
        · simp
    rw [q, own_blk] at e2
    exact (h3.app ho) b e A m c hm e2
end
/-- What a list of entries that is made comes to. -/
def RetRow (w : World) (es : List En) (e : Ending) (w' : World) : Prop := ∃ L n c, e = .returned (.slice L n c) ∧ RowE w w.heap.size L n c es w'
section
variable {w : World} {A : Option Addr} {n c : Nat} {es : List En}
set_option maxRecDepth 100000 in
set_option maxHeartbeats 4000000 in
theorem Twins_any (h : REs w A n es) (hn : n ≤ 1099511627776) (hs : ∀ x ∈ es, SzE x) : Calls Try.prog 12 #[.slice A n c] w (RetRow w es) := by
  have HL := Lib.hid h.len
  have HS := Lib.hid hs
  clear hs
  go_enter Try.func12, Try.ntmps12
  go_wp2
  go_loopw [3, 4] (fun s3 s4 wr => ∃ (k d : Nat) (L : Option Addr), k ≤ n ∧ s4 = .int .i64 (k : Int) ∧ s3 = .slice L k d ∧ RowE w w.heap.size L k d (es.take k) wr) (fun _ s _ => n - (intOf s).toNat)
  case atStart => exact ⟨0, 0, none, Nat.zero_le _, rfl, rfl, RowE.zero _ _ (Nat.le_refl _)⟩
  case round =>
    obtain ⟨k, d, L, hk, rfl, rfl, hrow⟩ := hrel
    have HR := Lib.hid hrow
    have sw := hrow.size
    have hR : REs wr A n es := h.below hrow.bel
    clear hrow
    by_cases hlt : k < n
    · obtain ⟨b, off, rfl, hbl⟩ := hR.pos (by omega)
      obtain ⟨x, v0, v1, v2, v3, hx, m0, m1, m2, m3, hev⟩ := hR.at_ k hlt
      have HEV := Lib.hid hev
      have hsx := HS.out x (List.mem_of_getElem? hx)
      have hwf := hR.wf x (List.mem_of_getElem? hx)
      obtain ⟨K, kn, kc, V, vn, vc, rfl, rfl, rfl, rfl, _⟩ := hev.parts
      have HXK := Lib.hid hx
      clear hx hev hR
      go_wp2_with fail
      refine (Twin_any HEV.out hsx).mono ?_
      rintro e w2 ⟨K2, kn2, kc2, V2, vn2, vc2, rfl, o1, o2, b2, dj⟩
      obtain ⟨vs, q1, q2, q3, q4, q5, q6, q7⟩ := HR.out
      have HFM := Lib.hid (fam_two o1 o2 dj)
      have Q7 := Lib.hid q7
      have s2 := b2.size
      have HEO : Hid (EO w.heap.size w2 x (.slice K2 kn2 kc2) (.int .u64 (x.seq : Int)) (.int .u8 (x.kind : Int)) (.slice V2 vn2 vc2)) := Lib.hid ⟨K2, kn2, kc2, V2, vn2, vc2, rfl, rfl, rfl, rfl, o1.mono q6, o2.mono q6, hwf⟩
      have HOF : Hid (OffW [.slice K2 kn2 kc2, .int .u64 (x.seq : Int), .int .u8 (x.kind : Int), .slice V2 vn2 vc2] (blk L)) := Lib.hid (EO.off (base := wr.heap.size) (w := w2) (e := x) ⟨K2, kn2, kc2, V2, vn2, vc2, rfl, rfl, rfl, rfl, o1, o2, hwf⟩ (fun g hg => .inl (q1.lt g hg).2))
      have HB2 := Lib.hid b2
      have Q1 := Lib.hid q1
      have Q2 := Lib.hid q2
      have Q3 := Lib.hid q3
      have Q4 := Lib.hid q4
      have Q5 := Lib.hid q5
      have hcell : ∀ u ∈ [Value.slice K2 kn2 kc2, .int .u64 (x.seq : Int), .int .u8 (x.kind : Int), .slice V2 vn2 vc2], u.oneCell' = true := HEO.out.ev.cells
      have HCL := Lib.hid hcell
      clear o1 o2 b2 q1 q2 q3 q4 q5 q7 dj hcell m0 m1 m2 m3
      go_wp2_with (at_builtin; refine wpList_app4t w2 rfl _ _ 22 rfl w.heap.size _ 64 Try.underlying22 info_ent rfl L k d vs rfl (Q1.out.below HB2.out) _ _ _ _ HCL.out w2.heap.size rfl rfl ?_ ?_ ?_ ?_)
      · omega
      · omega
      · omega
      intro L2 d2 w4 hG4 hg4 hb4
      have HQ : Hid (RowE w w.heap.size L2 (k + 1) d2 (es.take (k + 1)) w4) := Lib.hid (by
        rw [List.take_add_one, HXK.out]
        exact rowE_snoc Q1.out Q2.out Q3.out Q4.out Q5.out q6 Q7.out HB2.out HEO.out HOF.out HFM.out hG4 hg4 hb4)
      clear hG4 hg4 hb4
      go_wp2
      go_roundw
      case rel => exact ⟨k + 1, d2, L2, by omega, by go_num, rfl, HQ.out⟩
      case measure => simp [intOf]; omega
    · obtain rfl : k = n := by omega
      have htk := take_all HL.out hlt
      rw [htk] at HR
      clear htk
      go_wp2
      go_ret
      exact ⟨L, k, d, rfl, HR.out⟩
end
end Go.Proofs.Ytcclhkoggijkaaa
namespace Go.Proofs.Ytcclhkoggijkaaa
open Go Go.RowKit

theorem belowT' {w0 w1 w2 : World} (h : Below w0.heap.size w0 w1) (hb : Below w1.heap.size w1 w2) : Below w0.heap.size w0 w2 := h.trans (hb.mono h.size)
section
variable {w : World} {a : En} {v0 v1 v2 v3 u0 u1 u2 u3 : Value}
set_option maxRecDepth 100000 in
set_option maxHeartbeats 4000000 in
theorem Same_any (ha : EV w a v0 v1 v2 v3) (hb : EV w a u0 u1 u2 u3) (sa : SzE a) :
    Calls Try.prog 32 #[.agg #[v0, v1, v2, v3], .agg #[u0, u1, u2, u3]] w (RetT w true) := by
  obtain ⟨K, kn, kc, V, vn, vc, rfl, rfl, rfl, rfl, r0, r3, _⟩ := ha.parts
  obtain ⟨K', kn', kc', V', vn', vc', rfl, rfl, rfl, rfl, r0', r3', _⟩ := hb.parts
  obtain ⟨W, hW⟩ : ∃ W, W = (w.alloc (.cells #[.slice K kn kc, .int .u64 (a.seq : Int), .int .u8 (a.kind : Int), .slice V vn vc] 37)).alloc (.cells #[.slice K' kn' kc', .int .u64 (a.seq : Int), .int .u8 (a.kind : Int), .slice V' vn' vc'] 37) := ⟨_, rfl⟩
  have bW : Below w.heap.size w W := by rw [hW]; exact ((Below.refl _ _).alloc (Nat.le_refl _) _).alloc (by simp) _
  have x1 : Cl W w.heap.size #[.slice K kn kc, .int .u64 (a.seq : Int), .int .u8 (a.kind : Int), .slice V vn vc] 37 := by rw [hW]; exact (Cl.new _ _ _).alloc _
  have x2 : Cl W (w.heap.size + 1) #[.slice K' kn' kc', .int .u64 (a.seq : Int), .int .u8 (a.kind : Int), .slice V' vn' vc'] 37 := by rw [hW]; exact Cl.newg _ _ _ _ (by simp)
  have hk : kn ≤ maxLen := maxLen_e (by rw [← r0.len]; exact sa.1)
  have hv : vn ≤ maxLen := maxLen_e (by rw [← r3.len]; exact sa.2)
  have hk' : kn' ≤ maxLen := maxLen_e (by rw [← r0'.len]; exact sa.1)
  have hv' : vn' ≤ maxLen := maxLen_e (by rw [← r3'.len]; exact sa.2)
  have HK : Hid (∀ wx, Below W.heap.size W wx → Calls Try.prog 14 #[.slice K kn kc, .slice K' kn' kc'] wx (fun e w' => e = .returned (.bool true) ∧ Below W.heap.size W w')) := Lib.hid (fun wx h => (Equal_any _ _ _ _ _ _ a.key a.key wx ((r0.below bW).below h) ((r0'.below bW).below h) hk hk').mono (by
    rintro e w' ⟨rfl, q, rfl⟩
    exact ⟨by rw [eqB_self], below_drewN h q⟩))
  have HV : Hid (∀ wx, Below W.heap.size W wx → Calls Try.prog 14 #[.slice V vn vc, .slice V' vn' vc'] wx (fun e w' => e = .returned (.bool true) ∧ Below W.heap.size W w')) := Lib.hid (fun wx h => (Equal_any _ _ _ _ _ _ a.val a.val wx ((r3.below bW).below h) ((r3'.below bW).below h) hv hv').mono (by
    rintro e w' ⟨rfl, q, rfl⟩
    exact ⟨by rw [eqB_self], below_drewN h q⟩))
  have X1 := Lib.hid x1
  have X2 := Lib.hid x2
  have BW := Lib.hid bW
  obtain ⟨c0, c1, c2, c3, _⟩ := x1.c4
  obtain ⟨d0, d1, d2, d3, _⟩ := x2.c4
  clear ha hb r0 r3 r0' r3' x1 x2 bW
  go_enter Try.func32, Try.ntmps32
  go_upto_region 1 with (fail)
  rw [← hW]
  clear hW
  go_wp2_with fail
  with_reducible refine (HK.out _ (Below.refl _ _)).mono ?_
  rintro e w1 ⟨rfl, b1⟩
  have B1 := Lib.hid b1
  clear c0 c1 c2 c3 d0 d1 d2 d3
  obtain ⟨c0, c1, c2, c3, _⟩ := (X1.out.below b1).c4
  obtain ⟨d0, d1, d2, d3, _⟩ := (X2.out.below b1).c4
  clear b1
  go_wp2_with fail
  with_reducible refine (HV.out _ B1.out).mono ?_
  rintro e w2 ⟨rfl, b2⟩
  have B2 := Lib.hid (belowT' BW.out b2)
  clear b2 c0 c1 c2 c3 d0 d1 d2 d3
  go_wp2
  go_ret
  exact ⟨rfl, B2.out⟩
end
theorem RetT.outD {w : World} {b : Bool} {e : Ending} {w' : World} (h : RetT w b e w') : e = .returned (.bool b) ∧ Below w.heap.size w w' := h
set_option maxRecDepth 100000 in
set_option maxHeartbeats 4000000 in
theorem SameList_any {w : World} {A B : Option Addr} {n c d : Nat} {es : List En} (h1 : REs w A n es) (h2 : REs w B n es) (hn : n ≤ 1099511627776) (hs : ∀ x ∈ es, SzE x) :
    Calls Try.prog 20 #[.slice A n c, .slice B n d] w (RetT w true) := by
  have H1 := Lib.hid h1
  have H2 := Lib.hid h2
  have HS := Lib.hid hs
  clear h1 h2 hs
  go_enter Try.func20, Try.ntmps20
  go_wp2
  go_loopw [5] (fun s5 wr => ∃ k : Nat, k ≤ n ∧ s5 = .int .i64 (k : Int) ∧ Below w.heap.size w wr) (fun s _ => n - (intOf s).toNat)
  case atStart => exact ⟨0, Nat.zero_le _, rfl, Below.refl _ _⟩
  case round =>
    obtain ⟨k, hk, rfl, hB⟩ := hrel
    have HB := Lib.hid hB
    clear hB
    by_cases hlt : k < n
    · have hR := H1.out.below HB.out
      have hQ := H2.out.below HB.out
      obtain ⟨b, off, hAb, hbl⟩ := hR.pos (by omega)
      subst hAb
      obtain ⟨g, oft, hBb, hgl⟩ := hQ.pos (by omega)
      subst hBb
      obtain ⟨x, v0, v1, v2, v3, hx, c0, c1, c2, c3, hev⟩ := hR.at_ k hlt
      obtain ⟨y, u0, u1, u2, u3, hy, d0, d1, d2, d3, hew⟩ := hQ.at_ k hlt
      have hxy : y = x := by rw [hx] at hy; injection hy with hy; exact hy.symm
      subst hxy
      have hsx := HS.out y (List.mem_of_getElem? hx)
      have HT : Hid (∀ wx, Below wr.heap.size wr wx → Calls Try.prog 32 #[.agg #[v0, v1, v2, v3], .agg #[u0, u1, u2, u3]] wx (RetT wx true)) := Lib.hid (fun wx h => Same_any (hev.below h) (hew.below h) hsx)
      have HSX : Hid (∀ wx, Below wr.heap.size wr wx → wx.cell? ⟨b, off + k * 4, none⟩ = some v0 ∧ wx.cell? ⟨b, off + k * 4 + 1, none⟩ = some v1 ∧ wx.cell? ⟨b, off + k * 4 + 2, none⟩ = some v2 ∧ wx.cell? ⟨b, off + k * 4 + 3, none⟩ = some v3 ∧ wx.cell? ⟨g, oft + k * 4, none⟩ = some u0 ∧ wx.cell? ⟨g, oft + k * 4 + 1, none⟩ = some u1 ∧ wx.cell? ⟨g, oft + k * 4 + 2, none⟩ = some u2 ∧ wx.cell? ⟨g, oft + k * 4 + 3, none⟩ = some u3) := Lib.hid (fun wx h => ⟨(h.cell hbl).trans c0, (h.cell hbl).trans c1, (h.cell hbl).trans c2, (h.cell hbl).trans c3, (h.cell hgl).trans d0, (h.cell hgl).trans d1, (h.cell hgl).trans d2, (h.cell hgl).trans d3⟩)
      have hB0 : Below wr.heap.size wr wr.drew := (Below.refl _ _).drew
      clear hR hQ hx hy c0 c1 c2 c3 d0 d1 d2 d3 hev hew
      go_upto_region 6 with (fail)
      go_cut [26] from 11 to 26 (fun s26 wx => s26 = .bool false ∧ Below wr.heap.size wr wx)
      case first =>
        go_region_held3 (fun wx => wx.cell? ⟨b, off + k * 4, none⟩ = some v0 ∧ wx.cell? ⟨b, off + k * 4 + 1, none⟩ = some v1 ∧ wx.cell? ⟨b, off + k * 4 + 2, none⟩ = some v2 ∧ wx.cell? ⟨b, off + k * 4 + 3, none⟩ = some v3 ∧ wx.cell? ⟨g, oft + k * 4, none⟩ = some u0 ∧ wx.cell? ⟨g, oft + k * 4 + 1, none⟩ = some u1 ∧ wx.cell? ⟨g, oft + k * 4 + 2, none⟩ = some u2 ∧ wx.cell? ⟨g, oft + k * 4 + 3, none⟩ = some u3) (first | assumption | exact HSX.out _ hB0)
          (first | (go_at_call 32; with_reducible refine (HT.out _ (by assumption)).mono ?_; intro e1 wn hq; obtain ⟨h1, bn⟩ := RetT.outD hq; subst h1; have bn' := belowT' (by assumption : Below wr.heap.size wr _) bn; have hS1 := HSX.out _ bn'))
        all_goals
          go_wp2_with fail
          go_meet
          exact ⟨rfl, by assumption⟩
      case rest =>
        obtain ⟨rfl, hbc⟩ := hcut
        have BC := Lib.hid (belowT' HB.out hbc)
        clear hbc hB0
        go_wp2_with fail
        go_roundw
        case rel => exact ⟨k + 1, by omega, by go_num, BC.out⟩
        case measure => simp [intOf]; omega
    · go_wp2
      go_ret
      exact ⟨rfl, HB.out⟩
end Go.Proofs.Ytcclhkoggijkaaa
namespace Go.Proofs.Ytcclhkoggijkaaa
open Go Go.RowKit

theorem ClG.grown {w w' : World} {p : Nat} {us : Array Value} {ty : TypeId} {row : Option Nat} (h : Cl w p us ty) (hg : w.grownBy w' row) (hne : row ≠ some p) : Cl w' p us ty := by
  obtain ⟨_, _, _, h4, h5⟩ := hg
  exact (h5 p h.lt (fun e => hne e.symm)).trans h
/-- The bytes of an entry of whose key s are left out. -/
def entB (s : Nat) (x : En) : List UInt8 := putU s ++ (putU (x.key.length - s) ++ (putU x.seq ++ ([bt x.kind] ++ (putU x.val.length ++ (x.key.drop s ++ x.val)))))
/-- What stands between two appends: the entry's box, the row so far. -/
def AE (w0 U : World) (g : Nat) (cs : Array Value) (A Ai : Option Addr) (n c : Nat) (xs : List UInt8) (wi : World) : Prop :=
  Cl wi g cs 37 ∧ blk Ai ≠ some g ∧ Own 5 wi w0.heap.size Ai n c xs ∧ Grow U wi A Ai ∧ Below w0.heap.size w0 wi
section
variable {w0 U wi wj : World} {g n c n' c' : Nat} {cs : Array Value} {A Ai Aj : Option Addr} {xs ys : List UInt8}
theorem AE.below (h : AE w0 U g cs A Ai n c xs wi) (hb : Below wi.heap.size wi wj) : AE w0 U g cs A Ai n c xs wj := by
  obtain ⟨h1, h2, h3, h4, h5⟩ := h
  exact ⟨h1.below hb, h2, h3.below hb, h4.trans (Grow.of_below Ai hb), h5.trans (hb.mono h5.size)⟩
theorem AE.app (h : AE w0 U g cs A Ai n c xs wi) (ho : Own 5 wj w0.heap.size Aj n' c' ys) (hg : Grow wi wj Ai Aj) : AE w0 U g cs A Aj n' c' ys wj := by
  obtain ⟨h1, h2, h3, h4, h5⟩ := h
  refine ⟨ClG.grown h1 hg.1 h2, fun e => ?_, ho, h4.trans hg, h5.trans (hg.below h3 h5.size)⟩
  rcases hg.2 with e2 | e2
  · exact h2 (e2.symm.trans e)
  · have := e2 g e
    have := h1.lt
    omega
end
set_option maxRecDepth 100000 in
set_option maxHeartbeats 8000000 in
theorem appendEntry_any {w0 w : World} {x : En} {v0 v1 v2 v3 : Value} (hx : EV w0 x v0 v1 v2 v3) (sx : SzE x) (s : Nat) (hs : s ≤ x.key.length) (A : Option Addr) (n c : Nat) (xs : List UInt8) (ho : Own 5 w w0.heap.size A n c xs) (hb : Below w0.heap.size w0 w) (hn : n ≤ 1099511627776) :
    Calls Try.prog 190 #[.slice A n c, .int .i64 (s : Int), .agg #[v0, v1, v2, v3]] w (RetAp w0.heap.size w A n xs (entB s x)) := by
  obtain ⟨K, kn, kc, V, vn, vc, rfl, rfl, rfl, rfl, r0, r3, c0, c3, d0, d3, s1, s2⟩ := hx.parts
  have l1 := r0.len
  have l2 := r3.len
  have hkn : kn ≤ 1099511627776 := by have := sx.1; omega
  have hvn : vn ≤ 1099511627776 := by have := sx.2; omega
  have hskn : s ≤ kn := by omega
  obtain ⟨U, hU⟩ : ∃ U, U = w.alloc (.cells #[.slice K kn kc, .int .u64 (x.seq : Int), .int .u8 (x.kind : Int), .slice V vn vc] 37) := ⟨_, rfl⟩
  obtain ⟨g, hg⟩ : ∃ g, g = w.heap.size := ⟨_, rfl⟩
  have hsz := hb.size
  have A0 : AE w0 w g #[.slice K kn kc, .int .u64 (x.seq : Int), .int .u8 (x.kind : Int), .slice V vn vc] A A n c xs U := by
    have hbU : Below w.heap.size w U := by rw [hU]; exact (Below.refl _ _).alloc (Nat.le_refl _) _
    refine ⟨by rw [hU, hg]; exact Cl.new _ _ _, fun e => ?_, ho.below hbU, Grow.of_below A hbU, hb.trans (hbU.mono hsz)⟩
    have := (ho.lt g e).2
    omega
  obtain ⟨z, hz⟩ : ∃ z, z = kn - s := ⟨_, rfl⟩
  have r0b : ∀ wi : World, Below w0.heap.size w0 wi → Rd wi (cutA K s kc) z (x.key.drop s) := fun wi hwi => by
    have h := (r0.below hwi).cut hskn (Nat.le_refl kn) c0
    rw [List.take_of_length_le (by omega)] at h
    rw [hz]
    exact h
  have hsl : ∀ W : World, (Instr.slice 25 (.slice K kn kc) (some (.int .i64 (s : Int))) none none).run Try.prog W = .ok (.slice (cutA K s kc) z (kc - s)) W := by
    rw [hz]
    exact cut_l Try.underlying25 elem_bytes size_u8 K hskn
  have hzn : z ≤ 1099511627776 := by omega
  have hsn : s ≤ 1099511627776 := by omega
  have R0 := Lib.hid r0b
  have R3 := Lib.hid r3
  have HL2 := Lib.hid l2
  have hc := A0.1.c4
  rw [hg] at hc
  have hseq : x.seq < 18446744073709551616 := s1
  have hEB : entB s x = putU s ++ (putU z ++ (putU x.seq ++ ([bt x.kind] ++ (putU vn ++ (x.key.drop s ++ x.val))))) := by
    unfold entB
    rw [hz, l1, l2]
  have HE := Lib.hid hEB
  have hdl : (x.key.drop s).length = z := by rw [List.length_drop]; omega
  have HDL := Lib.hid hdl
  have p1 := putU_len64 s (show s < B64 by unfold B64; omega)
  have p2 := putU_len64 z (show z < B64 by unfold B64; omega)
  have p3 := putU_len64 x.seq (show x.seq < B64 from hseq)
  have p5 := putU_len64 vn (show vn < B64 by unfold B64; omega)
  have HA := Lib.hid A0
  clear hx r0 r3 l1 l2 A0 ho r0b hz hEB hdl hs sx hskn
  go_enter Try.func190, Try.ntmps190
  go_wp2_with fail
  rw [← hU]
  refine (PutU_any s _ (by unfold B64; omega)).mono ?_
  rintro e wa1 ⟨P1, m1, d1, rfl, oP1, bP1⟩
  obtain rfl : (putU s).length = m1 := oP1.len
  have HB1 := Lib.hid (HA.out.below bP1)
  have rP1 := oP1.rd
  clear oP1 bP1 HA hc
  go_wp2_with (at_builtin; refine wpList_appX _ rfl _ _ 25 rfl w0.heap.size 5 Try.underlying25 info_u8 A _ _ _ rfl HB1.out.2.2.1 P1 (putU s).length d1 (putU s) rfl rP1 ?_ ?_ ?_)
  · omega
  · exact HB1.out.2.2.2.2.size
  intro A1 c1 w1 o1 g1
  have HA1 := Lib.hid (HB1.out.app o1 g1)
  have hc := HA1.out.1.c4
  rw [hg] at hc
  clear o1 g1 HB1 rP1
  go_wp2_with fail
  refine (PutU_any z _ (by unfold B64; omega)).mono ?_
  rintro e wa2 ⟨P2, m2, d2, rfl, oP2, bP2⟩
  obtain rfl : (putU z).length = m2 := oP2.len
  have HB2 := Lib.hid (HA1.out.below bP2)
  have rP2 := oP2.rd
  clear oP2 bP2 HA1 hc
  go_wp2_with (at_builtin; refine wpList_appX _ rfl _ _ 25 rfl w0.heap.size 5 Try.underlying25 info_u8 A1 _ _ _ rfl HB2.out.2.2.1 P2 (putU z).length d2 (putU z) rfl rP2 ?_ ?_ ?_)
  · omega
  · exact HB2.out.2.2.2.2.size
  intro A2 c2 w2 o2 g2
  have HA2 := Lib.hid (HB2.out.app o2 g2)
  have hc := HA2.out.1.c4
  rw [hg] at hc
  clear o2 g2 HB2 rP2
  go_wp2_with fail
  refine (PutU_any x.seq _ (by unfold B64; omega)).mono ?_
  rintro e wa3 ⟨P3, m3, d3, rfl, oP3, bP3⟩
  obtain rfl : (putU x.seq).length = m3 := oP3.len
  have HB3 := Lib.hid (HA2.out.below bP3)
  have rP3 := oP3.rd
  clear oP3 bP3 HA2 hc
  go_wp2_with (at_builtin; refine wpList_appX _ rfl _ _ 25 rfl w0.heap.size 5 Try.underlying25 info_u8 A2 _ _ _ rfl HB3.out.2.2.1 P3 (putU x.seq).length d3 (putU x.seq) rfl rP3 ?_ ?_ ?_)
  · omega
  · exact HB3.out.2.2.2.2.size
  intro A3 c3 w3 o3 g3
  have HA3 := Lib.hid (HB3.out.app o3 g3)
  have hc := HA3.out.1.c4
  rw [hg] at hc
  clear o3 g3 HB3 rP3
  go_wp2_with (at_builtin; refine wpList_appX _ rfl _ _ 25 rfl w0.heap.size 5 Try.underlying25 info_u8 A3 _ _ _ rfl (HA3.out.2.2.1.alloc _) _ 1 1 [bt x.kind] rfl (Rd.one _ _ _ _ ?_) ?_ ?_ ?_)
  · rw [bt_nat _ (by omega)]
  · omega
  · have := HA3.out.2.2.2.2.size; simp; omega
  intro A4 c4 w4 o4 g4
  have HA4 := Lib.hid ((HA3.out.below ((Below.refl _ _).alloc (Nat.le_refl _) _)).app o4 g4)
  have hc := HA4.out.1.c4
  rw [hg] at hc
  clear o4 g4 HA3
  go_wp2_with fail
  refine (PutU_any vn _ (by unfold B64; omega)).mono ?_
  rintro e wa5 ⟨P5, m5, d5, rfl, oP5, bP5⟩
  obtain rfl : (putU vn).length = m5 := oP5.len
  have HB5 := Lib.hid (HA4.out.below bP5)
  have rP5 := oP5.rd
  clear oP5 bP5 HA4 hc
  go_wp2_with (at_builtin; refine wpList_appX _ rfl _ _ 25 rfl w0.heap.size 5 Try.underlying25 info_u8 A4 _ _ _ rfl HB5.out.2.2.1 P5 (putU vn).length d5 (putU vn) rfl rP5 ?_ ?_ ?_)
  · omega
  · exact HB5.out.2.2.2.2.size
  intro A5 c5 w5 o5 g5
  have HA5 := Lib.hid (HB5.out.app o5 g5)
  have hc := HA5.out.1.c4
  rw [hg] at hc
  clear o5 g5 HB5 rP5
  have rd6 := R0.out _ HA5.out.2.2.2.2
  go_wp2_with (at_builtin; refine wpList_appX _ rfl _ _ 25 rfl w0.heap.size 5 Try.underlying25 info_u8 A5 _ _ _ rfl HA5.out.2.2.1 (cutA K s kc) z (kc - s) (x.key.drop s) rfl rd6 ?_ ?_ ?_)
  · omega
  · exact HA5.out.2.2.2.2.size
  intro A6 c6 w6 o6 g6
  have HA6 := Lib.hid (HA5.out.app o6 g6)
  have hc := HA6.out.1.c4
  rw [hg] at hc
  have rd7 := R3.out.below HA6.out.2.2.2.2
  clear o6 g6 HA5 rd6
  go_wp2_with (at_builtin; refine wpList_appX _ rfl _ _ 25 rfl w0.heap.size 5 Try.underlying25 info_u8 A6 _ _ _ rfl HA6.out.2.2.1 V vn vc x.val rfl rd7 ?_ ?_ ?_)
  · omega
  · exact HA6.out.2.2.2.2.size
  intro A7 c7 w7 o7 g7
  have HA7 := Lib.hid (HA6.out.app o7 g7)
  clear o7 g7 HA6 rd7 hc
  go_wp2_with fail
  go_ret
  obtain ⟨_, _, o, gr, _⟩ := HA7.out
  have hl : (entB s x).length = (putU s).length + (putU z).length + (putU x.seq).length + 1 + (putU vn).length + z + vn := by
    rw [HE.out]
    simp only [List.length_append, List.length_cons, List.length_nil, HDL.out, HL2.out]
    omega
  have hn : n + (entB s x).length = (((((n + (putU s).length) + (putU z).length) + (putU x.seq).length) + 1) + (putU vn).length) + z + vn := by omega
  have hxs : xs ++ entB s x = (((((xs ++ putU s) ++ putU z) ++ putU x.seq) ++ [bt x.kind]) ++ putU vn) ++ x.key.drop s ++ x.val := by
    rw [HE.out]
    simp only [List.append_assoc]
  unfold RetAp
  rw [hn, hxs]
  simp only [List.append_assoc] at o ⊢
  exact ⟨A7, c7, rfl, o, gr⟩
end Go.Proofs.Ytcclhkoggijkaaa
namespace Go.Proofs.Ytcclhkoggijkaaa
open Go Go.RowKit

set_option maxRecDepth 100000 in
set_option maxHeartbeats 2000000 in
theorem growNil_any (n : Nat) (w : World) (hn : n ≤ 1099511627776) : Calls Try.prog 222 #[.slice none 0 0, .int .i64 (n : Int)] w fun e w' => ∃ A c, e = .returned (.slice A 0 c) ∧ Own 5 w' w.heap.size A 0 c [] ∧ Below w.heap.size w w' := by
  obtain ⟨i0, hi0, z1, z2, z3⟩ := info_parts info_u8
  by_cases h0 : n = 0
  · subst h0
    go_enter Try.func222, Try.ntmps222
    go_wp2_with fail
    go_ret
    exact ⟨none, 0, rfl, Own.nil _ _ _, Below.refl _ _⟩
  · have hpos : 0 < n := by omega
    have hpi : ¬ ((n : Int) ≤ 0) := by omega
    have hpi2 : (0 : Int) < (n : Int) := by omega
    have hap := Lib.run_append_nil_zeros (P := Try.prog) w 25 3 25 5 i0 (.int .u8 0) .i64 .i64 Try.underlying25 Try.underlying3 hi0 z1 n hpos (by rw [z2]; omega) (by omega) (by rw [z3]; omega)
    have hcap := grownCap_ge w n 0 5
    have hcm := grownCap_le_maxLen w n 0 5 (by unfold maxLen; omega)
    obtain ⟨cap, hcp⟩ : ∃ cap, cap = grownCap w n 0 5 := ⟨_, rfl⟩
    rw [← hcp] at hap hcap hcm
    obtain ⟨cells, hce⟩ : ∃ cells, cells = Builtin.zeroCells (Value.int .u8 0).cells n ++ Builtin.zeroCells (Value.int .u8 0).cells (cap - n) := ⟨_, rfl⟩
    rw [← hce] at hap
    have hcs : cells.size = cap := by
      rw [hce]
      simp [Builtin.zeroCells, Value.cells]
      omega
    have HAP := Lib.hid hap
    have HCS := Lib.hid hcs
    have hsl : ∀ w, (Instr.slice 25 (.slice (some ⟨w.heap.size, 0, none⟩) n cap) none (some (.int .i64 0)) none).run Try.prog w = .ok (.slice (some ⟨w.heap.size, 0, none⟩) 0 cap) w := fun w =>
      cut_h (m := 0) Try.underlying25 elem_bytes size_u8 (some ⟨w.heap.size, 0, none⟩) (by omega) w
    clear hap hcs hce hcp
    go_enter Try.func222, Try.ntmps222
    go_wp2_with (at_builtin; refine Lib.wpList_append_run _ rfl _ _ _ _ rfl _ _ rfl rfl _ _ HAP.out ?_)
    go_wp2_with fail
    go_ret
    refine ⟨_, cap, rfl, ⟨rfl, .inr ⟨w.heap.size, cap, cells, rfl, Nat.le_refl _, ?_, Nat.zero_le _, hcm, by rw [HCS.out, Nat.mul_one], by simp⟩⟩, ?_⟩
    · have := heap_alloc_new w.drew (.cells cells 5)
      exact this
    · exact (Below.refl _ _).drew.alloc (Nat.le_refl _) _
set_option maxRecDepth 100000 in
set_option maxHeartbeats 4000000 in
theorem Concat_any (A : Option Addr) (n c : Nat) (xss : List (List UInt8)) (w : World) (hx : RdL w A n xss) (ht : tot xss ≤ 268435456) :
    Calls Try.prog 217 #[.slice A n c] w (Made w.heap.size w xss.flatten) := by
  have HXL := Lib.hid hx.len
  have hnl := tot_len xss
  have hnn : n ≤ 268435456 := by have := hx.len; omega
  have hfl := flat_len xss
  have HT := Lib.hid ht
  have HX := Lib.hid hx
  have HFT : Hid (∀ k, (xss.take k).flatten.length ≤ 268435456) := Lib.hid (fun k => by have := flat_take_le xss k; omega)
  clear ht hx hnl hfl
  go_enter Try.func217, Try.ntmps217
  go_wp2_with fail
  go_loopw [3, 11] (fun s3 s11 wr => ∃ (k z : Nat), k ≤ n ∧ s11 = .int .i64 (k : Int) ∧ z = (xss.take k).flatten.length ∧ s3 = .int .i64 (z : Int) ∧ wr = w) (fun _ s _ => n - (intOf s).toNat)
  case atStart => exact ⟨0, 0, Nat.zero_le _, rfl, rfl, rfl, rfl⟩
  case round =>
    obtain ⟨k, z, hk, rfl, hz, rfl, rfl⟩ := hrel
    have hz2 : z ≤ 268435456 := by rw [hz]; exact HFT.out k
    have HZ := Lib.hid hz
    clear hz
    by_cases hlt : k < n
    · obtain ⟨b, off, hA, hbl, hel⟩ := HX.out.2 (by omega)
      subst hA
      obtain ⟨xs, hxs⟩ : ∃ xs, xss[k]? = some xs := ⟨_, List.getElem?_eq_getElem (by have := HXL.out; omega)⟩
      obtain ⟨v, hv, K, kn, kc, rfl, hrK, _⟩ := hel k xs hxs
      obtain ⟨z2, hz2'⟩ : ∃ z2, z2 = z + kn := ⟨_, rfl⟩
      have hzz : z2 = (xss.take (k + 1)).flatten.length := by rw [flat_snoc hxs, List.length_append, ← HZ.out, hrK.len, hz2']
      have hz3 : z2 ≤ 268435456 := by rw [hzz]; exact HFT.out (k + 1)
      have e1 : IntKind.i64.wrap ((z : Int) + (kn : Int)) = (z2 : Int) := by rw [IntWalk.i64_in _ (by omega)]; omega
      have hkn : kn ≤ 268435456 := by omega
      have HZZ := Lib.hid hzz
      have HZ2 := Lib.hid hz2'
      clear hel hxs hrK hzz hz2'
      go_wp2_with fail
      go_roundw
      case rel => exact ⟨k + 1, z2, by omega, by go_num, HZZ.out, by first | rfl | go_num | (rw [e1]), by first | trivial | rfl⟩
      case measure => simp [intOf]; omega
    · obtain rfl : k = n := by omega
      obtain ⟨w0, rfl⟩ : ∃ w0, w0 = wr := ⟨_, rfl⟩
      have HG := Lib.hid (growNil_any z w0 (by omega))
      go_wp2_with fail
      with_reducible refine HG.out.mono ?_
      rintro e w1 ⟨G, gc, rfl, oG, bG⟩
      have HOG := Lib.hid (And.intro oG bG)
      clear oG bG HG
      go_wp2_with fail
      go_loopw [6, 27] (fun s6 s27 wx => ∃ (j m d : Nat) (L : Option Addr), j ≤ k ∧ s27 = .int .i64 (j : Int) ∧ s6 = .slice L m d ∧ Own 5 wx w0.heap.size L m d (xss.take j).flatten ∧ Below w0.heap.size w0 wx) (fun _ s _ => k - (intOf s).toNat)
      case atStart => exact ⟨0, 0, gc, G, Nat.zero_le _, rfl, rfl, HOG.out.1, HOG.out.2⟩
      case round =>
        obtain ⟨j, m, d, L, hj, rfl, rfl, oL, bL⟩ := hrel
        have hml := oL.len
        have hm2 : m ≤ 268435456 := by have := HFT.out j; omega
        have hsz := bL.size
        by_cases hjk : j < k
        · obtain ⟨b, off, hA, hbl, hel⟩ := HX.out.2 (by omega)
          subst hA
          obtain ⟨xs, hxs⟩ : ∃ xs, xss[j]? = some xs := ⟨_, List.getElem?_eq_getElem (by have := HXL.out; omega)⟩
          obtain ⟨v, hv, K, kn, kc, rfl, hrK, _⟩ := hel j xs hxs
          have hv2 : wr.cell? ⟨b, off + j, none⟩ = some (.slice K kn kc) := (bL.cell (p := ⟨b, off + j, none⟩) hbl).trans hv
          have hrK2 := hrK.below bL
          have hkn : kn ≤ 268435456 := by
            have h1 := HFT.out (j + 1)
            rw [flat_snoc hxs, List.length_append, hrK.len] at h1
            omega
          have HFS := Lib.hid (flat_snoc hxs)
          have BL := Lib.hid bL
          clear hel hxs hrK hv bL hml
          go_wp2_with (at_builtin; refine wpList_app _ rfl _ _ 25 rfl w0.heap.size 5 Try.underlying25 info_u8 L m d _ rfl oL K kn kc xs rfl hrK2 ?_ ?_ ?_)
          · omega
          · exact hsz
          intro L2 d2 w3 o3 b3
          have H3 := Lib.hid (And.intro o3 (BL.out.trans b3))
          clear oL o3 b3 hrK2
          go_wp2_with fail
          go_roundw
          case rel => exact ⟨j + 1, m + kn, d2, L2, by omega, by go_num, rfl, by rw [HFS.out]; exact H3.out.1, H3.out.2⟩
          case measure => simp [intOf]; omega
        · obtain rfl : j = k := by omega
          rw [List.take_of_length_le (by have := HXL.out; omega)] at oL
          have HF := Lib.hid (And.intro oL bL)
          clear oL bL hml
          go_wp2_with fail
          go_ret
          exact ⟨L, m, d, rfl, HF.out.1, HF.out.2⟩
end Go.Proofs.Ytcclhkoggijkaaa
namespace Go.Proofs.Ytcclhkoggijkaaa
open Go Go.RowKit

/-- The first i bytes of both, bit by bit; the others of the first. -/
def orB (fs gs : List UInt8) : Nat → List UInt8
  | 0 => fs
  | i + 1 => (orB fs gs i).set i (UInt8.ofNat ((fs[i]?.getD 0).toNat ||| (gs[i]?.getD 0).toNat))
theorem orB_len (fs gs : List UInt8) : ∀ i, (orB fs gs i).length = fs.length
  | 0 => rfl
  | i + 1 => by rw [orB, List.length_set, orB_len fs gs i]
theorem orB_off (fs gs : List UInt8) : ∀ i j, i ≤ j → (orB fs gs i)[j]? = fs[j]?
  | 0, _, _ => rfl
  | i + 1, j, h => by rw [orB, List.getElem?_set_ne (by omega), orB_off fs gs i j (by omega)]
theorem orB_at (fs gs : List UInt8) : ∀ i j, j < i → j < fs.length → (orB fs gs i)[j]? = some (UInt8.ofNat ((fs[j]?.getD 0).toNat ||| (gs[j]?.getD 0).toNat))
  | 0, j, h, _ => absurd h (by omega)
  | i + 1, j, h, hl => by
    by_cases e : j = i
    · subst e
      rw [orB, List.getElem?_set_self (by rw [orB_len]; exact hl)]
    · rw [orB, List.getElem?_set_ne (by omega), orB_at fs gs i j (by omega) hl]
/-- A filter of its own, or none. -/
def RetUn (w : World) (u : List UInt8) (e : Ending) (w' : World) : Prop := ∃ A c, e = .returned (.tuple #[.slice A u.length c, .int .i64 0]) ∧ Own 5 w' w.heap.size A u.length c u ∧ Below w.heap.size w w'
def RetUx (w : World) (z : Int) (e : Ending) (w' : World) : Prop := e = .returned (.tuple #[.slice none 0 0, .int .i64 z]) ∧ Below w.heap.size w w'
theorem goodB_two {fs : List UInt8} (h : goodB fs = true) : 2 ≤ fs.length := by
  rcases Nat.lt_or_ge fs.length 2 with h2 | h2
  · rw [goodB_short h2] at h; cases h
  · exact h2
theorem setB_eq {fs : List UInt8} {b : Nat} : setB fs b = ((fs[b / 8]?.getD 0).toNat.testBit (b % 8)) := by
  unfold setB
  cases h : fs[b / 8]? with
  | none => simp
  | some x => simp [Nat.testBit_eq_decide_div_mod_eq]
theorem setB_or {fs gs : List UInt8} {k b : Nat} (hk : b / 8 < k) (hl : k ≤ fs.length) : setB (orB fs gs k) b = (setB fs b || setB gs b) := by
  rw [setB_eq, setB_eq, setB_eq, orB_at fs gs k _ hk (by omega)]
  have h1 : (fs[b / 8]?.getD 0).toNat < 256 := UInt8.toNat_lt _
  have h2 : (gs[b / 8]?.getD 0).toNat < 256 := UInt8.toNat_lt _
  generalize (fs[b / 8]?.getD 0).toNat = x at h1 ⊢
  generalize (gs[b / 8]?.getD 0).toNat = y at h2 ⊢
  have hor : x ||| y < 256 := Nat.or_lt_two_pow (n := 8) h1 h2
  have : (UInt8.ofNat (x ||| y)).toNat = x ||| y := by
    generalize x ||| y = q at hor ⊢
    simp
    omega
  rw [Option.getD_some, this, Nat.testBit_or]
theorem goodB_or {fs gs : List UInt8} (h : goodB fs = true) : goodB (orB fs gs (fs.length - 1)) = true ∧ numB (orB fs gs (fs.length - 1)) = numB fs := by
  have h2 := goodB_two h
  have hl := orB_len fs gs (fs.length - 1)
  have e : (orB fs gs (fs.length - 1))[fs.length - 1]? = fs[fs.length - 1]? := orB_off _ _ _ _ (Nat.le_refl _)
  have e2 : (orB fs gs (fs.length - 1)).getLast? = fs.getLast? := by rw [List.getLast?_eq_getElem?, List.getLast?_eq_getElem?, hl, e]
  refine ⟨?_, ?_⟩
  · unfold goodB at h ⊢
    rw [e2, hl]
    exact h
  · unfold numB
    rw [e2]
theorem may_or {fs gs key : List UInt8} (h1 : goodB fs = true) (h2 : goodB gs = true) (hl : fs.length = gs.length) (he : fs[fs.length - 1]? = gs[fs.length - 1]?) :
    ((mayB (orB fs gs (fs.length - 1)) key).1 || (!(mayB fs key).1 && !(mayB gs key).1)) = true := by
  obtain ⟨g1, g2⟩ := goodB_or (gs := gs) h1
  have hn : numB gs = numB fs := by
    unfold numB
    rw [List.getLast?_eq_getElem?, List.getLast?_eq_getElem?, ← hl, he]
  have h3 := goodB_two h1
  unfold mayB
  rw [g1, h1, h2, orB_len]
  simp only [if_true]
  have key1 : ∀ gg : List UInt8, (∀ b, b / 8 < fs.length - 1 → setB gg b = true → setB (orB fs gs (fs.length - 1)) b = true) → numB gg = numB fs → allBt gg key (8 * (fs.length - 1)) = true → allBt (orB fs gs (fs.length - 1)) key (8 * (fs.length - 1)) = true := by
    intro gg hb hng ha
    unfold allBt at ha ⊢
    rw [List.all_eq_true] at ha ⊢
    rw [hng] at ha
    rw [g2]
    intro i hi
    exact hb _ (by have := bitN_lt key (m := 8 * (fs.length - 1)) (by omega) i; omega) (ha i hi)
  have k1 := key1 fs (fun b hb h => by rw [setB_or hb (by omega), h]; rfl) rfl
  have k2 := key1 gs (fun b hb h => by rw [setB_or hb (by omega), h, Bool.or_true]) hn
  rw [← hl]
  cases ha : allBt fs key (8 * (fs.length - 1)) with
  | true => rw [k1 ha]; rfl
  | false =>
    cases hb : allBt gs key (8 * (fs.length - 1)) with
    | true => rw [k2 hb]; rfl
    | false => simp
end Go.Proofs.Ytcclhkoggijkaaa
namespace Go.Proofs.Ytcclhkoggijkaaa
open Go Go.RowKit

theorem cutA_none {A : Option Addr} {k c : Nat} (hnil : A = none → c = 0) (hk : k ≤ c) : cutA A k c = none → c - k = 0 := fun h => by
  unfold cutA at h
  split at h
  · have := hnil h; omega
  · cases A with
    | none => have := hnil rfl; omega
    | some a => cases h

set_option maxRecDepth 100000 in
set_option maxHeartbeats 2000000 in
theorem Open_any (A : Option Addr) (n c : Nat) (z : Int) (xs : List UInt8) (w : World) (hx : Rd w A n xs) (hn : n ≤ 1099511627776) (hcap : n ≤ c) (hnil : A = none → c = 0) (hz : I64 z) :
    Calls Try.prog 124 #[.slice A n c, .int .i64 z] w (RetO w.heap.size w (openG xs z)) := by
  have HL := Lib.hid hx.len
  by_cases hneg : z < 0
  · have G := Lib.hid (openG_arg (xs := xs) (.inl hneg))
    go_enter Try.func124, Try.ntmps124
    have h1 : decide (z < 0) = true := by simpa using hneg
    go_wp2
    go_ret3
    exact RetO_none G.out (Below.refl _ _)
  · have h1 : decide (z < 0) = false := by simpa using hneg
    by_cases hbig : (n : Int) < z
    · have G := Lib.hid (openG_arg (xs := xs) (.inr (by rw [HL.out]; exact hbig)))
      have h2 : decide ((n : Int) < z) = true := by simpa using hbig
      go_enter Try.func124, Try.ntmps124
      go_wp2
      go_ret3
      exact RetO_none G.out (Below.refl _ _)
    · obtain ⟨a, rfl⟩ : ∃ a : Nat, z = a := ⟨z.toNat, by omega⟩
      have han : a ≤ n := by omega
      have h2 : decide (n < a) = false := by simp; omega
      clear hbig hneg h1 hz
      have hsl : ∀ w, (Instr.slice 25 (.slice A n c) (some (.int .i64 (a : Int))) none none).run Try.prog w = .ok (.slice (cutA A a c) (n - a) (c - a)) w :=
        cut_l Try.underlying25 elem_bytes size_u8 A han
      have hr : Rd w (cutA A a c) (n - a) (xs.drop a) := by
        have h := hx.cut (k := a) (m := n) han (Nat.le_refl _) hcap
        rw [List.take_of_length_le (by rw [HL.out]; omega)] at h
        exact h
      have hRnil := cutA_none hnil (show a ≤ c by omega)
      obtain ⟨R, hR⟩ : ∃ R, R = cutA A a c := ⟨_, rfl⟩
      obtain ⟨N, hN⟩ : ∃ N, N = n - a := ⟨_, rfl⟩
      obtain ⟨K, hK⟩ : ∃ K, K = c - a := ⟨_, rfl⟩
      obtain ⟨rs, hrs⟩ : ∃ rs, rs = xs.drop a := ⟨_, rfl⟩
      rw [← hR, ← hN, ← hK] at hsl
      rw [← hR, ← hK] at hRnil
      rw [← hR, ← hN, ← hrs] at hr
      have hNK : N ≤ K := by omega
      have hNa : n = a + N := by omega
      have HRN := Lib.hid hRnil
      have HRS := Lib.hid hrs
      have HNA := Lib.hid hNa
      have hN40 : N ≤ 1099511627776 := by omega
      have ha40 : a ≤ 1099511627776 := by omega
      clear hnil hRnil hR hN hK hrs hNa hcap
      by_cases h8 : N < 8
      · have G := Lib.hid (openG_end (xs := xs) HL.out han (by have := HNA.out; omega))
        have h3 : decide (N < 8) = true := by simpa using h8
        go_enter Try.func124, Try.ntmps124
        go_wp2
        go_ret3
        exact RetO_none G.out (Below.refl _ _)
      · have h3 : decide (N < 8) = false := by simpa using h8
        have hs4 : ∀ w, (Instr.slice 25 (.slice R N K) (some (.int .i64 4)) none none).run Try.prog w = .ok (.slice (cutA R 4 K) (N - 4) (K - 4)) w :=
          cut_l Try.underlying25 elem_bytes size_u8 R (k := 4) (by omega)
        have hr4 : Rd w (cutA R 4 K) (N - 4) (rs.drop 4) := by
          have h := hr.cut (k := 4) (m := N) (by omega) (Nat.le_refl _) hNK
          rw [List.take_of_length_le (by rw [hr.len]; omega)] at h
          exact h
        have HG1 : Hid (∀ w', Rd w' R N rs → Calls Try.prog 161 #[.slice R N K] w' fun e w'' => e = .returned (.int .u32 (numK rs 4 : Int)) ∧ ∃ q, w'' = w'.drewN q) := Lib.hid (fun w' h => (getWord_any R N K rs w' h (by omega) hN40 hNK).mono fun _ _ h => h)
        have HG2 : Hid (∀ w', Rd w' (cutA R 4 K) (N - 4) (rs.drop 4) → Calls Try.prog 161 #[.slice (cutA R 4 K) (N - 4) (K - 4)] w' fun e w'' => e = .returned (.int .u32 (numK (rs.drop 4) 4 : Int)) ∧ ∃ q, w'' = w'.drewN q) := Lib.hid (fun w' h => (getWord_any _ _ _ _ w' h (by omega) (by omega) (by omega)).mono fun _ _ h => h)
        obtain ⟨R4, hR4⟩ : ∃ R4, R4 = cutA R 4 K := ⟨_, rfl⟩
        obtain ⟨N4, hN4⟩ : ∃ N4, N4 = N - 4 := ⟨_, rfl⟩
        obtain ⟨K4, hK4⟩ : ∃ K4, K4 = K - 4 := ⟨_, rfl⟩
        rw [← hR4, ← hN4, ← hK4] at hs4 HG2
        rw [← hR4, ← hN4] at hr4
        clear hR4 hN4 hK4
        obtain ⟨m, hm⟩ : ∃ m, m = numK rs 4 := ⟨_, rfl⟩
        obtain ⟨sm, hsm⟩ : ∃ sm, sm = numK (rs.drop 4) 4 := ⟨_, rfl⟩
        have hm32 : m < 4294967296 := by rw [hm]; exact numK_lt rs 4
        have hsm32 : sm < 4294967296 := by rw [hsm]; exact numK_lt _ 4
        rw [← hm] at HG1
        rw [← hsm] at HG2
        have Hm := Lib.hid hm
        have Hsm := Lib.hid hsm
        have HM : Hid (m = numK (xs.drop a) 4) := Lib.hid (by rw [hm, HRS.out])
        clear hm hsm
        go_enter Try.func124, Try.ntmps124
        go_wp2
        go_quiet ((first | (go_at_call 161; with_reducible exact Calls.quiet_of (HG1.out _ (hr.drewN _))) | (go_at_call 161; with_reducible exact Calls.quiet_of (HG2.out _ (hr4.drewN _)))))
        obtain ⟨W, hW⟩ : ∃ W, W = w.drewN nq := ⟨_, rfl⟩
        have hrW : Rd W R N rs := by rw [hW]; exact hr.drewN _
        have hb0 : Below w.heap.size w W := by rw [hW]; exact below_drewN (Below.refl _ _) _
        rw [← hW]
        clear hW HG1 HG2 hs4 hr4 hsl hr h2
        have hi0 : IntKind.i64.wrap (m : Int) = (m : Int) := IntWalk.i64_in _ (by omega)
        by_cases hsz : 1048576 < m
        · have G := Lib.hid (openG_size (xs := xs) HL.out (by have := HNA.out; omega) HM.out hsz)
          have h4 : decide (1048576 < m) = true := by simpa using hsz
          go_wp2
          go_ret3
          exact RetO_none G.out hb0
        · have h4 : decide (1048576 < m) = false := by simpa using hsz
          by_cases hcut : N < 8 + m
          · have G := Lib.hid (openG_cut (xs := xs) HL.out (by have := HNA.out; omega) HM.out hsz (by have := HNA.out; omega))
            have h5 : decide ((N : Int) < 8 + (m : Int)) = true := by simp; omega
            go_wp2
            go_ret3
            exact RetO_none G.out hb0
          · have h5 : decide ((N : Int) < 8 + (m : Int)) = false := by simp; omega
            have hsi : ∀ w, (Instr.slice 25 (.slice R N K) (some (.int .i64 8)) (some (.int .i64 (8 + (m : Int)))) none).run Try.prog w = .ok (.slice (cutA R 8 K) m (K - 8)) w := fun w => by
              have h := cut_lh Try.underlying25 elem_bytes size_u8 R (n := N) (cap := K) (k := 8) (m := 8 + m) (by omega) (by omega) w
              rw [Nat.add_sub_cancel_left] at h
              exact h
            have hsh : ∀ w, (Instr.slice 25 (.slice R N K) none (some (.int .i64 4)) none).run Try.prog w = .ok (.slice R 4 K) w :=
              cut_h Try.underlying25 elem_bytes size_u8 R (m := 4) (by omega)
            have hri : Rd W (cutA R 8 K) m ((rs.take (8 + m)).drop 8) := by
              have h := hrW.cut (k := 8) (m := 8 + m) (by omega) (by omega) hNK
              rw [Nat.add_sub_cancel_left] at h
              exact h
            have hrh : Rd W R 4 (rs.take 4) := by
              have h := hrW.cut (k := 0) (m := 4) (by omega) (by omega) hNK
              rw [List.drop_zero] at h
              have e : cutA R 0 K = R := by
                unfold cutA
                rw [if_neg (by omega)]
                cases R <;> simp [Addr.add]
              rw [e] at h
              exact h
            have hin : cutA R 8 K = none → K - 8 = 0 := cutA_none HRN.out (by omega)
            have hR0 : R = none → K = 0 := HRN.out
            obtain ⟨I, hI⟩ : ∃ I, I = cutA R 8 K := ⟨_, rfl⟩
            obtain ⟨KI, hKI⟩ : ∃ KI, KI = K - 8 := ⟨_, rfl⟩
            have hmKI : m ≤ KI := by omega
            obtain ⟨bd, hbd⟩ : ∃ bd, bd = (rs.take (8 + m)).drop 8 := ⟨_, rfl⟩
            rw [← hI, ← hKI] at hsi hin
            rw [← hI, ← hbd] at hri
            have hbl := hri.len
            have hhl := hrh.len
            have hrl := hrW.len
            have hwe := whole_eq Hm.out (by rw [hrl]; omega)
            have e1 : (xs.take (a + 8 + m)).drop (a + 8) = bd := by
              rw [hbd, HRS.out, List.drop_take, List.drop_take, List.drop_drop, show a + 8 + m - (a + 8) = m by omega, show 8 + m - 8 = m by omega]
            have e2 : (xs.take (a + 8 + m)).drop a = rs.take (8 + m) := by
              rw [HRS.out, List.drop_take, show a + 8 + m - a = 8 + m by omega]
            have G := Lib.hid (openG_whole (xs := xs) HL.out HM.out hsz (by have := HNA.out; omega))
            rw [e1, e2] at G
            rw [← hbd, ← Hsm.out] at hwe
            have hap : a + (8 + m) = a + 8 + m := by omega
            have HAP := Lib.hid hap
            obtain ⟨zc, hzc⟩ : ∃ zc, zc = crcB (rs.take 4 ++ bd) := ⟨_, rfl⟩
            have hfl : [rs.take 4, bd].flatten = rs.take 4 ++ bd := by simp
            have HZC : Hid (crcB [rs.take 4, bd].flatten = zc) := Lib.hid (by rw [hfl, hzc])
            rw [← hzc] at hwe
            have hRa : R ≠ none := fun e => by have := hR0 e; omega
            have hts : tot [rs.take 4, bd] ≤ 1099511627776 := by simp only [tot, hhl, hbl]; omega
            have hL2 : RdL (W.alloc (.cells #[.slice R 4 K, .slice I m KI] 25)) (some ⟨W.heap.size, 0, none⟩) 2 [rs.take 4, bd] :=
              rdl_two ⟨R, 4, K, rfl, hrh, by omega, fun e => absurd e hRa⟩ ⟨I, m, KI, rfl, hri, hmKI, hin⟩ _ rfl
            have HIN := Lib.hid hin
            have HL2 := Lib.hid hL2
            clear hI hKI hbd hzc hfl e1 e2 hrW hrh hRa hap hL2 hin
            go_wp2_with fail
            have HS := Sum_any (some ⟨W.heap.size, 0, none⟩) 2 2 [rs.take 4, bd] _ HL2.out hts
            rw [HZC.out] at HS
            refine HS.mono ?_
            clear HS
            rintro e w1 ⟨rfl, hb1⟩
            have hb1 : Below W.heap.size W w1 := ((Below.refl _ _).alloc (Nat.le_refl _) _).trans (hb1.mono (by simp))
            have hr1 := hri.below hb1
            have hbw1 := hb0.trans (hb1.mono hb0.size)
            by_cases hsum : zc = sm
            · have F := Lib.hid (G.out.trans (if_pos (hwe.2 hsum)))
              have hne : ((zc : Int) != (sm : Int)) = false := by rw [hsum]; simp
              go_wp2_with fail
              refine (Clone_any I m KI bd _ hr1 (by omega) HIN.out).mono ?_
              rintro e w2 ⟨B, bn, bc, rfl, oB, hb2⟩
              go_wp2
              go_ret3
              have hbn : bn = m := by rw [← oB.len, hbl]
              subst hbn
              refine ⟨B, bn, bc, by rw [F.out, ← HAP.out]; rfl, ?_, hbw1.trans (hb2.mono hbw1.size)⟩
              rw [F.out]
              exact oB.mono hbw1.size
            · have F := Lib.hid (G.out.trans (if_neg (fun h => hsum (hwe.1 h))))
              have hne : ((zc : Int) != (sm : Int)) = true := by simp; omega
              go_wp2
              go_ret3
              exact RetO_none F.out hbw1
end Go.Proofs.Ytcclhkoggijkaaa
namespace Go.Proofs.Ytcclhkoggijkaaa
open Go Go.RowKit Go.Maps

abbrev FE := List UInt8 × List UInt8 × Nat
def usedF (fs : List FE) : Nat := (fs.map fun f => f.2.1.length).sum
def risingF (fs : List FE) : Prop := fs.Pairwise fun a b => a.1 < b.1
/-- The disk as plain data: files by rising names, room, armed with (-1: not), dead. -/
structure DS where
  fs : List FE
  room : Nat
  arm : Int
  dead : Bool

def Sp (a b : FR) : Prop := ∀ x ∈ a.bl, x ∉ b.bl
theorem Sp.symm {a b : FR} (h : Sp a b) : Sp b a := fun x h1 h2 => h x h2 h1
/-- 'No two blocks of the disk are the same.' -/
def SepR (p : Nat) (m : Option Nat) (rs : List FR) : Prop :=
  (∀ r ∈ rs, p ∉ r.bl ∧ (∀ b, m = some b → b ∉ r.bl) ∧ blk r.A ≠ some r.fb) ∧ (∀ b, m = some b → b ≠ p) ∧ rs.Pairwise Sp
def headV (m : Option Nat) (room used left : Int) (dead armed : Bool) : Array Value := #[.map m, .int .i64 room, .int .i64 used, .bool dead, .bool armed, .int .i64 left]
/-- The disk's blocks, written out. -/
def DskR (w : World) (p : Nat) (m : Option Nat) (rs : List FR) (room used left : Int) (dead armed : Bool) : Prop :=
  w.heap[p]? = some (.cells (headV m room used left dead armed) 126 (0, 0)) ∧ MapAt w m rs ∧ (∀ r ∈ rs, FileAt w r) ∧ SepR p m rs
/-- 'The disk at block p is D, and lies in the blocks bl.' -/
def Dsk (w : World) (p : Nat) (bl : List Nat) (D : DS) : Prop :=
  ∃ m rs left armed, DskR w p m rs (D.room : Int) (usedF D.fs : Int) left D.dead armed ∧ bl = allB p m rs ∧ rs.map FR.val = D.fs ∧
    (D.dead = false → armed = decide (0 ≤ D.arm) ∧ (0 ≤ D.arm → left = D.arm)) ∧ (-9223372036854775808 ≤ left ∧ left ≤ 9223372036854775807) ∧ (-1 ≤ D.arm ∧ D.arm ≤ 9223372036854775807) ∧ risingF D.fs ∧ usedF D.fs ≤ D.room ∧ D.room ≤ 9223372036854775807

section
variable {w w' : World} {p : Nat} {m : Option Nat} {rs : List FR} {room used left : Int} {dead armed : Bool} {bl : List Nat}
theorem DskR.head (h : DskR w p m rs room used left dead armed) : w.cell? ⟨p, 0, none⟩ = some (.map m) ∧ w.cell? ⟨p, 1, none⟩ = some (.int .i64 room) ∧ w.cell? ⟨p, 2, none⟩ = some (.int .i64 used) ∧ w.cell? ⟨p, 3, none⟩ = some (.bool dead) ∧ w.cell? ⟨p, 4, none⟩ = some (.bool armed) ∧ w.cell? ⟨p, 5, none⟩ = some (.int .i64 left) := by
  have hc := fun i => cell_of_row w p i _ _ _ h.1
  exact ⟨hc 0, hc 1, hc 2, hc 3, hc 4, hc 5⟩
theorem DskR.thaw (h : DskR w p m rs room used left dead armed) (i : Nat) : w.frozen? ⟨p, i, none⟩ = false := frozen_of_row w p i _ _ h.1
theorem FileAt.cells {r : FR} (h : FileAt w r) : w.cell? ⟨r.fb, 0, none⟩ = some (.slice r.A r.dat.length r.c) ∧ w.cell? ⟨r.fb, 1, none⟩ = some (.int .i64 (r.saf : Int)) := by
  have hc := fun i => cell_of_row w r.fb i _ _ _ h.1
  exact ⟨hc 0, hc 1⟩
theorem FileAt.thaw {r : FR} (h : FileAt w r) (i : Nat) : w.frozen? ⟨r.fb, i, none⟩ = false := frozen_of_row w r.fb i _ _ h.1
theorem DskR.lt (h : DskR w p m rs room used left dead armed) : ∀ b ∈ allB p m rs, b < w.heap.size := fun b hb => by
  simp only [allB, List.mem_cons, List.mem_append, Option.mem_toList, List.mem_flatMap] at hb
  rcases hb with rfl | hb | ⟨r, hr, hb⟩
  · exact (Array.getElem?_eq_some_iff.1 h.1).1
  · exact h.2.1.lt b hb
  · exact (h.2.2.1 r hr).lt b hb
theorem mem_head : p ∈ allB p m rs := by simp [allB]
theorem mem_map {b : Nat} (h : m = some b) : b ∈ allB p m rs := by simp [allB, h]
theorem mem_file {r : FR} (hr : r ∈ rs) {b : Nat} (hb : b ∈ r.bl) : b ∈ allB p m rs := by
  simp only [allB, List.mem_cons, List.mem_append, List.mem_flatMap]
  exact .inr (.inr ⟨r, hr, hb⟩)
theorem DskR.fr (h : DskR w p m rs room used left dead armed) (hf : Fr w w' bl) (ho : ∀ b ∈ allB p m rs, b ∉ bl) : DskR w' p m rs room used left dead armed :=
  ⟨(hf.block p (Array.getElem?_eq_some_iff.1 h.1).1 (ho p mem_head)).trans h.1, h.2.1.fr hf (fun b hb => ho b (mem_map hb)), fun r hr => (h.2.2.1 r hr).fr hf (fun b hb => ho b (mem_file hr hb)), h.2.2.2⟩
/-- The head turned. -/
theorem DskR.turn {room' used' left' : Int} {dead' armed' : Bool} (h : DskR w p m rs room used left dead armed) (hf : Fr w w' [p]) (hp : w'.heap[p]? = some (.cells (headV m room' used' left' dead' armed') 126 (0, 0))) :
    DskR w' p m rs room' used' left' dead' armed' := by
  obtain ⟨h1, h2, h3, h4⟩ := h
  refine ⟨hp, h2.fr hf (fun b hb hm => ?_), fun r hr => (h3 r hr).fr hf (fun b hb hm => ?_), h4⟩
  · rw [List.mem_singleton] at hm
    exact h4.2.1 b hb hm
  · rw [List.mem_singleton] at hm
    subst hm
    exact (h4.1 r hr).1 hb
end

theorem MapAt.look_some {w : World} {m : Option Nat} {rs : List FR} (h : MapAt w m rs) {r : FR} (hr : r ∈ rs) (hl : r.name.length ≤ maxLen) :
    (Instr.lookup 124 (.map m) (.string (tx r.name)) false).run Try.prog w = .ok (.pointer (some ⟨r.fb, 0, none⟩)) w := by
  rcases h with ⟨_, rfl⟩ | ⟨b, Dm, rfl, ho, hm⟩
  · cases hr
  · obtain ⟨v, ps, hrun, hv⟩ := ho.lookup (t := 124) (e := 127) lawN Try.underlying124 (zeroP w) ptrEl_none (keyN hl)
    rw [hm.2.2 r hr] at hv
    rw [ptrEl_at hv] at hrun
    exact hrun
theorem MapAt.look_none {w : World} {m : Option Nat} {rs : List FR} (h : MapAt w m rs) {x : List UInt8} (hx : ∀ r ∈ rs, r.name ≠ x) (hl : x.length ≤ maxLen) :
    (Instr.lookup 124 (.map m) (.string (tx x)) false).run Try.prog w = .ok (.pointer none) w := by
  rcases h with ⟨rfl, rfl⟩ | ⟨b, Dm, rfl, ho, hm⟩
  · exact Maps.look_nil false lawN Try.underlying124 (zeroP w) (keyN hl)
  · obtain ⟨v, ps, hrun, hv⟩ := ho.lookup (t := 124) (e := 127) lawN Try.underlying124 (zeroP w) ptrEl_none (keyN hl)
    have hn : has Dm (.string x) = false := by
      rw [hm.2.1, List.any_eq_false]
      intro r hr
      simpa using hx r hr
    rw [atKey_of_not_has hn] at hv
    rw [ptrEl_nil hv] at hrun
    exact hrun

set_option maxRecDepth 100000 in
set_option maxHeartbeats 1000000 in
theorem find_dead {w : World} {p : Nat} {m : Option Nat} {rs : List FR} {room used left : Int} {armed : Bool} (x : List UInt8) (h : DskR w p m rs room used left true armed) :
    Calls Try.prog 65 #[.pointer (some ⟨p, 0, none⟩), .string (tx x)] w fun e w' => e = .returned (.tuple #[.pointer none, .int .i64 9]) ∧ w = w' := by
  obtain ⟨c0, c1, c2, c3, c4, c5⟩ := h.head
  go_enter Try.func65, Try.ntmps65
  go_wp2
  go_ret2
  exact ⟨rfl, rfl⟩
set_option maxRecDepth 100000 in
set_option maxHeartbeats 1000000 in
theorem find_none {w : World} {p : Nat} {m : Option Nat} {rs : List FR} {room used left : Int} {armed : Bool} (x : List UInt8) (h : DskR w p m rs room used left false armed) (hx : ∀ r ∈ rs, r.name ≠ x) (hl : x.length ≤ maxLen) :
    Calls Try.prog 65 #[.pointer (some ⟨p, 0, none⟩), .string (tx x)] w fun e w' => e = .returned (.tuple #[.pointer none, .int .i64 6]) ∧ w = w' := by
  obtain ⟨c0, c1, c2, c3, c4, c5⟩ := h.head
  have hlk := h.2.1.look_none hx hl
  clear hx hl
  go_enter Try.func65, Try.ntmps65
  go_wp2
  go_ret2
  exact ⟨rfl, rfl⟩
set_option maxRecDepth 100000 in
set_option maxHeartbeats 1000000 in
theorem find_some {w : World} {p : Nat} {m : Option Nat} {rs : List FR} {room used left : Int} {armed : Bool} {r : FR} (h : DskR w p m rs room used left false armed) (hr : r ∈ rs) (hl : r.name.length ≤ maxLen) :
    Calls Try.prog 65 #[.pointer (some ⟨p, 0, none⟩), .string (tx r.name)] w fun e w' => e = .returned (.tuple #[.pointer (some ⟨r.fb, 0, none⟩), .int .i64 0]) ∧ w = w' := by
  obtain ⟨c0, c1, c2, c3, c4, c5⟩ := h.head
  have hlk := h.2.1.look_some hr hl
  clear hl
  go_enter Try.func65, Try.ntmps65
  go_wp2
  go_ret2
  exact ⟨rfl, rfl⟩
end Go.Proofs.Ytcclhkoggijkaaa
namespace Go.Proofs.Ytcclhkoggijkaaa
open Go Go.RowKit

/-- The same key and number. -/
def sameK (x e : En) : Bool := eqB x.key e.key && decide (x.seq = e.seq)
def inL (es : List En) (e : En) : Bool := es.any (fun x => sameK x e)
theorem inL_at {es : List En} {e x : En} {k : Nat} (hx : es[k]? = some x) (h : sameK x e = true) : inL es e = true := List.any_eq_true.2 ⟨x, List.mem_of_getElem? hx, h⟩
theorem inL_snoc {es : List En} {e x : En} {k : Nat} (hx : es[k]? = some x) (h : inL (es.take k) e = false) (hk : sameK x e = false) : inL (es.take (k + 1)) e = false := by
  rw [List.take_add_one, hx]
  unfold inL at h ⊢
  rw [List.any_append, h]
  simp [hk]
set_option maxRecDepth 100000 in
set_option maxHeartbeats 4000000 in
theorem In_any {w : World} {A : Option Addr} {n c : Nat} {es : List En} {e : En} {v0 v1 v2 v3 : Value} (h : REs w A n es) (hn : n ≤ 1099511627776) (hs : ∀ x ∈ es, SzE x) (he : EV w e v0 v1 v2 v3) (se : SzE e) :
    Calls Try.prog 83 #[.slice A n c, .agg #[v0, v1, v2, v3]] w (RetT w (inL es e)) := by
  obtain ⟨K, kn, kc, V, vn, vc, rfl, rfl, rfl, rfl, r0, _⟩ := he.parts
  obtain ⟨U, hU⟩ : ∃ U, U = w.alloc (.cells #[.slice K kn kc, .int .u64 (e.seq : Int), .int .u8 (e.kind : Int), .slice V vn vc] 37) := ⟨_, rfl⟩
  have bU : Below w.heap.size w U := by rw [hU]; exact (Below.refl _ _).alloc (Nat.le_refl _) _
  have XU := Lib.hid (show Cl U w.heap.size #[.slice K kn kc, .int .u64 (e.seq : Int), .int .u8 (e.kind : Int), .slice V vn vc] 37 by rw [hU]; exact Cl.new _ _ _)
  have hk : kn ≤ maxLen := maxLen_e (by rw [← r0.len]; exact se.1)
  have HK := Lib.hid (r0.below bU)
  have H1 := Lib.hid (h.below bU)
  have HLN := Lib.hid h.len
  have HS := Lib.hid hs
  have BU := Lib.hid bU
  clear h hs he r0 bU
  go_enter Try.func83, Try.ntmps83
  go_upto_block 1 with fail
  rw [← hU]
  clear hU
  go_wp2_with fail
  go_loopw [5] (fun s5 wr => ∃ k : Nat, k ≤ n ∧ s5 = .int .i64 (k : Int) ∧ inL (es.take k) e = false ∧ Below U.heap.size U wr) (fun s _ => n - (intOf s).toNat)
  case atStart => exact ⟨0, Nat.zero_le _, rfl, rfl, Below.refl _ _⟩
  case round =>
    obtain ⟨k, hk', rfl, hin, hB⟩ := hrel
    have HB := Lib.hid hB
    have HIN := Lib.hid hin
    have XR := Lib.hid (XU.out.below hB)
    have HKR := Lib.hid (HK.out.below hB)
    have hR := H1.out.below hB
    clear hB hin
    by_cases hlt : k < n
    · obtain ⟨b, off, hAb, hbl⟩ := hR.pos (by omega)
      subst hAb
      obtain ⟨x, u0, u1, u2, u3, hx, c0, c1, c2, c3, hev⟩ := hR.at_ k hlt
      obtain ⟨L, ln, lc, M, mn, mc, rfl, rfl, rfl, rfl, q0, _⟩ := hev.parts
      have hsx := HS.out x (List.mem_of_getElem? hx)
      have hln : ln ≤ maxLen := maxLen_e (by rw [← q0.len]; exact hsx.1)
      have HXK := Lib.hid hx
      obtain ⟨z, hz⟩ : ∃ z, z = eqB x.key e.key := ⟨_, rfl⟩
      have HE : Hid (∀ q, Calls Try.prog 14 #[.slice L ln lc, .slice K kn kc] (wr.drewN q) (RetB (wr.drewN q) z)) := Lib.hid (fun q => by rw [hz]; exact Equal_any _ _ _ _ _ _ x.key e.key _ (q0.drewN q) (HKR.out.drewN q) hln hk)
      have HSK : Hid (sameK x e = (z && decide (x.seq = e.seq))) := Lib.hid (by rw [hz]; rfl)
      obtain ⟨d0, d1, d2, d3, _⟩ := XR.out.c4
      clear hR hx hev q0 hz
      by_cases hsq : x.seq = e.seq
      · cases z with
        | true =>
          have HTR : Hid (inL es e = true) := Lib.hid (inL_at HXK.out (by rw [HSK.out]; simpa using hsq))
          go_wp2
          go_quiet ((go_at_call 14; with_reducible exact Calls.quiet_of (HE.out _)))
          have BN := Lib.hid (below_drewN (belowT' BU.out HB.out) nq)
          clear c0 c1 c2 c3 d0 d1 d2 d3
          go_wp2
          go_ret
          exact ⟨by rw [HTR.out]; rfl, BN.out⟩
        | false =>
          have HNX : Hid (inL (es.take (k + 1)) e = false) := Lib.hid (inL_snoc HXK.out HIN.out (by rw [HSK.out]; simp))
          go_wp2
          go_quiet ((go_at_call 14; with_reducible exact Calls.quiet_of (HE.out _)))
          have BN := Lib.hid (below_drewN HB.out nq)
          clear c0 c1 c2 c3 d0 d1 d2 d3
          go_wp2
          go_roundw
          case rel => exact ⟨k + 1, by omega, by go_num, HNX.out, BN.out⟩
          case measure => simp [intOf]; omega
      · cases z with
        | true =>
          have HNX : Hid (inL (es.take (k + 1)) e = false) := Lib.hid (inL_snoc HXK.out HIN.out (by rw [HSK.out]; simp; exact hsq))
          go_wp2
          go_quiet ((go_at_call 14; with_reducible exact Calls.quiet_of (HE.out _)))
          have BN := Lib.hid (below_drewN HB.out nq)
          clear c0 c1 c2 c3 d0 d1 d2 d3
          go_wp2
          go_roundw
          case rel => exact ⟨k + 1, by omega, by go_num, HNX.out, BN.out⟩
          case measure => simp [intOf]; omega
        | false =>
          have HNX : Hid (inL (es.take (k + 1)) e = false) := Lib.hid (inL_snoc HXK.out HIN.out (by rw [HSK.out]; simp))
          go_wp2
          go_quiet ((go_at_call 14; with_reducible exact Calls.quiet_of (HE.out _)))
          have BN := Lib.hid (below_drewN HB.out nq)
          clear c0 c1 c2 c3 d0 d1 d2 d3
          go_wp2
          go_roundw
          case rel => exact ⟨k + 1, by omega, by go_num, HNX.out, BN.out⟩
          case measure => simp [intOf]; omega
    · have htk : es.take k = es := List.take_of_length_le (by have := HLN.out; omega)
      have HFN : Hid (inL es e = false) := Lib.hid (by rw [← htk]; exact HIN.out)
      have BW := Lib.hid (belowT' BU.out HB.out)
      clear htk hR
      go_wp2
      go_ret
      exact ⟨by rw [HFN.out]; rfl, BW.out⟩
end Go.Proofs.Ytcclhkoggijkaaa
namespace Go.Proofs.Ytcclhkoggijkaaa
open Go Go.RowKit

/-- The least place at which p says yes. -/
def RetSe (w : World) (n : Nat) (p : Nat → Bool) (e : Ending) (w' : World) : Prop :=
  ∃ r : Nat, e = .returned (.int .i64 (r : Int)) ∧ r ≤ n ∧ (∀ t, t < r → p t = false) ∧ (∀ t, r ≤ t → t < n → p t = true) ∧ Below w.heap.size w w'
set_option maxRecDepth 100000 in
set_option maxHeartbeats 4000000 in
theorem search_any (g : Nat) (cb : Array Value) (n : Nat) (p : Nat → Bool) (w : World) (eg : ∀ args w, (callFunc g args).run Try.prog w = .ok (.enter g args) w) (hn : n ≤ 1099511627776)
    (hf : ∀ wx, Below w.heap.size w wx → ∀ i : Nat, i < n → Calls Try.prog g (#[.int .i64 (i : Int)] ++ cb) wx (RetT wx (p i)))
    (hmono : ∀ a b, a ≤ b → b < n → p a = true → p b = true) :
    Calls Try.prog 78 #[.int .i64 (n : Int), .func (.func g) #[] cb] w (RetSe w n p) := by
  have HF := Lib.hid hf
  have HM := Lib.hid hmono
  clear hf hmono
  go_enter Try.func78, Try.ntmps78
  go_wp2_with fail
  go_loopw [5, 6] (fun s5 s6 wr => ∃ lo hi : Nat, s5 = .int .i64 (lo : Int) ∧ s6 = .int .i64 (hi : Int) ∧ lo ≤ hi ∧ hi ≤ n ∧ (∀ t, t < lo → p t = false) ∧ (∀ t, hi ≤ t → t < n → p t = true) ∧ Below w.heap.size w wr) (fun s5 s6 _ => (intOf s6).toNat - (intOf s5).toNat)
  case atStart => exact ⟨0, n, rfl, rfl, Nat.zero_le _, Nat.le_refl _, fun t h => absurd h (Nat.not_lt_zero _), fun t h1 h2 => absurd h2 (by omega), Below.refl _ _⟩
  case round =>
    obtain ⟨lo, hi, rfl, rfl, h1, h2, h3, h4, hB⟩ := hrel
    have HB := Lib.hid hB
    have H3 := Lib.hid h3
    have H4 := Lib.hid h4
    clear hB h3 h4
    by_cases hlt : lo < hi
    · obtain ⟨m, hm⟩ : ∃ m, m = (lo + hi) / 2 := ⟨_, rfl⟩
      have e1 : ((lo : Int) + (hi : Int)) / 2 = (m : Int) := by omega
      have hmn : m < hi := by omega
      have hml : lo ≤ m := by omega
      have hc := HF.out wr HB.out m (by omega)
      cases hp : p m with
      | true =>
        rw [hp] at hc
        have HC := Lib.hid hc
        have HP := Lib.hid hp
        have HN : Hid (∀ t, m ≤ t → t < n → p t = true) := Lib.hid (fun t ht htn => HM.out m t ht htn HP.out)
        clear hc hp hm
        go_wp2_with fail
        with_reducible refine HC.out.mono ?_
        intro e w2 hq
        obtain ⟨he, b2⟩ := RetT.outD hq
        subst he
        have B2 := Lib.hid (HB.out.trans (b2.mono HB.out.size))
        clear hq b2
        go_wp2_with fail
        go_roundw
        case rel => exact ⟨lo, m, rfl, rfl, hml, by omega, H3.out, HN.out, B2.out⟩
        case measure => simp [intOf]; omega
      | false =>
        rw [hp] at hc
        have HC := Lib.hid hc
        have HP := Lib.hid hp
        have HN : Hid (∀ t, t < m + 1 → p t = false) := Lib.hid (fun t ht => by
          cases hq : p t with
          | false => rfl
          | true =>
            have := HM.out t m (by omega) (by omega) hq
            rw [HP.out] at this
            cases this)
        clear hc hp hm
        go_wp2_with fail
        with_reducible refine HC.out.mono ?_
        intro e w2 hq
        obtain ⟨he, b2⟩ := RetT.outD hq
        subst he
        have B2 := Lib.hid (HB.out.trans (b2.mono HB.out.size))
        clear hq b2
        go_wp2_with fail
        go_roundw
        case rel => exact ⟨m + 1, hi, by go_num, rfl, by omega, h2, HN.out, H4.out, B2.out⟩
        case measure => simp [intOf]; omega
    · obtain rfl : lo = hi := by omega
      go_wp2_with fail
      go_ret
      exact ⟨lo, rfl, h2, H3.out, H4.out, HB.out⟩
end Go.Proofs.Ytcclhkoggijkaaa
namespace Go.Proofs.Ytcclhkoggijkaaa
open Go Go.RowKit

inductive Tr where
  | nil : Tr
  | node : Tr → En → Tr → Tr
def Tr.ht : Tr → Nat
  | .nil => 0
  | .node l _ r => 1 + max l.ht r.ht
def Tr.num : Tr → Nat
  | .nil => 0
  | .node l _ r => l.num + 1 + r.num
def Tr.list : Tr → List En
  | .nil => []
  | .node l e r => l.list ++ e :: r.list
theorem Tr.ht_num : ∀ t : Tr, t.ht ≤ t.num
  | .nil => Nat.le_refl _
  | .node l e r => by
    have := Tr.ht_num l
    have := Tr.ht_num r
    simp only [Tr.ht, Tr.num]
    omega
/-- 'These four values are the entry e; its bytes are the program's own and lie in good blocks.' -/
def EG (G : Nat → Prop) (w : World) (e : En) (v0 v1 v2 v3 : Value) : Prop :=
  EO 0 w e v0 v1 v2 v3 ∧ ∀ A m c g, Value.slice A m c ∈ [v0, v1, v2, v3] → blk A = some g → G g
/-- 'The entry e lies in the box at p.' -/
def EB (G : Nat → Prop) (w : World) (e : En) (p : Nat) : Prop := ∃ v0 v1 v2 v3, Cl w p #[v0, v1, v2, v3] 37 ∧ EG G w e v0 v1 v2 v3
section
variable {G : Nat → Prop} {w w' : World}
theorem EG.below {e : En} {v0 v1 v2 v3 : Value} (h : EG G w e v0 v1 v2 v3) (hb : Below w.heap.size w w') : EG G w' e v0 v1 v2 v3 := ⟨h.1.below hb, h.2⟩
theorem EB.below {e : En} {p : Nat} (h : EB G w e p) (hb : Below w.heap.size w w') : EB G w' e p := by
  obtain ⟨v0, v1, v2, v3, h1, h2⟩ := h
  exact ⟨v0, v1, v2, v3, h1.below hb, h2.below hb⟩
theorem belowT {w0 w1 w2 : World} (h : Below w0.heap.size w0 w1) (hb : Below w1.heap.size w1 w2) : Below w0.heap.size w0 w2 := h.trans (hb.mono h.size)
/-- The tree of both sides, turned where one has two levels more. -/
def balT (l : Tr) (e : En) (r : Tr) : Tr :=
  if r.ht + 1 < l.ht then
    match l with
    | .nil => .node l e r
    | .node ll le lr => if lr.ht ≤ ll.ht then .node ll le (.node lr e r) else
      match lr with
      | .nil => .node l e r
      | .node a x b => .node (.node ll le a) x (.node b e r)
  else if l.ht + 1 < r.ht then
    match r with
    | .nil => .node l e r
    | .node rl re rr => if rl.ht ≤ rr.ht then .node (.node l e rl) re rr else
      match rl with
      | .nil => .node l e r
      | .node a x b => .node (.node l e a) x (.node b re rr)
  else .node l e r
theorem balT_list (l : Tr) (e : En) (r : Tr) : (balT l e r).list = l.list ++ e :: r.list := by
  unfold balT
  split
  · cases l with
    | nil => rfl
    | node ll le lr =>
      simp only
      split
      · simp [Tr.list]
      · cases lr with
        | nil => rfl
        | node a x b => simp [Tr.list]
  · split
    · cases r with
      | nil => rfl
      | node rl re rr =>
        simp only
        split
        · simp [Tr.list]
        · cases rl with
          | nil => rfl
          | node a x b => simp [Tr.list]
    · rfl
theorem Tr.num_list : ∀ t : Tr, t.num = t.list.length
  | .nil => rfl
  | .node l e r => by
    rw [Tr.num, Tr.list, List.length_append, List.length_cons, ← Tr.num_list l, ← Tr.num_list r]
    omega
theorem balT_num (l : Tr) (e : En) (r : Tr) : (balT l e r).num = l.num + 1 + r.num := by
  rw [Tr.num_list, balT_list, List.length_append, List.length_cons, ← Tr.num_list, ← Tr.num_list]
  omega
end
end Go.Proofs.Ytcclhkoggijkaaa
namespace Go.Proofs.Ytcclhkoggijkaaa
open Go Go.RowKit

/-- The next number, and where the reader is then. -/
def numR (xs : List UInt8) (s : Nat × Bool) : Nat × (Nat × Bool) :=
  if (getU xs (s.1 : Int)).2.2 = 0 then ((getU xs (s.1 : Int)).1, ((getU xs (s.1 : Int)).2.1.toNat, s.2)) else (0, (s.1, true))
/-- The next n bytes, and where the reader is then. -/
def takeR (xs : List UInt8) (n : Nat) (s : Nat × Bool) : List UInt8 × (Nat × Bool) :=
  if xs.length - s.1 < n then ([], (s.1, true)) else ((xs.drop s.1).take n, (s.1 + n, s.2))
theorem numR_le {xs : List UInt8} {s : Nat × Bool} (h : s.1 ≤ xs.length) : (numR xs s).2.1 ≤ xs.length ∧ (numR xs s).1 < B64 := by
  unfold numR
  split
  · rename_i e
    rcases hg : getU xs (s.1 : Int) with ⟨m, nx, e2⟩
    rw [hg] at e
    obtain ⟨k, rfl, h1, h2, h3⟩ := getU_err h hg e
    exact ⟨by simpa using h2, h3⟩
  · exact ⟨h, by unfold B64; omega⟩
theorem takeR_le {xs : List UInt8} {n : Nat} {s : Nat × Bool} (h : s.1 ≤ xs.length) : (takeR xs n s).2.1 ≤ xs.length ∧ (takeR xs n s).1.length ≤ n := by
  unfold takeR
  split
  · exact ⟨h, by simp⟩
  · simp only [List.length_take]
    exact ⟨by omega, by omega⟩
/-- 'The reader at p: these bytes, this place, bad or not.' -/
def Rdr (w : World) (p : Nat) (E : Option Addr) (en ec : Nat) (s : Nat × Bool) : Prop := Cl w p #[.slice E en ec, .int .i64 (s.1 : Int), .bool s.2] 266
def RetN (w : World) (p : Nat) (E : Option Addr) (en ec : Nat) (r : Nat × (Nat × Bool)) (e : Ending) (w' : World) : Prop :=
  e = .returned (.int .u64 (r.1 : Int)) ∧ Rdr w' p E en ec r.2 ∧ w.grownBy w' (some p)
theorem RetN.out {w : World} {p : Nat} {E : Option Addr} {en ec : Nat} {r : Nat × (Nat × Bool)} {e : Ending} {w' : World} (h : RetN w p E en ec r e w') : e = .returned (.int .u64 (r.1 : Int)) ∧ Rdr w' p E en ec r.2 ∧ w.grownBy w' (some p) := h
theorem grown_set1 (w : World) (p i : Nat) (v : Value) : w.grownBy (w.setCell ⟨p, i, none⟩ v) (some p) := by
  have h := (Below.refl p w).setCell (p := ⟨p, i, none⟩) (Nat.le_refl _) v
  refine ⟨h.os, h.tape, h.output, h.size, fun b _ hne => ?_⟩
  exact Below.heap_setCell w ⟨p, i, none⟩ v b (fun e => hne (by rw [e]))
theorem grown_drewN {w w' : World} {row : Option Nat} (h : w.grownBy w' row) (q : Nat) : w.grownBy (w'.drewN q) row := by
  obtain ⟨h1, h2, h3, h4, h5⟩ := h
  exact ⟨h1, h2, h3, h4, h5⟩
set_option maxRecDepth 100000 in
set_option maxHeartbeats 4000000 in
theorem number_any (w : World) (p : Nat) (E : Option Addr) (en ec : Nat) (xs : List UInt8) (a : Nat) (bd : Bool) (h : Rdr w p E en ec (a, bd)) (hr : Rd w E en xs) (ha : a ≤ en) (hn : en ≤ 1099511627776) (hc : en ≤ ec) :
    Calls Try.prog 215 #[.pointer (some ⟨p, 0, none⟩)] w (RetN w p E en ec (numR xs (a, bd))) := by
  have hcl : Cl w p #[.slice E en ec, .int .i64 (a : Int), .bool bd] 266 := h
  obtain ⟨c0, c1, c2, f0, f1, f2⟩ := hcl.c3
  rcases hg : getU xs (a : Int) with ⟨m, nx, ee⟩
  have HG : Hid (∀ wx q, wx = w.drewN q → Calls Try.prog 146 #[.slice E en ec, .int .i64 (a : Int)] wx (fun e w' => e = .returned (.tuple #[.int .u64 (m : Int), .int .i64 nx, .int .i64 ee]) ∧ w' = wx)) := Lib.hid (fun wx q hq => by
    subst hq
    have hG := GetU_any E en ec xs (a : Int) (w.drewN q) (hr.drewN q) (by omega) hc
    rw [hg] at hG
    exact hG.mono (fun e w' h => ⟨h.1, h.2.symm⟩))
  have HCL := Lib.hid hcl
  have hxl := hr.len
  by_cases he : ee = 0
  · obtain ⟨k, hk, h1, h2, h3⟩ := getU_err (by omega) hg he
    have hnum : numR xs (a, bd) = (m, (k, bd)) := by unfold numR; rw [hg, if_pos he, hk]; rfl
    subst he hk
    have HN := Lib.hid hnum
    clear h hr hg hcl hnum hxl
    go_enter Try.func215, Try.ntmps215
    go_wp2_with fail
    go_quiet ((go_at_call 146; exact Calls.quiet_of_same (HG.out _ _ rfl)))
    have hd := HCL.out.drewN nq
    obtain ⟨c0, c1, c2, f0, f1, f2⟩ := hd.c3
    have HD := Lib.hid (hd.set 1 (.int .i64 (k : Int)))
    have HGR := Lib.hid ((grown_drewN (World.grownBy.refl w (some p)) nq).trans (grown_set1 (w.drewN nq) p 1 (.int .i64 (k : Int))))
    clear hd
    go_wp2_with fail
    go_ret
    rw [HN.out]
    exact ⟨rfl, HD.out, HGR.out⟩
  · have hnum : numR xs (a, bd) = (0, (a, true)) := by unfold numR; rw [hg, if_neg he]
    have t1 : (ee == 0) = false := by simpa using he
    have HN := Lib.hid hnum
    clear h hr hg hcl hnum hxl
    go_enter Try.func215, Try.ntmps215
    go_wp2_with fail
    go_quiet ((go_at_call 146; exact Calls.quiet_of_same (HG.out _ _ rfl)))
    have hd := HCL.out.drewN nq
    obtain ⟨c0, c1, c2, f0, f1, f2⟩ := hd.c3
    have HD := Lib.hid (hd.set 2 (.bool true))
    have HGR := Lib.hid ((grown_drewN (World.grownBy.refl w (some p)) nq).trans (grown_set1 (w.drewN nq) p 2 (.bool true)))
    clear hd
    go_wp2_with fail
    go_ret
    rw [HN.out]
    exact ⟨rfl, HD.out, HGR.out⟩
/-- What take hands back: n bytes of what the reader reads, or none. -/
def RetT8 (w : World) (p : Nat) (E : Option Addr) (en ec : Nat) (xs : List UInt8) (r : List UInt8 × (Nat × Bool)) (e : Ending) (w' : World) : Prop :=
  ∃ B k d, e = .returned (.slice B k d) ∧ Rdr w' p E en ec r.2 ∧ w.grownBy w' (some p) ∧ k ≤ d ∧ (B = none → d = 0) ∧ r.1.length = k ∧ (∀ wx, Rd wx E en xs → Rd wx B k r.1) ∧ (blk B = none ∨ blk B = blk E)
set_option maxRecDepth 100000 in
set_option maxHeartbeats 4000000 in
theorem take_any (w : World) (p : Nat) (E : Option Addr) (en ec : Nat) (xs : List UInt8) (n a : Nat) (bd : Bool) (h : Rdr w p E en ec (a, bd)) (hl : xs.length = en) (ha : a ≤ en) (hn : en ≤ 1099511627776) (hc : en ≤ ec) (hnn : n < B64) (hnil : E = none → ec = 0) :
    Calls Try.prog 216 #[.pointer (some ⟨p, 0, none⟩), .int .u64 (n : Int)] w (RetT8 w p E en ec xs (takeR xs n (a, bd))) := by
  have hcl : Cl w p #[.slice E en ec, .int .i64 (a : Int), .bool bd] 266 := h
  obtain ⟨c0, c1, c2, f0, f1, f2⟩ := hcl.c3
  have HCL := Lib.hid hcl
  obtain ⟨z, hz⟩ : ∃ z, z = en - a := ⟨_, rfl⟩
  have e1 : IntKind.i64.wrap ((en : Int) - (a : Int)) = (z : Int) := by rw [IntWalk.i64_in _ (by omega)]; omega
  have e2 : IntKind.u64.wrap (z : Int) = (z : Int) := u64_nat z (by unfold B64; omega)
  unfold B64 at hnn
  have hz2 : z ≤ 1099511627776 := by omega
  by_cases hlt : z < n
  · have htk : takeR xs n (a, bd) = ([], (a, true)) := by unfold takeR; rw [if_pos (by simp only; omega)]
    have HT := Lib.hid htk
    clear h hcl htk hz
    go_enter Try.func216, Try.ntmps216
    go_wp2_with fail
    go_quiet (fail)
    have hd := HCL.out.drewN nq
    obtain ⟨c0, c1, c2, f0, f1, f2⟩ := hd.c3
    have HD := Lib.hid (hd.set 2 (.bool true))
    have HGR := Lib.hid ((grown_drewN (World.grownBy.refl w (some p)) nq).trans (grown_set1 (w.drewN nq) p 2 (.bool true)))
    clear hd
    go_wp2_with fail
    go_ret
    refine ⟨none, 0, 0, rfl, by rw [HT.out]; exact HD.out, HGR.out, Nat.le_refl _, fun _ => rfl, by rw [HT.out]; rfl, fun wx _ => by rw [HT.out]; exact Rd.nil _ _, .inl rfl⟩
  · obtain ⟨y, hy⟩ : ∃ y, y = a + n := ⟨_, rfl⟩
    have hye : y ≤ en := by omega
    have hay : a ≤ y := by omega
    have htk : takeR xs n (a, bd) = ((xs.drop a).take n, (y, bd)) := by unfold takeR; rw [if_neg (by simp only; omega), hy]
    have e3 : IntKind.i64.wrap (n : Int) = (n : Int) := IntWalk.i64_in _ (by omega)
    have e4 : IntKind.i64.wrap ((a : Int) + (n : Int)) = (y : Int) := by rw [IntWalk.i64_in _ (by omega)]; omega
    have hyn : y - a = n := by omega
    have hsl : ∀ W : World, (Instr.slice 25 (.slice E en ec) (some (.int .i64 (a : Int))) (some (.int .i64 (y : Int))) none).run Try.prog W = .ok (.slice (cutA E a ec) n (ec - a)) W := fun W => by
      have := cut_lh Try.underlying25 elem_bytes size_u8 E (n := en) (cap := ec) hay (by omega) W
      rw [hyn] at this
      exact this
    have hrd : ∀ wx, Rd wx E en xs → Rd wx (cutA E a ec) n ((xs.drop a).take n) := fun wx hw => by
      have := hw.cut hay hye hc
      rw [hyn, List.drop_take, hyn] at this
      exact this
    have hlen : ((xs.drop a).take n).length = n := by rw [List.length_take, List.length_drop]; omega
    have hcn : cutA E a ec = none → ec - a = 0 := fun hh => by
      unfold cutA at hh
      split at hh
      · omega
      · cases E with
        | none => have := hnil rfl; omega
        | some _ => cases hh
    have hblk : blk (cutA E a ec) = none ∨ blk (cutA E a ec) = blk E := by
      right
      unfold cutA
      split
      · rfl
      · cases E with
        | none => rfl
        | some ad =>
          simp only [Option.map_some, blk, Addr.add]
          split <;> rfl
    have hnd : n ≤ ec - a := by omega
    have HT := Lib.hid htk
    have HR := Lib.hid hrd
    have HLN := Lib.hid hlen
    have HCN := Lib.hid hcn
    have HBK := Lib.hid hblk
    have HDD := Lib.hid hnd
    clear h hcl htk hz hy hrd hlen hcn hblk hyn hnd
    go_enter Try.func216, Try.ntmps216
    go_wp2_with fail
    go_quiet (fail)
    have hd := HCL.out.drewN nq
    obtain ⟨c0, c1, c2, f0, f1, f2⟩ := hd.c3
    have hd2 := hd.set 1 (.int .i64 (y : Int))
    obtain ⟨W2, hW2⟩ : ∃ W2, W2 = (w.drewN nq).setCell ⟨p, 1, none⟩ (.int .i64 (y : Int)) := ⟨_, rfl⟩
    rw [← hW2] at hd2
    have hd3 : Cl W2 p #[.slice E en ec, .int .i64 (y : Int), .bool bd] 266 := hd2
    have HGR : Hid (w.grownBy W2 (some p)) := Lib.hid (by
      rw [hW2]
      exact (grown_drewN (World.grownBy.refl w (some p)) nq).trans (grown_set1 (w.drewN nq) p 1 (.int .i64 (y : Int))))
    have HW2 := Lib.hid hW2
    have HD := Lib.hid hd3
    clear hd hd2 hd3 hW2
    go_upto_region 6 with (fail)
    rw [← HW2.out]
    clear c0 c1 c2 f0 f1 f2
    obtain ⟨c0, c1, c2, f0, f1, f2⟩ := HD.out.c3
    go_quiet (fail)
    go_wp2_with fail
    go_ret
    exact ⟨cutA E a ec, n, ec - a, rfl, by rw [HT.out]; exact HD.out.drewN _, grown_drewN HGR.out _, HDD.out, HCN.out, by rw [HT.out]; exact HLN.out, fun wx hw => by rw [HT.out]; exact HR.out wx hw, HBK.out⟩
end Go.Proofs.Ytcclhkoggijkaaa
namespace Go.Proofs.Ytcclhkoggijkaaa
open Go Go.RowKit

theorem toNat_or {x y : Nat} (h1 : x < 256) (h2 : y < 256) : (UInt8.ofNat (x ||| y)).toNat = x ||| y := by
  have hor : x ||| y < 256 := Nat.or_lt_two_pow (n := 8) h1 h2
  generalize x ||| y = q at hor ⊢
  simp
  omega
theorem putB_mono {fs : List UInt8} {b d : Nat} (h : setB fs d = true) : setB (putB fs b) d = true := by
  rw [setB_eq] at h ⊢
  by_cases e : d / 8 = b / 8
  · by_cases hl : b / 8 < fs.length
    · have hp : 2 ^ (b % 8) < 256 := Nat.lt_of_lt_of_le (Nat.pow_lt_pow_right (by omega) (Nat.mod_lt b (by omega))) (by decide)
      unfold putB
      rw [e, List.getElem?_set_self hl, Option.getD_some, toNat_or (UInt8.toNat_lt _) hp, Nat.testBit_or]
      rw [e] at h
      rw [h]
      rfl
    · unfold putB
      rw [List.set_eq_of_length_le (by omega)]
      exact h
  · rw [putB_off (fun e2 => e e2.symm)]
    exact h
theorem putB_self {fs : List UInt8} {b : Nat} (hl : b / 8 < fs.length) : setB (putB fs b) b = true := by
  rw [setB_eq]
  have hp : 2 ^ (b % 8) < 256 := Nat.lt_of_lt_of_le (Nat.pow_lt_pow_right (by omega) (Nat.mod_lt b (by omega))) (by decide)
  unfold putB
  rw [List.getElem?_set_self hl, Option.getD_some, toNat_or (UInt8.toNat_lt _) hp, Nat.testBit_or, Nat.testBit_two_pow_self, Bool.or_true]
theorem puts_mono {d : Nat} : ∀ (l : List Nat) (fs : List UInt8), setB fs d = true → setB (l.foldl putB fs) d = true
  | [], _, h => h
  | b :: l, fs, h => by
    rw [List.foldl_cons]
    exact puts_mono l _ (putB_mono h)
theorem puts_mem {d : Nat} : ∀ (l : List Nat) (fs : List UInt8), d ∈ l → d / 8 < fs.length → setB (l.foldl putB fs) d = true
  | [], _, h, _ => by cases h
  | b :: l, fs, h, hl => by
    rw [List.foldl_cons]
    rcases List.mem_cons.1 h with rfl | h
    · exact puts_mono l _ (putB_self hl)
    · exact puts_mem l _ h (by rw [putB_len]; exact hl)
theorem fills_mono {m k d : Nat} : ∀ (keys : List (List UInt8)) (fs : List UInt8), setB fs d = true → setB (keys.foldl (fillB m k) fs) d = true
  | [], _, h => h
  | b :: l, fs, h => by
    rw [List.foldl_cons]
    exact fills_mono l _ (puts_mono _ _ h)
theorem fills_mem {m k : Nat} (hm : 0 < m) {key : List UInt8} {i : Nat} (hi : i < k) : ∀ (keys : List (List UInt8)) (fs : List UInt8), key ∈ keys → m ≤ 8 * fs.length → setB (keys.foldl (fillB m k) fs) (bitN key m i) = true
  | [], _, h, _ => by cases h
  | b :: l, fs, h, hl => by
    rw [List.foldl_cons]
    rcases List.mem_cons.1 h with rfl | h
    · exact fills_mono l _ (puts_mem _ _ (List.mem_map.2 ⟨i, List.mem_range.2 hi, rfl⟩) (by have := bitN_lt key hm i; omega))
    · exact fills_mem hm hi l _ h (by rw [fillB_len]; exact hl)
theorem filter_may {p : Nat} {xss : List (List UInt8)} {key : List UInt8} (h : key ∈ xss) : mayB (filterB p xss) key = (true, 0) := by
  obtain ⟨s, hs⟩ : ∃ s, s = ((if xss.length * p < 64 then 64 else xss.length * p) + 7) / 8 + 1 := ⟨_, rfl⟩
  obtain ⟨k, hk⟩ : ∃ k, k = min (max (p * 69 / 100) 1) 30 := ⟨_, rfl⟩
  have hs2 : 9 ≤ s := by rw [hs]; split <;> omega
  have hk2 : 1 ≤ k ∧ k ≤ 30 := by omega
  have hF : filterB p xss = buildB s k xss := by unfold filterB; rw [← hs, ← hk]
  have hl := buildB_len s k xss
  have hla := buildB_last (k := k) (show 2 ≤ s by omega) xss
  have h8 : (UInt8.ofNat k).toNat = k := by simp; omega
  have hgl : (buildB s k xss).getLast? = some (UInt8.ofNat k) := by rw [List.getLast?_eq_getElem?, hl, hla]
  have hg : goodB (buildB s k xss) = true := by
    unfold goodB
    rw [hgl, hl]
    simp only [h8]
    simp
    omega
  have hn : numB (buildB s k xss) = k := by
    unfold numB
    rw [hgl]
    exact h8
  have ha : allBt (buildB s k xss) key (8 * (s - 1)) = true := by
    unfold allBt
    rw [List.all_eq_true, hn]
    intro i hi
    exact fills_mem (by omega) (List.mem_range.1 hi) xss _ h (by simp; omega)
  unfold mayB
  rw [hF, hg, hl, ha]
  rfl
theorem filter_len2 {p : Nat} {xss : List (List UInt8)} (hq : xss.length * p ≤ 200000) : (filterB p xss).length ≤ 25001 := by
  unfold filterB
  rw [buildB_len]
  split <;> omega
theorem filter_len {p : Nat} {xss : List (List UInt8)} (hp : p ≤ 100) (hx : xss.length ≤ 200) : (filterB p xss).length ≤ 2501 := by
  have hq : xss.length * p ≤ 20000 := Nat.mul_le_mul hx hp
  unfold filterB
  rw [buildB_len]
  split <;> omega
theorem RdL.first {w : World} {A : Option Addr} {n : Nat} {xss : List (List UInt8)} (h : RdL w A n xss) (k : Nat) : RdL w A (min n k) (xss.take k) := by
  refine ⟨by rw [List.length_take, h.1]; omega, fun h0 => ?_⟩
  obtain ⟨b, off, h1, h2, h3⟩ := h.2 (by omega)
  refine ⟨b, off, h1, h2, fun i xs hi => h3 i xs ?_⟩
  rw [List.getElem?_take] at hi
  split at hi
  · exact hi
  · cases hi
end Go.Proofs.Ytcclhkoggijkaaa
namespace Go.Proofs.Ytcclhkoggijkaaa
open Go Go.RowKit

/-- From the place p on, what has been read so far in acc. -/
def oaF (xs : List UInt8) : Nat → Nat → List (List UInt8) → List (List UInt8) × Nat
  | 0, p, acc => (acc, p)
  | f + 1, p, acc => if (openG xs p).2.2 = 0 then oaF xs f (openG xs p).2.1.toNat (acc ++ [(openG xs p).1]) else (acc, p)
def openAllG (xs : List UInt8) : List (List UInt8) × Nat := oaF xs (xs.length + 1) 0 []
theorem oaF_next {xs : List UInt8} {f p k : Nat} {acc : List (List UInt8)} {b : List UInt8} (hg : openG xs p = (b, (k : Int), 0)) : oaF xs (f + 1) p acc = oaF xs f k (acc ++ [b]) := by
  rw [oaF, hg, if_pos rfl, Int.toNat_natCast]
theorem oaF_stop {xs : List UInt8} {f p : Nat} {acc : List (List UInt8)} {b : List UInt8} {nx e : Int} (hg : openG xs p = (b, nx, e)) (he : e ≠ 0) : oaF xs (f + 1) p acc = (acc, p) := by
  rw [oaF, hg, if_neg he]
/-- What opens goes on behind its own bytes. -/
theorem openG_ok {xs : List UInt8} {p : Nat} {b : List UInt8} {nx e : Int} (hg : openG xs p = (b, nx, e)) (he : e = 0) : ∃ k : Nat, nx = k ∧ k = p + 8 + b.length ∧ k ≤ xs.length := by
  subst he
  unfold openG at hg
  simp only [Int.toNat_natCast] at hg
  split at hg
  · simp at hg
  · split at hg
    · simp at hg
    · split at hg
      · simp at hg
      · next h1 h2 h3 =>
        split at hg
        · simp at hg
        · next h4 =>
          split at hg
          · simp only [Prod.mk.injEq] at hg
            obtain ⟨rfl, rfl, _⟩ := hg
            refine ⟨_, rfl, ?_, by omega⟩
            rw [List.length_drop, List.length_take]
            omega
          · simp at hg
theorem openG_at_end {xs : List UInt8} {p : Nat} (h : xs.length ≤ p) : (openG xs p).2.2 ≠ 0 := by
  intro he
  obtain ⟨k, _, h2, h3⟩ := openG_ok (xs := xs) (p := p) (b := (openG xs p).1) (nx := (openG xs p).2.1) (e := (openG xs p).2.2) rfl he
  omega
theorem oaF_end {xs : List UInt8} {p : Nat} (h : xs.length ≤ p) : ∀ (f : Nat) (acc : List (List UInt8)), oaF xs f p acc = (acc, p)
  | 0, acc => rfl
  | f + 1, acc => by rw [oaF, if_neg (openG_at_end h)]

/-- 'It hands back a row of its own over a family that holds these lists, and a place.' -/
def RetOA (base : Nat) (w : World) (g : List (List UInt8) × Nat) (e : Ending) (w' : World) : Prop :=
  ∃ A n c ps, e = .returned (.tuple #[.slice A n c, .int .i64 (g.2 : Int)]) ∧ RowF w base A n c ps w' ∧ ps.map (·.2) = g.1
theorem retOA_mk {w w' : World} {base n c p : Nat} {A : Option Addr} {ps : List VB} {g : List (List UInt8) × Nat} (hg : g = (ps.map (·.2), p)) (h : RowF w base A n c ps w') : RetOA base w g (.returned (.tuple #[.slice A n c, .int .i64 (p : Int)])) w' := by
  subst hg
  exact ⟨A, n, c, ps, rfl, h, rfl⟩

end Go.Proofs.Ytcclhkoggijkaaa
namespace Go.Proofs.Ytcclhkoggijkaaa
open Go Go.RowKit Go.Maps

theorem Fr.set (w : World) (p i : Nat) (v : Value) : Fr w (w.setCell ⟨p, i, none⟩ v) [p] :=
  ⟨rfl, rfl, rfl, by simp, fun k _ hn => heap_setCell_other w ⟨p, i, none⟩ k v (by simpa using hn)⟩
/-- 'The head's block holds this now, and nothing else has turned.' -/
def Hd (w : World) (p : Nat) (vs : Array Value) (w' : World) : Prop := Fr w w' [p] ∧ w'.heap[p]? = some (.cells vs 126 (0, 0))
theorem Hd.refl {w : World} {p : Nat} {vs : Array Value} (h : w.heap[p]? = some (.cells vs 126 (0, 0))) : Hd w p vs w := ⟨Fr.refl _ _, h⟩
theorem Hd.set {w w' : World} {p : Nat} {vs : Array Value} (h : Hd w p vs w') (i : Nat) (v : Value) : Hd w p (vs.setIfInBounds i v) (w'.setCell ⟨p, i, none⟩ v) :=
  ⟨h.1.trans (Fr.set w' p i v) (fun _ hb => .inl hb), heap_setCell_same _ _ _ _ _ _ h.2⟩
theorem Hd.drew {w w' : World} {p : Nat} {vs : Array Value} (h : Hd w p vs w') : Hd w p vs w'.drew := ⟨⟨h.1.os, h.1.tape, h.1.output, h.1.size, h.1.block⟩, h.2⟩
def RetHd (w : World) (p : Nat) (vs : Array Value) (v : Value) (e : Ending) (w' : World) : Prop := e = .returned v ∧ Hd w p vs w'

section
variable {w : World} {p : Nat} {m : Option Nat} {rs : List FR} {room used left : Int} {dead armed : Bool}
set_option maxRecDepth 100000 in
set_option maxHeartbeats 1000000 in
theorem turn_err {e : Int} (he : e ≠ 0) :
    Calls Try.prog 67 #[.pointer (some ⟨p, 0, none⟩), .int .i64 e] w fun e' w' => e' = .returned (.int .i64 e) ∧ w = w' := by
  have h1 : (e != 0) = true := by simpa using he
  go_enter Try.func67, Try.ntmps67
  go_wp2
  go_ret
  exact ⟨rfl, rfl⟩
set_option maxRecDepth 100000 in
set_option maxHeartbeats 1000000 in
theorem turn_free (h : DskR w p m rs room used left dead false) :
    Calls Try.prog 67 #[.pointer (some ⟨p, 0, none⟩), .int .i64 0] w fun e' w' => e' = .returned (.int .i64 0) ∧ w = w' := by
  obtain ⟨c0, c1, c2, c3, c4, c5⟩ := h.head
  go_enter Try.func67, Try.ntmps67
  go_wp2
  go_ret
  exact ⟨rfl, rfl⟩
set_option maxRecDepth 100000 in
set_option maxHeartbeats 1000000 in
theorem turn_kill (h : DskR w p m rs room used 0 dead true) :
    Calls Try.prog 67 #[.pointer (some ⟨p, 0, none⟩), .int .i64 0] w (RetHd w p (headV m room used 0 true false) (.int .i64 9)) := by
  obtain ⟨c0, c1, c2, c3, c4, c5⟩ := h.head
  have f3 := h.thaw 3
  have f4 := h.thaw 4
  have HH := Lib.hid (((Hd.refl h.1).set 3 (.bool true)).set 4 (.bool false))
  go_enter Try.func67, Try.ntmps67
  go_wp2
  go_ret
  exact ⟨rfl, HH.out⟩
set_option maxRecDepth 100000 in
set_option maxHeartbeats 1000000 in
theorem turn_step (h : DskR w p m rs room used left dead true) (hl : 0 < left) (hl2 : left ≤ 9223372036854775807) :
    Calls Try.prog 67 #[.pointer (some ⟨p, 0, none⟩), .int .i64 0] w (RetHd w p (headV m room used (left - 1) dead true) (.int .i64 0)) := by
  obtain ⟨c0, c1, c2, c3, c4, c5⟩ := h.head
  have f5 := h.thaw 5
  have h1 : (left == 0) = false := by simp; omega
  have HH := Lib.hid ((Hd.refl h.1).set 5 (.int .i64 (left - 1)))
  go_enter Try.func67, Try.ntmps67
  go_wp2
  go_ret
  exact ⟨rfl, HH.out⟩
end

theorem DskR.init (w : World) (room : Int) : DskR (w.alloc (.cells (headV none room 0 0 false false) 126)) w.heap.size none [] room 0 0 false false :=
  ⟨heap_alloc_new _ _, .inl ⟨rfl, rfl⟩, (fun r hr => by cases hr), ⟨(fun r hr => by cases hr), (fun b hb => by cases hb), List.Pairwise.nil⟩⟩
/-- 'It hands back a new disk.' -/
def RetD (w : World) (D : DS) (e : Ending) (w' : World) : Prop := ∃ p bl, e = .returned (.pointer (some ⟨p, 0, none⟩)) ∧ Dsk w' p bl D ∧ (∀ b ∈ bl, w.heap.size ≤ b) ∧ Below w.heap.size w w'
set_option maxRecDepth 100000 in
set_option maxHeartbeats 1000000 in
theorem New_any (n : Int) (w : World) (hn : I64 n) : Calls Try.prog 15 #[.int .i64 n] w (RetD w ⟨[], n.toNat, -1, false⟩) := by
  unfold I64 at hn
  have fin : RetD w ⟨[], n.toNat, -1, false⟩ (.returned (.pointer (some ⟨w.heap.size, 0, none⟩))) (w.alloc (.cells (headV none (n.toNat : Int) 0 0 false false) 126)) :=
    ⟨w.heap.size, _, rfl, ⟨none, [], 0, false, DskR.init w _, rfl, rfl, fun _ => ⟨rfl, fun h => absurd h (show ¬ (0 : Int) ≤ -1 by decide)⟩, by omega, by simp only; omega, List.Pairwise.nil, Nat.zero_le _, by simp only; omega⟩,
      (fun b hb => by simp [allB] at hb; omega), (Below.refl _ _).alloc (Nat.le_refl _) _⟩
  have HF := Lib.hid fin
  clear fin
  by_cases h0 : 0 ≤ n
  · have h2 : (n.toNat : Int) = n := by omega
    rw [h2] at HF
    have h3 : max n 0 = n := by omega
    go_enter Try.func15, Try.ntmps15
    go_wp2
    go_ret
    exact HF.out
  · have h2 : (n.toNat : Int) = 0 := by omega
    rw [h2] at HF
    have h3 : max n 0 = 0 := by omega
    go_enter Try.func15, Try.ntmps15
    go_wp2
    go_ret
    exact HF.out
end Go.Proofs.Ytcclhkoggijkaaa
namespace Go.Proofs.Ytcclhkoggijkaaa
open Go Go.RowKit

/-- Where an entry goes in, from the end. -/
def posI (es : List En) (e : En) : Nat → Nat
  | 0 => 0
  | k + 1 => match es[k]? with
    | some x => if lessE e x then posI es e k else k + 1
    | none => k + 1
theorem posI_le (es : List En) (e : En) : ∀ k, posI es e k ≤ k
  | 0 => Nat.le_refl _
  | k + 1 => by
    unfold posI
    split
    · split
      · exact Nat.le_succ_of_le (posI_le es e k)
      · exact Nat.le_refl _
    · exact Nat.le_refl _
theorem posI_at {es : List En} {e x : En} {k : Nat} (h0 : 0 < k) (hx : es[k - 1]? = some x) : posI es e k = if lessE e x then posI es e (k - 1) else k := by
  obtain ⟨j, rfl⟩ : ∃ j, k = j + 1 := ⟨k - 1, by omega⟩
  rw [Nat.add_sub_cancel] at hx ⊢
  rw [posI, hx]
def cutA4 (A : Option Addr) (k cap : Nat) : Option Addr := if cap = k then A else A.map (·.add (k * 4))
theorem cut4_l {P : Program} {t e : TypeId} (ht : P.underlying t = some (.slice e)) (he : P.elem t = e) (hs : ∀ w, (sizeOf e).run P w = .ok 4 w)
    (A : Option Addr) {n cap k : Nat} (hk : k ≤ n) (w : World) :
    (Instr.slice t (.slice A n cap) (some (.int .i64 (k : Int))) none none).run P w = .ok (.slice (cutA4 A k cap) (n - k) (cap - k)) w := by
  subst he
  rw [run_slice_l w t A n cap ht .i64 (k : Int) (by omega) (by omega)]
  simp only [hs, Result.andThen, sliced, Int.toNat_natCast, cutA4]
theorem rdv_cut4 {w : World} {A : Option Addr} {n k m cap : Nat} {vs : List Value} (h : RdV w A (n * 4) vs) (hk : k ≤ m) (hm : m ≤ n) (hc : n ≤ cap) : RdV w (cutA4 A k cap) ((m - k) * 4) ((vs.take (m * 4)).drop (k * 4)) := by
  unfold cutA4
  refine ⟨by rw [List.length_drop, List.length_take, h.1]; omega, fun hn => ?_⟩
  obtain ⟨b, off, rfl, hb, hcell⟩ := h.2 (by omega)
  rw [if_neg (by omega)]
  refine ⟨b, off + k * 4, ?_, hb, fun i x hx => ?_⟩
  · simp only [Option.map_some, Addr.add]
    split
    · next h0 => rw [h0]; rfl
    · rfl
  · rw [Nat.add_assoc]
    refine hcell (k * 4 + i) x ?_
    rw [List.getElem?_drop, List.getElem?_take] at hx
    split at hx
    · exact hx
    · cases hx
theorem REs.takeV {w : World} {A : Option Addr} {n m : Nat} {es : List En} (h : REs w A n es) (hm : m ≤ n) : ∃ us, EVs w (es.take m) us ∧ RdV w A (m * 4) us := by
  obtain ⟨h1, vs, h2, h3⟩ := h
  refine ⟨_, h2.take m, ?_⟩
  refine ⟨by rw [List.length_take, h3.1]; omega, fun hn => ?_⟩
  obtain ⟨b, off, rfl, hb, hc⟩ := h3.2 (by omega)
  refine ⟨b, off, rfl, hb, fun i x hx => hc i x ?_⟩
  rw [List.getElem?_take] at hx
  split at hx
  · exact hx
  · cases hx
theorem REs.dropV {w : World} {A : Option Addr} {n k cap : Nat} {es : List En} (h : REs w A n es) (hk : k ≤ n) (hc : n ≤ cap) : ∃ us, EVs w (es.drop k) us ∧ RdV w (cutA4 A k cap) ((n - k) * 4) us := by
  obtain ⟨h1, vs, h2, h3⟩ := h
  refine ⟨_, h2.drop k, ?_⟩
  have := rdv_cut4 h3 hk (Nat.le_refl _) hc
  rw [List.take_of_length_le (by rw [h3.1]; omega)] at this
  exact this
theorem OwnE.mono {w : World} {base base' n c : Nat} {A : Option Addr} {vs : List Value} (h : OwnE w base A n c vs) (hb : base' ≤ base) : OwnE w base' A n c vs := by
  refine ⟨h.1, ?_⟩
  rcases h.2 with h1 | ⟨g, cap, cur, h1, h2, h3⟩
  · exact .inl h1
  · exact .inr ⟨g, cap, cur, h1, Nat.le_trans hb h2, h3⟩
theorem rdv_of_cl {w : World} {g : Nat} {v0 v1 v2 v3 : Value} {t : TypeId} (h : Cl w g #[v0, v1, v2, v3] t) : RdV w (some ⟨g, 0, none⟩) (1 * 4) [v0, v1, v2, v3] :=
  ⟨rfl, fun _ => ⟨g, 0, rfl, h.lt, fun i x hx => by rw [Nat.zero_add, h.cell i]; simpa using hx⟩⟩
def insL (es : List En) (e : En) : List En := es.take (posI es e es.length) ++ e :: es.drop (posI es e es.length)
theorem rdv_take4 {w : World} {A : Option Addr} {n m : Nat} {vs : List Value} (h : RdV w A (n * 4) vs) (hm : m ≤ n) : RdV w A (m * 4) (vs.take (m * 4)) := by
  refine ⟨by rw [List.length_take, h.1]; omega, fun hn => ?_⟩
  obtain ⟨b, off, rfl, hb, hc⟩ := h.2 (by omega)
  refine ⟨b, off, rfl, hb, fun i x hx => hc i x ?_⟩
  rw [List.getElem?_take] at hx
  split at hx
  · exact hx
  · cases hx
/-- What an insertion comes to: a row of the call's own, with the values that were handed in. -/
def RetIns (w : World) (n : Nat) (es : List En) (us : List Value) (e : Ending) (w' : World) : Prop :=
  ∃ L d vs, e = .returned (.slice L n d) ∧ OwnE w' w.heap.size L n d vs ∧ EVs w' es vs ∧ Below w.heap.size w w' ∧ ∀ u ∈ vs, u ∈ us
theorem RetIns.out {w : World} {n : Nat} {es : List En} {us : List Value} {e : Ending} {w' : World} (h : RetIns w n es us e w') : ∃ L d vs, e = .returned (.slice L n d) ∧ OwnE w' w.heap.size L n d vs ∧ EVs w' es vs ∧ Below w.heap.size w w' ∧ ∀ u ∈ vs, u ∈ us := h
set_option maxRecDepth 100000 in
set_option maxHeartbeats 8000000 in
theorem Insert_any {w : World} {A : Option Addr} {n c : Nat} {es : List En} {e : En} {ovs : List Value} {v0 v1 v2 v3 : Value} (hv : EVs w es ovs) (hd : RdV w A (n * 4) ovs) (hl : es.length = n) (hc : n ≤ c) (hn : n ≤ 1099511627776) (hs : ∀ x ∈ es, SzE x) (he : EV w e v0 v1 v2 v3) (se : SzE e) :
    Calls Try.prog 84 #[.slice A n c, .agg #[v0, v1, v2, v3]] w (RetIns w (n + 1) (insL es e) ([v0, v1, v2, v3] ++ ovs)) := by
  have h : REs w A n es := REs.mk hv hd hl
  obtain ⟨K, kn, kc, V, vn, vc, rfl, rfl, rfl, rfl, _⟩ := he.parts
  obtain ⟨U, hU⟩ : ∃ U, U = w.alloc (.cells #[.slice K kn kc, .int .u64 (e.seq : Int), .int .u8 (e.kind : Int), .slice V vn vc] 37) := ⟨_, rfl⟩
  have bU : Below w.heap.size w U := by rw [hU]; exact (Below.refl _ _).alloc (Nat.le_refl _) _
  have XU := Lib.hid (show Cl U w.heap.size #[.slice K kn kc, .int .u64 (e.seq : Int), .int .u8 (e.kind : Int), .slice V vn vc] 37 by rw [hU]; exact Cl.new _ _ _)
  have HE := Lib.hid (he.below bU)
  have H1 := Lib.hid (h.below bU)
  have HV := Lib.hid (hv.below bU)
  have HD := Lib.hid (hd.below bU)
  have HLN := Lib.hid h.len
  have HS := Lib.hid hs
  have BU := Lib.hid bU
  clear h hs he bU hv hd hl
  go_enter Try.func84, Try.ntmps84
  go_upto_region 1 with (fail)
  rw [← hU]
  clear hU
  go_wp2_with fail
  go_loopw [5] (fun s5 wr => ∃ k : Nat, k ≤ n ∧ s5 = .int .i64 (k : Int) ∧ posI es e k = posI es e n ∧ Below U.heap.size U wr) (fun s _ => (intOf s).toNat)
  case atStart => exact ⟨n, Nat.le_refl _, rfl, rfl, Below.refl _ _⟩
  case round =>
    obtain ⟨k, hk, rfl, hp, hB⟩ := hrel
    have HB := Lib.hid hB
    have HP := Lib.hid hp
    have XR := Lib.hid (XU.out.below hB)
    have HER := Lib.hid (HE.out.below hB)
    have hR := H1.out.below hB
    clear hB hp
    go_upto_region 2 with (fail)
    go_cut [19] from 9 to 21 (fun s19 wx => ∃ z, s19 = .bool z ∧ Below wr.heap.size wr wx ∧ (z = true → 0 < k ∧ posI es e k = posI es e (k - 1)) ∧ (z = false → posI es e k = k))
    case first =>
      by_cases h0 : 0 < k
      · obtain ⟨b, off, hAb, hbl⟩ := hR.pos (by omega)
        subst hAb
        obtain ⟨x, u0, u1, u2, u3, hx, c0, c1, c2, c3, hev⟩ := hR.at_ (k - 1) (by omega)
        have hsx := HS.out x (List.mem_of_getElem? hx)
        have HL : Hid (∀ wx, Below wr.heap.size wr wx → Calls Try.prog 118 #[.agg #[.slice K kn kc, .int .u64 (e.seq : Int), .int .u8 (e.kind : Int), .slice V vn vc], .agg #[u0, u1, u2, u3]] wx (RetT wx (lessE e x))) := Lib.hid (fun wx hb => refLess_any (HER.out.below hb) (hev.below hb) se hsx)
        have HSX : Hid (∀ wx, Below wr.heap.size wr wx → wx.cell? ⟨b, off + (k - 1) * 4, none⟩ = some u0 ∧ wx.cell? ⟨b, off + (k - 1) * 4 + 1, none⟩ = some u1 ∧ wx.cell? ⟨b, off + (k - 1) * 4 + 2, none⟩ = some u2 ∧ wx.cell? ⟨b, off + (k - 1) * 4 + 3, none⟩ = some u3 ∧ wx.cell? ⟨w.heap.size, 0, none⟩ = some (.slice K kn kc) ∧ wx.cell? ⟨w.heap.size, 1, none⟩ = some (.int .u64 (e.seq : Int)) ∧ wx.cell? ⟨w.heap.size, 2, none⟩ = some (.int .u8 (e.kind : Int)) ∧ wx.cell? ⟨w.heap.size, 3, none⟩ = some (.slice V vn vc)) := Lib.hid (fun wx h => by
          obtain ⟨d0, d1, d2, d3, _⟩ := (XR.out.below h).c4
          exact ⟨(h.cell hbl).trans c0, (h.cell hbl).trans c1, (h.cell hbl).trans c2, (h.cell hbl).trans c3, d0, d1, d2, d3⟩)
        have hB0 : Below wr.heap.size wr wr.drew := (Below.refl _ _).drew
        have hk1 : IntKind.i64.wrap ((k : Int) - 1) = ((k - 1 : Nat) : Int) := by rw [IntWalk.i64_in _ (by omega)]; omega
        have hk2 : k - 1 < n := by omega
        obtain ⟨d0, d1, d2, d3, _⟩ := XR.out.c4
        have HXK := Lib.hid hx
        clear hR hx hev
        go_region_law (first | (go_simp; go_at_call 118; with_reducible refine (HL.out _ (by assumption)).mono ?_; intro e1 wn hq; obtain ⟨h1, bn⟩ := RetT.outD hq; subst h1; have bn' := belowT' (by assumption : Below wr.heap.size wr _) bn; obtain ⟨p0, p1, p2, p3, p4, p5, p6, p7⟩ := HSX.out _ bn'))
        all_goals
          have hpz : posI es e k = if lessE e x then posI es e (k - 1) else k := posI_at h0 HXK.out
          have hf : (∃ z, Value.bool (lessE e x) = .bool z ∧ (z = true → 0 < k ∧ posI es e k = posI es e (k - 1)) ∧ (z = false → posI es e k = k)) := ⟨_, rfl, fun h => ⟨h0, by rw [hpz, if_pos h]⟩, fun h => by rw [hpz, h]; rfl⟩
          have HFF := Lib.hid hf
          clear hpz hf
          go_wp2_with fail
          go_meet
          obtain ⟨z, q1, q2, q3⟩ := HFF.out
          exact ⟨z, q1, by assumption, q2, q3⟩
      · have hk0 : k = 0 := by omega
        subst hk0
        clear hR h0
        go_quiet (fail)
        go_wp2
        go_meet
        exact ⟨false, rfl, below_drewN (Below.refl _ _) nq, (fun h => by cases h), fun _ => rfl⟩
    case rest =>
      obtain ⟨z, rfl, hbc, hz1, hz2⟩ := hcut
      have BC := Lib.hid (HB.out.trans (hbc.mono HB.out.size))
      cases z with
      | true =>
        obtain ⟨h0, hp⟩ := hz1 rfl
        have hk1 : IntKind.i64.wrap ((k : Int) - 1) = ((k - 1 : Nat) : Int) := by rw [IntWalk.i64_in _ (by omega)]; omega
        have HPP := Lib.hid hp
        clear hz1 hz2 hbc hp hR
        go_wp2_with fail
        go_roundw
        case rel => exact ⟨k - 1, by omega, by go_num, by rw [← HPP.out]; exact HP.out, BC.out⟩
        case measure => simp [intOf]; omega
      | false =>
        have hkp : k = posI es e es.length := by rw [HLN.out, ← HP.out]; exact (hz2 rfl).symm
        have HKP := Lib.hid hkp
        have sc := BC.out.size
        have hEV := HV.out.below BC.out
        have hDV := HD.out.below BC.out
        obtain ⟨us1, hu1⟩ : ∃ us1, us1 = ovs.take (k * 4) := ⟨_, rfl⟩
        obtain ⟨us2, hu2⟩ : ∃ us2, us2 = ovs.drop (k * 4) := ⟨_, rfl⟩
        have q1 : EVs wc (es.take k) us1 := by rw [hu1]; exact hEV.take k
        have q2 : RdV wc A (k * 4) us1 := by rw [hu1]; exact rdv_take4 hDV hk
        have q3 : EVs wc (es.drop k) us2 := by rw [hu2]; exact hEV.drop k
        have q4 : RdV wc (cutA4 A k c) ((n - k) * 4) us2 := by
          have := rdv_cut4 hDV hk (Nat.le_refl _) hc
          rw [List.take_of_length_le (by rw [hDV.1]; omega)] at this
          rw [hu2]; exact this
        have HMEM : Hid (∀ u, u ∈ us1 ∨ u ∈ us2 → u ∈ ovs) := Lib.hid (fun u h => by
          rcases h with h | h
          · rw [hu1] at h; exact List.mem_of_mem_take h
          · rw [hu2] at h; exact List.mem_of_mem_drop h)
        have Q1 := Lib.hid q1
        have Q2 := Lib.hid q2
        have Q3 := Lib.hid q3
        have Q4 := Lib.hid q4
        have HEC := Lib.hid (HER.out.below hbc)
        have XC := Lib.hid (XR.out.below hbc)
        have hcl : ∀ w, (Instr.slice 22 (.slice A n c) none (some (.int .i64 (k : Int))) none).run Try.prog w = .ok (.slice A k c) w := fun w => cut4_h Try.underlying22 elem4 size4 A (by omega) w
        have hcr : ∀ w, (Instr.slice 22 (.slice A n c) (some (.int .i64 (k : Int))) none none).run Try.prog w = .ok (.slice (cutA4 A k c) (n - k) (c - k)) w := fun w => cut4_l Try.underlying22 elem4 size4 A hk w
        clear hz1 hz2 hbc hkp hEV hDV q1 q2 q3 q4 hR hu1 hu2
        have b0 : Below wc.heap.size wc (wc.alloc (.cells #[] 37)) := (Below.refl _ _).alloc (Nat.le_refl _) _
        have r1 := Lib.hid (Q2.out.below b0)
        have o0 := Lib.hid (OwnE.zero wc)
        have B0 := Lib.hid b0
        clear b0
        go_wp2_with (at_builtin; refine wpList_app4 (wc.alloc (.cells #[] 37)) rfl _ _ 22 rfl wc.heap.size _ 64 Try.underlying22 info_ent rfl (some ⟨wc.heap.size, 0, none⟩) 0 0 [] rfl o0.out A k c us1 rfl r1.out Q1.out.cells ?_ ?_ ?_ ?_)
        · omega
        · omega
        · simp
        intro A1 c1 w1 o1 _ b1
        have O1 := Lib.hid o1
        have B1 := Lib.hid (B0.out.trans b1)
        have s1 := B1.out.size
        have X1 := Lib.hid (XC.out.base B1.out XC.out.lt)
        obtain ⟨d0, d1, d2, d3, _⟩ := X1.out.c4
        have bl : Below w1.heap.size w1 (w1.alloc (.cells #[.slice K kn kc, .int .u64 (e.seq : Int), .int .u8 (e.kind : Int), .slice V vn vc] 37)) := (Below.refl _ _).alloc (Nat.le_refl _) _
        have O1' := Lib.hid (O1.out.below bl)
        have r2 := Lib.hid (rdv_of_cl (Cl.new w1 #[.slice K kn kc, .int .u64 (e.seq : Int), .int .u8 (e.kind : Int), .slice V vn vc] 37))
        have BL := Lib.hid bl
        clear o1 b1 hcl bl
        go_wp2_with (at_builtin; refine wpList_app4 (w1.alloc (.cells #[.slice K kn kc, .int .u64 (e.seq : Int), .int .u8 (e.kind : Int), .slice V vn vc] 37)) rfl _ _ 22 rfl wc.heap.size _ 64 Try.underlying22 info_ent rfl A1 k c1 us1 rfl O1'.out (some ⟨w1.heap.size, 0, none⟩) 1 1 [.slice K kn kc, .int .u64 (e.seq : Int), .int .u8 (e.kind : Int), .slice V vn vc] rfl r2.out HEC.out.cells ?_ ?_ ?_ ?_)
        · omega
        · omega
        · simp; omega
        intro A2 c2 w2 o2 _ b2
        have O2 := Lib.hid o2
        have B2 := Lib.hid ((B1.out.trans (BL.out.mono s1)).trans b2)
        have s2 := B2.out.size
        have r3 := Lib.hid (Q4.out.below B2.out)
        clear o2 b2 d0 d1 d2 d3
        go_wp2_with (at_builtin; refine wpList_app4 w2 rfl _ _ 22 rfl wc.heap.size _ 64 Try.underlying22 info_ent rfl A2 (k + 1) c2 (us1 ++ [.slice K kn kc, .int .u64 (e.seq : Int), .int .u8 (e.kind : Int), .slice V vn vc]) rfl O2.out (cutA4 A k c) (n - k) (c - k) us2 rfl r3.out Q3.out.cells ?_ ?_ ?_ ?_)
        · omega
        · omega
        · omega
        intro A3 c3 w3 o3 _ b3
        have hkn : k + 1 + (n - k) = n + 1 := by omega
        rw [hkn] at o3
        have B3 := B2.out.trans b3
        have hev : EVs w3 (insL es e) (us1 ++ Value.slice K kn kc :: Value.int .u64 (e.seq : Int) :: Value.int .u8 (e.kind : Int) :: Value.slice V vn vc :: us2) := by
          have := ((Q1.out.app (EVs.one HEC.out)).app Q3.out).below B3
          rw [insL, ← HKP.out]
          simpa using this
        have HFIN : Hid (RetIns w (n + 1) (insL es e) ([.slice K kn kc, .int .u64 (e.seq : Int), .int .u8 (e.kind : Int), .slice V vn vc] ++ ovs) (.returned (.slice A3 (n + 1) c3)) w3) := Lib.hid ⟨A3, c3, _, rfl, OwnE.mono o3 (by have := BU.out.size; omega), hev, belowT' (BU.out.trans (BC.out.mono (by have := BU.out.size; omega))) B3, fun u hu => by
          have hm := HMEM.out u
          simp only [List.cons_append, List.nil_append, List.mem_append, List.mem_cons] at hu ⊢
          rcases hu with h | h | h | h | h | h
          · exact .inr (.inr (.inr (.inr (hm (.inl h)))))
          · exact .inl h
          · exact .inr (.inl h)
          · exact .inr (.inr (.inl h))
          · exact .inr (.inr (.inr (.inl h)))
          · exact .inr (.inr (.inr (.inr (hm (.inr h)))))⟩
        clear o3 b3 B3 hev hcr
        rw [hkn]
        go_wp2
        go_ret
        exact HFIN.out
end Go.Proofs.Ytcclhkoggijkaaa
namespace Go.Proofs.Ytcclhkoggijkaaa
open Go Go.RowKit

theorem cmpB_refl : ∀ xs : List UInt8, cmpB xs xs = 0
  | [] => rfl
  | x :: xs => by rw [cmpB_same, cmpB_refl xs]
theorem cmpB_trans : ∀ {xs ys zs : List UInt8}, cmpB xs ys < 0 → cmpB ys zs < 0 → cmpB xs zs < 0
  | [], [], _, h, _ => by simp [cmpB] at h
  | _ :: _, [], _, h, _ => by simp [cmpB] at h
  | [], _ :: _, [], _, h => by simp [cmpB] at h
  | [], _ :: _, _ :: _, _, _ => by simp [cmpB]
  | _ :: _, _ :: _, [], _, h => by simp [cmpB] at h
  | x :: xs, y :: ys, z :: zs, h, k => by
    rcases Nat.lt_trichotomy x.toNat y.toNat with q | q | q
    · rcases Nat.lt_trichotomy y.toNat z.toNat with r | r | r
      · rw [cmpB_lt _ _ (by omega)]; decide
      · rw [cmpB_lt _ _ (by omega)]; decide
      · rw [cmpB_gt _ _ r] at k; simp at k
    · rw [cmpB_eq _ _ q] at h
      rcases Nat.lt_trichotomy y.toNat z.toNat with r | r | r
      · rw [cmpB_lt _ _ (by omega)]; decide
      · rw [cmpB_eq _ _ r] at k
        rw [cmpB_eq _ _ (by omega)]
        exact cmpB_trans h k
      · rw [cmpB_gt _ _ r] at k; simp at k
    · rw [cmpB_gt _ _ q] at h; simp at h
theorem lessE_iff {a b : En} : lessE a b = true ↔ cmpB a.key b.key < 0 ∨ (a.key = b.key ∧ b.seq < a.seq) := by
  unfold lessE
  simp only [Bool.or_eq_true, Bool.and_eq_true, decide_eq_true_eq]
  constructor
  · rintro (h | ⟨h, k⟩)
    · exact .inl h
    · exact .inr ⟨cmpB_zero _ _ h, k⟩
  · rintro (h | ⟨h, k⟩)
    · exact .inl h
    · exact .inr ⟨by rw [h, cmpB_refl], k⟩
theorem sameK_iff {a b : En} : sameK a b = true ↔ a.key = b.key ∧ a.seq = b.seq := by
  unfold sameK eqB
  simp
theorem lessE_trans {a b c : En} (h : lessE a b = true) (k : lessE b c = true) : lessE a c = true := by
  rw [lessE_iff] at h k ⊢
  rcases h with h | ⟨h, h'⟩ <;> rcases k with k | ⟨k, k'⟩
  · exact .inl (cmpB_trans h k)
  · exact .inl (by rw [← k]; exact h)
  · exact .inl (by rw [h]; exact k)
  · exact .inr ⟨h.trans k, by omega⟩
theorem lessE_irr (a : En) : lessE a a = false := by
  cases h : lessE a a with
  | false => rfl
  | true =>
    rcases lessE_iff.1 h with h | ⟨_, h⟩
    · rw [cmpB_refl] at h; simp at h
    · omega
theorem lessE_asym {a b : En} (h : lessE a b = true) : lessE b a = false := by
  cases k : lessE b a with
  | false => rfl
  | true => have := lessE_trans h k; rw [lessE_irr] at this; cases this
theorem lessE_tri (a b : En) : lessE a b = true ∨ lessE b a = true ∨ sameK a b = true := by
  rcases Int.lt_trichotomy (cmpB a.key b.key) 0 with h | h | h
  · exact .inl (lessE_iff.2 (.inl h))
  · have hk := cmpB_zero _ _ h
    rcases Nat.lt_trichotomy a.seq b.seq with q | q | q
    · exact .inr (.inl (lessE_iff.2 (.inr ⟨hk.symm, q⟩)))
    · exact .inr (.inr (sameK_iff.2 ⟨hk, q⟩))
    · exact .inl (lessE_iff.2 (.inr ⟨hk, q⟩))
  · exact .inr (.inl (lessE_iff.2 (.inl (by rw [cmpB_swap]; omega))))
theorem sameK_not {a b : En} (h : sameK a b = true) : lessE a b = false ∧ lessE b a = false := by
  obtain ⟨h1, h2⟩ := sameK_iff.1 h
  have key : ∀ {x y : En}, x.key = y.key → x.seq = y.seq → lessE x y = false := fun {x y} e1 e2 => by
    cases k : lessE x y with
    | false => rfl
    | true =>
      rcases lessE_iff.1 k with q | ⟨_, q⟩
      · rw [e1, cmpB_refl] at q; simp at q
      · omega
  exact ⟨key h1 h2, key h1.symm h2.symm⟩
end Go.Proofs.Ytcclhkoggijkaaa
namespace Go.Proofs.Ytcclhkoggijkaaa
open Go Go.RowKit

theorem Made.out {base : Nat} {w w' : World} {xs : List UInt8} {e : Ending} (h : Made base w xs e w') : ∃ A n c, e = .returned (.slice A n c) ∧ Own 5 w' base A n c xs ∧ Below base w w' := h
section
variable {w : World} {a : En} {v0 v1 v2 v3 : Value}
end
end Go.Proofs.Ytcclhkoggijkaaa
namespace Go.Proofs.Ytcclhkoggijkaaa
open Go Go.RowKit

/-- How many first bytes both have alike. -/
def comB : List UInt8 → List UInt8 → Nat
  | x :: xs, y :: ys => if x = y then comB xs ys + 1 else 0
  | _, _ => 0
theorem comB_le : ∀ (xs ys : List UInt8), comB xs ys ≤ xs.length ∧ comB xs ys ≤ ys.length
  | [], _ => by simp [comB]
  | _ :: _, [] => by simp [comB]
  | x :: xs, y :: ys => by
    have := comB_le xs ys
    unfold comB
    split
    · simp only [List.length_cons]; omega
    · simp
theorem comB_lt : ∀ {xs ys : List UInt8} {i : Nat}, i < comB xs ys → ∃ b, xs[i]? = some b ∧ ys[i]? = some b
  | [], _, _, h => by simp [comB] at h
  | _ :: _, [], _, h => by simp [comB] at h
  | x :: xs, y :: ys, i, h => by
    unfold comB at h
    split at h
    · rename_i e
      subst e
      cases i with
      | zero => exact ⟨x, rfl, rfl⟩
      | succ j =>
        have := comB_lt (xs := xs) (ys := ys) (i := j) (by omega)
        simpa using this
    · omega
theorem comB_at : ∀ {xs ys : List UInt8} {i : Nat}, i = comB xs ys → i = xs.length ∨ i = ys.length ∨ ∃ a b, xs[i]? = some a ∧ ys[i]? = some b ∧ a ≠ b
  | [], _, _, h => .inl (by simpa [comB] using h)
  | _ :: _, [], _, h => .inr (.inl (by simpa [comB] using h))
  | x :: xs, y :: ys, i, h => by
    unfold comB at h
    split at h
    · rename_i e
      subst e
      obtain ⟨j, rfl⟩ : ∃ j, i = j + 1 := ⟨comB xs ys, h⟩
      rcases comB_at (xs := xs) (ys := ys) (i := j) (by omega) with h1 | h1 | ⟨a, b, h1, h2, h3⟩
      · exact .inl (by simp [h1])
      · exact .inr (.inl (by simp [h1]))
      · exact .inr (.inr ⟨a, b, by simpa using h1, by simpa using h2, h3⟩)
    · subst h
      exact .inr (.inr ⟨x, y, rfl, rfl, by assumption⟩)
def RetCo (w : World) (z : Nat) (e : Ending) (w' : World) : Prop := e = .returned (.int .i64 (z : Int)) ∧ ∃ q, w' = w.drewN q
set_option maxRecDepth 100000 in
set_option maxHeartbeats 4000000 in
theorem common_any (A B : Option Addr) (n m c d : Nat) (xs ys : List UInt8) (w : World) (hx : Rd w A n xs) (hy : Rd w B m ys) (hn : n ≤ 1099511627776) (hm : m ≤ 1099511627776) :
    Calls Try.prog 189 #[.slice A n c, .slice B m d] w (RetCo w (comB xs ys)) := by
  obtain ⟨K, hK⟩ : ∃ K, K = comB xs ys := ⟨_, rfl⟩
  rw [← hK]
  have hle := comB_le xs ys
  rw [← hK] at hle
  have hlx := hx.len
  have hly := hy.len
  have HK := Lib.hid hK
  have HX := Lib.hid hx
  have HY := Lib.hid hy
  clear hK hx hy
  go_enter Try.func189, Try.ntmps189
  go_wp2_with fail
  go_loopw [5] (fun vi wr => ∃ i q : Nat, vi = .int .i64 (i : Int) ∧ i ≤ K ∧ wr = w.drewN q) (fun vi _ => K - (intOf vi).toNat)
  case atStart => exact ⟨0, 0, rfl, Nat.zero_le _, rfl⟩
  case round =>
    obtain ⟨i, q, rfl, hi, rfl⟩ := hrel
    obtain ⟨W, hW⟩ : ∃ W, W = w.drewN q := ⟨_, rfl⟩
    by_cases hlt : i < K
    · obtain ⟨b, h1, h2⟩ := comB_lt (xs := xs) (ys := ys) (i := i) (by rw [← HK.out]; exact hlt)
      have hin : i < n := by omega
      have him : i < m := by omega
      obtain ⟨ba, oa, rfl, _⟩ := HX.out.pos (by omega)
      obtain ⟨bb, ob, rfl, _⟩ := HY.out.pos (by omega)
      obtain ⟨x, hx1, hx2, _⟩ := HX.out.at_ i hin
      obtain ⟨y, hy1, hy2, _⟩ := HY.out.at_ i him
      obtain rfl : x = y := by
        rw [h1] at hx1; rw [h2] at hy1
        rw [← Option.some.inj hx1, ← Option.some.inj hy1]
      have c1 : W.cell? ⟨ba, oa + i, none⟩ = some (.int .u8 (x.toNat : Int)) := by rw [hW]; exact hx2
      have c2 : W.cell? ⟨bb, ob + i, none⟩ = some (.int .u8 (x.toNat : Int)) := by rw [hW]; exact hy2
      rw [← hW]
      have HW := Lib.hid hW
      clear hW h1 h2 hx1 hx2 hy1 hy2
      go_wp2_with fail
      go_quiet (fail)
      rw [HW.out]
      go_wp2_with fail
      go_roundw
      case rel => exact ⟨i + 1, _, by go_num, by omega, rfl⟩
      case measure => simp [intOf]; omega
    · obtain rfl : i = K := by omega
      rcases comB_at (xs := xs) (ys := ys) (i := i) HK.out with h1 | h1 | ⟨a, b, h1, h2, h3⟩
      · have hin : ¬ i < n := by omega
        rw [← hW]
        have HW := Lib.hid hW
        clear hW
        go_wp2_with fail
        go_quiet (fail)
        rw [HW.out]
        go_wp2_with fail
        go_ret
        exact ⟨rfl, _, World.drewN_drewN _ _ _⟩
      · have him : ¬ i < m := by omega
        rw [← hW]
        have HW := Lib.hid hW
        have HH1 := Lib.hid (And.intro h1 (And.intro hlx hly))
        clear hW h1 hlx hly hle hi hlt
        by_cases hin : i < n
        · have d1 : decide (i < n) = true := by simpa using hin
          have d2 : decide (i < m) = false := by simpa using him
          have d3 : decide ((i : Int) < (m : Int)) = false := by simp; omega
          have d4 : decide (m ≤ i) = true := by simp; omega
          go_wp2_with fail
          go_quiet (fail)
          rw [HW.out]
          go_wp2_with fail
          go_ret
          exact ⟨rfl, _, World.drewN_drewN _ _ _⟩
        · have d1 : decide (i < n) = false := by simpa using hin
          have d4 : decide (n ≤ i) = true := by simp; omega
          go_wp2_with fail
          go_quiet (fail)
          rw [HW.out]
          go_wp2_with fail
          go_ret
          exact ⟨rfl, _, World.drewN_drewN _ _ _⟩
      · have hin : i < n := by have := (List.getElem?_eq_some_iff.1 h1).1; omega
        have him : i < m := by have := (List.getElem?_eq_some_iff.1 h2).1; omega
        obtain ⟨ba, oa, rfl, _⟩ := HX.out.pos (by omega)
        obtain ⟨bb, ob, rfl, _⟩ := HY.out.pos (by omega)
        obtain ⟨x, hx1, hx2, _⟩ := HX.out.at_ i hin
        obtain ⟨y, hy1, hy2, _⟩ := HY.out.at_ i him
        have hne : x.toNat ≠ y.toNat := fun e => h3 (by
          rw [h1] at hx1; rw [h2] at hy1
          rw [Option.some.inj hx1, Option.some.inj hy1]
          exact UInt8.toNat_inj.1 e)
        have t1 : ((x.toNat : Int) == (y.toNat : Int)) = false := by simp; omega
        have t2 : ¬ (x.toNat : Int) = (y.toNat : Int) := by omega
        have c1 : W.cell? ⟨ba, oa + i, none⟩ = some (.int .u8 (x.toNat : Int)) := by rw [hW]; exact hx2
        have c2 : W.cell? ⟨bb, ob + i, none⟩ = some (.int .u8 (y.toNat : Int)) := by rw [hW]; exact hy2
        rw [← hW]
        have HW := Lib.hid hW
        clear hW h1 h2 h3 hx1 hx2 hy1 hy2
        go_wp2_with fail
        go_quiet (fail)
        rw [HW.out]
        go_wp2_with fail
        go_ret
        exact ⟨rfl, _, World.drewN_drewN _ _ _⟩
/-- The first k pairs of neighbours stand in order. -/
def ordK (es : List En) : Nat → Bool
  | 0 => true
  | i + 1 => ordK es i && (match es[i]?, es[i + 1]? with
    | some a, some b => lessE a b
    | _, _ => true)
def ordE (es : List En) : Bool := ordK es (es.length - 1)
theorem ordK_step {es : List En} {i : Nat} {a b : En} (h1 : es[i]? = some a) (h2 : es[i + 1]? = some b) : ordK es (i + 1) = (ordK es i && lessE a b) := by rw [ordK, h1, h2]
theorem ordK_false {es : List En} {i : Nat} (h : ordK es i = false) : ∀ j, i ≤ j → ordK es j = false
  | 0, hj => by obtain rfl : i = 0 := by omega
                exact h
  | j + 1, hj => by
    by_cases e : i = j + 1
    · subst e; exact h
    · rw [ordK, ordK_false h j (by omega), Bool.false_and]
set_option maxRecDepth 100000 in
set_option maxHeartbeats 4000000 in
theorem inOrder8_any {w : World} {A : Option Addr} {n c : Nat} {es : List En} (h : REs w A n es) (hn : n ≤ 1099511627776) : Calls Try.prog 154 #[.slice A n c] w (RetT w (ordE es)) := by
  have HL := Lib.hid h.len
  have HR := Lib.hid h
  clear h
  go_enter Try.func154, Try.ntmps154
  go_wp2_with fail
  go_loopw [3] (fun s3 wr => ∃ i : Nat, (i < n ∨ i = 0) ∧ s3 = .int .i64 ((i + 1 : Nat) : Int) ∧ ordK es i = true ∧ Below w.heap.size w wr) (fun s _ => n + 1 - (intOf s).toNat)
  case atStart => exact ⟨0, .inr rfl, rfl, rfl, Below.refl _ _⟩
  case round =>
    obtain ⟨i, hi, rfl, ho, hB⟩ := hrel
    have HB := Lib.hid hB
    have HO := Lib.hid ho
    have hR := HR.out.below hB
    clear hB ho
    obtain ⟨k, hk⟩ : ∃ k, k = i + 1 := ⟨_, rfl⟩
    rw [← hk]
    by_cases hlt : k < n
    · obtain ⟨b, off, hAb, hbl⟩ := hR.pos (by omega)
      subst hAb
      obtain ⟨x, v0, v1, v2, v3, hx, c0, c1, c2, c3, hev⟩ := hR.at_ i (by omega)
      obtain ⟨y, u0, u1, u2, u3, hy, d0, d1, d2, d3, hew⟩ := hR.at_ k hlt
      have HL1 : Hid (∀ wx, Below wr.heap.size wr wx → Calls Try.prog 80 #[.agg #[v0, v1, v2, v3], .agg #[u0, u1, u2, u3]] wx (RetT wx (lessE x y))) := Lib.hid (fun wx hb => memLess_any (hev.below hb) (hew.below hb))
      have HSX : Hid (∀ wx, Below wr.heap.size wr wx → wx.cell? ⟨b, off + i * 4, none⟩ = some v0 ∧ wx.cell? ⟨b, off + i * 4 + 1, none⟩ = some v1 ∧ wx.cell? ⟨b, off + i * 4 + 2, none⟩ = some v2 ∧ wx.cell? ⟨b, off + i * 4 + 3, none⟩ = some v3 ∧ wx.cell? ⟨b, off + k * 4, none⟩ = some u0 ∧ wx.cell? ⟨b, off + k * 4 + 1, none⟩ = some u1 ∧ wx.cell? ⟨b, off + k * 4 + 2, none⟩ = some u2 ∧ wx.cell? ⟨b, off + k * 4 + 3, none⟩ = some u3) := Lib.hid (fun wx h =>
        ⟨(h.cell (p := ⟨b, off + i * 4, none⟩) hbl).trans c0, (h.cell (p := ⟨b, off + i * 4 + 1, none⟩) hbl).trans c1, (h.cell (p := ⟨b, off + i * 4 + 2, none⟩) hbl).trans c2, (h.cell (p := ⟨b, off + i * 4 + 3, none⟩) hbl).trans c3, (h.cell (p := ⟨b, off + k * 4, none⟩) hbl).trans d0, (h.cell (p := ⟨b, off + k * 4 + 1, none⟩) hbl).trans d1, (h.cell (p := ⟨b, off + k * 4 + 2, none⟩) hbl).trans d2, (h.cell (p := ⟨b, off + k * 4 + 3, none⟩) hbl).trans d3⟩)
      have hB0 : Below wr.heap.size wr wr.drew := (Below.refl _ _).drew
      have hk1 : IntKind.i64.wrap ((k : Int) - 1) = (i : Int) := by rw [IntWalk.i64_in _ (by omega)]; omega
      have hin : i < n := by omega
      have HST : Hid (ordK es k = (ordK es i && lessE x y)) := Lib.hid (by rw [hk]; exact ordK_step hx (by rw [← hk]; exact hy))
      have HKI := Lib.hid hk
      obtain ⟨z, hz⟩ : ∃ z, z = lessE x y := ⟨_, rfl⟩
      rw [← hz] at HL1 HST
      clear hR hx hev hy hew hz hk
      cases z with
      | true =>
        go_wp2_with fail
        go_region_held3 (fun wx => wx.cell? ⟨b, off + i * 4, none⟩ = some v0 ∧ wx.cell? ⟨b, off + i * 4 + 1, none⟩ = some v1 ∧ wx.cell? ⟨b, off + i * 4 + 2, none⟩ = some v2 ∧ wx.cell? ⟨b, off + i * 4 + 3, none⟩ = some v3 ∧ wx.cell? ⟨b, off + k * 4, none⟩ = some u0 ∧ wx.cell? ⟨b, off + k * 4 + 1, none⟩ = some u1 ∧ wx.cell? ⟨b, off + k * 4 + 2, none⟩ = some u2 ∧ wx.cell? ⟨b, off + k * 4 + 3, none⟩ = some u3) (first | assumption | exact HSX.out _ hB0)
          (first | (go_at_call 80; with_reducible refine (HL1.out _ (by assumption)).mono ?_; intro e1 wn hq; obtain ⟨h1, bn⟩ := RetT.outD hq; subst h1; have bn' := belowT' (by assumption : Below wr.heap.size wr _) bn; have hS1 := HSX.out _ bn'))
        all_goals
          have HBN : Hid (Below w.heap.size w _) := Lib.hid (HB.out.trans ((by assumption : Below wr.heap.size wr wn).mono HB.out.size))
          go_wp2_with fail
          go_roundw
          case rel => exact ⟨k, .inl hlt, by go_num, by rw [HST.out, HO.out]; rfl, HBN.out⟩
          case measure => simp [intOf]; omega
      | false =>
        go_wp2_with fail
        go_region_held3 (fun wx => wx.cell? ⟨b, off + i * 4, none⟩ = some v0 ∧ wx.cell? ⟨b, off + i * 4 + 1, none⟩ = some v1 ∧ wx.cell? ⟨b, off + i * 4 + 2, none⟩ = some v2 ∧ wx.cell? ⟨b, off + i * 4 + 3, none⟩ = some v3 ∧ wx.cell? ⟨b, off + k * 4, none⟩ = some u0 ∧ wx.cell? ⟨b, off + k * 4 + 1, none⟩ = some u1 ∧ wx.cell? ⟨b, off + k * 4 + 2, none⟩ = some u2 ∧ wx.cell? ⟨b, off + k * 4 + 3, none⟩ = some u3) (first | assumption | exact HSX.out _ hB0)
          (first | (go_at_call 80; with_reducible refine (HL1.out _ (by assumption)).mono ?_; intro e1 wn hq; obtain ⟨h1, bn⟩ := RetT.outD hq; subst h1; have bn' := belowT' (by assumption : Below wr.heap.size wr _) bn; have hS1 := HSX.out _ bn'))
        all_goals
          have HBN : Hid (Below w.heap.size w _) := Lib.hid (HB.out.trans ((by assumption : Below wr.heap.size wr wn).mono HB.out.size))
          have HFIN : Hid (ordE es = false) := Lib.hid (by
            have h1 := HST.out
            rw [Bool.and_false] at h1
            exact ordK_false h1 _ (by rw [HL.out]; omega))
          go_wp2_with fail
          go_ret
          exact ⟨by rw [HFIN.out]; rfl, HBN.out⟩
    · have HFIN : Hid (ordE es = true) := Lib.hid (by
        have h1 := HO.out
        unfold ordE
        rw [HL.out]
        obtain rfl : n - 1 = i := by omega
        exact h1)
      go_wp2_with fail
      go_ret
      exact ⟨by rw [HFIN.out]; rfl, HB.out⟩
end Go.Proofs.Ytcclhkoggijkaaa
namespace Go.Proofs.Ytcclhkoggijkaaa
open Go Go.RowKit

theorem Rd.keptG {w w' : World} {A : Option Addr} {n : Nat} {xs : List UInt8} {row : Option Nat} (h : Rd w A n xs) (hg : w.grownBy w' row) (hne : ∀ b, blk A = some b → row ≠ some b) : Rd w' A n xs := by
  refine ⟨h.1, fun hn => ?_⟩
  obtain ⟨b, off, e, hb, hc⟩ := h.2 hn
  refine ⟨b, off, e, Nat.lt_of_lt_of_le hb hg.size, fun i x hx => hg.cell (hc i x hx) (fun e2 => ?_)⟩
  subst e
  exact hne b rfl e2.symm
theorem numR_bad {xs : List UInt8} {s : Nat × Bool} (h : (numR xs s).2.2 = false) : s.2 = false := by
  unfold numR at h
  split at h
  · exact h
  · cases h
theorem takeR_bad {xs : List UInt8} {n : Nat} {s : Nat × Bool} (h : (takeR xs n s).2.2 = false) : s.2 = false ∧ (s.1 ≤ xs.length → n ≤ xs.length - s.1 ∧ (takeR xs n s).1.length = n) := by
  unfold takeR at h ⊢
  split at h
  · cases h
  · rename_i h2
    rw [if_neg h2]
    refine ⟨h, fun h3 => ⟨by omega, ?_⟩⟩
    simp only [List.length_take, List.length_drop]
    omega
/-- The seven pieces of an entry, one behind the other. -/
def e1R (xs : List UInt8) (a : Nat) := numR xs (a, false)
def e2R (xs : List UInt8) (a : Nat) := numR xs (e1R xs a).2
def e3R (xs : List UInt8) (a : Nat) := numR xs (e2R xs a).2
def e4R (xs : List UInt8) (a : Nat) := takeR xs 1 (e3R xs a).2
def e5R (xs : List UInt8) (a : Nat) := numR xs (e4R xs a).2
def e6R (xs : List UInt8) (a : Nat) := takeR xs (e2R xs a).1 (e5R xs a).2
def e7R (xs : List UInt8) (a : Nat) := takeR xs (e5R xs a).1 (e6R xs a).2
/-- Can't an entry be read? -/
def badR (xs ah : List UInt8) (a : Nat) : Bool := (e7R xs a).2.2 || decide (ah.length < (e1R xs a).1) || decide (1024 < (e1R xs a).1 + (e6R xs a).1.length)
/-- The entry that is read. -/
def entR (xs ah : List UInt8) (a : Nat) : En := ⟨ah.take (e1R xs a).1 ++ (e6R xs a).1, (e3R xs a).1, ((e4R xs a).1.headD 0).toNat, (e7R xs a).1⟩
/-- What entry hands back. -/
def RetE8 (w : World) (p : Nat) (E : Option Addr) (en ec : Nat) (xs ah : List UInt8) (a : Nat) (e : Ending) (w' : World) : Prop :=
  Rdr w' p E en ec (e7R xs a).2 ∧ w.grownBy w' (some p) ∧
  ((badR xs ah a = true ∧ e = .returned (.tuple #[.agg #[.slice none 0 0, .int .u64 0, .int .u8 0, .slice none 0 0], .bool false])) ∨
   (badR xs ah a = false ∧ ∃ K kn kc V vn vc, e = .returned (.tuple #[.agg #[.slice K kn kc, .int .u64 ((entR xs ah a).seq : Int), .int .u8 ((entR xs ah a).kind : Int), .slice V vn vc], .bool true]) ∧
     Own 5 w' w.heap.size K kn kc (entR xs ah a).key ∧ Own 5 w' w.heap.size V vn vc (entR xs ah a).val ∧ Dj K V))
theorem rdl_two8 {w : World} {t : TypeId} {v1 v2 : Value} {x1 x2 : List UInt8} (h1 : ElB w v1 x1) (h2 : ElB w v2 x2) (g : Nat) (hg : g = w.heap.size) : RdL (w.alloc (.cells #[v1, v2] t)) (some ⟨g, 0, none⟩) 2 [x1, x2] := by
  subst hg
  refine ⟨rfl, fun _ => ⟨w.heap.size, 0, rfl, by simp, fun i x hi => ?_⟩⟩
  match i, hi with
  | 0, hi =>
    injection hi with hi
    subst hi
    refine ⟨v1, ?_, h1.below ((Below.refl _ _).alloc (Nat.le_refl _) _)⟩
    rw [cell_of_row (w.alloc (.cells #[v1, v2] t)) w.heap.size (0 + 0) #[v1, v2] t (0, 0) (heap_alloc_new w _)]
    rfl
  | 1, hi =>
    injection hi with hi
    subst hi
    refine ⟨v2, ?_, h2.below ((Below.refl _ _).alloc (Nat.le_refl _) _)⟩
    rw [cell_of_row (w.alloc (.cells #[v1, v2] t)) w.heap.size (0 + 1) #[v1, v2] t (0, 0) (heap_alloc_new w _)]
    rfl
  | i + 2, hi => simp at hi
theorem Made.outM {base : Nat} {w w' : World} {xs : List UInt8} {e : Ending} (h : Made base w xs e w') : ∃ A n c, e = .returned (.slice A n c) ∧ Own 5 w' base A n c xs ∧ Below base w w' := h
theorem cut_hu {P : Program} {t e : TypeId} (ht : P.underlying t = some (.slice e)) (he : P.elem t = e) (hs : ∀ w, (sizeOf e).run P w = .ok 1 w)
    (A : Option Addr) {n cap m : Nat} (hm : m ≤ cap) (w : World) :
    (Instr.slice t (.slice A n cap) none (some (.int .u64 (m : Int))) none).run P w = .ok (.slice A m cap) w := by
  subst he
  rw [run_slice_h w t A n cap ht .u64 (m : Int) (by omega) (by omega)]
  simp only [hs, Result.andThen, sliced, Int.toNat_natCast, Nat.zero_mul, Nat.sub_zero]
  cases A <;> simp [Addr.add]
theorem e4_one {xs : List UInt8} {a : Nat} (ha : a ≤ xs.length) (h : (e7R xs a).2.2 = false) : (e4R xs a).1.length = 1 := by
  unfold e7R at h
  have h6 := (takeR_bad h).1
  unfold e6R at h6
  have h5 := (takeR_bad h6).1
  unfold e5R at h5
  have h4 := numR_bad h5
  have q1 := (numR_le (xs := xs) (s := (a, false)) ha).1
  have q2 := (numR_le (xs := xs) (s := (e1R xs a).2) (by unfold e1R; exact q1)).1
  have q3 := (numR_le (xs := xs) (s := (e2R xs a).2) (by unfold e2R; exact q2)).1
  unfold e4R at h4 ⊢
  exact ((takeR_bad h4).2 (by unfold e3R; exact q3)).2
/-- Four stores into the result's own box. -/
theorem e8_fin {w U w7 X : World} {p : Nat} {E : Option Addr} {en ec : Nat} {s : Nat × Bool} {q : Array Value} {a b c d : Value} (bU : Below w.heap.size w U) (g7 : U.grownBy w7 (some p)) (z7 : Cl w7 w.heap.size q 37) (hq : q.size = 4) (r7 : Rdr w7 p E en ec s) (hp : p < w.heap.size)
    (hX : X = (((w7.setCell ⟨w.heap.size, 0, none⟩ a).setCell ⟨w.heap.size, 1, none⟩ b).setCell ⟨w.heap.size, 2, none⟩ c).setCell ⟨w.heap.size, 3, none⟩ d) :
    Rdr X p E en ec s ∧ w.grownBy X (some p) ∧ Cl X w.heap.size #[a, b, c, d] 37 := by
  have hr7 : Cl w7 p _ 266 := r7
  refine ⟨?_, ?_, by rw [hX]; exact z7.put4 hq a b c d⟩
  · rw [hX]
    exact (((hr7.off 0 a (by omega)).off 1 b (by omega)).off 2 c (by omega)).off 3 d (by omega)
  · have h1 : w.grownBy U (some p) := ⟨bU.os, bU.tape, bU.output, bU.size, fun i hi _ => bU.block i hi⟩
    have h2 : w7.grownBy X (some w.heap.size) := by
      rw [hX]
      exact (((grown_set1 w7 _ 0 a).trans (grown_set1 _ _ 1 b)).trans (grown_set1 _ _ 2 c)).trans (grown_set1 _ _ 3 d)
    exact grown_then (h1.trans g7) h2 (fun j hj => by injection hj with hj; exact .inl (by omega))
/-- How a read entry is handed back. -/
theorem e8_ok {w U w7 w9 wc wn X : World} {p : Nat} {E : Option Addr} {en ec : Nat} {xs ah : List UInt8} {a : Nat} {K V : Option Addr} {kn kc vn vc sq kd : Nat} {q : Array Value} (bU : Below w.heap.size w U) (hU : w.heap.size < U.heap.size) (g7 : U.grownBy w7 (some p)) (z7 : Cl w7 w.heap.size q 37) (hq : q.size = 4) (r7 : Rdr w7 p E en ec (e7R xs a).2) (hp : p < w.heap.size)
    (b79 : Below w7.heap.size w7 w9) (oK : Own 5 w9 w7.heap.size K kn kc (entR xs ah a).key) (hc9 : w9.heap.size = wc.heap.size) (b9n : Below w9.heap.size w9 wn) (oV : Own 5 wn wc.heap.size V vn vc (entR xs ah a).val)
    (hbad : badR xs ah a = false) (hsq : (entR xs ah a).seq = sq) (hkd : (entR xs ah a).kind = kd)
    (hX : X = (((wn.setCell ⟨w.heap.size, 0, none⟩ (.slice K kn kc)).setCell ⟨w.heap.size, 1, none⟩ (.int .u64 (sq : Int))).setCell ⟨w.heap.size, 2, none⟩ (.int .u8 (kd : Int))).setCell ⟨w.heap.size, 3, none⟩ (.slice V vn vc)) :
    Cl X w.heap.size #[.slice K kn kc, .int .u64 (sq : Int), .int .u8 (kd : Int), .slice V vn vc] 37 ∧
    RetE8 w p E en ec xs ah a (.returned (.tuple #[.agg #[.slice K kn kc, .int .u64 (sq : Int), .int .u8 (kd : Int), .slice V vn vc], .bool true])) X := by
  have s7 := g7.size
  have s79 := b79.size
  have b7n : Below w7.heap.size w7 wn := b79.trans (b9n.mono s79)
  have gn : U.grownBy wn (some p) := g7.trans ⟨b7n.os, b7n.tape, b7n.output, b7n.size, fun i hi _ => b7n.block i hi⟩
  obtain ⟨q1, q2, q3⟩ := e8_fin bU gn (z7.below b7n) hq ((show Cl w7 p _ _ from r7).below b7n) hp hX
  have oK2 := oK.below b9n
  have oV2 := oV.mono (show w7.heap.size ≤ wc.heap.size by omega)
  have dj : Dj K V := Dj.old oK oV (by omega)
  refine ⟨q3, q1, q2, .inr ⟨hbad, K, kn, kc, V, vn, vc, by rw [hsq, hkd], ?_, ?_, dj⟩⟩
  · rw [hX]
    exact ((((oK2.set (by omega) 0 _).set (by omega) 1 _).set (by omega) 2 _).set (by omega) 3 _).mono (by omega)
  · rw [hX]
    exact ((((oV2.set (by omega) 0 _).set (by omega) 1 _).set (by omega) 2 _).set (by omega) 3 _).mono (by omega)
set_option maxRecDepth 100000 in
set_option maxHeartbeats 16000000 in
theorem entry_any (w : World) (p : Nat) (E : Option Addr) (en ec : Nat) (xs : List UInt8) (A : Option Addr) (an ac : Nat) (ah : List UInt8) (a : Nat) (h : Rdr w p E en ec (a, false)) (hr : Rd w E en xs) (hA : Rd w A an ah) (ha : a ≤ en) (hn : en ≤ 1099511627776) (hc : en ≤ ec) (hnil : E = none → ec = 0)
    (han : an ≤ 1048576) (hac : an ≤ ac) (hpe : blk E ≠ some p) (hpa : blk A ≠ some p) (hanil : A = none → ac = 0) :
    Calls Try.prog 197 #[.pointer (some ⟨p, 0, none⟩), .slice A an ac] w (RetE8 w p E en ec xs ah a) := by
  have hxl := hr.len
  obtain ⟨g, hg⟩ : ∃ g, g = w.heap.size := ⟨_, rfl⟩
  have hpg : p < g := by rw [hg]; exact (show Cl w p _ _ from h).lt
  obtain ⟨U, hU⟩ : ∃ U, U = w.alloc (.cells #[.slice none 0 0, .int .u64 0, .int .u8 0, .slice none 0 0] 37) := ⟨_, rfl⟩
  have bU : Below w.heap.size w U := by rw [hU]; exact (Below.refl _ _).alloc (Nat.le_refl _) _
  have hU1 : Rdr U p E en ec (a, false) := (show Cl w p _ _ from h).below bU
  have zU : Cl U g #[.slice none 0 0, .int .u64 0, .int .u8 0, .slice none 0 0] 37 := by rw [hU, hg]; exact Cl.new _ _ _
  -- what stands whenever the reader alone has changed
  have KE : Hid (∀ wx, U.grownBy wx (some p) → Rd wx E en xs ∧ Rd wx A an ah ∧ Cl wx g #[.slice none 0 0, .int .u64 0, .int .u8 0, .slice none 0 0] 37) := Lib.hid (fun wx hgx => ⟨(hr.below bU).keptG hgx (fun b hb e => hpe (by rw [hb]; exact e.symm)), (hA.below bU).keptG hgx (fun b hb e => hpa (by rw [hb]; exact e.symm)), ClG.grown zU hgx (fun e => by injection e with e; omega)⟩)
  have h1 : (e1R xs a).2.1 ≤ en ∧ (e1R xs a).1 < B64 := by have := numR_le (xs := xs) (s := (a, false)) (by simp only; omega); rw [← hxl]; exact this
  have h2 : (e2R xs a).2.1 ≤ en ∧ (e2R xs a).1 < B64 := by have := numR_le (xs := xs) (s := (e1R xs a).2) (by omega); rw [← hxl]; exact this
  have h3 : (e3R xs a).2.1 ≤ en ∧ (e3R xs a).1 < B64 := by have := numR_le (xs := xs) (s := (e2R xs a).2) (by omega); rw [← hxl]; exact this
  have h4 : (e4R xs a).2.1 ≤ en := by have := (takeR_le (xs := xs) (n := 1) (s := (e3R xs a).2) (by omega)).1; rw [← hxl]; exact this
  have h5 : (e5R xs a).2.1 ≤ en ∧ (e5R xs a).1 < B64 := by have := numR_le (xs := xs) (s := (e4R xs a).2) (by omega); rw [← hxl]; exact this
  have h6 : (e6R xs a).2.1 ≤ en := by have := (takeR_le (xs := xs) (n := (e2R xs a).1) (s := (e5R xs a).2) (by omega)).1; rw [← hxl]; exact this
  -- the calls, each from whatever the reader alone has changed
  have C1 : Hid (Calls Try.prog 215 #[.pointer (some ⟨p, 0, none⟩)] U (RetN U p E en ec (e1R xs a))) := Lib.hid (number_any U p E en ec xs a false hU1 (hr.below bU) ha hn hc)
  have C2 : Hid (∀ wx, U.grownBy wx (some p) → Rdr wx p E en ec (e1R xs a).2 → Calls Try.prog 215 #[.pointer (some ⟨p, 0, none⟩)] wx (RetN wx p E en ec (e2R xs a))) := Lib.hid (fun wx hw hc2 => number_any wx p E en ec xs _ _ hc2 (KE.out wx hw).1 h1.1 hn hc)
  have C3 : Hid (∀ wx, U.grownBy wx (some p) → Rdr wx p E en ec (e2R xs a).2 → Calls Try.prog 215 #[.pointer (some ⟨p, 0, none⟩)] wx (RetN wx p E en ec (e3R xs a))) := Lib.hid (fun wx hw hc2 => number_any wx p E en ec xs _ _ hc2 (KE.out wx hw).1 h2.1 hn hc)
  have C4 : Hid (∀ wx, U.grownBy wx (some p) → Rdr wx p E en ec (e3R xs a).2 → Calls Try.prog 216 #[.pointer (some ⟨p, 0, none⟩), .int .u64 1] wx (RetT8 wx p E en ec xs (e4R xs a))) := Lib.hid (fun wx hw hc2 => take_any wx p E en ec xs 1 _ _ hc2 hxl h3.1 hn hc (by unfold B64; omega) hnil)
  have C5 : Hid (∀ wx, U.grownBy wx (some p) → Rdr wx p E en ec (e4R xs a).2 → Calls Try.prog 215 #[.pointer (some ⟨p, 0, none⟩)] wx (RetN wx p E en ec (e5R xs a))) := Lib.hid (fun wx hw hc2 => number_any wx p E en ec xs _ _ hc2 (KE.out wx hw).1 h4 hn hc)
  have C6 : Hid (∀ wx, U.grownBy wx (some p) → Rdr wx p E en ec (e5R xs a).2 → Calls Try.prog 216 #[.pointer (some ⟨p, 0, none⟩), .int .u64 ((e2R xs a).1 : Int)] wx (RetT8 wx p E en ec xs (e6R xs a))) := Lib.hid (fun wx hw hc2 => take_any wx p E en ec xs _ _ _ hc2 hxl h5.1 hn hc h2.2 hnil)
  have C7 : Hid (∀ wx, U.grownBy wx (some p) → Rdr wx p E en ec (e6R xs a).2 → Calls Try.prog 216 #[.pointer (some ⟨p, 0, none⟩), .int .u64 ((e5R xs a).1 : Int)] wx (RetT8 wx p E en ec xs (e7R xs a))) := Lib.hid (fun wx hw hc2 => take_any wx p E en ec xs _ _ _ hc2 hxl h6 hn hc h5.2 hnil)
  have BU := Lib.hid bU
  have HU := Lib.hid hU
  have HG := Lib.hid hg
  have hsh := h1.2
  unfold B64 at hsh
  obtain ⟨sh, hshe⟩ : ∃ sh, sh = (e1R xs a).1 := ⟨_, rfl⟩
  obtain ⟨lf, hlfe⟩ : ∃ lf, lf = (e2R xs a).1 := ⟨_, rfl⟩
  obtain ⟨sq, hsqe⟩ : ∃ sq, sq = (e3R xs a).1 := ⟨_, rfl⟩
  obtain ⟨sz, hsze⟩ : ∃ sz, sz = (e5R xs a).1 := ⟨_, rfl⟩
  have HSH := Lib.hid hshe
  have HLF := Lib.hid hlfe
  have HSQ := Lib.hid hsqe
  have HSZ := Lib.hid hsze
  rw [← hshe] at hsh
  have HEB : Hid (∀ b, blk E = some b → 0 < en → b < w.heap.size) := Lib.hid (fun b hb hp => by
    obtain ⟨b', o', e, hb2⟩ := hr.pos hp
    rw [e] at hb
    injection hb with hb
    simp only at hb
    omega)
  clear h hr hA hU hU1 zU bU h1 h2 h3 h4 h5 h6 hg hshe hlfe hsqe hsze
  go_enter Try.func197, Try.ntmps197
  go_upto_region 1 with (fail)
  rw [← HU.out]
  go_wp2_with fail
  with_reducible refine C1.out.mono ?_
  intro e w1 hq
  obtain ⟨he, r1, g1⟩ := RetN.out hq
  subst he
  rw [← HSH.out]
  go_wp2_with fail
  with_reducible refine (C2.out _ g1 r1).mono ?_
  clear hq
  intro e w2 hq
  obtain ⟨he, r2, g2⟩ := RetN.out hq
  subst he
  rw [← HLF.out]
  have g2 := g1.trans g2
  clear hq r1 g1 C1 C2
  go_wp2_with fail
  with_reducible refine (C3.out _ g2 r2).mono ?_
  intro e w3 hq
  obtain ⟨he, r3, g3⟩ := RetN.out hq
  subst he
  rw [← HSQ.out]
  have g3 := g2.trans g3
  clear hq r2 g2 C3
  go_wp2_with fail
  with_reducible refine (C4.out _ g3 r3).mono ?_
  rintro e w4 ⟨B4, k4, d4, rfl, r4, g4, x41, x42, x43, x44, x45⟩
  have g4 := g3.trans g4
  have X4 := Lib.hid (And.intro x41 (And.intro x42 (And.intro x43 (And.intro x44 x45))))
  clear r3 g3 C4 x41 x42 x43 x44 x45
  go_wp2_with fail
  with_reducible refine (C5.out _ g4 r4).mono ?_
  intro e w5 hq
  obtain ⟨he, r5, g5⟩ := RetN.out hq
  subst he
  rw [← HSZ.out]
  have g5 := g4.trans g5
  clear hq r4 g4 C5
  rw [← HLF.out] at C6
  rw [← HSZ.out] at C7
  go_wp2_with fail
  with_reducible refine (C6.out _ g5 r5).mono ?_
  rintro e w6 ⟨B6, k6, d6, rfl, r6, g6, x61, x62, x63, x64, x65⟩
  have g6 := g5.trans g6
  have X6 := Lib.hid (And.intro x61 (And.intro x62 (And.intro x63 (And.intro x64 x65))))
  clear r5 g5 C6 x61 x62 x63 x64 x65
  go_wp2_with fail
  with_reducible refine (C7.out _ g6 r6).mono ?_
  rintro e w7 ⟨B7, k7, d7, rfl, r7, g7, x71, x72, x73, x74, x75⟩
  have g7 := g6.trans g7
  have X7 := Lib.hid (And.intro x71 (And.intro x72 (And.intro x73 (And.intro x74 x75))))
  clear r6 g6 C7 x71 x72 x73 x74 x75
  have hxl2 : ah.length = an := (KE.out U (World.grownBy.refl _ _)).2.1.len
  obtain ⟨bad, hbad⟩ : ∃ bad, bad = (e7R xs a).2.2 := ⟨_, rfl⟩
  have hc7 : Cl w7 p #[.slice E en ec, .int .i64 ((e7R xs a).2.1 : Int), .bool bad] 266 := by rw [hbad]; exact r7
  obtain ⟨c0, c1, c2, f0, f1, f2⟩ := hc7.c3
  have hk6 := X6.out.2.2.1
  have hk6b : k6 ≤ en := by
    have h1 := (takeR_le (xs := xs) (n := (e2R xs a).1) (s := (e5R xs a).2))
    rw [← hk6]
    unfold e6R
    unfold takeR
    split
    · simp
    · simp only [List.length_take, List.length_drop]; omega
  obtain ⟨_, _, z7⟩ := KE.out w7 g7
  rw [HG.out] at z7
  obtain ⟨zc0, zc1, zc2, zc3, zf0, zf1, zf2, zf3⟩ := z7.c4
  have R7 := Lib.hid r7
  have G7 := Lib.hid g7
  have Z7 := Lib.hid z7
  have HB := Lib.hid hbad
  have HK6 := Lib.hid hk6
  have HXL2 := Lib.hid hxl2
  have hgw : U.heap.size ≤ w7.heap.size := g7.size
  clear r7 g7 hc7 z7 hbad hk6 hxl2
  have hpw : p < w.heap.size := by have := HG.out; omega
  cases bad with
  | true =>
    have HBAD : Hid (badR xs ah a = true) := Lib.hid (by unfold badR; rw [← HB.out]; rfl)
    go_wp2_with fail
    obtain ⟨X, hX⟩ : ∃ X, X = (((w7.setCell ⟨w.heap.size, 0, none⟩ (.slice none 0 0)).setCell ⟨w.heap.size, 1, none⟩ (.int .u64 0)).setCell ⟨w.heap.size, 2, none⟩ (.int .u8 0)).setCell ⟨w.heap.size, 3, none⟩ (.slice none 0 0) := ⟨_, rfl⟩
    rw [← hX]
    obtain ⟨q1, q2, q3⟩ := e8_fin BU.out G7.out Z7.out rfl R7.out (by omega) hX
    obtain ⟨x0, x1, x2, x3, _⟩ := q3.c4
    refine bodyPost_ret (v := .tuple #[.agg #[.slice none 0 0, .int .u64 0, .int .u8 0, .slice none 0 0], .bool false]) (by simp [results, Try.results197, go_sem, x0, x1, x2, x3]; try rfl) rfl ⟨q1, q2, .inl ⟨HBAD.out, rfl⟩⟩
  | false =>
    by_cases hs : an < sh
    · have hs' : (an : Int) < (sh : Int) := by omega
      have HBAD : Hid (badR xs ah a = true) := Lib.hid (by
        unfold badR
        rw [← HB.out, HXL2.out, ← HSH.out]
        simp [hs])
      go_wp2_with fail
      obtain ⟨X, hX⟩ : ∃ X, X = (((w7.setCell ⟨w.heap.size, 0, none⟩ (.slice none 0 0)).setCell ⟨w.heap.size, 1, none⟩ (.int .u64 0)).setCell ⟨w.heap.size, 2, none⟩ (.int .u8 0)).setCell ⟨w.heap.size, 3, none⟩ (.slice none 0 0) := ⟨_, rfl⟩
      rw [← hX]
      obtain ⟨q1, q2, q3⟩ := e8_fin BU.out G7.out Z7.out rfl R7.out (by omega) hX
      obtain ⟨x0, x1, x2, x3, _⟩ := q3.c4
      refine bodyPost_ret (v := .tuple #[.agg #[.slice none 0 0, .int .u64 0, .int .u8 0, .slice none 0 0], .bool false]) (by simp [results, Try.results197, go_sem, x0, x1, x2, x3]; try rfl) rfl ⟨q1, q2, .inl ⟨HBAD.out, rfl⟩⟩
    · have hs' : ¬ (an : Int) < (sh : Int) := by omega
      have e1 : IntKind.i64.wrap (sh : Int) = (sh : Int) := IntWalk.i64_in _ (by omega)
      have e2 : IntKind.i64.wrap ((sh : Int) + (k6 : Int)) = (sh : Int) + (k6 : Int) := IntWalk.i64_in _ (by omega)
      by_cases hk : 1024 < sh + k6
      · have hk' : (1024 : Int) < (sh : Int) + (k6 : Int) := by omega
        have HBAD : Hid (badR xs ah a = true) := Lib.hid (by
          unfold badR
          rw [HK6.out, ← HSH.out]
          simp [hk])
        go_wp2_with fail
        obtain ⟨X, hX⟩ : ∃ X, X = (((w7.setCell ⟨w.heap.size, 0, none⟩ (.slice none 0 0)).setCell ⟨w.heap.size, 1, none⟩ (.int .u64 0)).setCell ⟨w.heap.size, 2, none⟩ (.int .u8 0)).setCell ⟨w.heap.size, 3, none⟩ (.slice none 0 0) := ⟨_, rfl⟩
        rw [← hX]
        obtain ⟨q1, q2, q3⟩ := e8_fin BU.out G7.out Z7.out rfl R7.out (by omega) hX
        obtain ⟨x0, x1, x2, x3, _⟩ := q3.c4
        refine bodyPost_ret (v := .tuple #[.agg #[.slice none 0 0, .int .u64 0, .int .u8 0, .slice none 0 0], .bool false]) (by simp [results, Try.results197, go_sem, x0, x1, x2, x3]; try rfl) rfl ⟨q1, q2, .inl ⟨HBAD.out, rfl⟩⟩
      · have hk' : ¬ (1024 : Int) < (sh : Int) + (k6 : Int) := by omega
        have HOK : Hid (badR xs ah a = false) := Lib.hid (by
          unfold badR
          rw [← HB.out, HXL2.out, HK6.out, ← HSH.out]
          simp [hs, hk])
        have hE7 := (KE.out w7 G7.out).1
        have hA7 := (KE.out w7 G7.out).2.1
        have hk4 : k4 = 1 := by
          rw [← X4.out.2.2.1]
          exact e4_one (by rw [(KE.out U (World.grownBy.refl _ _)).1.len]; exact ha) HB.out.symm
        subst hk4
        have r4 := X4.out.2.2.2.1 w7 hE7
        obtain ⟨b4, o4, rfl, hb4⟩ := r4.pos (by omega)
        have hb4w : b4 ≠ w.heap.size := by
          have h1 : blk E = some b4 := by
            rcases X4.out.2.2.2.2 with e | e
            · cases e
            · exact e.symm
          have h2 : 0 < en := by
            rcases Nat.eq_zero_or_pos en with e | e
            · have := (hE7.len.trans e)
              have h3 := X4.out.2.2.1
              unfold e4R takeR at h3
              rw [if_pos (by omega)] at h3
              cases h3
            · exact e
          have := HEB.out b4 h1 h2
          omega
        have hb4 : b4 < w7.heap.size := hb4
        obtain ⟨kd, hkd1, hkd2, _⟩ := r4.at_ 0 (by omega)
        have hkd2 : w7.cell? ⟨b4, o4, none⟩ = some (.int .u8 (kd.toNat : Int)) := hkd2
        have hkind : (entR xs ah a).kind = kd.toNat := by
          unfold entR
          simp only
          cases hq : (e4R xs a).1 with
          | nil => rw [hq] at hkd1; cases hkd1
          | cons y ys => rw [hq] at hkd1; injection hkd1 with hkd1; rw [hkd1]; rfl
        have r7v := X7.out.2.2.2.1 w7 hE7
        have hk7 : k7 ≤ en := by
          have h1 := (takeR_le (xs := xs) (n := (e5R xs a).1) (s := (e6R xs a).2))
          rw [← X7.out.2.2.1]
          have hlen := hE7.len
          unfold e7R takeR
          split
          · simp
          · simp only [List.length_take, List.length_drop]; omega
        have hsl : ∀ W : World, (Instr.slice 25 (.slice A an ac) none (some (.int .u64 (sh : Int))) none).run Try.prog W = .ok (.slice A sh ac) W :=
          cut_hu Try.underlying25 elem_bytes size_u8 A (by omega)
        have hCC := Concat_any (some ⟨w7.heap.size, 0, none⟩) 2 2 [ah.take sh, (e6R xs a).1] _ (rdl_two8 (w := w7) (t := 25) ⟨A, sh, ac, rfl, hA7.take (by omega), by omega, hanil⟩ ⟨B6, k6, d6, rfl, X6.out.2.2.2.1 w7 hE7, X6.out.1, X6.out.2.1⟩ _ rfl) (by
          simp only [tot, List.length_take, HK6.out, HXL2.out]
          omega)
        have hfl : [ah.take sh, (e6R xs a).1].flatten = (entR xs ah a).key := by
          unfold entR
          rw [← HSH.out]
          simp
        rw [hfl] at hCC
        have HCC := Lib.hid hCC
        have R4C := Lib.hid hkd2
        have HKD := Lib.hid hkind
        have R7V := Lib.hid r7v
        have hval : (entR xs ah a).val = (e7R xs a).1 := rfl
        rw [← hval] at R7V
        have hkn7 : k7 ≤ 140737488355328 := by omega
        clear hE7 hA7 r4 hkd1 hkd2 hkind r7v hCC hfl hval hk7 X4
        go_wp2_with fail
        with_reducible refine HCC.out.mono ?_
        intro e w9 hq
        obtain ⟨K, kn, kc, he, oK, b9⟩ := Made.outM hq
        subst he
        have b79 : Below w7.heap.size w7 w9 := ((Below.refl _ _).alloc (Nat.le_refl _) _).trans (b9.mono (by simp))
        have oK2 := oK.mono (show w7.heap.size ≤ _ by simp)
        have s79 := b79.size
        have HS : Hid (∀ wx, Below w9.heap.size w9 wx → wx.cell? ⟨b4, o4, none⟩ = some (.int .u8 (kd.toNat : Int)) ∧ wx.cell? ⟨w.heap.size, 0, none⟩ = some (.slice none 0 0) ∧ wx.cell? ⟨w.heap.size, 1, none⟩ = some (.int .u64 0) ∧ wx.cell? ⟨w.heap.size, 2, none⟩ = some (.int .u8 0) ∧ wx.cell? ⟨w.heap.size, 3, none⟩ = some (.slice none 0 0) ∧ wx.frozen? ⟨w.heap.size, 0, none⟩ = false ∧ wx.frozen? ⟨w.heap.size, 1, none⟩ = false ∧ wx.frozen? ⟨w.heap.size, 2, none⟩ = false ∧ wx.frozen? ⟨w.heap.size, 3, none⟩ = false) := Lib.hid (fun wx hb => by
          have hb7 : Below w7.heap.size w7 wx := b79.trans (hb.mono s79)
          obtain ⟨t0, t1, t2, t3, y0, y1, y2, y3⟩ := (Z7.out.below hb7).c4
          exact ⟨(hb7.cell (p := ⟨b4, o4, none⟩) hb4).trans R4C.out, t0, t1, t2, t3, y0, y1, y2, y3⟩)
        have HCL : Hid (∀ wx, Below w9.heap.size w9 wx → Calls Try.prog 117 #[.slice B7 k7 d7] wx (Made wx.heap.size wx (entR xs ah a).val)) := Lib.hid (fun wx hb => Clone_any B7 k7 d7 _ wx (R7V.out.below (b79.trans (hb.mono s79))) hkn7 X7.out.2.1)
        have hB0 : Below w9.heap.size w9 w9.drew := (Below.refl _ _).drew
        have HOK9 := Lib.hid (And.intro oK2 b79)
        clear hq oK b9 b79 oK2 HCC zc0 zc1 zc2 zc3 zf0 zf1 zf2 zf3 c0 c1 c2 f0 f1 f2
        obtain ⟨zc, zc0, zc1, zc2, zc3, zf0, zf1, zf2, zf3⟩ := HS.out w9 (Below.refl _ _)
        go_wp2_with fail
        have HK4 : Hid (∀ (wx : World) (a b c d : Value), wx.cell? ⟨b4, o4, none⟩ = some (.int .u8 (kd.toNat : Int)) → ((((wx.setCell ⟨w.heap.size, 0, none⟩ a).setCell ⟨w.heap.size, 1, none⟩ b).setCell ⟨w.heap.size, 2, none⟩ c).setCell ⟨w.heap.size, 3, none⟩ d).cell? ⟨b4, o4, none⟩ = some (.int .u8 (kd.toNat : Int))) := Lib.hid (fun wx a b c d h => by
          rw [cell_far _ _ _ _ hb4w, cell_far _ _ _ _ hb4w, cell_far _ _ _ _ hb4w, cell_far _ _ _ _ hb4w]
          exact h)
        go_region_held3 (fun wx => wx.cell? ⟨b4, o4, none⟩ = some (.int .u8 (kd.toNat : Int))) (first | with_reducible assumption | with_reducible exact (HS.out _ hB0).1 | with_reducible exact HK4.out _ _ _ _ _ yc)
          (first | (go_at_call 117; with_reducible refine (HCL.out _ (by assumption)).mono ?_; intro e1 wn hq; obtain ⟨V, vn, vc, h1, oV, bn⟩ := Made.outM hq; subst h1; have bn' := belowT' (by assumption : Below w9.heap.size w9 _) bn; have hS1 := HS.out _ bn'; obtain ⟨yc, yc0, yc1, yc2, yc3, yf0, yf1, yf2, yf3⟩ := hS1))
        all_goals
          have hUw : w.heap.size < U.heap.size := by rw [HU.out]; simp
          have hsq : (entR xs ah a).seq = sq := HSQ.out.symm
          obtain ⟨X, hX⟩ : ∃ X, X = (((wn.setCell ⟨w.heap.size, 0, none⟩ (.slice K kn kc)).setCell ⟨w.heap.size, 1, none⟩ (.int .u64 (sq : Int))).setCell ⟨w.heap.size, 2, none⟩ (.int .u8 (kd.toNat : Int))).setCell ⟨w.heap.size, 3, none⟩ (.slice V vn vc) := ⟨_, rfl⟩
          obtain ⟨q1, q2⟩ := e8_ok BU.out hUw G7.out Z7.out rfl R7.out (by omega) HOK9.out.2 HOK9.out.1 rfl bn' oV HOK.out hsq HKD.out hX
          obtain ⟨x0, x1, x2, x3, _⟩ := q1.c4
          have HQ2 := Lib.hid q2
          rw [← hX]
          clear hX q1 q2 hsq zc zc0 zc1 zc2 zc3 zf0 zf1 zf2 zf3 yc yc0 yc1 yc2 yc3 yf0 yf1 yf2 yf3
          go_wp2_with fail
          refine bodyPost_ret (v := .tuple #[.agg #[.slice K kn kc, .int .u64 (sq : Int), .int .u8 (kd.toNat : Int), .slice V vn vc], .bool true]) (by simp [results, Try.results197, go_sem, x0, x1, x2, x3]; try rfl) rfl HQ2.out
end Go.Proofs.Ytcclhkoggijkaaa
namespace Go.Proofs.Ytcclhkoggijkaaa
open Go Go.RowKit

theorem putB_only {fs : List UInt8} {b d : Nat} (hne : b ≠ d) : setB (putB fs b) d = setB fs d := by
  by_cases e : d / 8 = b / 8
  · by_cases hl : b / 8 < fs.length
    · have hp : 2 ^ (b % 8) < 256 := Nat.lt_of_lt_of_le (Nat.pow_lt_pow_right (by omega) (Nat.mod_lt b (by omega))) (by decide)
      have hm : b % 8 ≠ d % 8 := by omega
      rw [setB_eq, setB_eq]
      unfold putB
      rw [e, List.getElem?_set_self hl, Option.getD_some, toNat_or (UInt8.toNat_lt _) hp, Nat.testBit_or, Nat.testBit_two_pow_of_ne hm, Bool.or_false]
    · unfold putB
      rw [List.set_eq_of_length_le (by omega)]
  · rw [setB_eq, setB_eq, putB_off (fun e2 => e e2.symm)]
/-- One bit more among the bools. -/
def putO (bs : List Bool) (b : Nat) : List Bool := bs.set b true
/-- 'The bools are the filter's bits.' -/
def Bits (n : Nat) (fs : List UInt8) (bs : List Bool) : Prop := fs.length = n + 1 ∧ bs.length = 8 * n ∧ ∀ d, d < 8 * n → bs[d]? = some (setB fs d)
theorem Bits.put {n : Nat} {fs : List UInt8} {bs : List Bool} (h : Bits n fs bs) {b : Nat} (hb : b < 8 * n) : Bits n (putB fs b) (putO bs b) := by
  refine ⟨by rw [putB_len]; exact h.1, by rw [putO, List.length_set]; exact h.2.1, fun d hd => ?_⟩
  unfold putO
  by_cases e : b = d
  · subst e
    rw [List.getElem?_set_self (by rw [h.2.1]; exact hb), putB_self (by have := h.1; omega)]
  · rw [List.getElem?_set_ne e, putB_only e]
    exact h.2.2 d hd
theorem Bits.zero (n : Nat) (x : UInt8) : Bits n ((List.replicate (n + 1) 0).set n x) (List.replicate (8 * n) false) := by
  refine ⟨by simp, by simp, fun d hd => ?_⟩
  rw [List.getElem?_replicate, if_pos hd, setB_eq, List.getElem?_set_ne (by omega), List.getElem?_replicate, if_pos (by omega)]
  simp
/-- Eight bools as a number, from the highest. -/
def byteO (bs : List Bool) (i : Nat) : Nat → Nat
  | 0 => 0
  | k + 1 => 2 * byteO bs i k + (if bs[i + (7 - k)]?.getD false then 1 else 0)
theorem byteO_lt (bs : List Bool) (i : Nat) : ∀ k, byteO bs i k < 2 ^ k
  | 0 => by simp [byteO]
  | k + 1 => by
    have := byteO_lt bs i k
    unfold byteO
    rw [Nat.pow_succ]
    split <;> omega
theorem bit_if (a : Nat) : (if a % 2 = 1 then 1 else 0) = a % 2 := by split <;> omega
theorem Bits.byte {n : Nat} {fs : List UInt8} {bs : List Bool} (h : Bits n fs bs) {i : Nat} (hi : i < n) {x : UInt8} (hx : fs[i]? = some x) : byteO bs (8 * i) 8 = x.toNat := by
  have hb : ∀ j, j < 8 → bs[8 * i + j]?.getD false = decide (x.toNat / 2 ^ j % 2 = 1) := fun j hj => by
    rw [h.2.2 _ (by omega), Option.getD_some, setB]
    rw [show (8 * i + j) / 8 = i by omega, show (8 * i + j) % 8 = j by omega, hx]
  have h0 := hb 0 (by omega)
  have h1 := hb 1 (by omega)
  have h2 := hb 2 (by omega)
  have h3 := hb 3 (by omega)
  have h4 := hb 4 (by omega)
  have h5 := hb 5 (by omega)
  have h6 := hb 6 (by omega)
  have h7 := hb 7 (by omega)
  have hl := x.toNat_lt
  simp only [byteO, Nat.sub_zero, Nat.reduceSub, h0, h1, h2, h3, h4, h5, h6, h7, decide_eq_true_eq]
  simp only [bit_if, Nat.reducePow, Nat.div_one]
  omega
end Go.Proofs.Ytcclhkoggijkaaa
namespace Go.Proofs.Ytcclhkoggijkaaa
open Go Go.RowKit Go.Maps

theorem Dclone (s : ByteArray) (w : World) (hs : s.size ≤ 281474976710656) : Calls Try.prog 123 #[.string s] w fun e w' => e = .returned (.string s) ∧ Below w.heap.size w w' := by
  go_enter Try.func123, Try.ntmps123
  go_wp2_with fail
  refine (lib_stringslite_Clone s _ hs).mono ?_
  rintro e w' ⟨rfl, hb⟩
  go_wp2
  go_ret
  exact ⟨rfl, hb⟩
theorem eqlMap (m : Option Nat) (w : World) : (binOp .eql 124 (.map m) (.map none)).run Try.prog w = .ok (.bool m.isNone) w := by
  simp only [binOp]
  simp [run_equal_map_nil w 124 9 127 m Try.underlying124]

/-- A file put into its place. -/
def putR (r : FR) : List FR → List FR
  | [] => [r]
  | q :: t => if q.name = r.name then r :: t else if r.name < q.name then r :: q :: t else q :: putR r t
def putF (f : FE) : List FE → List FE
  | [] => [f]
  | q :: t => if q.1 = f.1 then f :: t else if f.1 < q.1 then f :: q :: t else q :: putF f t
theorem putR_val (r : FR) : ∀ rs : List FR, (putR r rs).map FR.val = putF r.val (rs.map FR.val)
  | [] => rfl
  | q :: t => by
    have ih := putR_val r t
    simp only [putR, putF, List.map_cons]
    show _ = if q.name = r.name then _ else if r.name < q.name then _ else _
    split
    · rfl
    · split
      · rfl
      · rw [List.map_cons, ih]
theorem putR_sub (r : FR) : ∀ (rs : List FR) (q : FR), q ∈ putR r rs → q = r ∨ q ∈ rs
  | [], q, h => by simp [putR] at h; exact .inl h
  | a :: t, q, h => by
    simp only [putR] at h
    split at h
    · rcases List.mem_cons.1 h with h | h
      · exact .inl h
      · exact .inr (List.mem_cons_of_mem _ h)
    · split at h
      · rcases List.mem_cons.1 h with h | h
        · exact .inl h
        · exact .inr h
      · rcases List.mem_cons.1 h with h | h
        · exact .inr (by rw [h]; exact List.mem_cons_self ..)
        · rcases putR_sub r t q h with h | h
          · exact .inl h
          · exact .inr (List.mem_cons_of_mem _ h)
theorem putF_sub (r : FE) : ∀ (rs : List FE) (q : FE), q ∈ putF r rs → q = r ∨ q ∈ rs
  | [], q, h => by simp [putF] at h; exact .inl h
  | a :: t, q, h => by
    simp only [putF] at h
    split at h
    · rcases List.mem_cons.1 h with h | h
      · exact .inl h
      · exact .inr (List.mem_cons_of_mem _ h)
    · split at h
      · rcases List.mem_cons.1 h with h | h
        · exact .inl h
        · exact .inr h
      · rcases List.mem_cons.1 h with h | h
        · exact .inr (by rw [h]; exact List.mem_cons_self ..)
        · rcases putF_sub r t q h with h | h
          · exact .inl h
          · exact .inr (List.mem_cons_of_mem _ h)
theorem nlt_trans {a b c : List UInt8} (h : a < b) (h2 : b < c) : a < c := List.lt_trans h h2
theorem nlt_irrefl (a : List UInt8) : ¬ a < a := List.lt_irrefl a
theorem nlt_ne {a b : List UInt8} (h : a < b) : a ≠ b := fun e => by subst e; exact nlt_irrefl a h
theorem nlt_tri {a b : List UInt8} (h : a ≠ b) (h2 : ¬ a < b) : b < a := by
  by_cases h3 : b < a
  · exact h3
  · exact absurd (List.le_antisymm (List.not_lt.1 h3) (List.not_lt.1 h2)) h
def rsUp (rs : List FR) : Prop := rs.Pairwise fun a b => a.name < b.name
theorem rsUp_of {rs : List FR} (h : risingF (rs.map FR.val)) : rsUp rs := by
  unfold risingF at h
  rw [List.pairwise_map] at h
  exact h
theorem putR_pair {r : FR} {S : FR → FR → Prop} (hs : ∀ a b, S a b → S b a) : ∀ {rs : List FR}, rs.Pairwise S → (∀ q ∈ rs, q.name ≠ r.name → S r q) → rsUp rs → (putR r rs).Pairwise S
  | [], _, _, _ => List.pairwise_singleton _ _
  | a :: t, hp, hr, hn => by
    unfold rsUp at hn
    rw [List.pairwise_cons] at hp hn
    simp only [putR]
    split
    · next e => exact List.pairwise_cons.2 ⟨fun q hq => hr q (List.mem_cons_of_mem _ hq) (fun e2 => nlt_ne (hn.1 q hq) (by rw [e, e2])), hp.2⟩
    · next e =>
      split
      · next e3 =>
        refine List.pairwise_cons.2 ⟨fun q hq => ?_, List.pairwise_cons.2 hp⟩
        rcases List.mem_cons.1 hq with h | h
        · rw [h]; exact hr a (List.mem_cons_self ..) e
        · exact hr q (List.mem_cons_of_mem _ h) (fun e2 => nlt_ne (nlt_trans e3 (hn.1 q h)) e2.symm)
      · refine List.pairwise_cons.2 ⟨fun q hq => ?_, putR_pair hs hp.2 (fun q hq => hr q (List.mem_cons_of_mem _ hq)) hn.2⟩
        rcases putR_sub r t q hq with h | h
        · rw [h]; exact hs _ _ (hr a (List.mem_cons_self ..) e)
        · exact hp.1 q h
theorem putR_len_new {r : FR} : ∀ {rs : List FR}, (∀ q ∈ rs, q.name ≠ r.name) → (putR r rs).length = rs.length + 1
  | [], _ => rfl
  | a :: t, h => by
    simp only [putR]
    rw [if_neg (h a (List.mem_cons_self ..))]
    split
    · rfl
    · rw [List.length_cons, putR_len_new (fun q hq => h q (List.mem_cons_of_mem _ hq)), List.length_cons]
theorem putR_any {r : FR} (x : List UInt8) : ∀ {rs : List FR}, (∀ q ∈ rs, q.name ≠ r.name) → (putR r rs).any (fun q => q.name == x) = (r.name == x || rs.any (fun q => q.name == x))
  | [], _ => by simp [putR]
  | a :: t, h => by
    simp only [putR]
    rw [if_neg (h a (List.mem_cons_self ..))]
    split
    · simp
    · rw [List.any_cons, putR_any x (fun q hq => h q (List.mem_cons_of_mem _ hq)), List.any_cons]
      cases (r.name == x) <;> cases (a.name == x) <;> simp
/-- The map with one more file. -/
theorem MR.put {Dm : DU} {rs : List FR} {r : FR} (h : MR Dm rs) (ht : Tidy Dm) (hn : ∀ q ∈ rs, q.name ≠ r.name) : MR (Dm.put (.string r.name) (.lit (.int .i64 (r.fb : Int)))) (putR r rs) := by
  have hk : WideAt.IsKeyLit (.string r.name) := trivial
  have hno : has Dm (.string r.name) = false := by
    rw [h.2.1, List.any_eq_false]
    intro q hq
    simpa using hn q hq
  refine ⟨?_, fun x => ?_, fun q hq z => ?_⟩
  · rw [size_put ht, hno, putR_len_new hn, h.1]; rfl
  · rw [putR_any x hn]
    by_cases e : r.name = x
    · subst e
      rw [has_put_same ht.isMap hk]
      simp
    · rw [has_put_other (by intro e2; injection e2 with e2; exact e e2.symm), h.2.1]
      simp [e]
  · rcases putR_sub r rs q hq with rfl | hq
    · exact atKey_put_same ht.isMap hk _ _
    · rw [atKey_put_other (by intro e2; injection e2 with e2; exact hn q hq e2)]
      exact h.2.2 q hq z
theorem putF_up {f : FE} : ∀ {fs : List FE}, risingF fs → risingF (putF f fs)
  | [], _ => List.pairwise_singleton _ _
  | a :: t, h => by
    have h0 := h
    unfold risingF at h
    rw [List.pairwise_cons] at h
    simp only [putF]
    split
    · next e => exact List.pairwise_cons.2 ⟨fun q hq => by rw [← e]; exact h.1 q hq, h.2⟩
    · next e =>
      split
      · next e3 =>
        refine List.pairwise_cons.2 ⟨fun q hq => ?_, h0⟩
        rcases List.mem_cons.1 hq with h4 | h4
        · rw [h4]; exact e3
        · exact nlt_trans e3 (h.1 q h4)
      · next e3 =>
        refine List.pairwise_cons.2 ⟨fun q hq => ?_, putF_up h.2⟩
        rcases putF_sub f t q hq with h4 | h4
        · rw [h4]; exact nlt_tri (fun e5 => e e5.symm) e3
        · exact h.1 q h4

/-- 'The disk's head says map b now; what was there else stands.' -/
def RetPut (w : World) (p : Nat) (m : Option Nat) (rs : List FR) (room used left : Int) (dead armed : Bool) (e : Ending) (w' : World) : Prop :=
  e = .returned (.tuple #[]) ∧ ∃ b Dm, w'.heap[p]? = some (.cells (headV (some b) room used left dead armed) 126 (0, 0)) ∧ w'.ownsMap Try.prog 9 ptrEl b rs.length Dm ∧ MR Dm rs ∧
    Fr w w' (p :: m.toList) ∧ ((m = some b) ∨ (w.heap.size ≤ b))

section
variable {w : World} {p : Nat} {m : Option Nat} {rs : List FR} {room used left : Int} {dead armed : Bool}
set_option maxRecDepth 100000 in
set_option maxHeartbeats 2000000 in
theorem put_some {b : Nat} {Dm : DU} (r : FR) (hp : w.heap[p]? = some (.cells (headV (some b) room used left dead armed) 126 (0, 0))) (ho : w.ownsMap Try.prog 9 ptrEl b rs.length Dm) (hm : MR Dm rs) (hpb : b ≠ p)
    (hn : ∀ q ∈ rs, q.name ≠ r.name) (hl : r.name.length ≤ 1099511627776) (hrs : rs.length ≤ 1099511627776) :
    Calls Try.prog 66 #[.pointer (some ⟨p, 0, none⟩), .string (tx r.name), .pointer (some ⟨r.fb, 0, none⟩)] w (RetPut w p (some b) (putR r rs) room used left dead armed) := by
  have c0 : w.cell? ⟨p, 0, none⟩ = some (.map (some b)) := cell_of_row w p 0 _ _ _ hp
  have hml : 1099511627776 < maxLen := by unfold maxLen; omega
  have hkey := keyN (x := r.name) (by omega)
  have heq := eqlMap
  have hsz : (tx r.name).size ≤ 281474976710656 := by rw [tx_size]; omega
  have hlt := ho.lt
  have HP := Lib.hid hp
  have HPL := Lib.hid (Array.getElem?_eq_some_iff.1 hp).1
  have HPB := Lib.hid hpb
  have HN := Lib.hid hn
  have HM := Lib.hid hm
  clear hp hpb hn hm
  have hS : w.cell? ⟨p, 0, none⟩ = some (.map (some b)) ∧ Below w.heap.size w w := ⟨c0, Below.refl _ _⟩
  have HU : Hid (∀ w2, Below w.heap.size w w2 → ∃ w3, (Instr.mapUpdate 124 (.map (some b)) (.string (tx r.name)) (.pointer (some ⟨r.fb, 0, none⟩))).run Try.prog w2 = .ok () w3 ∧ w3.cell? ⟨p, 0, none⟩ = some (.map (some b)) ∧ RetPut w p (some b) (putR r rs) room used left dead armed (.returned (.tuple #[])) w3) := Lib.hid (fun w2 hb => by
    have ho2 := ho.kept (w' := w2) (row := none) ⟨hb.os, hb.tape, hb.output, hb.size, fun k hk _ => hb.block k hk⟩ (by simp)
    obtain ⟨w3, hrun, h3, hg⟩ := ho2.update (t := 124) (e := 127) lawN Try.underlying124 (by omega) hkey (ptrEl_some r.fb)
    have hp3 : w3.heap[p]? = some (.cells (headV (some b) room used left dead armed) 126 (0, 0)) := by
      rw [hg.block p (Nat.lt_of_lt_of_le HPL.out hb.size) (fun e => HPB.out (by injection e with e; exact e.symm)), hb.block p HPL.out]
      exact HP.out
    refine ⟨w3, hrun, cell_of_row w3 p 0 _ _ _ hp3, rfl, b, _, hp3, by rw [putR_len_new HN.out]; exact h3, HM.out.put (ho.tidy lawN) HN.out, ?_, .inl rfl⟩
    · have f1 : Fr w w2 (p :: (some b).toList) := Fr.of_below hb _
      have f2 : Fr w2 w3 [b] := Fr.of_grown hg (fun k hk => by injection hk with hk; rw [hk]; exact List.mem_singleton.2 rfl)
      exact f1.trans f2 (fun k hk => .inl (by rw [List.mem_singleton] at hk; rw [hk]; simp)))
  clear ho hkey hml
  go_enter Try.func66, Try.ntmps66
  go_wp2
  go_region_held3 (fun w' => w'.cell? ⟨p, 0, none⟩ = some (.map (some b))) (first | assumption | exact hS.1 | exact hS2.1)
    (first | (go_at_call 123; refine (Dclone _ _ hsz).mono ?_; rintro e w2 ⟨rfl, hb2⟩; have hS2 := Cel.made (w := w.drew) (w0 := w) (v := .map (some b)) (p := ⟨p, 0, none⟩) ⟨hS.1, hS.2.drew⟩ hb2; obtain ⟨w3, hrun, hS3, hfin⟩ := HU.out _ hS2.2))
  go_end0
  exact hfin
set_option maxRecDepth 100000 in
set_option maxHeartbeats 2000000 in
theorem put_nil (r : FR) (hp : w.heap[p]? = some (.cells (headV none room used left dead armed) 126 (0, 0))) (hl : r.name.length ≤ 1099511627776) :
    Calls Try.prog 66 #[.pointer (some ⟨p, 0, none⟩), .string (tx r.name), .pointer (some ⟨r.fb, 0, none⟩)] w (RetPut w p none [r] room used left dead armed) := by
  have c0 : w.cell? ⟨p, 0, none⟩ = some (.map none) := cell_of_row w p 0 _ _ _ hp
  have f0 : w.frozen? ⟨p, 0, none⟩ = false := frozen_of_row w p 0 _ _ hp
  have hml : 1099511627776 < maxLen := by unfold maxLen; omega
  have hkey := keyN (x := r.name) (by omega)
  have heq := eqlMap
  have hmm := @run_makeMap Try.prog
  have hsz : (tx r.name).size ≤ 281474976710656 := by rw [tx_size]; omega
  have hpl := (Array.getElem?_eq_some_iff.1 hp).1
  obtain ⟨W, hW⟩ : ∃ W, W = (w.setCell ⟨p, 0, none⟩ (.map (some w.heap.size))).alloc (.map #[] 0) := ⟨_, rfl⟩
  have hsc : (w.setCell ⟨p, 0, none⟩ (.map (some w.heap.size))).heap.size = w.heap.size := by simp
  have hWp : W.heap[p]? = some (.cells (headV (some w.heap.size) room used left dead armed) 126 (0, 0)) := by
    rw [hW, heap_alloc_old _ _ (by rw [hsc]; exact hpl), heap_setCell_same _ _ _ _ _ _ hp]
    rfl
  have hWo : W.ownsMap Try.prog 9 ptrEl w.heap.size 0 (.map [] : DU) := by
    have h1 := World.ownsMap_made (w.setCell ⟨p, 0, none⟩ (.map (some w.heap.size))) Try.prog 9 ptrEl (H := Unit)
    rw [hsc] at h1
    rw [hW]
    exact h1
  have hWf : Fr w W [p] := by
    rw [hW]
    exact (Fr.set w p 0 _).trans (Fr.of_below ((Below.refl _ _).alloc (Nat.le_refl _) _) [p]) (fun k hk => .inl hk)
  have HWp := Lib.hid hWp
  have HWo := Lib.hid hWo
  have HWf := Lib.hid hWf
  have HPL := Lib.hid hpl
  have HW := Lib.hid hW
  have hS : W.cell? ⟨p, 0, none⟩ = some (.map (some w.heap.size)) ∧ Below W.heap.size W W := ⟨cell_of_row W p 0 _ _ _ hWp, Below.refl _ _⟩
  clear hp hWp hWo hWf hW hsc
  have HU : Hid (∀ w2, Below W.heap.size W w2 → ∃ w3, (Instr.mapUpdate 124 (.map (some w.heap.size)) (.string (tx r.name)) (.pointer (some ⟨r.fb, 0, none⟩))).run Try.prog w2 = .ok () w3 ∧ w3.cell? ⟨p, 0, none⟩ = some (.map (some w.heap.size)) ∧ RetPut w p none [r] room used left dead armed (.returned (.tuple #[])) w3) := Lib.hid (fun w2 hb => by
    have ho := HWo.out
    have ho2 := ho.kept (w' := w2) (row := none) ⟨hb.os, hb.tape, hb.output, hb.size, fun k hk _ => hb.block k hk⟩ (by simp)
    obtain ⟨w3, hrun, h3, hg⟩ := ho2.update (t := 124) (e := 127) lawN Try.underlying124 (by omega) hkey (ptrEl_some r.fb)
    have hpW : p < W.heap.size := (Array.getElem?_eq_some_iff.1 HWp.out).1
    have hp3 : w3.heap[p]? = some (.cells (headV (some w.heap.size) room used left dead armed) 126 (0, 0)) := by
      rw [hg.block p (Nat.lt_of_lt_of_le hpW hb.size) (fun e => by injection e with e; have := HPL.out; omega), hb.block p hpW]
      exact HWp.out
    refine ⟨w3, hrun, cell_of_row w3 p 0 _ _ _ hp3, rfl, w.heap.size, _, hp3, h3, MR.put (rs := []) ⟨rfl, fun x => rfl, fun q hq => by cases hq⟩ (ho.tidy lawN) (fun q hq => by cases hq), ?_, .inr (Nat.le_refl _)⟩
    · have f1 : Fr w w2 [p] := HWf.out.trans (Fr.of_below hb [p]) (fun k hk => .inl hk)
      have f2 : Fr w2 w3 [w.heap.size] := Fr.of_grown hg (fun k hk => by injection hk with hk; rw [hk]; exact List.mem_singleton.2 rfl)
      exact f1.trans f2 (fun k hk => .inr (by rw [List.mem_singleton] at hk; omega)))
  clear hkey hml
  go_enter Try.func66, Try.ntmps66
  go_wp2
  rw [← HW.out]
  go_region_held3 (fun w' => w'.cell? ⟨p, 0, none⟩ = some (.map (some w.heap.size))) (first | assumption | exact hS.1 | exact hS2.1)
    (first | (go_at_call 123; refine (Dclone _ _ hsz).mono ?_; rintro e w2 ⟨rfl, hb2⟩; have hS2 := Cel.made (w := W.drew) (w0 := W) (v := .map (some w.heap.size)) (p := ⟨p, 0, none⟩) ⟨hS.1, hS.2.drew⟩ hb2; obtain ⟨w3, hrun, hS3, hfin⟩ := HU.out _ hS2.2))
  go_end0
  exact hfin
end
end Go.Proofs.Ytcclhkoggijkaaa
namespace Go.Proofs.Ytcclhkoggijkaaa
open Go Go.RowKit

def szL : List En → Nat
  | [] => 0
  | e :: t => wE e + szL t
theorem szL_app : ∀ a b : List En, szL (a ++ b) = szL a + szL b
  | [], b => by simp [szL]
  | e :: t, b => by rw [List.cons_append, szL, szL, szL_app t b]; omega
def SortL (l : List En) : Prop := l.Pairwise (fun a b => lessE a b = true)
theorem posI_app {p q : List En} {x : En} (h1 : ∀ y ∈ p, lessE x y = false) (h2 : ∀ y ∈ q, lessE x y = true) : ∀ j, j ≤ q.length → posI (p ++ q) x (p.length + j) = p.length
  | 0, _ => by
    rw [Nat.add_zero]
    cases hp : p.length with
    | zero => rfl
    | succ m =>
      have hm : m < p.length := by omega
      have e : (p ++ q)[m]? = some (p[m]'hm) := by rw [List.getElem?_append_left hm, List.getElem?_eq_getElem hm]
      rw [posI, e]
      simp only
      rw [h1 _ (List.getElem_mem hm)]
      rfl
  | j + 1, h => by
    have hj : j < q.length := by omega
    have e : (p ++ q)[p.length + j]? = some (q[j]'hj) := by rw [List.getElem?_append_right (by omega), Nat.add_sub_cancel_left, List.getElem?_eq_getElem hj]
    rw [← Nat.add_assoc, posI, e]
    simp only
    rw [h2 _ (List.getElem_mem hj)]
    exact posI_app h1 h2 j (by omega)
theorem insL_app {p q : List En} {x : En} (h1 : ∀ y ∈ p, lessE x y = false) (h2 : ∀ y ∈ q, lessE x y = true) : insL (p ++ q) x = p ++ x :: q := by
  have h := posI_app h1 h2 q.length (Nat.le_refl _)
  unfold insL
  rw [List.length_append, h]
  simp
/-- What the reference's Get finds. -/
def findL (key : List UInt8) (at_ : Nat) (l : List En) : Option En := l.find? (fun y => eqB y.key key && decide (y.seq ≤ at_))
def inR (xs ys : List UInt8) (e : En) : Bool := decide (0 ≤ cmpB e.key xs) && decide (ys.length = 0 ∨ cmpB e.key ys < 0)
theorem less_key {a b : En} {zs : List UInt8} (h : lessE a b = true) (k : cmpB b.key zs < 0) : cmpB a.key zs < 0 := by
  rcases lessE_iff.1 h with q | ⟨q, _⟩
  · exact cmpB_trans q k
  · rw [q]; exact k
/-- The reference's PutAll, of entries in form. -/
def refIns : List En → List En → Option (List En)
  | l, [] => some l
  | l, x :: xs => if inL l x then none else refIns (insL l x) xs
theorem insL_len (l : List En) (x : En) : (insL l x).length = l.length + 1 := by
  have := posI_le l x l.length
  unfold insL
  rw [List.length_append, List.length_cons, List.length_take, List.length_drop]
  omega
theorem split_of {x : En} : ∀ {o : List En}, SortL o → inL o x = false → ∃ p q, o = p ++ q ∧ (∀ y ∈ p, lessE y x = true) ∧ (∀ y ∈ q, lessE x y = true)
  | [], _, _ => ⟨[], [], rfl, (fun y hy => by cases hy), fun y hy => by cases hy⟩
  | a :: t, hs, hin => by
    obtain ⟨h1, h2⟩ := List.pairwise_cons.1 hs
    unfold inL at hin
    rw [List.any_cons, Bool.or_eq_false_iff] at hin
    rcases lessE_tri a x with h | h | h
    · obtain ⟨p, q, e, k1, k2⟩ := split_of h2 hin.2
      refine ⟨a :: p, q, by rw [e]; rfl, fun y hy => ?_, k2⟩
      rcases List.mem_cons.1 hy with rfl | hy
      · exact h
      · exact k1 y hy
    · refine ⟨[], a :: t, rfl, (fun y hy => by cases hy), fun y hy => ?_⟩
      rcases List.mem_cons.1 hy with rfl | hy
      · exact h
      · exact lessE_trans h (h1 y hy)
    · rw [h] at hin
      cases hin.1
theorem insL_sort {o : List En} {x : En} (hs : SortL o) (hin : inL o x = false) : SortL (insL o x) := by
  obtain ⟨p, q, e, h1, h2⟩ := split_of hs hin
  subst e
  rw [insL_app (fun y hy => lessE_asym (h1 y hy)) h2]
  obtain ⟨s1, s2, s3⟩ := List.pairwise_append.1 hs
  exact List.pairwise_append.2 ⟨s1, List.pairwise_cons.2 ⟨h2, s2⟩, fun a ha b hb => by
    rcases List.mem_cons.1 hb with rfl | hb
    · exact h1 a ha
    · exact s3 a ha b hb⟩
/-- Entries in order go in behind one another. -/
theorem refIns_sort : ∀ {q p : List En}, SortL (p ++ q) → refIns p q = some (p ++ q)
  | [], p, _ => by rw [List.append_nil]; rfl
  | x :: xs, p, hs => by
    have h1 : ∀ y ∈ p, lessE y x = true := fun y hy => (List.pairwise_append.1 hs).2.2 y hy x (by simp)
    have h2 : inL p x = false := by
      unfold inL
      rw [List.any_eq_false]
      intro y hy k
      have := (sameK_not k).1
      rw [h1 y hy] at this
      cases this
    have h3 : insL p x = p ++ [x] := by
      have := insL_app (p := p) (q := []) (x := x) (fun y hy => lessE_asym (h1 y hy)) (fun y hy => by cases hy)
      simpa using this
    rw [refIns, h2, if_neg (by simp), h3]
    have e : p ++ x :: xs = (p ++ [x]) ++ xs := by simp
    rw [e] at hs ⊢
    exact refIns_sort hs
/-- In form, and not too long. -/
def okE (x : En) : Bool := decide (checkE [x] = 0)
theorem okE_iff {x : En} : okE x = true ↔ longE x = false ∧ formE x = true := by
  unfold okE checkE
  rw [decide_eq_true_eq]
  simp only [List.any_cons, List.any_nil, Bool.or_false, List.all_cons, List.all_nil, Bool.and_true]
  cases longE x <;> cases formE x <;> simp
theorem checkE_ok {es : List En} (h : ∀ x ∈ es, okE x = true) : checkE es = 0 := by
  unfold checkE
  rw [if_neg, if_pos]
  · rw [List.all_eq_true]
    exact fun x hx => (okE_iff.1 (h x hx)).2
  · rw [List.any_eq_true]
    rintro ⟨x, hx, k⟩
    rw [(okE_iff.1 (h x hx)).1] at k
    cases k
/-- The reference's Sorted. -/
def srt : List En → List En → List En
  | o, [] => o
  | o, x :: xs => if okE x && !inL o x then srt (insL o x) xs else srt o xs
theorem srt_snoc : ∀ (o xs : List En) (x : En), srt o (xs ++ [x]) = if okE x && !inL (srt o xs) x then insL (srt o xs) x else srt o xs
  | o, [], x => by simp [srt]
  | o, y :: ys, x => by
    simp only [List.cons_append, srt]
    split
    · exact srt_snoc _ ys x
    · exact srt_snoc _ ys x
theorem srt_prop : ∀ {xs o : List En}, SortL o → (∀ x ∈ o, okE x = true) → SortL (srt o xs) ∧ (∀ x ∈ srt o xs, okE x = true)
  | [], o, h1, h2 => ⟨h1, h2⟩
  | x :: xs, o, h1, h2 => by
    unfold srt
    split
    · next h =>
      rw [Bool.and_eq_true, Bool.not_eq_true'] at h
      exact srt_prop (insL_sort h1 h.2) (fun y hy => by
        rcases insL_mem' hy with rfl | hy
        · exact h.1
        · exact h2 y hy)
    · exact srt_prop h1 h2
where
  insL_mem' {l : List En} {x y : En} (h : y ∈ insL l x) : y = x ∨ y ∈ l := by
    unfold insL at h
    rcases List.mem_append.1 h with h | h
    · exact .inr (List.mem_of_mem_take h)
    · rcases List.mem_cons.1 h with h | h
      · exact .inl h
      · exact .inr (List.mem_of_mem_drop h)
theorem szL_insL (l : List En) (x : En) : szL (insL l x) = szL l + wE x := by
  unfold insL
  have := szL_app (l.take (posI l x l.length)) (l.drop (posI l x l.length))
  rw [List.take_append_drop] at this
  rw [szL_app, szL]
  omega
theorem srt_len : ∀ (xs o : List En), (srt o xs).length ≤ o.length + xs.length ∧ szL (srt o xs) ≤ szL o + szL xs
  | [], o => ⟨by simp [srt], by simp [srt, szL]⟩
  | x :: xs, o => by
    unfold srt
    split
    · have := srt_len xs (insL o x)
      rw [insL_len, szL_insL] at this
      simp only [List.length_cons, szL]
      omega
    · have := srt_len xs o
      simp only [List.length_cons, szL]
      omega
theorem srt_mem : ∀ {xs o : List En}, ∀ x ∈ srt o xs, x ∈ o ∨ x ∈ xs
  | [], o, x, h => .inl h
  | y :: ys, o, x, h => by
    unfold srt at h
    split at h
    · rcases srt_mem x h with q | q
      · rcases srt_prop.insL_mem' q with q | q
        · exact .inr (by simp [q])
        · exact .inl q
      · exact .inr (by simp [q])
    · rcases srt_mem x h with q | q
      · exact .inl q
      · exact .inr (by simp [q])
end Go.Proofs.Ytcclhkoggijkaaa
