/- Lock: owners and the table in memory; who is found, who waits for whom. No condition but sizes. -/
import Derived.Test.YtmpdenpopokigaaLkC
import Derived.Test.YtmpdenpopokigaaFrW
import Derived.Deep.DeepCutAuto
import Derived.Deep.CutBlock
import Derived.BigQuiet
import Derived.Deep.QuietTactic
import Derived.Laws.StructEq
import Derived.LaidEqlPtr
import Derived.Deep.RegionHeld3
namespace Go.Proofs.Ytmpdenpopokigaa
open Go Go.RowKit

theorem OwnGr.fr {w w' : World} {bl : List Nat} {base n c : Nat} {A : Option Addr} {vs : List Value} (h : OwnGr w base A n c vs) (hf : Fr w w' bl) (ho : ∀ b, blk A = some b → b ∉ bl) : OwnGr w' base A n c vs := by
  refine ⟨h.1, ?_⟩
  rcases h.2 with h1 | ⟨g, cap, cur, h1, h2, h3, h4⟩
  · exact .inl h1
  · injection h1 with h1 h5 h6
    subst h1 h6
    exact .inr ⟨g, _, cur, rfl, h2, (hf.block g (Array.getElem?_eq_some_iff.1 h3).1 (ho g rfl)).trans h3, h4⟩
/-- An owner: its block, its name, what it holds and asks for (where that lies), its turn. -/
structure Ob where
  b : Nat
  s : Nat
  q : Nat
  hA : Option Addr
  hc : Nat
  held : List Rg
  aA : Option Addr
  ac : Nat
  asked : List Rg
  turn : Nat
/-- The rows' blocks. -/
def Ob.rows (o : Ob) : List Nat := (blk o.hA).toList ++ (blk o.aA).toList
/-- Bytes that lie somewhere from base on; some may share memory. -/
def FamW (w : World) (base : Nat) (ps : List VB) : Prop := ∀ p ∈ ps, ∃ A m c, p.1 = .slice A m c ∧ Own 5 w base A m c p.2
/-- A row of ranges, whose bytes lie somewhere. -/
def RgAt (w : World) (bs : Nat) (A : Option Addr) (c : Nat) (rs : List Rg) : Prop := ∃ ps, OwnGr w bs A rs.length c (flatG rs ps) ∧ FamW w bs ps ∧ ps.map (·.2) = datG rs
/-- 'The owner lies in memory so.' -/
def ObAt (w : World) (bs : Nat) (o : Ob) : Prop :=
  Cl w o.b #[.int .u64 (o.s : Int), .int .u64 (o.q : Int), .slice o.hA o.held.length o.hc, .slice o.aA o.asked.length o.ac, .int .u64 (o.turn : Int)] 164 ∧
  bs ≤ o.b ∧ RgAt w bs o.hA o.hc o.held ∧ RgAt w bs o.aA o.ac o.asked ∧ o.rows.Nodup
/-- Two owners that share no block of their own. -/
def ApO (a b : Ob) : Prop := a.b ≠ b.b ∧ ∀ k ∈ a.rows, k ∉ b.rows
def obP (o : Ob) : Value := .pointer (some ⟨o.b, 0, none⟩)
theorem grvs_of_famW {w : World} {base : Nat} : ∀ {rs : List Rg} {ps : List VB}, FamW w base ps → ps.map (·.2) = datG rs → GrVs w rs (flatG rs ps)
  | [], ps, _, _ => by cases ps <;> rfl
  | r :: rs, [], _, h => by simp [datG] at h
  | r :: rs, [p], _, h => by simp [datG] at h
  | r :: rs, p :: q :: ps, hf, h => by
    simp only [List.map_cons, datG, List.cons.injEq] at h
    obtain ⟨A, m, c, e1, ho⟩ := hf p (by simp)
    obtain ⟨B, k, d, e2, ho2⟩ := hf q (by simp)
    refine ⟨_, _, _, _, rfl, ⟨rfl, ?_, ?_⟩, grvs_of_famW (fun x hx => hf x (by simp [hx])) h.2.2⟩
    · rw [e1, ← h.1]; exact elb_own ho
    · rw [e2, ← h.2.1]; exact elb_own ho2
theorem FamW.of {w : World} {base b2 : Nat} {ps : List VB} (h : Fam w base ps) (hb : b2 ≤ base) : FamW w b2 ps := fun p hp => by
  obtain ⟨A, m, c, e, ho⟩ := h.1 p hp
  exact ⟨A, m, c, e, ho.mono hb⟩
theorem FamW.app {w : World} {base : Nat} {ps qs : List VB} (h : FamW w base ps) (h2 : FamW w base qs) : FamW w base (ps ++ qs) := fun p hp => by
  rcases List.mem_append.1 hp with hp | hp
  · exact h p hp
  · exact h2 p hp
theorem FamW.below {w w' : World} {base : Nat} {ps : List VB} (h : FamW w base ps) (hb : Below w.heap.size w w') : FamW w' base ps := fun p hp => by
  obtain ⟨A, m, c, e, ho⟩ := h p hp
  exact ⟨A, m, c, e, ho.below hb⟩
/-- No bytes lie in these blocks. -/
def NoBy (w : World) (bl : List Nat) : Prop := ∀ b ∈ bl, ∀ (base : Nat) (A : Option Addr) (m c : Nat) (xs : List UInt8), Own 5 w base A m c xs → blk A ≠ some b
theorem NoBy.app {w : World} {bl bm : List Nat} (h : NoBy w bl) (h2 : NoBy w bm) : NoBy w (bl ++ bm) := fun b hb => by
  rcases List.mem_append.1 hb with hb | hb
  · exact h b hb
  · exact h2 b hb
theorem NoBy.cl {w : World} {p : Nat} {us : Array Value} {ty : TypeId} (hp : Cl w p us ty) (hne : ty ≠ 5) : NoBy w [p] := fun b hb base A m c xs ho => by
  obtain rfl : b = p := by simpa using hb
  exact cl_row hp ho hne
theorem NoBy.row {w : World} {base t s n c : Nat} {A : Option Addr} {vs : List Value} (h : w.ownsRow base t s (.slice A n c) n vs) (hne : t ≠ 5) : NoBy w (blk A).toList := fun b hb base A m c xs ho e => by
  simp only [Option.mem_toList] at hb
  exact row_ne h ho hne b hb e
theorem FamW.fr {w w' : World} {bl : List Nat} {base : Nat} {ps : List VB} (h : FamW w base ps) (hf : Fr w w' bl) (hn : NoBy w bl) : FamW w' base ps := fun p hp => by
  obtain ⟨A, m, c, e, ho⟩ := h p hp
  exact ⟨A, m, c, e, ho.fr hf (fun b hb hm => hn b hm _ _ _ _ _ ho hb)⟩
section
variable {w w' : World} {bs : Nat} {A : Option Addr} {c : Nat} {rs : List Rg} {o : Ob}
theorem RgAt.rd (h : RgAt w bs A c rs) : RGr w A rs.length rs := by
  obtain ⟨ps, h1, h2, h3⟩ := h
  exact RGr.mk (grvs_of_famW h2 h3) h1.rd rfl
theorem RgAt.below (h : RgAt w bs A c rs) (hb : Below w.heap.size w w') : RgAt w' bs A c rs := by
  obtain ⟨ps, h1, h2, h3⟩ := h
  exact ⟨ps, h1.below hb, h2.below hb, h3⟩
theorem RgAt.lt (h : RgAt w bs A c rs) (b : Nat) (hb : blk A = some b) : bs ≤ b ∧ b < w.heap.size := by
  obtain ⟨ps, h1, _⟩ := h
  exact h1.lt b hb
theorem RgAt.cap (h : RgAt w bs A c rs) : rs.length ≤ c ∧ c ≤ maxLen := by
  obtain ⟨ps, h1, _⟩ := h
  exact h1.cap
theorem RgAt.ne_cl {p : Nat} {us : Array Value} {ty : TypeId} (h : RgAt w bs A c rs) (hp : Cl w p us ty) (hne : ty ≠ 97) : blk A ≠ some p := by
  obtain ⟨ps, h1, _⟩ := h
  exact cl_row hp h1 hne
theorem RgAt.noBy (h : RgAt w bs A c rs) : NoBy w (blk A).toList := by
  obtain ⟨ps, h1, _⟩ := h
  exact NoBy.row h1 (by decide)
/-- Blocks that are neither the row's nor bytes have turned. -/
theorem RgAt.fr {bl : List Nat} (h : RgAt w bs A c rs) (hf : Fr w w' bl) (ho : ∀ b, blk A = some b → b ∉ bl) (hd : NoBy w bl) : RgAt w' bs A c rs := by
  obtain ⟨ps, h1, h2, h3⟩ := h
  exact ⟨ps, h1.fr hf ho, h2.fr hf hd, h3⟩
theorem RgAt.nil (w : World) (bs : Nat) : RgAt w bs none 0 [] := ⟨[], OwnGr.nil _ _, (fun p hp => by cases hp), rfl⟩
theorem ObAt.cl (h : ObAt w bs o) : Cl w o.b #[.int .u64 (o.s : Int), .int .u64 (o.q : Int), .slice o.hA o.held.length o.hc, .slice o.aA o.asked.length o.ac, .int .u64 (o.turn : Int)] 164 := h.1
theorem ObAt.hR (h : ObAt w bs o) : RgAt w bs o.hA o.hc o.held := h.2.2.1
theorem ObAt.aR (h : ObAt w bs o) : RgAt w bs o.aA o.ac o.asked := h.2.2.2.1
theorem ObAt.nd (h : ObAt w bs o) : o.rows.Nodup := h.2.2.2.2
theorem ObAt.ge (h : ObAt w bs o) : bs ≤ o.b := h.2.1
theorem ObAt.below (h : ObAt w bs o) (hb : Below w.heap.size w w') : ObAt w' bs o := ⟨h.1.below hb, h.2.1, h.2.2.1.below hb, h.2.2.2.1.below hb, h.2.2.2.2⟩
theorem ObAt.k0 (h : ObAt w bs o) : w.cell? ⟨o.b, 0, none⟩ = some (.int .u64 (o.s : Int)) := h.1.cell 0
theorem ObAt.k1 (h : ObAt w bs o) : w.cell? ⟨o.b, 1, none⟩ = some (.int .u64 (o.q : Int)) := h.1.cell 1
theorem ObAt.k2 (h : ObAt w bs o) : w.cell? ⟨o.b, 2, none⟩ = some (.slice o.hA o.held.length o.hc) := h.1.cell 2
theorem ObAt.k3 (h : ObAt w bs o) : w.cell? ⟨o.b, 3, none⟩ = some (.slice o.aA o.asked.length o.ac) := h.1.cell 3
theorem ObAt.k4 (h : ObAt w bs o) : w.cell? ⟨o.b, 4, none⟩ = some (.int .u64 (o.turn : Int)) := h.1.cell 4
theorem ObAt.lt (h : ObAt w bs o) : o.b < w.heap.size := h.1.lt
end
/-- 'A slice of pointers reads as these owners.' -/
def ROb (w : World) (bs : Nat) (A : Option Addr) (n : Nat) (os : List Ob) : Prop := RdV w A n (os.map obP) ∧ ∀ o ∈ os, ObAt w bs o
theorem ROb.below {w w' : World} {bs : Nat} {A : Option Addr} {n : Nat} {os : List Ob} (h : ROb w bs A n os) (hb : Below w.heap.size w w') : ROb w' bs A n os := ⟨h.1.below hb, fun o ho => (h.2 o ho).below hb⟩
theorem ROb.len {w : World} {bs : Nat} {A : Option Addr} {n : Nat} {os : List Ob} (h : ROb w bs A n os) : os.length = n := by have := h.1.len; simpa using this
theorem ROb.at_ {w : World} {bs b off n : Nat} {os : List Ob} (h : ROb w bs (some ⟨b, off, none⟩) n os) (k : Nat) (hk : k < n) : ∃ o, os[k]? = some o ∧ w.cell? ⟨b, off + k, none⟩ = some (.pointer (some ⟨o.b, 0, none⟩)) ∧ ObAt w bs o := by
  obtain ⟨v, hv, hc⟩ := h.1.at_ k hk
  rw [List.getElem?_map] at hv
  cases ho : os[k]? with
  | none => rw [ho] at hv; cases hv
  | some o =>
    rw [ho] at hv
    injection hv with hv
    subst hv
    exact ⟨o, rfl, hc, h.2 o (List.mem_of_getElem? ho)⟩
/-- The first place at which P holds, or -1. -/
def ixB (P : Ob → Bool) (os : List Ob) : Int := match os.findIdx? P with
  | some i => (i : Int)
  | none => -1
theorem ixB_no {P : Ob → Bool} {os : List Ob} (h : os.any P = false) : ixB P os = -1 := by
  unfold ixB
  have : os.findIdx? P = none := by
    rw [List.findIdx?_eq_none_iff]
    intro x hx
    have := List.any_eq_false.1 h x hx
    simpa using this
  rw [this]
theorem ixB_yes {P : Ob → Bool} {os : List Ob} {k : Nat} {o : Ob} (h : (os.take k).any P = false) (ho : os[k]? = some o) (hp : P o = true) : ixB P os = (k : Int) := by
  unfold ixB
  have hk := (List.getElem?_eq_some_iff.1 ho)
  obtain ⟨hk1, hk2⟩ := hk
  have : os.findIdx? P = some k := by
    rw [List.findIdx?_eq_some_iff_getElem]
    refine ⟨hk1, by rw [hk2]; exact hp, fun j hj => ?_⟩
    have h1 := List.any_eq_false.1 h (os[j]'(by omega)) (by
      rw [List.mem_iff_getElem]
      exact ⟨j, by rw [List.length_take]; omega, by simp⟩)
    simpa using h1
  rw [this]
section
variable {w : World} {bs : Nat} {A : Option Addr} {n c : Nat} {os : List Ob}
set_option maxRecDepth 100000 in
set_option maxHeartbeats 4000000 in
theorem indexO_any (g : Nat) (pre cb : Array Value) (P : Ob → Bool) (eg : ∀ args w, (callFunc g args).run Try.prog w = .ok (.enter g args) w) (hr : ROb w bs A n os) (hn : n ≤ 1099511627776)
    (hf : ∀ wx, Below w.heap.size w wx → ∀ o, o ∈ os → Calls Try.prog g (pre.push (.pointer (some ⟨o.b, 0, none⟩)) ++ cb) wx (RetT wx (P o))) :
    Calls Try.prog 143 #[.slice A n c, .func (.func g) pre cb] w (RetNu w (ixB P os)) := by
  have HF := Lib.hid hf
  have HR := Lib.hid hr
  have HL := Lib.hid hr.len
  clear hf hr
  go_enter Try.func143, Try.ntmps143
  go_wp2_with fail
  go_loopw [8] (fun s8 wr => ∃ k : Nat, k ≤ n ∧ s8 = .int .i64 (k : Int) ∧ (os.take k).any P = false ∧ Below w.heap.size w wr) (fun s _ => n - (intOf s).toNat)
  case atStart => exact ⟨0, Nat.zero_le _, rfl, rfl, Below.refl _ _⟩
  case round =>
    obtain ⟨k, hk, rfl, hany, hB⟩ := hrel
    have HA := Lib.hid hany
    have HB := Lib.hid hB
    clear hany hB
    by_cases hlt : k < n
    · have hR := HR.out.below HB.out
      obtain ⟨b, off, hAb, hbl⟩ := hR.1.pos (by omega)
      subst hAb
      obtain ⟨x, hx, m0, hv⟩ := hR.at_ k hlt
      obtain ⟨xb, hxb⟩ : ∃ xb, xb = x.b := ⟨_, rfl⟩
      rw [← hxb] at m0
      obtain ⟨z, hz⟩ : ∃ z, z = P x := ⟨_, rfl⟩
      have HC : Hid (Calls Try.prog g (pre.push (.pointer (some ⟨xb, 0, none⟩)) ++ cb) wr (RetT wr z)) := Lib.hid (by rw [hz, hxb]; exact HF.out wr HB.out x (List.mem_of_getElem? hx))
      have HT : Hid ((os.take (k + 1)).any P = z) := Lib.hid (by rw [any_take_succ P hx, HA.out, hz]; simp)
      have HM : Hid (z = true → ixB P os = (k : Int)) := Lib.hid (fun h => ixB_yes HA.out hx (by rw [← hz]; exact h))
      clear hR hx hv hz hxb
      go_wp2_with fail
      with_reducible refine HC.out.mono ?_
      intro e w2 hq
      obtain ⟨h1, b2⟩ := RetT.outD hq
      subst h1
      have HB2 := Lib.hid (belowT' HB.out b2)
      clear hq b2 m0
      cases z with
      | true =>
        have HF2 : Hid (RetNu w (ixB P os) (.returned (.int .i64 (k : Int))) w2) := Lib.hid ⟨by rw [HM.out rfl], HB2.out⟩
        go_wp2_with fail
        go_ret
        exact HF2.out
      | false =>
        go_wp2_with fail
        go_roundw
        case rel => exact ⟨k + 1, by omega, by go_num, HT.out, HB2.out⟩
        case measure => simp [intOf]; omega
    · have HF2 : Hid (RetNu w (ixB P os) (.returned (.int .i64 (-1))) wr) := Lib.hid ⟨by
        have h1 := HA.out
        rw [List.take_of_length_le (by rw [HL.out]; omega)] at h1
        rw [ixB_no h1], HB.out⟩
      go_wp2_with fail
      go_ret
      exact HF2.out
theorem ixB_any (P : Ob → Bool) (os : List Ob) : decide (0 ≤ ixB P os) = os.any P := by
  cases h : os.any P with
  | false => rw [ixB_no h]; rfl
  | true =>
    unfold ixB
    cases h2 : os.findIdx? P with
    | some i => simp
    | none =>
      rw [List.findIdx?_eq_none_iff] at h2
      obtain ⟨x, hx, hp⟩ := List.any_eq_true.1 h
      rw [h2 x hx] at hp
      cases hp
set_option maxRecDepth 100000 in
set_option maxHeartbeats 4000000 in
theorem containsO_any (g : Nat) (pre cb : Array Value) (P : Ob → Bool) (eg : ∀ args w, (callFunc g args).run Try.prog w = .ok (.enter g args) w) (hr : ROb w bs A n os) (hn : n ≤ 1099511627776)
    (hf : ∀ wx, Below w.heap.size w wx → ∀ o, o ∈ os → Calls Try.prog g (pre.push (.pointer (some ⟨o.b, 0, none⟩)) ++ cb) wx (RetT wx (P o))) :
    Calls Try.prog 139 #[.slice A n c, .func (.func g) pre cb] w (RetT w (os.any P)) := by
  obtain ⟨z, hz⟩ : ∃ z, z = ixB P os := ⟨_, rfl⟩
  have HI : Hid (Calls Try.prog 143 #[.slice A n c, .func (.func g) pre cb] w (RetNu w z)) := Lib.hid (by rw [hz]; exact indexO_any (c := c) g pre cb P eg hr hn hf)
  have HZ : Hid (os.any P = decide (0 ≤ z)) := Lib.hid (by rw [hz, ixB_any])
  clear hf hr eg hz
  go_enter Try.func139, Try.ntmps139
  go_wp2_with fail
  with_reducible refine HI.out.mono ?_
  intro e w2 hq
  obtain ⟨h1, b2⟩ : e = .returned (.int .i64 z) ∧ Below w.heap.size w w2 := hq
  subst h1
  have HB2 := Lib.hid b2
  clear b2
  go_wp2_with fail
  go_ret
  exact ⟨by rw [HZ.out]; rfl, HB2.out⟩
set_option maxRecDepth 100000 in
theorem eqTxn (a b c d : Int) (w : World) : (binOp .eql 83 (.agg #[.int .u64 a, .int .u64 b]) (.agg #[.int .u64 c, .int .u64 d])).run Try.prog w = .ok (.bool (a == c && b == d)) w := by
  have hS : Try.prog.underlying 83 = some (.struct (Try.prog.fieldsOf 83)) := by kernel_rfl
  have hp : Try.prog.stoodInHeld 83 = false := by kernel_rfl
  have u := Try.underlying35
  rw [run_eql_struct, show (10000 : Nat) = 9999 + 1 from rfl, run_equalIn_agg w 9999 83 _ _ hS hp]
  simp only [Program.fieldsOf, Try.underlying83]
  go_simp
  by_cases h1 : a = c <;> by_cases h2 : b = d <;> simp [h1, h2]
/-- Is it of that name? -/
def isO (s q : Nat) (o : Ob) : Bool := ((o.s : Int) == (s : Int)) && ((o.q : Int) == (q : Int))
set_option maxRecDepth 100000 in
set_option maxHeartbeats 4000000 in
theorem find1_any {g s q : Nat} {o : Ob} (hg : Cl w g #[.int .u64 (s : Int), .int .u64 (q : Int)] 83) (ho : ObAt w bs o) : Calls Try.prog 147 #[.pointer (some ⟨o.b, 0, none⟩), .pointer (some ⟨g, 0, none⟩)] w (RetT w (isO s q o)) := by
  have c0 := hg.cell 0
  have c1 := hg.cell 1
  have d0 := ho.k0
  have d1 := ho.k1
  have heq := eqTxn (o.s : Int) (o.q : Int) (s : Int) (q : Int)
  obtain ⟨ob, hob⟩ : ∃ ob, ob = o.b := ⟨_, rfl⟩
  rw [← hob] at d0 d1 ⊢
  clear hg ho hob
  go_enter Try.func147, Try.ntmps147
  go_wp2_with fail
  go_quiet (fail)
  clear heq
  go_wp2_with fail
  go_ret
  exact ⟨rfl, below_drewN (Below.refl _ _) nq⟩
theorem ixB_find (P : Ob → Bool) (os : List Ob) : (ixB P os = -1 ∧ os.find? P = none) ∨ ∃ (k : Nat) (o : Ob), ixB P os = (k : Int) ∧ os[k]? = some o ∧ os.find? P = some o := by
  cases h : os.findIdx? P with
  | none =>
    refine .inl ⟨by unfold ixB; rw [h], ?_⟩
    rw [List.findIdx?_eq_none_iff] at h
    rw [List.find?_eq_none]
    intro x hx
    simpa using h x hx
  | some k =>
    have h1 := h
    rw [List.findIdx?_eq_some_iff_getElem] at h1
    obtain ⟨hk, hp, hj⟩ := h1
    refine .inr ⟨k, os[k], by unfold ixB; rw [h], List.getElem?_eq_getElem hk, ?_⟩
    rw [List.find?_eq_some_iff_getElem]
    exact ⟨hp, k, hk, rfl, fun j hjk => by simpa using hj j hjk⟩
end
/-- 'The table lies in memory so.' -/
def TkAt (w : World) (bs : Nat) (p : Nat) (OA : Option Addr) (oc turns : Nat) (os : List Ob) : Prop :=
  Cl w p #[.slice OA os.length oc, .int .u64 (turns : Int)] 91 ∧ bs ≤ p ∧ OwnV 157 w bs OA os.length oc (os.map obP) ∧ (∀ o ∈ os, ObAt w bs o) ∧ os.Pairwise ApO
/-- A pointer to it, or nil. -/
def ptO (o : Option Ob) : Value := .pointer (o.map fun x => ⟨x.b, 0, none⟩)
def RetOb (w : World) (o : Option Ob) (e : Ending) (w' : World) : Prop := e = .returned (ptO o) ∧ Below w.heap.size w w'
theorem RetOb.out {w : World} {o : Option Ob} {e : Ending} {w' : World} (h : RetOb w o e w') : e = .returned (ptO o) ∧ Below w.heap.size w w' := h
section
variable {w w' : World} {bs p : Nat} {OA : Option Addr} {oc turns : Nat} {os : List Ob}
theorem TkAt.cl (h : TkAt w bs p OA oc turns os) : Cl w p #[.slice OA os.length oc, .int .u64 (turns : Int)] 91 := h.1
theorem TkAt.ge (h : TkAt w bs p OA oc turns os) : bs ≤ p := h.2.1
theorem TkAt.row (h : TkAt w bs p OA oc turns os) : OwnV 157 w bs OA os.length oc (os.map obP) := h.2.2.1
theorem TkAt.obs (h : TkAt w bs p OA oc turns os) : ∀ o ∈ os, ObAt w bs o := h.2.2.2.1
theorem TkAt.dis (h : TkAt w bs p OA oc turns os) : os.Pairwise ApO := h.2.2.2.2
theorem TkAt.below (h : TkAt w bs p OA oc turns os) (hb : Below w.heap.size w w') : TkAt w' bs p OA oc turns os := by
  obtain ⟨h1, h0, h2, h3, h4⟩ := h
  exact ⟨h1.below hb, h0, h2.below hb, fun o ho => (h3 o ho).below hb, h4⟩
theorem TkAt.rob (h : TkAt w bs p OA oc turns os) : ROb w bs OA os.length os := ⟨h.row.rd, h.obs⟩
theorem TkAt.k0 (h : TkAt w bs p OA oc turns os) : w.cell? ⟨p, 0, none⟩ = some (.slice OA os.length oc) := h.1.cell 0
theorem TkAt.k1 (h : TkAt w bs p OA oc turns os) : w.cell? ⟨p, 1, none⟩ = some (.int .u64 (turns : Int)) := h.1.cell 1
set_option maxRecDepth 100000 in
set_option maxHeartbeats 4000000 in
theorem find_any16 (h : TkAt w bs p OA oc turns os) (hn : os.length ≤ 1099511627776) (s q : Nat) : Calls Try.prog 104 #[.pointer (some ⟨p, 0, none⟩), .agg #[.int .u64 (s : Int), .int .u64 (q : Int)]] w (RetOb w (os.find? (isO s q))) := by
  obtain ⟨W, hW⟩ : ∃ W, W = w.alloc (.cells #[.int .u64 (s : Int), .int .u64 (q : Int)] 83) := ⟨_, rfl⟩
  have bW : Below w.heap.size w W := by rw [hW]; exact (Below.refl _ _).alloc (Nat.le_refl _) _
  have zW : Cl W w.heap.size #[.int .u64 (s : Int), .int .u64 (q : Int)] 83 := by rw [hW]; exact Cl.new _ _ _
  have hT := h.below bW
  obtain ⟨z, hz⟩ : ∃ z, z = ixB (isO s q) os := ⟨_, rfl⟩
  have HIX : Hid (Calls Try.prog 143 #[.slice OA os.length oc, .func (.func 147) #[] #[.pointer (some ⟨w.heap.size, 0, none⟩)]] W (RetNu W z)) := Lib.hid (by
    rw [hz]
    exact indexO_any (c := oc) 147 #[] #[.pointer (some ⟨w.heap.size, 0, none⟩)] (isO s q) (fun _ _ => rfl) hT.rob hn (fun wx hb o ho => find1_any (zW.below hb) ((hT.obs o ho).below hb)))
  have HZ := Lib.hid (ixB_find (isO s q) os)
  rw [← hz] at HZ
  obtain ⟨n, hn2⟩ : ∃ n, n = os.length := ⟨_, rfl⟩
  have k0 : W.cell? ⟨p, 0, none⟩ = some (.slice OA n oc) := by rw [hn2]; exact hT.k0
  have HT := Lib.hid hT
  have HW := Lib.hid hW
  have HB := Lib.hid bW
  rw [← hn2] at HIX hn
  have HN := Lib.hid hn2
  clear h bW zW hT hz hW hn2
  go_enter Try.func104, Try.ntmps104
  go_upto_region 1 with (fail)
  rw [← HW.out]
  go_wp2_with fail
  with_reducible refine HIX.out.mono ?_
  intro e w2 hq
  obtain ⟨h1, b2⟩ : e = .returned (.int .i64 z) ∧ Below W.heap.size W w2 := hq
  subst h1
  have HT2 := Lib.hid (HT.out.below b2)
  have HB2 := Lib.hid (belowT' HB.out b2)
  clear b2 k0
  have k0 : w2.cell? ⟨p, 0, none⟩ = some (.slice OA n oc) := by rw [HN.out]; exact HT2.out.k0
  rcases HZ.out with ⟨hz, hf⟩ | ⟨k, o, hz, ho, hf⟩
  · subst hz
    have HF : Hid (RetOb w (os.find? (isO s q)) (.returned (.pointer none)) w2) := Lib.hid ⟨by rw [hf]; rfl, HB2.out⟩
    clear hf
    go_wp2_with fail
    go_ret
    exact HF.out
  · subst hz
    have hkn : k < n := by rw [HN.out]; exact (List.getElem?_eq_some_iff.1 ho).1
    obtain ⟨b, off, hOA, _⟩ := HT2.out.rob.1.pos (by rw [← HN.out]; omega)
    subst hOA
    obtain ⟨o', ho', m0, _⟩ := HT2.out.rob.at_ k (by rw [← HN.out]; exact hkn)
    obtain rfl : o' = o := by rw [ho] at ho'; injection ho' with ho'; exact ho'.symm
    have HF : Hid (RetOb w (os.find? (isO s q)) (.returned (.pointer (some ⟨o'.b, 0, none⟩))) w2) := Lib.hid ⟨by rw [hf]; rfl, HB2.out⟩
    obtain ⟨ob, hob⟩ : ∃ ob, ob = o'.b := ⟨_, rfl⟩
    rw [← hob] at m0 HF
    clear hf ho ho' hob
    go_wp2_with fail
    go_ret
    exact HF.out
end
end Go.Proofs.Ytmpdenpopokigaa
