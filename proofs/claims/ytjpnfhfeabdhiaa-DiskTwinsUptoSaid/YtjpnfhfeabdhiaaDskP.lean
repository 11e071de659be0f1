/- The program's put: a file under a name that no file has. -/
import Derived.Test.YtjpnfhfeabdhiaaDskT
import Derived.Test.YtjpnfhfeabdhiaaLib
import Derived.Laws.Cover3
import Derived.Deep.RegionWith
import Derived.Deep.RegionHeld3
namespace Go.Proofs.Ytjpnfhfeabdhiaa
open Go Go.RowKit Go.Maps

theorem Dclone (s : ByteArray) (w : World) (hs : s.size ≤ 281474976710656) : Calls Try.prog 78 #[.string s] w fun e w' => e = .returned (.string s) ∧ Below w.heap.size w w' := by
  go_enter Try.func78, Try.ntmps78
  go_wp2_with fail
  refine (lib_stringslite_Clone s _ hs).mono ?_
  rintro e w' ⟨rfl, hb⟩
  go_wp2
  go_ret
  exact ⟨rfl, hb⟩
theorem eqlMap (m : Option Nat) (w : World) : (binOp .eql 24 (.map m) (.map none)).run Try.prog w = .ok (.bool m.isNone) w := by
  simp only [binOp]
  simp [run_equal_map_nil w 24 9 105 m Try.underlying24]

/-- A file put into its place. -/
def putR (r : FR) : List FR → List FR
  | [] => [r]
  | q :: t => if q.name = r.name then r :: t else if r.name < q.name then r :: q :: t else q :: putR r t
def putF (f : FE) : List FE → List FE
  | [] => [f]
  | q :: t => if q.1 = f.1 then f :: t else if f.1 < q.1 then f :: q :: t else q :: putF f t
theorem putR_val (r : FR) : ∀ rs : List FR, (putR r rs).map FR.val = putF r.val (rs.map FR.val)
  | [] => rfl
  | q :: t => by
    have ih := putR_val r t
    simp only [putR, putF, List.map_cons]
    show _ = if q.name = r.name then _ else if r.name < q.name then _ else _
    split
    · rfl
    · split
      · rfl
      · rw [List.map_cons, ih]
theorem putR_sub (r : FR) : ∀ (rs : List FR) (q : FR), q ∈ putR r rs → q = r ∨ q ∈ rs
  | [], q, h => by simp [putR] at h; exact .inl h
  | a :: t, q, h => by
    simp only [putR] at h
    split at h
    · rcases List.mem_cons.1 h with h | h
      · exact .inl h
      · exact .inr (List.mem_cons_of_mem _ h)
    · split at h
      · rcases List.mem_cons.1 h with h | h
        · exact .inl h
        · exact .inr h
      · rcases List.mem_cons.1 h with h | h
        · exact .inr (by rw [h]; exact List.mem_cons_self ..)
        · rcases putR_sub r t q h with h | h
          · exact .inl h
          · exact .inr (List.mem_cons_of_mem _ h)
theorem putF_sub (r : FE) : ∀ (rs : List FE) (q : FE), q ∈ putF r rs → q = r ∨ q ∈ rs
  | [], q, h => by simp [putF] at h; exact .inl h
  | a :: t, q, h => by
    simp only [putF] at h
    split at h
    · rcases List.mem_cons.1 h with h | h
      · exact .inl h
      · exact .inr (List.mem_cons_of_mem _ h)
    · split at h
      · rcases List.mem_cons.1 h with h | h
        · exact .inl h
        · exact .inr h
      · rcases List.mem_cons.1 h with h | h
        · exact .inr (by rw [h]; exact List.mem_cons_self ..)
        · rcases putF_sub r t q h with h | h
          · exact .inl h
          · exact .inr (List.mem_cons_of_mem _ h)
theorem nlt_trans {a b c : List UInt8} (h : a < b) (h2 : b < c) : a < c := List.lt_trans h h2
theorem nlt_irrefl (a : List UInt8) : ¬ a < a := List.lt_irrefl a
theorem nlt_ne {a b : List UInt8} (h : a < b) : a ≠ b := fun e => by subst e; exact nlt_irrefl a h
theorem nlt_tri {a b : List UInt8} (h : a ≠ b) (h2 : ¬ a < b) : b < a := by
  by_cases h3 : b < a
  · exact h3
  · exact absurd (List.le_antisymm (List.not_lt.1 h3) (List.not_lt.1 h2)) h
def rsUp (rs : List FR) : Prop := rs.Pairwise fun a b => a.name < b.name
theorem rsUp_of {rs : List FR} (h : risingF (rs.map FR.val)) : rsUp rs := by
  unfold risingF at h
  rw [List.pairwise_map] at h
  exact h
theorem putR_pair {r : FR} {S : FR → FR → Prop} (hs : ∀ a b, S a b → S b a) : ∀ {rs : List FR}, rs.Pairwise S → (∀ q ∈ rs, q.name ≠ r.name → S r q) → rsUp rs → (putR r rs).Pairwise S
  | [], _, _, _ => List.pairwise_singleton _ _
  | a :: t, hp, hr, hn => by
    unfold rsUp at hn
    rw [List.pairwise_cons] at hp hn
    simp only [putR]
    split
    · next e => exact List.pairwise_cons.2 ⟨fun q hq => hr q (List.mem_cons_of_mem _ hq) (fun e2 => nlt_ne (hn.1 q hq) (by rw [e, e2])), hp.2⟩
    · next e =>
      split
      · next e3 =>
        refine List.pairwise_cons.2 ⟨fun q hq => ?_, List.pairwise_cons.2 hp⟩
        rcases List.mem_cons.1 hq with h | h
        · rw [h]; exact hr a (List.mem_cons_self ..) e
        · exact hr q (List.mem_cons_of_mem _ h) (fun e2 => nlt_ne (nlt_trans e3 (hn.1 q h)) e2.symm)
      · refine List.pairwise_cons.2 ⟨fun q hq => ?_, putR_pair hs hp.2 (fun q hq => hr q (List.mem_cons_of_mem _ hq)) hn.2⟩
        rcases putR_sub r t q hq with h | h
        · rw [h]; exact hs _ _ (hr a (List.mem_cons_self ..) e)
        · exact hp.1 q h
theorem putR_len_new {r : FR} : ∀ {rs : List FR}, (∀ q ∈ rs, q.name ≠ r.name) → (putR r rs).length = rs.length + 1
  | [], _ => rfl
  | a :: t, h => by
    simp only [putR]
    rw [if_neg (h a (List.mem_cons_self ..))]
    split
    · rfl
    · rw [List.length_cons, putR_len_new (fun q hq => h q (List.mem_cons_of_mem _ hq)), List.length_cons]
theorem putR_any {r : FR} (x : List UInt8) : ∀ {rs : List FR}, (∀ q ∈ rs, q.name ≠ r.name) → (putR r rs).any (fun q => q.name == x) = (r.name == x || rs.any (fun q => q.name == x))
  | [], _ => by simp [putR]
  | a :: t, h => by
    simp only [putR]
    rw [if_neg (h a (List.mem_cons_self ..))]
    split
    · simp
    · rw [List.any_cons, putR_any x (fun q hq => h q (List.mem_cons_of_mem _ hq)), List.any_cons]
      cases (r.name == x) <;> cases (a.name == x) <;> simp
/-- The map with one more file. -/
theorem MR.put {Dm : DU} {rs : List FR} {r : FR} (h : MR Dm rs) (ht : Tidy Dm) (hn : ∀ q ∈ rs, q.name ≠ r.name) : MR (Dm.put (.string r.name) (.lit (.int .i64 (r.fb : Int)))) (putR r rs) := by
  have hk : WideAt.IsKeyLit (.string r.name) := trivial
  have hno : has Dm (.string r.name) = false := by
    rw [h.2.1, List.any_eq_false]
    intro q hq
    simpa using hn q hq
  refine ⟨?_, fun x => ?_, fun q hq z => ?_⟩
  · rw [size_put ht, hno, putR_len_new hn, h.1]; rfl
  · rw [putR_any x hn]
    by_cases e : r.name = x
    · subst e
      rw [has_put_same ht.isMap hk]
      simp
    · rw [has_put_other (by intro e2; injection e2 with e2; exact e e2.symm), h.2.1]
      simp [e]
  · rcases putR_sub r rs q hq with rfl | hq
    · exact atKey_put_same ht.isMap hk _ _
    · rw [atKey_put_other (by intro e2; injection e2 with e2; exact hn q hq e2)]
      exact h.2.2 q hq z
theorem putF_up {f : FE} : ∀ {fs : List FE}, risingF fs → risingF (putF f fs)
  | [], _ => List.pairwise_singleton _ _
  | a :: t, h => by
    have h0 := h
    unfold risingF at h
    rw [List.pairwise_cons] at h
    simp only [putF]
    split
    · next e => exact List.pairwise_cons.2 ⟨fun q hq => by rw [← e]; exact h.1 q hq, h.2⟩
    · next e =>
      split
      · next e3 =>
        refine List.pairwise_cons.2 ⟨fun q hq => ?_, h0⟩
        rcases List.mem_cons.1 hq with h4 | h4
        · rw [h4]; exact e3
        · exact nlt_trans e3 (h.1 q h4)
      · next e3 =>
        refine List.pairwise_cons.2 ⟨fun q hq => ?_, putF_up h.2⟩
        rcases putF_sub f t q hq with h4 | h4
        · rw [h4]; exact nlt_tri (fun e5 => e e5.symm) e3
        · exact h.1 q h4

/-- 'The disk's head says map b now; what was there else stands.' -/
def RetPut (w : World) (p : Nat) (m : Option Nat) (rs : List FR) (room used left : Int) (dead armed : Bool) (e : Ending) (w' : World) : Prop :=
  e = .returned (.tuple #[]) ∧ ∃ b Dm, w'.heap[p]? = some (.cells (headV (some b) room used left dead armed) 26 (0, 0)) ∧ w'.ownsMap Try.prog 9 ptrEl b rs.length Dm ∧ MR Dm rs ∧
    Fr w w' (p :: m.toList) ∧ ((m = some b) ∨ (w.heap.size ≤ b))

section
variable {w : World} {p : Nat} {m : Option Nat} {rs : List FR} {room used left : Int} {dead armed : Bool}
set_option maxRecDepth 100000 in
set_option maxHeartbeats 2000000 in
theorem put_some {b : Nat} {Dm : DU} (r : FR) (hp : w.heap[p]? = some (.cells (headV (some b) room used left dead armed) 26 (0, 0))) (ho : w.ownsMap Try.prog 9 ptrEl b rs.length Dm) (hm : MR Dm rs) (hpb : b ≠ p)
    (hn : ∀ q ∈ rs, q.name ≠ r.name) (hl : r.name.length ≤ 1099511627776) (hrs : rs.length ≤ 1099511627776) :
    Calls Try.prog 62 #[.pointer (some ⟨p, 0, none⟩), .string (tx r.name), .pointer (some ⟨r.fb, 0, none⟩)] w (RetPut w p (some b) (putR r rs) room used left dead armed) := by
  have c0 : w.cell? ⟨p, 0, none⟩ = some (.map (some b)) := cell_of_row w p 0 _ _ _ hp
  have hml : 1099511627776 < maxLen := by unfold maxLen; omega
  have hkey := keyN (x := r.name) (by omega)
  have heq := eqlMap
  have hsz : (tx r.name).size ≤ 281474976710656 := by rw [tx_size]; omega
  have hlt := ho.lt
  have HP := Lib.hid hp
  have HPL := Lib.hid (Array.getElem?_eq_some_iff.1 hp).1
  have HPB := Lib.hid hpb
  have HN := Lib.hid hn
  have HM := Lib.hid hm
  clear hp hpb hn hm
  have hS : w.cell? ⟨p, 0, none⟩ = some (.map (some b)) ∧ Below w.heap.size w w := ⟨c0, Below.refl _ _⟩
  have HU : Hid (∀ w2, Below w.heap.size w w2 → ∃ w3, (Instr.mapUpdate 24 (.map (some b)) (.string (tx r.name)) (.pointer (some ⟨r.fb, 0, none⟩))).run Try.prog w2 = .ok () w3 ∧ w3.cell? ⟨p, 0, none⟩ = some (.map (some b)) ∧ RetPut w p (some b) (putR r rs) room used left dead armed (.returned (.tuple #[])) w3) := Lib.hid (fun w2 hb => by
    have ho2 := ho.kept (w' := w2) (row := none) ⟨hb.os, hb.tape, hb.output, hb.size, fun k hk _ => hb.block k hk⟩ (by simp)
    obtain ⟨w3, hrun, h3, hg⟩ := ho2.update (t := 24) (e := 105) lawN Try.underlying24 (by omega) hkey (ptrEl_some r.fb)
    have hp3 : w3.heap[p]? = some (.cells (headV (some b) room used left dead armed) 26 (0, 0)) := by
      rw [hg.block p (Nat.lt_of_lt_of_le HPL.out hb.size) (fun e => HPB.out (by injection e with e; exact e.symm)), hb.block p HPL.out]
      exact HP.out
    refine ⟨w3, hrun, cell_of_row w3 p 0 _ _ _ hp3, rfl, b, _, hp3, by rw [putR_len_new HN.out]; exact h3, HM.out.put (ho.tidy lawN) HN.out, ?_, .inl rfl⟩
    · have f1 : Fr w w2 (p :: (some b).toList) := Fr.of_below hb _
      have f2 : Fr w2 w3 [b] := Fr.of_grown hg (fun k hk => by injection hk with hk; rw [hk]; exact List.mem_singleton.2 rfl)
      exact f1.trans f2 (fun k hk => .inl (by rw [List.mem_singleton] at hk; rw [hk]; simp)))
  clear ho hkey hml
  go_enter Try.func62, Try.ntmps62
  go_wp2
  go_region_held3 (fun w' => w'.cell? ⟨p, 0, none⟩ = some (.map (some b))) (first | assumption | exact hS.1 | exact hS2.1)
    (first | (go_at_call 78; refine (Dclone _ _ hsz).mono ?_; rintro e w2 ⟨rfl, hb2⟩; have hS2 := Cel.made (w := w.drew) (w0 := w) (v := .map (some b)) (p := ⟨p, 0, none⟩) ⟨hS.1, hS.2.drew⟩ hb2; obtain ⟨w3, hrun, hS3, hfin⟩ := HU.out _ hS2.2))
  go_end0
  exact hfin
set_option maxRecDepth 100000 in
set_option maxHeartbeats 2000000 in
theorem put_nil (r : FR) (hp : w.heap[p]? = some (.cells (headV none room used left dead armed) 26 (0, 0))) (hl : r.name.length ≤ 1099511627776) :
    Calls Try.prog 62 #[.pointer (some ⟨p, 0, none⟩), .string (tx r.name), .pointer (some ⟨r.fb, 0, none⟩)] w (RetPut w p none [r] room used left dead armed) := by
  have c0 : w.cell? ⟨p, 0, none⟩ = some (.map none) := cell_of_row w p 0 _ _ _ hp
  have f0 : w.frozen? ⟨p, 0, none⟩ = false := frozen_of_row w p 0 _ _ hp
  have hml : 1099511627776 < maxLen := by unfold maxLen; omega
  have hkey := keyN (x := r.name) (by omega)
  have heq := eqlMap
  have hmm := @run_makeMap Try.prog
  have hsz : (tx r.name).size ≤ 281474976710656 := by rw [tx_size]; omega
  have hpl := (Array.getElem?_eq_some_iff.1 hp).1
  obtain ⟨W, hW⟩ : ∃ W, W = (w.setCell ⟨p, 0, none⟩ (.map (some w.heap.size))).alloc (.map #[] 0) := ⟨_, rfl⟩
  have hsc : (w.setCell ⟨p, 0, none⟩ (.map (some w.heap.size))).heap.size = w.heap.size := by simp
  have hWp : W.heap[p]? = some (.cells (headV (some w.heap.size) room used left dead armed) 26 (0, 0)) := by
    rw [hW, heap_alloc_old _ _ (by rw [hsc]; exact hpl), heap_setCell_same _ _ _ _ _ _ hp]
    rfl
  have hWo : W.ownsMap Try.prog 9 ptrEl w.heap.size 0 (.map [] : DU) := by
    have h1 := World.ownsMap_made (w.setCell ⟨p, 0, none⟩ (.map (some w.heap.size))) Try.prog 9 ptrEl (H := Unit)
    rw [hsc] at h1
    rw [hW]
    exact h1
  have hWf : Fr w W [p] := by
    rw [hW]
    exact (Fr.set w p 0 _).trans (Fr.of_below ((Below.refl _ _).alloc (Nat.le_refl _) _) [p]) (fun k hk => .inl hk)
  have HWp := Lib.hid hWp
  have HWo := Lib.hid hWo
  have HWf := Lib.hid hWf
  have HPL := Lib.hid hpl
  have HW := Lib.hid hW
  have hS : W.cell? ⟨p, 0, none⟩ = some (.map (some w.heap.size)) ∧ Below W.heap.size W W := ⟨cell_of_row W p 0 _ _ _ hWp, Below.refl _ _⟩
  clear hp hWp hWo hWf hW hsc
  have HU : Hid (∀ w2, Below W.heap.size W w2 → ∃ w3, (Instr.mapUpdate 24 (.map (some w.heap.size)) (.string (tx r.name)) (.pointer (some ⟨r.fb, 0, none⟩))).run Try.prog w2 = .ok () w3 ∧ w3.cell? ⟨p, 0, none⟩ = some (.map (some w.heap.size)) ∧ RetPut w p none [r] room used left dead armed (.returned (.tuple #[])) w3) := Lib.hid (fun w2 hb => by
    have ho := HWo.out
    have ho2 := ho.kept (w' := w2) (row := none) ⟨hb.os, hb.tape, hb.output, hb.size, fun k hk _ => hb.block k hk⟩ (by simp)
    obtain ⟨w3, hrun, h3, hg⟩ := ho2.update (t := 24) (e := 105) lawN Try.underlying24 (by omega) hkey (ptrEl_some r.fb)
    have hpW : p < W.heap.size := (Array.getElem?_eq_some_iff.1 HWp.out).1
    have hp3 : w3.heap[p]? = some (.cells (headV (some w.heap.size) room used left dead armed) 26 (0, 0)) := by
      rw [hg.block p (Nat.lt_of_lt_of_le hpW hb.size) (fun e => by injection e with e; have := HPL.out; omega), hb.block p hpW]
      exact HWp.out
    refine ⟨w3, hrun, cell_of_row w3 p 0 _ _ _ hp3, rfl, w.heap.size, _, hp3, h3, MR.put (rs := []) ⟨rfl, fun x => rfl, fun q hq => by cases hq⟩ (ho.tidy lawN) (fun q hq => by cases hq), ?_, .inr (Nat.le_refl _)⟩
    · have f1 : Fr w w2 [p] := HWf.out.trans (Fr.of_below hb [p]) (fun k hk => .inl hk)
      have f2 : Fr w2 w3 [w.heap.size] := Fr.of_grown hg (fun k hk => by injection hk with hk; rw [hk]; exact List.mem_singleton.2 rfl)
      exact f1.trans f2 (fun k hk => .inr (by rw [List.mem_singleton] at hk; omega)))
  clear hkey hml
  go_enter Try.func62, Try.ntmps62
  go_wp2
  rw [← HW.out]
  go_region_held3 (fun w' => w'.cell? ⟨p, 0, none⟩ = some (.map (some w.heap.size))) (first | assumption | exact hS.1 | exact hS2.1)
    (first | (go_at_call 78; refine (Dclone _ _ hsz).mono ?_; rintro e w2 ⟨rfl, hb2⟩; have hS2 := Cel.made (w := W.drew) (w0 := W) (v := .map (some w.heap.size)) (p := ⟨p, 0, none⟩) ⟨hS.1, hS.2.drew⟩ hb2; obtain ⟨w3, hrun, hS3, hfin⟩ := HU.out _ hS2.2))
  go_end0
  exact hfin
end
end Go.Proofs.Ytjpnfhfeabdhiaa
