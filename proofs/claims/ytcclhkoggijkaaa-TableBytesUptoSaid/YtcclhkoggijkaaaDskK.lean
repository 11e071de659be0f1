/- What a crash leaves, as plain data. -/
import Derived.Test.YtcclhkoggijkaaaMgA
import Derived.Test.YtcclhkoggijkaaaEnC
import Derived.Laws.MakeOwn
import Derived.Deep.RegionLaw
import Derived.Lib.SmallJoins
import Derived.Test.YtcclhkoggijkaaaEnL
import Derived.Laws.BytesArg
import Derived.Deep.QuietTactic
import Derived.BigQuiet
import Derived.Lib.SliceRun
import Derived.Test.YtcclhkoggijkaaaMathF
import Derived.Test.YtcclhkoggijkaaaCrcS
import Derived.Sort.OwnSorted
namespace Go.Proofs.Ytcclhkoggijkaaa
open Go Go.RowKit

def Tr.sz (t : Tr) : Nat := szL t.list
theorem balT_sz (l : Tr) (e : En) (r : Tr) : (balT l e r).sz = l.sz + wE e + r.sz := by
  unfold Tr.sz
  rw [balT_list, szL_app, szL]
  omega
theorem node_sz (l : Tr) (e : En) (r : Tr) : (Tr.node l e r).sz = l.sz + wE e + r.sz := by
  unfold Tr.sz
  rw [Tr.list, szL_app, szL]
  omega
theorem withT_sz {x : En} : ∀ {t t' : Tr}, withT x t = some t' → t'.sz = t.sz + wE x
  | .nil, t', h => by
    unfold withT at h
    injection h with h
    rw [← h]
    simp [Tr.sz, Tr.list, szL]
  | .node l e r, t', h => by
    unfold withT at h
    split at h
    · cases hw : withT x l with
      | none => rw [hw] at h; cases h
      | some l' =>
        rw [hw] at h
        injection h with h
        have := withT_sz hw
        rw [← h]
        simp only [balT_sz, node_sz]
        omega
    · split at h
      · cases hw : withT x r with
        | none => rw [hw] at h; cases h
        | some r' =>
          rw [hw] at h
          injection h with h
          have := withT_sz hw
          rw [← h]
          simp only [balT_sz, node_sz]
          omega
      · cases h
def insAll : Tr → List En → Option Tr
  | t, [] => some t
  | t, x :: xs => (withT x t).bind (fun t' => insAll t' xs)
theorem insAll_snoc : ∀ (t : Tr) (xs : List En) (x : En), insAll t (xs ++ [x]) = (insAll t xs).bind (withT x)
  | t, [], x => by simp [insAll]
  | t, y :: ys, x => by
    simp only [List.cons_append, insAll]
    cases withT y t with
    | none => rfl
    | some t' => exact insAll_snoc t' ys x
theorem insAll_none {t : Tr} {xs ys : List En} (h : insAll t xs = none) : insAll t (xs ++ ys) = none := by
  induction xs generalizing t with
  | nil => simp [insAll] at h
  | cons x xs ih =>
    simp only [List.cons_append, insAll] at h ⊢
    cases hw : withT x t with
    | none => rfl
    | some t' => rw [hw] at h; exact ih h
theorem insAll_num : ∀ {t t' : Tr} {xs : List En}, insAll t xs = some t' → t'.num = t.num + xs.length ∧ t'.sz = t.sz + szL xs
  | t, t', [], h => by simp [insAll] at h; subst h; simp [szL]
  | t, t', x :: xs, h => by
    simp only [insAll] at h
    cases hw : withT x t with
    | none => rw [hw] at h; cases h
    | some t1 =>
      rw [hw] at h
      have h1 := insAll_num (t := t1) h
      have h2 := withT_num hw
      have h3 := withT_sz hw
      simp only [List.length_cons, szL]
      omega
section
variable {w : World} {p : Nat} {a b c : Value} {d : Array Value} {ty : TypeId}
theorem Cl.ct (h : Cl w p (#[a, b, c] ++ d) ty) : w.cell? ⟨p, 0, none⟩ = some a ∧ w.cell? ⟨p, 1, none⟩ = some b ∧ w.cell? ⟨p, 2, none⟩ = some c ∧
    w.frozen? ⟨p, 0, none⟩ = false ∧ w.frozen? ⟨p, 1, none⟩ = false ∧ w.frozen? ⟨p, 2, none⟩ = false :=
  ⟨(h.cell 0).trans (Array.getElem?_append_left (by simp)), (h.cell 1).trans (Array.getElem?_append_left (by simp)), (h.cell 2).trans (Array.getElem?_append_left (by simp)), h.thaw 0, h.thaw 1, h.thaw 2⟩
theorem Cl.st0 (h : Cl w p (#[a, b, c] ++ d) ty) (v : Value) : Cl (w.setCell ⟨p, 0, none⟩ v) p (#[v, b, c] ++ d) ty := by
  have := h.set 0 v
  have e : (#[a, b, c] ++ d).setIfInBounds 0 v = #[v, b, c] ++ d := by
    apply Array.ext'
    simp
  rw [e] at this
  exact this
theorem Cl.st1 (h : Cl w p (#[a, b, c] ++ d) ty) (v : Value) : Cl (w.setCell ⟨p, 1, none⟩ v) p (#[a, v, c] ++ d) ty := by
  have := h.set 1 v
  have e : (#[a, b, c] ++ d).setIfInBounds 1 v = #[a, v, c] ++ d := by
    apply Array.ext'
    simp
  rw [e] at this
  exact this
theorem Cl.st2 (h : Cl w p (#[a, b, c] ++ d) ty) (v : Value) : Cl (w.setCell ⟨p, 2, none⟩ v) p (#[a, b, v] ++ d) ty := by
  have := h.set 2 v
  have e : (#[a, b, c] ++ d).setIfInBounds 2 v = #[a, b, v] ++ d := by
    apply Array.ext'
    simp
  rw [e] at this
  exact this
end
/-- What a Put comes to: the table, and all else as it was. -/
def putZ (t : Tr) (es : List En) : Int × Tr := if checkE es = 0 then match insAll t es with | none => (7, t) | some t' => (0, t') else (checkE es, t)
theorem grow_of_below {w w' : World} {row : Option Nat} (h : Below w.heap.size w w') : w.grownBy w' row := ⟨h.os, h.tape, h.output, h.size, fun k hk _ => h.block k hk⟩
end Go.Proofs.Ytcclhkoggijkaaa
namespace Go.Proofs.Ytcclhkoggijkaaa
open Go Go.RowKit

theorem rdl_one8 {w : World} {t : TypeId} {v1 : Value} {x1 : List UInt8} (h1 : ElB w v1 x1) (g : Nat) (hg : g = w.heap.size) : RdL (w.alloc (.cells #[v1] t)) (some ⟨g, 0, none⟩) 1 [x1] := by
  subst hg
  refine ⟨rfl, fun _ => ⟨w.heap.size, 0, rfl, by simp, fun i x hi => ?_⟩⟩
  have hlt := (List.getElem?_eq_some_iff.1 hi).1
  obtain rfl : i = 0 := by simp at hlt; omega
  injection hi with hi
  subst hi
  refine ⟨v1, ?_, h1.below ((Below.refl _ _).alloc (Nat.le_refl _) _)⟩
  rw [cell_of_row (w.alloc (.cells #[v1] t)) w.heap.size (0 + 0) #[v1] t (0, 0) (heap_alloc_new w _)]
  rfl
/-- What Build answers where every is at least 1. -/
def buildE (ev : Nat) (es : List En) : List UInt8 × Int :=
  if es.any longE then ([], 2) else if 1048576 < (fullB ev es).length then ([], 2) else if es.all formE && ordE es then (sealB (fullB ev es), 0) else ([], 3)
/-- Bytes of the call's own, or none, and a kind. -/
def RetBb (w : World) (z : List UInt8 × Int) (e : Ending) (w' : World) : Prop :=
  ∃ A c, e = .returned (.tuple #[.slice A z.1.length c, .int .i64 z.2]) ∧ Own 5 w' w.heap.size A z.1.length c z.1 ∧ Below w.heap.size w w'
theorem RetBb.no {w w' : World} {z : List UInt8 × Int} {k : Int} (hz : z = ([], k)) (hb : Below w.heap.size w w') : RetBb w z (.returned (.tuple #[.slice none 0 0, .int .i64 k])) w' := by
  subst hz
  exact ⟨none, 0, rfl, Own.nil _ _ _, hb⟩
theorem longE_no {es : List En} (h : es.any longE = false) : ∀ x ∈ es, x.key.length ≤ 1024 ∧ x.val.length ≤ 65536 := fun x hx => by
  have := List.any_eq_false.1 h x hx
  unfold longE at this
  simp at this
  omega
set_option maxRecDepth 100000 in
set_option maxHeartbeats 8000000 in
theorem build8_any {w : World} {A : Option Addr} {n c : Nat} {es : List En} (h : REs w A n es) (hn : n ≤ 16777216) (ev : Nat) (he : 1 ≤ ev) (he2 : ev ≤ 9223372036854775807) :
    Calls Try.prog 113 #[.int .i64 (ev : Int), .slice A n c] w (RetBb w (buildE ev es)) := by
  have HM : Hid (Calls Try.prog 53 #[.slice A n c] w (RetNu w (checkE es))) := Lib.hid (memCheck_any h (by omega))
  have HR := Lib.hid h
  clear h
  cases hlo : es.any longE with
  | true =>
    have hc : checkE es = 2 := by rw [checkE, hlo]; rfl
    have hb : buildE ev es = ([], 2) := by rw [buildE, hlo]; rfl
    rw [hc] at HM
    have HB := Lib.hid hb
    clear hlo hc hb
    go_enter Try.func113, Try.ntmps113
    go_wp2_with fail
    with_reducible refine HM.out.mono ?_
    rintro e w1 ⟨rfl, b1⟩
    go_wp2_with fail
    exact bodyPost_ret (v := .tuple #[.slice none 0 0, .int .i64 2]) (by simp [results, Try.f113, go_sem]; try rfl) rfl (RetBb.no HB.out b1)
  | false =>
    have hsz := longE_no hlo
    have HCT : Hid (∀ wx, Below w.heap.size w wx → Calls Try.prog 153 #[.int .i64 (ev : Int), .slice A n c] wx (RetCt ev es wx)) := Lib.hid (fun wx hb => contents_any (HR.out.below hb) hn hsz ev he he2)
    have HIO : Hid (∀ wx, Below w.heap.size w wx → Calls Try.prog 154 #[.slice A n c] wx (RetT wx (ordE es))) := Lib.hid (fun wx hb => inOrder8_any (HR.out.below hb) (by omega))
    obtain ⟨F, hF⟩ : ∃ F, F = fullB ev es := ⟨_, rfl⟩
    have hbe : buildE ev es = if 1048576 < F.length then ([], 2) else if es.all formE && ordE es then (sealB F, 0) else ([], 3) := by rw [buildE, hlo, ← hF]; rfl
    obtain ⟨fo, hfo⟩ : ∃ fo, fo = es.all formE := ⟨_, rfl⟩
    obtain ⟨od, hod⟩ : ∃ od, od = ordE es := ⟨_, rfl⟩
    obtain ⟨z, hz⟩ : ∃ z : Int, z = if fo then 0 else 3 := ⟨_, rfl⟩
    have hck : checkE es = z := by rw [checkE, hlo, hz, hfo]; rfl
    rw [hck] at HM
    rw [← hod] at HIO hbe
    rw [← hfo] at hbe
    have hz2 : z = 0 ∨ z = 3 := by rw [hz]; cases fo <;> simp
    have tz : (z == 2) = false := by rcases hz2 with e | e <;> rw [e] <;> rfl
    have tz' : ¬ z = 2 := by omega
    have HBE := Lib.hid hbe
    have HF := Lib.hid hF
    have HZ := Lib.hid hz
    have HZ2 := Lib.hid hz2
    clear hlo hsz hF hbe hfo hod hz hck hz2
    go_enter Try.func113, Try.ntmps113
    go_wp2_with fail
    with_reducible refine HM.out.mono ?_
    rintro e w1 ⟨rfl, b1⟩
    have HCT1 := Lib.hid (HCT.out w1 b1)
    have B1 := Lib.hid b1
    clear b1
    go_wp2_with fail
    with_reducible refine HCT1.out.mono ?_
    rintro e w2 ⟨C, cc, ys, rfl, oC, b2, hyl, hys⟩
    rw [← HF.out] at hys
    have hcap := oC.cap
    have hcn : C = none → cc = 0 := fun h => by have := oC.nil_of (by rw [h]; rfl); exact this.2.2
    have hSE := Seal_any (some ⟨w2.heap.size, 0, none⟩) 1 1 [ys] _ (rdl_one8 (w := w2) (t := 25) ⟨C, ys.length, cc, rfl, oC.rd, hcap.1, hcn⟩ _ rfl) (by simp only [tot]; omega)
    rw [show [ys].flatten = ys by simp] at hSE
    have HSE := Lib.hid hSE
    have B2 := Lib.hid (B1.out.trans (b2.mono B1.out.size))
    have HYS := Lib.hid hys
    obtain ⟨yn, hyn⟩ : ∃ yn, yn = ys.length := ⟨_, rfl⟩
    rw [← hyn]
    rw [← hyn] at hyl HSE
    have HYN := Lib.hid hyn
    clear hSE oC b2 hcap hcn hys hyn
    by_cases hbig : 1048576 < yn
    · have hg : sealG ys = ([], 2) := sealG_long HYN.out.symm hbig
      have hb : buildE ev es = ([], 2) := by
        rw [HBE.out, if_pos]
        rcases HYS.out with ⟨_, h2⟩ | h2
        · have := HYN.out; omega
        · rw [← h2, ← HYN.out]; exact hbig
      rw [hg] at HSE
      have HB := Lib.hid hb
      clear hg hb
      go_wp2_with fail
      refine HSE.out.mono ?_
      rintro e w3 ⟨D, dn, dc, rfl, oD, b3⟩
      have B3 := Lib.hid (B2.out.trans (((Below.refl _ _).alloc (Nat.le_refl _) _ |>.trans (b3.mono (by simp))).mono B2.out.size))
      clear oD b3
      go_wp2_with fail
      exact bodyPost_ret (v := .tuple #[.slice none 0 0, .int .i64 2]) (by simp [results, Try.f113, go_sem]; try rfl) rfl (RetBb.no HB.out B3.out)
    · have hF2 : ys = F := by
        rcases HYS.out with ⟨h1, _⟩ | h2
        · have := HYN.out; omega
        · exact h2
      have hg : sealG ys = (sealB F, 0) := by rw [sealG_ok HYN.out.symm hbig, hF2]
      have hb : buildE ev es = if fo && od then (sealB F, 0) else ([], 3) := by rw [HBE.out, if_neg (by rw [← hF2, ← HYN.out]; exact hbig)]
      rw [hg] at HSE
      have HB := Lib.hid hb
      clear hg hb
      go_wp2_with fail
      refine HSE.out.mono ?_
      rintro e w3 ⟨D, dn, dc, rfl, oD, b3⟩
      have oD : Own 5 w3 w2.heap.size D dn dc (sealB F) := Own.mono oD (show w2.heap.size ≤ _ by simp)
      obtain rfl : (sealB F).length = dn := oD.len
      have HD := Lib.hid (oD.mono B2.out.size)
      have B3 := Lib.hid (B2.out.trans (((Below.refl _ _).alloc (Nat.le_refl _) _ |>.trans (b3.mono (by simp))).mono B2.out.size))
      clear oD b3
      cases fo with
      | false =>
        have e0 : z = 3 := HZ.out
        subst e0
        rw [Bool.false_and] at HB
        go_wp2_with fail
        exact bodyPost_ret (v := .tuple #[.slice none 0 0, .int .i64 3]) (by simp [results, Try.f113, go_sem]; try rfl) rfl (RetBb.no HB.out B3.out)
      | true =>
        have e0 : z = 0 := HZ.out
        subst e0
        rw [Bool.true_and] at HB
        have HIO3 := Lib.hid (HIO.out w3 B3.out)
        cases od with
        | true =>
          go_wp2_with fail
          with_reducible refine HIO3.out.mono ?_
          rintro e w4 ⟨rfl, b4⟩
          have hB := HB.out
          simp only [if_true] at hB
          have hfin : RetBb w (buildE ev es) (.returned (.tuple #[.slice D (sealB F).length dc, .int .i64 0])) w4 := by
            rw [hB]
            exact ⟨D, dc, rfl, HD.out.below b4, B3.out.trans (b4.mono B3.out.size)⟩
          have HFI := Lib.hid hfin
          clear hB hfin b4
          go_wp2_with fail
          exact bodyPost_ret (v := .tuple #[.slice D (sealB F).length dc, .int .i64 0]) (by simp [results, Try.f113, go_sem]; try rfl) rfl HFI.out
        | false =>
          go_wp2_with fail
          with_reducible refine HIO3.out.mono ?_
          rintro e w4 ⟨rfl, b4⟩
          have B4 := Lib.hid (B3.out.trans (b4.mono B3.out.size))
          have hB := HB.out
          simp only [Bool.false_eq_true, if_false] at hB
          have HBB := Lib.hid hB
          clear hB b4
          go_wp2_with fail
          exact bodyPost_ret (v := .tuple #[.slice none 0 0, .int .i64 3]) (by simp [results, Try.f113, go_sem]; try rfl) rfl (RetBb.no HBB.out B4.out)
theorem buildE_cases (ev : Nat) (es : List En) : (∃ F, buildE ev es = (sealB F, 0) ∧ F.length ≤ 1048576) ∨ (∃ k : Int, buildE ev es = ([], k) ∧ (k = 2 ∨ k = 3)) := by
  unfold buildE
  split
  · exact .inr ⟨2, rfl, .inl rfl⟩
  · split
    · exact .inr ⟨2, rfl, .inl rfl⟩
    · split
      · exact .inl ⟨_, rfl, by omega⟩
      · exact .inr ⟨3, rfl, .inr rfl⟩
end Go.Proofs.Ytcclhkoggijkaaa
namespace Go.Proofs.Ytcclhkoggijkaaa
open Go Go.RowKit

def lastK (es : List En) : List UInt8 := (es.getLast?.map (·.key)).getD []
/-- The entries from place a on, and the every. -/
def parR (xs : List UInt8) (sec : Int) : Nat → Nat → List En → Nat → Option (List En × Nat)
  | 0, _, _, _ => none
  | f + 1, a, es, ev => if xs.length ≤ a then some (es, ev) else
      if badR xs (lastK es) a then none
      else parR xs sec f (e7R xs a).2.1 (es ++ [entR xs (lastK es) a]) (if (a : Int) = sec then es.length else ev)
/-- What stands in a block: its entries and the every. -/
def parB (xs : List UInt8) : Option (List En × Nat) :=
  match splitB xs with
  | none => none
  | some (ys, zs) =>
    let sec : Int := if 8 ≤ zs.length then (numK (zs.drop 4) 4 : Int) else -1
    match parR ys sec (ys.length + 1) 0 [] 0 with
    | none => none
    | some (es, ev) => some (es, if sec < 0 then max es.length 1 else ev)
theorem numR_mono {xs : List UInt8} {s : Nat × Bool} (h : s.1 ≤ xs.length) : s.1 ≤ (numR xs s).2.1 ∧ ((numR xs s).2.2 = false → s.1 < (numR xs s).2.1) := by
  unfold numR
  split
  · rename_i e
    rcases hg : getU xs (s.1 : Int) with ⟨m, nx, e2⟩
    rw [hg] at e
    obtain ⟨k, rfl, h1, h2, h3⟩ := getU_err h hg e
    simp only [Int.toNat_natCast]
    exact ⟨by omega, fun _ => h1⟩
  · exact ⟨Nat.le_refl _, fun h => by cases h⟩
theorem takeR_mono {xs : List UInt8} {n : Nat} {s : Nat × Bool} : s.1 ≤ (takeR xs n s).2.1 := by
  unfold takeR
  split
  · exact Nat.le_refl _
  · simp only; omega
theorem badR_no {xs ah : List UInt8} {a : Nat} (h : badR xs ah a = false) : (e7R xs a).2.2 = false ∧ (e1R xs a).1 ≤ ah.length ∧ (e1R xs a).1 + (e6R xs a).1.length ≤ 1024 := by
  unfold badR at h
  simp only [Bool.or_eq_false_iff, decide_eq_false_iff_not] at h
  obtain ⟨⟨h1, h2⟩, h3⟩ := h
  exact ⟨h1, by omega, by omega⟩
theorem bad_chain {xs : List UInt8} {a : Nat} (h : (e7R xs a).2.2 = false) : (e6R xs a).2.2 = false ∧ (e5R xs a).2.2 = false ∧ (e4R xs a).2.2 = false ∧ (e3R xs a).2.2 = false ∧ (e2R xs a).2.2 = false ∧ (e1R xs a).2.2 = false := by
  unfold e7R at h
  have h6 := (takeR_bad h).1
  have h6' := h6
  unfold e6R at h6'
  have h5 := (takeR_bad h6').1
  have h5' := h5
  unfold e5R at h5'
  have h4 := numR_bad h5'
  have h4' := h4
  unfold e4R at h4'
  have h3 := (takeR_bad h4').1
  have h3' := h3
  unfold e3R at h3'
  have h2 := numR_bad h3'
  have h2' := h2
  unfold e2R at h2'
  exact ⟨h6, h5, h4, h3, h2, numR_bad h2'⟩
theorem e_le {xs : List UInt8} {a : Nat} (ha : a ≤ xs.length) : (e1R xs a).2.1 ≤ xs.length ∧ (e2R xs a).2.1 ≤ xs.length ∧ (e3R xs a).2.1 ≤ xs.length ∧ (e4R xs a).2.1 ≤ xs.length ∧ (e5R xs a).2.1 ≤ xs.length ∧ (e6R xs a).2.1 ≤ xs.length ∧ (e7R xs a).2.1 ≤ xs.length := by
  have q1 : (e1R xs a).2.1 ≤ xs.length := by unfold e1R; exact (numR_le ha).1
  have q2 : (e2R xs a).2.1 ≤ xs.length := by unfold e2R; exact (numR_le q1).1
  have q3 : (e3R xs a).2.1 ≤ xs.length := by unfold e3R; exact (numR_le q2).1
  have q4 : (e4R xs a).2.1 ≤ xs.length := by unfold e4R; exact (takeR_le q3).1
  have q5 : (e5R xs a).2.1 ≤ xs.length := by unfold e5R; exact (numR_le q4).1
  have q6 : (e6R xs a).2.1 ≤ xs.length := by unfold e6R; exact (takeR_le q5).1
  have q7 : (e7R xs a).2.1 ≤ xs.length := by unfold e7R; exact (takeR_le q6).1
  exact ⟨q1, q2, q3, q4, q5, q6, q7⟩
theorem e7_more {xs : List UInt8} {a : Nat} (ha : a ≤ xs.length) (h : (e7R xs a).2.2 = false) : a < (e7R xs a).2.1 := by
  obtain ⟨b6, b5, b4, b3, b2, b1⟩ := bad_chain h
  obtain ⟨l1, l2, l3, l4, l5, l6, l7⟩ := e_le ha
  have m1 : a < (e1R xs a).2.1 := by unfold e1R at b1 ⊢; exact (numR_mono ha).2 b1
  have m2 : (e1R xs a).2.1 ≤ (e2R xs a).2.1 := by unfold e2R; exact (numR_mono l1).1
  have m3 : (e2R xs a).2.1 ≤ (e3R xs a).2.1 := by unfold e3R; exact (numR_mono l2).1
  have m4 : (e3R xs a).2.1 ≤ (e4R xs a).2.1 := by unfold e4R; exact takeR_mono
  have m5 : (e4R xs a).2.1 ≤ (e5R xs a).2.1 := by unfold e5R; exact (numR_mono l4).1
  have m6 : (e5R xs a).2.1 ≤ (e6R xs a).2.1 := by unfold e6R; exact takeR_mono
  have m7 : (e6R xs a).2.1 ≤ (e7R xs a).2.1 := by unfold e7R; exact takeR_mono
  omega
theorem entR_key {xs ah : List UInt8} {a : Nat} (h : badR xs ah a = false) : (entR xs ah a).key.length ≤ 1024 := by
  obtain ⟨_, h2, h3⟩ := badR_no h
  unfold entR
  simp only [List.length_append, List.length_take]
  omega
theorem lastK_snoc (es : List En) (x : En) : lastK (es ++ [x]) = x.key := by
  unfold lastK
  simp
theorem fam_join {w : World} {base B : Nat} {ps qs : List VB} (h : Fam w base ps) (hlt : ∀ p ∈ ps, ∀ b, Value.ownBlock p.1 = some b → b < B) (hn : Fam w B qs) (hB : base ≤ B) : Fam w base (ps ++ qs) := by
  refine ⟨fun p hp => ?_, List.pairwise_append.2 ⟨h.2, hn.2, fun p hp q hq k e1 e2 => ?_⟩⟩
  · rcases List.mem_append.1 hp with hp | hp
    · exact h.1 p hp
    · obtain ⟨A, m, c, e, ho⟩ := hn.1 p hp
      exact ⟨A, m, c, e, ho.mono hB⟩
  · have k1 := hlt p hp k e1
    have k2 := (hn.lt hq e2).1
    omega
/-- 'A row of entries of the call's own, off the reader; all of it lies below B.' -/
def PR (base B p : Nat) (L : Option Addr) (i d : Nat) (es : List En) (w : World) (vs : List Value) : Prop :=
  OwnE w base L i d vs ∧ EOs base w es vs ∧ OffW vs (blk L) ∧ es.length = i ∧ Fam w base (pairE es vs) ∧ OffW vs (some p) ∧ blk L ≠ some p ∧
    (∀ A m c g, Value.slice A m c ∈ vs → blk A = some g → g < B) ∧ (∀ g, blk L = some g → g < B)
section
variable {base B p i d : Nat} {L : Option Addr} {es : List En} {w w' : World} {vs : List Value}
theorem PR.kept (h : PR base B p L i d es w vs) (hg : w.grownBy w' (some p)) : PR base B p L i d es w' vs := by
  obtain ⟨q1, q2, q3, q4, q5, q6, q7, q8, q9⟩ := h
  refine ⟨?_, EOs.kept hg q2 q6, q3, q4, q5.kept hg (fun b hb r hr e => ?_), q6, q7, q8, q9⟩
  · refine ⟨q1.1, ?_⟩
    rcases q1.2 with h1 | ⟨g, cap, cur, h1, h2, h3, h4⟩
    · exact .inl h1
    · refine .inr ⟨g, cap, cur, h1, h2, ?_, h4⟩
      have hne : some g ≠ some p := fun e => q7 (by injection h1 with h1; rw [h1]; exact e)
      obtain ⟨_, _, _, _, k5⟩ := hg
      have hlt : g < w.heap.size := (Array.getElem?_eq_some_iff.1 h3).1
      exact (k5 g hlt hne).trans h3
  · injection hb with hb
    subst hb
    obtain ⟨A, m, c, e1, _⟩ := q5.1 r hr
    rw [e1, own_blk] at e
    have := pairE_mem hr
    rw [e1] at this
    exact q6 p rfl A m c this e
theorem PR.below (h : PR base B p L i d es w vs) (hb : Below w.heap.size w w') : PR base B p L i d es w' vs := by
  obtain ⟨q1, q2, q3, q4, q5, q6, q7, q8, q9⟩ := h
  exact ⟨q1.below hb, q2.below hb, q3, q4, q5.below hb, q6, q7, q8, q9⟩
theorem PR.zero (base B p : Nat) (w : World) : PR base B p none 0 0 [] w [] := ⟨OwnE.nil _ _, rfl, OffW.nil _, rfl, Fam.nil _ _, OffW.nil _, (fun h => by cases h), (fun A m c g h => by cases h), (fun g h => by cases h)⟩
theorem PR.rd (h : PR base B p L i d es w vs) : REs w L i es := by
  obtain ⟨q1, q2, q3, q4, _⟩ := h
  exact REs.mk q2.evs q1.rd q4
theorem PR.row {W : World} (h : PR base B p L i d es w vs) (hb : Below base W w) (hs : base ≤ w.heap.size) : RowE W base L i d es w := by
  obtain ⟨q1, q2, q3, q4, q5, _⟩ := h
  exact ⟨vs, q1, q2, q3, q4, hb, hs, q5⟩
/-- One more. -/
theorem pr_add {w4 : World} {L' K V : Option Addr} {d' kn kc vn vc : Nat} {x : En} (h : PR base B p L i d es w vs) (oK : Own 5 w B K kn kc x.key) (oV : Own 5 w B V vn vc x.val) (dj : Dj K V) (hwf : U64 x.seq ∧ x.kind < 256) (hB : base ≤ B) (hp : p < B) (hBw : B ≤ w.heap.size)
    (h4 : OwnE w4 base L' (i + 1) d' (vs ++ [.slice K kn kc, .int .u64 (x.seq : Int), .int .u8 (x.kind : Int), .slice V vn vc])) (hg : w.grownBy w4 (blk L)) (hb : blk L' = blk L ∨ blk L' = some (w.heap.size + 1)) :
    PR base w4.heap.size p L' (i + 1) d' (es ++ [x]) w4 (vs ++ [.slice K kn kc, .int .u64 (x.seq : Int), .int .u8 (x.kind : Int), .slice V vn vc]) := by
  obtain ⟨q1, q2, q3, q4, q5, q6, q7, q8, q9⟩ := h
  have eo : EO base w x (.slice K kn kc) (.int .u64 (x.seq : Int)) (.int .u8 (x.kind : Int)) (.slice V vn vc) := ⟨K, kn, kc, V, vn, vc, rfl, rfl, rfl, rfl, oK.mono hB, oV.mono hB, hwf⟩
  have hge : ∀ A m c g, Value.slice A m c ∈ [Value.slice K kn kc, .int .u64 (x.seq : Int), .int .u8 (x.kind : Int), .slice V vn vc] → blk A = some g → B ≤ g ∧ g < w.heap.size := fun A m c g hv hgg => by
    simp only [List.mem_cons, List.not_mem_nil, or_false] at hv
    rcases hv with e | e | e | e
    · injection e with e1 e2 e3; subst e1; exact oK.lt g hgg
    · cases e
    · cases e
    · injection e with e1 e2 e3; subst e1; exact oV.lt g hgg
  have o1 : OffW [Value.slice K kn kc, .int .u64 (x.seq : Int), .int .u8 (x.kind : Int), .slice V vn vc] (blk L) := fun g hgg A m c hv e => by
    have h1 := hge A m c g hv e
    have h2 := q9 g hgg
    omega
  have hgs := hg.size
  have f1 : Fam w base (pairE es vs ++ [(.slice K kn kc, x.key), (.slice V vn vc, x.val)]) := fam_join q5 (fun r hr b e => by
    obtain ⟨A, m, c, e1, _⟩ := q5.1 r hr
    have := pairE_mem hr
    rw [e1] at this e
    rw [own_blk] at e
    exact q8 A m c b this e) (fam_two oK oV dj) hB
  refine ⟨h4, (EOs.kept hg q2 q3).app (EOs.one (eo.kept hg o1)), ?_, by simp [q4], ?_, ?_, ?_, ?_, ?_⟩
  · rcases hb with e | e
    · rw [e]; exact q3.app o1
    · rw [e]
      intro g hg2 C m c hv2 hv3
      injection hg2 with hg2
      rcases List.mem_append.1 hv2 with hq | hq
      · have := (EOs.lt q2 hq hv3).2
        omega
      · have := hge C m c g hq hv3
        omega
  · rw [pairE_app q2]
    refine f1.kept hg (fun b e r hr e2 => ?_)
    obtain ⟨A, m, c, e1, _⟩ := f1.1 r hr
    have hm : Value.slice A m c ∈ vs ++ [.slice K kn kc, .int .u64 (x.seq : Int), .int .u8 (x.kind : Int), .slice V vn vc] := by
      rw [← e1]
      rcases List.mem_append.1 hr with h | h
      · exact List.mem_append_left _ (pairE_mem h)
      · refine List.mem_append_right _ ?_
        simp only [List.mem_cons, List.not_mem_nil, or_false] at h
        rcases h with rfl | rfl
        · simp
        · simp
    rw [e1, own_blk] at e2
    exact (q3.app o1) b e A m c hm e2
  · exact q6.app (fun g hgg A m c hv e => by
      injection hgg with hgg
      have := hge A m c g hv e
      omega)
  · rcases hb with e | e
    · rw [e]; exact q7
    · rw [e]
      intro h
      injection h with h
      omega
  · intro A m c g hv e
    rcases List.mem_append.1 hv with hq | hq
    · have := (EOs.lt q2 hq e).2
      omega
    · have := hge A m c g hq e
      omega
  · intro g e
    exact (h4.lt g e).2
end
end Go.Proofs.Ytcclhkoggijkaaa
namespace Go.Proofs.Ytcclhkoggijkaaa
open Go Go.RowKit Go.Maps

/-- 'The disk with this file now; the number.' -/
def RetFile (w : World) (p : Nat) (m : Option Nat) (rs : List FR) (r : FR) (dat : List UInt8) (saf : Nat) (room used left : Int) (dead armed : Bool) (v : Value) (e : Ending) (w' : World) : Prop :=
  e = .returned v ∧ ∃ r' : FR, r'.name = r.name ∧ r'.dat = dat ∧ r'.saf = saf ∧ DskR w' p m (putR r' rs) room used left dead armed ∧ Fr w w' (allB p m rs) ∧ ∀ b ∈ allB p m (putR r' rs), b ∈ allB p m rs ∨ w.heap.size ≤ b

section
variable {w : World} {p : Nat} {m : Option Nat} {rs : List FR} {room used left : Int} {dead armed : Bool}
theorem append_dead (x : List UInt8) (B : Option Addr) (n c : Nat) (h : DskR w p m rs room used left true armed) :
    Calls Try.prog 16 #[.pointer (some ⟨p, 0, none⟩), .string (tx x), .slice B n c] w fun e w' => e = .returned (.int .i64 9) ∧ w = w' := by
  go_enter Try.func16, Try.ntmps16
  go_wp2_with fail
  refine (find_dead x h).mono ?_
  rintro e w' ⟨rfl, rfl⟩
  go_wp2
  go_ret
  exact ⟨rfl, rfl⟩
set_option maxRecDepth 100000 in
set_option maxHeartbeats 2000000 in
theorem append_full (x : List UInt8) (B : Option Addr) (n c : Nat) (u R : Nat) (h : DskR w p m rs (R : Int) (u : Int) left false armed) (hf : R < u + n) (huR : u ≤ R) (hR : R ≤ 9223372036854775807) (hx : x.length ≤ maxLen) :
    Calls Try.prog 16 #[.pointer (some ⟨p, 0, none⟩), .string (tx x), .slice B n c] w fun e w' => e = .returned (.int .i64 8) ∧ ∃ q, w' = w.drewN q := by
  obtain ⟨c0, c1, c2, c3, c4, c5⟩ := h.head
  have i0 : IntKind.i64.wrap ((R : Int) - (u : Int)) = (R : Int) - (u : Int) := IntWalk.i64_in _ (by omega)
  have i1 : decide ((R : Int) - (u : Int) < (n : Int)) = true := by simp; omega
  by_cases hex : ∃ r ∈ rs, r.name = x
  · obtain ⟨r, hr, rfl⟩ := hex
    go_enter Try.func16, Try.ntmps16
    go_wp2_with fail
    refine (find_some h hr hx).mono ?_
    rintro e w' ⟨rfl, rfl⟩
    go_wp2
    go_quiet (fail)
    go_wp2
    go_ret
    exact ⟨rfl, _, rfl⟩
  · go_enter Try.func16, Try.ntmps16
    go_wp2_with fail
    refine (find_none x h (fun r hr e => hex ⟨r, hr, e⟩) hx).mono ?_
    rintro e w' ⟨rfl, rfl⟩
    go_wp2
    go_quiet (fail)
    go_wp2
    go_ret
    exact ⟨rfl, _, rfl⟩
set_option maxRecDepth 100000 in
set_option maxHeartbeats 4000000 in
theorem append_old {r : FR} (B : Option Addr) (n c : Nat) (ys : List UInt8) (u R : Nat) (h : DskR w p m rs (R : Int) (u : Int) left false armed) (hu : rsUp rs) (hr : r ∈ rs) (hB : Rd w B n ys)
    (hf : u + n ≤ R) (hR : R ≤ 9223372036854775807) (hn : n ≤ 1099511627776) (hd : r.dat.length ≤ 1099511627776) (hx : r.name.length ≤ maxLen) (hl : 0 ≤ left ∧ left ≤ 9223372036854775807) :
    Calls Try.prog 16 #[.pointer (some ⟨p, 0, none⟩), .string (tx r.name), .slice B n c] w
      (RetFile w p m rs r (r.dat ++ ys) r.saf R ((u + n : Nat) : Int) (tL armed left) (tD false armed left) (tA armed left) (.int .i64 (tE armed left))) := by
  obtain ⟨c0, c1, c2, c3, c4, c5⟩ := h.head
  have hfa := h.2.2.1 r hr
  obtain ⟨d0, d1⟩ := hfa.cells
  have i0 : IntKind.i64.wrap ((R : Int) - (u : Int)) = (R : Int) - (u : Int) := IntWalk.i64_in _ (by omega)
  have i1 : decide ((R : Int) - (u : Int) < (n : Int)) = false := by simp; omega
  have i2 : IntKind.i64.wrap ((u : Int) + (n : Int)) = (u : Int) + (n : Int) := IntWalk.i64_in _ (by omega)
  have hsep := h.2.2.2.1 r hr
  have hpf : p ≠ r.fb := fun e => hsep.1 (by rw [e]; simp [FR.bl])
  have hfA : blk r.A ≠ some r.fb := hsep.2.2
  have hfl : r.fb < w.heap.size := (Array.getElem?_eq_some_iff.1 hfa.1).1
  have hpl : p < w.heap.size := (Array.getElem?_eq_some_iff.1 h.1).1
  have hpA : blk r.A ≠ some p := fun e => hsep.1 (by simp [FR.bl, e])
  have HPA := Lib.hid hpA
  have HFA := Lib.hid hfA
  clear hpA hfA hsep
  go_enter Try.func16, Try.ntmps16
  go_wp2_with fail
  refine (find_some h hr hx).mono ?_
  rintro e w' ⟨rfl, rfl⟩
  go_wp2
  go_quiet (fail)
  obtain ⟨W, hW⟩ : ∃ W, W = w.drewN nq := ⟨_, rfl⟩
  have hD : DskR W p m rs (R : Int) (u : Int) left false armed := by rw [hW]; exact h
  have hBW : Rd W B n ys := by rw [hW]; exact hB.drewN nq
  have hFW : Fr w W (allB p m rs) := by rw [hW]; exact (Fr.refl _ _).drewN nq
  have hzW : W.heap.size = w.heap.size := by rw [hW]; rfl
  rw [← hW]
  have HZW := Lib.hid hzW
  clear hW h hB hzW c0 c1 c2 c3 c4 c5 d0 d1 hfa
  obtain ⟨c0, c1, c2, c3, c4, c5⟩ := hD.head
  have hfa := hD.2.2.1 r hr
  obtain ⟨d0, d1⟩ := hfa.cells
  have hown : OwnV 5 W 0 r.A r.dat.length r.c (r.dat.map cv) := hfa.2.1
  go_wp2_with (at_builtin; refine wpList_appV W rfl (.tmp 42) (.tmp 43) 25 rfl 0 5 _ 1 Try.underlying25 info_u8 rfl r.A r.dat.length r.c (r.dat.map cv) rfl hown B n c (ys.map cv) rfl hBW.toV (cv_one ys) ?_ ?_ ?_ ?_)
  · unfold maxLen; omega
  · omega
  · exact Nat.zero_le _
  intro A' c' w2 hA hg hk
  have hyl := hBW.len
  have hgs := hg.size
  have hfb2 : w2.heap[r.fb]? = some (.cells #[.slice r.A r.dat.length r.c, .int .i64 (r.saf : Int)] 131 (0, 0)) :=
    (hg.block r.fb (by have := HZW.out; omega) (fun e => HFA.out e.symm)).trans hfa.1
  have hp2 : w2.heap[p]? = some (.cells (headV m R u left false armed) 126 (0, 0)) :=
    (hg.block p (by have := HZW.out; omega) (fun e => HPA.out e.symm)).trans hD.1
  obtain ⟨r', hr'⟩ : ∃ r' : FR, r' = { r with dat := r.dat ++ ys, A := A', c := c' } := ⟨_, rfl⟩
  obtain ⟨N, hN⟩ : ∃ N, N = r.dat.length + n := ⟨_, rfl⟩
  have hlen : (r.dat ++ ys).length = N := by rw [List.length_append, hyl, hN]
  have hkA : blk A' ≠ some r.fb := fun e => by
    rcases hk with h1 | h1
    · exact HFA.out (by rw [← h1]; exact e)
    · rw [h1] at e; injection e with e; have := HZW.out; omega
  obtain ⟨w3, hw3⟩ : ∃ w3, w3 = w2.setCell ⟨r.fb, 0, none⟩ (.slice A' N c') := ⟨_, rfl⟩
  have hg3 : w2.grownBy w3 (some r.fb) := by rw [hw3]; exact ⟨rfl, rfl, rfl, by simp, fun k _ hne => heap_setCell_other w2 ⟨r.fb, 0, none⟩ k _ (fun e => hne (by rw [e]))⟩
  have hat : FileAt w3 r' := by
    refine ⟨?_, ?_, ?_⟩
    · rw [hw3, hr']
      show _ = some (Obj.cells #[.slice A' (r.dat ++ ys).length c', .int .i64 (r.saf : Int)] _ _)
      rw [heap_setCell_same _ _ _ _ _ _ hfb2, hlen]
      rfl
    · rw [hr']
      show Own 5 w3 0 A' (r.dat ++ ys).length c' (r.dat ++ ys)
      rw [hlen, hN]
      have h1 : OwnV 5 w2 0 A' (r.dat.length + n) c' ((r.dat ++ ys).map cv) := by rw [List.map_append]; exact hA
      exact OwnV.kept h1 hg3 (fun b hb e => hkA (by rw [hb]; exact e.symm))
    · rw [hr']
      show r.saf ≤ (r.dat ++ ys).length
      rw [List.length_append]
      have := hfa.2.2
      omega
  have hbl : ∀ b ∈ r'.bl, b ∈ r.bl ∨ W.heap.size ≤ b := fun b hb => by
    rw [hr'] at hb
    simp only [FR.bl, List.mem_cons, Option.mem_toList] at hb ⊢
    rcases hb with hb | hb
    · exact .inl (.inl hb)
    · rcases hk with h1 | h1
      · exact .inl (.inr (by rw [← h1]; exact hb))
      · rw [h1] at hb
        cases hb
        exact .inr (Nat.le_refl _)
  have hf3 : Fr W w3 r.bl := by
    have f1 : Fr W w2 r.bl := Fr.of_grown hg (fun b hb => by simp only [FR.bl, List.mem_cons, Option.mem_toList]; exact .inr hb)
    have f2 : Fr w2 w3 [r.fb] := Fr.of_grown hg3 (fun b hb => by cases hb; exact List.mem_singleton.2 rfl)
    exact f1.trans f2 (fun b hb => .inl (by rw [List.mem_singleton] at hb; rw [hb]; simp [FR.bl]))
  have hD3 : DskR w3 p m (putR r' rs) (R : Int) (u : Int) left false armed := hD.file hu hr (by rw [hr']) (by rw [hr']) hf3 hat hbl (by rw [hr']; exact hkA)
  obtain ⟨w4, hw4⟩ : ∃ w4, w4 = w3.setCell ⟨p, 2, none⟩ (.int .i64 ((u : Int) + (n : Int))) := ⟨_, rfl⟩
  have hD4 : DskR w4 p m (putR r' rs) (R : Int) ((u : Int) + (n : Int)) left false armed := by
    rw [hw4]
    exact hD3.turn (Fr.set w3 p 2 _) (heap_setCell_same _ _ _ _ _ _ hD3.1)
  have hF4 : Fr w w4 (allB p m rs) := by
    have f1 : Fr w w3 (allB p m rs) := hFW.trans hf3 (fun b hb => .inl (mem_file hr hb))
    have f2 : Fr w3 w4 [p] := by rw [hw4]; exact Fr.set w3 p 2 _
    exact f1.trans f2 (fun b hb => .inl (by rw [List.mem_singleton] at hb; rw [hb]; exact mem_head))
  have hmem : ∀ b ∈ allB p m (putR r' rs), b ∈ allB p m rs ∨ w.heap.size ≤ b := by
    have := mem_putR (p := p) (m := m) (w := W) hu hr hbl
    rw [HZW.out] at this
    exact this
  have d0' := cell_of_row w2 r.fb 0 _ _ _ hfb2
  have ff' := frozen_of_row w2 r.fb 0 _ _ hfb2
  have c2' : w2.cell? ⟨p, 2, none⟩ = some (.int .i64 (u : Int)) := cell_of_row w2 p 2 _ _ _ hp2
  have fp' := frozen_of_row w2 p 2 _ _ hp2
  have hnm : r'.name = r.name := by rw [hr']
  have hdt : r'.dat = r.dat ++ ys := by rw [hr']
  have hsf : r'.saf = r.saf := by rw [hr']
  have HW3 := Lib.hid hw3
  have HW4 := Lib.hid hw4
  have HN := Lib.hid hN
  have HR := Lib.hid (show r'.name = r.name ∧ r'.dat = r.dat ++ ys ∧ r'.saf = r.saf from ⟨hnm, hdt, hsf⟩)
  have HF4 := Lib.hid hF4
  have HMEM := Lib.hid hmem
  have HD4 := Lib.hid hD4
  clear hgs hfb2 hp2 hr' hlen hkA hg3 hat hbl hf3 hD3 hF4 hmem hnm hdt hsf hA hg hk hw3 hw4 hN hfa hD c0 c1 c2 c3 c4 c5 d0 d1 hown hD4 hFW
  rw [← HN.out]
  go_wp2_with fail
  rw [← HW3.out, ← HW4.out]
  have e1 : (u : Int) + (n : Int) = ((u + n : Nat) : Int) := by omega
  refine (turn_zero HD4.out hl).mono ?_
  rintro e w5 ⟨rfl, hH⟩
  have hfin : RetFile w p m rs r (r.dat ++ ys) r.saf R ((u + n : Nat) : Int) (tL armed left) (tD false armed left) (tA armed left) (.int .i64 (tE armed left)) (.returned (.int .i64 (tE armed left))) w5 := by
    refine ⟨rfl, r', HR.out.1, HR.out.2.1, HR.out.2.2, ?_, ?_, HMEM.out⟩
    · rw [← e1]
      exact HD4.out.turn hH.1 hH.2
    · exact HF4.out.trans hH.1 (fun b hb => .inl (by rw [List.mem_singleton] at hb; rw [hb]; exact mem_head))
  have HFIN := Lib.hid hfin
  clear hfin hH e1
  go_wp2
  go_ret
  exact HFIN.out
end
end Go.Proofs.Ytcclhkoggijkaaa
namespace Go.Proofs.Ytcclhkoggijkaaa
open Go Go.RowKit

/-- What a list that is picked out of another comes to. -/
def RetPick (w : World) (es : List En) (us : List Value) (e : Ending) (w' : World) : Prop :=
  ∃ L k d vs, e = .returned (.slice L k d) ∧ OwnE w' w.heap.size L k d vs ∧ EVs w' es vs ∧ es.length = k ∧ Below w.heap.size w w' ∧ ∀ u ∈ vs, u ∈ us
theorem RetPick.out {w : World} {es : List En} {us : List Value} {e : Ending} {w' : World} (h : RetPick w es us e w') : ∃ L k d vs, e = .returned (.slice L k d) ∧ OwnE w' w.heap.size L k d vs ∧ EVs w' es vs ∧ es.length = k ∧ Below w.heap.size w w' ∧ ∀ u ∈ vs, u ∈ us := h
theorem RetPick.res {w : World} {es : List En} {us : List Value} {e : Ending} {w' : World} (h : RetPick w es us e w') : ∃ L k d, e = .returned (.slice L k d) ∧ REs w' L k es ∧ k ≤ d ∧ Below w.heap.size w w' := by
  obtain ⟨L, k, d, vs, h1, h2, h3, h4, h5, _⟩ := h
  exact ⟨L, k, d, h1, REs.mk h3 h2.rd h4, h2.cap.1, h5⟩
/-- 'So far picked.' -/
def Pck (w : World) (us : List Value) (es : List En) (L : Option Addr) (k d : Nat) (wr : World) : Prop :=
  ∃ vs, OwnE wr w.heap.size L k d vs ∧ EVs w es vs ∧ es.length = k ∧ Below w.heap.size w wr ∧ ∀ u ∈ vs, u ∈ us
theorem Pck.zero (w : World) (us : List Value) : Pck w us [] none 0 0 w := ⟨[], OwnE.nil _ _, rfl, rfl, Below.refl _ _, fun u hu => by cases hu⟩
theorem Pck.below {w wr w' : World} {us : List Value} {es : List En} {L : Option Addr} {k d : Nat} (h : Pck w us es L k d wr) (hb : Below wr.heap.size wr w') : Pck w us es L k d w' := by
  obtain ⟨vs, h1, h2, h3, h4, h5⟩ := h
  exact ⟨vs, h1.below hb, h2, h3, belowT' h4 hb, h5⟩
theorem Pck.bel {w wr : World} {us : List Value} {es : List En} {L : Option Addr} {k d : Nat} (h : Pck w us es L k d wr) : Below w.heap.size w wr := by
  obtain ⟨vs, h1, h2, h3, h4, h5⟩ := h
  exact h4
theorem Pck.len {w wr : World} {us : List Value} {es : List En} {L : Option Addr} {k d : Nat} (h : Pck w us es L k d wr) : es.length = k := by
  obtain ⟨vs, h1, h2, h3, h4, h5⟩ := h
  exact h3
theorem Pck.ret {w wr : World} {us : List Value} {es : List En} {L : Option Addr} {k d : Nat} (h : Pck w us es L k d wr) : RetPick w es us (.returned (.slice L k d)) wr := by
  obtain ⟨vs, h1, h2, h3, h4, h5⟩ := h
  exact ⟨L, k, d, vs, rfl, h1, h2.below h4, h3, h4, h5⟩
theorem Pck.snoc {w w4 : World} {us vs : List Value} {es : List En} {L' : Option Addr} {k d' : Nat} {x : En} {v0 v1 v2 v3 : Value} (h2 : EVs w es vs) (h3 : es.length = k) (h5 : ∀ u ∈ vs, u ∈ us)
    (hx : EV w x v0 v1 v2 v3) (hm : ∀ u ∈ [v0, v1, v2, v3], u ∈ us) (o4 : OwnE w4 w.heap.size L' (k + 1) d' (vs ++ [v0, v1, v2, v3])) (b4 : Below w.heap.size w w4) : Pck w us (es ++ [x]) L' (k + 1) d' w4 :=
  ⟨vs ++ [v0, v1, v2, v3], o4, h2.app (EVs.one hx), by simp [h3], b4, fun u hu => by
    rcases List.mem_append.1 hu with h | h
    · exact h5 u h
    · exact hm u h⟩
theorem mem4 {w : World} {A : Option Addr} {n k b off : Nat} {es : List En} {ovs : List Value} (hv : EVs w es ovs) (hd : RdV w A (n * 4) ovs) (hl : es.length = n) (hA : A = some ⟨b, off, none⟩) (hk : k < n) :
    ∃ e v0 v1 v2 v3, es[k]? = some e ∧ w.cell? ⟨b, off + k * 4, none⟩ = some v0 ∧ w.cell? ⟨b, off + k * 4 + 1, none⟩ = some v1 ∧
      w.cell? ⟨b, off + k * 4 + 2, none⟩ = some v2 ∧ w.cell? ⟨b, off + k * 4 + 3, none⟩ = some v3 ∧ EV w e v0 v1 v2 v3 ∧ ∀ u ∈ [v0, v1, v2, v3], u ∈ ovs := by
  subst hA
  obtain ⟨b', off', e, hb, hc⟩ := hd.2 (by omega)
  injection e with e
  injection e with e1 e2
  subst e1 e2
  obtain ⟨x, hx⟩ : ∃ x, es[k]? = some x := ⟨_, List.getElem?_eq_getElem (by omega)⟩
  obtain ⟨v0, v1, v2, v3, e0, e1, e2, e3, g0⟩ := hv.at_ k hx
  refine ⟨x, v0, v1, v2, v3, hx, hc _ _ e0, ?_, ?_, ?_, g0, fun u hu => ?_⟩
  · rw [Nat.add_assoc]; exact hc _ _ e1
  · rw [Nat.add_assoc]; exact hc _ _ e2
  · rw [Nat.add_assoc]; exact hc _ _ e3
  · simp only [List.mem_cons, List.not_mem_nil, or_false] at hu
    rcases hu with rfl | rfl | rfl | rfl
    · exact List.mem_of_getElem? e0
    · exact List.mem_of_getElem? e1
    · exact List.mem_of_getElem? e2
    · exact List.mem_of_getElem? e3
theorem filter_snoc {es : List En} {k : Nat} {x : En} {p : En → Bool} (hx : es[k]? = some x) : (es.take (k + 1)).filter p = (es.take k).filter p ++ (if p x then [x] else []) := by
  rw [List.take_add_one, hx, List.filter_append]
  simp only [Option.toList, List.filter_cons, List.filter_nil]
end Go.Proofs.Ytcclhkoggijkaaa
namespace Go.Proofs.Ytcclhkoggijkaaa
open Go Go.RowKit

section
variable {w : World} {A : Option Addr} {n c : Nat} {es : List En}
set_option maxRecDepth 100000 in
set_option maxHeartbeats 4000000 in
theorem mgOwn_any (h : REs w A n es) (hn : n ≤ 2097152) (hs : ∀ x ∈ es, SzE x) : Calls Try.prog 136 #[.slice A n c] w (RetRow w es) := by
  have HL := Lib.hid h.len
  have HS := Lib.hid hs
  obtain ⟨i, hi, hz, hsz, hby⟩ := info_parts info_ent
  obtain ⟨wm, hm1, hm2, hm3⟩ := run_make_own (P := Try.prog) (w := w) w.heap.size 22 37 i _ 4 Try.underlying22 hi hz hsz .i64 .i64 n (by rw [hby]; omega) (by unfold maxLen; omega) (Nat.le_refl _)
  have hbm : Below w.heap.size w wm := (Below.refl _ _).grown hm3 (Nat.le_refl _) (fun k hk => by cases hk)
  have HZ : Hid (RowE w w.heap.size (some ⟨w.heap.size, 0, none⟩) 0 n [] wm) := Lib.hid ⟨[], hm2, rfl, OffW.nil _, rfl, hbm, hbm.size, Fam.nil _ _⟩
  clear hs hm2 hm3 hbm hi hz hsz hby
  go_enter Try.func136, Try.ntmps136
  go_wp2_with fail
  go_loopw [3, 11] (fun s3 s11 wr => ∃ (k d : Nat) (L : Option Addr), k ≤ n ∧ s11 = .int .i64 (k : Int) ∧ s3 = .slice L k d ∧ RowE w w.heap.size L k d (es.take k) wr) (fun _ s _ => n - (intOf s).toNat)
  case atStart => exact ⟨0, n, _, Nat.zero_le _, rfl, rfl, HZ.out⟩
  case round =>
    obtain ⟨k, d, L, hk, rfl, rfl, hrow⟩ := hrel
    have HR := Lib.hid hrow
    have sw := hrow.size
    have hR : REs wr A n es := h.below hrow.bel
    clear hrow
    by_cases hlt : k < n
    · obtain ⟨b, off, rfl, hbl⟩ := hR.pos (by omega)
      obtain ⟨x, v0, v1, v2, v3, hx, m0, m1, m2, m3, hev⟩ := hR.at_ k hlt
      have hsx := HS.out x (List.mem_of_getElem? hx)
      have hwf := hR.wf x (List.mem_of_getElem? hx)
      obtain ⟨K, kn, kc, V, vn, vc, rfl, rfl, rfl, rfl, _⟩ := hev.parts
      have HXK := Lib.hid hx
      obtain ⟨U0, hU⟩ : ∃ U0, U0 = wr.alloc (.cells #[.slice K kn kc, .int .u64 (x.seq : Int), .int .u8 (x.kind : Int), .slice V vn vc] 37) := ⟨_, rfl⟩
      have bU : Below wr.heap.size wr U0 := by rw [hU]; exact (Below.refl _ _).alloc (Nat.le_refl _) _
      have HEN := Lib.hid (mgEntry_any (hev.below bU) hsx)
      have HRU := Lib.hid (HR.out.below bU)
      have HU := Lib.hid hU
      have su := bU.size
      have zU : Cl U0 wr.heap.size #[.slice K kn kc, .int .u64 (x.seq : Int), .int .u8 (x.kind : Int), .slice V vn vc] 37 := by rw [hU]; exact Cl.new _ _ _
      obtain ⟨z0, z1, z2, z3, _⟩ := zU.c4
      clear hx hev hR hU bU HR zU
      go_upto_region 5 with (fail)
      rw [← HU.out]
      go_wp2_with fail
      with_reducible refine HEN.out.mono ?_
      rintro e w2 ⟨K2, kn2, kc2, V2, vn2, vc2, rfl, o1, o2, b2, dj⟩
      obtain ⟨vs, q1, q2, q3, q4, q5, q6, q7⟩ := HRU.out
      have HFM := Lib.hid (fam_two o1 o2 dj)
      have Q7 := Lib.hid q7
      have s2 := b2.size
      have HEO : Hid (EO w.heap.size w2 x (.slice K2 kn2 kc2) (.int .u64 (x.seq : Int)) (.int .u8 (x.kind : Int)) (.slice V2 vn2 vc2)) := Lib.hid ⟨K2, kn2, kc2, V2, vn2, vc2, rfl, rfl, rfl, rfl, o1.mono q6, o2.mono q6, hwf⟩
      have HOF : Hid (OffW [.slice K2 kn2 kc2, .int .u64 (x.seq : Int), .int .u8 (x.kind : Int), .slice V2 vn2 vc2] (blk L)) := Lib.hid (EO.off (base := U0.heap.size) (w := w2) (e := x) ⟨K2, kn2, kc2, V2, vn2, vc2, rfl, rfl, rfl, rfl, o1, o2, hwf⟩ (fun g hg => .inl (q1.lt g hg).2))
      have HB2 := Lib.hid b2
      have Q1 := Lib.hid q1
      have Q2 := Lib.hid q2
      have Q3 := Lib.hid q3
      have Q4 := Lib.hid q4
      have Q5 := Lib.hid q5
      have hcell : ∀ u ∈ [Value.slice K2 kn2 kc2, .int .u64 (x.seq : Int), .int .u8 (x.kind : Int), .slice V2 vn2 vc2], u.oneCell' = true := HEO.out.ev.cells
      have HCL := Lib.hid hcell
      clear o1 o2 b2 q1 q2 q3 q4 q5 q7 dj hcell m0 m1 m2 m3 z0 z1 z2 z3
      go_wp2_with (at_builtin; refine wpList_app4t w2 rfl _ _ 22 rfl w.heap.size _ 64 Try.underlying22 info_ent rfl L k d vs rfl (Q1.out.below HB2.out) _ _ _ _ HCL.out w2.heap.size rfl rfl ?_ ?_ ?_ ?_)
      · omega
      · omega
      · omega
      intro L2 d2 w4 hG4 hg4 hb4
      have HQ : Hid (RowE w w.heap.size L2 (k + 1) d2 (es.take (k + 1)) w4) := Lib.hid (by
        rw [List.take_add_one, HXK.out]
        exact rowE_snoc Q1.out Q2.out Q3.out Q4.out Q5.out q6 Q7.out HB2.out HEO.out HOF.out HFM.out hG4 hg4 hb4)
      clear hG4 hg4 hb4
      go_wp2_with fail
      go_roundw
      case rel => exact ⟨k + 1, d2, L2, by omega, by go_num, rfl, HQ.out⟩
      case measure => simp [intOf]; omega
    · obtain rfl : k = n := by omega
      have htk := take_all HL.out hlt
      rw [htk] at HR
      clear htk
      go_wp2
      go_ret
      exact ⟨L, k, d, rfl, HR.out⟩
end
end Go.Proofs.Ytcclhkoggijkaaa
namespace Go.Proofs.Ytcclhkoggijkaaa
open Go Go.RowKit

/-- One entry more appended onto a row of entries, at a step of a region that draws its order. -/
theorem step_app4 {P : Program} (w : World) {ops : Array Oper} {o : Oper} {a : Act} {K : Act → World → Prop} {Q : Exit → Act → World → Prop} {E : Prop} (hgd : o.guard = none) (s x : Operand) (tt : TypeId)
    (ho : o.op = .call { callee := .builtin .append, args := #[s, x], argTypes := #[tt, tt] })
    (base : Nat) (z : Value) (by_ : Nat) (ht : P.underlying tt = some (.slice 37)) (hi : (P.info? 37).map (fun i => (i.zero, i.size, i.bytes)) = some (some z, 4, by_)) (hz1 : z.cells.size = 4)
    (A : Option Addr) (n c : Nat) (vs : List Value) (hs : a.eval s = .slice A n c) (hown : OwnE w base A n c vs)
    (ad : Addr) (m d : Nat) (ys : List Value) (hx : a.eval x = .slice (some ad) m d) (hr : RdV w (some ad) (m * 4) ys) (hm : 0 < m) (h1 : ∀ u ∈ ys, u.oneCell' = true)
    (hn : n + m ≤ maxLen) (hby : (n + m) * by_ ≤ 140737488355328) (hbase : base ≤ w.heap.size)
    (h : ∀ A' c' w', OwnE w' base A' (n + m) c' (vs ++ ys) → w.grownBy w' (blk A) → K (a.put o.dst (.slice A' (n + m) c')) w') :
    if Region.wanted o (yielded ops a.tmps) = true then Oper.wp P o a w K Q else E := by
  have hw : Region.wanted o (yielded ops a.tmps) = true := by simp [Region.wanted, hgd]
  rw [if_pos hw]
  obtain ⟨i, hi, hz, hsz, hby2⟩ := info_parts hi
  obtain ⟨b, off, e, _, hc⟩ := hr.2 (by omega)
  injection e with e
  subst e
  refine wp_append_own w s x tt ho base 37 i z 4 by_ ht hi hz hsz hby2 hz1 (by decide) (.slice A n c) n vs hs hown ⟨b, off, none⟩ m d ys hx hr.1 (fun j u hj => by rw [Addr.add_lit]; exact hc j u hj) h1 hn hby hbase ?_
  intro v' w' k1 k2 _
  obtain ⟨A', c', rfl⟩ : ∃ A' c', v' = .slice A' (n + m) c' := by
    rcases k1.2 with ⟨h3, h4⟩ | ⟨g, cap, cur, h3, _⟩
    · exact ⟨none, 0, by rw [h3, h4]⟩
    · exact ⟨_, _, h3⟩
  rw [own_blk] at k2
  exact h A' c' w' k1 k2
/-- Rows of other kinds lie in other blocks than an entry's bytes. -/
theorem eos_off {base : Nat} {w : World} {t : TypeId} {s b1 n c j : Nat} {L : Option Addr} {us : List Value} (k : w.ownsRow b1 t s (.slice L n c) j us) (hne : t ≠ 5) : ∀ {es : List En} {vs : List Value}, EOs base w es vs → OffW vs (blk L)
  | [], _, h => by rw [show _ = [] from h]; exact OffW.nil _
  | e :: es, vs, h => fun g hg A m d hv => by
    obtain ⟨v0, v1, v2, v3, r, rfl, ⟨K, kn, kc, V, vn, vc, rfl, rfl, rfl, rfl, o1, o2, _⟩, h2⟩ := h
    have ih := eos_off k hne h2 g hg A m d
    simp only [List.mem_cons] at hv
    rcases hv with e | e | e | e | e
    · injection e with e1 e2 e3
      rw [e1]
      exact fun h => row_ne k o1 hne g hg h
    · cases e
    · cases e
    · injection e with e1 e2 e3
      rw [e1]
      exact fun h => row_ne k o2 hne g hg h
    · exact ih e
end Go.Proofs.Ytcclhkoggijkaaa
namespace Go.Proofs.Ytcclhkoggijkaaa
open Go Go.RowKit

theorem szL_take (es : List En) (k : Nat) : szL (es.take k) ≤ szL es := by
  have := szL_app (es.take k) (es.drop k)
  rw [List.take_append_drop] at this
  omega
theorem szL_snoc {es : List En} {k : Nat} {x : En} (h : es[k]? = some x) : szL (es.take (k + 1)) = szL (es.take k) + wE x := by
  rw [List.take_add_one, h, szL_app]
  simp [szL]
theorem grow_set {w w' : World} {row : Option Nat} (h : w.grownBy w' row) (p : Nat) (i : Nat) (v : Value) (hp : row = some p) : w.grownBy (World.setCell w' ⟨p, i, none⟩ v) row := by
  obtain ⟨h1, h2, h3, h4, h5⟩ := h
  have k := (Below.refl p w').setCell (p := ⟨p, i, none⟩) (Nat.le_refl _) v
  exact ⟨k.os.trans h1, k.tape.trans h2, k.output.trans h3, Nat.le_trans h4 k.size, fun b hb hne => by
    have hbp : b ≠ p := fun e => hne (by rw [e]; exact hp.symm)
    rw [heap_setCell_other _ _ _ _ hbp]
    exact h5 b hb hne⟩
end Go.Proofs.Ytcclhkoggijkaaa
namespace Go.Proofs.Ytcclhkoggijkaaa
open Go Go.RowKit

theorem ownV_box8 (w : World) (t : TypeId) (base : Nat) (vs : List Value) (n : Nat) (hl : vs.length = n) (hn : n ≤ 1024) (hb : base ≤ w.heap.size) (cs : Array Value) (hc : cs = vs.toArray) (g : Nat) (hg : g = w.heap.size) : OwnV t (w.alloc (.cells cs t)) base (some ⟨g, 0, none⟩) n n vs := by
  subst hc hg
  refine ⟨by simp [hl], .inr ⟨w.heap.size, n, vs.toArray, rfl, hb, heap_alloc_new w _, Nat.le_refl _, by unfold maxLen; omega, by simp [hl], ?_⟩⟩
  simp only [Nat.mul_one]
  exact List.take_of_length_le (by simp [hl])
theorem Rd.cst8 (w : World) (e : TypeId) (n : Nat) (xs : List UInt8) (hn : xs.length = n) (vs : Array Value) (hv : vs = (xs.map cv).toArray) (fr : Nat × Nat) (g : Nat) (hg : g = w.heap.size) :
    Rd (w.alloc (.cells vs e fr)) (some ⟨g, 0, none⟩) n xs := by
  subst hv hg
  refine ⟨hn, fun _ => ⟨w.heap.size, 0, rfl, by simp, fun i x hx => ?_⟩⟩
  have h := cell_of_row (w.alloc (.cells (xs.map cv).toArray e fr)) w.heap.size (0 + i) (xs.map cv).toArray e fr (heap_alloc_new w _)
  rw [h]
  simp [hx, cv]

def e81 : En := ⟨[97, 98], 5, 1, [120]⟩
def e82 : En := ⟨[97, 98, 99], 7, 2, []⟩
theorem b8 : (buildE 2 [e81, e82]).2 = 0 ∧ (buildE 2 [e81, e82]).1.length = 30 ∧ (buildE 2 [e81, e82]).1[8]? = some 0 ∧ (buildE 2 [e81, e82]).1[9]? = some 2 ∧ (buildE 2 [e81, e82]).1[10]? = some 5 ∧ (buildE 2 [e81, e82]).1[16]? = some 2 ∧ (buildE 2 [e81, e82]).1[17]? = some 1 ∧ (buildE 2 [e81, e82]).1[18]? = some 7 := by decide +kernel
end Go.Proofs.Ytcclhkoggijkaaa
namespace Go.Proofs.Ytcclhkoggijkaaa
open Go Go.RowKit

def lenV : Value → Nat
  | .slice _ n _ => n
  | _ => 0
/-- What parse hands back: the entries, the every; or none. -/
def RetPa8 (w : World) (r : Option (List En × Nat)) (e : Ending) (w' : World) : Prop :=
  (r = none ∧ e = .returned (.tuple #[.slice none 0 0, .int .i64 0, .bool false]) ∧ Below w.heap.size w w') ∨
  ∃ es ev L d, r = some (es, ev) ∧ e = .returned (.tuple #[.slice L es.length d, .int .i64 (ev : Int), .bool true]) ∧ RowE w w.heap.size L es.length d es w' ∧ es.length ≤ 16777216 ∧ ev ≤ 16777216
/-- What stands at the head of parse's loop. -/
def PRel (w : World) (p : Nat) (E : Option Addr) (en ec : Nat) (ys : List UInt8) (sec : Int) (s10 s11 s12 : Value) (wr : World) : Prop :=
  ∃ (f a i d hn hc ev : Nat) (es : List En) (L H : Option Addr) (vs : List Value), s10 = .int .i64 (ev : Int) ∧ s11 = .slice L i d ∧ s12 = .slice H hn hc ∧
    parR ys sec (en + 1) 0 [] 0 = parR ys sec f a es ev ∧ a ≤ en ∧ en < a + f ∧ i ≤ a ∧ ev ≤ i ∧ Rdr wr p E en ec (a, false) ∧ PR w.heap.size wr.heap.size p L i d es wr vs ∧
    Rd wr H hn (lastK es) ∧ hn ≤ hc ∧ (H = none → hc = 0) ∧ blk H ≠ some p ∧ hn ≤ 1024 ∧ Below w.heap.size w wr
set_option maxRecDepth 100000 in
set_option maxHeartbeats 16000000 in
theorem parse_any (A : Option Addr) (n c : Nat) (xs : List UInt8) (w : World) (hx : Rd w A n xs) (hn : n ≤ 16777216) (hnc : n ≤ c) (hnil : A = none → c = 0) :
    Calls Try.prog 162 #[.slice A n c] w (RetPa8 w (parB xs)) := by
  have hxl := hx.len
  have HSP := Lib.hid (split_any A n c xs w hx (by omega) hnc hnil)
  cases hsb : splitB xs with
  | none =>
    have hp : parB xs = none := by unfold parB; rw [hsb]
    have HP := Lib.hid hp
    clear hp hx hxl
    go_enter Try.func162, Try.ntmps162
    go_wp2_with fail
    refine HSP.out.mono ?_
    rintro e w1 ⟨⟨q, hq⟩, ⟨_, rfl⟩ | ⟨ys, zs, B1, n1, c1, B2, n2, c2, h0, _⟩⟩
    · have HQ := Lib.hid hq
      clear hq
      go_wp2_with fail
      exact bodyPost_ret (v := .tuple #[.slice none 0 0, .int .i64 0, .bool false]) (by simp [results, Try.f162, go_sem]; try rfl) rfl (.inl ⟨HP.out, rfl, by rw [HQ.out]; exact below_drewN (Below.refl _ _) q⟩)
    · rw [hsb] at h0
      cases h0
  | some yz =>
    obtain ⟨ys, zs⟩ := yz
    obtain ⟨sec, hsec⟩ : ∃ sec : Int, sec = if 8 ≤ zs.length then (numK (zs.drop 4) 4 : Int) else -1 := ⟨_, rfl⟩
    have hp : parB xs = match parR ys sec (ys.length + 1) 0 [] 0 with
      | none => none
      | some (es, ev) => some (es, if sec < 0 then max es.length 1 else ev) := by
      unfold parB
      rw [hsb]
      simp only
      rw [← hsec]
      all_goals (cases parR ys sec (ys.length + 1) 0 [] 0 <;> rfl)
    have HP := Lib.hid hp
    have HSEC := Lib.hid hsec
    have HSB := Lib.hid hsb
    clear hp hsec hsb
    go_enter Try.func162, Try.ntmps162
    go_wp2_with fail
    refine HSP.out.mono ?_
    rintro e w1 ⟨⟨q, hq⟩, ⟨h0, _⟩ | ⟨ys', zs', E, en, ec, Z, zn, zc, h0, rfl, hec, hzc, rE, rZ, hEn, hZn, hEA, hlen⟩⟩
    · rw [HSB.out] at h0
      cases h0
    · rw [HSB.out] at h0
      injection h0 with h0
      injection h0 with h01 h02
      subst h01 h02
      have rE1 : Rd w1 E en ys := by rw [hq]; exact rE.drewN q
      have rZ1 : Rd w1 Z zn zs := by rw [hq]; exact rZ.drewN q
      have b1 : Below w.heap.size w w1 := by rw [hq]; exact below_drewN (Below.refl _ _) q
      have s1 : w1.heap.size = w.heap.size := by rw [hq]; rfl
      have hsz : sec = if 8 ≤ zn then (numK (zs.drop 4) 4 : Int) else -1 := by rw [HSEC.out, rZ.len]
      have HSZ := Lib.hid hsz
      have HRZ := Lib.hid rZ1
      have HRE := Lib.hid rE1
      have HB1 := Lib.hid b1
      have HREw := Lib.hid rE
      have hA0 : 0 < n := by have := hxl; omega
      have hpe : ∀ p, w.heap.size ≤ p → blk E ≠ some p := fun p hp e => by
        rcases hEA with e2 | e2
        · rw [e2] at e; cases e
        · obtain ⟨bA, oA, eA, hbA⟩ := hx.pos hA0
          rw [e2, eA] at e
          injection e with e
          simp only at e
          omega
      have HPE := Lib.hid hpe
      have HS1 := Lib.hid s1
      have hznn : zn ≤ 16777216 := by omega
      have henn : en ≤ 16777216 := by omega
      clear hq rE rZ rE1 rZ1 b1 s1 hsz HSP hx hpe hEA
      go_upto_if 25 with (fail)
      go_cut [8] from 15 to 29 (fun s8 wx => s8 = .int .i64 sec ∧ ∃ q, wx = w1.drewN q)
      case first =>
        by_cases h8 : 8 ≤ zn
        · have h8i : (8 : Int) ≤ (zn : Int) := by omega
          obtain ⟨k, hk⟩ : ∃ k, k = numK (zs.drop 4) 4 := ⟨_, rfl⟩
          have hse : sec = (k : Int) := by rw [HSZ.out, if_pos h8, hk]
          have hsl : ∀ W : World, (Instr.slice 25 (.slice Z zn zc) (some (.int .i64 4)) none none).run Try.prog W = .ok (.slice (cutA Z 4 zc) (zn - 4) (zc - 4)) W := cut_l (k := 4) Try.underlying25 elem_bytes size_u8 Z (by omega)
          have HGW : Hid (Calls Try.prog 196 #[.slice (cutA Z 4 zc) (zn - 4) (zc - 4)] w1 (RetCo w1 k)) := Lib.hid (by
            rw [hk]
            have h := HRZ.out.cut (k := 4) (m := zn) (cap := zc) (by omega) (Nat.le_refl _) hzc
            rw [List.take_of_length_le (by have := HRZ.out.len; omega)] at h
            exact getWord8_any _ _ _ _ w1 h (by omega) (by omega) (by omega))
          obtain ⟨zm, hzm⟩ : ∃ zm, zm = zn - 4 := ⟨_, rfl⟩
          rw [← hzm] at hsl HGW
          have HSE := Lib.hid hse
          clear hk hse hzm
          go_wp2_with fail
          with_reducible refine HGW.out.mono ?_
          rintro e w2 ⟨rfl, q2, hq2⟩
          have HQ2 := Lib.hid hq2
          clear hq2
          go_wp2_with fail
          go_meet
          case rel => exact ⟨by rw [HSE.out], q2, HQ2.out⟩
        · have h8i : ¬ (8 : Int) ≤ (zn : Int) := by omega
          have hse : sec = -1 := by rw [HSZ.out, if_neg h8]
          have HSE := Lib.hid hse
          clear hse
          go_wp2_with fail
          go_meet
          case rel => exact ⟨by rw [HSE.out], 0, rfl⟩
      case rest =>
        obtain ⟨rfl, q2, hq2⟩ := hcut
        have bc : Below w.heap.size w wc := by rw [hq2]; exact below_drewN HB1.out q2
        have sc : wc.heap.size = w.heap.size := by rw [hq2, ← HS1.out]; rfl
        have hyl : ys.length = en := HRE.out.len
        have HYL := Lib.hid hyl
        obtain ⟨W, hW⟩ : ∃ W, W = wc.alloc (.cells #[.slice E en ec, .int .i64 0, .bool false] 266) := ⟨_, rfl⟩
        obtain ⟨p, hpw⟩ : ∃ p, p = wc.heap.size := ⟨_, rfl⟩
        have hWr : Rdr W p E en ec (0, false) := by rw [hW, hpw]; exact Cl.new _ _ _
        have bW : Below w.heap.size w W := by rw [hW]; exact bc.alloc (by omega) _
        have sW : p < W.heap.size := by rw [hW, hpw]; simp
        have hpge : w.heap.size ≤ p := by omega
        have HWR := Lib.hid (And.intro hWr bW)
        have HSW := Lib.hid sW
        have HW := Lib.hid hW
        have HPW := Lib.hid hpw
        clear hq2 bc sc hyl hWr bW sW hW hpw
        go_upto_region 8 with (fail)
        rw [← HW.out, ← HPW.out]
        go_wp2_with fail
        go_loopw [10, 11, 12] (fun s10 s11 s12 wr => PRel w p E en ec ys sec s10 s11 s12 wr ∧ p < wr.heap.size) (fun _ s _ _ => en + 1 - lenV s)
        case atStart => exact ⟨⟨en + 1, 0, 0, 0, 0, 0, 0, [], none, none, [], rfl, rfl, rfl, rfl, Nat.zero_le _, by omega, Nat.le_refl _, Nat.le_refl _, HWR.out.1, PR.zero _ _ _ _, Rd.nil _ _, Nat.le_refl _, fun _ => rfl, (fun h => by cases h), by omega, HWR.out.2⟩, HSW.out⟩
        case round =>
          obtain ⟨⟨f, a, i, d, hn2, hc2, ev, es, L, H, vs, rfl, rfl, rfl, hpar, hae, haf, hia, hevi, hRd, hPR, hH, hHc, hHn, hHp, hH1, hB⟩, hpl⟩ := hrel
          have hcl : Cl wr p #[.slice E en ec, .int .i64 (a : Int), .bool false] 266 := hRd
          obtain ⟨c0, c1, c2, f0, f1, f2⟩ := hcl.c3
          have HPAR := Lib.hid hpar
          have HB := Lib.hid hB
          have HPR := Lib.hid hPR
          have HRD := Lib.hid hRd
          have HHR := Lib.hid hH
          clear hpar hB hPR hRd hcl hH
          by_cases hlt : a < en
          · obtain ⟨f', rfl⟩ : ∃ f', f = f' + 1 := ⟨f - 1, by omega⟩
            obtain ⟨ev2, hev2⟩ : ∃ ev2, ev2 = if (a : Int) = sec then i else ev := ⟨_, rfl⟩
            have hev2i : ev2 ≤ i := by rw [hev2]; split <;> omega
            have HEV2 := Lib.hid hev2
            have hil : es.length = i := HPR.out.2.2.2.1
            have HIL := Lib.hid hil
            clear hev2 hil
            go_upto_if 40 with (fail)
            go_cut [10] from 37 to 43 (fun s10 wx => s10 = .int .i64 (ev2 : Int) ∧ wx = wr)
            case first =>
              by_cases hs : (a : Int) = sec
              · have he : ev2 = i := by rw [HEV2.out, if_pos hs]
                have t1 : ((a : Int) == sec) = true := by simpa using hs
                subst he
                go_wp2_with fail
                go_meet
                case rel => exact ⟨rfl, rfl⟩
              · have he : ev2 = ev := by rw [HEV2.out, if_neg hs]
                have t1 : ((a : Int) == sec) = false := by simpa using hs
                subst he
                go_wp2_with fail
                go_meet
                case rel => exact ⟨rfl, rfl⟩
            case rest =>
              obtain ⟨rfl, hwc⟩ := hcut
              rw [hwc]
              clear hwc wc
              have HEN := Lib.hid (entry_any wr p E en ec ys H hn2 hc2 (lastK es) a HRD.out (HREw.out.below HB.out) HHR.out hae (by omega) hec hEn (by omega) hHc (HPE.out p hpge) hHp hHn)
              have hstep : parR ys sec (f' + 1) a es ev = if badR ys (lastK es) a then none else parR ys sec f' (e7R ys a).2.1 (es ++ [entR ys (lastK es) a]) ev2 := by
                rw [parR, if_neg (by rw [HYL.out]; omega), HEV2.out, HIL.out]
              have HST := Lib.hid hstep
              clear hstep
              go_wp2_with fail
              with_reducible refine HEN.out.mono ?_
              intro e w2 hq
              obtain ⟨r2, g2, hcase⟩ := hq
              rcases hcase with ⟨hbad, rfl⟩ | ⟨hbad, K, kn, kc, V, vn, vc, rfl, oK, oV, dj⟩
              · have hfin : parB xs = none := by
                  rw [HP.out, HYL.out, HPAR.out, HST.out, hbad]
                  rfl
                have hb2 : Below w.heap.size w w2 := HB.out.grown g2 HB.out.size (fun k hk => by injection hk with hk; omega)
                have HF := Lib.hid (And.intro hfin hb2)
                clear hbad r2 g2 hfin hb2
                go_wp2_with fail
                exact bodyPost_ret (v := .tuple #[.slice none 0 0, .int .i64 0, .bool false]) (by simp [results, Try.f162, go_sem]; try rfl) rfl (.inl ⟨HF.out.1, rfl, HF.out.2.alloc HF.out.2.size _⟩)
              · obtain ⟨x, hxe⟩ : ∃ x, x = entR ys (lastK es) a := ⟨_, rfl⟩
                rw [← hxe] at oK oV ⊢
                have hkl : x.key.length ≤ 1024 := by rw [hxe]; exact entR_key hbad
                have hwf : U64 x.seq ∧ x.kind < 256 := by
                  rw [hxe]
                  refine ⟨?_, ?_⟩
                  · have := (numR_le (xs := ys) (s := (e2R ys a).2) (e_le (by rw [HYL.out]; exact hae)).2.1).2
                    exact this
                  · exact UInt8.toNat_lt _
                have hpar2 : parR ys sec (en + 1) 0 [] 0 = parR ys sec f' (e7R ys a).2.1 (es ++ [x]) ev2 := by rw [HPAR.out, HST.out, hbad, hxe]; rfl
                have h7b := (badR_no hbad).1
                have h7l : (e7R ys a).2.1 ≤ en := by rw [← HYL.out]; exact (e_le (by rw [HYL.out]; exact hae)).2.2.2.2.2.2
                have h7m : a < (e7R ys a).2.1 := e7_more (by rw [HYL.out]; exact hae) h7b
                have hr2 : Rdr w2 p E en ec ((e7R ys a).2.1, false) := by
                  have := r2
                  unfold Rdr at this ⊢
                  rw [h7b] at this
                  exact this
                have s2 := g2.size
                have hb2 : Below w.heap.size w w2 := HB.out.grown g2 HB.out.size (fun k hk => by injection hk with hk; omega)
                have hPR2 := HPR.out.kept g2
                obtain ⟨U, hU⟩ : ∃ U, U = w2.alloc (.cells #[.slice K kn kc, .int .u64 (x.seq : Int), .int .u8 (x.kind : Int), .slice V vn vc] 37) := ⟨_, rfl⟩
                obtain ⟨g3, hg3⟩ : ∃ g3, g3 = w2.heap.size := ⟨_, rfl⟩
                have bU : Below w2.heap.size w2 U := by rw [hU]; exact (Below.refl _ _).alloc (Nat.le_refl _) _
                have kU : Cl U g3 #[.slice K kn kc, .int .u64 (x.seq : Int), .int .u8 (x.kind : Int), .slice V vn vc] 37 := by rw [hU, hg3]; exact Cl.new _ _ _
                have sU := bU.size
                have hPRU := hPR2.below bU
                have oKU := oK.below bU
                have oVU := oV.below bU
                have hRU : Rdr U p E en ec ((e7R ys a).2.1, false) := (show Cl w2 p _ _ from hr2).below bU
                have hBU : Below w.heap.size w U := hb2.trans (bU.mono (by have := HB.out.size; omega))
                have hcell : ∀ u ∈ [Value.slice K kn kc, .int .u64 (x.seq : Int), .int .u8 (x.kind : Int), .slice V vn vc], u.oneCell' = true := by
                  intro u hu
                  simp only [List.mem_cons, List.not_mem_nil, or_false] at hu
                  rcases hu with rfl | rfl | rfl | rfl <;> rfl
                have hwb : w.heap.size ≤ wr.heap.size := HB.out.size
                have hkcap := oK.cap
                have hknil : K = none → kc = 0 := fun h => by have := oK.nil_of (by rw [h]; rfl); exact this.2.2
                have hknl := oK.len
                obtain ⟨y0, y1, y2, y3, _⟩ := kU.c4
                have HU := Lib.hid hU
                have HG3 := Lib.hid hg3
                have HPU := Lib.hid hPRU
                have HO := Lib.hid (And.intro oKU (And.intro oVU dj))
                have HRU := Lib.hid (And.intro hRU hBU)
                have HKU := Lib.hid kU
                have HWF := Lib.hid hwf
                have HP2 := Lib.hid hpar2
                have HCE := Lib.hid hcell
                have HKN := Lib.hid hknil
                have HKL := Lib.hid hknl
                have hkn2 : kn ≤ 1024 := by omega
                have hkc2 : kn ≤ kc := hkcap.1
                have hUl : wr.heap.size ≤ U.heap.size := by omega
                have HX := Lib.hid hxe
                have HS2 := Lib.hid s2
                clear hxe hbad oK oV dj r2 g2 hr2 hb2 hPR2 bU kU hPRU oKU oVU hRU hBU hcell hU hwf hpar2 hknil hknl hkcap h7b hkl HEN HST c0 c1 c2 f0 f1 f2 s2 sU
                go_upto_if 49 with (fail)
                rw [← HU.out, ← HG3.out]
                clear hg3
                go_wp2_with (at_builtin; refine wpList_app4t U rfl _ _ 22 rfl w.heap.size _ 64 Try.underlying22 info_ent rfl L i d vs rfl HPU.out.1 _ _ _ _ HCE.out U.heap.size rfl rfl ?_ ?_ ?_ ?_)
                · omega
                · omega
                · omega
                intro L2 d2 w4 hG4 hg4 hb4
                have hPR4 := pr_add HPU.out HO.out.1 HO.out.2.1 HO.out.2.2 HWF.out hwb hpl hUl hG4 hg4 hb4
                have s4 := hg4.size
                have hLp : blk L ≠ some p := HPU.out.2.2.2.2.2.2.1
                have hLb : ∀ b, blk L = some b → b < wr.heap.size := HPU.out.2.2.2.2.2.2.2.2
                have hR4 : Rdr w4 p E en ec ((e7R ys a).2.1, false) := ClG.grown HRU.out.1 hg4 hLp
                have k4 : Cl w4 g3 #[.slice K kn kc, .int .u64 (x.seq : Int), .int .u8 (x.kind : Int), .slice V vn vc] 37 := ClG.grown HKU.out hg4 (fun e => by have := hLb g3 e; have := HG3.out; have := HS2.out; omega)
                have rK4 : Rd w4 K kn x.key := (HO.out.1.kept hg4 (fun b hb e => by have h1 := (HO.out.1.lt b hb).1; have h2 := hLb b e; omega)).rd
                have hB4 : Below w.heap.size w w4 := HRU.out.2.grown hg4 (by omega) (fun k hk => (HPU.out.1.lt k hk).1)
                have hKp : blk K ≠ some p := fun e => by have := (HO.out.1.lt p e).1; omega
                obtain ⟨z0, z1, z2, z3, _⟩ := k4.c4
                have HF := Lib.hid (And.intro hPR4 (And.intro hR4 (And.intro rK4 (And.intro hB4 hKp))))
                clear hPR4 hR4 k4 rK4 hB4 hKp hG4 hg4 hb4 y0 y1 y2 y3 hLp hLb
                go_wp2_with fail
                go_roundw
                case rel =>
                  refine ⟨⟨f', (e7R ys a).2.1, i + 1, d2, kn, kc, ev2, es ++ [x], L2, K, _, rfl, rfl, rfl, HP2.out, h7l, by omega, by omega, by omega, HF.out.2.1, HF.out.1, ?_, hkc2, HKN.out, HF.out.2.2.2.2, hkn2, HF.out.2.2.2.1⟩, by omega⟩
                  rw [lastK_snoc]
                  exact HF.out.2.2.1
                case measure => simp [lenV]; omega
          · obtain rfl : a = en := by omega
            have hil : es.length = i := HPR.out.2.2.2.1
            have hf : parR ys sec f a es ev = some (es, ev) := by
              obtain ⟨f', rfl⟩ : ∃ f', f = f' + 1 := ⟨f - 1, by omega⟩
              rw [parR, if_pos (by rw [HYL.out]; exact Nat.le_refl _)]
            have hpb : parB xs = some (es, if sec < 0 then max i 1 else ev) := by rw [HP.out, HYL.out, HPAR.out, hf]; simp only [hil]
            have hrow : RowE w w.heap.size L i d es wr := HPR.out.row HB.out HB.out.size
            have HPB := Lib.hid hpb
            have HROW := Lib.hid hrow
            have HIL := Lib.hid hil
            clear hil hf hpb hrow
            by_cases hs : sec < 0
            · obtain ⟨mx, hmx⟩ : ∃ mx, mx = max i 1 := ⟨_, rfl⟩
              have hb : parB xs = some (es, mx) := by rw [HPB.out, if_pos hs, hmx]
              have hmi : mx ≤ 16777216 := by omega
              have HBB := Lib.hid hb
              have HMX := Lib.hid hmx
              clear hb hmx
              by_cases hi1 : i < 1
              · obtain rfl : i = 0 := by omega
                have hm1 : mx = 1 := by have := HMX.out; omega
                subst hm1
                go_wp2_with fail
                refine bodyPost_ret (v := .tuple #[.slice L 0 d, .int .i64 1, .bool true]) (by simp [results, Try.f162, go_sem]; try rfl) rfl (.inr ⟨es, 1, L, d, HBB.out, by rw [HIL.out]; rfl, by rw [HIL.out]; exact HROW.out, by rw [HIL.out]; omega, hmi⟩)
              · have hm1 : mx = i := by have := HMX.out; omega
                subst hm1
                go_wp2_with fail
                refine bodyPost_ret (v := .tuple #[.slice L mx d, .int .i64 (mx : Int), .bool true]) (by simp [results, Try.f162, go_sem]; omega) rfl (.inr ⟨es, mx, L, d, HBB.out, by rw [HIL.out], by rw [HIL.out]; exact HROW.out, by rw [HIL.out]; omega, hmi⟩)
            · have hb : parB xs = some (es, ev) := by rw [HPB.out, if_neg hs]
              have HBB := Lib.hid hb
              clear hb
              go_wp2_with fail
              refine bodyPost_ret (v := .tuple #[.slice L i d, .int .i64 (ev : Int), .bool true]) (by simp [results, Try.f162, go_sem]; try rfl) rfl (.inr ⟨es, ev, L, d, HBB.out, by rw [HIL.out], by rw [HIL.out]; exact HROW.out, by rw [HIL.out]; omega, by omega⟩)
end Go.Proofs.Ytcclhkoggijkaaa
namespace Go.Proofs.Ytcclhkoggijkaaa
open Go Go.RowKit Go.Maps

theorem putR_eq {r q : FR} {t : List FR} (h : q.name = r.name) : putR r (q :: t) = r :: t := by rw [putR, if_pos h]
theorem putR_lt {r q : FR} {t : List FR} (h : q.name ≠ r.name) (h2 : r.name < q.name) : putR r (q :: t) = r :: q :: t := by rw [putR, if_neg h, if_pos h2]
theorem putR_gt {r q : FR} {t : List FR} (h : q.name ≠ r.name) (h2 : ¬ r.name < q.name) : putR r (q :: t) = q :: putR r t := by rw [putR, if_neg h, if_neg h2]
theorem putR_putR {a b : FR} (e : a.name = b.name) : ∀ {rs : List FR}, rsUp rs → putR a (putR b rs) = putR a rs
  | [], _ => putR_eq e.symm
  | q :: t, hu => by
    unfold rsUp at hu
    rw [List.pairwise_cons] at hu
    by_cases h1 : q.name = b.name
    · rw [putR_eq h1, putR_eq e.symm, putR_eq (by rw [e]; exact h1)]
    · by_cases h2 : b.name < q.name
      · rw [putR_lt h1 h2, putR_eq e.symm, putR_lt (by rw [e]; exact h1) (by rw [e]; exact h2)]
      · rw [putR_gt h1 h2, putR_gt (by rw [e]; exact h1) (by rw [e]; exact h2), putR_gt (by rw [e]; exact h1) (by rw [e]; exact h2), putR_putR e hu.2]
theorem mem_putR_self (r : FR) : ∀ rs : List FR, r ∈ putR r rs
  | [] => by simp [putR]
  | q :: t => by
    simp only [putR]
    split
    · exact List.mem_cons_self ..
    · split
      · exact List.mem_cons_self ..
      · exact List.mem_cons_of_mem _ (mem_putR_self r t)
theorem putR_up {r : FR} {rs : List FR} (h : rsUp rs) : rsUp (putR r rs) := by
  have h1 : risingF (rs.map FR.val) := by
    unfold risingF
    rw [List.pairwise_map]
    exact h
  have h2 := putF_up (f := r.val) h1
  rw [← putR_val] at h2
  exact rsUp_of h2

section
variable {w w' : World} {p : Nat} {m : Option Nat} {rs : List FR} {room used left : Int} {dead armed : Bool}
theorem put_any (r : FR) (h : DskR w p m rs room used left dead armed) (hn : ∀ q ∈ rs, q.name ≠ r.name) (hl : r.name.length ≤ 1099511627776) (hrs : rs.length ≤ 1099511627776) :
    Calls Try.prog 66 #[.pointer (some ⟨p, 0, none⟩), .string (tx r.name), .pointer (some ⟨r.fb, 0, none⟩)] w (RetPut w p m (putR r rs) room used left dead armed) := by
  obtain ⟨h1, h2, h3, h4⟩ := h
  rcases h2 with ⟨rfl, rfl⟩ | ⟨b, Dm, rfl, ho, hm⟩
  · exact put_nil r h1 hl
  · exact put_some r h1 ho hm (h4.2.1 b rfl) hn hl hrs
/-- The disk behind a put. -/
theorem DskR.put {r : FR} {e : Ending} (h : DskR w p m rs room used left dead armed) (hu : rsUp rs) (hr : RetPut w p m (putR r rs) room used left dead armed e w') (hat : FileAt w r) (hfr : ∀ b ∈ r.bl, b ∉ allB p m rs) (hne : blk r.A ≠ some r.fb) :
    ∃ b, DskR w' p (some b) (putR r rs) room used left dead armed ∧ Fr w w' (p :: m.toList) ∧ (m = some b ∨ w.heap.size ≤ b) := by
  have hlt := h.lt
  obtain ⟨h1, h2, h3, h4, h5, h6⟩ := h
  obtain ⟨_, b, Dm, e1, e2, e3, e4, e5⟩ := hr
  have hpl := (Array.getElem?_eq_some_iff.1 h1).1
  have hbp : b ≠ p := by
    rcases e5 with e5 | e5
    · exact h5 b e5
    · omega
  have hbq : ∀ q ∈ rs, b ∉ q.bl := fun q hq hb => by
    rcases e5 with e5 | e5
    · exact (h4 q hq).2.1 b e5 hb
    · have := hlt b (mem_file hq hb); omega
  have hbr : b ∉ r.bl := fun hb => by
    rcases e5 with e5 | e5
    · exact hfr b hb (mem_map e5)
    · have := hat.lt b hb; omega
  refine ⟨b, ⟨e1, .inr ⟨b, Dm, rfl, e2, e3⟩, fun q hq => ?_, fun q hq => ?_, fun c hc => by injection hc with hc; rw [← hc]; exact hbp, ?_⟩, e4, e5⟩
  · rcases putR_sub2 hu q hq with rfl | ⟨hq, _⟩
    · refine hat.fr e4 (fun c hc hm => hfr c hc ?_)
      simp only [allB, List.mem_cons, List.mem_append] at hm ⊢
      rcases hm with hm | hm
      · exact .inl hm
      · exact .inr (.inl hm)
    · refine (h3 q hq).fr e4 (fun c hc hm => ?_)
      simp only [List.mem_cons, Option.mem_toList] at hm
      rcases hm with rfl | hm
      · exact (h4 q hq).1 hc
      · exact (h4 q hq).2.1 c hm hc
  · rcases putR_sub2 hu q hq with rfl | ⟨hq, _⟩
    · exact ⟨fun hm => hfr p hm mem_head, fun c hc => by injection hc with hc; rw [← hc]; exact hbr, hne⟩
    · exact ⟨(h4 q hq).1, fun c hc => by injection hc with hc; rw [← hc]; exact hbq q hq, (h4 q hq).2.2⟩
  · exact putR_pair (fun a b => Sp.symm) h6 (fun q hq _ x hx hxq => hfr x hx (mem_file hq hxq)) hu

/-- 'The disk with this file now, and maybe a map of its own; the number.' -/
def RetFile2 (w : World) (p : Nat) (m : Option Nat) (rs : List FR) (x : List UInt8) (dat : List UInt8) (saf : Nat) (room used left : Int) (dead armed : Bool) (v : Value) (e : Ending) (w' : World) : Prop :=
  e = .returned v ∧ ∃ (r' : FR) (m' : Option Nat), r'.name = x ∧ r'.dat = dat ∧ r'.saf = saf ∧ DskR w' p m' (putR r' rs) room used left dead armed ∧ Fr w w' (allB p m rs) ∧ ∀ b ∈ allB p m' (putR r' rs), b ∈ allB p m rs ∨ w.heap.size ≤ b

set_option maxRecDepth 100000 in
set_option maxHeartbeats 4000000 in
theorem append_new (x : List UInt8) (B : Option Addr) (n c : Nat) (ys : List UInt8) (u R : Nat) (h : DskR w p m rs (R : Int) (u : Int) left false armed) (hu : rsUp rs) (hno : ∀ r ∈ rs, r.name ≠ x) (hB : Rd w B n ys) (hBo : ∀ b, blk B = some b → b ∉ allB p m rs)
    (hf : u + n ≤ R) (hR : R ≤ 9223372036854775807) (hn : n ≤ 1099511627776) (hx : x.length ≤ 1099511627776) (hrs : rs.length ≤ 1099511627776) (hl : 0 ≤ left ∧ left ≤ 9223372036854775807) :
    Calls Try.prog 16 #[.pointer (some ⟨p, 0, none⟩), .string (tx x), .slice B n c] w
      (RetFile2 w p m rs x ys 0 R ((u + n : Nat) : Int) (tL armed left) (tD false armed left) (tA armed left) (.int .i64 (tE armed left))) := by
  have hxm : x.length ≤ maxLen := by unfold maxLen; omega
  obtain ⟨c0, c1, c2, c3, c4, c5⟩ := h.head
  have i0 : IntKind.i64.wrap ((R : Int) - (u : Int)) = (R : Int) - (u : Int) := IntWalk.i64_in _ (by omega)
  have i1 : decide ((R : Int) - (u : Int) < (n : Int)) = false := by simp; omega
  have i2 : IntKind.i64.wrap ((u : Int) + (n : Int)) = (u : Int) + (n : Int) := IntWalk.i64_in _ (by omega)
  have HNO := Lib.hid hno
  have HBo := Lib.hid hBo
  clear hBo
  go_enter Try.func16, Try.ntmps16
  go_wp2_with fail
  refine (find_none x h hno hxm).mono ?_
  rintro e w' ⟨rfl, rfl⟩
  clear hno
  go_wp2
  go_quiet (fail)
  obtain ⟨W, hW⟩ : ∃ W, W = w.drewN nq := ⟨_, rfl⟩
  have hD : DskR W p m rs (R : Int) (u : Int) left false armed := by rw [hW]; exact h
  have hBW : Rd W B n ys := by rw [hW]; exact hB.drewN nq
  have hFW : Fr w W (allB p m rs) := by rw [hW]; exact (Fr.refl _ _).drewN nq
  have hzW : W.heap.size = w.heap.size := by rw [hW]; rfl
  rw [← hW]
  have HZW := Lib.hid hzW
  clear hW h hB hzW c0 c1 c2 c3 c4 c5
  obtain ⟨V, hV⟩ : ∃ V, V = W.alloc (.cells #[.slice none 0 0, .int .i64 0] 131) := ⟨_, rfl⟩
  have hbV : Below W.heap.size W V := by rw [hV]; exact (Below.refl _ _).alloc (Nat.le_refl _) _
  have hDV : DskR V p m rs (R : Int) (u : Int) left false armed := hD.fr (Fr.of_below hbV []) (fun b _ h => by cases h)
  have hBV : Rd V B n ys := hBW.below hbV
  obtain ⟨fb, hfb⟩ : ∃ fb, fb = W.heap.size := ⟨_, rfl⟩
  have hcV : V.heap[fb]? = some (.cells #[.slice none 0 0, .int .i64 0] 131 (0, 0)) := by rw [hV, hfb]; exact heap_alloc_new _ _
  obtain ⟨r0, hr0⟩ : ∃ r0 : FR, r0 = ⟨x, [], 0, fb, none, 0⟩ := ⟨_, rfl⟩
  have hn0 : r0.name = x := by rw [hr0]
  have hb0 : r0.fb = fb := by rw [hr0]
  have hat0 : FileAt V r0 := by rw [hr0]; exact ⟨hcV, Own.nil _ _ _, Nat.le_refl _⟩
  have hfr0 : ∀ b ∈ r0.bl, b ∉ allB p m rs := fun b hb hm => by
    rw [hr0] at hb
    simp [FR.bl, blk] at hb
    have := hD.lt b hm
    omega
  have hne0 : blk r0.A ≠ some r0.fb := by rw [hr0]; simp [blk]
  have hP := put_any r0 hDV (fun q hq e => HNO.out q hq (by rw [e, hn0])) (by rw [hn0]; exact hx) hrs
  rw [hn0, hb0] at hP
  have HP := Lib.hid hP
  have HV := Lib.hid hV
  have HFB := Lib.hid hfb
  clear hP hV hcV hfb
  go_wp2_with fail
  rw [← HV.out, ← HFB.out]
  refine HP.out.mono ?_
  clear HP
  rintro e w1 hret
  have hfb := HFB.out
  clear HFB
  subst hfb
  obtain ⟨he, hret2⟩ := hret
  subst he
  obtain ⟨mb, hD1, hF1, hmb⟩ := hDV.put hu ⟨rfl, hret2⟩ hat0 hfr0 hne0
  clear hret2
  have hVs := hbV.size
  have hr1 : r0 ∈ putR r0 rs := mem_putR_self _ _
  have hu1 := putR_up (r := r0) hu
  have hfa := hD1.2.2.1 r0 hr1
  have hB1 : Rd w1 B n ys := hBV.fr hF1 (fun b hb hm => HBo.out b hb (by
    simp only [List.mem_cons, Option.mem_toList, allB, List.mem_append] at hm ⊢
    rcases hm with hm | hm
    · exact .inl hm
    · exact .inr (.inl hm)))
  have hF01 : Fr w w1 (allB p m rs) := by
    have f1 : Fr w V (allB p m rs) := hFW.trans (Fr.of_below hbV (allB p m rs)) (fun b hb => .inl hb)
    exact f1.trans hF1 (fun b hb => .inl (by
      simp only [List.mem_cons, Option.mem_toList, allB, List.mem_append] at hb ⊢
      rcases hb with hm | hm
      · exact .inl hm
      · exact .inr (.inl hm)))
  have hmem1 : ∀ b ∈ allB p (some mb) (putR r0 rs), b ∈ allB p m rs ∨ w.heap.size ≤ b := fun b hb => by
    simp only [allB, List.mem_cons, List.mem_append, List.mem_flatMap, Option.mem_toList] at hb
    have := HZW.out
    rcases hb with rfl | hb | ⟨q, hq, hb⟩
    · exact .inl mem_head
    · cases hb
      rcases hmb with h1 | h1
      · exact .inl (mem_map h1)
      · exact .inr (by omega)
    · rcases putR_sub2 hu q hq with rfl | ⟨hq, _⟩
      · rw [hr0] at hb
        simp [FR.bl, blk] at hb
        exact .inr (by omega)
      · exact .inl (mem_file hq hb)
  have hz1 : w.heap.size ≤ w1.heap.size := hF01.size
  clear hDV hBV hBW hFW hbV hat0 hfr0 hne0 hF1 hmb hD
  have hfa1 := hfa.1
  have hpf : p ≠ W.heap.size := fun e => (hD1.2.2.2.1 r0 hr1).1 (by rw [e, ← hb0]; simp [FR.bl])
  have hfl : W.heap.size < w1.heap.size := by have := (Array.getElem?_eq_some_iff.1 hfa1).1; rw [hb0] at this; exact this
  have hpl : p < w1.heap.size := (Array.getElem?_eq_some_iff.1 hD1.1).1
  rw [hr0] at hfa1
  have d0 : w1.cell? ⟨W.heap.size, 0, none⟩ = some (.slice none 0 0) := cell_of_row w1 W.heap.size 0 _ _ _ hfa1
  have hown : OwnV 5 w1 0 none 0 0 [] := OwnV.nil _ _ _
  go_wp2_with (at_builtin; refine wpList_appV w1 rfl (.tmp 42) (.tmp 43) 25 rfl 0 5 _ 1 Try.underlying25 info_u8 rfl none 0 0 [] rfl hown B n c (ys.map cv) rfl hB1.toV (cv_one ys) ?_ ?_ ?_ ?_)
  · unfold maxLen; omega
  · omega
  · exact Nat.zero_le _
  intro A' c' w2 hA hg hk
  have hA : OwnV 5 w2 0 A' n c' (ys.map cv) := by simpa using hA
  have hg : w1.grownBy w2 none := hg
  have hyl := hB1.len
  have hgs := hg.size
  have hfb2 : w2.heap[W.heap.size]? = some (.cells #[.slice none 0 0, .int .i64 0] 131 (0, 0)) := (hg.block W.heap.size hfl (by simp)).trans hfa1
  have hp2 : w2.heap[p]? = some (.cells (headV (some mb) R u left false armed) 126 (0, 0)) := (hg.block p hpl (by simp)).trans hD1.1
  obtain ⟨r', hr'⟩ : ∃ r' : FR, r' = { r0 with dat := ys, A := A', c := c' } := ⟨_, rfl⟩
  have hkA : blk A' ≠ some W.heap.size := fun e => by
    rcases hk with h1 | h1
    · rw [h1] at e; simp [blk] at e
    · rw [h1] at e; injection e with e; omega
  obtain ⟨w3, hw3⟩ : ∃ w3, w3 = w2.setCell ⟨W.heap.size, 0, none⟩ (.slice A' n c') := ⟨_, rfl⟩
  have hg3 : w2.grownBy w3 (some W.heap.size) := by rw [hw3]; exact ⟨rfl, rfl, rfl, by simp, fun k _ hne => heap_setCell_other w2 ⟨W.heap.size, 0, none⟩ k _ (fun e => hne (by rw [e]))⟩
  have hat : FileAt w3 r' := by
    refine ⟨?_, ?_, ?_⟩
    · rw [hw3, hr', hr0]
      show (w2.setCell ⟨W.heap.size, 0, none⟩ (.slice A' n c')).heap[W.heap.size]? = some (Obj.cells #[.slice A' ys.length c', .int .i64 0] _ _)
      rw [heap_setCell_same _ _ _ _ _ _ hfb2, hyl]
      rfl
    · rw [hr']
      show Own 5 w3 0 A' ys.length c' ys
      rw [hyl]
      exact OwnV.kept hA hg3 (fun b hb e => hkA (by rw [hb]; exact e.symm))
    · rw [hr', hr0]
      exact Nat.zero_le _
  have hbl : ∀ b ∈ r'.bl, b ∈ r0.bl ∨ w1.heap.size ≤ b := fun b hb => by
    rw [hr'] at hb
    simp only [FR.bl, List.mem_cons, Option.mem_toList] at hb ⊢
    rcases hb with hb | hb
    · exact .inl (.inl hb)
    · rcases hk with h1 | h1
      · rw [h1] at hb; simp [blk] at hb
      · rw [h1] at hb
        cases hb
        exact .inr (Nat.le_refl _)
  have hf3 : Fr w1 w3 r0.bl := by
    have f1 : Fr w1 w2 r0.bl := Fr.of_grown hg (fun b hb => by cases hb)
    have f2 : Fr w2 w3 [W.heap.size] := Fr.of_grown hg3 (fun b hb => by cases hb; exact List.mem_singleton.2 rfl)
    exact f1.trans f2 (fun b hb => .inl (by rw [List.mem_singleton] at hb; rw [hb, ← hb0]; simp [FR.bl]))
  have hD3 : DskR w3 p (some mb) (putR r' (putR r0 rs)) (R : Int) (u : Int) left false armed := hD1.file hu1 hr1 (by rw [hr']) (by rw [hr']) hf3 hat hbl (by rw [hr', hr0]; exact hkA)
  obtain ⟨w4, hw4⟩ : ∃ w4, w4 = w3.setCell ⟨p, 2, none⟩ (.int .i64 ((u : Int) + (n : Int))) := ⟨_, rfl⟩
  have hD4 : DskR w4 p (some mb) (putR r' (putR r0 rs)) (R : Int) ((u : Int) + (n : Int)) left false armed := by
    rw [hw4]
    exact hD3.turn (Fr.set w3 p 2 _) (heap_setCell_same _ _ _ _ _ _ hD3.1)
  have hF4 : Fr w w4 (allB p m rs) := by
    have f1 : Fr w w3 (allB p m rs) := hF01.trans hf3 (fun b hb => hmem1 b (mem_file hr1 hb))
    have f2 : Fr w3 w4 [p] := by rw [hw4]; exact Fr.set w3 p 2 _
    exact f1.trans f2 (fun b hb => .inl (by rw [List.mem_singleton] at hb; rw [hb]; exact mem_head))
  have hmem : ∀ b ∈ allB p (some mb) (putR r' (putR r0 rs)), b ∈ allB p m rs ∨ w.heap.size ≤ b := fun b hb => by
    rcases mem_putR (p := p) (m := some mb) (w := w1) hu1 hr1 hbl b hb with h1 | h1
    · exact hmem1 b h1
    · exact .inr (by omega)
  have hpp : putR r' (putR r0 rs) = putR r' rs := putR_putR (by rw [hr']) hu
  rw [hpp] at hD4 hmem
  have d0' := cell_of_row w2 W.heap.size 0 _ _ _ hfb2
  have ff' := frozen_of_row w2 W.heap.size 0 _ _ hfb2
  have c2' : w2.cell? ⟨p, 2, none⟩ = some (.int .i64 (u : Int)) := cell_of_row w2 p 2 _ _ _ hp2
  have fp' := frozen_of_row w2 p 2 _ _ hp2
  have HW3 := Lib.hid hw3
  have HW4 := Lib.hid hw4
  have HR := Lib.hid (show r'.name = x ∧ r'.dat = ys ∧ r'.saf = 0 from by rw [hr', hr0]; exact ⟨rfl, rfl, rfl⟩)
  have HF4 := Lib.hid hF4
  have HMEM := Lib.hid hmem
  have HD4 := Lib.hid hD4
  clear hgs hfb2 hp2 hr' hkA hg3 hat hbl hf3 hD3 hF4 hmem hA hg hk hw3 hw4 hfa hfa1 hD1 d0 hown hD4 hpp hmem1 hF01 hr0 hn0 hb0 hu1 hr1 hB1 hyl
  go_wp2_with fail
  rw [← HW3.out, ← HW4.out]
  have e1 : (u : Int) + (n : Int) = ((u + n : Nat) : Int) := by omega
  refine (turn_zero HD4.out hl).mono ?_
  rintro e w5 ⟨rfl, hH⟩
  have hfin : RetFile2 w p m rs x ys 0 R ((u + n : Nat) : Int) (tL armed left) (tD false armed left) (tA armed left) (.int .i64 (tE armed left)) (.returned (.int .i64 (tE armed left))) w5 := by
    refine ⟨rfl, r', some mb, HR.out.1, HR.out.2.1, HR.out.2.2, ?_, ?_, HMEM.out⟩
    · rw [← e1]
      exact HD4.out.turn hH.1 hH.2
    · exact HF4.out.trans hH.1 (fun b hb => .inl (by rw [List.mem_singleton] at hb; rw [hb]; exact mem_head))
  have HFIN := Lib.hid hfin
  clear hfin hH e1
  go_wp2
  go_ret
  exact HFIN.out
end
end Go.Proofs.Ytcclhkoggijkaaa
namespace Go.Proofs.Ytcclhkoggijkaaa
open Go Go.RowKit

/-- The error of one list. -/
def chk1 (es : List En) : Int := if checkE es ≠ 0 then checkE es else if ordE es then 0 else 3
/-- The least of two errors. -/
def comb (a b : Int) : Int := if b ≠ 0 ∧ (a = 0 ∨ b < a) then b else a
/-- The least error of lists. -/
def chkL (ls : List (List En)) : Int := ls.foldl (fun a x => comb a (chk1 x)) 0
theorem checkE_kinds (es : List En) : checkE es = 0 ∨ checkE es = 2 ∨ checkE es = 3 := by
  unfold checkE
  split
  · exact .inr (.inl rfl)
  · split
    · exact .inl rfl
    · exact .inr (.inr rfl)
theorem chk1_kinds (es : List En) : chk1 es = 0 ∨ chk1 es = 2 ∨ chk1 es = 3 := by
  unfold chk1
  split
  · exact checkE_kinds es
  · split
    · exact .inl rfl
    · exact .inr (.inr rfl)
theorem comb_kinds {a b : Int} (ha : a = 0 ∨ a = 2 ∨ a = 3) (hb : b = 0 ∨ b = 2 ∨ b = 3) : comb a b = 0 ∨ comb a b = 2 ∨ comb a b = 3 := by
  unfold comb
  split
  · exact hb
  · exact ha
theorem comb_two {a : Int} (ha : a = 0 ∨ a = 2 ∨ a = 3) : comb a 2 = 2 := by
  rcases ha with rfl | rfl | rfl <;> rfl
theorem two_comb {b : Int} (hb : b = 0 ∨ b = 2 ∨ b = 3) : comb 2 b = 2 := by
  rcases hb with rfl | rfl | rfl <;> rfl
theorem foldl_two : ∀ ls : List (List En), ls.foldl (fun a x => comb a (chk1 x)) 2 = 2
  | [] => rfl
  | x :: t => by rw [List.foldl_cons, two_comb (chk1_kinds x)]; exact foldl_two t
theorem chkL_snoc {ls : List (List En)} {k : Nat} {x : List En} (h : ls[k]? = some x) : chkL (ls.take (k + 1)) = comb (chkL (ls.take k)) (chk1 x) := by
  unfold chkL
  rw [List.take_add_one, h, List.foldl_append]
  rfl
theorem foldl_kinds : ∀ (ls : List (List En)) {a : Int}, (a = 0 ∨ a = 2 ∨ a = 3) → (ls.foldl (fun a x => comb a (chk1 x)) a = 0 ∨ ls.foldl (fun a x => comb a (chk1 x)) a = 2 ∨ ls.foldl (fun a x => comb a (chk1 x)) a = 3)
  | [], _, h => h
  | x :: t, _, h => by rw [List.foldl_cons]; exact foldl_kinds t (comb_kinds h (chk1_kinds x))
theorem chkL_kinds (ls : List (List En)) : chkL ls = 0 ∨ chkL ls = 2 ∨ chkL ls = 3 := foldl_kinds ls (.inl rfl)
theorem chkL_two {ls : List (List En)} {k : Nat} {x : List En} (h : ls[k]? = some x) (hx : chk1 x = 2) : chkL ls = 2 := by
  have e : ls = ls.take (k + 1) ++ ls.drop (k + 1) := (List.take_append_drop _ _).symm
  have h2 : chkL (ls.take (k + 1)) = 2 := by rw [chkL_snoc h, hx]; exact comb_two (chkL_kinds _)
  have h3 : chkL ls = (ls.drop (k + 1)).foldl (fun a x => comb a (chk1 x)) (chkL (ls.take (k + 1))) := by
    unfold chkL
    rw [← List.foldl_append, List.take_append_drop]
  rw [h3, h2]
  exact foldl_two _
theorem chkL_one (es : List En) : chkL [es] = chk1 es := by
  show comb 0 (chk1 es) = chk1 es
  rcases chk1_kinds es with h | h | h <;> rw [h] <;> rfl
theorem RLs.below {w w' : World} {A : Option Addr} {n : Nat} {ls : List (List En)} (h : RLs w A n ls) (hb : Below w.heap.size w w') : RLs w' A n ls := by
  refine ⟨h.1, fun h0 => ?_⟩
  obtain ⟨b, off, e, hbl, hc⟩ := h.2 h0
  refine ⟨b, off, e, Nat.lt_of_lt_of_le hbl hb.size, fun i es hi => ?_⟩
  obtain ⟨B, m, c, h1, h2, h3⟩ := hc i es hi
  exact ⟨B, m, c, (hb.cell (p := ⟨b, off + i, none⟩) hbl).trans h1, h2.below hb, h3⟩
theorem RLs.len {w : World} {A : Option Addr} {n : Nat} {ls : List (List En)} (h : RLs w A n ls) : ls.length = n := h.1
section
variable {w : World} {A : Option Addr} {n c : Nat} {ls : List (List En)}
set_option maxRecDepth 100000 in
set_option maxHeartbeats 8000000 in
theorem mgCheck_any (h : RLs w A n ls) (hn : n ≤ 1099511627776) (hs : ∀ es ∈ ls, es.length ≤ 1099511627776) : Calls Try.prog 130 #[.slice A n c] w (RetNu w (chkL ls)) := by
  have HL := Lib.hid h.len
  have HS := Lib.hid hs
  have HR := Lib.hid h
  clear h hs
  go_enter Try.func130, Try.ntmps130
  go_wp2_with fail
  go_loopw [3, 9] (fun s3 s9 wr => ∃ (k : Nat) (z : Int), k ≤ n ∧ s9 = .int .i64 (k : Int) ∧ s3 = .int .i64 z ∧ (z = 0 ∨ z = 3) ∧ chkL (ls.take k) = z ∧ Below w.heap.size w wr) (fun _ s _ => n - (intOf s).toNat)
  case atStart => exact ⟨0, 0, Nat.zero_le _, rfl, rfl, .inl rfl, rfl, Below.refl _ _⟩
  case round =>
    obtain ⟨k, z, hk, rfl, rfl, hz, hc, hB⟩ := hrel
    have HB := Lib.hid hB
    have HC := Lib.hid hc
    have HZ := Lib.hid hz
    have hR := HR.out.below hB
    clear hB hc hz
    by_cases hlt : k < n
    · obtain ⟨b, off, hAb, hbl⟩ := hR.pos (by omega)
      subst hAb
      obtain ⟨es, B, m, d, hx, c0, hre, hmd⟩ := hR.at_ k hlt
      have hme : m ≤ 1099511627776 := by have := HS.out es (List.mem_of_getElem? hx); rw [← hre.len]; exact this
      have HXK := Lib.hid hx
      obtain ⟨e1, he1⟩ : ∃ e1, e1 = checkE es := ⟨_, rfl⟩
      have HM : Hid (Calls Try.prog 53 #[.slice B m d] wr (RetNu wr e1)) := Lib.hid (by rw [he1]; exact memCheck_any hre hme)
      obtain ⟨z1, hz1⟩ : ∃ z1, z1 = ordE es := ⟨_, rfl⟩
      have HO : Hid (∀ wx, Below wr.heap.size wr wx → Calls Try.prog 165 #[.slice B m d] wx (RetT wx z1)) := Lib.hid (fun wx hb => by rw [hz1]; exact mgInOrder_any (hre.below hb) hme)
      have hk1 := checkE_kinds es
      rw [← he1] at hk1
      have HST := Lib.hid (chkL_snoc hx)
      have H1 : Hid (chk1 es = if e1 ≠ 0 then e1 else if z1 then 0 else 3) := Lib.hid (by unfold chk1; rw [he1, hz1])
      have HTW := Lib.hid (fun hh => chkL_two hx hh)
      clear hR hx hre he1 hz1
      go_wp2_with fail
      with_reducible refine HM.out.mono ?_
      rintro e w1 ⟨rfl, b1⟩
      have B1 := Lib.hid (HB.out.trans (b1.mono HB.out.size))
      have H1B := Lib.hid b1
      clear b1
      rcases hk1 with rfl | rfl | rfl
      · have HOC := Lib.hid (HO.out _ H1B.out)
        cases z1 with
        | true =>
          have HC2 : Hid (chkL (ls.take (k + 1)) = z) := Lib.hid (by rw [HST.out, HC.out, H1.out]; rcases HZ.out with rfl | rfl <;> rfl)
          go_wp2_with fail
          with_reducible refine HOC.out.mono ?_
          intro e w2 hq
          obtain ⟨h2, b2⟩ := RetT.outD hq
          subst h2
          have B2 := Lib.hid (belowT' B1.out b2)
          clear hq b2
          go_wp2_with fail
          go_roundw
          case rel => exact ⟨k + 1, z, by omega, by go_num, rfl, HZ.out, HC2.out, B2.out⟩
          case measure => simp [intOf]; omega
        | false =>
          have HC2 : Hid (chkL (ls.take (k + 1)) = 3) := Lib.hid (by rw [HST.out, HC.out, H1.out]; rcases HZ.out with rfl | rfl <;> rfl)
          go_wp2_with fail
          with_reducible refine HOC.out.mono ?_
          intro e w2 hq
          obtain ⟨h2, b2⟩ := RetT.outD hq
          subst h2
          have B2 := Lib.hid (belowT' B1.out b2)
          clear hq b2
          go_wp2_with fail
          go_roundw
          case rel => exact ⟨k + 1, 3, by omega, by go_num, rfl, .inr rfl, HC2.out, B2.out⟩
          case measure => simp [intOf]; omega
      · have HF : Hid (chkL ls = 2) := Lib.hid (HTW.out (by rw [H1.out]; rfl))
        go_wp2_with fail
        go_ret
        exact ⟨by rw [HF.out]; rfl, B1.out⟩
      · have HC2 : Hid (chkL (ls.take (k + 1)) = 3) := Lib.hid (by rw [HST.out, HC.out, H1.out]; rcases HZ.out with rfl | rfl <;> rfl)
        go_wp2_with fail
        go_roundw
        case rel => exact ⟨k + 1, 3, by omega, by go_num, rfl, .inr rfl, HC2.out, B1.out⟩
        case measure => simp [intOf]; omega
    · have htk : ls.take k = ls := List.take_of_length_le (by have := HL.out; omega)
      rw [htk] at HC
      clear htk hR
      go_wp2_with fail
      go_ret
      exact ⟨by rw [HC.out]; rfl, HB.out⟩
set_option maxRecDepth 100000 in
set_option maxHeartbeats 8000000 in
theorem refCheck11_any (h : RLs w A n ls) (hn : n ≤ 1099511627776) (hs : ∀ es ∈ ls, es.length ≤ 1099511627776) (hz : ∀ es ∈ ls, ∀ x ∈ es, SzE x) : Calls Try.prog 28 #[.slice A n c] w (RetNu w (chkL ls)) := by
  have HL := Lib.hid h.len
  have HS := Lib.hid hs
  have HR := Lib.hid h
  have HZZ := Lib.hid hz
  clear h hs hz
  go_enter Try.func28, Try.ntmps28
  go_wp2_with fail
  go_loopw [3, 4] (fun s3 s4 wr => ∃ (k : Nat) (z : Int), k ≤ n ∧ s4 = .int .i64 (k : Int) ∧ s3 = .int .i64 z ∧ chkL (ls.take k) = z ∧ Below w.heap.size w wr) (fun _ s _ => n - (intOf s).toNat)
  case atStart => exact ⟨0, 0, Nat.zero_le _, rfl, rfl, rfl, Below.refl _ _⟩
  case round =>
    obtain ⟨k, z, hk, rfl, rfl, hc, hB⟩ := hrel
    have HB := Lib.hid hB
    have hz := chkL_kinds (ls.take k)
    rw [hc] at hz
    have HC := Lib.hid hc
    have hR := HR.out.below hB
    clear hB hc
    by_cases hlt : k < n
    · obtain ⟨b, off, hAb, hbl⟩ := hR.pos (by omega)
      subst hAb
      obtain ⟨es, B, m, d, hx, c0, hre, hmd⟩ := hR.at_ k hlt
      have hme : m ≤ 1099511627776 := by have := HS.out es (List.mem_of_getElem? hx); rw [← hre.len]; exact this
      have HXK := Lib.hid hx
      obtain ⟨e1, he1⟩ : ∃ e1, e1 = checkE es := ⟨_, rfl⟩
      have HM : Hid (Calls Try.prog 59 #[.slice B m d] wr (RetNu wr e1)) := Lib.hid (by rw [he1]; exact refCheck_any hre hme (HZZ.out es (List.mem_of_getElem? hx)))
      obtain ⟨z1, hz1⟩ : ∃ z1, z1 = ordE es := ⟨_, rfl⟩
      have HO : Hid (∀ wx, Below wr.heap.size wr wx → Calls Try.prog 60 #[.slice B m d] wx (RetT wx z1)) := Lib.hid (fun wx hb => by rw [hz1]; exact ordered_any (hre.below hb) hme (HZZ.out es (List.mem_of_getElem? hx)))
      have HC0 : Hid (∀ wx, Below wr.heap.size wr wx → wx.cell? ⟨b, off + k, none⟩ = some (.slice B m d)) := Lib.hid (fun wx hb => (hb.cell (p := ⟨b, off + k, none⟩) hbl).trans c0)
      have hk1 := checkE_kinds es
      rw [← he1] at hk1
      have HST := Lib.hid (chkL_snoc hx)
      have H1 : Hid (chk1 es = if e1 ≠ 0 then e1 else if z1 then 0 else 3) := Lib.hid (by unfold chk1; rw [he1, hz1])
      clear hR hx hre he1 hz1
      go_wp2_with fail
      with_reducible refine HM.out.mono ?_
      rintro e w1 ⟨rfl, b1⟩
      have B1 := Lib.hid (HB.out.trans (b1.mono HB.out.size))
      have H1B := Lib.hid b1
      have d0 := HC0.out _ b1
      clear b1 c0
      rcases hk1 with rfl | rfl | rfl
      · have HOC := Lib.hid (HO.out _ H1B.out)
        cases z1 with
        | true =>
          have HC2 : Hid (chkL (ls.take (k + 1)) = z) := Lib.hid (by rw [HST.out, HC.out, H1.out]; rcases hz with rfl | rfl | rfl <;> rfl)
          go_wp2_with fail
          with_reducible refine HOC.out.mono ?_
          intro e w2 hq
          obtain ⟨h2, b2⟩ := RetT.outD hq
          subst h2
          have B2 := Lib.hid (belowT' B1.out b2)
          clear hq b2 d0
          go_wp2_with fail
          go_roundw
          case rel => exact ⟨k + 1, z, by omega, by go_num, rfl, HC2.out, B2.out⟩
          case measure => simp [intOf]; omega
        | false =>
          go_wp2_with fail
          with_reducible refine HOC.out.mono ?_
          intro e w2 hq
          obtain ⟨h2, b2⟩ := RetT.outD hq
          subst h2
          have B2 := Lib.hid (belowT' B1.out b2)
          clear hq b2 d0
          have HC2 := HST.out
          rw [HC.out, H1.out] at HC2
          have HC3 := Lib.hid HC2
          clear HC2
          rcases hz with rfl | rfl | rfl
          all_goals
            go_wp2_with fail
            go_roundw
            case rel => exact ⟨k + 1, _, by omega, by go_num, rfl, HC3.out, B2.out⟩
            case measure => simp [intOf]; omega
      all_goals
        have HC2 := HST.out
        rw [HC.out, H1.out] at HC2
        have HC3 := Lib.hid HC2
        clear HC2 d0
        rcases hz with rfl | rfl | rfl
        all_goals
          go_wp2_with fail
          go_roundw
          case rel => exact ⟨k + 1, _, by omega, by go_num, rfl, HC3.out, B1.out⟩
          case measure => simp [intOf]; omega
    · have htk : ls.take k = ls := List.take_of_length_le (by have := HL.out; omega)
      rw [htk] at HC
      clear htk hR
      go_wp2_with fail
      go_ret
      exact ⟨by rw [HC.out]; rfl, HB.out⟩
end
end Go.Proofs.Ytcclhkoggijkaaa
namespace Go.Proofs.Ytcclhkoggijkaaa
open Go Go.RowKit

def bsB (xs : List UInt8) : ByteArray := ⟨⟨xs⟩⟩
theorem conv_rd {w : World} {n c : Nat} {A : Option Addr} {xs : List UInt8} (h : Rd w A n xs) (hn : 0 < n) : (convert 25 9 (.slice A n c)).run Try.prog w = .ok (.string (bsB xs)) w := by
  obtain ⟨b, off, rfl, _⟩ := h.pos hn
  rw [run_convert_bytes_arg w 25 5 Try.underlying25 Try.underlying5 b off n c (xs.map fun x => (x.toNat : Int)) (by simpa using h.len) ?_ 9 Try.underlying9]
  · congr 2
    unfold strOfNums bsB
    congr 2
    rw [List.map_map]
    conv => rhs; rw [← List.map_id xs]
    apply List.map_congr_left
    intro x _
    simp
  · intro i hi
    obtain ⟨x, hx, hc, _⟩ := h.at_ i hi
    rw [hc]
    simp [List.getD, List.getElem?_map, hx]
set_option maxRecDepth 100000 in
theorem bytesEqual_any (A B : Option Addr) (n m c d : Nat) (xs ys : List UInt8) (w : World) (hx : Rd w A n xs) (hy : Rd w B m ys) (hn : 0 < n) (hm : 0 < m) :
    Calls Try.prog 71 #[.slice A n c, .slice B m d] w (fun e w' => e = .returned (.bool (eqB xs ys)) ∧ w' = w) := by
  have k1 := conv_rd (c := c) hx hn
  have k2 := conv_rd (c := d) hy hm
  have hb : ((bsB xs).toList == (bsB ys).toList) = eqB xs ys := by rw [ByteArray.toList_eq, ByteArray.toList_eq]; rfl
  have HB := Lib.hid hb
  clear hb
  go_enter Try.func71, Try.ntmps71
  go_wp2_with fail
  go_ret
  exact ⟨by rw [← HB.out]; rfl, rfl⟩
theorem build8_zero {w : World} {A : Option Addr} {n c : Nat} : Calls Try.prog 113 #[.int .i64 0, .slice A n c] w (RetBb w ([], 1)) := by
  go_enter Try.func113, Try.ntmps113
  go_wp2_with fail
  exact bodyPost_ret (v := .tuple #[.slice none 0 0, .int .i64 1]) (by simp [results, Try.f113, go_sem]; try rfl) rfl (RetBb.no rfl (Below.refl _ _))
/-- What Build answers. -/
def buildZ (ev : Nat) (es : List En) : List UInt8 × Int := if ev = 0 then ([], 1) else buildE ev es
theorem buildZ_any {w : World} {A : Option Addr} {n c : Nat} {es : List En} (h : REs w A n es) (hn : n ≤ 16777216) (ev : Nat) (he2 : ev ≤ 9223372036854775807) :
    Calls Try.prog 113 #[.int .i64 (ev : Int), .slice A n c] w (RetBb w (buildZ ev es)) := by
  unfold buildZ
  split
  · rename_i e
    subst e
    exact build8_zero
  · exact build8_any h hn ev (by omega) he2
theorem sealB_pos (xs : List UInt8) : 8 ≤ (sealB xs).length := by rw [sealB_len]; omega
theorem buildZ_ok {ev : Nat} {es : List En} (h : (buildZ ev es).2 = 0) : 8 ≤ (buildZ ev es).1.length := by
  unfold buildZ at h ⊢
  split at h
  · cases h
  · rename_i e
    rw [if_neg e]
    rcases buildE_cases ev es with ⟨F, hF, _⟩ | ⟨k, hk, hk2⟩
    · rw [hF]; exact sealB_pos F
    · rw [hk] at h
      simp only at h
      omega
/-- What Decode makes of a record that doesn't open. -/
theorem decode_shutM (A : Option Addr) (n c : Nat) (xs : List UInt8) (w : World) (h : Rd w A n xs) (hn : n ≤ 1099511627776) (hc : n ≤ c) (hnil : A = none → c = 0) (k : Int) (hk : openG xs ((0 : Nat) : Int) = ([], 0, k)) (hk0 : k ≠ 0) :
    Calls Try.prog 125 #[.slice A n c] w (fun e w' => e = .returned (.tuple #[.slice none 0 0, .int .i64 k]) ∧ Below w.heap.size w w') := by
  have hO := Open_any A n c ((0 : Nat) : Int) xs w h hn hc hnil (by unfold I64; omega)
  rw [hk] at hO
  have HO := Lib.hid hO
  have t1 : (k == 0) = false := by simp [hk0]
  clear hO hk h
  go_enter Try.func125, Try.ntmps125
  go_wp2_with fail
  refine HO.out.mono ?_
  rintro e w8 ⟨O, on, oc, rfl, oo, hb8⟩
  clear HO oo
  go_wp2_with fail
  exact bodyPost_ret (v := .tuple #[.slice none 0 0, .int .i64 k]) (by simp [results, Try.f125, go_sem]; try rfl) rfl ⟨rfl, hb8⟩
theorem openG_in (xs : List UInt8) (z : Int) : (openG xs z).1.length ≤ 1048576 ∧ ((openG xs z).2.2 ≠ 0 → (openG xs z).1 = [] ∧ (openG xs z).2.1 = 0) ∧ ((openG xs z).2.2 = 0 → 8 ≤ xs.length) := by
  unfold openG
  split
  · simp
  · split
    · simp
    · split
      · simp
      · split
        · simp
        · split
          · refine ⟨?_, fun h => absurd rfl h, fun _ => by omega⟩
            simp only [List.length_drop, List.length_take]
            omega
          · simp
/-- What Decode makes of what was read. -/
def decP (xs : List UInt8) : Option (List En × Nat) → List En × Int
  | none => ([], 3)
  | some (es, ev) => if (buildZ ev es).2 = 0 ∧ (buildZ ev es).1 = xs then (es, 0) else ([], 3)
/-- What Decode answers. -/
def decB (xs : List UInt8) : List En × Int :=
  match openG xs ((0 : Nat) : Int) with
  | (inside, _, k) => if k ≠ 0 then ([], k) else decP xs (parB inside)
def RetDc8 (w : World) (r : List En × Int) (e : Ending) (w' : World) : Prop :=
  (r.1 = [] ∧ r.2 ≠ 0 ∧ e = .returned (.tuple #[.slice none 0 0, .int .i64 r.2]) ∧ Below w.heap.size w w') ∨
  (r.2 = 0 ∧ r.1.length ≤ 16777216 ∧ ∃ L d, e = .returned (.tuple #[.slice L r.1.length d, .int .i64 0]) ∧ RowE w w.heap.size L r.1.length d r.1 w')
set_option maxRecDepth 100000 in
set_option maxHeartbeats 8000000 in
theorem decode_any (A : Option Addr) (n c : Nat) (xs : List UInt8) (w : World) (h : Rd w A n xs) (hn : n ≤ 1099511627776) (hc : n ≤ c) (hnil : A = none → c = 0) :
    Calls Try.prog 125 #[.slice A n c] w (RetDc8 w (decB xs)) := by
  rcases hog : openG xs ((0 : Nat) : Int) with ⟨ins, nx, k⟩
  have hin := openG_in xs ((0 : Nat) : Int)
  rw [hog] at hin
  obtain ⟨hil, hno, hx8⟩ := hin
  have hil : ins.length ≤ 1048576 := hil
  by_cases hk : k = 0
  · have hO := Open_any A n c ((0 : Nat) : Int) xs w h hn hc hnil (by unfold I64; omega)
    rw [hog] at hO
    subst hk
    have hx8 : 8 ≤ n := by have := hx8 rfl; have := h.len; omega
    have HO := Lib.hid hO
    have HX := Lib.hid h
    obtain ⟨pr, hpr⟩ : ∃ pr, pr = parB ins := ⟨_, rfl⟩
    have hdec : decB xs = decP xs pr := by
      unfold decB
      rw [hog]
      simp only
      rw [if_neg (by simp), ← hpr]
    have HD := Lib.hid hdec
    have HPR := Lib.hid hpr
    clear hO h hno hog hdec hpr
    go_enter Try.func125, Try.ntmps125
    go_wp2_with fail
    refine HO.out.mono ?_
    rintro e w1 ⟨I, im, ic, rfl, oI, b1⟩
    have hI0 : ins.length = im := oI.len
    have hIn : I = none → ic = 0 := fun hh => by have := oI.nil_of (by rw [hh]; rfl); exact this.2.2
    have HPA := Lib.hid (parse_any I im ic ins w1 oI.rd (by omega) oI.cap.1 hIn)
    rw [← HPR.out] at HPA
    have HB1 := Lib.hid b1
    clear oI b1 hIn HO
    go_wp2_with fail
    refine HPA.out.mono ?_
    rintro e w2 (⟨hpn, rfl, b2⟩ | ⟨es, ev, L, d, hps, rfl, hrow, hel, hev⟩)
    · have hd : decB xs = ([], 3) := by rw [HD.out, hpn]; rfl
      have HF := Lib.hid (And.intro hd (HB1.out.trans (b2.mono HB1.out.size)))
      clear hd b2
      go_wp2_with fail
      exact bodyPost_ret (v := .tuple #[.slice none 0 0, .int .i64 3]) (by simp [results, Try.f125, go_sem]; try rfl) rfl (.inl ⟨by rw [HF.out.1], by rw [HF.out.1]; simp, by rw [HF.out.1], HF.out.2⟩)
    · have hd : decB xs = if (buildZ ev es).2 = 0 ∧ (buildZ ev es).1 = xs then (es, 0) else ([], 3) := by rw [HD.out, hps]; rfl
      have hb2 : Below w.heap.size w w2 := HB1.out.trans (hrow.bel.mono HB1.out.size)
      have hBZ := buildZ_any (c := d) hrow.rd hel ev (by omega)
      obtain ⟨z, hz⟩ : ∃ z, z = buildZ ev es := ⟨_, rfl⟩
      have hzo : z.2 = 0 → 8 ≤ z.1.length := by rw [hz]; exact buildZ_ok
      rw [← hz] at hBZ hd
      have HBZ := Lib.hid hBZ
      have HROW := Lib.hid hrow
      have HB2 := Lib.hid hb2
      have HDD := Lib.hid hd
      obtain ⟨el, hel2⟩ : ∃ el, el = es.length := ⟨_, rfl⟩
      rw [← hel2] at HBZ hel ⊢
      have HEL := Lib.hid hel2
      clear hBZ hrow hb2 hd hz hel2
      go_wp2_with fail
      refine HBZ.out.mono ?_
      rintro e w3 ⟨G, gc, rfl, oG, b3⟩
      have hb3 : Below w.heap.size w w3 := HB2.out.trans (b3.mono HB2.out.size)
      have hno : ∀ w', Below w.heap.size w w' → decB xs = ([], 3) → RetDc8 w (decB xs) (.returned (.tuple #[.slice none 0 0, .int .i64 3])) w' := fun w' hb hd => .inl ⟨by rw [hd], by rw [hd]; simp, by rw [hd], hb⟩
      obtain ⟨zb, zk⟩ := z
      simp only at oG hzo ⊢
      by_cases hzk : zk = 0
      · subst hzk
        have hzl : 8 ≤ zb.length := hzo rfl
        have HEQ := Lib.hid (bytesEqual_any G A zb.length n gc c zb xs w3 oG.rd (HX.out.below hb3) (by omega) (by omega))
        have HB3 := Lib.hid hb3
        have HR3 := Lib.hid (HROW.out.below b3)
        have HNO := Lib.hid hno
        clear oG b3 hb3 hno
        obtain ⟨q, hq⟩ : ∃ q, q = eqB zb xs := ⟨_, rfl⟩
        rw [← hq] at HEQ
        have HQ := Lib.hid hq
        clear hq
        cases q with
        | true =>
          go_wp2_with fail
          with_reducible refine HEQ.out.mono ?_
          rintro e w4 ⟨rfl, rfl⟩
          have he : zb = xs := by
            have := HQ.out
            unfold eqB at this
            exact (beq_iff_eq.1 this.symm)
          have hd : decB xs = (es, 0) := by rw [HDD.out, if_pos ⟨by first | trivial | rfl, he⟩]
          have HF : Hid (RetDc8 w (decB xs) (.returned (.tuple #[.slice L el d, .int .i64 0])) w4) := Lib.hid (by
            rw [hd]
            refine .inr ⟨rfl, by rw [← HEL.out]; exact hel, L, d, by rw [← HEL.out], ?_⟩
            have hr := HR3.out
            have h1 : Below w.heap.size w w4 := HB3.out
            obtain ⟨vs, r1, r2, r3, r4, r5, r6, r7⟩ := hr
            have hs := HB1.out.size
            exact ⟨vs, OwnE.mono (show OwnE w4 w1.heap.size L es.length d vs from r1) hs, EOs.mono hs r2, r3, r4, h1, h1.size, r7.mono hs⟩)
          clear he hd
          go_wp2_with fail
          exact bodyPost_ret (v := .tuple #[.slice L el d, .int .i64 0]) (by simp [results, Try.f125, go_sem]; try rfl) rfl HF.out
        | false =>
          go_wp2_with fail
          with_reducible refine HEQ.out.mono ?_
          rintro e w4 ⟨rfl, rfl⟩
          have he : ¬ zb = xs := by
            have := HQ.out
            unfold eqB at this
            intro e2
            rw [e2] at this
            simp at this
          have hd : decB xs = ([], 3) := by rw [HDD.out, if_neg (fun h => he h.2)]
          have HF := Lib.hid (HNO.out _ HB3.out hd)
          clear he hd
          go_wp2_with fail
          exact bodyPost_ret (v := .tuple #[.slice none 0 0, .int .i64 3]) (by simp [results, Try.f125, go_sem]; try rfl) rfl HF.out
      · have hd : decB xs = ([], 3) := by rw [HDD.out, if_neg (fun h => hzk h.1)]
        have t1 : (zk == 0) = false := by simpa using hzk
        have HF := Lib.hid (hno _ hb3 hd)
        clear hd hno oG b3 hb3
        go_wp2_with fail
        exact bodyPost_ret (v := .tuple #[.slice none 0 0, .int .i64 3]) (by simp [results, Try.f125, go_sem]; try rfl) rfl HF.out
  · have hd : decB xs = ([], k) := by
      unfold decB
      rw [hog]
      simp only
      rw [if_pos hk]
    obtain ⟨hi0, hn0⟩ := hno hk
    have hi0 : ins = [] := hi0
    have hn0 : nx = 0 := hn0
    subst hi0 hn0
    rw [hd]
    refine (decode_shutM A n c xs w h hn hc hnil k hog hk).mono ?_
    rintro e w' ⟨rfl, hb⟩
    exact .inl ⟨rfl, hk, rfl, hb⟩
end Go.Proofs.Ytcclhkoggijkaaa
namespace Go.Proofs.Ytcclhkoggijkaaa
open Go Go.RowKit Go.Maps

/-- 'It hands back bytes in new memory, and a number.' -/
def RetRd (w : World) (xs : List UInt8) (k : Int) (e : Ending) (w' : World) : Prop :=
  ∃ A n c, e = .returned (.tuple #[.slice A n c, .int .i64 k]) ∧ Own 5 w' w.heap.size A n c xs ∧ Below w.heap.size w w'

section
variable {w : World} {p : Nat} {m : Option Nat} {rs : List FR} {room used left : Int} {dead armed : Bool}
theorem read_dead (x : List UInt8) (h : DskR w p m rs room used left true armed) :
    Calls Try.prog 68 #[.pointer (some ⟨p, 0, none⟩), .string (tx x)] w (RetRd w [] 9) := by
  go_enter Try.func68, Try.ntmps68
  go_wp2_with fail
  refine (find_dead x h).mono ?_
  rintro e w' ⟨rfl, rfl⟩
  go_wp2
  go_ret2
  exact ⟨none, 0, 0, rfl, Own.nil _ _ _, Below.refl _ _⟩
theorem read_none (x : List UInt8) (h : DskR w p m rs room used left false armed) (hx : ∀ r ∈ rs, r.name ≠ x) (hl : x.length ≤ maxLen) :
    Calls Try.prog 68 #[.pointer (some ⟨p, 0, none⟩), .string (tx x)] w (RetRd w [] 6) := by
  go_enter Try.func68, Try.ntmps68
  go_wp2_with fail
  refine (find_none x h hx hl).mono ?_
  rintro e w' ⟨rfl, rfl⟩
  go_wp2
  go_ret2
  exact ⟨none, 0, 0, rfl, Own.nil _ _ _, Below.refl _ _⟩
set_option maxRecDepth 100000 in
set_option maxHeartbeats 1000000 in
theorem read_some {r : FR} (h : DskR w p m rs room used left false armed) (hr : r ∈ rs) (hl : r.name.length ≤ maxLen) (hd : r.dat.length ≤ 1099511627776) :
    Calls Try.prog 68 #[.pointer (some ⟨p, 0, none⟩), .string (tx r.name)] w (RetRd w r.dat 0) := by
  have hfa := h.2.2.1 r hr
  obtain ⟨d0, d1⟩ := hfa.cells
  have hnil : r.A = none → r.c = 0 := fun e => (hfa.2.1.nil_of (by rw [e]; rfl)).2.2
  go_enter Try.func68, Try.ntmps68
  go_wp2_with fail
  refine (find_some h hr hl).mono ?_
  rintro e w' ⟨rfl, rfl⟩
  go_wp2_with fail
  refine (Clone_any r.A r.dat.length r.c r.dat _ hfa.2.1.rd (by omega) hnil).mono ?_
  rintro e w2 ⟨A, n, c, rfl, ho, hb⟩
  go_wp2
  go_ret2
  exact ⟨A, n, c, rfl, ho, hb⟩

theorem sync_dead (x : List UInt8) (h : DskR w p m rs room used left true armed) :
    Calls Try.prog 151 #[.pointer (some ⟨p, 0, none⟩), .string (tx x)] w fun e w' => e = .returned (.int .i64 9) ∧ w = w' := by
  go_enter Try.func151, Try.ntmps151
  go_wp2_with fail
  refine (find_dead x h).mono ?_
  rintro e w' ⟨rfl, rfl⟩
  go_wp2_with fail
  refine (turn_err (p := p) (w := w) (e := 9) (by decide)).mono ?_
  rintro e w' ⟨rfl, rfl⟩
  go_wp2
  go_ret
  exact ⟨rfl, rfl⟩
theorem sync_none (x : List UInt8) (h : DskR w p m rs room used left false armed) (hx : ∀ r ∈ rs, r.name ≠ x) (hl : x.length ≤ maxLen) :
    Calls Try.prog 151 #[.pointer (some ⟨p, 0, none⟩), .string (tx x)] w fun e w' => e = .returned (.int .i64 6) ∧ w = w' := by
  go_enter Try.func151, Try.ntmps151
  go_wp2_with fail
  refine (find_none x h hx hl).mono ?_
  rintro e w' ⟨rfl, rfl⟩
  go_wp2_with fail
  refine (turn_err (p := p) (w := w) (e := 6) (by decide)).mono ?_
  rintro e w' ⟨rfl, rfl⟩
  go_wp2
  go_ret
  exact ⟨rfl, rfl⟩
theorem sync_kill {r : FR} (h : DskR w p m rs room used 0 false true) (hr : r ∈ rs) (hl : r.name.length ≤ maxLen) :
    Calls Try.prog 151 #[.pointer (some ⟨p, 0, none⟩), .string (tx r.name)] w (RetHd w p (headV m room used 0 true false) (.int .i64 9)) := by
  go_enter Try.func151, Try.ntmps151
  go_wp2_with fail
  refine (find_some h hr hl).mono ?_
  rintro e w' ⟨rfl, rfl⟩
  go_wp2_with fail
  refine (turn_kill h).mono ?_
  rintro e w1 ⟨rfl, hH⟩
  go_wp2
  go_ret
  exact ⟨rfl, hH⟩
/-- What the turned head says where the call is done. -/
theorem tE_done {armed : Bool} {left : Int} (h : tE armed left = 0) : tD dead armed left = dead ∧ tA armed left = armed := by
  unfold tE at h
  by_cases h1 : armed = true ∧ left = 0
  · rw [if_pos h1] at h; exact absurd h (by decide)
  · exact ⟨by rw [tD, if_neg h1], by rw [tA, if_neg h1]⟩
set_option maxRecDepth 100000 in
set_option maxHeartbeats 2000000 in
theorem sync_some {r : FR} (h : DskR w p m rs room used left false armed) (hu : rsUp rs) (hr : r ∈ rs) (hl : r.name.length ≤ maxLen) (hl2 : 0 ≤ left ∧ left ≤ 9223372036854775807) (ht : tE armed left = 0) :
    Calls Try.prog 151 #[.pointer (some ⟨p, 0, none⟩), .string (tx r.name)] w (RetFile w p m rs r r.dat r.dat.length room used (tL armed left) false armed (.int .i64 0)) := by
  obtain ⟨t1, t2⟩ := tE_done (dead := false) ht
  have hT := turn_zero h hl2
  rw [ht, t1, t2] at hT
  have HT := Lib.hid hT
  clear hT t1 t2 ht
  go_enter Try.func151, Try.ntmps151
  go_wp2_with fail
  refine (find_some h hr hl).mono ?_
  rintro e w' ⟨rfl, rfl⟩
  go_wp2_with fail
  refine HT.out.mono ?_
  clear HT
  rintro e w1 ⟨rfl, hH⟩
  have hD1 := h.turn hH.1 hH.2
  have hfa := hD1.2.2.1 r hr
  obtain ⟨d0, d1⟩ := hfa.cells
  have f1 := hfa.thaw 1
  obtain ⟨r', hr'⟩ : ∃ r' : FR, r' = { r with saf := r.dat.length } := ⟨_, rfl⟩
  obtain ⟨w2, hw2⟩ : ∃ w2, w2 = w1.setCell ⟨r.fb, 1, none⟩ (.int .i64 (r.dat.length : Int)) := ⟨_, rfl⟩
  have hsep := hD1.2.2.2.1 r hr
  have hf2 : Fr w1 w2 r.bl := by
    rw [hw2]
    exact (Fr.set w1 r.fb 1 _).mono (fun b hb => .inl (by rw [List.mem_singleton] at hb; rw [hb]; simp [FR.bl]))
  have hat : FileAt w2 r' := by
    refine ⟨?_, ?_, ?_⟩
    · rw [hw2, hr']
      exact heap_setCell_same _ _ _ _ _ _ hfa.1
    · rw [hr']
      exact hfa.2.1.fr (hw2 ▸ Fr.set w1 r.fb 1 (.int .i64 (r.dat.length : Int))) (fun b hb hm => by rw [List.mem_singleton] at hm; rw [hm] at hb; exact hsep.2.2 hb)
    · rw [hr']; exact Nat.le_refl _
  have hbl : ∀ b ∈ r'.bl, b ∈ r.bl ∨ w1.heap.size ≤ b := fun b hb => .inl (by rw [hr'] at hb; exact hb)
  have hfin : RetFile w p m rs r r.dat r.dat.length room used (tL armed left) false armed (.int .i64 0) (.returned (.int .i64 0)) w2 := by
    refine ⟨rfl, r', by rw [hr'], by rw [hr'], by rw [hr'], hD1.file hu hr (by rw [hr']) (by rw [hr']) hf2 hat hbl (by rw [hr']; exact hsep.2.2), ?_, fun b hb => ?_⟩
    · have f1 : Fr w w1 (allB p m rs) := hH.1.mono (fun b hb => .inl (by rw [List.mem_singleton] at hb; rw [hb]; exact mem_head))
      exact f1.trans hf2 (fun b hb => .inl (mem_file hr hb))
    · rcases mem_putR (p := p) (m := m) (w := w1) hu hr hbl b hb with h1 | h1
      · exact .inl h1
      · exact .inr (Nat.le_trans hH.1.size h1)
  have HFIN := Lib.hid hfin
  have HW2 := Lib.hid hw2
  clear hfin hw2 hat hbl hf2 hr' hD1 hfa hH
  go_wp2
  go_ret
  rw [← HW2.out]
  exact HFIN.out
end
end Go.Proofs.Ytcclhkoggijkaaa
namespace Go.Proofs.Ytcclhkoggijkaaa
open Go Go.RowKit

def bsM (xs : List UInt8) : ByteArray := ⟨⟨xs⟩⟩
theorem conv_any {w : World} {n c : Nat} {A : Option Addr} {xs : List UInt8} (h : Rd w A n xs) : (convert 25 9 (.slice A n c)).run Try.prog w = .ok (.string (bsM xs)) w := by
  rcases Nat.eq_zero_or_pos n with hn | hn
  · subst hn
    have hx : xs = [] := List.eq_nil_of_length_eq_zero h.1
    subst hx
    cases A with
    | none =>
      rw [run_convert_bytes_nil w 25 5 Try.underlying25 Try.underlying5 0 c 9 Try.underlying9]
      rfl
    | some a =>
      rw [run_convert_bytes_string w 25 9 5 (some a) 0 c Try.underlying25 Try.underlying5 Try.underlying9,
        run_bytesToString w a 0 c [] (run_loadCells_list (P := Try.prog) w a [] (fun j v hj => by simp at hj))]
      rfl
  · obtain ⟨b, off, rfl, _⟩ := h.pos hn
    rw [run_convert_bytes_arg w 25 5 Try.underlying25 Try.underlying5 b off n c (xs.map fun x => (x.toNat : Int)) (by simpa using h.len) ?_ 9 Try.underlying9]
    · congr 2
      unfold strOfNums bsM
      congr 2
      rw [List.map_map]
      conv => rhs; rw [← List.map_id xs]
      apply List.map_congr_left
      intro x _
      simp
    · intro i hi
      obtain ⟨x, hx, hc, _⟩ := h.at_ i hi
      rw [hc]
      simp [List.getD, List.getElem?_map, hx]
set_option maxRecDepth 100000 in
theorem mgEqual_any (A B : Option Addr) (n m c d : Nat) (xs ys : List UInt8) (w : World) (hx : Rd w A n xs) (hy : Rd w B m ys) :
    Calls Try.prog 71 #[.slice A n c, .slice B m d] w (fun e w' => e = .returned (.bool (eqB xs ys)) ∧ w' = w) := by
  have k1 := conv_any (c := c) hx
  have k2 := conv_any (c := d) hy
  have hb : ((bsM xs).toList == (bsM ys).toList) = eqB xs ys := by rw [ByteArray.toList_eq, ByteArray.toList_eq]; rfl
  have HB := Lib.hid hb
  clear hb hx hy
  go_enter Try.func71, Try.ntmps71
  go_wp2_with fail
  go_ret
  exact ⟨by rw [← HB.out]; rfl, rfl⟩
/-- The Seq of the next newer version of the i-th entry's key. -/
def newerE (es : List En) : Nat → Option Nat
  | 0 => none
  | j + 1 => match es[j]?, es[j + 1]? with
    | some a, some b => if eqB a.key b.key then some a.seq else none
    | _, _ => none
theorem newerE_at {es : List En} {j : Nat} {a b : En} (h1 : es[j]? = some a) (h2 : es[j + 1]? = some b) : newerE es (j + 1) = if eqB a.key b.key then some a.seq else none := by
  rw [newerE, h1, h2]
/-- What newer hands back. -/
def RetNwM (w : World) (o : Option Nat) (e : Ending) (w' : World) : Prop := e = .returned (.tuple #[.int .u64 ((o.getD 0 : Nat) : Int), .bool o.isSome]) ∧ ∃ q, w' = w.drewN q
section
variable {w : World} {A : Option Addr} {n c : Nat} {es : List En}
set_option maxRecDepth 100000 in
set_option maxHeartbeats 4000000 in
theorem mgNewer_any (h : REs w A n es) (hn : n ≤ 1099511627776) (i : Nat) (hi : i < n) : Calls Try.prog 133 #[.slice A n c, .int .i64 (i : Int)] w (RetNwM w (newerE es i)) := by
  cases i with
  | zero =>
    obtain ⟨b, off, rfl, hbl⟩ := h.pos (by omega)
    have HH := Lib.hid h
    clear h
    go_enter Try.func133, Try.ntmps133
    go_wp2_with fail
    go_quiet (fail)
    go_wp2_with fail
    exact bodyPost_ret (v := .tuple #[.int .u64 0, .bool false]) (by simp [results, Try.f133, go_sem]; try rfl) rfl ⟨rfl, _, rfl⟩
  | succ j =>
    obtain ⟨b, off, rfl, hbl⟩ := h.pos (by omega)
    obtain ⟨x, v0, v1, v2, v3, hx, c0, c1, c2, c3, hev⟩ := h.at_ j (by omega)
    obtain ⟨y, u0, u1, u2, u3, hy, d0, d1, d2, d3, hew⟩ := h.at_ (j + 1) hi
    obtain ⟨K, kn, kc, V, vn, vc, rfl, rfl, rfl, rfl, r0, _⟩ := hev.parts
    obtain ⟨L, ln, lc, M, mn, mc, rfl, rfl, rfl, rfl, q0, _⟩ := hew.parts
    obtain ⟨k, hk⟩ : ∃ k, k = j + 1 := ⟨_, rfl⟩
    have hnw := newerE_at hx hy
    rw [← hk] at hnw d0 d1 d2 d3 hi ⊢
    obtain ⟨z, hz⟩ : ∃ z, z = eqB x.key y.key := ⟨_, rfl⟩
    rw [← hz] at hnw
    have HE : Hid (∀ q, Calls Try.prog 71 #[.slice K kn kc, .slice L ln lc] (w.drewN q) (fun e w' => e = .returned (.bool z) ∧ w' = w.drewN q)) := Lib.hid (fun q => by rw [hz]; exact mgEqual_any _ _ _ _ _ _ _ _ _ (r0.drewN q) (q0.drewN q))
    have HN := Lib.hid hnw
    have t1 : ((k : Int) == 0) = false := by rw [beq_eq_false_iff_ne]; omega
    have hk1 : IntKind.i64.wrap ((k : Int) - 1) = (j : Int) := by rw [IntWalk.i64_in _ (by omega)]; omega
    have hjn : j < n := by omega
    clear h hx hy hev hew r0 q0 hz hnw hk
    cases z with
    | true =>
      go_enter Try.func133, Try.ntmps133
      go_wp2_with fail
      go_quiet ((go_at_call 71; with_reducible exact Calls.quiet_of_same (HE.out _)))
      go_wp2_with fail
      exact bodyPost_ret (v := .tuple #[.int .u64 (x.seq : Int), .bool true]) (by simp [results, Try.f133, go_sem]; try rfl) rfl ⟨by rw [HN.out]; rfl, _, rfl⟩
    | false =>
      go_enter Try.func133, Try.ntmps133
      go_wp2_with fail
      go_quiet ((go_at_call 71; with_reducible exact Calls.quiet_of_same (HE.out _)))
      go_wp2_with fail
      exact bodyPost_ret (v := .tuple #[.int .u64 0, .bool false]) (by simp [results, Try.f133, go_sem]; try rfl) rfl ⟨by rw [HN.out]; rfl, _, rfl⟩
end
end Go.Proofs.Ytcclhkoggijkaaa
namespace Go.Proofs.Ytcclhkoggijkaaa
open Go Go.RowKit

/-- The place that is sought. -/
def plE (key : List UInt8) (at_ : Nat) : En := ⟨key, at_, 0, []⟩
/-- Doesn't the i-th entry stand ahead of the place? -/
def nlE (es : List En) (pl : En) (i : Nat) : Bool := match es[i]? with
  | some x => !lessE x pl
  | none => true
theorem ordK_at {es : List En} : ∀ {k : Nat}, ordK es k = true → ∀ i a b, i < k → es[i]? = some a → es[i + 1]? = some b → lessE a b = true
  | 0, _, i, _, _, h, _, _ => absurd h (by omega)
  | k + 1, h, i, a, b, hi, ha, hb => by
    rw [ordK, Bool.and_eq_true] at h
    by_cases e : i = k
    · subst e
      have := h.2
      rw [ha, hb] at this
      exact this
    · exact ordK_at h.1 i a b (by omega) ha hb
theorem ord_sort {es : List En} (h : ordE es = true) : SortL es := by
  have key : ∀ (j i : Nat) a b, i < j → es[i]? = some a → es[j]? = some b → lessE a b = true := by
    intro j
    induction j with
    | zero => intro i a b h; omega
    | succ j ih =>
      intro i a b hij ha hb
      have hlt : j + 1 < es.length := (List.getElem?_eq_some_iff.1 hb).1
      obtain ⟨c, hc⟩ : ∃ c, es[j]? = some c := ⟨_, List.getElem?_eq_getElem (by omega)⟩
      have h1 := ordK_at h j c b (by omega) hc hb
      by_cases e : i = j
      · subst e
        rw [hc] at ha
        injection ha with ha
        rw [← ha]
        exact h1
      · exact lessE_trans (ih i a c (by omega) ha hc) h1
  unfold SortL
  rw [List.pairwise_iff_getElem]
  intro i j hi hj hij
  exact key j i _ _ hij (List.getElem?_eq_getElem hi) (List.getElem?_eq_getElem hj)
theorem buildE_ord {ev : Nat} {es : List En} (h : (buildE ev es).2 = 0) : ordE es = true ∧ es.all formE = true ∧ es.any longE = false ∧ (buildE ev es).1 = sealB (fullB ev es) ∧ (fullB ev es).length ≤ 1048576 := by
  unfold buildE at h ⊢
  split at h
  · cases h
  · rename_i h1
    split at h
    · cases h
    · rename_i h2
      split at h
      · rename_i h3
        rw [if_neg h1, if_neg h2, if_pos h3]
        rw [Bool.and_eq_true] at h3
        exact ⟨h3.2, h3.1, by simpa using h1, rfl, by omega⟩
      · cases h
theorem dec_sort {xs : List UInt8} {es : List En} (h : decB xs = (es, 0)) : SortL es := by
  unfold decB at h
  rcases hog : openG xs ((0 : Nat) : Int) with ⟨ins, nx, k⟩
  rw [hog] at h
  simp only at h
  split at h
  · rename_i hk
    injection h with h1 h2
    exact absurd h2 hk
  · cases hp : parB ins with
    | none =>
      rw [hp] at h
      unfold decP at h
      injection h with h1 h2
      cases h2
    | some r =>
      obtain ⟨gs, ev⟩ := r
      rw [hp, show decP xs (some (gs, ev)) = if (buildZ ev gs).2 = 0 ∧ (buildZ ev gs).1 = xs then (gs, 0) else ([], 3) from rfl] at h
      split at h
      · rename_i hb
        injection h with h1 h2
        subst h1
        have h3 := hb.1
        unfold buildZ at h3
        split at h3
        · cases h3
        · exact ord_sort (buildE_ord h3).1
      · injection h with h1 h2
        cases h2
theorem EOs.at_ {base : Nat} {w : World} : ∀ {es : List En} {vs : List Value} (i : Nat) {x : En}, EOs base w es vs → es[i]? = some x → ∃ v0 v1 v2 v3, vs[i * 4]? = some v0 ∧ vs[i * 4 + 1]? = some v1 ∧ vs[i * 4 + 2]? = some v2 ∧ vs[i * 4 + 3]? = some v3 ∧ EO base w x v0 v1 v2 v3 ∧ (Fam w base (pairE es vs) → Fam w base [(v0, x.key), (v3, x.val)])
  | [], _, i, x, _, h => by simp at h
  | g :: es, _, 0, x, ⟨v0, v1, v2, v3, r, q, h1, h2⟩, h => by
    simp only [List.getElem?_cons_zero, Option.some.injEq] at h
    subst h q
    refine ⟨v0, v1, v2, v3, rfl, rfl, rfl, rfl, h1, fun hf => ?_⟩
    have : pairE (g :: es) (v0 :: v1 :: v2 :: v3 :: r) = [(v0, g.key), (v3, g.val)] ++ pairE es r := rfl
    rw [this] at hf
    exact hf.left
  | g :: es, _, i + 1, x, ⟨v0, v1, v2, v3, r, q, h1, h2⟩, h => by
    rw [List.getElem?_cons_succ] at h
    obtain ⟨a, b, c, d, e0, e1, e2, e3, e4, e5⟩ := EOs.at_ i h2 h
    subst q
    refine ⟨a, b, c, d, ?_, ?_, ?_, ?_, e4, fun hf => ?_⟩
    · rw [show (i + 1) * 4 = i * 4 + 4 by omega]; exact e0
    · rw [show (i + 1) * 4 + 1 = i * 4 + 1 + 4 by omega]; exact e1
    · rw [show (i + 1) * 4 + 2 = i * 4 + 2 + 4 by omega]; exact e2
    · rw [show (i + 1) * 4 + 3 = i * 4 + 3 + 4 by omega]; exact e3
    · have : pairE (g :: es) (v0 :: v1 :: v2 :: v3 :: r) = [(v0, g.key), (v3, g.val)] ++ pairE es r := rfl
      rw [this] at hf
      exact e5 hf.right
/-- What Seek hands back. -/
def RetSk8 (w : World) (r : List En × Int) (pl : En) (e : Ending) (w' : World) : Prop :=
  Below w.heap.size w w' ∧
  ((r.2 ≠ 0 ∧ e = .returned (.tuple #[.agg #[.slice none 0 0, .int .u64 0, .int .u8 0, .slice none 0 0], .bool false, .int .i64 r.2])) ∨
   (r.2 = 0 ∧ (∀ i, i < r.1.length → nlE r.1 pl i = false) ∧ e = .returned (.tuple #[.agg #[.slice none 0 0, .int .u64 0, .int .u8 0, .slice none 0 0], .bool false, .int .i64 0])) ∨
   (r.2 = 0 ∧ ∃ (i : Nat) (x : En), r.1[i]? = some x ∧ nlE r.1 pl i = true ∧ (∀ t, t < i → nlE r.1 pl t = false) ∧
     ∃ K kn kc V vn vc, e = .returned (.tuple #[.agg #[.slice K kn kc, .int .u64 (x.seq : Int), .int .u8 (x.kind : Int), .slice V vn vc], .bool true, .int .i64 0]) ∧ EO w.heap.size w' x (.slice K kn kc) (.int .u64 (x.seq : Int)) (.int .u8 (x.kind : Int)) (.slice V vn vc) ∧ Fam w' w.heap.size [(.slice K kn kc, x.key), (.slice V vn vc, x.val)]))
theorem zero_ev (w : World) (key : List UInt8) (at_ : Nat) {K : Option Addr} {kn kc : Nat} (h : Rd w K kn key) (hc : kn ≤ kc) (hnil : K = none → kc = 0) (ha : U64 at_) : EV w (plE key at_) (.slice K kn kc) (.int .u64 (at_ : Int)) (.int .u8 0) (.slice none 0 0) :=
  ⟨rfl, rfl, ha, by unfold plE; simp, ⟨K, kn, kc, rfl, h, hc, hnil⟩, ⟨none, 0, 0, rfl, Rd.nil _ _, Nat.le_refl _, fun _ => rfl⟩⟩
end Go.Proofs.Ytcclhkoggijkaaa
namespace Go.Proofs.Ytcclhkoggijkaaa
open Go Go.RowKit Go.Maps

section
variable {w : World} {p : Nat} {m : Option Nat} {rs : List FR} {room used left : Int} {dead armed : Bool}
end

/-- The files but one. -/
def delR (x : List UInt8) (rs : List FR) : List FR := rs.filter fun q => q.name != x
def delF (x : List UInt8) (fs : List FE) : List FE := fs.filter fun q => q.1 != x
theorem delR_val (x : List UInt8) (rs : List FR) : (delR x rs).map FR.val = delF x (rs.map FR.val) := by
  unfold delR delF
  rw [List.filter_map]
  rfl
theorem mem_delR {x : List UInt8} {rs : List FR} {q : FR} : q ∈ delR x rs ↔ q ∈ rs ∧ q.name ≠ x := by
  unfold delR
  rw [List.mem_filter]
  simp
theorem delR_len {r : FR} : ∀ {rs : List FR}, rsUp rs → r ∈ rs → (delR r.name rs).length + 1 = rs.length
  | [], _, h => by cases h
  | a :: t, hu, h => by
    unfold rsUp at hu
    rw [List.pairwise_cons] at hu
    rcases List.mem_cons.1 h with rfl | h2
    · have e : delR r.name (r :: t) = t := by
        unfold delR
        rw [List.filter_cons_of_neg (by simp), List.filter_eq_self]
        intro q hq
        have := nlt_ne (hu.1 q hq)
        simpa using fun e => this e.symm
      rw [e, List.length_cons]
    · have hne := nlt_ne (hu.1 r h2)
      have e : delR r.name (a :: t) = a :: delR r.name t := by
        unfold delR
        rw [List.filter_cons_of_pos (by simpa using hne)]
      rw [e, List.length_cons, List.length_cons, delR_len hu.2 h2]
theorem delR_up {x : List UInt8} {rs : List FR} (h : rsUp rs) : rsUp (delR x rs) := List.Pairwise.filter _ h
theorem delR_any (x y : List UInt8) (rs : List FR) : (delR x rs).any (fun q => q.name == y) = (rs.any (fun q => q.name == y) && !(y == x)) := by
  rw [Bool.eq_iff_iff]
  simp only [List.any_eq_true, Bool.and_eq_true, beq_iff_eq, mem_delR, Bool.not_eq_true', beq_eq_false_iff_ne]
  constructor
  · rintro ⟨q, ⟨h1, h2⟩, rfl⟩
    exact ⟨⟨q, h1, rfl⟩, h2⟩
  · rintro ⟨⟨q, h1, rfl⟩, h2⟩
    exact ⟨q, ⟨h1, h2⟩, rfl⟩
theorem MR.del {Dm : DU} {rs : List FR} {r : FR} (h : MR Dm rs) (ht : Tidy Dm) (hu : rsUp rs) (hr : r ∈ rs) : MR (Dm.del (.string r.name)) (delR r.name rs) := by
  have hhas : has Dm (.string r.name) = true := by
    rw [h.2.1, List.any_eq_true]
    exact ⟨r, hr, by simp⟩
  refine ⟨?_, fun x => ?_, fun q hq z => ?_⟩
  · have h1 := size_del (k := .string r.name) ht
    rw [hhas, if_pos rfl, h.1] at h1
    have h2 := delR_len hu hr
    omega
  · rw [delR_any]
    by_cases e : x = r.name
    · subst e
      rw [has_del_same]
      simp
    · rw [has_del_other (by intro e2; injection e2 with e2; exact e e2), h.2.1]
      simp [e]
  · rw [mem_delR] at hq
    rw [atKey_del_other (by intro e2; injection e2 with e2; exact hq.2 e2)]
    exact h.2.2 q hq.1 z
theorem owns_tight {w : World} {b n : Nat} {Dm : DU} (h : w.ownsMap Try.prog 9 ptrEl b n Dm) : w.ownsMap Try.prog 9 ptrEl b (Maps.size Dm) Dm := by
  obtain ⟨es, clock, h1, h2, h3, h4⟩ := h
  refine ⟨es, clock, h1, h2, ?_, h4⟩
  rw [h4, Maps.size_eq, length_sorted]
  simp

section
variable {w w' : World} {p : Nat} {m : Option Nat} {rs : List FR} {room used left : Int} {dead armed : Bool}
theorem mem_delB {x : List UInt8} {b : Nat} (h : b ∈ allB p m (delR x rs)) : b ∈ allB p m rs := by
  simp only [allB, List.mem_cons, List.mem_append, List.mem_flatMap, mem_delR] at h ⊢
  rcases h with h | h | ⟨q, ⟨hq, _⟩, h⟩
  · exact .inl h
  · exact .inr (.inl h)
  · exact .inr (.inr ⟨q, hq, h⟩)
/-- The disk behind a delete of the map's. -/
theorem DskR.del {r : FR} {b : Nat} {Dm : DU} (h : DskR w p (some b) rs room used left dead armed) (hu : rsUp rs) (hr : r ∈ rs) (ho : w'.ownsMap Try.prog 9 ptrEl b rs.length (Dm.del (.string r.name))) (hm : MR Dm rs) (ht : Tidy Dm) (hg : w.grownBy w' (some b)) :
    DskR w' p (some b) (delR r.name rs) room used left dead armed := by
  obtain ⟨h1, h2, h3, h4, h5, h6⟩ := h
  have hf : Fr w w' [b] := Fr.of_grown hg (fun c hc => by injection hc with hc; rw [hc]; exact List.mem_singleton.2 rfl)
  have hM := hm.del ht hu hr
  refine ⟨(hf.block p (Array.getElem?_eq_some_iff.1 h1).1 (fun hmem => h5 b rfl (by rw [List.mem_singleton] at hmem; exact hmem.symm))).trans h1, .inr ⟨b, _, rfl, by rw [← hM.1]; exact owns_tight ho, hM⟩, fun q hq => ?_, fun q hq => h4 q (mem_delR.1 hq).1, h5, List.Pairwise.filter _ h6⟩
  exact (h3 q (mem_delR.1 hq).1).fr hf (fun c hc hmem => (h4 q (mem_delR.1 hq).1).2.1 b rfl (by rw [List.mem_singleton] at hmem; rw [← hmem]; exact hc))

/-- 'The disk without the file.' -/
def RetDel (w : World) (p : Nat) (m : Option Nat) (rs : List FR) (x : List UInt8) (room used left : Int) (dead armed : Bool) (v : Value) (e : Ending) (w' : World) : Prop :=
  e = .returned v ∧ DskR w' p m (delR x rs) room used left dead armed ∧ Fr w w' (allB p m rs)
set_option maxRecDepth 100000 in
set_option maxHeartbeats 1000000 in
theorem drop_none (x : List UInt8) (h : DskR w p m rs room used left dead armed) (hx : ∀ r ∈ rs, r.name ≠ x) (hl : x.length ≤ maxLen) :
    Calls Try.prog 187 #[.pointer (some ⟨p, 0, none⟩), .string (tx x)] w fun e w' => e = .returned (.tuple #[]) ∧ w = w' := by
  obtain ⟨c0, c1, c2, c3, c4, c5⟩ := h.head
  have hlk := h.2.1.look_none hx hl
  clear hx hl
  go_enter Try.func187, Try.ntmps187
  go_wp2
  go_end0
  exact ⟨rfl, rfl⟩
set_option maxRecDepth 100000 in
set_option maxHeartbeats 2000000 in
theorem drop_some {r : FR} (u : Nat) (h : DskR w p m rs room (u : Int) left dead armed) (hu : rsUp rs) (hr : r ∈ rs) (hl : r.name.length ≤ maxLen) (hru : r.dat.length ≤ u) (hu2 : u ≤ 9223372036854775807) :
    Calls Try.prog 187 #[.pointer (some ⟨p, 0, none⟩), .string (tx r.name)] w (RetDel w p m rs r.name room ((u - r.dat.length : Nat) : Int) left dead armed (.tuple #[])) := by
  obtain ⟨c0, c1, c2, c3, c4, c5⟩ := h.head
  have hlk := h.2.1.look_some hr hl
  have hfa := h.2.2.1 r hr
  obtain ⟨d0, d1⟩ := hfa.cells
  have f2 := h.thaw 2
  have hpf : p ≠ r.fb := fun e => (h.2.2.2.1 r hr).1 (by rw [e]; simp [FR.bl])
  have i1 : IntKind.i64.wrap ((u : Int) - (r.dat.length : Int)) = (u : Int) - (r.dat.length : Int) := IntWalk.i64_in _ (by omega)
  have hkey := keyN hl
  go_enter Try.func187, Try.ntmps187
  go_wp2
  go_region
  obtain ⟨W, hW⟩ : ∃ W, W = (w.setCell ⟨p, 2, none⟩ (.int .i64 ((u : Int) - (r.dat.length : Int)))).drew := ⟨_, rfl⟩
  rw [← hW]
  have hf1 : Fr w W [p] := by rw [hW]; exact (Fr.set w p 2 _).drewN 1
  have hD1 : DskR W p m rs room ((u : Int) - (r.dat.length : Int)) left dead armed := h.turn hf1 (by rw [hW]; exact heap_setCell_same _ _ _ _ _ _ h.1)
  have hf1 : Fr w W (allB p m rs) := hf1.mono (fun b hb => .inl (by rw [List.mem_singleton] at hb; rw [hb]; exact mem_head))
  have e1 : ((u : Int) - (r.dat.length : Int)) = ((u - r.dat.length : Nat) : Int) := by omega
  rw [e1] at hD1
  clear hW h hfa c0 c1 c2 c3 c4 c5 d0 d1 f2 i1 hlk e1
  have hM := hD1.2.1
  rcases hM with ⟨_, rfl⟩ | ⟨b, Dm, rfl, ho, hm⟩
  · cases hr
  obtain ⟨c0, _⟩ := hD1.head
  go_wp2_with (at_delete; refine wpList_delete_own _ rfl _ _ 124 9 rfl 127 lawN Try.underlying124 _ b rs.length Dm rfl ho _ _ rfl hkey ?_)
  intro w2 ho2 hturn
  have hfin : RetDel w p (some b) rs r.name room ((u - r.dat.length : Nat) : Int) left dead armed (.tuple #[]) (.returned (.tuple #[])) w2 := by
    refine ⟨rfl, hD1.del hu hr ho2 hm (ho.tidy lawN) hturn.grown, ?_⟩
    exact hf1.trans (Fr.of_grown (bl := [b]) hturn.grown (fun c hc => by injection hc with hc; rw [hc]; exact List.mem_singleton.2 rfl)) (fun c hc => .inl (by rw [List.mem_singleton] at hc; rw [hc]; exact mem_map rfl))
  have HFIN := Lib.hid hfin
  clear hfin ho2 hturn hD1 ho hm hf1
  go_wp2
  go_end0
  exact HFIN.out
end
end Go.Proofs.Ytcclhkoggijkaaa
namespace Go.Proofs.Ytcclhkoggijkaaa
open Go Go.RowKit

/-- A number as a value. -/
def uv (m : Nat) : Value := .int .u64 (m : Int)
/-- 'The slice of n numbers at A reads as these.' -/
def RdU (w : World) (A : Option Addr) (n : Nat) (ms : List Nat) : Prop := RdV w A n (ms.map uv) ∧ ∀ m ∈ ms, U64 m
theorem RdU.len {w : World} {A : Option Addr} {n : Nat} {ms : List Nat} (h : RdU w A n ms) : ms.length = n := by
  have := h.1.1
  simpa using this
theorem RdU.below {w w' : World} {A : Option Addr} {n : Nat} {ms : List Nat} (h : RdU w A n ms) (hb : Below w.heap.size w w') : RdU w' A n ms := ⟨h.1.below hb, h.2⟩
theorem RdU.drewN {w : World} {A : Option Addr} {n : Nat} {ms : List Nat} (h : RdU w A n ms) (q : Nat) : RdU (w.drewN q) A n ms := h.below (below_drewN (Below.refl _ _) q)
theorem RdU.at_ {w : World} {b off n : Nat} {ms : List Nat} (h : RdU w (some ⟨b, off, none⟩) n ms) (k : Nat) (hk : k < n) : ∃ m, ms[k]? = some m ∧ w.cell? ⟨b, off + k, none⟩ = some (.int .u64 (m : Int)) ∧ U64 m := by
  obtain ⟨v, h1, h2⟩ := h.1.at_ k hk
  rw [List.getElem?_map] at h1
  cases hm : ms[k]? with
  | none => rw [hm] at h1; cases h1
  | some m =>
    rw [hm] at h1
    injection h1 with h1
    exact ⟨m, rfl, by rw [h2, ← h1]; rfl, h.2 m (List.mem_of_getElem? hm)⟩
set_option maxRecDepth 100000 in
theorem isNaNc_any (x : Nat) (w : World) : Calls Try.prog 184 #[.int .u64 (x : Int)] w (fun e w' => e = .returned (.bool false) ∧ w' = w) := by
  go_enter Try.func184, Try.ntmps184
  go_wp2_with fail
  go_ret
  exact ⟨rfl, rfl⟩
set_option maxRecDepth 100000 in
theorem isNaNs_any (x : Nat) (w : World) : Calls Try.prog 207 #[.int .u64 (x : Int)] w (fun e w' => e = .returned (.bool false) ∧ w' = w) := by
  go_enter Try.func207, Try.ntmps207
  go_wp2_with fail
  go_ret
  exact ⟨rfl, rfl⟩
set_option maxRecDepth 100000 in
theorem lessU_any (x y : Nat) (w : World) : Calls Try.prog 204 #[.int .u64 (x : Int), .int .u64 (y : Int)] w (fun e w' => e = .returned (.bool (decide (x < y))) ∧ w' = w) := by
  go_enter Try.func204, Try.ntmps204
  by_cases hlt : x < y
  · go_wp2_with (first | (go_at_call 184; with_reducible refine (isNaNc_any _ _).mono ?_; rintro e wx ⟨rfl, rfl⟩))
    go_ret
    exact ⟨by simp [hlt], rfl⟩
  · go_wp2_with (first | (go_at_call 184; with_reducible refine (isNaNc_any _ _).mono ?_; rintro e wx ⟨rfl, rfl⟩))
    go_ret
    exact ⟨by simp [hlt], rfl⟩
/-- The least place whose number isn't below x. -/
def RetBs (w : World) (n : Nat) (ms : List Nat) (x : Nat) (e : Ending) (w' : World) : Prop :=
  ∃ (r : Nat) (f : Bool), e = .returned (.tuple #[.int .i64 (r : Int), .bool f]) ∧ r ≤ n ∧ (∀ t m, t < r → ms[t]? = some m → m < x) ∧ (∀ t m, r ≤ t → ms[t]? = some m → x ≤ m) ∧ ∃ q, w' = w.drewN q
theorem pw_at {ms : List Nat} (h : ms.Pairwise (· ≤ ·)) {i j a b : Nat} (hij : i ≤ j) (h1 : ms[i]? = some a) (h2 : ms[j]? = some b) : a ≤ b := by
  obtain ⟨l1, e1⟩ := List.getElem?_eq_some_iff.1 h1
  obtain ⟨l2, e2⟩ := List.getElem?_eq_some_iff.1 h2
  rcases Nat.eq_or_lt_of_le hij with e | e
  · subst e
    rw [h1] at h2
    injection h2 with h2
    omega
  · have := List.pairwise_iff_getElem.1 h i j l1 l2 e
    omega
set_option maxRecDepth 100000 in
set_option maxHeartbeats 8000000 in
theorem binS_any {w : World} {A : Option Addr} {n c : Nat} {ms : List Nat} (h : RdU w A n ms) (hn : n ≤ 1099511627776) (hp : ms.Pairwise (· ≤ ·)) (x : Nat) : Calls Try.prog 167 #[.slice A n c, .int .u64 (x : Int)] w (RetBs w n ms x) := by
  have HL := Lib.hid h.len
  have HP := Lib.hid hp
  have HH := Lib.hid h
  clear h hp
  go_enter Try.func167, Try.ntmps167
  go_wp2_with fail
  go_loopw [7, 8] (fun s7 s8 wr => ∃ lo hi q : Nat, s7 = .int .i64 (lo : Int) ∧ s8 = .int .i64 (hi : Int) ∧ lo ≤ hi ∧ hi ≤ n ∧ (∀ t m, t < lo → ms[t]? = some m → m < x) ∧ (∀ t m, hi ≤ t → ms[t]? = some m → x ≤ m) ∧ wr = w.drewN q) (fun s7 s8 _ => (intOf s8).toNat - (intOf s7).toNat)
  case atStart => exact ⟨0, n, 0, rfl, rfl, Nat.zero_le _, Nat.le_refl _, (fun t m h => absurd h (Nat.not_lt_zero _)), (fun t m h1 h2 => by have := (List.getElem?_eq_some_iff.1 h2).1; have := HL.out; omega), rfl⟩
  case round =>
    obtain ⟨lo, hi, q, rfl, rfl, h1, h2, h3, h4, rfl⟩ := hrel
    have H3 := Lib.hid h3
    have H4 := Lib.hid h4
    obtain ⟨W, hW⟩ : ∃ W, W = w.drewN q := ⟨_, rfl⟩
    rw [← hW]
    have HW := Lib.hid hW
    have HR : Hid (RdU W A n ms) := Lib.hid (by rw [hW]; exact HH.out.drewN q)
    clear h3 h4 hW
    by_cases hlt : lo < hi
    · obtain ⟨m, hm⟩ : ∃ m, m = (lo + hi) / 2 := ⟨_, rfl⟩
      have e1 : ((lo : Int) + (hi : Int)) / 2 = (m : Int) := by omega
      have hmn : m < hi := by omega
      have hml : lo ≤ m := by omega
      have hmN : m < n := by omega
      obtain ⟨b, off, hAb, _⟩ := HR.out.1.pos (by omega)
      subst hAb
      obtain ⟨y, hy, hcy, _⟩ := HR.out.at_ m (by omega)
      have HY := Lib.hid hy
      by_cases hyx : y < x
      · have HN : Hid (∀ t m', t < m + 1 → ms[t]? = some m' → m' < x) := Lib.hid (fun t m' ht hm' => by have := pw_at HP.out (by omega : t ≤ m) hm' HY.out; omega)
        clear hm hy
        go_wp2_with (first | (go_at_call 204; with_reducible refine (lessU_any _ _ _).mono ?_; rintro e wx ⟨rfl, rfl⟩))
        go_roundw
        case rel => exact ⟨m + 1, hi, q, by go_num, rfl, by omega, h2, HN.out, H4.out, HW.out⟩
        case measure => simp [intOf]; omega
      · have HN : Hid (∀ t m', m ≤ t → ms[t]? = some m' → x ≤ m') := Lib.hid (fun t m' ht hm' => by have := pw_at HP.out ht HY.out hm'; omega)
        clear hm hy
        go_wp2_with (first | (go_at_call 204; with_reducible refine (lessU_any _ _ _).mono ?_; rintro e wx ⟨rfl, rfl⟩))
        go_roundw
        case rel => exact ⟨lo, m, q, rfl, rfl, hml, by omega, H3.out, HN.out, HW.out⟩
        case measure => simp [intOf]; omega
    · obtain rfl : lo = hi := by omega
      have HF : Hid (∀ f : Bool, RetBs w n ms x (.returned (.tuple #[.int .i64 (lo : Int), .bool f])) W) := Lib.hid (fun f => ⟨lo, f, rfl, h2, H3.out, H4.out, q, HW.out⟩)
      by_cases hln : lo < n
      · obtain ⟨b, off, hAb, _⟩ := HR.out.1.pos (by omega)
        subst hAb
        obtain ⟨y, hy, hcy, _⟩ := HR.out.at_ lo hln
        by_cases hyx : y = x
        · have t1 : ((y : Int) == (x : Int)) = true := by rw [beq_iff_eq]; omega
          clear hy
          go_wp2_with (first | (go_at_call 207; with_reducible refine (isNaNs_any _ _).mono ?_; rintro e wx ⟨rfl, rfl⟩))
          exact bodyPost_ret (v := .tuple #[.int .i64 (lo : Int), .bool true]) (by simp [results, Try.f167, go_sem]; try rfl) rfl (HF.out true)
        · have t1 : ((y : Int) == (x : Int)) = false := by rw [beq_eq_false_iff_ne]; omega
          clear hy
          go_wp2_with (first | (go_at_call 207; with_reducible refine (isNaNs_any _ _).mono ?_; rintro e wx ⟨rfl, rfl⟩))
          exact bodyPost_ret (v := .tuple #[.int .i64 (lo : Int), .bool false]) (by simp [results, Try.f167, go_sem]; try rfl) rfl (HF.out false)
      · go_wp2_with fail
        exact bodyPost_ret (v := .tuple #[.int .i64 (lo : Int), .bool false]) (by simp [results, Try.f167, go_sem]; try rfl) rfl (HF.out false)
/-- Is the i-th entry its key's version at one of the moments? -/
def seenE (es : List En) (i : Nat) (ms : List Nat) : Bool :=
  match es[i]? with
  | none => false
  | some x => ms.any (fun m => decide (x.seq ≤ m) && (match newerE es i with
    | none => true
    | some u => decide (m < u)))
theorem seenE_at {es : List En} {i : Nat} {ms : List Nat} {x : En} (h : es[i]? = some x) : seenE es i ms = ms.any (fun m => decide (x.seq ≤ m) && (match newerE es i with
    | none => true
    | some u => decide (m < u))) := by unfold seenE; rw [h]
/-- What isSeen hands back. -/
def RetBq (w : World) (b : Bool) (e : Ending) (w' : World) : Prop := e = .returned (.bool b) ∧ ∃ q, w' = w.drewN q
set_option maxRecDepth 100000 in
set_option maxHeartbeats 8000000 in
theorem isSeen_any {w : World} {A M : Option Addr} {n c mn mc : Nat} {es : List En} {ms : List Nat} (h : REs w A n es) (hn : n ≤ 1099511627776) (i : Nat) (hi : i < n) (hm : RdU w M mn ms) (hmn : mn ≤ 1099511627776) (hp : ms.Pairwise (· ≤ ·)) :
    Calls Try.prog 134 #[.slice A n c, .int .i64 (i : Int), .slice M mn mc] w (RetBq w (seenE es i ms)) := by
  obtain ⟨b, off, rfl, hbl⟩ := h.pos (by omega)
  obtain ⟨x, v0, v1, v2, v3, hx, c0, c1, c2, c3, hev⟩ := h.at_ i hi
  obtain ⟨K, kn, kc, V, vn, vc, rfl, rfl, rfl, rfl, _⟩ := hev.parts
  have HB := Lib.hid (binS_any (c := mc) hm hmn hp x.seq)
  have HNW : Hid (∀ q, Calls Try.prog 133 #[.slice (some ⟨b, off, none⟩) n c, .int .i64 (i : Int)] (w.drewN q) (RetNwM (w.drewN q) (newerE es i))) := Lib.hid (fun q => mgNewer_any (h.drewN q) hn i hi)
  have HSE := Lib.hid (seenE_at (ms := ms) hx)
  have HM := Lib.hid hm
  have HML := Lib.hid hm.len
  have HP := Lib.hid hp
  clear h hx hev hm hp
  go_enter Try.func134, Try.ntmps134
  go_wp2_with fail
  with_reducible refine HB.out.mono ?_
  rintro e w1 ⟨r, f, rfl, hr, hlo, hhi, q, hq⟩
  have HLO := Lib.hid hlo
  have HHI := Lib.hid hhi
  have HQ := Lib.hid hq
  clear hlo hhi hq
  by_cases hrn : r = mn
  · subst hrn
    have HF : Hid (seenE es i ms = false) := Lib.hid (by
      rw [HSE.out, List.any_eq_false]
      intro m hm
      obtain ⟨t, ht⟩ := List.mem_iff_getElem?.1 hm
      have := HLO.out t m (by have := (List.getElem?_eq_some_iff.1 ht).1; have := HML.out; omega) ht
      have : ¬ x.seq ≤ m := by omega
      simp [this])
    go_wp2_with fail
    go_ret
    exact ⟨by rw [HF.out]; rfl, q, HQ.out⟩
  · have t1 : ((r : Int) == (mn : Int)) = false := by rw [beq_eq_false_iff_ne]; omega
    have hrl : r < mn := by omega
    obtain ⟨o, ho⟩ : ∃ o, o = newerE es i := ⟨_, rfl⟩
    have hNW := HNW.out q
    rw [← ho, ← HQ.out] at hNW
    have HNW2 := Lib.hid hNW
    have HO := Lib.hid ho
    clear hNW ho
    obtain ⟨mb, mo, hMb, _⟩ := HM.out.1.pos (by omega)
    subst hMb
    obtain ⟨m1, hm1, hcm, _⟩ := (HM.out.drewN q).at_ r hrl
    have HM1 := Lib.hid hm1
    have hcm1 : w1.cell? ⟨mb, mo + r, none⟩ = some (.int .u64 (m1 : Int)) := by rw [HQ.out]; exact hcm
    clear hm1 hcm c0 c1 c2 c3
    have HCM : Hid (∀ q, (w1.drewN q).cell? ⟨mb, mo + r, none⟩ = some (.int .u64 (m1 : Int))) := Lib.hid (fun q => by rw [← hcm1]; exact (below_drewN (Below.refl w1.heap.size w1) q).cell (p := ⟨mb, mo + r, none⟩) (by
      obtain ⟨b', o', e1, e2, _⟩ := (HM.out.drewN 0).1.2 (by omega)
      injection e1 with e1
      injection e1 with e1 _
      subst e1
      rw [HQ.out]
      simpa using e2))
    have hsx : x.seq ≤ m1 := HHI.out r m1 (Nat.le_refl _) HM1.out
    have HSX := Lib.hid hsx
    go_wp2_with fail
    with_reducible refine HNW2.out.mono ?_
    rintro e w2 ⟨rfl, q2, hq2⟩
    have hcm2 : w2.cell? ⟨mb, mo + r, none⟩ = some (.int .u64 (m1 : Int)) := by rw [hq2]; exact HCM.out q2
    have HQ2 : Hid (∃ q', w2 = w.drewN q') := Lib.hid ⟨_, by rw [hq2, HQ.out, World.drewN_drewN]⟩
    clear hq2 hcm1 hsx
    cases o with
    | none =>
      have HF : Hid (seenE es i ms = true) := Lib.hid (by
        rw [HSE.out, ← HO.out, List.any_eq_true]
        exact ⟨m1, List.mem_of_getElem? HM1.out, by simp [HSX.out]⟩)
      go_wp2_with fail
      go_ret
      exact ⟨by rw [HF.out]; rfl, HQ2.out⟩
    | some u =>
      by_cases hmu : m1 < u
      · have HF : Hid (seenE es i ms = true) := Lib.hid (by
          rw [HSE.out, ← HO.out, List.any_eq_true]
          exact ⟨m1, List.mem_of_getElem? HM1.out, by simp [HSX.out, hmu]⟩)
        go_wp2_with fail
        go_ret
        exact ⟨by rw [HF.out]; rfl, HQ2.out⟩
      · have HF : Hid (seenE es i ms = false) := Lib.hid (by
          rw [HSE.out, ← HO.out, List.any_eq_false]
          intro m hm
          obtain ⟨t, ht⟩ := List.mem_iff_getElem?.1 hm
          rcases Nat.lt_or_ge t r with htr | htr
          · have := HLO.out t m htr ht
            have : ¬ x.seq ≤ m := by omega
            simp [this]
          · have := pw_at HP.out htr HM1.out ht
            have : ¬ m < u := by omega
            simp [this])
        go_wp2_with fail
        go_ret
        exact ⟨by rw [HF.out]; rfl, HQ2.out⟩
end Go.Proofs.Ytcclhkoggijkaaa
namespace Go.Proofs.Ytcclhkoggijkaaa
open Go Go.RowKit

/-- Of the first i lists those that differ from the one ahead. -/
def compN (xss : List (List UInt8)) : Nat → List (List UInt8)
  | 0 => []
  | i + 1 => match xss[i]? with
    | none => compN xss i
    | some x => if (decide (0 < i) && eqB x (xss[i - 1]?.getD [])) = true then compN xss i else compN xss i ++ [x]
def compB (xss : List (List UInt8)) : List (List UInt8) := compN xss xss.length
theorem compN_new {xss : List (List UInt8)} {i : Nat} {x : List UInt8} (h : xss[i]? = some x) (h2 : i = 0 ∨ ∃ y, xss[i - 1]? = some y ∧ eqB x y = false) : compN xss (i + 1) = compN xss i ++ [x] := by
  rw [compN, h]
  refine if_neg ?_
  rcases h2 with rfl | ⟨y, h2, h3⟩
  · simp
  · rw [h2]; simp [h3]
theorem compN_old {xss : List (List UInt8)} {i : Nat} {x y : List UInt8} (h : xss[i]? = some x) (hi : 0 < i) (h2 : xss[i - 1]? = some y) (h3 : eqB x y = true) : compN xss (i + 1) = compN xss i := by
  rw [compN, h]
  refine if_pos ?_
  rw [h2]
  simp [h3, hi]
theorem compN_len (xss : List (List UInt8)) : ∀ i, (compN xss i).length ≤ i
  | 0 => Nat.le_refl _
  | i + 1 => by
    have := compN_len xss i
    rw [compN]
    split
    · omega
    · split
      · omega
      · rw [List.length_append]; simp; omega
/-- A row of slices that are read where they were made, an older world. -/
def RwO (w0 : World) (xss : List (List UInt8)) (arr : Array Value) : Prop := ∀ (i : Nat) x, xss[i]? = some x → ∃ v, arr[i]? = some v ∧ ElB w0 v x
/-- The row at g, from the k-th on still as it was, the first m as they shall be. -/
def CpS (w0 w : World) (g c : Nat) (xss : List (List UInt8)) (arr : Array Value) (k i : Nat) (wr : World) : Prop :=
  ∃ brr, Cl wr g brr 25 ∧ brr.size = c ∧ RwO w0 (compN xss i) brr ∧ (compN xss i).length = k ∧ (∀ j, i ≤ j + 1 → brr[j]? = arr[j]?) ∧ Below w0.heap.size w0 wr ∧ w.grownBy wr (some g)
def RetCp (w0 w : World) (g c s : Nat) (yss : List (List UInt8)) (e : Ending) (w' : World) : Prop :=
  ∃ m brr, e = .returned (.slice (some ⟨g, 0, none⟩) m s) ∧ Cl w' g brr 25 ∧ brr.size = c ∧ RwO w0 yss brr ∧ yss.length = m ∧ Below w0.heap.size w0 w' ∧ w.grownBy w' (some g)
theorem elemLT : Try.prog.elem 108 = 25 := by kernel_rfl
theorem sizeLT (w : World) : (sizeOf 25).run Try.prog w = .ok 1 w := by kernel_rfl
theorem RwO.take {w0 : World} {xss : List (List UInt8)} {arr : Array Value} (h : RwO w0 xss arr) (k : Nat) : RwO w0 (xss.take k) arr := fun i x hx => by
  rw [List.getElem?_take] at hx
  split at hx
  · exact h i x hx
  · cases hx
theorem ElB.up {w0 wr : World} {v : Value} {x : List UInt8} (h : ElB w0 v x) (hb : Below w0.heap.size w0 wr) : ElB wr v x := h.below hb

theorem grow_drew {w w' : World} {row : Option Nat} (h : w.grownBy w' row) : w.grownBy w'.drew row := by
  obtain ⟨p1, p2, p3, p4, p5⟩ := h
  exact ⟨p1, p2, p3, p4, p5⟩
theorem comp_one {xss : List (List UInt8)} (h : 1 ≤ xss.length) : compN xss 1 = xss.take 1 := by
  match xss, h with
  | x :: t, _ => rfl
theorem cl_setCells {g : Nat} {t : TypeId} : ∀ (vs : List Value) (o : Nat) {w : World} {arr : Array Value}, Cl w g arr t → ∃ brr, Cl (w.setCells g o vs) g brr t ∧ brr.size = arr.size ∧ (∀ j, j < o → brr[j]? = arr[j]?) ∧ w.grownBy (w.setCells g o vs) (some g) ∧ ∀ B, B ≤ g → Below B w (w.setCells g o vs)
  | [], _, w, arr, h => ⟨arr, h, rfl, fun _ _ => rfl, grow_of_below (Below.refl _ _), fun _ _ => Below.refl _ _⟩
  | v :: r, o, w, arr, h => by
    obtain ⟨brr, h1, h2, h3, ⟨q1, q2, q3, q4, q5⟩, h5⟩ := cl_setCells r (o + 1) (h.set o v)
    obtain ⟨p1, p2, p3, p4, p5⟩ : w.grownBy (w.setCell ⟨g, o, none⟩ v) (some g) := grow_set (grow_of_below (Below.refl _ _)) g o v rfl
    refine ⟨brr, h1, by rw [h2]; simp, fun j hj => ?_, ⟨q1.trans p1, q2.trans p2, q3.trans p3, Nat.le_trans p4 q4, fun k hk hne => ?_⟩, fun B hB => ((Below.refl _ _).setCell hB v).trans (h5 B hB)⟩
    · rw [h3 j (by omega), Array.getElem?_setIfInBounds_ne (by omega)]
    · exact (q5 k (Nat.lt_of_lt_of_le hk p4) hne).trans (p5 k hk hne)

set_option maxRecDepth 100000 in
set_option maxHeartbeats 16000000 in
theorem compact_any {w0 w : World} {g n c s : Nat} {arr : Array Value} {xss : List (List UInt8)} (hz : Cl w g arr 25) (hc : arr.size = c) (hn : n ≤ c) (hns : n ≤ s) (hn2 : n ≤ 1099511627776) (hl : xss.length = n) (he : RwO w0 xss arr) (hg : w0.heap.size ≤ g) (hb : Below w0.heap.size w0 w) :
    Calls Try.prog 115 #[.slice (some ⟨g, 0, none⟩) n s, .func (.func 71) #[] #[]] w (RetCp w0 w g c s (compB xss)) := by
  have HZ := Lib.hid hz
  have HE := Lib.hid he
  have HL := Lib.hid hl
  have HC := Lib.hid hc
  have HG := Lib.hid hg
  have HB := Lib.hid hb
  clear hz he hl hc hg hb
  go_enter Try.func115, Try.ntmps115
  by_cases hn1 : n < 2
  · have HF : Hid (RetCp w0 w g c s (compB xss) (.returned (.slice (some ⟨g, 0, none⟩) n s)) w) := Lib.hid (by
      have hx : compB xss = xss := by
        have h1 := HL.out
        unfold compB
        match xss, h1 with
        | [], _ => rfl
        | [x], _ => rfl
        | a :: b :: t, h1 => simp at h1; omega
      rw [hx]
      exact ⟨n, arr, rfl, HZ.out, HC.out, HE.out, HL.out, HB.out, grow_of_below (Below.refl _ _)⟩)
    go_wp2_with fail
    go_ret
    exact HF.out
  · have HK2 := Lib.hid (show 2 ≤ n by omega)
    go_wp2_with fail
    go_loopw [5] (fun s5 wr => ∃ k : Nat, 1 ≤ k ∧ k ≤ n ∧ s5 = .int .i64 (k : Int) ∧ compN xss k = xss.take k ∧ Below w.heap.size w wr) (fun s _ => n - (intOf s).toNat)
    case atStart => exact ⟨1, Nat.le_refl _, by have := HK2.out; omega, rfl, comp_one (by have := HL.out; have := HK2.out; omega), Below.refl _ _⟩
    case round =>
      obtain ⟨k, hk1, hkn, rfl, hT, hB⟩ := hrel
      have HT := Lib.hid hT
      have HBR := Lib.hid hB
      clear hT hB
      by_cases hlt : k < n
      · obtain ⟨j, rfl⟩ : ∃ j, k = j + 1 := ⟨k - 1, by omega⟩
        obtain ⟨k, hk⟩ : ∃ k, k = j + 1 := ⟨_, rfl⟩
        rw [← hk] at hlt hkn hk1 HT ⊢
        have hlx := HL.out
        obtain ⟨x, hx⟩ : ∃ x, xss[k]? = some x := ⟨_, List.getElem?_eq_getElem (by omega)⟩
        obtain ⟨y, hy⟩ : ∃ y, xss[j]? = some y := ⟨_, List.getElem?_eq_getElem (by omega)⟩
        obtain ⟨v, hv, A1, n1, c1, rfl, r1, _⟩ := HE.out k x hx
        obtain ⟨u, hu, A2, n2, c2, rfl, r2, _⟩ := HE.out j y hy
        have b0 : Below w0.heap.size w0 wr := HB.out.trans (HBR.out.mono HB.out.size)
        have HEQ : Hid (∀ wx, Below wr.heap.size wr wx → Calls Try.prog 71 #[.slice A1 n1 c1, .slice A2 n2 c2] wx (fun e w' => e = .returned (.bool (eqB x y)) ∧ w' = wx)) := Lib.hid (fun wx hb => mgEqual_any A1 A2 n1 n2 c1 c2 x y wx ((r1.below b0).below hb) ((r2.below b0).below hb))
        have zr : Cl wr g arr 25 := HZ.out.below HBR.out
        have c0 : wr.cell? ⟨g, k, none⟩ = some (.slice A1 n1 c1) := (zr.cell k).trans hv
        have cj : wr.cell? ⟨g, j, none⟩ = some (.slice A2 n2 c2) := (zr.cell j).trans hu
        have HCC : Hid (∀ wx, Below wr.heap.size wr wx → wx.cell? ⟨g, k, none⟩ = some (.slice A1 n1 c1) ∧ wx.cell? ⟨g, j, none⟩ = some (.slice A2 n2 c2)) := Lib.hid (fun wx hb => ⟨((zr.below hb).cell k).trans hv, ((zr.below hb).cell j).trans hu⟩)
        have hkj : IntKind.i64.wrap ((k : Int) - 1) = (j : Int) := by rw [IntWalk.i64_in _ (by omega)]; omega
        have hj : j < n := by omega
        have HX := Lib.hid hx
        have HY := Lib.hid hy
        have HK := Lib.hid hk
        have HV := Lib.hid hv
        have hB0 : Below wr.heap.size wr wr.drew := (Below.refl _ _).drew
        obtain ⟨z, hzz⟩ : ∃ z, z = eqB x y := ⟨_, rfl⟩
        rw [← hzz] at HEQ
        have HZZ := Lib.hid hzz
        clear hlx hx hy hv hu r1 r2 b0 zr hk hzz
        cases z with
        | true =>
          have hsk : n - k ≤ s - k := by omega
          go_wp2_with fail
          go_region_held3 (fun wx => wx.cell? ⟨g, k, none⟩ = some (.slice A1 n1 c1) ∧ wx.cell? ⟨g, j, none⟩ = some (.slice A2 n2 c2)) (first | assumption | exact HCC.out _ hB0)
            (first | (go_at_call 71; with_reducible refine (HEQ.out _ hB0).mono ?_; intro e1 wn hq; obtain ⟨h1, h2⟩ := hq; subst h1; subst h2))
          all_goals
            clear c0 cj HCC HEQ
            have HP0 : Hid (CpS w0 w g c xss arr k (k + 1) wr.drew) := Lib.hid (by
              have e1 : compN xss (k + 1) = xss.take k := by rw [compN_old HX.out (by omega) (by rw [HK.out]; exact HY.out) HZZ.out.symm, HT.out]
              have b2 := HBR.out.drew
              exact ⟨arr, HZ.out.below b2, HC.out, by rw [e1]; exact HE.out.take k, by rw [e1, List.length_take, HL.out]; omega, fun _ _ => rfl, HB.out.trans (b2.mono HB.out.size), grow_of_below b2⟩)
            go_wp2_with fail
            go_loopw [5, 7] (fun s5 s7 wq => ∃ k2 i : Nat, s5 = .int .i64 (k2 : Int) ∧ s7 = .int .i64 (i : Int) ∧ 1 ≤ i ∧ k + i ≤ n ∧ k2 + 1 ≤ k + i ∧ CpS w0 w g c xss arr k2 (k + i) wq) (fun _ s _ => n - (intOf s).toNat)
            case atStart => exact ⟨k, 1, rfl, rfl, Nat.le_refl _, by omega, by omega, HP0.out⟩
            case round =>
              obtain ⟨k2, i, rfl, rfl, hi1, hin, hki, hP⟩ := hrel
              obtain ⟨brr, zq, hbs, hrw, hlen, hun, hbq, hgq⟩ := hP
              by_cases hlt2 : k + i < n
              · obtain ⟨i1, hi⟩ : ∃ i1, i = i1 + 1 := ⟨i - 1, by omega⟩
                have hlx := HL.out
                obtain ⟨x2, hx2⟩ : ∃ x, xss[k + i]? = some x := ⟨_, List.getElem?_eq_getElem (by omega)⟩
                obtain ⟨y2, hy2⟩ : ∃ y, xss[k + i1]? = some y := ⟨_, List.getElem?_eq_getElem (by omega)⟩
                obtain ⟨v2, hv2, B1, m1, d1, rfl, q1, hmd1, hnil1⟩ := HE.out (k + i) x2 hx2
                obtain ⟨u2, hu2, B2, m2, d2, rfl, q2, _⟩ := HE.out (k + i1) y2 hy2
                have HEL : Hid (ElB w0 (.slice B1 m1 d1) x2) := Lib.hid ⟨B1, m1, d1, rfl, q1, hmd1, hnil1⟩
                have HEQ : Hid (∀ wx, Below wr.heap.size wr wx → Calls Try.prog 71 #[.slice B1 m1 d1, .slice B2 m2 d2] wx (fun e w' => e = .returned (.bool (eqB x2 y2)) ∧ w' = wx)) := Lib.hid (fun wx hb => mgEqual_any B1 B2 m1 m2 d1 d2 x2 y2 wx ((q1.below hbq).below hb) ((q2.below hbq).below hb))
                rw [← hun (k + i) (by omega)] at hv2
                rw [← hun (k + i1) (by omega)] at hu2
                obtain ⟨old, ho⟩ : ∃ o, brr[k2]? = some o := ⟨_, Array.getElem?_eq_getElem (by omega)⟩
                have HCC : Hid (∀ wx, Below wr.heap.size wr wx → wx.cell? ⟨g, k + i, none⟩ = some (.slice B1 m1 d1) ∧ wx.cell? ⟨g, k + i1, none⟩ = some (.slice B2 m2 d2)) := Lib.hid (fun wx hb => ⟨((zq.below hb).cell _).trans hv2, ((zq.below hb).cell _).trans hu2⟩)
                have c0 : wr.cell? ⟨g, k + i, none⟩ = some (.slice B1 m1 d1) := (zq.cell _).trans hv2
                have cj : wr.cell? ⟨g, k + i1, none⟩ = some (.slice B2 m2 d2) := (zq.cell _).trans hu2
                have e0 : wr.drew.cell? ⟨g, k + i, none⟩ = some (.slice B1 m1 d1) := (zq.cell _).trans hv2
                have ck : wr.drew.cell? ⟨g, k2, none⟩ = some old := (zq.cell _).trans ho
                have fk : wr.drew.frozen? ⟨g, k2, none⟩ = false := zq.thaw _
                have hij : IntKind.i64.wrap ((i : Int) - 1) = (i1 : Int) := by rw [IntWalk.i64_in _ (by omega)]; omega
                have hl3 : i < n - k := by omega
                have hl4 : i1 < n - k := by omega
                have hl5 : k2 < n := by omega
                have hB0 : Below wr.heap.size wr wr.drew := (Below.refl _ _).drew
                have HP := Lib.hid (show CpS w0 w g c xss arr k2 (k + i) wr from ⟨brr, zq, hbs, hrw, hlen, hun, hbq, hgq⟩)
                have HX2 := Lib.hid hx2
                have HY2 := Lib.hid hy2
                have HI := Lib.hid hi
                obtain ⟨z2, hz2⟩ : ∃ z, z = eqB x2 y2 := ⟨_, rfl⟩
                rw [← hz2] at HEQ
                have HZ2 := Lib.hid hz2
                clear hlx hx2 hy2 hv2 hu2 q1 q2 zq hbs hrw hlen hun hbq hgq hi hz2 ho hmd1 hnil1
                cases z2 with
                | true =>
                  clear e0 ck fk
                  go_wp2_with fail
                  go_region_held3 (fun wx => wx.cell? ⟨g, k + i, none⟩ = some (.slice B1 m1 d1) ∧ wx.cell? ⟨g, k + i1, none⟩ = some (.slice B2 m2 d2)) (first | assumption | exact HCC.out _ hB0)
                    (first | (go_at_call 71; with_reducible refine (HEQ.out _ hB0).mono ?_; intro e1 wn hq; obtain ⟨h1, h2⟩ := hq; subst h1; subst h2))
                  all_goals
                    have HP3 : Hid (CpS w0 w g c xss arr k2 (k + (i + 1)) wr.drew) := Lib.hid (by
                      obtain ⟨brr, zq, hbs, hrw, hlen, hun, hbq, hgq⟩ := HP.out
                      have e1 : compN xss (k + (i + 1)) = compN xss (k + i) := compN_old (i := k + i) HX2.out (by omega) (by rw [show k + i - 1 = k + i1 by have := HI.out; omega]; exact HY2.out) HZ2.out.symm
                      exact ⟨brr, zq, hbs, by rw [e1]; exact hrw, by rw [e1]; exact hlen, fun j hj => hun j (by omega), hbq.drew, grow_drew hgq⟩)
                    go_wp2_with fail
                    go_roundw
                    case rel => exact ⟨k2, i + 1, rfl, by go_num, by omega, by omega, by omega, HP3.out⟩
                    case measure => simp [intOf]; omega
                | false =>
                  go_wp2_with fail
                  go_region_held3 (fun wx => wx.cell? ⟨g, k + i, none⟩ = some (.slice B1 m1 d1) ∧ wx.cell? ⟨g, k + i1, none⟩ = some (.slice B2 m2 d2)) (first | assumption | exact HCC.out _ hB0)
                    (first | (go_at_call 71; with_reducible refine (HEQ.out _ hB0).mono ?_; intro e1 wn hq; obtain ⟨h1, h2⟩ := hq; subst h1; subst h2))
                  all_goals
                    have HP3 : Hid (CpS w0 w g c xss arr (k2 + 1) (k + (i + 1)) (wr.drew.setCell ⟨g, k2, none⟩ (.slice B1 m1 d1))) := Lib.hid (by
                      obtain ⟨brr, zq, hbs, hrw, hlen, hun, hbq, hgq⟩ := HP.out
                      have e1 : compN xss (k + (i + 1)) = compN xss (k + i) ++ [x2] := compN_new (i := k + i) HX2.out (.inr ⟨y2, by rw [show k + i - 1 = k + i1 by have := HI.out; omega]; exact HY2.out, HZ2.out.symm⟩)
                      have hgw : w0.heap.size ≤ g := HG.out
                      refine ⟨brr.setIfInBounds k2 (.slice B1 m1 d1), zq.drewN 1 |>.set k2 _, by simp [hbs], ?_, by rw [e1, List.length_append, hlen]; rfl, fun j hj => ?_, (hbq.drew).setCell hgw _, ?_⟩
                      · rw [e1]
                        intro t x hx
                        by_cases ht : t < k2
                        · rw [List.getElem?_append_left (by omega)] at hx
                          obtain ⟨v, h1, h2⟩ := hrw t x hx
                          exact ⟨v, by rw [Array.getElem?_setIfInBounds_ne (by omega)]; exact h1, h2⟩
                        · rw [List.getElem?_append_right (by omega), hlen] at hx
                          have ht2 : t = k2 := by
                            rcases Nat.lt_or_ge t (k2 + 1) with h | h
                            · omega
                            · rw [List.getElem?_eq_none (by simp; omega)] at hx; cases hx
                          subst ht2
                          simp at hx
                          subst hx
                          exact ⟨_, Array.getElem?_setIfInBounds_self_of_lt (by omega), HEL.out⟩
                      · rw [Array.getElem?_setIfInBounds_ne (by omega)]
                        exact hun j (by omega)
                      · exact grow_set (w' := wr.drew) (grow_drew hgq) g k2 _ rfl)
                    go_wp2_with fail
                    go_roundw
                    case rel => exact ⟨k2 + 1, i + 1, by go_num, by go_num, by omega, by omega, by omega, HP3.out⟩
                    case measure => simp [intOf]; omega
              · have hin2 : i = n - k := by omega
                have hcl : ∀ ty, (Builtin.clear_ #[108] ty #[.slice (some ⟨g, k2, none⟩) (n - k2) (s - k2)]).run Try.prog wr = .ok (.tuple #[]) (wr.setCells g k2 (List.replicate (n - k2) (.slice none 0 0))) :=
                  fun ty => Lib.run_clear_slice wr _ _ ty _ Try.underlying108 Try.zeroValue25 rfl rfl g k2 _ _ (by omega) (fun j hj => by rw [zq.cell, Array.getElem?_eq_getElem (by omega)]; rfl) (fun j hj => zq.thaw _)
                have HF : Hid (RetCp w0 w g c s (compB xss) (.returned (.slice (some ⟨g, 0, none⟩) k2 s)) (wr.setCells g k2 (List.replicate (n - k2) (.slice none 0 0)))) := Lib.hid (by
                  have e1 : compB xss = compN xss (k + i) := by unfold compB; rw [HL.out, show k + i = n by omega]
                  obtain ⟨crr, k1, k3, k4, k5, k6⟩ := cl_setCells (List.replicate (n - k2) (.slice none 0 0)) k2 zq
                  rw [e1]
                  refine ⟨k2, crr, rfl, k1, by rw [k3, hbs], fun t x hx => ?_, hlen, hbq.trans (k6 _ HG.out), ?_⟩
                  · obtain ⟨v, h1, h2⟩ := hrw t x hx
                    have htl : t < k2 := by
                      rcases Nat.lt_or_ge t k2 with h | h
                      · exact h
                      · rw [List.getElem?_eq_none (by omega)] at hx; cases hx
                    exact ⟨v, by rw [k4 t htl]; exact h1, h2⟩
                  · obtain ⟨q1, q2, q3, q4, q5⟩ := k5
                    obtain ⟨p1, p2, p3, p4, p5⟩ := hgq
                    exact ⟨q1.trans p1, q2.trans p2, q3.trans p3, Nat.le_trans p4 q4, fun b hb hne => (q5 b (Nat.lt_of_lt_of_le hb p4) hne).trans (p5 b hb hne)⟩)
                have hl3 : ¬ i < n - k := by omega
                have hl4 : k2 ≤ n := by omega
                have hl5 : k2 ≤ s := by omega
                clear zq hbs hrw hlen hun hbq hgq hin2
                go_wp2_with fail
                go_ret
                exact HF.out
        | false =>
          go_wp2_with fail
          go_region_held3 (fun wx => wx.cell? ⟨g, k, none⟩ = some (.slice A1 n1 c1) ∧ wx.cell? ⟨g, j, none⟩ = some (.slice A2 n2 c2)) (first | assumption | exact HCC.out _ hB0)
            (first | (go_at_call 71; with_reducible refine (HEQ.out _ hB0).mono ?_; intro e1 wn hq; obtain ⟨h1, h2⟩ := hq; subst h1; subst h2))
          all_goals
            go_wp2_with fail
            go_roundw
            case rel => exact ⟨k + 1, by omega, by omega, by go_num, by rw [compN_new HX.out (.inr ⟨y, by rw [HK.out]; exact HY.out, HZZ.out.symm⟩), HT.out, List.take_add_one, HX.out]; rfl, HBR.out.drew⟩
            case measure => simp [intOf]; omega
      · have HF : Hid (RetCp w0 w g c s (compB xss) (.returned (.slice (some ⟨g, 0, none⟩) n s)) wr) := Lib.hid (by
          have hx : compB xss = xss := by
            unfold compB
            obtain rfl : k = n := by omega
            rw [HL.out, HT.out, List.take_of_length_le (by have := HL.out; omega)]
          rw [hx]
          exact ⟨n, arr, rfl, HZ.out.below HBR.out, HC.out, HE.out, HL.out, HB.out.trans (HBR.out.mono HB.out.size), grow_of_below HBR.out⟩)
        go_wp2_with fail
        go_ret
        exact HF.out
end Go.Proofs.Ytcclhkoggijkaaa
namespace Go.Proofs.Ytcclhkoggijkaaa
open Go Go.RowKit

theorem openG_one (r : List UInt8) (hr : r.length ≤ 1048576) : openG (sealB r) ((0 : Nat) : Int) = (r, ((8 + r.length : Nat) : Int), 0) := by
  have hl := sealB_len r
  have hm : r.length = numK ((sealB r).drop 0) 4 := by
    rw [List.drop_zero, sealB, numK_fourB _ _ (by omega)]
  have h2 : (sealB r).take (0 + 8 + r.length) = sealB r := List.take_of_length_le (by omega)
  have h4 : (sealB r).drop (0 + 8) = r := by
    unfold sealB
    rw [← List.append_assoc]
    exact List.drop_left' (by simp only [List.length_append, fourB_len])
  rw [openG_whole (a := 0) (n := 8 + r.length) hl hm (by omega) (by omega), h2, h4, List.drop_zero, eqB_self, if_pos rfl, Nat.zero_add]
theorem numR_at {xs pre r : List UInt8} {n a : Nat} (hx : xs = pre ++ (putU n ++ r)) (ha : a = pre.length) (h : n < B64) : numR xs (a, false) = (n, (a + (putU n).length, false)) := by
  subst hx ha
  unfold numR
  rw [getU_at pre r n h, if_pos rfl]
  simp only [Int.toNat_natCast]
theorem takeR_at {xs pre ys r : List UInt8} {n a : Nat} (hx : xs = pre ++ (ys ++ r)) (ha : a = pre.length) (hn : n = ys.length) : takeR xs n (a, false) = (ys, (a + n, false)) := by
  subst hx ha hn
  unfold takeR
  simp only [List.length_append]
  rw [if_neg (by omega), List.drop_left' rfl, List.take_left' rfl]
theorem comB_take : ∀ (xs ys : List UInt8), xs.take (comB xs ys) = ys.take (comB xs ys)
  | [], _ => by simp [comB]
  | _ :: _, [] => by simp [comB]
  | x :: xs, y :: ys => by
    unfold comB
    split
    · rename_i e
      subst e
      rw [List.take_succ_cons, List.take_succ_cons, comB_take xs ys]
    · simp
/-- An entry that was written is read back. -/
theorem ent_at {xs pre R ah : List UInt8} {x : En} {s a : Nat} (hx : xs = pre ++ (entB s x ++ R)) (ha : a = pre.length) (hs : s ≤ x.key.length) (hk : x.key.length ≤ 1024) (hv : x.val.length ≤ 65536) (hq : U64 x.seq) (hd : x.kind < 256) (hah : ah.take s = x.key.take s) :
    badR xs ah a = false ∧ entR xs ah a = x ∧ (e7R xs a).2.1 = a + (entB s x).length := by
  have hx0 : xs = pre ++ (putU s ++ (putU (x.key.length - s) ++ (putU x.seq ++ ([bt x.kind] ++ (putU x.val.length ++ (x.key.drop s ++ (x.val ++ R))))))) := by
    rw [hx]
    unfold entB
    simp only [List.append_assoc]
  have h1 : e1R xs a = (s, (a + (putU s).length, false)) := numR_at hx0 ha (by unfold B64; omega)
  have h2 : e2R xs a = (x.key.length - s, (a + (putU s).length + (putU (x.key.length - s)).length, false)) := by
    unfold e2R
    rw [h1]
    exact numR_at (pre := pre ++ putU s) (r := putU x.seq ++ ([bt x.kind] ++ (putU x.val.length ++ (x.key.drop s ++ (x.val ++ R))))) (by rw [hx0]; simp only [List.append_assoc]) (by simp only [List.length_append, ha]) (by unfold B64; omega)
  have h3 : e3R xs a = (x.seq, (a + (putU s).length + (putU (x.key.length - s)).length + (putU x.seq).length, false)) := by
    unfold e3R
    rw [h2]
    exact numR_at (pre := pre ++ putU s ++ putU (x.key.length - s)) (r := [bt x.kind] ++ (putU x.val.length ++ (x.key.drop s ++ (x.val ++ R)))) (by rw [hx0]; simp only [List.append_assoc]) (by simp only [List.length_append, ha]) hq
  have h4 : e4R xs a = ([bt x.kind], (a + (putU s).length + (putU (x.key.length - s)).length + (putU x.seq).length + 1, false)) := by
    unfold e4R
    rw [h3]
    exact takeR_at (pre := pre ++ putU s ++ putU (x.key.length - s) ++ putU x.seq) (r := putU x.val.length ++ (x.key.drop s ++ (x.val ++ R))) (by rw [hx0]; simp only [List.append_assoc]) (by simp only [List.length_append, ha]) rfl
  have h5 : e5R xs a = (x.val.length, (a + (putU s).length + (putU (x.key.length - s)).length + (putU x.seq).length + 1 + (putU x.val.length).length, false)) := by
    unfold e5R
    rw [h4]
    exact numR_at (pre := pre ++ putU s ++ putU (x.key.length - s) ++ putU x.seq ++ [bt x.kind]) (r := x.key.drop s ++ (x.val ++ R)) (by rw [hx0]; simp only [List.append_assoc]) (by simp only [List.length_append, List.length_cons, List.length_nil, ha]) (by unfold B64; omega)
  have h6 : e6R xs a = (x.key.drop s, (a + (putU s).length + (putU (x.key.length - s)).length + (putU x.seq).length + 1 + (putU x.val.length).length + (x.key.length - s), false)) := by
    unfold e6R
    rw [h2, h5]
    exact takeR_at (pre := pre ++ putU s ++ putU (x.key.length - s) ++ putU x.seq ++ [bt x.kind] ++ putU x.val.length) (r := x.val ++ R) (by rw [hx0]; simp only [List.append_assoc]) (by simp only [List.length_append, List.length_cons, List.length_nil, ha]) (by simp)
  have h7 : e7R xs a = (x.val, (a + (putU s).length + (putU (x.key.length - s)).length + (putU x.seq).length + 1 + (putU x.val.length).length + (x.key.length - s) + x.val.length, false)) := by
    unfold e7R
    rw [h5, h6]
    exact takeR_at (pre := pre ++ putU s ++ putU (x.key.length - s) ++ putU x.seq ++ [bt x.kind] ++ putU x.val.length ++ x.key.drop s) (r := R) (by rw [hx0]; simp only [List.append_assoc]) (by simp only [List.length_append, List.length_cons, List.length_nil, List.length_drop, ha]) rfl
  have hahl : s ≤ ah.length := by
    have := congrArg List.length hah
    simp only [List.length_take] at this
    omega
  refine ⟨?_, ?_, ?_⟩
  · unfold badR
    rw [h7, h1, h6]
    simp only [List.length_drop, Bool.false_or, Bool.or_eq_false_iff, decide_eq_false_iff_not]
    omega
  · unfold entR
    rw [h1, h3, h4, h6, h7]
    simp only [List.headD_cons]
    rw [hah, List.take_append_drop, bt_nat _ hd]
  · rw [h7]
    simp only
    unfold entB
    simp only [List.length_append, List.length_cons, List.length_nil, List.length_drop]
    omega
theorem outB_pre (ev : Nat) (es : List En) (i : Nat) : ∀ j, i ≤ j → ∃ R, outB ev es j = outB ev es i ++ R := by
  intro j
  induction j with
  | zero => intro h; exact ⟨[], by rw [show i = 0 by omega]; simp⟩
  | succ j ih =>
    intro h
    by_cases e : i = j + 1
    · exact ⟨[], by rw [e]; simp⟩
    · obtain ⟨R, hR⟩ := ih (by omega)
      rw [outB]
      split
      · exact ⟨R ++ entB (shB ev es j) _, by rw [hR, List.append_assoc]⟩
      · exact ⟨R, hR⟩
theorem rsB_pre (ev : Nat) (es : List En) (i : Nat) : ∀ j, i ≤ j → ∃ R, rsB ev es j = rsB ev es i ++ R := by
  intro j
  induction j with
  | zero => intro h; exact ⟨[], by rw [show i = 0 by omega]; simp⟩
  | succ j ih =>
    intro h
    by_cases e : i = j + 1
    · exact ⟨[], by rw [e]; simp⟩
    · obtain ⟨R, hR⟩ := ih (by omega)
      rw [rsB]
      split
      · exact ⟨R ++ fourB _, by rw [hR, List.append_assoc]⟩
      · exact ⟨R, hR⟩
theorem rsB_mod (ev : Nat) (es : List En) : ∀ i, (rsB ev es i).length % 4 = 0
  | 0 => rfl
  | i + 1 => by
    have := rsB_mod ev es i
    unfold rsB
    split
    · rw [List.length_append, fourB_len]; omega
    · exact this
theorem rsB_one {ev : Nat} {es : List En} : ∀ {i : Nat}, 1 ≤ i → i ≤ ev → rsB ev es i = fourB 0
  | 0, h, _ => absurd h (by omega)
  | i + 1, _, h2 => by
    by_cases e : i = 0
    · subst e
      rw [rsB, if_pos (Nat.zero_mod _)]
      rfl
    · rw [rsB, if_neg (by rw [Nat.mod_eq_of_lt (by omega)]; exact e)]
      exact rsB_one (by omega) (by omega)
theorem entB_pos (s : Nat) (x : En) : 1 ≤ (entB s x).length := by
  have := putU_pos s
  unfold entB
  simp only [List.length_append]
  omega
theorem lastK_take {es : List En} {i : Nat} {y : En} (h : es[i]? = some y) : lastK (es.take (i + 1)) = y.key := by
  rw [List.take_add_one, h]
  exact lastK_snoc _ y
theorem sh_take {ev i : Nat} {es : List En} {x : En} (h : es[i]? = some x) : (lastK (es.take i)).take (shB ev es i) = x.key.take (shB ev es i) := by
  unfold shB
  split
  · simp
  · rename_i h0
    obtain ⟨j, rfl⟩ : ∃ j, i = j + 1 := ⟨i - 1, by
      rcases Nat.eq_zero_or_pos i with e | e
      · rw [e, Nat.zero_mod] at h0; exact absurd rfl h0
      · omega⟩
    obtain ⟨y, hy⟩ : ∃ y, es[j]? = some y := ⟨_, List.getElem?_eq_getElem (by have := (List.getElem?_eq_some_iff.1 h).1; omega)⟩
    rw [Nat.add_sub_cancel, hy, h, lastK_take hy]
    exact comB_take _ _
/-- Reading on from the i-th entry. -/
theorem par_from {ev : Nat} {es : List En} {sec : Int} (hz : ∀ x ∈ es, x.key.length ≤ 1024 ∧ x.val.length ≤ 65536) (hw : ∀ x ∈ es, U64 x.seq ∧ x.kind < 256) (g : Nat → Nat → Nat) (hg0 : ∀ c, g es.length c = c)
    (hg : ∀ i c, i < es.length → g i c = g (i + 1) (if ((outB ev es i).length : Int) = sec then i else c)) : ∀ (k i f c : Nat), i + k = es.length → k < f → parR (outB ev es es.length) sec f (outB ev es i).length (es.take i) c = some (es, g i c)
  | 0, i, f, c, hi, hf => by
    obtain ⟨f', rfl⟩ : ∃ f', f = f' + 1 := ⟨f - 1, by omega⟩
    obtain rfl : i = es.length := by omega
    rw [parR, if_pos (Nat.le_refl _), hg0, List.take_length]
  | k + 1, i, f, c, hi, hf => by
    obtain ⟨f', rfl⟩ : ∃ f', f = f' + 1 := ⟨f - 1, by omega⟩
    have hlt : i < es.length := by omega
    obtain ⟨x, hx⟩ : ∃ x, es[i]? = some x := ⟨_, List.getElem?_eq_getElem hlt⟩
    have hm := List.mem_of_getElem? hx
    obtain ⟨R, hR⟩ := outB_pre ev es (i + 1) es.length hlt
    rw [outB_step hx, List.append_assoc] at hR
    have hpos := entB_pos (shB ev es i) x
    obtain ⟨q1, q2, q3⟩ := ent_at (ah := lastK (es.take i)) hR rfl (shB_le hx) (hz x hm).1 (hz x hm).2 (hw x hm).1 (hw x hm).2 (sh_take hx)
    have hlen : (outB ev es i).length < (outB ev es es.length).length := by
      rw [hR]
      simp only [List.length_append]
      omega
    have hnx : (outB ev es i).length + (entB (shB ev es i) x).length = (outB ev es (i + 1)).length := by rw [outB_step hx, List.length_append]
    have htk : es.take i ++ [x] = es.take (i + 1) := by rw [List.take_add_one, hx]; rfl
    rw [parR, if_neg (by omega), q1, q2, q3, hnx, htk, List.length_take, Nat.min_eq_left (by omega)]
    simp only [Bool.false_eq_true, if_false]
    rw [par_from hz hw g hg0 hg k (i + 1) f' _ (by omega) (by omega), ← hg i c hlt]
theorem split_full {ev : Nat} {es : List En} (hF : (fullB ev es).length ≤ 1048576) : splitB (fullB ev es) = some (outB ev es es.length, rsB ev es es.length) := by
  have hm := rsB_mod ev es es.length
  obtain ⟨o, ho⟩ : ∃ o, o = outB ev es es.length := ⟨_, rfl⟩
  obtain ⟨r, hr⟩ : ∃ r, r = rsB ev es es.length := ⟨_, rfl⟩
  have hf : fullB ev es = o ++ r ++ fourB (r.length / 4) := by unfold fullB; rw [← ho, ← hr]
  rw [← hr] at hm
  rw [← ho, ← hr, hf]
  rw [hf] at hF
  have hl : (o ++ r ++ fourB (r.length / 4)).length = o.length + r.length + 4 := by simp only [List.length_append, fourB_len]
  have hd : (o ++ r ++ fourB (r.length / 4)).drop (o.length + r.length) = fourB (r.length / 4) := List.drop_left' (by simp)
  have hnk : numK (fourB (r.length / 4)) 4 = r.length / 4 := by
    have := numK_fourB (r.length / 4) [] (by omega)
    rw [List.append_nil] at this
    exact this
  unfold splitB
  rw [hl, if_neg (by omega), Nat.add_sub_cancel, hd, hnk]
  simp only
  rw [if_neg (by omega), show o.length + r.length - 4 * (r.length / 4) = o.length by omega]
  congr 2
  · rw [List.append_assoc]
    exact List.take_left' rfl
  · rw [show (o ++ r ++ fourB (r.length / 4)).take (o.length + r.length) = o ++ r from List.take_left' (by simp)]
    exact List.drop_left' rfl
theorem out_congr {ev ev2 : Nat} {es : List En} : ∀ {n : Nat}, (∀ i, i < n → (i % ev = 0 ↔ i % ev2 = 0)) → outB ev es n = outB ev2 es n ∧ rsB ev es n = rsB ev2 es n
  | 0, _ => ⟨rfl, rfl⟩
  | n + 1, h => by
    obtain ⟨h1, h2⟩ := out_congr (ev := ev) (ev2 := ev2) (es := es) (n := n) (fun i hi => h i (by omega))
    have hs : shB ev es n = shB ev2 es n := by
      unfold shB
      by_cases e : n % ev = 0
      · rw [if_pos e, if_pos ((h n (by omega)).1 e)]
      · rw [if_neg e, if_neg (fun e2 => e ((h n (by omega)).2 e2))]
    refine ⟨?_, ?_⟩
    · rw [outB, outB, h1, hs]
    · rw [rsB, rsB, h1, h2]
      by_cases e : n % ev = 0
      · rw [if_pos e, if_pos ((h n (by omega)).1 e)]
      · rw [if_neg e, if_neg (fun e2 => e ((h n (by omega)).2 e2))]
theorem build_congr {ev ev2 : Nat} {es : List En} (h : ∀ i, i < es.length → (i % ev = 0 ↔ i % ev2 = 0)) : buildE ev es = buildE ev2 es := by
  have hf : fullB ev es = fullB ev2 es := by
    obtain ⟨h1, h2⟩ := out_congr (ev := ev) (ev2 := ev2) (es := es) h
    unfold fullB
    rw [h1, h2]
  unfold buildE
  rw [hf]
/-- What was built is read. -/
theorem dec_build {ev : Nat} {es : List En} (he : 1 ≤ ev) (hw : ∀ x ∈ es, U64 x.seq ∧ x.kind < 256) (hb : (buildE ev es).2 = 0) : decB (buildE ev es).1 = (es, 0) := by
  obtain ⟨h1, h2, h3, h4, h5⟩ := buildE_ord hb
  have hz := longE_no h3
  rw [h4]
  unfold decB
  rw [openG_one _ h5]
  simp only
  rw [if_neg (by simp)]
  have hsp := split_full h5
  have hmn : ∀ i, i < es.length → (outB ev es i).length < (outB ev es (i + 1)).length := fun i hi => by
    obtain ⟨x, hx⟩ : ∃ x, es[i]? = some x := ⟨_, List.getElem?_eq_getElem hi⟩
    rw [outB_step hx, List.length_append]
    have := entB_pos (shB ev es i) x
    omega
  by_cases hev : ev < es.length
  · -- two restarts at least
    obtain ⟨R, hR⟩ := rsB_pre ev es (ev + 1) es.length hev
    rw [rsB, if_pos (Nat.mod_self ev), rsB_one he (Nat.le_refl _)] at hR
    have hrl : 8 ≤ (rsB ev es es.length).length := by
      rw [hR]
      simp only [List.length_append, fourB_len]
      omega
    have hol : (outB ev es ev).length ≤ 1048576 := by
      have := outB_mono ev es ev es.length (by omega)
      unfold fullB at h5
      simp only [List.length_append] at h5
      omega
    have hnk : numK ((rsB ev es es.length).drop 4) 4 = (outB ev es ev).length := by
      rw [hR, List.append_assoc, List.drop_left' (fourB_len 0)]
      exact numK_fourB _ _ (by omega)
    have hpb : parB (fullB ev es) = some (es, ev) := by
      unfold parB
      rw [hsp]
      simp only
      rw [if_pos hrl, hnk]
      have hmono : ∀ i, i < es.length → (((outB ev es i).length : Int) = ((outB ev es ev).length : Int) ↔ i = ev) := fun i hi => by
        constructor
        · intro h
          have h : (outB ev es i).length = (outB ev es ev).length := by omega
          rcases Nat.lt_trichotomy i ev with e | e | e
          · have a1 := hmn i hi
            have a2 := outB_mono ev es (i + 1) ev (by omega)
            omega
          · exact e
          · have a1 := hmn ev hev
            have a2 := outB_mono ev es (ev + 1) i (by omega)
            omega
        · intro h; rw [h]
      have hp := par_from (sec := ((outB ev es ev).length : Int)) hz hw (fun i c => if i ≤ ev then ev else c) (fun c => by show (if es.length ≤ ev then ev else c) = c; rw [if_neg (by omega)]) (fun i c hi => by
        show (if i ≤ ev then ev else c) = (if i + 1 ≤ ev then ev else (if ((outB ev es i).length : Int) = ((outB ev es ev).length : Int) then i else c))
        by_cases e : i = ev
        · rw [if_pos (by omega), if_neg (by omega), if_pos ((hmono i hi).2 e), e]
        · rw [if_neg (fun h => e ((hmono i hi).1 h))]
          by_cases e2 : i ≤ ev
          · rw [if_pos e2, if_pos (by omega)]
          · rw [if_neg e2, if_neg (by omega)]) es.length 0 ((outB ev es es.length).length + 1) 0 (by omega) (by
          have key : ∀ i, i ≤ es.length → i ≤ (outB ev es i).length := by
            intro i
            induction i with
            | zero => intro _; exact Nat.zero_le _
            | succ i ih => intro h; have := ih (by omega); have := hmn i (by omega); omega
          have := key es.length (Nat.le_refl _)
          omega)
      simp only [outB, List.length_nil, List.take_zero, Nat.zero_le, if_true] at hp
      rw [hp]
      simp only
      rw [if_neg (by omega)]
    rw [hpb, show decP (sealB (fullB ev es)) (some (es, ev)) = if (buildZ ev es).2 = 0 ∧ (buildZ ev es).1 = sealB (fullB ev es) then (es, 0) else ([], 3) from rfl]
    rw [show buildZ ev es = buildE ev es from if_neg (by omega), if_pos ⟨hb, h4⟩]
  · -- one restart alone
    have hrl : ¬ 8 ≤ (rsB ev es es.length).length := by
      rcases Nat.eq_zero_or_pos es.length with e | e
      · rw [e]; simp [rsB]
      · rw [rsB_one e (by omega)]
        rw [fourB_len]
        omega
    have hpb : parB (fullB ev es) = some (es, max es.length 1) := by
      unfold parB
      rw [hsp]
      simp only
      rw [if_neg hrl]
      have hp := par_from (sec := -1) hz hw (ev := ev) (fun _ c => c) (fun c => rfl) (fun i c hi => by
        show c = (if ((outB ev es i).length : Int) = -1 then i else c)
        rw [if_neg (by omega)]) es.length 0 ((outB ev es es.length).length + 1) 0 (by omega) (by
          have key : ∀ i, i ≤ es.length → i ≤ (outB ev es i).length := by
            intro i
            induction i with
            | zero => intro _; exact Nat.zero_le _
            | succ i ih => intro h; have := ih (by omega); have := hmn i (by omega); omega
          have := key es.length (Nat.le_refl _)
          omega)
      simp only [outB, List.length_nil, List.take_zero] at hp
      rw [hp]
      simp only
      rw [if_pos (by omega)]
    have hbe : buildE (max es.length 1) es = buildE ev es := build_congr (fun i hi => by
      have e1 : i % max es.length 1 = i := Nat.mod_eq_of_lt (by omega)
      have e2 : i % ev = i := Nat.mod_eq_of_lt (by omega)
      rw [e1, e2])
    rw [hpb, show decP (sealB (fullB ev es)) (some (es, max es.length 1)) = if (buildZ (max es.length 1) es).2 = 0 ∧ (buildZ (max es.length 1) es).1 = sealB (fullB ev es) then (es, 0) else ([], 3) from rfl]
    rw [show buildZ (max es.length 1) es = buildE (max es.length 1) es from if_neg (by omega), hbe, if_pos ⟨hb, h4⟩]
theorem ord_of_sort {es : List En} (h : SortL es) : ordE es = true := by
  have key : ∀ k, k < es.length ∨ k = 0 → ordK es k = true := by
    intro k
    induction k with
    | zero => intro _; rfl
    | succ k ih =>
      intro hk
      have hk : k + 1 < es.length := by omega
      obtain ⟨a, ha⟩ : ∃ a, es[k]? = some a := ⟨_, List.getElem?_eq_getElem (by omega)⟩
      obtain ⟨b, hb⟩ : ∃ b, es[k + 1]? = some b := ⟨_, List.getElem?_eq_getElem hk⟩
      have hs := List.pairwise_iff_getElem.1 h k (k + 1) (by omega) hk (by omega)
      rw [(List.getElem?_eq_some_iff.1 ha).2, (List.getElem?_eq_some_iff.1 hb).2] at hs
      rw [ordK_step ha hb, ih (.inl (by omega)), hs]
      rfl
  exact key _ (by omega)
/-- Of entries in order, each in form, Build answers the block, or that it is too long. -/
theorem build_sorted {ev : Nat} {es : List En} (hs : SortL es) (hok : ∀ x ∈ es, okE x = true) : (buildE ev es).2 = 0 ∨ buildE ev es = ([], 2) := by
  have h1 : es.any longE = false := by
    rw [List.any_eq_false]
    intro x hx
    rw [(okE_iff.1 (hok x hx)).1]
    simp
  have h2 : es.all formE = true := by
    rw [List.all_eq_true]
    intro x hx
    exact (okE_iff.1 (hok x hx)).2
  have h3 := ord_of_sort hs
  unfold buildE
  rw [h1, h2, h3]
  simp only [Bool.false_eq_true, if_false, Bool.and_self, if_true]
  split
  · exact .inr rfl
  · exact .inl rfl
end Go.Proofs.Ytcclhkoggijkaaa
namespace Go.Proofs.Ytcclhkoggijkaaa
open Go Go.RowKit Go.Maps

section
variable {w : World} {p : Nat} {m : Option Nat} {rs : List FR} {room used left : Int} {dead armed : Bool}
/-- A call that asks for a file, where turn says no: a dead disk, no such file, the disk dies. -/
def RetNo (w : World) (k : Int) (e : Ending) (w' : World) : Prop := e = .returned (.int .i64 k) ∧ w = w'
theorem remove_dead (x : List UInt8) (h : DskR w p m rs room used left true armed) :
    Calls Try.prog 150 #[.pointer (some ⟨p, 0, none⟩), .string (tx x)] w (RetNo w 9) := by
  go_enter Try.func150, Try.ntmps150
  go_wp2_with fail
  refine (find_dead x h).mono ?_
  rintro e w' ⟨rfl, rfl⟩
  go_wp2_with fail
  refine (turn_err (p := p) (w := w) (e := 9) (by decide)).mono ?_
  rintro e w' ⟨rfl, rfl⟩
  go_wp2
  go_ret
  exact ⟨rfl, rfl⟩
theorem remove_none (x : List UInt8) (h : DskR w p m rs room used left false armed) (hx : ∀ r ∈ rs, r.name ≠ x) (hl : x.length ≤ maxLen) :
    Calls Try.prog 150 #[.pointer (some ⟨p, 0, none⟩), .string (tx x)] w (RetNo w 6) := by
  go_enter Try.func150, Try.ntmps150
  go_wp2_with fail
  refine (find_none x h hx hl).mono ?_
  rintro e w' ⟨rfl, rfl⟩
  go_wp2_with fail
  refine (turn_err (p := p) (w := w) (e := 6) (by decide)).mono ?_
  rintro e w' ⟨rfl, rfl⟩
  go_wp2
  go_ret
  exact ⟨rfl, rfl⟩
theorem remove_kill {r : FR} (h : DskR w p m rs room used 0 false true) (hr : r ∈ rs) (hl : r.name.length ≤ maxLen) :
    Calls Try.prog 150 #[.pointer (some ⟨p, 0, none⟩), .string (tx r.name)] w (RetHd w p (headV m room used 0 true false) (.int .i64 9)) := by
  go_enter Try.func150, Try.ntmps150
  go_wp2_with fail
  refine (find_some h hr hl).mono ?_
  rintro e w' ⟨rfl, rfl⟩
  go_wp2_with fail
  refine (turn_kill h).mono ?_
  rintro e w1 ⟨rfl, hH⟩
  go_wp2
  go_ret
  exact ⟨rfl, hH⟩
set_option maxRecDepth 100000 in
set_option maxHeartbeats 1000000 in
theorem remove_some {r : FR} (u : Nat) (h : DskR w p m rs room (u : Int) left false armed) (hu : rsUp rs) (hr : r ∈ rs) (hl : r.name.length ≤ maxLen) (hl2 : 0 ≤ left ∧ left ≤ 9223372036854775807) (ht : tE armed left = 0) (hru : r.dat.length ≤ u) (hu2 : u ≤ 9223372036854775807) :
    Calls Try.prog 150 #[.pointer (some ⟨p, 0, none⟩), .string (tx r.name)] w (RetDel w p m rs r.name room ((u - r.dat.length : Nat) : Int) (tL armed left) false armed (.int .i64 0)) := by
  obtain ⟨t1, t2⟩ := tE_done (dead := false) ht
  have hT := turn_zero h hl2
  rw [ht, t1, t2] at hT
  have HT := Lib.hid hT
  clear hT t1 t2 ht
  go_enter Try.func150, Try.ntmps150
  go_wp2_with fail
  refine (find_some h hr hl).mono ?_
  rintro e w' ⟨rfl, rfl⟩
  go_wp2_with fail
  refine HT.out.mono ?_
  clear HT
  rintro e w1 ⟨rfl, hH⟩
  have hD1 := h.turn hH.1 hH.2
  go_wp2_with fail
  refine (drop_some u hD1 hu hr hl hru hu2).mono ?_
  rintro e w2 ⟨rfl, hD2, hF2⟩
  have hfin : RetDel w p m rs r.name room ((u - r.dat.length : Nat) : Int) (tL armed left) false armed (.int .i64 0) (.returned (.int .i64 0)) w2 := by
    refine ⟨rfl, hD2, ?_⟩
    have f1 : Fr w w1 (allB p m rs) := hH.1.mono (fun b hb => .inl (by rw [List.mem_singleton] at hb; rw [hb]; exact mem_head))
    exact f1.trans hF2 (fun b hb => .inl hb)
  have HFIN := Lib.hid hfin
  clear hfin hD1 hD2 hF2 hH
  go_wp2
  go_ret
  exact HFIN.out

end
end Go.Proofs.Ytcclhkoggijkaaa
namespace Go.Proofs.Ytcclhkoggijkaaa
open Go Go.RowKit

/-- The entries of the places that p picks, of the first k. -/
def pkE (p : Nat → Bool) (es : List En) : Nat → List En
  | 0 => []
  | k + 1 => pkE p es k ++ (if p k then (es[k]?).toList else [])
theorem pkE_snoc {p : Nat → Bool} {es : List En} {k : Nat} {x : En} (h : es[k]? = some x) : pkE p es (k + 1) = pkE p es k ++ (if p k then [x] else []) := by rw [pkE, h]; rfl
theorem pkE_len (p : Nat → Bool) (es : List En) : ∀ k, (pkE p es k).length ≤ k
  | 0 => Nat.le_refl _
  | k + 1 => by
    have := pkE_len p es k
    rw [pkE, List.length_append]
    split
    · cases es[k]? <;> simp <;> omega
    · simp; omega
theorem pkE_mem {p : Nat → Bool} {es : List En} {x : En} : ∀ {k}, x ∈ pkE p es k → x ∈ es
  | k + 1, h => by
    rw [pkE] at h
    rcases List.mem_append.1 h with h | h
    · exact pkE_mem h
    · split at h
      · cases hk : es[k]? with
        | none => rw [hk] at h; cases h
        | some y =>
          rw [hk] at h
          have : x = y := by simpa using h
          rw [this]
          exact List.mem_of_getElem? hk
      · cases h
def visP (es : List En) (ms : List Nat) (i : Nat) : Bool := (match es[i]? with
  | some x => decide (x.kind = 1)
  | none => false) && seenE es i ms
theorem visP_at {es : List En} {ms : List Nat} {i : Nat} {x : En} (h : es[i]? = some x) : visP es ms i = (decide (x.kind = 1) && seenE es i ms) := by unfold visP; rw [h]
/-- Copies of entries, or an error. -/
def RetMg (w : World) (z : Int) (es : List En) (e : Ending) (w' : World) : Prop :=
  (z ≠ 0 ∧ e = .returned (.tuple #[.slice none 0 0, .int .i64 z]) ∧ Below w.heap.size w w') ∨
  (z = 0 ∧ ∃ L n c, e = .returned (.tuple #[.slice L n c, .int .i64 0]) ∧ RowE w w.heap.size L n c es w')
theorem RowE.lower {w wr w' : World} {L : Option Addr} {i d : Nat} {es : List En} (h : RowE wr wr.heap.size L i d es w') (hb : Below w.heap.size w wr) : RowE w w.heap.size L i d es w' := by
  obtain ⟨vs, r1, r2, r3, r4, r5, r6, r7⟩ := h
  have hs := hb.size
  have h1 := belowT' hb r5
  exact ⟨vs, OwnE.mono r1 hs, EOs.mono hs r2, r3, r4, h1, h1.size, r7.mono hs⟩
theorem RLs_one {w : World} {A : Option Addr} {n c : Nat} {es : List En} {t : TypeId} (h : REs w A n es) (hc : n ≤ c) : RLs (w.alloc (.cells #[.slice A n c] t)) (some ⟨w.heap.size, 0, none⟩) 1 [es] := by
  refine ⟨rfl, fun _ => ⟨w.heap.size, 0, rfl, by simp, fun i fs hi => ?_⟩⟩
  have hi0 : i = 0 := by have := (List.getElem?_eq_some_iff.1 hi).1; simp at this; exact this
  subst hi0
  injection hi with hi
  subst hi
  exact ⟨A, n, c, (Cl.new w #[.slice A n c] t).cell 0, h.below ((Below.refl _ _).alloc (Nat.le_refl _) _), hc⟩
theorem RdU_one (w : World) (m : Nat) (h : U64 m) (t : TypeId) : RdU (w.alloc (.cells #[.int .u64 (m : Int)] t)) (some ⟨w.heap.size, 0, none⟩) 1 [m] := by
  refine ⟨⟨rfl, fun _ => ⟨w.heap.size, 0, rfl, by simp, fun i v hi => ?_⟩⟩, fun k hk => by rw [List.mem_singleton] at hk; rw [hk]; exact h⟩
  have hi0 : i = 0 := by have := (List.getElem?_eq_some_iff.1 hi).1; simp at this; exact this
  subst hi0
  injection hi with hi
  subst hi
  exact (Cl.new w #[.int .u64 (m : Int)] t).cell 0
end Go.Proofs.Ytcclhkoggijkaaa
namespace Go.Proofs.Ytcclhkoggijkaaa
open Go Go.RowKit

theorem refFour8_any (n : Nat) (w : World) (hn : n < B64) : Calls Try.prog 119 #[.int .i64 n] w (MadeR w.heap.size w (fourB n)) := by
  have hw8 : IntKind.u64.wrap (n : Int) = (n : Int) := u64_nat n hn
  go_enter Try.func119, Try.ntmps119
  go_wp2_with fail
  refine (refOrdU_any n _ hn).mono ?_
  rintro e w' ⟨A, m, c, rfl, ho, hb⟩
  have hm : m = 8 := by rw [← ho.len]; rfl
  subst hm
  have hc8 := ho.cap.1
  have hr := ho.rd.cut (k := 4) (m := 8) (cap := c) (by omega) (by omega) (by omega)
  obtain ⟨g, rfl, hg, _⟩ := ho.form (by omega)
  rw [show cutA (some ⟨g, 0, none⟩) 4 c = some ⟨g, 4, none⟩ by unfold cutA; rw [if_neg (by omega)]; simp [Addr.add]] at hr
  have R := Lib.hid hr
  clear hr
  go_wp2
  go_ret
  refine ⟨_, _, _, rfl, R.out, ?_, hb⟩
  intro b off h
  injection h with h
  injection h with h
  omega
theorem CS.app8 {w0 wr wx : World} {O O' R : Option Addr} {n m oc rc oc' : Nat} {out ys rs : List UInt8} (h : CS w0 O oc out R rc rs wr) (hn : n = out.length) (ho : Own 5 wx w0.heap.size O' (n + m) oc' (out ++ ys)) (hm : ys.length = m) (hg : Grow wr wx O O') : CS w0 O' oc' (out ++ ys) R rc rs wx ∧ n + m = (out ++ ys).length := by
  have e : n + m = (out ++ ys).length := by rw [List.length_append, hn, hm]
  refine ⟨h.left (by rw [← e]; exact ho) hg, e⟩
/-- The kind that stands before entry k+1 is looked at. -/
def refE (es : List En) (k : Nat) : Int := if es.all formE && ordK es k then 0 else 3
theorem refE_check {es : List En} (h : es.any longE = false) : checkE es = refE es (0 - 1) := by
  rw [checkE, h, refE, ordK]
  simp
theorem refE_one {es : List En} : refE es 0 = refE es (0 - 1) := rfl
theorem refE_next {es : List En} {i : Nat} {a b : En} (h1 : es[i]? = some a) (h2 : es[i + 1]? = some b) : refE es (i + 1) = if lessE a b then refE es i else 3 := by
  rw [refE, ordK_step h1 h2, refE]
  cases lessE a b <;> simp
theorem outB_len {ev : Nat} {es : List En} (hs : ∀ x ∈ es, x.key.length ≤ 1024 ∧ x.val.length ≤ 65536) (hw : ∀ x ∈ es, U64 x.seq) : ∀ i, i ≤ es.length → (outB ev es i).length ≤ 66700 * i
  | 0, _ => by simp [outB]
  | i + 1, hi => by
    have ih := outB_len (ev := ev) hs hw i (by omega)
    have hx : es[i]? = some es[i] := List.getElem?_eq_getElem (by omega)
    rw [outB_step hx, List.length_append]
    have hm : es[i] ∈ es := List.getElem_mem (by omega)
    have := entB_len (s := shB ev es i) (x := es[i]) (shB_le (ev := ev) hx) (hs _ hm).1 (hs _ hm).2 (hw _ hm)
    omega
set_option maxRecDepth 100000 in
set_option maxHeartbeats 16000000 in
theorem refBuild8_any {w : World} {A : Option Addr} {n c : Nat} {es : List En} (h : REs w A n es) (hn : n ≤ 4194304) (hz : ∀ x ∈ es, SzE x) (ev : Nat) (he : 1 ≤ ev) (he2 : ev ≤ 9223372036854775807) :
    Calls Try.prog 61 #[.int .i64 (ev : Int), .slice A n c] w (RetBb w (buildE ev es)) := by
  have HM : Hid (Calls Try.prog 59 #[.slice A n c] w (RetNu w (checkE es))) := Lib.hid (refCheck_any h (by omega) hz)
  have HR := Lib.hid h
  have HL := Lib.hid h.len
  have HW := Lib.hid h.wf
  have HZ := Lib.hid hz
  clear h hz
  cases hlo : es.any longE with
  | true =>
    have hc : checkE es = 2 := by rw [checkE, hlo]; rfl
    have hb : buildE ev es = ([], 2) := by rw [buildE, hlo]; rfl
    rw [hc] at HM
    have HB := Lib.hid hb
    clear hlo hc hb
    go_enter Try.func61, Try.ntmps61
    go_wp2_with fail
    with_reducible refine HM.out.mono ?_
    rintro e w1 ⟨rfl, b1⟩
    go_wp2_with fail
    exact bodyPost_ret (v := .tuple #[.slice none 0 0, .int .i64 2]) (by simp [results, Try.f61, go_sem]; try rfl) rfl (RetBb.no HB.out b1)
  | false =>
    have HS := Lib.hid (longE_no hlo)
    obtain ⟨z0, hz0⟩ : ∃ z0, z0 = refE es (0 - 1) := ⟨_, rfl⟩
    have hz3 : z0 = 0 ∨ z0 = 3 := by rw [hz0, refE]; split <;> simp
    have hck : checkE es = z0 := by rw [refE_check hlo, hz0]
    rw [hck] at HM
    have HZ0 := Lib.hid hz0
    have HLO := Lib.hid hlo
    have ht2 : ((z0 : Int) == 2) = false := by rcases hz3 with h | h <;> (subst h; rfl)
    have ht3 : ¬ (z0 : Int) = 2 := by omega
    clear hlo hck hz0 hz3
    go_enter Try.func61, Try.ntmps61
    go_wp2_with fail
    with_reducible refine HM.out.mono ?_
    rintro e w1 ⟨rfl, b1⟩
    have HB1 := Lib.hid b1
    clear b1 HM
    go_wp2_with fail
    go_loopw [6, 7, 8, 9, 10] (fun s6 s7 s8 s9 s10 wr => ∃ (i on rn sn : Nat) (O R : Option Addr) (oc rc : Nat) (z : Int), i ≤ n ∧ s10 = .int .i64 (i : Int) ∧ on = (outB ev es i).length ∧ rn = (rsB ev es i).length ∧ 4 * sn = rn ∧ s6 = .int .i64 z ∧ z = refE es (i - 1) ∧ s7 = .slice O on oc ∧ s8 = .slice R rn rc ∧ s9 = .int .i64 (sn : Int) ∧ CS w O oc (outB ev es i) R rc (rsB ev es i) wr) (fun _ _ _ _ s _ => n - (intOf s).toNat)
    case atStart => exact ⟨0, 0, 0, 0, none, none, 0, 0, z0, Nat.zero_le _, rfl, rfl, rfl, rfl, rfl, HZ0.out, rfl, rfl, rfl, Own.nil _ _ _, Own.nil _ _ _, dj_none _, HB1.out⟩
    case round =>
      obtain ⟨i, on, rn, sn, O, R, oc, rc, z, hi, rfl, hon, hrn, hsn, rfl, hze, rfl, rfl, rfl, hC⟩ := hrel
      have hrl := rsB_len ev es i
      have hol := outB_len (ev := ev) HS.out (fun x hx => (HW.out x hx).1) i (by rw [HL.out]; exact hi)
      have hrn4 : rn ≤ 4 * i := by omega
      have hon4 : on ≤ 66700 * i := by omega
      have hsn4 : sn ≤ 16777216 := by omega
      have HON := Lib.hid hon
      have HRN := Lib.hid hrn
      have HSN := Lib.hid hsn
      have HZE := Lib.hid hze
      have HC := Lib.hid hC
      have hbC := hC.2.2.2
      clear hon hrn hC hrl hsn hze hol
      by_cases hlt : i < n
      · -- A0
        obtain ⟨b, off, hAb, hbl⟩ := HR.out.pos (by omega)
        subst hAb
        obtain ⟨x, v0, v1, v2, v3, hx, c0', c1', c2', c3', hev⟩ := HR.out.at_ i hlt
        have c0 := (hbC.cell (p := ⟨b, off + i * 4, none⟩) hbl).trans c0'
        have HXI := Lib.hid hx
        have HXS := Lib.hid (HS.out x (List.mem_of_getElem? hx))
        have HXW := Lib.hid (HW.out x (List.mem_of_getElem? hx))
        have HEV := Lib.hid hev
        obtain ⟨K, kn, kc, V, vn, vc, rfl, rfl, rfl, rfl, r0, r3, q0, q3, _⟩ := hev.parts
        have HR0 := Lib.hid r0
        have HR3 := Lib.hid r3
        obtain ⟨m, hm⟩ : ∃ m, m = i % ev := ⟨_, rfl⟩
        have e1 : ((i : Int) % (ev : Int)) = (m : Int) := by rw [hm]; push_cast; rfl
        have hml : m < 9223372036854775807 := by have := Nat.mod_lt i (show 0 < ev by omega); omega
        have HM := Lib.hid hm
        obtain ⟨sh, hsh⟩ : ∃ sh, sh = shB ev es i := ⟨_, rfl⟩
        have HSH := Lib.hid hsh
        have C1 := Lib.hid c1'
        have C2 := Lib.hid c2'
        have C3 := Lib.hid c3'
        have C0 := Lib.hid c0'
        clear hx hev r0 r3 hm hsh c0' c1' c2' c3'
        go_upto_if 32 with (fail)
        obtain ⟨rs2, hrs2⟩ : ∃ rs2, rs2 = rsB ev es (i + 1) := ⟨_, rfl⟩
        obtain ⟨rn2, hrn2⟩ : ∃ rn2, rn2 = rs2.length := ⟨_, rfl⟩
        have HRS2 := Lib.hid hrs2
        have HRN2 := Lib.hid hrn2
        clear hrs2 hrn2
        go_cut [8, 9, 11, 12, 13] from 29 to 73 (fun s8 s9 s11 s12 s13 wx => ∃ (R' : Option Addr) (rc' sn' : Nat), s8 = .slice R' rn2 rc' ∧ s9 = .int .i64 (sn' : Int) ∧ 4 * sn' = rn2 ∧ s11 = .int .i64 (sh : Int) ∧ CS w O oc (outB ev es i) R' rc' rs2 wx)
        case first =>
          by_cases hm0 : m = 0
          · subst hm0
            have hrs : rs2 = rsB ev es i ++ fourB on := by rw [HRS2.out, rsB, if_pos HM.out.symm, ← HON.out]
            have hsh0 : sh = 0 := by rw [HSH.out, shB, if_pos HM.out.symm]
            subst hsh0
            have hln : rn + 4 = rn2 := by rw [HRN2.out, hrs, List.length_append, ← HRN.out]; rfl
            have HRS := Lib.hid hrs
            have HLN := Lib.hid hln
            clear hrs hln
            go_wp2_with fail
            with_reducible refine (refFour8_any on wr (by unfold B64; omega)).mono ?_
            rintro e w2 ⟨F, fn, fc, rfl, hF, hFb, b2⟩
            have hfn : fn = 4 := by rw [← hF.len]; rfl
            subst hfn
            have HC2 := Lib.hid (HC.out.below b2)
            have hR2 := HC2.out.2.1
            rw [← HRN.out] at hR2
            have hsz2 := HC2.out.2.2.2.size
            clear hFb b2
            go_wp2_with (at_builtin; refine wpList_appX _ rfl _ _ 25 rfl w.heap.size 5 Try.underlying25 info_u8 R rn rc _ rfl hR2 F 4 fc (fourB on) rfl hF ?_ ?_ ?_)
            · omega
            · exact hsz2
            intro R' rc' w3 oR gR
            rw [HLN.out, ← HRS.out] at oR
            rw [HLN.out]
            have HF := Lib.hid (show CS w O oc (outB ev es i) R' rc' rs2 w3 from HC2.out.right (by rw [← HRN2.out]; exact oR) gR)
            clear oR gR hR2 hF
            go_wp2_with fail
            go_meet
            case rel => exact ⟨R', rc', sn + 1, by first | rfl | simp, by go_num, by have := HSN.out; have := HLN.out; omega, by first | rfl | simp, HF.out⟩
          · have t1 : ((m : Int) == 0) = false := by simp; omega
            have hrs : rs2 = rsB ev es i := by rw [HRS2.out, rsB, if_neg (by rw [← HM.out]; exact hm0)]
            obtain ⟨j, hj⟩ : ∃ j, j = i - 1 := ⟨_, rfl⟩
            have hi0 : 0 < i := by
              rcases Nat.eq_zero_or_pos i with h0 | h0
              · exact absurd (by rw [HM.out, h0, Nat.zero_mod]) hm0
              · exact h0
            obtain ⟨y, u0, u1, u2, u3, hy, d0', d1', d2', d3', hew⟩ := HR.out.at_ j (by omega)
            obtain ⟨L, ln, lc, _, _, _, hu0, _, _, _, r0', _⟩ := hew.parts
            subst hu0
            have hsh2 : sh = comB y.key x.key := by
              rw [HSH.out, shB, if_neg (by rw [← HM.out]; exact hm0), ← hj, hy, HXI.out]
            have hsy := HS.out y (List.mem_of_getElem? hy)
            have hkl := HR0.out.len
            have hll := r0'.len
            have hkn1 : kn ≤ 1099511627776 := by have := HXS.out.1; omega
            have hln1 : ln ≤ 1099511627776 := by omega
            have d0 : wr.cell? ⟨b, off + j * 4, none⟩ = some (.slice L ln lc) := (hbC.cell (p := ⟨b, off + j * 4, none⟩) hbl).trans d0'
            have e2 : IntKind.i64.wrap ((i : Int) - 1) = (j : Int) := by rw [IntWalk.i64_in _ (by omega)]; omega
            have hjn : j < n := by omega
            have HY := Lib.hid (r0'.below hbC)
            have HX := Lib.hid (HR0.out.below hbC)
            have HSH2 := Lib.hid hsh2
            have HRS := Lib.hid hrs
            have HJ := Lib.hid hj
            have hle := comB_le y.key x.key
            rw [← hsh2] at hle
            have hle2 : sh ≤ ln ∧ sh ≤ kn := by omega
            have hln : rn = rn2 := by rw [HRN2.out, hrs, ← HRN.out]
            have HLN := Lib.hid hln
            clear hrs hj hy d0' d1' d2' d3' hew r0' hsh2 hsy hle hln hkl hll
            have HSN2 : Hid (4 * sn = rn2) := Lib.hid (by have := HSN.out; have := HLN.out; omega)
            have HCD : Hid (∀ q1 q2, CS w O oc (outB ev es i) R rc rs2 ((wr.drewN q1).drewN q2)) := Lib.hid (fun q1 q2 => by
              rw [HRS.out]
              exact (HC.out.below (below_drewN (Below.refl _ _) q1)).below (below_drewN (Below.refl _ _) q2))
            obtain ⟨w0, rfl⟩ : ∃ w0, w0 = wr := ⟨_, rfl⟩
            go_wp2_with fail
            go_quiet (fail)
            obtain ⟨q0, hq0⟩ : ∃ q0 : Nat, q0 = nq := ⟨_, rfl⟩
            rw [← hq0]
            clear hq0
            go_wp2_with fail
            go_loopw [11] (fun vi wx => ∃ t q : Nat, vi = .int .i64 (t : Int) ∧ t ≤ sh ∧ wx = w0.drewN q) (fun vi _ => sh - (intOf vi).toNat)
            case atStart => exact ⟨0, q0, rfl, Nat.zero_le _, rfl⟩
            case round =>
              obtain ⟨t, q, rfl, ht, rfl⟩ := hrel
              obtain ⟨W, hW⟩ : ∃ W, W = w0.drewN q := ⟨_, rfl⟩
              by_cases htl : t < sh
              · obtain ⟨by_, h1, h2⟩ := comB_lt (xs := y.key) (ys := x.key) (i := t) (by rw [← HSH2.out]; exact htl)
                have hin : t < ln := by omega
                have him : t < kn := by omega
                obtain ⟨ba, oa, rfl, _⟩ := HY.out.pos (by omega)
                obtain ⟨bb, ob, rfl, _⟩ := HX.out.pos (by omega)
                obtain ⟨x1, hx1, hx2, _⟩ := HY.out.at_ t hin
                obtain ⟨y1, hy1, hy2, _⟩ := HX.out.at_ t him
                obtain rfl : x1 = y1 := by
                  rw [h1] at hx1; rw [h2] at hy1
                  rw [← Option.some.inj hx1, ← Option.some.inj hy1]
                have c1 : W.cell? ⟨ba, oa + t, none⟩ = some (.int .u8 (x1.toNat : Int)) := by rw [hW]; exact hx2
                have c2 : W.cell? ⟨bb, ob + t, none⟩ = some (.int .u8 (x1.toNat : Int)) := by rw [hW]; exact hy2
                rw [← hW]
                have HW2 := Lib.hid hW
                clear hW h1 h2 hx1 hx2 hy1 hy2
                go_wp2_with fail
                go_quiet (fail)
                rw [HW2.out]
                go_wp2_with fail
                go_roundw
                case rel => exact ⟨t + 1, _, by go_num, by omega, rfl⟩
                case measure => simp [intOf]; omega
              · obtain rfl : t = sh := by omega
                rcases comB_at (xs := y.key) (ys := x.key) (i := t) HSH2.out with h1 | h1 | ⟨a1, a2, h1, h2, h3⟩
                · have hin : ¬ t < ln := by have := HY.out.len; omega
                  rw [← hW]
                  have HW2 := Lib.hid hW
                  have d1 : decide (t < ln) = false := by simpa using hin
                  clear hW h1
                  go_wp2_with fail
                  go_quiet (fail)
                  rw [HW2.out]
                  go_wp2_with fail
                  go_meet
                  case rel => exact ⟨R, rc, sn, by rw [HLN.out], rfl, HSN2.out, rfl, HCD.out _ _⟩
                · have him : ¬ t < kn := by have := HX.out.len; omega
                  rw [← hW]
                  have HW2 := Lib.hid hW
                  clear hW h1 htl ht
                  by_cases hin : t < ln
                  · have d1 : decide (t < ln) = true := by simpa using hin
                    have d2 : decide (t < kn) = false := by simpa using him
                    have d3 : decide ((t : Int) < (kn : Int)) = false := by simp; omega
                    have d4 : decide (kn ≤ t) = true := by simp; omega
                    go_wp2_with fail
                    go_quiet (fail)
                    rw [HW2.out]
                    go_wp2_with fail
                    go_meet
                    case rel => exact ⟨R, rc, sn, by rw [HLN.out], rfl, HSN2.out, rfl, HCD.out _ _⟩
                  · have d1 : decide (t < ln) = false := by simpa using hin
                    have d4 : decide (ln ≤ t) = true := by simp; omega
                    go_wp2_with fail
                    go_quiet (fail)
                    rw [HW2.out]
                    go_wp2_with fail
                    go_meet
                    case rel => exact ⟨R, rc, sn, by rw [HLN.out], rfl, HSN2.out, rfl, HCD.out _ _⟩
                · have hin : t < ln := by have := (List.getElem?_eq_some_iff.1 h1).1; have := HY.out.len; omega
                  have him : t < kn := by have := (List.getElem?_eq_some_iff.1 h2).1; have := HX.out.len; omega
                  obtain ⟨ba, oa, rfl, _⟩ := HY.out.pos (by omega)
                  obtain ⟨bb, ob, rfl, _⟩ := HX.out.pos (by omega)
                  obtain ⟨x1, hx1, hx2, _⟩ := HY.out.at_ t hin
                  obtain ⟨y1, hy1, hy2, _⟩ := HX.out.at_ t him
                  have hne : x1.toNat ≠ y1.toNat := fun e => h3 (by
                    rw [h1] at hx1; rw [h2] at hy1
                    rw [Option.some.inj hx1, Option.some.inj hy1]
                    exact UInt8.toNat_inj.1 e)
                  have t1 : ((x1.toNat : Int) == (y1.toNat : Int)) = false := by simp; omega
                  have t2 : ¬ (x1.toNat : Int) = (y1.toNat : Int) := by omega
                  have c1 : W.cell? ⟨ba, oa + t, none⟩ = some (.int .u8 (x1.toNat : Int)) := by rw [hW]; exact hx2
                  have c2 : W.cell? ⟨bb, ob + t, none⟩ = some (.int .u8 (y1.toNat : Int)) := by rw [hW]; exact hy2
                  rw [← hW]
                  have HW2 := Lib.hid hW
                  clear hW h1 h2 h3 hx1 hx2 hy1 hy2
                  go_wp2_with fail
                  go_quiet (fail)
                  rw [HW2.out]
                  go_wp2_with fail
                  go_meet
                  case rel => exact ⟨R, rc, sn, by rw [HLN.out], rfl, HSN2.out, rfl, HCD.out _ _⟩
        case rest =>
          obtain ⟨R', rc', sn', rfl, rfl, hsn', rfl, hcs⟩ := hcut
          have HSN' := Lib.hid hsn'
          have HCS := Lib.hid hcs
          have hbX := hcs.2.2.2
          obtain ⟨z2, hz2⟩ : ∃ z2, z2 = refE es i := ⟨_, rfl⟩
          have HZ2 := Lib.hid hz2
          clear hcs hsn' hz2 c0
          obtain ⟨bz, hbz⟩ : ∃ bz : Bool, bz = true ∧ z2 = 3 ∧ 0 < i ∧ (∀ y, es[i - 1]? = some y → lessE y x = false) ∨ bz = false ∧ z2 = z ∧ (0 < i → ∀ y, es[i - 1]? = some y → lessE y x = true) := by
            by_cases hi0 : i = 0
            · exact ⟨false, .inr ⟨rfl, by rw [HZE.out, HZ2.out, hi0], fun h => by omega⟩⟩
            · obtain ⟨y, hy⟩ : ∃ y, es[i - 1]? = some y := ⟨_, List.getElem?_eq_getElem (by have := HL.out; omega)⟩
              obtain ⟨j, hj⟩ : ∃ j, i = j + 1 := ⟨i - 1, by omega⟩
              have hy2 : es[j]? = some y := by rw [← hy, hj]; rfl
              have h2 := refE_next hy2 (by rw [← hj]; exact HXI.out)
              rw [← hj] at h2
              have h3 : z = refE es j := by rw [HZE.out, hj]; rfl
              rw [← HZ2.out, ← h3] at h2
              cases hl : lessE y x with
              | true => exact ⟨false, .inr ⟨rfl, by rw [h2, hl]; rfl, fun _ y' hy' => by rw [hy] at hy'; injection hy' with hy'; rw [← hy']; exact hl⟩⟩
              | false => exact ⟨true, .inl ⟨rfl, by rw [h2, hl]; rfl, by omega, fun y' hy' => by rw [hy] at hy'; injection hy' with hy'; rw [← hy']; exact hl⟩⟩
          have HBZ := Lib.hid hbz
          clear hbz
          go_upto_if 88 with (fail)
          go_cut [88] from 74 to 87 (fun s88 wx => s88 = .bool bz ∧ CS w O oc (outB ev es i) R' rc' rs2 wx)
          case first =>
            by_cases hi0 : i = 0
            · have g1 : decide (0 < i) = false := by simp; omega
              have g2 : decide ((0 : Int) < (i : Int)) = false := by simp; omega
              have g3 : decide (i ≤ 0) = true := by simp; omega
              have g4 : ¬ 0 < i := by omega
              have hbf : bz = false := by
                rcases HBZ.out with ⟨_, _, h, _⟩ | ⟨h, _⟩
                · omega
                · exact h
              subst hbf
              have HCD : Hid (∀ q, CS w O oc (outB ev es i) R' rc' rs2 (wc.drewN q)) := Lib.hid (fun q => HCS.out.below (below_drewN (Below.refl _ _) q))
              clear hi0
              go_wp2_with fail
              go_quiet (fail)
              go_wp2_with fail
              go_meet
              case rel => exact ⟨rfl, HCD.out _⟩
            · obtain ⟨j, hj⟩ : ∃ j, j = i - 1 := ⟨_, rfl⟩
              obtain ⟨y, u0, u1, u2, u3, hy, d0', d1', d2', d3', hew⟩ := HR.out.at_ j (by omega)
              have g1 : decide (0 < i) = true := by simp; omega
              have g2 : decide ((0 : Int) < (i : Int)) = true := by simp; omega
              have g4 : 0 < i := by omega
              have e2 : IntKind.i64.wrap ((i : Int) - 1) = (j : Int) := by rw [IntWalk.i64_in _ (by omega)]; omega
              have hjn : j < n := by omega
              have HLS : Hid (∀ wx, Below wc.heap.size wc wx → Calls Try.prog 118 #[.agg #[u0, u1, u2, u3], .agg #[.slice K kn kc, .int .u64 (x.seq : Int), .int .u8 (x.kind : Int), .slice V vn vc]] wx (RetT wx (lessE y x))) := Lib.hid (fun wx hb => by
                have hw := hbX.trans (hb.mono hbX.size)
                exact refLess_any (hew.below hw) (HEV.out.below hw) (HZ.out y (List.mem_of_getElem? hy)) (HZ.out x (List.mem_of_getElem? HXI.out)))
              have HSX : Hid (∀ wx, Below wc.heap.size wc wx → wx.cell? ⟨b, off + j * 4, none⟩ = some u0 ∧ wx.cell? ⟨b, off + j * 4 + 1, none⟩ = some u1 ∧ wx.cell? ⟨b, off + j * 4 + 2, none⟩ = some u2 ∧ wx.cell? ⟨b, off + j * 4 + 3, none⟩ = some u3 ∧ wx.cell? ⟨b, off + i * 4, none⟩ = some (.slice K kn kc) ∧ wx.cell? ⟨b, off + i * 4 + 1, none⟩ = some (.int .u64 (x.seq : Int)) ∧ wx.cell? ⟨b, off + i * 4 + 2, none⟩ = some (.int .u8 (x.kind : Int)) ∧ wx.cell? ⟨b, off + i * 4 + 3, none⟩ = some (.slice V vn vc)) := Lib.hid (fun wx hb => by
                have h := hbX.trans (hb.mono hbX.size)
                exact ⟨(h.cell (p := ⟨b, off + j * 4, none⟩) hbl).trans d0', (h.cell (p := ⟨b, off + j * 4 + 1, none⟩) hbl).trans d1', (h.cell (p := ⟨b, off + j * 4 + 2, none⟩) hbl).trans d2', (h.cell (p := ⟨b, off + j * 4 + 3, none⟩) hbl).trans d3', (h.cell (p := ⟨b, off + i * 4, none⟩) hbl).trans C0.out, (h.cell (p := ⟨b, off + i * 4 + 1, none⟩) hbl).trans C1.out, (h.cell (p := ⟨b, off + i * 4 + 2, none⟩) hbl).trans C2.out, (h.cell (p := ⟨b, off + i * 4 + 3, none⟩) hbl).trans C3.out⟩)
              have hB0 : Below wc.heap.size wc wc.drew := (Below.refl _ _).drew
              obtain ⟨lz, hlz⟩ : ∃ lz, lz = lessE y x := ⟨_, rfl⟩
              have hbb : bz = !lz := by
                rw [hlz]
                rw [hj] at hy
                rcases HBZ.out with ⟨h, _, _, h4⟩ | ⟨h, _, h4⟩
                · rw [h, h4 y hy]; rfl
                · rw [h, h4 g4 y hy]; rfl
              subst hbb
              rw [← hlz] at HLS
              clear hj hi0 hy d0' d1' d2' d3' hew hlz
              cases lz with
              | true =>
                go_wp2_with fail
                go_region_held3 (fun wx => wx.cell? ⟨b, off + j * 4, none⟩ = some u0 ∧ wx.cell? ⟨b, off + j * 4 + 1, none⟩ = some u1 ∧ wx.cell? ⟨b, off + j * 4 + 2, none⟩ = some u2 ∧ wx.cell? ⟨b, off + j * 4 + 3, none⟩ = some u3 ∧ wx.cell? ⟨b, off + i * 4, none⟩ = some (.slice K kn kc) ∧ wx.cell? ⟨b, off + i * 4 + 1, none⟩ = some (.int .u64 (x.seq : Int)) ∧ wx.cell? ⟨b, off + i * 4 + 2, none⟩ = some (.int .u8 (x.kind : Int)) ∧ wx.cell? ⟨b, off + i * 4 + 3, none⟩ = some (.slice V vn vc)) (first | assumption | exact HSX.out _ hB0)
                  (first | (go_at_call 118; with_reducible refine (HLS.out _ (by assumption)).mono ?_; intro e1 wn hq; obtain ⟨h1, bn⟩ := RetT.outD hq; subst h1; have bn' := belowT' (by assumption : Below wc.heap.size wc _) bn; have hS1 := HSX.out _ bn'))
                all_goals
                  have HBN : Hid (CS w O oc (outB ev es i) R' rc' rs2 _) := Lib.hid (HCS.out.below (by assumption : Below wc.heap.size wc wn))
                  go_wp2_with fail
                  go_meet
                  case rel => exact ⟨rfl, HBN.out⟩
              | false =>
                go_wp2_with fail
                go_region_held3 (fun wx => wx.cell? ⟨b, off + j * 4, none⟩ = some u0 ∧ wx.cell? ⟨b, off + j * 4 + 1, none⟩ = some u1 ∧ wx.cell? ⟨b, off + j * 4 + 2, none⟩ = some u2 ∧ wx.cell? ⟨b, off + j * 4 + 3, none⟩ = some u3 ∧ wx.cell? ⟨b, off + i * 4, none⟩ = some (.slice K kn kc) ∧ wx.cell? ⟨b, off + i * 4 + 1, none⟩ = some (.int .u64 (x.seq : Int)) ∧ wx.cell? ⟨b, off + i * 4 + 2, none⟩ = some (.int .u8 (x.kind : Int)) ∧ wx.cell? ⟨b, off + i * 4 + 3, none⟩ = some (.slice V vn vc)) (first | assumption | exact HSX.out _ hB0)
                  (first | (go_at_call 118; with_reducible refine (HLS.out _ (by assumption)).mono ?_; intro e1 wn hq; obtain ⟨h1, bn⟩ := RetT.outD hq; subst h1; have bn' := belowT' (by assumption : Below wc.heap.size wc _) bn; have hS1 := HSX.out _ bn'))
                all_goals
                  have HBN : Hid (CS w O oc (outB ev es i) R' rc' rs2 _) := Lib.hid (HCS.out.below (by assumption : Below wc.heap.size wc wn))
                  go_wp2_with fail
                  go_meet
                  case rel => exact ⟨rfl, HBN.out⟩
          case rest =>
            obtain ⟨hbs, hcs⟩ := hcut
            subst hbs
            have hkl := HR0.out.len
            have hvl := HR3.out.len
            have hskn : sh ≤ kn := by have := shB_le (ev := ev) HXI.out; rw [← HSH.out] at this; omega
            have hkn1 : kn ≤ 1024 := by have := HXS.out.1; omega
            have hvn1 : vn ≤ 65536 := by have := HXS.out.2; omega
            have hseq : x.seq < B64 := HXW.out.1
            have hkd : x.kind < 256 := HXW.out.2
            obtain ⟨zk, hzk⟩ : ∃ zk, zk = kn - sh := ⟨_, rfl⟩
            have hzk1 : zk ≤ 1024 := by omega
            have e2 : IntKind.i64.wrap ((kn : Int) - (sh : Int)) = (zk : Int) := by rw [IntWalk.i64_in _ (by omega)]; omega
            have e2b : ((kn : Int) - (sh : Int)) = (zk : Int) := by omega
            have e4 : IntKind.u64.wrap (sh : Int) = (sh : Int) := u64_nat sh (by unfold B64; omega)
            have e5 : IntKind.u64.wrap (zk : Int) = (zk : Int) := u64_nat zk (by unfold B64; omega)
            have e6 : IntKind.u64.wrap (vn : Int) = (vn : Int) := u64_nat vn (by unfold B64; omega)
            have hsl : ∀ W : World, (Instr.slice 25 (.slice K kn kc) (some (.int .i64 (sh : Int))) none none).run Try.prog W = .ok (.slice (cutA K sh kc) zk (kc - sh)) W := by
              rw [hzk]
              exact cut_l Try.underlying25 elem_bytes size_u8 K hskn
            have HRK : Hid (∀ wi : World, Below w.heap.size w wi → Rd wi (cutA K sh kc) zk (x.key.drop sh)) := Lib.hid (fun wi hwi => by
              have h := (HR0.out.below hwi).cut hskn (Nat.le_refl kn) q0
              rw [List.take_of_length_le (by omega)] at h
              rw [hzk]
              exact h)
            have HCL : Hid (∀ wi : World, Below w.heap.size w wi → wi.cell? ⟨b, off + i * 4, none⟩ = some (.slice K kn kc) ∧ wi.cell? ⟨b, off + i * 4 + 1, none⟩ = some (.int .u64 (x.seq : Int)) ∧ wi.cell? ⟨b, off + i * 4 + 2, none⟩ = some (.int .u8 (x.kind : Int)) ∧ wi.cell? ⟨b, off + i * 4 + 3, none⟩ = some (.slice V vn vc)) := Lib.hid (fun wi h => ⟨(h.cell (p := ⟨b, off + i * 4, none⟩) hbl).trans C0.out, (h.cell (p := ⟨b, off + i * 4 + 1, none⟩) hbl).trans C1.out, (h.cell (p := ⟨b, off + i * 4 + 2, none⟩) hbl).trans C2.out, (h.cell (p := ⟨b, off + i * 4 + 3, none⟩) hbl).trans C3.out⟩)
            have HENT : Hid (outB ev es (i + 1) = outB ev es i ++ putU sh ++ putU zk ++ putU x.seq ++ [bt x.kind] ++ putU vn ++ x.key.drop sh ++ x.val) := Lib.hid (by
              rw [outB_step HXI.out, ← HSH.out]
              unfold entB
              rw [hkl, hvl, ← hzk]
              simp only [List.append_assoc])
            have HDL : Hid ((x.key.drop sh).length = zk) := Lib.hid (by rw [List.length_drop]; omega)
            have HVL := Lib.hid hvl
            have p1 := putU_len64 sh (show sh < B64 by unfold B64; omega)
            have p2 := putU_len64 zk (show zk < B64 by unfold B64; omega)
            have p3 := putU_len64 x.seq hseq
            have p5 := putU_len64 vn (show vn < B64 by unfold B64; omega)
            have HD0 := Lib.hid (And.intro hcs HON.out)
            obtain ⟨zf, hzf⟩ : ∃ zf, zf = z2 := ⟨_, rfl⟩
            have HZF := Lib.hid hzf
            clear hcs hkl hvl hzk hbX hbC hzf
            rcases HBZ.out with ⟨rfl, hzb, _⟩ | ⟨rfl, hzb, _⟩
            · have HZB := Lib.hid hzb
              clear hzb
              have kc1 := HCL.out _ HD0.out.1.2.2.2
              obtain ⟨k0, k1, k2, k3⟩ := kc1
              go_wp2_with fail
              refine (refPutU_any sh _ (by first | exact hseq | (unfold B64; omega))).mono ?_
              rintro e wa ⟨P1, m1, d1, rfl, oP, bP⟩
              obtain rfl : (putU sh).length = m1 := oP.len
              have HB1 := Lib.hid (HD0.out.1.below bP)
              have rP := oP.rd
              have ho := HB1.out.1
              rw [← HD0.out.2] at ho
              have hsz := HB1.out.2.2.2.size
              clear oP bP k0 k1 k2 k3
              go_wp2_with (at_builtin; refine wpList_appX _ rfl _ _ 25 rfl w.heap.size 5 Try.underlying25 info_u8 O _ _ _ rfl ho P1 (putU sh).length d1 (putU sh) rfl rP ?_ ?_ ?_)
              · omega
              · exact hsz
              intro A1 c1 wb o1 g1
              obtain ⟨u1, hu⟩ : ∃ u1 : List UInt8, u1 = outB ev es i ++ putU sh := ⟨_, rfl⟩
              have HU1 := Lib.hid hu
              have HD1 := Lib.hid (HB1.out.app8 HD0.out.2 o1 rfl g1)
              rw [← hu] at HD1
              clear hu
              clear o1 g1 ho rP hsz
              have kc2 := HCL.out _ HD1.out.1.2.2.2
              obtain ⟨k0, k1, k2, k3⟩ := kc2
              go_wp2_with fail
              refine (refPutU_any zk _ (by first | exact hseq | (unfold B64; omega))).mono ?_
              rintro e wa ⟨P2, m2, d2, rfl, oP, bP⟩
              obtain rfl : (putU zk).length = m2 := oP.len
              have HB2 := Lib.hid (HD1.out.1.below bP)
              have rP := oP.rd
              have ho := HB2.out.1
              rw [← HD1.out.2] at ho
              have hsz := HB2.out.2.2.2.size
              clear oP bP k0 k1 k2 k3
              go_wp2_with (at_builtin; refine wpList_appX _ rfl _ _ 25 rfl w.heap.size 5 Try.underlying25 info_u8 A1 _ _ _ rfl ho P2 (putU zk).length d2 (putU zk) rfl rP ?_ ?_ ?_)
              · omega
              · exact hsz
              intro A2 c2 wb o1 g1
              obtain ⟨u2, hu⟩ : ∃ u2 : List UInt8, u2 = u1 ++ putU zk := ⟨_, rfl⟩
              have HU2 := Lib.hid hu
              have HD2 := Lib.hid (HB2.out.app8 HD1.out.2 o1 rfl g1)
              rw [← hu] at HD2
              clear hu
              clear o1 g1 ho rP hsz
              have kc3 := HCL.out _ HD2.out.1.2.2.2
              obtain ⟨k0, k1, k2, k3⟩ := kc3
              go_wp2_with fail
              refine (refPutU_any x.seq _ (by first | exact hseq | (unfold B64; omega))).mono ?_
              rintro e wa ⟨P3, m3, d3, rfl, oP, bP⟩
              obtain rfl : (putU x.seq).length = m3 := oP.len
              have HB3 := Lib.hid (HD2.out.1.below bP)
              have rP := oP.rd
              have ho := HB3.out.1
              rw [← HD2.out.2] at ho
              have hsz := HB3.out.2.2.2.size
              clear oP bP k0 k1 k2 k3
              go_wp2_with (at_builtin; refine wpList_appX _ rfl _ _ 25 rfl w.heap.size 5 Try.underlying25 info_u8 A2 _ _ _ rfl ho P3 (putU x.seq).length d3 (putU x.seq) rfl rP ?_ ?_ ?_)
              · omega
              · exact hsz
              intro A3 c3 wb o1 g1
              obtain ⟨u3, hu⟩ : ∃ u3 : List UInt8, u3 = u2 ++ putU x.seq := ⟨_, rfl⟩
              have HU3 := Lib.hid hu
              have HD3 := Lib.hid (HB3.out.app8 HD2.out.2 o1 rfl g1)
              rw [← hu] at HD3
              clear hu
              clear o1 g1 ho rP hsz
              have kc4 := HCL.out _ HD3.out.1.2.2.2
              obtain ⟨k0, k1, k2, k3⟩ := kc4
              have ho := (HD3.out.1.below ((Below.refl _ _).alloc (Nat.le_refl _) (.cells #[.int .u8 (x.kind : Int)] 5))).1
              rw [← HD3.out.2] at ho
              have HB4 := Lib.hid (HD3.out.1.below ((Below.refl _ _).alloc (Nat.le_refl _) (.cells #[.int .u8 (x.kind : Int)] 5)))
              have hsz := HB4.out.2.2.2.size
              go_wp2_with (at_builtin; refine wpList_appX _ rfl _ _ 25 rfl w.heap.size 5 Try.underlying25 info_u8 A3 _ _ _ rfl ho _ 1 1 [bt x.kind] rfl (Rd.one _ _ _ _ ?_) ?_ ?_ ?_)
              · rw [bt_nat _ (by omega)]
              · omega
              · exact hsz
              intro A4 c4 wb o1 g1
              obtain ⟨u4, hu⟩ : ∃ u4 : List UInt8, u4 = u3 ++ [bt x.kind] := ⟨_, rfl⟩
              have HU4 := Lib.hid hu
              have HD4 := Lib.hid (HB4.out.app8 HD3.out.2 o1 rfl g1)
              rw [← hu] at HD4
              clear hu
              clear o1 g1 ho hsz k0 k1 k2 k3
              have kc5 := HCL.out _ HD4.out.1.2.2.2
              obtain ⟨k0, k1, k2, k3⟩ := kc5
              go_wp2_with fail
              refine (refPutU_any vn _ (by first | exact hseq | (unfold B64; omega))).mono ?_
              rintro e wa ⟨P5, m5, d5, rfl, oP, bP⟩
              obtain rfl : (putU vn).length = m5 := oP.len
              have HB5 := Lib.hid (HD4.out.1.below bP)
              have rP := oP.rd
              have ho := HB5.out.1
              rw [← HD4.out.2] at ho
              have hsz := HB5.out.2.2.2.size
              clear oP bP k0 k1 k2 k3
              go_wp2_with (at_builtin; refine wpList_appX _ rfl _ _ 25 rfl w.heap.size 5 Try.underlying25 info_u8 A4 _ _ _ rfl ho P5 (putU vn).length d5 (putU vn) rfl rP ?_ ?_ ?_)
              · omega
              · exact hsz
              intro A5 c5 wb o1 g1
              obtain ⟨u5, hu⟩ : ∃ u5 : List UInt8, u5 = u4 ++ putU vn := ⟨_, rfl⟩
              have HU5 := Lib.hid hu
              have HD5 := Lib.hid (HB5.out.app8 HD4.out.2 o1 rfl g1)
              rw [← hu] at HD5
              clear hu
              clear o1 g1 ho rP hsz
              have kc6 := HCL.out _ HD5.out.1.2.2.2
              obtain ⟨k0, k1, k2, k3⟩ := kc6
              have ho := HD5.out.1.1
              rw [← HD5.out.2] at ho
              have hsz := HD5.out.1.2.2.2.size
              have rP := HRK.out _ HD5.out.1.2.2.2
              go_wp2_with (at_builtin; refine wpList_appX _ rfl _ _ 25 rfl w.heap.size 5 Try.underlying25 info_u8 A5 _ _ _ rfl ho (cutA K sh kc) zk (kc - sh) (x.key.drop sh) rfl rP ?_ ?_ ?_)
              · omega
              · exact hsz
              intro A6 c6 wb o1 g1
              obtain ⟨u6, hu⟩ : ∃ u6 : List UInt8, u6 = u5 ++ (x.key.drop sh) := ⟨_, rfl⟩
              have HU6 := Lib.hid hu
              have HD6 := Lib.hid (HD5.out.1.app8 HD5.out.2 o1 HDL.out g1)
              rw [← hu] at HD6
              clear hu
              clear o1 g1 ho rP hsz k0 k1 k2 k3
              have kc7 := HCL.out _ HD6.out.1.2.2.2
              obtain ⟨k0, k1, k2, k3⟩ := kc7
              have ho := HD6.out.1.1
              rw [← HD6.out.2] at ho
              have hsz := HD6.out.1.2.2.2.size
              have rP := HR3.out.below HD6.out.1.2.2.2
              go_wp2_with (at_builtin; refine wpList_appX _ rfl _ _ 25 rfl w.heap.size 5 Try.underlying25 info_u8 A6 _ _ _ rfl ho V vn vc x.val rfl rP ?_ ?_ ?_)
              · omega
              · exact hsz
              intro A7 c7 wb o1 g1
              obtain ⟨u7, hu⟩ : ∃ u7 : List UInt8, u7 = u6 ++ x.val := ⟨_, rfl⟩
              have HU7 := Lib.hid hu
              have HD7 := Lib.hid (HD6.out.1.app8 HD6.out.2 o1 HVL.out g1)
              rw [← hu] at HD7
              clear hu
              clear o1 g1 ho rP hsz k0 k1 k2 k3
              have HU : u7 = outB ev es (i + 1) := by rw [HENT.out, HU7.out, HU6.out, HU5.out, HU4.out, HU3.out, HU2.out, HU1.out]
              have HFI := HD7
              rw [HU] at HFI
              clear HU
              go_wp2_with fail
              go_roundw
              case rel => exact ⟨i + 1, _, rn2, sn', A7, R', c7, rc', _, by omega, by go_num, HFI.out.2, by rw [HRN2.out, HRS2.out], HSN'.out, rfl, by rw [← HZB.out]; exact HZ2.out, rfl, rfl, rfl, by rw [← HRS2.out]; exact HFI.out.1⟩
              case measure => simp [intOf]; omega
            · have HZB := Lib.hid hzb
              clear hzb
              have kc1 := HCL.out _ HD0.out.1.2.2.2
              obtain ⟨k0, k1, k2, k3⟩ := kc1
              go_wp2_with fail
              refine (refPutU_any sh _ (by first | exact hseq | (unfold B64; omega))).mono ?_
              rintro e wa ⟨P1, m1, d1, rfl, oP, bP⟩
              obtain rfl : (putU sh).length = m1 := oP.len
              have HB1 := Lib.hid (HD0.out.1.below bP)
              have rP := oP.rd
              have ho := HB1.out.1
              rw [← HD0.out.2] at ho
              have hsz := HB1.out.2.2.2.size
              clear oP bP k0 k1 k2 k3
              go_wp2_with (at_builtin; refine wpList_appX _ rfl _ _ 25 rfl w.heap.size 5 Try.underlying25 info_u8 O _ _ _ rfl ho P1 (putU sh).length d1 (putU sh) rfl rP ?_ ?_ ?_)
              · omega
              · exact hsz
              intro A1 c1 wb o1 g1
              obtain ⟨u1, hu⟩ : ∃ u1 : List UInt8, u1 = outB ev es i ++ putU sh := ⟨_, rfl⟩
              have HU1 := Lib.hid hu
              have HD1 := Lib.hid (HB1.out.app8 HD0.out.2 o1 rfl g1)
              rw [← hu] at HD1
              clear hu
              clear o1 g1 ho rP hsz
              have kc2 := HCL.out _ HD1.out.1.2.2.2
              obtain ⟨k0, k1, k2, k3⟩ := kc2
              go_wp2_with fail
              refine (refPutU_any zk _ (by first | exact hseq | (unfold B64; omega))).mono ?_
              rintro e wa ⟨P2, m2, d2, rfl, oP, bP⟩
              obtain rfl : (putU zk).length = m2 := oP.len
              have HB2 := Lib.hid (HD1.out.1.below bP)
              have rP := oP.rd
              have ho := HB2.out.1
              rw [← HD1.out.2] at ho
              have hsz := HB2.out.2.2.2.size
              clear oP bP k0 k1 k2 k3
              go_wp2_with (at_builtin; refine wpList_appX _ rfl _ _ 25 rfl w.heap.size 5 Try.underlying25 info_u8 A1 _ _ _ rfl ho P2 (putU zk).length d2 (putU zk) rfl rP ?_ ?_ ?_)
              · omega
              · exact hsz
              intro A2 c2 wb o1 g1
              obtain ⟨u2, hu⟩ : ∃ u2 : List UInt8, u2 = u1 ++ putU zk := ⟨_, rfl⟩
              have HU2 := Lib.hid hu
              have HD2 := Lib.hid (HB2.out.app8 HD1.out.2 o1 rfl g1)
              rw [← hu] at HD2
              clear hu
              clear o1 g1 ho rP hsz
              have kc3 := HCL.out _ HD2.out.1.2.2.2
              obtain ⟨k0, k1, k2, k3⟩ := kc3
              go_wp2_with fail
              refine (refPutU_any x.seq _ (by first | exact hseq | (unfold B64; omega))).mono ?_
              rintro e wa ⟨P3, m3, d3, rfl, oP, bP⟩
              obtain rfl : (putU x.seq).length = m3 := oP.len
              have HB3 := Lib.hid (HD2.out.1.below bP)
              have rP := oP.rd
              have ho := HB3.out.1
              rw [← HD2.out.2] at ho
              have hsz := HB3.out.2.2.2.size
              clear oP bP k0 k1 k2 k3
              go_wp2_with (at_builtin; refine wpList_appX _ rfl _ _ 25 rfl w.heap.size 5 Try.underlying25 info_u8 A2 _ _ _ rfl ho P3 (putU x.seq).length d3 (putU x.seq) rfl rP ?_ ?_ ?_)
              · omega
              · exact hsz
              intro A3 c3 wb o1 g1
              obtain ⟨u3, hu⟩ : ∃ u3 : List UInt8, u3 = u2 ++ putU x.seq := ⟨_, rfl⟩
              have HU3 := Lib.hid hu
              have HD3 := Lib.hid (HB3.out.app8 HD2.out.2 o1 rfl g1)
              rw [← hu] at HD3
              clear hu
              clear o1 g1 ho rP hsz
              have kc4 := HCL.out _ HD3.out.1.2.2.2
              obtain ⟨k0, k1, k2, k3⟩ := kc4
              have ho := (HD3.out.1.below ((Below.refl _ _).alloc (Nat.le_refl _) (.cells #[.int .u8 (x.kind : Int)] 5))).1
              rw [← HD3.out.2] at ho
              have HB4 := Lib.hid (HD3.out.1.below ((Below.refl _ _).alloc (Nat.le_refl _) (.cells #[.int .u8 (x.kind : Int)] 5)))
              have hsz := HB4.out.2.2.2.size
              go_wp2_with (at_builtin; refine wpList_appX _ rfl _ _ 25 rfl w.heap.size 5 Try.underlying25 info_u8 A3 _ _ _ rfl ho _ 1 1 [bt x.kind] rfl (Rd.one _ _ _ _ ?_) ?_ ?_ ?_)
              · rw [bt_nat _ (by omega)]
              · omega
              · exact hsz
              intro A4 c4 wb o1 g1
              obtain ⟨u4, hu⟩ : ∃ u4 : List UInt8, u4 = u3 ++ [bt x.kind] := ⟨_, rfl⟩
              have HU4 := Lib.hid hu
              have HD4 := Lib.hid (HB4.out.app8 HD3.out.2 o1 rfl g1)
              rw [← hu] at HD4
              clear hu
              clear o1 g1 ho hsz k0 k1 k2 k3
              have kc5 := HCL.out _ HD4.out.1.2.2.2
              obtain ⟨k0, k1, k2, k3⟩ := kc5
              go_wp2_with fail
              refine (refPutU_any vn _ (by first | exact hseq | (unfold B64; omega))).mono ?_
              rintro e wa ⟨P5, m5, d5, rfl, oP, bP⟩
              obtain rfl : (putU vn).length = m5 := oP.len
              have HB5 := Lib.hid (HD4.out.1.below bP)
              have rP := oP.rd
              have ho := HB5.out.1
              rw [← HD4.out.2] at ho
              have hsz := HB5.out.2.2.2.size
              clear oP bP k0 k1 k2 k3
              go_wp2_with (at_builtin; refine wpList_appX _ rfl _ _ 25 rfl w.heap.size 5 Try.underlying25 info_u8 A4 _ _ _ rfl ho P5 (putU vn).length d5 (putU vn) rfl rP ?_ ?_ ?_)
              · omega
              · exact hsz
              intro A5 c5 wb o1 g1
              obtain ⟨u5, hu⟩ : ∃ u5 : List UInt8, u5 = u4 ++ putU vn := ⟨_, rfl⟩
              have HU5 := Lib.hid hu
              have HD5 := Lib.hid (HB5.out.app8 HD4.out.2 o1 rfl g1)
              rw [← hu] at HD5
              clear hu
              clear o1 g1 ho rP hsz
              have kc6 := HCL.out _ HD5.out.1.2.2.2
              obtain ⟨k0, k1, k2, k3⟩ := kc6
              have ho := HD5.out.1.1
              rw [← HD5.out.2] at ho
              have hsz := HD5.out.1.2.2.2.size
              have rP := HRK.out _ HD5.out.1.2.2.2
              go_wp2_with (at_builtin; refine wpList_appX _ rfl _ _ 25 rfl w.heap.size 5 Try.underlying25 info_u8 A5 _ _ _ rfl ho (cutA K sh kc) zk (kc - sh) (x.key.drop sh) rfl rP ?_ ?_ ?_)
              · omega
              · exact hsz
              intro A6 c6 wb o1 g1
              obtain ⟨u6, hu⟩ : ∃ u6 : List UInt8, u6 = u5 ++ (x.key.drop sh) := ⟨_, rfl⟩
              have HU6 := Lib.hid hu
              have HD6 := Lib.hid (HD5.out.1.app8 HD5.out.2 o1 HDL.out g1)
              rw [← hu] at HD6
              clear hu
              clear o1 g1 ho rP hsz k0 k1 k2 k3
              have kc7 := HCL.out _ HD6.out.1.2.2.2
              obtain ⟨k0, k1, k2, k3⟩ := kc7
              have ho := HD6.out.1.1
              rw [← HD6.out.2] at ho
              have hsz := HD6.out.1.2.2.2.size
              have rP := HR3.out.below HD6.out.1.2.2.2
              go_wp2_with (at_builtin; refine wpList_appX _ rfl _ _ 25 rfl w.heap.size 5 Try.underlying25 info_u8 A6 _ _ _ rfl ho V vn vc x.val rfl rP ?_ ?_ ?_)
              · omega
              · exact hsz
              intro A7 c7 wb o1 g1
              obtain ⟨u7, hu⟩ : ∃ u7 : List UInt8, u7 = u6 ++ x.val := ⟨_, rfl⟩
              have HU7 := Lib.hid hu
              have HD7 := Lib.hid (HD6.out.1.app8 HD6.out.2 o1 HVL.out g1)
              rw [← hu] at HD7
              clear hu
              clear o1 g1 ho rP hsz k0 k1 k2 k3
              have HU : u7 = outB ev es (i + 1) := by rw [HENT.out, HU7.out, HU6.out, HU5.out, HU4.out, HU3.out, HU2.out, HU1.out]
              have HFI := HD7
              rw [HU] at HFI
              clear HU
              go_wp2_with fail
              go_roundw
              case rel => exact ⟨i + 1, _, rn2, sn', A7, R', c7, rc', _, by omega, by go_num, HFI.out.2, by rw [HRN2.out, HRS2.out], HSN'.out, rfl, by rw [← HZB.out]; exact HZ2.out, rfl, rfl, rfl, by rw [← HRS2.out]; exact HFI.out.1⟩
              case measure => simp [intOf]; omega
        -- A1
      · obtain rfl : i = n := by omega
        have hsw := hbC.size
        have hO := HC.out.1
        rw [← HON.out] at hO
        have hRd := HC.out.2.1.rd
        rw [← HRN.out] at hRd
        obtain ⟨F, hF⟩ : ∃ F, F = fullB ev es := ⟨_, rfl⟩
        obtain ⟨gd, hgd⟩ : ∃ gd, gd = (es.all formE && ordE es) := ⟨_, rfl⟩
        have hbe : buildE ev es = if 1048576 < F.length then ([], 2) else if gd then (sealB F, 0) else ([], 3) := by rw [buildE, HLO.out, ← hF, hgd]; rfl
        have hzg : z = if gd then 0 else 3 := by rw [HZE.out, refE, hgd, ordE, HL.out]
        obtain ⟨u1, hu1⟩ : ∃ u1, u1 = outB ev es i ++ rsB ev es i := ⟨_, rfl⟩
        obtain ⟨n1, hn1⟩ : ∃ n1, n1 = on + rn := ⟨_, rfl⟩
        have hfull : u1 ++ fourB sn = F := by
          rw [hu1, hF, fullB, HL.out, ← HRN.out]
          have : rn / 4 = sn := by have := HSN.out; omega
          rw [this]
        have hlen : n1 + 4 = F.length := by
          rw [← hfull, List.length_append, hu1, List.length_append, ← HON.out, ← HRN.out, fourB_len]
          omega
        have hfl : n1 + 4 ≤ 1099511627776 := by omega
        have HU1 := Lib.hid hu1
        have HN1 := Lib.hid hn1
        have HFU := Lib.hid hfull
        have HLE := Lib.hid hlen
        have HBE := Lib.hid hbe
        have HZG := Lib.hid hzg
        have HB0 := Lib.hid hbC
        have hn1b : n1 ≤ 1099511627776 := by omega
        clear hbC hF hgd hbe hzg hu1 hn1 hfull hlen
        go_wp2_with (at_builtin; refine wpList_appX _ rfl _ _ 25 rfl w.heap.size 5 Try.underlying25 info_u8 O on oc _ rfl hO R rn rc (rsB ev es i) rfl hRd ?_ ?_ ?_)
        · omega
        · exact hsw
        intro O2 oc2 w2 o2 g2
        have hb2 : Below w.heap.size w w2 := HC.out.2.2.2.trans (g2.below HC.out.1 hsw)
        rw [← HU1.out, ← HN1.out] at o2
        rw [← HN1.out]
        have HO2 := Lib.hid o2
        have HB2 := Lib.hid hb2
        clear hO hRd g2 o2 hb2
        go_wp2_with fail
        with_reducible refine (refFour8_any sn w2 (by unfold B64; omega)).mono ?_
        rintro e w3 ⟨P, fn, fc, rfl, hP, _, b3⟩
        have hfn : fn = 4 := by rw [← hP.len]; rfl
        subst hfn
        have o3 := HO2.out.below b3
        have HB3 := Lib.hid (HB2.out.trans (b3.mono HB2.out.size))
        have hsz3 := HB3.out.size
        clear b3
        go_wp2_with (at_builtin; refine wpList_appX _ rfl _ _ 25 rfl w.heap.size 5 Try.underlying25 info_u8 O2 n1 oc2 _ rfl o3 P 4 fc (fourB sn) rfl hP ?_ ?_ ?_)
        · omega
        · exact hsz3
        intro O4 oc4 w4 o4 g4
        have hb4 : Below w.heap.size w w4 := HB3.out.trans (g4.below o3 hsz3)
        rw [HFU.out] at o4
        have HB4 := Lib.hid hb4
        have HSL : Hid (Calls Try.prog 63 #[.slice O4 (n1 + 4) oc4] w4 (RetSE w4.heap.size w4 (sealG F))) := Lib.hid (refSeal_any O4 (n1 + 4) oc4 F w4 o4.rd hfl)
        clear o3 hP o4 g4 hb4
        by_cases hbig : 1048576 < n1 + 4
        · have hbb : buildE ev es = ([], 2) := by rw [HBE.out, if_pos (by rw [← HLE.out]; exact hbig)]
          rw [sealG_long HLE.out.symm hbig] at HSL
          have HBB := Lib.hid hbb
          clear hbb
          go_wp2_with fail
          with_reducible refine HSL.out.mono ?_
          rintro e w5 ⟨Q, qn, qc, rfl, oQ, b5⟩
          have HB5 := Lib.hid (HB4.out.trans (b5.mono HB4.out.size))
          clear oQ b5
          go_wp2_with fail
          exact bodyPost_ret (v := .tuple #[.slice none 0 0, .int .i64 2]) (by simp [results, Try.f61, go_sem]; try rfl) rfl (RetBb.no HBB.out HB5.out)
        · rw [sealG_ok HLE.out.symm hbig] at HSL
          cases gd with
          | true =>
            have hbb : buildE ev es = (sealB F, 0) := by rw [HBE.out, if_neg (by rw [← HLE.out]; exact hbig)]; rfl
            have hz0 : z = 0 := HZG.out
            subst hz0
            have HBB := Lib.hid hbb
            clear hbb
            go_wp2_with fail
            with_reducible refine HSL.out.mono ?_
            rintro e w5 ⟨Q, qn, qc, rfl, oQ, b5⟩
            have HB5 := Lib.hid (HB4.out.trans (b5.mono HB4.out.size))
            have HOQ := Lib.hid (oQ.mono HB4.out.size)
            have hql : (sealB F).length = qn := oQ.len
            have HQL := Lib.hid hql
            clear oQ b5 hql
            go_wp2_with fail
            have hfin : RetBb w (buildE ev es) (.returned (.tuple #[.slice Q qn qc, .int .i64 0])) w5 := by
              refine ⟨Q, qc, ?_, ?_, HB5.out⟩
              · rw [HBB.out]
                simp only
                rw [HQL.out]
              · rw [HBB.out]
                simp only
                rw [HQL.out]
                exact HOQ.out
            exact bodyPost_ret (v := .tuple #[.slice Q qn qc, .int .i64 0]) (by simp [results, Try.f61, go_sem]; try rfl) rfl hfin
          | false =>
            have hbb : buildE ev es = ([], 3) := by rw [HBE.out, if_neg (by rw [← HLE.out]; exact hbig)]; rfl
            have hz0 : z = 3 := HZG.out
            subst hz0
            have HBB := Lib.hid hbb
            clear hbb
            go_wp2_with fail
            with_reducible refine HSL.out.mono ?_
            rintro e w5 ⟨Q, qn, qc, rfl, oQ, b5⟩
            have HB5 := Lib.hid (HB4.out.trans (b5.mono HB4.out.size))
            clear oQ b5
            go_wp2_with fail
            exact bodyPost_ret (v := .tuple #[.slice none 0 0, .int .i64 3]) (by simp [results, Try.f61, go_sem]; try rfl) rfl (RetBb.no HBB.out HB5.out)
end Go.Proofs.Ytcclhkoggijkaaa
namespace Go.Proofs.Ytcclhkoggijkaaa
open Go Go.RowKit Go.Maps

/-- How many bytes the file of this name has. -/
def lenR (x : List UInt8) (rs : List FR) : Nat := ((rs.filter fun q => q.name == x).map fun q => q.dat.length).sum
theorem lenR_none {x : List UInt8} {rs : List FR} (h : ∀ r ∈ rs, r.name ≠ x) : lenR x rs = 0 ∧ delR x rs = rs := by
  constructor
  · unfold lenR
    rw [List.filter_eq_nil_iff.2 (fun q hq => by simpa using h q hq)]
    rfl
  · unfold delR
    rw [List.filter_eq_self]
    intro q hq
    simpa using h q hq
theorem lenR_some {r : FR} : ∀ {rs : List FR}, rsUp rs → r ∈ rs → lenR r.name rs = r.dat.length
  | [], _, h => by cases h
  | a :: t, hu, h => by
    unfold rsUp at hu
    rw [List.pairwise_cons] at hu
    rcases List.mem_cons.1 h with rfl | h2
    · have e := (lenR_none (x := r.name) (rs := t) (fun q hq e => nlt_ne (hu.1 q hq) e.symm)).1
      unfold lenR at e ⊢
      rw [List.filter_cons_of_pos (by simp), List.map_cons, List.sum_cons, e]
      rfl
    · have hne := nlt_ne (hu.1 r h2)
      have e := lenR_some hu.2 h2
      unfold lenR at e ⊢
      rw [List.filter_cons_of_neg (by simpa using hne)]
      exact e

section
variable {w : World} {p : Nat} {m : Option Nat} {rs : List FR} {room used left : Int} {dead armed : Bool}
theorem drop_any (x : List UInt8) (u : Nat) (h : DskR w p m rs room (u : Int) left dead armed) (hu : rsUp rs) (hl : x.length ≤ maxLen) (hru : lenR x rs ≤ u) (hu2 : u ≤ 9223372036854775807) :
    Calls Try.prog 187 #[.pointer (some ⟨p, 0, none⟩), .string (tx x)] w (RetDel w p m rs x room ((u - lenR x rs : Nat) : Int) left dead armed (.tuple #[])) := by
  by_cases hex : ∃ r ∈ rs, r.name = x
  · obtain ⟨r, hr, rfl⟩ := hex
    rw [lenR_some hu hr] at hru ⊢
    exact drop_some u h hu hr hl hru hu2
  · have hno : ∀ r ∈ rs, r.name ≠ x := fun r hr e => hex ⟨r, hr, e⟩
    obtain ⟨e1, e2⟩ := lenR_none hno
    refine (drop_none x h hno hl).mono ?_
    rintro e w' ⟨rfl, rfl⟩
    refine ⟨rfl, ?_, Fr.refl _ _⟩
    rw [e1, e2, Nat.sub_zero]
    exact h

/-- 'The disk with the file under its new name.' -/
def RetRen (w : World) (p : Nat) (m : Option Nat) (rs rs2 : List FR) (x : List UInt8) (dat : List UInt8) (saf : Nat) (room used left : Int) (dead armed : Bool) (v : Value) (e : Ending) (w' : World) : Prop :=
  e = .returned v ∧ ∃ (r' : FR) (m' : Option Nat), r'.name = x ∧ r'.dat = dat ∧ r'.saf = saf ∧ DskR w' p m' (putR r' rs2) room used left dead armed ∧ Fr w w' (allB p m rs) ∧ ∀ b ∈ allB p m' (putR r' rs2), b ∈ allB p m rs ∨ w.heap.size ≤ b
theorem rename_dead (x y : List UInt8) (h : DskR w p m rs room used left true armed) :
    Calls Try.prog 152 #[.pointer (some ⟨p, 0, none⟩), .string (tx x), .string (tx y)] w (RetNo w 9) := by
  go_enter Try.func152, Try.ntmps152
  go_wp2_with fail
  refine (find_dead x h).mono ?_
  rintro e w' ⟨rfl, rfl⟩
  go_wp2_with fail
  refine (turn_err (p := p) (w := w) (e := 9) (by decide)).mono ?_
  rintro e w' ⟨rfl, rfl⟩
  go_wp2
  go_ret
  exact ⟨rfl, rfl⟩
theorem rename_none (x y : List UInt8) (h : DskR w p m rs room used left false armed) (hx : ∀ r ∈ rs, r.name ≠ x) (hl : x.length ≤ maxLen) :
    Calls Try.prog 152 #[.pointer (some ⟨p, 0, none⟩), .string (tx x), .string (tx y)] w (RetNo w 6) := by
  go_enter Try.func152, Try.ntmps152
  go_wp2_with fail
  refine (find_none x h hx hl).mono ?_
  rintro e w' ⟨rfl, rfl⟩
  go_wp2_with fail
  refine (turn_err (p := p) (w := w) (e := 6) (by decide)).mono ?_
  rintro e w' ⟨rfl, rfl⟩
  go_wp2
  go_ret
  exact ⟨rfl, rfl⟩
theorem rename_kill {r : FR} (y : List UInt8) (h : DskR w p m rs room used 0 false true) (hr : r ∈ rs) (hl : r.name.length ≤ maxLen) :
    Calls Try.prog 152 #[.pointer (some ⟨p, 0, none⟩), .string (tx r.name), .string (tx y)] w (RetHd w p (headV m room used 0 true false) (.int .i64 9)) := by
  go_enter Try.func152, Try.ntmps152
  go_wp2_with fail
  refine (find_some h hr hl).mono ?_
  rintro e w' ⟨rfl, rfl⟩
  go_wp2_with fail
  refine (turn_kill h).mono ?_
  rintro e w1 ⟨rfl, hH⟩
  go_wp2
  go_ret
  exact ⟨rfl, hH⟩
theorem txl (a : List UInt8) : (tx a).toList = a := by rw [ByteArray.toList_eq, tx_list]
theorem tx_ne {a b : List UInt8} (h : a ≠ b) : ((tx a).toList == (tx b).toList) = false := by
  rw [txl, txl, beq_eq_false_iff_ne]
  exact h
set_option maxRecDepth 100000 in
set_option maxHeartbeats 1000000 in
theorem rename_same {r : FR} (h : DskR w p m rs room used left false armed) (hr : r ∈ rs) (hl : r.name.length ≤ maxLen) (hl2 : 0 ≤ left ∧ left ≤ 9223372036854775807) (ht : tE armed left = 0) :
    Calls Try.prog 152 #[.pointer (some ⟨p, 0, none⟩), .string (tx r.name), .string (tx r.name)] w (RetHd w p (headV m room used (tL armed left) false armed) (.int .i64 0)) := by
  obtain ⟨t1, t2⟩ := tE_done (dead := false) ht
  have hT := turn_zero h hl2
  rw [ht, t1, t2] at hT
  have HT := Lib.hid hT
  clear hT t1 t2 ht
  go_enter Try.func152, Try.ntmps152
  go_wp2_with fail
  refine (find_some h hr hl).mono ?_
  rintro e w' ⟨rfl, rfl⟩
  go_wp2_with fail
  refine HT.out.mono ?_
  clear HT
  rintro e w1 ⟨rfl, hH⟩
  go_wp2
  go_ret
  exact ⟨rfl, hH⟩
set_option maxRecDepth 100000 in
set_option maxHeartbeats 2000000 in
theorem rename_some {r : FR} (y : List UInt8) (u : Nat) (h : DskR w p m rs room (u : Int) left false armed) (hu : rsUp rs) (hr : r ∈ rs) (hl : r.name.length ≤ 1099511627776) (hly : y.length ≤ 1099511627776) (hl2 : 0 ≤ left ∧ left ≤ 9223372036854775807) (ht : tE armed left = 0) (hne : r.name ≠ y)
    (hru : lenR y rs ≤ u) (hu2 : u ≤ 9223372036854775807) (hrs : rs.length ≤ 1099511627776) :
    Calls Try.prog 152 #[.pointer (some ⟨p, 0, none⟩), .string (tx r.name), .string (tx y)] w
      (RetRen w p m rs (delR r.name (delR y rs)) y r.dat r.saf room ((u - lenR y rs : Nat) : Int) (tL armed left) false armed (.int .i64 0)) := by
  obtain ⟨t1, t2⟩ := tE_done (dead := false) ht
  have hT := turn_zero h hl2
  rw [ht, t1, t2] at hT
  have HT := Lib.hid hT
  clear hT t1 t2 ht
  go_enter Try.func152, Try.ntmps152
  go_wp2_with fail
  refine (find_some h hr (by unfold maxLen; omega)).mono ?_
  rintro e w' ⟨rfl, rfl⟩
  go_wp2_with fail
  refine HT.out.mono ?_
  clear HT
  rintro e w1 ⟨rfl, hH⟩
  have hD1 := h.turn hH.1 hH.2
  have hcmp := tx_ne hne
  have HNE := Lib.hid hne
  clear hne
  have f1 : Fr w w1 (allB p m rs) := hH.1.mono (fun b hb => .inl (by rw [List.mem_singleton] at hb; rw [hb]; exact mem_head))
  clear h hH
  go_wp2_with fail
  refine (drop_any y u hD1 hu (by unfold maxLen; omega) hru hu2).mono ?_
  rintro e w2 ⟨rfl, hD2, hF2⟩
  have hu2' := delR_up (x := y) hu
  have hr2 : r ∈ delR y rs := mem_delR.2 ⟨hr, HNE.out⟩
  have f2 : Fr w w2 (allB p m rs) := f1.trans hF2 (fun b hb => .inl hb)
  have hkey := keyN (x := r.name) (by unfold maxLen; omega)
  have hln : (delR y rs).length ≤ rs.length := List.length_filter_le _ _
  clear hD1 hF2 f1 hcmp
  obtain ⟨rs2, hrs2⟩ : ∃ rs2, rs2 = delR y rs := ⟨_, rfl⟩
  have hmr : ∀ b ∈ allB p m rs2, b ∈ allB p m rs := fun b hb => by rw [hrs2] at hb; exact mem_delB hb
  have hny : ∀ q ∈ rs2, q.name ≠ y := fun q hq => by rw [hrs2] at hq; exact (mem_delR.1 hq).2
  rw [← hrs2] at hD2 hu2' hr2 hln ⊢
  have HRS2 := Lib.hid hrs2
  have HMR := Lib.hid hmr
  have HNY := Lib.hid hny
  clear hrs2 hmr hny
  have hM := hD2.2.1
  rcases hM with ⟨_, hM⟩ | ⟨b, Dm, rfl, ho, hm⟩
  · rw [hM] at hr2; cases hr2
  obtain ⟨c0, _⟩ := hD2.head
  go_wp2_with (at_delete; refine wpList_delete_own _ rfl _ _ 124 9 rfl 127 lawN Try.underlying124 _ b rs2.length Dm rfl ho _ _ rfl hkey ?_)
  intro w3 ho3 hturn
  have hD3 := hD2.del hu2' hr2 ho3 hm (ho.tidy lawN) hturn.grown
  have hfb3 : Fr w2 w3 [b] := Fr.of_grown hturn.grown (fun c hc => by injection hc with hc; rw [hc]; exact List.mem_singleton.2 rfl)
  have f3 : Fr w w3 (allB p (some b) rs) := f2.trans hfb3 (fun c hc => .inl (by rw [List.mem_singleton] at hc; rw [hc]; exact mem_map rfl))
  have hsep := hD2.2.2.2
  have hfa3 : FileAt w3 r := (hD2.2.2.1 r hr2).fr hfb3 (fun c hc hmem => (hsep.1 r hr2).2.1 b rfl (by rw [List.mem_singleton] at hmem; rw [← hmem]; exact hc))
  have hu3 := delR_up (x := r.name) hu2'
  obtain ⟨r', hr'⟩ : ∃ r' : FR, r' = { r with name := y } := ⟨_, rfl⟩
  have hat : FileAt w3 r' := by rw [hr']; exact hfa3
  have hfr : ∀ c ∈ r'.bl, c ∉ allB p (some b) (delR r.name rs2) := fun c hc hmem => by
    have hc : c ∈ r.bl := by rw [hr'] at hc; exact hc
    simp only [allB, List.mem_cons, List.mem_append, List.mem_flatMap, Option.mem_toList] at hmem
    rcases hmem with rfl | hmem | ⟨q, hq, hmem⟩
    · exact (hsep.1 r hr2).1 hc
    · exact (hsep.1 r hr2).2.1 c hmem hc
    · obtain ⟨hq1, hq2⟩ := mem_delR.1 hq
      exact sp_of hsep.2.2 hu2' hr2 hq1 (fun e => hq2 e.symm) c hc hmem
  have hne' : blk r'.A ≠ some r'.fb := by rw [hr']; exact (hsep.1 r hr2).2.2
  have hl3 : (delR r.name rs2).length ≤ 1099511627776 := Nat.le_trans (List.length_filter_le _ _) (by omega)
  have hP := put_any r' hD3 (fun q hq => by rw [hr']; exact HNY.out q (mem_delR.1 hq).1) (by rw [hr']; exact hly) hl3
  have hn' : r'.name = y := by rw [hr']
  have hf' : r'.fb = r.fb := by rw [hr']
  rw [hn', hf'] at hP
  have HP := Lib.hid hP
  have HV := Lib.hid (show r'.name = y ∧ r'.dat = r.dat ∧ r'.saf = r.saf from by rw [hr']; exact ⟨rfl, rfl, rfl⟩)
  have HAT := Lib.hid hat
  have HFR := Lib.hid hfr
  have HNE' := Lib.hid hne'
  have HD3 := Lib.hid hD3
  have HF3 := Lib.hid f3
  have HBL : Hid (∀ c ∈ r'.bl, c ∈ allB p (some b) rs) := Lib.hid (fun c hc => HMR.out c (mem_file hr2 (by rw [hr'] at hc; exact hc)))
  clear hP hat hfr hne' hD3 f3 hr' hn' hf' ho3 hturn ho hm hsep hfa3 hfb3 f2 hD2 hkey
  go_wp2_with fail
  refine HP.out.mono ?_
  clear HP
  rintro e w4 hret
  obtain ⟨he, hret2⟩ := hret
  subst he
  obtain ⟨mb, hD4, hF4, hmb⟩ := HD3.out.put hu3 ⟨rfl, hret2⟩ HAT.out HFR.out HNE'.out
  have hF : Fr w w4 (allB p (some b) rs) := HF3.out.trans hF4 (fun c hc => .inl (by
    simp only [List.mem_cons, Option.mem_toList, allB, List.mem_append] at hc ⊢
    rcases hc with hc | hc
    · exact .inl hc
    · exact .inr (.inl hc)))
  have hB : ∀ c ∈ allB p (some mb) (putR r' (delR r.name rs2)), c ∈ allB p (some b) rs ∨ w.heap.size ≤ c := fun c hc => by
    simp only [allB, List.mem_cons, List.mem_append, List.mem_flatMap, Option.mem_toList] at hc
    rcases hc with rfl | hc | ⟨q, hq, hc⟩
    · exact .inl mem_head
    · cases hc
      rcases hmb with h1 | h1
      · injection h1 with h1; exact .inl (by rw [← h1]; exact mem_map rfl)
      · exact .inr (Nat.le_trans HF3.out.size h1)
    · rcases putR_sub2 hu3 q hq with rfl | ⟨hq, _⟩
      · exact .inl (HBL.out c hc)
      · exact .inl (HMR.out c (mem_file (mem_delR.1 hq).1 hc))
  have HF := Lib.hid hF
  have HB := Lib.hid hB
  have HD4 := Lib.hid hD4
  clear hret2 hF4 hmb hF hB hD4
  go_wp2
  go_ret
  rw [← HRS2.out]
  exact ⟨rfl, r', some mb, HV.out.1, HV.out.2.1, HV.out.2.2, HD4.out, HF.out, HB.out⟩
end
end Go.Proofs.Ytcclhkoggijkaaa
namespace Go.Proofs.Ytcclhkoggijkaaa
open Go Go.RowKit

theorem ordK_at2 {es : List En} : ∀ {k : Nat}, ordK es k = true → ∀ (i : Nat) a b, i < k → es[i]? = some a → es[i + 1]? = some b → lessE a b = true
  | k + 1, h, i, a, b, hi, ha, hb => by
    rw [ordK, Bool.and_eq_true] at h
    rcases Nat.lt_or_ge i k with h1 | h1
    · exact ordK_at2 h.1 i a b h1 ha hb
    · obtain rfl : i = k := by omega
      have h2 := h.2
      rw [ha, hb] at h2
      exact h2
theorem sort_of_ord {es : List En} (h : ordE es = true) : SortL es := by
  have key : ∀ (j i : Nat) a b, i < j → es[i]? = some a → es[j]? = some b → lessE a b = true := by
    intro j
    induction j with
    | zero => intro i a b h; omega
    | succ j ih =>
      intro i a b hij ha hb
      have hlt : j + 1 < es.length := (List.getElem?_eq_some_iff.1 hb).1
      obtain ⟨c, hc⟩ : ∃ c, es[j]? = some c := ⟨_, List.getElem?_eq_getElem (by omega)⟩
      have h1 := ordK_at2 h j c b (by omega) hc hb
      by_cases e : i = j
      · subst e
        rw [hc] at ha
        injection ha with ha
        rw [← ha]
        exact h1
      · exact lessE_trans (ih i a c (by omega) ha hc) h1
  unfold SortL
  rw [List.pairwise_iff_getElem]
  intro i j hi hj hij
  exact key j i _ _ hij (List.getElem?_eq_getElem hi) (List.getElem?_eq_getElem hj)
theorem ord_of_sort2 {es : List En} (h : SortL es) : ordE es = true := by
  have key : ∀ k, k ≤ es.length - 1 → ordK es k = true := by
    intro k
    induction k with
    | zero => intro _; rfl
    | succ k ih =>
      intro hk
      have ha : es[k]? = some (es[k]'(by omega)) := List.getElem?_eq_getElem (by omega)
      have hb : es[k + 1]? = some (es[k + 1]'(by omega)) := List.getElem?_eq_getElem (by omega)
      rw [ordK_step ha hb, ih (by omega), Bool.true_and]
      exact List.pairwise_iff_getElem.1 h k (k + 1) (by omega) (by omega) (by omega)
  exact key _ (Nat.le_refl _)
theorem sort_at {es : List En} (h : SortL es) {i j : Nat} {a b : En} (hij : i < j) (ha : es[i]? = some a) (hb : es[j]? = some b) : lessE a b = true := by
  obtain ⟨l1, e1⟩ := List.getElem?_eq_some_iff.1 ha
  obtain ⟨l2, e2⟩ := List.getElem?_eq_some_iff.1 hb
  have := List.pairwise_iff_getElem.1 h i j l1 l2 hij
  rw [e1, e2] at this
  exact this
theorem sort_uniq {es : List En} (h : SortL es) {i j : Nat} {a b : En} (ha : es[i]? = some a) (hb : es[j]? = some b) (hk : a.key = b.key) (hs : a.seq = b.seq) : i = j := by
  have hn := sameK_not (sameK_iff.2 ⟨hk, hs⟩)
  rcases Nat.lt_trichotomy i j with e | e | e
  · have := sort_at h e ha hb
    rw [hn.1] at this; cases this
  · exact e
  · have := sort_at h e hb ha
    rw [hn.2] at this; cases this
theorem less_seq {a b : En} (h : lessE a b = true) (hk : a.key = b.key) : b.seq < a.seq := by
  rcases lessE_iff.1 h with h | h
  · rw [hk, cmpB_refl] at h; omega
  · exact h.2
/-- No earlier entry has the key of one whose neighbour hasn't. -/
theorem sort_far {es : List En} (h : SortL es) {k j : Nat} {a x y : En} (ha : es[k]? = some a) (hx : es[k + 1]? = some x) (hne : a.key ≠ x.key) (hj : j ≤ k) (hy : es[j]? = some y) : y.key ≠ x.key := by
  have h1 : cmpB a.key x.key < 0 := by
    rcases lessE_iff.1 (sort_at h (Nat.lt_succ_self k) ha hx) with q | q
    · exact q
    · exact absurd q.1 hne
  rcases Nat.eq_or_lt_of_le hj with e | e
  · subst e
    rw [ha] at hy
    injection hy with hy
    rw [← hy]
    exact hne
  · intro hk
    rcases lessE_iff.1 (sort_at h e hy ha) with q | q
    · have := cmpB_trans q h1
      rw [hk, cmpB_refl] at this
      omega
    · rw [← q.1, hk] at h1
      rw [cmpB_refl] at h1
      omega
theorem seen_one {es : List En} {i a : Nat} {x : En} (h : SortL es) (hx : es[i]? = some x) : seenE es i [a] = true ↔ findL x.key a es = some x := by
  rw [seenE_at hx]
  simp only [List.any_cons, List.any_nil, Bool.or_false, Bool.and_eq_true, decide_eq_true_eq]
  unfold findL
  rw [List.find?_eq_some_iff_getElem]
  have hlt := (List.getElem?_eq_some_iff.1 hx).1
  have hxe := (List.getElem?_eq_some_iff.1 hx).2
  constructor
  · rintro ⟨h1, h2⟩
    refine ⟨by simp [eqB, h1], i, hlt, hxe, fun j hj => ?_⟩
    have hjy : es[j]? = some (es[j]'(by omega)) := List.getElem?_eq_getElem (by omega)
    cases i with
    | zero => omega
    | succ k =>
      have hka : es[k]? = some (es[k]'(by omega)) := List.getElem?_eq_getElem (by omega)
      rw [newerE_at hka hx] at h2
      by_cases hkk : (es[k]'(by omega)).key = x.key
      · have e1 : eqB (es[k]'(by omega)).key x.key = true := by simp [eqB, hkk]
        rw [e1, if_pos rfl] at h2
        simp only [decide_eq_true_eq] at h2
        by_cases hjk : (es[j]'(by omega)).key = x.key
        · have : (es[k]'(by omega)).seq ≤ (es[j]'(by omega)).seq := by
            rcases Nat.eq_or_lt_of_le (Nat.le_of_lt_succ hj) with e | e
            · subst e; exact Nat.le_refl _
            · exact Nat.le_of_lt (less_seq (sort_at h e hjy hka) (hjk.trans hkk.symm))
          have : ¬ (es[j]'(by omega)).seq ≤ a := by omega
          simp [this]
        · simp [eqB, hjk]
      · have := sort_far h hka hx hkk (Nat.le_of_lt_succ hj) hjy
        simp [eqB, this]
  · rintro ⟨h1, j, hj, he, hf⟩
    have hij : i = j := sort_uniq h hx (List.getElem?_eq_getElem hj) (by rw [he]) (by rw [he])
    subst hij
    rw [Bool.and_eq_true, decide_eq_true_eq] at h1
    refine ⟨h1.2, ?_⟩
    cases i with
    | zero => rfl
    | succ k =>
      have hka : es[k]? = some (es[k]'(by omega)) := List.getElem?_eq_getElem (by omega)
      rw [newerE_at hka hx]
      by_cases hkk : (es[k]'(by omega)).key = x.key
      · have e1 : eqB (es[k]'(by omega)).key x.key = true := by simp [eqB, hkk]
        rw [e1, if_pos rfl]
        have := hf k (Nat.lt_succ_self k)
        rw [e1] at this
        simp at this
        simpa using this
      · have e1 : eqB (es[k]'(by omega)).key x.key = false := by simp [eqB, hkk]
        rw [e1]
        rfl
/-- What the reference's Visible looks at. -/
def refP (es : List En) (a i : Nat) : Bool := match es[i]? with
  | none => false
  | some x => match findL x.key a es with
    | none => false
    | some v => decide (v.seq = x.seq) && decide (v.kind = 1)
theorem findL_in {es : List En} {key : List UInt8} {a : Nat} {v : En} (h : findL key a es = some v) : v ∈ es ∧ v.key = key ∧ v.seq ≤ a := by
  unfold findL at h
  have h1 := List.find?_some h
  rw [Bool.and_eq_true, decide_eq_true_eq] at h1
  exact ⟨List.mem_of_find?_eq_some h, by simpa [eqB] using h1.1, h1.2⟩
theorem vis_ref {es : List En} (h : SortL es) (a i : Nat) : visP es [a] i = refP es a i := by
  unfold visP refP
  cases hx : es[i]? with
  | none => rfl
  | some x =>
    simp only
    cases hs : seenE es i [a] with
    | true =>
      rw [(seen_one h hx).1 hs]
      simp
    | false =>
      rw [Bool.and_false]
      cases hf : findL x.key a es with
      | none => rfl
      | some v =>
        obtain ⟨hm, hk, _⟩ := findL_in hf
        simp only
        by_cases hq : v.seq = x.seq
        · obtain ⟨j, hj⟩ := List.mem_iff_getElem?.1 hm
          have := sort_uniq h hx hj hk.symm hq.symm
          subst this
          rw [hx] at hj
          injection hj with hj
          rw [← hj] at hf
          rw [(seen_one h hx).2 hf] at hs
          cases hs
        · simp [hq]
theorem pkE_congr {p q : Nat → Bool} (es : List En) : ∀ k, (∀ i, i < k → p i = q i) → pkE p es k = pkE q es k
  | 0, _ => rfl
  | k + 1, h => by rw [pkE, pkE, pkE_congr es k (fun i hi => h i (by omega)), h k (Nat.lt_succ_self k)]
theorem chk1_ok {es : List En} (h : chk1 es = 0) : SortL es ∧ checkE es = 0 := by
  unfold chk1 at h
  split at h
  · rename_i h1
    exact absurd h h1
  · rename_i h1
    split at h
    · rename_i h2
      exact ⟨sort_of_ord h2, by omega⟩
    · cases h
end Go.Proofs.Ytcclhkoggijkaaa
namespace Go.Proofs.Ytcclhkoggijkaaa
open Go Go.RowKit Go.Maps Go.Proofs

def nmR (pre : List UInt8) (rs : List FR) : List (List UInt8) := (rs.map FR.name).filter fun x => Lib.hasPrefix x pre
theorem nmR_up {pre : List UInt8} {rs : List FR} (h : rsUp rs) : (nmR pre rs).Pairwise fun a b => a < b := by
  unfold nmR
  refine List.Pairwise.filter _ ?_
  rw [List.pairwise_map]
  exact h
theorem nmR_sort {pre : List UInt8} {rs : List FR} {zs : List (List UInt8)} (h : rsUp rs) (hn : zs.Nodup) (hm : ∀ x, x ∈ zs ↔ x ∈ nmR pre rs) : zs.mergeSort (fun x y => decide (x ≤ y)) = nmR pre rs := by
  have hu := nmR_up (pre := pre) h
  have hp : List.Perm (zs.mergeSort (fun x y => decide (x ≤ y))) (nmR pre rs) :=
    (List.mergeSort_perm zs _).trans ((List.perm_ext_iff_of_nodup hn (hu.imp fun h => nlt_ne h)).2 hm)
  refine List.Perm.eq_of_pairwise (le := fun a b => a ≤ b) (fun a b _ _ h1 h2 => List.le_antisymm h1 h2) ?_ (hu.imp fun h => List.le_of_lt h) hp
  have := List.pairwise_mergeSort (le := fun x y : List UInt8 => decide (x ≤ y)) (fun a b c h1 h2 => by simp only [decide_eq_true_eq] at *; exact List.le_trans h1 h2) (fun a b => by simpa using List.le_total a b) zs
  exact this.imp (fun h => by simpa using h)

/-- 'It hands back a row of these names, new.' -/
def RetNm (w : World) (ns : List (List UInt8)) (e : Ending) (w' : World) : Prop :=
  ∃ A n c, e = .returned (.slice A n c) ∧ OwnV 9 w' w.heap.size A n c (ns.map encStr) ∧ Below w.heap.size w w'
theorem info_str : (Try.prog.info? 9).map (fun i => (i.zero, i.size, i.bytes)) = some (some (.string ⟨#[]⟩), 1, 16) := by kernel_rfl

section
variable {w : World} {p : Nat} {m : Option Nat} {rs : List FR} {room used left : Int} {dead armed : Bool}
end
end Go.Proofs.Ytcclhkoggijkaaa
namespace Go.Proofs.Ytcclhkoggijkaaa
open Go Go.RowKit

/-- Two lists in order as one; of two alike that of the first. -/
def mrg2 : List En → List En → List En
  | [], gs => gs
  | x :: es, [] => x :: es
  | x :: es, y :: gs => if lessE y x then y :: mrg2 (x :: es) gs else if lessE x y then x :: mrg2 es (y :: gs) else x :: mrg2 es gs
termination_by a b => a.length + b.length
theorem mrg2_nil (es : List En) : mrg2 es [] = es := by
  cases es <;> simp [mrg2]
theorem nil_mrg2 (gs : List En) : mrg2 [] gs = gs := by simp [mrg2]
theorem mrg2_cons (x y : En) (es gs : List En) : mrg2 (x :: es) (y :: gs) = if lessE y x then y :: mrg2 (x :: es) gs else if lessE x y then x :: mrg2 es (y :: gs) else x :: mrg2 es gs := by rw [mrg2]
theorem inL_iff {es : List En} {e : En} : inL es e = true ↔ ∃ x ∈ es, x.key = e.key ∧ x.seq = e.seq := by
  unfold inL
  rw [List.any_eq_true]
  exact ⟨fun ⟨x, h1, h2⟩ => ⟨x, h1, sameK_iff.1 h2⟩, fun ⟨x, h1, h2⟩ => ⟨x, h1, sameK_iff.2 h2⟩⟩
theorem inL_not {es : List En} {e : En} : inL es e = false ↔ ∀ x ∈ es, ¬ (x.key = e.key ∧ x.seq = e.seq) := by
  rw [← Bool.not_eq_true, inL_iff]
  exact ⟨fun h x hx hk => h ⟨x, hx, hk⟩, fun h ⟨x, hx, hk⟩ => h x hx hk⟩
theorem less_ne {a b : En} (h : lessE a b = true) : ¬ (a.key = b.key ∧ a.seq = b.seq) := fun hk => by
  have := (sameK_not (sameK_iff.2 hk)).1
  rw [h] at this
  cases this
theorem sort_head {x : En} {es : List En} (h : SortL (x :: es)) : ∀ y ∈ es, lessE x y = true := (List.pairwise_cons.1 h).1
theorem sort_tail {x : En} {es : List En} (h : SortL (x :: es)) : SortL es := (List.pairwise_cons.1 h).2
theorem mrg2_mem {z : En} : ∀ {es gs : List En}, SortL es → SortL gs → (z ∈ mrg2 es gs ↔ z ∈ es ∨ (z ∈ gs ∧ inL es z = false))
  | [], gs, _, _ => by
    rw [nil_mrg2]
    simp [inL]
  | x :: es, [], _, _ => by
    rw [mrg2_nil]
    simp
  | x :: es, y :: gs, h1, h2 => by
    have t1 := sort_tail h1
    have t2 := sort_tail h2
    rw [mrg2_cons]
    by_cases hyx : lessE y x = true
    · rw [if_pos hyx, List.mem_cons, mrg2_mem (es := x :: es) h1 t2]
      have hny : inL (x :: es) y = false := by
        rw [inL_not]
        intro v hv hk
        rcases List.mem_cons.1 hv with e | e
        · rw [e] at hk
          exact less_ne hyx ⟨hk.1.symm, hk.2.symm⟩
        · exact less_ne (lessE_trans hyx (sort_head h1 v e)) ⟨hk.1.symm, hk.2.symm⟩
      constructor
      · rintro (h | h | ⟨h, k⟩)
        · exact .inr ⟨by rw [h]; exact List.mem_cons_self, by rw [h]; exact hny⟩
        · exact .inl h
        · exact .inr ⟨List.mem_cons_of_mem _ h, k⟩
      · rintro (h | ⟨h, k⟩)
        · exact .inr (.inl h)
        · rcases List.mem_cons.1 h with h | h
          · exact .inl h
          · exact .inr (.inr ⟨h, k⟩)
    · rw [if_neg hyx]
      by_cases hxy : lessE x y = true
      · rw [if_pos hxy, List.mem_cons, mrg2_mem (gs := y :: gs) t1 h2]
        have hx : ∀ v ∈ y :: gs, ¬ (x.key = v.key ∧ x.seq = v.seq) := fun v hv => by
          rcases List.mem_cons.1 hv with e | e
          · rw [e]; exact less_ne hxy
          · exact less_ne (lessE_trans hxy (sort_head h2 v e))
        constructor
        · rintro (h | h | ⟨h, k⟩)
          · exact .inl (by rw [h]; exact List.mem_cons_self)
          · exact .inl (List.mem_cons_of_mem _ h)
          · refine .inr ⟨h, ?_⟩
            rw [inL_not] at k ⊢
            intro v hv
            rcases List.mem_cons.1 hv with e | e
            · rw [e]; exact hx z h
            · exact k v e
        · rintro (h | ⟨h, k⟩)
          · rcases List.mem_cons.1 h with h | h
            · exact .inl h
            · exact .inr (.inl h)
          · refine .inr (.inr ⟨h, ?_⟩)
            rw [inL_not] at k ⊢
            exact fun v hv => k v (List.mem_cons_of_mem _ hv)
      · have hs : x.key = y.key ∧ x.seq = y.seq := by
          rcases lessE_tri x y with h | h | h
          · exact absurd h hxy
          · exact absurd h hyx
          · exact sameK_iff.1 h
        rw [if_neg hxy, List.mem_cons, mrg2_mem t1 t2]
        have hx : ∀ v ∈ gs, ¬ (x.key = v.key ∧ x.seq = v.seq) := fun v hv hk =>
          less_ne (sort_head h2 v hv) ⟨hs.1.symm.trans hk.1, hs.2.symm.trans hk.2⟩
        constructor
        · rintro (h | h | ⟨h, k⟩)
          · exact .inl (by rw [h]; exact List.mem_cons_self)
          · exact .inl (List.mem_cons_of_mem _ h)
          · refine .inr ⟨List.mem_cons_of_mem _ h, ?_⟩
            rw [inL_not] at k ⊢
            intro v hv
            rcases List.mem_cons.1 hv with e | e
            · rw [e]; exact hx z h
            · exact k v e
        · rintro (h | ⟨h, k⟩)
          · rcases List.mem_cons.1 h with h | h
            · exact .inl h
            · exact .inr (.inl h)
          · rw [inL_not] at k
            rcases List.mem_cons.1 h with h | h
            · exact absurd (by rw [h]; exact hs) (k x List.mem_cons_self)
            · refine .inr (.inr ⟨h, ?_⟩)
              rw [inL_not]
              exact fun v hv => k v (List.mem_cons_of_mem _ hv)
termination_by es gs => es.length + gs.length
theorem mrg2_sort : ∀ {es gs : List En}, SortL es → SortL gs → SortL (mrg2 es gs)
  | [], gs, _, h => by rw [nil_mrg2]; exact h
  | x :: es, [], h, _ => by rw [mrg2_nil]; exact h
  | x :: es, y :: gs, h1, h2 => by
    have t1 := sort_tail h1
    have t2 := sort_tail h2
    rw [mrg2_cons]
    by_cases hyx : lessE y x = true
    · rw [if_pos hyx]
      refine List.pairwise_cons.2 ⟨fun v hv => ?_, mrg2_sort h1 t2⟩
      rcases (mrg2_mem h1 t2).1 hv with h | ⟨h, _⟩
      · rcases List.mem_cons.1 h with e | e
        · rw [e]; exact hyx
        · exact lessE_trans hyx (sort_head h1 v e)
      · exact sort_head h2 v h
    · rw [if_neg hyx]
      by_cases hxy : lessE x y = true
      · rw [if_pos hxy]
        refine List.pairwise_cons.2 ⟨fun v hv => ?_, mrg2_sort t1 h2⟩
        rcases (mrg2_mem t1 h2).1 hv with h | ⟨h, _⟩
        · exact sort_head h1 v h
        · rcases List.mem_cons.1 h with e | e
          · rw [e]; exact hxy
          · exact lessE_trans hxy (sort_head h2 v e)
      · rw [if_neg hxy]
        have hs : x.key = y.key ∧ x.seq = y.seq := by
          rcases lessE_tri x y with h | h | h
          · exact absurd h hxy
          · exact absurd h hyx
          · exact sameK_iff.1 h
        refine List.pairwise_cons.2 ⟨fun v hv => ?_, mrg2_sort t1 t2⟩
        rcases (mrg2_mem t1 t2).1 hv with h | ⟨h, _⟩
        · exact sort_head h1 v h
        · have := sort_head h2 v h
          rw [lessE_iff] at this ⊢
          rw [hs.1, hs.2]
          exact this
termination_by es gs => es.length + gs.length
theorem mrg2_len : ∀ (es gs : List En), (mrg2 es gs).length ≤ es.length + gs.length
  | [], gs => by rw [nil_mrg2]; simp
  | x :: es, [] => by rw [mrg2_nil]; simp
  | x :: es, y :: gs => by
    have h1 := mrg2_len (x :: es) gs
    have h2 := mrg2_len es (y :: gs)
    have h3 := mrg2_len es gs
    simp only [List.length_cons] at h1 h2
    rw [mrg2_cons]
    split
    · simp only [List.length_cons]; omega
    · split <;> simp only [List.length_cons] <;> omega
termination_by es gs => es.length + gs.length
theorem mrg2_from {z : En} : ∀ {es gs : List En}, z ∈ mrg2 es gs → z ∈ es ∨ z ∈ gs
  | [], gs, h => by rw [nil_mrg2] at h; exact .inr h
  | x :: es, [], h => by rw [mrg2_nil] at h; exact .inl h
  | x :: es, y :: gs, h => by
    rw [mrg2_cons] at h
    split at h
    · rcases List.mem_cons.1 h with h | h
      · exact .inr (by rw [h]; exact List.mem_cons_self)
      · rcases mrg2_from h with h | h
        · exact .inl h
        · exact .inr (List.mem_cons_of_mem _ h)
    · split at h
      · rcases List.mem_cons.1 h with h | h
        · exact .inl (by rw [h]; exact List.mem_cons_self)
        · rcases mrg2_from h with h | h
          · exact .inl (List.mem_cons_of_mem _ h)
          · exact .inr h
      · rcases List.mem_cons.1 h with h | h
        · exact .inl (by rw [h]; exact List.mem_cons_self)
        · rcases mrg2_from h with h | h
          · exact .inl (List.mem_cons_of_mem _ h)
          · exact .inr (List.mem_cons_of_mem _ h)
termination_by es gs => es.length + gs.length
/-- Lists in order are what they have. -/
theorem sort_ext : ∀ {es gs : List En}, SortL es → SortL gs → (∀ z, z ∈ es ↔ z ∈ gs) → es = gs
  | [], [], _, _, _ => rfl
  | [], y :: gs, _, _, h => by have := (h y).2 List.mem_cons_self; cases this
  | x :: es, [], _, _, h => by have := (h x).1 List.mem_cons_self; cases this
  | x :: es, y :: gs, h1, h2, h => by
    have hxy : x = y := by
      rcases List.mem_cons.1 ((h x).1 List.mem_cons_self) with e | e
      · exact e
      · rcases List.mem_cons.1 ((h y).2 List.mem_cons_self) with k | k
        · exact k.symm
        · have a1 := sort_head h2 x e
          have a2 := lessE_asym (sort_head h1 y k)
          rw [a1] at a2
          cases a2
    subst hxy
    have : es = gs := sort_ext (sort_tail h1) (sort_tail h2) (fun z => by
      have hz := h z
      have n1 : ∀ {l : List En}, SortL (x :: l) → z ∈ l → z ≠ x := fun hs hz he => by
        have := sort_head hs z hz
        rw [he, lessE_irr] at this
        cases this
      constructor
      · intro k
        rcases List.mem_cons.1 (hz.1 (List.mem_cons_of_mem _ k)) with e | e
        · exact absurd e (n1 h1 k)
        · exact e
      · intro k
        rcases List.mem_cons.1 (hz.2 (List.mem_cons_of_mem _ k)) with e | e
        · exact absurd e (n1 h2 k)
        · exact e)
    rw [this]
theorem inL_mrg2 {es gs : List En} (h1 : SortL es) (h2 : SortL gs) (z : En) : inL (mrg2 es gs) z = (inL es z || inL gs z) := by
  cases hb : (inL es z || inL gs z) with
  | true =>
    rw [inL_iff]
    by_cases he : inL es z = true
    · obtain ⟨x, hx, hk⟩ := inL_iff.1 he
      exact ⟨x, (mrg2_mem h1 h2).2 (.inl hx), hk⟩
    · rw [Bool.not_eq_true] at he
      rw [he, Bool.false_or] at hb
      obtain ⟨x, hx, hk⟩ := inL_iff.1 hb
      refine ⟨x, (mrg2_mem h1 h2).2 (.inr ⟨hx, ?_⟩), hk⟩
      rw [inL_not] at he ⊢
      exact fun v hv k => he v hv ⟨k.1.trans hk.1, k.2.trans hk.2⟩
  | false =>
    rw [Bool.or_eq_false_iff] at hb
    rw [inL_not]
    intro v hv
    rcases (mrg2_mem h1 h2).1 hv with h | ⟨h, _⟩
    · exact inL_not.1 hb.1 v h
    · exact inL_not.1 hb.2 v h
theorem mrg2_assoc {a b c : List En} (ha : SortL a) (hb : SortL b) (hc : SortL c) : mrg2 (mrg2 a b) c = mrg2 a (mrg2 b c) := by
  have hab := mrg2_sort ha hb
  have hbc := mrg2_sort hb hc
  refine sort_ext (mrg2_sort hab hc) (mrg2_sort ha hbc) (fun z => ?_)
  rw [mrg2_mem hab hc, mrg2_mem ha hbc, mrg2_mem ha hb, mrg2_mem hb hc, inL_mrg2 ha hb, Bool.or_eq_false_iff]
  constructor
  · rintro ((h | ⟨h, k⟩) | ⟨h, k1, k2⟩)
    · exact .inl h
    · exact .inr ⟨.inl h, k⟩
    · exact .inr ⟨.inr ⟨h, k2⟩, k1⟩
  · rintro (h | ⟨h | ⟨h, k⟩, k2⟩)
    · exact .inl (.inl h)
    · exact .inl (.inr ⟨h, k2⟩)
    · exact .inr ⟨h, k2, k⟩
theorem mrg2_self {a : List En} (h : SortL a) : mrg2 a a = a := by
  refine sort_ext (mrg2_sort h h) h (fun z => ?_)
  rw [mrg2_mem h h]
  constructor
  · rintro (k | ⟨k, _⟩) <;> exact k
  · exact .inl
/-- Entries put in one by one, those that aren't there. -/
def insA (o : List En) : List En → List En
  | [] => o
  | x :: xs => insA (if inL o x then o else insL o x) xs
theorem insL_mem2 {o : List En} {x z : En} (hs : SortL o) (hin : inL o x = false) : z ∈ insL o x ↔ z ∈ o ∨ z = x := by
  obtain ⟨p, q, e, h1, h2⟩ := split_of hs hin
  subst e
  rw [insL_app (fun y hy => lessE_asym (h1 y hy)) h2]
  simp only [List.mem_append, List.mem_cons]
  constructor
  · rintro (h | h | h)
    · exact .inl (.inl h)
    · exact .inr h
    · exact .inl (.inr h)
  · rintro ((h | h) | h)
    · exact .inl h
    · exact .inr (.inr h)
    · exact .inr (.inl h)
theorem insA_mrg2 : ∀ {xs o : List En}, SortL o → SortL xs → insA o xs = mrg2 o xs
  | [], o, _, _ => by rw [mrg2_nil]; rfl
  | x :: xs, o, ho, hx => by
    have tx := sort_tail hx
    rw [insA]
    have hone : SortL [x] := List.pairwise_singleton _ _
    have hstep : (if inL o x then o else insL o x) = mrg2 o [x] := by
      by_cases hi : inL o x = true
      · rw [if_pos hi]
        refine (sort_ext (mrg2_sort ho hone) ho (fun z => ?_)).symm
        rw [mrg2_mem ho hone, List.mem_singleton]
        constructor
        · rintro (h | ⟨h, k⟩)
          · exact h
          · rw [h, hi] at k; cases k
        · exact .inl
      · rw [if_neg hi]
        rw [Bool.not_eq_true] at hi
        refine sort_ext (insL_sort ho hi) (mrg2_sort ho hone) (fun z => ?_)
        rw [insL_mem2 ho hi, mrg2_mem ho hone, List.mem_singleton]
        constructor
        · rintro (h | h)
          · exact .inl h
          · exact .inr ⟨h, by rw [h]; exact hi⟩
        · rintro (h | ⟨h, _⟩)
          · exact .inl h
          · exact .inr h
    have hcat : mrg2 [x] xs = x :: xs := by
      refine sort_ext (mrg2_sort hone tx) hx (fun z => ?_)
      rw [mrg2_mem hone tx, List.mem_singleton, List.mem_cons]
      constructor
      · rintro (h | ⟨h, _⟩)
        · exact .inl h
        · exact .inr h
      · rintro (h | h)
        · exact .inl h
        · refine .inr ⟨h, ?_⟩
          rw [inL_not]
          intro v hv
          rw [List.mem_singleton] at hv
          rw [hv]
          exact less_ne (sort_head hx z h)
    rw [hstep, insA_mrg2 (mrg2_sort ho hone) tx, mrg2_assoc ho hone tx, hcat]
/-- What the reference's Merge makes. -/
def refM (ls : List (List En)) : List En := ls.foldl insA []
/-- What join makes. -/
def joinL : Nat → List (List En) → List En
  | 0, _ => []
  | f + 1, ls => match ls with
    | [] => []
    | [x] => x
    | _ => mrg2 (joinL f (ls.take (ls.length / 2))) (joinL f (ls.drop (ls.length / 2)))
def AllS (ls : List (List En)) : Prop := ∀ l ∈ ls, SortL l
theorem foldl_sort : ∀ {ls : List (List En)} {o : List En}, SortL o → AllS ls → SortL (ls.foldl mrg2 o)
  | [], _, h, _ => h
  | l :: ls, o, h, hs => by
    rw [List.foldl_cons]
    exact foldl_sort (mrg2_sort h (hs l List.mem_cons_self)) (fun x hx => hs x (List.mem_cons_of_mem _ hx))
theorem foldl_ins : ∀ {ls : List (List En)} {o : List En}, SortL o → AllS ls → ls.foldl insA o = ls.foldl mrg2 o
  | [], _, _, _ => rfl
  | l :: ls, o, h, hs => by
    have hl := hs l List.mem_cons_self
    rw [List.foldl_cons, List.foldl_cons, insA_mrg2 h hl]
    exact foldl_ins (mrg2_sort h hl) (fun x hx => hs x (List.mem_cons_of_mem _ hx))
theorem sort_nil : SortL [] := List.Pairwise.nil
theorem foldl_out : ∀ {ls : List (List En)} {o : List En}, SortL o → AllS ls → ls.foldl mrg2 o = mrg2 o (ls.foldl mrg2 [])
  | [], o, _, _ => by simp only [List.foldl_nil]; rw [mrg2_nil]
  | l :: ls, o, h, hs => by
    have hl := hs l List.mem_cons_self
    have ht : AllS ls := fun x hx => hs x (List.mem_cons_of_mem _ hx)
    rw [List.foldl_cons, List.foldl_cons, nil_mrg2, foldl_out (mrg2_sort h hl) ht, foldl_out hl ht, mrg2_assoc h hl (foldl_sort sort_nil ht)]
theorem joinL_eq : ∀ (f : Nat) {ls : List (List En)}, ls.length ≤ f → AllS ls → joinL f ls = ls.foldl mrg2 []
  | 0, ls, h, _ => by
    have : ls = [] := List.eq_nil_of_length_eq_zero (by omega)
    subst this
    rfl
  | f + 1, ls, h, hs => by
    match ls, h, hs with
    | [], _, _ => rfl
    | [x], _, _ => rw [joinL, List.foldl_cons, List.foldl_nil, nil_mrg2]
    | x :: y :: t, h, hs =>
      rw [joinL]
      · generalize hg : x :: y :: t = ls at h hs ⊢
        have h2 : 2 ≤ ls.length := by rw [← hg]; simp
        have s1 : AllS (ls.take (ls.length / 2)) := fun l hl => hs l (List.mem_of_mem_take hl)
        have s2 : AllS (ls.drop (ls.length / 2)) := fun l hl => hs l (List.mem_of_mem_drop hl)
        rw [joinL_eq f (by rw [List.length_take]; omega) s1, joinL_eq f (by rw [List.length_drop]; omega) s2, ← foldl_out (foldl_sort sort_nil s1) s2, ← List.foldl_append, List.take_append_drop]
      · intro h; cases h
      · intro z h; cases h
theorem joinL_ref {ls : List (List En)} (hs : AllS ls) : joinL ls.length ls = refM ls := by
  unfold refM
  rw [joinL_eq _ (Nat.le_refl _) hs, foldl_ins sort_nil hs]
end Go.Proofs.Ytcclhkoggijkaaa
namespace Go.Proofs.Ytcclhkoggijkaaa
open Go Go.RowKit

set_option maxRecDepth 100000 in
set_option maxHeartbeats 4000000 in
theorem few11_any {A : Option Addr} {n c : Nat} {m : Nat} (hc : n ≤ c) (w : World) : Calls Try.prog 81 #[.slice A n c, .int .i64 (m : Int)] w (fun e w' => e = .returned (.slice A (min n m) c) ∧ w' = w) := by
  by_cases h : m < n
  · have hm : min n m = m := by omega
    have hcl : ∀ w, (Instr.slice 22 (.slice A n c) none (some (.int .i64 (m : Int))) none).run Try.prog w = .ok (.slice A m c) w := fun w => cut4_h Try.underlying22 elem4 size4 A (by omega) w
    rw [hm]
    clear hm
    go_enter Try.func81, Try.ntmps81
    go_wp2_with fail
    go_ret
    exact ⟨rfl, rfl⟩
  · have hm : min n m = n := by omega
    rw [hm]
    clear hm
    go_enter Try.func81, Try.ntmps81
    go_wp2_with fail
    go_ret
    exact ⟨rfl, rfl⟩
end Go.Proofs.Ytcclhkoggijkaaa
namespace Go.Proofs.Ytcclhkoggijkaaa
open Go Go.RowKit Go.Maps

def keepN (ks : List Int) (k t : Nat) : Nat := match ks[k % ks.length]? with | none => 0 | some z => z.toNat % (t + 1)
theorem keepN_le (ks : List Int) (k t : Nat) : keepN ks k t ≤ t := by
  unfold keepN
  split
  · omega
  · have := Nat.mod_lt (Int.toNat ‹Int›) (show 0 < t + 1 by omega); omega
theorem keepN_nil (k t : Nat) : keepN [] k t = 0 := by simp [keepN]
theorem keepN_at {ks : List Int} {k t : Nat} {z : Int} (h : ks[k % ks.length]? = some z) : keepN ks k t = z.toNat % (t + 1) := by rw [keepN, h]
def cutE (ks : List Int) (k : Nat) (f : FE) : FE :=
  (f.1, f.2.1.take (f.2.2 + keepN ks k (f.2.1.length - f.2.2)), f.2.2 + keepN ks k (f.2.1.length - f.2.2))
def crStep (ks : List Int) (acc : List FE × Nat) (f : FE) : List FE × Nat :=
  if f.2.1.length = f.2.2 then (acc.1 ++ [f], acc.2) else (acc.1 ++ [cutE ks acc.2 f], acc.2 + 1)
def crP (ks : List Int) (l : List FE) : List FE × Nat := l.foldl (crStep ks) ([], 0)
theorem crP_snoc (ks : List Int) (l : List FE) (f : FE) : crP ks (l ++ [f]) = crStep ks (crP ks l) f := by rw [crP, List.foldl_append]; rfl
theorem crP_take {ks : List Int} {l : List FE} {i : Nat} {f : FE} (h : l[i]? = some f) : crP ks (l.take (i + 1)) = crStep ks (crP ks (l.take i)) f := by
  rw [List.take_add_one, h]
  exact crP_snoc ks _ f
theorem crP_zero (ks : List Int) : crP ks [] = ([], 0) := rfl
theorem crStep_ok (ks : List Int) (acc : List FE × Nat) (f : FE) : (crStep ks acc f).2 ≤ acc.2 + 1 ∧ (crStep ks acc f).1.map (·.1) = acc.1.map (·.1) ++ [f.1] := by
  unfold crStep
  split
  · exact ⟨by simp only; omega, by rw [List.map_append]; rfl⟩
  · exact ⟨Nat.le_refl _, by rw [List.map_append]; rfl⟩
theorem crP_fold (ks : List Int) : ∀ (l : List FE) (acc : List FE × Nat), (l.foldl (crStep ks) acc).2 ≤ acc.2 + l.length ∧ (l.foldl (crStep ks) acc).1.map (·.1) = acc.1.map (·.1) ++ l.map (·.1)
  | [], acc => ⟨Nat.le_refl _, by simp⟩
  | f :: t, acc => by
    have h1 := crStep_ok ks acc f
    have h2 := crP_fold ks t (crStep ks acc f)
    rw [List.foldl_cons, List.length_cons]
    exact ⟨by omega, by rw [h2.2, h1.2, List.append_assoc]; rfl⟩
theorem crP_cnt (ks : List Int) (l : List FE) : (crP ks l).2 ≤ l.length := by
  have := (crP_fold ks l ([], 0)).1
  simpa [crP] using this
theorem crP_names (ks : List Int) (l : List FE) : (crP ks l).1.map (·.1) = l.map (·.1) := by
  have := (crP_fold ks l ([], 0)).2
  simpa [crP] using this
theorem usedF_app (a b : List FE) : usedF (a ++ b) = usedF a + usedF b := by simp [usedF]
theorem usedF_cons (f : FE) (t : List FE) : usedF (f :: t) = f.2.1.length + usedF t := by simp [usedF]
theorem usedF_nil : usedF [] = 0 := rfl
theorem usedF_mem {f : FE} : ∀ {l : List FE}, f ∈ l → f.2.1.length ≤ usedF l
  | [], h => by cases h
  | a :: t, h => by
    rw [usedF_cons]
    rcases List.mem_cons.1 h with rfl | h
    · omega
    · have := usedF_mem h; omega
theorem risingF_names {a b : List FE} (h : a.map (·.1) = b.map (·.1)) (hb : risingF b) : risingF a := by
  have h1 : (b.map (·.1)).Pairwise fun x y => x < y := by rw [List.pairwise_map]; exact hb
  rw [← h, List.pairwise_map] at h1
  exact h1
/-- A file put in where one of that name stands. -/
theorem putF_mid {f g : FE} (e : g.1 = f.1) : ∀ {L R : List FE}, risingF (L ++ f :: R) → putF g (L ++ f :: R) = L ++ g :: R
  | [], R, _ => by simp only [List.nil_append, putF]; rw [if_pos e.symm]
  | a :: L, R, h => by
    unfold risingF at h
    rw [List.cons_append, List.pairwise_cons] at h
    have h1 := h.1 f (by simp)
    simp only [List.cons_append, putF]
    rw [if_neg (by rw [e]; exact nlt_ne h1), if_neg (fun h2 => nlt_irrefl _ (nlt_trans h1 (by rw [← e]; exact h2))), putF_mid e h.2]
end Go.Proofs.Ytcclhkoggijkaaa
