/- CaissonBlocks: a block of all that a table in memory has answers as the table does. -/
import Derived.Test.YtgigohfjioifaaaInter
import Derived.Test.YtgigohfjioifaaaCrcV
import Derived.Test.YtgigohfjioifaaaEnC
import Derived.Laws.MakeOwn
import Derived.Test.YtgigohfjioifaaaEnL
import Derived.Test.YtgigohfjioifaaaEnB
import Derived.Deep.LoopGhost
import Derived.Laws.BytesArg
import Derived.Deep.QuietTactic
import Derived.BigQuiet
import Derived.Test.YtgigohfjioifaaaMathF
import Derived.Test.YtgigohfjioifaaaOpenV
import Derived.Test.YtgigohfjioifaaaFamD
import Derived.Test.YtgigohfjioifaaaApartF
import Derived.Deep.RegionLaw
import Derived.Test.YtgigohfjioifaaaMathO
import Derived.Test.YtgigohfjioifaaaRows
import Derived.Test.YtgigohfjioifaaaOpen
import Derived.ProofKit
import Derived.OpenShut
import Derived.ShutString
import Derived.ChangeOld
import Derived.SizedLaws
import Derived.JoinedCond
import Derived.Deep.CondSized
import Derived.Deep.Matrix
import Derived.Test.YtgigohfjioifaaaBulk
import Derived.Test.YtgigohfjioifaaaOpenE
namespace Go.Proofs.Ytgigohfjioifaaa
open Go Go.RowKit

/-- What a table answers. -/
def keyed (key : List UInt8) : Option En → Option En
  | none => none
  | some e => if cmpB e.key key = 0 then some e else none
theorem keyed_find {key : List UInt8} {at_ : Nat} : ∀ {l : List En}, SortL l → keyed key (l.find? (fun e => !lessE e ⟨key, at_, 0, []⟩)) = findL key at_ l
  | [], _ => rfl
  | y :: l, hs => by
    obtain ⟨hy, hl⟩ := List.pairwise_cons.1 hs
    unfold findL
    rw [List.find?_cons, List.find?_cons]
    cases h : lessE y ⟨key, at_, 0, []⟩ with
    | true =>
      have hno : (eqB y.key key && decide (y.seq ≤ at_)) = false := by
        rcases lessE_iff.1 h with q | ⟨_, q⟩
        · cases e : eqB y.key key with
          | false => rfl
          | true =>
            have e' : y.key = key := by simpa [eqB] using e
            simp only [e', cmpB_refl] at q
            omega
        · have : ¬ y.seq ≤ at_ := by simp only at q; omega
          simp [this]
      rw [hno]
      exact keyed_find hl
    | false =>
      show (if cmpB y.key key = 0 then some y else none) = _
      by_cases hk : cmpB y.key key = 0
      · have e' := cmpB_zero _ _ hk
        have hq : y.seq ≤ at_ := by
          apply Nat.le_of_not_lt
          intro q
          have : lessE y ⟨key, at_, 0, []⟩ = true := lessE_iff.2 (.inr ⟨e', q⟩)
          rw [h] at this
          cases this
        have hyes : (eqB y.key key && decide (y.seq ≤ at_)) = true := by simp [eqB, e', hq]
        rw [if_pos hk, hyes]
      · have hne : ∀ z : En, (z = y ∨ z ∈ l) → eqB z.key key = false := fun z hz => by
          cases e : eqB z.key key with
          | false => rfl
          | true =>
            have e' : z.key = key := by simpa [eqB] using e
            rcases hz with rfl | m
            · rw [e', cmpB_refl] at hk
              exact absurd rfl hk
            · rcases lessE_iff.1 (hy z m) with q | ⟨q, _⟩
              · rw [e'] at q
                have : lessE y ⟨key, at_, 0, []⟩ = true := lessE_iff.2 (.inl q)
                rw [h] at this
                cases this
              · rw [q, e', cmpB_refl] at hk
                exact absurd rfl hk
        rw [if_neg hk, hne y (.inl rfl)]
        symm
        simp only [Bool.false_and]
        rw [List.find?_eq_none]
        intro z hz
        rw [hne z (.inr hz)]
        simp
end Go.Proofs.Ytgigohfjioifaaa
namespace Go.Proofs.Ytgigohfjioifaaa
open Go Go.RowKit

set_option maxRecDepth 100000 in
set_option maxHeartbeats 4000000 in
theorem mgInOrder_any {w : World} {A : Option Addr} {n c : Nat} {es : List En} (h : REs w A n es) (hn : n ≤ 1099511627776) : Calls Try.prog 94 #[.slice A n c] w (RetT w (ordE es)) := by
  have HL := Lib.hid h.len
  have HR := Lib.hid h
  clear h
  go_enter Try.func94, Try.ntmps94
  go_wp2_with fail
  go_loopw [3] (fun s3 wr => ∃ i : Nat, (i < n ∨ i = 0) ∧ s3 = .int .i64 ((i + 1 : Nat) : Int) ∧ ordK es i = true ∧ Below w.heap.size w wr) (fun s _ => n + 1 - (intOf s).toNat)
  case atStart => exact ⟨0, .inr rfl, rfl, rfl, Below.refl _ _⟩
  case round =>
    obtain ⟨i, hi, rfl, ho, hB⟩ := hrel
    have HB := Lib.hid hB
    have HO := Lib.hid ho
    have hR := HR.out.below hB
    clear hB ho
    obtain ⟨k, hk⟩ : ∃ k, k = i + 1 := ⟨_, rfl⟩
    rw [← hk]
    by_cases hlt : k < n
    · obtain ⟨b, off, hAb, hbl⟩ := hR.pos (by omega)
      subst hAb
      obtain ⟨x, v0, v1, v2, v3, hx, c0, c1, c2, c3, hev⟩ := hR.at_ i (by omega)
      obtain ⟨y, u0, u1, u2, u3, hy, d0, d1, d2, d3, hew⟩ := hR.at_ k hlt
      have HL1 : Hid (∀ wx, Below wr.heap.size wr wx → Calls Try.prog 55 #[.agg #[v0, v1, v2, v3], .agg #[u0, u1, u2, u3]] wx (RetT wx (lessE x y))) := Lib.hid (fun wx hb => memLess_any (hev.below hb) (hew.below hb))
      have HSX : Hid (∀ wx, Below wr.heap.size wr wx → wx.cell? ⟨b, off + i * 4, none⟩ = some v0 ∧ wx.cell? ⟨b, off + i * 4 + 1, none⟩ = some v1 ∧ wx.cell? ⟨b, off + i * 4 + 2, none⟩ = some v2 ∧ wx.cell? ⟨b, off + i * 4 + 3, none⟩ = some v3 ∧ wx.cell? ⟨b, off + k * 4, none⟩ = some u0 ∧ wx.cell? ⟨b, off + k * 4 + 1, none⟩ = some u1 ∧ wx.cell? ⟨b, off + k * 4 + 2, none⟩ = some u2 ∧ wx.cell? ⟨b, off + k * 4 + 3, none⟩ = some u3) := Lib.hid (fun wx h =>
        ⟨(h.cell (p := ⟨b, off + i * 4, none⟩) hbl).trans c0, (h.cell (p := ⟨b, off + i * 4 + 1, none⟩) hbl).trans c1, (h.cell (p := ⟨b, off + i * 4 + 2, none⟩) hbl).trans c2, (h.cell (p := ⟨b, off + i * 4 + 3, none⟩) hbl).trans c3, (h.cell (p := ⟨b, off + k * 4, none⟩) hbl).trans d0, (h.cell (p := ⟨b, off + k * 4 + 1, none⟩) hbl).trans d1, (h.cell (p := ⟨b, off + k * 4 + 2, none⟩) hbl).trans d2, (h.cell (p := ⟨b, off + k * 4 + 3, none⟩) hbl).trans d3⟩)
      have hB0 : Below wr.heap.size wr wr.drew := (Below.refl _ _).drew
      have hk1 : IntKind.i64.wrap ((k : Int) - 1) = (i : Int) := by rw [IntWalk.i64_in _ (by omega)]; omega
      have hin : i < n := by omega
      have HST : Hid (ordK es k = (ordK es i && lessE x y)) := Lib.hid (by rw [hk]; exact ordK_step hx (by rw [← hk]; exact hy))
      have HKI := Lib.hid hk
      obtain ⟨z, hz⟩ : ∃ z, z = lessE x y := ⟨_, rfl⟩
      rw [← hz] at HL1 HST
      clear hR hx hev hy hew hz hk
      cases z with
      | true =>
        go_wp2_with fail
        go_region_held3 (fun wx => wx.cell? ⟨b, off + i * 4, none⟩ = some v0 ∧ wx.cell? ⟨b, off + i * 4 + 1, none⟩ = some v1 ∧ wx.cell? ⟨b, off + i * 4 + 2, none⟩ = some v2 ∧ wx.cell? ⟨b, off + i * 4 + 3, none⟩ = some v3 ∧ wx.cell? ⟨b, off + k * 4, none⟩ = some u0 ∧ wx.cell? ⟨b, off + k * 4 + 1, none⟩ = some u1 ∧ wx.cell? ⟨b, off + k * 4 + 2, none⟩ = some u2 ∧ wx.cell? ⟨b, off + k * 4 + 3, none⟩ = some u3) (first | assumption | exact HSX.out _ hB0)
          (first | (go_at_call 55; with_reducible refine (HL1.out _ (by assumption)).mono ?_; intro e1 wn hq; obtain ⟨h1, bn⟩ := RetT.outD hq; subst h1; have bn' := belowT' (by assumption : Below wr.heap.size wr _) bn; have hS1 := HSX.out _ bn'))
        all_goals
          have HBN : Hid (Below w.heap.size w _) := Lib.hid (HB.out.trans ((by assumption : Below wr.heap.size wr wn).mono HB.out.size))
          go_wp2_with fail
          go_roundw
          case rel => exact ⟨k, .inl hlt, by go_num, by rw [HST.out, HO.out]; rfl, HBN.out⟩
          case measure => simp [intOf]; omega
      | false =>
        go_wp2_with fail
        go_region_held3 (fun wx => wx.cell? ⟨b, off + i * 4, none⟩ = some v0 ∧ wx.cell? ⟨b, off + i * 4 + 1, none⟩ = some v1 ∧ wx.cell? ⟨b, off + i * 4 + 2, none⟩ = some v2 ∧ wx.cell? ⟨b, off + i * 4 + 3, none⟩ = some v3 ∧ wx.cell? ⟨b, off + k * 4, none⟩ = some u0 ∧ wx.cell? ⟨b, off + k * 4 + 1, none⟩ = some u1 ∧ wx.cell? ⟨b, off + k * 4 + 2, none⟩ = some u2 ∧ wx.cell? ⟨b, off + k * 4 + 3, none⟩ = some u3) (first | assumption | exact HSX.out _ hB0)
          (first | (go_at_call 55; with_reducible refine (HL1.out _ (by assumption)).mono ?_; intro e1 wn hq; obtain ⟨h1, bn⟩ := RetT.outD hq; subst h1; have bn' := belowT' (by assumption : Below wr.heap.size wr _) bn; have hS1 := HSX.out _ bn'))
        all_goals
          have HBN : Hid (Below w.heap.size w _) := Lib.hid (HB.out.trans ((by assumption : Below wr.heap.size wr wn).mono HB.out.size))
          have HFIN : Hid (ordE es = false) := Lib.hid (by
            have h1 := HST.out
            rw [Bool.and_false] at h1
            exact ordK_false h1 _ (by rw [HL.out]; omega))
          go_wp2_with fail
          go_ret
          exact ⟨by rw [HFIN.out]; rfl, HBN.out⟩
    · have HFIN : Hid (ordE es = true) := Lib.hid (by
        have h1 := HO.out
        unfold ordE
        rw [HL.out]
        obtain rfl : n - 1 = i := by omega
        exact h1)
      go_wp2_with fail
      go_ret
      exact ⟨by rw [HFIN.out]; rfl, HB.out⟩
set_option maxRecDepth 100000 in
set_option maxHeartbeats 4000000 in
theorem ordered_any {w : World} {A : Option Addr} {n c : Nat} {es : List En} (h : REs w A n es) (hn : n ≤ 1099511627776) (hs : ∀ x ∈ es, SzE x) : Calls Try.prog 61 #[.slice A n c] w (RetT w (ordE es)) := by
  have HL := Lib.hid h.len
  have HR := Lib.hid h
  have HSZ := Lib.hid hs
  clear h hs
  go_enter Try.func61, Try.ntmps61
  go_wp2_with fail
  go_loopw [3] (fun s3 wr => ∃ i : Nat, (i < n ∨ i = 0) ∧ s3 = .int .i64 ((i + 1 : Nat) : Int) ∧ ordK es i = true ∧ Below w.heap.size w wr) (fun s _ => n + 1 - (intOf s).toNat)
  case atStart => exact ⟨0, .inr rfl, rfl, rfl, Below.refl _ _⟩
  case round =>
    obtain ⟨i, hi, rfl, ho, hB⟩ := hrel
    have HB := Lib.hid hB
    have HO := Lib.hid ho
    have hR := HR.out.below hB
    clear hB ho
    obtain ⟨k, hk⟩ : ∃ k, k = i + 1 := ⟨_, rfl⟩
    rw [← hk]
    by_cases hlt : k < n
    · obtain ⟨b, off, hAb, hbl⟩ := hR.pos (by omega)
      subst hAb
      obtain ⟨x, v0, v1, v2, v3, hx, c0, c1, c2, c3, hev⟩ := hR.at_ i (by omega)
      obtain ⟨y, u0, u1, u2, u3, hy, d0, d1, d2, d3, hew⟩ := hR.at_ k hlt
      have HL1 : Hid (∀ wx, Below wr.heap.size wr wx → Calls Try.prog 56 #[.agg #[v0, v1, v2, v3], .agg #[u0, u1, u2, u3]] wx (RetT wx (lessE x y))) := Lib.hid (fun wx hb => refLess_any (hev.below hb) (hew.below hb) (HSZ.out x (List.mem_of_getElem? hx)) (HSZ.out y (List.mem_of_getElem? hy)))
      have HSX : Hid (∀ wx, Below wr.heap.size wr wx → wx.cell? ⟨b, off + i * 4, none⟩ = some v0 ∧ wx.cell? ⟨b, off + i * 4 + 1, none⟩ = some v1 ∧ wx.cell? ⟨b, off + i * 4 + 2, none⟩ = some v2 ∧ wx.cell? ⟨b, off + i * 4 + 3, none⟩ = some v3 ∧ wx.cell? ⟨b, off + k * 4, none⟩ = some u0 ∧ wx.cell? ⟨b, off + k * 4 + 1, none⟩ = some u1 ∧ wx.cell? ⟨b, off + k * 4 + 2, none⟩ = some u2 ∧ wx.cell? ⟨b, off + k * 4 + 3, none⟩ = some u3) := Lib.hid (fun wx h =>
        ⟨(h.cell (p := ⟨b, off + i * 4, none⟩) hbl).trans c0, (h.cell (p := ⟨b, off + i * 4 + 1, none⟩) hbl).trans c1, (h.cell (p := ⟨b, off + i * 4 + 2, none⟩) hbl).trans c2, (h.cell (p := ⟨b, off + i * 4 + 3, none⟩) hbl).trans c3, (h.cell (p := ⟨b, off + k * 4, none⟩) hbl).trans d0, (h.cell (p := ⟨b, off + k * 4 + 1, none⟩) hbl).trans d1, (h.cell (p := ⟨b, off + k * 4 + 2, none⟩) hbl).trans d2, (h.cell (p := ⟨b, off + k * 4 + 3, none⟩) hbl).trans d3⟩)
      have hB0 : Below wr.heap.size wr wr.drew := (Below.refl _ _).drew
      have hk1 : IntKind.i64.wrap ((k : Int) - 1) = (i : Int) := by rw [IntWalk.i64_in _ (by omega)]; omega
      have hin : i < n := by omega
      have HST : Hid (ordK es k = (ordK es i && lessE x y)) := Lib.hid (by rw [hk]; exact ordK_step hx (by rw [← hk]; exact hy))
      have HKI := Lib.hid hk
      obtain ⟨z, hz⟩ : ∃ z, z = lessE x y := ⟨_, rfl⟩
      rw [← hz] at HL1 HST
      clear hR hx hev hy hew hz hk
      cases z with
      | true =>
        go_wp2_with fail
        go_region_held3 (fun wx => wx.cell? ⟨b, off + i * 4, none⟩ = some v0 ∧ wx.cell? ⟨b, off + i * 4 + 1, none⟩ = some v1 ∧ wx.cell? ⟨b, off + i * 4 + 2, none⟩ = some v2 ∧ wx.cell? ⟨b, off + i * 4 + 3, none⟩ = some v3 ∧ wx.cell? ⟨b, off + k * 4, none⟩ = some u0 ∧ wx.cell? ⟨b, off + k * 4 + 1, none⟩ = some u1 ∧ wx.cell? ⟨b, off + k * 4 + 2, none⟩ = some u2 ∧ wx.cell? ⟨b, off + k * 4 + 3, none⟩ = some u3) (first | assumption | exact HSX.out _ hB0)
          (first | (go_at_call 56; with_reducible refine (HL1.out _ (by assumption)).mono ?_; intro e1 wn hq; obtain ⟨h1, bn⟩ := RetT.outD hq; subst h1; have bn' := belowT' (by assumption : Below wr.heap.size wr _) bn; have hS1 := HSX.out _ bn'))
        all_goals
          have HBN : Hid (Below w.heap.size w _) := Lib.hid (HB.out.trans ((by assumption : Below wr.heap.size wr wn).mono HB.out.size))
          go_wp2_with fail
          go_roundw
          case rel => exact ⟨k, .inl hlt, by go_num, by rw [HST.out, HO.out]; rfl, HBN.out⟩
          case measure => simp [intOf]; omega
      | false =>
        go_wp2_with fail
        go_region_held3 (fun wx => wx.cell? ⟨b, off + i * 4, none⟩ = some v0 ∧ wx.cell? ⟨b, off + i * 4 + 1, none⟩ = some v1 ∧ wx.cell? ⟨b, off + i * 4 + 2, none⟩ = some v2 ∧ wx.cell? ⟨b, off + i * 4 + 3, none⟩ = some v3 ∧ wx.cell? ⟨b, off + k * 4, none⟩ = some u0 ∧ wx.cell? ⟨b, off + k * 4 + 1, none⟩ = some u1 ∧ wx.cell? ⟨b, off + k * 4 + 2, none⟩ = some u2 ∧ wx.cell? ⟨b, off + k * 4 + 3, none⟩ = some u3) (first | assumption | exact HSX.out _ hB0)
          (first | (go_at_call 56; with_reducible refine (HL1.out _ (by assumption)).mono ?_; intro e1 wn hq; obtain ⟨h1, bn⟩ := RetT.outD hq; subst h1; have bn' := belowT' (by assumption : Below wr.heap.size wr _) bn; have hS1 := HSX.out _ bn'))
        all_goals
          have HBN : Hid (Below w.heap.size w _) := Lib.hid (HB.out.trans ((by assumption : Below wr.heap.size wr wn).mono HB.out.size))
          have HFIN : Hid (ordE es = false) := Lib.hid (by
            have h1 := HST.out
            rw [Bool.and_false] at h1
            exact ordK_false h1 _ (by rw [HL.out]; omega))
          go_wp2_with fail
          go_ret
          exact ⟨by rw [HFIN.out]; rfl, HBN.out⟩
    · have HFIN : Hid (ordE es = true) := Lib.hid (by
        have h1 := HO.out
        unfold ordE
        rw [HL.out]
        obtain rfl : n - 1 = i := by omega
        exact h1)
      go_wp2_with fail
      go_ret
      exact ⟨by rw [HFIN.out]; rfl, HB.out⟩
section
variable {w : World} {a : En} {v0 v1 v2 v3 : Value}
set_option maxRecDepth 100000 in
set_option maxHeartbeats 4000000 in
theorem mgEntry_any (ha : EV w a v0 v1 v2 v3) (sa : SzE a) : Calls Try.prog 95 #[.agg #[v0, v1, v2, v3]] w (RetEn w a) := by
  obtain ⟨K, kn, kc, V, vn, vc, rfl, rfl, rfl, rfl, r0, r3, c0, c3, d0, d3, s1, s2⟩ := ha.parts
  have l1 := r0.len
  have l2 := r3.len
  have hk : kn ≤ 140737488355328 := by have := sa.1; omega
  have hv : vn ≤ 140737488355328 := by have := sa.2; omega
  have R0 := Lib.hid r0
  have R3 := Lib.hid r3
  have HD0 := Lib.hid d0
  have HD3 := Lib.hid d3
  clear ha r0 r3 d0 d3
  go_enter Try.func95, Try.ntmps95
  go_upto_region 1 with (fail)
  obtain ⟨W, hW⟩ : ∃ W, W = (w.alloc (.cells #[.slice K kn kc, .int .u64 (a.seq : Int), .int .u8 (a.kind : Int), .slice V vn vc] 33)).alloc (.cells #[.slice none 0 0, .int .u64 0, .int .u8 0, .slice none 0 0] 33) := ⟨_, rfl⟩
  rw [← hW]
  have bW : Below w.heap.size w W := by rw [hW]; exact ((Below.refl _ _).alloc (Nat.le_refl _) _).alloc (by simp) _
  have aW : Cl W w.heap.size #[.slice K kn kc, .int .u64 (a.seq : Int), .int .u8 (a.kind : Int), .slice V vn vc] 33 := by rw [hW]; exact (Cl.new _ _ _).alloc _
  have zW : Cl W (w.heap.size + 1) #[.slice none 0 0, .int .u64 0, .int .u8 0, .slice none 0 0] 33 := by rw [hW]; exact Cl.newg _ _ _ _ (by simp)
  have sW : w.heap.size + 2 ≤ W.heap.size := by rw [hW]; simp
  have HK : Hid (∀ wx, Below W.heap.size W wx → Calls Try.prog 85 #[.slice K kn kc] wx (Made wx.heap.size wx a.key)) := Lib.hid (fun wx hb => Clone_any K kn kc a.key wx ((R0.out.below bW).below hb) hk HD0.out)
  have HV : Hid (∀ wx, Below W.heap.size W wx → Calls Try.prog 85 #[.slice V vn vc] wx (Made wx.heap.size wx a.val)) := Lib.hid (fun wx hb => Clone_any V vn vc a.val wx ((R3.out.below bW).below hb) hv HD3.out)
  have ALC : Hid (∀ wx, Below W.heap.size W wx → Cl wx w.heap.size #[.slice K kn kc, .int .u64 (a.seq : Int), .int .u8 (a.kind : Int), .slice V vn vc] 33) := Lib.hid (fun wx hb => aW.below hb)
  have ZLC : Hid (∀ wx, Below W.heap.size W wx → Cl wx (w.heap.size + 1) #[.slice none 0 0, .int .u64 0, .int .u8 0, .slice none 0 0] 33) := Lib.hid (fun wx hb => zW.below hb)
  have BW := Lib.hid bW
  obtain ⟨e0, e1, e2, e3, y0, y1, y2, y3⟩ := aW.c4
  have hB0 : Below W.heap.size W W.drew := (Below.refl _ _).drew
  clear hW bW aW zW
  go_cut [] (fun wx => ∃ C cn cc D dn dc wy, Own 5 wy W.heap.size C cn cc a.key ∧ Own 5 wy W.heap.size D dn dc a.val ∧ Below W.heap.size W wy ∧ Dj C D ∧ wx = (wy.setCell ⟨w.heap.size, 0, none⟩ (.slice C cn cc)).setCell ⟨w.heap.size, 3, none⟩ (.slice D dn dc))
  case first =>
    go_region_law (first | (go_simp; go_at_call 85; with_reducible refine (HK.out _ (by assumption)).mono ?_; intro e wk hq; obtain ⟨C, cn, cc, h1, oC, bC⟩ := Made.out hq; subst h1; have bC' := belowT (by assumption : Below W.heap.size W _) bC; obtain ⟨p0, p1, p2, p3, p4, p5, p6, p7⟩ := (ALC.out _ bC').c4) | (go_simp; go_at_call 85; with_reducible refine (HV.out _ (by assumption)).mono ?_; intro e wv hq; obtain ⟨D, dn, dc, h2, oD, bD⟩ := Made.out hq; subst h2; have bD' := belowT (by assumption : Below W.heap.size W _) bD; obtain ⟨m0, m1, m2, m3, m4, m5, m6, m7⟩ := (ALC.out _ bD').c4))
    all_goals first
      | (have HDJ := Lib.hid (Dj.old oC oD (Nat.le_refl _))
         have HC1 := Lib.hid (oC.below bD)
         have HD1 := Lib.hid (oD.mono bC'.size)
         have HB1 := Lib.hid bD'
         clear oC oD bC bD bC' bD'
         go_wp2_with fail
         go_meet
         exact ⟨C, cn, cc, D, dn, dc, wv, HC1.out, HD1.out, HB1.out, HDJ.out, rfl⟩)
      | (have HDJ := Lib.hid (Dj.symm (Dj.old oD oC (Nat.le_refl _)))
         have HC1 := Lib.hid (oC.mono bD'.size)
         have HD1 := Lib.hid (oD.below bC)
         have HB1 := Lib.hid bC'
         clear oC oD bC bD bC' bD'
         go_wp2_with fail
         go_meet
         exact ⟨C, cn, cc, D, dn, dc, wk, HC1.out, HD1.out, HB1.out, HDJ.out, rfl⟩)
  case rest =>
    obtain ⟨C, cn, cc, D, dn, dc, wy, oC, oD, bY, hdj, hwc⟩ := hcut
    have A1 := ALC.out _ bY
    have Z1 := Lib.hid (ZLC.out _ bY)
    have sy := bY.size
    obtain ⟨Y, hY⟩ : ∃ Y, Y = wy.setCell ⟨w.heap.size, 0, none⟩ (.slice C cn cc) := ⟨_, rfl⟩
    rw [← hY] at hwc
    have aY : Cl Y w.heap.size #[.slice C cn cc, .int .u64 (a.seq : Int), .int .u8 (a.kind : Int), .slice V vn vc] 33 := by rw [hY]; exact A1.set 0 _
    have zY : Cl Y (w.heap.size + 1) #[.slice none 0 0, .int .u64 0, .int .u8 0, .slice none 0 0] 33 := by rw [hY]; exact Z1.out.off 0 _ (by omega)
    have bYY : Below w.heap.size w Y := by rw [hY]; exact below_set (BW.out.trans (bY.mono BW.out.size)) 0 _ (Nat.le_refl _)
    have oCY : Own 5 Y W.heap.size C cn cc a.key := by rw [hY]; exact oC.set (by omega) 0 _
    have oDY : Own 5 Y W.heap.size D dn dc a.val := by rw [hY]; exact oD.set (by omega) 0 _
    have aC : Cl wc w.heap.size #[.slice C cn cc, .int .u64 (a.seq : Int), .int .u8 (a.kind : Int), .slice D dn dc] 33 := by rw [hwc]; exact aY.set 3 _
    have zC : Cl wc (w.heap.size + 1) #[.slice none 0 0, .int .u64 0, .int .u8 0, .slice none 0 0] 33 := by rw [hwc]; exact zY.off 3 _ (by omega)
    have HFIN : Hid (∀ X, X = (((wc.setCell ⟨w.heap.size + 1, 0, none⟩ (.slice C cn cc)).setCell ⟨w.heap.size + 1, 1, none⟩ (.int .u64 (a.seq : Int))).setCell ⟨w.heap.size + 1, 2, none⟩ (.int .u8 (a.kind : Int))).setCell ⟨w.heap.size + 1, 3, none⟩ (.slice D dn dc) → Cl X (w.heap.size + 1) #[.slice C cn cc, .int .u64 (a.seq : Int), .int .u8 (a.kind : Int), .slice D dn dc] 33 ∧ RetEn w a (.returned (.agg #[.slice C cn cc, .int .u64 (a.seq : Int), .int .u8 (a.kind : Int), .slice D dn dc])) X) := Lib.hid (fun X hX => en_fin (x := a) (g := w.heap.size) zY rfl oCY oDY bYY (Nat.le_refl _) sW ⟨3, _, hwc⟩ hX hdj)
    clear hY hwc A1 aY zY bYY oCY oDY oC oD bY e0 e1 e2 e3 y0 y1 y2 y3
    obtain ⟨e0, e1, e2, e3, y0, y1, y2, y3⟩ := aC.c4
    obtain ⟨g0, g1, g2, g3, k0, k1, k2, k3⟩ := zC.c4
    clear aC zC
    go_wp2_with fail
    obtain ⟨X, hX⟩ : ∃ X, X = (((wc.setCell ⟨w.heap.size + 1, 0, none⟩ (.slice C cn cc)).setCell ⟨w.heap.size + 1, 1, none⟩ (.int .u64 (a.seq : Int))).setCell ⟨w.heap.size + 1, 2, none⟩ (.int .u8 (a.kind : Int))).setCell ⟨w.heap.size + 1, 3, none⟩ (.slice D dn dc) := ⟨_, rfl⟩
    obtain ⟨zX, hret⟩ := HFIN.out X hX
    rw [← hX]
    obtain ⟨x0, x1, x2, x3, _⟩ := zX.c4
    refine bodyPost_ret (v := .agg #[.slice C cn cc, .int .u64 (a.seq : Int), .int .u8 (a.kind : Int), .slice D dn dc]) (by simp [results, Try.results95, go_sem, x0, x1, x2, x3]; try rfl) rfl hret
end
end Go.Proofs.Ytgigohfjioifaaa
namespace Go.Proofs.Ytgigohfjioifaaa
open Go Go.RowKit

def Tr.sz (t : Tr) : Nat := szL t.list
theorem balT_sz (l : Tr) (e : En) (r : Tr) : (balT l e r).sz = l.sz + wE e + r.sz := by
  unfold Tr.sz
  rw [balT_list, szL_app, szL]
  omega
theorem node_sz (l : Tr) (e : En) (r : Tr) : (Tr.node l e r).sz = l.sz + wE e + r.sz := by
  unfold Tr.sz
  rw [Tr.list, szL_app, szL]
  omega
theorem withT_sz {x : En} : ∀ {t t' : Tr}, withT x t = some t' → t'.sz = t.sz + wE x
  | .nil, t', h => by
    unfold withT at h
    injection h with h
    rw [← h]
    simp [Tr.sz, Tr.list, szL]
  | .node l e r, t', h => by
    unfold withT at h
    split at h
    · cases hw : withT x l with
      | none => rw [hw] at h; cases h
      | some l' =>
        rw [hw] at h
        injection h with h
        have := withT_sz hw
        rw [← h]
        simp only [balT_sz, node_sz]
        omega
    · split at h
      · cases hw : withT x r with
        | none => rw [hw] at h; cases h
        | some r' =>
          rw [hw] at h
          injection h with h
          have := withT_sz hw
          rw [← h]
          simp only [balT_sz, node_sz]
          omega
      · cases h
def insAll : Tr → List En → Option Tr
  | t, [] => some t
  | t, x :: xs => (withT x t).bind (fun t' => insAll t' xs)
theorem insAll_snoc : ∀ (t : Tr) (xs : List En) (x : En), insAll t (xs ++ [x]) = (insAll t xs).bind (withT x)
  | t, [], x => by simp [insAll]
  | t, y :: ys, x => by
    simp only [List.cons_append, insAll]
    cases withT y t with
    | none => rfl
    | some t' => exact insAll_snoc t' ys x
theorem insAll_none {t : Tr} {xs ys : List En} (h : insAll t xs = none) : insAll t (xs ++ ys) = none := by
  induction xs generalizing t with
  | nil => simp [insAll] at h
  | cons x xs ih =>
    simp only [List.cons_append, insAll] at h ⊢
    cases hw : withT x t with
    | none => rfl
    | some t' => rw [hw] at h; exact ih h
theorem insAll_num : ∀ {t t' : Tr} {xs : List En}, insAll t xs = some t' → t'.num = t.num + xs.length ∧ t'.sz = t.sz + szL xs
  | t, t', [], h => by simp [insAll] at h; subst h; simp [szL]
  | t, t', x :: xs, h => by
    simp only [insAll] at h
    cases hw : withT x t with
    | none => rw [hw] at h; cases h
    | some t1 =>
      rw [hw] at h
      have h1 := insAll_num (t := t1) h
      have h2 := withT_num hw
      have h3 := withT_sz hw
      simp only [List.length_cons, szL]
      omega
/-- 'This type is none of those that a tree is made of.' -/
def okT (ty : TypeId) : Prop := ty ≠ 145 ∧ ty ≠ 33 ∧ ty ≠ 5
/-- A table alone in its block. -/
def pl3 : TypeId × List Value := (108, [])
theorem okT_pl : okT pl3.1 := ⟨by decide, by decide, by decide⟩
/-- 'The table at p is the tree t; what stands behind it in its block is d.' -/
def TB (d : TypeId × List Value) (G : Nat → Prop) (w : World) (p : Nat) (t : Tr) : Prop :=
  ∃ A, Cl w p (#[.pointer A, .int .i64 (t.num : Int), .int .i64 (t.sz : Int)] ++ d.2.toArray) d.1 ∧ TrAt G w t A ∧ okT d.1
section
variable {w : World} {p : Nat} {a b c : Value} {d : Array Value} {ty : TypeId}
theorem Cl.ct (h : Cl w p (#[a, b, c] ++ d) ty) : w.cell? ⟨p, 0, none⟩ = some a ∧ w.cell? ⟨p, 1, none⟩ = some b ∧ w.cell? ⟨p, 2, none⟩ = some c ∧
    w.frozen? ⟨p, 0, none⟩ = false ∧ w.frozen? ⟨p, 1, none⟩ = false ∧ w.frozen? ⟨p, 2, none⟩ = false :=
  ⟨(h.cell 0).trans (Array.getElem?_append_left (by simp)), (h.cell 1).trans (Array.getElem?_append_left (by simp)), (h.cell 2).trans (Array.getElem?_append_left (by simp)), h.thaw 0, h.thaw 1, h.thaw 2⟩
theorem Cl.st0 (h : Cl w p (#[a, b, c] ++ d) ty) (v : Value) : Cl (w.setCell ⟨p, 0, none⟩ v) p (#[v, b, c] ++ d) ty := by
  have := h.set 0 v
  have e : (#[a, b, c] ++ d).setIfInBounds 0 v = #[v, b, c] ++ d := by
    apply Array.ext'
    simp
  rw [e] at this
  exact this
theorem Cl.st1 (h : Cl w p (#[a, b, c] ++ d) ty) (v : Value) : Cl (w.setCell ⟨p, 1, none⟩ v) p (#[a, v, c] ++ d) ty := by
  have := h.set 1 v
  have e : (#[a, b, c] ++ d).setIfInBounds 1 v = #[a, v, c] ++ d := by
    apply Array.ext'
    simp
  rw [e] at this
  exact this
theorem Cl.st2 (h : Cl w p (#[a, b, c] ++ d) ty) (v : Value) : Cl (w.setCell ⟨p, 2, none⟩ v) p (#[a, b, v] ++ d) ty := by
  have := h.set 2 v
  have e : (#[a, b, c] ++ d).setIfInBounds 2 v = #[a, b, v] ++ d := by
    apply Array.ext'
    simp
  rw [e] at this
  exact this
end
theorem TB.below {d : TypeId × List Value} {G : Nat → Prop} {w w' : World} {p : Nat} {t : Tr} (h : TB d G w p t) (hb : Below w.heap.size w w') : TB d G w' p t := by
  obtain ⟨A, h1, h2, h3⟩ := h
  exact ⟨A, h1.below hb, h2.below hb, h3⟩
theorem len_any {d : TypeId × List Value} {G : Nat → Prop} {w : World} {p : Nat} {t : Tr} (h : TB d G w p t) : Calls Try.prog 39 #[.pointer (some ⟨p, 0, none⟩)] w (RetNu w (t.num : Int)) := by
  obtain ⟨A, h1, _⟩ := h
  obtain ⟨c0, c1, c2, _⟩ := h1.ct
  go_enter Try.func39, Try.ntmps39
  go_wp2
  go_ret
  exact ⟨rfl, Below.refl _ _⟩
theorem size_any {d : TypeId × List Value} {G : Nat → Prop} {w : World} {p : Nat} {t : Tr} (h : TB d G w p t) : Calls Try.prog 44 #[.pointer (some ⟨p, 0, none⟩)] w (RetNu w (t.sz : Int)) := by
  obtain ⟨A, h1, _⟩ := h
  obtain ⟨c0, c1, c2, _⟩ := h1.ct
  go_enter Try.func44, Try.ntmps44
  go_wp2
  go_ret
  exact ⟨rfl, Below.refl _ _⟩
theorem memNew_any (G : Nat → Prop) (w : World) : Calls Try.prog 38 #[] w fun e w' => e = .returned (.pointer (some ⟨w.heap.size, 0, none⟩)) ∧ TB pl3 G w' w.heap.size .nil ∧ Below w.heap.size w w' := by
  go_enter Try.func38, Try.ntmps38
  go_wp2
  go_ret
  exact ⟨rfl, ⟨none, Cl.new _ _ _, rfl, okT_pl⟩, (Below.refl _ _).alloc (Nat.le_refl _) _⟩
/-- What a Put comes to: the table, and all else as it was. -/
def putZ (t : Tr) (es : List En) : Int × Tr := if checkE es = 0 then match insAll t es with | none => (7, t) | some t' => (0, t') else (checkE es, t)
def RetPt (d : TypeId × List Value) (G : Nat → Prop) (w : World) (p : Nat) (z : Int × Tr) (e : Ending) (w' : World) : Prop := e = .returned (.int .i64 z.1) ∧ TB d G w' p z.2 ∧ w.grownBy w' (some p)
theorem grow_of_below {w w' : World} {row : Option Nat} (h : Below w.heap.size w w') : w.grownBy w' row := ⟨h.os, h.tape, h.output, h.size, fun k hk _ => h.block k hk⟩
theorem TrAt.set {G : Nat → Prop} {w : World} {p : Nat} {vs : Array Value} {ty : TypeId} (hp : Cl w p vs ty) (hty : okT ty) (i : Nat) (v : Value) : ∀ {t : Tr} {A : Option Addr}, TrAt G w t A → TrAt G (w.setCell ⟨p, i, none⟩ v) t A
  | .nil, _, h => h
  | .node _ _ _, _, ⟨k, pe, pl, pr, h1, h2, ⟨v0, v1, v2, v3, h3, h4, h4'⟩, h5, h6⟩ => by
    have n4 : ∀ {q : Nat} {us : Array Value} {t : TypeId}, Cl w q us t → ty ≠ t → p ≠ q := fun {q us t} h hne e => by
      subst e
      unfold Cl at h hp
      rw [hp] at h
      injection h with h
      injection h with _ h
      exact hne h
    have no : ∀ {n c' : Nat} {S : Option Addr} {xs : List UInt8}, Own 5 w 0 S n c' xs → Own 5 (w.setCell ⟨p, i, none⟩ v) 0 S n c' xs := fun {n c' S xs} h => by
      refine ⟨h.1, ?_⟩
      rcases h.2 with q1 | ⟨g, cap, cur, q1, q2, q3, q4⟩
      · exact .inl q1
      · refine .inr ⟨g, cap, cur, q1, q2, ?_, q4⟩
        rw [heap_setCell_other _ _ _ _ ?_]
        · exact q3
        · intro e
          simp only at e
          subst e
          unfold Cl at hp
          rw [hp] at q3
          injection q3 with q3
          injection q3 with _ q3
          exact hty.2.2 q3
    obtain ⟨K, kn, kc, V, vn, vc, r0, r1, r2, r3, o1, o2, u1, u2⟩ := h4
    exact ⟨k, pe, pl, pr, h1, h2.off i v (n4 h2 hty.1), ⟨v0, v1, v2, v3, h3.off i v (n4 h3 hty.2.1), ⟨K, kn, kc, V, vn, vc, r0, r1, r2, r3, no o1, no o2, u1, u2⟩, h4'⟩, TrAt.set hp hty i v h5, TrAt.set hp hty i v h6⟩
end Go.Proofs.Ytgigohfjioifaaa
namespace Go.Proofs.Ytgigohfjioifaaa
open Go Go.RowKit

theorem rdl_one8 {w : World} {t : TypeId} {v1 : Value} {x1 : List UInt8} (h1 : ElB w v1 x1) (g : Nat) (hg : g = w.heap.size) : RdL (w.alloc (.cells #[v1] t)) (some ⟨g, 0, none⟩) 1 [x1] := by
  subst hg
  refine ⟨rfl, fun _ => ⟨w.heap.size, 0, rfl, by simp, fun i x hi => ?_⟩⟩
  have hlt := (List.getElem?_eq_some_iff.1 hi).1
  obtain rfl : i = 0 := by simp at hlt; omega
  injection hi with hi
  subst hi
  refine ⟨v1, ?_, h1.below ((Below.refl _ _).alloc (Nat.le_refl _) _)⟩
  rw [cell_of_row (w.alloc (.cells #[v1] t)) w.heap.size (0 + 0) #[v1] t (0, 0) (heap_alloc_new w _)]
  rfl
/-- What Build answers where every is at least 1. -/
def buildE (ev : Nat) (es : List En) : List UInt8 × Int :=
  if es.any longE then ([], 2) else if 1048576 < (fullB ev es).length then ([], 2) else if es.all formE && ordE es then (sealB (fullB ev es), 0) else ([], 3)
/-- Bytes of the call's own, or none, and a kind. -/
def RetBb (w : World) (z : List UInt8 × Int) (e : Ending) (w' : World) : Prop :=
  ∃ A c, e = .returned (.tuple #[.slice A z.1.length c, .int .i64 z.2]) ∧ Own 5 w' w.heap.size A z.1.length c z.1 ∧ Below w.heap.size w w'
theorem RetBb.no {w w' : World} {z : List UInt8 × Int} {k : Int} (hz : z = ([], k)) (hb : Below w.heap.size w w') : RetBb w z (.returned (.tuple #[.slice none 0 0, .int .i64 k])) w' := by
  subst hz
  exact ⟨none, 0, rfl, Own.nil _ _ _, hb⟩
theorem longE_no {es : List En} (h : es.any longE = false) : ∀ x ∈ es, x.key.length ≤ 1024 ∧ x.val.length ≤ 65536 := fun x hx => by
  have := List.any_eq_false.1 h x hx
  unfold longE at this
  simp at this
  omega
set_option maxRecDepth 100000 in
set_option maxHeartbeats 8000000 in
theorem build8_any {w : World} {A : Option Addr} {n c : Nat} {es : List En} (h : REs w A n es) (hn : n ≤ 16777216) (ev : Nat) (he : 1 ≤ ev) (he2 : ev ≤ 9223372036854775807) :
    Calls Try.prog 42 #[.int .i64 (ev : Int), .slice A n c] w (RetBb w (buildE ev es)) := by
  have HM : Hid (Calls Try.prog 74 #[.slice A n c] w (RetNu w (checkE es))) := Lib.hid (memCheck_any h (by omega))
  have HR := Lib.hid h
  clear h
  cases hlo : es.any longE with
  | true =>
    have hc : checkE es = 2 := by rw [checkE, hlo]; rfl
    have hb : buildE ev es = ([], 2) := by rw [buildE, hlo]; rfl
    rw [hc] at HM
    have HB := Lib.hid hb
    clear hlo hc hb
    go_enter Try.func42, Try.ntmps42
    go_wp2_with fail
    with_reducible refine HM.out.mono ?_
    rintro e w1 ⟨rfl, b1⟩
    go_wp2_with fail
    exact bodyPost_ret (v := .tuple #[.slice none 0 0, .int .i64 2]) (by simp [results, Try.f42, go_sem]; try rfl) rfl (RetBb.no HB.out b1)
  | false =>
    have hsz := longE_no hlo
    have HCT : Hid (∀ wx, Below w.heap.size w wx → Calls Try.prog 78 #[.int .i64 (ev : Int), .slice A n c] wx (RetCt ev es wx)) := Lib.hid (fun wx hb => contents_any (HR.out.below hb) hn hsz ev he he2)
    have HIO : Hid (∀ wx, Below w.heap.size w wx → Calls Try.prog 79 #[.slice A n c] wx (RetT wx (ordE es))) := Lib.hid (fun wx hb => inOrder8_any (HR.out.below hb) (by omega))
    obtain ⟨F, hF⟩ : ∃ F, F = fullB ev es := ⟨_, rfl⟩
    have hbe : buildE ev es = if 1048576 < F.length then ([], 2) else if es.all formE && ordE es then (sealB F, 0) else ([], 3) := by rw [buildE, hlo, ← hF]; rfl
    obtain ⟨fo, hfo⟩ : ∃ fo, fo = es.all formE := ⟨_, rfl⟩
    obtain ⟨od, hod⟩ : ∃ od, od = ordE es := ⟨_, rfl⟩
    obtain ⟨z, hz⟩ : ∃ z : Int, z = if fo then 0 else 3 := ⟨_, rfl⟩
    have hck : checkE es = z := by rw [checkE, hlo, hz, hfo]; rfl
    rw [hck] at HM
    rw [← hod] at HIO hbe
    rw [← hfo] at hbe
    have hz2 : z = 0 ∨ z = 3 := by rw [hz]; cases fo <;> simp
    have tz : (z == 2) = false := by rcases hz2 with e | e <;> rw [e] <;> rfl
    have tz' : ¬ z = 2 := by omega
    have HBE := Lib.hid hbe
    have HF := Lib.hid hF
    have HZ := Lib.hid hz
    have HZ2 := Lib.hid hz2
    clear hlo hsz hF hbe hfo hod hz hck hz2
    go_enter Try.func42, Try.ntmps42
    go_wp2_with fail
    with_reducible refine HM.out.mono ?_
    rintro e w1 ⟨rfl, b1⟩
    have HCT1 := Lib.hid (HCT.out w1 b1)
    have B1 := Lib.hid b1
    clear b1
    go_wp2_with fail
    with_reducible refine HCT1.out.mono ?_
    rintro e w2 ⟨C, cc, ys, rfl, oC, b2, hyl, hys⟩
    rw [← HF.out] at hys
    have hcap := oC.cap
    have hcn : C = none → cc = 0 := fun h => by have := oC.nil_of (by rw [h]; rfl); exact this.2.2
    have hSE := Seal_any (some ⟨w2.heap.size, 0, none⟩) 1 1 [ys] _ (rdl_one8 (w := w2) (t := 22) ⟨C, ys.length, cc, rfl, oC.rd, hcap.1, hcn⟩ _ rfl) (by simp only [tot]; omega)
    rw [show [ys].flatten = ys by simp] at hSE
    have HSE := Lib.hid hSE
    have B2 := Lib.hid (B1.out.trans (b2.mono B1.out.size))
    have HYS := Lib.hid hys
    obtain ⟨yn, hyn⟩ : ∃ yn, yn = ys.length := ⟨_, rfl⟩
    rw [← hyn]
    rw [← hyn] at hyl HSE
    have HYN := Lib.hid hyn
    clear hSE oC b2 hcap hcn hys hyn
    by_cases hbig : 1048576 < yn
    · have hg : sealG ys = ([], 2) := sealG_long HYN.out.symm hbig
      have hb : buildE ev es = ([], 2) := by
        rw [HBE.out, if_pos]
        rcases HYS.out with ⟨_, h2⟩ | h2
        · have := HYN.out; omega
        · rw [← h2, ← HYN.out]; exact hbig
      rw [hg] at HSE
      have HB := Lib.hid hb
      clear hg hb
      go_wp2_with fail
      refine HSE.out.mono ?_
      rintro e w3 ⟨D, dn, dc, rfl, oD, b3⟩
      have B3 := Lib.hid (B2.out.trans (((Below.refl _ _).alloc (Nat.le_refl _) _ |>.trans (b3.mono (by simp))).mono B2.out.size))
      clear oD b3
      go_wp2_with fail
      exact bodyPost_ret (v := .tuple #[.slice none 0 0, .int .i64 2]) (by simp [results, Try.f42, go_sem]; try rfl) rfl (RetBb.no HB.out B3.out)
    · have hF2 : ys = F := by
        rcases HYS.out with ⟨h1, _⟩ | h2
        · have := HYN.out; omega
        · exact h2
      have hg : sealG ys = (sealB F, 0) := by rw [sealG_ok HYN.out.symm hbig, hF2]
      have hb : buildE ev es = if fo && od then (sealB F, 0) else ([], 3) := by rw [HBE.out, if_neg (by rw [← hF2, ← HYN.out]; exact hbig)]
      rw [hg] at HSE
      have HB := Lib.hid hb
      clear hg hb
      go_wp2_with fail
      refine HSE.out.mono ?_
      rintro e w3 ⟨D, dn, dc, rfl, oD, b3⟩
      have oD : Own 5 w3 w2.heap.size D dn dc (sealB F) := Own.mono oD (show w2.heap.size ≤ _ by simp)
      obtain rfl : (sealB F).length = dn := oD.len
      have HD := Lib.hid (oD.mono B2.out.size)
      have B3 := Lib.hid (B2.out.trans (((Below.refl _ _).alloc (Nat.le_refl _) _ |>.trans (b3.mono (by simp))).mono B2.out.size))
      clear oD b3
      cases fo with
      | false =>
        have e0 : z = 3 := HZ.out
        subst e0
        rw [Bool.false_and] at HB
        go_wp2_with fail
        exact bodyPost_ret (v := .tuple #[.slice none 0 0, .int .i64 3]) (by simp [results, Try.f42, go_sem]; try rfl) rfl (RetBb.no HB.out B3.out)
      | true =>
        have e0 : z = 0 := HZ.out
        subst e0
        rw [Bool.true_and] at HB
        have HIO3 := Lib.hid (HIO.out w3 B3.out)
        cases od with
        | true =>
          go_wp2_with fail
          with_reducible refine HIO3.out.mono ?_
          rintro e w4 ⟨rfl, b4⟩
          have hB := HB.out
          simp only [if_true] at hB
          have hfin : RetBb w (buildE ev es) (.returned (.tuple #[.slice D (sealB F).length dc, .int .i64 0])) w4 := by
            rw [hB]
            exact ⟨D, dc, rfl, HD.out.below b4, B3.out.trans (b4.mono B3.out.size)⟩
          have HFI := Lib.hid hfin
          clear hB hfin b4
          go_wp2_with fail
          exact bodyPost_ret (v := .tuple #[.slice D (sealB F).length dc, .int .i64 0]) (by simp [results, Try.f42, go_sem]; try rfl) rfl HFI.out
        | false =>
          go_wp2_with fail
          with_reducible refine HIO3.out.mono ?_
          rintro e w4 ⟨rfl, b4⟩
          have B4 := Lib.hid (B3.out.trans (b4.mono B3.out.size))
          have hB := HB.out
          simp only [Bool.false_eq_true, if_false] at hB
          have HBB := Lib.hid hB
          clear hB b4
          go_wp2_with fail
          exact bodyPost_ret (v := .tuple #[.slice none 0 0, .int .i64 3]) (by simp [results, Try.f42, go_sem]; try rfl) rfl (RetBb.no HBB.out B4.out)
theorem buildE_cases (ev : Nat) (es : List En) : (∃ F, buildE ev es = (sealB F, 0) ∧ F.length ≤ 1048576) ∨ (∃ k : Int, buildE ev es = ([], k) ∧ (k = 2 ∨ k = 3)) := by
  unfold buildE
  split
  · exact .inr ⟨2, rfl, .inl rfl⟩
  · split
    · exact .inr ⟨2, rfl, .inl rfl⟩
    · split
      · exact .inl ⟨_, rfl, by omega⟩
      · exact .inr ⟨3, rfl, .inr rfl⟩
end Go.Proofs.Ytgigohfjioifaaa
namespace Go.Proofs.Ytgigohfjioifaaa
open Go Go.RowKit

def lastK (es : List En) : List UInt8 := (es.getLast?.map (·.key)).getD []
/-- The entries from place a on, and the every. -/
def parR (xs : List UInt8) (sec : Int) : Nat → Nat → List En → Nat → Option (List En × Nat)
  | 0, _, _, _ => none
  | f + 1, a, es, ev => if xs.length ≤ a then some (es, ev) else
      if badR xs (lastK es) a then none
      else parR xs sec f (e7R xs a).2.1 (es ++ [entR xs (lastK es) a]) (if (a : Int) = sec then es.length else ev)
/-- What stands in a block: its entries and the every. -/
def parB (xs : List UInt8) : Option (List En × Nat) :=
  match splitB xs with
  | none => none
  | some (ys, zs) =>
    let sec : Int := if 8 ≤ zs.length then (numK (zs.drop 4) 4 : Int) else -1
    match parR ys sec (ys.length + 1) 0 [] 0 with
    | none => none
    | some (es, ev) => some (es, if sec < 0 then max es.length 1 else ev)
theorem numR_mono {xs : List UInt8} {s : Nat × Bool} (h : s.1 ≤ xs.length) : s.1 ≤ (numR xs s).2.1 ∧ ((numR xs s).2.2 = false → s.1 < (numR xs s).2.1) := by
  unfold numR
  split
  · rename_i e
    rcases hg : getU xs (s.1 : Int) with ⟨m, nx, e2⟩
    rw [hg] at e
    obtain ⟨k, rfl, h1, h2, h3⟩ := getU_err h hg e
    simp only [Int.toNat_natCast]
    exact ⟨by omega, fun _ => h1⟩
  · exact ⟨Nat.le_refl _, fun h => by cases h⟩
theorem takeR_mono {xs : List UInt8} {n : Nat} {s : Nat × Bool} : s.1 ≤ (takeR xs n s).2.1 := by
  unfold takeR
  split
  · exact Nat.le_refl _
  · simp only; omega
theorem badR_no {xs ah : List UInt8} {a : Nat} (h : badR xs ah a = false) : (e7R xs a).2.2 = false ∧ (e1R xs a).1 ≤ ah.length ∧ (e1R xs a).1 + (e6R xs a).1.length ≤ 1024 := by
  unfold badR at h
  simp only [Bool.or_eq_false_iff, decide_eq_false_iff_not] at h
  obtain ⟨⟨h1, h2⟩, h3⟩ := h
  exact ⟨h1, by omega, by omega⟩
theorem bad_chain {xs : List UInt8} {a : Nat} (h : (e7R xs a).2.2 = false) : (e6R xs a).2.2 = false ∧ (e5R xs a).2.2 = false ∧ (e4R xs a).2.2 = false ∧ (e3R xs a).2.2 = false ∧ (e2R xs a).2.2 = false ∧ (e1R xs a).2.2 = false := by
  unfold e7R at h
  have h6 := (takeR_bad h).1
  have h6' := h6
  unfold e6R at h6'
  have h5 := (takeR_bad h6').1
  have h5' := h5
  unfold e5R at h5'
  have h4 := numR_bad h5'
  have h4' := h4
  unfold e4R at h4'
  have h3 := (takeR_bad h4').1
  have h3' := h3
  unfold e3R at h3'
  have h2 := numR_bad h3'
  have h2' := h2
  unfold e2R at h2'
  exact ⟨h6, h5, h4, h3, h2, numR_bad h2'⟩
theorem e_le {xs : List UInt8} {a : Nat} (ha : a ≤ xs.length) : (e1R xs a).2.1 ≤ xs.length ∧ (e2R xs a).2.1 ≤ xs.length ∧ (e3R xs a).2.1 ≤ xs.length ∧ (e4R xs a).2.1 ≤ xs.length ∧ (e5R xs a).2.1 ≤ xs.length ∧ (e6R xs a).2.1 ≤ xs.length ∧ (e7R xs a).2.1 ≤ xs.length := by
  have q1 : (e1R xs a).2.1 ≤ xs.length := by unfold e1R; exact (numR_le ha).1
  have q2 : (e2R xs a).2.1 ≤ xs.length := by unfold e2R; exact (numR_le q1).1
  have q3 : (e3R xs a).2.1 ≤ xs.length := by unfold e3R; exact (numR_le q2).1
  have q4 : (e4R xs a).2.1 ≤ xs.length := by unfold e4R; exact (takeR_le q3).1
  have q5 : (e5R xs a).2.1 ≤ xs.length := by unfold e5R; exact (numR_le q4).1
  have q6 : (e6R xs a).2.1 ≤ xs.length := by unfold e6R; exact (takeR_le q5).1
  have q7 : (e7R xs a).2.1 ≤ xs.length := by unfold e7R; exact (takeR_le q6).1
  exact ⟨q1, q2, q3, q4, q5, q6, q7⟩
theorem e7_more {xs : List UInt8} {a : Nat} (ha : a ≤ xs.length) (h : (e7R xs a).2.2 = false) : a < (e7R xs a).2.1 := by
  obtain ⟨b6, b5, b4, b3, b2, b1⟩ := bad_chain h
  obtain ⟨l1, l2, l3, l4, l5, l6, l7⟩ := e_le ha
  have m1 : a < (e1R xs a).2.1 := by unfold e1R at b1 ⊢; exact (numR_mono ha).2 b1
  have m2 : (e1R xs a).2.1 ≤ (e2R xs a).2.1 := by unfold e2R; exact (numR_mono l1).1
  have m3 : (e2R xs a).2.1 ≤ (e3R xs a).2.1 := by unfold e3R; exact (numR_mono l2).1
  have m4 : (e3R xs a).2.1 ≤ (e4R xs a).2.1 := by unfold e4R; exact takeR_mono
  have m5 : (e4R xs a).2.1 ≤ (e5R xs a).2.1 := by unfold e5R; exact (numR_mono l4).1
  have m6 : (e5R xs a).2.1 ≤ (e6R xs a).2.1 := by unfold e6R; exact takeR_mono
  have m7 : (e6R xs a).2.1 ≤ (e7R xs a).2.1 := by unfold e7R; exact takeR_mono
  omega
theorem entR_key {xs ah : List UInt8} {a : Nat} (h : badR xs ah a = false) : (entR xs ah a).key.length ≤ 1024 := by
  obtain ⟨_, h2, h3⟩ := badR_no h
  unfold entR
  simp only [List.length_append, List.length_take]
  omega
theorem lastK_snoc (es : List En) (x : En) : lastK (es ++ [x]) = x.key := by
  unfold lastK
  simp
theorem fam_join {w : World} {base B : Nat} {ps qs : List VB} (h : Fam w base ps) (hlt : ∀ p ∈ ps, ∀ b, Value.ownBlock p.1 = some b → b < B) (hn : Fam w B qs) (hB : base ≤ B) : Fam w base (ps ++ qs) := by
  refine ⟨fun p hp => ?_, List.pairwise_append.2 ⟨h.2, hn.2, fun p hp q hq k e1 e2 => ?_⟩⟩
  · rcases List.mem_append.1 hp with hp | hp
    · exact h.1 p hp
    · obtain ⟨A, m, c, e, ho⟩ := hn.1 p hp
      exact ⟨A, m, c, e, ho.mono hB⟩
  · have k1 := hlt p hp k e1
    have k2 := (hn.lt hq e2).1
    omega
/-- 'A row of entries of the call's own, off the reader; all of it lies below B.' -/
def PR (base B p : Nat) (L : Option Addr) (i d : Nat) (es : List En) (w : World) (vs : List Value) : Prop :=
  OwnE w base L i d vs ∧ EOs base w es vs ∧ OffW vs (blk L) ∧ es.length = i ∧ Fam w base (pairE es vs) ∧ OffW vs (some p) ∧ blk L ≠ some p ∧
    (∀ A m c g, Value.slice A m c ∈ vs → blk A = some g → g < B) ∧ (∀ g, blk L = some g → g < B)
section
variable {base B p i d : Nat} {L : Option Addr} {es : List En} {w w' : World} {vs : List Value}
theorem PR.kept (h : PR base B p L i d es w vs) (hg : w.grownBy w' (some p)) : PR base B p L i d es w' vs := by
  obtain ⟨q1, q2, q3, q4, q5, q6, q7, q8, q9⟩ := h
  refine ⟨?_, EOs.kept hg q2 q6, q3, q4, q5.kept hg (fun b hb r hr e => ?_), q6, q7, q8, q9⟩
  · refine ⟨q1.1, ?_⟩
    rcases q1.2 with h1 | ⟨g, cap, cur, h1, h2, h3, h4⟩
    · exact .inl h1
    · refine .inr ⟨g, cap, cur, h1, h2, ?_, h4⟩
      have hne : some g ≠ some p := fun e => q7 (by injection h1 with h1; rw [h1]; exact e)
      obtain ⟨_, _, _, _, k5⟩ := hg
      have hlt : g < w.heap.size := (Array.getElem?_eq_some_iff.1 h3).1
      exact (k5 g hlt hne).trans h3
  · injection hb with hb
    subst hb
    obtain ⟨A, m, c, e1, _⟩ := q5.1 r hr
    rw [e1, own_blk] at e
    have := pairE_mem hr
    rw [e1] at this
    exact q6 p rfl A m c this e
theorem PR.below (h : PR base B p L i d es w vs) (hb : Below w.heap.size w w') : PR base B p L i d es w' vs := by
  obtain ⟨q1, q2, q3, q4, q5, q6, q7, q8, q9⟩ := h
  exact ⟨q1.below hb, q2.below hb, q3, q4, q5.below hb, q6, q7, q8, q9⟩
theorem PR.zero (base B p : Nat) (w : World) : PR base B p none 0 0 [] w [] := ⟨OwnE.nil _ _, rfl, OffW.nil _, rfl, Fam.nil _ _, OffW.nil _, (fun h => by cases h), (fun A m c g h => by cases h), (fun g h => by cases h)⟩
theorem PR.rd (h : PR base B p L i d es w vs) : REs w L i es := by
  obtain ⟨q1, q2, q3, q4, _⟩ := h
  exact REs.mk q2.evs q1.rd q4
theorem PR.row {W : World} (h : PR base B p L i d es w vs) (hb : Below base W w) (hs : base ≤ w.heap.size) : RowE W base L i d es w := by
  obtain ⟨q1, q2, q3, q4, q5, _⟩ := h
  exact ⟨vs, q1, q2, q3, q4, hb, hs, q5⟩
/-- One more. -/
theorem pr_add {w4 : World} {L' K V : Option Addr} {d' kn kc vn vc : Nat} {x : En} (h : PR base B p L i d es w vs) (oK : Own 5 w B K kn kc x.key) (oV : Own 5 w B V vn vc x.val) (dj : Dj K V) (hwf : U64 x.seq ∧ x.kind < 256) (hB : base ≤ B) (hp : p < B) (hBw : B ≤ w.heap.size)
    (h4 : OwnE w4 base L' (i + 1) d' (vs ++ [.slice K kn kc, .int .u64 (x.seq : Int), .int .u8 (x.kind : Int), .slice V vn vc])) (hg : w.grownBy w4 (blk L)) (hb : blk L' = blk L ∨ blk L' = some (w.heap.size + 1)) :
    PR base w4.heap.size p L' (i + 1) d' (es ++ [x]) w4 (vs ++ [.slice K kn kc, .int .u64 (x.seq : Int), .int .u8 (x.kind : Int), .slice V vn vc]) := by
  obtain ⟨q1, q2, q3, q4, q5, q6, q7, q8, q9⟩ := h
  have eo : EO base w x (.slice K kn kc) (.int .u64 (x.seq : Int)) (.int .u8 (x.kind : Int)) (.slice V vn vc) := ⟨K, kn, kc, V, vn, vc, rfl, rfl, rfl, rfl, oK.mono hB, oV.mono hB, hwf⟩
  have hge : ∀ A m c g, Value.slice A m c ∈ [Value.slice K kn kc, .int .u64 (x.seq : Int), .int .u8 (x.kind : Int), .slice V vn vc] → blk A = some g → B ≤ g ∧ g < w.heap.size := fun A m c g hv hgg => by
    simp only [List.mem_cons, List.not_mem_nil, or_false] at hv
    rcases hv with e | e | e | e
    · injection e with e1 e2 e3; subst e1; exact oK.lt g hgg
    · cases e
    · cases e
    · injection e with e1 e2 e3; subst e1; exact oV.lt g hgg
  have o1 : OffW [Value.slice K kn kc, .int .u64 (x.seq : Int), .int .u8 (x.kind : Int), .slice V vn vc] (blk L) := fun g hgg A m c hv e => by
    have h1 := hge A m c g hv e
    have h2 := q9 g hgg
    omega
  have hgs := hg.size
  have f1 : Fam w base (pairE es vs ++ [(.slice K kn kc, x.key), (.slice V vn vc, x.val)]) := fam_join q5 (fun r hr b e => by
    obtain ⟨A, m, c, e1, _⟩ := q5.1 r hr
    have := pairE_mem hr
    rw [e1] at this e
    rw [own_blk] at e
    exact q8 A m c b this e) (fam_two oK oV dj) hB
  refine ⟨h4, (EOs.kept hg q2 q3).app (EOs.one (eo.kept hg o1)), ?_, by simp [q4], ?_, ?_, ?_, ?_, ?_⟩
  · rcases hb with e | e
    · rw [e]; exact q3.app o1
    · rw [e]
      intro g hg2 C m c hv2 hv3
      injection hg2 with hg2
      rcases List.mem_append.1 hv2 with hq | hq
      · have := (EOs.lt q2 hq hv3).2
        omega
      · have := hge C m c g hq hv3
        omega
  · rw [pairE_app q2]
    refine f1.kept hg (fun b e r hr e2 => ?_)
    obtain ⟨A, m, c, e1, _⟩ := f1.1 r hr
    have hm : Value.slice A m c ∈ vs ++ [.slice K kn kc, .int .u64 (x.seq : Int), .int .u8 (x.kind : Int), .slice V vn vc] := by
      rw [← e1]
      rcases List.mem_append.1 hr with h | h
      · exact List.mem_append_left _ (pairE_mem h)
      · refine List.mem_append_right _ ?_
        simp only [List.mem_cons, List.not_mem_nil, or_false] at h
        rcases h with rfl | rfl
        · simp
        · simp
    rw [e1, own_blk] at e2
    exact (q3.app o1) b e A m c hm e2
  · exact q6.app (fun g hgg A m c hv e => by
      injection hgg with hgg
      have := hge A m c g hv e
      omega)
  · rcases hb with e | e
    · rw [e]; exact q7
    · rw [e]
      intro h
      injection h with h
      omega
  · intro A m c g hv e
    rcases List.mem_append.1 hv with hq | hq
    · have := (EOs.lt q2 hq e).2
      omega
    · have := hge A m c g hq e
      omega
  · intro g e
    exact (h4.lt g e).2
end
end Go.Proofs.Ytgigohfjioifaaa
namespace Go.Proofs.Ytgigohfjioifaaa
open Go Go.RowKit

/-- What a list that is picked out of another comes to. -/
def RetPick (w : World) (es : List En) (us : List Value) (e : Ending) (w' : World) : Prop :=
  ∃ L k d vs, e = .returned (.slice L k d) ∧ OwnE w' w.heap.size L k d vs ∧ EVs w' es vs ∧ es.length = k ∧ Below w.heap.size w w' ∧ ∀ u ∈ vs, u ∈ us
theorem RetPick.out {w : World} {es : List En} {us : List Value} {e : Ending} {w' : World} (h : RetPick w es us e w') : ∃ L k d vs, e = .returned (.slice L k d) ∧ OwnE w' w.heap.size L k d vs ∧ EVs w' es vs ∧ es.length = k ∧ Below w.heap.size w w' ∧ ∀ u ∈ vs, u ∈ us := h
theorem RetPick.res {w : World} {es : List En} {us : List Value} {e : Ending} {w' : World} (h : RetPick w es us e w') : ∃ L k d, e = .returned (.slice L k d) ∧ REs w' L k es ∧ k ≤ d ∧ Below w.heap.size w w' := by
  obtain ⟨L, k, d, vs, h1, h2, h3, h4, h5, _⟩ := h
  exact ⟨L, k, d, h1, REs.mk h3 h2.rd h4, h2.cap.1, h5⟩
/-- 'So far picked.' -/
def Pck (w : World) (us : List Value) (es : List En) (L : Option Addr) (k d : Nat) (wr : World) : Prop :=
  ∃ vs, OwnE wr w.heap.size L k d vs ∧ EVs w es vs ∧ es.length = k ∧ Below w.heap.size w wr ∧ ∀ u ∈ vs, u ∈ us
theorem Pck.zero (w : World) (us : List Value) : Pck w us [] none 0 0 w := ⟨[], OwnE.nil _ _, rfl, rfl, Below.refl _ _, fun u hu => by cases hu⟩
theorem Pck.below {w wr w' : World} {us : List Value} {es : List En} {L : Option Addr} {k d : Nat} (h : Pck w us es L k d wr) (hb : Below wr.heap.size wr w') : Pck w us es L k d w' := by
  obtain ⟨vs, h1, h2, h3, h4, h5⟩ := h
  exact ⟨vs, h1.below hb, h2, h3, belowT' h4 hb, h5⟩
theorem Pck.bel {w wr : World} {us : List Value} {es : List En} {L : Option Addr} {k d : Nat} (h : Pck w us es L k d wr) : Below w.heap.size w wr := by
  obtain ⟨vs, h1, h2, h3, h4, h5⟩ := h
  exact h4
theorem Pck.len {w wr : World} {us : List Value} {es : List En} {L : Option Addr} {k d : Nat} (h : Pck w us es L k d wr) : es.length = k := by
  obtain ⟨vs, h1, h2, h3, h4, h5⟩ := h
  exact h3
theorem Pck.ret {w wr : World} {us : List Value} {es : List En} {L : Option Addr} {k d : Nat} (h : Pck w us es L k d wr) : RetPick w es us (.returned (.slice L k d)) wr := by
  obtain ⟨vs, h1, h2, h3, h4, h5⟩ := h
  exact ⟨L, k, d, vs, rfl, h1, h2.below h4, h3, h4, h5⟩
theorem Pck.snoc {w w4 : World} {us vs : List Value} {es : List En} {L' : Option Addr} {k d' : Nat} {x : En} {v0 v1 v2 v3 : Value} (h2 : EVs w es vs) (h3 : es.length = k) (h5 : ∀ u ∈ vs, u ∈ us)
    (hx : EV w x v0 v1 v2 v3) (hm : ∀ u ∈ [v0, v1, v2, v3], u ∈ us) (o4 : OwnE w4 w.heap.size L' (k + 1) d' (vs ++ [v0, v1, v2, v3])) (b4 : Below w.heap.size w w4) : Pck w us (es ++ [x]) L' (k + 1) d' w4 :=
  ⟨vs ++ [v0, v1, v2, v3], o4, h2.app (EVs.one hx), by simp [h3], b4, fun u hu => by
    rcases List.mem_append.1 hu with h | h
    · exact h5 u h
    · exact hm u h⟩
theorem mem4 {w : World} {A : Option Addr} {n k b off : Nat} {es : List En} {ovs : List Value} (hv : EVs w es ovs) (hd : RdV w A (n * 4) ovs) (hl : es.length = n) (hA : A = some ⟨b, off, none⟩) (hk : k < n) :
    ∃ e v0 v1 v2 v3, es[k]? = some e ∧ w.cell? ⟨b, off + k * 4, none⟩ = some v0 ∧ w.cell? ⟨b, off + k * 4 + 1, none⟩ = some v1 ∧
      w.cell? ⟨b, off + k * 4 + 2, none⟩ = some v2 ∧ w.cell? ⟨b, off + k * 4 + 3, none⟩ = some v3 ∧ EV w e v0 v1 v2 v3 ∧ ∀ u ∈ [v0, v1, v2, v3], u ∈ ovs := by
  subst hA
  obtain ⟨b', off', e, hb, hc⟩ := hd.2 (by omega)
  injection e with e
  injection e with e1 e2
  subst e1 e2
  obtain ⟨x, hx⟩ : ∃ x, es[k]? = some x := ⟨_, List.getElem?_eq_getElem (by omega)⟩
  obtain ⟨v0, v1, v2, v3, e0, e1, e2, e3, g0⟩ := hv.at_ k hx
  refine ⟨x, v0, v1, v2, v3, hx, hc _ _ e0, ?_, ?_, ?_, g0, fun u hu => ?_⟩
  · rw [Nat.add_assoc]; exact hc _ _ e1
  · rw [Nat.add_assoc]; exact hc _ _ e2
  · rw [Nat.add_assoc]; exact hc _ _ e3
  · simp only [List.mem_cons, List.not_mem_nil, or_false] at hu
    rcases hu with rfl | rfl | rfl | rfl
    · exact List.mem_of_getElem? e0
    · exact List.mem_of_getElem? e1
    · exact List.mem_of_getElem? e2
    · exact List.mem_of_getElem? e3
theorem filter_snoc {es : List En} {k : Nat} {x : En} {p : En → Bool} (hx : es[k]? = some x) : (es.take (k + 1)).filter p = (es.take k).filter p ++ (if p x then [x] else []) := by
  rw [List.take_add_one, hx, List.filter_append]
  simp only [Option.toList, List.filter_cons, List.filter_nil]
end Go.Proofs.Ytgigohfjioifaaa
namespace Go.Proofs.Ytgigohfjioifaaa
open Go Go.RowKit

theorem withT_list {x : En} : ∀ {t t' : Tr}, SortL t.list → withT x t = some t' → ∃ p q, t.list = p ++ q ∧ t'.list = p ++ x :: q ∧ (∀ y ∈ p, lessE y x = true) ∧ (∀ y ∈ q, lessE x y = true)
  | .nil, t', _, h => by
    unfold withT at h
    injection h with h
    subst h
    exact ⟨[], [], rfl, rfl, (fun y hy => by cases hy), fun y hy => by cases hy⟩
  | .node l e r, t', hs, h => by
    have hs' : SortL (l.list ++ e :: r.list) := hs
    obtain ⟨sl, sr, slr⟩ := List.pairwise_append.1 hs'
    obtain ⟨er, srr⟩ := List.pairwise_cons.1 sr
    unfold withT at h
    split at h
    · next hx =>
      cases hw : withT x l with
      | none => rw [hw] at h; cases h
      | some l' =>
        rw [hw] at h
        injection h with h
        obtain ⟨p, q, e1, e2, h1, h2⟩ := withT_list sl hw
        subst h
        refine ⟨p, q ++ e :: r.list, by rw [Tr.list, e1, List.append_assoc], by rw [balT_list, e2]; simp, h1, fun y hy => ?_⟩
        rcases List.mem_append.1 hy with m | m
        · exact h2 y m
        · rcases List.mem_cons.1 m with rfl | m
          · exact hx
          · exact lessE_trans hx (er y m)
    · split at h
      · next hx =>
        cases hw : withT x r with
        | none => rw [hw] at h; cases h
        | some r' =>
          rw [hw] at h
          injection h with h
          obtain ⟨p, q, e1, e2, h1, h2⟩ := withT_list srr hw
          subst h
          refine ⟨l.list ++ e :: p, q, by rw [Tr.list, e1]; simp, by rw [balT_list, e2]; simp, fun y hy => ?_, h2⟩
          rcases List.mem_append.1 hy with m | m
          · exact lessE_trans (slr y m e (by simp)) hx
          · rcases List.mem_cons.1 m with rfl | m
            · exact hx
            · exact h1 y m
      · cases h
theorem withT_none {x : En} : ∀ {t : Tr}, withT x t = none → inL t.list x = true
  | .nil, h => by unfold withT at h; cases h
  | .node l e r, h => by
    unfold withT at h
    unfold inL
    rw [Tr.list, List.any_append, List.any_cons]
    split at h
    · cases hw : withT x l with
      | none => have := withT_none hw; unfold inL at this; rw [this]; rfl
      | some l' => rw [hw] at h; cases h
    · next h1 =>
      split at h
      · cases hw : withT x r with
        | none => have := withT_none hw; unfold inL at this; rw [this]; simp
        | some r' => rw [hw] at h; cases h
      · next h2 =>
        rcases lessE_tri e x with q | q | q
        · exact absurd q h2
        · exact absurd q h1
        · rw [q]; simp
/-- An insertion that goes well: the list's, and the entry wasn't there. -/
theorem withT_ins {x : En} {t t' : Tr} (hs : SortL t.list) (h : withT x t = some t') : t'.list = insL t.list x ∧ inL t.list x = false ∧ SortL t'.list := by
  obtain ⟨p, q, e1, e2, h1, h2⟩ := withT_list hs h
  have hp : ∀ y ∈ p, lessE x y = false := fun y hy => lessE_asym (h1 y hy)
  refine ⟨by rw [e1, e2, insL_app hp h2], ?_, ?_⟩
  · rw [e1]
    unfold inL
    rw [List.any_eq_false]
    intro y hy k
    obtain ⟨k1, k2⟩ := sameK_not k
    rcases List.mem_append.1 hy with m | m
    · rw [h1 y m] at k1; cases k1
    · rw [h2 y m] at k2; cases k2
  · rw [e2]
    rw [e1] at hs
    obtain ⟨s1, s2, s3⟩ := List.pairwise_append.1 hs
    refine List.pairwise_append.2 ⟨s1, List.pairwise_cons.2 ⟨h2, s2⟩, fun a ha b hb => ?_⟩
    rcases List.mem_cons.1 hb with rfl | m
    · exact h1 a ha
    · exact s3 a ha b m
end Go.Proofs.Ytgigohfjioifaaa
namespace Go.Proofs.Ytgigohfjioifaaa
open Go Go.RowKit

section
variable {w : World} {A : Option Addr} {n c : Nat} {es : List En}
set_option maxRecDepth 100000 in
set_option maxHeartbeats 4000000 in
theorem mgOwn_any (h : REs w A n es) (hn : n ≤ 2097152) (hs : ∀ x ∈ es, SzE x) : Calls Try.prog 58 #[.slice A n c] w (RetRow w es) := by
  have HL := Lib.hid h.len
  have HS := Lib.hid hs
  obtain ⟨i, hi, hz, hsz, hby⟩ := info_parts info_ent
  obtain ⟨wm, hm1, hm2, hm3⟩ := run_make_own (P := Try.prog) (w := w) w.heap.size 25 33 i _ 4 Try.underlying25 hi hz hsz .i64 .i64 n (by rw [hby]; omega) (by unfold maxLen; omega) (Nat.le_refl _)
  have hbm : Below w.heap.size w wm := (Below.refl _ _).grown hm3 (Nat.le_refl _) (fun k hk => by cases hk)
  have HZ : Hid (RowE w w.heap.size (some ⟨w.heap.size, 0, none⟩) 0 n [] wm) := Lib.hid ⟨[], hm2, rfl, OffW.nil _, rfl, hbm, hbm.size, Fam.nil _ _⟩
  clear hs hm2 hm3 hbm hi hz hsz hby
  go_enter Try.func58, Try.ntmps58
  go_wp2_with fail
  go_loopw [3, 11] (fun s3 s11 wr => ∃ (k d : Nat) (L : Option Addr), k ≤ n ∧ s11 = .int .i64 (k : Int) ∧ s3 = .slice L k d ∧ RowE w w.heap.size L k d (es.take k) wr) (fun _ s _ => n - (intOf s).toNat)
  case atStart => exact ⟨0, n, _, Nat.zero_le _, rfl, rfl, HZ.out⟩
  case round =>
    obtain ⟨k, d, L, hk, rfl, rfl, hrow⟩ := hrel
    have HR := Lib.hid hrow
    have sw := hrow.size
    have hR : REs wr A n es := h.below hrow.bel
    clear hrow
    by_cases hlt : k < n
    · obtain ⟨b, off, rfl, hbl⟩ := hR.pos (by omega)
      obtain ⟨x, v0, v1, v2, v3, hx, m0, m1, m2, m3, hev⟩ := hR.at_ k hlt
      have hsx := HS.out x (List.mem_of_getElem? hx)
      have hwf := hR.wf x (List.mem_of_getElem? hx)
      obtain ⟨K, kn, kc, V, vn, vc, rfl, rfl, rfl, rfl, _⟩ := hev.parts
      have HXK := Lib.hid hx
      obtain ⟨U0, hU⟩ : ∃ U0, U0 = wr.alloc (.cells #[.slice K kn kc, .int .u64 (x.seq : Int), .int .u8 (x.kind : Int), .slice V vn vc] 33) := ⟨_, rfl⟩
      have bU : Below wr.heap.size wr U0 := by rw [hU]; exact (Below.refl _ _).alloc (Nat.le_refl _) _
      have HEN := Lib.hid (mgEntry_any (hev.below bU) hsx)
      have HRU := Lib.hid (HR.out.below bU)
      have HU := Lib.hid hU
      have su := bU.size
      have zU : Cl U0 wr.heap.size #[.slice K kn kc, .int .u64 (x.seq : Int), .int .u8 (x.kind : Int), .slice V vn vc] 33 := by rw [hU]; exact Cl.new _ _ _
      obtain ⟨z0, z1, z2, z3, _⟩ := zU.c4
      clear hx hev hR hU bU HR zU
      go_upto_region 5 with (fail)
      rw [← HU.out]
      go_wp2_with fail
      with_reducible refine HEN.out.mono ?_
      rintro e w2 ⟨K2, kn2, kc2, V2, vn2, vc2, rfl, o1, o2, b2, dj⟩
      obtain ⟨vs, q1, q2, q3, q4, q5, q6, q7⟩ := HRU.out
      have HFM := Lib.hid (fam_two o1 o2 dj)
      have Q7 := Lib.hid q7
      have s2 := b2.size
      have HEO : Hid (EO w.heap.size w2 x (.slice K2 kn2 kc2) (.int .u64 (x.seq : Int)) (.int .u8 (x.kind : Int)) (.slice V2 vn2 vc2)) := Lib.hid ⟨K2, kn2, kc2, V2, vn2, vc2, rfl, rfl, rfl, rfl, o1.mono q6, o2.mono q6, hwf⟩
      have HOF : Hid (OffW [.slice K2 kn2 kc2, .int .u64 (x.seq : Int), .int .u8 (x.kind : Int), .slice V2 vn2 vc2] (blk L)) := Lib.hid (EO.off (base := U0.heap.size) (w := w2) (e := x) ⟨K2, kn2, kc2, V2, vn2, vc2, rfl, rfl, rfl, rfl, o1, o2, hwf⟩ (fun g hg => .inl (q1.lt g hg).2))
      have HB2 := Lib.hid b2
      have Q1 := Lib.hid q1
      have Q2 := Lib.hid q2
      have Q3 := Lib.hid q3
      have Q4 := Lib.hid q4
      have Q5 := Lib.hid q5
      have hcell : ∀ u ∈ [Value.slice K2 kn2 kc2, .int .u64 (x.seq : Int), .int .u8 (x.kind : Int), .slice V2 vn2 vc2], u.oneCell' = true := HEO.out.ev.cells
      have HCL := Lib.hid hcell
      clear o1 o2 b2 q1 q2 q3 q4 q5 q7 dj hcell m0 m1 m2 m3 z0 z1 z2 z3
      go_wp2_with (at_builtin; refine wpList_app4t w2 rfl _ _ 25 rfl w.heap.size _ 64 Try.underlying25 info_ent rfl L k d vs rfl (Q1.out.below HB2.out) _ _ _ _ HCL.out w2.heap.size rfl rfl ?_ ?_ ?_ ?_)
      · omega
      · omega
      · omega
      intro L2 d2 w4 hG4 hg4 hb4
      have HQ : Hid (RowE w w.heap.size L2 (k + 1) d2 (es.take (k + 1)) w4) := Lib.hid (by
        rw [List.take_add_one, HXK.out]
        exact rowE_snoc Q1.out Q2.out Q3.out Q4.out Q5.out q6 Q7.out HB2.out HEO.out HOF.out HFM.out hG4 hg4 hb4)
      clear hG4 hg4 hb4
      go_wp2_with fail
      go_roundw
      case rel => exact ⟨k + 1, d2, L2, by omega, by go_num, rfl, HQ.out⟩
      case measure => simp [intOf]; omega
    · obtain rfl : k = n := by omega
      have htk := take_all HL.out hlt
      rw [htk] at HR
      clear htk
      go_wp2
      go_ret
      exact ⟨L, k, d, rfl, HR.out⟩
end
end Go.Proofs.Ytgigohfjioifaaa
namespace Go.Proofs.Ytgigohfjioifaaa
open Go Go.RowKit

theorem szL_take (es : List En) (k : Nat) : szL (es.take k) ≤ szL es := by
  have := szL_app (es.take k) (es.drop k)
  rw [List.take_append_drop] at this
  omega
theorem szL_snoc {es : List En} {k : Nat} {x : En} (h : es[k]? = some x) : szL (es.take (k + 1)) = szL (es.take k) + wE x := by
  rw [List.take_add_one, h, szL_app]
  simp [szL]
theorem grow_set {w w' : World} {row : Option Nat} (h : w.grownBy w' row) (p : Nat) (i : Nat) (v : Value) (hp : row = some p) : w.grownBy (World.setCell w' ⟨p, i, none⟩ v) row := by
  obtain ⟨h1, h2, h3, h4, h5⟩ := h
  have k := (Below.refl p w').setCell (p := ⟨p, i, none⟩) (Nat.le_refl _) v
  exact ⟨k.os.trans h1, k.tape.trans h2, k.output.trans h3, Nat.le_trans h4 k.size, fun b hb hne => by
    have hbp : b ≠ p := fun e => hne (by rw [e]; exact hp.symm)
    rw [heap_setCell_other _ _ _ _ hbp]
    exact h5 b hb hne⟩
set_option maxRecDepth 100000 in
set_option maxHeartbeats 8000000 in
theorem tabPut_any {d : TypeId × List Value} {G : Nat → Prop} {w : World} {p : Nat} {t : Tr} {L : Option Addr} {n c : Nat} {es : List En} (h : TB d G w p t) (hr : REs w L n es) (hn : n ≤ 1099511627776) (hs : ∀ x ∈ es, SzE x) (hnum : t.num + n + 1 ≤ 1099511627776) (hsz : t.sz + szL es ≤ 1099511627776)
    (hG : ∀ b, w.heap.size ≤ b → G b) : Calls Try.prog 41 #[.pointer (some ⟨p, 0, none⟩), .slice L n c] w (RetPt d G w p (putZ t es)) := by
  have HTB := Lib.hid h
  obtain ⟨A0, hp, hta, hok⟩ := h
  have HP := Lib.hid hp
  have HTA := Lib.hid hta
  have HR := Lib.hid hr
  have HLN := Lib.hid hr.len
  have HS := Lib.hid hs
  have HG := Lib.hid hG
  have hplt := hp.lt
  have HOK := Lib.hid hok
  obtain ⟨z, hz⟩ : ∃ z, z = checkE es := ⟨_, rfl⟩
  have HC : Hid (Calls Try.prog 74 #[.slice L n c] w (RetNu w z)) := Lib.hid (by rw [hz]; exact memCheck_any hr hn)
  have HZ := Lib.hid hz
  clear hp hta hr hs hz hG hok
  go_enter Try.func41, Try.ntmps41
  go_wp2_with fail
  refine HC.out.mono ?_
  rintro e w1 ⟨rfl, b1⟩
  have B1 := Lib.hid b1
  have s1 := b1.size
  by_cases h0 : z = 0
  · subst h0
    have HPZ : Hid (putZ t es = match insAll t es with | none => (7, t) | some t' => (0, t')) := Lib.hid (by unfold putZ; rw [if_pos HZ.out.symm] <;> (cases insAll t es <;> rfl))
    obtain ⟨c0, c1, c2, y0, y1, y2⟩ := (HP.out.below b1).ct
    clear b1
    go_wp2
    go_quiet (fail)
    obtain ⟨w2, hw2⟩ : ∃ w2, w2 = w1.drewN nq := ⟨_, rfl⟩
    rw [← hw2]
    have b2 : Below w.heap.size w w2 := by rw [hw2]; exact below_drewN B1.out _
    have B2 := Lib.hid b2
    have s2 := b2.size
    clear hw2 b2 c0 c1 c2 y0 y1 y2
    go_wp2
    go_loopw [6, 7, 28] (fun s6 s7 s28 wr => ∃ (k : Nat) (tk : Tr) (A : Option Addr), k ≤ n ∧ s28 = .int .i64 (k : Int) ∧ s6 = .pointer A ∧ s7 = .int .i64 (tk.sz : Int) ∧ insAll t (es.take k) = some tk ∧ TrAt G wr tk A ∧ Below w.heap.size w wr) (fun _ _ s _ => n - (intOf s).toNat)
    case atStart => exact ⟨0, t, A0, Nat.zero_le _, rfl, rfl, rfl, rfl, HTA.out.below B2.out, B2.out⟩
    case round =>
      obtain ⟨k, tk, A, hk, rfl, rfl, rfl, hins, htk, hB⟩ := hrel
      have hR := HR.out.below hB
      have swr := hB.size
      have HB := Lib.hid hB
      have HTK := Lib.hid htk
      have HINS := Lib.hid hins
      have hnk := insAll_num hins
      rw [List.length_take] at hnk
      have hszk := szL_take es k
      have hln := HLN.out
      clear hB htk hins
      by_cases hlt : k < n
      · obtain ⟨b, off, rfl, hbl⟩ := hR.pos (by omega)
        obtain ⟨x, v0, v1, v2, v3, hx, m0, m1, m2, m3, hev⟩ := hR.at_ k hlt
        have HEV := Lib.hid hev
        have hsx := HS.out x (List.mem_of_getElem? hx)
        have hwf := hR.wf x (List.mem_of_getElem? hx)
        have hsn := szL_snoc hx
        have hst := szL_take es (k + 1)
        have HXK := Lib.hid hx
        obtain ⟨K, kn, kc, V, vn, vc, rfl, rfl, rfl, rfl, rk, rv, _⟩ := hev.parts
        have hwx : wE x = kn + vn := by unfold wE; rw [rk.len, rv.len]
        clear hx hev hR rk rv
        obtain ⟨U1, hU1⟩ : ∃ U1, U1 = wr.alloc (.cells #[.slice K kn kc, .int .u64 (x.seq : Int), .int .u8 (x.kind : Int), .slice V vn vc] 33) := ⟨_, rfl⟩
        have bU1 : Below wr.heap.size wr U1 := by rw [hU1]; exact (Below.refl _ _).alloc (Nat.le_refl _) _
        have xU1 : Cl U1 wr.heap.size #[.slice K kn kc, .int .u64 (x.seq : Int), .int .u8 (x.kind : Int), .slice V vn vc] 33 := by rw [hU1]; exact Cl.new _ _ _
        have XU1 := Lib.hid xU1
        have BU1 := Lib.hid bU1
        have sU1 := bU1.size
        have HOW : Hid (Calls Try.prog 75 #[.agg #[.slice K kn kc, .int .u64 (x.seq : Int), .int .u8 (x.kind : Int), .slice V vn vc]] U1 (RetEn U1 x)) := Lib.hid (own_any (HEV.out.below bU1) hsx)
        clear bU1 xU1
        go_wp2_with fail
        rw [← hU1]
        refine HOW.out.mono ?_
        rintro e w3 ⟨K2, kn2, kc2, V2, vn2, vc2, rfl, o1, o2, b3, _⟩
        obtain ⟨U2, hU2⟩ : ∃ U2, U2 = w3.alloc (.cells #[.slice K2 kn2 kc2, .int .u64 (x.seq : Int), .int .u8 (x.kind : Int), .slice V2 vn2 vc2] 33) := ⟨_, rfl⟩
        have bU2 : Below w3.heap.size w3 U2 := by rw [hU2]; exact (Below.refl _ _).alloc (Nat.le_refl _) _
        have heb : EB G U2 x w3.heap.size := by
          refine ⟨_, _, _, _, by rw [hU2]; exact Cl.new _ _ _, ⟨K2, kn2, kc2, V2, vn2, vc2, rfl, rfl, rfl, rfl, (o1.mono (Nat.zero_le _)).below bU2, (o2.mono (Nat.zero_le _)).below bU2, hwf⟩, fun S m cc g hv hg => HG.out g ?_⟩
          simp only [List.mem_cons, List.not_mem_nil, or_false] at hv
          rcases hv with e | e | e | e
          · injection e with e1 e2 e3; subst e1; have := (o1.lt g hg).1; omega
          · cases e
          · cases e
          · injection e with e1 e2 e3; subst e1; have := (o2.lt g hg).1; omega
        have bw2 : Below wr.heap.size wr U2 := belowT (belowT BU1.out b3) bU2
        have HWI : Hid (Calls Try.prog 76 #[.pointer A, .pointer (some ⟨w3.heap.size, 0, none⟩)] U2 (RetWith G U2 (withT x tk))) := Lib.hid (with_any x w3.heap.size tk A U2 (HTK.out.below bw2) heb (by omega))
        have XU2 := Lib.hid ((XU1.out.below b3).below bU2)
        have BW2 := Lib.hid bw2
        have sw2 := bw2.size
        clear o1 o2 b3 bU2 heb bw2
        go_wp2_with fail
        rw [← hU2]
        with_reducible refine HWI.out.mono ?_
        intro e w4 hq
        rcases RetWith.out hq with ⟨t', A6, ho, h1, t6, b6⟩ | ⟨ho, h1, b6⟩
        · subst h1
          have HO := Lib.hid ho
          have hsz' := withT_sz ho
          have T6 := Lib.hid t6
          have B6 := Lib.hid (HB.out.trans ((belowT BW2.out b6).mono swr))
          obtain ⟨f0, f1, f2, f3, _⟩ := (XU2.out.below b6).c4
          have e1 : IntKind.i64.wrap ((kn : Int) + (vn : Int)) = ((kn + vn : Nat) : Int) := by rw [IntWalk.i64_in _ (by omega)]; omega
          have e2 : IntKind.i64.wrap ((tk.sz : Int) + ((kn + vn : Nat) : Int)) = ((tk.sz + (kn + vn) : Nat) : Int) := by rw [IntWalk.i64_in _ (by omega)]; omega
          have HIN : Hid (insAll t (es.take (k + 1)) = some t') := Lib.hid (by rw [List.take_add_one, HXK.out]; simp only [Option.toList]; rw [insAll_snoc, HINS.out]; exact HO.out)
          have HSZ : Hid (t'.sz = tk.sz + (kn + vn)) := Lib.hid (by rw [hsz', hwx])
          clear hq ho t6 b6 hsz'
          go_wp2_with fail
          go_roundw
          case rel => exact ⟨k + 1, t', A6, by omega, by go_num, rfl, by rw [HSZ.out]; go_num, HIN.out, T6.out, B6.out⟩
          case measure => simp [intOf]; omega
        · subst h1
          have HNO : Hid (insAll t es = none) := Lib.hid (by
            have h3 : insAll t (es.take (k + 1)) = none := by rw [List.take_add_one, HXK.out]; simp only [Option.toList]; rw [insAll_snoc, HINS.out]; exact ho
            have h4 := insAll_none (ys := es.drop (k + 1)) h3
            rw [List.take_append_drop] at h4
            exact h4)
          have B6 := Lib.hid (HB.out.trans ((belowT BW2.out b6).mono swr))
          clear hq ho b6
          go_wp2_with fail
          go_ret
          exact ⟨by rw [HPZ.out, HNO.out]; rfl, by rw [HPZ.out, HNO.out]; exact HTB.out.below B6.out, grow_of_below B6.out⟩
      · have htk := take_all hln hlt
        rw [htk] at HINS
        have HPZ2 : Hid (putZ t es = (0, tk)) := Lib.hid (by rw [HPZ.out, HINS.out])
        obtain rfl : k = n := by omega
        have HPP := Lib.hid (HP.out.below HB.out)
        obtain ⟨c0, c1, c2, y0, y1, y2⟩ := HPP.out.ct
        clear htk
        go_wp2
        have e1 : (t.sz : Int) + (szL (es.take k) : Int) = (tk.sz : Int) := by have := hnk.2; omega
        have e2 : (t.num : Int) + (k : Int) = (tk.num : Int) := by have := hnk.1; omega
        rw [e1, e2]
        have Q1 := HPP.out.st0 (.pointer A)
        have Q2 := Q1.st2 (.int .i64 (tk.sz : Int))
        have Q3 := Q2.st1 (.int .i64 (tk.num : Int))
        have T3 := TrAt.set Q2 HOK.out 1 (.int .i64 (tk.num : Int)) (TrAt.set Q1 HOK.out 2 (.int .i64 (tk.sz : Int)) (TrAt.set HPP.out HOK.out 0 (.pointer A) HTK.out))
        have hgr := grow_set (grow_set (grow_set (grow_of_below (row := some p) HB.out) p 0 (.pointer A) rfl) p 2 (.int .i64 (tk.sz : Int)) rfl) p 1 (.int .i64 (tk.num : Int)) rfl
        go_ret
        exact ⟨by rw [HPZ2.out]; rfl, by rw [HPZ2.out]; exact ⟨A, Q3, T3, HOK.out⟩, hgr⟩
  · have HPZ : Hid (putZ t es = (z, t)) := Lib.hid (by unfold putZ; rw [← HZ.out, if_neg h0])
    have tz : (z != 0) = true := by simpa using h0
    clear b1
    go_wp2
    go_ret
    exact ⟨by rw [HPZ.out]; rfl, by rw [HPZ.out]; exact HTB.out.below B1.out, grow_of_below B1.out⟩
end Go.Proofs.Ytgigohfjioifaaa
namespace Go.Proofs.Ytgigohfjioifaaa
open Go Go.RowKit

def lenV : Value → Nat
  | .slice _ n _ => n
  | _ => 0
/-- What parse hands back: the entries, the every; or none. -/
def RetPa8 (w : World) (r : Option (List En × Nat)) (e : Ending) (w' : World) : Prop :=
  (r = none ∧ e = .returned (.tuple #[.slice none 0 0, .int .i64 0, .bool false]) ∧ Below w.heap.size w w') ∨
  ∃ es ev L d, r = some (es, ev) ∧ e = .returned (.tuple #[.slice L es.length d, .int .i64 (ev : Int), .bool true]) ∧ RowE w w.heap.size L es.length d es w' ∧ es.length ≤ 16777216 ∧ ev ≤ 16777216
/-- What stands at the head of parse's loop. -/
def PRel (w : World) (p : Nat) (E : Option Addr) (en ec : Nat) (ys : List UInt8) (sec : Int) (s10 s11 s12 : Value) (wr : World) : Prop :=
  ∃ (f a i d hn hc ev : Nat) (es : List En) (L H : Option Addr) (vs : List Value), s10 = .int .i64 (ev : Int) ∧ s11 = .slice L i d ∧ s12 = .slice H hn hc ∧
    parR ys sec (en + 1) 0 [] 0 = parR ys sec f a es ev ∧ a ≤ en ∧ en < a + f ∧ i ≤ a ∧ ev ≤ i ∧ Rdr wr p E en ec (a, false) ∧ PR w.heap.size wr.heap.size p L i d es wr vs ∧
    Rd wr H hn (lastK es) ∧ hn ≤ hc ∧ (H = none → hc = 0) ∧ blk H ≠ some p ∧ hn ≤ 1024 ∧ Below w.heap.size w wr
set_option maxRecDepth 100000 in
set_option maxHeartbeats 16000000 in
theorem parse_any (A : Option Addr) (n c : Nat) (xs : List UInt8) (w : World) (hx : Rd w A n xs) (hn : n ≤ 16777216) (hnc : n ≤ c) (hnil : A = none → c = 0) :
    Calls Try.prog 48 #[.slice A n c] w (RetPa8 w (parB xs)) := by
  have hxl := hx.len
  have HSP := Lib.hid (split_any A n c xs w hx (by omega) hnc hnil)
  cases hsb : splitB xs with
  | none =>
    have hp : parB xs = none := by unfold parB; rw [hsb]
    have HP := Lib.hid hp
    clear hp hx hxl
    go_enter Try.func48, Try.ntmps48
    go_wp2_with fail
    refine HSP.out.mono ?_
    rintro e w1 ⟨⟨q, hq⟩, ⟨_, rfl⟩ | ⟨ys, zs, B1, n1, c1, B2, n2, c2, h0, _⟩⟩
    · have HQ := Lib.hid hq
      clear hq
      go_wp2_with fail
      exact bodyPost_ret (v := .tuple #[.slice none 0 0, .int .i64 0, .bool false]) (by simp [results, Try.f48, go_sem]; try rfl) rfl (.inl ⟨HP.out, rfl, by rw [HQ.out]; exact below_drewN (Below.refl _ _) q⟩)
    · rw [hsb] at h0
      cases h0
  | some yz =>
    obtain ⟨ys, zs⟩ := yz
    obtain ⟨sec, hsec⟩ : ∃ sec : Int, sec = if 8 ≤ zs.length then (numK (zs.drop 4) 4 : Int) else -1 := ⟨_, rfl⟩
    have hp : parB xs = match parR ys sec (ys.length + 1) 0 [] 0 with
      | none => none
      | some (es, ev) => some (es, if sec < 0 then max es.length 1 else ev) := by
      unfold parB
      rw [hsb]
      simp only
      rw [← hsec]
      all_goals (cases parR ys sec (ys.length + 1) 0 [] 0 <;> rfl)
    have HP := Lib.hid hp
    have HSEC := Lib.hid hsec
    have HSB := Lib.hid hsb
    clear hp hsec hsb
    go_enter Try.func48, Try.ntmps48
    go_wp2_with fail
    refine HSP.out.mono ?_
    rintro e w1 ⟨⟨q, hq⟩, ⟨h0, _⟩ | ⟨ys', zs', E, en, ec, Z, zn, zc, h0, rfl, hec, hzc, rE, rZ, hEn, hZn, hEA, hlen⟩⟩
    · rw [HSB.out] at h0
      cases h0
    · rw [HSB.out] at h0
      injection h0 with h0
      injection h0 with h01 h02
      subst h01 h02
      have rE1 : Rd w1 E en ys := by rw [hq]; exact rE.drewN q
      have rZ1 : Rd w1 Z zn zs := by rw [hq]; exact rZ.drewN q
      have b1 : Below w.heap.size w w1 := by rw [hq]; exact below_drewN (Below.refl _ _) q
      have s1 : w1.heap.size = w.heap.size := by rw [hq]; rfl
      have hsz : sec = if 8 ≤ zn then (numK (zs.drop 4) 4 : Int) else -1 := by rw [HSEC.out, rZ.len]
      have HSZ := Lib.hid hsz
      have HRZ := Lib.hid rZ1
      have HRE := Lib.hid rE1
      have HB1 := Lib.hid b1
      have HREw := Lib.hid rE
      have hA0 : 0 < n := by have := hxl; omega
      have hpe : ∀ p, w.heap.size ≤ p → blk E ≠ some p := fun p hp e => by
        rcases hEA with e2 | e2
        · rw [e2] at e; cases e
        · obtain ⟨bA, oA, eA, hbA⟩ := hx.pos hA0
          rw [e2, eA] at e
          injection e with e
          simp only at e
          omega
      have HPE := Lib.hid hpe
      have HS1 := Lib.hid s1
      have hznn : zn ≤ 16777216 := by omega
      have henn : en ≤ 16777216 := by omega
      clear hq rE rZ rE1 rZ1 b1 s1 hsz HSP hx hpe hEA
      go_upto_if 25 with (fail)
      go_cut [8] from 15 to 29 (fun s8 wx => s8 = .int .i64 sec ∧ ∃ q, wx = w1.drewN q)
      case first =>
        by_cases h8 : 8 ≤ zn
        · have h8i : (8 : Int) ≤ (zn : Int) := by omega
          obtain ⟨k, hk⟩ : ∃ k, k = numK (zs.drop 4) 4 := ⟨_, rfl⟩
          have hse : sec = (k : Int) := by rw [HSZ.out, if_pos h8, hk]
          have hsl : ∀ W : World, (Instr.slice 22 (.slice Z zn zc) (some (.int .i64 4)) none none).run Try.prog W = .ok (.slice (cutA Z 4 zc) (zn - 4) (zc - 4)) W := cut_l (k := 4) Try.underlying22 elem_bytes size_u8 Z (by omega)
          have HGW : Hid (Calls Try.prog 87 #[.slice (cutA Z 4 zc) (zn - 4) (zc - 4)] w1 (RetCo w1 k)) := Lib.hid (by
            rw [hk]
            have h := HRZ.out.cut (k := 4) (m := zn) (cap := zc) (by omega) (Nat.le_refl _) hzc
            rw [List.take_of_length_le (by have := HRZ.out.len; omega)] at h
            exact getWord8_any _ _ _ _ w1 h (by omega) (by omega) (by omega))
          obtain ⟨zm, hzm⟩ : ∃ zm, zm = zn - 4 := ⟨_, rfl⟩
          rw [← hzm] at hsl HGW
          have HSE := Lib.hid hse
          clear hk hse hzm
          go_wp2_with fail
          with_reducible refine HGW.out.mono ?_
          rintro e w2 ⟨rfl, q2, hq2⟩
          have HQ2 := Lib.hid hq2
          clear hq2
          go_wp2_with fail
          go_meet
          case rel => exact ⟨by rw [HSE.out], q2, HQ2.out⟩
        · have h8i : ¬ (8 : Int) ≤ (zn : Int) := by omega
          have hse : sec = -1 := by rw [HSZ.out, if_neg h8]
          have HSE := Lib.hid hse
          clear hse
          go_wp2_with fail
          go_meet
          case rel => exact ⟨by rw [HSE.out], 0, rfl⟩
      case rest =>
        obtain ⟨rfl, q2, hq2⟩ := hcut
        have bc : Below w.heap.size w wc := by rw [hq2]; exact below_drewN HB1.out q2
        have sc : wc.heap.size = w.heap.size := by rw [hq2, ← HS1.out]; rfl
        have hyl : ys.length = en := HRE.out.len
        have HYL := Lib.hid hyl
        obtain ⟨W, hW⟩ : ∃ W, W = wc.alloc (.cells #[.slice E en ec, .int .i64 0, .bool false] 123) := ⟨_, rfl⟩
        obtain ⟨p, hpw⟩ : ∃ p, p = wc.heap.size := ⟨_, rfl⟩
        have hWr : Rdr W p E en ec (0, false) := by rw [hW, hpw]; exact Cl.new _ _ _
        have bW : Below w.heap.size w W := by rw [hW]; exact bc.alloc (by omega) _
        have sW : p < W.heap.size := by rw [hW, hpw]; simp
        have hpge : w.heap.size ≤ p := by omega
        have HWR := Lib.hid (And.intro hWr bW)
        have HSW := Lib.hid sW
        have HW := Lib.hid hW
        have HPW := Lib.hid hpw
        clear hq2 bc sc hyl hWr bW sW hW hpw
        go_upto_region 8 with (fail)
        rw [← HW.out, ← HPW.out]
        go_wp2_with fail
        go_loopw [10, 11, 12] (fun s10 s11 s12 wr => PRel w p E en ec ys sec s10 s11 s12 wr ∧ p < wr.heap.size) (fun _ s _ _ => en + 1 - lenV s)
        case atStart => exact ⟨⟨en + 1, 0, 0, 0, 0, 0, 0, [], none, none, [], rfl, rfl, rfl, rfl, Nat.zero_le _, by omega, Nat.le_refl _, Nat.le_refl _, HWR.out.1, PR.zero _ _ _ _, Rd.nil _ _, Nat.le_refl _, fun _ => rfl, (fun h => by cases h), by omega, HWR.out.2⟩, HSW.out⟩
        case round =>
          obtain ⟨⟨f, a, i, d, hn2, hc2, ev, es, L, H, vs, rfl, rfl, rfl, hpar, hae, haf, hia, hevi, hRd, hPR, hH, hHc, hHn, hHp, hH1, hB⟩, hpl⟩ := hrel
          have hcl : Cl wr p #[.slice E en ec, .int .i64 (a : Int), .bool false] 123 := hRd
          obtain ⟨c0, c1, c2, f0, f1, f2⟩ := hcl.c3
          have HPAR := Lib.hid hpar
          have HB := Lib.hid hB
          have HPR := Lib.hid hPR
          have HRD := Lib.hid hRd
          have HHR := Lib.hid hH
          clear hpar hB hPR hRd hcl hH
          by_cases hlt : a < en
          · obtain ⟨f', rfl⟩ : ∃ f', f = f' + 1 := ⟨f - 1, by omega⟩
            obtain ⟨ev2, hev2⟩ : ∃ ev2, ev2 = if (a : Int) = sec then i else ev := ⟨_, rfl⟩
            have hev2i : ev2 ≤ i := by rw [hev2]; split <;> omega
            have HEV2 := Lib.hid hev2
            have hil : es.length = i := HPR.out.2.2.2.1
            have HIL := Lib.hid hil
            clear hev2 hil
            go_upto_if 40 with (fail)
            go_cut [10] from 37 to 43 (fun s10 wx => s10 = .int .i64 (ev2 : Int) ∧ wx = wr)
            case first =>
              by_cases hs : (a : Int) = sec
              · have he : ev2 = i := by rw [HEV2.out, if_pos hs]
                have t1 : ((a : Int) == sec) = true := by simpa using hs
                subst he
                go_wp2_with fail
                go_meet
                case rel => exact ⟨rfl, rfl⟩
              · have he : ev2 = ev := by rw [HEV2.out, if_neg hs]
                have t1 : ((a : Int) == sec) = false := by simpa using hs
                subst he
                go_wp2_with fail
                go_meet
                case rel => exact ⟨rfl, rfl⟩
            case rest =>
              obtain ⟨rfl, hwc⟩ := hcut
              rw [hwc]
              clear hwc wc
              have HEN := Lib.hid (entry_any wr p E en ec ys H hn2 hc2 (lastK es) a HRD.out (HREw.out.below HB.out) HHR.out hae (by omega) hec hEn (by omega) hHc (HPE.out p hpge) hHp hHn)
              have hstep : parR ys sec (f' + 1) a es ev = if badR ys (lastK es) a then none else parR ys sec f' (e7R ys a).2.1 (es ++ [entR ys (lastK es) a]) ev2 := by
                rw [parR, if_neg (by rw [HYL.out]; omega), HEV2.out, HIL.out]
              have HST := Lib.hid hstep
              clear hstep
              go_wp2_with fail
              with_reducible refine HEN.out.mono ?_
              intro e w2 hq
              obtain ⟨r2, g2, hcase⟩ := hq
              rcases hcase with ⟨hbad, rfl⟩ | ⟨hbad, K, kn, kc, V, vn, vc, rfl, oK, oV, dj⟩
              · have hfin : parB xs = none := by
                  rw [HP.out, HYL.out, HPAR.out, HST.out, hbad]
                  rfl
                have hb2 : Below w.heap.size w w2 := HB.out.grown g2 HB.out.size (fun k hk => by injection hk with hk; omega)
                have HF := Lib.hid (And.intro hfin hb2)
                clear hbad r2 g2 hfin hb2
                go_wp2_with fail
                exact bodyPost_ret (v := .tuple #[.slice none 0 0, .int .i64 0, .bool false]) (by simp [results, Try.f48, go_sem]; try rfl) rfl (.inl ⟨HF.out.1, rfl, HF.out.2.alloc HF.out.2.size _⟩)
              · obtain ⟨x, hxe⟩ : ∃ x, x = entR ys (lastK es) a := ⟨_, rfl⟩
                rw [← hxe] at oK oV ⊢
                have hkl : x.key.length ≤ 1024 := by rw [hxe]; exact entR_key hbad
                have hwf : U64 x.seq ∧ x.kind < 256 := by
                  rw [hxe]
                  refine ⟨?_, ?_⟩
                  · have := (numR_le (xs := ys) (s := (e2R ys a).2) (e_le (by rw [HYL.out]; exact hae)).2.1).2
                    exact this
                  · exact UInt8.toNat_lt _
                have hpar2 : parR ys sec (en + 1) 0 [] 0 = parR ys sec f' (e7R ys a).2.1 (es ++ [x]) ev2 := by rw [HPAR.out, HST.out, hbad, hxe]; rfl
                have h7b := (badR_no hbad).1
                have h7l : (e7R ys a).2.1 ≤ en := by rw [← HYL.out]; exact (e_le (by rw [HYL.out]; exact hae)).2.2.2.2.2.2
                have h7m : a < (e7R ys a).2.1 := e7_more (by rw [HYL.out]; exact hae) h7b
                have hr2 : Rdr w2 p E en ec ((e7R ys a).2.1, false) := by
                  have := r2
                  unfold Rdr at this ⊢
                  rw [h7b] at this
                  exact this
                have s2 := g2.size
                have hb2 : Below w.heap.size w w2 := HB.out.grown g2 HB.out.size (fun k hk => by injection hk with hk; omega)
                have hPR2 := HPR.out.kept g2
                obtain ⟨U, hU⟩ : ∃ U, U = w2.alloc (.cells #[.slice K kn kc, .int .u64 (x.seq : Int), .int .u8 (x.kind : Int), .slice V vn vc] 33) := ⟨_, rfl⟩
                obtain ⟨g3, hg3⟩ : ∃ g3, g3 = w2.heap.size := ⟨_, rfl⟩
                have bU : Below w2.heap.size w2 U := by rw [hU]; exact (Below.refl _ _).alloc (Nat.le_refl _) _
                have kU : Cl U g3 #[.slice K kn kc, .int .u64 (x.seq : Int), .int .u8 (x.kind : Int), .slice V vn vc] 33 := by rw [hU, hg3]; exact Cl.new _ _ _
                have sU := bU.size
                have hPRU := hPR2.below bU
                have oKU := oK.below bU
                have oVU := oV.below bU
                have hRU : Rdr U p E en ec ((e7R ys a).2.1, false) := (show Cl w2 p _ _ from hr2).below bU
                have hBU : Below w.heap.size w U := hb2.trans (bU.mono (by have := HB.out.size; omega))
                have hcell : ∀ u ∈ [Value.slice K kn kc, .int .u64 (x.seq : Int), .int .u8 (x.kind : Int), .slice V vn vc], u.oneCell' = true := by
                  intro u hu
                  simp only [List.mem_cons, List.not_mem_nil, or_false] at hu
                  rcases hu with rfl | rfl | rfl | rfl <;> rfl
                have hwb : w.heap.size ≤ wr.heap.size := HB.out.size
                have hkcap := oK.cap
                have hknil : K = none → kc = 0 := fun h => by have := oK.nil_of (by rw [h]; rfl); exact this.2.2
                have hknl := oK.len
                obtain ⟨y0, y1, y2, y3, _⟩ := kU.c4
                have HU := Lib.hid hU
                have HG3 := Lib.hid hg3
                have HPU := Lib.hid hPRU
                have HO := Lib.hid (And.intro oKU (And.intro oVU dj))
                have HRU := Lib.hid (And.intro hRU hBU)
                have HKU := Lib.hid kU
                have HWF := Lib.hid hwf
                have HP2 := Lib.hid hpar2
                have HCE := Lib.hid hcell
                have HKN := Lib.hid hknil
                have HKL := Lib.hid hknl
                have hkn2 : kn ≤ 1024 := by omega
                have hkc2 : kn ≤ kc := hkcap.1
                have hUl : wr.heap.size ≤ U.heap.size := by omega
                have HX := Lib.hid hxe
                have HS2 := Lib.hid s2
                clear hxe hbad oK oV dj r2 g2 hr2 hb2 hPR2 bU kU hPRU oKU oVU hRU hBU hcell hU hwf hpar2 hknil hknl hkcap h7b hkl HEN HST c0 c1 c2 f0 f1 f2 s2 sU
                go_upto_if 49 with (fail)
                rw [← HU.out, ← HG3.out]
                clear hg3
                go_wp2_with (at_builtin; refine wpList_app4t U rfl _ _ 25 rfl w.heap.size _ 64 Try.underlying25 info_ent rfl L i d vs rfl HPU.out.1 _ _ _ _ HCE.out U.heap.size rfl rfl ?_ ?_ ?_ ?_)
                · omega
                · omega
                · omega
                intro L2 d2 w4 hG4 hg4 hb4
                have hPR4 := pr_add HPU.out HO.out.1 HO.out.2.1 HO.out.2.2 HWF.out hwb hpl hUl hG4 hg4 hb4
                have s4 := hg4.size
                have hLp : blk L ≠ some p := HPU.out.2.2.2.2.2.2.1
                have hLb : ∀ b, blk L = some b → b < wr.heap.size := HPU.out.2.2.2.2.2.2.2.2
                have hR4 : Rdr w4 p E en ec ((e7R ys a).2.1, false) := ClG.grown HRU.out.1 hg4 hLp
                have k4 : Cl w4 g3 #[.slice K kn kc, .int .u64 (x.seq : Int), .int .u8 (x.kind : Int), .slice V vn vc] 33 := ClG.grown HKU.out hg4 (fun e => by have := hLb g3 e; have := HG3.out; have := HS2.out; omega)
                have rK4 : Rd w4 K kn x.key := (HO.out.1.kept hg4 (fun b hb e => by have h1 := (HO.out.1.lt b hb).1; have h2 := hLb b e; omega)).rd
                have hB4 : Below w.heap.size w w4 := HRU.out.2.grown hg4 (by omega) (fun k hk => (HPU.out.1.lt k hk).1)
                have hKp : blk K ≠ some p := fun e => by have := (HO.out.1.lt p e).1; omega
                obtain ⟨z0, z1, z2, z3, _⟩ := k4.c4
                have HF := Lib.hid (And.intro hPR4 (And.intro hR4 (And.intro rK4 (And.intro hB4 hKp))))
                clear hPR4 hR4 k4 rK4 hB4 hKp hG4 hg4 hb4 y0 y1 y2 y3 hLp hLb
                go_wp2_with fail
                go_roundw
                case rel =>
                  refine ⟨⟨f', (e7R ys a).2.1, i + 1, d2, kn, kc, ev2, es ++ [x], L2, K, _, rfl, rfl, rfl, HP2.out, h7l, by omega, by omega, by omega, HF.out.2.1, HF.out.1, ?_, hkc2, HKN.out, HF.out.2.2.2.2, hkn2, HF.out.2.2.2.1⟩, by omega⟩
                  rw [lastK_snoc]
                  exact HF.out.2.2.1
                case measure => simp [lenV]; omega
          · obtain rfl : a = en := by omega
            have hil : es.length = i := HPR.out.2.2.2.1
            have hf : parR ys sec f a es ev = some (es, ev) := by
              obtain ⟨f', rfl⟩ : ∃ f', f = f' + 1 := ⟨f - 1, by omega⟩
              rw [parR, if_pos (by rw [HYL.out]; exact Nat.le_refl _)]
            have hpb : parB xs = some (es, if sec < 0 then max i 1 else ev) := by rw [HP.out, HYL.out, HPAR.out, hf]; simp only [hil]
            have hrow : RowE w w.heap.size L i d es wr := HPR.out.row HB.out HB.out.size
            have HPB := Lib.hid hpb
            have HROW := Lib.hid hrow
            have HIL := Lib.hid hil
            clear hil hf hpb hrow
            by_cases hs : sec < 0
            · obtain ⟨mx, hmx⟩ : ∃ mx, mx = max i 1 := ⟨_, rfl⟩
              have hb : parB xs = some (es, mx) := by rw [HPB.out, if_pos hs, hmx]
              have hmi : mx ≤ 16777216 := by omega
              have HBB := Lib.hid hb
              have HMX := Lib.hid hmx
              clear hb hmx
              by_cases hi1 : i < 1
              · obtain rfl : i = 0 := by omega
                have hm1 : mx = 1 := by have := HMX.out; omega
                subst hm1
                go_wp2_with fail
                refine bodyPost_ret (v := .tuple #[.slice L 0 d, .int .i64 1, .bool true]) (by simp [results, Try.f48, go_sem]; try rfl) rfl (.inr ⟨es, 1, L, d, HBB.out, by rw [HIL.out]; rfl, by rw [HIL.out]; exact HROW.out, by rw [HIL.out]; omega, hmi⟩)
              · have hm1 : mx = i := by have := HMX.out; omega
                subst hm1
                go_wp2_with fail
                refine bodyPost_ret (v := .tuple #[.slice L mx d, .int .i64 (mx : Int), .bool true]) (by simp [results, Try.f48, go_sem]; omega) rfl (.inr ⟨es, mx, L, d, HBB.out, by rw [HIL.out], by rw [HIL.out]; exact HROW.out, by rw [HIL.out]; omega, hmi⟩)
            · have hb : parB xs = some (es, ev) := by rw [HPB.out, if_neg hs]
              have HBB := Lib.hid hb
              clear hb
              go_wp2_with fail
              refine bodyPost_ret (v := .tuple #[.slice L i d, .int .i64 (ev : Int), .bool true]) (by simp [results, Try.f48, go_sem]; try rfl) rfl (.inr ⟨es, ev, L, d, HBB.out, by rw [HIL.out], by rw [HIL.out]; exact HROW.out, by rw [HIL.out]; omega, by omega⟩)
end Go.Proofs.Ytgigohfjioifaaa
namespace Go.Proofs.Ytgigohfjioifaaa
open Go Go.RowKit

/-- 'So far sorted.' -/
def Spk (w : World) (us : List Value) (es : List En) (L : Option Addr) (k d : Nat) (wr : World) : Prop :=
  ∃ vs, OwnE wr w.heap.size L k d vs ∧ EVs wr es vs ∧ es.length = k ∧ Below w.heap.size w wr ∧ ∀ u ∈ vs, u ∈ us
section
variable {w wr w' : World} {us : List Value} {es : List En} {L : Option Addr} {k d : Nat}
theorem Spk.zero (w : World) (us : List Value) : Spk w us [] none 0 0 w := ⟨[], OwnE.nil _ _, rfl, rfl, Below.refl _ _, fun u hu => by cases hu⟩
theorem Spk.below (h : Spk w us es L k d wr) (hb : Below wr.heap.size wr w') : Spk w us es L k d w' := by
  obtain ⟨vs, h1, h2, h3, h4, h5⟩ := h
  exact ⟨vs, h1.below hb, h2.below hb, h3, belowT' h4 hb, h5⟩
theorem Spk.bel (h : Spk w us es L k d wr) : Below w.heap.size w wr := by
  obtain ⟨vs, h1, h2, h3, h4, h5⟩ := h
  exact h4
theorem Spk.res (h : Spk w us es L k d wr) : REs wr L k es := by
  obtain ⟨vs, h1, h2, h3, h4, h5⟩ := h
  exact REs.mk h2 h1.rd h3
theorem Spk.cap (h : Spk w us es L k d wr) : k ≤ d := by
  obtain ⟨vs, h1, h2, h3, h4, h5⟩ := h
  exact h1.cap.1
theorem Spk.ret (h : Spk w us es L k d wr) : RetPick w es us (.returned (.slice L k d)) wr := by
  obtain ⟨vs, h1, h2, h3, h4, h5⟩ := h
  exact ⟨L, k, d, vs, rfl, h1, h2, h3, h4, h5⟩
end
set_option maxRecDepth 100000 in
set_option maxHeartbeats 8000000 in
theorem sorted_any {w : World} {A : Option Addr} {n c : Nat} {es : List En} {ovs : List Value} (hv : EVs w es ovs) (hd : RdV w A (n * 4) ovs) (hl : es.length = n) (hn : n ≤ 1099511627776) (hs : ∀ x ∈ es, SzE x) :
    Calls Try.prog 31 #[.slice A n c] w (RetPick w (srt [] es) ovs) := by
  have HV := Lib.hid hv
  have HD := Lib.hid hd
  have HL := Lib.hid hl
  have HS := Lib.hid hs
  clear hv hd hl hs
  go_enter Try.func31, Try.ntmps31
  go_wp2_with fail
  go_loopw [3, 4] (fun s3 s4 wr => ∃ (k m d : Nat) (L : Option Addr), k ≤ n ∧ s4 = .int .i64 (k : Int) ∧ s3 = .slice L m d ∧ Spk w ovs (srt [] (es.take k)) L m d wr) (fun _ s _ => n - (intOf s).toNat)
  case atStart => exact ⟨0, 0, 0, none, Nat.zero_le _, rfl, rfl, Spk.zero w ovs⟩
  case round =>
    obtain ⟨k, m, d, L, hk, rfl, rfl, hp⟩ := hrel
    have HP := Lib.hid hp
    have HB := Lib.hid hp.bel
    clear hp
    by_cases hlt : k < n
    · obtain ⟨b, off, hAb, hbl⟩ : ∃ b off, A = some ⟨b, off, none⟩ ∧ b < w.heap.size := HD.out.pos (by omega)
      obtain ⟨x, v0, v1, v2, v3, hx, c0, c1, c2, c3, hev, hmem⟩ := mem4 HV.out HD.out HL.out hAb hlt
      subst hAb
      have hsx := HS.out x (List.mem_of_getElem? hx)
      have HEV := Lib.hid hev
      have HMEM := Lib.hid hmem
      have HXK := Lib.hid hx
      obtain ⟨K, kn, kc, V, vn, vc, rfl, rfl, rfl, rfl, r0, _⟩ := hev.parts
      obtain ⟨o, ho⟩ : ∃ o, o = srt [] (es.take k) := ⟨_, rfl⟩
      rw [← ho] at HP
      have hol : o.length ≤ n := by
        have := (srt_len (es.take k) []).1
        rw [← ho, List.length_take] at this
        simp only [List.length_nil] at this
        omega
      have hom : o.length = m := HP.out.res.len
      have HSO : Hid (∀ y ∈ o, SzE y) := Lib.hid (fun y hy => by
        rw [ho] at hy
        rcases srt_mem y hy with q | q
        · cases q
        · exact HS.out y (List.mem_of_mem_take q))
      have HFT : Hid (srt [] (es.take (k + 1)) = if okE x && !inL o x then insL o x else o) := Lib.hid (by
        rw [List.take_add_one, HXK.out]
        simp only [Option.toList]
        rw [srt_snoc, ← ho])
      have hB := HB.out
      have d0 := (hB.cell (p := ⟨b, off + k * 4, none⟩) hbl).trans c0
      have d1 := (hB.cell (p := ⟨b, off + k * 4 + 1, none⟩) hbl).trans c1
      have d2 := (hB.cell (p := ⟨b, off + k * 4 + 2, none⟩) hbl).trans c2
      have d3 := (hB.cell (p := ⟨b, off + k * 4 + 3, none⟩) hbl).trans c3
      have HSX : Hid (∀ wx, Below wr.heap.size wr wx → wx.cell? ⟨b, off + k * 4, none⟩ = some (.slice K kn kc) ∧ wx.cell? ⟨b, off + k * 4 + 1, none⟩ = some (.int .u64 (x.seq : Int)) ∧ wx.cell? ⟨b, off + k * 4 + 2, none⟩ = some (.int .u8 (x.kind : Int)) ∧ wx.cell? ⟨b, off + k * 4 + 3, none⟩ = some (.slice V vn vc)) := Lib.hid (fun wx h => by
        have hb2 : b < wr.heap.size := Nat.lt_of_lt_of_le hbl hB.size
        exact ⟨(h.cell (p := ⟨b, off + k * 4, none⟩) hb2).trans d0, (h.cell (p := ⟨b, off + k * 4 + 1, none⟩) hb2).trans d1, (h.cell (p := ⟨b, off + k * 4 + 2, none⟩) hb2).trans d2, (h.cell (p := ⟨b, off + k * 4 + 3, none⟩) hb2).trans d3⟩)
      obtain ⟨zc, hzc⟩ : ∃ z, z = checkE [x] := ⟨_, rfl⟩
      obtain ⟨zi, hzi⟩ : ∃ z, z = inL o x := ⟨_, rfl⟩
      have HOK : Hid (okE x = decide (zc = 0)) := Lib.hid (by rw [hzc]; rfl)
      have HZI := Lib.hid hzi
      obtain ⟨W, hW⟩ : ∃ W, W = wr.alloc (.cells #[.slice K kn kc, .int .u64 (x.seq : Int), .int .u8 (x.kind : Int), .slice V vn vc] 33) := ⟨_, rfl⟩
      have bW : Below wr.heap.size wr W := by rw [hW]; exact (Below.refl _ _).alloc (Nat.le_refl _) _
      have BW := Lib.hid bW
      have HEVr := Lib.hid (HEV.out.below hB)
      have HC : Hid (Calls Try.prog 60 #[.slice (some ⟨wr.heap.size, 0, none⟩) 1 1] W (RetNu W zc)) := Lib.hid (by
        rw [hzc]
        refine refCheck_any (REs.mk (EVs.one (HEVr.out.below bW)) ?_ rfl) (by omega) (fun y hy => by simp only [List.mem_singleton] at hy; subst hy; exact hsx)
        rw [hW]
        exact rdv_of_cl (Cl.new wr #[.slice K kn kc, .int .u64 (x.seq : Int), .int .u8 (x.kind : Int), .slice V vn vc] 33))
      have HI : Hid (∀ wx, Below wr.heap.size wr wx → Calls Try.prog 62 #[.slice L m d, .agg #[.slice K kn kc, .int .u64 (x.seq : Int), .int .u8 (x.kind : Int), .slice V vn vc]] wx (RetT wx zi)) := Lib.hid (fun wx h => by
        rw [hzi]
        exact In_any (HP.out.res.below h) (by omega) HSO.out (HEVr.out.below h) hsx)
      clear hx c0 c1 c2 c3 hev hmem r0 hB ho hzc hzi bW
      go_upto_region 5 with (fail)
      go_cut [26] from 5 to 27 (fun s26 wx => s26 = .bool (okE x && !inL o x) ∧ Below wr.heap.size wr wx)
      case first =>
        by_cases t1 : zc = 0
        · have h1 : (zc == 0) = true := by simpa using t1
          have hok : okE x = true := by rw [HOK.out]; simpa using t1
          have HOKT := Lib.hid hok
          clear t1 hok
          go_wp2_with fail
          rw [← hW]
          with_reducible refine HC.out.mono ?_
          rintro e w1 ⟨rfl, b1⟩
          have b1' := belowT' BW.out b1
          obtain ⟨e0, e1, e2, e3⟩ := HSX.out _ b1'
          have B1 := Lib.hid b1'
          clear b1 b1' d0 d1 d2 d3
          go_wp2_with fail
          with_reducible refine (HI.out _ B1.out).mono ?_
          intro e w2 hq
          obtain ⟨hh, b2⟩ := RetT.outD hq
          subst hh
          have B2 := Lib.hid (belowT' B1.out b2)
          clear hq b2 e0 e1 e2 e3
          go_wp2_with fail
          go_meet
          exact ⟨by rw [HOKT.out, ← HZI.out]; rfl, B2.out⟩
        · have h1 : (zc == 0) = false := by simpa using t1
          have hok : okE x = false := by rw [HOK.out]; simpa using t1
          have HOKF := Lib.hid hok
          clear t1 hok
          go_wp2_with fail
          rw [← hW]
          with_reducible refine HC.out.mono ?_
          rintro e w1 ⟨rfl, b1⟩
          have b1' := belowT' BW.out b1
          have B1 := Lib.hid b1'
          clear b1 b1' d0 d1 d2 d3
          go_wp2_with fail
          go_meet
          exact ⟨by rw [HOKF.out]; rfl, B1.out⟩
      case rest =>
        obtain ⟨rfl, hbc⟩ := hcut
        obtain ⟨zz, hzz⟩ : ∃ zz, zz = (okE x && !inL o x) := ⟨_, rfl⟩
        rw [← hzz] at HFT ⊢
        have BC := Lib.hid hbc
        have HPC := Lib.hid (HP.out.below hbc)
        have HEC := Lib.hid (HEVr.out.below hbc)
        obtain ⟨e0, e1, e2, e3⟩ := HSX.out _ hbc
        clear hbc hzz d0 d1 d2 d3 hW
        cases zz with
        | true =>
          obtain ⟨vs, o1, hev1, hlen1, hb1, hm1⟩ := HPC.out
          have HM1 := Lib.hid hm1
          have HB1 := Lib.hid hb1
          have HI2 : Hid (Calls Try.prog 63 #[.slice L m d, .agg #[.slice K kn kc, .int .u64 (x.seq : Int), .int .u8 (x.kind : Int), .slice V vn vc]] wc (RetIns wc (m + 1) (insL o x) ([.slice K kn kc, .int .u64 (x.seq : Int), .int .u8 (x.kind : Int), .slice V vn vc] ++ vs))) := Lib.hid (Insert_any hev1 o1.rd hlen1 o1.cap.1 (by omega) HSO.out HEC.out hsx)
          clear o1 hev1 hlen1 hb1 hm1
          go_wp2_with fail
          with_reducible refine HI2.out.mono ?_
          intro e w3 hq
          obtain ⟨L3, d3', us, h1, o3, ev3, b3, hmem⟩ := RetIns.out hq
          subst h1
          have sC := HB1.out.size
          have HP2 : Hid (Spk w ovs (srt [] (es.take (k + 1))) L3 (m + 1) d3' w3) := Lib.hid (by
            rw [HFT.out, if_pos trivial]
            exact ⟨us, o3.mono sC, ev3, by rw [insL_len, hom], belowT' HB1.out b3, fun u hu => by
              rcases List.mem_append.1 (hmem u hu) with h | h
              · exact HMEM.out u h
              · exact HM1.out u h⟩)
          clear hq o3 ev3 b3 hmem e0 e1 e2 e3
          go_wp2_with fail
          go_roundw
          case rel => exact ⟨k + 1, m + 1, d3', L3, by omega, by go_num, rfl, HP2.out⟩
          case measure => simp [intOf]; omega
        | false =>
          have HP2 : Hid (Spk w ovs (srt [] (es.take (k + 1))) L m d wc) := Lib.hid (by
            rw [HFT.out, if_neg (by simp)]
            exact HPC.out)
          clear e0 e1 e2 e3
          go_wp2_with fail
          go_roundw
          case rel => exact ⟨k + 1, m, d, L, by omega, by go_num, rfl, HP2.out⟩
          case measure => simp [intOf]; omega
    · have htk := take_all HL.out hlt
      rw [htk] at HP
      clear htk
      go_wp2
      go_ret
      exact HP.out.ret
end Go.Proofs.Ytgigohfjioifaaa
namespace Go.Proofs.Ytgigohfjioifaaa
open Go Go.RowKit

theorem insAll_ref : ∀ (xs : List En) {t : Tr}, SortL t.list → (∀ t', insAll t xs = some t' → refIns t.list xs = some t'.list ∧ SortL t'.list) ∧ (insAll t xs = none → refIns t.list xs = none)
  | [], t, hs => by
    refine ⟨fun t' h => ?_, fun h => ?_⟩
    · injection h with h
      subst h
      exact ⟨rfl, hs⟩
    · cases h
  | x :: xs, t, hs => by
    unfold insAll refIns
    cases hw : withT x t with
    | none =>
      refine ⟨fun t' h => (by cases h), fun _ => ?_⟩
      rw [withT_none hw]
      rfl
    | some t1 =>
      obtain ⟨e1, e2, e3⟩ := withT_ins hs hw
      obtain ⟨h1, h2⟩ := insAll_ref xs e3
      rw [e2, ← e1]
      exact ⟨fun t' h => h1 t' h, fun h => h2 h⟩
theorem num_list : ∀ t : Tr, t.num = t.list.length
  | .nil => rfl
  | .node l e r => by
    rw [Tr.num, Tr.list, List.length_append, List.length_cons, num_list l, num_list r]
    omega
theorem sortL_nil : SortL Tr.nil.list := List.Pairwise.nil
end Go.Proofs.Ytgigohfjioifaaa
namespace Go.Proofs.Ytgigohfjioifaaa
open Go Go.RowKit

/-- The error of one list. -/
def chk1 (es : List En) : Int := if checkE es ≠ 0 then checkE es else if ordE es then 0 else 3
/-- The least of two errors. -/
def comb (a b : Int) : Int := if b ≠ 0 ∧ (a = 0 ∨ b < a) then b else a
/-- The least error of lists. -/
def chkL (ls : List (List En)) : Int := ls.foldl (fun a x => comb a (chk1 x)) 0
theorem checkE_kinds (es : List En) : checkE es = 0 ∨ checkE es = 2 ∨ checkE es = 3 := by
  unfold checkE
  split
  · exact .inr (.inl rfl)
  · split
    · exact .inl rfl
    · exact .inr (.inr rfl)
theorem chk1_kinds (es : List En) : chk1 es = 0 ∨ chk1 es = 2 ∨ chk1 es = 3 := by
  unfold chk1
  split
  · exact checkE_kinds es
  · split
    · exact .inl rfl
    · exact .inr (.inr rfl)
theorem comb_kinds {a b : Int} (ha : a = 0 ∨ a = 2 ∨ a = 3) (hb : b = 0 ∨ b = 2 ∨ b = 3) : comb a b = 0 ∨ comb a b = 2 ∨ comb a b = 3 := by
  unfold comb
  split
  · exact hb
  · exact ha
theorem comb_two {a : Int} (ha : a = 0 ∨ a = 2 ∨ a = 3) : comb a 2 = 2 := by
  rcases ha with rfl | rfl | rfl <;> rfl
theorem two_comb {b : Int} (hb : b = 0 ∨ b = 2 ∨ b = 3) : comb 2 b = 2 := by
  rcases hb with rfl | rfl | rfl <;> rfl
theorem foldl_two : ∀ ls : List (List En), ls.foldl (fun a x => comb a (chk1 x)) 2 = 2
  | [] => rfl
  | x :: t => by rw [List.foldl_cons, two_comb (chk1_kinds x)]; exact foldl_two t
theorem chkL_snoc {ls : List (List En)} {k : Nat} {x : List En} (h : ls[k]? = some x) : chkL (ls.take (k + 1)) = comb (chkL (ls.take k)) (chk1 x) := by
  unfold chkL
  rw [List.take_add_one, h, List.foldl_append]
  rfl
theorem foldl_kinds : ∀ (ls : List (List En)) {a : Int}, (a = 0 ∨ a = 2 ∨ a = 3) → (ls.foldl (fun a x => comb a (chk1 x)) a = 0 ∨ ls.foldl (fun a x => comb a (chk1 x)) a = 2 ∨ ls.foldl (fun a x => comb a (chk1 x)) a = 3)
  | [], _, h => h
  | x :: t, _, h => by rw [List.foldl_cons]; exact foldl_kinds t (comb_kinds h (chk1_kinds x))
theorem chkL_kinds (ls : List (List En)) : chkL ls = 0 ∨ chkL ls = 2 ∨ chkL ls = 3 := foldl_kinds ls (.inl rfl)
theorem chkL_two {ls : List (List En)} {k : Nat} {x : List En} (h : ls[k]? = some x) (hx : chk1 x = 2) : chkL ls = 2 := by
  have e : ls = ls.take (k + 1) ++ ls.drop (k + 1) := (List.take_append_drop _ _).symm
  have h2 : chkL (ls.take (k + 1)) = 2 := by rw [chkL_snoc h, hx]; exact comb_two (chkL_kinds _)
  have h3 : chkL ls = (ls.drop (k + 1)).foldl (fun a x => comb a (chk1 x)) (chkL (ls.take (k + 1))) := by
    unfold chkL
    rw [← List.foldl_append, List.take_append_drop]
  rw [h3, h2]
  exact foldl_two _
theorem chkL_one (es : List En) : chkL [es] = chk1 es := by
  show comb 0 (chk1 es) = chk1 es
  rcases chk1_kinds es with h | h | h <;> rw [h] <;> rfl
theorem RLs.below {w w' : World} {A : Option Addr} {n : Nat} {ls : List (List En)} (h : RLs w A n ls) (hb : Below w.heap.size w w') : RLs w' A n ls := by
  refine ⟨h.1, fun h0 => ?_⟩
  obtain ⟨b, off, e, hbl, hc⟩ := h.2 h0
  refine ⟨b, off, e, Nat.lt_of_lt_of_le hbl hb.size, fun i es hi => ?_⟩
  obtain ⟨B, m, c, h1, h2, h3⟩ := hc i es hi
  exact ⟨B, m, c, (hb.cell (p := ⟨b, off + i, none⟩) hbl).trans h1, h2.below hb, h3⟩
theorem RLs.len {w : World} {A : Option Addr} {n : Nat} {ls : List (List En)} (h : RLs w A n ls) : ls.length = n := h.1
section
variable {w : World} {A : Option Addr} {n c : Nat} {ls : List (List En)}
set_option maxRecDepth 100000 in
set_option maxHeartbeats 8000000 in
theorem mgCheck_any (h : RLs w A n ls) (hn : n ≤ 1099511627776) (hs : ∀ es ∈ ls, es.length ≤ 1099511627776) : Calls Try.prog 57 #[.slice A n c] w (RetNu w (chkL ls)) := by
  have HL := Lib.hid h.len
  have HS := Lib.hid hs
  have HR := Lib.hid h
  clear h hs
  go_enter Try.func57, Try.ntmps57
  go_wp2_with fail
  go_loopw [3, 9] (fun s3 s9 wr => ∃ (k : Nat) (z : Int), k ≤ n ∧ s9 = .int .i64 (k : Int) ∧ s3 = .int .i64 z ∧ (z = 0 ∨ z = 3) ∧ chkL (ls.take k) = z ∧ Below w.heap.size w wr) (fun _ s _ => n - (intOf s).toNat)
  case atStart => exact ⟨0, 0, Nat.zero_le _, rfl, rfl, .inl rfl, rfl, Below.refl _ _⟩
  case round =>
    obtain ⟨k, z, hk, rfl, rfl, hz, hc, hB⟩ := hrel
    have HB := Lib.hid hB
    have HC := Lib.hid hc
    have HZ := Lib.hid hz
    have hR := HR.out.below hB
    clear hB hc hz
    by_cases hlt : k < n
    · obtain ⟨b, off, hAb, hbl⟩ := hR.pos (by omega)
      subst hAb
      obtain ⟨es, B, m, d, hx, c0, hre, hmd⟩ := hR.at_ k hlt
      have hme : m ≤ 1099511627776 := by have := HS.out es (List.mem_of_getElem? hx); rw [← hre.len]; exact this
      have HXK := Lib.hid hx
      obtain ⟨e1, he1⟩ : ∃ e1, e1 = checkE es := ⟨_, rfl⟩
      have HM : Hid (Calls Try.prog 74 #[.slice B m d] wr (RetNu wr e1)) := Lib.hid (by rw [he1]; exact memCheck_any hre hme)
      obtain ⟨z1, hz1⟩ : ∃ z1, z1 = ordE es := ⟨_, rfl⟩
      have HO : Hid (∀ wx, Below wr.heap.size wr wx → Calls Try.prog 94 #[.slice B m d] wx (RetT wx z1)) := Lib.hid (fun wx hb => by rw [hz1]; exact mgInOrder_any (hre.below hb) hme)
      have hk1 := checkE_kinds es
      rw [← he1] at hk1
      have HST := Lib.hid (chkL_snoc hx)
      have H1 : Hid (chk1 es = if e1 ≠ 0 then e1 else if z1 then 0 else 3) := Lib.hid (by unfold chk1; rw [he1, hz1])
      have HTW := Lib.hid (fun hh => chkL_two hx hh)
      clear hR hx hre he1 hz1
      go_wp2_with fail
      with_reducible refine HM.out.mono ?_
      rintro e w1 ⟨rfl, b1⟩
      have B1 := Lib.hid (HB.out.trans (b1.mono HB.out.size))
      have H1B := Lib.hid b1
      clear b1
      rcases hk1 with rfl | rfl | rfl
      · have HOC := Lib.hid (HO.out _ H1B.out)
        cases z1 with
        | true =>
          have HC2 : Hid (chkL (ls.take (k + 1)) = z) := Lib.hid (by rw [HST.out, HC.out, H1.out]; rcases HZ.out with rfl | rfl <;> rfl)
          go_wp2_with fail
          with_reducible refine HOC.out.mono ?_
          intro e w2 hq
          obtain ⟨h2, b2⟩ := RetT.outD hq
          subst h2
          have B2 := Lib.hid (belowT' B1.out b2)
          clear hq b2
          go_wp2_with fail
          go_roundw
          case rel => exact ⟨k + 1, z, by omega, by go_num, rfl, HZ.out, HC2.out, B2.out⟩
          case measure => simp [intOf]; omega
        | false =>
          have HC2 : Hid (chkL (ls.take (k + 1)) = 3) := Lib.hid (by rw [HST.out, HC.out, H1.out]; rcases HZ.out with rfl | rfl <;> rfl)
          go_wp2_with fail
          with_reducible refine HOC.out.mono ?_
          intro e w2 hq
          obtain ⟨h2, b2⟩ := RetT.outD hq
          subst h2
          have B2 := Lib.hid (belowT' B1.out b2)
          clear hq b2
          go_wp2_with fail
          go_roundw
          case rel => exact ⟨k + 1, 3, by omega, by go_num, rfl, .inr rfl, HC2.out, B2.out⟩
          case measure => simp [intOf]; omega
      · have HF : Hid (chkL ls = 2) := Lib.hid (HTW.out (by rw [H1.out]; rfl))
        go_wp2_with fail
        go_ret
        exact ⟨by rw [HF.out]; rfl, B1.out⟩
      · have HC2 : Hid (chkL (ls.take (k + 1)) = 3) := Lib.hid (by rw [HST.out, HC.out, H1.out]; rcases HZ.out with rfl | rfl <;> rfl)
        go_wp2_with fail
        go_roundw
        case rel => exact ⟨k + 1, 3, by omega, by go_num, rfl, .inr rfl, HC2.out, B1.out⟩
        case measure => simp [intOf]; omega
    · have htk : ls.take k = ls := List.take_of_length_le (by have := HL.out; omega)
      rw [htk] at HC
      clear htk hR
      go_wp2_with fail
      go_ret
      exact ⟨by rw [HC.out]; rfl, HB.out⟩
set_option maxRecDepth 100000 in
set_option maxHeartbeats 8000000 in
theorem refCheck11_any (h : RLs w A n ls) (hn : n ≤ 1099511627776) (hs : ∀ es ∈ ls, es.length ≤ 1099511627776) (hz : ∀ es ∈ ls, ∀ x ∈ es, SzE x) : Calls Try.prog 23 #[.slice A n c] w (RetNu w (chkL ls)) := by
  have HL := Lib.hid h.len
  have HS := Lib.hid hs
  have HR := Lib.hid h
  have HZZ := Lib.hid hz
  clear h hs hz
  go_enter Try.func23, Try.ntmps23
  go_wp2_with fail
  go_loopw [3, 4] (fun s3 s4 wr => ∃ (k : Nat) (z : Int), k ≤ n ∧ s4 = .int .i64 (k : Int) ∧ s3 = .int .i64 z ∧ chkL (ls.take k) = z ∧ Below w.heap.size w wr) (fun _ s _ => n - (intOf s).toNat)
  case atStart => exact ⟨0, 0, Nat.zero_le _, rfl, rfl, rfl, Below.refl _ _⟩
  case round =>
    obtain ⟨k, z, hk, rfl, rfl, hc, hB⟩ := hrel
    have HB := Lib.hid hB
    have hz := chkL_kinds (ls.take k)
    rw [hc] at hz
    have HC := Lib.hid hc
    have hR := HR.out.below hB
    clear hB hc
    by_cases hlt : k < n
    · obtain ⟨b, off, hAb, hbl⟩ := hR.pos (by omega)
      subst hAb
      obtain ⟨es, B, m, d, hx, c0, hre, hmd⟩ := hR.at_ k hlt
      have hme : m ≤ 1099511627776 := by have := HS.out es (List.mem_of_getElem? hx); rw [← hre.len]; exact this
      have HXK := Lib.hid hx
      obtain ⟨e1, he1⟩ : ∃ e1, e1 = checkE es := ⟨_, rfl⟩
      have HM : Hid (Calls Try.prog 60 #[.slice B m d] wr (RetNu wr e1)) := Lib.hid (by rw [he1]; exact refCheck_any hre hme (HZZ.out es (List.mem_of_getElem? hx)))
      obtain ⟨z1, hz1⟩ : ∃ z1, z1 = ordE es := ⟨_, rfl⟩
      have HO : Hid (∀ wx, Below wr.heap.size wr wx → Calls Try.prog 61 #[.slice B m d] wx (RetT wx z1)) := Lib.hid (fun wx hb => by rw [hz1]; exact ordered_any (hre.below hb) hme (HZZ.out es (List.mem_of_getElem? hx)))
      have HC0 : Hid (∀ wx, Below wr.heap.size wr wx → wx.cell? ⟨b, off + k, none⟩ = some (.slice B m d)) := Lib.hid (fun wx hb => (hb.cell (p := ⟨b, off + k, none⟩) hbl).trans c0)
      have hk1 := checkE_kinds es
      rw [← he1] at hk1
      have HST := Lib.hid (chkL_snoc hx)
      have H1 : Hid (chk1 es = if e1 ≠ 0 then e1 else if z1 then 0 else 3) := Lib.hid (by unfold chk1; rw [he1, hz1])
      clear hR hx hre he1 hz1
      go_wp2_with fail
      with_reducible refine HM.out.mono ?_
      rintro e w1 ⟨rfl, b1⟩
      have B1 := Lib.hid (HB.out.trans (b1.mono HB.out.size))
      have H1B := Lib.hid b1
      have d0 := HC0.out _ b1
      clear b1 c0
      rcases hk1 with rfl | rfl | rfl
      · have HOC := Lib.hid (HO.out _ H1B.out)
        cases z1 with
        | true =>
          have HC2 : Hid (chkL (ls.take (k + 1)) = z) := Lib.hid (by rw [HST.out, HC.out, H1.out]; rcases hz with rfl | rfl | rfl <;> rfl)
          go_wp2_with fail
          with_reducible refine HOC.out.mono ?_
          intro e w2 hq
          obtain ⟨h2, b2⟩ := RetT.outD hq
          subst h2
          have B2 := Lib.hid (belowT' B1.out b2)
          clear hq b2 d0
          go_wp2_with fail
          go_roundw
          case rel => exact ⟨k + 1, z, by omega, by go_num, rfl, HC2.out, B2.out⟩
          case measure => simp [intOf]; omega
        | false =>
          go_wp2_with fail
          with_reducible refine HOC.out.mono ?_
          intro e w2 hq
          obtain ⟨h2, b2⟩ := RetT.outD hq
          subst h2
          have B2 := Lib.hid (belowT' B1.out b2)
          clear hq b2 d0
          have HC2 := HST.out
          rw [HC.out, H1.out] at HC2
          have HC3 := Lib.hid HC2
          clear HC2
          rcases hz with rfl | rfl | rfl
          all_goals
            go_wp2_with fail
            go_roundw
            case rel => exact ⟨k + 1, _, by omega, by go_num, rfl, HC3.out, B2.out⟩
            case measure => simp [intOf]; omega
      all_goals
        have HC2 := HST.out
        rw [HC.out, H1.out] at HC2
        have HC3 := Lib.hid HC2
        clear HC2 d0
        rcases hz with rfl | rfl | rfl
        all_goals
          go_wp2_with fail
          go_roundw
          case rel => exact ⟨k + 1, _, by omega, by go_num, rfl, HC3.out, B1.out⟩
          case measure => simp [intOf]; omega
    · have htk : ls.take k = ls := List.take_of_length_le (by have := HL.out; omega)
      rw [htk] at HC
      clear htk hR
      go_wp2_with fail
      go_ret
      exact ⟨by rw [HC.out]; rfl, HB.out⟩
end
end Go.Proofs.Ytgigohfjioifaaa
namespace Go.Proofs.Ytgigohfjioifaaa
open Go Go.RowKit

/-- The first entry of a tree that doesn't stand ahead of x; else f. -/
def firstT (x : En) : Tr → Option En → Option En
  | .nil, f => f
  | .node l e r, f => if lessE e x then firstT x r f else firstT x l (some e)
/-- 'The pointer F leads to this entry; or it is nil, and there is none.' -/
def FP (G : Nat → Prop) (w : World) : Option En → Option Addr → Prop
  | none, F => F = none
  | some e, F => ∃ p, F = some ⟨p, 0, none⟩ ∧ EB G w e p
theorem FP.below {G : Nat → Prop} {w w' : World} (hb : Below w.heap.size w w') : ∀ {o : Option En} {F : Option Addr}, FP G w o F → FP G w' o F
  | none, _, h => h
  | some _, _, ⟨p, h1, h2⟩ => ⟨p, h1, h2.below hb⟩
def RetFst (G : Nat → Prop) (w : World) (o : Option En) (e : Ending) (w' : World) : Prop := ∃ F, e = .returned (.pointer F) ∧ FP G w' o F ∧ Below w.heap.size w w'
theorem RetFst.out {G : Nat → Prop} {w : World} {o : Option En} {e : Ending} {w' : World} (h : RetFst G w o e w') : ∃ F, e = .returned (.pointer F) ∧ FP G w' o F ∧ Below w.heap.size w w' := h
set_option maxRecDepth 100000 in
set_option maxHeartbeats 8000000 in
theorem first_any {G : Nat → Prop} {w : World} {t : Tr} {A0 : Option Addr} {x : En} {v0 v1 v2 v3 : Value} (h : TrAt G w t A0) (hx : EV w x v0 v1 v2 v3) :
    Calls Try.prog 81 #[.pointer A0, .agg #[v0, v1, v2, v3]] w (RetFst G w (firstT x t none)) := by
  obtain ⟨K, kn, kc, V, vn, vc, rfl, rfl, rfl, rfl, _⟩ := hx.parts
  obtain ⟨U, hU⟩ : ∃ U, U = w.alloc (.cells #[.slice K kn kc, .int .u64 (x.seq : Int), .int .u8 (x.kind : Int), .slice V vn vc] 33) := ⟨_, rfl⟩
  have bU : Below w.heap.size w U := by rw [hU]; exact (Below.refl _ _).alloc (Nat.le_refl _) _
  have XU := Lib.hid (show Cl U w.heap.size #[.slice K kn kc, .int .u64 (x.seq : Int), .int .u8 (x.kind : Int), .slice V vn vc] 33 by rw [hU]; exact Cl.new _ _ _)
  have HX := Lib.hid (hx.below bU)
  have HT := Lib.hid (h.below bU)
  have BU := Lib.hid bU
  obtain ⟨o, ho⟩ : ∃ o, o = firstT x t none := ⟨_, rfl⟩
  rw [← ho]
  have HO := Lib.hid ho
  clear h hx bU ho
  go_enter Try.func81, Try.ntmps81
  go_upto_block 1 with fail
  rw [← hU]
  clear hU
  go_wp2_with fail
  go_loopg [0, 5] t.num (fun gk s0 s5 wr => ∃ (tk : Tr) (A : Option Addr) (f : Option En) (F : Option Addr), tk.num = gk ∧ s0 = .pointer A ∧ s5 = .pointer F ∧ TrAt G wr tk A ∧ FP G wr f F ∧ firstT x tk f = o ∧ Below U.heap.size U wr)
  case atStart => exact ⟨t, A0, none, none, rfl, rfl, rfl, HT.out, rfl, HO.out.symm, Below.refl _ _⟩
  case round =>
    obtain ⟨tk, A, f, F, hnum, rfl, rfl, htk, hfp, hfo, hB⟩ := hrel
    cases tk with
    | nil =>
      have hA : A = none := htk
      subst hA
      have hfo' : f = o := hfo
      subst hfo'
      have HF := Lib.hid hfp
      have HB := Lib.hid (belowT BU.out hB)
      clear htk hfp hfo hB hnum
      go_wp2
      go_ret
      exact ⟨F, rfl, HF.out, HB.out⟩
    | node l e r =>
      obtain ⟨b, rfl⟩ := htk.ptr
      obtain ⟨pe, pl, pr, n0, n1, n2, nlt, he, hl, hr⟩ := htk.cells
      obtain ⟨z0, z1, z2, z3, cz, ez⟩ := he
      have HXW := Lib.hid (HX.out.below hB)
      have HXC := Lib.hid (XU.out.below hB)
      have HSX : Hid (∀ wx, Below wr.heap.size wr wx → wx.cell? ⟨b, 0, none⟩ = some (.pointer (some ⟨pe, 0, none⟩)) ∧ wx.cell? ⟨b, 1, none⟩ = some (.pointer pl) ∧ wx.cell? ⟨b, 2, none⟩ = some (.pointer pr) ∧ wx.cell? ⟨w.heap.size, 0, none⟩ = some (.slice K kn kc) ∧ wx.cell? ⟨w.heap.size, 1, none⟩ = some (.int .u64 (x.seq : Int)) ∧ wx.cell? ⟨w.heap.size, 2, none⟩ = some (.int .u8 (x.kind : Int)) ∧ wx.cell? ⟨w.heap.size, 3, none⟩ = some (.slice V vn vc) ∧ wx.cell? ⟨pe, 0, none⟩ = some z0 ∧ wx.cell? ⟨pe, 1, none⟩ = some z1 ∧ wx.cell? ⟨pe, 2, none⟩ = some z2 ∧ wx.cell? ⟨pe, 3, none⟩ = some z3) := Lib.hid (fun wx h => by
        obtain ⟨c0, c1, c2, c3, _⟩ := (HXC.out.below h).c4
        obtain ⟨d0, d1, d2, d3, _⟩ := (cz.below h).c4
        exact ⟨(h.cell (p := ⟨b, 0, none⟩) nlt).trans n0, (h.cell (p := ⟨b, 1, none⟩) nlt).trans n1, (h.cell (p := ⟨b, 2, none⟩) nlt).trans n2, c0, c1, c2, c3, d0, d1, d2, d3⟩)
      have HL : Hid (∀ wx, Below wr.heap.size wr wx → Calls Try.prog 55 #[.agg #[z0, z1, z2, z3], .agg #[.slice K kn kc, .int .u64 (x.seq : Int), .int .u8 (x.kind : Int), .slice V vn vc]] wx (RetT wx (lessE e x))) := Lib.hid (fun wx h => memLess_any (ez.1.ev.below h) (HXW.out.below h))
      have HE : Hid (EB G wr e pe) := Lib.hid ⟨z0, z1, z2, z3, cz, ez⟩
      have HTL := Lib.hid hl
      have HTR := Lib.hid hr
      have HFP := Lib.hid hfp
      have HBB := Lib.hid hB
      obtain ⟨LE, hLE⟩ : ∃ LE, LE = lessE e x := ⟨_, rfl⟩
      rw [← hLE] at HL
      have HW : Hid (o = if LE = true then firstT x r f else firstT x l (some e)) := Lib.hid (by rw [hLE, ← hfo]; rfl)
      have hnn : l.num + 1 + r.num = gk := hnum
      have hB0 : Below wr.heap.size wr wr.drew := (Below.refl _ _).drew
      clear htk hfp hfo hB hnum cz ez hl hr n0 n1 n2 hLE HXW HXC
      go_upto_region 3 with (fail)
      go_cut [15] from 6 to 27 (fun s15 wx => s15 = .bool LE ∧ Below wr.heap.size wr wx)
      case first =>
        go_region_held3 (fun wx => wx.cell? ⟨b, 0, none⟩ = some (.pointer (some ⟨pe, 0, none⟩)) ∧ wx.cell? ⟨b, 1, none⟩ = some (.pointer pl) ∧ wx.cell? ⟨b, 2, none⟩ = some (.pointer pr) ∧ wx.cell? ⟨w.heap.size, 0, none⟩ = some (.slice K kn kc) ∧ wx.cell? ⟨w.heap.size, 1, none⟩ = some (.int .u64 (x.seq : Int)) ∧ wx.cell? ⟨w.heap.size, 2, none⟩ = some (.int .u8 (x.kind : Int)) ∧ wx.cell? ⟨w.heap.size, 3, none⟩ = some (.slice V vn vc) ∧ wx.cell? ⟨pe, 0, none⟩ = some z0 ∧ wx.cell? ⟨pe, 1, none⟩ = some z1 ∧ wx.cell? ⟨pe, 2, none⟩ = some z2 ∧ wx.cell? ⟨pe, 3, none⟩ = some z3) (first | assumption | exact HSX.out _ hB0)
          (first | (go_at_call 55; with_reducible refine (HL.out _ hB0).mono ?_; intro e1 w5 hq; obtain ⟨h1, b5⟩ := RetT.out hq; subst h1; have b5' := belowT hB0 b5; have hS5 := HSX.out _ b5'))
        all_goals
          have HB5 := Lib.hid b5'
          clear hS5 b5 b5'
          go_wp2_with fail
          go_meet
          exact ⟨rfl, HB5.out⟩
      case rest =>
        obtain ⟨rfl, hbc⟩ := hcut
        obtain ⟨n0, n1, n2, c0, c1, c2, c3, d0, d1, d2, d3⟩ := HSX.out _ hbc
        have BC := Lib.hid hbc
        clear hbc c0 c1 c2 c3 d0 d1 d2 d3
        cases LE with
        | true =>
          go_wp2_with fail
          go_roundg r.num
          case measure => omega
          case rel => exact ⟨r, pr, f, F, rfl, rfl, rfl, HTR.out.below BC.out, HFP.out.below BC.out, by rw [HW.out]; rfl, belowT HBB.out BC.out⟩
        | false =>
          go_wp2_with fail
          go_quiet (fail)
          have BN := Lib.hid (below_drewN BC.out nq)
          clear n0 n1 n2
          go_wp2
          go_roundg l.num
          case measure => omega
          case rel => exact ⟨l, pl, some e, _, rfl, rfl, rfl, HTL.out.below BN.out, ⟨pe, rfl, HE.out.below BN.out⟩, by rw [HW.out]; rfl, belowT HBB.out BN.out⟩
end Go.Proofs.Ytgigohfjioifaaa
namespace Go.Proofs.Ytgigohfjioifaaa
open Go Go.RowKit

def bsB (xs : List UInt8) : ByteArray := ⟨⟨xs⟩⟩
theorem conv_rd {w : World} {n c : Nat} {A : Option Addr} {xs : List UInt8} (h : Rd w A n xs) (hn : 0 < n) : (convert 22 9 (.slice A n c)).run Try.prog w = .ok (.string (bsB xs)) w := by
  obtain ⟨b, off, rfl, _⟩ := h.pos hn
  rw [run_convert_bytes_arg w 22 5 Try.underlying22 Try.underlying5 b off n c (xs.map fun x => (x.toNat : Int)) (by simpa using h.len) ?_ 9 Try.underlying9]
  · congr 2
    unfold strOfNums bsB
    congr 2
    rw [List.map_map]
    conv => rhs; rw [← List.map_id xs]
    apply List.map_congr_left
    intro x _
    simp
  · intro i hi
    obtain ⟨x, hx, hc, _⟩ := h.at_ i hi
    rw [hc]
    simp [List.getD, List.getElem?_map, hx]
set_option maxRecDepth 100000 in
theorem bytesEqual_any (A B : Option Addr) (n m c d : Nat) (xs ys : List UInt8) (w : World) (hx : Rd w A n xs) (hy : Rd w B m ys) (hn : 0 < n) (hm : 0 < m) :
    Calls Try.prog 49 #[.slice A n c, .slice B m d] w (fun e w' => e = .returned (.bool (eqB xs ys)) ∧ w' = w) := by
  have k1 := conv_rd (c := c) hx hn
  have k2 := conv_rd (c := d) hy hm
  have hb : ((bsB xs).toList == (bsB ys).toList) = eqB xs ys := by rw [ByteArray.toList_eq, ByteArray.toList_eq]; rfl
  have HB := Lib.hid hb
  clear hb
  go_enter Try.func49, Try.ntmps49
  go_wp2_with fail
  go_ret
  exact ⟨by rw [← HB.out]; rfl, rfl⟩
theorem build8_zero {w : World} {A : Option Addr} {n c : Nat} : Calls Try.prog 42 #[.int .i64 0, .slice A n c] w (RetBb w ([], 1)) := by
  go_enter Try.func42, Try.ntmps42
  go_wp2_with fail
  exact bodyPost_ret (v := .tuple #[.slice none 0 0, .int .i64 1]) (by simp [results, Try.f42, go_sem]; try rfl) rfl (RetBb.no rfl (Below.refl _ _))
/-- What Build answers. -/
def buildZ (ev : Nat) (es : List En) : List UInt8 × Int := if ev = 0 then ([], 1) else buildE ev es
theorem buildZ_any {w : World} {A : Option Addr} {n c : Nat} {es : List En} (h : REs w A n es) (hn : n ≤ 16777216) (ev : Nat) (he2 : ev ≤ 9223372036854775807) :
    Calls Try.prog 42 #[.int .i64 (ev : Int), .slice A n c] w (RetBb w (buildZ ev es)) := by
  unfold buildZ
  split
  · rename_i e
    subst e
    exact build8_zero
  · exact build8_any h hn ev (by omega) he2
theorem sealB_pos (xs : List UInt8) : 8 ≤ (sealB xs).length := by rw [sealB_len]; omega
theorem buildZ_ok {ev : Nat} {es : List En} (h : (buildZ ev es).2 = 0) : 8 ≤ (buildZ ev es).1.length := by
  unfold buildZ at h ⊢
  split at h
  · cases h
  · rename_i e
    rw [if_neg e]
    rcases buildE_cases ev es with ⟨F, hF, _⟩ | ⟨k, hk, hk2⟩
    · rw [hF]; exact sealB_pos F
    · rw [hk] at h
      simp only at h
      omega
/-- What Decode makes of a record that doesn't open. -/
theorem decode_shutM (A : Option Addr) (n c : Nat) (xs : List UInt8) (w : World) (h : Rd w A n xs) (hn : n ≤ 1099511627776) (hc : n ≤ c) (hnil : A = none → c = 0) (k : Int) (hk : openG xs ((0 : Nat) : Int) = ([], 0, k)) (hk0 : k ≠ 0) :
    Calls Try.prog 12 #[.slice A n c] w (fun e w' => e = .returned (.tuple #[.slice none 0 0, .int .i64 k]) ∧ Below w.heap.size w w') := by
  have hO := Open_any A n c ((0 : Nat) : Int) xs w h hn hc hnil (by unfold I64; omega)
  rw [hk] at hO
  have HO := Lib.hid hO
  have t1 : (k == 0) = false := by simp [hk0]
  clear hO hk h
  go_enter Try.func12, Try.ntmps12
  go_wp2_with fail
  refine HO.out.mono ?_
  rintro e w8 ⟨O, on, oc, rfl, oo, hb8⟩
  clear HO oo
  go_wp2_with fail
  exact bodyPost_ret (v := .tuple #[.slice none 0 0, .int .i64 k]) (by simp [results, Try.f12, go_sem]; try rfl) rfl ⟨rfl, hb8⟩
theorem openG_in (xs : List UInt8) (z : Int) : (openG xs z).1.length ≤ 1048576 ∧ ((openG xs z).2.2 ≠ 0 → (openG xs z).1 = [] ∧ (openG xs z).2.1 = 0) ∧ ((openG xs z).2.2 = 0 → 8 ≤ xs.length) := by
  unfold openG
  split
  · simp
  · split
    · simp
    · split
      · simp
      · split
        · simp
        · split
          · refine ⟨?_, fun h => absurd rfl h, fun _ => by omega⟩
            simp only [List.length_drop, List.length_take]
            omega
          · simp
/-- What Decode makes of what was read. -/
def decP (xs : List UInt8) : Option (List En × Nat) → List En × Int
  | none => ([], 3)
  | some (es, ev) => if (buildZ ev es).2 = 0 ∧ (buildZ ev es).1 = xs then (es, 0) else ([], 3)
/-- What Decode answers. -/
def decB (xs : List UInt8) : List En × Int :=
  match openG xs ((0 : Nat) : Int) with
  | (inside, _, k) => if k ≠ 0 then ([], k) else decP xs (parB inside)
def RetDc8 (w : World) (r : List En × Int) (e : Ending) (w' : World) : Prop :=
  (r.1 = [] ∧ r.2 ≠ 0 ∧ e = .returned (.tuple #[.slice none 0 0, .int .i64 r.2]) ∧ Below w.heap.size w w') ∨
  (r.2 = 0 ∧ r.1.length ≤ 16777216 ∧ ∃ L d, e = .returned (.tuple #[.slice L r.1.length d, .int .i64 0]) ∧ RowE w w.heap.size L r.1.length d r.1 w')
set_option maxRecDepth 100000 in
set_option maxHeartbeats 8000000 in
theorem decode_any (A : Option Addr) (n c : Nat) (xs : List UInt8) (w : World) (h : Rd w A n xs) (hn : n ≤ 1099511627776) (hc : n ≤ c) (hnil : A = none → c = 0) :
    Calls Try.prog 12 #[.slice A n c] w (RetDc8 w (decB xs)) := by
  rcases hog : openG xs ((0 : Nat) : Int) with ⟨ins, nx, k⟩
  have hin := openG_in xs ((0 : Nat) : Int)
  rw [hog] at hin
  obtain ⟨hil, hno, hx8⟩ := hin
  have hil : ins.length ≤ 1048576 := hil
  by_cases hk : k = 0
  · have hO := Open_any A n c ((0 : Nat) : Int) xs w h hn hc hnil (by unfold I64; omega)
    rw [hog] at hO
    subst hk
    have hx8 : 8 ≤ n := by have := hx8 rfl; have := h.len; omega
    have HO := Lib.hid hO
    have HX := Lib.hid h
    obtain ⟨pr, hpr⟩ : ∃ pr, pr = parB ins := ⟨_, rfl⟩
    have hdec : decB xs = decP xs pr := by
      unfold decB
      rw [hog]
      simp only
      rw [if_neg (by simp), ← hpr]
    have HD := Lib.hid hdec
    have HPR := Lib.hid hpr
    clear hO h hno hog hdec hpr
    go_enter Try.func12, Try.ntmps12
    go_wp2_with fail
    refine HO.out.mono ?_
    rintro e w1 ⟨I, im, ic, rfl, oI, b1⟩
    have hI0 : ins.length = im := oI.len
    have hIn : I = none → ic = 0 := fun hh => by have := oI.nil_of (by rw [hh]; rfl); exact this.2.2
    have HPA := Lib.hid (parse_any I im ic ins w1 oI.rd (by omega) oI.cap.1 hIn)
    rw [← HPR.out] at HPA
    have HB1 := Lib.hid b1
    clear oI b1 hIn HO
    go_wp2_with fail
    refine HPA.out.mono ?_
    rintro e w2 (⟨hpn, rfl, b2⟩ | ⟨es, ev, L, d, hps, rfl, hrow, hel, hev⟩)
    · have hd : decB xs = ([], 3) := by rw [HD.out, hpn]; rfl
      have HF := Lib.hid (And.intro hd (HB1.out.trans (b2.mono HB1.out.size)))
      clear hd b2
      go_wp2_with fail
      exact bodyPost_ret (v := .tuple #[.slice none 0 0, .int .i64 3]) (by simp [results, Try.f12, go_sem]; try rfl) rfl (.inl ⟨by rw [HF.out.1], by rw [HF.out.1]; simp, by rw [HF.out.1], HF.out.2⟩)
    · have hd : decB xs = if (buildZ ev es).2 = 0 ∧ (buildZ ev es).1 = xs then (es, 0) else ([], 3) := by rw [HD.out, hps]; rfl
      have hb2 : Below w.heap.size w w2 := HB1.out.trans (hrow.bel.mono HB1.out.size)
      have hBZ := buildZ_any (c := d) hrow.rd hel ev (by omega)
      obtain ⟨z, hz⟩ : ∃ z, z = buildZ ev es := ⟨_, rfl⟩
      have hzo : z.2 = 0 → 8 ≤ z.1.length := by rw [hz]; exact buildZ_ok
      rw [← hz] at hBZ hd
      have HBZ := Lib.hid hBZ
      have HROW := Lib.hid hrow
      have HB2 := Lib.hid hb2
      have HDD := Lib.hid hd
      obtain ⟨el, hel2⟩ : ∃ el, el = es.length := ⟨_, rfl⟩
      rw [← hel2] at HBZ hel ⊢
      have HEL := Lib.hid hel2
      clear hBZ hrow hb2 hd hz hel2
      go_wp2_with fail
      refine HBZ.out.mono ?_
      rintro e w3 ⟨G, gc, rfl, oG, b3⟩
      have hb3 : Below w.heap.size w w3 := HB2.out.trans (b3.mono HB2.out.size)
      have hno : ∀ w', Below w.heap.size w w' → decB xs = ([], 3) → RetDc8 w (decB xs) (.returned (.tuple #[.slice none 0 0, .int .i64 3])) w' := fun w' hb hd => .inl ⟨by rw [hd], by rw [hd]; simp, by rw [hd], hb⟩
      obtain ⟨zb, zk⟩ := z
      simp only at oG hzo ⊢
      by_cases hzk : zk = 0
      · subst hzk
        have hzl : 8 ≤ zb.length := hzo rfl
        have HEQ := Lib.hid (bytesEqual_any G A zb.length n gc c zb xs w3 oG.rd (HX.out.below hb3) (by omega) (by omega))
        have HB3 := Lib.hid hb3
        have HR3 := Lib.hid (HROW.out.below b3)
        have HNO := Lib.hid hno
        clear oG b3 hb3 hno
        obtain ⟨q, hq⟩ : ∃ q, q = eqB zb xs := ⟨_, rfl⟩
        rw [← hq] at HEQ
        have HQ := Lib.hid hq
        clear hq
        cases q with
        | true =>
          go_wp2_with fail
          with_reducible refine HEQ.out.mono ?_
          rintro e w4 ⟨rfl, rfl⟩
          have he : zb = xs := by
            have := HQ.out
            unfold eqB at this
            exact (beq_iff_eq.1 this.symm)
          have hd : decB xs = (es, 0) := by rw [HDD.out, if_pos ⟨by first | trivial | rfl, he⟩]
          have HF : Hid (RetDc8 w (decB xs) (.returned (.tuple #[.slice L el d, .int .i64 0])) w4) := Lib.hid (by
            rw [hd]
            refine .inr ⟨rfl, by rw [← HEL.out]; exact hel, L, d, by rw [← HEL.out], ?_⟩
            have hr := HR3.out
            have h1 : Below w.heap.size w w4 := HB3.out
            obtain ⟨vs, r1, r2, r3, r4, r5, r6, r7⟩ := hr
            have hs := HB1.out.size
            exact ⟨vs, OwnE.mono (show OwnE w4 w1.heap.size L es.length d vs from r1) hs, EOs.mono hs r2, r3, r4, h1, h1.size, r7.mono hs⟩)
          clear he hd
          go_wp2_with fail
          exact bodyPost_ret (v := .tuple #[.slice L el d, .int .i64 0]) (by simp [results, Try.f12, go_sem]; try rfl) rfl HF.out
        | false =>
          go_wp2_with fail
          with_reducible refine HEQ.out.mono ?_
          rintro e w4 ⟨rfl, rfl⟩
          have he : ¬ zb = xs := by
            have := HQ.out
            unfold eqB at this
            intro e2
            rw [e2] at this
            simp at this
          have hd : decB xs = ([], 3) := by rw [HDD.out, if_neg (fun h => he h.2)]
          have HF := Lib.hid (HNO.out _ HB3.out hd)
          clear he hd
          go_wp2_with fail
          exact bodyPost_ret (v := .tuple #[.slice none 0 0, .int .i64 3]) (by simp [results, Try.f12, go_sem]; try rfl) rfl HF.out
      · have hd : decB xs = ([], 3) := by rw [HDD.out, if_neg (fun h => hzk h.1)]
        have t1 : (zk == 0) = false := by simpa using hzk
        have HF := Lib.hid (hno _ hb3 hd)
        clear hd hno oG b3 hb3
        go_wp2_with fail
        exact bodyPost_ret (v := .tuple #[.slice none 0 0, .int .i64 3]) (by simp [results, Try.f12, go_sem]; try rfl) rfl HF.out
  · have hd : decB xs = ([], k) := by
      unfold decB
      rw [hog]
      simp only
      rw [if_pos hk]
    obtain ⟨hi0, hn0⟩ := hno hk
    have hi0 : ins = [] := hi0
    have hn0 : nx = 0 := hn0
    subst hi0 hn0
    rw [hd]
    refine (decode_shutM A n c xs w h hn hc hnil k hog hk).mono ?_
    rintro e w' ⟨rfl, hb⟩
    exact .inl ⟨rfl, hk, rfl, hb⟩
end Go.Proofs.Ytgigohfjioifaaa
namespace Go.Proofs.Ytgigohfjioifaaa
end Go.Proofs.Ytgigohfjioifaaa
namespace Go.Proofs.Ytgigohfjioifaaa
open Go Go.RowKit

def bsM (xs : List UInt8) : ByteArray := ⟨⟨xs⟩⟩
theorem conv_any {w : World} {n c : Nat} {A : Option Addr} {xs : List UInt8} (h : Rd w A n xs) : (convert 22 9 (.slice A n c)).run Try.prog w = .ok (.string (bsM xs)) w := by
  rcases Nat.eq_zero_or_pos n with hn | hn
  · subst hn
    have hx : xs = [] := List.eq_nil_of_length_eq_zero h.1
    subst hx
    cases A with
    | none =>
      rw [run_convert_bytes_nil w 22 5 Try.underlying22 Try.underlying5 0 c 9 Try.underlying9]
      rfl
    | some a =>
      rw [run_convert_bytes_string w 22 9 5 (some a) 0 c Try.underlying22 Try.underlying5 Try.underlying9,
        run_bytesToString w a 0 c [] (run_loadCells_list (P := Try.prog) w a [] (fun j v hj => by simp at hj))]
      rfl
  · obtain ⟨b, off, rfl, _⟩ := h.pos hn
    rw [run_convert_bytes_arg w 22 5 Try.underlying22 Try.underlying5 b off n c (xs.map fun x => (x.toNat : Int)) (by simpa using h.len) ?_ 9 Try.underlying9]
    · congr 2
      unfold strOfNums bsM
      congr 2
      rw [List.map_map]
      conv => rhs; rw [← List.map_id xs]
      apply List.map_congr_left
      intro x _
      simp
    · intro i hi
      obtain ⟨x, hx, hc, _⟩ := h.at_ i hi
      rw [hc]
      simp [List.getD, List.getElem?_map, hx]
set_option maxRecDepth 100000 in
theorem mgEqual_any (A B : Option Addr) (n m c d : Nat) (xs ys : List UInt8) (w : World) (hx : Rd w A n xs) (hy : Rd w B m ys) :
    Calls Try.prog 49 #[.slice A n c, .slice B m d] w (fun e w' => e = .returned (.bool (eqB xs ys)) ∧ w' = w) := by
  have k1 := conv_any (c := c) hx
  have k2 := conv_any (c := d) hy
  have hb : ((bsM xs).toList == (bsM ys).toList) = eqB xs ys := by rw [ByteArray.toList_eq, ByteArray.toList_eq]; rfl
  have HB := Lib.hid hb
  clear hb hx hy
  go_enter Try.func49, Try.ntmps49
  go_wp2_with fail
  go_ret
  exact ⟨by rw [← HB.out]; rfl, rfl⟩
/-- The Seq of the next newer version of the i-th entry's key. -/
def newerE (es : List En) : Nat → Option Nat
  | 0 => none
  | j + 1 => match es[j]?, es[j + 1]? with
    | some a, some b => if eqB a.key b.key then some a.seq else none
    | _, _ => none
theorem newerE_at {es : List En} {j : Nat} {a b : En} (h1 : es[j]? = some a) (h2 : es[j + 1]? = some b) : newerE es (j + 1) = if eqB a.key b.key then some a.seq else none := by
  rw [newerE, h1, h2]
/-- What newer hands back. -/
def RetNw (w : World) (o : Option Nat) (e : Ending) (w' : World) : Prop := e = .returned (.tuple #[.int .u64 ((o.getD 0 : Nat) : Int), .bool o.isSome]) ∧ ∃ q, w' = w.drewN q
section
variable {w : World} {A : Option Addr} {n c : Nat} {es : List En}
set_option maxRecDepth 100000 in
set_option maxHeartbeats 4000000 in
theorem mgNewer_any (h : REs w A n es) (hn : n ≤ 1099511627776) (i : Nat) (hi : i < n) : Calls Try.prog 69 #[.slice A n c, .int .i64 (i : Int)] w (RetNw w (newerE es i)) := by
  cases i with
  | zero =>
    obtain ⟨b, off, rfl, hbl⟩ := h.pos (by omega)
    have HH := Lib.hid h
    clear h
    go_enter Try.func69, Try.ntmps69
    go_wp2_with fail
    go_quiet (fail)
    go_wp2_with fail
    exact bodyPost_ret (v := .tuple #[.int .u64 0, .bool false]) (by simp [results, Try.f69, go_sem]; try rfl) rfl ⟨rfl, _, rfl⟩
  | succ j =>
    obtain ⟨b, off, rfl, hbl⟩ := h.pos (by omega)
    obtain ⟨x, v0, v1, v2, v3, hx, c0, c1, c2, c3, hev⟩ := h.at_ j (by omega)
    obtain ⟨y, u0, u1, u2, u3, hy, d0, d1, d2, d3, hew⟩ := h.at_ (j + 1) hi
    obtain ⟨K, kn, kc, V, vn, vc, rfl, rfl, rfl, rfl, r0, _⟩ := hev.parts
    obtain ⟨L, ln, lc, M, mn, mc, rfl, rfl, rfl, rfl, q0, _⟩ := hew.parts
    obtain ⟨k, hk⟩ : ∃ k, k = j + 1 := ⟨_, rfl⟩
    have hnw := newerE_at hx hy
    rw [← hk] at hnw d0 d1 d2 d3 hi ⊢
    obtain ⟨z, hz⟩ : ∃ z, z = eqB x.key y.key := ⟨_, rfl⟩
    rw [← hz] at hnw
    have HE : Hid (∀ q, Calls Try.prog 49 #[.slice K kn kc, .slice L ln lc] (w.drewN q) (fun e w' => e = .returned (.bool z) ∧ w' = w.drewN q)) := Lib.hid (fun q => by rw [hz]; exact mgEqual_any _ _ _ _ _ _ _ _ _ (r0.drewN q) (q0.drewN q))
    have HN := Lib.hid hnw
    have t1 : ((k : Int) == 0) = false := by rw [beq_eq_false_iff_ne]; omega
    have hk1 : IntKind.i64.wrap ((k : Int) - 1) = (j : Int) := by rw [IntWalk.i64_in _ (by omega)]; omega
    have hjn : j < n := by omega
    clear h hx hy hev hew r0 q0 hz hnw hk
    cases z with
    | true =>
      go_enter Try.func69, Try.ntmps69
      go_wp2_with fail
      go_quiet ((go_at_call 49; with_reducible exact Calls.quiet_of_same (HE.out _)))
      go_wp2_with fail
      exact bodyPost_ret (v := .tuple #[.int .u64 (x.seq : Int), .bool true]) (by simp [results, Try.f69, go_sem]; try rfl) rfl ⟨by rw [HN.out]; rfl, _, rfl⟩
    | false =>
      go_enter Try.func69, Try.ntmps69
      go_wp2_with fail
      go_quiet ((go_at_call 49; with_reducible exact Calls.quiet_of_same (HE.out _)))
      go_wp2_with fail
      exact bodyPost_ret (v := .tuple #[.int .u64 0, .bool false]) (by simp [results, Try.f69, go_sem]; try rfl) rfl ⟨by rw [HN.out]; rfl, _, rfl⟩
end
end Go.Proofs.Ytgigohfjioifaaa
namespace Go.Proofs.Ytgigohfjioifaaa
open Go Go.RowKit

theorem firstT_mem {x e : En} : ∀ {t : Tr} {f : Option En}, firstT x t f = some e → e ∈ t.list ∨ f = some e
  | .nil, f, h => .inr h
  | .node l y r, f, h => by
    unfold firstT at h
    split at h
    · rcases firstT_mem h with q | q
      · exact .inl (by simp [Tr.list, q])
      · exact .inr q
    · rcases firstT_mem h with q | q
      · exact .inl (by simp [Tr.list, q])
      · injection q with q
        exact .inl (by simp [Tr.list, q])
def tabGet (t : Tr) (key : List UInt8) (at_ : Nat) : Option En := keyed key (firstT ⟨key, at_, 0, []⟩ t none)
def RetGt (w : World) (o : Option En) (e : Ending) (w' : World) : Prop :=
  (o = none ∧ e = .returned (.tuple #[.agg #[.slice none 0 0, .int .u64 0, .int .u8 0, .slice none 0 0], .bool false]) ∧ Below w.heap.size w w') ∨
  ∃ x K kn kc V vn vc, o = some x ∧ e = .returned (.tuple #[.agg #[.slice K kn kc, .int .u64 (x.seq : Int), .int .u8 (x.kind : Int), .slice V vn vc], .bool true]) ∧ Own 5 w' w.heap.size K kn kc x.key ∧ Own 5 w' w.heap.size V vn vc x.val ∧ Below w.heap.size w w' ∧ Dj K V
set_option maxRecDepth 100000 in
set_option maxHeartbeats 8000000 in
theorem tabGet_any {d : TypeId × List Value} {G : Nat → Prop} {w : World} {p : Nat} {t : Tr} {L : Option Addr} {n c at_ : Nat} {key : List UInt8} (h : TB d G w p t) (hS : ∀ e ∈ t.list, SzE e) (hr : Rd w L n key) (hc : n ≤ c) (hd : L = none → c = 0) (hat : U64 at_) :
    Calls Try.prog 45 #[.pointer (some ⟨p, 0, none⟩), .slice L n c, .int .u64 (at_ : Int)] w (RetGt w (tabGet t key at_)) := by
  obtain ⟨A0, hp, hta, _⟩ := h
  obtain ⟨U, hU⟩ : ∃ U, U = w.alloc (.cells #[.slice none 0 0, .int .u64 0, .int .u8 0, .slice none 0 0] 33) := ⟨_, rfl⟩
  have bU : Below w.heap.size w U := by rw [hU]; exact (Below.refl _ _).alloc (Nat.le_refl _) _
  have ZU := Lib.hid (show Cl U w.heap.size #[.slice none 0 0, .int .u64 0, .int .u8 0, .slice none 0 0] 33 by rw [hU]; exact Cl.new _ _ _)
  have hev : EV U ⟨key, at_, 0, []⟩ (.slice L n c) (.int .u64 (at_ : Int)) (.int .u8 0) (.slice none 0 0) := ⟨rfl, rfl, hat, by simp, ⟨L, n, c, rfl, hr.below bU, hc, hd⟩, ⟨none, 0, 0, rfl, Rd.nil _ _, Nat.le_refl _, fun _ => rfl⟩⟩
  have HF : Hid (Calls Try.prog 81 #[.pointer A0, .agg #[.slice L n c, .int .u64 (at_ : Int), .int .u8 0, .slice none 0 0]] U (RetFst G U (firstT ⟨key, at_, 0, []⟩ t none))) := Lib.hid (first_any (hta.below bU) hev)
  have BU := Lib.hid bU
  have HR := Lib.hid (hr.below bU)
  have HS := Lib.hid hS
  have sU : w.heap.size < U.heap.size := by rw [hU]; simp
  obtain ⟨c0, c1, c2, y0, y1, y2⟩ := (hp.below bU).ct
  obtain ⟨o, ho⟩ : ∃ o, o = firstT ⟨key, at_, 0, []⟩ t none := ⟨_, rfl⟩
  rw [← ho] at HF
  have HG : Hid (tabGet t key at_ = keyed key o) := Lib.hid (by rw [ho]; rfl)
  have HM : Hid (∀ e, o = some e → e ∈ t.list) := Lib.hid (fun e he => by
    rw [ho] at he
    rcases firstT_mem he with q | q
    · exact q
    · cases q)
  clear hp hta hr hev bU hS ho
  go_enter Try.func45, Try.ntmps45
  go_upto_region 1 with (fail)
  rw [← hU]
  clear hU
  go_wp2_with fail
  with_reducible refine HF.out.mono ?_
  intro e w1 hq
  obtain ⟨F, h1, hfp, b1⟩ := RetFst.out hq
  subst h1
  have B1 := Lib.hid (belowT BU.out b1)
  have Z1 := Lib.hid (ZU.out.below b1)
  have HR1 := Lib.hid (HR.out.below b1)
  have s1 := b1.size
  cases o with
  | none =>
    have hF : F = none := hfp
    subst hF
    obtain ⟨g0, g1, g2, g3, k0, k1, k2, k3⟩ := Z1.out.c4
    clear hq hfp b1 c0 c1 c2 y0 y1 y2
    go_wp2_with fail
    obtain ⟨X, hX⟩ : ∃ X, X = ((((w1.setCell ⟨w.heap.size, 0, none⟩ (.slice none 0 0)).setCell ⟨w.heap.size, 1, none⟩ (.int .u64 0)).setCell ⟨w.heap.size, 2, none⟩ (.int .u8 0)).setCell ⟨w.heap.size, 3, none⟩ (.slice none 0 0)) := ⟨_, rfl⟩
    rw [← hX]
    have zX : Cl X w.heap.size #[.slice none 0 0, .int .u64 0, .int .u8 0, .slice none 0 0] 33 := by rw [hX]; exact Z1.out.put4 rfl _ _ _ _
    have bX : Below w.heap.size w X := by rw [hX]; exact below_set (below_set (below_set (below_set B1.out 0 _ (Nat.le_refl _)) 1 _ (Nat.le_refl _)) 2 _ (Nat.le_refl _)) 3 _ (Nat.le_refl _)
    obtain ⟨x0, x1, x2, x3, _⟩ := zX.c4
    refine bodyPost_ret (v := .tuple #[.agg #[.slice none 0 0, .int .u64 0, .int .u8 0, .slice none 0 0], .bool false]) (by simp [results, Try.results45, go_sem, x0, x1, x2, x3]; try rfl) rfl (.inl ⟨by rw [HG.out]; rfl, rfl, bX⟩)
  | some x =>
    obtain ⟨q, hF, hx⟩ := hfp
    subst hF
    clear hq b1 c0 c1 c2 y0 y1 y2
    obtain ⟨v0, v1, v2, v3, cx, ex⟩ := hx
    have hsx := HS.out x (HM.out x rfl)
    obtain ⟨K, kn, kc, V, vn, vc, rfl, rfl, rfl, rfl, r0, r3, _⟩ := ex.1.ev.parts
    obtain ⟨x0, x1, x2, x3, _⟩ := cx.c4
    have hlk : kn ≤ maxLen := maxLen_e (by rw [← r0.len]; exact hsx.1)
    obtain ⟨z, hz⟩ : ∃ z, cmpB x.key key = z := ⟨_, rfl⟩
    have HC : Hid (Calls Try.prog 82 #[.slice K kn kc, .slice L n c] w1 fun e w' => e = .returned (.int .i64 z) ∧ w1 = w') := Lib.hid (Cmp_is K L kn n kc c x.key key z hz w1 r0 HR1.out)
    have HW : Hid (∀ wx, Below w1.heap.size w1 wx → Calls Try.prog 75 #[.agg #[.slice K kn kc, .int .u64 (x.seq : Int), .int .u8 (x.kind : Int), .slice V vn vc]] wx (RetEn wx x)) := Lib.hid (fun wx h => own_any (ex.1.ev.below h) hsx)
    have CX := Lib.hid cx
    clear r0 r3 cx ex
    by_cases h0 : z = 0
    · subst h0
      have HGK : Hid (tabGet t key at_ = some x) := Lib.hid (by rw [HG.out]; show (if cmpB x.key key = 0 then some x else none) = some x; rw [if_pos hz])
      have tz : ((0 : Int) != 0) = false := rfl
      clear hz
      go_wp2_with fail
      with_reducible refine HC.out.mono ?_
      rintro e w2 ⟨rfl, rfl⟩
      go_wp2_with fail
      with_reducible refine (HW.out _ (Below.refl _ _)).mono ?_
      rintro e w3 ⟨K2, kn2, kc2, V2, vn2, vc2, rfl, o1, o2, b3, dj⟩
      have DJ := Lib.hid dj
      have Z3 := Lib.hid (Z1.out.below b3)
      have B3 := Lib.hid (belowT B1.out b3)
      have O1 := Lib.hid o1
      have O2 := Lib.hid o2
      obtain ⟨g0, g1, g2, g3, k0, k1, k2, k3⟩ := Z3.out.c4
      clear o1 o2 b3 dj x0 x1 x2 x3
      go_wp2_with fail
      obtain ⟨X, hX⟩ : ∃ X, X = ((((w3.setCell ⟨w.heap.size, 0, none⟩ (.slice K2 kn2 kc2)).setCell ⟨w.heap.size, 1, none⟩ (.int .u64 (x.seq : Int))).setCell ⟨w.heap.size, 2, none⟩ (.int .u8 (x.kind : Int))).setCell ⟨w.heap.size, 3, none⟩ (.slice V2 vn2 vc2)) := ⟨_, rfl⟩
      have s3 : w.heap.size < w1.heap.size := by omega
      have O1X : Own 5 X w.heap.size K2 kn2 kc2 x.key := by rw [hX]; exact ((((O1.out.set s3 0 _).set s3 1 _).set s3 2 _).set s3 3 _).mono (Nat.le_of_lt s3)
      have O2X : Own 5 X w.heap.size V2 vn2 vc2 x.val := by rw [hX]; exact ((((O2.out.set s3 0 _).set s3 1 _).set s3 2 _).set s3 3 _).mono (Nat.le_of_lt s3)
      rw [← hX]
      have zX : Cl X w.heap.size #[.slice K2 kn2 kc2, .int .u64 (x.seq : Int), .int .u8 (x.kind : Int), .slice V2 vn2 vc2] 33 := by rw [hX]; exact Z3.out.put4 rfl _ _ _ _
      have bX : Below w.heap.size w X := by rw [hX]; exact below_set (below_set (below_set (below_set B3.out 0 _ (Nat.le_refl _)) 1 _ (Nat.le_refl _)) 2 _ (Nat.le_refl _)) 3 _ (Nat.le_refl _)
      obtain ⟨x0, x1, x2, x3, _⟩ := zX.c4
      refine bodyPost_ret (v := .tuple #[.agg #[.slice K2 kn2 kc2, .int .u64 (x.seq : Int), .int .u8 (x.kind : Int), .slice V2 vn2 vc2], .bool true]) (by simp [results, Try.results45, go_sem, x0, x1, x2, x3]; try rfl) rfl (.inr ⟨x, K2, kn2, kc2, V2, vn2, vc2, HGK.out, rfl, O1X, O2X, bX, DJ.out⟩)
    · have HGK : Hid (tabGet t key at_ = none) := Lib.hid (by rw [HG.out]; show (if cmpB x.key key = 0 then some x else none) = none; rw [hz, if_neg h0])
      have tz : (z != 0) = true := by simpa using h0
      obtain ⟨g0, g1, g2, g3, k0, k1, k2, k3⟩ := Z1.out.c4
      clear hz
      go_wp2_with fail
      with_reducible refine HC.out.mono ?_
      rintro e w2 ⟨rfl, rfl⟩
      go_wp2_with fail
      obtain ⟨X, hX⟩ : ∃ X, X = ((((w1.setCell ⟨w.heap.size, 0, none⟩ (.slice none 0 0)).setCell ⟨w.heap.size, 1, none⟩ (.int .u64 0)).setCell ⟨w.heap.size, 2, none⟩ (.int .u8 0)).setCell ⟨w.heap.size, 3, none⟩ (.slice none 0 0)) := ⟨_, rfl⟩
      rw [← hX]
      have zX : Cl X w.heap.size #[.slice none 0 0, .int .u64 0, .int .u8 0, .slice none 0 0] 33 := by rw [hX]; exact Z1.out.put4 rfl _ _ _ _
      have bX : Below w.heap.size w X := by rw [hX]; exact below_set (below_set (below_set (below_set B1.out 0 _ (Nat.le_refl _)) 1 _ (Nat.le_refl _)) 2 _ (Nat.le_refl _)) 3 _ (Nat.le_refl _)
      obtain ⟨x0, x1, x2, x3, _⟩ := zX.c4
      refine bodyPost_ret (v := .tuple #[.agg #[.slice none 0 0, .int .u64 0, .int .u8 0, .slice none 0 0], .bool false]) (by simp [results, Try.results45, go_sem, x0, x1, x2, x3]; try rfl) rfl (.inl ⟨HGK.out, rfl, bX⟩)
end Go.Proofs.Ytgigohfjioifaaa
namespace Go.Proofs.Ytgigohfjioifaaa
open Go Go.RowKit

/-- The place that is sought. -/
def plE (key : List UInt8) (at_ : Nat) : En := ⟨key, at_, 0, []⟩
/-- Doesn't the i-th entry stand ahead of the place? -/
def nlE (es : List En) (pl : En) (i : Nat) : Bool := match es[i]? with
  | some x => !lessE x pl
  | none => true
set_option maxRecDepth 100000 in
set_option maxHeartbeats 4000000 in
theorem seekC_any {w : World} {L : Option Addr} {n d : Nat} {es : List En} {bl pb : Nat} {pl : En} {v0 v1 v2 v3 : Value} (h : REs w L n es) (hl : Cl w bl #[.slice L n d] 25) (hp : Cl w pb #[v0, v1, v2, v3] 33) (hv : EV w pl v0 v1 v2 v3) (i : Nat) (hi : i < n) :
    Calls Try.prog 54 #[.int .i64 (i : Int), .pointer (some ⟨bl, 0, none⟩), .pointer (some ⟨pb, 0, none⟩)] w (RetT w (nlE es pl i)) := by
  obtain ⟨b, off, rfl, hbl⟩ := h.pos (by omega)
  obtain ⟨x, u0, u1, u2, u3, hx, c0, c1, c2, c3, hev⟩ := h.at_ i hi
  have hn : nlE es pl i = !lessE x pl := by unfold nlE; rw [hx]
  have l0 := hl.c1.1
  obtain ⟨p0, p1, p2, p3, _⟩ := hp.c4
  have hpl := hp.lt
  have hll := hl.lt
  have HL : Hid (∀ wx, Below w.heap.size w wx → Calls Try.prog 55 #[.agg #[u0, u1, u2, u3], .agg #[v0, v1, v2, v3]] wx (RetT wx (lessE x pl))) := Lib.hid (fun wx hb => memLess_any (hev.below hb) (hv.below hb))
  have HSX : Hid (∀ wx, Below w.heap.size w wx → wx.cell? ⟨bl, 0, none⟩ = some (.slice (some ⟨b, off, none⟩) n d) ∧ wx.cell? ⟨b, off + i * 4, none⟩ = some u0 ∧ wx.cell? ⟨b, off + i * 4 + 1, none⟩ = some u1 ∧ wx.cell? ⟨b, off + i * 4 + 2, none⟩ = some u2 ∧ wx.cell? ⟨b, off + i * 4 + 3, none⟩ = some u3 ∧ wx.cell? ⟨pb, 0, none⟩ = some v0 ∧ wx.cell? ⟨pb, 1, none⟩ = some v1 ∧ wx.cell? ⟨pb, 2, none⟩ = some v2 ∧ wx.cell? ⟨pb, 3, none⟩ = some v3) := Lib.hid (fun wx h =>
    ⟨(h.cell (p := ⟨bl, 0, none⟩) hll).trans l0, (h.cell (p := ⟨b, off + i * 4, none⟩) hbl).trans c0, (h.cell (p := ⟨b, off + i * 4 + 1, none⟩) hbl).trans c1, (h.cell (p := ⟨b, off + i * 4 + 2, none⟩) hbl).trans c2, (h.cell (p := ⟨b, off + i * 4 + 3, none⟩) hbl).trans c3,
      (h.cell (p := ⟨pb, 0, none⟩) hpl).trans p0, (h.cell (p := ⟨pb, 1, none⟩) hpl).trans p1, (h.cell (p := ⟨pb, 2, none⟩) hpl).trans p2, (h.cell (p := ⟨pb, 3, none⟩) hpl).trans p3⟩)
  have hB0 : Below w.heap.size w w.drew := (Below.refl _ _).drew
  obtain ⟨z, hz⟩ : ∃ z, z = lessE x pl := ⟨_, rfl⟩
  rw [← hz] at HL hn
  have HN := Lib.hid hn
  clear h hl hp hv hx hev hz hn hpl hll
  go_enter Try.func54, Try.ntmps54
  go_wp2_with fail
  go_region_held3 (fun wx => wx.cell? ⟨bl, 0, none⟩ = some (.slice (some ⟨b, off, none⟩) n d) ∧ wx.cell? ⟨b, off + i * 4, none⟩ = some u0 ∧ wx.cell? ⟨b, off + i * 4 + 1, none⟩ = some u1 ∧ wx.cell? ⟨b, off + i * 4 + 2, none⟩ = some u2 ∧ wx.cell? ⟨b, off + i * 4 + 3, none⟩ = some u3 ∧ wx.cell? ⟨pb, 0, none⟩ = some v0 ∧ wx.cell? ⟨pb, 1, none⟩ = some v1 ∧ wx.cell? ⟨pb, 2, none⟩ = some v2 ∧ wx.cell? ⟨pb, 3, none⟩ = some v3) (first | assumption | exact HSX.out _ hB0)
    (first | (go_at_call 55; with_reducible refine (HL.out _ (by assumption)).mono ?_; intro e1 wn hq; obtain ⟨h1, bn⟩ := RetT.outD hq; subst h1; have bn' := belowT' (by assumption : Below w.heap.size w _) bn; have hS1 := HSX.out _ bn'))
  all_goals
    have HBN := Lib.hid (by assumption : Below w.heap.size w wn)
    go_wp2_with fail
    go_ret
    exact ⟨by rw [HN.out]; rfl, HBN.out⟩
theorem ordK_at {es : List En} : ∀ {k : Nat}, ordK es k = true → ∀ i a b, i < k → es[i]? = some a → es[i + 1]? = some b → lessE a b = true
  | 0, _, i, _, _, h, _, _ => absurd h (by omega)
  | k + 1, h, i, a, b, hi, ha, hb => by
    rw [ordK, Bool.and_eq_true] at h
    by_cases e : i = k
    · subst e
      have := h.2
      rw [ha, hb] at this
      exact this
    · exact ordK_at h.1 i a b (by omega) ha hb
theorem ord_sort {es : List En} (h : ordE es = true) : SortL es := by
  have key : ∀ (j i : Nat) a b, i < j → es[i]? = some a → es[j]? = some b → lessE a b = true := by
    intro j
    induction j with
    | zero => intro i a b h; omega
    | succ j ih =>
      intro i a b hij ha hb
      have hlt : j + 1 < es.length := (List.getElem?_eq_some_iff.1 hb).1
      obtain ⟨c, hc⟩ : ∃ c, es[j]? = some c := ⟨_, List.getElem?_eq_getElem (by omega)⟩
      have h1 := ordK_at h j c b (by omega) hc hb
      by_cases e : i = j
      · subst e
        rw [hc] at ha
        injection ha with ha
        rw [← ha]
        exact h1
      · exact lessE_trans (ih i a c (by omega) ha hc) h1
  unfold SortL
  rw [List.pairwise_iff_getElem]
  intro i j hi hj hij
  exact key j i _ _ hij (List.getElem?_eq_getElem hi) (List.getElem?_eq_getElem hj)
theorem buildE_ord {ev : Nat} {es : List En} (h : (buildE ev es).2 = 0) : ordE es = true ∧ es.all formE = true ∧ es.any longE = false ∧ (buildE ev es).1 = sealB (fullB ev es) ∧ (fullB ev es).length ≤ 1048576 := by
  unfold buildE at h ⊢
  split at h
  · cases h
  · rename_i h1
    split at h
    · cases h
    · rename_i h2
      split at h
      · rename_i h3
        rw [if_neg h1, if_neg h2, if_pos h3]
        rw [Bool.and_eq_true] at h3
        exact ⟨h3.2, h3.1, by simpa using h1, rfl, by omega⟩
      · cases h
theorem dec_sort {xs : List UInt8} {es : List En} (h : decB xs = (es, 0)) : SortL es := by
  unfold decB at h
  rcases hog : openG xs ((0 : Nat) : Int) with ⟨ins, nx, k⟩
  rw [hog] at h
  simp only at h
  split at h
  · rename_i hk
    injection h with h1 h2
    exact absurd h2 hk
  · cases hp : parB ins with
    | none =>
      rw [hp] at h
      unfold decP at h
      injection h with h1 h2
      cases h2
    | some r =>
      obtain ⟨gs, ev⟩ := r
      rw [hp, show decP xs (some (gs, ev)) = if (buildZ ev gs).2 = 0 ∧ (buildZ ev gs).1 = xs then (gs, 0) else ([], 3) from rfl] at h
      split at h
      · rename_i hb
        injection h with h1 h2
        subst h1
        have h3 := hb.1
        unfold buildZ at h3
        split at h3
        · cases h3
        · exact ord_sort (buildE_ord h3).1
      · injection h with h1 h2
        cases h2
theorem EOs.at_ {base : Nat} {w : World} : ∀ {es : List En} {vs : List Value} (i : Nat) {x : En}, EOs base w es vs → es[i]? = some x → ∃ v0 v1 v2 v3, vs[i * 4]? = some v0 ∧ vs[i * 4 + 1]? = some v1 ∧ vs[i * 4 + 2]? = some v2 ∧ vs[i * 4 + 3]? = some v3 ∧ EO base w x v0 v1 v2 v3 ∧ (Fam w base (pairE es vs) → Fam w base [(v0, x.key), (v3, x.val)])
  | [], _, i, x, _, h => by simp at h
  | g :: es, _, 0, x, ⟨v0, v1, v2, v3, r, q, h1, h2⟩, h => by
    simp only [List.getElem?_cons_zero, Option.some.injEq] at h
    subst h q
    refine ⟨v0, v1, v2, v3, rfl, rfl, rfl, rfl, h1, fun hf => ?_⟩
    have : pairE (g :: es) (v0 :: v1 :: v2 :: v3 :: r) = [(v0, g.key), (v3, g.val)] ++ pairE es r := rfl
    rw [this] at hf
    exact hf.left
  | g :: es, _, i + 1, x, ⟨v0, v1, v2, v3, r, q, h1, h2⟩, h => by
    rw [List.getElem?_cons_succ] at h
    obtain ⟨a, b, c, d, e0, e1, e2, e3, e4, e5⟩ := EOs.at_ i h2 h
    subst q
    refine ⟨a, b, c, d, ?_, ?_, ?_, ?_, e4, fun hf => ?_⟩
    · rw [show (i + 1) * 4 = i * 4 + 4 by omega]; exact e0
    · rw [show (i + 1) * 4 + 1 = i * 4 + 1 + 4 by omega]; exact e1
    · rw [show (i + 1) * 4 + 2 = i * 4 + 2 + 4 by omega]; exact e2
    · rw [show (i + 1) * 4 + 3 = i * 4 + 3 + 4 by omega]; exact e3
    · have : pairE (g :: es) (v0 :: v1 :: v2 :: v3 :: r) = [(v0, g.key), (v3, g.val)] ++ pairE es r := rfl
      rw [this] at hf
      exact e5 hf.right
/-- What Seek hands back. -/
def RetSk8 (w : World) (r : List En × Int) (pl : En) (e : Ending) (w' : World) : Prop :=
  Below w.heap.size w w' ∧
  ((r.2 ≠ 0 ∧ e = .returned (.tuple #[.agg #[.slice none 0 0, .int .u64 0, .int .u8 0, .slice none 0 0], .bool false, .int .i64 r.2])) ∨
   (r.2 = 0 ∧ (∀ i, i < r.1.length → nlE r.1 pl i = false) ∧ e = .returned (.tuple #[.agg #[.slice none 0 0, .int .u64 0, .int .u8 0, .slice none 0 0], .bool false, .int .i64 0])) ∨
   (r.2 = 0 ∧ ∃ (i : Nat) (x : En), r.1[i]? = some x ∧ nlE r.1 pl i = true ∧ (∀ t, t < i → nlE r.1 pl t = false) ∧
     ∃ K kn kc V vn vc, e = .returned (.tuple #[.agg #[.slice K kn kc, .int .u64 (x.seq : Int), .int .u8 (x.kind : Int), .slice V vn vc], .bool true, .int .i64 0]) ∧ EO w.heap.size w' x (.slice K kn kc) (.int .u64 (x.seq : Int)) (.int .u8 (x.kind : Int)) (.slice V vn vc) ∧ Fam w' w.heap.size [(.slice K kn kc, x.key), (.slice V vn vc, x.val)]))
theorem zero_ev (w : World) (key : List UInt8) (at_ : Nat) {K : Option Addr} {kn kc : Nat} (h : Rd w K kn key) (hc : kn ≤ kc) (hnil : K = none → kc = 0) (ha : U64 at_) : EV w (plE key at_) (.slice K kn kc) (.int .u64 (at_ : Int)) (.int .u8 0) (.slice none 0 0) :=
  ⟨rfl, rfl, ha, by unfold plE; simp, ⟨K, kn, kc, rfl, h, hc, hnil⟩, ⟨none, 0, 0, rfl, Rd.nil _ _, Nat.le_refl _, fun _ => rfl⟩⟩
set_option maxRecDepth 100000 in
set_option maxHeartbeats 8000000 in
theorem seek_any (A : Option Addr) (n c : Nat) (xs : List UInt8) (K0 : Option Addr) (k0 kc0 : Nat) (key : List UInt8) (at_ : Nat) (w : World) (h : Rd w A n xs) (hn : n ≤ 1099511627776) (hc : n ≤ c) (hnil : A = none → c = 0)
    (hk : Rd w K0 k0 key) (hkc : k0 ≤ kc0) (hknil : K0 = none → kc0 = 0) (ha : U64 at_) :
    Calls Try.prog 15 #[.slice A n c, .slice K0 k0 kc0, .int .u64 (at_ : Int)] w (RetSk8 w (decB xs) (plE key at_)) := by
  obtain ⟨U, hU⟩ : ∃ U, U = w.alloc (.cells #[.slice none 0 0, .int .u64 0, .int .u8 0, .slice none 0 0] 33) := ⟨_, rfl⟩
  have bU : Below w.heap.size w U := by rw [hU]; exact (Below.refl _ _).alloc (Nat.le_refl _) _
  have zU : Cl U w.heap.size #[.slice none 0 0, .int .u64 0, .int .u8 0, .slice none 0 0] 33 := by rw [hU]; exact Cl.new _ _ _
  have HDC := Lib.hid (decode_any A n c xs U (h.below bU) hn hc hnil)
  rcases hr : decB xs with ⟨es, k⟩
  have HR := Lib.hid hr
  rw [hr] at HDC
  have HK := Lib.hid hk
  have HBU := Lib.hid bU
  have HZU := Lib.hid zU
  have HU := Lib.hid hU
  clear h hk bU zU hU hr
  go_enter Try.func15, Try.ntmps15
  go_upto_region 1 with (fail)
  rw [← HU.out]
  go_wp2_with fail
  refine HDC.out.mono ?_
  rintro e w1 (⟨he, hk0, rfl, b1⟩ | ⟨hk0, hel, L, d, rfl, hrow⟩)
  · simp only at he hk0
    obtain ⟨W, hW⟩ : ∃ W, W = w1.alloc (.cells #[.slice none 0 0] 25) := ⟨_, rfl⟩
    have bW : Below w1.heap.size w1 W := by rw [hW]; exact (Below.refl _ _).alloc (Nat.le_refl _) _
    have b1' : Below w.heap.size w W := HBU.out.trans ((b1.trans (bW.mono b1.size)).mono HBU.out.size)
    have z1 := (HZU.out.below b1).below bW
    have t1 : (k == 0) = false := by simpa using hk0
    obtain ⟨x0, x1, x2, x3, y0, y1, y2, y3⟩ := z1.c4
    have HF : Hid (∀ X, X = (((W.setCell ⟨w.heap.size, 0, none⟩ (.slice none 0 0)).setCell ⟨w.heap.size, 1, none⟩ (.int .u64 0)).setCell ⟨w.heap.size, 2, none⟩ (.int .u8 0)).setCell ⟨w.heap.size, 3, none⟩ (.slice none 0 0) → Cl X w.heap.size #[.slice none 0 0, .int .u64 0, .int .u8 0, .slice none 0 0] 33 ∧ Below w.heap.size w X) := Lib.hid (fun X hX => ⟨by rw [hX]; exact z1.put4 rfl _ _ _ _, by rw [hX]; exact (((b1'.setCell (p := ⟨w.heap.size, 0, none⟩) (Nat.le_refl _) _).setCell (p := ⟨w.heap.size, 1, none⟩) (Nat.le_refl _) _).setCell (p := ⟨w.heap.size, 2, none⟩) (Nat.le_refl _) _).setCell (p := ⟨w.heap.size, 3, none⟩) (Nat.le_refl _) _⟩)
    have HW := Lib.hid hW
    clear bW b1' z1 b1 hW
    go_upto_if 19 with (fail)
    rw [← HW.out]
    go_wp2_with fail
    obtain ⟨X, hX⟩ : ∃ X, X = (((W.setCell ⟨w.heap.size, 0, none⟩ (.slice none 0 0)).setCell ⟨w.heap.size, 1, none⟩ (.int .u64 0)).setCell ⟨w.heap.size, 2, none⟩ (.int .u8 0)).setCell ⟨w.heap.size, 3, none⟩ (.slice none 0 0) := ⟨_, rfl⟩
    rw [← hX]
    obtain ⟨zX, bX⟩ := HF.out X hX
    obtain ⟨x0, x1, x2, x3, _⟩ := zX.c4
    exact bodyPost_ret (v := .tuple #[.agg #[.slice none 0 0, .int .u64 0, .int .u8 0, .slice none 0 0], .bool false, .int .i64 k]) (by simp [results, Try.results15, go_sem, x0, x1, x2, x3]; try rfl) rfl ⟨bX, .inl ⟨hk0, rfl⟩⟩
  · simp only at hk0 hel hrow ⊢
    subst hk0
    have b1 : Below w.heap.size w w1 := HBU.out.trans (hrow.bel.mono HBU.out.size)
    have z1 : Cl w1 w.heap.size #[.slice none 0 0, .int .u64 0, .int .u8 0, .slice none 0 0] 33 := HZU.out.below hrow.bel
    obtain ⟨el, hle⟩ : ∃ el, el = es.length := ⟨_, rfl⟩
    rw [← hle] at hrow hel ⊢
    obtain ⟨W, hW⟩ : ∃ W, W = w1.alloc (.cells #[.slice L el d] 25) := ⟨_, rfl⟩
    obtain ⟨bl, hbl⟩ : ∃ bl, bl = w1.heap.size := ⟨_, rfl⟩
    have bW : Below w1.heap.size w1 W := by rw [hW]; exact (Below.refl _ _).alloc (Nat.le_refl _) _
    have kW : Cl W bl #[.slice L el d] 25 := by rw [hW, hbl]; exact Cl.new _ _ _
    obtain ⟨W2, hW2⟩ : ∃ W2, W2 = W.alloc (.cells #[.slice K0 k0 kc0, .int .u64 (at_ : Int), .int .u8 0, .slice none 0 0] 33) := ⟨_, rfl⟩
    obtain ⟨pb, hpb⟩ : ∃ pb, pb = W.heap.size := ⟨_, rfl⟩
    have bW2 : Below W.heap.size W W2 := by rw [hW2]; exact (Below.refl _ _).alloc (Nat.le_refl _) _
    have kP : Cl W2 pb #[.slice K0 k0 kc0, .int .u64 (at_ : Int), .int .u8 0, .slice none 0 0] 33 := by rw [hW2, hpb]; exact Cl.new _ _ _
    have b12 : Below w1.heap.size w1 W2 := bW.trans (bW2.mono bW.size)
    have bB : Below w.heap.size w W2 := b1.trans (b12.mono b1.size)
    have k2 := kW.below bW2
    have hrow2 := hrow.below b12
    have z2 := z1.below b12
    have HKW := Lib.hid (And.intro k2 kP)
    have hev := zero_ev W2 key at_ (HK.out.below bB) hkc hknil ha
    have hso := dec_sort HR.out
    have HSE : Hid (Calls Try.prog 53 #[.int .i64 (el : Int), .func (.func 54) #[] #[.pointer (some ⟨bl, 0, none⟩), .pointer (some ⟨pb, 0, none⟩)]] W2 (RetSe W2 el (nlE es (plE key at_)))) := Lib.hid (search_any 54 #[.pointer (some ⟨bl, 0, none⟩), .pointer (some ⟨pb, 0, none⟩)] el (nlE es (plE key at_)) W2 (fun args w => by first | rfl | kernel_rfl | simp [callFunc]) (by omega) (fun wx hb i hi => seekC_any (hrow2.rd.below hb) (k2.below hb) (kP.below hb) (hev.below hb) i hi) (fun a b hab hb hpa => by
      by_cases e : a = b
      · subst e; exact hpa
      · unfold nlE at hpa ⊢
        obtain ⟨xa, hxa⟩ : ∃ x, es[a]? = some x := ⟨_, List.getElem?_eq_getElem (by omega)⟩
        obtain ⟨xb, hxb⟩ : ∃ x, es[b]? = some x := ⟨_, List.getElem?_eq_getElem (by omega)⟩
        rw [hxa] at hpa
        rw [hxb]
        simp only [Bool.not_eq_true'] at hpa ⊢
        have hl : lessE xa xb = true := by
          have hs := List.pairwise_iff_getElem.1 hso a b (by omega) (by omega) (by omega)
          have e1 := (List.getElem?_eq_some_iff.1 hxa).2
          have e2 := (List.getElem?_eq_some_iff.1 hxb).2
          rw [e1, e2] at hs
          exact hs
        cases hq : lessE xb (plE key at_) with
        | false => rfl
        | true =>
          have := lessE_trans hl hq
          rw [hpa] at this
          cases this))
    have HROW := Lib.hid hrow2
    have HZ2 := Lib.hid z2
    have HB := Lib.hid bB
    have HLE := Lib.hid hle
    have HW := Lib.hid hW
    have HW2 := Lib.hid hW2
    have HBL := Lib.hid hbl
    have HPB := Lib.hid hpb
    clear hrow b1 z1 bW kW bW2 kP b12 bB k2 hrow2 z2 hev hso hle hW hW2 hbl hpb
    go_upto_if 19 with (fail)
    rw [← HW.out, ← HBL.out]
    go_upto_region 5 with (fail)
    rw [← HW2.out, ← HPB.out]
    obtain ⟨l0, _⟩ := HKW.out.1.c1
    go_wp2_with fail
    with_reducible refine HSE.out.mono ?_
    rintro e w3 ⟨r, rfl, hr1, hr2, hr3, b3⟩
    have hB3 : Below w.heap.size w w3 := HB.out.trans (b3.mono HB.out.size)
    have z3 := HZ2.out.below b3
    have l3 := HKW.out.1.below b3
    have hrow3 := HROW.out.below b3
    have hUw : w.heap.size < U.heap.size := by rw [HU.out]; simp
    obtain ⟨x0, x1, x2, x3, y0, y1, y2, y3⟩ := z3.c4
    by_cases hre : r = el
    · subst hre
      have HNO : Hid (∀ i, i < es.length → nlE es (plE key at_) i = false) := Lib.hid (fun i hi => hr2 i (by rw [HLE.out]; exact hi))
      have HF : Hid (∀ X, X = (((w3.setCell ⟨w.heap.size, 0, none⟩ (.slice none 0 0)).setCell ⟨w.heap.size, 1, none⟩ (.int .u64 0)).setCell ⟨w.heap.size, 2, none⟩ (.int .u8 0)).setCell ⟨w.heap.size, 3, none⟩ (.slice none 0 0) → Cl X w.heap.size #[.slice none 0 0, .int .u64 0, .int .u8 0, .slice none 0 0] 33 ∧ Below w.heap.size w X) := Lib.hid (fun X hX => ⟨by rw [hX]; exact z3.put4 rfl _ _ _ _, by rw [hX]; exact (((hB3.setCell (p := ⟨w.heap.size, 0, none⟩) (Nat.le_refl _) _).setCell (p := ⟨w.heap.size, 1, none⟩) (Nat.le_refl _) _).setCell (p := ⟨w.heap.size, 2, none⟩) (Nat.le_refl _) _).setCell (p := ⟨w.heap.size, 3, none⟩) (Nat.le_refl _) _⟩)
      obtain ⟨l0', _⟩ := l3.c1
      clear hB3 z3 l3 hrow3 hr2 hr3 b3
      go_wp2_with fail
      obtain ⟨X, hX⟩ : ∃ X, X = (((w3.setCell ⟨w.heap.size, 0, none⟩ (.slice none 0 0)).setCell ⟨w.heap.size, 1, none⟩ (.int .u64 0)).setCell ⟨w.heap.size, 2, none⟩ (.int .u8 0)).setCell ⟨w.heap.size, 3, none⟩ (.slice none 0 0) := ⟨_, rfl⟩
      rw [← hX]
      obtain ⟨zX, bX⟩ := HF.out X hX
      clear x0 x1 x2 x3 y0 y1 y2 y3
      obtain ⟨x0, x1, x2, x3, _⟩ := zX.c4
      exact bodyPost_ret (v := .tuple #[.agg #[.slice none 0 0, .int .u64 0, .int .u8 0, .slice none 0 0], .bool false, .int .i64 0]) (by simp [results, Try.results15, go_sem, x0, x1, x2, x3]; try rfl) rfl ⟨bX, .inr (.inl ⟨rfl, HNO.out, rfl⟩)⟩
    · have hrl : r < el := by omega
      obtain ⟨vs, q1, q2, q3, q4, q5, q6, q7⟩ := hrow3
      obtain ⟨x, hx⟩ : ∃ x, es[r]? = some x := ⟨_, List.getElem?_eq_getElem (by have := HLE.out; omega)⟩
      obtain ⟨v0, v1, v2, v3, e0, e1, e2, e3, heo, hfam⟩ := EOs.at_ r q2 hx
      have hfam := hfam q7
      obtain ⟨bb, off, hLa, hbb, hcc⟩ := q1.rd.2 (by omega)
      subst hLa
      have m0 : w3.cell? ⟨bb, off + r * 4, none⟩ = some v0 := hcc _ _ e0
      have m1 : w3.cell? ⟨bb, off + r * 4 + 1, none⟩ = some v1 := by rw [Nat.add_assoc]; exact hcc _ _ e1
      have m2 : w3.cell? ⟨bb, off + r * 4 + 2, none⟩ = some v2 := by rw [Nat.add_assoc]; exact hcc _ _ e2
      have m3 : w3.cell? ⟨bb, off + r * 4 + 3, none⟩ = some v3 := by rw [Nat.add_assoc]; exact hcc _ _ e3
      obtain ⟨K, kn, kc, V, vn, vc, rfl, rfl, rfl, rfl, _⟩ := heo.ev.parts
      have hoff : OffW [Value.slice K kn kc, .int .u64 (x.seq : Int), .int .u8 (x.kind : Int), .slice V vn vc] (some w.heap.size) := EO.off heo (fun g hg => by injection hg with hg; exact .inl (by omega))
      have hoff2 : OffF [(Value.slice K kn kc, x.key), (.slice V vn vc, x.val)] w.heap.size := hfam.off_old (by omega)
      have HF : Hid (∀ X, X = (((w3.setCell ⟨w.heap.size, 0, none⟩ (.slice K kn kc)).setCell ⟨w.heap.size, 1, none⟩ (.int .u64 (x.seq : Int))).setCell ⟨w.heap.size, 2, none⟩ (.int .u8 (x.kind : Int))).setCell ⟨w.heap.size, 3, none⟩ (.slice V vn vc) → Cl X w.heap.size #[.slice K kn kc, .int .u64 (x.seq : Int), .int .u8 (x.kind : Int), .slice V vn vc] 33 ∧ Below w.heap.size w X ∧ EO w.heap.size X x (.slice K kn kc) (.int .u64 (x.seq : Int)) (.int .u8 (x.kind : Int)) (.slice V vn vc) ∧ Fam X w.heap.size [(.slice K kn kc, x.key), (.slice V vn vc, x.val)]) := Lib.hid (fun X hX => by
        have hg : w3.grownBy X (some w.heap.size) := by
          rw [hX]
          exact (((grown_set1 w3 _ 0 _).trans (grown_set1 _ _ 1 _)).trans (grown_set1 _ _ 2 _)).trans (grown_set1 _ _ 3 _)
        refine ⟨by rw [hX]; exact z3.put4 rfl _ _ _ _, by rw [hX]; exact (((hB3.setCell (p := ⟨w.heap.size, 0, none⟩) (Nat.le_refl _) _).setCell (p := ⟨w.heap.size, 1, none⟩) (Nat.le_refl _) _).setCell (p := ⟨w.heap.size, 2, none⟩) (Nat.le_refl _) _).setCell (p := ⟨w.heap.size, 3, none⟩) (Nat.le_refl _) _, (heo.kept hg hoff).mono (Nat.le_of_lt hUw), (hfam.kept hg (fun b hb => by injection hb with hb; rw [← hb]; exact hoff2)).mono (Nat.le_of_lt hUw)⟩)
      have HX := Lib.hid (And.intro hx (And.intro (hr3 r (Nat.le_refl _) hrl) hr2))
      obtain ⟨l0', _⟩ := l3.c1
      clear hB3 z3 l3 hr2 hr3 b3 q1 q2 q3 q4 q5 q6 q7 hx heo hfam hcc hoff hoff2 e0 e1 e2 e3
      go_wp2_with fail
      obtain ⟨X, hX⟩ : ∃ X, X = (((w3.setCell ⟨w.heap.size, 0, none⟩ (.slice K kn kc)).setCell ⟨w.heap.size, 1, none⟩ (.int .u64 (x.seq : Int))).setCell ⟨w.heap.size, 2, none⟩ (.int .u8 (x.kind : Int))).setCell ⟨w.heap.size, 3, none⟩ (.slice V vn vc) := ⟨_, rfl⟩
      rw [← hX]
      obtain ⟨zX, bX, eX, fX⟩ := HF.out X hX
      clear x0 x1 x2 x3 y0 y1 y2 y3
      obtain ⟨x0, x1, x2, x3, _⟩ := zX.c4
      exact bodyPost_ret (v := .tuple #[.agg #[.slice K kn kc, .int .u64 (x.seq : Int), .int .u8 (x.kind : Int), .slice V vn vc], .bool true, .int .i64 0]) (by simp [results, Try.results15, go_sem, x0, x1, x2, x3]; try rfl) rfl ⟨bX, .inr (.inr ⟨rfl, r, x, HX.out.1, HX.out.2.1, HX.out.2.2, K, kn, kc, V, vn, vc, rfl, eX, fX⟩)⟩
end Go.Proofs.Ytgigohfjioifaaa
namespace Go.Proofs.Ytgigohfjioifaaa
open Go Go.RowKit

theorem firstT_find {x : En} : ∀ {t : Tr} {f : Option En}, SortL t.list → firstT x t f = (t.list.find? (fun e => !lessE e x)).or f
  | .nil, f, _ => by simp [firstT, Tr.list]
  | .node l e r, f, hs => by
    have hs' : SortL (l.list ++ e :: r.list) := hs
    obtain ⟨sl, sr, slr⟩ := List.pairwise_append.1 hs'
    obtain ⟨er, srr⟩ := List.pairwise_cons.1 sr
    unfold firstT
    rw [Tr.list, List.find?_append, List.find?_cons]
    split
    · next h =>
      have hn : l.list.find? (fun e => !lessE e x) = none := by
        rw [List.find?_eq_none]
        intro y hy
        rw [lessE_trans (slr y hy e (by simp)) h]
        simp
      rw [hn, h, firstT_find srr]
      rfl
    · next h =>
      have h' : lessE e x = false := by simpa using h
      rw [h', firstT_find sl]
      cases l.list.find? (fun e => !lessE e x) <;> rfl
theorem tabGet_list {t : Tr} {key : List UInt8} {at_ : Nat} (hs : SortL t.list) : tabGet t key at_ = findL key at_ t.list := by
  unfold tabGet
  rw [firstT_find hs, Option.or_none, keyed_find hs]
end Go.Proofs.Ytgigohfjioifaaa
namespace Go.Proofs.Ytgigohfjioifaaa
open Go Go.RowKit

/-- A number as a value. -/
def uv (m : Nat) : Value := .int .u64 (m : Int)
/-- 'The slice of n numbers at A reads as these.' -/
def RdU (w : World) (A : Option Addr) (n : Nat) (ms : List Nat) : Prop := RdV w A n (ms.map uv) ∧ ∀ m ∈ ms, U64 m
theorem RdU.len {w : World} {A : Option Addr} {n : Nat} {ms : List Nat} (h : RdU w A n ms) : ms.length = n := by
  have := h.1.1
  simpa using this
theorem RdU.below {w w' : World} {A : Option Addr} {n : Nat} {ms : List Nat} (h : RdU w A n ms) (hb : Below w.heap.size w w') : RdU w' A n ms := ⟨h.1.below hb, h.2⟩
theorem RdU.drewN {w : World} {A : Option Addr} {n : Nat} {ms : List Nat} (h : RdU w A n ms) (q : Nat) : RdU (w.drewN q) A n ms := h.below (below_drewN (Below.refl _ _) q)
theorem RdU.at_ {w : World} {b off n : Nat} {ms : List Nat} (h : RdU w (some ⟨b, off, none⟩) n ms) (k : Nat) (hk : k < n) : ∃ m, ms[k]? = some m ∧ w.cell? ⟨b, off + k, none⟩ = some (.int .u64 (m : Int)) ∧ U64 m := by
  obtain ⟨v, h1, h2⟩ := h.1.at_ k hk
  rw [List.getElem?_map] at h1
  cases hm : ms[k]? with
  | none => rw [hm] at h1; cases h1
  | some m =>
    rw [hm] at h1
    injection h1 with h1
    exact ⟨m, rfl, by rw [h2, ← h1]; rfl, h.2 m (List.mem_of_getElem? hm)⟩
set_option maxRecDepth 100000 in
theorem isNaNc_any (x : Nat) (w : World) : Calls Try.prog 136 #[.int .u64 (x : Int)] w (fun e w' => e = .returned (.bool false) ∧ w' = w) := by
  go_enter Try.func136, Try.ntmps136
  go_wp2_with fail
  go_ret
  exact ⟨rfl, rfl⟩
set_option maxRecDepth 100000 in
theorem isNaNs_any (x : Nat) (w : World) : Calls Try.prog 118 #[.int .u64 (x : Int)] w (fun e w' => e = .returned (.bool false) ∧ w' = w) := by
  go_enter Try.func118, Try.ntmps118
  go_wp2_with fail
  go_ret
  exact ⟨rfl, rfl⟩
set_option maxRecDepth 100000 in
theorem lessU_any (x y : Nat) (w : World) : Calls Try.prog 117 #[.int .u64 (x : Int), .int .u64 (y : Int)] w (fun e w' => e = .returned (.bool (decide (x < y))) ∧ w' = w) := by
  go_enter Try.func117, Try.ntmps117
  by_cases hlt : x < y
  · go_wp2_with (first | (go_at_call 136; with_reducible refine (isNaNc_any _ _).mono ?_; rintro e wx ⟨rfl, rfl⟩))
    go_ret
    exact ⟨by simp [hlt], rfl⟩
  · go_wp2_with (first | (go_at_call 136; with_reducible refine (isNaNc_any _ _).mono ?_; rintro e wx ⟨rfl, rfl⟩))
    go_ret
    exact ⟨by simp [hlt], rfl⟩
/-- The least place whose number isn't below x. -/
def RetBs (w : World) (n : Nat) (ms : List Nat) (x : Nat) (e : Ending) (w' : World) : Prop :=
  ∃ (r : Nat) (f : Bool), e = .returned (.tuple #[.int .i64 (r : Int), .bool f]) ∧ r ≤ n ∧ (∀ t m, t < r → ms[t]? = some m → m < x) ∧ (∀ t m, r ≤ t → ms[t]? = some m → x ≤ m) ∧ ∃ q, w' = w.drewN q
theorem pw_at {ms : List Nat} (h : ms.Pairwise (· ≤ ·)) {i j a b : Nat} (hij : i ≤ j) (h1 : ms[i]? = some a) (h2 : ms[j]? = some b) : a ≤ b := by
  obtain ⟨l1, e1⟩ := List.getElem?_eq_some_iff.1 h1
  obtain ⟨l2, e2⟩ := List.getElem?_eq_some_iff.1 h2
  rcases Nat.eq_or_lt_of_le hij with e | e
  · subst e
    rw [h1] at h2
    injection h2 with h2
    omega
  · have := List.pairwise_iff_getElem.1 h i j l1 l2 e
    omega
set_option maxRecDepth 100000 in
set_option maxHeartbeats 8000000 in
theorem binS_any {w : World} {A : Option Addr} {n c : Nat} {ms : List Nat} (h : RdU w A n ms) (hn : n ≤ 1099511627776) (hp : ms.Pairwise (· ≤ ·)) (x : Nat) : Calls Try.prog 97 #[.slice A n c, .int .u64 (x : Int)] w (RetBs w n ms x) := by
  have HL := Lib.hid h.len
  have HP := Lib.hid hp
  have HH := Lib.hid h
  clear h hp
  go_enter Try.func97, Try.ntmps97
  go_wp2_with fail
  go_loopw [7, 8] (fun s7 s8 wr => ∃ lo hi q : Nat, s7 = .int .i64 (lo : Int) ∧ s8 = .int .i64 (hi : Int) ∧ lo ≤ hi ∧ hi ≤ n ∧ (∀ t m, t < lo → ms[t]? = some m → m < x) ∧ (∀ t m, hi ≤ t → ms[t]? = some m → x ≤ m) ∧ wr = w.drewN q) (fun s7 s8 _ => (intOf s8).toNat - (intOf s7).toNat)
  case atStart => exact ⟨0, n, 0, rfl, rfl, Nat.zero_le _, Nat.le_refl _, (fun t m h => absurd h (Nat.not_lt_zero _)), (fun t m h1 h2 => by have := (List.getElem?_eq_some_iff.1 h2).1; have := HL.out; omega), rfl⟩
  case round =>
    obtain ⟨lo, hi, q, rfl, rfl, h1, h2, h3, h4, rfl⟩ := hrel
    have H3 := Lib.hid h3
    have H4 := Lib.hid h4
    obtain ⟨W, hW⟩ : ∃ W, W = w.drewN q := ⟨_, rfl⟩
    rw [← hW]
    have HW := Lib.hid hW
    have HR : Hid (RdU W A n ms) := Lib.hid (by rw [hW]; exact HH.out.drewN q)
    clear h3 h4 hW
    by_cases hlt : lo < hi
    · obtain ⟨m, hm⟩ : ∃ m, m = (lo + hi) / 2 := ⟨_, rfl⟩
      have e1 : ((lo : Int) + (hi : Int)) / 2 = (m : Int) := by omega
      have hmn : m < hi := by omega
      have hml : lo ≤ m := by omega
      have hmN : m < n := by omega
      obtain ⟨b, off, hAb, _⟩ := HR.out.1.pos (by omega)
      subst hAb
      obtain ⟨y, hy, hcy, _⟩ := HR.out.at_ m (by omega)
      have HY := Lib.hid hy
      by_cases hyx : y < x
      · have HN : Hid (∀ t m', t < m + 1 → ms[t]? = some m' → m' < x) := Lib.hid (fun t m' ht hm' => by have := pw_at HP.out (by omega : t ≤ m) hm' HY.out; omega)
        clear hm hy
        go_wp2_with (first | (go_at_call 117; with_reducible refine (lessU_any _ _ _).mono ?_; rintro e wx ⟨rfl, rfl⟩))
        go_roundw
        case rel => exact ⟨m + 1, hi, q, by go_num, rfl, by omega, h2, HN.out, H4.out, HW.out⟩
        case measure => simp [intOf]; omega
      · have HN : Hid (∀ t m', m ≤ t → ms[t]? = some m' → x ≤ m') := Lib.hid (fun t m' ht hm' => by have := pw_at HP.out ht HY.out hm'; omega)
        clear hm hy
        go_wp2_with (first | (go_at_call 117; with_reducible refine (lessU_any _ _ _).mono ?_; rintro e wx ⟨rfl, rfl⟩))
        go_roundw
        case rel => exact ⟨lo, m, q, rfl, rfl, hml, by omega, H3.out, HN.out, HW.out⟩
        case measure => simp [intOf]; omega
    · obtain rfl : lo = hi := by omega
      have HF : Hid (∀ f : Bool, RetBs w n ms x (.returned (.tuple #[.int .i64 (lo : Int), .bool f])) W) := Lib.hid (fun f => ⟨lo, f, rfl, h2, H3.out, H4.out, q, HW.out⟩)
      by_cases hln : lo < n
      · obtain ⟨b, off, hAb, _⟩ := HR.out.1.pos (by omega)
        subst hAb
        obtain ⟨y, hy, hcy, _⟩ := HR.out.at_ lo hln
        by_cases hyx : y = x
        · have t1 : ((y : Int) == (x : Int)) = true := by rw [beq_iff_eq]; omega
          clear hy
          go_wp2_with (first | (go_at_call 118; with_reducible refine (isNaNs_any _ _).mono ?_; rintro e wx ⟨rfl, rfl⟩))
          exact bodyPost_ret (v := .tuple #[.int .i64 (lo : Int), .bool true]) (by simp [results, Try.f97, go_sem]; try rfl) rfl (HF.out true)
        · have t1 : ((y : Int) == (x : Int)) = false := by rw [beq_eq_false_iff_ne]; omega
          clear hy
          go_wp2_with (first | (go_at_call 118; with_reducible refine (isNaNs_any _ _).mono ?_; rintro e wx ⟨rfl, rfl⟩))
          exact bodyPost_ret (v := .tuple #[.int .i64 (lo : Int), .bool false]) (by simp [results, Try.f97, go_sem]; try rfl) rfl (HF.out false)
      · go_wp2_with fail
        exact bodyPost_ret (v := .tuple #[.int .i64 (lo : Int), .bool false]) (by simp [results, Try.f97, go_sem]; try rfl) rfl (HF.out false)
/-- Is the i-th entry its key's version at one of the moments? -/
def seenE (es : List En) (i : Nat) (ms : List Nat) : Bool :=
  match es[i]? with
  | none => false
  | some x => ms.any (fun m => decide (x.seq ≤ m) && (match newerE es i with
    | none => true
    | some u => decide (m < u)))
theorem seenE_at {es : List En} {i : Nat} {ms : List Nat} {x : En} (h : es[i]? = some x) : seenE es i ms = ms.any (fun m => decide (x.seq ≤ m) && (match newerE es i with
    | none => true
    | some u => decide (m < u))) := by unfold seenE; rw [h]
/-- What isSeen hands back. -/
def RetBq (w : World) (b : Bool) (e : Ending) (w' : World) : Prop := e = .returned (.bool b) ∧ ∃ q, w' = w.drewN q
set_option maxRecDepth 100000 in
set_option maxHeartbeats 8000000 in
theorem isSeen_any {w : World} {A M : Option Addr} {n c mn mc : Nat} {es : List En} {ms : List Nat} (h : REs w A n es) (hn : n ≤ 1099511627776) (i : Nat) (hi : i < n) (hm : RdU w M mn ms) (hmn : mn ≤ 1099511627776) (hp : ms.Pairwise (· ≤ ·)) :
    Calls Try.prog 64 #[.slice A n c, .int .i64 (i : Int), .slice M mn mc] w (RetBq w (seenE es i ms)) := by
  obtain ⟨b, off, rfl, hbl⟩ := h.pos (by omega)
  obtain ⟨x, v0, v1, v2, v3, hx, c0, c1, c2, c3, hev⟩ := h.at_ i hi
  obtain ⟨K, kn, kc, V, vn, vc, rfl, rfl, rfl, rfl, _⟩ := hev.parts
  have HB := Lib.hid (binS_any (c := mc) hm hmn hp x.seq)
  have HNW : Hid (∀ q, Calls Try.prog 69 #[.slice (some ⟨b, off, none⟩) n c, .int .i64 (i : Int)] (w.drewN q) (RetNw (w.drewN q) (newerE es i))) := Lib.hid (fun q => mgNewer_any (h.drewN q) hn i hi)
  have HSE := Lib.hid (seenE_at (ms := ms) hx)
  have HM := Lib.hid hm
  have HML := Lib.hid hm.len
  have HP := Lib.hid hp
  clear h hx hev hm hp
  go_enter Try.func64, Try.ntmps64
  go_wp2_with fail
  with_reducible refine HB.out.mono ?_
  rintro e w1 ⟨r, f, rfl, hr, hlo, hhi, q, hq⟩
  have HLO := Lib.hid hlo
  have HHI := Lib.hid hhi
  have HQ := Lib.hid hq
  clear hlo hhi hq
  by_cases hrn : r = mn
  · subst hrn
    have HF : Hid (seenE es i ms = false) := Lib.hid (by
      rw [HSE.out, List.any_eq_false]
      intro m hm
      obtain ⟨t, ht⟩ := List.mem_iff_getElem?.1 hm
      have := HLO.out t m (by have := (List.getElem?_eq_some_iff.1 ht).1; have := HML.out; omega) ht
      have : ¬ x.seq ≤ m := by omega
      simp [this])
    go_wp2_with fail
    go_ret
    exact ⟨by rw [HF.out]; rfl, q, HQ.out⟩
  · have t1 : ((r : Int) == (mn : Int)) = false := by rw [beq_eq_false_iff_ne]; omega
    have hrl : r < mn := by omega
    obtain ⟨o, ho⟩ : ∃ o, o = newerE es i := ⟨_, rfl⟩
    have hNW := HNW.out q
    rw [← ho, ← HQ.out] at hNW
    have HNW2 := Lib.hid hNW
    have HO := Lib.hid ho
    clear hNW ho
    obtain ⟨mb, mo, hMb, _⟩ := HM.out.1.pos (by omega)
    subst hMb
    obtain ⟨m1, hm1, hcm, _⟩ := (HM.out.drewN q).at_ r hrl
    have HM1 := Lib.hid hm1
    have hcm1 : w1.cell? ⟨mb, mo + r, none⟩ = some (.int .u64 (m1 : Int)) := by rw [HQ.out]; exact hcm
    clear hm1 hcm c0 c1 c2 c3
    have HCM : Hid (∀ q, (w1.drewN q).cell? ⟨mb, mo + r, none⟩ = some (.int .u64 (m1 : Int))) := Lib.hid (fun q => by rw [← hcm1]; exact (below_drewN (Below.refl w1.heap.size w1) q).cell (p := ⟨mb, mo + r, none⟩) (by
      obtain ⟨b', o', e1, e2, _⟩ := (HM.out.drewN 0).1.2 (by omega)
      injection e1 with e1
      injection e1 with e1 _
      subst e1
      rw [HQ.out]
      simpa using e2))
    have hsx : x.seq ≤ m1 := HHI.out r m1 (Nat.le_refl _) HM1.out
    have HSX := Lib.hid hsx
    go_wp2_with fail
    with_reducible refine HNW2.out.mono ?_
    rintro e w2 ⟨rfl, q2, hq2⟩
    have hcm2 : w2.cell? ⟨mb, mo + r, none⟩ = some (.int .u64 (m1 : Int)) := by rw [hq2]; exact HCM.out q2
    have HQ2 : Hid (∃ q', w2 = w.drewN q') := Lib.hid ⟨_, by rw [hq2, HQ.out, World.drewN_drewN]⟩
    clear hq2 hcm1 hsx
    cases o with
    | none =>
      have HF : Hid (seenE es i ms = true) := Lib.hid (by
        rw [HSE.out, ← HO.out, List.any_eq_true]
        exact ⟨m1, List.mem_of_getElem? HM1.out, by simp [HSX.out]⟩)
      go_wp2_with fail
      go_ret
      exact ⟨by rw [HF.out]; rfl, HQ2.out⟩
    | some u =>
      by_cases hmu : m1 < u
      · have HF : Hid (seenE es i ms = true) := Lib.hid (by
          rw [HSE.out, ← HO.out, List.any_eq_true]
          exact ⟨m1, List.mem_of_getElem? HM1.out, by simp [HSX.out, hmu]⟩)
        go_wp2_with fail
        go_ret
        exact ⟨by rw [HF.out]; rfl, HQ2.out⟩
      · have HF : Hid (seenE es i ms = false) := Lib.hid (by
          rw [HSE.out, ← HO.out, List.any_eq_false]
          intro m hm
          obtain ⟨t, ht⟩ := List.mem_iff_getElem?.1 hm
          rcases Nat.lt_or_ge t r with htr | htr
          · have := HLO.out t m htr ht
            have : ¬ x.seq ≤ m := by omega
            simp [this]
          · have := pw_at HP.out htr HM1.out ht
            have : ¬ m < u := by omega
            simp [this])
        go_wp2_with fail
        go_ret
        exact ⟨by rw [HF.out]; rfl, HQ2.out⟩
end Go.Proofs.Ytgigohfjioifaaa
namespace Go.Proofs.Ytgigohfjioifaaa
open Go Go.RowKit

/-- The entries of a tree with keys from xs on and below ys. -/
def betw (xs ys : List UInt8) : Tr → List En
  | .nil => []
  | .node l e r => (if 0 ≤ cmpB e.key xs then betw xs ys l else []) ++ (if 0 ≤ cmpB e.key xs ∧ (ys.length = 0 ∨ cmpB e.key ys < 0) then [e] else []) ++ (if ys.length = 0 ∨ cmpB e.key ys < 0 then betw xs ys r else [])
theorem betw_num (xs ys : List UInt8) : ∀ t : Tr, (betw xs ys t).length ≤ t.num
  | .nil => Nat.le_refl _
  | .node l e r => by
    have h1 := betw_num xs ys l
    have h2 := betw_num xs ys r
    simp only [betw, Tr.num, List.length_append]
    split <;> split <;> split <;> simp <;> omega
def RetBt (W : World) (es : List En) (e : Ending) (w' : World) : Prop := ∃ L k d, e = .returned (.slice L k d) ∧ RowE W W.heap.size L k d es w'
theorem RetBt.out {W : World} {es : List En} {e : Ending} {w' : World} (h : RetBt W es e w') : ∃ L k d, e = .returned (.slice L k d) ∧ RowE W W.heap.size L k d es w' := h
set_option maxRecDepth 100000 in
set_option maxHeartbeats 8000000 in
theorem between_any {G : Nat → Prop} {W : World} {F T : Option Addr} {fn fc tn tc : Nat} {xs ys : List UInt8} (hf : Rd W F fn xs) (ht : Rd W T tn ys) : ∀ (t : Tr) (A : Option Addr), TrAt G W t A → (∀ e ∈ t.list, SzE e) → ∀ (es : List En) (L : Option Addr) (k d : Nat) (wr : World), RowE W W.heap.size L k d es wr → k + t.num ≤ 1099511627776 →
    Calls Try.prog 80 #[.pointer A, .slice L k d, .slice F fn fc, .slice T tn tc] wr (RetBt W (es ++ betw xs ys t)) := by
  intro t
  induction t with
  | nil =>
    intro A hA _ es L k d wr hrow hnum
    have hA' : A = none := hA
    subst hA'
    have HR := Lib.hid hrow
    clear hrow hA
    go_enter Try.func80, Try.ntmps80
    go_wp2
    go_ret
    exact ⟨L, k, d, rfl, by rw [betw, List.append_nil]; exact HR.out⟩
  | node l e r ihl ihr =>
    intro A hA hs es L k d wr hrow hnum
    obtain ⟨b, rfl⟩ := hA.ptr
    obtain ⟨pe, pl, pr, n0, n1, n2, nlt, he, hl, hr⟩ := hA.cells
    obtain ⟨z0, z1, z2, z3, cz, ez⟩ := he
    obtain ⟨K, kn, kc, V, vn, vc, rfl, rfl, rfl, rfl, r0, r3, _⟩ := ez.1.ev.parts
    have hsz : SzE e := hs e (by simp [Tr.list])
    have hnm : l.num + 1 + r.num = (Tr.node l e r).num := rfl
    have HIL := Lib.hid (ihl pl hl (fun x hx => hs x (by simp [Tr.list, hx])))
    have HIR := Lib.hid (ihr pr hr (fun x hx => hs x (by simp [Tr.list, hx])))
    have HR := Lib.hid hrow
    have HSX : Hid (∀ wx, Below W.heap.size W wx → wx.cell? ⟨b, 0, none⟩ = some (.pointer (some ⟨pe, 0, none⟩)) ∧ wx.cell? ⟨b, 1, none⟩ = some (.pointer pl) ∧ wx.cell? ⟨b, 2, none⟩ = some (.pointer pr) ∧ wx.cell? ⟨pe, 0, none⟩ = some (.slice K kn kc) ∧ wx.cell? ⟨pe, 1, none⟩ = some (.int .u64 (e.seq : Int)) ∧ wx.cell? ⟨pe, 2, none⟩ = some (.int .u8 (e.kind : Int)) ∧ wx.cell? ⟨pe, 3, none⟩ = some (.slice V vn vc)) := Lib.hid (fun wx h => by
      obtain ⟨d0, d1, d2, d3, _⟩ := (cz.below h).c4
      exact ⟨(h.cell (p := ⟨b, 0, none⟩) nlt).trans n0, (h.cell (p := ⟨b, 1, none⟩) nlt).trans n1, (h.cell (p := ⟨b, 2, none⟩) nlt).trans n2, d0, d1, d2, d3⟩)
    obtain ⟨y1, hy1⟩ : ∃ y, cmpB e.key xs = y := ⟨_, rfl⟩
    obtain ⟨y2, hy2⟩ : ∃ y, cmpB e.key ys = y := ⟨_, rfl⟩
    have HC1 : Hid (∀ wx, Below W.heap.size W wx → Calls Try.prog 82 #[.slice K kn kc, .slice F fn fc] wx fun e' w' => e' = .returned (.int .i64 y1) ∧ wx = w') := Lib.hid (fun wx h => Cmp_is K F kn fn kc fc e.key xs y1 hy1 wx (r0.below h) (hf.below h))
    have HC2 : Hid (∀ wx, Below W.heap.size W wx → Calls Try.prog 82 #[.slice K kn kc, .slice T tn tc] wx fun e' w' => e' = .returned (.int .i64 y2) ∧ wx = w') := Lib.hid (fun wx h => Cmp_is K T kn tn kc tc e.key ys y2 hy2 wx (r0.below h) (ht.below h))
    have HOW : Hid (∀ wx, Below W.heap.size W wx → Calls Try.prog 75 #[.agg #[.slice K kn kc, .int .u64 (e.seq : Int), .int .u8 (e.kind : Int), .slice V vn vc]] wx (RetEn wx e)) := Lib.hid (fun wx h => own_any (ez.1.ev.below h) hsz)
    have hBT : betw xs ys (.node l e r) = (if 0 ≤ y1 then betw xs ys l else []) ++ (if 0 ≤ y1 ∧ (tn = 0 ∨ y2 < 0) then [e] else []) ++ (if tn = 0 ∨ y2 < 0 then betw xs ys r else []) := by rw [betw, hy1, hy2, ht.len]
    have HBT := Lib.hid hBT
    have HWF : Hid (U64 e.seq ∧ e.kind < 256) := Lib.hid ⟨ez.1.ev.2.2.1, ez.1.ev.2.2.2.1⟩
    have HBL := Lib.hid (betw_num xs ys l)
    have BW := Lib.hid (RowE.bel hrow)
    obtain ⟨e0, e1, e2, e3, e4, e5, e6⟩ := HSX.out wr BW.out
    have C1 := Lib.hid (HC1.out wr BW.out)
    have C2 := Lib.hid (HC2.out wr BW.out)
    clear ihl ihr hA n0 n1 n2 cz ez r0 r3 hl hr hy1 hy2 hBT hrow hs HC1 HC2
    go_enter Try.func80, Try.ntmps80
    by_cases hb : 0 ≤ y1
    · have tb : decide (0 ≤ y1) = true := by simpa using hb
      by_cases h0 : tn = 0
      · subst h0
        have HA : Hid ((0 : Nat) = 0 ∨ y2 < 0) := Lib.hid (.inl rfl)
        go_wp2_with fail
        with_reducible refine C1.out.mono ?_
        rintro e' w1 ⟨rfl, rfl⟩
        go_wp2_with fail
        with_reducible refine (HIL.out es L k d wr HR.out (by omega)).mono ?_
        intro e' w2 hq
        obtain ⟨L2, k2, d2, h1, hrow2⟩ := RetBt.out hq
        subst h1
        have HR2 := Lib.hid hrow2
        have hk2 : k2 ≤ k + l.num := by have q1 := RowE.len hrow2; have q2 := RowE.len HR.out; have q3 := HBL.out; rw [List.length_append] at q1; omega
        have BW2 := Lib.hid (RowE.bel hrow2)
        clear e0 e1 e2 e3 e4 e5 e6 hq hrow2
        obtain ⟨e0, e1, e2, e3, e4, e5, e6⟩ := HSX.out w2 BW2.out
        go_wp2_with fail
        with_reducible refine (HOW.out w2 BW2.out).mono ?_
        intro e' w3 hq
        obtain ⟨K3, kn3, kc3, V3, vn3, vc3, h1, o1, o2, b3, dj⟩ := hq
        subst h1
        obtain ⟨vs, q1, q2, q3, q4, q5, q6, q7⟩ := HR2.out
        have HFM := Lib.hid (fam_two o1 o2 dj)
        have Q7 := Lib.hid q7
        have s3 := b3.size
        have HEO : Hid (EO W.heap.size w3 e (.slice K3 kn3 kc3) (.int .u64 (e.seq : Int)) (.int .u8 (e.kind : Int)) (.slice V3 vn3 vc3)) := Lib.hid ⟨K3, kn3, kc3, V3, vn3, vc3, rfl, rfl, rfl, rfl, o1.mono q6, o2.mono q6, HWF.out⟩
        have HOF : Hid (OffW [.slice K3 kn3 kc3, .int .u64 (e.seq : Int), .int .u8 (e.kind : Int), .slice V3 vn3 vc3] (blk L2)) := Lib.hid (EO.off (base := w2.heap.size) (w := w3) (e := e) ⟨K3, kn3, kc3, V3, vn3, vc3, rfl, rfl, rfl, rfl, o1, o2, HWF.out⟩ (fun g hg => .inl (q1.lt g hg).2))
        have HB3 := Lib.hid b3
        have Q1 := Lib.hid q1
        have Q2 := Lib.hid q2
        have Q3 := Lib.hid q3
        have Q4 := Lib.hid q4
        have Q5 := Lib.hid q5
        have hcell : ∀ u ∈ [Value.slice K3 kn3 kc3, .int .u64 (e.seq : Int), .int .u8 (e.kind : Int), .slice V3 vn3 vc3], u.oneCell' = true := HEO.out.ev.cells
        have HCL := Lib.hid hcell
        clear o1 o2 b3 dj q1 q2 q3 q4 q5 q7 hcell e0 e1 e2 e3 e4 e5 e6
        go_wp2_with (at_builtin; refine wpList_app4t w3 rfl _ _ 25 rfl W.heap.size _ 64 Try.underlying25 info_ent rfl L2 k2 d2 vs rfl (Q1.out.below HB3.out) _ _ _ _ HCL.out w3.heap.size rfl rfl ?_ ?_ ?_ ?_)
        · omega
        · omega
        · omega
        intro L4 d4 w4 hG4 hg4 hb4
        have HR4 : Hid (RowE W W.heap.size L4 (k2 + 1) d4 (es ++ betw xs ys l ++ [e]) w4) := Lib.hid (rowE_snoc Q1.out Q2.out Q3.out Q4.out Q5.out q6 Q7.out HB3.out HEO.out HOF.out HFM.out hG4 hg4 hb4)
        have BW4 := Lib.hid (RowE.bel HR4.out)
        clear hG4 hg4 hb4
        obtain ⟨e0, e1, e2, e3, e4, e5, e6⟩ := HSX.out w4 BW4.out
        go_wp2_with fail
        with_reducible refine (HIR.out (es ++ betw xs ys l ++ [e]) L4 (k2 + 1) d4 w4 HR4.out (by omega)).mono ?_
        intro e' w5 hq
        obtain ⟨L5, k5, d5, h1, hrow5⟩ := RetBt.out hq
        subst h1
        have HR5 := Lib.hid hrow5
        clear e0 e1 e2 e3 e4 e5 e6 hq hrow5
        go_wp2
        go_ret
        exact ⟨L5, k5, d5, rfl, by rw [HBT.out, if_pos hb, if_pos ⟨hb, HA.out⟩, if_pos HA.out]; simpa using HR5.out⟩
      · have t0 : ((tn : Int) == 0) = false := by simp; omega
        by_cases h2 : y2 < 0
        · have HA : Hid (tn = 0 ∨ y2 < 0) := Lib.hid (.inr h2)
          have t2 : decide (y2 < 0) = true := by simpa using h2
          go_wp2_with fail
          with_reducible refine C1.out.mono ?_
          rintro e' w1 ⟨rfl, rfl⟩
          go_wp2_with fail
          with_reducible refine C2.out.mono ?_
          rintro e' w1 ⟨rfl, rfl⟩
          go_wp2_with fail
          with_reducible refine (HIL.out es L k d wr HR.out (by omega)).mono ?_
          intro e' w2 hq
          obtain ⟨L2, k2, d2, h1, hrow2⟩ := RetBt.out hq
          subst h1
          have HR2 := Lib.hid hrow2
          have hk2 : k2 ≤ k + l.num := by have q1 := RowE.len hrow2; have q2 := RowE.len HR.out; have q3 := HBL.out; rw [List.length_append] at q1; omega
          have BW2 := Lib.hid (RowE.bel hrow2)
          clear e0 e1 e2 e3 e4 e5 e6 hq hrow2
          obtain ⟨e0, e1, e2, e3, e4, e5, e6⟩ := HSX.out w2 BW2.out
          go_wp2_with fail
          with_reducible refine (HOW.out w2 BW2.out).mono ?_
          intro e' w3 hq
          obtain ⟨K3, kn3, kc3, V3, vn3, vc3, h1, o1, o2, b3, dj⟩ := hq
          subst h1
          obtain ⟨vs, q1, q2, q3, q4, q5, q6, q7⟩ := HR2.out
          have HFM := Lib.hid (fam_two o1 o2 dj)
          have Q7 := Lib.hid q7
          have s3 := b3.size
          have HEO : Hid (EO W.heap.size w3 e (.slice K3 kn3 kc3) (.int .u64 (e.seq : Int)) (.int .u8 (e.kind : Int)) (.slice V3 vn3 vc3)) := Lib.hid ⟨K3, kn3, kc3, V3, vn3, vc3, rfl, rfl, rfl, rfl, o1.mono q6, o2.mono q6, HWF.out⟩
          have HOF : Hid (OffW [.slice K3 kn3 kc3, .int .u64 (e.seq : Int), .int .u8 (e.kind : Int), .slice V3 vn3 vc3] (blk L2)) := Lib.hid (EO.off (base := w2.heap.size) (w := w3) (e := e) ⟨K3, kn3, kc3, V3, vn3, vc3, rfl, rfl, rfl, rfl, o1, o2, HWF.out⟩ (fun g hg => .inl (q1.lt g hg).2))
          have HB3 := Lib.hid b3
          have Q1 := Lib.hid q1
          have Q2 := Lib.hid q2
          have Q3 := Lib.hid q3
          have Q4 := Lib.hid q4
          have Q5 := Lib.hid q5
          have hcell : ∀ u ∈ [Value.slice K3 kn3 kc3, .int .u64 (e.seq : Int), .int .u8 (e.kind : Int), .slice V3 vn3 vc3], u.oneCell' = true := HEO.out.ev.cells
          have HCL := Lib.hid hcell
          clear o1 o2 b3 dj q1 q2 q3 q4 q5 q7 hcell e0 e1 e2 e3 e4 e5 e6
          go_wp2_with (at_builtin; refine wpList_app4t w3 rfl _ _ 25 rfl W.heap.size _ 64 Try.underlying25 info_ent rfl L2 k2 d2 vs rfl (Q1.out.below HB3.out) _ _ _ _ HCL.out w3.heap.size rfl rfl ?_ ?_ ?_ ?_)
          · omega
          · omega
          · omega
          intro L4 d4 w4 hG4 hg4 hb4
          have HR4 : Hid (RowE W W.heap.size L4 (k2 + 1) d4 (es ++ betw xs ys l ++ [e]) w4) := Lib.hid (rowE_snoc Q1.out Q2.out Q3.out Q4.out Q5.out q6 Q7.out HB3.out HEO.out HOF.out HFM.out hG4 hg4 hb4)
          have BW4 := Lib.hid (RowE.bel HR4.out)
          clear hG4 hg4 hb4
          obtain ⟨e0, e1, e2, e3, e4, e5, e6⟩ := HSX.out w4 BW4.out
          go_wp2_with fail
          with_reducible refine (HIR.out (es ++ betw xs ys l ++ [e]) L4 (k2 + 1) d4 w4 HR4.out (by omega)).mono ?_
          intro e' w5 hq
          obtain ⟨L5, k5, d5, h1, hrow5⟩ := RetBt.out hq
          subst h1
          have HR5 := Lib.hid hrow5
          clear e0 e1 e2 e3 e4 e5 e6 hq hrow5
          go_wp2
          go_ret
          exact ⟨L5, k5, d5, rfl, by rw [HBT.out, if_pos hb, if_pos ⟨hb, HA.out⟩, if_pos HA.out]; simpa using HR5.out⟩
        · have HA : Hid (¬ (tn = 0 ∨ y2 < 0)) := Lib.hid (fun h => h.elim h0 h2)
          have t2 : decide (y2 < 0) = false := by simpa using h2
          go_wp2_with fail
          with_reducible refine C1.out.mono ?_
          rintro e' w1 ⟨rfl, rfl⟩
          go_wp2_with fail
          with_reducible refine C2.out.mono ?_
          rintro e' w1 ⟨rfl, rfl⟩
          go_wp2_with fail
          with_reducible refine (HIL.out es L k d wr HR.out (by omega)).mono ?_
          intro e' w2 hq
          obtain ⟨L2, k2, d2, h1, hrow2⟩ := RetBt.out hq
          subst h1
          have HR2 := Lib.hid hrow2
          have hk2 : k2 ≤ k + l.num := by have q1 := RowE.len hrow2; have q2 := RowE.len HR.out; have q3 := HBL.out; rw [List.length_append] at q1; omega
          have BW2 := Lib.hid (RowE.bel hrow2)
          clear e0 e1 e2 e3 e4 e5 e6 hq hrow2
          obtain ⟨e0, e1, e2, e3, e4, e5, e6⟩ := HSX.out w2 BW2.out
          go_wp2
          go_ret
          exact ⟨L2, k2, d2, rfl, by rw [HBT.out, if_pos hb, if_neg (fun h => HA.out h.2), if_neg HA.out]; simpa using HR2.out⟩
    · have tb : decide (0 ≤ y1) = false := by simpa using hb
      have HNB : Hid (¬ 0 ≤ y1) := Lib.hid hb
      by_cases h0 : tn = 0
      · subst h0
        have HA : Hid ((0 : Nat) = 0 ∨ y2 < 0) := Lib.hid (.inl rfl)
        go_wp2_with fail
        with_reducible refine C1.out.mono ?_
        rintro e' w1 ⟨rfl, rfl⟩
        go_wp2_with fail
        with_reducible refine (HIR.out es L k d wr HR.out (by omega)).mono ?_
        intro e' w5 hq
        obtain ⟨L5, k5, d5, h1, hrow5⟩ := RetBt.out hq
        subst h1
        have HR5 := Lib.hid hrow5
        clear e0 e1 e2 e3 e4 e5 e6 hq hrow5
        go_wp2
        go_ret
        exact ⟨L5, k5, d5, rfl, by rw [HBT.out, if_neg (show ¬ 0 ≤ y1 by have := HNB.out; omega), if_neg (fun h => by have := HNB.out; have := h.1; omega), if_pos HA.out]; simpa using HR5.out⟩
      · have t0 : ((tn : Int) == 0) = false := by simp; omega
        by_cases h2 : y2 < 0
        · have HA : Hid (tn = 0 ∨ y2 < 0) := Lib.hid (.inr h2)
          have t2 : decide (y2 < 0) = true := by simpa using h2
          go_wp2_with fail
          with_reducible refine C1.out.mono ?_
          rintro e' w1 ⟨rfl, rfl⟩
          go_wp2_with fail
          with_reducible refine C2.out.mono ?_
          rintro e' w1 ⟨rfl, rfl⟩
          go_wp2_with fail
          with_reducible refine (HIR.out es L k d wr HR.out (by omega)).mono ?_
          intro e' w5 hq
          obtain ⟨L5, k5, d5, h1, hrow5⟩ := RetBt.out hq
          subst h1
          have HR5 := Lib.hid hrow5
          clear e0 e1 e2 e3 e4 e5 e6 hq hrow5
          go_wp2
          go_ret
          exact ⟨L5, k5, d5, rfl, by rw [HBT.out, if_neg (show ¬ 0 ≤ y1 by have := HNB.out; omega), if_neg (fun h => by have := HNB.out; have := h.1; omega), if_pos HA.out]; simpa using HR5.out⟩
        · have HA : Hid (¬ (tn = 0 ∨ y2 < 0)) := Lib.hid (fun h => h.elim h0 h2)
          have t2 : decide (y2 < 0) = false := by simpa using h2
          go_wp2_with fail
          with_reducible refine C1.out.mono ?_
          rintro e' w1 ⟨rfl, rfl⟩
          go_wp2_with fail
          with_reducible refine C2.out.mono ?_
          rintro e' w1 ⟨rfl, rfl⟩
          go_wp2
          go_ret
          exact ⟨L, k, d, rfl, by rw [HBT.out, if_neg (show ¬ 0 ≤ y1 by have := HNB.out; omega), if_neg (fun h => by have := HNB.out; have := h.1; omega), if_neg HA.out]; simpa using HR.out⟩
end Go.Proofs.Ytgigohfjioifaaa
namespace Go.Proofs.Ytgigohfjioifaaa
open Go Go.RowKit

theorem openG_one (r : List UInt8) (hr : r.length ≤ 1048576) : openG (sealB r) ((0 : Nat) : Int) = (r, ((8 + r.length : Nat) : Int), 0) := by
  have hl := sealB_len r
  have hm : r.length = numK ((sealB r).drop 0) 4 := by
    rw [List.drop_zero, sealB, numK_fourB _ _ (by omega)]
  have h2 : (sealB r).take (0 + 8 + r.length) = sealB r := List.take_of_length_le (by omega)
  have h4 : (sealB r).drop (0 + 8) = r := by
    unfold sealB
    rw [← List.append_assoc]
    exact List.drop_left' (by simp only [List.length_append, fourB_len])
  rw [openG_whole (a := 0) (n := 8 + r.length) hl hm (by omega) (by omega), h2, h4, List.drop_zero, eqB_self, if_pos rfl, Nat.zero_add]
theorem numR_at {xs pre r : List UInt8} {n a : Nat} (hx : xs = pre ++ (putU n ++ r)) (ha : a = pre.length) (h : n < B64) : numR xs (a, false) = (n, (a + (putU n).length, false)) := by
  subst hx ha
  unfold numR
  rw [getU_at pre r n h, if_pos rfl]
  simp only [Int.toNat_natCast]
theorem takeR_at {xs pre ys r : List UInt8} {n a : Nat} (hx : xs = pre ++ (ys ++ r)) (ha : a = pre.length) (hn : n = ys.length) : takeR xs n (a, false) = (ys, (a + n, false)) := by
  subst hx ha hn
  unfold takeR
  simp only [List.length_append]
  rw [if_neg (by omega), List.drop_left' rfl, List.take_left' rfl]
theorem comB_take : ∀ (xs ys : List UInt8), xs.take (comB xs ys) = ys.take (comB xs ys)
  | [], _ => by simp [comB]
  | _ :: _, [] => by simp [comB]
  | x :: xs, y :: ys => by
    unfold comB
    split
    · rename_i e
      subst e
      rw [List.take_succ_cons, List.take_succ_cons, comB_take xs ys]
    · simp
/-- An entry that was written is read back. -/
theorem ent_at {xs pre R ah : List UInt8} {x : En} {s a : Nat} (hx : xs = pre ++ (entB s x ++ R)) (ha : a = pre.length) (hs : s ≤ x.key.length) (hk : x.key.length ≤ 1024) (hv : x.val.length ≤ 65536) (hq : U64 x.seq) (hd : x.kind < 256) (hah : ah.take s = x.key.take s) :
    badR xs ah a = false ∧ entR xs ah a = x ∧ (e7R xs a).2.1 = a + (entB s x).length := by
  have hx0 : xs = pre ++ (putU s ++ (putU (x.key.length - s) ++ (putU x.seq ++ ([bt x.kind] ++ (putU x.val.length ++ (x.key.drop s ++ (x.val ++ R))))))) := by
    rw [hx]
    unfold entB
    simp only [List.append_assoc]
  have h1 : e1R xs a = (s, (a + (putU s).length, false)) := numR_at hx0 ha (by unfold B64; omega)
  have h2 : e2R xs a = (x.key.length - s, (a + (putU s).length + (putU (x.key.length - s)).length, false)) := by
    unfold e2R
    rw [h1]
    exact numR_at (pre := pre ++ putU s) (r := putU x.seq ++ ([bt x.kind] ++ (putU x.val.length ++ (x.key.drop s ++ (x.val ++ R))))) (by rw [hx0]; simp only [List.append_assoc]) (by simp only [List.length_append, ha]) (by unfold B64; omega)
  have h3 : e3R xs a = (x.seq, (a + (putU s).length + (putU (x.key.length - s)).length + (putU x.seq).length, false)) := by
    unfold e3R
    rw [h2]
    exact numR_at (pre := pre ++ putU s ++ putU (x.key.length - s)) (r := [bt x.kind] ++ (putU x.val.length ++ (x.key.drop s ++ (x.val ++ R)))) (by rw [hx0]; simp only [List.append_assoc]) (by simp only [List.length_append, ha]) hq
  have h4 : e4R xs a = ([bt x.kind], (a + (putU s).length + (putU (x.key.length - s)).length + (putU x.seq).length + 1, false)) := by
    unfold e4R
    rw [h3]
    exact takeR_at (pre := pre ++ putU s ++ putU (x.key.length - s) ++ putU x.seq) (r := putU x.val.length ++ (x.key.drop s ++ (x.val ++ R))) (by rw [hx0]; simp only [List.append_assoc]) (by simp only [List.length_append, ha]) rfl
  have h5 : e5R xs a = (x.val.length, (a + (putU s).length + (putU (x.key.length - s)).length + (putU x.seq).length + 1 + (putU x.val.length).length, false)) := by
    unfold e5R
    rw [h4]
    exact numR_at (pre := pre ++ putU s ++ putU (x.key.length - s) ++ putU x.seq ++ [bt x.kind]) (r := x.key.drop s ++ (x.val ++ R)) (by rw [hx0]; simp only [List.append_assoc]) (by simp only [List.length_append, List.length_cons, List.length_nil, ha]) (by unfold B64; omega)
  have h6 : e6R xs a = (x.key.drop s, (a + (putU s).length + (putU (x.key.length - s)).length + (putU x.seq).length + 1 + (putU x.val.length).length + (x.key.length - s), false)) := by
    unfold e6R
    rw [h2, h5]
    exact takeR_at (pre := pre ++ putU s ++ putU (x.key.length - s) ++ putU x.seq ++ [bt x.kind] ++ putU x.val.length) (r := x.val ++ R) (by rw [hx0]; simp only [List.append_assoc]) (by simp only [List.length_append, List.length_cons, List.length_nil, ha]) (by simp)
  have h7 : e7R xs a = (x.val, (a + (putU s).length + (putU (x.key.length - s)).length + (putU x.seq).length + 1 + (putU x.val.length).length + (x.key.length - s) + x.val.length, false)) := by
    unfold e7R
    rw [h5, h6]
    exact takeR_at (pre := pre ++ putU s ++ putU (x.key.length - s) ++ putU x.seq ++ [bt x.kind] ++ putU x.val.length ++ x.key.drop s) (r := R) (by rw [hx0]; simp only [List.append_assoc]) (by simp only [List.length_append, List.length_cons, List.length_nil, List.length_drop, ha]) rfl
  have hahl : s ≤ ah.length := by
    have := congrArg List.length hah
    simp only [List.length_take] at this
    omega
  refine ⟨?_, ?_, ?_⟩
  · unfold badR
    rw [h7, h1, h6]
    simp only [List.length_drop, Bool.false_or, Bool.or_eq_false_iff, decide_eq_false_iff_not]
    omega
  · unfold entR
    rw [h1, h3, h4, h6, h7]
    simp only [List.headD_cons]
    rw [hah, List.take_append_drop, bt_nat _ hd]
  · rw [h7]
    simp only
    unfold entB
    simp only [List.length_append, List.length_cons, List.length_nil, List.length_drop]
    omega
theorem outB_pre (ev : Nat) (es : List En) (i : Nat) : ∀ j, i ≤ j → ∃ R, outB ev es j = outB ev es i ++ R := by
  intro j
  induction j with
  | zero => intro h; exact ⟨[], by rw [show i = 0 by omega]; simp⟩
  | succ j ih =>
    intro h
    by_cases e : i = j + 1
    · exact ⟨[], by rw [e]; simp⟩
    · obtain ⟨R, hR⟩ := ih (by omega)
      rw [outB]
      split
      · exact ⟨R ++ entB (shB ev es j) _, by rw [hR, List.append_assoc]⟩
      · exact ⟨R, hR⟩
theorem rsB_pre (ev : Nat) (es : List En) (i : Nat) : ∀ j, i ≤ j → ∃ R, rsB ev es j = rsB ev es i ++ R := by
  intro j
  induction j with
  | zero => intro h; exact ⟨[], by rw [show i = 0 by omega]; simp⟩
  | succ j ih =>
    intro h
    by_cases e : i = j + 1
    · exact ⟨[], by rw [e]; simp⟩
    · obtain ⟨R, hR⟩ := ih (by omega)
      rw [rsB]
      split
      · exact ⟨R ++ fourB _, by rw [hR, List.append_assoc]⟩
      · exact ⟨R, hR⟩
theorem rsB_mod (ev : Nat) (es : List En) : ∀ i, (rsB ev es i).length % 4 = 0
  | 0 => rfl
  | i + 1 => by
    have := rsB_mod ev es i
    unfold rsB
    split
    · rw [List.length_append, fourB_len]; omega
    · exact this
theorem rsB_one {ev : Nat} {es : List En} : ∀ {i : Nat}, 1 ≤ i → i ≤ ev → rsB ev es i = fourB 0
  | 0, h, _ => absurd h (by omega)
  | i + 1, _, h2 => by
    by_cases e : i = 0
    · subst e
      rw [rsB, if_pos (Nat.zero_mod _)]
      rfl
    · rw [rsB, if_neg (by rw [Nat.mod_eq_of_lt (by omega)]; exact e)]
      exact rsB_one (by omega) (by omega)
theorem entB_pos (s : Nat) (x : En) : 1 ≤ (entB s x).length := by
  have := putU_pos s
  unfold entB
  simp only [List.length_append]
  omega
theorem lastK_take {es : List En} {i : Nat} {y : En} (h : es[i]? = some y) : lastK (es.take (i + 1)) = y.key := by
  rw [List.take_add_one, h]
  exact lastK_snoc _ y
theorem sh_take {ev i : Nat} {es : List En} {x : En} (h : es[i]? = some x) : (lastK (es.take i)).take (shB ev es i) = x.key.take (shB ev es i) := by
  unfold shB
  split
  · simp
  · rename_i h0
    obtain ⟨j, rfl⟩ : ∃ j, i = j + 1 := ⟨i - 1, by
      rcases Nat.eq_zero_or_pos i with e | e
      · rw [e, Nat.zero_mod] at h0; exact absurd rfl h0
      · omega⟩
    obtain ⟨y, hy⟩ : ∃ y, es[j]? = some y := ⟨_, List.getElem?_eq_getElem (by have := (List.getElem?_eq_some_iff.1 h).1; omega)⟩
    rw [Nat.add_sub_cancel, hy, h, lastK_take hy]
    exact comB_take _ _
/-- Reading on from the i-th entry. -/
theorem par_from {ev : Nat} {es : List En} {sec : Int} (hz : ∀ x ∈ es, x.key.length ≤ 1024 ∧ x.val.length ≤ 65536) (hw : ∀ x ∈ es, U64 x.seq ∧ x.kind < 256) (g : Nat → Nat → Nat) (hg0 : ∀ c, g es.length c = c)
    (hg : ∀ i c, i < es.length → g i c = g (i + 1) (if ((outB ev es i).length : Int) = sec then i else c)) : ∀ (k i f c : Nat), i + k = es.length → k < f → parR (outB ev es es.length) sec f (outB ev es i).length (es.take i) c = some (es, g i c)
  | 0, i, f, c, hi, hf => by
    obtain ⟨f', rfl⟩ : ∃ f', f = f' + 1 := ⟨f - 1, by omega⟩
    obtain rfl : i = es.length := by omega
    rw [parR, if_pos (Nat.le_refl _), hg0, List.take_length]
  | k + 1, i, f, c, hi, hf => by
    obtain ⟨f', rfl⟩ : ∃ f', f = f' + 1 := ⟨f - 1, by omega⟩
    have hlt : i < es.length := by omega
    obtain ⟨x, hx⟩ : ∃ x, es[i]? = some x := ⟨_, List.getElem?_eq_getElem hlt⟩
    have hm := List.mem_of_getElem? hx
    obtain ⟨R, hR⟩ := outB_pre ev es (i + 1) es.length hlt
    rw [outB_step hx, List.append_assoc] at hR
    have hpos := entB_pos (shB ev es i) x
    obtain ⟨q1, q2, q3⟩ := ent_at (ah := lastK (es.take i)) hR rfl (shB_le hx) (hz x hm).1 (hz x hm).2 (hw x hm).1 (hw x hm).2 (sh_take hx)
    have hlen : (outB ev es i).length < (outB ev es es.length).length := by
      rw [hR]
      simp only [List.length_append]
      omega
    have hnx : (outB ev es i).length + (entB (shB ev es i) x).length = (outB ev es (i + 1)).length := by rw [outB_step hx, List.length_append]
    have htk : es.take i ++ [x] = es.take (i + 1) := by rw [List.take_add_one, hx]; rfl
    rw [parR, if_neg (by omega), q1, q2, q3, hnx, htk, List.length_take, Nat.min_eq_left (by omega)]
    simp only [Bool.false_eq_true, if_false]
    rw [par_from hz hw g hg0 hg k (i + 1) f' _ (by omega) (by omega), ← hg i c hlt]
theorem split_full {ev : Nat} {es : List En} (hF : (fullB ev es).length ≤ 1048576) : splitB (fullB ev es) = some (outB ev es es.length, rsB ev es es.length) := by
  have hm := rsB_mod ev es es.length
  obtain ⟨o, ho⟩ : ∃ o, o = outB ev es es.length := ⟨_, rfl⟩
  obtain ⟨r, hr⟩ : ∃ r, r = rsB ev es es.length := ⟨_, rfl⟩
  have hf : fullB ev es = o ++ r ++ fourB (r.length / 4) := by unfold fullB; rw [← ho, ← hr]
  rw [← hr] at hm
  rw [← ho, ← hr, hf]
  rw [hf] at hF
  have hl : (o ++ r ++ fourB (r.length / 4)).length = o.length + r.length + 4 := by simp only [List.length_append, fourB_len]
  have hd : (o ++ r ++ fourB (r.length / 4)).drop (o.length + r.length) = fourB (r.length / 4) := List.drop_left' (by simp)
  have hnk : numK (fourB (r.length / 4)) 4 = r.length / 4 := by
    have := numK_fourB (r.length / 4) [] (by omega)
    rw [List.append_nil] at this
    exact this
  unfold splitB
  rw [hl, if_neg (by omega), Nat.add_sub_cancel, hd, hnk]
  simp only
  rw [if_neg (by omega), show o.length + r.length - 4 * (r.length / 4) = o.length by omega]
  congr 2
  · rw [List.append_assoc]
    exact List.take_left' rfl
  · rw [show (o ++ r ++ fourB (r.length / 4)).take (o.length + r.length) = o ++ r from List.take_left' (by simp)]
    exact List.drop_left' rfl
theorem out_congr {ev ev2 : Nat} {es : List En} : ∀ {n : Nat}, (∀ i, i < n → (i % ev = 0 ↔ i % ev2 = 0)) → outB ev es n = outB ev2 es n ∧ rsB ev es n = rsB ev2 es n
  | 0, _ => ⟨rfl, rfl⟩
  | n + 1, h => by
    obtain ⟨h1, h2⟩ := out_congr (ev := ev) (ev2 := ev2) (es := es) (n := n) (fun i hi => h i (by omega))
    have hs : shB ev es n = shB ev2 es n := by
      unfold shB
      by_cases e : n % ev = 0
      · rw [if_pos e, if_pos ((h n (by omega)).1 e)]
      · rw [if_neg e, if_neg (fun e2 => e ((h n (by omega)).2 e2))]
    refine ⟨?_, ?_⟩
    · rw [outB, outB, h1, hs]
    · rw [rsB, rsB, h1, h2]
      by_cases e : n % ev = 0
      · rw [if_pos e, if_pos ((h n (by omega)).1 e)]
      · rw [if_neg e, if_neg (fun e2 => e ((h n (by omega)).2 e2))]
theorem build_congr {ev ev2 : Nat} {es : List En} (h : ∀ i, i < es.length → (i % ev = 0 ↔ i % ev2 = 0)) : buildE ev es = buildE ev2 es := by
  have hf : fullB ev es = fullB ev2 es := by
    obtain ⟨h1, h2⟩ := out_congr (ev := ev) (ev2 := ev2) (es := es) h
    unfold fullB
    rw [h1, h2]
  unfold buildE
  rw [hf]
/-- What was built is read. -/
theorem dec_build {ev : Nat} {es : List En} (he : 1 ≤ ev) (hw : ∀ x ∈ es, U64 x.seq ∧ x.kind < 256) (hb : (buildE ev es).2 = 0) : decB (buildE ev es).1 = (es, 0) := by
  obtain ⟨h1, h2, h3, h4, h5⟩ := buildE_ord hb
  have hz := longE_no h3
  rw [h4]
  unfold decB
  rw [openG_one _ h5]
  simp only
  rw [if_neg (by simp)]
  have hsp := split_full h5
  have hmn : ∀ i, i < es.length → (outB ev es i).length < (outB ev es (i + 1)).length := fun i hi => by
    obtain ⟨x, hx⟩ : ∃ x, es[i]? = some x := ⟨_, List.getElem?_eq_getElem hi⟩
    rw [outB_step hx, List.length_append]
    have := entB_pos (shB ev es i) x
    omega
  by_cases hev : ev < es.length
  · -- two restarts at least
    obtain ⟨R, hR⟩ := rsB_pre ev es (ev + 1) es.length hev
    rw [rsB, if_pos (Nat.mod_self ev), rsB_one he (Nat.le_refl _)] at hR
    have hrl : 8 ≤ (rsB ev es es.length).length := by
      rw [hR]
      simp only [List.length_append, fourB_len]
      omega
    have hol : (outB ev es ev).length ≤ 1048576 := by
      have := outB_mono ev es ev es.length (by omega)
      unfold fullB at h5
      simp only [List.length_append] at h5
      omega
    have hnk : numK ((rsB ev es es.length).drop 4) 4 = (outB ev es ev).length := by
      rw [hR, List.append_assoc, List.drop_left' (fourB_len 0)]
      exact numK_fourB _ _ (by omega)
    have hpb : parB (fullB ev es) = some (es, ev) := by
      unfold parB
      rw [hsp]
      simp only
      rw [if_pos hrl, hnk]
      have hmono : ∀ i, i < es.length → (((outB ev es i).length : Int) = ((outB ev es ev).length : Int) ↔ i = ev) := fun i hi => by
        constructor
        · intro h
          have h : (outB ev es i).length = (outB ev es ev).length := by omega
          rcases Nat.lt_trichotomy i ev with e | e | e
          · have a1 := hmn i hi
            have a2 := outB_mono ev es (i + 1) ev (by omega)
            omega
          · exact e
          · have a1 := hmn ev hev
            have a2 := outB_mono ev es (ev + 1) i (by omega)
            omega
        · intro h; rw [h]
      have hp := par_from (sec := ((outB ev es ev).length : Int)) hz hw (fun i c => if i ≤ ev then ev else c) (fun c => by show (if es.length ≤ ev then ev else c) = c; rw [if_neg (by omega)]) (fun i c hi => by
        show (if i ≤ ev then ev else c) = (if i + 1 ≤ ev then ev else (if ((outB ev es i).length : Int) = ((outB ev es ev).length : Int) then i else c))
        by_cases e : i = ev
        · rw [if_pos (by omega), if_neg (by omega), if_pos ((hmono i hi).2 e), e]
        · rw [if_neg (fun h => e ((hmono i hi).1 h))]
          by_cases e2 : i ≤ ev
          · rw [if_pos e2, if_pos (by omega)]
          · rw [if_neg e2, if_neg (by omega)]) es.length 0 ((outB ev es es.length).length + 1) 0 (by omega) (by
          have key : ∀ i, i ≤ es.length → i ≤ (outB ev es i).length := by
            intro i
            induction i with
            | zero => intro _; exact Nat.zero_le _
            | succ i ih => intro h; have := ih (by omega); have := hmn i (by omega); omega
          have := key es.length (Nat.le_refl _)
          omega)
      simp only [outB, List.length_nil, List.take_zero, Nat.zero_le, if_true] at hp
      rw [hp]
      simp only
      rw [if_neg (by omega)]
    rw [hpb, show decP (sealB (fullB ev es)) (some (es, ev)) = if (buildZ ev es).2 = 0 ∧ (buildZ ev es).1 = sealB (fullB ev es) then (es, 0) else ([], 3) from rfl]
    rw [show buildZ ev es = buildE ev es from if_neg (by omega), if_pos ⟨hb, h4⟩]
  · -- one restart alone
    have hrl : ¬ 8 ≤ (rsB ev es es.length).length := by
      rcases Nat.eq_zero_or_pos es.length with e | e
      · rw [e]; simp [rsB]
      · rw [rsB_one e (by omega)]
        rw [fourB_len]
        omega
    have hpb : parB (fullB ev es) = some (es, max es.length 1) := by
      unfold parB
      rw [hsp]
      simp only
      rw [if_neg hrl]
      have hp := par_from (sec := -1) hz hw (ev := ev) (fun _ c => c) (fun c => rfl) (fun i c hi => by
        show c = (if ((outB ev es i).length : Int) = -1 then i else c)
        rw [if_neg (by omega)]) es.length 0 ((outB ev es es.length).length + 1) 0 (by omega) (by
          have key : ∀ i, i ≤ es.length → i ≤ (outB ev es i).length := by
            intro i
            induction i with
            | zero => intro _; exact Nat.zero_le _
            | succ i ih => intro h; have := ih (by omega); have := hmn i (by omega); omega
          have := key es.length (Nat.le_refl _)
          omega)
      simp only [outB, List.length_nil, List.take_zero] at hp
      rw [hp]
      simp only
      rw [if_pos (by omega)]
    have hbe : buildE (max es.length 1) es = buildE ev es := build_congr (fun i hi => by
      have e1 : i % max es.length 1 = i := Nat.mod_eq_of_lt (by omega)
      have e2 : i % ev = i := Nat.mod_eq_of_lt (by omega)
      rw [e1, e2])
    rw [hpb, show decP (sealB (fullB ev es)) (some (es, max es.length 1)) = if (buildZ (max es.length 1) es).2 = 0 ∧ (buildZ (max es.length 1) es).1 = sealB (fullB ev es) then (es, 0) else ([], 3) from rfl]
    rw [show buildZ (max es.length 1) es = buildE (max es.length 1) es from if_neg (by omega), hbe, if_pos ⟨hb, h4⟩]
theorem ord_of_sort {es : List En} (h : SortL es) : ordE es = true := by
  have key : ∀ k, k < es.length ∨ k = 0 → ordK es k = true := by
    intro k
    induction k with
    | zero => intro _; rfl
    | succ k ih =>
      intro hk
      have hk : k + 1 < es.length := by omega
      obtain ⟨a, ha⟩ : ∃ a, es[k]? = some a := ⟨_, List.getElem?_eq_getElem (by omega)⟩
      obtain ⟨b, hb⟩ : ∃ b, es[k + 1]? = some b := ⟨_, List.getElem?_eq_getElem hk⟩
      have hs := List.pairwise_iff_getElem.1 h k (k + 1) (by omega) hk (by omega)
      rw [(List.getElem?_eq_some_iff.1 ha).2, (List.getElem?_eq_some_iff.1 hb).2] at hs
      rw [ordK_step ha hb, ih (.inl (by omega)), hs]
      rfl
  exact key _ (by omega)
/-- Of entries in order, each in form, Build answers the block, or that it is too long. -/
theorem build_sorted {ev : Nat} {es : List En} (hs : SortL es) (hok : ∀ x ∈ es, okE x = true) : (buildE ev es).2 = 0 ∨ buildE ev es = ([], 2) := by
  have h1 : es.any longE = false := by
    rw [List.any_eq_false]
    intro x hx
    rw [(okE_iff.1 (hok x hx)).1]
    simp
  have h2 : es.all formE = true := by
    rw [List.all_eq_true]
    intro x hx
    exact (okE_iff.1 (hok x hx)).2
  have h3 := ord_of_sort hs
  unfold buildE
  rw [h1, h2, h3]
  simp only [Bool.false_eq_true, if_false, Bool.and_self, if_true]
  split
  · exact .inr rfl
  · exact .inl rfl
end Go.Proofs.Ytgigohfjioifaaa
namespace Go.Proofs.Ytgigohfjioifaaa
open Go Go.RowKit

theorem find_at {es : List En} {pl x : En} : ∀ {i : Nat}, es[i]? = some x → nlE es pl i = true → (∀ t, t < i → nlE es pl t = false) → es.find? (fun e => !lessE e pl) = some x := by
  intro i hx hn hf
  have hlt := (List.getElem?_eq_some_iff.1 hx).1
  have hx2 := (List.getElem?_eq_some_iff.1 hx).2
  rw [List.find?_eq_some_iff_getElem]
  unfold nlE at hn
  rw [hx] at hn
  refine ⟨hn, i, hlt, hx2, fun j hj => ?_⟩
  have := hf j hj
  unfold nlE at this
  rw [List.getElem?_eq_getElem (by omega)] at this
  simpa using this
theorem find_no {es : List En} {pl : En} (hf : ∀ t, t < es.length → nlE es pl t = false) : es.find? (fun e => !lessE e pl) = none := by
  rw [List.find?_eq_none]
  intro x hx
  obtain ⟨i, hi⟩ := List.mem_iff_getElem?.1 hx
  have := hf i (List.getElem?_eq_some_iff.1 hi).1
  unfold nlE at this
  rw [hi] at this
  simpa using this
theorem find_at8 {p : En → Bool} {k : Nat} {es : List En} {x : En} (h : (es.take k).find? p = none) (hx : es[k]? = some x) (hk : p x = true) : es.find? p = some x := by
  have hlt := (List.getElem?_eq_some_iff.1 hx).1
  have e : es = es.take k ++ x :: es.drop (k + 1) := by
    have hd : es.drop k = x :: es.drop (k + 1) := by rw [List.drop_eq_getElem_cons hlt, (List.getElem?_eq_some_iff.1 hx).2]
    rw [← hd, List.take_append_drop]
  rw [e, List.find?_append, h, List.find?_cons, hk]
  rfl
theorem find_snoc8 {p : En → Bool} {k : Nat} {es : List En} {x : En} (h : (es.take k).find? p = none) (hx : es[k]? = some x) (hk : p x = false) : (es.take (k + 1)).find? p = none := by
  rw [List.take_add_one, hx, List.find?_append, h]
  simp only [Option.toList, List.find?_cons, hk]
  rfl
set_option maxRecDepth 100000 in
set_option maxHeartbeats 4000000 in
theorem refSeek8_any {w : World} {A F : Option Addr} {n c fn fc at_ : Nat} {es : List En} {key : List UInt8} (h : REs w A n es) (hn : n ≤ 1099511627776) (hs : ∀ x ∈ es, SzE x) (hf : Rd w F fn key) (hfn : fn ≤ 1099511627776) (hfc : fn ≤ fc) (hnil : F = none → fc = 0) (ha : U64 at_) :
    Calls Try.prog 17 #[.slice A n c, .slice F fn fc, .int .u64 (at_ : Int)] w (RetGl w (es.find? (fun e => !lessE e (plE key at_)))) := by
  obtain ⟨U, hU⟩ : ∃ U, U = w.alloc (.cells #[.slice none 0 0, .int .u64 0, .int .u8 0, .slice none 0 0] 33) := ⟨_, rfl⟩
  have bU : Below w.heap.size w U := by rw [hU]; exact (Below.refl _ _).alloc (Nat.le_refl _) _
  have ZU := Lib.hid (show Cl U w.heap.size #[.slice none 0 0, .int .u64 0, .int .u8 0, .slice none 0 0] 33 by rw [hU]; exact Cl.new _ _ _)
  obtain ⟨pr, hpr⟩ : ∃ pr : En → Bool, pr = fun e => !lessE e (plE key at_) := ⟨_, rfl⟩
  rw [← hpr]
  have H1 := Lib.hid h
  have HF := Lib.hid hf
  have HLN := Lib.hid h.len
  have HS := Lib.hid hs
  have BU := Lib.hid bU
  have HN := Lib.hid hnil
  have HPR := Lib.hid hpr
  have HSP : Hid (SzE (plE key at_)) := Lib.hid ⟨by have := hf.len; unfold plE; simp only; omega, by unfold plE; simp⟩
  clear h hs hf bU hnil hpr
  go_enter Try.func17, Try.ntmps17
  go_upto_region 1 with (fail)
  rw [← hU]
  clear hU
  go_wp2_with fail
  go_loopw [8] (fun s8 wr => ∃ k : Nat, k ≤ n ∧ s8 = .int .i64 (k : Int) ∧ (es.take k).find? pr = none ∧ Below U.heap.size U wr) (fun s _ => n - (intOf s).toNat)
  case atStart => exact ⟨0, Nat.zero_le _, rfl, rfl, Below.refl _ _⟩
  case round =>
    obtain ⟨k, hk', rfl, hin, hBr⟩ := hrel
    have HBr := Lib.hid hBr
    have HIN := Lib.hid hin
    have ZR := Lib.hid (ZU.out.below hBr)
    have BWr := Lib.hid (belowT' BU.out hBr)
    clear hin hBr
    by_cases hlt : k < n
    · obtain ⟨b, off, hAb, hbw⟩ := H1.out.pos (by omega)
      subst hAb
      obtain ⟨x, u0, u1, u2, u3, hx, c0', c1', c2', c3', hew⟩ := H1.out.at_ k hlt
      have hbl : b < wr.heap.size := Nat.lt_of_lt_of_le hbw BWr.out.size
      have c0 := (BWr.out.cell hbw).trans c0'
      have c1 := (BWr.out.cell hbw).trans c1'
      have c2 := (BWr.out.cell hbw).trans c2'
      have c3 := (BWr.out.cell hbw).trans c3'
      have hsx := HS.out x (List.mem_of_getElem? hx)
      have HXK := Lib.hid hx
      have HEV := Lib.hid hew
      obtain ⟨z, hz⟩ : ∃ z, z = lessE x (plE key at_) := ⟨_, rfl⟩
      have HL : Hid (Calls Try.prog 56 #[.agg #[u0, u1, u2, u3], .agg #[.slice F fn fc, .int .u64 (at_ : Int), .int .u8 0, .slice none 0 0]] wr (RetT wr z)) := Lib.hid (by
        rw [hz]
        exact refLess_any (hew.below BWr.out) (zero_ev wr key at_ (HF.out.below BWr.out) hfc HN.out ha) hsx HSP.out)
      have HPX : Hid (pr x = !z) := Lib.hid (by rw [HPR.out, hz])
      obtain ⟨L, ln, lc, M, mn, mc, rfl, rfl, rfl, rfl, _⟩ := hew.parts
      have HC : Hid (∀ wx, Below wr.heap.size wr wx → wx.cell? ⟨b, off + k * 4, none⟩ = some (.slice L ln lc) ∧ wx.cell? ⟨b, off + k * 4 + 1, none⟩ = some (.int .u64 (x.seq : Int)) ∧ wx.cell? ⟨b, off + k * 4 + 2, none⟩ = some (.int .u8 (x.kind : Int)) ∧ wx.cell? ⟨b, off + k * 4 + 3, none⟩ = some (.slice M mn mc)) := Lib.hid (fun wx hb => ⟨(hb.cell hbl).trans c0, (hb.cell hbl).trans c1, (hb.cell hbl).trans c2, (hb.cell hbl).trans c3⟩)
      clear hx hew hz c0' c1' c2' c3' hsx
      cases z with
      | false =>
        have HFD : Hid (es.find? pr = some x) := Lib.hid (find_at8 HIN.out HXK.out (by rw [HPX.out]; rfl))
        go_wp2_with fail
        with_reducible refine HL.out.mono ?_
        intro e w2 hq
        obtain ⟨h1, b1⟩ := RetT.outD hq
        subst h1
        have B2 := Lib.hid (belowT' BWr.out b1)
        have Z2 := Lib.hid (ZR.out.below b1)
        obtain ⟨d0, d1, d2, d3⟩ := HC.out _ b1
        obtain ⟨g0, g1, g2, g3, k0, k1, k2, k3⟩ := Z2.out.c4
        clear c0 c1 c2 c3 b1 hq
        go_wp2_with fail
        obtain ⟨X, hX⟩ : ∃ X, X = ((((w2.setCell ⟨w.heap.size, 0, none⟩ (.slice L ln lc)).setCell ⟨w.heap.size, 1, none⟩ (.int .u64 (x.seq : Int))).setCell ⟨w.heap.size, 2, none⟩ (.int .u8 (x.kind : Int))).setCell ⟨w.heap.size, 3, none⟩ (.slice M mn mc)) := ⟨_, rfl⟩
        rw [← hX]
        have zX : Cl X w.heap.size #[.slice L ln lc, .int .u64 (x.seq : Int), .int .u8 (x.kind : Int), .slice M mn mc] 33 := by rw [hX]; exact Z2.out.put4 rfl _ _ _ _
        have bX : Below w.heap.size w X := by rw [hX]; exact below_set (below_set (below_set (below_set B2.out 0 _ (Nat.le_refl _)) 1 _ (Nat.le_refl _)) 2 _ (Nat.le_refl _)) 3 _ (Nat.le_refl _)
        have EVX : EV X x (.slice L ln lc) (.int .u64 (x.seq : Int)) (.int .u8 (x.kind : Int)) (.slice M mn mc) := HEV.out.below bX
        obtain ⟨x0, x1, x2, x3, _⟩ := zX.c4
        refine bodyPost_ret (v := .tuple #[.agg #[.slice L ln lc, .int .u64 (x.seq : Int), .int .u8 (x.kind : Int), .slice M mn mc], .bool true]) (by simp [results, Try.results17, go_sem, x0, x1, x2, x3]; try rfl) rfl (.inr ⟨x, _, _, _, _, HFD.out, rfl, EVX, bX⟩)
      | true =>
        have HNX : Hid ((es.take (k + 1)).find? pr = none) := Lib.hid (find_snoc8 HIN.out HXK.out (by rw [HPX.out]; rfl))
        go_wp2_with fail
        with_reducible refine HL.out.mono ?_
        intro e w2 hq
        obtain ⟨h1, b1⟩ := RetT.outD hq
        subst h1
        have B2 := Lib.hid (HBr.out.trans (b1.mono HBr.out.size))
        clear hq b1
        go_wp2_with fail
        go_roundw
        case rel => exact ⟨k + 1, by omega, by go_num, HNX.out, B2.out⟩
        case measure => simp [intOf]; omega
    · have htk : es.take k = es := List.take_of_length_le (by have := HLN.out; omega)
      have HFD : Hid (es.find? pr = none) := Lib.hid (by rw [← htk]; exact HIN.out)
      obtain ⟨g0, g1, g2, g3, k0, k1, k2, k3⟩ := ZR.out.c4
      clear htk
      go_wp2_with fail
      obtain ⟨X, hX⟩ : ∃ X, X = ((((wr.setCell ⟨w.heap.size, 0, none⟩ (.slice none 0 0)).setCell ⟨w.heap.size, 1, none⟩ (.int .u64 0)).setCell ⟨w.heap.size, 2, none⟩ (.int .u8 0)).setCell ⟨w.heap.size, 3, none⟩ (.slice none 0 0)) := ⟨_, rfl⟩
      rw [← hX]
      have zX : Cl X w.heap.size #[.slice none 0 0, .int .u64 0, .int .u8 0, .slice none 0 0] 33 := by rw [hX]; exact ZR.out.put4 rfl _ _ _ _
      have bX : Below w.heap.size w X := by rw [hX]; exact below_set (below_set (below_set (below_set BWr.out 0 _ (Nat.le_refl _)) 1 _ (Nat.le_refl _)) 2 _ (Nat.le_refl _)) 3 _ (Nat.le_refl _)
      obtain ⟨x0, x1, x2, x3, _⟩ := zX.c4
      refine bodyPost_ret (v := .tuple #[.agg #[.slice none 0 0, .int .u64 0, .int .u8 0, .slice none 0 0], .bool false]) (by simp [results, Try.results17, go_sem, x0, x1, x2, x3]; try rfl) rfl (.inl ⟨HFD.out, rfl, bX⟩)
end Go.Proofs.Ytgigohfjioifaaa
namespace Go.Proofs.Ytgigohfjioifaaa
open Go Go.RowKit

theorem betw_list (xs ys : List UInt8) : ∀ {t : Tr}, SortL t.list → betw xs ys t = t.list.filter (inR xs ys)
  | .nil, _ => rfl
  | .node l e r, hs => by
    have hs' : SortL (l.list ++ e :: r.list) := hs
    obtain ⟨sl, sr, slr⟩ := List.pairwise_append.1 hs'
    obtain ⟨er, srr⟩ := List.pairwise_cons.1 sr
    rw [betw, Tr.list, List.filter_append, List.filter_cons, betw_list xs ys sl, betw_list xs ys srr]
    have hl : ¬ 0 ≤ cmpB e.key xs → l.list.filter (inR xs ys) = [] := fun h => by
      rw [List.filter_eq_nil_iff]
      intro y hy k
      have hk : cmpB y.key xs < 0 := less_key (slr y hy e (by simp)) (by omega)
      unfold inR at k
      simp at k
      omega
    have hr : ¬ (ys.length = 0 ∨ cmpB e.key ys < 0) → r.list.filter (inR xs ys) = [] := fun h => by
      rw [List.filter_eq_nil_iff]
      intro y hy k
      unfold inR at k
      rw [Bool.and_eq_true, decide_eq_true_eq, decide_eq_true_eq] at k
      rcases k.2 with q | q
      · exact h (.inl q)
      · exact h (.inr (less_key (er y hy) q))
    by_cases h1 : 0 ≤ cmpB e.key xs
    · by_cases h2 : ys.length = 0 ∨ cmpB e.key ys < 0
      · rw [if_pos h1, if_pos ⟨h1, h2⟩, if_pos h2, if_pos (by unfold inR; rw [decide_eq_true h1, decide_eq_true h2]; rfl)]
        simp
      · rw [if_pos h1, if_neg (fun h => h2 h.2), if_neg h2, if_neg (by unfold inR; rw [decide_eq_false h2]; simp), hr h2]
        simp
    · by_cases h2 : ys.length = 0 ∨ cmpB e.key ys < 0
      · rw [if_neg h1, if_neg (fun h => h1 h.1), if_pos h2, if_neg (by unfold inR; rw [decide_eq_false h1]; simp), hl h1]
        simp
      · rw [if_neg h1, if_neg (fun h => h1 h.1), if_neg h2, if_neg (by unfold inR; rw [decide_eq_false h1]; simp), hl h1, hr h2]
        simp
end Go.Proofs.Ytgigohfjioifaaa
namespace Go.Proofs.Ytgigohfjioifaaa
open Go Go.RowKit

theorem RdU.of_ints {w : World} {x : Addr} {len cap : Nat} {zs : List Int} (hl : len ≤ cap) (hz : zs.length = cap)
    (hcell : ∀ i, i < zs.length → w.cell? (x.add i) = some (.int .u64 (zs.getD i 0))) (hw : ∀ n ∈ zs, (Lit.int .u64 n).wf = true) : RdU w (some x) len ((zs.take len).map Int.toNat) := by
  have h := RdV.of_ints hl hz hcell
  have hp : ∀ z ∈ zs.take len, ∃ n : Nat, z = (n : Int) ∧ U64 n := fun z hm => by
    obtain ⟨n, e, hn⟩ := nat_of_u64 (hw z (List.mem_of_mem_take hm))
    exact ⟨n, e, hn⟩
  have e : ((zs.take len).map Int.toNat).map uv = (zs.take len).map (Value.int .u64) := by
    rw [List.map_map]
    apply List.map_congr_left
    intro z hm
    obtain ⟨n, rfl, _⟩ := hp z hm
    rfl
  refine ⟨by rw [e]; exact h, fun m hm => ?_⟩
  obtain ⟨z, hz2, rfl⟩ := List.mem_map.1 hm
  obtain ⟨n, rfl, hn⟩ := hp z hz2
  simpa using hn
end Go.Proofs.Ytgigohfjioifaaa
namespace Go.Proofs.Ytgigohfjioifaaa
open Go Go.RowKit

set_option maxRecDepth 100000 in
set_option maxHeartbeats 4000000 in
theorem range_any {d : TypeId × List Value} {G : Nat → Prop} {w : World} {p : Nat} {t : Tr} {F T : Option Addr} {fn fc tn tc : Nat} {xs ys : List UInt8} (h : TB d G w p t) (hf : Rd w F fn xs) (ht : Rd w T tn ys) (hs : ∀ e ∈ t.list, SzE e) (hn : t.num ≤ 1099511627776) :
    Calls Try.prog 43 #[.pointer (some ⟨p, 0, none⟩), .slice F fn fc, .slice T tn tc] w (RetBt w (betw xs ys t)) := by
  obtain ⟨A, h1, h2, _⟩ := h
  obtain ⟨c0, c1, c2, _⟩ := h1.ct
  have HB : Hid (Calls Try.prog 80 #[.pointer A, .slice none 0 0, .slice F fn fc, .slice T tn tc] w (RetBt w (betw xs ys t))) := Lib.hid (by
    have := between_any (fc := fc) (tc := tc) hf ht t A h2 hs [] none 0 0 w (RowE.zero _ _ (Nat.le_refl _)) (by omega)
    simpa using this)
  clear h1 h2 hf ht hs
  go_enter Try.func43, Try.ntmps43
  go_wp2_with fail
  with_reducible refine HB.out.mono ?_
  intro e w2 hq
  obtain ⟨L, k, d, h1, hrow⟩ := RetBt.out hq
  subst h1
  have HR := Lib.hid hrow
  clear hq hrow HB
  go_wp2
  go_ret
  exact ⟨L, k, d, rfl, HR.out⟩
end Go.Proofs.Ytgigohfjioifaaa
namespace Go.Proofs.Ytgigohfjioifaaa
open Go Go.RowKit

section
variable {G H : Nat → Prop} {w w' : World}
theorem EG.reg {e : En} {v0 v1 v2 v3 : Value} (h : EG G w e v0 v1 v2 v3) (hs : ∀ b, b < w.heap.size → G b → H b) : EG H w e v0 v1 v2 v3 :=
  ⟨h.1, fun A m c g hv hg => hs g (h.1.lt hv hg).2 (h.2 A m c g hv hg)⟩
theorem TrAt.reg (hs : ∀ b, b < w.heap.size → G b → H b) : ∀ {t : Tr} {A : Option Addr}, TrAt G w t A → TrAt H w t A
  | .nil, _, h => h
  | .node _ _ _, _, ⟨b, pe, pl, pr, h1, h2, ⟨v0, v1, v2, v3, h3, h4⟩, h5, h6⟩ => ⟨b, pe, pl, pr, h1, h2, ⟨v0, v1, v2, v3, h3, h4.reg hs⟩, TrAt.reg hs h5, TrAt.reg hs h6⟩
theorem TB.reg {d : TypeId × List Value} {p : Nat} {t : Tr} (h : TB d G w p t) (hs : ∀ b, b < w.heap.size → G b → H b) : TB d H w p t := by
  obtain ⟨A, h1, h2, h3⟩ := h
  exact ⟨A, h1, TrAt.reg hs h2, h3⟩
/-- 'Blocks of this kind are no bytes and no slices of bytes.' -/
def okB (ty : TypeId) : Prop := ty ≠ 5 ∧ ty ≠ 22
/-- 'Good bytes stand, and whatever is no row of bytes or of slices of bytes.' -/
def FrB (G : Nat → Prop) (w w' : World) : Prop := ∀ b us ty, Cl w b us ty → (ty = 5 ∧ G b) ∨ okB ty → Cl w' b us ty
theorem own_good {b n c : Nat} {A : Option Addr} {xs : List UInt8} (h : Own 5 w b A n c xs) (hf : FrB G w w') (hg : ∀ k, blk A = some k → G k) : Own 5 w' b A n c xs := by
  refine ⟨h.1, ?_⟩
  rcases h.2 with h1 | ⟨g, cap, cur, h1, h2, h3, h4⟩
  · exact .inl h1
  · injection h1 with e1 e2 e3
    exact .inr ⟨g, cap, cur, by rw [e1, e2, e3], h2, hf g cur _ h3 (.inl ⟨rfl, hg g (by rw [e1]; rfl)⟩), h4⟩
theorem EG.fr {e : En} {v0 v1 v2 v3 : Value} (h : EG G w e v0 v1 v2 v3) (hf : FrB G w w') : EG G w' e v0 v1 v2 v3 := by
  obtain ⟨⟨K, kn, kc, V, vn, vc, rfl, rfl, rfl, rfl, o1, o2, u⟩, hg⟩ := h
  exact ⟨⟨K, kn, kc, V, vn, vc, rfl, rfl, rfl, rfl, own_good o1 hf (fun k hk => hg K kn kc k (by simp) hk), own_good o2 hf (fun k hk => hg V vn vc k (by simp) hk), u⟩, hg⟩
theorem okB_node : okB 145 := ⟨by decide, by decide⟩
theorem okB_ent : okB 33 := ⟨by decide, by decide⟩
theorem okB_tab : okB pl3.1 := ⟨(by decide : 108 ≠ 5), (by decide : 108 ≠ 22)⟩
theorem TrAt.fr (hf : FrB G w w') : ∀ {t : Tr} {A : Option Addr}, TrAt G w t A → TrAt G w' t A
  | .nil, _, h => h
  | .node _ _ _, _, ⟨b, pe, pl, pr, h1, h2, ⟨v0, v1, v2, v3, h3, h4⟩, h5, h6⟩ => ⟨b, pe, pl, pr, h1, hf _ _ _ h2 (.inr okB_node), ⟨v0, v1, v2, v3, hf _ _ _ h3 (.inr okB_ent), h4.fr hf⟩, TrAt.fr hf h5, TrAt.fr hf h6⟩
theorem TB.fr {d : TypeId × List Value} {p : Nat} {t : Tr} (h : TB d G w p t) (hd : okB d.1) (hf : FrB G w w') : TB d G w' p t := by
  obtain ⟨A, h1, h2, h3⟩ := h
  exact ⟨A, hf _ _ _ h1 (.inr hd), TrAt.fr hf h2, h3⟩
/-- Behind what writes over the lists alone. -/
theorem FrB.of_off {base : Nat} {ps : List VB} (hF : Fam w base ps) (h : ∀ b, b < w.heap.size → OffF ps b → w'.heap[b]? = w.heap[b]?) : FrB (OffF ps) w w' := fun b us ty hc hk => by
  rcases hk with ⟨_, hg⟩ | ⟨hk, _⟩
  · exact (h b hc.lt hg).trans hc
  · exact (h b hc.lt (hF.off_cl hc hk)).trans hc
/-- Behind what makes a row of slices longer. -/
theorem FrB.of_row {base n c : Nat} {L : Option Addr} {vs : List Value} (hl : OwnV 22 w base L n c vs) (hg : w.grownBy w' (blk L)) : FrB G w w' := fun b us ty hc hk => by
  refine hc.grown hg (cl_row hc hl ?_)
  rcases hk with ⟨h, _⟩ | ⟨_, h⟩
  · rw [h]; decide
  · exact h
end
/-- One entry more, behind all that are there. -/
theorem putZ_next {t : Tr} {x : En} (h1 : SortL (t.list ++ [x])) (h2 : okE x = true) : ∃ t' : Tr, putZ t [x] = (0, t') ∧ t'.list = t.list ++ [x] := by
  have hs : SortL t.list := (List.pairwise_append.1 h1).1
  have h3 := refIns_sort (p := t.list) (q := [x]) h1
  obtain ⟨k1, k2⟩ := insAll_ref [x] (t := t) hs
  cases hi : insAll t [x] with
  | none => have := k2 hi; rw [h3] at this; cases this
  | some t' =>
    obtain ⟨e1, _⟩ := k1 t' hi
    rw [h3] at e1
    injection e1 with e1
    refine ⟨t', ?_, e1.symm⟩
    unfold putZ
    rw [if_pos (checkE_ok (es := [x]) (fun y hy => by simp only [List.mem_singleton] at hy; subst hy; exact h2)), hi]
end Go.Proofs.Ytgigohfjioifaaa
namespace Go.Proofs.Ytgigohfjioifaaa
open Go Go.RowKit

theorem entB_sz {s : Nat} {x : En} (h0 : s ≤ x.key.length) (h1 : x.key.length ≤ 1024) (h2 : x.val.length ≤ 65536) (h3 : U64 x.seq) : (entB s x).length ≤ wE x + 41 := by
  have p1 := putU_len64 s (show s < B64 by unfold B64; omega)
  have p2 := putU_len64 (x.key.length - s) (show x.key.length - s < B64 by unfold B64; omega)
  have p3 := putU_len64 x.seq (show x.seq < B64 from h3)
  have p5 := putU_len64 x.val.length (show x.val.length < B64 by unfold B64; omega)
  unfold entB wE
  simp only [List.length_append, List.length_cons, List.length_nil, List.length_drop]
  omega
theorem szL_snoc2 {es : List En} {k : Nat} {x : En} (h : es[k]? = some x) : szL (es.take (k + 1)) = szL (es.take k) + wE x := by
  rw [List.take_add_one, h, szL_app]
  simp [szL]
theorem outB_sz {ev : Nat} {es : List En} (hz : ∀ x ∈ es, x.key.length ≤ 1024 ∧ x.val.length ≤ 65536) (hw : ∀ x ∈ es, U64 x.seq) : ∀ i, (outB ev es i).length ≤ szL (es.take i) + 41 * i
  | 0 => by simp [outB]
  | i + 1 => by
    have ih := outB_sz (ev := ev) hz hw i
    cases h : es[i]? with
    | none =>
      have : (outB ev es (i + 1)) = outB ev es i := by rw [outB, h]
      rw [this, List.take_add_one, h, szL_app]
      simp only [Option.toList, szL]
      omega
    | some x =>
      rw [outB_step h, szL_snoc2 h, List.length_append]
      have hx := List.mem_of_getElem? h
      have := entB_sz (shB_le (ev := ev) h) (hz x hx).1 (hz x hx).2 (hw x hx)
      omega
/-- What can't be built is large. -/
theorem build_big {ev : Nat} {es : List En} (hs : SortL es) (hok : ∀ x ∈ es, okE x = true) (hw : ∀ x ∈ es, U64 x.seq) (hl : es.length ≤ 40) (hb : buildE ev es = ([], 2)) : 900000 < szL es := by
  have h1 : es.any longE = false := by
    rw [List.any_eq_false]
    intro x hx
    rw [(okE_iff.1 (hok x hx)).1]
    simp
  have h2 : es.all formE = true := by
    rw [List.all_eq_true]
    intro x hx
    exact (okE_iff.1 (hok x hx)).2
  have h3 := ord_of_sort hs
  unfold buildE at hb
  rw [h1, h2, h3] at hb
  simp only [Bool.false_eq_true, if_false, Bool.and_self, if_true] at hb
  split at hb
  · rename_i hlt
    have h4 := outB_sz (ev := ev) (longE_no h1) hw es.length
    rw [List.take_length] at h4
    have h5 := rsB_len ev es es.length
    unfold fullB at hlt
    simp only [List.length_append, fourB_len] at hlt
    omega
  · injection hb with _ hb
    cases hb
/-- A table filled at once with what is in order. -/
theorem putZ_all {ss : List En} (hs : SortL ss) (hok : ∀ x ∈ ss, okE x = true) : ∃ t' : Tr, putZ .nil ss = (0, t') ∧ t'.list = ss := by
  have h3 := refIns_sort (p := []) (q := ss) hs
  obtain ⟨k1, k2⟩ := insAll_ref ss (t := .nil) sortL_nil
  cases hi : insAll .nil ss with
  | none =>
    have k3 := k2 hi
    rw [show Tr.nil.list = [] from rfl, h3] at k3
    cases k3
  | some t' =>
    obtain ⟨e1, _⟩ := k1 t' hi
    rw [show Tr.nil.list = [] from rfl, h3] at e1
    injection e1 with e1
    refine ⟨t', ?_, e1.symm⟩
    unfold putZ
    rw [if_pos (checkE_ok hok), hi]
theorem betw_all3 {t : Tr} (hs : SortL t.list) : betw [] [] t = t.list := by
  rw [betw_list [] [] hs, List.filter_eq_self]
  intro x _
  unfold inR
  have h : 0 ≤ cmpB x.key [] := by cases x.key <;> simp [cmpB]
  simp [h]
def zeE3 : En := ⟨[], 0, 0, []⟩
/-- What Get hands back, in one form. -/
theorem RetGt.one {w : World} {o : Option En} {e : Ending} {w' : World} (h : RetGt w o e w') (hw : ∀ x, o = some x → U64 x.seq ∧ x.kind < 256) : ∃ K kn kc V vn vc, e = .returned (.tuple #[.agg #[.slice K kn kc, .int .u64 ((o.getD zeE3).seq : Int), .int .u8 ((o.getD zeE3).kind : Int), .slice V vn vc], .bool o.isSome]) ∧
    EO w.heap.size w' (o.getD zeE3) (.slice K kn kc) (.int .u64 ((o.getD zeE3).seq : Int)) (.int .u8 ((o.getD zeE3).kind : Int)) (.slice V vn vc) ∧ Below w.heap.size w w' := by
  rcases h with ⟨rfl, rfl, h⟩ | ⟨x, K, kn, kc, V, vn, vc, rfl, rfl, o1, o2, h, dj⟩
  · exact ⟨none, 0, 0, none, 0, 0, rfl, ⟨none, 0, 0, none, 0, 0, rfl, rfl, rfl, rfl, Own.nil _ _ _, Own.nil _ _ _, by unfold U64; simp [zeE3], by simp [zeE3]⟩, h⟩
  · exact ⟨K, kn, kc, V, vn, vc, rfl, ⟨K, kn, kc, V, vn, vc, rfl, rfl, rfl, rfl, o1, o2, hw x rfl⟩, h⟩
set_option maxRecDepth 100000 in
set_option maxHeartbeats 4000000 in
theorem few15_any {A : Option Addr} {n c : Nat} {m : Nat} (hc : n ≤ c) (w : World) : Calls Try.prog 40 #[.slice A n c, .int .i64 (m : Int)] w (fun e w' => e = .returned (.slice A (min n m) c) ∧ w' = w) := by
  by_cases h : m < n
  · have hm : min n m = m := by omega
    have hcl : ∀ w, (Instr.slice 25 (.slice A n c) none (some (.int .i64 (m : Int))) none).run Try.prog w = .ok (.slice A m c) w := fun w => cut4_h Try.underlying25 elem4 size4 A (by omega) w
    rw [hm]
    clear hm
    go_enter Try.func40, Try.ntmps40
    go_wp2_with fail
    go_ret
    exact ⟨rfl, rfl⟩
  · have hm : min n m = n := by omega
    rw [hm]
    clear hm
    go_enter Try.func40, Try.ntmps40
    go_wp2_with fail
    go_ret
    exact ⟨rfl, rfl⟩
set_option maxRecDepth 100000 in
theorem info_u64 : (Try.prog.info? 23).map (fun i => (i.zero, i.size, i.bytes)) = some (some (.int .u64 0), 1, 8) := by kernel_rfl
/-- The moments of a key: its own, the first, the last, and those given. -/
def momU (q : Nat) (ms : List Nat) : List Nat := [q, 0, 18446744073709551615] ++ ms
end Go.Proofs.Ytgigohfjioifaaa
namespace Go.Proofs.Ytgigohfjioifaaa
open Go Go.RowKit

set_option maxRecDepth 100000 in
set_option maxHeartbeats 16000000 in
theorem caissonBlocks_row (p : Int) (A : Option Addr) (n c : Nat) (es : List En) (M0 : Option Addr) (mn mc : Nat) (ms : List Nat) (w : World) (hp : (Lit.int .i64 p).wf = true) (h : REs w A n es) (hnc : n ≤ c) (ht : totE es ≤ 1048576) (hu : RdU w M0 mn ms) (hmc : mn ≤ mc) (hmm : mc ≤ 1048576) :
    Calls Try.prog 10 #[.int .i64 p, .slice A n c, .slice M0 mn mc] w (RetT w true) := by
  have hp2 : -9223372036854775808 ≤ p ∧ p ≤ 9223372036854775807 := by simpa [Lit.wf, IntKind.min, IntKind.max, IntKind.signed, IntKind.bits] using hp
  have hsz : ∀ x ∈ es, SzE x := fun x hx => by
    have := totE_mem hx
    unfold wE at this
    exact ⟨by omega, by omega⟩
  have hnn : n ≤ 1048576 := by have := totE_len es; have := h.len; omega
  obtain ⟨m, hm⟩ : ∃ m, m = min n 40 := ⟨_, rfl⟩
  obtain ⟨fs, hfs⟩ : ∃ fs, fs = es.take m := ⟨_, rfl⟩
  obtain ⟨us, hev, hrv⟩ := h.takeV (m := m) (by omega)
  rw [← hfs] at hev
  have hfl : fs.length = m := by rw [hfs, List.length_take, h.len]; omega
  have hfz : ∀ x ∈ fs, SzE x := fun x hx => hsz x (by rw [hfs] at hx; exact List.mem_of_mem_take hx)
  have HSO : Hid (∀ wx, Below w.heap.size w wx → Calls Try.prog 31 #[.slice A m c] wx (RetPick wx (srt [] fs) us)) := Lib.hid (fun wx hb => sorted_any (hev.below hb) (hrv.below hb) hfl (by omega) hfz)
  have HUS : Hid (∀ (A : Option Addr) (m c g : Nat), Value.slice A m c ∈ us → 0 < m → blk A = some g → g < w.heap.size) := Lib.hid (fun A m c g hv hm hb => evs_lt hev A m c g hv hm hb)
  have hsl := (srt_len fs []).1
  have hsw := (srt_len fs []).2
  obtain ⟨hss1, hss2⟩ := srt_prop (xs := fs) (o := []) List.Pairwise.nil (fun x hx => by cases hx)
  have hssz : ∀ x ∈ srt [] fs, SzE x := fun x hx => by
    rcases srt_mem x hx with q | q
    · cases q
    · exact hfz x q
  obtain ⟨ss, hss⟩ : ∃ ss, ss = srt [] fs := ⟨_, rfl⟩
  rw [← hss] at HSO hsl hss1 hss2 hssz hsw
  have hsl2 : ss.length ≤ 40 := by simp at hsl; omega
  have hsws : szL ss ≤ 1048576 * 40 := by
    have : ∀ l : List En, (∀ x ∈ l, x ∈ es) → szL l ≤ 1048576 * l.length := by
      intro l
      induction l with
      | nil => intro _; simp [szL]
      | cons x l ih =>
        intro hl
        have h1 := ih (fun y hy => hl y (by simp [hy]))
        have h2 := totE_mem (hl x (by simp))
        simp only [szL, List.length_cons]
        omega
    have h1 := this fs (fun x hx => by rw [hfs] at hx; exact List.mem_of_mem_take hx)
    simp only [szL] at hsw
    omega
  obtain ⟨tr, htr, htl⟩ := putZ_all hss1 hss2
  have htn : tr.num = ss.length := by rw [num_list, htl]
  have hts : tr.sz = szL ss := by unfold Tr.sz; rw [htl]
  obtain ⟨ev, hevv⟩ : ∃ ev : Nat, ev = if p < 1 then 1 else p.toNat := ⟨_, rfl⟩
  have hev1 : 1 ≤ ev ∧ ev ≤ 9223372036854775807 := by rw [hevv]; split <;> omega
  have hbs := build_sorted (ev := ev) hss1 hss2
  have HBG : Hid ((∀ x ∈ ss, U64 x.seq) → buildE ev ss = ([], 2) → 900000 < szL ss) := Lib.hid (fun hw hb => build_big hss1 hss2 hw hsl2 hb)
  have HFW : Hid (∀ wx, Calls Try.prog 40 #[.slice A n c, .int .i64 40] wx (fun e w' => e = .returned (.slice A m c) ∧ w' = wx)) := Lib.hid (fun wx => by
    have := few15_any (A := A) (m := 40) hnc wx
    rw [← hm] at this
    exact this)
  have HBS := Lib.hid hbs
  have HEV := Lib.hid hevv
  have HS1 := Lib.hid hss1
  have HSZ := Lib.hid hssz
  have HU := Lib.hid hu
  have HTR := Lib.hid htr
  have HTL := Lib.hid htl
  have HTN := Lib.hid htn
  have HTS := Lib.hid hts
  clear hm h hsz hev hrv hfs hfl hfz hsl hsw hss hbs ht hevv hss1 hss2 hssz hu hp htr htl htn hts
  go_enter Try.func10, Try.ntmps10
  go_wp2_with fail
  refine (memNew_any (fun _ => True) w).mono ?_
  rintro e w1 ⟨rfl, t1, b1⟩
  have p1 : w.heap.size < w1.heap.size := by obtain ⟨_, h, _⟩ := t1; exact h.lt
  obtain ⟨p0, hp0⟩ : ∃ p0, p0 = w.heap.size := ⟨_, rfl⟩
  rw [← hp0] at t1 ⊢
  have hp0l : w.heap.size ≤ p0 := by omega
  have hp0r : p0 < w1.heap.size := by omega
  have HL0 : Hid (Calls Try.prog 39 #[.pointer (some ⟨p0, 0, none⟩)] w1 (RetNu w1 0)) := Lib.hid (by
    have := len_any t1
    simpa [Tr.num] using this)
  have T1 := Lib.hid t1
  have B1 := Lib.hid b1
  clear t1 b1 hp0 p1
  go_wp2_with fail
  refine HL0.out.mono ?_
  rintro e w2 ⟨rfl, b2⟩
  have T2 := Lib.hid (T1.out.below b2)
  have hp2r : p0 < w2.heap.size := Nat.lt_of_lt_of_le hp0r b2.size
  have B2 := Lib.hid (B1.out.trans (b2.mono B1.out.size))
  clear b2 HL0
  go_wp2_with fail
  with_reducible refine (HFW.out _).mono ?_
  intro e w2' hq
  obtain ⟨h1, h2⟩ := hq
  subst h1
  rw [h2]
  clear h2
  go_wp2_with fail
  with_reducible refine (HSO.out _ B2.out).mono ?_
  intro e w3 hq
  obtain ⟨L, k, d, vs, he, oL, eL, hlen, b3, hsub⟩ := hq.out
  subst he
  have hRG : RG (fun b => b ≠ p0) w3 L k ss := ⟨hlen, vs, eL, oL.rd, fun A m c g hv hm hb => (by have := HUS.out A m c g (hsub _ hv) hm hb; omega), fun hn g hb => by have := (oL.lt g hb).1; omega⟩
  have B3 := Lib.hid (B2.out.trans (b3.mono B2.out.size))
  have hk40 : k ≤ 40 := by omega
  have hkd := oL.cap.1
  have R3 := Lib.hid hRG
  have T3 := Lib.hid (T2.out.below b3)
  have HWF := Lib.hid hRG.res.wf
  have HKL := Lib.hid hlen
  have HTW : Hid (Calls Try.prog 27 #[.slice L k d] w3 (RetRow w3 ss)) := Lib.hid (Twins_any hRG.res (by omega) HSZ.out)
  clear hq oL eL hlen b3 hsub hRG hp2r
  go_wp2_with fail
  with_reducible refine HTW.out.mono ?_
  intro e w4 hq
  obtain ⟨L4, n4, d4, he, hrow⟩ := hq
  subst he
  have R4 := Lib.hid (R3.out.below hrow.bel)
  have B4 := Lib.hid (B3.out.trans (hrow.bel.mono B3.out.size))
  have HPT : Hid (Calls Try.prog 41 #[.pointer (some ⟨p0, 0, none⟩), .slice L4 n4 d4] w4 (RetPt pl3 (fun _ => True) w4 p0 (0, tr))) := Lib.hid (by
    have := tabPut_any (c := d4) (T3.out.below hrow.bel) hrow.rd (by have := hrow.len; omega) HSZ.out (by have := hrow.len; simp [Tr.num]; omega) (by simp [Tr.sz, Tr.list, szL]; omega) (fun _ _ => trivial)
    rw [HTR.out] at this
    exact this)
  clear hrow
  go_wp2_with fail
  with_reducible refine HPT.out.mono ?_
  rintro e w5 ⟨h1, t5, g5⟩
  subst h1
  have R5 := Lib.hid ((R4.out.good (FrG.of_grown g5 (fun g hg hne => hne (by injection hg with hg; exact hg.symm)))).res)
  have B5 := Lib.hid (B4.out.grown g5 B4.out.size (fun b hb => by injection hb with hb; omega))
  have T5 := Lib.hid t5
  clear t5 g5
  go_upto_if 38 with (fail)
  go_cut [0] (fun s0 wx => s0 = .int .i64 (ev : Int) ∧ wx = w5)
  case first =>
    by_cases hp1 : p < 1
    · have he : ev = 1 := by rw [HEV.out, if_pos hp1]
      subst he
      go_wp2_with fail
      go_meet
      case rel => exact ⟨rfl, rfl⟩
    · have he : p = (ev : Int) := by rw [HEV.out, if_neg hp1]; omega
      subst he
      go_wp2_with fail
      go_meet
      case rel => exact ⟨rfl, rfl⟩
  case rest =>
    obtain ⟨rfl, hwc⟩ := hcut
    rw [hwc]
    clear hwc wc
    have HRN : Hid (Calls Try.prog 43 #[.pointer (some ⟨p0, 0, none⟩), .slice none 0 0, .slice none 0 0] w5 (RetBt w5 ss)) := Lib.hid (by
      have := range_any (fc := 0) (tc := 0) T5.out (Rd.nil w5 none) (Rd.nil w5 none) (by rw [HTL.out]; exact HSZ.out) (by rw [HTN.out]; omega)
      rw [betw_all3 (by rw [HTL.out]; exact HS1.out), HTL.out] at this
      exact this)
    go_wp2_with fail
    with_reducible refine HRN.out.mono ?_
    intro e w6 hq
    obtain ⟨L6, n6, d6, he, hrow⟩ := RetBt.out hq
    subst he
    have HBD := Lib.hid (build8_any (c := d6) hrow.rd (by have := hrow.len; omega) ev hev1.1 hev1.2)
    have b6 := hrow.bel
    have B6 := Lib.hid (B5.out.trans (b6.mono B5.out.size))
    have R6 := Lib.hid (R5.out.below b6)
    have T6 := Lib.hid (T5.out.below b6)
    clear hq hrow b6
    go_wp2_with fail
    with_reducible refine HBD.out.mono ?_
    rintro e w7 ⟨S, sc, he, oS, b7⟩
    subst he
    have B7 := Lib.hid (B6.out.trans (b7.mono B6.out.size))
    have R7 := Lib.hid (R6.out.below b7)
    have T7 := Lib.hid (T6.out.below b7)
    clear HBD
    rcases HBS.out with hb | hb
    · have hdec := dec_build hev1.1 R7.out.wf hb
      have hlen8 : 8 ≤ (buildE ev ss).1.length := by rw [(buildE_ord hb).2.2.2.1]; exact sealB_pos _
      have hbl : (buildE ev ss).1.length ≤ 1048584 := by
        have h1 := buildE_ord hb
        rw [h1.2.2.2.1, sealB_len]
        have := h1.2.2.2.2
        omega
      obtain ⟨z, hz⟩ : ∃ z, z = buildE ev ss := ⟨_, rfl⟩
      rw [← hz] at oS hdec hlen8 hbl hb ⊢
      obtain ⟨zb, zk⟩ := z
      simp only at oS hdec hlen8 hbl hb ⊢
      subst hb
      obtain ⟨bn, hbn⟩ : ∃ bn, bn = zb.length := ⟨_, rfl⟩
      rw [← hbn] at oS hlen8 hbl ⊢
      have hscc := oS.cap
      have hscn : S = none → sc = 0 := fun hh => by have := oS.nil_of (by rw [hh]; rfl); exact this.2.2
      have hsc1 : bn ≤ sc := hscc.1
      have HDC : Hid (Calls Try.prog 12 #[.slice S bn sc] w7 (RetDc8 w7 (ss, 0))) := Lib.hid (by
        have := decode_any S bn sc zb w7 oS.rd (by omega) hsc1 hscn
        rw [hdec] at this
        exact this)
      have HSR := Lib.hid oS.rd
      have HDEC := Lib.hid hdec
      have HSCN := Lib.hid hscn
      clear oS hdec b7 hscc hz hbn hscn
      go_wp2_with fail
      with_reducible refine HDC.out.mono ?_
      intro e w8 hq
      rcases hq with ⟨_, h0, _⟩ | ⟨_, _, L8, d8, he, hrow⟩
      · exact absurd rfl h0
      · subst he
        have hss8 : ss.length = k := HKL.out
        simp only [hss8] at hrow ⊢
        have b8 := hrow.bel
        have B8 := Lib.hid (B7.out.trans (b8.mono B7.out.size))
        have R8 := Lib.hid (R7.out.below b8)
        have T8 := Lib.hid (T7.out.below b8)
        have S8 := Lib.hid (HSR.out.below b8)
        have HLN : Hid (Calls Try.prog 39 #[.pointer (some ⟨p0, 0, none⟩)] w8 (RetNu w8 (k : Int))) := Lib.hid (by
          have := len_any T8.out
          rw [HTN.out, HKL.out] at this
          exact this)
        have tk : ((k : Int) != (k : Int)) = false := by simp
        clear hrow b8 hss8
        go_wp2_with fail
        with_reducible refine HLN.out.mono ?_
        rintro e w9 ⟨h1, b9⟩
        subst h1
        have B9 := Lib.hid (B8.out.trans (b9.mono B8.out.size))
        have R9 := Lib.hid (R8.out.below b9)
        have T9 := Lib.hid (T8.out.below b9)
        have S9 := Lib.hid (S8.out.below b9)
        have U9 := Lib.hid (HU.out.below B9.out)
        clear b9 HLN T1 T2 T3 T5 T6 T7 T8 B1 B2 B3 B4 B5 B6 B7 B8 R3 R4 R5 R6 R7 R8 S8 HSR HDC HRN HPT HTW HSO HFW HU HUS HTR
        go_wp2_with fail
        go_loopw [71] (fun s71 wr => ∃ j : Nat, j ≤ k ∧ s71 = .int .i64 (j : Int) ∧ Below w9.heap.size w9 wr) (fun s _ => k - (intOf s).toNat)
        case atStart => exact ⟨0, by omega, rfl, Below.refl _ _⟩
        case round =>
          obtain ⟨j, hj, rfl, hb⟩ := hrel
          have HB := Lib.hid hb
          clear hb
          by_cases hjk : j < k
          · have hR := R9.out.below HB.out
            obtain ⟨b, off, hAe, hbl⟩ := hR.pos (by omega)
            subst hAe
            obtain ⟨x, v0, v1, v2, v3, hx, d0, d1, d2, d3, hev⟩ := hR.at_ j hjk
            have hxm := List.mem_of_getElem? hx
            have hxs := HSZ.out x hxm
            obtain ⟨K, kn, kc, V, vn, vc, rfl, rfl, rfl, rfl, rK, rV, hkc, hvc, hkn, hvn, hsq, hkd2⟩ := hev.parts
            obtain ⟨U, hU⟩ : ∃ U, U = wr.alloc (.cells #[.slice K kn kc, .int .u64 (x.seq : Int), .int .u8 (x.kind : Int), .slice V vn vc] 33) := ⟨_, rfl⟩
            obtain ⟨g12, hg12⟩ : ∃ g12, g12 = wr.heap.size := ⟨_, rfl⟩
            have bU : Below wr.heap.size wr U := by rw [hU]; exact (Below.refl _ _).alloc (Nat.le_refl _) _
            have zU : Cl U g12 #[.slice K kn kc, .int .u64 (x.seq : Int), .int .u8 (x.kind : Int), .slice V vn vc] 33 := by rw [hU, hg12]; exact Cl.new _ _ _
            have bW : Below wr.heap.size wr (U.alloc (.cells #[.int .u64 (x.seq : Int), .int .u64 0, .int .u64 18446744073709551615] 23)) := bU.trans (((Below.refl _ _).alloc (Nat.le_refl _) _).mono bU.size)
            have HBX : Hid (OwnV 23 (U.alloc (.cells #[.int .u64 (x.seq : Int), .int .u64 0, .int .u64 18446744073709551615] 23)) U.heap.size (some ⟨U.heap.size, 0, none⟩) 3 3 [.int .u64 (x.seq : Int), .int .u64 0, .int .u64 18446744073709551615]) := Lib.hid (ownV_box2 U _ _ _ 3 rfl (by omega) (Nat.le_refl _) _ rfl)
            have UW := Lib.hid (U9.out.below (HB.out.trans (bW.mono HB.out.size)))
            have HON : Hid (∀ u ∈ ms.map uv, u.oneCell' = true) := Lib.hid (by
              intro u hu
              obtain ⟨q, _, rfl⟩ := List.mem_map.1 hu
              rfl)
            have BW := Lib.hid bW
            have EX := Lib.hid hev
            have HUU := Lib.hid hU
            have HG := Lib.hid hg12
            have ZU := Lib.hid (zU.below ((Below.refl _ _).alloc (Nat.le_refl _) (.cells #[.int .u64 (x.seq : Int), .int .u64 0, .int .u64 18446744073709551615] 23)))
            have sU : wr.heap.size < U.heap.size := by rw [hU]; simp
            have hg12l : g12 < U.heap.size := by omega
            obtain ⟨f0, f1, _⟩ := zU.c4
            have HXS := Lib.hid hxs
            have HKN := Lib.hid hkn
            have HRK := Lib.hid rK
            have HSQ := Lib.hid hsq
            clear hR hx hev hxm hxs rK rV hvc hvn hkd2 hU hg12 bU zU bW hkn hsq
            go_upto_region 18 with (fail)
            rw [← HUU.out, ← HG.out]
            clear d0 d1 d2 d3
            go_wp2_with (at_builtin; refine wpList_appV (U.alloc (.cells #[.int .u64 (x.seq : Int), .int .u64 0, .int .u64 18446744073709551615] 23)) rfl _ _ 52 rfl U.heap.size 23 (.int .u64 0) 8 Try.underlying52 info_u64 rfl (some ⟨U.heap.size, 0, none⟩) 3 3 [.int .u64 (x.seq : Int), .int .u64 0, .int .u64 18446744073709551615] rfl HBX.out M0 mn mc (ms.map uv) rfl UW.out.1 HON.out ?_ ?_ ?_ ?_)
            · unfold maxLen; omega
            · omega
            · simp
            intro A3 c3 w3 o3 g3 _
            have U3 : RdU w3 A3 (3 + mn) (momU x.seq ms) := ⟨by have := o3.rd; simpa [momU, uv] using this, by
              intro q hq
              simp only [momU, List.mem_append, List.mem_cons, List.not_mem_nil, or_false] at hq
              rcases hq with (rfl | rfl | rfl) | hq
              · exact HSQ.out
              · unfold U64; omega
              · unfold U64; omega
              · exact UW.out.2 q hq⟩
            have c3c := o3.cap
            have b3 : Below wr.heap.size wr w3 := BW.out.grown g3 BW.out.size (fun b hb => by have h2 : U.heap.size = b := Option.some.inj hb; omega)
            have z3 : Cl w3 g12 #[.slice K kn kc, .int .u64 (x.seq : Int), .int .u8 (x.kind : Int), .slice V vn vc] 33 := ZU.out.grown g3 (fun e => by injection e with e; have e2 : U.heap.size = g12 := e; omega)
            obtain ⟨q3, hq3⟩ : ∃ q3, q3 = 3 + mn := ⟨_, rfl⟩
            rw [← hq3] at U3 c3c ⊢
            have hq3l : q3 ≤ 1048579 := by omega
            have HU3 := Lib.hid U3
            have HZ3 := Lib.hid z3
            have HK3 := Lib.hid (HRK.out.below b3)
            have H3 := Lib.hid (HB.out.trans (b3.mono HB.out.size))
            have HC3 := Lib.hid c3c
            have g12w : g12 < w3.heap.size := z3.lt
            clear o3 g3 U3 b3 z3 c3c hq3 f0 f1 UW HON BW EX HUU HG ZU HBX HRK HSQ HB
            go_wp2_with fail
            go_loopw [81] (fun s81 wi => ∃ j2 : Nat, j2 ≤ q3 ∧ s81 = .int .i64 (j2 : Int) ∧ Below w3.heap.size w3 wi) (fun s _ => q3 - (intOf s).toNat)
            case atStart => exact ⟨0, by omega, rfl, Below.refl _ _⟩
            case round =>
              obtain ⟨j2, hj2, rfl, hb⟩ := hrel
              have HB := Lib.hid hb
              clear hb
              by_cases hjq : j2 < q3
              · have hU4 := HU3.out.below HB.out
                obtain ⟨b4, off4, hAe, hbl4⟩ := hU4.1.pos (by omega)
                subst hAe
                obtain ⟨a, _, hca, ha⟩ := hU4.at_ j2 hjq
                have zI := HZ3.out.below HB.out
                have HZI := Lib.hid zI
                have HKI := Lib.hid (HK3.out.below HB.out)
                have HWI := Lib.hid (H3.out.trans (HB.out.mono H3.out.size))
                obtain ⟨o, ho⟩ : ∃ o, o = findL x.key a ss := ⟨_, rfl⟩
                obtain ⟨y, hy⟩ : ∃ y, y = o.getD zeE3 := ⟨_, rfl⟩
                obtain ⟨z, hz⟩ : ∃ z, z = o.isSome := ⟨_, rfl⟩
                have hof : ∀ q, o = some q → q ∈ ss := fun q hq => by rw [ho] at hq; exact List.mem_of_find?_eq_some hq
                have HG1 : Hid (Calls Try.prog 45 #[.pointer (some ⟨p0, 0, none⟩), .slice K kn kc, .int .u64 (a : Int)] wr (RetGt wr o)) := Lib.hid (by
                  have := tabGet_any (at_ := a) (T9.out.below HWI.out) (by rw [HTL.out]; exact HSZ.out) HKI.out hkc HKN.out ha
                  rw [tabGet_list (by rw [HTL.out]; exact HS1.out), HTL.out, ← ho] at this
                  exact this)
                have HOW : Hid (∀ q, o = some q → U64 q.seq ∧ q.kind < 256) := Lib.hid (fun q hq => HWF.out q (hof q hq))
                have HO := Lib.hid ho
                have HY := Lib.hid hy
                have HZZ := Lib.hid hz
                have HA := Lib.hid ha
                have HCA := Lib.hid hca
                obtain ⟨f0, f1, _⟩ := zI.c4
                clear hU4 zI ho hy hz hof ha HCA
                go_wp2_with fail
                with_reducible refine HG1.out.mono ?_
                intro e w4 hq
                obtain ⟨K4, kn4, kc4, V4, vn4, vc4, h1, heo4, b4'⟩ := RetGt.one hq HOW.out
                subst h1
                rw [← HY.out] at heo4
                rw [← HY.out, ← HZZ.out]
                obtain ⟨Y1, hY1⟩ : ∃ Y1, Y1 = w4.alloc (.cells #[.slice K4 kn4 kc4, .int .u64 (y.seq : Int), .int .u8 (y.kind : Int), .slice V4 vn4 vc4] 33) := ⟨_, rfl⟩
                obtain ⟨g15, hg15⟩ : ∃ g15, g15 = w4.heap.size := ⟨_, rfl⟩
                have bY1 : Below w4.heap.size w4 Y1 := by rw [hY1]; exact (Below.refl _ _).alloc (Nat.le_refl _) _
                have z15 : Cl Y1 g15 #[.slice K4 kn4 kc4, .int .u64 (y.seq : Int), .int .u8 (y.kind : Int), .slice V4 vn4 vc4] 33 := by rw [hY1, hg15]; exact Cl.new _ _ _
                have bI : Below wr.heap.size wr Y1 := belowT b4' bY1
                have EV15 := Lib.hid (heo4.ev.below bY1)
                have Z15 := Lib.hid z15
                have zI1 := HZI.out.below bI
                have HZ1 := Lib.hid zI1
                have HK1 := Lib.hid (HKI.out.below bI)
                have HW1 := Lib.hid (HWI.out.trans (bI.mono HWI.out.size))
                have HB1 := Lib.hid (HB.out.trans (bI.mono HB.out.size))
                have HSK := Lib.hid (seek_any S bn sc zb K kn kc x.key a Y1 (S9.out.below HW1.out) (by omega) hsc1 HSCN.out HK1.out hkc HKN.out HA.out)
                rw [HDEC.out] at HSK
                have HY1 := Lib.hid hY1
                have HG15 := Lib.hid hg15
                obtain ⟨e0, e1, _⟩ := zI1.c4
                clear hq heo4 b4' hY1 hg15 bY1 z15 bI zI1 f0 f1 hca HG1
                go_upto_region 22 with (fail)
                rw [← HY1.out, ← HG15.out]
                go_wp2_with fail
                with_reducible refine HSK.out.mono ?_
                intro e w5 hq
                obtain ⟨b5, hq⟩ := hq
                have HB5 := Lib.hid (HB1.out.trans (b5.mono HB1.out.size))
                have Z155 := Lib.hid (Z15.out.below b5)
                have EV155 := Lib.hid (EV15.out.below b5)
                have HZ5 := Lib.hid (HZ1.out.below b5)
                have HK5 := Lib.hid (HK1.out.below b5)
                have hkf := keyed_find (key := x.key) (at_ := a) HS1.out
                clear b5 e0 e1
                rcases hq with ⟨h0, _⟩ | ⟨_, hno, h1⟩ | ⟨_, i, x5, hx5, hn1, hn2, K5, kn5, kc5, V5, vn5, vc5, h1, heo, hfm⟩
                · exact absurd rfl h0
                · subst h1
                  have hnf : o = none := by
                    rw [HO.out, ← hkf, show (⟨x.key, a, 0, []⟩ : En) = plE x.key a from rfl, find_no hno]
                    rfl
                  have hzf : z = false := by rw [HZZ.out, hnf]; rfl
                  subst hzf
                  clear hno hnf hkf
                  go_wp2_with fail
                  go_roundw
                  case rel => exact ⟨j2 + 1, by omega, by go_num, HB5.out.alloc HB5.out.size _⟩
                  case measure => simp [intOf]; omega
                · subst h1
                  have hfd := find_at hx5 hn1 hn2
                  have hxm5 := List.mem_of_getElem? hx5
                  have hxz := HSZ.out x5 hxm5
                  have hev5 : EV w5 x5 (.slice K5 kn5 kc5) (.int .u64 (x5.seq : Int)) (.int .u8 (x5.kind : Int)) (.slice V5 vn5 vc5) := heo.ev
                  have hkf2 : findL x.key a ss = if cmpB x5.key x.key = 0 then some x5 else none := by
                    rw [← hkf, show (⟨x.key, a, 0, []⟩ : En) = plE x.key a from rfl, hfd]
                    rfl
                  obtain ⟨Y2, hY2⟩ : ∃ Y2, Y2 = w5.alloc (.cells #[.slice K5 kn5 kc5, .int .u64 (x5.seq : Int), .int .u8 (x5.kind : Int), .slice V5 vn5 vc5] 33) := ⟨_, rfl⟩
                  obtain ⟨g17, hg17⟩ : ∃ g17, g17 = w5.heap.size := ⟨_, rfl⟩
                  have bY2 : Below w5.heap.size w5 Y2 := by rw [hY2]; exact (Below.refl _ _).alloc (Nat.le_refl _) _
                  have z17 : Cl Y2 g17 #[.slice K5 kn5 kc5, .int .u64 (x5.seq : Int), .int .u8 (x5.kind : Int), .slice V5 vn5 vc5] 33 := by rw [hY2, hg17]; exact Cl.new _ _ _
                  have z15' := Z155.out.below bY2
                  have zI2 := HZ5.out.below bY2
                  have hevY := hev5.below bY2
                  obtain ⟨_, _, _, _, _, _, q1, _, _, q4, rK5, _⟩ := hev5.parts
                  injection q1 with q1a q1b q1c
                  subst q1a q1b q1c
                  have hkl : kn5 ≤ maxLen := by have h1 := rK5.len; have h2 := hxz.1; unfold maxLen; omega
                  have hkl2 : kn ≤ maxLen := by have h1 := HK5.out.len; have h2 := HXS.out.1; unfold maxLen; omega
                  have HB7 := Lib.hid (HB5.out.trans (bY2.mono HB5.out.size))
                  have HEQ := Lib.hid (Equal_any K5 K kn5 kn kc5 kc x5.key x.key Y2 (rK5.below bY2) (HK5.out.below bY2) hkl hkl2)
                  have HEY := Lib.hid hevY
                  have HEZ := Lib.hid (EV155.out.below bY2)
                  have HY2 := Lib.hid hY2
                  have HG17 := Lib.hid hg17
                  have HZ17 := Lib.hid z17
                  have HZ15 := Lib.hid z15'
                  have HXZ := Lib.hid hxz
                  obtain ⟨x0, x1, x2, x3, _⟩ := z17.c4
                  obtain ⟨y0, y1, y2, y3, _⟩ := z15'.c4
                  obtain ⟨f0, f1, _⟩ := zI2.c4
                  by_cases hke : cmpB x5.key x.key = 0
                  · rw [if_pos hke] at hkf2
                    have ho5 : o = some x5 := by rw [HO.out, hkf2]
                    have hzt : z = true := by rw [HZZ.out, ho5]; rfl
                    have hyx : y = x5 := by rw [HY.out, ho5]; rfl
                    have hqe : eqB x5.key x.key = true := by
                      have : x5.key = x.key := cmpB_zero _ _ hke
                      rw [this]; simp [eqB]
                    rw [hqe] at HEQ
                    subst hzt
                    rw [hyx] at HEZ y1 y2
                    have HYX := Lib.hid hyx
                    clear hfd hx5 hxm5 hn1 hn2 heo hfm hkf hev5 hkf2 hY2 hg17 bY2 z17 z15' zI2 hevY q4 rK5 hke ho5 hyx hqe hxz
                    go_upto_region 23 with (fail)
                    rw [← HY2.out, ← HG17.out]
                    go_wp2_with fail
                    with_reducible refine HEQ.out.mono ?_
                    rintro e w8 ⟨rfl, q8, hq8⟩
                    have b8 : Below Y2.heap.size Y2 w8 := by rw [hq8]; exact below_drewN (Below.refl _ _) q8
                    have HB8 := Lib.hid (HB7.out.trans (b8.mono HB7.out.size))
                    have HSM := Lib.hid (Same_any (HEZ.out.below b8) (HEY.out.below b8) HXZ.out)
                    clear x0 x1 x2 x3 y0 y1 y2 y3 f0 f1 hq8
                    obtain ⟨x0, x1, x2, x3, _⟩ := (HZ17.out.below b8).c4
                    obtain ⟨y0, y1, y2, y3, _⟩ := (HZ15.out.below b8).c4
                    rw [HYX.out] at y1 y2
                    clear b8
                    go_wp2_with fail
                    with_reducible refine HSM.out.mono ?_
                    intro e w9' hq8
                    obtain ⟨h8, b9'⟩ := RetT.outD hq8
                    subst h8
                    have HB9 := Lib.hid (HB8.out.trans (b9'.mono HB8.out.size))
                    clear hq8 b9' x0 x1 x2 x3 y0 y1 y2 y3
                    go_wp2_with fail
                    go_roundw
                    case rel => exact ⟨j2 + 1, by omega, by go_num, HB9.out⟩
                    case measure => simp [intOf]; omega
                  · rw [if_neg hke] at hkf2
                    have ho5 : o = none := by rw [HO.out, hkf2]
                    have hzt : z = false := by rw [HZZ.out, ho5]; rfl
                    have hqe : eqB x5.key x.key = false := by
                      cases hq : eqB x5.key x.key with
                      | false => rfl
                      | true =>
                        have : x5.key = x.key := by simpa [eqB] using hq
                        rw [this, cmpB_refl] at hke
                        exact absurd rfl hke
                    rw [hqe] at HEQ
                    subst hzt
                    clear hfd hx5 hxm5 hn1 hn2 heo hfm hkf hev5 hkf2 hY2 hg17 bY2 z17 z15' zI2 hevY q4 rK5 hke ho5 hqe hxz
                    go_upto_region 23 with (fail)
                    rw [← HY2.out, ← HG17.out]
                    go_wp2_with fail
                    with_reducible refine HEQ.out.mono ?_
                    rintro e w8 ⟨rfl, q8, hq8⟩
                    have HB8 : Hid (Below w3.heap.size w3 w8) := Lib.hid (by rw [hq8]; exact below_drewN HB7.out q8)
                    clear hq8 x0 x1 x2 x3 y0 y1 y2 y3 f0 f1
                    go_wp2_with fail
                    go_roundw
                    case rel => exact ⟨j2 + 1, by omega, by go_num, HB8.out⟩
                    case measure => simp [intOf]; omega
              · obtain rfl : j2 = q3 := by omega
                go_wp2_with fail
                go_roundw
                case rel => exact ⟨j + 1, by omega, by go_num, H3.out.trans (HB.out.mono H3.out.size)⟩
                case measure => simp [intOf]; omega
          · obtain rfl : j = k := by omega
            go_wp2_with fail
            go_ret
            exact ⟨rfl, B9.out.trans (HB.out.mono B9.out.size)⟩
    · rw [hb] at oS ⊢
      have hbig := HBG.out (fun x hx => (R7.out.wf x hx).1) hb
      have HZ : Hid (Calls Try.prog 44 #[.pointer (some ⟨p0, 0, none⟩)] w7 (RetNu w7 (szL ss : Int))) := Lib.hid (by
        have := size_any T7.out
        rw [HTS.out] at this
        exact this)
      obtain ⟨tot, htot⟩ : ∃ tot, tot = szL ss := ⟨_, rfl⟩
      rw [← htot] at HZ hbig
      clear oS hb b7 htot
      go_wp2_with fail
      with_reducible refine HZ.out.mono ?_
      rintro e w8 ⟨h1, b8⟩
      subst h1
      have B8 := Lib.hid (B7.out.trans (b8.mono B7.out.size))
      clear b8
      go_wp2_with fail
      go_ret
      exact ⟨by simp; omega, B8.out⟩
end Go.Proofs.Ytgigohfjioifaaa
namespace Go.Proofs.Ytgigohfjioifaaa.caissonBlocksUptoRow
open Go Go.ChangeShapes Go.WideShapes Go.ChangeAt Go.RowKit Go.Deep
open Go.ChangeMaps (open_string shut_string)
set_option linter.unusedVariables false

theorem own : ownKnob Try.prog.godebug = none := by kernel_rfl
theorem laidOut : laidOutB Try.prog = true := by kernel_rfl

set_option maxRecDepth 100000 in
theorem contract (H : Type) (enc : TypeId × Value → H) (W : World) (base : Nat) (args : Array Value) (ds gs : List (DataW H)) (before : List MemPlace)
    (hval0 : ∀ (j : Nat) t v, Try.f10.params[j]? = some t → args[j]? = some v → Value.okWide Try.prog W .any base t v)
    (hW : DataW.Whole enc Try.prog Try.f10.params.toList Rows.caissonBlocksSpec.vars false W args.toList ds gs before)
    (hk : Rows.uptoSmall H (ds ++ gs) = true) :
    Calls Try.prog 10 args W fun e W' => ∃ v, e = .returned v ∧ Rows.caissonBlocksSpec.post enc Try.prog Try.f10 false true false false W args v W' := by
  have hval : ∀ (j : Nat) t v, Try.f10.params[j]? = some t → args[j]? = some v → Value.okWide Try.prog W .any base t v := hval0
  have hW' := hW
  obtain ⟨p, q, hA0, hV, rfl, hfz, hnd⟩ := hW
  have hA : DataW.TrodAll enc Try.prog W 0 (fun _ => true) true Try.f10.params.toList args.toList ds p := hA0
  rw [Try.params10] at hA hval
  obtain ⟨v0, vs0, d0, ds0, p0, q0, hargs, rfl, rfl, h0, r0⟩ := trodAll_cons hA
  obtain ⟨v1, vs1, d1, ds1, p1, q1, rfl, rfl, rfl, h1, r1⟩ := trodAll_cons r0
  obtain ⟨v2, vs2, d2, ds2, p2, q2, rfl, rfl, rfl, h2, r2⟩ := trodAll_cons r1
  obtain ⟨rfl, rfl, rfl⟩ := trodAll_nil r2
  obtain rfl : args = #[v0, v1, v2] := by cases args; simp_all
  obtain ⟨rfl, rfl⟩ := trodVars_none hV
  have hb := bulkOf hk
  have sz1 : Rows.uptoBulk d1 ≤ 1048576 := Nat.le_trans (part_bulk (d := d1) (l := [d0, d1, d2] ++ []) (by simp)) hb
  have sz2 : ∀ el sp, d2 = .slice el sp → Rows.uptoBulkAll el + Rows.uptoBulkAll sp + 1 ≤ 1048576 := fun el sp e => by
    have h1 := Nat.le_trans (part_bulk (d := d2) (l := [d0, d1, d2] ++ []) (by simp)) hb
    rw [e] at h1
    simp only [Rows.uptoBulk] at h1
    omega
  obtain ⟨a0, rfl, rfl, rfl, w0⟩ := open_int Try.underlying3 (hval 0 3 v0 rfl rfl) h0
  obtain ⟨A1, len1, cap1, rfl⟩ := okWide_slice Try.underlying25 (hval 1 25 v1 rfl rfl)
  have k1 := h1
  have lt1 : ∀ x ∈ p1, x.block < W.heap.size := by obtain ⟨m, hm⟩ := k1; exact DataW.trod_lt m _ _ _ hm
  obtain ⟨al1, rd1, lc1, ta1⟩ : ∃ al1, REs W A1 len1 al1 ∧ len1 ≤ cap1 ∧ totE al1 ≤ 1048576 := by
    obtain ⟨fuel, hf⟩ := h1
    obtain ⟨al, h1, h2, h3⟩ := ents_of (len := len1) (cap := cap1) (A := A1) hf
    exact ⟨al, h1, h2, by have h4 := sz1; have h5 : totE al ≤ Rows.uptoBulk d1 := h3; omega⟩
  obtain ⟨A2, len2, cap2, rfl⟩ := okWide_slice Try.underlying52 (hval 2 52 v2 rfl rfl)
  have k2 := h2
  have lt2 : ∀ x ∈ p2, x.block < W.heap.size := by obtain ⟨m, hm⟩ := k2; exact DataW.trod_lt m _ _ _ hm
  obtain ⟨xs2, rd2, lc2, cm2⟩ : ∃ xs : List Nat, RdU W A2 len2 xs ∧ len2 ≤ cap2 ∧ cap2 ≤ 1048576 := by
    obtain ⟨fuel, hf⟩ := h2
    rcases open_ints Try.underlying52 Try.underlying23 (by kernel_rfl) hf with ⟨hcs, _⟩ | ⟨x, l, c, zs, hcs, _, hl, hm, hz, hx, hcell, hwz⟩
    · simp [Value.cells] at hcs
      obtain ⟨rfl, rfl, rfl⟩ := hcs
      exact ⟨[], ⟨RdV.nil _ _, by simp⟩, Nat.le_refl _, by omega⟩
    · simp [Value.cells] at hcs
      obtain ⟨rfl, rfl, rfl⟩ := hcs
      simp only [Prod.mk.injEq] at hx
      have hz' : zs.length = cap2 := by simpa using hz
      have h2 := sz2 _ _ hx.1
      have h3 := length_le (lits (H := H) .u64 (zs.take len2))
      have h4 := length_le (lits (H := H) .u64 (zs.drop len2))
      simp only [lits, List.length_map, List.length_take, List.length_drop, hz'] at h2 h3 h4
      exact ⟨_, RdU.of_ints hl hz' hcell hwz, hl, by omega⟩
  clear hA0 hval0
  refine (caissonBlocks_row a0 A1 len1 cap1 al1 A2 len2 cap2 xs2 W w0 rd1 lc1 ta1 rd2 lc2 cm2).mono fun e W' ⟨he, bel⟩ => ?_
  subst he
  exact ⟨_, rfl, _, _, _, [], _, [], hW', trodAll_mk1 (shut_bool Try.underlying4 _), (trodAll_cons_mk (shut_int Try.underlying3 w0) (trodAll_cons_mk (Below.trod laidOut (by kernel_rfl) (of_decide_eq_true (by kernel_rfl)) k1 bel lt1) (trodAll_cons_mk (Below.trod laidOut (by kernel_rfl) (of_decide_eq_true (by kernel_rfl)) k2 bel lt2) trodAll_mk0))), rfl, bel.frame _, fun h => by cases h⟩

set_option maxRecDepth 100000 in
theorem lifted (os : Os) (started : os.Started) (H : Type) (enc : TypeId × Value → H) (F : Stop.Interp) :
    ReturnsInHanded {} Try.checked os 10 .any ((Rows.OpenSpec.upto Rows.caissonBlocksSpec).pre6 enc Try.prog Try.f10 Rows.caissonBlocksUptoRow.domain false) (((Rows.OpenSpec.upto Rows.caissonBlocksSpec).at F).post enc Try.prog Try.f10 false true false false) := by
  refine returnsInHanded_of_cond (C := Try.checked) (s := Rows.OpenSpec.upto Rows.caissonBlocksSpec) (k := Rows.uptoSmall) rfl own started (by kernel_rfl) Try.func10
    (OpenSpec.witness (enc := enc) (C := Try.checked) (s := Rows.OpenSpec.upto Rows.caissonBlocksSpec) (k := Rows.uptoSmall) rfl false ⟨#[], #[.int .i64 0, .slice none 0 0, .slice none 0 0], []⟩ 8 (by kernel_rfl) (by kernel_rfl) (by kernel_rfl)
      (x := ([.lit (.int .i64 0), .nil, .nil], [], [])) (by kernel_rfl) rfl (by kernel_rfl)) ?_
  intro W base args ds gs before hval hW _ hk _
  exact contract H enc W base args ds gs before hval hW hk

theorem over : Rows.caissonBlocksUptoRow.holds Try.pinned (Rows.OpenSpec.upto Rows.caissonBlocksSpec) :=
  OpenClaim.holds_of_cond 10 Try.f10 rfl rfl rfl rfl rfl rfl rfl ⟨rfl, rfl, rfl, rfl, rfl⟩ rfl rfl rfl rfl rfl (by kernel_rfl) Try.func10 (by kernel_rfl)
    (of_decide_eq_true (by kernel_rfl)) (by unfold Func.isWrapper; first | (rw [if_pos (by decide +kernel)]; kernel_rfl) | (rw [if_neg (by decide +kernel)]; exact ⟨rfl, rfl⟩))
    (fun os started H enc _ F => lifted os started H enc F)

/-- THE STATEMENT -/
theorem proved : Rows.CaissonBlocksUptoSaid := over
#print axioms proved
end Go.Proofs.Ytgigohfjioifaaa.caissonBlocksUptoRow
