/- For every two texts and every list of numbers, where what they read is of bulk at most 1048576, the call of caissontop.CaissonKeys returns true and changes nothing that was there. -/
import Derived.Test.YtdcboeeblbakhaaRows
import Derived.Test.YtdcboeeblbakhaaLawTop1
import Derived.Test.YtdcboeeblbakhaaOpen
import Derived.ProofKit
import Derived.OpenShut
import Derived.ShutString
import Derived.ChangeOld
import Derived.SizedLaws
import Derived.JoinedCond
import Derived.Deep.CondSized
import Derived.Deep.Matrix
import Derived.Test.YtdcboeeblbakhaaBulk
import Derived.Test.YtdcboeeblbakhaaOpenV
namespace Go.Proofs.Ytdcboeeblbakhaa.caissonKeysUptoRow
open Go Go.ChangeShapes Go.WideShapes Go.ChangeAt Go.RowKit Go.Deep
open Go.ChangeMaps (open_string shut_string)
set_option linter.unusedVariables false

theorem own : ownKnob Try.prog.godebug = none := by kernel_rfl
theorem laidOut : laidOutB Try.prog = true := by kernel_rfl

set_option maxRecDepth 100000 in
theorem contract (H : Type) (enc : TypeId × Value → H) (W : World) (base : Nat) (args : Array Value) (ds gs : List (DataW H)) (before : List MemPlace)
    (hval0 : ∀ (j : Nat) t v, Try.f8.params[j]? = some t → args[j]? = some v → Value.okWide Try.prog W .any base t v)
    (hW : DataW.Whole enc Try.prog Try.f8.params.toList Rows.caissonKeysSpec.vars false W args.toList ds gs before)
    (hk : Rows.uptoSmall H (ds ++ gs) = true) :
    Calls Try.prog 8 args W fun e W' => ∃ v, e = .returned v ∧ Rows.caissonKeysSpec.post enc Try.prog Try.f8 false true false false W args v W' := by
  have hval : ∀ (j : Nat) t v, Try.f8.params[j]? = some t → args[j]? = some v → Value.okWide Try.prog W .any base t v := hval0
  have hW' := hW
  obtain ⟨p, q, hA0, hV, rfl, hfz, hnd⟩ := hW
  have hA : DataW.TrodAll enc Try.prog W 0 (fun _ => true) true Try.f8.params.toList args.toList ds p := hA0
  rw [Try.params8] at hA hval
  obtain ⟨v0, vs0, d0, ds0, p0, q0, hargs, rfl, rfl, h0, r0⟩ := trodAll_cons hA
  obtain ⟨v1, vs1, d1, ds1, p1, q1, rfl, rfl, rfl, h1, r1⟩ := trodAll_cons r0
  obtain ⟨v2, vs2, d2, ds2, p2, q2, rfl, rfl, rfl, h2, r2⟩ := trodAll_cons r1
  obtain ⟨rfl, rfl, rfl⟩ := trodAll_nil r2
  obtain rfl : args = #[v0, v1, v2] := by cases args; simp_all
  obtain ⟨rfl, rfl⟩ := trodVars_none hV
  have hb := bulkOf hk
  have sz0 : ∀ bs, d0 = .lit (.string bs) → bs.length ≤ 1048576 := fun bs e => by
    have h1 := Nat.le_trans (part_bulk (d := d0) (l := [d0, d1, d2] ++ []) (by simp)) hb
    rw [e] at h1
    simp only [Rows.uptoBulk] at h1
    omega
  have sz1 : ∀ bs, d1 = .lit (.string bs) → bs.length ≤ 1048576 := fun bs e => by
    have h1 := Nat.le_trans (part_bulk (d := d1) (l := [d0, d1, d2] ++ []) (by simp)) hb
    rw [e] at h1
    simp only [Rows.uptoBulk] at h1
    omega
  have sz2 : ∀ el sp, d2 = .slice el sp → Rows.uptoBulkAll el + Rows.uptoBulkAll sp + 1 ≤ 1048576 := fun el sp e => by
    have h1 := Nat.le_trans (part_bulk (d := d2) (l := [d0, d1, d2] ++ []) (by simp)) hb
    rw [e] at h1
    simp only [Rows.uptoBulk] at h1
    omega
  obtain ⟨s0, rfl, rfl, rfl, w0⟩ := open_string Try.underlying9 (hval 0 9 v0 rfl rfl) h0
  have cm0 : s0.size ≤ 1048576 := sz0 _ rfl
  obtain ⟨s1, rfl, rfl, rfl, w1⟩ := open_string Try.underlying9 (hval 1 9 v1 rfl rfl) h1
  have cm1 : s1.size ≤ 1048576 := sz1 _ rfl
  obtain ⟨A2, len2, cap2, rfl⟩ := okWide_slice Try.underlying59 (hval 2 59 v2 rfl rfl)
  have k2 := h2
  have lt2 : ∀ x ∈ p2, x.block < W.heap.size := by obtain ⟨m, hm⟩ := k2; exact DataW.trod_lt m _ _ _ hm
  obtain ⟨xs2, rd2, lc2, cm2, wz2⟩ : ∃ xs : List Int, RdV W A2 len2 (xs.map iv) ∧ len2 ≤ cap2 ∧ cap2 ≤ 1048576 ∧ ∀ z ∈ xs, -9223372036854775808 ≤ z ∧ z ≤ 9223372036854775807 := by
    obtain ⟨fuel, hf⟩ := h2
    rcases open_ints Try.underlying59 Try.underlying2 (by kernel_rfl) hf with ⟨hcs, _⟩ | ⟨x, l, c, zs, hcs, _, hl, hm, hz, hx, hcell, hwz⟩
    · simp [Value.cells] at hcs
      obtain ⟨rfl, rfl, rfl⟩ := hcs
      exact ⟨[], RdV.nil _ _, Nat.le_refl _, by omega, by simp⟩
    · simp [Value.cells] at hcs
      obtain ⟨rfl, rfl, rfl⟩ := hcs
      simp only [Prod.mk.injEq] at hx
      have hz' : zs.length = cap2 := by simpa using hz
      have h2 := sz2 _ _ hx.1
      have h3 := length_le (lits (H := H) .i64 (zs.take len2))
      have h4 := length_le (lits (H := H) .i64 (zs.drop len2))
      simp only [lits, List.length_map, List.length_take, List.length_drop, hz'] at h2 h3 h4
      exact ⟨_, RdV.of_ints hl hz' hcell, hl, by omega, bd_take hwz⟩
  clear hA0 hval0
  refine (caissonKeys_row s0 s1 A2 len2 cap2 xs2 W w0 cm0 w1 cm1 rd2 lc2 cm2 wz2).mono fun e W' ⟨he, bel⟩ => ?_
  subst he
  exact ⟨_, rfl, _, _, _, [], _, [], hW', trodAll_mk1 (shut_bool Try.underlying4 _), (trodAll_cons_mk (shut_string Try.underlying9 w0) (trodAll_cons_mk (shut_string Try.underlying9 w1) (trodAll_cons_mk (Below.trod laidOut (by kernel_rfl) (of_decide_eq_true (by kernel_rfl)) k2 bel lt2) trodAll_mk0))), rfl, bel.frame _, fun h => by cases h⟩

set_option maxRecDepth 100000 in
theorem lifted (os : Os) (started : os.Started) (H : Type) (enc : TypeId × Value → H) (F : Stop.Interp) :
    ReturnsInHanded {} Try.checked os 8 .any ((Rows.OpenSpec.upto Rows.caissonKeysSpec).pre6 enc Try.prog Try.f8 Rows.caissonKeysUptoRow.domain false) (((Rows.OpenSpec.upto Rows.caissonKeysSpec).at F).post enc Try.prog Try.f8 false true false false) := by
  refine returnsInHanded_of_cond (C := Try.checked) (s := Rows.OpenSpec.upto Rows.caissonKeysSpec) (k := Rows.uptoSmall) rfl own started (by kernel_rfl) Try.func8
    (OpenSpec.witness (enc := enc) (C := Try.checked) (s := Rows.OpenSpec.upto Rows.caissonKeysSpec) (k := Rows.uptoSmall) rfl false ⟨#[], #[.string ByteArray.empty, .string ByteArray.empty, .slice none 0 0], []⟩ 8 (by kernel_rfl) (by kernel_rfl) (by kernel_rfl)
      (x := ([.lit (.string []), .lit (.string []), .nil], [], [])) (by kernel_rfl) rfl (by kernel_rfl)) ?_
  intro W base args ds gs before hval hW _ hk _
  exact contract H enc W base args ds gs before hval hW hk

theorem over : Rows.caissonKeysUptoRow.holds Try.pinned (Rows.OpenSpec.upto Rows.caissonKeysSpec) :=
  OpenClaim.holds_of_cond 8 Try.f8 rfl rfl rfl rfl rfl rfl rfl ⟨rfl, rfl, rfl, rfl, rfl⟩ rfl rfl rfl rfl rfl (by kernel_rfl) Try.func8 (by kernel_rfl)
    (of_decide_eq_true (by kernel_rfl)) (by unfold Func.isWrapper; first | (rw [if_pos (by decide +kernel)]; kernel_rfl) | (rw [if_neg (by decide +kernel)]; exact ⟨rfl, rfl⟩))
    (fun os started H enc _ F => lifted os started H enc F)

/-- THE STATEMENT -/
theorem proved : Rows.CaissonKeysUptoSaid := over
#print axioms proved
end Go.Proofs.Ytdcboeeblbakhaa.caissonKeysUptoRow
