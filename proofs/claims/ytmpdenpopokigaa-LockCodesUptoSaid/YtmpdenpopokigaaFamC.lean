/- Copies and codec.Parts hand back rows over families: lists that share no memory. -/
import Derived.Test.YtmpdenpopokigaaFam
import Derived.Test.YtmpdenpopokigaaParts
namespace Go.Proofs.Ytmpdenpopokigaa
open Go Go.RowKit

def RetPF (base : Nat) (w : World) (g : List (List UInt8) × Int) (e : Ending) (w' : World) : Prop :=
  ∃ A n c ps, e = .returned (.tuple #[.slice A n c, .int .i64 g.2]) ∧ RowF w base A n c ps w' ∧ ps.map (·.2) = g.1
theorem retPF_some {w w' : World} {base n c : Nat} {A : Option Addr} {ps : List VB} {g : List (List UInt8) × Int} (hg : g = (ps.map (·.2), 0)) (h : RowF w base A n c ps w') : RetPF base w g (.returned (.tuple #[.slice A n c, .int .i64 0])) w' := by
  subst hg
  exact ⟨A, n, c, ps, rfl, h, rfl⟩
theorem retPF_none {w w' : World} {base : Nat} {g : List (List UInt8) × Int} {e : Int} (hg : g = ([], e)) (hb : Below base w w') : RetPF base w g (.returned (.tuple #[.slice none 0 0, .int .i64 e])) w' := by
  subst hg
  exact ⟨none, 0, 0, [], rfl, ⟨OwnV.nil _ _ _, Fam.nil _ _, fun b h => by simp [blk] at h, hb⟩, rfl⟩

set_option maxRecDepth 100000 in
set_option maxHeartbeats 1000000 in
theorem PartsF_any (A : Option Addr) (n c : Nat) (xs : List UInt8) (w : World) (hx : Rd w A n xs) (hn : n ≤ 16777216) (hnc : n ≤ c) (hnil : A = none → c = 0) :
    Calls Try.prog 80 #[.slice A n c] w (RetPF w.heap.size w (parts xs)) := by
  obtain ⟨base, hbase⟩ : ∃ b, b = w.heap.size := ⟨_, rfl⟩
  rw [← hbase]
  have Hw : Hid (base = w.heap.size) := Lib.hid hbase
  have Hnil := Lib.hid hnil
  clear hbase hnil
  have hlx := hx.len
  go_enter Try.func80, Try.ntmps80
  go_wp2
  go_loopw [4, 5] (fun v j wr => ∃ (P : Option Addr) (m d p f : Nat) (ps : List VB), v = .slice P m d ∧ j = .int .i64 p ∧ p ≤ n ∧ m ≤ p ∧ n ≤ p + f ∧ parts xs = partsF xs f p (ps.map (·.2)) ∧ RowF w base P m d ps wr) (fun _ j _ => n - (intOf j).toNat)
  case atStart => exact ⟨none, 0, 0, 0, n, [], rfl, rfl, Nat.zero_le _, Nat.zero_le _, by omega, by rw [parts, hlx]; rfl, RowF.nil _ _⟩
  case round =>
    obtain ⟨P, m, d, p, f, ps, rfl, rfl, hp, hmp, hf, hg, op⟩ := hrel
    have hb := op.bel
    have Hg := Lib.hid hg
    clear hg
    have hbs := hb.size
    have hbase : base ≤ wr.heap.size := by have := Hw.out; omega
    have hb' : Below w.heap.size w wr := by rw [← Hw.out]; exact hb
    have hxr := hx.below hb'
    by_cases hlt : p < n
    · obtain ⟨f, rfl⟩ : ∃ g, f = g + 1 := ⟨f - 1, by omega⟩
      have hpl : p < xs.length := by rw [hlx]; exact hlt
      have hG := GetU_any A n c xs (p : Int) wr hxr (by omega) hnc
      rcases hgu : getU xs (p : Int) with ⟨gm, gx, ge⟩
      rw [hgu] at hG
      have HG := Lib.hid hG
      have Hgu := Lib.hid hgu
      clear hG hgu
      by_cases he : ge = 0
      · obtain ⟨k, rfl, hpk, hkl, hgm⟩ := getU_err (by omega) Hgu.out he
        subst he
        rw [hlx] at hkl
        have Hgm := Lib.hid hgm
        clear hgm
        have hW : IntKind.u64.wrap ((n : Int) - (k : Int)) = (n : Int) - (k : Int) := u64_quo' (by omega) (by omega)
        by_cases hs : (n : Int) - (k : Int) < (gm : Int)
        · have F := Lib.hid (Hg.out.trans (partsF_short hpl Hgu.out (by rw [hlx]; exact hs)))
          clear Hg Hgu
          go_wp2_with fail
          refine HG.out.mono ?_
          clear HG
          rintro e w2 ⟨rfl, rfl⟩
          go_wp2
          go_ret2
          exact retPF_none F.out hb
        · have F := Lib.hid (Hg.out.trans (partsF_next hpl Hgu.out (by rw [hlx]; exact hs)))
          have hgn : gm ≤ 16777216 := by omega
          have hsl : ∀ w, (Instr.slice 36 (.slice A n c) (some (.int .i64 (k : Int))) (some (.int .i64 ((k : Int) + (gm : Int)))) none).run Try.prog w = .ok (.slice (cutA A k c) gm (c - k)) w := fun w => by
            have h := cut_lh Try.underlying36 elem_bytes size_u8 A (n := n) (cap := c) (k := k) (m := k + gm) (by omega) (by omega) w
            rw [Nat.add_sub_cancel_left] at h
            exact h
          have hr : Rd wr (cutA A k c) gm ((xs.drop k).take gm) := by
            have h := hxr.cut (k := k) (m := k + gm) (by omega) (by omega) hnc
            rw [Nat.add_sub_cancel_left, List.drop_take, Nat.add_sub_cancel_left] at h
            exact h
          have hcn : cutA A k c = none → c - k = 0 := fun h => by
            unfold cutA at h
            split at h
            · have := Hnil.out h; omega
            · cases A with
              | none => have := Hnil.out rfl; omega
              | some a => cases h
          have Hcn := Lib.hid hcn
          obtain ⟨A', hA'⟩ : ∃ A', A' = cutA A k c := ⟨_, rfl⟩
          obtain ⟨cc, hcc⟩ : ∃ cc, cc = c - k := ⟨_, rfl⟩
          rw [← hA', ← hcc] at hsl Hcn
          rw [← hA'] at hr
          clear Hg Hgu hA' hcc hcn
          go_wp2_with fail
          refine HG.out.mono ?_
          clear HG
          rintro e w2 ⟨rfl, rfl⟩
          go_wp2_with fail
          refine (Clone_any A' gm cc _ _ hr (by omega) Hcn.out).mono ?_
          rintro e w3 ⟨Q, mq, dq, rfl, oq, hb3⟩
          have hs3 := hb3.size
          have hqc := oq.cap
          have hG := op.own.below hb3
          have HOP := Lib.hid op
          clear op
          go_wp2_with (at_builtin; refine wpList_app1 w3 rfl _ _ 101 rfl base 36 _ _ Try.underlying101 info_sl rfl P m d (ps.map (·.1)) rfl hG (.slice Q mq dq) rfl w3.heap.size rfl rfl ?_ ?_ ?_ ?_)
          · unfold maxLen; omega
          · omega
          · omega
          intro P2 d2 w4 hG4 hg4 hk4
          have HR4 := Lib.hid (HOP.out.snoc hbase oq hb3 hG4 hg4 hk4)
          clear hG hG4 hg4 hk4 oq hb3
          go_wp2
          go_roundw
          case rel => exact ⟨P2, m + 1, d2, k + gm, f, _, rfl, by go_num, by omega, by omega, by omega, by rw [F.out, List.map_append]; rfl, HR4.out⟩
          case measure => simp [intOf]; omega
      · have F := Lib.hid (Hg.out.trans (partsF_err hpl Hgu.out he))
        have hbne : ((ge : Int) != 0) = true := by simpa using he
        clear Hg Hgu he
        go_wp2_with fail
        refine HG.out.mono ?_
        clear HG
        rintro e w2 ⟨rfl, rfl⟩
        go_wp2
        go_ret2
        exact retPF_none F.out hb
    · have F := Lib.hid (Hg.out.trans (partsF_end (by rw [hlx]; exact hlt)))
      clear Hg
      go_wp2
      go_ret2
      exact retPF_some F.out op


end Go.Proofs.Ytmpdenpopokigaa
