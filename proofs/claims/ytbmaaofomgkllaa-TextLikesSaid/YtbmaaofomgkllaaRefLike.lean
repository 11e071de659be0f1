/- The reference's Like tells what the relation of patterns says, for texts and patterns of at most 2000 bytes. -/
import Derived.Test.YtbmaaofomgkllaaMathM
import Derived.Test.YtbmaaofomgkllaaRefFold
import Derived.Test.YtbmaaofomgkllaaAwake
import Derived.Deep.RegionHeld3
import Derived.IntWalk
import Derived.RegionTactic
namespace Go.Proofs.Ytbmaaofomgkllaa
open Go Go.RowKit

def bv (b : Bool) : Value := .bool b
theorem info_bool : (Try.prog.info? 4).map (fun i => (i.zero, i.size, i.bytes)) = some (some (.bool false), 1, 1) := by kernel_rfl

theorem nat_at {w : World} {b off n : Nat} {s : ByteArray} (h : RdV w (some ⟨b, off, none⟩) n (runeVs (rn s))) (k : Nat) (hk : k < n) : ∃ c, (rs s)[k]? = some c ∧ VR c ∧ w.cell? ⟨b, off + k, none⟩ = some (.int .i64 (c : Int)) := by
  obtain ⟨v, h1, h2⟩ := h.at_ k hk
  unfold runeVs at h1
  rw [List.getElem?_map] at h1
  cases hx : (rn s)[k]? with
  | none => rw [hx] at h1; cases h1
  | some x =>
    rw [hx] at h1
    injection h1 with h1
    subst h1
    exact ⟨x.2, by simp [rs, hx], rs_valid s x.2 (List.mem_map.2 ⟨x, List.mem_of_getElem? hx, rfl⟩), h2⟩
theorem OwnV.set_ {e : TypeId} {w : World} {base n c g : Nat} {vs : List Value} (h : OwnV e w base (some ⟨g, 0, none⟩) n c vs) (j : Nat) (u : Value) :
    OwnV e (w.setCell ⟨g, j, none⟩ u) base (some ⟨g, 0, none⟩) n c (vs.set j u) ∧ w.grownBy (w.setCell ⟨g, j, none⟩ u) (some g) := World.ownsRow.stored h j u
theorem OwnV.thawed {e : TypeId} {w : World} {base n c g : Nat} {vs : List Value} (h : OwnV e w base (some ⟨g, 0, none⟩) n c vs) (j : Nat) : w.frozen? ⟨g, j, none⟩ = false := World.ownsRow.frozenAt h j
theorem OwnV.cell {e : TypeId} {w : World} {base n c g : Nat} {vs : List Value} (h : OwnV e w base (some ⟨g, 0, none⟩) n c vs) (j : Nat) (v : Value) (hj : vs[j]? = some v) : w.cell? ⟨g, j, none⟩ = some v := by
  have := World.ownsRow.cells h (g := g) rfl j v hj
  simpa [Addr.add_lit] using this
theorem OwnV.has {e : TypeId} {w : World} {base n c g : Nat} {vs : List Value} (h : OwnV e w base (some ⟨g, 0, none⟩) n c vs) (j : Nat) (hj : j < n) : ∃ v, w.cell? ⟨g, j, none⟩ = some v := by
  have hl : j < vs.length := by rw [h.len]; exact hj
  exact ⟨_, h.cell j vs[j] (List.getElem?_eq_getElem hl)⟩
theorem cell_set_far (w : World) (g o : Nat) (v : Value) {b p : Nat} (h : b ≠ g) : (w.setCell ⟨g, o, none⟩ v).cell? ⟨b, p, none⟩ = w.cell? ⟨b, p, none⟩ := by
  have := Below.heap_setCell w ⟨g, o, none⟩ v b h
  simp only [World.cell?, this]

/-- 'The first k values of the row are row i of the table.' -/
def Tab (T P : List Nat) (i k : Nat) (vs : List Value) : Prop := ∀ j, j < k → vs[j]? = some (bv (mij T P i j))
theorem Tab.snoc {T P : List Nat} {i k : Nat} {vs : List Value} (h : Tab T P i k vs) (hl : k < vs.length) {b : Bool} (hb : b = mij T P i k) : Tab T P i (k + 1) (vs.set k (bv b)) := by
  intro j hj
  subst hb
  by_cases e : j = k
  · subst e
    rw [List.getElem?_set_self hl]
  · rw [List.getElem?_set_ne (by omega)]
    exact h j (by omega)
theorem low_37 (x : Nat) : low x = 37 ↔ x = 37 := by
  unfold low
  split <;> omega
theorem low_95 (x : Nat) : low x = 95 ↔ x = 95 := by
  unfold low
  split <;> omega
theorem low_at {L : List Nat} {k x : Nat} (h : L[k]? = some x) : (L.map low)[k]? = some (low x) := by
  rw [List.getElem?_map, h]; rfl
theorem made_false (k : Nat) : (madeCells #[Value.bool false] k).toList = List.replicate k (.bool false) := by
  exact toList_madeCells_one _ _

set_option maxRecDepth 100000 in
set_option maxHeartbeats 8000000 in
theorem refLike_any (s pt : ByteArray) (w : World) (hs : s.size ≤ 2000) (hp : pt.size ≤ 2000) :
    Calls Try.prog 63 #[.string s, .string pt] w (RetT w (mt ((rs s).map low) ((rs pt).map low))) := by
  obtain ⟨T, hT⟩ : ∃ T, T = (rs s).map low := ⟨_, rfl⟩
  obtain ⟨P, hP⟩ : ∃ P, P = (rs pt).map low := ⟨_, rfl⟩
  have hTl : T.length = (rn s).length := by rw [hT, List.length_map, rs_len]
  have hPl : P.length = (rn pt).length := by rw [hP, List.length_map, rs_len]
  have hsl := rn_len s
  have hpl := rn_len pt
  rw [← hT, ← hP]
  have HT := Lib.hid hT
  have HP := Lib.hid hP
  clear hT hP
  go_enter Try.func63, Try.ntmps63
  go_wp2_with fail
  refine (refRunes_any s _ (by omega)).mono ?_
  rintro e w1 ⟨A, n, ca, A', n', ca', rfl, hA, _, hb1⟩
  go_wp2_with fail
  refine (refRunes_any pt _ (by omega)).mono ?_
  rintro e w2 ⟨B, m, cb, B', m', cb', rfl, hB, _, hb2⟩
  have hn : (rn s).length = n := by have := hA.len; simpa [runeVs] using this
  have hm : (rn pt).length = m := by have := hB.len; simpa [runeVs] using this
  rw [hn] at hTl hsl
  rw [hm] at hPl hpl
  have rA := hA.rd.below hb2
  have rB := hB.rd
  have k2 := hb1.trans (hb2.mono hb1.size)
  have hnn : n ≤ 2000 := by omega
  have hmm : m ≤ 2000 := by omega
  have HN := Lib.hid hTl
  have HM := Lib.hid hPl
  clear hA hB hb1 hb2 hn hm hTl hPl hsl hpl
  obtain ⟨i0, hi0, z1, z2, z3⟩ := info_parts info_bool
  have hsum : ((m : Int) + 1) = ((m + 1 : Nat) : Int) := by omega
  have HSUM := Lib.hid hsum
  clear hsum
  have hbase : Hid (w2.heap.size ≤ w2.heap.size) := Lib.hid (Nat.le_refl _)
  go_wp2_with (at_make; refine wpList_make_full w2 rfl _ _ 97 rfl w2.heap.size 4 i0 (.bool false) 1 Try.underlying97 hi0 z1 z2 .i64 .i64 _ _ (m + 1) rfl rfl HSUM.out HSUM.out ?_ ?_ ?_ ?_)
  · rw [z3]; omega
  · unfold maxLen; omega
  · exact Nat.le_refl _
  intro w3 hR hg3
  have hR' : OwnV 4 w3 w2.heap.size (some ⟨w2.heap.size, 0, none⟩) (m + 1) (m + 1) (List.replicate (m + 1) (bv false)) := by
    have := hR
    rw [made_false] at this
    exact this
  have hb3 : Below w2.heap.size w2 w3 := (Below.refl _ _).grown hg3 (Nat.le_refl _) (fun k hk => by cases hk)
  have hB0 : ∃ B0, B0 = w2.heap.size := ⟨_, rfl⟩
  have hs3 := hb3.size
  have hT0 : Tab T P 0 1 ((List.replicate (m + 1) (bv false)).set 0 (bv true)) := Tab.snoc (fun j hj => absurd hj (by omega)) (by simp) (mij_00 T P).symm
  have HT0 := Lib.hid hT0
  have hglt := (hR'.lt w2.heap.size rfl).2
  obtain ⟨h4, hg4⟩ := hR'.set_ 0 (bv true)
  have fz := hR'.thawed 0
  obtain ⟨vz, hvz⟩ := hR'.has 0 (by omega)
  have hb4 := hb3.grown hg4 hs3 (fun k hk => by injection hk with hk; omega)
  have HR4 := Lib.hid h4
  have HB4 := Lib.hid hb4
  clear hR hg3 hR' hb3 hT0 h4 hg4 hb4 hB0
  go_wp2_with fail
  clear hvz
  go_loopw [10] (fun vj wr => ∃ (k : Nat) (vs : List Value), vj = .int .i64 ((k : Int) + 1) ∧ k ≤ m ∧ OwnV 4 wr w2.heap.size (some ⟨w2.heap.size, 0, none⟩) (m + 1) (m + 1) vs ∧ Tab T P 0 (k + 1) vs ∧ Below w2.heap.size w2 wr) (fun vj _ => (m + 1 - intOf vj).toNat)
  case atStart => exact ⟨0, _, rfl, Nat.zero_le _, HR4.out, HT0.out, HB4.out⟩
  case round =>
    obtain ⟨k, vs, rfl, hk, hV, hTb, hb⟩ := hrel
    have fz := hV.thawed (k + 1)
    have hvl := hV.len
    by_cases hlt : k < m
    · obtain ⟨b2, off2, rfl, _⟩ := rB.pos (by omega)
      obtain ⟨x, hx, _, hxc⟩ := nat_at (rB.below hb) k hlt
      have hc0 := hV.cell k _ (hTb k (by omega))
      obtain ⟨vz, hvz⟩ := hV.has (k + 1) (by omega)
      have HPk : Hid (P[k]? = some (low x)) := Lib.hid (by rw [HP.out]; exact low_at hx)
      have R := Lib.hid (mij_0s (T := T) HPk.out)
      clear hx
      obtain ⟨b, hbb⟩ : ∃ b, mij T P 0 k = b := ⟨_, rfl⟩
      rw [hbb] at hc0
      have HBB := Lib.hid hbb
      have HTb := Lib.hid hTb
      clear hTb hbb
      have hfin : ∀ (v : Bool), v = (b && decide (low x = 37)) → OwnV 4 (wr.setCell ⟨w2.heap.size, k + 1, none⟩ (.bool v)) w2.heap.size (some ⟨w2.heap.size, 0, none⟩) (m + 1) (m + 1) (vs.set (k + 1) (bv v)) ∧ Tab T P 0 (k + 1 + 1) (vs.set (k + 1) (bv v)) ∧ Below w2.heap.size w2 (wr.setCell ⟨w2.heap.size, k + 1, none⟩ (.bool v)) := fun v hv => by
        obtain ⟨h5, hg5⟩ := hV.set_ (k + 1) (bv v)
        refine ⟨h5, Tab.snoc HTb.out (by omega) ?_, hb.grown hg5 hb.size (fun k hk => by injection hk with hk; omega)⟩
        rw [R.out, HBB.out, hv]
      have HF := Lib.hid hfin
      clear hfin
      cases b with
      | false =>
        simp only [bv] at hc0
        go_wp2
        go_roundw
        case rel =>
          obtain ⟨f1, f2, f3⟩ := HF.out false rfl
          exact ⟨k + 1, _, by go_num, by omega, f1, f2, f3⟩
        case measure => simp [intOf]; omega
      | true =>
        simp only [bv] at hc0
        by_cases h37 : x = 37
        · subst h37
          have hxc' : wr.cell? ⟨b2, off2 + k, none⟩ = some (.int .i64 37) := hxc
          clear hxc
          go_wp2
          go_roundw
          case rel =>
            obtain ⟨f1, f2, f3⟩ := HF.out true rfl
            exact ⟨k + 1, _, by go_num, by omega, f1, f2, f3⟩
          case measure => simp [intOf]; omega
        · have e37 : ((x : Int) == 37) = false := by rw [beq_eq_false_iff_ne]; omega
          go_wp2
          go_roundw
          case rel =>
            obtain ⟨f1, f2, f3⟩ := HF.out false (by simp [low_37, h37])
            exact ⟨k + 1, _, by go_num, by omega, f1, f2, f3⟩
          case measure => simp [intOf]; omega
    · obtain rfl : k = m := by omega
      obtain ⟨wo, hwo⟩ : ∃ wo, wo = wr := ⟨_, rfl⟩
      rw [← hwo] at hV hb ⊢
      clear hwo fz hvl hlt HT0
      have HTb := Lib.hid hTb
      clear hTb
      obtain ⟨g0, hg0⟩ : ∃ g0, g0 = w2.heap.size := ⟨_, rfl⟩
      have HV0 : Hid (OwnV 4 wo w2.heap.size (some ⟨w2.heap.size, 0, none⟩) (k + 1) (k + 1) vs) := Lib.hid hV
      clear hg0 hV
      go_wp2
      go_loopw [9, 11] (fun vr vi wr => ∃ (i g : Nat) (us : List Value), vr = .slice (some ⟨g, 0, none⟩) (k + 1) (k + 1) ∧ vi = .int .i64 ((i : Int) + 1) ∧ i ≤ n ∧ OwnV 4 wr w2.heap.size (some ⟨g, 0, none⟩) (k + 1) (k + 1) us ∧ Tab T P i (k + 1) us ∧ Below w2.heap.size w2 wr) (fun _ vi _ => (n + 1 - intOf vi).toNat)
      case atStart => exact ⟨0, _, _, rfl, rfl, Nat.zero_le _, HV0.out, HTb.out, hb⟩
      case round =>
        clear HTb HV0 hb
        obtain ⟨i, g, us, rfl, rfl, hi, hU, hTu, hb⟩ := hrel
        have hbs := hb.size
        by_cases hlt : i < n
        · obtain ⟨b1, off1, rfl, hbA⟩ := rA.pos (by omega)
          obtain ⟨c, hc, hVc, _⟩ := nat_at (rA.below hb) i hlt
          have HTi : Hid (T[i]? = some (low c)) := Lib.hid (by rw [HT.out]; exact low_at hc)
          have Hc := Lib.hid hc
          have HVc := Lib.hid hVc
          have HTu := Lib.hid hTu
          clear hTu hc hVc
          go_wp2_with (at_make; refine wpList_make_full wr rfl _ _ 97 rfl w2.heap.size 4 i0 (.bool false) 1 Try.underlying97 hi0 z1 z2 .i64 .i64 _ _ (k + 1) rfl rfl HSUM.out HSUM.out ?_ ?_ ?_ ?_)
          · rw [z3]; omega
          · unfold maxLen; omega
          · exact hbs
          intro w5 hR5 hg5
          have hR5' : OwnV 4 w5 w2.heap.size (some ⟨wr.heap.size, 0, none⟩) (k + 1) (k + 1) (List.replicate (k + 1) (bv false)) := by
            have := hR5
            rw [made_false] at this
            exact this
          have hU5 := hU.kept hg5 (fun b _ => by simp)
          have hb5 := hb.grown hg5 hbs (fun k hk => by cases hk)
          have hgg : g < wr.heap.size := (hU.lt g rfl).2
          obtain ⟨g2, hg2⟩ : ∃ g2, g2 = wr.heap.size := ⟨_, rfl⟩
          rw [← hg2] at hR5' hgg ⊢
          have hg2b : w2.heap.size ≤ g2 := by omega
          have hT5 : Tab T P (i + 1) 1 (List.replicate (k + 1) (bv false)) := fun j hj => by
            obtain rfl : j = 0 := by omega
            rw [mij_s0 HTi.out]
            simp
          have HT5 := Lib.hid hT5
          have HR5 := Lib.hid hR5'
          have HU5 := Lib.hid hU5
          have HB5 := Lib.hid hb5
          clear hR5 hg5 hR5' hT5 hU5 hb5 hU hb hg2 hbs
          go_wp2
          go_loopw [13] (fun vj wr => ∃ (j : Nat) (vs : List Value), vj = .int .i64 ((j : Int) + 1) ∧ j ≤ k ∧ OwnV 4 wr w2.heap.size (some ⟨g2, 0, none⟩) (k + 1) (k + 1) vs ∧ Tab T P (i + 1) (j + 1) vs ∧ OwnV 4 wr w2.heap.size (some ⟨g, 0, none⟩) (k + 1) (k + 1) us ∧ Below w2.heap.size w2 wr) (fun vj _ => (k + 1 - intOf vj).toNat)
          case atStart => exact ⟨0, _, rfl, Nat.zero_le _, HR5.out, HT5.out, HU5.out, HB5.out⟩
          case round =>
            clear HR5 HT5 HU5 HB5
            obtain ⟨j, vs2, rfl, hj, hV, hTb, hU, hb⟩ := hrel
            have fz := hV.thawed (j + 1)
            have hvl := hV.len
            by_cases hjk : j < k
            · obtain ⟨b2, off2, rfl, hbB⟩ := rB.pos (by omega)
              obtain ⟨x, hx, hVx, hxc⟩ := nat_at (rB.below hb) j hjk
              obtain ⟨c', hc', _, hcc⟩ := nat_at (rA.below hb) i hlt
              obtain rfl : c' = c := by rw [Hc.out] at hc'; injection hc' with hc'; exact hc'.symm
              have hn0 := hV.cell j _ (hTb j (by omega))
              have hr0 := hU.cell j _ (HTu.out j (by omega))
              have hr1 := hU.cell (j + 1) _ (HTu.out (j + 1) (by omega))
              obtain ⟨vz, hvz⟩ := hV.has (j + 1) (by omega)
              have HPk : Hid (P[j]? = some (low x)) := Lib.hid (by rw [HP.out]; exact low_at hx)
              have HVx := Lib.hid hVx
              clear hx hVx hc'
              have HTb := Lib.hid hTb
              clear hTb
              have hfin : ∀ (v : Bool), v = mij T P (i + 1) (j + 1) → OwnV 4 (wr.setCell ⟨g2, j + 1, none⟩ (.bool v)) w2.heap.size (some ⟨g2, 0, none⟩) (k + 1) (k + 1) (vs2.set (j + 1) (bv v)) ∧ Tab T P (i + 1) (j + 1 + 1) (vs2.set (j + 1) (bv v)) ∧ OwnV 4 (wr.setCell ⟨g2, j + 1, none⟩ (.bool v)) w2.heap.size (some ⟨g, 0, none⟩) (k + 1) (k + 1) us ∧ Below w2.heap.size w2 (wr.setCell ⟨g2, j + 1, none⟩ (.bool v)) := fun v hv => by
                obtain ⟨h5, hg5⟩ := hV.set_ (j + 1) (bv v)
                refine ⟨h5, Tab.snoc HTb.out (by omega) hv, hU.kept hg5 (fun b hb he => ?_), hb.grown hg5 hb.size (fun k hk => by injection hk with hk; omega)⟩
                injection hb with hb
                injection he with he
                simp only at hb
                omega
              have HF := Lib.hid hfin
              clear hfin
              by_cases h37 : x = 37
              · subst h37
                have hxc' : wr.cell? ⟨b2, off2 + j, none⟩ = some (.int .i64 37) := hxc
                clear hxc
                have R := Lib.hid (mij_any HTi.out HPk.out rfl)
                obtain ⟨p1, hp1⟩ : ∃ b, mij T P (i + 1) j = b := ⟨_, rfl⟩
                obtain ⟨p2, hp2⟩ : ∃ b, mij T P i (j + 1) = b := ⟨_, rfl⟩
                rw [hp1] at hn0
                rw [hp2] at hr1
                have HP1 := Lib.hid hp1
                have HP2 := Lib.hid hp2
                clear hp1 hp2 hr0
                simp only [bv] at hn0 hr1
                cases p1 with
                | true =>
                  go_wp2
                  go_roundw
                  case rel =>
                    obtain ⟨f1, f2, f3, f4⟩ := HF.out true (by rw [R.out, HP1.out]; rfl)
                    exact ⟨j + 1, _, by go_num, by omega, f1, f2, f3, f4⟩
                  case measure => simp [intOf]; omega
                | false =>
                  go_wp2
                  go_roundw
                  case rel =>
                    obtain ⟨f1, f2, f3, f4⟩ := HF.out p2 (by rw [R.out, HP1.out, HP2.out]; rfl)
                    exact ⟨j + 1, _, by go_num, by omega, f1, f2, f3, f4⟩
                  case measure => simp [intOf]; omega
              · have e37 : ((x : Int) == 37) = false := by rw [beq_eq_false_iff_ne]; omega
                have R := Lib.hid (mij_one HTi.out HPk.out (fun h => h37 ((low_37 x).1 h)))
                obtain ⟨p1, hp1⟩ : ∃ b, mij T P i j = b := ⟨_, rfl⟩
                rw [hp1] at hr0
                have HP1 := Lib.hid hp1
                clear hp1 hn0 hr1
                simp only [bv] at hr0
                have q1 : IntKind.i64.wrap ((j : Int) + 1 - 1) = (j : Int) := by rw [IntWalk.i64_in _ (by omega)]; omega
                have q2 : IntKind.i64.wrap (j : Int) = (j : Int) := IntWalk.i64_in _ (by omega)
                have q3 : IntKind.i64.wrap ((i : Int) + 1 - 1) = (i : Int) := by rw [IntWalk.i64_in _ (by omega)]; omega
                have q4 : IntKind.i64.wrap (i : Int) = (i : Int) := IntWalk.i64_in _ (by omega)
                have q5 : (0 : Int) ≤ (j : Int) := by omega
                have q6 : (j : Int) < (k : Int) := by omega
                have q7 : (j : Int) < (k : Int) + 1 := by omega
                have q8 : (0 : Int) ≤ (i : Int) := by omega
                have q9 : (i : Int) < (n : Int) := by omega
                have qa : (0 : Int) ≤ (j : Int) + 1 := by omega
                have qb : (j : Int) + 1 < (k : Int) + 1 := by omega
                have qc : ((j : Int) + 1).toNat = j + 1 := by omega
                cases p1 with
                | false =>
                  have hS := And.intro hr0 (And.intro hxc hcc)
                  go_wp2
                  go_region
                  all_goals
                    go_wp2
                    go_roundw
                    case rel =>
                      obtain ⟨f1, f2, f3, f4⟩ := HF.out false (by rw [R.out, HP1.out]; rfl)
                      exact ⟨j + 1, _, by go_num, by omega, f1, f2, f3, f4.drew⟩
                    case measure => simp [intOf]; omega
                | true =>
                  by_cases h95 : x = 95
                  · subst h95
                    have hxc' : wr.cell? ⟨b2, off2 + j, none⟩ = some (.int .i64 95) := hxc
                    have hS := And.intro hr0 (And.intro hxc' hcc)
                    clear hxc
                    go_wp2
                    go_region
                    all_goals
                      go_wp2
                      go_roundw
                      case rel =>
                        obtain ⟨f1, f2, f3, f4⟩ := HF.out true (by rw [R.out, HP1.out]; rfl)
                        exact ⟨j + 1, _, by go_num, by omega, f1, f2, f3, f4.drew⟩
                      case measure => simp [intOf]; omega
                  · have e95 : ((x : Int) == 95) = false := by rw [beq_eq_false_iff_ne]; omega
                    have hS := And.intro hr0 (And.intro hxc hcc)
                    have hSS : Hid (∀ v : Value, (wr.setCell ⟨g2, j + 1, none⟩ v).cell? ⟨g, j, none⟩ = some (.bool true) ∧ (wr.setCell ⟨g2, j + 1, none⟩ v).cell? ⟨b2, off2 + j, none⟩ = some (.int .i64 x) ∧ (wr.setCell ⟨g2, j + 1, none⟩ v).cell? ⟨b1, off1 + i, none⟩ = some (.int .i64 c')) := Lib.hid (fun v => by
                      have n1 := hbB
                      have n2 := hbA
                      refine ⟨?_, ?_, ?_⟩
                      · rw [cell_set_far _ _ _ _ (by omega)]; exact hr0
                      · rw [cell_set_far _ _ _ _ (by omega)]; exact hxc
                      · rw [cell_set_far _ _ _ _ (by omega)]; exact hcc)
                    obtain ⟨lc, hlc⟩ : ∃ l, low c' = l := ⟨_, rfl⟩
                    obtain ⟨lx, hlx⟩ : ∃ l, low x = l := ⟨_, rfl⟩
                    have HLx : Hid (∀ w, Calls Try.prog 75 #[.int .i64 x] w fun e w' => e = .returned (.int .i64 lx) ∧ w = w') := Lib.hid (fun w => by rw [← hlx]; exact Low_any x w HVx.out)
                    have HLc : Hid (∀ w, Calls Try.prog 75 #[.int .i64 c'] w fun e w' => e = .returned (.int .i64 lc) ∧ w = w') := Lib.hid (fun w => by rw [← hlc]; exact Low_any c' w HVc.out)
                    have h95' : lx ≠ 95 := by rw [← hlx]; exact fun h => h95 ((low_95 x).1 h)
                    rw [hlx, hlc] at R
                    clear hlx hlc
                    by_cases hll : lx = lc
                    · subst hll
                      go_wp2
                      go_region_held3 (fun w' => w'.cell? ⟨g, j, none⟩ = some (.bool true) ∧ w'.cell? ⟨b2, off2 + j, none⟩ = some (.int .i64 x) ∧ w'.cell? ⟨b1, off1 + i, none⟩ = some (.int .i64 c')) (first | assumption | exact hS | exact hSS.out _) (first | (go_at_call 75; (with_reducible refine (HLx.out _).mono ?_); rintro e w6 ⟨rfl, rfl⟩) | (go_at_call 75; (with_reducible refine (HLc.out _).mono ?_); rintro e w6 ⟨rfl, rfl⟩))
                      all_goals
                        go_wp2
                        go_roundw
                        case rel =>
                          obtain ⟨f1, f2, f3, f4⟩ := HF.out true (by rw [R.out, HP1.out]; simp [okc])
                          exact ⟨j + 1, _, by go_num, by omega, f1, f2, f3, f4.drew⟩
                        case measure => simp [intOf]; omega
                    · have ell : ((lx : Int) == (lc : Int)) = false := by rw [beq_eq_false_iff_ne]; omega
                      have hok : okc lx lc = false := by simp [okc, h95', hll]
                      have HOK := Lib.hid hok
                      clear hok hll h95'
                      go_wp2
                      go_region_held3 (fun w' => w'.cell? ⟨g, j, none⟩ = some (.bool true) ∧ w'.cell? ⟨b2, off2 + j, none⟩ = some (.int .i64 x) ∧ w'.cell? ⟨b1, off1 + i, none⟩ = some (.int .i64 c')) (first | assumption | exact hS | exact hSS.out _) (first | (go_at_call 75; (with_reducible refine (HLx.out _).mono ?_); rintro e w6 ⟨rfl, rfl⟩) | (go_at_call 75; (with_reducible refine (HLc.out _).mono ?_); rintro e w6 ⟨rfl, rfl⟩))
                      all_goals
                        go_wp2
                        go_roundw
                        case rel =>
                          obtain ⟨f1, f2, f3, f4⟩ := HF.out false (by rw [R.out, HP1.out, HOK.out]; rfl)
                          exact ⟨j + 1, _, by go_num, by omega, f1, f2, f3, f4.drew⟩
                        case measure => simp [intOf]; omega
            · obtain rfl : j = k := by omega
              go_wp2
              go_roundw
              case rel => exact ⟨i + 1, g2, vs2, rfl, by go_num, by omega, hV, hTb, hb⟩
              case measure => simp [intOf]; omega
        · obtain rfl : i = n := by omega
          have hend := hU.cell k _ (hTu k (by omega))
          rw [mij_all T P HN.out HM.out] at hend
          simp only [bv] at hend
          go_wp2
          go_ret
          exact ⟨rfl, k2.trans (hb.mono k2.size)⟩

end Go.Proofs.Ytbmaaofomgkllaa
