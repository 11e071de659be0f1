/- A filter: Union. No condition but sizes. -/
import Derived.Test.YtoaajkdhlhopmaaBlG
namespace Go.Proofs.Ytoaajkdhlhopmaa
open Go Go.RowKit

/-- The first i bytes of both, bit by bit; the others of the first. -/
def orB (fs gs : List UInt8) : Nat → List UInt8
  | 0 => fs
  | i + 1 => (orB fs gs i).set i (UInt8.ofNat ((fs[i]?.getD 0).toNat ||| (gs[i]?.getD 0).toNat))
theorem orB_len (fs gs : List UInt8) : ∀ i, (orB fs gs i).length = fs.length
  | 0 => rfl
  | i + 1 => by rw [orB, List.length_set, orB_len fs gs i]
theorem orB_off (fs gs : List UInt8) : ∀ i j, i ≤ j → (orB fs gs i)[j]? = fs[j]?
  | 0, _, _ => rfl
  | i + 1, j, h => by rw [orB, List.getElem?_set_ne (by omega), orB_off fs gs i j (by omega)]
theorem orB_at (fs gs : List UInt8) : ∀ i j, j < i → j < fs.length → (orB fs gs i)[j]? = some (UInt8.ofNat ((fs[j]?.getD 0).toNat ||| (gs[j]?.getD 0).toNat))
  | 0, j, h, _ => absurd h (by omega)
  | i + 1, j, h, hl => by
    by_cases e : j = i
    · subst e
      rw [orB, List.getElem?_set_self (by rw [orB_len]; exact hl)]
    · rw [orB, List.getElem?_set_ne (by omega), orB_at fs gs i j (by omega) hl]
/-- A filter of its own, or none. -/
def RetUn (w : World) (u : List UInt8) (e : Ending) (w' : World) : Prop := ∃ A c, e = .returned (.tuple #[.slice A u.length c, .int .i64 0]) ∧ Own 5 w' w.heap.size A u.length c u ∧ Below w.heap.size w w'
def RetUx (w : World) (z : Int) (e : Ending) (w' : World) : Prop := e = .returned (.tuple #[.slice none 0 0, .int .i64 z]) ∧ Below w.heap.size w w'
set_option maxRecDepth 100000 in
set_option maxHeartbeats 8000000 in
theorem union_form (A : Option Addr) (n c : Nat) (fs : List UInt8) (B : Option Addr) (m d : Nat) (gs : List UInt8) (w : World) (h : Rd w A n fs) (hn : n ≤ 140737488351232) (h' : Rd w B m gs) (hm : m ≤ 140737488351232) (hg : ¬ (goodB fs = true ∧ goodB gs = true)) :
    Calls Try.prog 38 #[.slice A n c, .slice B m d] w (RetUx w 3) := by
  have HA : Hid (Calls Try.prog 77 #[.slice A n c] w (RetBo w (goodB fs))) := Lib.hid (inForm9_any A n c fs w h hn)
  have HB : Hid (Calls Try.prog 77 #[.slice B m d] w (RetBo w (goodB gs))) := Lib.hid (inForm9_any B m d gs w h' hm)
  clear h h'
  cases h1 : goodB fs with
  | false =>
    rw [h1] at HA
    clear h1 hg
    go_enter Try.func38, Try.ntmps38
    go_wp2_with fail
    with_reducible refine HA.out.mono ?_
    rintro e w' ⟨rfl, rfl⟩
    go_wp2_with fail
    exact bodyPost_ret (v := .tuple #[.slice none 0 0, .int .i64 3]) (by simp [results, Try.f38, go_sem]; try rfl) rfl ⟨rfl, Below.refl _ _⟩
  | true =>
    have h2 : goodB gs = false := by
      cases h2 : goodB gs with
      | false => rfl
      | true => exact absurd ⟨h1, h2⟩ hg
    rw [h1] at HA
    rw [h2] at HB
    clear h1 h2 hg
    go_enter Try.func38, Try.ntmps38
    go_wp2_with fail
    with_reducible refine HA.out.mono ?_
    rintro e w' ⟨rfl, rfl⟩
    go_wp2_with fail
    with_reducible refine HB.out.mono ?_
    rintro e w' ⟨rfl, rfl⟩
    go_wp2_with fail
    exact bodyPost_ret (v := .tuple #[.slice none 0 0, .int .i64 3]) (by simp [results, Try.f38, go_sem]; try rfl) rfl ⟨rfl, Below.refl _ _⟩
theorem goodB_two {fs : List UInt8} (h : goodB fs = true) : 2 ≤ fs.length := by
  rcases Nat.lt_or_ge fs.length 2 with h2 | h2
  · rw [goodB_short h2] at h; cases h
  · exact h2
set_option maxRecDepth 100000 in
set_option maxHeartbeats 8000000 in
theorem union_arg (A : Option Addr) (n c : Nat) (fs : List UInt8) (B : Option Addr) (m d : Nat) (gs : List UInt8) (w : World) (h : Rd w A n fs) (hn : n ≤ 140737488351232) (h' : Rd w B m gs) (hm : m ≤ 140737488351232) (h1 : goodB fs = true) (h2 : goodB gs = true) (hne : ¬ (n = m ∧ fs[n - 1]? = gs[n - 1]?)) :
    Calls Try.prog 38 #[.slice A n c, .slice B m d] w (RetUx w 1) := by
  have HA : Hid (Calls Try.prog 77 #[.slice A n c] w (RetBo w true)) := Lib.hid (by rw [← h1]; exact inForm9_any A n c fs w h hn)
  have HB : Hid (Calls Try.prog 77 #[.slice B m d] w (RetBo w true)) := Lib.hid (by rw [← h2]; exact inForm9_any B m d gs w h' hm)
  have hn2 : 2 ≤ n := by have := goodB_two h1; have := h.len; omega
  have hm2 : 2 ≤ m := by have := goodB_two h2; have := h'.len; omega
  obtain ⟨ba, oa, rfl, _⟩ := h.pos (by omega)
  obtain ⟨bb, ob, rfl, _⟩ := h'.pos (by omega)
  obtain ⟨x, x1, x2, _⟩ := h.at_ (n - 1) (by omega)
  have e1 : IntKind.i64.wrap ((n : Int) - 1) = ((n - 1 : Nat) : Int) := by rw [IntWalk.i64_in _ (by omega)]; omega
  by_cases hnm : n = m
  · subst hnm
    obtain ⟨y, y1, y2, _⟩ := h'.at_ (n - 1) (by omega)
    have hxy : x.toNat ≠ y.toNat := fun e => hne ⟨rfl, by rw [x1, y1, UInt8.toNat_inj.1 e]⟩
    have hlt : n - 1 < n := by omega
    clear h h' hne x1 y1 h1 h2
    go_enter Try.func38, Try.ntmps38
    go_wp2_with fail
    with_reducible refine HA.out.mono ?_
    rintro e w' ⟨rfl, rfl⟩
    go_wp2_with fail
    with_reducible refine HB.out.mono ?_
    rintro e w' ⟨rfl, rfl⟩
    go_wp2_with fail
    go_quiet (fail)
    go_wp2_with fail
    exact bodyPost_ret (v := .tuple #[.slice none 0 0, .int .i64 1]) (by simp [results, Try.f38, go_sem]; try rfl) rfl ⟨rfl, below_drewN (Below.refl _ _) _⟩
  · have t1 : ((m : Int) == (n : Int)) = false := by simp; omega
    have t2 : ¬ (m : Int) = (n : Int) := by omega
    have t3 : m ≠ n := fun e => hnm e.symm
    clear h h' hne x1 h1 h2
    go_enter Try.func38, Try.ntmps38
    go_wp2_with fail
    with_reducible refine HA.out.mono ?_
    rintro e w' ⟨rfl, rfl⟩
    go_wp2_with fail
    with_reducible refine HB.out.mono ?_
    rintro e w' ⟨rfl, rfl⟩
    go_wp2_with fail
    go_quiet (fail)
    go_wp2_with fail
    exact bodyPost_ret (v := .tuple #[.slice none 0 0, .int .i64 1]) (by simp [results, Try.f38, go_sem]; try rfl) rfl ⟨rfl, below_drewN (Below.refl _ _) _⟩
set_option maxRecDepth 100000 in
set_option maxHeartbeats 8000000 in
theorem union_good (A : Option Addr) (n c : Nat) (fs : List UInt8) (B : Option Addr) (d : Nat) (gs : List UInt8) (w : World) (h : Rd w A n fs) (hn : n ≤ 140737488351232) (h' : Rd w B n gs) (hnd : n ≤ d) (h1 : goodB fs = true) (h2 : goodB gs = true) (hne : fs[n - 1]? = gs[n - 1]?) :
    Calls Try.prog 38 #[.slice A n c, .slice B n d] w (RetUn w (orB fs gs (n - 1))) := by
  have HA : Hid (Calls Try.prog 77 #[.slice A n c] w (RetBo w true)) := Lib.hid (by rw [← h1]; exact inForm9_any A n c fs w h hn)
  have HB : Hid (Calls Try.prog 77 #[.slice B n d] w (RetBo w true)) := Lib.hid (by rw [← h2]; exact inForm9_any B n d gs w h' hn)
  have hn2 : 2 ≤ n := by have := goodB_two h1; have := h.len; omega
  obtain ⟨ba, oa, rfl, _⟩ := h.pos (by omega)
  obtain ⟨bb, ob, rfl, hbl⟩ := h'.pos (by omega)
  obtain ⟨x, x1, x2, _⟩ := h.at_ (n - 1) (by omega)
  obtain ⟨y, y1, y2, _⟩ := h'.at_ (n - 1) (by omega)
  have e1 : IntKind.i64.wrap ((n : Int) - 1) = ((n - 1 : Nat) : Int) := by rw [IntWalk.i64_in _ (by omega)]; omega
  obtain rfl : x = y := by rw [x1, y1] at hne; exact Option.some.inj hne
  have hlt : n - 1 < n := by omega
  have HCL : Hid (∀ q, Calls Try.prog 78 #[.slice (some ⟨ba, oa, none⟩) n c] (w.drewN q) (Made (w.drewN q).heap.size (w.drewN q) fs)) := Lib.hid (fun q => Clone_any _ n c fs _ (h.drewN q) (by omega) (fun h => by cases h))
  have HFL := Lib.hid h.len
  have HG2 := Lib.hid h'
  clear h h' hne x1 y1 h1 h2
  go_enter Try.func38, Try.ntmps38
  go_wp2_with fail
  with_reducible refine HA.out.mono ?_
  rintro e w' ⟨rfl, rfl⟩
  go_wp2_with fail
  with_reducible refine HB.out.mono ?_
  rintro e w' ⟨rfl, rfl⟩
  go_wp2_with fail
  go_quiet (fail)
  go_wp2_with fail
  with_reducible refine (HCL.out _).mono ?_
  rintro e w2 ⟨O, no, co, rfl, oO, bO⟩
  obtain rfl : no = n := by have := oO.len; have := HFL.out; omega
  obtain ⟨g, rfl, hg1, hg2⟩ := oO.form (by omega)
  have hge : w'.heap.size ≤ g := hg1
  have oX : Own 5 w2 w'.heap.size (some ⟨g, 0, none⟩) no co fs := oO.mono (Nat.le_refl _)
  have bX : Below w'.heap.size w' w2 := (below_drewN (Below.refl _ _) nq).trans bO
  have hn1 : IntKind.i64.wrap ((no - 1 : Nat) : Int) = ((no - 1 : Nat) : Int) := by rw [IntWalk.i64_in _ (by omega)]
  have HO := Lib.hid (And.intro oX bX)
  clear oO bO oX bX hg1
  go_wp2_with fail
  go_loopw [43] (fun s43 wr => ∃ i : Nat, i ≤ no - 1 ∧ s43 = .int .i64 (i : Int) ∧ Own 5 wr w'.heap.size (some ⟨g, 0, none⟩) no co (orB fs gs i) ∧ Below w'.heap.size w' wr) (fun s _ => no - 1 - (intOf s).toNat)
  case atStart => exact ⟨0, Nat.zero_le _, rfl, HO.out⟩
  case round =>
    obtain ⟨i, hi, rfl, oI, bI⟩ := hrel
    by_cases hil : i < no - 1
    · obtain ⟨v, v1, v2, v3⟩ := (HG2.out.below bI).at_ i (by omega)
      obtain ⟨u, u1, u2, u3⟩ := oI.rd.at_ i (by omega)
      have hu : fs[i]? = some u := by rw [← orB_off fs gs i i (Nat.le_refl _)]; exact u1
      have hu256 : u.toNat < 256 := u.toNat_lt
      have hv256 : v.toNat < 256 := v.toNat_lt
      have hor : u.toNat ||| v.toNat < 256 := Nat.or_lt_two_pow (n := 8) hu256 hv256
      obtain ⟨z, hz⟩ : ∃ z, z = UInt8.ofNat (u.toNat ||| v.toNat) := ⟨_, rfl⟩
      have hzn : z.toNat = u.toNat ||| v.toNat := by
        rw [hz]
        generalize u.toNat ||| v.toNat = q at hor ⊢
        simp
        omega
      have e4 : bits .or .u8 (u.toNat : Int) (v.toNat : Int) = (z.toNat : Int) := by rw [hzn]; exact u8_or_nat _ _ hu256 hv256
      have hnx : orB fs gs (i + 1) = (orB fs gs i).set i z := by rw [orB, hu, v1, hz]; rfl
      have hthaw := oI.thawed i
      have HT : Hid (∀ zz : Int, zz = (z.toNat : Int) → Own 5 (wr.setCell ⟨g, i, none⟩ (.int .u8 zz)) w'.heap.size (some ⟨g, 0, none⟩) no co (orB fs gs (i + 1))) := Lib.hid (fun zz hzz => by rw [hnx]; exact oI.set_ i z zz hzz)
      have u2' : wr.cell? ⟨g, i, none⟩ = some (.int .u8 (u.toNat : Int)) := by rw [← u2, Nat.zero_add]
      have hno : i < no := by omega
      have HB2 := Lib.hid bI
      clear hnx hz hzn hor hu u1 u2 v1 oI bI HA HB HCL x2 y2
      go_wp2_with fail
      go_roundw
      case rel => exact ⟨i + 1, by omega, by go_num, HT.out _ rfl, HB2.out.setCell (p := ⟨g, i, none⟩) hge _⟩
      case measure => simp [intOf]; omega
    · obtain rfl : i = no - 1 := by omega
      have HOI := Lib.hid oI
      have HBI := Lib.hid bI
      clear oI bI
      go_wp2_with fail
      have hol := orB_len fs gs (no - 1)
      refine bodyPost_ret (v := .tuple #[.slice (some ⟨g, 0, none⟩) no co, .int .i64 0]) (by simp [results, Try.f38, go_sem]; try rfl) rfl ?_
      have hl2 : (orB fs gs (no - 1)).length = no := by rw [hol]; exact HFL.out
      unfold RetUn
      rw [hl2]
      exact ⟨_, _, rfl, HOI.out, HBI.out⟩
theorem setB_eq {fs : List UInt8} {b : Nat} : setB fs b = ((fs[b / 8]?.getD 0).toNat.testBit (b % 8)) := by
  unfold setB
  cases h : fs[b / 8]? with
  | none => simp
  | some x => simp [Nat.testBit_eq_decide_div_mod_eq]
theorem setB_or {fs gs : List UInt8} {k b : Nat} (hk : b / 8 < k) (hl : k ≤ fs.length) : setB (orB fs gs k) b = (setB fs b || setB gs b) := by
  rw [setB_eq, setB_eq, setB_eq, orB_at fs gs k _ hk (by omega)]
  have h1 : (fs[b / 8]?.getD 0).toNat < 256 := UInt8.toNat_lt _
  have h2 : (gs[b / 8]?.getD 0).toNat < 256 := UInt8.toNat_lt _
  generalize (fs[b / 8]?.getD 0).toNat = x at h1 ⊢
  generalize (gs[b / 8]?.getD 0).toNat = y at h2 ⊢
  have hor : x ||| y < 256 := Nat.or_lt_two_pow (n := 8) h1 h2
  have : (UInt8.ofNat (x ||| y)).toNat = x ||| y := by
    generalize x ||| y = q at hor ⊢
    simp
    omega
  rw [Option.getD_some, this, Nat.testBit_or]
theorem goodB_or {fs gs : List UInt8} (h : goodB fs = true) : goodB (orB fs gs (fs.length - 1)) = true ∧ numB (orB fs gs (fs.length - 1)) = numB fs := by
  have h2 := goodB_two h
  have hl := orB_len fs gs (fs.length - 1)
  have e : (orB fs gs (fs.length - 1))[fs.length - 1]? = fs[fs.length - 1]? := orB_off _ _ _ _ (Nat.le_refl _)
  have e2 : (orB fs gs (fs.length - 1)).getLast? = fs.getLast? := by rw [List.getLast?_eq_getElem?, List.getLast?_eq_getElem?, hl, e]
  refine ⟨?_, ?_⟩
  · unfold goodB at h ⊢
    rw [e2, hl]
    exact h
  · unfold numB
    rw [e2]
theorem may_or {fs gs key : List UInt8} (h1 : goodB fs = true) (h2 : goodB gs = true) (hl : fs.length = gs.length) (he : fs[fs.length - 1]? = gs[fs.length - 1]?) :
    ((mayB (orB fs gs (fs.length - 1)) key).1 || (!(mayB fs key).1 && !(mayB gs key).1)) = true := by
  obtain ⟨g1, g2⟩ := goodB_or (gs := gs) h1
  have hn : numB gs = numB fs := by
    unfold numB
    rw [List.getLast?_eq_getElem?, List.getLast?_eq_getElem?, ← hl, he]
  have h3 := goodB_two h1
  unfold mayB
  rw [g1, h1, h2, orB_len]
  simp only [if_true]
  have key1 : ∀ gg : List UInt8, (∀ b, b / 8 < fs.length - 1 → setB gg b = true → setB (orB fs gs (fs.length - 1)) b = true) → numB gg = numB fs → allB gg key (8 * (fs.length - 1)) = true → allB (orB fs gs (fs.length - 1)) key (8 * (fs.length - 1)) = true := by
    intro gg hb hng ha
    unfold allB at ha ⊢
    rw [List.all_eq_true] at ha ⊢
    rw [hng] at ha
    rw [g2]
    intro i hi
    exact hb _ (by have := bitN_lt key (m := 8 * (fs.length - 1)) (by omega) i; omega) (ha i hi)
  have k1 := key1 fs (fun b hb h => by rw [setB_or hb (by omega), h]; rfl) rfl
  have k2 := key1 gs (fun b hb h => by rw [setB_or hb (by omega), h, Bool.or_true]) hn
  rw [← hl]
  cases ha : allB fs key (8 * (fs.length - 1)) with
  | true => rw [k1 ha]; rfl
  | false =>
    cases hb : allB gs key (8 * (fs.length - 1)) with
    | true => rw [k2 hb]; rfl
    | false => simp
end Go.Proofs.Ytoaajkdhlhopmaa
