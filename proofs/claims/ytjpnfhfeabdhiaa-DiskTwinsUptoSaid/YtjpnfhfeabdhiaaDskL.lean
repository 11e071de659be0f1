/- The program's names and List: the names that begin so, rising. -/
import Derived.Test.YtjpnfhfeabdhiaaDskN
import Derived.Sort.OwnSorted
namespace Go.Proofs.Ytjpnfhfeabdhiaa
open Go Go.RowKit Go.Maps Go.Proofs

def nmR (pre : List UInt8) (rs : List FR) : List (List UInt8) := (rs.map FR.name).filter fun x => Lib.hasPrefix x pre
theorem nmR_up {pre : List UInt8} {rs : List FR} (h : rsUp rs) : (nmR pre rs).Pairwise fun a b => a < b := by
  unfold nmR
  refine List.Pairwise.filter _ ?_
  rw [List.pairwise_map]
  exact h
theorem nmR_sort {pre : List UInt8} {rs : List FR} {zs : List (List UInt8)} (h : rsUp rs) (hn : zs.Nodup) (hm : ∀ x, x ∈ zs ↔ x ∈ nmR pre rs) : zs.mergeSort (fun x y => decide (x ≤ y)) = nmR pre rs := by
  have hu := nmR_up (pre := pre) h
  have hp : List.Perm (zs.mergeSort (fun x y => decide (x ≤ y))) (nmR pre rs) :=
    (List.mergeSort_perm zs _).trans ((List.perm_ext_iff_of_nodup hn (hu.imp fun h => nlt_ne h)).2 hm)
  refine List.Perm.eq_of_pairwise (le := fun a b => a ≤ b) (fun a b _ _ h1 h2 => List.le_antisymm h1 h2) ?_ (hu.imp fun h => List.le_of_lt h) hp
  have := List.pairwise_mergeSort (le := fun x y : List UInt8 => decide (x ≤ y)) (fun a b c h1 h2 => by simp only [decide_eq_true_eq] at *; exact List.le_trans h1 h2) (fun a b => by simpa using List.le_total a b) zs
  exact this.imp (fun h => by simpa using h)

/-- 'It hands back a row of these names, new.' -/
def RetNm (w : World) (ns : List (List UInt8)) (e : Ending) (w' : World) : Prop :=
  ∃ A n c, e = .returned (.slice A n c) ∧ OwnV 9 w' w.heap.size A n c (ns.map encStr) ∧ Below w.heap.size w w'
theorem info_str : (Try.prog.info? 9).map (fun i => (i.zero, i.size, i.bytes)) = some (some (.string ⟨#[]⟩), 1, 16) := by kernel_rfl

section
variable {w : World} {p : Nat} {m : Option Nat} {rs : List FR} {room used left : Int} {dead armed : Bool}
set_option maxRecDepth 100000 in
set_option maxHeartbeats 4000000 in
theorem names_some {b : Nat} (pre : List UInt8) (h : DskR w p (some b) rs room used left dead armed) (hu : rsUp rs) (hrs : rs.length ≤ 1099511627776) (hnl : ∀ r ∈ rs, r.name.length ≤ 1099511627776) :
    Calls Try.prog 100 #[.pointer (some ⟨p, 0, none⟩), .string (tx pre)] w (RetNm w (nmR pre rs)) := by
  obtain ⟨c0, _⟩ := h.head
  obtain ⟨Dm, ho, hm⟩ : ∃ Dm, w.ownsMap Try.prog 9 ptrEl b rs.length Dm ∧ MR Dm rs := by
    rcases h.2.1 with ⟨h1, _⟩ | ⟨b', Dm, h1, h2, h3⟩
    · cases h1
    · injection h1 with h1
      subst h1
      exact ⟨Dm, h2, h3⟩
  have HM := Lib.hid hm
  have HNL := Lib.hid hnl
  have hbl := ho.lt
  clear hm hnl h
  go_enter Try.func100, Try.ntmps100
  go_wp2_with (at_range; refine wpList_range_own _ rfl _ 24 rfl 9 105 lawN Try.underlying24 _ b rs.length Dm rfl ho ?_)
  intro w1 hrg0 hg0 hs1
  have HR := Lib.hid hrg0
  have hs1' : w.heap.size < w1.heap.size := by omega
  clear hs1
  have hb1 : Below w.heap.size w w1 := (Below.refl _ _).grown hg0 (Nat.le_refl _) (fun k hk => by cases hk)
  clear hrg0 hg0 ho
  go_wp2
  go_loopw [5] (fun v wr => ∃ (A : Option Addr) (n c : Nat) (zs : List (List UInt8)) (lf : Lit → Bool) (cnt : Nat), v = .slice A n c ∧ OwnV 9 wr w1.heap.size A n c (zs.map encStr) ∧ zs.Nodup ∧ (∀ x, x ∈ zs ↔ x ∈ nmR pre rs ∧ lf (.string x) = false) ∧ n ≤ rs.length ∧ wr.ranges Try.prog 9 ptrEl b w.heap.size rs.length Dm lf cnt ∧ Below w.heap.size w wr ∧ w1.heap.size ≤ wr.heap.size) (fun _ wr => wr.rangeLeft b w.heap.size)
  case atStart =>
    refine ⟨none, 0, 0, [], _, _, rfl, OwnV.nil _ _ _, List.nodup_nil, fun x => ?_, Nat.zero_le _, HR.out, hb1, Nat.le_refl _⟩
    constructor
    · intro h; cases h
    · rintro ⟨h1, h2⟩
      unfold nmR at h1
      rw [List.mem_filter, List.mem_map] at h1
      obtain ⟨⟨r, hr, rfl⟩, _⟩ := h1
      rw [HM.out.2.1] at h2
      rw [List.any_eq_false] at h2
      exact absurd (h2 r hr) (by simp)
  case round =>
    clear HR hb1
    obtain ⟨A, n, c, zs, lf, cnt, rfl, hA, hnd, hzs, hnr, hrg, hbw, hsz⟩ := hrel
    have HZ := Lib.hid hzs
    have HND := Lib.hid hnd
    clear hzs hnd
    go_wp2_with (at_next; refine wpList_next_ranges _ rfl _ rfl 9 lawN ptrEl Value.string (fun q : Option Nat => Value.pointer (q.map fun b => ⟨b, 0, none⟩)) keyN_inv ptrEl_inv b w.heap.size rs.length Dm lf cnt rfl hrg ?_ ?_)
    · intro _ hl0
      have hall : ∀ x, x ∈ zs ↔ x ∈ nmR pre rs := fun x => by rw [HZ.out x, hl0]; simp
      have HS := Lib.hid (nmR_sort hu HND.out hall)
      clear hl0 hrg HZ hall
      have hln : zs.length = n := by have := hA.len; simpa using this
      rcases hA.2 with ⟨hnil, hn0⟩ | ⟨g, cap, cur, hsl, hbase, hblk, hc1, hc2, hc3, hc4⟩
      · injection hnil with hnil1 hnil2 hnil3
        subst hnil1 hnil3 hn0
        have hz0 : zs = [] := List.eq_nil_of_length_eq_zero hln
        subst hz0
        go_wp2_with fail
        refine (lib_slices_Sort_string_none none 0 _).mono ?_
        rintro e w' ⟨rfl, rfl⟩
        go_wp2
        go_ret
        refine ⟨none, 0, 0, rfl, ?_, hbw⟩
        rw [← HS.out, List.mergeSort_nil]
        exact OwnV.nil _ _ _
      · injection hsl with hsl1 _ hsl3
        subst hsl1 hsl3 hln
        have hgl := (Array.getElem?_eq_some_iff.1 hblk).1
        rw [Nat.mul_one] at hc4
        have hzl : zs.length < 4611686018427387904 := by omega
        have hfin : ∀ nd os, RetNm w (nmR pre rs) (.returned (.slice (some ⟨g, 0, none⟩) zs.length c)) (Go.Sort.grow (Go.Sort.putRow encStr (Sort.ahead wr nd) g 0 (zs.mergeSort fun x y => decide (x ≤ y)).toArray) os) := fun nd os => by
          refine ⟨some ⟨g, 0, none⟩, zs.length, c, rfl, ?_, hbw.grown (grownBy_sorted _) hbw.size (fun k hk => by injection hk with hk; omega)⟩
          rw [← HS.out]
          exact ownsRow_sorted (ss := zs) (List.length_mergeSort _) (by omega) hblk hc1 hc2 hc3
        have HF := Lib.hid hfin
        have hH := holds_of_block (ss := zs) hblk hc4
        have HH := Lib.hid hH
        clear hfin hH hc4 hblk hA HS
        go_wp2_with fail
        refine (lib_slices_Sort_string g 0 c zs _ HH.out hgl hzl).mono ?_
        rintro e w' ⟨rfl, nd, os, hw'⟩
        have hfin := HF.out nd os
        rw [← hw'] at hfin
        have HFIN := Lib.hid hfin
        clear hfin hw'
        go_wp2
        go_ret
        exact HFIN.out
    · intro x q kl y yp w4 cnt' hkey hlk hv hat hrg1 hlt hg1 hs4 hen
      obtain ⟨S, hS1, hS2, hS3⟩ := WideMaps.string_of_keyOf Try.underlying9 hkey
      injection hS1 with hS1
      subst hS1 hS2
      obtain ⟨X, rfl⟩ : ∃ X, x = tx X := ⟨x.data.toList, (tx_of x).symm⟩
      rw [tx_list] at hlk hrg1 hat
      have hhas : has Dm (.string X) = true := has_true_of_atKey hat
      rw [HM.out.2.1, List.any_eq_true] at hhas
      obtain ⟨r, hr, hrX⟩ := hhas
      have hrX : r.name = X := by simpa using hrX
      have hXl : X.length ≤ 1099511627776 := by rw [← hrX]; exact HNL.out r hr
      have hXm : X ∈ rs.map FR.name := List.mem_map.2 ⟨r, hr, hrX⟩
      have hXz : X ∉ zs := fun h => by rw [(HZ.out X).1 h |>.2] at hlk; cases hlk
      have hb4 : Below w.heap.size w w4 := hbw.grown hg1 hbw.size (fun k hk => by injection hk with hk; omega)
      have hA4 : OwnV 9 w4 w1.heap.size A n c (zs.map encStr) := hA.kept hg1 (fun b' hb' e => by injection e with e; have := (hA.lt b' hb').1; omega)
      have hmeas := hrg1.left_eq
      have hmeas0 := hrg.left_eq
      have hsame : ∀ z : List UInt8, (Lit.string z).sameKey (.string X) = (z == X) := fun z => by simp [Lit.sameKey]
      have hleft' : ∀ z : List UInt8, ((fun k => lf k && !k.sameKey (.string X)) (.string z) = false) ↔ (lf (.string z) = false ∨ z = X) := fun z => by
        show (lf (.string z) && !(Lit.string z).sameKey (.string X)) = false ↔ _
        rw [hsame, Bool.and_eq_false_iff]
        simp
      have hsiz : (tx X).size ≤ 281474976710656 := by rw [tx_size]; omega
      have HLT : Hid (cnt' < cnt) := Lib.hid hlt
      have HRG := Lib.hid hrg1
      have HM0 := Lib.hid hmeas0
      cases hpf : Lib.hasPrefix X pre with
      | false =>
        have hC : Hid (∀ W, Calls Try.prog 125 #[.string (tx X), .string (tx pre)] W fun e w' => e = .returned (.bool false) ∧ w' = W) := Lib.hid (fun W => by
          have h := lib_strings_HasPrefix (tx X) (tx pre) W
          rw [tx_list, tx_list, hpf] at h
          exact h)
        have hzs' : ∀ z, z ∈ zs ↔ z ∈ nmR pre rs ∧ (fun k => lf k && !k.sameKey (.string X)) (.string z) = false := fun z => by
          rw [hleft' z, HZ.out z]
          constructor
          · rintro ⟨h1, h2⟩; exact ⟨h1, .inl h2⟩
          · rintro ⟨h1, h2⟩
            refine ⟨h1, ?_⟩
            rcases h2 with h2 | rfl
            · exact h2
            · unfold nmR at h1
              rw [List.mem_filter, hpf] at h1
              exact absurd h1.2 (by decide)
        have HZ' := Lib.hid hzs'
        have HA4 := Lib.hid hA4
        have HB4 := Lib.hid hb4
        have HSZ4 : Hid (w1.heap.size ≤ w4.heap.size) := Lib.hid (by omega)
        clear hzs' hleft' hsame hA hA4 hb4 hrg hrg1 hg1 hat hv hkey hlk hmeas0 hXm hXz hpf HZ
        go_wp2_with fail
        refine (hC.out _).mono ?_
        rintro e w' ⟨rfl, rfl⟩
        go_wp2
        go_roundw
        case rel => exact ⟨A, n, c, zs, _, cnt', rfl, HA4.out, HND.out, HZ'.out, hnr, HRG.out, HB4.out, HSZ4.out⟩
        case measure => rw [hmeas, HM0.out]; exact HLT.out
      | true =>
        have hC : Hid (∀ W, Calls Try.prog 125 #[.string (tx X), .string (tx pre)] W fun e w' => e = .returned (.bool true) ∧ w' = W) := Lib.hid (fun W => by
          have h := lib_strings_HasPrefix (tx X) (tx pre) W
          rw [tx_list, tx_list, hpf] at h
          exact h)
        have hzs' : ∀ z, z ∈ zs ++ [X] ↔ z ∈ nmR pre rs ∧ (fun k => lf k && !k.sameKey (.string X)) (.string z) = false := fun z => by
          rw [hleft' z, List.mem_append, List.mem_singleton, HZ.out z]
          constructor
          · rintro (⟨h1, h2⟩ | rfl)
            · exact ⟨h1, .inl h2⟩
            · refine ⟨?_, .inr rfl⟩
              unfold nmR
              rw [List.mem_filter]
              exact ⟨hXm, hpf⟩
          · rintro ⟨h1, h2⟩
            rcases h2 with h2 | rfl
            · exact .inl ⟨h1, h2⟩
            · exact .inr rfl
        have hnd' : (zs ++ [X]).Nodup := by
          rw [List.nodup_append]
          exact ⟨HND.out, by simp, fun a ha b hb e => by rw [List.mem_singleton] at hb; rw [e, hb] at ha; exact hXz ha⟩
        have hlen' : n + 1 ≤ rs.length := by
          have h1 : (zs ++ [X]).length ≤ (nmR pre rs).length := List.Nodup.length_le_of_subset hnd' (fun z hz => ((hzs' z).1 hz).1)
          have h2 : (nmR pre rs).length ≤ rs.length := by
            unfold nmR
            exact Nat.le_trans (List.length_filter_le _ _) (by simp)
          have h3 : zs.length = n := by have := hA.len; simpa using this
          rw [List.length_append] at h1
          simp only [List.length_cons, List.length_nil] at h1
          omega
        have HZ' := Lib.hid hzs'
        have HND' := Lib.hid hnd'
        clear hzs' hnd' hleft' hsame hA hrg hrg1 hat hv hkey hlk hmeas0 hXm hXz hpf HZ HND hg1
        go_wp2_with fail
        refine (hC.out _).mono ?_
        rintro e w' ⟨rfl, rfl⟩
        go_wp2_with fail
        refine (Dclone _ _ hsiz).mono ?_
        rintro e w5 ⟨rfl, hb5⟩
        have hs5 := hb5.size
        have hG := hA4.below hb5
        go_wp2_with (at_builtin; refine wpList_app1 w5 rfl _ _ 122 rfl w1.heap.size 9 _ _ Try.underlying122 info_str rfl A n c (zs.map encStr) rfl hG (.string (tx X)) rfl w5.heap.size rfl rfl ?_ ?_ ?_ ?_)
        · unfold maxLen; omega
        · omega
        · omega
        intro A' c' w6 hA6 hg6 hk6
        have hrg6 := ((HRG.out.kept (w' := w5) (row := none) ⟨hb5.os, hb5.tape, hb5.output, hb5.size, fun k hk _ => hb5.block k hk⟩ (by simp) (by simp)).kept hg6 (fun e => by have := (hG.lt b e.symm).1; omega) (fun e => by have := (hG.lt _ e.symm).1; omega))
        have hb6 : Below w.heap.size w w6 := (hb4.trans (hb5.mono hb4.size)).grown hg6 (by have := hb4.size; omega) (fun k hk => by have := (hG.lt k hk).1; omega)
        have HA6 : Hid (OwnV 9 w6 w1.heap.size A' (n + 1) c' ((zs ++ [X]).map encStr)) := Lib.hid (by rw [List.map_append]; exact hA6)
        have HRG6 := Lib.hid hrg6
        have HB6 := Lib.hid hb6
        have hmeas6 := hrg6.left_eq
        have HSZ6 : Hid (w1.heap.size ≤ w6.heap.size) := Lib.hid (by have := hg6.size; omega)
        clear hA6 hg6 hk6 hG hb5 hrg6 hb6 hA4 hb4
        go_wp2
        go_roundw
        case rel => exact ⟨A', n + 1, c', zs ++ [X], _, cnt', rfl, HA6.out, HND'.out, HZ'.out, hlen', HRG6.out, HB6.out, HSZ6.out⟩
        case measure => rw [hmeas6, HM0.out]; exact HLT.out
set_option maxRecDepth 100000 in
set_option maxHeartbeats 2000000 in
theorem names_nil (pre : List UInt8) (h : DskR w p none rs room used left dead armed) :
    Calls Try.prog 100 #[.pointer (some ⟨p, 0, none⟩), .string (tx pre)] w (RetNm w (nmR pre rs)) := by
  obtain ⟨c0, _⟩ := h.head
  have hrs : rs = [] := by
    rcases h.2.1 with ⟨_, h2⟩ | ⟨b', Dm, h1, _⟩
    · exact h2
    · cases h1
  subst hrs
  have hrn := fun w => run_range_nilMap (P := Try.prog) w 24 9 105 Try.underlying24
  have hnx := fun w ty => run_next_nilMap (P := Try.prog) w ty 0 0 #[]
  go_enter Try.func100, Try.ntmps100
  go_wp2
  go_loopw [5] (fun v wr => v = .slice none 0 0 ∧ wr = w.alloc (.mapIter none 0 #[] 0)) (fun _ _ => 0)
  case atStart => exact ⟨rfl, rfl⟩
  case round =>
    obtain ⟨rfl, rfl⟩ := hrel
    go_wp2_with fail
    refine (lib_slices_Sort_string_none none 0 _).mono ?_
    rintro e w' ⟨rfl, rfl⟩
    go_wp2
    go_ret
    exact ⟨none, 0, 0, rfl, OwnV.nil _ _ _, (Below.refl _ _).alloc (Nat.le_refl _) _⟩
theorem names_any (pre : List UInt8) (h : DskR w p m rs room used left dead armed) (hu : rsUp rs) (hrs : rs.length ≤ 1099511627776) (hnl : ∀ r ∈ rs, r.name.length ≤ 1099511627776) :
    Calls Try.prog 100 #[.pointer (some ⟨p, 0, none⟩), .string (tx pre)] w (RetNm w (nmR pre rs)) := by
  cases m with
  | none => exact names_nil pre h
  | some b => exact names_some pre h hu hrs hnl
theorem list_dead (pre : List UInt8) (h : DskR w p m rs room used left true armed) :
    Calls Try.prog 73 #[.pointer (some ⟨p, 0, none⟩), .string (tx pre)] w (RetNm w []) := by
  obtain ⟨c0, c1, c2, c3, c4, c5⟩ := h.head
  go_enter Try.func73, Try.ntmps73
  go_wp2
  go_ret
  exact ⟨none, 0, 0, rfl, OwnV.nil _ _ _, Below.refl _ _⟩
theorem list_live (pre : List UInt8) (h : DskR w p m rs room used left false armed) (hu : rsUp rs) (hrs : rs.length ≤ 1099511627776) (hnl : ∀ r ∈ rs, r.name.length ≤ 1099511627776) :
    Calls Try.prog 73 #[.pointer (some ⟨p, 0, none⟩), .string (tx pre)] w (RetNm w (nmR pre rs)) := by
  obtain ⟨c0, c1, c2, c3, c4, c5⟩ := h.head
  go_enter Try.func73, Try.ntmps73
  go_wp2_with fail
  refine (names_any pre h hu hrs hnl).mono ?_
  rintro e w' ⟨A, n, c, rfl, ho, hb⟩
  go_wp2
  go_ret
  exact ⟨A, n, c, rfl, ho, hb⟩
end
end Go.Proofs.Ytjpnfhfeabdhiaa
