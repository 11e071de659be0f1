/- Lock: check, clash. No condition but sizes. -/
import Derived.Test.YtmpdenpopokigaaLkA
namespace Go.Proofs.Ytmpdenpopokigaa
open Go Go.RowKit

/-- A place that is at least 0 just if b. -/
def RetIx (w : World) (b : Bool) (e : Ending) (w' : World) : Prop := ∃ z : Int, e = .returned (.int .i64 z) ∧ decide (0 ≤ z) = b ∧ Below w.heap.size w w'
theorem RetIx.out {w : World} {b : Bool} {e : Ending} {w' : World} (h : RetIx w b e w') : ∃ z : Int, e = .returned (.int .i64 z) ∧ decide (0 ≤ z) = b ∧ Below w.heap.size w w' := h
theorem any_take_succ {α : Type} (P : α → Bool) {l : List α} {k : Nat} {x : α} (h : l[k]? = some x) : (l.take (k + 1)).any P = ((l.take k).any P || P x) := by
  rw [List.take_add_one, h, List.any_append]
  simp
section
variable {w : World} {A : Option Addr} {n c : Nat} {rs : List Rg}
set_option maxRecDepth 100000 in
set_option maxHeartbeats 4000000 in
theorem indexR_any (g : Nat) (cb : Array Value) (P : Rg → Bool) (eg : ∀ args w, (callFunc g args).run Try.prog w = .ok (.enter g args) w) (hr : RGr w A n rs) (hn : n ≤ 1099511627776)
    (hf : ∀ wx, Below w.heap.size w wx → ∀ (r : Rg) (v0 v1 v2 : Value), r ∈ rs → GrV wx r v0 v1 v2 → Calls Try.prog g (#[.agg #[v0, v1, v2]] ++ cb) wx (RetT wx (P r))) :
    Calls Try.prog 185 #[.slice A n c, .func (.func g) #[] cb] w (RetIx w (rs.any P)) := by
  have HF := Lib.hid hf
  have HR := Lib.hid hr
  have HL := Lib.hid hr.len
  clear hf hr
  go_enter Try.func185, Try.ntmps185
  go_wp2_with fail
  go_loopw [8] (fun s8 wr => ∃ k : Nat, k ≤ n ∧ s8 = .int .i64 (k : Int) ∧ (rs.take k).any P = false ∧ Below w.heap.size w wr) (fun s _ => n - (intOf s).toNat)
  case atStart => exact ⟨0, Nat.zero_le _, rfl, rfl, Below.refl _ _⟩
  case round =>
    obtain ⟨k, hk, rfl, hany, hB⟩ := hrel
    have HA := Lib.hid hany
    have HB := Lib.hid hB
    clear hany hB
    by_cases hlt : k < n
    · have hR := HR.out.below HB.out
      obtain ⟨b, off, hAb, hbl⟩ := hR.pos (by omega)
      subst hAb
      obtain ⟨x, v0, v1, v2, hx, m0, m1, m2, hv⟩ := hR.at_ k hlt
      obtain ⟨z, hz⟩ : ∃ z, z = P x := ⟨_, rfl⟩
      have HC : Hid (Calls Try.prog g (#[.agg #[v0, v1, v2]] ++ cb) wr (RetT wr z)) := Lib.hid (by rw [hz]; exact HF.out wr HB.out x v0 v1 v2 (List.mem_of_getElem? hx) hv)
      have HT : Hid ((rs.take (k + 1)).any P = z) := Lib.hid (by rw [any_take_succ P hx, HA.out, hz]; simp)
      have HM : Hid (z = true → rs.any P = true) := Lib.hid (fun h => List.any_eq_true.2 ⟨x, List.mem_of_getElem? hx, by rw [← hz]; exact h⟩)
      clear hR hx hv hz
      go_wp2_with fail
      with_reducible refine HC.out.mono ?_
      intro e w2 hq
      obtain ⟨h1, b2⟩ := RetT.outD hq
      subst h1
      have HB2 := Lib.hid (belowT' HB.out b2)
      clear hq b2 m0 m1 m2
      cases z with
      | true =>
        have HF2 : Hid (RetIx w (rs.any P) (.returned (.int .i64 (k : Int))) w2) := Lib.hid ⟨k, rfl, by rw [HM.out rfl]; simp, HB2.out⟩
        go_wp2_with fail
        go_ret
        exact HF2.out
      | false =>
        go_wp2_with fail
        go_roundw
        case rel => exact ⟨k + 1, by omega, by go_num, HT.out, HB2.out⟩
        case measure => simp [intOf]; omega
    · have HF2 : Hid (RetIx w (rs.any P) (.returned (.int .i64 (-1))) wr) := Lib.hid ⟨-1, rfl, by
        have h1 := HA.out
        rw [List.take_of_length_le (by rw [HL.out]; omega)] at h1
        rw [h1]; rfl, HB.out⟩
      go_wp2_with fail
      go_ret
      exact HF2.out
set_option maxRecDepth 100000 in
set_option maxHeartbeats 4000000 in
theorem containsR_any (g : Nat) (cb : Array Value) (P : Rg → Bool) (eg : ∀ args w, (callFunc g args).run Try.prog w = .ok (.enter g args) w) (hr : RGr w A n rs) (hn : n ≤ 1099511627776)
    (hf : ∀ wx, Below w.heap.size w wx → ∀ (r : Rg) (v0 v1 v2 : Value), r ∈ rs → GrV wx r v0 v1 v2 → Calls Try.prog g (#[.agg #[v0, v1, v2]] ++ cb) wx (RetT wx (P r))) :
    Calls Try.prog 145 #[.slice A n c, .func (.func g) #[] cb] w (RetT w (rs.any P)) := by
  have HI := Lib.hid (indexR_any (c := c) g cb P eg hr hn hf)
  clear hf hr eg
  go_enter Try.func145, Try.ntmps145
  go_wp2_with fail
  with_reducible refine HI.out.mono ?_
  intro e w2 hq
  obtain ⟨z, h1, h2, b2⟩ := hq.out
  subst h1
  have HB2 := Lib.hid b2
  clear hq b2
  go_wp2_with fail
  go_ret
  exact ⟨rfl, HB2.out⟩
set_option maxRecDepth 100000 in
set_option maxHeartbeats 4000000 in
theorem check16_any (hr : RGr w A n rs) (hn : n ≤ 1099511627776) : Calls Try.prog 103 #[.slice A n c] w (RetNu w (checkR rs)) := by
  have HC1 := Lib.hid (containsR_any (c := c) 144 #[] longR (fun _ _ => rfl) hr hn (fun wx hb r v0 v1 v2 _ hv => long_any hv))
  have HC2 : Hid (∀ wx, Below w.heap.size w wx → Calls Try.prog 145 #[.slice A n c, .func (.func 146) #[] #[]] wx (RetT wx (rs.any emptyR))) := Lib.hid (fun wx hb => containsR_any (c := c) 146 #[] emptyR (fun _ _ => rfl) (hr.below hb) hn (fun wx hb r v0 v1 v2 _ hv => empty_any hv))
  have HL := Lib.hid hr.len
  obtain ⟨b1, hb1⟩ : ∃ b, b = rs.any longR := ⟨_, rfl⟩
  obtain ⟨b2, hb2⟩ : ∃ b, b = rs.any emptyR := ⟨_, rfl⟩
  rw [← hb1] at HC1
  rw [← hb2] at HC2
  have HCK : Hid (checkR rs = if 64 < n ∨ b1 = true then 2 else if b2 = true then 3 else 0) := Lib.hid (by unfold checkR; rw [HL.out, hb1, hb2])
  clear hr hb1 hb2
  by_cases h64 : 64 < n
  · have t1 : decide ((64 : Int) < (n : Int)) = true := by simp; omega
    have HF : Hid (checkR rs = 2) := Lib.hid (by rw [HCK.out, if_pos (.inl h64)])
    go_enter Try.func103, Try.ntmps103
    go_wp2_with fail
    go_ret
    exact ⟨by rw [HF.out]; rfl, Below.refl _ _⟩
  · have t1 : decide ((64 : Int) < (n : Int)) = false := by simp; omega
    cases b1 with
    | true =>
      have HF : Hid (checkR rs = 2) := Lib.hid (by rw [HCK.out, if_pos (.inr rfl)])
      go_enter Try.func103, Try.ntmps103
      go_wp2_with fail
      with_reducible refine HC1.out.mono ?_
      intro e w2 hq
      obtain ⟨h1, bb⟩ := RetT.outD hq
      subst h1
      have HB2 := Lib.hid bb
      clear hq bb
      go_wp2_with fail
      go_ret
      exact ⟨by rw [HF.out]; rfl, HB2.out⟩
    | false =>
      cases b2 with
      | true =>
        have HF : Hid (checkR rs = 3) := Lib.hid (by rw [HCK.out, if_neg (by simp; omega), if_pos rfl])
        go_enter Try.func103, Try.ntmps103
        go_wp2_with fail
        with_reducible refine HC1.out.mono ?_
        intro e w2 hq
        obtain ⟨h1, bb⟩ := RetT.outD hq
        subst h1
        have HC3 := Lib.hid (HC2.out w2 bb)
        have HB2 := Lib.hid bb
        clear hq bb
        go_wp2_with fail
        with_reducible refine HC3.out.mono ?_
        intro e w3 hq
        obtain ⟨h1, bb⟩ := RetT.outD hq
        subst h1
        have HB3 := Lib.hid (belowT' HB2.out bb)
        clear hq bb
        go_wp2_with fail
        go_ret
        exact ⟨by rw [HF.out]; rfl, HB3.out⟩
      | false =>
        have HF : Hid (checkR rs = 0) := Lib.hid (by rw [HCK.out, if_neg (by simp; omega), if_neg (by simp)])
        go_enter Try.func103, Try.ntmps103
        go_wp2_with fail
        with_reducible refine HC1.out.mono ?_
        intro e w2 hq
        obtain ⟨h1, bb⟩ := RetT.outD hq
        subst h1
        have HC3 := Lib.hid (HC2.out w2 bb)
        have HB2 := Lib.hid bb
        clear hq bb
        go_wp2_with fail
        with_reducible refine HC3.out.mono ?_
        intro e w3 hq
        obtain ⟨h1, bb⟩ := RetT.outD hq
        subst h1
        have HB3 := Lib.hid (belowT' HB2.out bb)
        clear hq bb
        go_wp2_with fail
        go_ret
        exact ⟨by rw [HF.out]; rfl, HB3.out⟩
set_option maxRecDepth 100000 in
set_option maxHeartbeats 4000000 in
/-- Does this range clash with the one in the box? -/
theorem clash11_any {g : Nat} {a r : Rg} {u0 u1 u2 v0 v1 v2 : Value} (hg : Cl w g #[u0, u1, u2] 97) (ha : GrV w a u0 u1 u2) (h : GrV w r v0 v1 v2) : Calls Try.prog 181 #[.agg #[v0, v1, v2], .pointer (some ⟨g, 0, none⟩)] w (RetT w (clash1 a r)) := by
  obtain ⟨K, kn, kc, T, tn, tc, rfl, rfl, rfl, r1, r2, _⟩ := h.parts
  obtain ⟨K', kn', kc', T', tn', tc', rfl, rfl, rfl, r1', r2', _⟩ := ha.parts
  obtain ⟨W, hW⟩ : ∃ W, W = w.alloc (.cells #[.slice K kn kc, .slice T tn tc, .bool r.ex] 97) := ⟨_, rfl⟩
  have bW : Below w.heap.size w W := by rw [hW]; exact (Below.refl _ _).alloc (Nat.le_refl _) _
  have zW : Cl W w.heap.size #[.slice K kn kc, .slice T tn tc, .bool r.ex] 97 := by rw [hW]; exact Cl.new _ _ _
  have gW := hg.below bW
  obtain ⟨c0, c1, c2, _⟩ := zW.c3
  obtain ⟨d0, d1, d2, _⟩ := gW.c3
  obtain ⟨p, hp⟩ : ∃ p, p = belB a.lo r.hi := ⟨_, rfl⟩
  obtain ⟨q, hq⟩ : ∃ q, q = belB r.lo a.hi := ⟨_, rfl⟩
  have HP : Hid (Calls Try.prog 182 #[.slice K' kn' kc', .slice T tn tc] W (fun e w' => e = .returned (.bool p) ∧ W = w')) := Lib.hid (by rw [hp]; exact below_any (r1'.below bW) (r2.below bW))
  have HQ : Hid (Calls Try.prog 182 #[.slice K kn kc, .slice T' tn' tc'] W (fun e w' => e = .returned (.bool q) ∧ W = w')) := Lib.hid (by rw [hq]; exact below_any (r1.below bW) (r2'.below bW))
  have HB := Lib.hid bW
  have HW := Lib.hid hW
  obtain ⟨x, hx⟩ : ∃ x, x = a.ex := ⟨_, rfl⟩
  obtain ⟨y, hy⟩ : ∃ y, y = r.ex := ⟨_, rfl⟩
  rw [← hx] at d2
  rw [← hy] at c2 HW
  have HE : Hid (clash1 a r = ((x || y) && p && q)) := Lib.hid (by rw [hp, hq, hx, hy]; rfl)
  have HY := Lib.hid hy
  clear h ha hg r1 r2 r1' r2' bW zW gW hW hp hq hx hy
  rw [← HY.out]
  have HX : Hid (∀ wx, Below w.heap.size w wx → RetT w (clash1 a r) (.returned (.bool ((x || y) && p && q))) wx) := Lib.hid (fun wx hb => ⟨by rw [HE.out], hb⟩)
  cases x with
  | true =>
    cases p with
    | true =>
      go_enter Try.func181, Try.ntmps181
      go_upto_region 1 with (fail)
      rw [← HW.out]
      go_wp2_with fail
      with_reducible refine HP.out.mono ?_
      rintro e w1 ⟨rfl, rfl⟩
      go_wp2_with fail
      with_reducible refine HQ.out.mono ?_
      rintro e w1 ⟨rfl, rfl⟩
      go_wp2_with fail
      go_ret
      exact HX.out W HB.out
    | false =>
      go_enter Try.func181, Try.ntmps181
      go_upto_region 1 with (fail)
      rw [← HW.out]
      go_wp2_with fail
      with_reducible refine HP.out.mono ?_
      rintro e w1 ⟨rfl, rfl⟩
      go_wp2_with fail
      go_ret
      exact HX.out W HB.out
  | false =>
    cases y with
    | true =>
      cases p with
      | true =>
        go_enter Try.func181, Try.ntmps181
        go_upto_region 1 with (fail)
        rw [← HW.out]
        go_wp2_with fail
        with_reducible refine HP.out.mono ?_
        rintro e w1 ⟨rfl, rfl⟩
        go_wp2_with fail
        with_reducible refine HQ.out.mono ?_
        rintro e w1 ⟨rfl, rfl⟩
        go_wp2_with fail
        go_ret
        exact HX.out W HB.out
      | false =>
        go_enter Try.func181, Try.ntmps181
        go_upto_region 1 with (fail)
        rw [← HW.out]
        go_wp2_with fail
        with_reducible refine HP.out.mono ?_
        rintro e w1 ⟨rfl, rfl⟩
        go_wp2_with fail
        go_ret
        exact HX.out W HB.out
    | false =>
      go_enter Try.func181, Try.ntmps181
      go_upto_region 1 with (fail)
      rw [← HW.out]
      go_wp2_with fail
      go_ret
      exact HX.out W HB.out
set_option maxRecDepth 100000 in
set_option maxHeartbeats 4000000 in
theorem clash1_any {g : Nat} {a : Rg} {B : Option Addr} {m d : Nat} {qs : List Rg} {u0 u1 u2 : Value} (hg : Cl w g #[.slice B m d] 98) (hq : RGr w B m qs) (hm : m ≤ 1099511627776) (ha : GrV w a u0 u1 u2) : Calls Try.prog 180 #[.agg #[u0, u1, u2], .pointer (some ⟨g, 0, none⟩)] w (RetT w (qs.any fun b => clash1 a b)) := by
  obtain ⟨K, kn, kc, T, tn, tc, rfl, rfl, rfl, _⟩ := ha.parts
  obtain ⟨W, hW⟩ : ∃ W, W = w.alloc (.cells #[.slice K kn kc, .slice T tn tc, .bool a.ex] 97) := ⟨_, rfl⟩
  have bW : Below w.heap.size w W := by rw [hW]; exact (Below.refl _ _).alloc (Nat.le_refl _) _
  have zW : Cl W w.heap.size #[.slice K kn kc, .slice T tn tc, .bool a.ex] 97 := by rw [hW]; exact Cl.new _ _ _
  have c0 : W.cell? ⟨g, 0, none⟩ = some (.slice B m d) := (hg.below bW).cell 0
  have HC := Lib.hid (containsR_any (c := d) 181 #[.pointer (some ⟨w.heap.size, 0, none⟩)] (fun b => clash1 a b) (fun _ _ => rfl) (hq.below bW) hm (fun wx hb r v0 v1 v2 _ hv => clash11_any (zW.below hb) (ha.below (belowT' bW hb)) hv))
  have HW := Lib.hid hW
  have HB := Lib.hid bW
  clear hg hq ha bW zW hW
  go_enter Try.func180, Try.ntmps180
  go_upto_region 1 with (fail)
  rw [← HW.out]
  go_wp2_with fail
  with_reducible refine HC.out.mono ?_
  intro e w2 hq
  obtain ⟨h1, bb⟩ := RetT.outD hq
  subst h1
  have HB2 := Lib.hid (belowT' HB.out bb)
  clear hq bb
  go_wp2_with fail
  go_ret
  exact ⟨rfl, HB2.out⟩
set_option maxRecDepth 100000 in
set_option maxHeartbeats 4000000 in
theorem clash_any {B : Option Addr} {m d : Nat} {qs : List Rg} (hr : RGr w A n rs) (hn : n ≤ 1099511627776) (hq : RGr w B m qs) (hm : m ≤ 1099511627776) : Calls Try.prog 138 #[.slice A n c, .slice B m d] w (RetT w (clashR rs qs)) := by
  obtain ⟨W, hW⟩ : ∃ W, W = w.alloc (.cells #[.slice B m d] 98) := ⟨_, rfl⟩
  have bW : Below w.heap.size w W := by rw [hW]; exact (Below.refl _ _).alloc (Nat.le_refl _) _
  have zW : Cl W w.heap.size #[.slice B m d] 98 := by rw [hW]; exact Cl.new _ _ _
  have HC := Lib.hid (containsR_any (c := c) 180 #[.pointer (some ⟨w.heap.size, 0, none⟩)] (fun a => qs.any fun b => clash1 a b) (fun _ _ => rfl) (hr.below bW) hn (fun wx hb r v0 v1 v2 _ hv => clash1_any (zW.below hb) (hq.below (belowT' bW hb)) hm hv))
  have HW := Lib.hid hW
  have HB := Lib.hid bW
  clear hr hq bW zW hW
  go_enter Try.func138, Try.ntmps138
  go_upto_region 1 with (fail)
  rw [← HW.out]
  go_wp2_with fail
  with_reducible refine HC.out.mono ?_
  intro e w2 hq
  obtain ⟨h1, bb⟩ := RetT.outD hq
  subst h1
  have HB2 := Lib.hid (belowT' HB.out bb)
  clear hq bb
  go_wp2_with fail
  go_ret
  exact ⟨rfl, HB2.out⟩
end
end Go.Proofs.Ytmpdenpopokigaa
