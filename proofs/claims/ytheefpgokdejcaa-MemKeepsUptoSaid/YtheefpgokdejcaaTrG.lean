/- The table's Get. No condition but sizes. -/
import Derived.Test.YtheefpgokdejcaaTrF
namespace Go.Proofs.Ytheefpgokdejcaa
open Go Go.RowKit

theorem firstT_mem {x e : En} : ∀ {t : Tr} {f : Option En}, firstT x t f = some e → e ∈ t.list ∨ f = some e
  | .nil, f, h => .inr h
  | .node l y r, f, h => by
    unfold firstT at h
    split at h
    · rcases firstT_mem h with q | q
      · exact .inl (by simp [Tr.list, q])
      · exact .inr q
    · rcases firstT_mem h with q | q
      · exact .inl (by simp [Tr.list, q])
      · injection q with q
        exact .inl (by simp [Tr.list, q])
/-- What a table answers. -/
def keyed (key : List UInt8) : Option En → Option En
  | none => none
  | some e => if cmpB e.key key = 0 then some e else none
def tabGet (t : Tr) (key : List UInt8) (at_ : Nat) : Option En := keyed key (firstT ⟨key, at_, 0, []⟩ t none)
def RetGt (w : World) (o : Option En) (e : Ending) (w' : World) : Prop :=
  (o = none ∧ e = .returned (.tuple #[.agg #[.slice none 0 0, .int .u64 0, .int .u8 0, .slice none 0 0], .bool false]) ∧ Below w.heap.size w w') ∨
  ∃ x K kn kc V vn vc, o = some x ∧ e = .returned (.tuple #[.agg #[.slice K kn kc, .int .u64 (x.seq : Int), .int .u8 (x.kind : Int), .slice V vn vc], .bool true]) ∧ Own 5 w' w.heap.size K kn kc x.key ∧ Own 5 w' w.heap.size V vn vc x.val ∧ Below w.heap.size w w' ∧ Dj K V
set_option maxRecDepth 100000 in
set_option maxHeartbeats 8000000 in
theorem tabGet_any {d : TypeId × List Value} {G : Nat → Prop} {w : World} {p : Nat} {t : Tr} {L : Option Addr} {n c at_ : Nat} {key : List UInt8} (h : TB d G w p t) (hS : ∀ e ∈ t.list, SzE e) (hr : Rd w L n key) (hc : n ≤ c) (hd : L = none → c = 0) (hat : U64 at_) :
    Calls Try.prog 25 #[.pointer (some ⟨p, 0, none⟩), .slice L n c, .int .u64 (at_ : Int)] w (RetGt w (tabGet t key at_)) := by
  obtain ⟨A0, hp, hta, _⟩ := h
  obtain ⟨U, hU⟩ : ∃ U, U = w.alloc (.cells #[.slice none 0 0, .int .u64 0, .int .u8 0, .slice none 0 0] 38) := ⟨_, rfl⟩
  have bU : Below w.heap.size w U := by rw [hU]; exact (Below.refl _ _).alloc (Nat.le_refl _) _
  have ZU := Lib.hid (show Cl U w.heap.size #[.slice none 0 0, .int .u64 0, .int .u8 0, .slice none 0 0] 38 by rw [hU]; exact Cl.new _ _ _)
  have hev : EV U ⟨key, at_, 0, []⟩ (.slice L n c) (.int .u64 (at_ : Int)) (.int .u8 0) (.slice none 0 0) := ⟨rfl, rfl, hat, by simp, ⟨L, n, c, rfl, hr.below bU, hc, hd⟩, ⟨none, 0, 0, rfl, Rd.nil _ _, Nat.le_refl _, fun _ => rfl⟩⟩
  have HF : Hid (Calls Try.prog 62 #[.pointer A0, .agg #[.slice L n c, .int .u64 (at_ : Int), .int .u8 0, .slice none 0 0]] U (RetFst G U (firstT ⟨key, at_, 0, []⟩ t none))) := Lib.hid (first_any (hta.below bU) hev)
  have BU := Lib.hid bU
  have HR := Lib.hid (hr.below bU)
  have HS := Lib.hid hS
  have sU : w.heap.size < U.heap.size := by rw [hU]; simp
  obtain ⟨c0, c1, c2, y0, y1, y2⟩ := (hp.below bU).ct
  obtain ⟨o, ho⟩ : ∃ o, o = firstT ⟨key, at_, 0, []⟩ t none := ⟨_, rfl⟩
  rw [← ho] at HF
  have HG : Hid (tabGet t key at_ = keyed key o) := Lib.hid (by rw [ho]; rfl)
  have HM : Hid (∀ e, o = some e → e ∈ t.list) := Lib.hid (fun e he => by
    rw [ho] at he
    rcases firstT_mem he with q | q
    · exact q
    · cases q)
  clear hp hta hr hev bU hS ho
  go_enter Try.func25, Try.ntmps25
  go_upto_region 1 with (fail)
  rw [← hU]
  clear hU
  go_wp2_with fail
  with_reducible refine HF.out.mono ?_
  intro e w1 hq
  obtain ⟨F, h1, hfp, b1⟩ := RetFst.out hq
  subst h1
  have B1 := Lib.hid (belowT BU.out b1)
  have Z1 := Lib.hid (ZU.out.below b1)
  have HR1 := Lib.hid (HR.out.below b1)
  have s1 := b1.size
  cases o with
  | none =>
    have hF : F = none := hfp
    subst hF
    obtain ⟨g0, g1, g2, g3, k0, k1, k2, k3⟩ := Z1.out.c4
    clear hq hfp b1 c0 c1 c2 y0 y1 y2
    go_wp2_with fail
    obtain ⟨X, hX⟩ : ∃ X, X = ((((w1.setCell ⟨w.heap.size, 0, none⟩ (.slice none 0 0)).setCell ⟨w.heap.size, 1, none⟩ (.int .u64 0)).setCell ⟨w.heap.size, 2, none⟩ (.int .u8 0)).setCell ⟨w.heap.size, 3, none⟩ (.slice none 0 0)) := ⟨_, rfl⟩
    rw [← hX]
    have zX : Cl X w.heap.size #[.slice none 0 0, .int .u64 0, .int .u8 0, .slice none 0 0] 38 := by rw [hX]; exact Z1.out.put4 rfl _ _ _ _
    have bX : Below w.heap.size w X := by rw [hX]; exact below_set (below_set (below_set (below_set B1.out 0 _ (Nat.le_refl _)) 1 _ (Nat.le_refl _)) 2 _ (Nat.le_refl _)) 3 _ (Nat.le_refl _)
    obtain ⟨x0, x1, x2, x3, _⟩ := zX.c4
    refine bodyPost_ret (v := .tuple #[.agg #[.slice none 0 0, .int .u64 0, .int .u8 0, .slice none 0 0], .bool false]) (by simp [results, Try.results25, go_sem, x0, x1, x2, x3]; try rfl) rfl (.inl ⟨by rw [HG.out]; rfl, rfl, bX⟩)
  | some x =>
    obtain ⟨q, hF, hx⟩ := hfp
    subst hF
    clear hq b1 c0 c1 c2 y0 y1 y2
    obtain ⟨v0, v1, v2, v3, cx, ex⟩ := hx
    have hsx := HS.out x (HM.out x rfl)
    obtain ⟨K, kn, kc, V, vn, vc, rfl, rfl, rfl, rfl, r0, r3, _⟩ := ex.1.ev.parts
    obtain ⟨x0, x1, x2, x3, _⟩ := cx.c4
    have hlk : kn ≤ maxLen := maxLen_e (by rw [← r0.len]; exact hsx.1)
    obtain ⟨z, hz⟩ : ∃ z, cmpB x.key key = z := ⟨_, rfl⟩
    have HC : Hid (Calls Try.prog 63 #[.slice K kn kc, .slice L n c] w1 fun e w' => e = .returned (.int .i64 z) ∧ w1 = w') := Lib.hid (Cmp_is K L kn n kc c x.key key z hz w1 r0 HR1.out)
    have HW : Hid (∀ wx, Below w1.heap.size w1 wx → Calls Try.prog 57 #[.agg #[.slice K kn kc, .int .u64 (x.seq : Int), .int .u8 (x.kind : Int), .slice V vn vc]] wx (RetEn wx x)) := Lib.hid (fun wx h => own_any (ex.1.ev.below h) hsx)
    have CX := Lib.hid cx
    clear r0 r3 cx ex
    by_cases h0 : z = 0
    · subst h0
      have HGK : Hid (tabGet t key at_ = some x) := Lib.hid (by rw [HG.out]; show (if cmpB x.key key = 0 then some x else none) = some x; rw [if_pos hz])
      have tz : ((0 : Int) != 0) = false := rfl
      clear hz
      go_wp2_with fail
      with_reducible refine HC.out.mono ?_
      rintro e w2 ⟨rfl, rfl⟩
      go_wp2_with fail
      with_reducible refine (HW.out _ (Below.refl _ _)).mono ?_
      rintro e w3 ⟨K2, kn2, kc2, V2, vn2, vc2, rfl, o1, o2, b3, dj⟩
      have DJ := Lib.hid dj
      have Z3 := Lib.hid (Z1.out.below b3)
      have B3 := Lib.hid (belowT B1.out b3)
      have O1 := Lib.hid o1
      have O2 := Lib.hid o2
      obtain ⟨g0, g1, g2, g3, k0, k1, k2, k3⟩ := Z3.out.c4
      clear o1 o2 b3 dj x0 x1 x2 x3
      go_wp2_with fail
      obtain ⟨X, hX⟩ : ∃ X, X = ((((w3.setCell ⟨w.heap.size, 0, none⟩ (.slice K2 kn2 kc2)).setCell ⟨w.heap.size, 1, none⟩ (.int .u64 (x.seq : Int))).setCell ⟨w.heap.size, 2, none⟩ (.int .u8 (x.kind : Int))).setCell ⟨w.heap.size, 3, none⟩ (.slice V2 vn2 vc2)) := ⟨_, rfl⟩
      have s3 : w.heap.size < w1.heap.size := by omega
      have O1X : Own 5 X w.heap.size K2 kn2 kc2 x.key := by rw [hX]; exact ((((O1.out.set s3 0 _).set s3 1 _).set s3 2 _).set s3 3 _).mono (Nat.le_of_lt s3)
      have O2X : Own 5 X w.heap.size V2 vn2 vc2 x.val := by rw [hX]; exact ((((O2.out.set s3 0 _).set s3 1 _).set s3 2 _).set s3 3 _).mono (Nat.le_of_lt s3)
      rw [← hX]
      have zX : Cl X w.heap.size #[.slice K2 kn2 kc2, .int .u64 (x.seq : Int), .int .u8 (x.kind : Int), .slice V2 vn2 vc2] 38 := by rw [hX]; exact Z3.out.put4 rfl _ _ _ _
      have bX : Below w.heap.size w X := by rw [hX]; exact below_set (below_set (below_set (below_set B3.out 0 _ (Nat.le_refl _)) 1 _ (Nat.le_refl _)) 2 _ (Nat.le_refl _)) 3 _ (Nat.le_refl _)
      obtain ⟨x0, x1, x2, x3, _⟩ := zX.c4
      refine bodyPost_ret (v := .tuple #[.agg #[.slice K2 kn2 kc2, .int .u64 (x.seq : Int), .int .u8 (x.kind : Int), .slice V2 vn2 vc2], .bool true]) (by simp [results, Try.results25, go_sem, x0, x1, x2, x3]; try rfl) rfl (.inr ⟨x, K2, kn2, kc2, V2, vn2, vc2, HGK.out, rfl, O1X, O2X, bX, DJ.out⟩)
    · have HGK : Hid (tabGet t key at_ = none) := Lib.hid (by rw [HG.out]; show (if cmpB x.key key = 0 then some x else none) = none; rw [hz, if_neg h0])
      have tz : (z != 0) = true := by simpa using h0
      obtain ⟨g0, g1, g2, g3, k0, k1, k2, k3⟩ := Z1.out.c4
      clear hz
      go_wp2_with fail
      with_reducible refine HC.out.mono ?_
      rintro e w2 ⟨rfl, rfl⟩
      go_wp2_with fail
      obtain ⟨X, hX⟩ : ∃ X, X = ((((w1.setCell ⟨w.heap.size, 0, none⟩ (.slice none 0 0)).setCell ⟨w.heap.size, 1, none⟩ (.int .u64 0)).setCell ⟨w.heap.size, 2, none⟩ (.int .u8 0)).setCell ⟨w.heap.size, 3, none⟩ (.slice none 0 0)) := ⟨_, rfl⟩
      rw [← hX]
      have zX : Cl X w.heap.size #[.slice none 0 0, .int .u64 0, .int .u8 0, .slice none 0 0] 38 := by rw [hX]; exact Z1.out.put4 rfl _ _ _ _
      have bX : Below w.heap.size w X := by rw [hX]; exact below_set (below_set (below_set (below_set B1.out 0 _ (Nat.le_refl _)) 1 _ (Nat.le_refl _)) 2 _ (Nat.le_refl _)) 3 _ (Nat.le_refl _)
      obtain ⟨x0, x1, x2, x3, _⟩ := zX.c4
      refine bodyPost_ret (v := .tuple #[.agg #[.slice none 0 0, .int .u64 0, .int .u8 0, .slice none 0 0], .bool false]) (by simp [results, Try.results25, go_sem, x0, x1, x2, x3]; try rfl) rfl (.inl ⟨HGK.out, rfl, bX⟩)
end Go.Proofs.Ytheefpgokdejcaa
