/- P7.2: whatever is put in, in whatever order, a table answers each key's version at any moment and all versions in order, and puts in all of a list or none. No condition but sizes. -/
import Derived.Test.YtheefpgokdejcaaTrF
import Derived.Lib.SmallJoins
import Derived.Test.YtheefpgokdejcaaMathG
import Derived.Test.YtheefpgokdejcaaEnE
import Derived.Deep.QuietTactic
import Derived.BigQuiet
import Derived.Test.YtheefpgokdejcaaEnH
import Derived.Test.YtheefpgokdejcaaMathK
import Derived.Test.YtheefpgokdejcaaFamD
import Derived.Test.YtheefpgokdejcaaApartF
import Derived.Deep.RegionLaw
import Derived.Test.YtheefpgokdejcaaEnL
import Derived.Test.YtheefpgokdejcaaOver
import Derived.Test.YtheefpgokdejcaaRows
import Derived.Test.YtheefpgokdejcaaOpen
import Derived.ProofKit
import Derived.OpenShut
import Derived.ShutString
import Derived.ChangeOld
import Derived.SizedLaws
import Derived.JoinedCond
import Derived.Deep.CondSized
import Derived.Deep.Matrix
import Derived.Test.YtheefpgokdejcaaBulk
import Derived.Test.YtheefpgokdejcaaOpenG
namespace Go.Proofs.Ytheefpgokdejcaa
open Go Go.RowKit

theorem firstT_mem {x e : En} : ∀ {t : Tr} {f : Option En}, firstT x t f = some e → e ∈ t.list ∨ f = some e
  | .nil, f, h => .inr h
  | .node l y r, f, h => by
    unfold firstT at h
    split at h
    · rcases firstT_mem h with q | q
      · exact .inl (by simp [Tr.list, q])
      · exact .inr q
    · rcases firstT_mem h with q | q
      · exact .inl (by simp [Tr.list, q])
      · injection q with q
        exact .inl (by simp [Tr.list, q])
/-- What a table answers. -/
def keyed (key : List UInt8) : Option En → Option En
  | none => none
  | some e => if cmpB e.key key = 0 then some e else none
def tabGet (t : Tr) (key : List UInt8) (at_ : Nat) : Option En := keyed key (firstT ⟨key, at_, 0, []⟩ t none)
def RetGt (w : World) (o : Option En) (e : Ending) (w' : World) : Prop :=
  (o = none ∧ e = .returned (.tuple #[.agg #[.slice none 0 0, .int .u64 0, .int .u8 0, .slice none 0 0], .bool false]) ∧ Below w.heap.size w w') ∨
  ∃ x K kn kc V vn vc, o = some x ∧ e = .returned (.tuple #[.agg #[.slice K kn kc, .int .u64 (x.seq : Int), .int .u8 (x.kind : Int), .slice V vn vc], .bool true]) ∧ Own 5 w' w.heap.size K kn kc x.key ∧ Own 5 w' w.heap.size V vn vc x.val ∧ Below w.heap.size w w' ∧ Dj K V
set_option maxRecDepth 100000 in
set_option maxHeartbeats 8000000 in
theorem tabGet_any {d : TypeId × List Value} {G : Nat → Prop} {w : World} {p : Nat} {t : Tr} {L : Option Addr} {n c at_ : Nat} {key : List UInt8} (h : TB d G w p t) (hS : ∀ e ∈ t.list, SzE e) (hr : Rd w L n key) (hc : n ≤ c) (hd : L = none → c = 0) (hat : U64 at_) :
    Calls Try.prog 25 #[.pointer (some ⟨p, 0, none⟩), .slice L n c, .int .u64 (at_ : Int)] w (RetGt w (tabGet t key at_)) := by
  obtain ⟨A0, hp, hta, _⟩ := h
  obtain ⟨U, hU⟩ : ∃ U, U = w.alloc (.cells #[.slice none 0 0, .int .u64 0, .int .u8 0, .slice none 0 0] 38) := ⟨_, rfl⟩
  have bU : Below w.heap.size w U := by rw [hU]; exact (Below.refl _ _).alloc (Nat.le_refl _) _
  have ZU := Lib.hid (show Cl U w.heap.size #[.slice none 0 0, .int .u64 0, .int .u8 0, .slice none 0 0] 38 by rw [hU]; exact Cl.new _ _ _)
  have hev : EV U ⟨key, at_, 0, []⟩ (.slice L n c) (.int .u64 (at_ : Int)) (.int .u8 0) (.slice none 0 0) := ⟨rfl, rfl, hat, by simp, ⟨L, n, c, rfl, hr.below bU, hc, hd⟩, ⟨none, 0, 0, rfl, Rd.nil _ _, Nat.le_refl _, fun _ => rfl⟩⟩
  have HF : Hid (Calls Try.prog 62 #[.pointer A0, .agg #[.slice L n c, .int .u64 (at_ : Int), .int .u8 0, .slice none 0 0]] U (RetFst G U (firstT ⟨key, at_, 0, []⟩ t none))) := Lib.hid (first_any (hta.below bU) hev)
  have BU := Lib.hid bU
  have HR := Lib.hid (hr.below bU)
  have HS := Lib.hid hS
  have sU : w.heap.size < U.heap.size := by rw [hU]; simp
  obtain ⟨c0, c1, c2, y0, y1, y2⟩ := (hp.below bU).ct
  obtain ⟨o, ho⟩ : ∃ o, o = firstT ⟨key, at_, 0, []⟩ t none := ⟨_, rfl⟩
  rw [← ho] at HF
  have HG : Hid (tabGet t key at_ = keyed key o) := Lib.hid (by rw [ho]; rfl)
  have HM : Hid (∀ e, o = some e → e ∈ t.list) := Lib.hid (fun e he => by
    rw [ho] at he
    rcases firstT_mem he with q | q
    · exact q
    · cases q)
  clear hp hta hr hev bU hS ho
  go_enter Try.func25, Try.ntmps25
  go_upto_region 1 with (fail)
  rw [← hU]
  clear hU
  go_wp2_with fail
  with_reducible refine HF.out.mono ?_
  intro e w1 hq
  obtain ⟨F, h1, hfp, b1⟩ := RetFst.out hq
  subst h1
  have B1 := Lib.hid (belowT BU.out b1)
  have Z1 := Lib.hid (ZU.out.below b1)
  have HR1 := Lib.hid (HR.out.below b1)
  have s1 := b1.size
  cases o with
  | none =>
    have hF : F = none := hfp
    subst hF
    obtain ⟨g0, g1, g2, g3, k0, k1, k2, k3⟩ := Z1.out.c4
    clear hq hfp b1 c0 c1 c2 y0 y1 y2
    go_wp2_with fail
    obtain ⟨X, hX⟩ : ∃ X, X = ((((w1.setCell ⟨w.heap.size, 0, none⟩ (.slice none 0 0)).setCell ⟨w.heap.size, 1, none⟩ (.int .u64 0)).setCell ⟨w.heap.size, 2, none⟩ (.int .u8 0)).setCell ⟨w.heap.size, 3, none⟩ (.slice none 0 0)) := ⟨_, rfl⟩
    rw [← hX]
    have zX : Cl X w.heap.size #[.slice none 0 0, .int .u64 0, .int .u8 0, .slice none 0 0] 38 := by rw [hX]; exact Z1.out.put4 rfl _ _ _ _
    have bX : Below w.heap.size w X := by rw [hX]; exact below_set (below_set (below_set (below_set B1.out 0 _ (Nat.le_refl _)) 1 _ (Nat.le_refl _)) 2 _ (Nat.le_refl _)) 3 _ (Nat.le_refl _)
    obtain ⟨x0, x1, x2, x3, _⟩ := zX.c4
    refine bodyPost_ret (v := .tuple #[.agg #[.slice none 0 0, .int .u64 0, .int .u8 0, .slice none 0 0], .bool false]) (by simp [results, Try.results25, go_sem, x0, x1, x2, x3]; try rfl) rfl (.inl ⟨by rw [HG.out]; rfl, rfl, bX⟩)
  | some x =>
    obtain ⟨q, hF, hx⟩ := hfp
    subst hF
    clear hq b1 c0 c1 c2 y0 y1 y2
    obtain ⟨v0, v1, v2, v3, cx, ex⟩ := hx
    have hsx := HS.out x (HM.out x rfl)
    obtain ⟨K, kn, kc, V, vn, vc, rfl, rfl, rfl, rfl, r0, r3, _⟩ := ex.1.ev.parts
    obtain ⟨x0, x1, x2, x3, _⟩ := cx.c4
    have hlk : kn ≤ maxLen := maxLen_e (by rw [← r0.len]; exact hsx.1)
    obtain ⟨z, hz⟩ : ∃ z, cmpB x.key key = z := ⟨_, rfl⟩
    have HC : Hid (Calls Try.prog 63 #[.slice K kn kc, .slice L n c] w1 fun e w' => e = .returned (.int .i64 z) ∧ w1 = w') := Lib.hid (Cmp_is K L kn n kc c x.key key z hz w1 r0 HR1.out)
    have HW : Hid (∀ wx, Below w1.heap.size w1 wx → Calls Try.prog 57 #[.agg #[.slice K kn kc, .int .u64 (x.seq : Int), .int .u8 (x.kind : Int), .slice V vn vc]] wx (RetEn wx x)) := Lib.hid (fun wx h => own_any (ex.1.ev.below h) hsx)
    have CX := Lib.hid cx
    clear r0 r3 cx ex
    by_cases h0 : z = 0
    · subst h0
      have HGK : Hid (tabGet t key at_ = some x) := Lib.hid (by rw [HG.out]; show (if cmpB x.key key = 0 then some x else none) = some x; rw [if_pos hz])
      have tz : ((0 : Int) != 0) = false := rfl
      clear hz
      go_wp2_with fail
      with_reducible refine HC.out.mono ?_
      rintro e w2 ⟨rfl, rfl⟩
      go_wp2_with fail
      with_reducible refine (HW.out _ (Below.refl _ _)).mono ?_
      rintro e w3 ⟨K2, kn2, kc2, V2, vn2, vc2, rfl, o1, o2, b3, dj⟩
      have DJ := Lib.hid dj
      have Z3 := Lib.hid (Z1.out.below b3)
      have B3 := Lib.hid (belowT B1.out b3)
      have O1 := Lib.hid o1
      have O2 := Lib.hid o2
      obtain ⟨g0, g1, g2, g3, k0, k1, k2, k3⟩ := Z3.out.c4
      clear o1 o2 b3 dj x0 x1 x2 x3
      go_wp2_with fail
      obtain ⟨X, hX⟩ : ∃ X, X = ((((w3.setCell ⟨w.heap.size, 0, none⟩ (.slice K2 kn2 kc2)).setCell ⟨w.heap.size, 1, none⟩ (.int .u64 (x.seq : Int))).setCell ⟨w.heap.size, 2, none⟩ (.int .u8 (x.kind : Int))).setCell ⟨w.heap.size, 3, none⟩ (.slice V2 vn2 vc2)) := ⟨_, rfl⟩
      have s3 : w.heap.size < w1.heap.size := by omega
      have O1X : Own 5 X w.heap.size K2 kn2 kc2 x.key := by rw [hX]; exact ((((O1.out.set s3 0 _).set s3 1 _).set s3 2 _).set s3 3 _).mono (Nat.le_of_lt s3)
      have O2X : Own 5 X w.heap.size V2 vn2 vc2 x.val := by rw [hX]; exact ((((O2.out.set s3 0 _).set s3 1 _).set s3 2 _).set s3 3 _).mono (Nat.le_of_lt s3)
      rw [← hX]
      have zX : Cl X w.heap.size #[.slice K2 kn2 kc2, .int .u64 (x.seq : Int), .int .u8 (x.kind : Int), .slice V2 vn2 vc2] 38 := by rw [hX]; exact Z3.out.put4 rfl _ _ _ _
      have bX : Below w.heap.size w X := by rw [hX]; exact below_set (below_set (below_set (below_set B3.out 0 _ (Nat.le_refl _)) 1 _ (Nat.le_refl _)) 2 _ (Nat.le_refl _)) 3 _ (Nat.le_refl _)
      obtain ⟨x0, x1, x2, x3, _⟩ := zX.c4
      refine bodyPost_ret (v := .tuple #[.agg #[.slice K2 kn2 kc2, .int .u64 (x.seq : Int), .int .u8 (x.kind : Int), .slice V2 vn2 vc2], .bool true]) (by simp [results, Try.results25, go_sem, x0, x1, x2, x3]; try rfl) rfl (.inr ⟨x, K2, kn2, kc2, V2, vn2, vc2, HGK.out, rfl, O1X, O2X, bX, DJ.out⟩)
    · have HGK : Hid (tabGet t key at_ = none) := Lib.hid (by rw [HG.out]; show (if cmpB x.key key = 0 then some x else none) = none; rw [hz, if_neg h0])
      have tz : (z != 0) = true := by simpa using h0
      obtain ⟨g0, g1, g2, g3, k0, k1, k2, k3⟩ := Z1.out.c4
      clear hz
      go_wp2_with fail
      with_reducible refine HC.out.mono ?_
      rintro e w2 ⟨rfl, rfl⟩
      go_wp2_with fail
      obtain ⟨X, hX⟩ : ∃ X, X = ((((w1.setCell ⟨w.heap.size, 0, none⟩ (.slice none 0 0)).setCell ⟨w.heap.size, 1, none⟩ (.int .u64 0)).setCell ⟨w.heap.size, 2, none⟩ (.int .u8 0)).setCell ⟨w.heap.size, 3, none⟩ (.slice none 0 0)) := ⟨_, rfl⟩
      rw [← hX]
      have zX : Cl X w.heap.size #[.slice none 0 0, .int .u64 0, .int .u8 0, .slice none 0 0] 38 := by rw [hX]; exact Z1.out.put4 rfl _ _ _ _
      have bX : Below w.heap.size w X := by rw [hX]; exact below_set (below_set (below_set (below_set B1.out 0 _ (Nat.le_refl _)) 1 _ (Nat.le_refl _)) 2 _ (Nat.le_refl _)) 3 _ (Nat.le_refl _)
      obtain ⟨x0, x1, x2, x3, _⟩ := zX.c4
      refine bodyPost_ret (v := .tuple #[.agg #[.slice none 0 0, .int .u64 0, .int .u8 0, .slice none 0 0], .bool false]) (by simp [results, Try.results25, go_sem, x0, x1, x2, x3]; try rfl) rfl (.inl ⟨HGK.out, rfl, bX⟩)
end Go.Proofs.Ytheefpgokdejcaa
namespace Go.Proofs.Ytheefpgokdejcaa
open Go Go.RowKit

theorem ownV_boxE (w : World) (t : TypeId) (base : Nat) (vs : List Value) (n : Nat) (hl : vs.length = n) (hn : n ≤ 1024) (hb : base ≤ w.heap.size) (cs : Array Value) (hc : cs = vs.toArray) (g : Nat) (hg : g = w.heap.size) : OwnV t (w.alloc (.cells cs t)) base (some ⟨g, 0, none⟩) n n vs := by
  subst hc hg
  refine ⟨by simp [hl], .inr ⟨w.heap.size, n, vs.toArray, rfl, hb, heap_alloc_new w _, Nat.le_refl _, by unfold maxLen; omega, by simp [hl], ?_⟩⟩
  simp only [Nat.mul_one]
  exact List.take_of_length_le (by simp [hl])
/-- A box with bytes, as a constant text turned into bytes lays it. -/
theorem Rd.cst7 (w : World) (e : TypeId) (n : Nat) (xs : List UInt8) (hn : xs.length = n) (vs : Array Value) (hv : vs = (xs.map cv).toArray) (fr : Nat × Nat) (g : Nat) (hg : g = w.heap.size) :
    Rd (w.alloc (.cells vs e fr)) (some ⟨g, 0, none⟩) n xs := by
  subst hv hg
  refine ⟨hn, fun _ => ⟨w.heap.size, 0, rfl, by simp, fun i x hx => ?_⟩⟩
  have h := cell_of_row (w.alloc (.cells (xs.map cv).toArray e fr)) w.heap.size (0 + i) (xs.map cv).toArray e fr (heap_alloc_new w _)
  rw [h]
  simp [hx, cv]

def e71 : En := ⟨[97], 1, 1, [120]⟩
def e72 : En := ⟨[97], 3, 2, []⟩
def t7 : Tr := .node (.node .nil e72 .nil) e71 .nil
theorem put7 : putZ .nil [e71, e72] = (0, t7) := rfl
theorem get7 : tabGet t7 [97] 2 = some e71 := rfl
theorem num7 : t7.num = 2 := rfl
theorem sz7 : t7.sz = 3 := rfl
set_option maxRecDepth 100000 in
set_option maxHeartbeats 4000000 in
theorem awake7_any (w : World) : Calls Try.prog 15 #[] w (RetT w true) := by
  have kc := fun (w : World) (C : Array Value) (n c g : Nat) (hg : g = w.heap.size) => Joins.run_convert_bytes_const_at (P := Try.prog) w 35 5 C n c g hg Try.underlying35 Try.underlying5
  go_enter Try.func15, Try.ntmps15
  go_wp2_with fail
  with_reducible refine (memNew_any (fun _ => True) w).mono ?_
  rintro e w1 ⟨rfl, ht, b1⟩
  have s1 := b1.size
  go_wp2_with fail
  obtain ⟨W, hW⟩ : ∃ W, W = (((w1.alloc (.cells #[.int .u8 97] 5 (1, 2))).alloc (.cells #[.int .u8 120] 5 (1, 2))).alloc (.cells #[.int .u8 97] 5 (1, 2))).alloc (.cells #[.slice (some ⟨w1.heap.size, 0, none⟩) 1 1, .int .u64 1, .int .u8 1, .slice (some ⟨w1.heap.size + 1, 0, none⟩) 1 1, .slice (some ⟨w1.heap.size + 1 + 1, 0, none⟩) 1 1, .int .u64 3, .int .u8 2, .slice none 0 0] 38) := ⟨_, rfl⟩
  rw [← hW]
  have bW : Below w1.heap.size w1 W := by rw [hW]; exact ((((Below.refl _ _).alloc (Nat.le_refl _) _).alloc (by simp) _).alloc (by simp; omega) _).alloc (by simp; omega) _
  have sW : w1.heap.size ≤ W.heap.size := bW.size
  have r1 : Rd W (some ⟨w1.heap.size, 0, none⟩) 1 [97] := by rw [hW]; exact (((Rd.cst7 w1 _ 1 [97] rfl _ rfl (1, 2) _ rfl).alloc _).alloc _).alloc _
  have r2 : Rd W (some ⟨w1.heap.size + 1, 0, none⟩) 1 [120] := by rw [hW]; exact ((Rd.cst7 _ _ 1 [120] rfl _ rfl (1, 2) _ (by simp)).alloc _).alloc _
  have r3 : Rd W (some ⟨w1.heap.size + 1 + 1, 0, none⟩) 1 [97] := by rw [hW]; exact (Rd.cst7 _ _ 1 [97] rfl _ rfl (1, 2) _ (by simp)).alloc _
  have rV : RdV W (some ⟨w1.heap.size + 1 + 1 + 1, 0, none⟩) 8 [.slice (some ⟨w1.heap.size, 0, none⟩) 1 1, .int .u64 1, .int .u8 1, .slice (some ⟨w1.heap.size + 1, 0, none⟩) 1 1, .slice (some ⟨w1.heap.size + 1 + 1, 0, none⟩) 1 1, .int .u64 3, .int .u8 2, .slice none 0 0] := by rw [hW]; exact (ownV_boxE _ _ 0 _ 8 rfl (by omega) (Nat.zero_le _) _ rfl _ (by simp)).rd
  have hev1 : EV W e71 (.slice (some ⟨w1.heap.size, 0, none⟩) 1 1) (.int .u64 1) (.int .u8 1) (.slice (some ⟨w1.heap.size + 1, 0, none⟩) 1 1) := ⟨rfl, rfl, by unfold e71 U64; simp, by unfold e71; simp, ⟨_, 1, 1, rfl, r1, by omega, fun h => by cases h⟩, ⟨_, 1, 1, rfl, r2, by omega, fun h => by cases h⟩⟩
  have hev2 : EV W e72 (.slice (some ⟨w1.heap.size + 1 + 1, 0, none⟩) 1 1) (.int .u64 3) (.int .u8 2) (.slice none 0 0) := ⟨rfl, rfl, by unfold e72 U64; simp, by unfold e72; simp, ⟨_, 1, 1, rfl, r3, by omega, fun h => by cases h⟩, ⟨_, 0, 0, rfl, Rd.nil _ _, by omega, fun _ => rfl⟩⟩
  have hes : REs W (some ⟨w1.heap.size + 1 + 1 + 1, 0, none⟩) 2 [e71, e72] := REs.mk (vs := [_, _, _, _] ++ [_, _, _, _]) (EVs.app (EVs.one hev1) (EVs.one hev2)) rV rfl
  have BW := Lib.hid (b1.trans (bW.mono s1))
  have HP : Hid (Calls Try.prog 19 #[.pointer (some ⟨w.heap.size, 0, none⟩), .slice (some ⟨w1.heap.size + 1 + 1 + 1, 0, none⟩) 2 2] W (RetPt pl3 (fun _ => True) W w.heap.size (putZ .nil [e71, e72]))) := Lib.hid (tabPut_any (ht.below bW) hes (by omega) (fun x hx => by
      simp only [List.mem_cons, List.not_mem_nil, or_false] at hx
      rcases hx with rfl | rfl <;> exact ⟨by simp [e71, e72], by simp [e71, e72]⟩) (by simp [Tr.num]) (by simp [Tr.sz, Tr.list, szL, wE, e71, e72]) (fun _ _ => trivial))
  rw [put7] at HP
  clear hW bW r1 r2 r3 rV hev1 hev2 hes ht b1 s1 sW
  with_reducible refine HP.out.mono ?_
  rintro e w2 ⟨rfl, ht2, g2⟩
  have b2 : Below w.heap.size w w2 := BW.out.grown g2 BW.out.size (fun k hk => by injection hk with hk; omega)
  have HT2 := Lib.hid ht2
  have B2 := Lib.hid b2
  have s2 := b2.size
  clear HP ht2 b2 g2
  go_wp2_with fail
  have HG : Hid (Calls Try.prog 25 #[.pointer (some ⟨w.heap.size, 0, none⟩), .slice (some ⟨w2.heap.size, 0, none⟩) 1 1, .int .u64 2] (w2.alloc (.cells #[.int .u8 97] 5 (1, 2))) (RetGt (w2.alloc (.cells #[.int .u8 97] 5 (1, 2))) (some e71))) := Lib.hid (by
    rw [← get7]
    exact tabGet_any (at_ := 2) (HT2.out.below ((Below.refl _ _).alloc (Nat.le_refl _) _)) (fun x hx => by
      simp only [t7, Tr.list, List.nil_append, List.cons_append, List.mem_cons, List.not_mem_nil, or_false] at hx
      rcases hx with rfl | rfl <;> exact ⟨by simp [e71, e72], by simp [e71, e72]⟩) (Rd.cst7 w2 _ 1 [97] rfl _ rfl (1, 2) _ rfl) (by omega) (fun h => by cases h) (by unfold U64; simp))
  have ba : Below w.heap.size w (w2.alloc (.cells #[.int .u8 97] 5 (1, 2))) := B2.out.alloc s2 _
  have ta : TB pl3 (fun _ => True) (w2.alloc (.cells #[.int .u8 97] 5 (1, 2))) w.heap.size t7 := HT2.out.below ((Below.refl _ _).alloc (Nat.le_refl _) _)
  obtain ⟨Wa, hWa⟩ : ∃ Wa, Wa = w2.alloc (.cells #[.int .u8 97] 5 (1, 2)) := ⟨_, rfl⟩
  rw [← hWa] at HG ba ta
  rw [← hWa]
  clear hWa
  with_reducible refine HG.out.mono ?_
  intro e w3 hq
  rcases hq with ⟨h, _⟩ | ⟨x, K, kn, kc', V, vn, vc, hx, rfl, _, _, b3, _⟩
  · cases h
  have hx : x = e71 := by injection hx with hx; exact hx.symm
  subst hx
  have B3 := Lib.hid (belowT ba b3)
  have T3 := Lib.hid (ta.below b3)
  have s3 := B3.out.size
  clear ba ta b3 HG
  go_upto_region 5 with (fail)
  obtain ⟨W4, hW4⟩ : ∃ W4, W4 = w3.alloc (.cells #[.slice K kn kc', .int .u64 (e71.seq : Int), .int .u8 (e71.kind : Int), .slice V vn vc] 38) := ⟨_, rfl⟩
  rw [← hW4]
  have b4 : Below w3.heap.size w3 W4 := by rw [hW4]; exact (Below.refl _ _).alloc (Nat.le_refl _) _
  have x4 : Cl W4 w3.heap.size #[.slice K kn kc', .int .u64 1, .int .u8 (e71.kind : Int), .slice V vn vc] 38 := by rw [hW4]; exact Cl.new _ _ _
  have HL : Hid (Calls Try.prog 22 #[.pointer (some ⟨w.heap.size, 0, none⟩)] W4 (RetNu W4 2)) := Lib.hid (len_any (T3.out.below b4))
  have HZ : Hid (∀ wx, Below W4.heap.size W4 wx → Calls Try.prog 23 #[.pointer (some ⟨w.heap.size, 0, none⟩)] wx (RetNu wx 3)) := Lib.hid (fun wx h => size_any ((T3.out.below b4).below h))
  have B4 := Lib.hid (belowT B3.out b4)
  obtain ⟨x0, x1, x2, x3, _⟩ := x4.c4
  clear hW4 b4 x4
  go_wp2_with fail
  with_reducible refine HL.out.mono ?_
  rintro e w5 ⟨rfl, b5⟩
  have B5 := Lib.hid (belowT B4.out b5)
  have HZ5 := Lib.hid (HZ.out w5 b5)
  clear b5 HL HZ
  go_wp2_with fail
  with_reducible refine HZ5.out.mono ?_
  rintro e w6 ⟨rfl, b6⟩
  have B6 := Lib.hid (belowT B5.out b6)
  clear b6 HZ5
  go_wp2
  go_ret
  exact ⟨rfl, B6.out⟩
end Go.Proofs.Ytheefpgokdejcaa
namespace Go.Proofs.Ytheefpgokdejcaa
open Go Go.RowKit

theorem firstT_find {x : En} : ∀ {t : Tr} {f : Option En}, SortL t.list → firstT x t f = (t.list.find? (fun e => !lessE e x)).or f
  | .nil, f, _ => by simp [firstT, Tr.list]
  | .node l e r, f, hs => by
    have hs' : SortL (l.list ++ e :: r.list) := hs
    obtain ⟨sl, sr, slr⟩ := List.pairwise_append.1 hs'
    obtain ⟨er, srr⟩ := List.pairwise_cons.1 sr
    unfold firstT
    rw [Tr.list, List.find?_append, List.find?_cons]
    split
    · next h =>
      have hn : l.list.find? (fun e => !lessE e x) = none := by
        rw [List.find?_eq_none]
        intro y hy
        rw [lessE_trans (slr y hy e (by simp)) h]
        simp
      rw [hn, h, firstT_find srr]
      rfl
    · next h =>
      have h' : lessE e x = false := by simpa using h
      rw [h', firstT_find sl]
      cases l.list.find? (fun e => !lessE e x) <;> rfl
/-- What the reference's Get finds. -/
def findL (key : List UInt8) (at_ : Nat) (l : List En) : Option En := l.find? (fun y => eqB y.key key && decide (y.seq ≤ at_))
theorem keyed_find {key : List UInt8} {at_ : Nat} : ∀ {l : List En}, SortL l → keyed key (l.find? (fun e => !lessE e ⟨key, at_, 0, []⟩)) = findL key at_ l
  | [], _ => rfl
  | y :: l, hs => by
    obtain ⟨hy, hl⟩ := List.pairwise_cons.1 hs
    unfold findL
    rw [List.find?_cons, List.find?_cons]
    cases h : lessE y ⟨key, at_, 0, []⟩ with
    | true =>
      have hno : (eqB y.key key && decide (y.seq ≤ at_)) = false := by
        rcases lessE_iff.1 h with q | ⟨_, q⟩
        · cases e : eqB y.key key with
          | false => rfl
          | true =>
            have e' : y.key = key := by simpa [eqB] using e
            simp only [e', cmpB_refl] at q
            omega
        · have : ¬ y.seq ≤ at_ := by simp only at q; omega
          simp [this]
      rw [hno]
      exact keyed_find hl
    | false =>
      show (if cmpB y.key key = 0 then some y else none) = _
      by_cases hk : cmpB y.key key = 0
      · have e' := cmpB_zero _ _ hk
        have hq : y.seq ≤ at_ := by
          apply Nat.le_of_not_lt
          intro q
          have : lessE y ⟨key, at_, 0, []⟩ = true := lessE_iff.2 (.inr ⟨e', q⟩)
          rw [h] at this
          cases this
        have hyes : (eqB y.key key && decide (y.seq ≤ at_)) = true := by simp [eqB, e', hq]
        rw [if_pos hk, hyes]
      · have hne : ∀ z : En, (z = y ∨ z ∈ l) → eqB z.key key = false := fun z hz => by
          cases e : eqB z.key key with
          | false => rfl
          | true =>
            have e' : z.key = key := by simpa [eqB] using e
            rcases hz with rfl | m
            · rw [e', cmpB_refl] at hk
              exact absurd rfl hk
            · rcases lessE_iff.1 (hy z m) with q | ⟨q, _⟩
              · rw [e'] at q
                have : lessE y ⟨key, at_, 0, []⟩ = true := lessE_iff.2 (.inl q)
                rw [h] at this
                cases this
              · rw [q, e', cmpB_refl] at hk
                exact absurd rfl hk
        rw [if_neg hk, hne y (.inl rfl)]
        symm
        simp only [Bool.false_and]
        rw [List.find?_eq_none]
        intro z hz
        rw [hne z (.inr hz)]
        simp
theorem tabGet_list {t : Tr} {key : List UInt8} {at_ : Nat} (hs : SortL t.list) : tabGet t key at_ = findL key at_ t.list := by
  unfold tabGet
  rw [firstT_find hs, Option.or_none, keyed_find hs]
end Go.Proofs.Ytheefpgokdejcaa
namespace Go.Proofs.Ytheefpgokdejcaa
open Go Go.RowKit

/-- The entries of a tree with keys from xs on and below ys. -/
def betw (xs ys : List UInt8) : Tr → List En
  | .nil => []
  | .node l e r => (if 0 ≤ cmpB e.key xs then betw xs ys l else []) ++ (if 0 ≤ cmpB e.key xs ∧ (ys.length = 0 ∨ cmpB e.key ys < 0) then [e] else []) ++ (if ys.length = 0 ∨ cmpB e.key ys < 0 then betw xs ys r else [])
theorem betw_num (xs ys : List UInt8) : ∀ t : Tr, (betw xs ys t).length ≤ t.num
  | .nil => Nat.le_refl _
  | .node l e r => by
    have h1 := betw_num xs ys l
    have h2 := betw_num xs ys r
    simp only [betw, Tr.num, List.length_append]
    split <;> split <;> split <;> simp <;> omega
def RetBt (W : World) (es : List En) (e : Ending) (w' : World) : Prop := ∃ L k d, e = .returned (.slice L k d) ∧ RowE W W.heap.size L k d es w'
theorem RetBt.out {W : World} {es : List En} {e : Ending} {w' : World} (h : RetBt W es e w') : ∃ L k d, e = .returned (.slice L k d) ∧ RowE W W.heap.size L k d es w' := h
set_option maxRecDepth 100000 in
set_option maxHeartbeats 8000000 in
theorem between_any {G : Nat → Prop} {W : World} {F T : Option Addr} {fn fc tn tc : Nat} {xs ys : List UInt8} (hf : Rd W F fn xs) (ht : Rd W T tn ys) : ∀ (t : Tr) (A : Option Addr), TrAt G W t A → (∀ e ∈ t.list, SzE e) → ∀ (es : List En) (L : Option Addr) (k d : Nat) (wr : World), RowE W W.heap.size L k d es wr → k + t.num ≤ 1099511627776 →
    Calls Try.prog 64 #[.pointer A, .slice L k d, .slice F fn fc, .slice T tn tc] wr (RetBt W (es ++ betw xs ys t)) := by
  intro t
  induction t with
  | nil =>
    intro A hA _ es L k d wr hrow hnum
    have hA' : A = none := hA
    subst hA'
    have HR := Lib.hid hrow
    clear hrow hA
    go_enter Try.func64, Try.ntmps64
    go_wp2
    go_ret
    exact ⟨L, k, d, rfl, by rw [betw, List.append_nil]; exact HR.out⟩
  | node l e r ihl ihr =>
    intro A hA hs es L k d wr hrow hnum
    obtain ⟨b, rfl⟩ := hA.ptr
    obtain ⟨pe, pl, pr, n0, n1, n2, nlt, he, hl, hr⟩ := hA.cells
    obtain ⟨z0, z1, z2, z3, cz, ez⟩ := he
    obtain ⟨K, kn, kc, V, vn, vc, rfl, rfl, rfl, rfl, r0, r3, _⟩ := ez.1.ev.parts
    have hsz : SzE e := hs e (by simp [Tr.list])
    have hnm : l.num + 1 + r.num = (Tr.node l e r).num := rfl
    have HIL := Lib.hid (ihl pl hl (fun x hx => hs x (by simp [Tr.list, hx])))
    have HIR := Lib.hid (ihr pr hr (fun x hx => hs x (by simp [Tr.list, hx])))
    have HR := Lib.hid hrow
    have HSX : Hid (∀ wx, Below W.heap.size W wx → wx.cell? ⟨b, 0, none⟩ = some (.pointer (some ⟨pe, 0, none⟩)) ∧ wx.cell? ⟨b, 1, none⟩ = some (.pointer pl) ∧ wx.cell? ⟨b, 2, none⟩ = some (.pointer pr) ∧ wx.cell? ⟨pe, 0, none⟩ = some (.slice K kn kc) ∧ wx.cell? ⟨pe, 1, none⟩ = some (.int .u64 (e.seq : Int)) ∧ wx.cell? ⟨pe, 2, none⟩ = some (.int .u8 (e.kind : Int)) ∧ wx.cell? ⟨pe, 3, none⟩ = some (.slice V vn vc)) := Lib.hid (fun wx h => by
      obtain ⟨d0, d1, d2, d3, _⟩ := (cz.below h).c4
      exact ⟨(h.cell (p := ⟨b, 0, none⟩) nlt).trans n0, (h.cell (p := ⟨b, 1, none⟩) nlt).trans n1, (h.cell (p := ⟨b, 2, none⟩) nlt).trans n2, d0, d1, d2, d3⟩)
    obtain ⟨y1, hy1⟩ : ∃ y, cmpB e.key xs = y := ⟨_, rfl⟩
    obtain ⟨y2, hy2⟩ : ∃ y, cmpB e.key ys = y := ⟨_, rfl⟩
    have HC1 : Hid (∀ wx, Below W.heap.size W wx → Calls Try.prog 63 #[.slice K kn kc, .slice F fn fc] wx fun e' w' => e' = .returned (.int .i64 y1) ∧ wx = w') := Lib.hid (fun wx h => Cmp_is K F kn fn kc fc e.key xs y1 hy1 wx (r0.below h) (hf.below h))
    have HC2 : Hid (∀ wx, Below W.heap.size W wx → Calls Try.prog 63 #[.slice K kn kc, .slice T tn tc] wx fun e' w' => e' = .returned (.int .i64 y2) ∧ wx = w') := Lib.hid (fun wx h => Cmp_is K T kn tn kc tc e.key ys y2 hy2 wx (r0.below h) (ht.below h))
    have HOW : Hid (∀ wx, Below W.heap.size W wx → Calls Try.prog 57 #[.agg #[.slice K kn kc, .int .u64 (e.seq : Int), .int .u8 (e.kind : Int), .slice V vn vc]] wx (RetEn wx e)) := Lib.hid (fun wx h => own_any (ez.1.ev.below h) hsz)
    have hBT : betw xs ys (.node l e r) = (if 0 ≤ y1 then betw xs ys l else []) ++ (if 0 ≤ y1 ∧ (tn = 0 ∨ y2 < 0) then [e] else []) ++ (if tn = 0 ∨ y2 < 0 then betw xs ys r else []) := by rw [betw, hy1, hy2, ht.len]
    have HBT := Lib.hid hBT
    have HWF : Hid (U64 e.seq ∧ e.kind < 256) := Lib.hid ⟨ez.1.ev.2.2.1, ez.1.ev.2.2.2.1⟩
    have HBL := Lib.hid (betw_num xs ys l)
    have BW := Lib.hid (RowE.bel hrow)
    obtain ⟨e0, e1, e2, e3, e4, e5, e6⟩ := HSX.out wr BW.out
    have C1 := Lib.hid (HC1.out wr BW.out)
    have C2 := Lib.hid (HC2.out wr BW.out)
    clear ihl ihr hA n0 n1 n2 cz ez r0 r3 hl hr hy1 hy2 hBT hrow hs HC1 HC2
    go_enter Try.func64, Try.ntmps64
    by_cases hb : 0 ≤ y1
    · have tb : decide (0 ≤ y1) = true := by simpa using hb
      by_cases h0 : tn = 0
      · subst h0
        have HA : Hid ((0 : Nat) = 0 ∨ y2 < 0) := Lib.hid (.inl rfl)
        go_wp2_with fail
        with_reducible refine C1.out.mono ?_
        rintro e' w1 ⟨rfl, rfl⟩
        go_wp2_with fail
        with_reducible refine (HIL.out es L k d wr HR.out (by omega)).mono ?_
        intro e' w2 hq
        obtain ⟨L2, k2, d2, h1, hrow2⟩ := RetBt.out hq
        subst h1
        have HR2 := Lib.hid hrow2
        have hk2 : k2 ≤ k + l.num := by have q1 := RowE.len hrow2; have q2 := RowE.len HR.out; have q3 := HBL.out; rw [List.length_append] at q1; omega
        have BW2 := Lib.hid (RowE.bel hrow2)
        clear e0 e1 e2 e3 e4 e5 e6 hq hrow2
        obtain ⟨e0, e1, e2, e3, e4, e5, e6⟩ := HSX.out w2 BW2.out
        go_wp2_with fail
        with_reducible refine (HOW.out w2 BW2.out).mono ?_
        intro e' w3 hq
        obtain ⟨K3, kn3, kc3, V3, vn3, vc3, h1, o1, o2, b3, dj⟩ := hq
        subst h1
        obtain ⟨vs, q1, q2, q3, q4, q5, q6, q7⟩ := HR2.out
        have HFM := Lib.hid (fam_two o1 o2 dj)
        have Q7 := Lib.hid q7
        have s3 := b3.size
        have HEO : Hid (EO W.heap.size w3 e (.slice K3 kn3 kc3) (.int .u64 (e.seq : Int)) (.int .u8 (e.kind : Int)) (.slice V3 vn3 vc3)) := Lib.hid ⟨K3, kn3, kc3, V3, vn3, vc3, rfl, rfl, rfl, rfl, o1.mono q6, o2.mono q6, HWF.out⟩
        have HOF : Hid (OffW [.slice K3 kn3 kc3, .int .u64 (e.seq : Int), .int .u8 (e.kind : Int), .slice V3 vn3 vc3] (blk L2)) := Lib.hid (EO.off (base := w2.heap.size) (w := w3) (e := e) ⟨K3, kn3, kc3, V3, vn3, vc3, rfl, rfl, rfl, rfl, o1, o2, HWF.out⟩ (fun g hg => .inl (q1.lt g hg).2))
        have HB3 := Lib.hid b3
        have Q1 := Lib.hid q1
        have Q2 := Lib.hid q2
        have Q3 := Lib.hid q3
        have Q4 := Lib.hid q4
        have Q5 := Lib.hid q5
        have hcell : ∀ u ∈ [Value.slice K3 kn3 kc3, .int .u64 (e.seq : Int), .int .u8 (e.kind : Int), .slice V3 vn3 vc3], u.oneCell' = true := HEO.out.ev.cells
        have HCL := Lib.hid hcell
        clear o1 o2 b3 dj q1 q2 q3 q4 q5 q7 hcell e0 e1 e2 e3 e4 e5 e6
        go_wp2_with (at_builtin; refine wpList_app4t w3 rfl _ _ 27 rfl W.heap.size _ 64 Try.underlying27 info_ent rfl L2 k2 d2 vs rfl (Q1.out.below HB3.out) _ _ _ _ HCL.out w3.heap.size rfl rfl ?_ ?_ ?_ ?_)
        · omega
        · omega
        · omega
        intro L4 d4 w4 hG4 hg4 hb4
        have HR4 : Hid (RowE W W.heap.size L4 (k2 + 1) d4 (es ++ betw xs ys l ++ [e]) w4) := Lib.hid (rowE_snoc Q1.out Q2.out Q3.out Q4.out Q5.out q6 Q7.out HB3.out HEO.out HOF.out HFM.out hG4 hg4 hb4)
        have BW4 := Lib.hid (RowE.bel HR4.out)
        clear hG4 hg4 hb4
        obtain ⟨e0, e1, e2, e3, e4, e5, e6⟩ := HSX.out w4 BW4.out
        go_wp2_with fail
        with_reducible refine (HIR.out (es ++ betw xs ys l ++ [e]) L4 (k2 + 1) d4 w4 HR4.out (by omega)).mono ?_
        intro e' w5 hq
        obtain ⟨L5, k5, d5, h1, hrow5⟩ := RetBt.out hq
        subst h1
        have HR5 := Lib.hid hrow5
        clear e0 e1 e2 e3 e4 e5 e6 hq hrow5
        go_wp2
        go_ret
        exact ⟨L5, k5, d5, rfl, by rw [HBT.out, if_pos hb, if_pos ⟨hb, HA.out⟩, if_pos HA.out]; simpa using HR5.out⟩
      · have t0 : ((tn : Int) == 0) = false := by simp; omega
        by_cases h2 : y2 < 0
        · have HA : Hid (tn = 0 ∨ y2 < 0) := Lib.hid (.inr h2)
          have t2 : decide (y2 < 0) = true := by simpa using h2
          go_wp2_with fail
          with_reducible refine C1.out.mono ?_
          rintro e' w1 ⟨rfl, rfl⟩
          go_wp2_with fail
          with_reducible refine C2.out.mono ?_
          rintro e' w1 ⟨rfl, rfl⟩
          go_wp2_with fail
          with_reducible refine (HIL.out es L k d wr HR.out (by omega)).mono ?_
          intro e' w2 hq
          obtain ⟨L2, k2, d2, h1, hrow2⟩ := RetBt.out hq
          subst h1
          have HR2 := Lib.hid hrow2
          have hk2 : k2 ≤ k + l.num := by have q1 := RowE.len hrow2; have q2 := RowE.len HR.out; have q3 := HBL.out; rw [List.length_append] at q1; omega
          have BW2 := Lib.hid (RowE.bel hrow2)
          clear e0 e1 e2 e3 e4 e5 e6 hq hrow2
          obtain ⟨e0, e1, e2, e3, e4, e5, e6⟩ := HSX.out w2 BW2.out
          go_wp2_with fail
          with_reducible refine (HOW.out w2 BW2.out).mono ?_
          intro e' w3 hq
          obtain ⟨K3, kn3, kc3, V3, vn3, vc3, h1, o1, o2, b3, dj⟩ := hq
          subst h1
          obtain ⟨vs, q1, q2, q3, q4, q5, q6, q7⟩ := HR2.out
          have HFM := Lib.hid (fam_two o1 o2 dj)
          have Q7 := Lib.hid q7
          have s3 := b3.size
          have HEO : Hid (EO W.heap.size w3 e (.slice K3 kn3 kc3) (.int .u64 (e.seq : Int)) (.int .u8 (e.kind : Int)) (.slice V3 vn3 vc3)) := Lib.hid ⟨K3, kn3, kc3, V3, vn3, vc3, rfl, rfl, rfl, rfl, o1.mono q6, o2.mono q6, HWF.out⟩
          have HOF : Hid (OffW [.slice K3 kn3 kc3, .int .u64 (e.seq : Int), .int .u8 (e.kind : Int), .slice V3 vn3 vc3] (blk L2)) := Lib.hid (EO.off (base := w2.heap.size) (w := w3) (e := e) ⟨K3, kn3, kc3, V3, vn3, vc3, rfl, rfl, rfl, rfl, o1, o2, HWF.out⟩ (fun g hg => .inl (q1.lt g hg).2))
          have HB3 := Lib.hid b3
          have Q1 := Lib.hid q1
          have Q2 := Lib.hid q2
          have Q3 := Lib.hid q3
          have Q4 := Lib.hid q4
          have Q5 := Lib.hid q5
          have hcell : ∀ u ∈ [Value.slice K3 kn3 kc3, .int .u64 (e.seq : Int), .int .u8 (e.kind : Int), .slice V3 vn3 vc3], u.oneCell' = true := HEO.out.ev.cells
          have HCL := Lib.hid hcell
          clear o1 o2 b3 dj q1 q2 q3 q4 q5 q7 hcell e0 e1 e2 e3 e4 e5 e6
          go_wp2_with (at_builtin; refine wpList_app4t w3 rfl _ _ 27 rfl W.heap.size _ 64 Try.underlying27 info_ent rfl L2 k2 d2 vs rfl (Q1.out.below HB3.out) _ _ _ _ HCL.out w3.heap.size rfl rfl ?_ ?_ ?_ ?_)
          · omega
          · omega
          · omega
          intro L4 d4 w4 hG4 hg4 hb4
          have HR4 : Hid (RowE W W.heap.size L4 (k2 + 1) d4 (es ++ betw xs ys l ++ [e]) w4) := Lib.hid (rowE_snoc Q1.out Q2.out Q3.out Q4.out Q5.out q6 Q7.out HB3.out HEO.out HOF.out HFM.out hG4 hg4 hb4)
          have BW4 := Lib.hid (RowE.bel HR4.out)
          clear hG4 hg4 hb4
          obtain ⟨e0, e1, e2, e3, e4, e5, e6⟩ := HSX.out w4 BW4.out
          go_wp2_with fail
          with_reducible refine (HIR.out (es ++ betw xs ys l ++ [e]) L4 (k2 + 1) d4 w4 HR4.out (by omega)).mono ?_
          intro e' w5 hq
          obtain ⟨L5, k5, d5, h1, hrow5⟩ := RetBt.out hq
          subst h1
          have HR5 := Lib.hid hrow5
          clear e0 e1 e2 e3 e4 e5 e6 hq hrow5
          go_wp2
          go_ret
          exact ⟨L5, k5, d5, rfl, by rw [HBT.out, if_pos hb, if_pos ⟨hb, HA.out⟩, if_pos HA.out]; simpa using HR5.out⟩
        · have HA : Hid (¬ (tn = 0 ∨ y2 < 0)) := Lib.hid (fun h => h.elim h0 h2)
          have t2 : decide (y2 < 0) = false := by simpa using h2
          go_wp2_with fail
          with_reducible refine C1.out.mono ?_
          rintro e' w1 ⟨rfl, rfl⟩
          go_wp2_with fail
          with_reducible refine C2.out.mono ?_
          rintro e' w1 ⟨rfl, rfl⟩
          go_wp2_with fail
          with_reducible refine (HIL.out es L k d wr HR.out (by omega)).mono ?_
          intro e' w2 hq
          obtain ⟨L2, k2, d2, h1, hrow2⟩ := RetBt.out hq
          subst h1
          have HR2 := Lib.hid hrow2
          have hk2 : k2 ≤ k + l.num := by have q1 := RowE.len hrow2; have q2 := RowE.len HR.out; have q3 := HBL.out; rw [List.length_append] at q1; omega
          have BW2 := Lib.hid (RowE.bel hrow2)
          clear e0 e1 e2 e3 e4 e5 e6 hq hrow2
          obtain ⟨e0, e1, e2, e3, e4, e5, e6⟩ := HSX.out w2 BW2.out
          go_wp2
          go_ret
          exact ⟨L2, k2, d2, rfl, by rw [HBT.out, if_pos hb, if_neg (fun h => HA.out h.2), if_neg HA.out]; simpa using HR2.out⟩
    · have tb : decide (0 ≤ y1) = false := by simpa using hb
      have HNB : Hid (¬ 0 ≤ y1) := Lib.hid hb
      by_cases h0 : tn = 0
      · subst h0
        have HA : Hid ((0 : Nat) = 0 ∨ y2 < 0) := Lib.hid (.inl rfl)
        go_wp2_with fail
        with_reducible refine C1.out.mono ?_
        rintro e' w1 ⟨rfl, rfl⟩
        go_wp2_with fail
        with_reducible refine (HIR.out es L k d wr HR.out (by omega)).mono ?_
        intro e' w5 hq
        obtain ⟨L5, k5, d5, h1, hrow5⟩ := RetBt.out hq
        subst h1
        have HR5 := Lib.hid hrow5
        clear e0 e1 e2 e3 e4 e5 e6 hq hrow5
        go_wp2
        go_ret
        exact ⟨L5, k5, d5, rfl, by rw [HBT.out, if_neg (show ¬ 0 ≤ y1 by have := HNB.out; omega), if_neg (fun h => by have := HNB.out; have := h.1; omega), if_pos HA.out]; simpa using HR5.out⟩
      · have t0 : ((tn : Int) == 0) = false := by simp; omega
        by_cases h2 : y2 < 0
        · have HA : Hid (tn = 0 ∨ y2 < 0) := Lib.hid (.inr h2)
          have t2 : decide (y2 < 0) = true := by simpa using h2
          go_wp2_with fail
          with_reducible refine C1.out.mono ?_
          rintro e' w1 ⟨rfl, rfl⟩
          go_wp2_with fail
          with_reducible refine C2.out.mono ?_
          rintro e' w1 ⟨rfl, rfl⟩
          go_wp2_with fail
          with_reducible refine (HIR.out es L k d wr HR.out (by omega)).mono ?_
          intro e' w5 hq
          obtain ⟨L5, k5, d5, h1, hrow5⟩ := RetBt.out hq
          subst h1
          have HR5 := Lib.hid hrow5
          clear e0 e1 e2 e3 e4 e5 e6 hq hrow5
          go_wp2
          go_ret
          exact ⟨L5, k5, d5, rfl, by rw [HBT.out, if_neg (show ¬ 0 ≤ y1 by have := HNB.out; omega), if_neg (fun h => by have := HNB.out; have := h.1; omega), if_pos HA.out]; simpa using HR5.out⟩
        · have HA : Hid (¬ (tn = 0 ∨ y2 < 0)) := Lib.hid (fun h => h.elim h0 h2)
          have t2 : decide (y2 < 0) = false := by simpa using h2
          go_wp2_with fail
          with_reducible refine C1.out.mono ?_
          rintro e' w1 ⟨rfl, rfl⟩
          go_wp2_with fail
          with_reducible refine C2.out.mono ?_
          rintro e' w1 ⟨rfl, rfl⟩
          go_wp2
          go_ret
          exact ⟨L, k, d, rfl, by rw [HBT.out, if_neg (show ¬ 0 ≤ y1 by have := HNB.out; omega), if_neg (fun h => by have := HNB.out; have := h.1; omega), if_neg HA.out]; simpa using HR.out⟩
end Go.Proofs.Ytheefpgokdejcaa
namespace Go.Proofs.Ytheefpgokdejcaa
open Go Go.RowKit

/-- What the reference's Get answers: an entry's values as they lie in the list. -/
def RetGl (w : World) (o : Option En) (e : Ending) (w' : World) : Prop :=
  (o = none ∧ e = .returned (.tuple #[.agg #[.slice none 0 0, .int .u64 0, .int .u8 0, .slice none 0 0], .bool false]) ∧ Below w.heap.size w w') ∨
  ∃ x v0 v1 v2 v3, o = some x ∧ e = .returned (.tuple #[.agg #[v0, v1, v2, v3], .bool true]) ∧ EV w' x v0 v1 v2 v3 ∧ Below w.heap.size w w'
theorem findL_at {key : List UInt8} {at_ k : Nat} {es : List En} {x : En} (h : findL key at_ (es.take k) = none) (hx : es[k]? = some x) (hk : (eqB x.key key && decide (x.seq ≤ at_)) = true) : findL key at_ es = some x := by
  have hlt := (List.getElem?_eq_some_iff.1 hx).1
  have e : es = es.take k ++ x :: es.drop (k + 1) := by
    have hd : es.drop k = x :: es.drop (k + 1) := by rw [List.drop_eq_getElem_cons hlt, (List.getElem?_eq_some_iff.1 hx).2]
    rw [← hd, List.take_append_drop]
  unfold findL at h ⊢
  rw [e, List.find?_append, h, List.find?_cons, hk]
  rfl
theorem findL_snoc {key : List UInt8} {at_ k : Nat} {es : List En} {x : En} (h : findL key at_ (es.take k) = none) (hx : es[k]? = some x) (hk : (eqB x.key key && decide (x.seq ≤ at_)) = false) : findL key at_ (es.take (k + 1)) = none := by
  unfold findL at h ⊢
  rw [List.take_add_one, hx, List.find?_append, h]
  simp only [Option.toList, List.find?_cons, hk]
  rfl
set_option maxRecDepth 100000 in
set_option maxHeartbeats 4000000 in
theorem refGet_any {w : World} {A F : Option Addr} {n c fn fc at_ : Nat} {es : List En} {key : List UInt8} (h : REs w A n es) (hn : n ≤ 1099511627776) (hs : ∀ x ∈ es, SzE x) (hf : Rd w F fn key) (hfn : fn ≤ maxLen) :
    Calls Try.prog 27 #[.slice A n c, .slice F fn fc, .int .u64 (at_ : Int)] w (RetGl w (findL key at_ es)) := by
  obtain ⟨U, hU⟩ : ∃ U, U = w.alloc (.cells #[.slice none 0 0, .int .u64 0, .int .u8 0, .slice none 0 0] 38) := ⟨_, rfl⟩
  have bU : Below w.heap.size w U := by rw [hU]; exact (Below.refl _ _).alloc (Nat.le_refl _) _
  have ZU := Lib.hid (show Cl U w.heap.size #[.slice none 0 0, .int .u64 0, .int .u8 0, .slice none 0 0] 38 by rw [hU]; exact Cl.new _ _ _)
  have H1 := Lib.hid h
  have HF := Lib.hid (hf.below bU)
  have HLN := Lib.hid h.len
  have HS := Lib.hid hs
  have BU := Lib.hid bU
  clear h hs hf bU
  go_enter Try.func27, Try.ntmps27
  go_upto_region 1 with (fail)
  rw [← hU]
  clear hU
  go_wp2_with fail
  go_loopw [8] (fun s8 wr => ∃ k q : Nat, k ≤ n ∧ s8 = .int .i64 (k : Int) ∧ findL key at_ (es.take k) = none ∧ wr = U.drewN q) (fun s _ => n - (intOf s).toNat)
  case atStart => exact ⟨0, 0, Nat.zero_le _, rfl, rfl, rfl⟩
  case round =>
    obtain ⟨k, q, hk', rfl, hin, hX⟩ := hrel
    have hBr : Below U.heap.size U wr := by rw [hX]; exact below_drewN (Below.refl _ _) q
    have HBr := Lib.hid hBr
    have HX := Lib.hid hX
    have HIN := Lib.hid hin
    have HFR := Lib.hid (HF.out.below hBr)
    have ZR := Lib.hid (ZU.out.below hBr)
    have BWr := Lib.hid (belowT' BU.out hBr)
    have hR := H1.out.below BWr.out
    clear hX hin hBr
    by_cases hlt : k < n
    · obtain ⟨b, off, hAb, hbw⟩ := H1.out.pos (by omega)
      subst hAb
      obtain ⟨x, u0, u1, u2, u3, hx, c0', c1', c2', c3', hew⟩ := H1.out.at_ k hlt
      have hbl : b < wr.heap.size := Nat.lt_of_lt_of_le hbw BWr.out.size
      have c0 := (BWr.out.cell hbw).trans c0'
      have c1 := (BWr.out.cell hbw).trans c1'
      have c2 := (BWr.out.cell hbw).trans c2'
      have c3 := (BWr.out.cell hbw).trans c3'
      have hev := hew.below BWr.out
      obtain ⟨L, ln, lc, M, mn, mc, rfl, rfl, rfl, rfl, q0, _⟩ := hev.parts
      have hsx := HS.out x (List.mem_of_getElem? hx)
      have hln : ln ≤ maxLen := maxLen_e (by rw [← q0.len]; exact hsx.1)
      have HXK := Lib.hid hx
      have HEV := Lib.hid hew
      obtain ⟨z, hz⟩ : ∃ z, z = eqB x.key key := ⟨_, rfl⟩
      have HE : Hid (Calls Try.prog 43 #[.slice L ln lc, .slice F fn fc] wr (RetB wr z)) := Lib.hid (by rw [hz]; exact Equal_any _ _ _ _ _ _ x.key key _ q0 HFR.out hln hfn)
      have HSK : Hid ((eqB x.key key && decide (x.seq ≤ at_)) = (z && decide (x.seq ≤ at_))) := Lib.hid (by rw [hz])
      clear hR hx hev hew q0 hz c0' c1' c2' c3'
      cases z with
      | true =>
        by_cases hle : x.seq ≤ at_
        · have HFD : Hid (findL key at_ es = some x) := Lib.hid (findL_at HIN.out HXK.out (by rw [HSK.out]; simpa using hle))
          go_wp2_with fail
          with_reducible refine HE.out.mono ?_
          rintro e w1 ⟨rfl, q1, rfl⟩
          have b1 : Below wr.heap.size wr (wr.drewN q1) := below_drewN (Below.refl _ _) q1
          obtain ⟨w2, hw2⟩ : ∃ w2, w2 = wr.drewN q1 := ⟨_, rfl⟩
          rw [← hw2] at b1 ⊢
          have B2 := Lib.hid (belowT' BWr.out b1)
          have Z2 := Lib.hid (ZR.out.below b1)
          have d0 := (b1.cell hbl).trans c0
          have d1 := (b1.cell hbl).trans c1
          have d2 := (b1.cell hbl).trans c2
          have d3 := (b1.cell hbl).trans c3
          obtain ⟨g0, g1, g2, g3, k0, k1, k2, k3⟩ := Z2.out.c4
          clear c0 c1 c2 c3 b1 hw2
          go_wp2_with fail
          obtain ⟨X, hX⟩ : ∃ X, X = ((((w2.setCell ⟨w.heap.size, 0, none⟩ (.slice L ln lc)).setCell ⟨w.heap.size, 1, none⟩ (.int .u64 (x.seq : Int))).setCell ⟨w.heap.size, 2, none⟩ (.int .u8 (x.kind : Int))).setCell ⟨w.heap.size, 3, none⟩ (.slice M mn mc)) := ⟨_, rfl⟩
          rw [← hX]
          have zX : Cl X w.heap.size #[.slice L ln lc, .int .u64 (x.seq : Int), .int .u8 (x.kind : Int), .slice M mn mc] 38 := by rw [hX]; exact Z2.out.put4 rfl _ _ _ _
          have bX : Below w.heap.size w X := by rw [hX]; exact below_set (below_set (below_set (below_set B2.out 0 _ (Nat.le_refl _)) 1 _ (Nat.le_refl _)) 2 _ (Nat.le_refl _)) 3 _ (Nat.le_refl _)
          have EVX : EV X x (.slice L ln lc) (.int .u64 (x.seq : Int)) (.int .u8 (x.kind : Int)) (.slice M mn mc) := HEV.out.below bX
          obtain ⟨x0, x1, x2, x3, _⟩ := zX.c4
          refine bodyPost_ret (v := .tuple #[.agg #[.slice L ln lc, .int .u64 (x.seq : Int), .int .u8 (x.kind : Int), .slice M mn mc], .bool true]) (by simp [results, Try.results27, go_sem, x0, x1, x2, x3]; try rfl) rfl (.inr ⟨x, _, _, _, _, HFD.out, rfl, EVX, bX⟩)
        · have HNX : Hid (findL key at_ (es.take (k + 1)) = none) := Lib.hid (findL_snoc HIN.out HXK.out (by rw [HSK.out]; simpa using hle))
          have BN : Hid (∀ q1, wr.drewN q1 = U.drewN (q + q1)) := Lib.hid (fun q1 => by rw [HX.out, World.drewN_drewN])
          go_wp2_with fail
          with_reducible refine HE.out.mono ?_
          rintro e w1 ⟨rfl, q1, rfl⟩
          go_wp2_with fail
          go_roundw
          case rel => exact ⟨k + 1, q + q1, by omega, by go_num, HNX.out, BN.out q1⟩
          case measure => simp [intOf]; omega
      | false =>
        have HNX : Hid (findL key at_ (es.take (k + 1)) = none) := Lib.hid (findL_snoc HIN.out HXK.out (by rw [HSK.out]; rfl))
        have BN : Hid (∀ q1, wr.drewN q1 = U.drewN (q + q1)) := Lib.hid (fun q1 => by rw [HX.out, World.drewN_drewN])
        go_wp2_with fail
        with_reducible refine HE.out.mono ?_
        rintro e w1 ⟨rfl, q1, rfl⟩
        go_wp2_with fail
        go_roundw
        case rel => exact ⟨k + 1, q + q1, by omega, by go_num, HNX.out, BN.out q1⟩
        case measure => simp [intOf]; omega
    · have htk : es.take k = es := List.take_of_length_le (by have := HLN.out; omega)
      have HFD : Hid (findL key at_ es = none) := Lib.hid (by rw [← htk]; exact HIN.out)
      obtain ⟨g0, g1, g2, g3, k0, k1, k2, k3⟩ := ZR.out.c4
      clear htk hR
      go_wp2_with fail
      obtain ⟨X, hX⟩ : ∃ X, X = ((((wr.setCell ⟨w.heap.size, 0, none⟩ (.slice none 0 0)).setCell ⟨w.heap.size, 1, none⟩ (.int .u64 0)).setCell ⟨w.heap.size, 2, none⟩ (.int .u8 0)).setCell ⟨w.heap.size, 3, none⟩ (.slice none 0 0)) := ⟨_, rfl⟩
      rw [← hX]
      have zX : Cl X w.heap.size #[.slice none 0 0, .int .u64 0, .int .u8 0, .slice none 0 0] 38 := by rw [hX]; exact ZR.out.put4 rfl _ _ _ _
      have bX : Below w.heap.size w X := by rw [hX]; exact below_set (below_set (below_set (below_set BWr.out 0 _ (Nat.le_refl _)) 1 _ (Nat.le_refl _)) 2 _ (Nat.le_refl _)) 3 _ (Nat.le_refl _)
      obtain ⟨x0, x1, x2, x3, _⟩ := zX.c4
      refine bodyPost_ret (v := .tuple #[.agg #[.slice none 0 0, .int .u64 0, .int .u8 0, .slice none 0 0], .bool false]) (by simp [results, Try.results27, go_sem, x0, x1, x2, x3]; try rfl) rfl (.inl ⟨HFD.out, rfl, bX⟩)
end Go.Proofs.Ytheefpgokdejcaa
namespace Go.Proofs.Ytheefpgokdejcaa
open Go Go.RowKit

def inR (xs ys : List UInt8) (e : En) : Bool := decide (0 ≤ cmpB e.key xs) && decide (ys.length = 0 ∨ cmpB e.key ys < 0)
theorem less_key {a b : En} {zs : List UInt8} (h : lessE a b = true) (k : cmpB b.key zs < 0) : cmpB a.key zs < 0 := by
  rcases lessE_iff.1 h with q | ⟨q, _⟩
  · exact cmpB_trans q k
  · rw [q]; exact k
theorem betw_list (xs ys : List UInt8) : ∀ {t : Tr}, SortL t.list → betw xs ys t = t.list.filter (inR xs ys)
  | .nil, _ => rfl
  | .node l e r, hs => by
    have hs' : SortL (l.list ++ e :: r.list) := hs
    obtain ⟨sl, sr, slr⟩ := List.pairwise_append.1 hs'
    obtain ⟨er, srr⟩ := List.pairwise_cons.1 sr
    rw [betw, Tr.list, List.filter_append, List.filter_cons, betw_list xs ys sl, betw_list xs ys srr]
    have hl : ¬ 0 ≤ cmpB e.key xs → l.list.filter (inR xs ys) = [] := fun h => by
      rw [List.filter_eq_nil_iff]
      intro y hy k
      have hk : cmpB y.key xs < 0 := less_key (slr y hy e (by simp)) (by omega)
      unfold inR at k
      simp at k
      omega
    have hr : ¬ (ys.length = 0 ∨ cmpB e.key ys < 0) → r.list.filter (inR xs ys) = [] := fun h => by
      rw [List.filter_eq_nil_iff]
      intro y hy k
      unfold inR at k
      rw [Bool.and_eq_true, decide_eq_true_eq, decide_eq_true_eq] at k
      rcases k.2 with q | q
      · exact h (.inl q)
      · exact h (.inr (less_key (er y hy) q))
    by_cases h1 : 0 ≤ cmpB e.key xs
    · by_cases h2 : ys.length = 0 ∨ cmpB e.key ys < 0
      · rw [if_pos h1, if_pos ⟨h1, h2⟩, if_pos h2, if_pos (by unfold inR; rw [decide_eq_true h1, decide_eq_true h2]; rfl)]
        simp
      · rw [if_pos h1, if_neg (fun h => h2 h.2), if_neg h2, if_neg (by unfold inR; rw [decide_eq_false h2]; simp), hr h2]
        simp
    · by_cases h2 : ys.length = 0 ∨ cmpB e.key ys < 0
      · rw [if_neg h1, if_neg (fun h => h1 h.1), if_pos h2, if_neg (by unfold inR; rw [decide_eq_false h1]; simp), hl h1]
        simp
      · rw [if_neg h1, if_neg (fun h => h1 h.1), if_neg h2, if_neg (by unfold inR; rw [decide_eq_false h1]; simp), hl h1, hr h2]
        simp
end Go.Proofs.Ytheefpgokdejcaa
namespace Go.Proofs.Ytheefpgokdejcaa
open Go Go.RowKit

set_option maxRecDepth 100000 in
set_option maxHeartbeats 4000000 in
theorem range_any {d : TypeId × List Value} {G : Nat → Prop} {w : World} {p : Nat} {t : Tr} {F T : Option Addr} {fn fc tn tc : Nat} {xs ys : List UInt8} (h : TB d G w p t) (hf : Rd w F fn xs) (ht : Rd w T tn ys) (hs : ∀ e ∈ t.list, SzE e) (hn : t.num ≤ 1099511627776) :
    Calls Try.prog 30 #[.pointer (some ⟨p, 0, none⟩), .slice F fn fc, .slice T tn tc] w (RetBt w (betw xs ys t)) := by
  obtain ⟨A, h1, h2, _⟩ := h
  obtain ⟨c0, c1, c2, _⟩ := h1.ct
  have HB : Hid (Calls Try.prog 64 #[.pointer A, .slice none 0 0, .slice F fn fc, .slice T tn tc] w (RetBt w (betw xs ys t))) := Lib.hid (by
    have := between_any (fc := fc) (tc := tc) hf ht t A h2 hs [] none 0 0 w (RowE.zero _ _ (Nat.le_refl _)) (by omega)
    simpa using this)
  clear h1 h2 hf ht hs
  go_enter Try.func30, Try.ntmps30
  go_wp2_with fail
  with_reducible refine HB.out.mono ?_
  intro e w2 hq
  obtain ⟨L, k, d, h1, hrow⟩ := RetBt.out hq
  subst h1
  have HR := Lib.hid hrow
  clear hq hrow HB
  go_wp2
  go_ret
  exact ⟨L, k, d, rfl, HR.out⟩
set_option maxRecDepth 100000 in
set_option maxHeartbeats 4000000 in
theorem refSize_any {w : World} {A : Option Addr} {n c : Nat} {es : List En} (h : REs w A n es) (hn : n ≤ 1099511627776) (hz : szL es ≤ 1099511627776) : Calls Try.prog 24 #[.slice A n c] w (RetNu w (szL es : Int)) := by
  have HL := Lib.hid h.len
  go_enter Try.func24, Try.ntmps24
  go_wp2
  go_loopw [3, 4] (fun s3 s4 wr => ∃ k q : Nat, k ≤ n ∧ s4 = .int .i64 (k : Int) ∧ s3 = .int .i64 (szL (es.take k) : Int) ∧ wr = w.drewN q) (fun _ s _ => n - (intOf s).toNat)
  case atStart => exact ⟨0, 0, Nat.zero_le _, rfl, rfl, rfl⟩
  case round =>
    obtain ⟨k, q, hk, rfl, rfl, hX⟩ := hrel
    have hR : REs wr A n es := by rw [hX]; exact h.drewN q
    have HX := Lib.hid hX
    have hst := szL_take es k
    have hst1 := szL_take es (k + 1)
    clear hX
    by_cases hlt : k < n
    · obtain ⟨b, off, rfl, hbl⟩ := hR.pos (by omega)
      obtain ⟨x, v0, v1, v2, v3, hx, m0, m1, m2, m3, hev⟩ := hR.at_ k hlt
      obtain ⟨K, kn, kc, V, vn, vc, rfl, rfl, rfl, rfl, r0, r3, _⟩ := hev.parts
      have hsn := szL_snoc hx
      have hwx : wE x = kn + vn := by unfold wE; rw [r0.len, r3.len]
      have HSN : Hid (szL (es.take (k + 1)) = szL (es.take k) + kn + vn) := Lib.hid (by omega)
      have E4 : Hid (wrap64 ((szL (es.take k) : Int) + (kn : Int)) = (szL (es.take k) : Int) + (kn : Int)) := Lib.hid (IntWalk.wrap64_in _ (by omega))
      have E5 : Hid (wrap64 ((szL (es.take k) : Int) + (kn : Int) + (vn : Int)) = (szL (es.take k) : Int) + (kn : Int) + (vn : Int)) := Lib.hid (IntWalk.wrap64_in _ (by omega))
      clear hx hev hR r0 r3 hsn hwx
      go_wp2
      go_quiet (fail)
      have BN : Hid (wr.drewN nq = w.drewN (q + nq)) := Lib.hid (by rw [HX.out, World.drewN_drewN])
      clear m0 m1 m2 m3
      go_wp2
      go_roundw
      case rel => exact ⟨k + 1, q + nq, by omega, by go_num, by simp [E4.out, E5.out, HSN.out], BN.out⟩
      case measure => simp [intOf]; omega
    · have htk := take_all HL.out hlt
      have HTK := Lib.hid htk
      clear htk hR hst hst1
      go_wp2
      go_ret
      exact ⟨by first | rfl | (rw [HTK.out]; rfl) | (rw [← HTK.out]; rfl), by rw [HX.out]; exact below_drewN (Below.refl _ _) q⟩
end Go.Proofs.Ytheefpgokdejcaa
namespace Go.Proofs.Ytheefpgokdejcaa
open Go Go.RowKit

/-- What a list that is picked out of another comes to. -/
def RetPick (w : World) (es : List En) (us : List Value) (e : Ending) (w' : World) : Prop :=
  ∃ L k d vs, e = .returned (.slice L k d) ∧ OwnE w' w.heap.size L k d vs ∧ EVs w' es vs ∧ es.length = k ∧ Below w.heap.size w w' ∧ ∀ u ∈ vs, u ∈ us
theorem RetPick.out {w : World} {es : List En} {us : List Value} {e : Ending} {w' : World} (h : RetPick w es us e w') : ∃ L k d vs, e = .returned (.slice L k d) ∧ OwnE w' w.heap.size L k d vs ∧ EVs w' es vs ∧ es.length = k ∧ Below w.heap.size w w' ∧ ∀ u ∈ vs, u ∈ us := h
theorem RetPick.res {w : World} {es : List En} {us : List Value} {e : Ending} {w' : World} (h : RetPick w es us e w') : ∃ L k d, e = .returned (.slice L k d) ∧ REs w' L k es ∧ k ≤ d ∧ Below w.heap.size w w' := by
  obtain ⟨L, k, d, vs, h1, h2, h3, h4, h5, _⟩ := h
  exact ⟨L, k, d, h1, REs.mk h3 h2.rd h4, h2.cap.1, h5⟩
/-- 'So far picked.' -/
def Pck (w : World) (us : List Value) (es : List En) (L : Option Addr) (k d : Nat) (wr : World) : Prop :=
  ∃ vs, OwnE wr w.heap.size L k d vs ∧ EVs w es vs ∧ es.length = k ∧ Below w.heap.size w wr ∧ ∀ u ∈ vs, u ∈ us
theorem Pck.zero (w : World) (us : List Value) : Pck w us [] none 0 0 w := ⟨[], OwnE.nil _ _, rfl, rfl, Below.refl _ _, fun u hu => by cases hu⟩
theorem Pck.below {w wr w' : World} {us : List Value} {es : List En} {L : Option Addr} {k d : Nat} (h : Pck w us es L k d wr) (hb : Below wr.heap.size wr w') : Pck w us es L k d w' := by
  obtain ⟨vs, h1, h2, h3, h4, h5⟩ := h
  exact ⟨vs, h1.below hb, h2, h3, belowT' h4 hb, h5⟩
theorem Pck.bel {w wr : World} {us : List Value} {es : List En} {L : Option Addr} {k d : Nat} (h : Pck w us es L k d wr) : Below w.heap.size w wr := by
  obtain ⟨vs, h1, h2, h3, h4, h5⟩ := h
  exact h4
theorem Pck.len {w wr : World} {us : List Value} {es : List En} {L : Option Addr} {k d : Nat} (h : Pck w us es L k d wr) : es.length = k := by
  obtain ⟨vs, h1, h2, h3, h4, h5⟩ := h
  exact h3
theorem Pck.ret {w wr : World} {us : List Value} {es : List En} {L : Option Addr} {k d : Nat} (h : Pck w us es L k d wr) : RetPick w es us (.returned (.slice L k d)) wr := by
  obtain ⟨vs, h1, h2, h3, h4, h5⟩ := h
  exact ⟨L, k, d, vs, rfl, h1, h2.below h4, h3, h4, h5⟩
theorem Pck.snoc {w w4 : World} {us vs : List Value} {es : List En} {L' : Option Addr} {k d' : Nat} {x : En} {v0 v1 v2 v3 : Value} (h2 : EVs w es vs) (h3 : es.length = k) (h5 : ∀ u ∈ vs, u ∈ us)
    (hx : EV w x v0 v1 v2 v3) (hm : ∀ u ∈ [v0, v1, v2, v3], u ∈ us) (o4 : OwnE w4 w.heap.size L' (k + 1) d' (vs ++ [v0, v1, v2, v3])) (b4 : Below w.heap.size w w4) : Pck w us (es ++ [x]) L' (k + 1) d' w4 :=
  ⟨vs ++ [v0, v1, v2, v3], o4, h2.app (EVs.one hx), by simp [h3], b4, fun u hu => by
    rcases List.mem_append.1 hu with h | h
    · exact h5 u h
    · exact hm u h⟩
theorem mem4 {w : World} {A : Option Addr} {n k b off : Nat} {es : List En} {ovs : List Value} (hv : EVs w es ovs) (hd : RdV w A (n * 4) ovs) (hl : es.length = n) (hA : A = some ⟨b, off, none⟩) (hk : k < n) :
    ∃ e v0 v1 v2 v3, es[k]? = some e ∧ w.cell? ⟨b, off + k * 4, none⟩ = some v0 ∧ w.cell? ⟨b, off + k * 4 + 1, none⟩ = some v1 ∧
      w.cell? ⟨b, off + k * 4 + 2, none⟩ = some v2 ∧ w.cell? ⟨b, off + k * 4 + 3, none⟩ = some v3 ∧ EV w e v0 v1 v2 v3 ∧ ∀ u ∈ [v0, v1, v2, v3], u ∈ ovs := by
  subst hA
  obtain ⟨b', off', e, hb, hc⟩ := hd.2 (by omega)
  injection e with e
  injection e with e1 e2
  subst e1 e2
  obtain ⟨x, hx⟩ : ∃ x, es[k]? = some x := ⟨_, List.getElem?_eq_getElem (by omega)⟩
  obtain ⟨v0, v1, v2, v3, e0, e1, e2, e3, g0⟩ := hv.at_ k hx
  refine ⟨x, v0, v1, v2, v3, hx, hc _ _ e0, ?_, ?_, ?_, g0, fun u hu => ?_⟩
  · rw [Nat.add_assoc]; exact hc _ _ e1
  · rw [Nat.add_assoc]; exact hc _ _ e2
  · rw [Nat.add_assoc]; exact hc _ _ e3
  · simp only [List.mem_cons, List.not_mem_nil, or_false] at hu
    rcases hu with rfl | rfl | rfl | rfl
    · exact List.mem_of_getElem? e0
    · exact List.mem_of_getElem? e1
    · exact List.mem_of_getElem? e2
    · exact List.mem_of_getElem? e3
theorem filter_snoc {es : List En} {k : Nat} {x : En} {p : En → Bool} (hx : es[k]? = some x) : (es.take (k + 1)).filter p = (es.take k).filter p ++ (if p x then [x] else []) := by
  rw [List.take_add_one, hx, List.filter_append]
  simp only [Option.toList, List.filter_cons, List.filter_nil]
set_option maxRecDepth 100000 in
set_option maxHeartbeats 8000000 in
theorem refRange_any {w : World} {A F T : Option Addr} {n c fn fc tn tc : Nat} {es : List En} {ovs : List Value} {xs ys : List UInt8} (hv : EVs w es ovs) (hd : RdV w A (n * 4) ovs) (hl : es.length = n) (hn : n ≤ 1099511627776) (hs : ∀ x ∈ es, SzE x) (hf : Rd w F fn xs) (ht : Rd w T tn ys) (hfn : fn ≤ maxLen) (htn : tn ≤ maxLen) :
    Calls Try.prog 31 #[.slice A n c, .slice F fn fc, .slice T tn tc] w (RetPick w (es.filter (inR xs ys)) ovs) := by
  have HV := Lib.hid hv
  have HD := Lib.hid hd
  have HL := Lib.hid hl
  have HS := Lib.hid hs
  have HF := Lib.hid hf
  have HT := Lib.hid ht
  clear hv hd hl hs hf ht
  go_enter Try.func31, Try.ntmps31
  go_wp2_with fail
  go_loopw [7, 8] (fun s7 s8 wr => ∃ (k m d : Nat) (L : Option Addr), k ≤ n ∧ s8 = .int .i64 (k : Int) ∧ s7 = .slice L m d ∧ Pck w ovs ((es.take k).filter (inR xs ys)) L m d wr) (fun _ s _ => n - (intOf s).toNat)
  case atStart => exact ⟨0, 0, 0, none, Nat.zero_le _, rfl, rfl, Pck.zero w ovs⟩
  case round =>
    obtain ⟨k, m, d, L, hk, rfl, rfl, hp⟩ := hrel
    have HP := Lib.hid hp
    have HB := Lib.hid hp.bel
    clear hp
    by_cases hlt : k < n
    · obtain ⟨b, off, hAb, hbl⟩ : ∃ b off, A = some ⟨b, off, none⟩ ∧ b < w.heap.size := HD.out.pos (by omega)
      obtain ⟨x, v0, v1, v2, v3, hx, c0, c1, c2, c3, hev, hmem⟩ := mem4 HV.out HD.out HL.out hAb hlt
      have HAB := Lib.hid hAb
      subst hAb
      have hsx := HS.out x (List.mem_of_getElem? hx)
      have HEV := Lib.hid hev
      have HMEM := Lib.hid hmem
      have HXK := Lib.hid hx
      have HCW : Hid (w.cell? ⟨b, off + k * 4, none⟩ = some v0 ∧ w.cell? ⟨b, off + k * 4 + 1, none⟩ = some v1 ∧ w.cell? ⟨b, off + k * 4 + 2, none⟩ = some v2 ∧ w.cell? ⟨b, off + k * 4 + 3, none⟩ = some v3) := Lib.hid ⟨c0, c1, c2, c3⟩
      obtain ⟨K, kn, kc, V, vn, vc, rfl, rfl, rfl, rfl, r0, _⟩ := hev.parts
      have hkn : kn ≤ maxLen := maxLen_e (by rw [← r0.len]; exact hsx.1)
      obtain ⟨z1, hz1⟩ : ∃ z, cmpB x.key xs = z := ⟨_, rfl⟩
      obtain ⟨z2, hz2⟩ : ∃ z, cmpB x.key ys = z := ⟨_, rfl⟩
      have HC1 : Hid (Calls Try.prog 65 #[.slice K kn kc, .slice F fn fc] wr (RetZ wr z1)) := Lib.hid (refCmp_is _ _ _ _ _ _ x.key xs z1 hz1 _ (r0.below HB.out) (HF.out.below HB.out) hkn hfn)
      have HC2 : Hid (∀ q, Calls Try.prog 65 #[.slice K kn kc, .slice T tn tc] (wr.drewN q) (RetZ (wr.drewN q) z2)) := Lib.hid (fun q => refCmp_is _ _ _ _ _ _ x.key ys z2 hz2 _ (((r0.below HB.out)).drewN q) ((HT.out.below HB.out).drewN q) hkn htn)
      have hyl := HT.out.len
      obtain ⟨zz, hzz⟩ : ∃ zz, zz = inR xs ys x := ⟨_, rfl⟩
      have HIR : Hid (zz = (decide (0 ≤ z1) && decide (tn = 0 ∨ z2 < 0))) := Lib.hid (by rw [hzz]; unfold inR; rw [hz1, hz2, hyl])
      have HFT : Hid ((es.take (k + 1)).filter (inR xs ys) = (es.take k).filter (inR xs ys) ++ (if zz then [x] else [])) := Lib.hid (by rw [hzz]; exact filter_snoc HXK.out)
      have hB := HB.out
      have d0 := (hB.cell (p := ⟨b, off + k * 4, none⟩) hbl).trans c0
      have d1 := (hB.cell (p := ⟨b, off + k * 4 + 1, none⟩) hbl).trans c1
      have d2 := (hB.cell (p := ⟨b, off + k * 4 + 2, none⟩) hbl).trans c2
      have d3 := (hB.cell (p := ⟨b, off + k * 4 + 3, none⟩) hbl).trans c3
      clear hx c0 c1 c2 c3 hev hmem r0 hz1 hz2 hyl hzz hB
      go_upto_region 5 with (fail)
      go_cut [37] from 9 to 38 (fun s37 wx => s37 = .bool zz ∧ ∃ q, wx = wr.drewN q)
      case first =>
        by_cases t1 : 0 ≤ z1
        · have h1 : decide (0 ≤ z1) = true := by simpa using t1
          by_cases t2 : tn = 0
          · have HZ : Hid (zz = true) := Lib.hid (by rw [HIR.out, h1]; simp [t2])
            have h2 : ((tn : Int) == 0) = true := by simpa using t2
            clear t2
            go_wp2_with fail
            with_reducible refine HC1.out.mono ?_
            rintro e w1 ⟨rfl, q, rfl⟩
            go_wp2_with fail
            go_meet
            exact ⟨by rw [HZ.out], _, rfl⟩
          · have h2 : ((tn : Int) == 0) = false := by simpa using t2
            go_wp2_with fail
            with_reducible refine HC1.out.mono ?_
            rintro e w1 ⟨rfl, q, rfl⟩
            go_wp2_with fail
            with_reducible refine (HC2.out q).mono ?_
            rintro e w1 ⟨rfl, q2, rfl⟩
            go_wp2_with fail
            go_meet
            exact ⟨by rw [HIR.out, h1]; simp [t2], q + q2, rfl⟩
        · have h1 : decide (0 ≤ z1) = false := by simpa using t1
          go_wp2_with fail
          with_reducible refine HC1.out.mono ?_
          rintro e w1 ⟨rfl, q, rfl⟩
          go_wp2_with fail
          go_meet
          exact ⟨by rw [HIR.out, h1]; rfl, q, rfl⟩
      case rest =>
        obtain ⟨rfl, q, rfl⟩ := hcut
        cases zz with
        | true =>
          have B1 : Below wr.heap.size wr (wr.drewN q) := below_drewN (Below.refl _ _) q
          have HP1 := Lib.hid (HP.out.below B1)
          obtain ⟨vs, o1, hev1, hlen1, hb1, hm1⟩ := HP1.out
          have O1 := Lib.hid o1
          have HE1 := Lib.hid hev1
          have HL1 := Lib.hid hlen1
          have HM1 := Lib.hid hm1
          have HB1 := Lib.hid hb1
          obtain ⟨W, hW⟩ : ∃ W, W = wr.drewN q := ⟨_, rfl⟩
          rw [← hW] at O1 HB1 ⊢
          have hmn : m ≤ n := by rw [← HL1.out]; exact Nat.le_trans (List.length_filter_le _ _) (by rw [List.length_take]; omega)
          have bl : Below W.heap.size W (W.alloc (.cells #[.slice K kn kc, .int .u64 (x.seq : Int), .int .u8 (x.kind : Int), .slice V vn vc] 38)) := (Below.refl _ _).alloc (Nat.le_refl _) _
          have O1' := Lib.hid (O1.out.below bl)
          have r2 := Lib.hid (rdv_of_cl (Cl.new W #[.slice K kn kc, .int .u64 (x.seq : Int), .int .u8 (x.kind : Int), .slice V vn vc] 38))
          have BL := Lib.hid bl
          have sW := HB1.out.size
          obtain ⟨e0, e1, e2, e3⟩ : W.cell? ⟨b, off + k * 4, none⟩ = some (.slice K kn kc) ∧ W.cell? ⟨b, off + k * 4 + 1, none⟩ = some (.int .u64 (x.seq : Int)) ∧ W.cell? ⟨b, off + k * 4 + 2, none⟩ = some (.int .u8 (x.kind : Int)) ∧ W.cell? ⟨b, off + k * 4 + 3, none⟩ = some (.slice V vn vc) := by rw [hW]; exact ⟨d0, d1, d2, d3⟩
          clear o1 hev1 hlen1 hb1 hm1 hW bl d0 d1 d2 d3 B1
          go_wp2_with (at_builtin; refine wpList_app4 (W.alloc (.cells #[.slice K kn kc, .int .u64 (x.seq : Int), .int .u8 (x.kind : Int), .slice V vn vc] 38)) rfl _ _ 27 rfl w.heap.size _ 64 Try.underlying27 info_ent rfl L m d vs rfl O1'.out (some ⟨W.heap.size, 0, none⟩) 1 1 [.slice K kn kc, .int .u64 (x.seq : Int), .int .u8 (x.kind : Int), .slice V vn vc] rfl r2.out HEV.out.cells ?_ ?_ ?_ ?_)
          · omega
          · omega
          intro A2 c2 w2 o2 _ b2
          have HP2 : Hid (Pck w ovs ((es.take (k + 1)).filter (inR xs ys)) A2 (m + 1) c2 w2) := Lib.hid (by
            rw [HFT.out]
            exact Pck.snoc HE1.out HL1.out HM1.out HEV.out HMEM.out o2 ((HB1.out.trans (BL.out.mono sW)).trans b2))
          clear o2 b2 e0 e1 e2 e3
          go_wp2_with fail
          go_roundw
          case rel => exact ⟨k + 1, m + 1, c2, A2, by omega, by go_num, rfl, HP2.out⟩
          case measure => simp [intOf]; omega
        | false =>
          have HP2 : Hid (Pck w ovs ((es.take (k + 1)).filter (inR xs ys)) L m d (wr.drewN q)) := Lib.hid (by
            rw [HFT.out]
            simpa using HP.out.below (below_drewN (Below.refl _ _) q))
          clear d0 d1 d2 d3
          go_wp2_with fail
          go_roundw
          case rel => exact ⟨k + 1, m, d, L, by omega, by go_num, rfl, HP2.out⟩
          case measure => simp [intOf]; omega
    · have htk := take_all HL.out hlt
      rw [htk] at HP
      clear htk
      go_wp2
      go_ret
      exact HP.out.ret
end Go.Proofs.Ytheefpgokdejcaa
namespace Go.Proofs.Ytheefpgokdejcaa
open Go Go.RowKit

/-- Blocks of other kinds are other blocks. -/
theorem row_ne {t1 t2 : TypeId} {s1 s2 : Nat} {w : World} {b1 b2 n c m d : Nat} {L A : Option Addr} {i j : Nat} {vs us : List Value} (h : w.ownsRow b1 t1 s1 (.slice L n c) i vs) (k : w.ownsRow b2 t2 s2 (.slice A m d) j us) (hne : t1 ≠ t2) : Dj L A := fun b e1 e2 => by
  rcases h.2 with ⟨h1, _⟩ | ⟨g, cap, cur, h1, _, hg, _⟩
  · injection h1 with h1
    rw [h1] at e1; cases e1
  · injection h1 with h1
    rw [h1] at e1
    injection e1 with e1
    rcases k.2 with ⟨k1, _⟩ | ⟨g2, cap2, cur2, k1, _, kg, _⟩
    · injection k1 with k1
      rw [k1] at e2; cases e2
    · injection k1 with k1
      rw [k1] at e2
      injection e2 with e2
      simp only at e1 e2
      subst e1 e2
      rw [hg] at kg
      injection kg with kg
      injection kg with _ kg
      exact hne kg
theorem ownV_ne {t : TypeId} {w : World} {b1 b2 n c m d : Nat} {L A : Option Addr} {vs : List Value} {xs : List UInt8} (h : OwnV t w b1 L n c vs) (k : Own 5 w b2 A m d xs) (hne : t ≠ 5) : Dj L A := row_ne h k hne
theorem cl_row {ty t : TypeId} {s : Nat} {w : World} {p b2 m d j : Nat} {A : Option Addr} {us : Array Value} {vs : List Value} (h : Cl w p us ty) (k : w.ownsRow b2 t s (.slice A m d) j vs) (hne : ty ≠ t) : blk A ≠ some p := fun e2 => by
  rcases k.2 with ⟨k1, _⟩ | ⟨g2, cap2, cur2, k1, _, kg, _⟩
  · injection k1 with k1
    rw [k1] at e2; cases e2
  · injection k1 with k1
    rw [k1] at e2
    injection e2 with e2
    simp only at e2
    subst e2
    unfold Cl at h
    rw [h] at kg
    injection kg with kg
    injection kg with _ kg
    exact hne kg
theorem cl_ne {ty : TypeId} {w : World} {p b2 m d : Nat} {A : Option Addr} {us : Array Value} {xs : List UInt8} (h : Cl w p us ty) (k : Own 5 w b2 A m d xs) (hne : ty ≠ 5) : blk A ≠ some p := cl_row h k hne
theorem Cl.grown {w w' : World} {p : Nat} {us : Array Value} {ty : TypeId} {row : Option Nat} (h : Cl w p us ty) (hg : w.grownBy w' row) (hne : row ≠ some p) : Cl w' p us ty := by
  obtain ⟨_, _, _, h4, h5⟩ := hg
  exact (h5 p h.lt (fun e => hne e.symm)).trans h
theorem rdPre2 {e : TypeId} {w : World} {base g n k : Nat} {xs : List UInt8} (h : Own e w base (some ⟨g, 0, none⟩) (n + 40) (n + 40) (xs ++ room n k)) (hx : xs.length = n) : Rd w (some ⟨g, 0, none⟩) n xs := by
  have := (h.prefix n (by omega) (by simp)).rd
  rw [List.take_left' hx] at this
  exact this
theorem ownV_box2 (w : World) (t : TypeId) (base : Nat) (vs : List Value) (n : Nat) (hl : vs.length = n) (hn : n ≤ 1024) (hb : base ≤ w.heap.size) (cs : Array Value) (hc : cs = vs.toArray) : OwnV t (w.alloc (.cells cs t)) base (some ⟨w.heap.size, 0, none⟩) n n vs := by
  subst hc
  refine ⟨by simp [hl], .inr ⟨w.heap.size, n, vs.toArray, rfl, hb, heap_alloc_new w _, Nat.le_refl _, by unfold maxLen; omega, by simp [hl], ?_⟩⟩
  simp only [Nat.mul_one]
  exact List.take_of_length_le (by simp [hl])
theorem mem_own2 {w : World} {base : Nat} {ps : List VB} (h : Fam w base ps) {A : Option Addr} {m c : Nat} {xs : List UInt8} (hp : (Value.slice A m c, xs) ∈ ps) : Own 5 w base A m c xs := by
  obtain ⟨A', m', c', e, ho⟩ := h.1 _ hp
  injection e with e1 e2 e3
  subst e1 e2 e3
  exact ho
section
variable {w w' : World} {base : Nat} {ps qs : List VB}
theorem Fam.off_cl (h : Fam w base ps) {p : Nat} {us : Array Value} {ty : TypeId} (hp : Cl w p us ty) (hne : ty ≠ 5) : OffF ps p := fun q hq e => by
  obtain ⟨A, m, c, e1, ho⟩ := h.1 q hq
  rw [e1, own_blk] at e
  exact cl_ne hp ho hne e
theorem Fam.off_row (h : Fam w base ps) {t : TypeId} {b1 n c : Nat} {L : Option Addr} {vs : List Value} (hl : OwnV t w b1 L n c vs) (hne : t ≠ 5) : ∀ b, blk L = some b → OffF ps b := fun b hb q hq e => by
  obtain ⟨A, m, d, e1, ho⟩ := h.1 q hq
  rw [e1, own_blk] at e
  exact ownV_ne hl ho hne b hb e
theorem Fam.perm (h : Fam w base ps) (hp : ps.Perm qs) : Fam w base qs :=
  ⟨fun p hq => h.1 p (hp.mem_iff.2 hq), h.2.perm hp (fun {_ _} hab => Ap.symm hab)⟩
theorem Fam.app {base' : Nat} (h : Fam w base ps) (hn : Fam w' base' qs) (hb : Below w.heap.size w w') (h1 : w.heap.size ≤ base') (h2 : base ≤ base') : Fam w' base (ps ++ qs) := by
  have h0 : Fam w base (ps ++ []) := by rw [List.append_nil]; exact h
  have := Fam.ins h0 hn hb h1 h2
  rw [List.append_nil] at this
  exact this
theorem OffF.app {p : Nat} (h : OffF ps p) (k : OffF qs p) : OffF (ps ++ qs) p := fun q hq => by
  rcases List.mem_append.1 hq with h1 | h1
  · exact h q h1
  · exact k q h1
end
section
variable {G H : Nat → Prop} {w w' : World}
theorem EG.reg {e : En} {v0 v1 v2 v3 : Value} (h : EG G w e v0 v1 v2 v3) (hs : ∀ b, b < w.heap.size → G b → H b) : EG H w e v0 v1 v2 v3 :=
  ⟨h.1, fun A m c g hv hg => hs g (h.1.lt hv hg).2 (h.2 A m c g hv hg)⟩
theorem TrAt.reg (hs : ∀ b, b < w.heap.size → G b → H b) : ∀ {t : Tr} {A : Option Addr}, TrAt G w t A → TrAt H w t A
  | .nil, _, h => h
  | .node _ _ _, _, ⟨b, pe, pl, pr, h1, h2, ⟨v0, v1, v2, v3, h3, h4⟩, h5, h6⟩ => ⟨b, pe, pl, pr, h1, h2, ⟨v0, v1, v2, v3, h3, h4.reg hs⟩, TrAt.reg hs h5, TrAt.reg hs h6⟩
theorem TB.reg {d : TypeId × List Value} {p : Nat} {t : Tr} (h : TB d G w p t) (hs : ∀ b, b < w.heap.size → G b → H b) : TB d H w p t := by
  obtain ⟨A, h1, h2, h3⟩ := h
  exact ⟨A, h1, TrAt.reg hs h2, h3⟩
/-- 'Blocks of this kind are no bytes and no slices of bytes.' -/
def okB (ty : TypeId) : Prop := ty ≠ 5 ∧ ty ≠ 35
/-- 'Good bytes stand, and whatever is no row of bytes or of slices of bytes.' -/
def FrB (G : Nat → Prop) (w w' : World) : Prop := ∀ b us ty, Cl w b us ty → (ty = 5 ∧ G b) ∨ okB ty → Cl w' b us ty
theorem own_good {b n c : Nat} {A : Option Addr} {xs : List UInt8} (h : Own 5 w b A n c xs) (hf : FrB G w w') (hg : ∀ k, blk A = some k → G k) : Own 5 w' b A n c xs := by
  refine ⟨h.1, ?_⟩
  rcases h.2 with h1 | ⟨g, cap, cur, h1, h2, h3, h4⟩
  · exact .inl h1
  · injection h1 with e1 e2 e3
    exact .inr ⟨g, cap, cur, by rw [e1, e2, e3], h2, hf g cur _ h3 (.inl ⟨rfl, hg g (by rw [e1]; rfl)⟩), h4⟩
theorem EG.fr {e : En} {v0 v1 v2 v3 : Value} (h : EG G w e v0 v1 v2 v3) (hf : FrB G w w') : EG G w' e v0 v1 v2 v3 := by
  obtain ⟨⟨K, kn, kc, V, vn, vc, rfl, rfl, rfl, rfl, o1, o2, u⟩, hg⟩ := h
  exact ⟨⟨K, kn, kc, V, vn, vc, rfl, rfl, rfl, rfl, own_good o1 hf (fun k hk => hg K kn kc k (by simp) hk), own_good o2 hf (fun k hk => hg V vn vc k (by simp) hk), u⟩, hg⟩
theorem okB_node : okB 124 := ⟨by decide, by decide⟩
theorem okB_ent : okB 38 := ⟨by decide, by decide⟩
theorem okB_tab : okB pl3.1 := ⟨(by decide : 55 ≠ 5), (by decide : 55 ≠ 35)⟩
theorem TrAt.fr (hf : FrB G w w') : ∀ {t : Tr} {A : Option Addr}, TrAt G w t A → TrAt G w' t A
  | .nil, _, h => h
  | .node _ _ _, _, ⟨b, pe, pl, pr, h1, h2, ⟨v0, v1, v2, v3, h3, h4⟩, h5, h6⟩ => ⟨b, pe, pl, pr, h1, hf _ _ _ h2 (.inr okB_node), ⟨v0, v1, v2, v3, hf _ _ _ h3 (.inr okB_ent), h4.fr hf⟩, TrAt.fr hf h5, TrAt.fr hf h6⟩
theorem TB.fr {d : TypeId × List Value} {p : Nat} {t : Tr} (h : TB d G w p t) (hd : okB d.1) (hf : FrB G w w') : TB d G w' p t := by
  obtain ⟨A, h1, h2, h3⟩ := h
  exact ⟨A, hf _ _ _ h1 (.inr hd), TrAt.fr hf h2, h3⟩
/-- Behind what writes over the lists alone. -/
theorem FrB.of_off {base : Nat} {ps : List VB} (hF : Fam w base ps) (h : ∀ b, b < w.heap.size → OffF ps b → w'.heap[b]? = w.heap[b]?) : FrB (OffF ps) w w' := fun b us ty hc hk => by
  rcases hk with ⟨_, hg⟩ | ⟨hk, _⟩
  · exact (h b hc.lt hg).trans hc
  · exact (h b hc.lt (hF.off_cl hc hk)).trans hc
/-- Behind what makes a row of slices longer. -/
theorem FrB.of_row {base n c : Nat} {L : Option Addr} {vs : List Value} (hl : OwnV 35 w base L n c vs) (hg : w.grownBy w' (blk L)) : FrB G w w' := fun b us ty hc hk => by
  refine hc.grown hg (cl_row hc hl ?_)
  rcases hk with ⟨h, _⟩ | ⟨_, h⟩
  · rw [h]; decide
  · exact h
end
/-- One entry more, behind all that are there. -/
theorem putZ_next {t : Tr} {x : En} (h1 : SortL (t.list ++ [x])) (h2 : okE x = true) : ∃ t' : Tr, putZ t [x] = (0, t') ∧ t'.list = t.list ++ [x] := by
  have hs : SortL t.list := (List.pairwise_append.1 h1).1
  have h3 := refIns_sort (p := t.list) (q := [x]) h1
  obtain ⟨k1, k2⟩ := insAll_ref [x] (t := t) hs
  cases hi : insAll t [x] with
  | none => have := k2 hi; rw [h3] at this; cases this
  | some t' =>
    obtain ⟨e1, _⟩ := k1 t' hi
    rw [h3] at e1
    injection e1 with e1
    refine ⟨t', ?_, e1.symm⟩
    unfold putZ
    rw [if_pos (checkE_ok (es := [x]) (fun y hy => by simp only [List.mem_singleton] at hy; subst hy; exact h2)), hi]
/-- One values more appended onto a row of one-cell values at a step of a region that draws its order. -/
theorem step_appV {P : Program} (w : World) {ops : Array Oper} {o : Oper} {a : Act} {K : Act → World → Prop} {Q : Exit → Act → World → Prop} {E : Prop} (hgd : o.guard = none) (s x : Operand) (tt : TypeId)
    (ho : o.op = .call { callee := .builtin .append, args := #[s, x], argTypes := #[tt, tt] })
    (base : Nat) (t : TypeId) (z : Value) (by_ : Nat) (ht : P.underlying tt = some (.slice t)) (hi : (P.info? t).map (fun i => (i.zero, i.size, i.bytes)) = some (some z, 1, by_)) (hz1 : z.cells.size = 1)
    (A : Option Addr) (n c : Nat) (vs : List Value) (hs : a.eval s = .slice A n c) (hown : OwnV t w base A n c vs)
    (ad : Addr) (m d : Nat) (ys : List Value) (hx : a.eval x = .slice (some ad) m d) (hr : RdV w (some ad) m ys) (hm : 0 < m) (h1 : ∀ u ∈ ys, u.oneCell' = true)
    (hn : n + m ≤ maxLen) (hby : (n + m) * by_ ≤ 140737488355328) (hbase : base ≤ w.heap.size)
    (h : ∀ A' c' w', OwnV t w' base A' (n + m) c' (vs ++ ys) → w.grownBy w' (blk A) → K (a.put o.dst (.slice A' (n + m) c')) w') :
    if Region.wanted o (yielded ops a.tmps) = true then Oper.wp P o a w K Q else E := by
  have hw : Region.wanted o (yielded ops a.tmps) = true := by simp [Region.wanted, hgd]
  rw [if_pos hw]
  obtain ⟨i, hi, hz, hsz, hby2⟩ := info_parts hi
  obtain ⟨b, off, e, _, hc⟩ := hr.2 hm
  injection e with e
  subst e
  refine wp_append_own w s x tt ho base t i z 1 by_ ht hi hz hsz hby2 hz1 (by decide) (.slice A n c) n vs hs hown ⟨b, off, none⟩ m d ys hx (by simp [hr.1]) (fun j u hj => by rw [Addr.add_lit]; exact hc j u hj) h1 hn hby hbase ?_
  intro v' w' k1 k2 _
  obtain ⟨A', c', rfl⟩ : ∃ A' c', v' = .slice A' (n + m) c' := by
    rcases k1.2 with ⟨h3, h4⟩ | ⟨g, cap, cur, h3, _⟩
    · exact ⟨none, 0, by rw [h3, h4]⟩
    · exact ⟨_, _, h3⟩
  rw [own_blk] at k2
  exact h A' c' w' k1 k2
/-- Two lists of pairs, a pair of each by turns. -/
def inter {α : Type} : List α → List α → List α
  | a :: b :: r, c :: d :: s => a :: b :: c :: d :: inter r s
  | _, _ => []
theorem four_of {vs : List Value} {k : Nat} (h : vs.length = (k + 1) * 4) : ∃ v0 v1 v2 v3 r, vs = v0 :: v1 :: v2 :: v3 :: r ∧ r.length = k * 4 := by
  match vs, h with
  | [], h => simp at h
  | [_], h => simp at h; omega
  | [_, _], h => simp at h; omega
  | [_, _, _], h => simp at h; omega
  | a :: b :: c :: d :: r, h => exact ⟨a, b, c, d, r, rfl, by simp only [List.length_cons] at h; omega⟩
theorem inter_perm : ∀ (es : List En) {vs us : List Value}, vs.length = es.length * 4 → us.length = es.length * 4 → (pairE es vs ++ pairE es us).Perm (inter (pairE es vs) (pairE es us))
  | [], vs, us, _, _ => by simp [pairE, inter]
  | e :: es, vs, us, h1, h2 => by
    obtain ⟨v0, v1, v2, v3, r, rfl, hr⟩ := four_of h1
    obtain ⟨u0, u1, u2, u3, s, rfl, hs⟩ := four_of h2
    have ih := inter_perm es (vs := r) (us := s) hr hs
    simp only [pairE, inter, List.cons_append]
    refine .cons _ (.cons _ ?_)
    refine List.Perm.trans ?_ (.cons _ (.cons _ ih))
    have p1 : (pairE es r ++ (u0, e.key) :: (u3, e.val) :: pairE es s).Perm ((u0, e.key) :: (pairE es r ++ (u3, e.val) :: pairE es s)) := List.perm_middle
    exact p1.trans (.cons _ List.perm_middle)
theorem inter_take : ∀ (es : List En) {vs us : List Value} (i : Nat) {v0 v3 u0 u3 : Value}, vs.length = es.length * 4 → us.length = es.length * 4 → vs[i * 4]? = some v0 → vs[i * 4 + 3]? = some v3 → us[i * 4]? = some u0 → us[i * 4 + 3]? = some u3 → i < es.length →
    ((inter (pairE es vs) (pairE es us)).take (4 * (i + 1))).map (·.1) = ((inter (pairE es vs) (pairE es us)).take (4 * i)).map (·.1) ++ [v0, v3, u0, u3]
  | [], _, _, i, _, _, _, _, _, _, _, _, _, _, hi => by simp at hi
  | e :: es, vs, us, i, v0, v3, u0, u3, hv, hu, h0, h3, k0, k3, hi => by
    obtain ⟨x0, x1, x2, x3, r, rfl, hr⟩ := four_of hv
    obtain ⟨y0, y1, y2, y3, s, rfl, hs⟩ := four_of hu
    cases i with
    | zero =>
      simp at h0 h3 k0 k3
      subst h0 h3 k0 k3
      simp [pairE, inter]
    | succ i =>
      simp only [List.length_cons] at hi
      have e0 : (i + 1) * 4 = i * 4 + 4 := by omega
      have e3 : (i + 1) * 4 + 3 = i * 4 + 3 + 4 := by omega
      rw [e0] at h0 k0
      rw [e3] at h3 k3
      have ih := inter_take es (vs := r) (us := s) i hr hs (by simpa using h0) (by simpa using h3) (by simpa using k0) (by simpa using k3) (by omega)
      have e4 : 4 * (i + 1 + 1) = 4 * (i + 1) + 4 := by omega
      have e5 : 4 * (i + 1) = 4 * i + 4 := by omega
      simp only [pairE, inter]
      rw [e4]
      simp only [List.take_succ_cons, List.map_cons]
      rw [ih, e5]
      simp only [List.take_succ_cons, List.map_cons, List.cons_append]
theorem pairE_len : ∀ (es : List En) {vs : List Value}, vs.length = es.length * 4 → (pairE es vs).length = es.length * 2
  | [], vs, h => by simp [pairE]
  | e :: es, vs, h => by
    obtain ⟨x0, x1, x2, x3, r, rfl, hr⟩ := four_of h
    have := pairE_len es (vs := r) hr
    simp only [pairE, List.length_cons]
    omega
theorem inter_all (es : List En) {vs us : List Value} (hv : vs.length = es.length * 4) (hu : us.length = es.length * 4) : (inter (pairE es vs) (pairE es us)).take (4 * es.length) = inter (pairE es vs) (pairE es us) := by
  have h := (inter_perm es hv hu).length_eq
  rw [List.length_append, pairE_len es hv, pairE_len es hu] at h
  exact List.take_of_length_le (by omega)
theorem pairE_sz : ∀ {es : List En} {vs : List Value} {q : VB}, q ∈ pairE es vs → ∃ e ∈ es, q.2 = e.key ∨ q.2 = e.val
  | e :: es, x0 :: x1 :: x2 :: x3 :: r, q, h => by
    unfold pairE at h
    simp only [List.mem_cons] at h
    rcases h with rfl | rfl | h
    · exact ⟨e, by simp, .inl rfl⟩
    · exact ⟨e, by simp, .inr rfl⟩
    · obtain ⟨x, hx, k⟩ := pairE_sz h
      exact ⟨x, by simp [hx], k⟩
end Go.Proofs.Ytheefpgokdejcaa
namespace Go.Proofs.Ytheefpgokdejcaa
open Go Go.RowKit

/-- 'So far sorted.' -/
def Spk (w : World) (us : List Value) (es : List En) (L : Option Addr) (k d : Nat) (wr : World) : Prop :=
  ∃ vs, OwnE wr w.heap.size L k d vs ∧ EVs wr es vs ∧ es.length = k ∧ Below w.heap.size w wr ∧ ∀ u ∈ vs, u ∈ us
section
variable {w wr w' : World} {us : List Value} {es : List En} {L : Option Addr} {k d : Nat}
theorem Spk.zero (w : World) (us : List Value) : Spk w us [] none 0 0 w := ⟨[], OwnE.nil _ _, rfl, rfl, Below.refl _ _, fun u hu => by cases hu⟩
theorem Spk.below (h : Spk w us es L k d wr) (hb : Below wr.heap.size wr w') : Spk w us es L k d w' := by
  obtain ⟨vs, h1, h2, h3, h4, h5⟩ := h
  exact ⟨vs, h1.below hb, h2.below hb, h3, belowT' h4 hb, h5⟩
theorem Spk.bel (h : Spk w us es L k d wr) : Below w.heap.size w wr := by
  obtain ⟨vs, h1, h2, h3, h4, h5⟩ := h
  exact h4
theorem Spk.res (h : Spk w us es L k d wr) : REs wr L k es := by
  obtain ⟨vs, h1, h2, h3, h4, h5⟩ := h
  exact REs.mk h2 h1.rd h3
theorem Spk.cap (h : Spk w us es L k d wr) : k ≤ d := by
  obtain ⟨vs, h1, h2, h3, h4, h5⟩ := h
  exact h1.cap.1
theorem Spk.ret (h : Spk w us es L k d wr) : RetPick w es us (.returned (.slice L k d)) wr := by
  obtain ⟨vs, h1, h2, h3, h4, h5⟩ := h
  exact ⟨L, k, d, vs, rfl, h1, h2, h3, h4, h5⟩
end
set_option maxRecDepth 100000 in
set_option maxHeartbeats 8000000 in
theorem sorted_any {w : World} {A : Option Addr} {n c : Nat} {es : List En} {ovs : List Value} (hv : EVs w es ovs) (hd : RdV w A (n * 4) ovs) (hl : es.length = n) (hn : n ≤ 1099511627776) (hs : ∀ x ∈ es, SzE x) :
    Calls Try.prog 32 #[.slice A n c] w (RetPick w (srt [] es) ovs) := by
  have HV := Lib.hid hv
  have HD := Lib.hid hd
  have HL := Lib.hid hl
  have HS := Lib.hid hs
  clear hv hd hl hs
  go_enter Try.func32, Try.ntmps32
  go_wp2_with fail
  go_loopw [3, 4] (fun s3 s4 wr => ∃ (k m d : Nat) (L : Option Addr), k ≤ n ∧ s4 = .int .i64 (k : Int) ∧ s3 = .slice L m d ∧ Spk w ovs (srt [] (es.take k)) L m d wr) (fun _ s _ => n - (intOf s).toNat)
  case atStart => exact ⟨0, 0, 0, none, Nat.zero_le _, rfl, rfl, Spk.zero w ovs⟩
  case round =>
    obtain ⟨k, m, d, L, hk, rfl, rfl, hp⟩ := hrel
    have HP := Lib.hid hp
    have HB := Lib.hid hp.bel
    clear hp
    by_cases hlt : k < n
    · obtain ⟨b, off, hAb, hbl⟩ : ∃ b off, A = some ⟨b, off, none⟩ ∧ b < w.heap.size := HD.out.pos (by omega)
      obtain ⟨x, v0, v1, v2, v3, hx, c0, c1, c2, c3, hev, hmem⟩ := mem4 HV.out HD.out HL.out hAb hlt
      subst hAb
      have hsx := HS.out x (List.mem_of_getElem? hx)
      have HEV := Lib.hid hev
      have HMEM := Lib.hid hmem
      have HXK := Lib.hid hx
      obtain ⟨K, kn, kc, V, vn, vc, rfl, rfl, rfl, rfl, r0, _⟩ := hev.parts
      obtain ⟨o, ho⟩ : ∃ o, o = srt [] (es.take k) := ⟨_, rfl⟩
      rw [← ho] at HP
      have hol : o.length ≤ n := by
        have := (srt_len (es.take k) []).1
        rw [← ho, List.length_take] at this
        simp only [List.length_nil] at this
        omega
      have hom : o.length = m := HP.out.res.len
      have HSO : Hid (∀ y ∈ o, SzE y) := Lib.hid (fun y hy => by
        rw [ho] at hy
        rcases srt_mem y hy with q | q
        · cases q
        · exact HS.out y (List.mem_of_mem_take q))
      have HFT : Hid (srt [] (es.take (k + 1)) = if okE x && !inL o x then insL o x else o) := Lib.hid (by
        rw [List.take_add_one, HXK.out]
        simp only [Option.toList]
        rw [srt_snoc, ← ho])
      have hB := HB.out
      have d0 := (hB.cell (p := ⟨b, off + k * 4, none⟩) hbl).trans c0
      have d1 := (hB.cell (p := ⟨b, off + k * 4 + 1, none⟩) hbl).trans c1
      have d2 := (hB.cell (p := ⟨b, off + k * 4 + 2, none⟩) hbl).trans c2
      have d3 := (hB.cell (p := ⟨b, off + k * 4 + 3, none⟩) hbl).trans c3
      have HSX : Hid (∀ wx, Below wr.heap.size wr wx → wx.cell? ⟨b, off + k * 4, none⟩ = some (.slice K kn kc) ∧ wx.cell? ⟨b, off + k * 4 + 1, none⟩ = some (.int .u64 (x.seq : Int)) ∧ wx.cell? ⟨b, off + k * 4 + 2, none⟩ = some (.int .u8 (x.kind : Int)) ∧ wx.cell? ⟨b, off + k * 4 + 3, none⟩ = some (.slice V vn vc)) := Lib.hid (fun wx h => by
        have hb2 : b < wr.heap.size := Nat.lt_of_lt_of_le hbl hB.size
        exact ⟨(h.cell (p := ⟨b, off + k * 4, none⟩) hb2).trans d0, (h.cell (p := ⟨b, off + k * 4 + 1, none⟩) hb2).trans d1, (h.cell (p := ⟨b, off + k * 4 + 2, none⟩) hb2).trans d2, (h.cell (p := ⟨b, off + k * 4 + 3, none⟩) hb2).trans d3⟩)
      obtain ⟨zc, hzc⟩ : ∃ z, z = checkE [x] := ⟨_, rfl⟩
      obtain ⟨zi, hzi⟩ : ∃ z, z = inL o x := ⟨_, rfl⟩
      have HOK : Hid (okE x = decide (zc = 0)) := Lib.hid (by rw [hzc]; rfl)
      have HZI := Lib.hid hzi
      obtain ⟨W, hW⟩ : ∃ W, W = wr.alloc (.cells #[.slice K kn kc, .int .u64 (x.seq : Int), .int .u8 (x.kind : Int), .slice V vn vc] 38) := ⟨_, rfl⟩
      have bW : Below wr.heap.size wr W := by rw [hW]; exact (Below.refl _ _).alloc (Nat.le_refl _) _
      have BW := Lib.hid bW
      have HEVr := Lib.hid (HEV.out.below hB)
      have HC : Hid (Calls Try.prog 59 #[.slice (some ⟨wr.heap.size, 0, none⟩) 1 1] W (RetNu W zc)) := Lib.hid (by
        rw [hzc]
        refine refCheck_any (REs.mk (EVs.one (HEVr.out.below bW)) ?_ rfl) (by omega) (fun y hy => by simp only [List.mem_singleton] at hy; subst hy; exact hsx)
        rw [hW]
        exact rdv_of_cl (Cl.new wr #[.slice K kn kc, .int .u64 (x.seq : Int), .int .u8 (x.kind : Int), .slice V vn vc] 38))
      have HI : Hid (∀ wx, Below wr.heap.size wr wx → Calls Try.prog 60 #[.slice L m d, .agg #[.slice K kn kc, .int .u64 (x.seq : Int), .int .u8 (x.kind : Int), .slice V vn vc]] wx (RetT wx zi)) := Lib.hid (fun wx h => by
        rw [hzi]
        exact In_any (HP.out.res.below h) (by omega) HSO.out (HEVr.out.below h) hsx)
      clear hx c0 c1 c2 c3 hev hmem r0 hB ho hzc hzi bW
      go_upto_region 5 with (fail)
      go_cut [26] from 5 to 27 (fun s26 wx => s26 = .bool (okE x && !inL o x) ∧ Below wr.heap.size wr wx)
      case first =>
        by_cases t1 : zc = 0
        · have h1 : (zc == 0) = true := by simpa using t1
          have hok : okE x = true := by rw [HOK.out]; simpa using t1
          have HOKT := Lib.hid hok
          clear t1 hok
          go_wp2_with fail
          rw [← hW]
          with_reducible refine HC.out.mono ?_
          rintro e w1 ⟨rfl, b1⟩
          have b1' := belowT' BW.out b1
          obtain ⟨e0, e1, e2, e3⟩ := HSX.out _ b1'
          have B1 := Lib.hid b1'
          clear b1 b1' d0 d1 d2 d3
          go_wp2_with fail
          with_reducible refine (HI.out _ B1.out).mono ?_
          intro e w2 hq
          obtain ⟨hh, b2⟩ := RetT.outD hq
          subst hh
          have B2 := Lib.hid (belowT' B1.out b2)
          clear hq b2 e0 e1 e2 e3
          go_wp2_with fail
          go_meet
          exact ⟨by rw [HOKT.out, ← HZI.out]; rfl, B2.out⟩
        · have h1 : (zc == 0) = false := by simpa using t1
          have hok : okE x = false := by rw [HOK.out]; simpa using t1
          have HOKF := Lib.hid hok
          clear t1 hok
          go_wp2_with fail
          rw [← hW]
          with_reducible refine HC.out.mono ?_
          rintro e w1 ⟨rfl, b1⟩
          have b1' := belowT' BW.out b1
          have B1 := Lib.hid b1'
          clear b1 b1' d0 d1 d2 d3
          go_wp2_with fail
          go_meet
          exact ⟨by rw [HOKF.out]; rfl, B1.out⟩
      case rest =>
        obtain ⟨rfl, hbc⟩ := hcut
        obtain ⟨zz, hzz⟩ : ∃ zz, zz = (okE x && !inL o x) := ⟨_, rfl⟩
        rw [← hzz] at HFT ⊢
        have BC := Lib.hid hbc
        have HPC := Lib.hid (HP.out.below hbc)
        have HEC := Lib.hid (HEVr.out.below hbc)
        obtain ⟨e0, e1, e2, e3⟩ := HSX.out _ hbc
        clear hbc hzz d0 d1 d2 d3 hW
        cases zz with
        | true =>
          obtain ⟨vs, o1, hev1, hlen1, hb1, hm1⟩ := HPC.out
          have HM1 := Lib.hid hm1
          have HB1 := Lib.hid hb1
          have HI2 : Hid (Calls Try.prog 61 #[.slice L m d, .agg #[.slice K kn kc, .int .u64 (x.seq : Int), .int .u8 (x.kind : Int), .slice V vn vc]] wc (RetIns wc (m + 1) (insL o x) ([.slice K kn kc, .int .u64 (x.seq : Int), .int .u8 (x.kind : Int), .slice V vn vc] ++ vs))) := Lib.hid (Insert_any hev1 o1.rd hlen1 o1.cap.1 (by omega) HSO.out HEC.out hsx)
          clear o1 hev1 hlen1 hb1 hm1
          go_wp2_with fail
          with_reducible refine HI2.out.mono ?_
          intro e w3 hq
          obtain ⟨L3, d3', us, h1, o3, ev3, b3, hmem⟩ := RetIns.out hq
          subst h1
          have sC := HB1.out.size
          have HP2 : Hid (Spk w ovs (srt [] (es.take (k + 1))) L3 (m + 1) d3' w3) := Lib.hid (by
            rw [HFT.out, if_pos trivial]
            exact ⟨us, o3.mono sC, ev3, by rw [insL_len, hom], belowT' HB1.out b3, fun u hu => by
              rcases List.mem_append.1 (hmem u hu) with h | h
              · exact HMEM.out u h
              · exact HM1.out u h⟩)
          clear hq o3 ev3 b3 hmem e0 e1 e2 e3
          go_wp2_with fail
          go_roundw
          case rel => exact ⟨k + 1, m + 1, d3', L3, by omega, by go_num, rfl, HP2.out⟩
          case measure => simp [intOf]; omega
        | false =>
          have HP2 : Hid (Spk w ovs (srt [] (es.take (k + 1))) L m d wc) := Lib.hid (by
            rw [HFT.out, if_neg (by simp)]
            exact HPC.out)
          clear e0 e1 e2 e3
          go_wp2_with fail
          go_roundw
          case rel => exact ⟨k + 1, m, d, L, by omega, by go_num, rfl, HP2.out⟩
          case measure => simp [intOf]; omega
    · have htk := take_all HL.out hlt
      rw [htk] at HP
      clear htk
      go_wp2
      go_ret
      exact HP.out.ret
end Go.Proofs.Ytheefpgokdejcaa
namespace Go.Proofs.Ytheefpgokdejcaa
open Go Go.RowKit

theorem size_of_tot2 {es : List En} (ht : totE es ≤ 2097152) : ∀ x ∈ es, wE x ≤ 2097152 := fun x hx => by
  have := totE_mem hx
  omega
theorem szE_of {x : En} (h : wE x ≤ 2097152) : SzE x := by
  unfold wE at h
  exact ⟨by omega, by omega⟩
theorem szL_le : ∀ {es : List En}, (∀ x ∈ es, wE x ≤ 2097152) → szL es ≤ 2097152 * es.length
  | [], _ => by simp [szL]
  | e :: t, h => by
    have h1 := h e (by simp)
    have h2 := szL_le (es := t) (fun x hx => h x (by simp [hx]))
    simp only [szL, List.length_cons]
    omega
/-- The tree's Put of many is the list's. -/
theorem putZ_ref {t : Tr} {xs : List En} (hs : SortL t.list) : (putZ t xs).1 = (refPut t.list xs).1 ∧ (putZ t xs).2.list = (refPut t.list xs).2 ∧ SortL (putZ t xs).2.list ∧ (∀ x ∈ (putZ t xs).2.list, x ∈ t.list ∨ x ∈ xs) ∧ (putZ t xs).2.list.length ≤ t.list.length + xs.length := by
  obtain ⟨k1, k2⟩ := insAll_ref xs (t := t) hs
  unfold putZ refPut
  by_cases h0 : checkE xs = 0
  · rw [if_pos h0, if_pos h0]
    cases hi : insAll t xs with
    | none =>
      rw [k2 hi]
      exact ⟨rfl, rfl, hs, fun x h => .inl h, Nat.le_add_right _ _⟩
    | some t' =>
      obtain ⟨e1, e2⟩ := k1 t' hi
      rw [e1]
      exact ⟨rfl, rfl, e2, fun x h => refIns_mem e1 x h, Nat.le_of_eq (refIns_len e1)⟩
  · rw [if_neg h0, if_neg h0]
    exact ⟨rfl, rfl, hs, fun x h => .inl h, Nat.le_add_right _ _⟩
theorem pairE_drop : ∀ (es : List En) {vs : List Value} (i : Nat) {e : En} {v0 v3 : Value}, vs.length = es.length * 4 → es[i]? = some e → vs[i * 4]? = some v0 → vs[i * 4 + 3]? = some v3 →
    (pairE es vs).drop (2 * i) = (v0, e.key) :: (v3, e.val) :: (pairE es vs).drop (2 * (i + 1))
  | [], _, i, _, _, _, _, h, _, _ => by simp at h
  | e :: es, vs, i, x, v0, v3, hv, he, h0, h3 => by
    obtain ⟨x0, x1, x2, x3, r, rfl, hr⟩ := four_of hv
    cases i with
    | zero =>
      simp at he h0 h3
      subst he h0 h3
      simp [pairE]
    | succ i =>
      have e0 : (i + 1) * 4 = i * 4 + 4 := by omega
      have e3 : (i + 1) * 4 + 3 = i * 4 + 3 + 4 := by omega
      rw [e0] at h0
      rw [e3] at h3
      have ih := pairE_drop es (vs := r) i hr (by simpa using he) (by simpa using h0) (by simpa using h3)
      have e4 : 2 * (i + 1) = 2 * i + 2 := by omega
      have e5 : 2 * (i + 1 + 1) = 2 * (i + 1) + 2 := by omega
      simp only [pairE]
      rw [e4, e5]
      simp only [List.drop_succ_cons]
      exact ih
theorem Fam.tail {w : World} {base : Nat} {p : VB} {ps : List VB} (h : Fam w base (p :: ps)) : Fam w base ps := ⟨fun q hq => h.1 q (by simp [hq]), (List.pairwise_cons.1 h.2).2⟩
theorem Fam.head_off {w : World} {base : Nat} {p : VB} {ps : List VB} (h : Fam w base (p :: ps)) {b : Nat} (hb : Value.ownBlock p.1 = some b) : OffF ps b := fun q hq e => (List.pairwise_cons.1 h.2).1 q hq b hb e
/-- Blocks of bytes alone are written to. -/
theorem FrB.of_bytes {G : Nat → Prop} {w w' : World} {base n c : Nat} {A : Option Addr} {xs : List UInt8} (ho : Own 5 w base A n c xs) (hG : ∀ b, blk A = some b → ¬ G b) (hg : w.grownBy w' (blk A)) : FrB G w w' := fun b us ty hc hk => by
  refine hc.grown hg (fun e => ?_)
  rcases hk with ⟨_, h⟩ | ⟨h, _⟩
  · exact hG b e h
  · exact cl_row hc ho h e
theorem RG.reg {G H : Nat → Prop} {w : World} {A : Option Addr} {n : Nat} {es : List En} (h : RG G w A n es) (hs : ∀ b, b < w.heap.size → G b → H b) : RG H w A n es := by
  have h0 := h.res
  obtain ⟨h1, vs, h2, h3, h4, h5⟩ := h
  refine ⟨h1, vs, h2, h3, fun A m c g hv hm hb => hs g (evs_lt h2 A m c g hv hm hb) (h4 A m c g hv hm hb), fun hn g hb => hs g ?_ (h5 hn g hb)⟩
  obtain ⟨b, off, rfl, hl⟩ := h0.pos hn
  injection hb with hb
  rw [← hb]; exact hl
theorem TB.lt {d : TypeId × List Value} {G : Nat → Prop} {w : World} {p : Nat} {t : Tr} (h : TB d G w p t) : p < w.heap.size := by
  obtain ⟨_, h, _⟩ := h
  exact h.lt
/-- What stands at the head of a round. -/
def St2 (w0 : World) (p : Nat) (M : Option Addr) (mn md : Nat) (t : Tr) (k : Nat) (wr : World) : Prop :=
  TB pl3 (fun _ => True) wr p t ∧ RG (fun b => b ≠ p) wr M mn t.list ∧ mn ≤ md ∧ Below w0.heap.size w0 wr ∧ SortL t.list ∧ (∀ x ∈ t.list, wE x ≤ 2097152) ∧ t.list.length ≤ 30 * k
theorem cutN_h {P : Program} {t e : TypeId} {N : Nat} (ht : P.underlying t = some (.slice e)) (he : P.elem t = e) (hs : ∀ w, (sizeOf e).run P w = .ok N w)
    (A : Option Addr) {n cap m : Nat} (hm : m ≤ cap) (w : World) :
    (Instr.slice t (.slice A n cap) none (some (.int .i64 (m : Int))) none).run P w = .ok (.slice A m cap) w := by
  subst he
  rw [run_slice_h w t A n cap ht .i64 (m : Int) (by omega) (by omega)]
  simp only [hs, Result.andThen, sliced, Int.toNat_natCast, Nat.zero_mul, Nat.sub_zero]
  cases A <;> simp [Addr.add]
set_option maxRecDepth 100000 in
theorem elemLs : Try.prog.elem 22 = 27 := by kernel_rfl
set_option maxRecDepth 100000 in
theorem sizeLs (w : World) : (sizeOf 27).run Try.prog w = .ok 1 w := by kernel_rfl
set_option maxRecDepth 100000 in
theorem elemAk : Try.prog.elem 23 = 42 := by kernel_rfl
set_option maxRecDepth 100000 in
theorem sizeAk (w : World) : (sizeOf 42).run Try.prog w = .ok 3 w := by kernel_rfl
theorem ownE_kept2 {w w' : World} {base n c : Nat} {A : Option Addr} {vs : List Value} {row : Option Nat} (h : OwnE w base A n c vs) (hg : w.grownBy w' row) (hne : ∀ b, blk A = some b → row ≠ some b) : OwnE w' base A n c vs := by
  refine World.ownsRow.kept h hg ?_
  rw [own_blk]
  cases hb : blk A with
  | none => exact .inl rfl
  | some b => exact .inr (fun e => hne b hb e.symm)
/-- What stands while the twins are written over; these are left. -/
def StI (w0 : World) (p : Nat) (G : Nat → Prop) (N : Option Addr) (nn nc : Nat) (vs : List Value) (L5 : Option Addr) (k5 : Nat) (t5 : Tr) (qs : List VB) (wr : World) : Prop :=
  TB pl3 G wr p t5 ∧ RG (fun b => G b ∧ b ≠ p) wr L5 k5 t5.list ∧ (∃ b, OwnE wr b N nn nc vs) ∧ (∃ b, Fam wr b qs) ∧ Below w0.heap.size w0 wr
theorem StI.step {w0 wr w' : World} {p : Nat} {G : Nat → Prop} {N : Option Addr} {nn nc : Nat} {vs : List Value} {L5 : Option Addr} {k5 : Nat} {t5 : Tr} {qs : List VB} {K : Option Addr} {kn kc : Nat} {xs : List UInt8} (h : StI w0 p G N nn nc vs L5 k5 t5 ((.slice K kn kc, xs) :: qs) wr)
    (hG : ∀ b, blk K = some b → ¬ G b) (hb : ∀ b, blk K = some b → w0.heap.size ≤ b) (hg : wr.grownBy w' (blk K)) : StI w0 p G N nn nc vs L5 k5 t5 qs w' := by
  obtain ⟨h1, h2, ⟨c1, h3⟩, ⟨c2, h4⟩, h5⟩ := h
  have ho : Own 5 wr c2 K kn kc xs := mem_own2 h4 (by simp)
  exact ⟨h1.fr okB_tab (FrB.of_bytes ho hG hg), h2.good (FrG.of_grown hg (fun g e hh => hG g e hh.1)), ⟨c1, ownE_kept2 h3 hg (fun b e e2 => row_ne h3 ho (by decide) b e e2)⟩, ⟨c2, h4.tail.kept hg (fun b e => h4.head_off (by rw [own_blk]; exact e))⟩, h5.grown hg h5.size hb⟩
theorem StI.own {w0 wr : World} {p : Nat} {G : Nat → Prop} {N : Option Addr} {nn nc : Nat} {vs : List Value} {L5 : Option Addr} {k5 : Nat} {t5 : Tr} {qs : List VB} {K : Option Addr} {kn kc : Nat} {xs : List UInt8} (h : StI w0 p G N nn nc vs L5 k5 t5 ((.slice K kn kc, xs) :: qs) wr) : ∃ b, Own 5 wr b K kn kc xs := by
  obtain ⟨_, _, _, ⟨c2, h4⟩, _⟩ := h
  exact ⟨c2, mem_own2 h4 (by simp)⟩
def zeE2 : En := ⟨[], 0, 0, []⟩
/-- What Get hands back, in one form. -/
theorem RetGt.both {w : World} {o : Option En} {e : Ending} {w' : World} (h : RetGt w o e w') (hw : ∀ x, o = some x → U64 x.seq ∧ x.kind < 256) : ∃ K kn kc V vn vc, e = .returned (.tuple #[.agg #[.slice K kn kc, .int .u64 ((o.getD zeE2).seq : Int), .int .u8 ((o.getD zeE2).kind : Int), .slice V vn vc], .bool o.isSome]) ∧
    EO w.heap.size w' (o.getD zeE2) (.slice K kn kc) (.int .u64 ((o.getD zeE2).seq : Int)) (.int .u8 ((o.getD zeE2).kind : Int)) (.slice V vn vc) ∧ Dj K V ∧ Below w.heap.size w w' := by
  rcases h with ⟨rfl, rfl, h⟩ | ⟨x, K, kn, kc, V, vn, vc, rfl, rfl, o1, o2, h, dj⟩
  · exact ⟨none, 0, 0, none, 0, 0, rfl, ⟨none, 0, 0, none, 0, 0, rfl, rfl, rfl, rfl, Own.nil _ _ _, Own.nil _ _ _, by unfold U64; simp [zeE2], by simp [zeE2]⟩, (fun b h => by cases h), h⟩
  · exact ⟨K, kn, kc, V, vn, vc, rfl, ⟨K, kn, kc, V, vn, vc, rfl, rfl, rfl, rfl, o1, o2, hw x rfl⟩, dj, h⟩
theorem RetGl.both {w : World} {o : Option En} {e : Ending} {w' : World} (h : RetGl w o e w') : ∃ v0 v1 v2 v3, e = .returned (.tuple #[.agg #[v0, v1, v2, v3], .bool o.isSome]) ∧ EV w' (o.getD zeE2) v0 v1 v2 v3 ∧ Below w.heap.size w w' := by
  rcases h with ⟨rfl, rfl, h⟩ | ⟨x, v0, v1, v2, v3, rfl, rfl, h1, h2⟩
  · exact ⟨_, _, _, _, rfl, ⟨rfl, rfl, by unfold U64; simp [zeE2], by simp [zeE2], ⟨none, 0, 0, rfl, Rd.nil _ _, Nat.le_refl _, fun _ => rfl⟩, ⟨none, 0, 0, rfl, Rd.nil _ _, Nat.le_refl _, fun _ => rfl⟩⟩, h⟩
  · exact ⟨_, _, _, _, rfl, h1, h2⟩
theorem findL_sz2 {key : List UInt8} {at_ : Nat} {es : List En} (hs : ∀ x ∈ es, wE x ≤ 2097152) : wE ((findL key at_ es).getD zeE2) ≤ 2097152 := by
  cases h : findL key at_ es with
  | none => simp [zeE2, wE]
  | some x => exact hs x (List.mem_of_find?_eq_some h)
/-- 'A copy of these bytes.' -/
def Ow (w : World) (C : Option Addr) (cn cc : Nat) (xs : List UInt8) : Prop := ∃ b, Own 5 w b C cn cc xs
theorem Ow.mk {w : World} {b : Nat} {C : Option Addr} {cn cc : Nat} {xs : List UInt8} (h : Own 5 w b C cn cc xs) : Ow w C cn cc xs := ⟨b, h⟩
theorem Ow.below {w w' : World} {C : Option Addr} {cn cc : Nat} {xs : List UInt8} (h : Ow w C cn cc xs) (hb : Below w.heap.size w w') : Ow w' C cn cc xs := by
  obtain ⟨b, h⟩ := h
  exact ⟨b, h.below hb⟩
theorem EO.set2 {w : World} {base g : Nat} {e : En} {v0 v1 v2 v3 : Value} (h : EO base w e v0 v1 v2 v3) (hg : g < base) (i : Nat) (v : Value) : EO base (w.setCell ⟨g, i, none⟩ v) e v0 v1 v2 v3 := by
  obtain ⟨K, kn, kc, V, vn, vc, h1, h2, h3, h4, o1, o2, u⟩ := h
  exact ⟨K, kn, kc, V, vn, vc, h1, h2, h3, h4, o1.set hg i v, o2.set hg i v, u⟩
theorem EO.owns {w : World} {base kn kc vn vc : Nat} {e : En} {K V : Option Addr} {s1 s2 : Value} (h : EO base w e (.slice K kn kc) s1 s2 (.slice V vn vc)) : Own 5 w base K kn kc e.key ∧ Own 5 w base V vn vc e.val := by
  obtain ⟨K', kn', kc', V', vn', vc', e1, _, _, e4, o1, o2, _⟩ := h
  injection e1 with a1 a2 a3
  injection e4 with b1 b2 b3
  subst a1 a2 a3 b1 b2 b3
  exact ⟨o1, o2⟩
theorem betw_all2 {t : Tr} (hs : SortL t.list) : betw [] [] t = t.list := by
  rw [betw_list [] [] hs, List.filter_eq_self]
  intro x _
  unfold inR
  have h : 0 ≤ cmpB x.key [] := by cases x.key <;> simp [cmpB]
  simp [h]
/-- The box of an answer, filled. -/
def Bx (W1 : World) (y : En) (z : Bool) (s16 s17 : Value) (wx : World) : Prop :=
  ∃ (g base : Nat) (C : Option Addr) (cn cc : Nat) (D : Option Addr) (dn dc : Nat), s16 = .pointer (some ⟨g, 0, none⟩) ∧ s17 = .bool z ∧ Below W1.heap.size W1 wx ∧ Cl wx g #[.slice C cn cc, .int .u64 (y.seq : Int), .int .u8 (y.kind : Int), .slice D dn dc] 38 ∧ EO base wx y (.slice C cn cc) (.int .u64 (y.seq : Int)) (.int .u8 (y.kind : Int)) (.slice D dn dc) ∧ Dj C D ∧ W1.heap.size ≤ base
theorem Bx.put {W1 w5 X : World} {y : En} {z : Bool} {g base cn cc dn dc : Nat} {C D : Option Addr} {q : Array Value} (hb : Below W1.heap.size W1 w5) (hz : Cl w5 g q 38) (hq : q.size = 4) (hg : W1.heap.size ≤ g) (hgb : g < base) (he : EO base w5 y (.slice C cn cc) (.int .u64 (y.seq : Int)) (.int .u8 (y.kind : Int)) (.slice D dn dc)) (dj : Dj C D)
    (hX : X = ((((w5.setCell ⟨g, 0, none⟩ (.slice C cn cc)).setCell ⟨g, 1, none⟩ (.int .u64 (y.seq : Int))).setCell ⟨g, 2, none⟩ (.int .u8 (y.kind : Int))).setCell ⟨g, 3, none⟩ (.slice D dn dc))) : Bx W1 y z (.pointer (some ⟨g, 0, none⟩)) (.bool z) X := by
  subst hX
  exact ⟨g, base, C, cn, cc, D, dn, dc, rfl, rfl, below_set (below_set (below_set (below_set hb 0 _ hg) 1 _ hg) 2 _ hg) 3 _ hg, hz.put4 hq _ _ _ _, (((he.set2 hgb 0 _).set2 hgb 1 _).set2 hgb 2 _).set2 hgb 3 _, dj, by omega⟩
theorem Bx.new {W1 w5 : World} {y : En} {z : Bool} {base cn cc dn dc : Nat} {C D : Option Addr} (hb : Below W1.heap.size W1 w5) (hgb : W1.heap.size ≤ base) (he : EO base w5 y (.slice C cn cc) (.int .u64 (y.seq : Int)) (.int .u8 (y.kind : Int)) (.slice D dn dc)) (dj : Dj C D) :
    Bx W1 y z (.pointer (some ⟨w5.heap.size, 0, none⟩)) (.bool z) (w5.alloc (.cells #[.slice C cn cc, .int .u64 (y.seq : Int), .int .u8 (y.kind : Int), .slice D dn dc] 38)) :=
  ⟨_, base, C, cn, cc, D, dn, dc, rfl, rfl, hb.alloc hb.size _, Cl.new _ _ _, he.below ((Below.refl _ _).alloc (Nat.le_refl _) _), dj, hgb⟩
def RetRs (w : World) (es : List En) (e : Ending) (w' : World) : Prop := ∃ L k d, e = .returned (.slice L k d) ∧ REs w' L k es ∧ Below w.heap.size w w'
theorem RetRs.out {w : World} {es : List En} {e : Ending} {w' : World} (h : RetRs w es e w') : ∃ L k d, e = .returned (.slice L k d) ∧ REs w' L k es ∧ Below w.heap.size w w' := h
/-- What stands at the head of a round of asks. -/
def St3 (w0 : World) (p : Nat) (M : Option Addr) (mn : Nat) (t : Tr) (wr : World) : Prop :=
  TB pl3 (fun _ => True) wr p t ∧ RG (fun b => b ≠ p) wr M mn t.list ∧ Below w0.heap.size w0 wr
set_option maxRecDepth 100000 in
set_option maxHeartbeats 32000000 in
theorem memTables_row (A : Option Addr) (n c : Nat) (ls : List (List En)) (B : Option Addr) (m d : Nat) (ak : List AskP) (w : World) (hr : RLs w A n ls) (hc : n ≤ c) (ht : totLs ls ≤ 2097152) (hk : RAk w B m ak) (hmd : m ≤ d) (hta : totAk ak ≤ 1048576) :
    Calls Try.prog 3 #[.slice A n c, .slice B m d] w (RetT w true) := by
  have hlsz : ∀ es ∈ ls, ∀ x ∈ es, wE x ≤ 2097152 := fun es he x hx => by
    have h1 := totLs_mem he
    exact size_of_tot2 (by omega) x hx
  have hasz : ∀ a ∈ ak, a.key.length ≤ 1048576 ∧ a.to.length ≤ 1048576 := fun a ha => by
    have := totAk_mem ha
    unfold wAk at this
    omega
  have hn : n ≤ 2097152 := by have := totLs_len ls; have := hr.1; omega
  have hm : m ≤ 1048576 := by have := totAk_len ak; have := hk.1; omega
  have HLS := Lib.hid hr
  have HAK := Lib.hid hk
  have HLZ := Lib.hid hlsz
  have HAZ := Lib.hid hasz
  have HL := Lib.hid hr.1
  have HLA := Lib.hid hk.1
  clear hr hk hlsz hasz
  go_enter Try.func3, Try.ntmps3
  go_wp2_with fail
  with_reducible refine (awake7_any w).mono ?_
  rintro e w1 ⟨rfl, b1⟩
  have B1 := Lib.hid b1
  have s1 := b1.size
  clear b1
  obtain ⟨q, hq⟩ : ∃ q, q = min n 30 := ⟨_, rfl⟩
  obtain ⟨r, hr⟩ : ∃ r, r = min m 30 := ⟨_, rfl⟩
  have hqn : q ≤ n := by omega
  have hq30 : q ≤ 30 := by omega
  have hrm : r ≤ m := by omega
  have hr30 : r ≤ 30 := by omega
  have HQ := Lib.hid hq
  have HR := Lib.hid hr
  clear hq hr
  go_upto_if 24 with (fail)
  go_cut [0] (fun v w' => v = .slice A q c ∧ w1 = w')
  case first =>
    by_cases h3 : 30 < n
    · have hs : ∀ w, (Instr.slice 22 (.slice A n c) none (some (.int .i64 30)) none).run Try.prog w = .ok (.slice A 30 c) w := fun w => cutN_h (m := 30) Try.underlying22 elemLs sizeLs A (by omega) w
      have e1 : q = 30 := by have := HQ.out; omega
      go_wp2_with fail
      go_meet
      exact ⟨by rw [e1], rfl⟩
    · have e1 : q = n := by have := HQ.out; omega
      go_wp2_with fail
      go_meet
      exact ⟨by rw [e1], rfl⟩
  case rest =>
    obtain ⟨rfl, rfl⟩ := hcut
    go_upto_if 29 with (fail)
    go_cut [1] (fun v w' => v = .slice B r d ∧ w1 = w')
    case first =>
      by_cases h3 : 30 < m
      · have hs : ∀ w, (Instr.slice 23 (.slice B m d) none (some (.int .i64 30)) none).run Try.prog w = .ok (.slice B 30 d) w := fun w => cutN_h (m := 30) Try.underlying23 elemAk sizeAk B (by omega) w
        have e1 : r = 30 := by have := HR.out; omega
        go_wp2_with fail
        go_meet
        exact ⟨by rw [e1], rfl⟩
      · have e1 : r = m := by have := HR.out; omega
        go_wp2_with fail
        go_meet
        exact ⟨by rw [e1], rfl⟩
    case rest =>
      obtain ⟨rfl, rfl⟩ := hcut
      go_wp2_with fail
      with_reducible refine (memNew_any (fun _ => True) w1).mono ?_
      rintro e w2 ⟨rfl, t2, b2⟩
      have p2 : w1.heap.size < w2.heap.size := by obtain ⟨_, h, _⟩ := t2; exact h.lt
      obtain ⟨p, hp⟩ : ∃ p, p = w1.heap.size := ⟨_, rfl⟩
      rw [← hp] at t2 ⊢
      have hpw : w.heap.size ≤ p := by omega
      have H2 : Hid (St2 w p none 0 0 .nil 0 w2) := Lib.hid ⟨t2, RG.nil _ _ _, Nat.le_refl _, belowT B1.out b2, List.Pairwise.nil, (fun x hx => by cases hx), Nat.le_refl _⟩
      clear t2 b2 hp p2
      go_wp2_with fail
      go_loopw [6, 35] (fun s6 s35 wr => ∃ (k mn md : Nat) (M : Option Addr) (t : Tr), k ≤ q ∧ s35 = .int .i64 (k : Int) ∧ s6 = .slice M mn md ∧ St2 w p M mn md t k wr) (fun _ s _ => q - (intOf s).toNat)
      case atStart => exact ⟨0, 0, 0, none, .nil, Nat.zero_le _, rfl, rfl, H2.out⟩
      case round =>
        obtain ⟨k, mn, md, M, t, hk, rfl, rfl, hst⟩ := hrel
        have HST := Lib.hid hst
        clear hst
        by_cases hlt : k < q
        · -- A0
          obtain ⟨hT, hG, hmd', hB, hso, hsz, hlen⟩ := HST.out
          have hpr := hT.lt
          have hBs := hB.size
          obtain ⟨b, off, hAe, hbl⟩ : ∃ b off, A = some ⟨b, off, none⟩ ∧ b < w.heap.size := HLS.out.pos (by omega)
          subst hAe
          obtain ⟨es, L, ln, lc, hes, d0, hre, hlc⟩ := HLS.out.at_ k (by omega)
          have c0 := (hB.cell (p := ⟨b, off + k, none⟩) hbl).trans d0
          obtain ⟨u, hu⟩ : ∃ u, u = min ln 30 := ⟨_, rfl⟩
          obtain ⟨es', hes'⟩ : ∃ es', es' = es.take u := ⟨_, rfl⟩
          have hreU : REs w L u es' := by
            obtain ⟨vs, h1, h2⟩ := hre.takeV (m := u) (by omega)
            rw [hes']
            exact REs.mk h1 h2 (by rw [List.length_take, hre.len]; omega)
          have hez : ∀ x ∈ es', wE x ≤ 2097152 := fun x hx => HLZ.out es (List.mem_of_getElem? hes) x (by rw [hes'] at hx; exact List.mem_of_mem_take hx)
          have hel : es'.length ≤ 30 := by rw [hreU.len]; omega
          have HF : Hid (Calls Try.prog 17 #[.slice L ln lc, .int .i64 30] wr fun e w' => e = .returned (.slice L u lc) ∧ w' = wr) := Lib.hid (by rw [hu]; exact few_any L ln lc 30 hlc)
          have HTW : Hid (Calls Try.prog 18 #[.slice L u lc] wr (RetRow wr es')) := Lib.hid (Twins_any (hreU.below hB) (by omega) (fun x hx => szE_of (hez x hx)))
          have hul : u ≤ lc := by omega
          have HRU := Lib.hid hreU
          have HEZ := Lib.hid hez
          have HSO := Lib.hid hso
          have HSZ := Lib.hid hsz
          have HBr := Lib.hid hB
          have TR := Lib.hid hT
          have GR := Lib.hid hG
          clear hT hG hB hso hsz hes d0 hre hu hes' hreU hez
          go_wp2_with fail
          with_reducible refine HF.out.mono ?_
          rintro e wx ⟨rfl, rfl⟩
          go_wp2_with fail
          with_reducible refine HTW.out.mono ?_
          intro e w3 hq
          obtain ⟨N, nn, nc, h1, hrow⟩ := hq
          subst h1
          obtain ⟨vs, oN, eN, _, hnl, b3, _, fN⟩ := hrow
          have s3 := b3.size
          obtain ⟨G, hG⟩ : ∃ G : Nat → Prop, G = fun b => (b < wx.heap.size ∨ w3.heap.size ≤ b) := ⟨_, rfl⟩
          have hG1 : ∀ b, b < wx.heap.size → G b := fun b hb => by rw [hG]; exact .inl hb
          have hG2 : ∀ b, w3.heap.size ≤ b → G b := fun b hb => by rw [hG]; exact .inr hb
          have hG3 : ∀ b, wx.heap.size ≤ b → b < w3.heap.size → ¬ G b := fun b h1 h2 h3 => by rw [hG] at h3; rcases h3 with h | h <;> omega
          have T3 : TB pl3 G w3 p t := (TR.out.reg (H := G) (fun b hb _ => hG1 b hb)).below b3
          have G3 : RG (fun b => G b ∧ b ≠ p) w3 M mn t.list := (GR.out.reg (H := fun b => G b ∧ b ≠ p) (fun b hb h => ⟨hG1 b hb, h⟩)).below b3
          have U3 : RG (fun b => G b ∧ b ≠ p) w3 L u es' := ((HRU.out.lt).mono (fun b (hb : b < w.heap.size) => ⟨hG1 b (by omega), by omega⟩)).below (HBr.out.trans (b3.mono HBr.out.size))
          have hpz := putZ_ref (xs := es') HSO.out
          have htn : t.num + nn + 1 ≤ 1099511627776 := by rw [num_list]; omega
          have htz : t.sz + szL es' ≤ 1099511627776 := by
            have h1 := szL_le HSZ.out
            have h2 := szL_le HEZ.out
            show szL t.list + _ ≤ _
            omega
          have HPT : Hid (Calls Try.prog 19 #[.pointer (some ⟨p, 0, none⟩), .slice N nn nc] w3 (RetPt pl3 G w3 p (putZ t es'))) := Lib.hid (tabPut_any T3 (REs.mk eN.evs oN.rd hnl) (by omega) (fun x hx => szE_of (HEZ.out x hx)) htn htz hG2)
          have HB3 := Lib.hid (HBr.out.trans (b3.mono HBr.out.size))
          have hfb : ∀ q ∈ pairE es' vs, ∀ b, Value.ownBlock q.1 = some b → wx.heap.size ≤ b ∧ b < w3.heap.size := fun q hq b hb => fN.lt hq hb
          have HFB := Lib.hid hfb
          have ON := Lib.hid oN
          have FN := Lib.hid fN
          have T3 := Lib.hid T3
          have G3 := Lib.hid G3
          have U3 := Lib.hid U3
          have HPZ := Lib.hid hpz
          have HG3 := Lib.hid hG3
          have HG2 := Lib.hid hG2
          have EN := Lib.hid eN
          clear oN eN b3 fN hG hG1 hG2 hG3 hpz hfb HTW HF
          go_wp2_with fail
          with_reducible refine HPT.out.mono ?_
          obtain ⟨z, hz⟩ : ∃ z, z = putZ t es' := ⟨_, rfl⟩
          obtain ⟨z1, t5⟩ := z
          rw [← hz]
          rintro e w4 ⟨rfl, t4, g4⟩
          have hz1 : (refPut t.list es').1 = z1 := by rw [← HPZ.out.1, ← hz]
          have hz2 : (refPut t.list es').2 = t5.list := by rw [← HPZ.out.2.1, ← hz]
          have hz3 : SortL t5.list := by have := HPZ.out.2.2.1; rw [← hz] at this; exact this
          have hz4 : ∀ x ∈ t5.list, wE x ≤ 2097152 := fun x hx => by
            have := HPZ.out.2.2.2.1 x (by rw [← hz]; exact hx)
            rcases this with h | h
            · exact HSZ.out x h
            · exact HEZ.out x h
          have hz5 : t5.list.length ≤ 30 * (k + 1) := by have := HPZ.out.2.2.2.2; rw [← hz] at this; simp only at this; omega
          have HZ1 := Lib.hid hz1
          have HZ2 := Lib.hid hz2
          have HZ3 := Lib.hid hz3
          have HZ4 := Lib.hid hz4
          have T4 := Lib.hid t4
          have hpne : ∀ g, some p = some g → ¬ ((G g) ∧ g ≠ p) := fun g hg h => h.2 (by injection hg with hg; exact hg.symm)
          have G4 := Lib.hid (G3.out.good (FrG.of_grown g4 hpne))
          have U4 := Lib.hid (U3.out.good (FrG.of_grown g4 hpne))
          obtain ⟨A3, hcl3, _, _⟩ := T3.out
          have ON4 := Lib.hid (ownE_kept2 ON.out g4 (fun b hb e => cl_row hcl3 ON.out (by decide) (by rw [hb]; exact e.symm)))
          have FN4 := Lib.hid (FN.out.kept g4 (fun b e => by injection e with e; subst e; exact FN.out.off_cl hcl3 (by decide)))
          have HB4 := Lib.hid (HB3.out.grown g4 HB3.out.size (fun k hk => by injection hk with hk; omega))
          have s4 := g4.size
          have HPA : Hid (Calls Try.prog 20 #[.slice M mn md, .slice L u lc] w4 (RetPA (fun b => G b ∧ b ≠ p) w4 (z1, t5.list))) := Lib.hid (by
            have := putAll_any (d := lc) G4.out hmd' U4.out (by have := G4.out.len; have := U4.out.len; omega) (fun x hx => szE_of (HSZ.out x hx)) (fun x hx => szE_of (HEZ.out x hx)) (fun b hb => ⟨HG2.out b (by omega), by omega⟩)
            rw [show refPut t.list es' = (z1, t5.list) from Prod.ext HZ1.out HZ2.out] at this
            exact this)
          clear hz hz1 hz2 hz3 hz4 t4 hpne hcl3 g4 HPT
          go_wp2_with fail
          with_reducible refine HPA.out.mono ?_
          intro e w5 hq
          obtain ⟨L5, k5, d5, h1, hg5, hk5, b5⟩ := RetPA.out hq
          subst h1
          have hl5 : t5.list.length = k5 := hg5.len
          have G5 := Lib.hid hg5
          have T5 := Lib.hid (T4.out.below b5)
          have ON5 := Lib.hid (OwnE.below ON4.out b5)
          have FN5 := Lib.hid (FN4.out.below b5)
          have HB5 := Lib.hid (HB4.out.trans (b5.mono HB4.out.size))
          have s5 := b5.size
          clear hq hg5 b5 HPA
          have lvs : vs.length = es'.length * 4 := by have := ON5.out.rd.1; omega
          have H5 : Hid (StI w p G N nn nc vs L5 k5 t5 ((pairE es' vs).drop (2 * 0)) w5) := Lib.hid ⟨T5.out, G5.out, ⟨_, ON5.out⟩, ⟨_, FN5.out⟩, HB5.out⟩
          clear T5 G5 ON5 FN5 HB5
          go_wp2_with fail
          obtain ⟨base, hbase⟩ : ∃ base, base = wx.heap.size := ⟨_, rfl⟩
          rw [← hbase] at HFB HG3
          go_loopw [54] (fun s54 wr => ∃ i : Nat, i ≤ nn ∧ s54 = .int .i64 (i : Int) ∧ StI w p G N nn nc vs L5 k5 t5 ((pairE es' vs).drop (2 * i)) wr) (fun s _ => nn - (intOf s).toNat)
          case atStart => exact ⟨0, Nat.zero_le _, rfl, H5.out⟩
          case round =>
            obtain ⟨i, hi, rfl, hst⟩ := hrel
            have HSI := Lib.hid hst
            clear hst
            by_cases hlti : i < nn
            · -- B0
              obtain ⟨x, hx⟩ : ∃ x, es'[i]? = some x := ⟨_, List.getElem?_eq_getElem (by omega)⟩
              obtain ⟨v0, v1, v2, v3, e0, e1, e2, e3, hev⟩ := EVs.at_ i EN.out.evs hx
              obtain ⟨K, kn, kc, V, vn, vc, rfl, rfl, rfl, rfl, _⟩ := hev.parts
              have hdr := pairE_drop es' i lvs hx e0 e3
              have hxz := HEZ.out x (List.mem_of_getElem? hx)
              unfold wE at hxz
              rw [hdr] at HSI
              have hmK : ∀ b, blk K = some b → base ≤ b ∧ b < w3.heap.size := fun b hb => HFB.out (.slice K kn kc, x.key) (by
                have h1 : (Value.slice K kn kc, x.key) ∈ (pairE es' vs).drop (2 * i) := by rw [hdr]; simp
                exact List.mem_of_mem_drop h1) b (by rw [own_blk]; exact hb)
              have hmV : ∀ b, blk V = some b → base ≤ b ∧ b < w3.heap.size := fun b hb => HFB.out (.slice V vn vc, x.val) (by
                have h1 : (Value.slice V vn vc, x.val) ∈ (pairE es' vs).drop (2 * i) := by rw [hdr]; simp
                exact List.mem_of_mem_drop h1) b (by rw [own_blk]; exact hb)
              obtain ⟨c1, hon⟩ := HSI.out.2.2.1
              obtain ⟨gN, oN, hNe, _, hcN⟩ := hon.rd.2 (by omega)
              subst hNe
              have hgN := hcN (i * 4) _ e0
              obtain ⟨c2, hoK⟩ := HSI.out.own
              have lK := hoK.len
              have HOV : Hid (Calls Try.prog 21 #[.slice K kn kc] wr fun e w' => e = .returned (.tuple #[]) ∧ wr.grownBy w' (blk K)) := Lib.hid (Over_own K kn kc c2 x.key wr hoK (by omega))
              have HKG := Lib.hid (fun b hb => HG3.out b (hmK b hb).1 (hmK b hb).2)
              have HVG := Lib.hid (fun b hb => HG3.out b (hmV b hb).1 (hmV b hb).2)
              have HKB : Hid (∀ b, blk K = some b → w.heap.size ≤ b) := Lib.hid (fun b hb => by have := (hmK b hb).1; omega)
              have HVB : Hid (∀ b, blk V = some b → w.heap.size ≤ b) := Lib.hid (fun b hb => by have := (hmV b hb).1; omega)
              have HE3 := Lib.hid e3
              clear hx e0 e1 e2 e3 hev hdr hmK hmV hon hcN hoK
              go_wp2_with fail
              with_reducible refine HOV.out.mono ?_
              rintro e w6 ⟨rfl, g6⟩
              have HS6 := Lib.hid (HSI.out.step HKG.out HKB.out g6)
              obtain ⟨c1', hon⟩ := HS6.out.2.2.1
              obtain ⟨gN', oN', hNe, _, hcN⟩ := hon.rd.2 (by omega)
              injection hNe with hNe
              injection hNe with hNe1 hNe2
              subst hNe1 hNe2
              have hgN3 := hcN (i * 4 + 3) _ HE3.out
              rw [← Nat.add_assoc] at hgN3
              obtain ⟨c3, hoV⟩ := HS6.out.own
              have lV := hoV.len
              have HOV2 : Hid (Calls Try.prog 21 #[.slice V vn vc] w6 fun e w' => e = .returned (.tuple #[]) ∧ w6.grownBy w' (blk V)) := Lib.hid (Over_own V vn vc c3 x.val w6 hoV (by omega))
              clear g6 hon hcN hoV HOV hgN
              go_wp2_with fail
              with_reducible refine HOV2.out.mono ?_
              rintro e w7 ⟨rfl, g7⟩
              have HS7 := Lib.hid (HS6.out.step HVG.out HVB.out g7)
              clear g7 HOV2 hgN3
              go_wp2_with fail
              go_roundw
              case rel => exact ⟨i + 1, by omega, by go_num, HS7.out⟩
              case measure => simp [intOf]; omega
              -- B1
            · obtain ⟨h1, h2, _, _, h5⟩ := HSI.out
              have TF := Lib.hid (h1.reg (H := fun _ => True) (fun _ _ _ => trivial))
              have GF := Lib.hid (h2.mono (H := fun b => b ≠ p) (fun b h => h.2))
              have HBF := Lib.hid h5
              have hnum : t5.num = k5 := by rw [num_list]; exact hl5
              have HLN : Hid (Calls Try.prog 22 #[.pointer (some ⟨p, 0, none⟩)] wr (RetNu wr (k5 : Int))) := Lib.hid (by
                have := len_any TF.out
                rw [hnum] at this
                exact this)
              have tz : (z1 != z1) = false := by simp
              have tk : ((k5 : Int) != (k5 : Int)) = false := by simp
              clear h1 h2 h5
              go_wp2_with fail
              with_reducible refine HLN.out.mono ?_
              rintro e w8 ⟨rfl, b8⟩
              have T8 := Lib.hid (TF.out.below b8)
              have G8 := Lib.hid (GF.out.below b8)
              have B8 := Lib.hid (HBF.out.trans (b8.mono HBF.out.size))
              have HSZ1 : Hid (Calls Try.prog 23 #[.pointer (some ⟨p, 0, none⟩)] w8 (RetNu w8 (szL t5.list : Int))) := Lib.hid (size_any T8.out)
              clear b8 HLN
              go_wp2_with fail
              with_reducible refine HSZ1.out.mono ?_
              rintro e w9 ⟨rfl, b9⟩
              have T9 := Lib.hid (T8.out.below b9)
              have G9 := Lib.hid (G8.out.below b9)
              have B9 := Lib.hid (B8.out.trans (b9.mono B8.out.size))
              have hszb := szL_le HZ4.out
              have HSZ2 : Hid (Calls Try.prog 24 #[.slice L5 k5 d5] w9 (RetNu w9 (szL t5.list : Int))) := Lib.hid (refSize_any G9.out.res (by omega) (by omega))
              have ts : ((szL t5.list : Int) != (szL t5.list : Int)) = false := by simp
              clear b9 HSZ1
              go_wp2_with fail
              with_reducible refine HSZ2.out.mono ?_
              rintro e wA ⟨rfl, bA⟩
              have HSTF : Hid (St2 w p L5 k5 d5 t5 (k + 1) wA) := Lib.hid ⟨T9.out.below bA, G9.out.below bA, hk5, B9.out.trans (bA.mono B9.out.size), HZ3.out, HZ4.out, hz5⟩
              clear bA HSZ2
              go_wp2_with fail
              go_roundw
              case rel => exact ⟨k + 1, k5, d5, L5, t5, by omega, by go_num, rfl, HSTF.out⟩
              case measure => simp [intOf]; omega
          -- A1
        · obtain ⟨hT, hG, hmd', hB, hso, hsz, hlen⟩ := HST.out
          have H3 : Hid (St3 w p M mn t wr) := Lib.hid ⟨hT, hG, hB⟩
          have HSO := Lib.hid hso
          have HSZ := Lib.hid hsz
          have hmn : t.list.length = mn := hG.len
          have htn : t.num ≤ 1099511627776 := by rw [num_list]; omega
          have HTZ : Hid (∀ x ∈ t.list, SzE x) := Lib.hid (fun x hx => szE_of (hsz x hx))
          clear hT hG hB hso hsz HST
          go_wp2_with fail
          go_loopw [91] (fun s91 wr => ∃ j : Nat, j ≤ r ∧ s91 = .int .i64 (j : Int) ∧ St3 w p M mn t wr) (fun s _ => r - (intOf s).toNat)
          case atStart => exact ⟨0, Nat.zero_le _, rfl, H3.out⟩
          case round =>
            obtain ⟨j, hj, rfl, hst⟩ := hrel
            obtain ⟨hT, hG, hB⟩ := hst
            by_cases hltj : j < r
            · obtain ⟨b, off, hBe, hbl⟩ : ∃ b off, B = some ⟨b, off, none⟩ ∧ b < w.heap.size := HAK.out.pos (by omega)
              subst hBe
              obtain ⟨a, v0, v1, ha, d0, d1, d2, ⟨K, kn, kc, rfl, rK, hkc, hkn⟩, ⟨V, vn, vc, rfl, rV, hvc, hvn⟩, hat⟩ := HAK.out.at_ j (by omega)
              have c0 := (hB.cell (p := ⟨b, off + j * 3, none⟩) hbl).trans d0
              have c1 := (hB.cell (p := ⟨b, off + j * 3 + 1, none⟩) hbl).trans d1
              have c2 := (hB.cell (p := ⟨b, off + j * 3 + 2, none⟩) hbl).trans d2
              have haz := HAZ.out a (List.mem_of_getElem? ha)
              obtain ⟨ka, hka⟩ : ∃ ka, ka = a.key := ⟨_, rfl⟩
              obtain ⟨ta, hta'⟩ : ∃ ta, ta = a.to := ⟨_, rfl⟩
              obtain ⟨qa, hqa⟩ : ∃ qa, qa = a.at_ := ⟨_, rfl⟩
              rw [← hka] at rK haz
              rw [← hta'] at rV haz
              rw [← hqa] at c2 hat
              have lK := rK.len
              have lV := rV.len
              obtain ⟨W1, hW1⟩ : ∃ W1, W1 = wr.alloc (.cells #[.slice K kn kc, .slice V vn vc, .int .u64 (qa : Int)] 42) := ⟨_, rfl⟩
              have bW1 : Below wr.heap.size wr W1 := by rw [hW1]; exact (Below.refl _ _).alloc (Nat.le_refl _) _
              have xW1 : Cl W1 wr.heap.size #[.slice K kn kc, .slice V vn vc, .int .u64 (qa : Int)] 42 := by rw [hW1]; exact Cl.new _ _ _
              have HX1 : Hid (∀ wx, Below W1.heap.size W1 wx → Cl wx wr.heap.size #[.slice K kn kc, .slice V vn vc, .int .u64 (qa : Int)] 42) := Lib.hid (fun wx hb => xW1.below hb)
              have T1 : Hid (TB pl3 (fun b => b < W1.heap.size) W1 p t) := Lib.hid ((hT.below bW1).reg (fun b hb _ => hb))
              have G1 : Hid (RG (fun b => b < W1.heap.size ∧ b ≠ p) W1 M mn t.list) := Lib.hid ((hG.below bW1).reg (fun b hb h => ⟨hb, h⟩))
              have HB1 : Hid (Below w.heap.size w W1) := Lib.hid (hB.trans (bW1.mono hB.size))
              have hw1 : w.heap.size ≤ W1.heap.size := Nat.le_trans hB.size bW1.size
              have RK1 := Lib.hid (rK.below HB1.out)
              have RV1 := Lib.hid (rV.below HB1.out)
              obtain ⟨o, ho⟩ : ∃ o, o = findL ka qa t.list := ⟨_, rfl⟩
              have HO := Lib.hid ho
              have HOW : Hid (∀ x, o = some x → U64 x.seq ∧ x.kind < 256) := Lib.hid (fun x hx => G1.out.res.wf x (List.mem_of_find?_eq_some (ho ▸ hx)))
              have HC1 : Hid (∀ wx, Below W1.heap.size W1 wx → Calls Try.prog 26 #[.slice K kn kc] wx (Made wx.heap.size wx ka)) := Lib.hid (fun wx hb => Copy_any K kn kc ka wx (RK1.out.below hb) (by omega))
              have HC2 : Hid (∀ wx, Below W1.heap.size W1 wx → Calls Try.prog 26 #[.slice V vn vc] wx (Made wx.heap.size wx ta)) := Lib.hid (fun wx hb => Copy_any V vn vc ta wx (RV1.out.below hb) (by omega))
              have HGT : Hid (∀ wx C cn cc, Below W1.heap.size W1 wx → Ow wx C cn cc ka → Calls Try.prog 25 #[.pointer (some ⟨p, 0, none⟩), .slice C cn cc, .int .u64 (qa : Int)] wx (RetGt wx o)) := Lib.hid (fun wx C cn cc hb hw => by
                obtain ⟨b0, hw⟩ := hw
                rw [ho, ← tabGet_list HSO.out]
                exact tabGet_any (T1.out.below hb) HTZ.out hw.rd hw.cap.1 (fun h => (hw.nil_of (by rw [h]; rfl)).2.2) hat)
              obtain ⟨z, hz⟩ : ∃ z, z = o.isSome := ⟨_, rfl⟩
              obtain ⟨y, hy⟩ : ∃ y, y = o.getD zeE2 := ⟨_, rfl⟩
              have HZ := Lib.hid hz
              have HY := Lib.hid hy
              have hyz : wE y ≤ 2097152 := by rw [hy, ho]; exact findL_sz2 HSZ.out
              have HYZ := Lib.hid (szE_of hyz)
              unfold wE at hyz
              have hB0 : Below W1.heap.size W1 W1.drew := (Below.refl _ _).drew
              clear hT hG hB ha d0 d1 d2 rK rV hka hta' hqa bW1 xW1 ho hz hy
              go_upto_region 29 with (fail)
              rw [← hW1]
              clear hW1 c0 c1 c2
              obtain ⟨c0, c1, c2, _⟩ := (HX1.out _ (Below.refl _ _)).c3
              have hA0 : ∀ o, (W1.alloc o).cell? ⟨wr.heap.size, 0, none⟩ = some (.slice K kn kc) ∧ (W1.alloc o).cell? ⟨wr.heap.size, 2, none⟩ = some (.int .u64 (qa : Int)) := fun o => by
                obtain ⟨q0, q1, q2, _⟩ := (HX1.out _ ((Below.refl _ _).alloc (Nat.le_refl _) o)).c3
                exact ⟨q0, q2⟩
              have hA1 := fun o => (hA0 o).1
              have hA2 := fun o => (hA0 o).2
              have hBA : Hid (∀ o, Below W1.heap.size W1 (W1.alloc o).drew) := Lib.hid (fun o => ((Below.refl _ _).alloc (Nat.le_refl _) o).drew)
              have hZ0 : Cl (W1.alloc (.cells #[.slice none 0 0, .int .u64 0, .int .u8 0, .slice none 0 0] 38)).drew W1.heap.size #[.slice none 0 0, .int .u64 0, .int .u8 0, .slice none 0 0] 38 := Cl.new W1 _ _
              have HZ0 := Lib.hid hZ0
              clear hA0 hZ0
              go_cut [16, 17] from 96 to 105 (fun s16 s17 wx => Bx W1 y z s16 s17 wx)
              case first =>
                -- D0
                go_region_law (first | (go_simp; go_at_call 26; with_reducible refine (HC1.out _ (by first | exact hB0 | exact hBA.out _)).mono ?_; intro e1 w4 hq; obtain ⟨C4, cn4, cc4, h4, o4, b4⟩ := Made.out hq; subst h4; have b4' : Below W1.heap.size W1 w4 := (by first | exact belowT hB0 b4 | exact belowT (hBA.out _) b4); have w4w := Ow.mk o4; have s4 := b4'.size; (try (have z4 := HZ0.out.below b4)); obtain ⟨p0, p1, p2, _⟩ := (HX1.out _ b4').c3; have pA := fun o => (HX1.out _ (b4'.alloc b4'.size o)).c3.1; have pB := fun o => (HX1.out _ (b4'.alloc b4'.size o)).c3.2.2.1) | (go_simp; go_at_call 25; with_reducible refine (HGT.out _ _ _ _ (by first | exact b4' | exact b4'.alloc b4'.size _) (by first | exact w4w | exact w4w.below ((Below.refl _ _).alloc (Nat.le_refl _) _))).mono ?_; intro e1 w5 hq; obtain ⟨C, cn, cc, D, dn, dc, h5, eo5, dj5, b5⟩ := RetGt.both hq HOW.out; subst h5; have b5' : Below W1.heap.size W1 w5 := (by first | exact belowT b4' b5 | exact belowT (b4'.alloc b4'.size _) b5); rw [← HY.out, ← HZ.out]; rw [← HY.out] at eo5; (try (have z5 := (Cl.new w4 #[.slice none 0 0, .int .u64 0, .int .u8 0, .slice none 0 0] 38).below b5; obtain ⟨g0, g1, g2, g3, k0, k1, k2, k3⟩ := z5.c4)); (try (have z5 := z4.below b5; obtain ⟨g0, g1, g2, g3, k0, k1, k2, k3⟩ := z5.c4))))
                all_goals
                  have HDJ := Lib.hid dj5
                  have HEO := Lib.hid eo5
                  have HB5 := Lib.hid b5'
                  clear dj5 eo5 b5 b5' b4 p0 p1 p2 pA pB hA1 hA2
                  go_wp2_with fail
                  go_meet
                  first
                    | exact Bx.new HB5.out (by first | exact s4 | (simp; omega)) HEO.out HDJ.out
                    | exact Bx.put HB5.out z5 rfl s4 (by simp) HEO.out HDJ.out rfl
                    | exact Bx.put HB5.out z5 rfl (Nat.le_refl _) z4.lt HEO.out HDJ.out rfl
                -- D1
              case rest =>
                obtain ⟨g16, base, C, cn, cc, D, dn, dc, rfl, rfl, bc, xc, eoc, djc, hbase⟩ := hcut
                have XC := Lib.hid xc
                have EOC := Lib.hid eoc
                have DJC := Lib.hid djc
                have BC := Lib.hid bc
                have sC := bc.size
                have lC : cn ≤ 2097152 := by have := eoc.owns.1.len; omega
                have lD : dn ≤ 2097152 := by have := eoc.owns.2.len; omega
                have HRG : Hid (Calls Try.prog 27 #[.slice M mn md, .slice K kn kc, .int .u64 (qa : Int)] wc (RetGl wc o)) := Lib.hid (by
                  rw [HO.out]
                  exact refGet_any (G1.out.res.below bc) (by omega) HTZ.out (RK1.out.below bc) (by unfold maxLen; omega))
                obtain ⟨c0', c1', c2', _⟩ := (HX1.out _ bc).c3
                clear xc eoc djc bc c0 c1 c2 hA1 hA2
                go_wp2_with fail
                with_reducible refine HRG.out.mono ?_
                intro e wD hq
                obtain ⟨u0, u1, u2, u3, h1, hev, bD⟩ := RetGl.both hq
                subst h1
                rw [← HY.out] at hev
                rw [← HZ.out]
                obtain ⟨E, en, ec, F, fn, fc, rfl, rfl, rfl, rfl, _⟩ := hev.parts
                obtain ⟨W2, hW2⟩ : ∃ W2, W2 = wD.alloc (.cells #[.slice E en ec, .int .u64 (y.seq : Int), .int .u8 (y.kind : Int), .slice F fn fc] 38) := ⟨_, rfl⟩
                have b2 : Below wD.heap.size wD W2 := by rw [hW2]; exact (Below.refl _ _).alloc (Nat.le_refl _) _
                have bc2 : Below wc.heap.size wc W2 := belowT bD b2
                have b12 : Below W1.heap.size W1 W2 := belowT BC.out bc2
                have yW : Cl W2 wD.heap.size #[.slice E en ec, .int .u64 (y.seq : Int), .int .u8 (y.kind : Int), .slice F fn fc] 38 := by rw [hW2]; exact Cl.new _ _ _
                have xW := XC.out.below bc2
                have HXC := Lib.hid xW
                have EO2 := Lib.hid (EOC.out.below bc2)
                have EV2 := Lib.hid (hev.below b2)
                have B12 := Lib.hid b12
                have s12 := b12.size
                have HSM : Hid (∀ wx, Below W2.heap.size W2 wx → Calls Try.prog 28 #[.agg #[.slice C cn cc, .int .u64 (y.seq : Int), .int .u8 (y.kind : Int), .slice D dn dc], .agg #[.slice E en ec, .int .u64 (y.seq : Int), .int .u8 (y.kind : Int), .slice F fn fc]] wx (RetT wx true)) := Lib.hid (fun wx hb => Same_any (EO2.out.ev.below hb) (EV2.out.below hb) HYZ.out)
                have HD1 : Hid (∀ wx, Below W2.heap.size W2 wx → Calls Try.prog 26 #[.slice K kn kc] wx (Made wx.heap.size wx ka)) := Lib.hid (fun wx hb => HC1.out wx (belowT B12.out hb))
                have HD2 : Hid (∀ wx, Below W2.heap.size W2 wx → Calls Try.prog 26 #[.slice V vn vc] wx (Made wx.heap.size wx ta)) := Lib.hid (fun wx hb => HC2.out wx (belowT B12.out hb))
                obtain ⟨FL, hFL⟩ : ∃ FL, FL = t.list.filter (inR ka ta) := ⟨_, rfl⟩
                have HRN : Hid (∀ wx C' cn' cc' D' dn' dc', Below W2.heap.size W2 wx → Ow wx C' cn' cc' ka → Ow wx D' dn' dc' ta → Calls Try.prog 30 #[.pointer (some ⟨p, 0, none⟩), .slice C' cn' cc', .slice D' dn' dc'] wx (RetBt wx FL)) := Lib.hid (fun wx C' cn' cc' D' dn' dc' hb h1 h2 => by
                  obtain ⟨q1, h1⟩ := h1
                  obtain ⟨q2, h2⟩ := h2
                  have := range_any (fc := cc') (tc := dc') ((T1.out.below B12.out).below hb) h1.rd h2.rd HTZ.out htn
                  rw [betw_list ka ta HSO.out, ← hFL] at this
                  exact this)
                have HRR : Hid (∀ wx, Below W2.heap.size W2 wx → Calls Try.prog 31 #[.slice M mn md, .slice K kn kc, .slice V vn vc] wx (RetRs wx FL)) := Lib.hid (fun wx hb => by
                  have hbb := belowT B12.out hb
                  obtain ⟨q1, ovs, q2, q3, _⟩ := (G1.out.below hbb)
                  refine (refRange_any (fc := kc) (tc := vc) q2 q3 q1 (by omega) HTZ.out (RK1.out.below hbb) (RV1.out.below hbb) (by unfold maxLen; omega) (by unfold maxLen; omega)).mono ?_
                  intro e w' hq
                  rw [hFL]
                  obtain ⟨L', k', d', e1, e2, _, e3⟩ := RetPick.res hq
                  exact ⟨L', k', d', e1, e2, e3⟩)
                have HFS : ∀ x ∈ FL, SzE x := fun x hx => by rw [hFL] at hx; exact HTZ.out x (List.mem_filter.1 hx).1
                have hfl : FL.length ≤ t.list.length := by rw [hFL]; exact List.length_filter_le _ _
                have HSL : Hid (∀ wx L1 n1 c1 L2 n2 c2, Below W2.heap.size W2 wx → REs wx L1 n1 FL → REs wx L2 n2 FL → Calls Try.prog 29 #[.slice L1 n1 c1, .slice L2 n2 c2] wx (RetT wx true)) := Lib.hid (fun wx L1 n1 c1 L2 n2 c2 hb h1 h2 => by
                  have e1 := h1.len
                  have e2 := h2.len
                  obtain rfl : n1 = n2 := by omega
                  exact SameList_any h1 h2 (by omega) HFS)
                have HSX : Hid (∀ wx, Below W2.heap.size W2 wx → wx.cell? ⟨g16, 0, none⟩ = some (.slice C cn cc) ∧ wx.cell? ⟨g16, 1, none⟩ = some (.int .u64 (y.seq : Int)) ∧ wx.cell? ⟨g16, 2, none⟩ = some (.int .u8 (y.kind : Int)) ∧ wx.cell? ⟨g16, 3, none⟩ = some (.slice D dn dc) ∧ wx.cell? ⟨wD.heap.size, 0, none⟩ = some (.slice E en ec) ∧ wx.cell? ⟨wD.heap.size, 1, none⟩ = some (.int .u64 (y.seq : Int)) ∧ wx.cell? ⟨wD.heap.size, 2, none⟩ = some (.int .u8 (y.kind : Int)) ∧ wx.cell? ⟨wD.heap.size, 3, none⟩ = some (.slice F fn fc) ∧ wx.cell? ⟨wr.heap.size, 0, none⟩ = some (.slice K kn kc) ∧ wx.cell? ⟨wr.heap.size, 1, none⟩ = some (.slice V vn vc)) := Lib.hid (fun wx hb => by
                  obtain ⟨q0, q1, _⟩ := (HX1.out wx (belowT B12.out hb)).c3
                  obtain ⟨x0, x1, x2, x3, _⟩ := (xW.below hb).c4
                  obtain ⟨y0, y1, y2, y3, _⟩ := (yW.below hb).c4
                  exact ⟨x0, x1, x2, x3, y0, y1, y2, y3, q0, q1⟩)
                have tz : (z != z) = false := by simp
                have hB2 : Below W2.heap.size W2 W2.drew := (Below.refl _ _).drew
                clear hq hev bD b2 bc2 b12 yW xW hFL HFS hfl HRG c0' c1' c2'
                go_upto_region 31 with (fail)
                rw [← hW2]
                clear hW2
                go_cut [140] from 114 to 141 (fun s140 wx => s140 = .bool false ∧ Below W2.heap.size W2 wx)
                case first =>
                  -- E0
                  clear HZ tz
                  cases z
                  all_goals
                    go_region_held3 (fun wx => wx.cell? ⟨g16, 0, none⟩ = some (.slice C cn cc) ∧ wx.cell? ⟨g16, 1, none⟩ = some (.int .u64 (y.seq : Int)) ∧ wx.cell? ⟨g16, 2, none⟩ = some (.int .u8 (y.kind : Int)) ∧ wx.cell? ⟨g16, 3, none⟩ = some (.slice D dn dc) ∧ wx.cell? ⟨wD.heap.size, 0, none⟩ = some (.slice E en ec) ∧ wx.cell? ⟨wD.heap.size, 1, none⟩ = some (.int .u64 (y.seq : Int)) ∧ wx.cell? ⟨wD.heap.size, 2, none⟩ = some (.int .u8 (y.kind : Int)) ∧ wx.cell? ⟨wD.heap.size, 3, none⟩ = some (.slice F fn fc) ∧ wx.cell? ⟨wr.heap.size, 0, none⟩ = some (.slice K kn kc) ∧ wx.cell? ⟨wr.heap.size, 1, none⟩ = some (.slice V vn vc)) (first | assumption | exact HSX.out _ hB2)
                      (first | (go_at_call 28; with_reducible refine (HSM.out _ hB2).mono ?_; intro e1 wn hq; obtain ⟨h1, bn⟩ := RetT.outD hq; subst h1; have bn' := belowT hB2 bn; have hS1 := HSX.out _ bn') | (go_at_call 26; with_reducible refine (HD1.out _ (by assumption)).mono ?_; intro e1 wn hq; obtain ⟨C4, cn4, cc4, h4, o4, bn⟩ := Made.out hq; subst h4; have bn' := belowT (by assumption : Below W2.heap.size W2 _) bn; have ow1 := Ow.mk o4; (try have ow2 := Ow.below (xs := ta) (by assumption) bn); (try have rr := REs.below (es := FL) (by assumption) bn); have hS1 := HSX.out _ bn') | (go_at_call 26; with_reducible refine (HD2.out _ (by assumption)).mono ?_; intro e1 wn hq; obtain ⟨C5, cn5, cc5, h5, o5, bn⟩ := Made.out hq; subst h5; have bn' := belowT (by assumption : Below W2.heap.size W2 _) bn; have ow2 := Ow.mk o5; (try have ow1 := Ow.below (xs := ka) (by assumption) bn); (try have rr := REs.below (es := FL) (by assumption) bn); have hS1 := HSX.out _ bn') | (go_at_call 30; with_reducible refine (HRN.out _ _ _ _ _ _ _ (by assumption) (by assumption) (by assumption)).mono ?_; intro e1 wn hq; obtain ⟨LR, kR, dR, h6, hrow⟩ := RetBt.out hq; subst h6; have bn := RowE.bel hrow; have bn' := belowT (by assumption : Below W2.heap.size W2 _) bn; have rx := RowE.rd hrow; (try have rr := REs.below (es := FL) (by assumption) bn); have hS1 := HSX.out _ bn') | (go_at_call 31; with_reducible refine (HRR.out _ (by assumption)).mono ?_; intro e1 wn hq; obtain ⟨LQ, kQ, dQ, h7, rr, bn⟩ := RetRs.out hq; subst h7; have bn' := belowT (by assumption : Below W2.heap.size W2 _) bn; (try have rx := REs.below (es := FL) (by assumption) bn); (try have ow1 := Ow.below (xs := ka) (by assumption) bn); (try have ow2 := Ow.below (xs := ta) (by assumption) bn); have hS1 := HSX.out _ bn') | (go_at_call 29; with_reducible refine (HSL.out _ _ _ _ _ _ _ (by assumption) (by assumption) (by assumption)).mono ?_; intro e1 wn hq; obtain ⟨h8, bn⟩ := RetT.outD hq; subst h8; have bn' := belowT (by assumption : Below W2.heap.size W2 _) bn; have hS1 := HSX.out _ bn'))
                    all_goals
                      have HBN := Lib.hid bn'
                      clear bn bn' hS1
                      go_wp2_with fail
                      go_meet
                      exact ⟨rfl, HBN.out⟩
                  -- E1
                case rest =>
                  obtain ⟨rfl, hbx⟩ := hcut
                  have hb1x := belowT B12.out hbx
                  have X7 := HXC.out.below hbx
                  have E7 := EO2.out.below hbx
                  have T7 := Lib.hid (T1.out.below hb1x)
                  have G7 := Lib.hid (G1.out.below hb1x)
                  have HB7 := Lib.hid (HB1.out.trans (hb1x.mono hw1))
                  obtain ⟨oC, oD⟩ := E7.owns
                  have hCb : ∀ b, blk C = some b → base ≤ b := fun b hb => (oC.lt b hb).1
                  have hDb : ∀ b, blk D = some b → base ≤ b := fun b hb => (oD.lt b hb).1
                  have HOC := Lib.hid oC
                  have HOD := Lib.hid oD
                  have HX7 := Lib.hid X7
                  have HCB := Lib.hid hCb
                  have HDB := Lib.hid hDb
                  have HOV1 : Hid (Calls Try.prog 21 #[.slice C cn cc] wc fun e w' => e = .returned (.tuple #[]) ∧ wc.grownBy w' (blk C)) := Lib.hid (Over_own C cn cc base y.key wc oC (by omega))
                  clear hbx hb1x E7 oC oD hCb hDb
                  obtain ⟨x0, x1, x2, x3, _⟩ := X7.c4
                  clear X7
                  go_wp2_with fail
                  with_reducible refine HOV1.out.mono ?_
                  rintro e w8 ⟨rfl, g8⟩
                  have X8 := HX7.out.grown g8 (fun e => cl_row HX7.out HOC.out (by decide) e)
                  have T8 := Lib.hid (T7.out.fr okB_tab (FrB.of_bytes HOC.out (fun b hb h => by have := HCB.out b hb; omega) g8))
                  have G8 := Lib.hid (G7.out.good (FrG.of_grown g8 (fun b hb h => by have := HCB.out b hb; have := h.1; omega)))
                  have HB8 := Lib.hid (HB7.out.grown g8 HB7.out.size (fun b hb => by have := HCB.out b hb; omega))
                  have OD8 := Lib.hid (HOD.out.kept g8 (fun b hb e => DJC.out b e hb))
                  have HOV2 : Hid (Calls Try.prog 21 #[.slice D dn dc] w8 fun e w' => e = .returned (.tuple #[]) ∧ w8.grownBy w' (blk D)) := Lib.hid (Over_own D dn dc base y.val w8 OD8.out (by omega))
                  clear g8 x0 x1 x2 x3 HOV1
                  obtain ⟨x0, x1, x2, x3, _⟩ := X8.c4
                  clear X8
                  go_wp2_with fail
                  with_reducible refine HOV2.out.mono ?_
                  rintro e w9 ⟨rfl, g9⟩
                  have T9 := T8.out.fr okB_tab (FrB.of_bytes OD8.out (fun b hb h => by have := HDB.out b hb; omega) g9)
                  have G9 := G8.out.good (FrG.of_grown g9 (fun b hb h => by have := HDB.out b hb; have := h.1; omega))
                  have HB9 := HB8.out.grown g9 HB8.out.size (fun b hb => by have := HDB.out b hb; omega)
                  have H9 : Hid (St3 w p M mn t w9) := Lib.hid ⟨T9.reg (fun _ _ _ => trivial), G9.mono (fun b h => h.2), HB9⟩
                  clear g9 T9 G9 HB9 x0 x1 x2 x3 HOV2
                  go_wp2_with fail
                  go_roundw
                  case rel => exact ⟨j + 1, by omega, by go_num, H9.out⟩
                  case measure => simp [intOf]; omega
            · have TR := Lib.hid hT
              have GR := Lib.hid hG
              have HBr := Lib.hid hB
              have HRN : Hid (Calls Try.prog 30 #[.pointer (some ⟨p, 0, none⟩), .slice none 0 0, .slice none 0 0] wr (RetBt wr t.list)) := Lib.hid (by
                have := range_any (fc := 0) (tc := 0) hT (Rd.nil wr none) (Rd.nil wr none) HTZ.out htn
                rw [betw_all2 HSO.out] at this
                exact this)
              clear hT hG hB
              go_wp2_with fail
              with_reducible refine HRN.out.mono ?_
              intro e w8 hq
              obtain ⟨LA, kA, dA, h1, hrow⟩ := RetBt.out hq
              subst h1
              have hkA : kA = mn := by rw [← hmn]; exact hrow.len.symm
              have hbel := hrow.bel
              have HSL : Hid (Calls Try.prog 29 #[.slice LA kA dA, .slice M mn md] w8 (RetT w8 true)) := Lib.hid (by
                rw [hkA]
                exact SameList_any (by rw [← hkA]; exact hrow.rd) (GR.out.below hbel).res (by omega) HTZ.out)
              have B8 := Lib.hid (HBr.out.trans (hbel.mono HBr.out.size))
              clear hq hrow hbel hkA HRN
              go_wp2_with fail
              with_reducible refine HSL.out.mono ?_
              intro e w9 hq
              obtain ⟨h1, b9⟩ := RetT.outD hq
              subst h1
              have B9 := Lib.hid (B8.out.trans (b9.mono B8.out.size))
              clear hq b9
              go_wp2
              go_ret
              exact ⟨rfl, B9.out⟩
end Go.Proofs.Ytheefpgokdejcaa
namespace Go.Proofs.Ytheefpgokdejcaa.memTablesUptoRow
open Go Go.ChangeShapes Go.WideShapes Go.ChangeAt Go.RowKit Go.Deep
open Go.ChangeMaps (open_string shut_string)
set_option linter.unusedVariables false

theorem own : ownKnob Try.prog.godebug = none := by kernel_rfl
theorem laidOut : laidOutB Try.prog = true := by kernel_rfl

set_option maxRecDepth 100000 in
theorem contract (H : Type) (enc : TypeId × Value → H) (W : World) (base : Nat) (args : Array Value) (ds gs : List (DataW H)) (before : List MemPlace)
    (hval0 : ∀ (j : Nat) t v, Try.f3.params[j]? = some t → args[j]? = some v → Value.okWide Try.prog W .any base t v)
    (hW : DataW.Whole enc Try.prog Try.f3.params.toList Rows.memTablesSpec.vars false W args.toList ds gs before)
    (hk : Rows.uptoSmall H (ds ++ gs) = true) :
    Calls Try.prog 3 args W fun e W' => ∃ v, e = .returned v ∧ Rows.memTablesSpec.post enc Try.prog Try.f3 false true false false W args v W' := by
  have hval : ∀ (j : Nat) t v, Try.f3.params[j]? = some t → args[j]? = some v → Value.okWide Try.prog W .any base t v := hval0
  have hW' := hW
  obtain ⟨p, q, hA0, hV, rfl, hfz, hnd⟩ := hW
  have hA : DataW.TrodAll enc Try.prog W 0 (fun _ => true) true Try.f3.params.toList args.toList ds p := hA0
  rw [Try.params3] at hA hval
  obtain ⟨v0, vs0, d0, ds0, p0, q0, hargs, rfl, rfl, h0, r0⟩ := trodAll_cons hA
  obtain ⟨v1, vs1, d1, ds1, p1, q1, rfl, rfl, rfl, h1, r1⟩ := trodAll_cons r0
  obtain ⟨rfl, rfl, rfl⟩ := trodAll_nil r1
  obtain rfl : args = #[v0, v1] := by cases args; simp_all
  obtain ⟨rfl, rfl⟩ := trodVars_none hV
  have hb := bulkOf hk
  have sz0 : Rows.uptoBulk d0 ≤ 1048576 := Nat.le_trans (part_bulk (d := d0) (l := [d0, d1] ++ []) (by simp)) hb
  have sz1 : Rows.uptoBulk d1 ≤ 1048576 := Nat.le_trans (part_bulk (d := d1) (l := [d0, d1] ++ []) (by simp)) hb
  obtain ⟨A0, len0, cap0, rfl⟩ := okWide_slice Try.underlying22 (hval 0 22 v0 rfl rfl)
  have k0 := h0
  have lt0 : ∀ x ∈ p0, x.block < W.heap.size := by obtain ⟨m, hm⟩ := k0; exact DataW.trod_lt m _ _ _ hm
  obtain ⟨al0, rd0, lc0, ta0⟩ : ∃ al0, RLs W A0 len0 al0 ∧ len0 ≤ cap0 ∧ totLs al0 ≤ 2097152 := by
    obtain ⟨fuel, hf⟩ := h0
    obtain ⟨al, h1, h2, h3⟩ := lists_of (len := len0) (cap := cap0) (A := A0) hf
    exact ⟨al, h1, h2, by have h4 := sz0; have h5 : totLs al ≤ 2 * Rows.uptoBulk d0 := h3; omega⟩
  obtain ⟨A1, len1, cap1, rfl⟩ := okWide_slice Try.underlying23 (hval 1 23 v1 rfl rfl)
  have k1 := h1
  have lt1 : ∀ x ∈ p1, x.block < W.heap.size := by obtain ⟨m, hm⟩ := k1; exact DataW.trod_lt m _ _ _ hm
  obtain ⟨al1, rd1, lc1, ta1⟩ : ∃ al1, RAk W A1 len1 al1 ∧ len1 ≤ cap1 ∧ totAk al1 ≤ 1048576 := by
    obtain ⟨fuel, hf⟩ := h1
    obtain ⟨al, h1, h2, h3⟩ := asks_of (len := len1) (cap := cap1) (A := A1) hf
    exact ⟨al, h1, h2, by have h4 := sz1; have h5 : totAk al ≤ Rows.uptoBulk d1 := h3; omega⟩
  clear hA0 hval0
  refine (memTables_row A0 len0 cap0 al0 A1 len1 cap1 al1 W rd0 lc0 ta0 rd1 lc1 ta1).mono fun e W' ⟨he, bel⟩ => ?_
  subst he
  exact ⟨_, rfl, _, _, _, [], _, [], hW', trodAll_mk1 (shut_bool Try.underlying4 _), (trodAll_cons_mk (Below.trod laidOut (by kernel_rfl) (of_decide_eq_true (by kernel_rfl)) k0 bel lt0) (trodAll_cons_mk (Below.trod laidOut (by kernel_rfl) (of_decide_eq_true (by kernel_rfl)) k1 bel lt1) trodAll_mk0)), rfl, bel.frame _, fun h => by cases h⟩

set_option maxRecDepth 100000 in
theorem lifted (os : Os) (started : os.Started) (H : Type) (enc : TypeId × Value → H) (F : Stop.Interp) :
    ReturnsInHanded {} Try.checked os 3 .any ((Rows.OpenSpec.upto Rows.memTablesSpec).pre6 enc Try.prog Try.f3 Rows.memTablesUptoRow.domain false) (((Rows.OpenSpec.upto Rows.memTablesSpec).at F).post enc Try.prog Try.f3 false true false false) := by
  refine returnsInHanded_of_cond (C := Try.checked) (s := Rows.OpenSpec.upto Rows.memTablesSpec) (k := Rows.uptoSmall) rfl own started (by kernel_rfl) Try.func3
    (OpenSpec.witness (enc := enc) (C := Try.checked) (s := Rows.OpenSpec.upto Rows.memTablesSpec) (k := Rows.uptoSmall) rfl false ⟨#[], #[.slice none 0 0, .slice none 0 0], []⟩ 8 (by kernel_rfl) (by kernel_rfl) (by kernel_rfl)
      (x := ([.nil, .nil], [], [])) (by kernel_rfl) rfl (by kernel_rfl)) ?_
  intro W base args ds gs before hval hW _ hk _
  exact contract H enc W base args ds gs before hval hW hk

theorem over : Rows.memTablesUptoRow.holds Try.pinned (Rows.OpenSpec.upto Rows.memTablesSpec) :=
  OpenClaim.holds_of_cond 3 Try.f3 rfl rfl rfl rfl rfl rfl rfl ⟨rfl, rfl, rfl, rfl, rfl⟩ rfl rfl rfl rfl rfl (by kernel_rfl) Try.func3 (by kernel_rfl)
    (of_decide_eq_true (by kernel_rfl)) (by unfold Func.isWrapper; first | (rw [if_pos (by decide +kernel)]; kernel_rfl) | (rw [if_neg (by decide +kernel)]; exact ⟨rfl, rfl⟩))
    (fun os started H enc _ F => lifted os started H enc F)

/-- THE STATEMENT -/
theorem proved : Rows.MemTablesUptoSaid := over
#print axioms proved
end Go.Proofs.Ytheefpgokdejcaa.memTablesUptoRow
