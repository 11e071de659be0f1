/- A table that counts: Get. No condition but sizes. -/
import Derived.Test.YtheefpgokdejcaaTrI
import Derived.Test.YtheefpgokdejcaaEnH
namespace Go.Proofs.Ytheefpgokdejcaa
open Go Go.RowKit

/-- A table that counts, with this many Gets. -/
def cnt4 (g : Nat) : TypeId × List Value := (57, [.int .i64 (g : Int)])
theorem okT_cnt (g : Nat) : okT (cnt4 g).1 := ⟨(by decide : 57 ≠ 124), (by decide : 57 ≠ 38), (by decide : 57 ≠ 5)⟩
theorem alloc_set {w : World} {p : Nat} {vs : Array Value} {ty : TypeId} (hp : Cl w p vs ty) (o : Obj) (i : Nat) (v : Value) (b : Nat) (hb : b < w.heap.size) :
    ((w.alloc o).setCell ⟨p, i, none⟩ v).heap[b]? = (w.setCell ⟨p, i, none⟩ v).heap[b]? := by
  by_cases e : b = p
  · subst e
    have h1 : Cl ((w.alloc o).setCell ⟨b, i, none⟩ v) b _ ty := (hp.alloc o).set i v
    have h2 : Cl (w.setCell ⟨b, i, none⟩ v) b _ ty := hp.set i v
    unfold Cl at h1 h2
    rw [h1, h2]
  · rw [heap_setCell_other _ _ _ _ (by simpa using e), heap_setCell_other _ _ _ _ (by simpa using e)]
    exact ((Below.refl _ w).alloc (Nat.le_refl _) o).block b hb
def RetCg (G : Nat → Prop) (w : World) (p g : Nat) (t : Tr) (o : Option En) (e : Ending) (w' : World) : Prop :=
  TB (cnt4 g) G w' p t ∧ w.grownBy w' (some p) ∧
  ((o = none ∧ e = .returned (.tuple #[.agg #[.slice none 0 0, .int .u64 0, .int .u8 0, .slice none 0 0], .bool false])) ∨
  ∃ x K kn kc V vn vc, o = some x ∧ e = .returned (.tuple #[.agg #[.slice K kn kc, .int .u64 (x.seq : Int), .int .u8 (x.kind : Int), .slice V vn vc], .bool true]) ∧ Own 5 w' w.heap.size K kn kc x.key ∧ Own 5 w' w.heap.size V vn vc x.val)
theorem cnt_fin {G : Nat → Prop} {w U w1 X : World} {p g : Nat} {t : Tr} {a b c d : Value} {Z : Obj} (h : TB (cnt4 g) G w p t)
    (hU : U = (w.alloc Z).setCell ⟨p, 3, none⟩ (.int .i64 ((g + 1 : Nat) : Int))) (hb : Below U.heap.size U w1) (hx : X = (((w1.setCell ⟨w.heap.size, 0, none⟩ a).setCell ⟨w.heap.size, 1, none⟩ b).setCell ⟨w.heap.size, 2, none⟩ c).setCell ⟨w.heap.size, 3, none⟩ d) :
    TB (cnt4 (g + 1)) G X p t ∧ w.grownBy X (some p) := by
  obtain ⟨A, hp, ht, hok⟩ := h
  have hplt := hp.lt
  obtain ⟨V, hV⟩ : ∃ V, V = w.setCell ⟨p, 3, none⟩ (.int .i64 ((g + 1 : Nat) : Int)) := ⟨_, rfl⟩
  have sV : V.heap.size = w.heap.size := by rw [hV]; simp
  have sU : U.heap.size = w.heap.size + 1 := by rw [hU]; simp
  have gU : w.grownBy U (some p) := by rw [hU]; exact grow_set (grow_of_below ((Below.refl _ _).alloc (Nat.le_refl _) Z)) p 3 _ rfl
  have b1 : Below w.heap.size U X := by
    rw [hx]
    exact below_set (below_set (below_set (below_set (hb.mono (by omega)) 0 _ (Nat.le_refl _)) 1 _ (Nat.le_refl _)) 2 _ (Nat.le_refl _)) 3 _ (Nat.le_refl _)
  have gX : w.grownBy X (some p) := by
    obtain ⟨h1, h2, h3, h4, h5⟩ := gU
    exact ⟨b1.os.trans h1, b1.tape.trans h2, b1.output.trans h3, Nat.le_trans h4 b1.size, fun k hk hne => (b1.block k hk).trans (h5 k hk hne)⟩
  have bV : Below V.heap.size V X := by
    refine ⟨?_, ?_, ?_, ?_, fun k hk => ?_⟩
    · rw [gX.os, hV]; exact (((Below.refl p w).setCell (p := ⟨p, 3, none⟩) (Nat.le_refl _) _).os).symm
    · rw [gX.tape, hV]; exact (((Below.refl p w).setCell (p := ⟨p, 3, none⟩) (Nat.le_refl _) _).tape).symm
    · rw [gX.output, hV]; exact (((Below.refl p w).setCell (p := ⟨p, 3, none⟩) (Nat.le_refl _) _).output).symm
    · have := b1.size; omega
    · rw [b1.block k (by omega), hU, alloc_set hp Z 3 _ k (by omega), hV]
  have tV : TrAt G V t A := by rw [hV]; exact TrAt.set hp hok 3 _ ht
  have cV : Cl V p (#[.pointer A, .int .i64 (t.num : Int), .int .i64 (t.sz : Int)] ++ (cnt4 (g + 1)).2.toArray) (cnt4 (g + 1)).1 := by
    rw [hV]
    exact hp.set 3 (.int .i64 ((g + 1 : Nat) : Int))
  exact ⟨⟨A, cV.below bV, tV.below bV, hok⟩, gX⟩
theorem TrAt.below' {G : Nat → Prop} {w w' : World} {t : Tr} {A : Option Addr} (h : TrAt G w t A) (hb : Below w.heap.size w w') : TrAt G w' t A := TrAt.below hb h
set_option maxRecDepth 100000 in
set_option maxHeartbeats 8000000 in
theorem cntGet_any {G : Nat → Prop} {w : World} {p g : Nat} {t : Tr} {L : Option Addr} {n c at_ : Nat} {key : List UInt8} (h : TB (cnt4 g) G w p t) (hS : ∀ e ∈ t.list, SzE e) (hr : Rd w L n key) (hc : n ≤ c) (hd : L = none → c = 0) (hat : U64 at_) (hg : g ≤ 1099511627776) (hLp : 0 < n → blk L ≠ some p) :
    Calls Try.prog 33 #[.pointer (some ⟨p, 0, none⟩), .slice L n c, .int .u64 (at_ : Int)] w (RetCg G w p (g + 1) t (tabGet t key at_)) := by
  have hTB := Lib.hid h
  obtain ⟨A, hp, ht, hok⟩ := h
  have hplt := hp.lt
  obtain ⟨W, hW⟩ : ∃ W, W = w.alloc (.cells #[.slice none 0 0, .int .u64 0, .int .u8 0, .slice none 0 0] 38) := ⟨_, rfl⟩
  have bW : Below w.heap.size w W := by rw [hW]; exact (Below.refl _ _).alloc (Nat.le_refl _) _
  have pW := hp.below bW
  have zW : Cl W w.heap.size #[.slice none 0 0, .int .u64 0, .int .u8 0, .slice none 0 0] 38 := by rw [hW]; exact Cl.new _ _ _
  have sW : W.heap.size = w.heap.size + 1 := by rw [hW]; simp
  obtain ⟨U, hU⟩ : ∃ U, U = W.setCell ⟨p, 3, none⟩ (.int .i64 ((g + 1 : Nat) : Int)) := ⟨_, rfl⟩
  have sU : U.heap.size = w.heap.size + 1 := by rw [hU]; simpa using sW
  have c3 : W.cell? ⟨p, 3, none⟩ = some (.int .i64 (g : Int)) := pW.cell 3
  have f3 : W.frozen? ⟨p, 3, none⟩ = false := pW.thaw 3
  have e1 : IntKind.i64.wrap ((g : Int) + 1) = ((g + 1 : Nat) : Int) := by rw [IntWalk.i64_in _ (by omega)]; omega
  have tU : TB (cnt4 (g + 1)) G U p t := by
    rw [hU]
    exact ⟨A, pW.set 3 (.int .i64 ((g + 1 : Nat) : Int)), TrAt.set pW hok 3 _ (TrAt.below bW ht), hok⟩
  have zU : Cl U w.heap.size #[.slice none 0 0, .int .u64 0, .int .u8 0, .slice none 0 0] 38 := by rw [hU]; exact zW.off 3 _ (by omega)
  have rU : Rd U L n key := by
    have := hr.below bW
    refine ⟨this.1, fun hn => ?_⟩
    obtain ⟨b, off, e, hb, hc'⟩ := this.2 hn
    refine ⟨b, off, e, by rw [hU]; simpa using hb, fun i x hx => ?_⟩
    have hne : b ≠ p := fun e2 => hLp hn (by rw [e, e2]; rfl)
    rw [hU, ← hc' i x hx]
    exact cell_of_heap (p := ⟨b, off + i, none⟩) (heap_setCell_other _ _ _ _ (by simpa using hne))
  have HG : Hid (Calls Try.prog 25 #[.pointer (some ⟨p, 0, none⟩), .slice L n c, .int .u64 (at_ : Int)] U (RetGt U (tabGet t key at_))) := Lib.hid (tabGet_any tU hS rU hc hd hat)
  have HUW : Hid (U = (w.alloc (.cells #[.slice none 0 0, .int .u64 0, .int .u8 0, .slice none 0 0] 38)).setCell ⟨p, 3, none⟩ (.int .i64 ((g + 1 : Nat) : Int))) := Lib.hid (by rw [hU, hW])
  have ZU := Lib.hid zU
  clear hp ht hok bW pW zW tU rU zU hS hr
  go_enter Try.func33, Try.ntmps33
  go_upto_region 1 with (fail)
  rw [← hW]
  clear hW
  go_upto_region 2 with (fail)
  rw [show (g : Int) + 1 = ((g + 1 : Nat) : Int) by omega, ← hU]
  clear hU c3 f3
  go_wp2_with fail
  with_reducible refine HG.out.mono ?_
  intro e w1 hq
  have b1 : Below U.heap.size U w1 := by
    rcases hq with ⟨_, _, h⟩ | ⟨_, _, _, _, _, _, _, _, _, _, _, h⟩
    · exact h
    · exact h
  have Z1 := Lib.hid (ZU.out.below b1)
  have B1 := Lib.hid b1
  have s1 := b1.size
  clear b1
  rcases hq with ⟨ho, h1, _⟩ | ⟨x, K, kn, kc, V, vn, vc, ho, h1, o1, o2, _⟩
  · subst h1
    have HO := Lib.hid ho
    obtain ⟨g0, g1, g2, g3, k0, k1, k2, k3⟩ := Z1.out.c4
    clear ho
    go_wp2_with fail
    obtain ⟨X, hX⟩ : ∃ X, X = ((((w1.setCell ⟨w.heap.size, 0, none⟩ (.slice none 0 0)).setCell ⟨w.heap.size, 1, none⟩ (.int .u64 0)).setCell ⟨w.heap.size, 2, none⟩ (.int .u8 0)).setCell ⟨w.heap.size, 3, none⟩ (.slice none 0 0)) := ⟨_, rfl⟩
    rw [← hX]
    have zX : Cl X w.heap.size #[.slice none 0 0, .int .u64 0, .int .u8 0, .slice none 0 0] 38 := by rw [hX]; exact Z1.out.put4 rfl _ _ _ _
    obtain ⟨q1, q2⟩ := cnt_fin hTB.out HUW.out B1.out hX
    obtain ⟨x0, x1, x2, x3, _⟩ := zX.c4
    refine bodyPost_ret (v := .tuple #[.agg #[.slice none 0 0, .int .u64 0, .int .u8 0, .slice none 0 0], .bool false]) (by simp [results, Try.results33, go_sem, x0, x1, x2, x3]; try rfl) rfl ⟨q1, q2, .inl ⟨HO.out, rfl⟩⟩
  · subst h1
    have HO := Lib.hid ho
    have O1 := Lib.hid o1
    have O2 := Lib.hid o2
    obtain ⟨g0, g1, g2, g3, k0, k1, k2, k3⟩ := Z1.out.c4
    clear ho o1 o2
    go_wp2_with fail
    obtain ⟨X, hX⟩ : ∃ X, X = ((((w1.setCell ⟨w.heap.size, 0, none⟩ (.slice K kn kc)).setCell ⟨w.heap.size, 1, none⟩ (.int .u64 (x.seq : Int))).setCell ⟨w.heap.size, 2, none⟩ (.int .u8 (x.kind : Int))).setCell ⟨w.heap.size, 3, none⟩ (.slice V vn vc)) := ⟨_, rfl⟩
    rw [← hX]
    have zX : Cl X w.heap.size #[.slice K kn kc, .int .u64 (x.seq : Int), .int .u8 (x.kind : Int), .slice V vn vc] 38 := by rw [hX]; exact Z1.out.put4 rfl _ _ _ _
    obtain ⟨q1, q2⟩ := cnt_fin hTB.out HUW.out B1.out hX
    have s3 : w.heap.size < U.heap.size := by omega
    have O1X : Own 5 X w.heap.size K kn kc x.key := by rw [hX]; exact ((((O1.out.set s3 0 _).set s3 1 _).set s3 2 _).set s3 3 _).mono (Nat.le_of_lt s3)
    have O2X : Own 5 X w.heap.size V vn vc x.val := by rw [hX]; exact ((((O2.out.set s3 0 _).set s3 1 _).set s3 2 _).set s3 3 _).mono (Nat.le_of_lt s3)
    obtain ⟨x0, x1, x2, x3, _⟩ := zX.c4
    refine bodyPost_ret (v := .tuple #[.agg #[.slice K kn kc, .int .u64 (x.seq : Int), .int .u8 (x.kind : Int), .slice V vn vc], .bool true]) (by simp [results, Try.results33, go_sem, x0, x1, x2, x3]; try rfl) rfl ⟨q1, q2, .inr ⟨x, K, kn, kc, V, vn, vc, HO.out, rfl, O1X, O2X⟩⟩
end Go.Proofs.Ytheefpgokdejcaa
