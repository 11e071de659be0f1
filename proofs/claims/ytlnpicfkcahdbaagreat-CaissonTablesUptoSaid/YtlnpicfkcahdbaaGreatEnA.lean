/- Entries: the reference's and the program's Less, Check, Twin, few. No condition but sizes. -/
import Derived.Test.YtlnpicfkcahdbaaGreatEn
import Derived.Test.YtlnpicfkcahdbaaGreatCl
import Derived.Test.YtlnpicfkcahdbaaGreatCmp
import Derived.Test.YtlnpicfkcahdbaaGreatBcmp
import Derived.Test.YtlnpicfkcahdbaaGreatAwake
namespace Go.Proofs.YtlnpicfkcahdbaaGreat
open Go Go.RowKit

def RetNu (w : World) (z : Int) (e : Ending) (w' : World) : Prop := e = .returned (.int .i64 z) ∧ Below w.heap.size w w'
/-- Does a stand ahead of b? -/
def lessE (a b : En) : Bool := decide (cmpB a.key b.key < 0) || (decide (cmpB a.key b.key = 0) && decide (b.seq < a.seq))
/-- 'Of a size that can be.' -/
def SzE (e : En) : Prop := e.key.length ≤ 1099511627776 ∧ e.val.length ≤ 1099511627776
def longE (e : En) : Bool := decide (1024 < e.key.length) || decide (65536 < e.val.length)
def formE (e : En) : Bool := decide (e.kind = 1) || (decide (e.kind = 2) && decide (e.val.length = 0))
def checkE (es : List En) : Int := if es.any longE then 2 else if es.all formE then 0 else 3
theorem maxLen_e {n : Nat} (h : n ≤ 1099511627776) : n ≤ maxLen := by unfold maxLen; omega

theorem cut4_h {P : Program} {t e : TypeId} (ht : P.underlying t = some (.slice e)) (he : P.elem t = e) (hs : ∀ w, (sizeOf e).run P w = .ok 4 w)
    (A : Option Addr) {n cap m : Nat} (hm : m ≤ cap) (w : World) :
    (Instr.slice t (.slice A n cap) none (some (.int .i64 (m : Int))) none).run P w = .ok (.slice A m cap) w := by
  subst he
  rw [run_slice_h w t A n cap ht .i64 (m : Int) (by omega) (by omega)]
  simp only [hs, Result.andThen, sliced, Int.toNat_natCast, Nat.zero_mul, Nat.sub_zero]
  cases A <;> simp [Addr.add]

/-- 'These two share no block.' -/
def Dj (K V : Option Addr) : Prop := ∀ b, blk K = some b → blk V ≠ some b
theorem Dj.old {e : TypeId} {w w' : World} {base base' n c m d : Nat} {K V : Option Addr} {xs ys : List UInt8} (h : Own e w base K n c xs) (k : Own e w' base' V m d ys) (hb : w.heap.size ≤ base') : Dj K V := fun b h1 h2 => by
  have a1 := (OwnV.lt h b h1).2
  have a2 := (OwnV.lt k b h2).1
  omega
theorem Dj.symm {K V : Option Addr} (h : Dj K V) : Dj V K := fun b h1 h2 => h b h2 h1
/-- What a copy of an entry is: new memory. -/
def RetEn (w : World) (x : En) (e : Ending) (w' : World) : Prop :=
  ∃ K kn kc V vn vc, e = .returned (.agg #[.slice K kn kc, .int .u64 (x.seq : Int), .int .u8 (x.kind : Int), .slice V vn vc]) ∧ Own 5 w' w.heap.size K kn kc x.key ∧ Own 5 w' w.heap.size V vn vc x.val ∧ Below w.heap.size w w' ∧ Dj K V
set_option maxRecDepth 100000 in
theorem elem4 : Tryz.prog.elem 22 = 31 := by kernel_rfl
set_option maxRecDepth 100000 in
theorem size4 (w : World) : (sizeOf 31).run Tryz.prog w = .ok 4 w := by kernel_rfl
/-- How a copy of an entry is handed back. -/
theorem en_fin {w w2 Y X : World} {x : En} {g base cn cc dn dc : Nat} {C D : Option Addr} {q : Array Value} (hZ : Cl w2 (g + 1) q 31) (hq : q.size = 4) (oC : Own 5 w2 base C cn cc x.key) (oD : Own 5 w2 base D dn dc x.val)
    (b2 : Below w.heap.size w w2) (hg : w.heap.size ≤ g) (hb : g + 2 ≤ base) (hY : ∃ i v, Y = w2.setCell ⟨g, i, none⟩ v)
    (hX : X = (((Y.setCell ⟨g + 1, 0, none⟩ (.slice C cn cc)).setCell ⟨g + 1, 1, none⟩ (.int .u64 (x.seq : Int))).setCell ⟨g + 1, 2, none⟩ (.int .u8 (x.kind : Int))).setCell ⟨g + 1, 3, none⟩ (.slice D dn dc)) (dj : Dj C D) :
    Cl X (g + 1) #[.slice C cn cc, .int .u64 (x.seq : Int), .int .u8 (x.kind : Int), .slice D dn dc] 31 ∧ RetEn w x (.returned (.agg #[.slice C cn cc, .int .u64 (x.seq : Int), .int .u8 (x.kind : Int), .slice D dn dc])) X := by
  obtain ⟨i, v, hY⟩ := hY
  have zY : Cl Y (g + 1) q 31 := by rw [hY]; exact hZ.off i v (by omega)
  have bY : Below w.heap.size w Y := by rw [hY]; exact below_set b2 i v hg
  have cY : Own 5 Y base C cn cc x.key := by rw [hY]; exact oC.set (by omega) i v
  have dY : Own 5 Y base D dn dc x.val := by rw [hY]; exact oD.set (by omega) i v
  refine ⟨by rw [hX]; exact zY.put4 hq _ _ _ _, C, cn, cc, D, dn, dc, rfl, ?_, ?_, ?_, dj⟩
  · rw [hX]
    exact ((((cY.set (by omega) 0 _).set (by omega) 1 _).set (by omega) 2 _).set (by omega) 3 _).mono (by omega)
  · rw [hX]
    exact ((((dY.set (by omega) 0 _).set (by omega) 1 _).set (by omega) 2 _).set (by omega) 3 _).mono (by omega)
  · rw [hX]
    exact below_set (below_set (below_set (below_set bY 0 _ (by omega)) 1 _ (by omega)) 2 _ (by omega)) 3 _ (by omega)
section
variable {w : World} {a b : En} {v0 v1 v2 v3 u0 u1 u2 u3 : Value}
set_option maxHeartbeats 2000000 in
theorem refLess_any (ha : EV w a v0 v1 v2 v3) (hb : EV w b u0 u1 u2 u3) (sa : SzE a) (sb : SzE b) :
    Calls Tryz.prog 102 #[.agg #[v0, v1, v2, v3], .agg #[u0, u1, u2, u3]] w (RetT w (lessE a b)) := by
  obtain ⟨K, kn, kc, V, vn, vc, rfl, rfl, rfl, rfl, r0, r3, c0, c3, d0, d3, s1, s2⟩ := ha.parts
  obtain ⟨K', kn', kc', V', vn', vc', rfl, rfl, rfl, rfl, r0', r3', c0', c3', d0', d3', s1', s2'⟩ := hb.parts
  obtain ⟨z, hz⟩ : ∃ z, cmpB a.key b.key = z := ⟨_, rfl⟩
  have hl : lessE a b = (decide (z < 0) || (decide (z = 0) && decide (b.seq < a.seq))) := by rw [lessE, hz]
  have HZ := Lib.hid hz
  have HL := Lib.hid hl
  have l1 := r0.len
  have l2 := r0'.len
  have hk := maxLen_e (show kn ≤ 1099511627776 by have := sa.1; omega)
  have hk' := maxLen_e (show kn' ≤ 1099511627776 by have := sb.1; omega)
  have HC : Hid (∀ W, Below w.heap.size w W → Calls Tryz.prog 138 #[.slice K kn kc, .slice K' kn' kc'] W (RetZ W z)) := Lib.hid (fun W hW => refCmp_is K K' kn kn' kc kc' a.key b.key z HZ.out W (r0.below hW) (r0'.below hW) hk hk')
  have B0 : Hid (∀ x y, Below w.heap.size w ((w.alloc x).alloc y)) := Lib.hid (fun x y => ((Below.refl _ _).alloc (Nat.le_refl _) _).alloc (by simp) _)
  clear hz hl ha hb
  by_cases h1 : z < 0
  · have t1 : decide (z < 0) = true := by simpa using h1
    rw [t1] at HL
    go_enter Tryz.func102, Tryz.ntmps102
    go_wp2_with fail
    refine (HC.out _ (B0.out _ _)).mono ?_
    rintro e w1 ⟨rfl, q, rfl⟩
    go_wp2
    go_ret
    exact ⟨by rw [HL.out]; rfl, below_drewN (B0.out _ _) q⟩
  · have t1 : decide (z < 0) = false := by simpa using h1
    by_cases h0 : z = 0
    · subst h0
      by_cases h2 : b.seq < a.seq
      · have t2 : decide (b.seq < a.seq) = true := by simpa using h2
        rw [t1, t2] at HL
        have t3 : decide ((b.seq : Int) < (a.seq : Int)) = true := by simpa using h2
        go_enter Tryz.func102, Tryz.ntmps102
        go_wp2_with fail
        refine (HC.out _ (B0.out _ _)).mono ?_
        rintro e w1 ⟨rfl, q, rfl⟩
        go_wp2
        go_ret
        exact ⟨by rw [HL.out]; rfl, below_drewN (B0.out _ _) q⟩
      · have t2 : decide (b.seq < a.seq) = false := by simpa using h2
        rw [t1, t2] at HL
        have t3 : decide ((b.seq : Int) < (a.seq : Int)) = false := by simp; omega
        go_enter Tryz.func102, Tryz.ntmps102
        go_wp2_with fail
        refine (HC.out _ (B0.out _ _)).mono ?_
        rintro e w1 ⟨rfl, q, rfl⟩
        go_wp2
        go_ret
        exact ⟨by rw [HL.out]; rfl, below_drewN (B0.out _ _) q⟩
    · have t2 : (z == 0) = false := by simpa using h0
      have t3 : decide (z = 0) = false := by simpa using h0
      rw [t1, t3] at HL
      go_enter Tryz.func102, Tryz.ntmps102
      go_wp2_with fail
      refine (HC.out _ (B0.out _ _)).mono ?_
      rintro e w1 ⟨rfl, q, rfl⟩
      go_wp2
      go_ret
      exact ⟨by rw [HL.out]; rfl, below_drewN (B0.out _ _) q⟩
set_option maxHeartbeats 2000000 in
theorem memLess_any (ha : EV w a v0 v1 v2 v3) (hb : EV w b u0 u1 u2 u3) :
    Calls Tryz.prog 106 #[.agg #[v0, v1, v2, v3], .agg #[u0, u1, u2, u3]] w (RetT w (lessE a b)) := by
  obtain ⟨K, kn, kc, V, vn, vc, rfl, rfl, rfl, rfl, r0, r3, c0, c3, d0, d3, s1, s2⟩ := ha.parts
  obtain ⟨K', kn', kc', V', vn', vc', rfl, rfl, rfl, rfl, r0', r3', c0', c3', d0', d3', s1', s2'⟩ := hb.parts
  obtain ⟨z, hz⟩ : ∃ z, cmpB a.key b.key = z := ⟨_, rfl⟩
  have hl : lessE a b = (decide (z < 0) || (decide (z = 0) && decide (b.seq < a.seq))) := by rw [lessE, hz]
  have HZ := Lib.hid hz
  have HL := Lib.hid hl
  have HC : Hid (∀ W, Below w.heap.size w W → Calls Tryz.prog 61 #[.slice K kn kc, .slice K' kn' kc'] W (fun e w' => e = .returned (.int .i64 z) ∧ w' = W)) := Lib.hid (fun W hW => (Cmp_is K K' kn kn' kc kc' a.key b.key z HZ.out W (r0.below hW) (r0'.below hW)).mono (by rintro e w' ⟨h1, h2⟩; exact ⟨h1, h2.symm⟩))
  have B0 : Hid (∀ x y, Below w.heap.size w ((w.alloc x).alloc y)) := Lib.hid (fun x y => ((Below.refl _ _).alloc (Nat.le_refl _) _).alloc (by simp) _)
  clear hz hl ha hb
  by_cases h1 : z < 0
  · have t1 : decide (z < 0) = true := by simpa using h1
    rw [t1] at HL
    go_enter Tryz.func106, Tryz.ntmps106
    go_wp2_with fail
    refine (HC.out _ (B0.out _ _)).mono ?_
    rintro e w1 ⟨rfl, rfl⟩
    go_wp2
    go_ret
    exact ⟨by rw [HL.out]; rfl, B0.out _ _⟩
  · have t1 : decide (z < 0) = false := by simpa using h1
    by_cases h0 : z = 0
    · subst h0
      by_cases h2 : b.seq < a.seq
      · have t2 : decide (b.seq < a.seq) = true := by simpa using h2
        rw [t1, t2] at HL
        have t3 : decide ((b.seq : Int) < (a.seq : Int)) = true := by simpa using h2
        go_enter Tryz.func106, Tryz.ntmps106
        go_wp2_with fail
        refine (HC.out _ (B0.out _ _)).mono ?_
        rintro e w1 ⟨rfl, rfl⟩
        go_wp2
        go_ret
        exact ⟨by rw [HL.out]; rfl, B0.out _ _⟩
      · have t2 : decide (b.seq < a.seq) = false := by simpa using h2
        rw [t1, t2] at HL
        have t3 : decide ((b.seq : Int) < (a.seq : Int)) = false := by simp; omega
        go_enter Tryz.func106, Tryz.ntmps106
        go_wp2_with fail
        refine (HC.out _ (B0.out _ _)).mono ?_
        rintro e w1 ⟨rfl, rfl⟩
        go_wp2
        go_ret
        exact ⟨by rw [HL.out]; rfl, B0.out _ _⟩
    · have t2 : (z == 0) = false := by simpa using h0
      have t3 : decide (z = 0) = false := by simpa using h0
      rw [t1, t3] at HL
      go_enter Tryz.func106, Tryz.ntmps106
      go_wp2_with fail
      refine (HC.out _ (B0.out _ _)).mono ?_
      rintro e w1 ⟨rfl, rfl⟩
      go_wp2
      go_ret
      exact ⟨by rw [HL.out]; rfl, B0.out _ _⟩
set_option maxHeartbeats 2000000 in
theorem inForm_any (ha : EV w a v0 v1 v2 v3) : Calls Tryz.prog 103 #[.agg #[v0, v1, v2, v3]] w (RetT w (formE a)) := by
  obtain ⟨K, kn, kc, V, vn, vc, rfl, rfl, rfl, rfl, r0, r3, c0, c3, d0, d3, s1, s2⟩ := ha.parts
  have hl : formE a = (decide (a.kind = 1) || (decide (a.kind = 2) && decide (vn = 0))) := by rw [formE, r3.len]
  have HL := Lib.hid hl
  have B0 : Hid (∀ x, Below w.heap.size w (w.alloc x)) := Lib.hid (fun x => (Below.refl _ _).alloc (Nat.le_refl _) _)
  clear hl ha
  by_cases h1 : a.kind = 1
  · have t1 : ((a.kind : Int) == 1) = true := by simp; omega
    have t2 : decide (a.kind = 1) = true := by simpa using h1
    rw [t2] at HL
    go_enter Tryz.func103, Tryz.ntmps103
    go_wp2
    go_ret
    exact ⟨by rw [HL.out]; rfl, B0.out _⟩
  · have t1 : ((a.kind : Int) == 1) = false := by simp; omega
    have t2 : decide (a.kind = 1) = false := by simpa using h1
    by_cases h2 : a.kind = 2
    · have t3 : ((a.kind : Int) == 2) = true := by simp; omega
      have t4 : decide (a.kind = 2) = true := by simpa using h2
      by_cases h3 : vn = 0
      · subst h3
        rw [t2, t4] at HL
        go_enter Tryz.func103, Tryz.ntmps103
        go_wp2
        go_ret
        exact ⟨by rw [HL.out]; rfl, B0.out _⟩
      · have t5 : ((vn : Int) == 0) = false := by simp; omega
        have t6 : decide (vn = 0) = false := by simpa using h3
        rw [t2, t4, t6] at HL
        go_enter Tryz.func103, Tryz.ntmps103
        go_wp2
        go_ret
        exact ⟨by rw [HL.out]; rfl, B0.out _⟩
    · have t3 : ((a.kind : Int) == 2) = false := by simp; omega
      have t4 : decide (a.kind = 2) = false := by simpa using h2
      rw [t2, t4] at HL
      go_enter Tryz.func103, Tryz.ntmps103
      go_wp2
      go_ret
      exact ⟨by rw [HL.out]; rfl, B0.out _⟩
set_option maxHeartbeats 2000000 in
theorem Twin_any (ha : EV w a v0 v1 v2 v3) (sa : SzE a) : Calls Tryz.prog 45 #[.agg #[v0, v1, v2, v3]] w (RetEn w a) := by
  obtain ⟨K, kn, kc, V, vn, vc, rfl, rfl, rfl, rfl, r0, r3, c0, c3, d0, d3, s1, s2⟩ := ha.parts
  have l1 := r0.len
  have l2 := r3.len
  have hk : kn ≤ 140737488355328 := by have := sa.1; omega
  have hv : vn ≤ 140737488355328 := by have := sa.2; omega
  have R0 := Lib.hid r0
  have R3 := Lib.hid r3
  clear ha r0 r3
  go_enter Tryz.func45, Tryz.ntmps45
  go_wp2_with fail
  obtain ⟨W, hW⟩ : ∃ W, W = (w.alloc (.cells #[.slice K kn kc, .int .u64 (a.seq : Int), .int .u8 (a.kind : Int), .slice V vn vc] 31)).alloc (.cells #[.slice none 0 0, .int .u64 0, .int .u8 0, .slice none 0 0] 31) := ⟨_, rfl⟩
  rw [← hW]
  have bW : Below w.heap.size w W := by rw [hW]; exact ((Below.refl _ _).alloc (Nat.le_refl _) _).alloc (by simp) _
  have aW : Cl W w.heap.size #[.slice K kn kc, .int .u64 (a.seq : Int), .int .u8 (a.kind : Int), .slice V vn vc] 31 := by rw [hW]; exact (Cl.new _ _ _).alloc _
  have zW : Cl W (w.heap.size + 1) #[.slice none 0 0, .int .u64 0, .int .u8 0, .slice none 0 0] 31 := by rw [hW]; exact Cl.newg _ _ _ _ (by simp)
  have sW : w.heap.size + 2 ≤ W.heap.size := by rw [hW]; simp
  clear hW
  refine (Copy_any K kn kc a.key W (R0.out.below bW) hk).mono ?_
  rintro e w1 ⟨C, cn, cc, rfl, o1, b1⟩
  have hcn : cn = kn := o1.len.symm.trans l1
  subst hcn
  have a1 := aW.below b1
  have z1 := zW.below b1
  have s1' := b1.size
  have BW := Lib.hid (bW.trans (b1.mono bW.size))
  have O1 := Lib.hid o1
  have Z1 := Lib.hid z1
  have A1 := Lib.hid a1
  clear aW zW bW b1 o1 z1
  obtain ⟨e0, e1, e2, e3, y0, y1, y2, y3⟩ := a1.c4
  clear a1
  go_wp2_with fail
  obtain ⟨X, hX⟩ : ∃ X, X = w1.setCell ⟨w.heap.size, 0, none⟩ (.slice C cn cc) := ⟨_, rfl⟩
  rw [← hX]
  have aX : Cl X w.heap.size #[.slice C cn cc, .int .u64 (a.seq : Int), .int .u8 (a.kind : Int), .slice V vn vc] 31 := by rw [hX]; exact A1.out.set 0 _
  have zX : Cl X (w.heap.size + 1) #[.slice none 0 0, .int .u64 0, .int .u8 0, .slice none 0 0] 31 := by rw [hX]; exact Z1.out.off 0 _ (by omega)
  have oX : Own 5 X W.heap.size C cn cc a.key := by rw [hX]; exact O1.out.set (by omega) 0 _
  have bX : Below w.heap.size w X := by rw [hX]; exact below_set BW.out 0 _ (Nat.le_refl _)
  have sX : X.heap.size = w1.heap.size := by rw [hX]; simp
  have sX2 : W.heap.size ≤ X.heap.size := by omega
  clear hX e0 e1 e2 e3 y0 y1 y2 y3 sX
  refine (Copy_any V vn vc a.val X (R3.out.below bX) hv).mono ?_
  rintro e w2 ⟨D, dn, dc, rfl, o2, b2⟩
  have hdn : dn = vn := o2.len.symm.trans l2
  subst hdn
  have a2 := aX.below b2
  have Z2 := Lib.hid (zX.below b2)
  have s2' := b2.size
  have B2 := Lib.hid (bX.trans (b2.mono bX.size))
  have O2 := Lib.hid o2
  have OC := Lib.hid (oX.below b2)
  have DJ := Lib.hid (Dj.old oX o2 (Nat.le_refl _))
  have A2 := Lib.hid a2
  clear aX zX b2 o2 oX bX
  obtain ⟨e0, e1, e2, e3, y0, y1, y2, y3⟩ := a2.c4
  obtain ⟨g0, g1, g2, g3, k0, k1, k2, k3⟩ := Z2.out.c4
  clear a2
  go_wp2_with fail
  obtain ⟨X, hX⟩ : ∃ X, X = ((((w2.setCell ⟨w.heap.size, 3, none⟩ (.slice D dn dc)).setCell ⟨w.heap.size + 1, 0, none⟩ (.slice C cn cc)).setCell ⟨w.heap.size + 1, 1, none⟩ (.int .u64 (a.seq : Int))).setCell ⟨w.heap.size + 1, 2, none⟩ (.int .u8 (a.kind : Int))).setCell ⟨w.heap.size + 1, 3, none⟩ (.slice D dn dc) := ⟨_, rfl⟩
  obtain ⟨zX, hret⟩ := en_fin (x := a) Z2.out rfl OC.out (O2.out.mono sX2) B2.out (Nat.le_refl _) sW ⟨_, _, rfl⟩ hX DJ.out
  rw [← hX]
  obtain ⟨x0, x1, x2, x3, _⟩ := zX.c4
  refine bodyPost_ret (v := .agg #[.slice C cn cc, .int .u64 (a.seq : Int), .int .u8 (a.kind : Int), .slice D dn dc]) (by simp [results, Tryz.results45, go_sem, x0, x1, x2, x3]; try rfl) rfl hret
end
end Go.Proofs.YtlnpicfkcahdbaaGreat
