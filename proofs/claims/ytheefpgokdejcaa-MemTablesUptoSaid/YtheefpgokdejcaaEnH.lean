/- The reference over entries: rows whose memory lies in good blocks; PutAll. No condition but sizes. -/
import Derived.Test.YtheefpgokdejcaaEnF
import Derived.Test.YtheefpgokdejcaaMathJ
namespace Go.Proofs.Ytheefpgokdejcaa
open Go Go.RowKit

/-- 'All memory that these values name lies in good blocks.' -/
def GV (G : Nat → Prop) (vs : List Value) : Prop := ∀ A m c g, Value.slice A m c ∈ vs → 0 < m → blk A = some g → G g
/-- 'The slice of n entries at A reads as these, and its memory lies in good blocks.' -/
def RG (G : Nat → Prop) (w : World) (A : Option Addr) (n : Nat) (es : List En) : Prop :=
  es.length = n ∧ ∃ vs, EVs w es vs ∧ RdV w A (n * 4) vs ∧ GV G vs ∧ (0 < n → ∀ g, blk A = some g → G g)
/-- 'What is good and was there stands.' -/
def FrG (G : Nat → Prop) (w w' : World) : Prop := w.heap.size ≤ w'.heap.size ∧ ∀ b, b < w.heap.size → G b → w'.heap[b]? = w.heap[b]?
section
variable {G H : Nat → Prop} {w w' w2 : World} {A : Option Addr} {n : Nat} {es gs : List En} {vs us : List Value}
theorem GV.app (h1 : GV G vs) (h2 : GV G us) : GV G (vs ++ us) := fun A m c g hv => by
  rcases List.mem_append.1 hv with h | h
  · exact h1 A m c g h
  · exact h2 A m c g h
theorem GV.nil : GV G [] := fun A m c g hv => by cases hv
theorem GV.sub (h : GV G vs) (hs : ∀ u ∈ us, u ∈ vs) : GV G us := fun A m c g hv => h A m c g (hs _ hv)
theorem GV.mono (h : GV G vs) (hs : ∀ g, G g → H g) : GV H vs := fun A m c g hv h0 hb => hs g (h A m c g hv h0 hb)
theorem RG.res (h : RG G w A n es) : REs w A n es := by
  obtain ⟨h1, vs, h2, h3, _⟩ := h
  exact REs.mk h2 h3 h1
theorem RG.len (h : RG G w A n es) : es.length = n := h.1
theorem RG.nil (G : Nat → Prop) (w : World) (A : Option Addr) : RG G w A 0 [] := ⟨rfl, [], rfl, RdV.nil _ _, GV.nil, fun h => absurd h (by omega)⟩
theorem RG.below (h : RG G w A n es) (hb : Below w.heap.size w w') : RG G w' A n es := by
  obtain ⟨h1, vs, h2, h3, h4⟩ := h
  exact ⟨h1, vs, h2.below hb, h3.below hb, h4⟩
theorem FrG.refl (G : Nat → Prop) (w : World) : FrG G w w := ⟨Nat.le_refl _, fun _ _ _ => rfl⟩
theorem FrG.trans (h : FrG G w w') (k : FrG G w' w2) : FrG G w w2 := ⟨Nat.le_trans h.1 k.1, fun b hb hg => (k.2 b (Nat.lt_of_lt_of_le hb h.1) hg).trans (h.2 b hb hg)⟩
theorem FrG.of_below (h : Below w.heap.size w w') : FrG G w w' := ⟨h.size, fun b hb _ => h.block b hb⟩
theorem FrG.of_grown {row : Option Nat} (h : w.grownBy w' row) (hr : ∀ g, row = some g → ¬ G g) : FrG G w w' := by
  obtain ⟨_, _, _, h4, h5⟩ := h
  exact ⟨h4, fun b hb hg => h5 b hb (fun e => hr b e.symm hg)⟩
theorem cell_of_heap {p : Addr} (h : w'.heap[p.block]? = w.heap[p.block]?) : w'.cell? p = w.cell? p := by
  unfold World.cell?
  rw [h]
theorem rd_good {xs : List UInt8} (h : Rd w A n xs) (hg : 0 < n → ∀ g, blk A = some g → G g) (hf : FrG G w w') : Rd w' A n xs := by
  refine ⟨h.1, fun hn => ?_⟩
  obtain ⟨b, off, rfl, h2, h3⟩ := h.2 hn
  exact ⟨b, off, rfl, Nat.lt_of_lt_of_le h2 hf.1, fun i x hx => (cell_of_heap (p := ⟨b, off + i, none⟩) (hf.2 b h2 (hg hn b rfl))).trans (h3 i x hx)⟩
theorem rdv_good (h : RdV w A n vs) (hg : 0 < n → ∀ g, blk A = some g → G g) (hf : FrG G w w') : RdV w' A n vs := by
  refine ⟨h.1, fun hn => ?_⟩
  obtain ⟨b, off, rfl, h2, h3⟩ := h.2 hn
  exact ⟨b, off, rfl, Nat.lt_of_lt_of_le h2 hf.1, fun i x hx => (cell_of_heap (p := ⟨b, off + i, none⟩) (hf.2 b h2 (hg hn b rfl))).trans (h3 i x hx)⟩
theorem ev_good {e : En} {v0 v1 v2 v3 : Value} (h : EV w e v0 v1 v2 v3) (hg : GV G [v0, v1, v2, v3]) (hf : FrG G w w') : EV w' e v0 v1 v2 v3 := by
  obtain ⟨h1, h2, h3, h4, ⟨K, kn, kc, rfl, r0, c0, d0⟩, ⟨V, vn, vc, rfl, r3, c3, d3⟩⟩ := h
  exact ⟨h1, h2, h3, h4, ⟨K, kn, kc, rfl, rd_good r0 (fun h0 g hb => hg K kn kc g (by simp) h0 hb) hf, c0, d0⟩, ⟨V, vn, vc, rfl, rd_good r3 (fun h0 g hb => hg V vn vc g (by simp) h0 hb) hf, c3, d3⟩⟩
theorem evs_good (hf : FrG G w w') : ∀ {es : List En} {vs : List Value}, EVs w es vs → GV G vs → EVs w' es vs
  | [], _, h, _ => h
  | _ :: _, _, ⟨v0, v1, v2, v3, r, e, h1, h2⟩, hg => ⟨v0, v1, v2, v3, r, e, ev_good h1 (hg.sub (fun u hu => by rw [e]; simp only [List.mem_cons, List.not_mem_nil, or_false] at hu ⊢; rcases hu with h | h | h | h <;> simp [h])) hf, evs_good hf h2 (hg.sub (fun u hu => by rw [e]; simp [hu]))⟩
/-- Behind whatever leaves the good blocks. -/
theorem RG.good (h : RG G w A n es) (hf : FrG G w w') : RG G w' A n es := by
  obtain ⟨h1, vs, h2, h3, h4, h5⟩ := h
  exact ⟨h1, vs, evs_good hf h2 h4, rdv_good h3 (fun h0 => h5 (by omega)) hf, h4, h5⟩
theorem ev_mem {e : En} {v0 v1 v2 v3 : Value} (h : EV w e v0 v1 v2 v3) {B : Option Addr} {m c : Nat} (hv : Value.slice B m c ∈ [v0, v1, v2, v3]) (h0 : 0 < m) {g : Nat} (hb : blk B = some g) : g < w.heap.size := by
  obtain ⟨K, kn, kc, V, vn, vc, rfl, rfl, rfl, rfl, r0, r3, _⟩ := h.parts
  simp only [List.mem_cons, List.not_mem_nil, or_false] at hv
  rcases hv with e | e | e | e
  · injection e with e1 e2 e3
    subst e1 e2
    obtain ⟨b, off, rfl, hl⟩ := r0.pos h0
    injection hb with hb
    rw [← hb]; exact hl
  · cases e
  · cases e
  · injection e with e1 e2 e3
    subst e1 e2
    obtain ⟨b, off, rfl, hl⟩ := r3.pos h0
    injection hb with hb
    rw [← hb]; exact hl
theorem evs_lt : ∀ {es : List En} {vs : List Value}, EVs w es vs → GV (fun g => g < w.heap.size) vs
  | [], _, h => by rw [h]; exact GV.nil
  | _ :: _, _, ⟨v0, v1, v2, v3, r, e, h1, h2⟩ => by
    rw [e]
    exact GV.app (vs := [v0, v1, v2, v3]) (fun A m c g hv h0 hb => ev_mem h1 hv h0 hb) (evs_lt h2)
/-- What is read lies in blocks that are there. -/
theorem REs.lt (h : REs w A n es) : RG (fun g => g < w.heap.size) w A n es := by
  obtain ⟨h1, vs, h2, h3⟩ := h
  refine ⟨h1, vs, h2, h3, evs_lt h2, fun h0 g hb => ?_⟩
  obtain ⟨b, off, rfl, hl⟩ := h3.pos (by omega)
  injection hb with hb
  rw [← hb]; exact hl
theorem RG.mono (h : RG G w A n es) (hs : ∀ g, G g → H g) : RG H w A n es := by
  obtain ⟨h1, vs, h2, h3, h4, h5⟩ := h
  exact ⟨h1, vs, h2, h3, h4.mono hs, fun h0 g hb => hs g (h5 h0 g hb)⟩
theorem RG.at_ {b off : Nat} (h : RG G w (some ⟨b, off, none⟩) n es) (k : Nat) (hk : k < n) :
    ∃ e v0 v1 v2 v3, es[k]? = some e ∧ w.cell? ⟨b, off + k * 4, none⟩ = some v0 ∧ w.cell? ⟨b, off + k * 4 + 1, none⟩ = some v1 ∧
      w.cell? ⟨b, off + k * 4 + 2, none⟩ = some v2 ∧ w.cell? ⟨b, off + k * 4 + 3, none⟩ = some v3 ∧ EV w e v0 v1 v2 v3 ∧ GV G [v0, v1, v2, v3] := by
  obtain ⟨h1, vs, h2, h3, h4, _⟩ := h
  obtain ⟨b', off', e, hb, hc⟩ := h3.2 (by omega)
  injection e with e
  injection e with e1 e2
  subst e1 e2
  obtain ⟨x, hx⟩ : ∃ x, es[k]? = some x := ⟨_, List.getElem?_eq_getElem (by omega)⟩
  obtain ⟨v0, v1, v2, v3, e0, e1, e2, e3, g0⟩ := h2.at_ k hx
  refine ⟨x, v0, v1, v2, v3, hx, hc _ _ e0, ?_, ?_, ?_, g0, h4.sub (fun u hu => ?_)⟩
  · rw [Nat.add_assoc]; exact hc _ _ e1
  · rw [Nat.add_assoc]; exact hc _ _ e2
  · rw [Nat.add_assoc]; exact hc _ _ e3
  · simp only [List.mem_cons, List.not_mem_nil, or_false] at hu
    rcases hu with rfl | rfl | rfl | rfl
    · exact List.mem_of_getElem? e0
    · exact List.mem_of_getElem? e1
    · exact List.mem_of_getElem? e2
    · exact List.mem_of_getElem? e3
end
/-- What PutAll answers. -/
def refPut (l xs : List En) : Int × List En := if checkE xs = 0 then match refIns l xs with | none => (7, l) | some l' => (0, l') else (checkE xs, l)
theorem refIns_snoc : ∀ (l xs : List En) (x : En), refIns l (xs ++ [x]) = (refIns l xs).bind (fun o => if inL o x then none else some (insL o x))
  | l, [], x => by simp [refIns]
  | l, y :: ys, x => by
    simp only [List.cons_append, refIns]
    by_cases h : inL l y = true
    · rw [if_pos h, if_pos h]; rfl
    · rw [if_neg h, if_neg h]
      exact refIns_snoc _ ys x
theorem refIns_none {l xs ys : List En} (h : refIns l xs = none) : refIns l (xs ++ ys) = none := by
  induction xs generalizing l with
  | nil => simp [refIns] at h
  | cons x xs ih =>
    simp only [List.cons_append, refIns] at h ⊢
    split at h
    · next h1 => rw [if_pos h1]
    · next h1 => rw [if_neg h1]; exact ih h
theorem refIns_len : ∀ {l o xs : List En}, refIns l xs = some o → o.length = l.length + xs.length
  | l, o, [], h => by injection h with h; subst h; simp
  | l, o, x :: xs, h => by
    unfold refIns at h
    split at h
    · cases h
    · have := refIns_len h
      rw [insL_len] at this
      simp only [List.length_cons]
      omega
theorem insL_mem {l : List En} {x y : En} (h : y ∈ insL l x) : y = x ∨ y ∈ l := by
  unfold insL at h
  rcases List.mem_append.1 h with h | h
  · exact .inr (List.mem_of_mem_take h)
  · rcases List.mem_cons.1 h with h | h
    · exact .inl h
    · exact .inr (List.mem_of_mem_drop h)
theorem refIns_mem : ∀ {l o xs : List En}, refIns l xs = some o → ∀ y ∈ o, y ∈ l ∨ y ∈ xs
  | l, o, [], h, y, hy => by injection h with h; subst h; exact .inl hy
  | l, o, x :: xs, h, y, hy => by
    unfold refIns at h
    split at h
    · cases h
    · rcases refIns_mem h y hy with q | q
      · rcases insL_mem q with q | q
        · exact .inr (by simp [q])
        · exact .inl q
      · exact .inr (by simp [q])
def RetPA (G : Nat → Prop) (w : World) (z : Int × List En) (e : Ending) (w' : World) : Prop :=
  ∃ L k d, e = .returned (.tuple #[.slice L k d, .int .i64 z.1]) ∧ RG G w' L k z.2 ∧ k ≤ d ∧ Below w.heap.size w w'
theorem RetPA.out {G : Nat → Prop} {w : World} {z : Int × List En} {e : Ending} {w' : World} (h : RetPA G w z e w') : ∃ L k d, e = .returned (.tuple #[.slice L k d, .int .i64 z.1]) ∧ RG G w' L k z.2 ∧ k ≤ d ∧ Below w.heap.size w w' := h
theorem refPut_bad {l xs : List En} (h : checkE xs ≠ 0) : refPut l xs = (checkE xs, l) := by unfold refPut; rw [if_neg h]
theorem refPut_none {l xs : List En} (h : checkE xs = 0) (h2 : refIns l xs = none) : refPut l xs = (7, l) := by unfold refPut; rw [if_pos h, h2]
theorem refPut_some {l xs o : List En} (h : checkE xs = 0) (h2 : refIns l xs = some o) : refPut l xs = (0, o) := by unfold refPut; rw [if_pos h, h2]
set_option maxRecDepth 100000 in
set_option maxHeartbeats 8000000 in
theorem putAll_any {G : Nat → Prop} {w : World} {A B : Option Addr} {n c m d : Nat} {es gs : List En} (h : RG G w A n es) (hc : n ≤ c) (hg : RG G w B m gs) (hn : n + m ≤ 1099511627776) (hs : ∀ x ∈ es, SzE x) (hsg : ∀ x ∈ gs, SzE x) (hG : ∀ b, w.heap.size ≤ b → G b) :
    Calls Try.prog 20 #[.slice A n c, .slice B m d] w (RetPA G w (refPut es gs)) := by
  have H := Lib.hid h
  have HGS := Lib.hid hg
  have HS := Lib.hid hs
  have HSG := Lib.hid hsg
  have HGG := Lib.hid hG
  have HL := Lib.hid h.len
  have HLG := Lib.hid hg.len
  obtain ⟨z, hz⟩ : ∃ z, z = checkE gs := ⟨_, rfl⟩
  have HZ := Lib.hid hz
  have HC : Hid (Calls Try.prog 59 #[.slice B m d] w (RetNu w z)) := Lib.hid (by rw [hz]; exact refCheck_any hg.res (by omega) hsg)
  clear h hg hs hsg hG hz
  go_enter Try.func20, Try.ntmps20
  go_wp2_with fail
  with_reducible refine HC.out.mono ?_
  rintro e w1 ⟨rfl, b1⟩
  have B1 := Lib.hid b1
  clear b1
  by_cases h0 : z = 0
  · subst h0
    have tz : ((0 : Int) != 0) = false := rfl
    go_wp2_with fail
    go_loopw [7, 8] (fun s7 s8 wr => ∃ (k dd : Nat) (L : Option Addr) (o : List En), k ≤ m ∧ s8 = .int .i64 (k : Int) ∧ s7 = .slice L (n + k) dd ∧ n + k ≤ dd ∧ refIns es (gs.take k) = some o ∧ RG G wr L (n + k) o ∧ Below w.heap.size w wr) (fun _ s _ => m - (intOf s).toNat)
    case atStart => exact ⟨0, c, A, es, Nat.zero_le _, rfl, rfl, hc, rfl, H.out.below B1.out, B1.out⟩
    case round =>
      obtain ⟨k, dd, L, o, hk, rfl, rfl, hdd, ho, hr, hB⟩ := hrel
      have HB := Lib.hid hB
      have HO := Lib.hid ho
      have HR := Lib.hid hr
      have swr := hB.size
      clear hB ho hr
      by_cases hlt : k < m
      · have hQ := HGS.out.below HB.out
        obtain ⟨b, off, hBb, hbl⟩ := hQ.res.pos (by omega)
        subst hBb
        obtain ⟨x, v0, v1, v2, v3, hx, c0, c1, c2, c3, hev, hgv⟩ := hQ.at_ k hlt
        have hsx := HSG.out x (List.mem_of_getElem? hx)
        have HEV := Lib.hid hev
        have HGV := Lib.hid hgv
        have HXK := Lib.hid hx
        have HSO : Hid (∀ y ∈ o, SzE y) := Lib.hid (fun y hy => by
          rcases refIns_mem HO.out y hy with q | q
          · exact HS.out y q
          · exact HSG.out y (List.mem_of_mem_take q))
        obtain ⟨z2, hz2⟩ : ∃ z2, z2 = inL o x := ⟨_, rfl⟩
        have HZ2 := Lib.hid hz2
        have HIN : Hid (Calls Try.prog 60 #[.slice L (n + k) dd, .agg #[v0, v1, v2, v3]] wr (RetT wr z2)) := Lib.hid (by rw [hz2]; exact In_any HR.out.res (by omega) HSO.out hev hsx)
        clear hQ hx hev hgv hz2
        go_wp2_with fail
        with_reducible refine HIN.out.mono ?_
        intro e w2 hq
        obtain ⟨h1, b2⟩ := RetT.outD hq
        subst h1
        have B2 := Lib.hid b2
        have d0 := (b2.cell hbl).trans c0
        have d1 := (b2.cell hbl).trans c1
        have d2 := (b2.cell hbl).trans c2
        have d3 := (b2.cell hbl).trans c3
        have HEV2 := Lib.hid (HEV.out.below b2)
        have hbl2 : b < w2.heap.size := Nat.lt_of_lt_of_le hbl b2.size
        have HR2 := Lib.hid (HR.out.below b2)
        have HB2 := Lib.hid (belowT' HB.out b2)
        clear hq b2 c0 c1 c2 c3 HIN
        have HTK : Hid (refIns es (gs.take (k + 1)) = if z2 = true then none else some (insL o x)) := Lib.hid (by
          rw [List.take_add_one, HXK.out]
          simp only [Option.toList]
          rw [refIns_snoc, HO.out, HZ2.out]
          rfl)
        cases z2 with
        | true =>
          have HNO : Hid (refPut es gs = (7, es)) := Lib.hid (refPut_none HZ.out.symm (by
            have h4 := refIns_none (ys := gs.drop (k + 1)) (HTK.out.trans (if_pos rfl))
            rw [List.take_append_drop] at h4
            exact h4))
          go_wp2_with fail
          go_ret2
          exact ⟨A, n, c, by rw [HNO.out]; rfl, by rw [HNO.out]; exact H.out.below HB2.out, hc, HB2.out⟩
        | false =>
          have HIS : Hid (refIns es (gs.take (k + 1)) = some (insL o x)) := Lib.hid (HTK.out.trans (if_neg (by simp)))
          obtain ⟨hol, ovs, hov, hod, hogv, hogb⟩ := HR2.out
          have HOG := Lib.hid hogv
          have HI : Hid (Calls Try.prog 61 #[.slice L (n + k) dd, .agg #[v0, v1, v2, v3]] w2 (RetIns w2 (n + k + 1) (insL o x) ([v0, v1, v2, v3] ++ ovs))) := Lib.hid (Insert_any hov hod hol hdd (by omega) HSO.out HEV2.out hsx)
          clear hov hod hogv hogb
          go_wp2_with fail
          with_reducible refine HI.out.mono ?_
          intro e w3 hq
          obtain ⟨L3, d3', us, h1, o3, ev3, b3, hmem⟩ := RetIns.out hq
          subst h1
          have HB3 := Lib.hid (belowT' HB2.out b3)
          have s2 := HB2.out.size
          have hc3 := o3.cap
          have HR3 : Hid (RG G w3 L3 (n + k + 1) (insL o x)) := Lib.hid ⟨by rw [insL_len, hol], us, ev3, o3.rd, (HGV.out.app HOG.out).sub hmem, fun _ g hb => HGG.out g (by have := (o3.lt g hb).1; omega)⟩
          clear hq o3 ev3 b3 hmem HI d0 d1 d2 d3
          go_wp2_with fail
          go_roundw
          case rel => exact ⟨k + 1, d3', L3, _, by omega, by go_num, rfl, hc3.1, HIS.out, HR3.out, HB3.out⟩
          case measure => simp [intOf]; omega
      · have htk := take_all HLG.out hlt
        rw [htk] at HO
        have HFN : Hid (refPut es gs = (0, o)) := Lib.hid (refPut_some HZ.out.symm HO.out)
        clear htk
        go_wp2
        go_ret2
        exact ⟨L, n + k, dd, by rw [HFN.out]; rfl, by rw [HFN.out]; exact HR.out, hdd, HB.out⟩
  · have HFN : Hid (refPut es gs = (z, es)) := Lib.hid (by rw [HZ.out]; exact refPut_bad (by rw [← HZ.out]; exact h0))
    have tz : (z != 0) = true := by simpa using h0
    go_wp2_with fail
    go_ret2
    exact ⟨A, n, c, by rw [HFN.out]; rfl, by rw [HFN.out]; exact H.out.below B1.out, hc, B1.out⟩
end Go.Proofs.Ytheefpgokdejcaa
