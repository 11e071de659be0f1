/- The program's Seal: length, sum, bytes, in new memory; what is longer than a record is refused. -/
import Derived.Test.YtgccbghaibddcaaCrcW
import Derived.Test.YtgccbghaibddcaaAwake3
import Derived.Test.YtgccbghaibddcaaFamD
namespace Go.Proofs.Ytgccbghaibddcaa
open Go Go.RowKit

theorem flat_take_le (xss : List (List UInt8)) (k : Nat) : (xss.take k).flatten.length ≤ xss.flatten.length := by
  have h : xss.flatten = (xss.take k).flatten ++ (xss.drop k).flatten := by rw [← List.flatten_append, List.take_append_drop]
  rw [h, List.length_append]
  omega
theorem flat_snoc {xss : List (List UInt8)} {k : Nat} {x : List UInt8} (h : xss[k]? = some x) : (xss.take (k + 1)).flatten = (xss.take k).flatten ++ x := by
  rw [List.take_add_one, h]; simp

/-- The values of a row of lists. -/
theorem RdL.vals {w : World} {A : Option Addr} {n : Nat} {xss : List (List UInt8)} (h : RdL w A n xss) :
    ∃ vs : List Value, RdV w A n vs ∧ (∀ (i : Nat) v x, vs[i]? = some v → xss[i]? = some x → ElB w v x) ∧ ∀ u ∈ vs, u.oneCell' = true := by
  have key : ∀ m, m ≤ n → ∃ vs : List Value, vs.length = m ∧ (∀ b off, A = some ⟨b, off, none⟩ → ∀ (i : Nat) v, vs[i]? = some v → w.cell? ⟨b, off + i, none⟩ = some v) ∧ (∀ (i : Nat) v x, vs[i]? = some v → xss[i]? = some x → ElB w v x) ∧ ∀ u ∈ vs, u.oneCell' = true := by
    intro m
    induction m with
    | zero => intro _; exact ⟨[], rfl, by simp, by simp, by simp⟩
    | succ m ih =>
      intro hm
      obtain ⟨vs, h1, h2, h3, h4⟩ := ih (by omega)
      obtain ⟨b, off, rfl, _⟩ := h.pos (by omega)
      obtain ⟨x, X, nx, cx, hk1, hc0, rx0, hxc, hnil⟩ := h.at_ m (by omega)
      refine ⟨vs ++ [.slice X nx cx], by simp [h1], ?_, ?_, ?_⟩
      · intro b' off' e i v hi
        rw [List.getElem?_append] at hi
        split at hi
        · exact h2 b' off' e i v hi
        · next hlt =>
          have : i = m := by
            have := (List.getElem?_eq_some_iff.1 hi).1
            simp at this
            omega
          subst this
          injection e with e
          injection e with e1 e2
          subst e1 e2
          rw [h1, Nat.sub_self] at hi
          simp at hi
          rw [← hi]
          exact hc0
      · intro i v y hi hy
        rw [List.getElem?_append] at hi
        split at hi
        · exact h3 i v y hi hy
        · next hlt =>
          have : i = m := by
            have := (List.getElem?_eq_some_iff.1 hi).1
            simp at this
            omega
          subst this
          rw [h1, Nat.sub_self] at hi
          simp at hi
          rw [hk1] at hy
          injection hy with hy
          subst hi hy
          exact ⟨X, nx, cx, rfl, rx0, hxc, hnil⟩
      · intro u hu
        rw [List.mem_append, List.mem_singleton] at hu
        rcases hu with hu | rfl
        · exact h4 u hu
        · rfl
  obtain ⟨vs, h1, h2, h3, h4⟩ := key n (Nat.le_refl _)
  refine ⟨vs, ⟨h1, fun hn => ?_⟩, h3, h4⟩
  obtain ⟨b, off, e, hb⟩ := h.pos hn
  exact ⟨b, off, e, hb, h2 b off e⟩

/-- A row of values that read as lists, read as a list of lists. -/
theorem RdV.rdl {w : World} {A : Option Addr} {n : Nat} {vs : List Value} {xss : List (List UInt8)} (h : RdV w A n vs) (hl : xss.length = n) (he : ∀ (i : Nat) v x, vs[i]? = some v → xss[i]? = some x → ElB w v x) : RdL w A n xss := by
  refine ⟨hl, fun hn => ?_⟩
  obtain ⟨b, off, e, hb, hc⟩ := h.2 hn
  refine ⟨b, off, e, hb, fun i x hx => ?_⟩
  have hi := (List.getElem?_eq_some_iff.1 hx).1
  obtain ⟨v, hv⟩ : ∃ v, vs[i]? = some v := ⟨_, List.getElem?_eq_getElem (by rw [h.1]; omega)⟩
  exact ⟨v, hc i v hv, he i v x hv hx⟩

/-- A block of bytes, read. -/
theorem Rd.row {w : World} {g n : Nat} {e : TypeId} {fr : Nat × Nat} {xs : List UInt8} (h : w.heap[g]? = some (.cells (xs.map cv).toArray e fr)) (hn : xs.length = n) : Rd w (some ⟨g, 0, none⟩) n xs := by
  refine ⟨hn, fun _ => ⟨g, 0, rfl, (Array.getElem?_eq_some_iff.1 h).1, fun i x hx => ?_⟩⟩
  rw [cell_of_row w g (0 + i) _ e fr h]
  simp [hx, cv]

theorem ownV_box (w : World) (t : TypeId) (base : Nat) (vs : List Value) (n : Nat) (hl : vs.length = n) (hn : n ≤ 1024) (hb : base ≤ w.heap.size) (cs : Array Value) (hc : cs = vs.toArray) (g : Nat) (hg : g = w.heap.size) : OwnV t (w.alloc (.cells cs t)) base (some ⟨g, 0, none⟩) n n vs := by
  subst hc hg
  refine ⟨by simp [hl], .inr ⟨w.heap.size, n, vs.toArray, rfl, hb, heap_alloc_new w _, Nat.le_refl _, by unfold maxLen; omega, by simp [hl], ?_⟩⟩
  simp only [Nat.mul_one]
  exact List.take_of_length_le (by simp [hl])

/-- Four noughts. -/
abbrev zero4 : Array Value := #[.int .u8 0, .int .u8 0, .int .u8 0, .int .u8 0]
theorem four_cells (n : Nat) : (((fourB n).map cv).toArray).all (·.oneCell') = true := by
  rw [Array.all_eq_true_iff_forall_mem]
  intro v hv
  rw [List.mem_toArray] at hv
  exact cv_one _ v hv

set_option maxRecDepth 100000 in
set_option maxHeartbeats 4000000 in
theorem Seal_any (A : Option Addr) (n c : Nat) (xss : List (List UInt8)) (w : World) (hx : RdL w A n xss) (ht : tot xss ≤ 268435456) :
    Calls Try.prog 35 #[.slice A n c] w (RetSE w.heap.size w (sealG xss.flatten)) := by
  obtain ⟨base, hbase⟩ : ∃ b, b = w.heap.size := ⟨_, rfl⟩
  rw [← hbase]
  have Hw : Hid (base = w.heap.size) := Lib.hid hbase
  clear hbase
  have hn : n ≤ 268435456 := by have := tot_len xss; have := hx.len; omega
  have HXL := Lib.hid hx.len
  go_enter Try.func35, Try.ntmps35
  go_wp2
  go_loopw [4, 14] (fun vs vk wr => ∃ s k q : Nat, vs = .int .i64 s ∧ vk = .int .i64 k ∧ k ≤ n ∧ s = (xss.take k).flatten.length ∧ s ≤ 1048576 ∧ wr = w.drewN q) (fun _ vk _ => n - (intOf vk).toNat)
  case atStart => exact ⟨0, 0, 0, rfl, rfl, Nat.zero_le _, rfl, Nat.zero_le _, rfl⟩
  case round =>
    obtain ⟨s, k, q, rfl, rfl, hk, hs, hs1, rfl⟩ := hrel
    have Hs := Lib.hid hs
    clear hs
    by_cases hlt : k < n
    · obtain ⟨b, off, rfl, hbl⟩ := hx.pos (by omega)
      obtain ⟨x, X, nx, cx, hk1, hc0, rx0, hxc, _⟩ := hx.at_ k hlt
      have hc : (w.drewN q).cell? ⟨b, off + k, none⟩ = some (.slice X nx cx) := hc0
      have HS := Lib.hid (flat_snoc hk1)
      have HXX := Lib.hid rx0.len
      have hnx : nx ≤ 268435456 := by have := tot_at hk1; have := rx0.len; omega
      obtain ⟨W, hW⟩ : ∃ W, W = w.drewN q := ⟨_, rfl⟩
      rw [← hW] at hc ⊢
      have HW := Lib.hid hW
      clear hW hk1 hc0 hbl
      by_cases hlong : 1048576 - s < nx
      · have G : Hid (sealG xss.flatten = ([], 2)) := Lib.hid (sealG_long rfl (by
          have h1 := flat_take_le xss (k + 1)
          rw [HS.out, List.length_append, ← Hs.out, HXX.out] at h1
          omega))
        have h1 : decide ((1048576 : Int) - (s : Int) < (nx : Int)) = true := by simp; omega
        go_wp2
        go_ret2
        refine ⟨none, 0, 0, by rw [G.out]; rfl, by rw [G.out]; exact Own.nil _ _ _, ?_⟩
        rw [HW.out, Hw.out]
        exact below_drewN (Below.refl _ _) q
      · have h1 : decide ((1048576 : Int) - (s : Int) < (nx : Int)) = false := by simp; omega
        go_wp2
        go_roundw
        case rel => exact ⟨s + nx, k + 1, _, by go_num, by go_num, by omega, by rw [HS.out, List.length_append, ← Hs.out, HXX.out], by omega, HW.out⟩
        case measure => simp [intOf]; omega
    · obtain rfl : k = n := by omega
      obtain ⟨ps, hps⟩ : ∃ ps, ps = xss.flatten := ⟨_, rfl⟩
      have hlp : ps.length = s := by rw [hps, Hs.out, List.take_of_length_le (by rw [HXL.out]; omega)]
      have G : Hid (sealG ps = (sealB ps, 0)) := Lib.hid (sealG_ok hlp (by omega))
      have HPS := Lib.hid hps
      have HLP := Lib.hid hlp
      rw [← hps]
      clear hps hlp Hs
      have hx0 : RdL (w.drewN q) A k xss := hx.drewN q
      have hb0 : Below base w (w.drewN q) := by rw [Hw.out]; exact below_drewN (Below.refl _ _) q
      obtain ⟨W, hW⟩ : ∃ W, W = w.drewN q := ⟨_, rfl⟩
      rw [← hW] at hx0 hb0 ⊢
      clear hW hx
      go_wp2_with fail
      refine (word_any s _ (by omega)).mono ?_
      rintro e w1 ⟨rfl, hb1⟩
      have hx1 := hx0.below hb1
      have hb1 : Below base w w1 := hb0.trans (hb1.mono (by have := hb0.size; have := Hw.out; omega))
      clear hx0 hb0
      have hbw1 : base ≤ w1.heap.size := by have := hb1.size; have := Hw.out; omega
      obtain ⟨W2, hW2⟩ : ∃ W2, W2 = (w1.alloc (.cells zero4 172)).setRow w1.heap.size ((fourB s).map cv).toArray := ⟨_, rfl⟩
      have r2 : W2.heap[w1.heap.size]? = some (.cells ((fourB s).map cv).toArray 172 (0, 0)) := by rw [hW2]; exact setRow_heap _ _ _ _ _ _ (heap_alloc_new _ _)
      have hz2 : W2.heap.size = w1.heap.size + 1 := by rw [hW2, setRow_size]; simp
      have hb12 : Below w1.heap.size w1 W2 := by rw [hW2]; exact below_setRow ((Below.refl _ _).alloc (Nat.le_refl _) _) (Nat.le_refl _) _
      obtain ⟨vs, hv0, hv2, hv3⟩ := hx1.vals
      have hv1 := hv0.below hb12
      have HV2 := Lib.hid hv2
      have HV3 := Lib.hid hv3
      have HZ2 := Lib.hid hz2
      have HR2 := Lib.hid r2
      have HW2 := Lib.hid hW2
      clear hv2 hv3 hz2 r2 hW2 hv0
      go_wp2_with (first
        | (refine wpList_store_row rfl _ _ _ rfl w1.heap.size ((fourB s).map cv).toArray rfl rfl 172 zero4 (heap_alloc_new _ _) info_four rfl (four_cells s) ?_; rw [← HW2.out])
        | (at_builtin; refine wpList_appV _ rfl _ _ 95 rfl w1.heap.size 30 _ 24 Try.underlying95 info_sl rfl (some ⟨W2.heap.size, 0, none⟩) 1 1 [.slice (some ⟨w1.heap.size, 0, none⟩) 4 4] rfl (ownV_box W2 _ _ _ 1 rfl (by omega) hb12.size _ rfl _ rfl) A k c vs rfl (hv1.alloc _) HV3.out ?_ ?_ ?_ ?_))
      · unfold maxLen; omega
      · omega
      · simp; have := HZ2.out; omega
      intro B' d' w3 hB3 hg3 _
      have hb23 : Below w1.heap.size W2 w3 := ((Below.refl _ _).alloc (by have := HZ2.out; omega) _).grown hg3 (by simp; have := HZ2.out; omega) (fun k hk => by injection hk with hk; have := HZ2.out; simp only at hk; omega)
      have hb13 := hb12.trans hb23
      have hx3 := hx1.below hb13
      have r3 : w3.heap[w1.heap.size]? = some (.cells ((fourB s).map cv).toArray 172 (0, 0)) := by
        rw [hg3.block _ (by simp; have := HZ2.out; omega) (by intro e; injection e with e; have := HZ2.out; simp only at e; omega), heap_alloc_old _ _ (show w1.heap.size < W2.heap.size by have := HZ2.out; omega)]
        exact HR2.out
      have rd3 := Rd.row r3 (fourB_len s)
      have hL3 : RdL w3 B' (1 + k) (fourB s :: xss) := hB3.rd.rdl (by rw [List.length_cons, HXL.out]; omega) (fun i v x hv hx => by
        cases i with
        | zero =>
          simp at hv hx
          subst hv hx
          exact ⟨_, 4, 4, rfl, rd3, Nat.le_refl _, fun h => by cases h⟩
        | succ i =>
          simp at hv hx
          exact (HV2.out i v x hv hx).below hb13)
      have hb3 := hb1.trans (hb13.mono hbw1)
      have hbw3 : base ≤ w3.heap.size := by have := hb3.size; have := Hw.out; omega
      clear hb1 hx1 hb12 hv1 hB3 hg3 hb23 hb13 r3
      have hts : tot (fourB s :: xss) ≤ 1099511627776 := by simp only [tot, fourB_len]; omega
      go_wp2_with fail
      refine (Sum_any B' (1 + k) d' (fourB s :: xss) _ hL3 hts).mono ?_
      rintro e w4 ⟨rfl, hb4⟩
      obtain ⟨z, hz⟩ : ∃ z, z = crcB (fourB s :: xss).flatten := ⟨_, rfl⟩
      have hz32 : z < 4294967296 := by rw [hz]; exact crcB_lt _
      have HZ : Hid (z = crcB (fourB s ++ ps)) := Lib.hid (by rw [hz, List.flatten_cons, HPS.out])
      rw [← hz]
      clear hz
      have rd4 := rd3.below hb4
      have hx4 := hx3.below hb4
      have hb4 : Below base w w4 := hb3.trans (hb4.mono hbw3)
      have hbw4 : base ≤ w4.heap.size := by have := hb4.size; have := Hw.out; omega
      clear rd3 hx3 hb3 hL3
      go_wp2_with fail
      refine (word_any z _ hz32).mono ?_
      rintro e w5 ⟨rfl, hb5⟩
      have rd5 := rd4.below hb5
      have hx5 := hx4.below hb5
      have hb5 : Below base w w5 := hb4.trans (hb5.mono hbw4)
      have hbw5 : base ≤ w5.heap.size := by have := hb5.size; have := Hw.out; omega
      clear rd4 hx4 hb4
      obtain ⟨W6, hW6⟩ : ∃ W6, W6 = (w5.alloc (.cells zero4 172)).setRow w5.heap.size ((fourB z).map cv).toArray := ⟨_, rfl⟩
      have r6 : W6.heap[w5.heap.size]? = some (.cells ((fourB z).map cv).toArray 172 (0, 0)) := by rw [hW6]; exact setRow_heap _ _ _ _ _ _ (heap_alloc_new _ _)
      have hb56 : Below w5.heap.size w5 W6 := by rw [hW6]; exact below_setRow ((Below.refl _ _).alloc (Nat.le_refl _) _) (Nat.le_refl _) _
      have rz6 := Rd.row r6 (fourB_len z)
      have rd6 := rd5.below hb56
      have hx6 := hx5.below hb56
      have hb6 : Below base w W6 := hb5.trans (hb56.mono hbw5)
      have hbw6 : base ≤ W6.heap.size := by have := hb6.size; have := Hw.out; omega
      have HW6 := Lib.hid hW6
      have HR6 := Lib.hid r6
      clear hW6 r6 hb56 rd5 hx5 hb5
      go_wp2_with (first
        | (refine wpList_store_row rfl _ _ _ rfl w5.heap.size ((fourB z).map cv).toArray rfl rfl 172 zero4 (heap_alloc_new _ _) info_four rfl (four_cells z) ?_; rw [← HW6.out])
        | (at_make; refine wpList_mk _ rfl _ _ 30 rfl W6.heap.size 5 Try.underlying30 info_u8 _ (8 + s) rfl rfl (by omega) (by omega) (Nat.le_refl _) ?_))
      intro A7 w7 ho7 hb7
      have rd7 := rd6.below hb7
      have rz7 := rz6.below hb7
      have hx7 := hx6.below hb7
      go_wp2_with (at_builtin; refine wpList_app w7 rfl (.tmp 40) (.tmp 41) 30 rfl W6.heap.size 5 Try.underlying30 info_u8 A7 0 (8 + s) [] rfl ho7 (some ⟨w1.heap.size, 0, none⟩) 4 4 (fourB s) rfl rd7 ?_ ?_ ?_)
      · omega
      · exact hb7.size
      intro A8 c8 w8 ho8 hb8
      have hb8 : Below W6.heap.size W6 w8 := hb7.trans hb8
      have rz8 := rz6.below hb8
      have hx8 := hx6.below hb8
      clear rd7 rz7 hx7 hb7 ho7
      go_wp2_with (at_builtin; refine wpList_app w8 rfl (.tmp 43) (.tmp 44) 30 rfl W6.heap.size 5 Try.underlying30 info_u8 A8 4 c8 (fourB s) rfl ho8 (some ⟨w5.heap.size, 0, none⟩) 4 4 (fourB z) rfl rz8 ?_ ?_ ?_)
      · omega
      · exact hb8.size
      intro A9 c9 w9 ho9 hb9
      have hb9 : Below W6.heap.size W6 w9 := hb8.trans hb9
      have HO9 := Lib.hid ho9
      clear rz8 hx8 hb8 ho8 ho9
      go_wp2
      go_loopw [9, 48] (fun v i wr => ∃ (P : Option Addr) (m d j : Nat), v = .slice P m d ∧ i = .int .i64 j ∧ j ≤ k ∧ Own 5 wr W6.heap.size P m d ((fourB s ++ fourB z) ++ (xss.take j).flatten) ∧ m ≤ 8 + tot (xss.take j) ∧ Below W6.heap.size W6 wr) (fun _ i _ => k - (intOf i).toNat)
      case atStart => exact ⟨A9, 4 + 4, c9, 0, rfl, rfl, Nat.zero_le _, by rw [List.take_zero, List.flatten_nil, List.append_nil]; exact HO9.out, by omega, hb9⟩
      case round =>
        clear hb9
        obtain ⟨P, m, d, j, rfl, rfl, hj, op, hm, hb9⟩ := hrel
        have hbs := hb9.size
        by_cases hjk : j < k
        · obtain ⟨b, off, rfl, hbl⟩ := hx6.pos (by omega)
          obtain ⟨x, X, nx, cx, hk1, hc0, rx0, hxc, _⟩ := hx6.at_ j hjk
          have hc := (hb9.cell (p := ⟨b, off + j, none⟩) hbl).trans hc0
          have rx := rx0.below hb9
          have hts := tot_snoc hk1
          have htk := tot_take xss (j + 1)
          have hmt : m + nx + 1 ≤ 8 + tot (xss.take (j + 1)) := by have := rx.len; omega
          have HS := Lib.hid (flat_snoc hk1)
          clear hk1 hc0 hbl hts
          go_wp2_with (at_builtin; refine wpList_app wr rfl (.tmp 52) (.tmp 53) 30 rfl W6.heap.size 5 Try.underlying30 info_u8 P m d _ rfl op X nx cx x rfl rx ?_ ?_ ?_)
          · omega
          · exact hbs
          intro A' c' w' h1 h2
          have H1 := Lib.hid h1
          have H2 := Lib.hid h2
          clear h1 h2 op
          go_wp2
          go_roundw
          case rel => exact ⟨A', m + nx, c', j + 1, rfl, by go_num, by omega, by rw [HS.out, ← List.append_assoc]; exact H1.out, by omega, hb9.trans H2.out⟩
          case measure => simp [intOf]; omega
        · obtain rfl : j = k := by omega
          have HB : Hid (Below base w wr) := Lib.hid (hb6.trans (hb9.mono hbw6))
          go_wp2
          go_ret2
          rw [← HPS.out]
          refine ⟨P, m, d, by rw [G.out]; rfl, ?_, HB.out⟩
          rw [G.out]
          have h9 : sealB ps = (fourB s ++ fourB z) ++ ps := by rw [sealB, HLP.out, HZ.out, List.append_assoc]
          rw [List.take_of_length_le (by rw [HXL.out]; omega), ← HPS.out, ← h9] at op
          exact op.mono hbw6
end Go.Proofs.Ytgccbghaibddcaa
