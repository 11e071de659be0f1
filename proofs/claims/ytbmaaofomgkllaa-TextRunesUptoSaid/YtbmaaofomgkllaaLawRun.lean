/- TextRunes: for every text of at most 2^36 bytes and every row of at most 2^36 numbers the call returns true, and what was there stands. -/
import Derived.Test.YtbmaaofomgkllaaAwake2
import Derived.Test.YtbmaaofomgkllaaRunes
import Derived.Deep.RegionHeld3
namespace Go.Proofs.Ytbmaaofomgkllaa
open Go Go.RowKit

/-- The append of what reads as ys (one byte at least) onto a row of the call's own: what stands elsewhere stays, and the row is where it was or in a new block. -/
theorem wpList_appB {P : Program} (w : World) {ops : Array Oper} {rest : List Oper} {o : Oper} {a : Act} {Q : Exit → Act → World → Prop} (hgd : o.guard = none) (s x : Operand) (t : TypeId)
    (ho : o.op = .call { callee := .builtin .append, args := #[s, x], argTypes := #[t, t] })
    (base : Nat) (e : TypeId) (ht : P.underlying t = some (.slice e)) (hi : (P.info? e).map (fun i => (i.zero, i.size, i.bytes)) = some (some (.int .u8 0), 1, 1))
    (A : Option Addr) (n c : Nat) (xs : List UInt8) (hs : a.eval s = .slice A n c) (hown : OwnV e w base A n c (xs.map cv))
    (B : Option Addr) (m d : Nat) (ys : List UInt8) (hx : a.eval x = .slice B m d) (hr : Rd w B m ys) (hm : 0 < m)
    (hbytes : n + m ≤ 140737488355328) (hbase : base ≤ w.heap.size)
    (h : ∀ A' c' w', OwnV e w' base A' (n + m) c' ((xs ++ ys).map cv) → w.grownBy w' (blk A) → (blk A' = blk A ∨ blk A' = some w.heap.size) → wpList P ops Q rest (a.put o.dst (.slice A' (n + m) c')) w') : wpList P ops Q (o :: rest) a w := by
  obtain ⟨i, hi, hz, hsz, hby⟩ := info_parts hi
  obtain ⟨b, off, rfl, _, hc⟩ := hr.2 hm
  refine wpList_append_own_at w hgd s x t ho base e i (.int .u8 0) 1 1 ht hi hz hsz hby rfl (by decide) (.slice A n c) n (xs.map cv) hs hown ⟨b, off, none⟩ m d (ys.map cv) hx (by simp [hr.1]) ?_ (cv_one ys) (by unfold maxLen; omega) (by omega) hbase ?_
  · intro j u hj
    rw [List.getElem?_map] at hj
    cases hy : ys[j]? with
    | none => rw [hy] at hj; cases hj
    | some y =>
      rw [hy] at hj
      injection hj with hj
      subst hj
      rw [Addr.add_lit]
      exact hc j y hy
  · intro v' w' k1 k2 _ k3
    obtain ⟨A', c', rfl⟩ : ∃ A' c', v' = .slice A' (n + m) c' := by
      rcases k1.2 with ⟨_, h4⟩ | ⟨g, cap, cur, h4, _⟩
      · omega
      · exact ⟨_, _, h4⟩
    rw [own_blk, own_blk] at k3
    rw [own_blk] at k2
    exact h A' c' w' (by rw [List.map_append]; exact k1) k2 k3

/-- A number as a rune. -/
def w32 (z : Int) : Int := IntKind.i32.wrap z
theorem w32_in (z : Int) : -2147483648 ≤ w32 z ∧ w32 z ≤ 2147483647 := by unfold w32; rw [IntKind.wrap_i32]; omega

theorem PutZ_any (z : Int) (w : World) (h1 : -9223372036854775808 ≤ z) (h2 : z ≤ 9223372036854775807) : Calls Try.prog 53 #[.int .i64 z] w (Made w.heap.size w (putR (fixZ z))) := by
  by_cases h : z < 0 ∨ 1114111 < z ∨ (55296 ≤ z ∧ z ≤ 57343)
  · rw [fixZ_bad h]
    exact Put_bad z w h h1 h2
  · have e : z = (z.toNat : Int) := by omega
    have hv : VR z.toNat := by unfold VR; omega
    have hp := Put_any z.toNat w hv
    rw [← e] at hp
    rw [show fixZ z = z.toNat by rw [fixZ, if_neg h]]
    exact hp

theorem rune_pair (s : ByteArray) (k : Nat) (hk : k < (rn s).length) : ∃ c : Nat, c ≤ 1114111 ∧ (kvs (rz s))[k]? = some (.int .i32 c) ∧ (runeVs (rn s))[k]? = some (.int .i64 c) := by
  have hk2 : k < (rs s).length := by rw [rs_len]; exact hk
  refine ⟨(rs s)[k], (rs_valid s _ (List.getElem_mem hk2)).1, ?_, ?_⟩
  · simp only [kvs, rz, List.map_map, List.getElem?_map, List.getElem?_eq_getElem hk2]
    rfl
  · simp only [runeVs, List.getElem?_map, List.getElem?_eq_getElem hk, rs, List.getElem_map]
    rfl

set_option maxRecDepth 100000 in
set_option maxHeartbeats 4000000 in
theorem textRunes_any (s : ByteArray) (L : Option Addr) (ln lc : Nat) (js : List Int) (w : World) (hs : s.size ≤ 68719476736) (hL : RdV w L ln (js.map iv)) (hln : ln ≤ 68719476736) (_hlc : ln ≤ lc)
    (hj : ∀ z ∈ js, -9223372036854775808 ≤ z ∧ z ≤ 9223372036854775807) :
    Calls Try.prog 10 #[.string s, .slice L ln lc] w (RetT w true) := by
  have Hj := Lib.hid hj
  have HP := Lib.hid (rune_pair s)
  clear hj
  go_enter Try.func10, Try.ntmps10
  go_wp2_with fail
  refine (awake2_any _).mono ?_
  rintro e w1 ⟨rfl, hb1⟩
  go_wp2_with fail
  refine (Runes_any s _ (by omega)).mono ?_
  rintro e w2 ⟨K, nk, ck, rfl, hK, hb2⟩
  go_wp2_with fail
  refine (refRunes_any s _ (by omega)).mono ?_
  rintro e w3 ⟨A, na, ca, B, nb, cb, rfl, hA, _, hb3⟩
  go_wp2_with fail
  refine (Bad_any s _ (by omega)).mono ?_
  rintro e w4 ⟨rfl, hb4⟩
  have HW := Lib.hid (Wrong_any s)
  obtain ⟨o, ho⟩ : ∃ o, wr s = o := ⟨_, rfl⟩
  rw [ho] at HW ⊢
  have Ho := Lib.hid ho
  clear ho
  simp only [wrV]
  go_wp2_with fail
  refine (HW.out _ (by omega)).mono ?_
  rintro e W ⟨rfl, rfl⟩
  simp only [wrV]
  have hk2 : nk = (rn s).length := by have := hK.len; simp [kvs, rz] at this; rw [← rs_len]; omega
  have ha2 : na = (rn s).length := by have := hA.len; simp [runeVs] at this; omega
  have HN := Lib.hid (Len_any s)
  obtain ⟨m, hm⟩ : ∃ m, (rn s).length = m := ⟨_, rfl⟩
  have hms : m ≤ s.size := by rw [← hm]; exact rn_len s
  rw [hm] at hk2 ha2 HP HN
  subst hk2 ha2
  clear hm
  go_wp2_with fail
  refine (HN.out _ (by omega)).mono ?_
  rintro e w5 ⟨rfl, hb5⟩
  have k2 := hb1.trans (hb2.mono hb1.size)
  have k3 := k2.trans (hb3.mono k2.size)
  have k4 := k3.trans (hb4.mono k3.size)
  have hbel := k4.trans (hb5.mono k4.size)
  have hK5 := ((hK.below hb3).below hb4).below hb5
  have rA := (((hA.rd).below hb4).below hb5)
  have hL5 := ((((hL.below hb1).below hb2).below hb3).below hb4).below hb5
  clear hK hA hb1 hb2 hb3 hb4 hb5 k2 k3 k4 hL
  have rK := hK5.rd
  go_wp2
  go_loopw [60] (fun i wr => ∃ k q : Nat, k ≤ na ∧ i = .int .i64 k ∧ wr = w5.drewN q) (fun i _ => na - (intOf i).toNat)
  case atStart => exact ⟨0, 0, Nat.zero_le _, rfl, rfl⟩
  case round =>
    obtain ⟨k, q, hk, rfl, rfl⟩ := hrel
    by_cases hlt : k < na
    · obtain ⟨b1, off1, rfl, _⟩ := rK.pos (by omega)
      obtain ⟨b2, off2, rfl, _⟩ := rA.pos (by omega)
      obtain ⟨v1, hv1, hc1⟩ := rK.at_ k hlt
      obtain ⟨v2, hv2, hc2⟩ := rA.at_ k hlt
      obtain ⟨c, hc, h1, h2⟩ := HP.out k hlt
      rw [h1] at hv1
      rw [h2] at hv2
      injection hv1 with hv1
      injection hv2 with hv2
      subst hv1 hv2
      clear h1 h2
      go_wp2
      go_quiet (fail)
      go_wp2
      go_roundw
      case rel => exact ⟨k + 1, _, by omega, by go_num, rfl⟩
      case measure => simp [intOf]; omega
    · obtain ⟨W, hW⟩ : ∃ W, W = w5.drewN q := ⟨_, rfl⟩
      have hbW : Below w.heap.size w W := by rw [hW]; exact below_drewN hbel q
      have hKW := hK5.drewN q
      have hLW := hL5.drewN q
      rw [← hW] at hKW hLW ⊢
      clear hW rK rA hL5 hK5 hbel HP HN
      go_wp2
      clear hlt hk
      obtain ⟨ds, hds⟩ : ∃ ds, ds = js.map w32 := ⟨_, rfl⟩
      obtain ⟨es, hes⟩ : ∃ es, es = ds.map fixZ := ⟨_, rfl⟩
      have HDS := Lib.hid hds
      have HES := Lib.hid hes
      have hdl : ds.length = ln := by rw [hds]; have := hLW.len; simpa using this
      have hel : es.length = ln := by rw [hes]; simpa using hdl
      clear hds hes
      go_loopw [13, 14, 76] (fun g u i wr => ∃ (G : Option Addr) (gn gc : Nat) (T : Option Addr) (tn tc k : Nat), g = .slice G gn gc ∧ u = .slice T tn tc ∧ i = .int .i64 k ∧ k ≤ ln ∧ OwnV 21 wr W.heap.size G gn gc (kvs (ds.take k)) ∧ OwnV 5 wr W.heap.size T tn tc ((encR (es.take k)).map cv) ∧ (∀ b, blk G = some b → blk T ≠ some b) ∧ Below W.heap.size W wr) (fun _ _ i _ => ln - (intOf i).toNat)
      case atStart => exact ⟨none, 0, 0, none, 0, 0, 0, rfl, rfl, rfl, Nat.zero_le _, OwnV.nil _ _ _, OwnV.nil _ _ _, fun b h => by simp [blk] at h, Below.refl _ _⟩
      case round =>
        obtain ⟨G, gn, gc, T, tn, tc, k, rfl, rfl, rfl, hk, hG, hT, hd, hb⟩ := hrel
        have hgn : gn ≤ k := by have := hG.len; simp [kvs] at this; omega
        have htn : tn ≤ 4 * k := by
          have h1 := (encR_len (es.take k)).2
          have h2 := hT.len
          simp only [List.length_map, List.length_take] at h1 h2
          omega
        have Hd := Lib.hid hd
        clear hd
        by_cases hlt : k < ln
        · obtain ⟨b1, off1, rfl, _⟩ := hLW.pos (by omega)
          obtain ⟨v1, hv1, hc1⟩ := (hLW.below hb).at_ k hlt
          rw [List.getElem?_map] at hv1
          cases hjk : js[k]? with
          | none => rw [hjk] at hv1; cases hv1
          | some z =>
            rw [hjk] at hv1
            injection hv1 with hv1
            subst hv1
            simp only [iv] at hc1
            obtain ⟨z1, z2⟩ := Hj.out z (List.mem_of_getElem? hjk)
            obtain ⟨y1, y2⟩ := w32_in z
            have hwz : IntKind.i32.wrap z = w32 z := rfl
            obtain ⟨y, hy⟩ : ∃ y, w32 z = y := ⟨_, rfl⟩
            rw [hy] at y1 y2 hwz
            have HD : Hid (ds[k]? = some y) := Lib.hid (by rw [HDS.out, List.getElem?_map, hjk, ← hy]; rfl)
            have HE : Hid (es[k]? = some (fixZ y)) := Lib.hid (by rw [HES.out, List.getElem?_map, HD.out]; rfl)
            clear hjk hy
            have hbs := hb.size
            go_wp2_with (at_builtin; refine wpList_app1 _ rfl _ _ 60 rfl W.heap.size 21 _ _ Try.underlying60 info_i32 rfl G gn gc _ rfl hG _ rfl _ rfl rfl ?_ ?_ hbs ?_)
            · unfold maxLen; omega
            · omega
            intro G2 gc2 w6 hG6 hg6 hk6
            have hT6 := hT.kept hg6 (fun b h1 h2 => Hd.out b h2 h1)
            have hb6 := hb.grown hg6 hbs (fun k hk => (hG.lt k hk).1)
            have hd6 : ∀ b, blk G2 = some b → blk T ≠ some b := fun b h1 h2 => by
              rcases hk6 with h | h
              · rw [h] at h1; exact Hd.out b h1 h2
              · rw [h] at h1
                injection h1 with h1
                have := (hT.lt b h2).2
                omega
            clear hG hT hg6 hk6
            go_wp2_with fail
            refine (PutZ_any y _ (by omega) (by omega)).mono ?_
            rintro e w7 ⟨P, lp, cp, rfl, op, hb7⟩
            have hlp : 0 < lp ∧ lp ≤ 4 := by have := putR_len (fixZ y); rw [op.len] at this; omega
            have hG7 := hG6.below hb7
            have hT7 := hT6.below hb7
            have hbs6 := hb6.size
            have hbs7 := hb7.size
            have hb7' := hb6.trans (hb7.mono hbs6)
            have rP := op.rd
            clear hG6 hT6 op hb6 hb7
            go_wp2_with (at_builtin; refine wpList_appB _ rfl _ _ 23 rfl W.heap.size 5 Try.underlying23 info_u8 T tn tc _ rfl hT7 P lp cp (putR (fixZ y)) rfl rP (by omega) ?_ ?_ ?_)
            · omega
            · omega
            intro T2 tc2 w8 hT8 hg8 hk8
            have hG8 := hG7.kept hg8 (fun b h1 h2 => hd6 b h1 h2)
            have hb8 := hb7'.grown hg8 (by omega) (fun k hk => (hT7.lt k hk).1)
            have hd8 : ∀ b, blk G2 = some b → blk T2 ≠ some b := fun b h1 h2 => by
              rcases hk8 with h | h
              · rw [h] at h2; exact hd6 b h1 h2
              · rw [h] at h2
                injection h2 with h2
                have := (hG7.lt b h1).2
                omega
            have Hd8 := Lib.hid hd8
            clear hG7 hT7 hg8 hk8 hd8 hd6 hb7'
            go_wp2
            go_roundw
            case rel =>
              refine ⟨G2, gn + 1, gc2, T2, tn + lp, tc2, k + 1, rfl, rfl, by go_num, by omega, ?_, ?_, Hd8.out, hb8⟩
              · rw [List.take_add_one, HD.out]
                simp only [kvs, Option.toList_some, List.map_append, List.map_cons, List.map_nil]
                exact hG8
              · rw [List.take_add_one, HE.out]
                simp only [Option.toList_some, encR_append, encR, List.append_nil, List.map_append]
                simpa only [List.map_append] using hT8
            case measure => simp [intOf]; omega
        · rw [List.take_of_length_le (by omega)] at hG
          rw [List.take_of_length_le (by omega)] at hT
          have hcv : ∀ a, (convert 23 9 (.slice T tn tc)).run Try.prog (wr.drewN a) = .ok (.string (bs (encR es))) (wr.drewN a) := fun a => conv_own (xs := encR es) (hT.drewN a)
          have HG : Hid (∀ w', OwnV 21 w' W.heap.size G gn gc (kvs ds) → Calls Try.prog 54 #[.slice G gn gc] w' fun e w'' => e = .returned (.string (bs (encR es))) ∧ ∃ q, w'' = w'.drewN q) :=
            Lib.hid (fun w' h => (Of_any G gn gc _ ds w' h).mono (by rw [HES.out]; rintro e w'' ⟨rfl, rfl⟩; exact ⟨rfl, 0, rfl⟩))
          have hKb := hKW.below hb
          have hbe := hbW.trans (hb.mono hbW.size)
          clear hT
          cases o with
          | some x =>
            go_wp2
            go_quiet ((go_at_call 54; exact Calls.quiet_of (HG.out _ (hG.drewN _))))
            go_wp2
            go_ret
            exact ⟨rfl, below_drewN hbe _⟩
          | none =>
            have HK : Hid (∀ w', OwnV 21 w' w1.heap.size K na ck (kvs (rz s)) → Calls Try.prog 54 #[.slice K na ck] w' fun e w'' => e = .returned (.string s) ∧ ∃ q, w'' = w'.drewN q) :=
              Lib.hid (fun w' h => (Of_any K na ck _ (rz s) w' h).mono (by rw [rz_fix, rs_back Ho.out]; rintro e w'' ⟨rfl, rfl⟩; exact ⟨rfl, 0, rfl⟩))
            go_wp2
            go_quiet ((first | (go_at_call 54; exact Calls.quiet_of (HG.out _ (hG.drewN _))) | (go_at_call 54; exact Calls.quiet_of (HK.out _ (hKb.drewN _)))))
            go_wp2
            go_ret
            exact ⟨rfl, below_drewN hbe _⟩

theorem textRunes_row (s : ByteArray) (L : Option Addr) (ln lc : Nat) (js : List Int) (w : World) (_hm : s.size ≤ maxLen) (hs : s.size ≤ 1048576) (hL : RdV w L ln (js.map iv)) (hlc : ln ≤ lc) (hc : lc ≤ 1048576)
    (hj : ∀ z ∈ js, -9223372036854775808 ≤ z ∧ z ≤ 9223372036854775807) :
    Calls Try.prog 10 #[.string s, .slice L ln lc] w (RetT w true) := textRunes_any s L ln lc js w (by omega) hL (by omega) hlc hj

end Go.Proofs.Ytbmaaofomgkllaa
