/- text.Key, text.FromKey and the reference's: keys of texts of at most 2^40 bytes; a text read back from any bytes at any place. -/
import Derived.Test.YtdcboeeblbakhaaRefFold
import Derived.Test.YtdcboeeblbakhaaGetT
import Derived.Test.YtdcboeeblbakhaaAwake2
import Derived.Lib.ConvBytes
import Derived.Deep.RegionHeld3
namespace Go.Proofs.Ytdcboeeblbakhaa
open Go Go.RowKit

/-- A text's key. -/
def keyB (s : ByteArray) : List UInt8 := ordT (foldB s) ++ ordT s.data.toList
/-- The text read back from its key: its bytes, the place behind it, the error. -/
def fromK (xs : List UInt8) (t : Int) : List UInt8 × Int × Int :=
  if (getT xs t).2.2 ≠ 0 then ([], 0, (getT xs t).2.2)
  else if (getT xs (getT xs t).2.1).2.2 ≠ 0 then ([], 0, (getT xs (getT xs t).2.1).2.2)
  else if foldB (bs (getT xs (getT xs t).2.1).1) = (getT xs t).1 then ((getT xs (getT xs t).2.1).1, (getT xs (getT xs t).2.1).2.1, 0)
  else ([], 0, 3)
theorem fromK_e1 {xs f : List UInt8} {t m e : Int} (h : getT xs t = (f, m, e)) (he : e ≠ 0) : fromK xs t = ([], 0, e) := by
  unfold fromK; rw [h, if_pos he]
theorem fromK_e2 {xs f p : List UInt8} {t m nx e : Int} (h : getT xs t = (f, m, 0)) (h2 : getT xs m = (p, nx, e)) (he : e ≠ 0) : fromK xs t = ([], 0, e) := by
  unfold fromK; rw [h]; simp only; rw [h2, if_neg (by simp), if_pos he]
theorem fromK_ok {xs f p : List UInt8} {t m nx : Int} (h : getT xs t = (f, m, 0)) (h2 : getT xs m = (p, nx, 0)) (hf : foldB (bs p) = f) : fromK xs t = (p, nx, 0) := by
  unfold fromK; rw [h]; simp only; rw [h2, if_neg (by simp), if_neg (by simp), if_pos hf]
theorem fromK_no {xs f p : List UInt8} {t m nx : Int} (h : getT xs t = (f, m, 0)) (h2 : getT xs m = (p, nx, 0)) (hf : foldB (bs p) ≠ f) : fromK xs t = ([], 0, 3) := by
  unfold fromK; rw [h]; simp only; rw [h2, if_neg (by simp), if_neg (by simp), if_neg hf]
theorem fromK_key (s : ByteArray) : fromK (keyB s) 0 = (s.data.toList, ((keyB s).length : Int), 0) := by
  have h1 : getT (keyB s) 0 = (foldB s, ((ordT (foldB s)).length : Int), 0) := by
    have := getT_ordT [] (foldB s) (ordT s.data.toList)
    simpa [keyB] using this
  have h2 : getT (keyB s) ((ordT (foldB s)).length : Int) = (s.data.toList, ((keyB s).length : Int), 0) := by
    have := getT_ordT (ordT (foldB s)) s.data.toList []
    simpa [keyB] using this
  exact fromK_ok h1 h2 (by rw [bs_of])

theorem Rd.ofString (w : World) (e : TypeId) (s : ByteArray) : Rd (Lib.bytesWorld w e s) (some ⟨w.heap.size, 0, none⟩) s.size s.data.toList := by
  refine ⟨(Lib.size_eq s).symm, fun _ => ⟨w.heap.size, 0, rfl, by rw [Lib.bytesWorld_size]; omega, fun i x hx => ?_⟩⟩
  have hi : i < s.size := by rw [Lib.size_eq]; exact (List.getElem?_eq_some_iff.1 hx).1
  rw [Nat.zero_add, Lib.bytesWorld_cell w e s i hi, List.getD_eq_getElem?_getD, hx]
  rfl
theorem below_ofString (w : World) (e : TypeId) (s : ByteArray) : Below w.heap.size w (Lib.bytesWorld w e s) :=
  ⟨by simp [Lib.bytesWorld, World.freeze, World.alloc, World.drew, -World.alloc_eq, -World.drew_eq], by simp [Lib.bytesWorld, World.freeze, World.alloc, World.drew, -World.alloc_eq, -World.drew_eq], by simp [Lib.bytesWorld, World.freeze, World.alloc, World.drew, -World.alloc_eq, -World.drew_eq], by rw [Lib.bytesWorld_size]; omega, fun k hk => Lib.bytesWorld_at_old w e s k hk⟩

/-- '[]byte(s)' in the walk: some capacity, some world. -/
theorem conv_bytes (s : ByteArray) (w : World) : ∃ (c : Nat) (w' : World), (convert 9 23 (.string s)).run Try.prog w = .ok (.slice (some ⟨w.heap.size, 0, none⟩) s.size c) w' ∧ Rd w' (some ⟨w.heap.size, 0, none⟩) s.size s.data.toList ∧ Below w.heap.size w w' :=
  ⟨_, _, Lib.run_convert_string_bytes w 9 23 5 s Try.underlying9 Try.underlying23 Try.underlying5, Rd.ofString w _ s, below_ofString w _ s⟩

/-- 'A row of the call's own stands, and what was there stands.' -/
def KO (w0 : World) (base : Nat) (A : Option Addr) (n c : Nat) (xs : List UInt8) (w : World) : Prop := Own 5 w base A n c xs ∧ Below w0.heap.size w0 w
section
variable {w0 w w' : World} {base n c : Nat} {A : Option Addr} {xs : List UInt8}
theorem KO.made (h : KO w0 base A n c xs w) (hb : Below w.heap.size w w') : KO w0 base A n c xs w' := ⟨h.1.below hb, h.2.trans (hb.mono h.2.size)⟩
theorem KO.drew (h : KO w0 base A n c xs w) : KO w0 base A n c xs w.drew := ⟨h.1, h.2.drew⟩
theorem KO.bel (h : KO w0 base A n c xs w) : Below w0.heap.size w0 w := h.2
end

set_option maxRecDepth 100000 in
set_option maxHeartbeats 1000000 in
theorem Key_any (s : ByteArray) (w : World) (hs : s.size ≤ 68719476736) : Calls Try.prog 29 #[.string s] w (Made w.heap.size w (keyB s)) := by
  obtain ⟨F, hF⟩ : ∃ F, F = bs (foldB s) := ⟨_, rfl⟩
  have hFs : F.size ≤ 274877906944 := by rw [hF, bs_size]; have := foldB_len s; omega
  have hFl : F.data.toList = foldB s := by rw [hF, bs_list]
  have H1 : Hid (∀ w, Calls Try.prog 25 #[.string s] w (RetSt w F)) := Lib.hid (fun w => by rw [hF]; exact Fold_any s w (by omega))
  have HF := Lib.hid hFl
  have hs2 := foldB_len s
  have hsl : s.data.toList.length = s.size := (Lib.size_eq s).symm
  have hFl2 : F.data.toList.length = F.size := (Lib.size_eq F).symm
  clear hF hFl
  have HFl2 := Lib.hid hFl2
  have Hsl := Lib.hid hsl
  clear hFl2 hsl
  go_enter Try.func29, Try.ntmps29
  go_wp2_with fail
  refine (H1.out _).mono ?_
  rintro e w1 ⟨rfl, hb1⟩
  obtain ⟨c2, w2, hc2, r2, hb2⟩ := conv_bytes F w1
  go_wp2_with fail
  refine (OrdText_any _ _ c2 _ _ r2 (by omega)).mono ?_
  rintro e w3 ⟨A3, n3, c3, rfl, o3, hb3⟩
  have hn3 : n3 ≤ 2 * F.size + 2 := by have := ordT_len F.data.toList; rw [HFl2.out, o3.len] at this; exact this
  clear hc2 r2
  obtain ⟨c4, w4, hc4, r4, hb4⟩ := conv_bytes s w3
  go_wp2_with fail
  refine (OrdText_any _ _ c4 _ _ r4 (by omega)).mono ?_
  rintro e w5 ⟨A5, n5, c5, rfl, o5, hb5⟩
  have hn5 : n5 ≤ 2 * s.size + 2 := by have := ordT_len s.data.toList; rw [Hsl.out, o5.len] at this; exact this
  have q1 := hb1.size
  have q2 := hb2.size
  have q3 := hb3.size
  have q4 := hb4.size
  have q5 := hb5.size
  have k2 := hb1.trans (hb2.mono q1)
  have k3 := k2.trans (hb3.mono (by omega))
  have k4 := k3.trans (hb4.mono (by omega))
  have k5 := k4.trans (hb5.mono (by omega))
  have o3' := ((o3.below hb4).below hb5).mono (show w.heap.size ≤ w2.heap.size by omega)
  clear hc4 r4 hb1 hb2 hb3 hb4 hb5 k2 k3 k4
  go_wp2_with (at_builtin; refine wpList_app _ rfl _ _ 23 rfl w.heap.size 5 Try.underlying23 info_u8 A3 n3 c3 _ rfl o3' A5 n5 c5 _ rfl o5.rd ?_ ?_ ?_)
  · omega
  · omega
  intro A6 c6 w6 o6 hb6
  go_wp2
  go_ret
  refine ⟨A6, n3 + n5, c6, rfl, ?_, k5.trans hb6⟩
  rw [keyB, ← HF.out]
  exact o6

set_option maxRecDepth 100000 in
set_option maxHeartbeats 1000000 in
theorem refKey_any (s : ByteArray) (w : World) (hs : s.size ≤ 68719476736) : Calls Try.prog 31 #[.string s] w (Made w.heap.size w (keyB s)) := by
  obtain ⟨F, hF⟩ : ∃ F, F = bs (foldB s) := ⟨_, rfl⟩
  have hFs : F.size ≤ 274877906944 := by rw [hF, bs_size]; have := foldB_len s; omega
  have hFl : F.data.toList = foldB s := by rw [hF, bs_list]
  have H1 : Hid (∀ w, Calls Try.prog 27 #[.string s] w (RetSt w F)) := Lib.hid (fun w => by rw [hF]; exact refFold_any s w (by omega))
  have HF := Lib.hid hFl
  have hs2 := foldB_len s
  have hsl : s.data.toList.length = s.size := (Lib.size_eq s).symm
  have hFl2 : F.data.toList.length = F.size := (Lib.size_eq F).symm
  clear hF hFl
  have HFl2 := Lib.hid hFl2
  have Hsl := Lib.hid hsl
  clear hFl2 hsl
  go_enter Try.func31, Try.ntmps31
  go_wp2_with fail
  refine (H1.out _).mono ?_
  rintro e w1 ⟨rfl, hb1⟩
  obtain ⟨c2, w2, hc2, r2, hb2⟩ := conv_bytes F w1
  go_wp2_with fail
  refine (refOrdText_any _ _ c2 _ _ r2 (by omega)).mono ?_
  rintro e w3 ⟨A3, n3, c3, rfl, o3, hb3⟩
  have hn3 : n3 ≤ 2 * F.size + 2 := by have := ordT_len F.data.toList; rw [HFl2.out, o3.len] at this; exact this
  clear hc2 r2
  obtain ⟨c4, w4, hc4, r4, hb4⟩ := conv_bytes s w3
  go_wp2_with fail
  refine (refOrdText_any _ _ c4 _ _ r4 (by omega)).mono ?_
  rintro e w5 ⟨A5, n5, c5, rfl, o5, hb5⟩
  have hn5 : n5 ≤ 2 * s.size + 2 := by have := ordT_len s.data.toList; rw [Hsl.out, o5.len] at this; exact this
  have q1 := hb1.size
  have q2 := hb2.size
  have q3 := hb3.size
  have q4 := hb4.size
  have q5 := hb5.size
  have k2 := hb1.trans (hb2.mono q1)
  have k3 := k2.trans (hb3.mono (by omega))
  have k4 := k3.trans (hb4.mono (by omega))
  have k5 := k4.trans (hb5.mono (by omega))
  have o3' := ((o3.below hb4).below hb5).mono (show w.heap.size ≤ w2.heap.size by omega)
  clear hc4 r4 hb1 hb2 hb3 hb4 hb5 k2 k3 k4
  go_wp2_with (at_builtin; refine wpList_app _ rfl _ _ 23 rfl w.heap.size 5 Try.underlying23 info_u8 A3 n3 c3 _ rfl o3' A5 n5 c5 _ rfl o5.rd ?_ ?_ ?_)
  · omega
  · omega
  intro A6 c6 w6 o6 hb6
  go_wp2
  go_ret
  refine ⟨A6, n3 + n5, c6, rfl, ?_, k5.trans hb6⟩
  rw [keyB, ← HF.out]
  exact o6

/-- The text, the place behind it, the error; what was there stands. -/
def RetS3 (w : World) (g : List UInt8 × Int × Int) (e : Ending) (w' : World) : Prop := e = .returned (.tuple #[.string (bs g.1), .int .i64 g.2.1, .int .i64 g.2.2]) ∧ Below w.heap.size w w'
theorem retS3_mk {w w' : World} {g : List UInt8 × Int × Int} {l : List UInt8} {a j : Int} (hg : g = (l, a, j)) (hb : Below w.heap.size w w') : RetS3 w g (.returned (.tuple #[.string (bs l), .int .i64 a, .int .i64 j])) w' := by
  subst hg
  exact ⟨rfl, hb⟩
theorem retS3_S {w w' : World} {g : List UInt8 × Int × Int} {l : List UInt8} {a j : Int} {S : ByteArray} (hS : S = bs l) (hg : g = (l, a, j)) (hb : Below w.heap.size w w') : RetS3 w g (.returned (.tuple #[.string S, .int .i64 a, .int .i64 j])) w' := by
  subst hS
  exact retS3_mk hg hb
/-- 'Two rows of the call's own stand, and what was there stands.' -/
def KO2 (w0 : World) (base : Nat) (A : Option Addr) (n c : Nat) (xs : List UInt8) (base2 : Nat) (B : Option Addr) (m d : Nat) (ys : List UInt8) (w : World) : Prop := KO w0 base A n c xs w ∧ Own 5 w base2 B m d ys
section
variable {w0 w w' : World} {base n c base2 m d : Nat} {A B : Option Addr} {xs ys : List UInt8}
theorem KO2.made (h : KO2 w0 base A n c xs base2 B m d ys w) (hb : Below w.heap.size w w') : KO2 w0 base A n c xs base2 B m d ys w' := ⟨h.1.made hb, h.2.below hb⟩
theorem KO2.drew (h : KO2 w0 base A n c xs base2 B m d ys w) : KO2 w0 base A n c xs base2 B m d ys w.drew := ⟨h.1.drew, h.2⟩
theorem KO2.bel (h : KO2 w0 base A n c xs base2 B m d ys w) : Below w0.heap.size w0 w := h.1.2
end
theorem str_ne {a b : ByteArray} (h : a ≠ b) : (a.toList == b.toList) = false := by
  rw [ByteArray.toList_eq, ByteArray.toList_eq, beq_eq_false_iff_ne]
  intro e
  exact h (WideShapes.bytes_inj e)
theorem retS3_no {w w' : World} {g : List UInt8 × Int × Int} {j : Int} (hg : g = ([], 0, j)) (hb : Below w.heap.size w w') : RetS3 w g (.returned (.tuple #[.string ⟨#[]⟩, .int .i64 0, .int .i64 j])) w' := retS3_mk hg hb

set_option maxRecDepth 100000 in
set_option maxHeartbeats 2000000 in
theorem FromKey_any (A : Option Addr) (n c : Nat) (xs : List UInt8) (t : Int) (w : World) (hx : Rd w A n xs) (hn : n ≤ 68719476736) :
    Calls Try.prog 30 #[.slice A n c, .int .i64 t] w (RetS3 w (fromK xs t)) := by
  rcases hg : getT xs t with ⟨f, m, e⟩
  have hG := GetOrdText_any A n c xs t w hx (by omega)
  rw [hg] at hG
  have HG := Lib.hid hG
  have Hg := Lib.hid hg
  clear hG hg
  by_cases he : e = 0
  · subst he
    rcases hg2 : getT xs m with ⟨p, nx, e2⟩
    have hG2 : ∀ w', Rd w' A n xs → Calls Try.prog 21 #[.slice A n c, .int .i64 m] w' (RetT3 w'.heap.size w' (p, nx, e2)) := fun w' h => by
      rw [← hg2]
      exact GetOrdText_any A n c xs m w' h (by omega)
    have hpl : p.length ≤ n := by
      have := getT_len xs m
      rw [hg2, hx.len] at this
      exact this
    have HG2 := Lib.hid hG2
    have Hg2 := Lib.hid hg2
    clear hG2 hg2
    by_cases he2 : e2 = 0
    · subst he2
      obtain ⟨S, hS⟩ : ∃ S, S = bs p := ⟨_, rfl⟩
      obtain ⟨Y, hY⟩ : ∃ Y, Y = bs f := ⟨_, rfl⟩
      obtain ⟨X, hX⟩ : ∃ X, X = bs (foldB S) := ⟨_, rfl⟩
      have HF : Hid (∀ w, Calls Try.prog 25 #[.string S] w (RetSt w X)) := Lib.hid (fun w => by rw [hX]; exact Fold_any S w (by rw [hS, bs_size]; omega))
      by_cases hf : foldB (bs p) = f
      · have R := Lib.hid (fromK_ok Hg.out Hg2.out hf)
        have hXY : X = Y := by rw [hX, hY, hS, hf]
        subst hXY
        have HS := Lib.hid hS
        have HY := Lib.hid hY
        clear hS hX hY hf
        go_enter Try.func30, Try.ntmps30
        go_wp2_with fail
        refine HG.out.mono ?_
        rintro e w2 ⟨A2, n2, c2, rfl, o2, hb2⟩
        go_wp2_with fail
        refine (HG2.out _ (hx.below hb2)).mono ?_
        rintro e w3 ⟨A3, n3, c3, rfl, o3, hb3⟩
        have k3 := hb2.trans (hb3.mono hb2.size)
        have hS2 : KO2 w w.heap.size A2 n2 c2 f w2.heap.size A3 n3 c3 p w3 := ⟨⟨o2.below hb3, k3⟩, o3⟩
        have hc3 : ∀ w', KO2 w w.heap.size A2 n2 c2 f w2.heap.size A3 n3 c3 p w' → (convert 23 9 (.slice A3 n3 c3)).run Try.prog w' = .ok (.string S) w' := fun w' h => by rw [HS.out]; exact conv_own h.2
        have hc2 : ∀ w', KO2 w w.heap.size A2 n2 c2 f w2.heap.size A3 n3 c3 p w' → (convert 23 9 (.slice A2 n2 c2)).run Try.prog w' = .ok (.string X) w' := fun w' h => by rw [HY.out]; exact conv_own h.1.1
        have hcw := hc3 w3 hS2
        clear o2 o3 hb2 hb3 k3
        go_wp2_with fail
        go_region_held3 (fun w' => KO2 w w.heap.size A2 n2 c2 f w2.heap.size A3 n3 c3 p w') (first | assumption | exact hS2.drew) (first | (go_at_call 25; refine (HF.out _).mono ?_; rintro e w4 ⟨rfl, hb4⟩; have hS4 := KO2.made (by assumption) hb4))
        all_goals
          go_wp2
          go_ret3
          exact retS3_S HS.out R.out (KO2.bel (by assumption))
      · have R := Lib.hid (fromK_no Hg.out Hg2.out hf)
        have hXY : X ≠ Y := by
          rw [hX, hY, hS]
          intro h
          have := congrArg (fun b => b.data.toList) h
          simp only [bs_list] at this
          exact hf this
        have hb1 := str_ne hXY
        have HS := Lib.hid hS
        have HY := Lib.hid hY
        clear hS hX hY hf hXY
        go_enter Try.func30, Try.ntmps30
        go_wp2_with fail
        refine HG.out.mono ?_
        rintro e w2 ⟨A2, n2, c2, rfl, o2, hb2⟩
        go_wp2_with fail
        refine (HG2.out _ (hx.below hb2)).mono ?_
        rintro e w3 ⟨A3, n3, c3, rfl, o3, hb3⟩
        have k3 := hb2.trans (hb3.mono hb2.size)
        have hS2 : KO2 w w.heap.size A2 n2 c2 f w2.heap.size A3 n3 c3 p w3 := ⟨⟨o2.below hb3, k3⟩, o3⟩
        have hc3 : ∀ w', KO2 w w.heap.size A2 n2 c2 f w2.heap.size A3 n3 c3 p w' → (convert 23 9 (.slice A3 n3 c3)).run Try.prog w' = .ok (.string S) w' := fun w' h => by rw [HS.out]; exact conv_own h.2
        have hc2 : ∀ w', KO2 w w.heap.size A2 n2 c2 f w2.heap.size A3 n3 c3 p w' → (convert 23 9 (.slice A2 n2 c2)).run Try.prog w' = .ok (.string Y) w' := fun w' h => by rw [HY.out]; exact conv_own h.1.1
        have hcw := hc3 w3 hS2
        clear o2 o3 hb2 hb3 k3
        go_wp2_with fail
        go_region_held3 (fun w' => KO2 w w.heap.size A2 n2 c2 f w2.heap.size A3 n3 c3 p w') (first | assumption | exact hS2.drew) (first | (go_at_call 25; refine (HF.out _).mono ?_; rintro e w4 ⟨rfl, hb4⟩; have hS4 := KO2.made (by assumption) hb4))
        all_goals
          go_wp2
          go_ret3
          exact retS3_no R.out (KO2.bel (by assumption))
    · have h1 : ((e2 : Int) != 0) = true := by simpa using he2
      have R := Lib.hid (fromK_e2 Hg.out Hg2.out he2)
      go_enter Try.func30, Try.ntmps30
      go_wp2_with fail
      refine HG.out.mono ?_
      rintro e w2 ⟨A2, n2, c2, rfl, o2, hb2⟩
      go_wp2_with fail
      refine (HG2.out _ (hx.below hb2)).mono ?_
      rintro e w3 ⟨A3, n3, c3, rfl, o3, hb3⟩
      have k3 := hb2.trans (hb3.mono hb2.size)
      go_wp2
      go_ret3
      exact retS3_no R.out k3
  · have h1 : ((e : Int) != 0) = true := by simpa using he
    have R := Lib.hid (fromK_e1 Hg.out he)
    go_enter Try.func30, Try.ntmps30
    go_wp2_with fail
    refine HG.out.mono ?_
    rintro e w2 ⟨A2, n2, c2, rfl, o2, hb2⟩
    go_wp2
    go_ret3
    exact retS3_no R.out hb2

set_option maxRecDepth 100000 in
set_option maxHeartbeats 2000000 in
theorem refFromKey_any (A : Option Addr) (n c : Nat) (xs : List UInt8) (t : Int) (w : World) (hx : Rd w A n xs) (hn : n ≤ 68719476736) :
    Calls Try.prog 32 #[.slice A n c, .int .i64 t] w (RetS3 w (fromK xs t)) := by
  rcases hg : getT xs t with ⟨f, m, e⟩
  have hG := refGetOrdText_any A n c xs t w hx (by omega)
  rw [hg] at hG
  have HG := Lib.hid hG
  have Hg := Lib.hid hg
  clear hG hg
  by_cases he : e = 0
  · subst he
    rcases hg2 : getT xs m with ⟨p, nx, e2⟩
    have hG2 : ∀ w', Rd w' A n xs → Calls Try.prog 23 #[.slice A n c, .int .i64 m] w' (RetT3 w'.heap.size w' (p, nx, e2)) := fun w' h => by
      rw [← hg2]
      exact refGetOrdText_any A n c xs m w' h (by omega)
    have hpl : p.length ≤ n := by
      have := getT_len xs m
      rw [hg2, hx.len] at this
      exact this
    have HG2 := Lib.hid hG2
    have Hg2 := Lib.hid hg2
    clear hG2 hg2
    by_cases he2 : e2 = 0
    · subst he2
      obtain ⟨S, hS⟩ : ∃ S, S = bs p := ⟨_, rfl⟩
      obtain ⟨Y, hY⟩ : ∃ Y, Y = bs f := ⟨_, rfl⟩
      obtain ⟨X, hX⟩ : ∃ X, X = bs (foldB S) := ⟨_, rfl⟩
      have HF : Hid (∀ w, Calls Try.prog 27 #[.string S] w (RetSt w X)) := Lib.hid (fun w => by rw [hX]; exact refFold_any S w (by rw [hS, bs_size]; omega))
      by_cases hf : foldB (bs p) = f
      · have R := Lib.hid (fromK_ok Hg.out Hg2.out hf)
        have hXY : X = Y := by rw [hX, hY, hS, hf]
        subst hXY
        have HS := Lib.hid hS
        have HY := Lib.hid hY
        clear hS hX hY hf
        go_enter Try.func32, Try.ntmps32
        go_wp2_with fail
        refine HG.out.mono ?_
        rintro e w2 ⟨A2, n2, c2, rfl, o2, hb2⟩
        go_wp2_with fail
        refine (HG2.out _ (hx.below hb2)).mono ?_
        rintro e w3 ⟨A3, n3, c3, rfl, o3, hb3⟩
        have k3 := hb2.trans (hb3.mono hb2.size)
        have hS2 : KO2 w w.heap.size A2 n2 c2 f w2.heap.size A3 n3 c3 p w3 := ⟨⟨o2.below hb3, k3⟩, o3⟩
        have hc3 : ∀ w', KO2 w w.heap.size A2 n2 c2 f w2.heap.size A3 n3 c3 p w' → (convert 23 9 (.slice A3 n3 c3)).run Try.prog w' = .ok (.string S) w' := fun w' h => by rw [HS.out]; exact conv_own h.2
        have hc2 : ∀ w', KO2 w w.heap.size A2 n2 c2 f w2.heap.size A3 n3 c3 p w' → (convert 23 9 (.slice A2 n2 c2)).run Try.prog w' = .ok (.string X) w' := fun w' h => by rw [HY.out]; exact conv_own h.1.1
        have hcw := hc3 w3 hS2
        clear o2 o3 hb2 hb3 k3
        go_wp2_with fail
        go_region_held3 (fun w' => KO2 w w.heap.size A2 n2 c2 f w2.heap.size A3 n3 c3 p w') (first | assumption | exact hS2.drew) (first | (go_at_call 27; refine (HF.out _).mono ?_; rintro e w4 ⟨rfl, hb4⟩; have hS4 := KO2.made (by assumption) hb4))
        all_goals
          go_wp2
          go_ret3
          exact retS3_S HS.out R.out (KO2.bel (by assumption))
      · have R := Lib.hid (fromK_no Hg.out Hg2.out hf)
        have hXY : X ≠ Y := by
          rw [hX, hY, hS]
          intro h
          have := congrArg (fun b => b.data.toList) h
          simp only [bs_list] at this
          exact hf this
        have hb1 := str_ne hXY
        have HS := Lib.hid hS
        have HY := Lib.hid hY
        clear hS hX hY hf hXY
        go_enter Try.func32, Try.ntmps32
        go_wp2_with fail
        refine HG.out.mono ?_
        rintro e w2 ⟨A2, n2, c2, rfl, o2, hb2⟩
        go_wp2_with fail
        refine (HG2.out _ (hx.below hb2)).mono ?_
        rintro e w3 ⟨A3, n3, c3, rfl, o3, hb3⟩
        have k3 := hb2.trans (hb3.mono hb2.size)
        have hS2 : KO2 w w.heap.size A2 n2 c2 f w2.heap.size A3 n3 c3 p w3 := ⟨⟨o2.below hb3, k3⟩, o3⟩
        have hc3 : ∀ w', KO2 w w.heap.size A2 n2 c2 f w2.heap.size A3 n3 c3 p w' → (convert 23 9 (.slice A3 n3 c3)).run Try.prog w' = .ok (.string S) w' := fun w' h => by rw [HS.out]; exact conv_own h.2
        have hc2 : ∀ w', KO2 w w.heap.size A2 n2 c2 f w2.heap.size A3 n3 c3 p w' → (convert 23 9 (.slice A2 n2 c2)).run Try.prog w' = .ok (.string Y) w' := fun w' h => by rw [HY.out]; exact conv_own h.1.1
        have hcw := hc3 w3 hS2
        clear o2 o3 hb2 hb3 k3
        go_wp2_with fail
        go_region_held3 (fun w' => KO2 w w.heap.size A2 n2 c2 f w2.heap.size A3 n3 c3 p w') (first | assumption | exact hS2.drew) (first | (go_at_call 27; refine (HF.out _).mono ?_; rintro e w4 ⟨rfl, hb4⟩; have hS4 := KO2.made (by assumption) hb4))
        all_goals
          go_wp2
          go_ret3
          exact retS3_no R.out (KO2.bel (by assumption))
    · have h1 : ((e2 : Int) != 0) = true := by simpa using he2
      have R := Lib.hid (fromK_e2 Hg.out Hg2.out he2)
      go_enter Try.func32, Try.ntmps32
      go_wp2_with fail
      refine HG.out.mono ?_
      rintro e w2 ⟨A2, n2, c2, rfl, o2, hb2⟩
      go_wp2_with fail
      refine (HG2.out _ (hx.below hb2)).mono ?_
      rintro e w3 ⟨A3, n3, c3, rfl, o3, hb3⟩
      have k3 := hb2.trans (hb3.mono hb2.size)
      go_wp2
      go_ret3
      exact retS3_no R.out k3
  · have h1 : ((e : Int) != 0) = true := by simpa using he
    have R := Lib.hid (fromK_e1 Hg.out he)
    go_enter Try.func32, Try.ntmps32
    go_wp2_with fail
    refine HG.out.mono ?_
    rintro e w2 ⟨A2, n2, c2, rfl, o2, hb2⟩
    go_wp2
    go_ret3
    exact retS3_no R.out hb2

end Go.Proofs.Ytdcboeeblbakhaa
