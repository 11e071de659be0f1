/- codec.Cmp (bytes.Compare, the runtime's own comparison) tells how two lists of bytes compare; it leaves memory alone. -/
import Derived.Test.YtmpdenpopokigaaCmp
import Derived.Lib.BytesEntry
import Derived.Laws.Externs
namespace Go.Proofs.Ytmpdenpopokigaa
open Go Go.RowKit

theorem cmpB_lib : ∀ xs ys : List UInt8, Lib.compareBytes xs ys = cmpB xs ys
  | [], [] => rfl
  | [], _ :: _ => rfl
  | _ :: _, [] => rfl
  | x :: xs, y :: ys => by
    simp only [Lib.compareBytes, cmpB, UInt8.lt_iff_toNat_lt, cmpB_lib xs ys]

theorem run_bytesOf {P : Program} {w : World} {A : Option Addr} {n c : Nat} {xs : List UInt8} (h : Rd w A n xs) : (Extern.Bytes.bytesOf (.slice A n c)).run P w = .ok ⟨xs.toArray⟩ w := by
  have hlen := h.len
  rcases A with _ | a
  · have h0 : n = 0 := by
      rcases Nat.eq_zero_or_pos n with h0 | h0
      · exact h0
      · obtain ⟨_, _, h1, _⟩ := h.2 h0
        cases h1
    subst h0
    have hx : xs = [] := List.eq_nil_of_length_eq_zero hlen
    subst hx
    rfl
  · have hl := Lib.run_loadBytesX (P := P) w (xs.map fun x => (x.toNat : Int)) a .empty (fun j z hj => by
      rw [List.getElem?_map] at hj
      cases hx : xs[j]? with
      | none => rw [hx] at hj; cases hj
      | some x =>
        rw [hx] at hj
        injection hj with hj
        subst hj
        have hjl : j < n := by rw [← hlen]; exact (List.getElem?_eq_some_iff.1 hx).1
        obtain ⟨b, off, h1, _, h3⟩ := h.2 (by omega)
        injection h1 with h1
        subst h1
        have e : (⟨b, off, none⟩ : Addr).add j = ⟨b, off + j, none⟩ := by unfold Addr.add; split <;> simp_all
        rw [e]
        exact h3 j x hx)
    have hb : Lib.bytesOf (xs.map fun x => (x.toNat : Int)) = xs := by
      unfold Lib.bytesOf
      rw [List.map_map]
      conv => rhs; rw [← List.map_id xs]
      apply List.map_congr_left
      intro x _
      simp
    rw [hb, List.length_map, hlen] at hl
    have he : (⟨ByteArray.empty.data ++ xs.toArray⟩ : ByteArray) = ⟨xs.toArray⟩ := by
      apply ByteArray.ext
      show (#[] : Array UInt8) ++ xs.toArray = xs.toArray
      simp
    rw [he] at hl
    exact hl

theorem run_bcmp {A B : Option Addr} {n m c d : Nat} {xs ys : List UInt8} {w : World} (hx : Rd w A n xs) (hy : Rd w B m ys) :
    (callFunc 167 #[.slice A n c, .slice B m d]).run Try.prog w = .ok (.value (.int .i64 (cmpB xs ys))) w := by
  rw [run_callFunc_extern Try.func167 (by kernel_rfl) (by kernel_rfl) (by kernel_rfl) (e := Extern.BytealgCompare.compare) (by kernel_rfl)]
  have h : (Extern.BytealgCompare.compare #[.slice A n c, .slice B m d]).run Try.prog w = .ok (.int .i64 (cmpB xs ys)) w := by
    change Sem.run Try.prog (do
      let a ← Extern.Bytes.bytesOf (.slice A n c)
      let b ← Extern.Bytes.bytesOf (.slice B m d)
      pure (goInt (Extern.BytealgCompare.cmp a b))) w = _
    simp only [Sem.run_bind, run_bytesOf hx, run_bytesOf hy, Sem.run_pure, Result.andThen, Lib.cmp_eq, cmpB_lib]
    rfl
  rw [h]
  rfl

theorem bCompare_any (A B : Option Addr) (n m c d : Nat) (xs ys : List UInt8) (z : Int) (hz : cmpB xs ys = z) (w : World) (hx : Rd w A n xs) (hy : Rd w B m ys) :
    Calls Try.prog 122 #[.slice A n c, .slice B m d] w fun e w' => e = .returned (.int .i64 z) ∧ w = w' := by
  have h := run_bcmp (c := c) (d := d) hx hy
  rw [hz] at h
  clear hz
  go_enter Try.func122, Try.ntmps122
  go_wp2
  go_ret
  exact ⟨rfl, rfl⟩

theorem Cmp_is (A B : Option Addr) (n m c d : Nat) (xs ys : List UInt8) (z : Int) (hz : cmpB xs ys = z) (w : World) (hx : Rd w A n xs) (hy : Rd w B m ys) :
    Calls Try.prog 65 #[.slice A n c, .slice B m d] w fun e w' => e = .returned (.int .i64 z) ∧ w = w' := by
  go_enter Try.func65, Try.ntmps65
  go_wp2_with (go_at_call 122; refine (bCompare_any A B n m c d xs ys z hz _ hx hy).mono ?_; rintro e w' ⟨rfl, rfl⟩)
  go_ret
  exact ⟨rfl, rfl⟩

end Go.Proofs.Ytmpdenpopokigaa
