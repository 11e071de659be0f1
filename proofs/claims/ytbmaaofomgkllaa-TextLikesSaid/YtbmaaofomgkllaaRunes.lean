/- text.Runes: the runes of a text as a row of its own. Texts of at most 2^40 bytes. -/
import Derived.Test.YtbmaaofomgkllaaOf
namespace Go.Proofs.Ytbmaaofomgkllaa
open Go Go.RowKit

theorem OwnV.iterAt {e : TypeId} {w : World} {base n c g p' : Nat} {A : Option Addr} {vs : List Value} {s : ByteArray} (h : OwnV e w base A n c vs) (hg : g < base) : OwnV e (w.iterAt g s p') base A n c vs := by
  refine ⟨h.1, ?_⟩
  rcases h.2 with h4 | ⟨r, cap, cur, h4, h5, h6, h7⟩
  · exact .inl h4
  · exact .inr ⟨r, cap, cur, h4, h5, (Lib.iterAt_other w g r s p' (by omega)).trans h6, h7⟩
theorem kvs_snoc (l : List Nat) (c : Nat) : kvs ((l ++ [c]).map fun x : Nat => (x : Int)) = kvs (l.map fun x : Nat => (x : Int)) ++ [kv (c : Int)] := by simp [kvs]

set_option maxRecDepth 100000 in
set_option maxHeartbeats 1000000 in
theorem Runes_any (s : ByteArray) (w : World) (hs : s.size ≤ 1099511627776) : Calls Try.prog 48 #[.string s] w (RetK w (rz s)) := by
  go_enter Try.func48, Try.ntmps48
  go_wp2
  go_loopw [3] (fun o wr => ∃ (A : Option Addr) (n c p f : Nat) (l : List Nat), o = .slice A n c ∧ OwnV 21 wr (w.heap.size + 1) A n c (kvs (l.map fun x : Nat => (x : Int))) ∧ wr.heap[w.heap.size]? = some (.stringIter s p) ∧ Below w.heap.size w wr ∧ rs s = l ++ (rnF s f p).map (·.2) ∧ s.size ≤ p + f ∧ l.length ≤ p) (fun _ wr => s.size - wr.iterPos w.heap.size)
  case atStart =>
    refine ⟨none, 0, 0, 0, s.size, [], rfl, OwnV.nil _ _ _, ?_, below_iter (Below.refl _ w) (Nat.le_refl _) s 0, rfl, by omega, Nat.le_refl _⟩
    have := World.iter_heap w s 0
    simpa using this
  case round =>
    obtain ⟨A, n, c, p, f, l, rfl, hA, hit, hbw, hl, hf, hlp⟩ := hrel
    have hsz : w.heap.size < wr.heap.size := (Array.getElem?_eq_some_iff.1 hit).1
    have hn : n = l.length := by have := hA.len; simp [kvs] at this; omega
    have Hl := Lib.hid hl
    clear hl
    by_cases hp : p < s.size
    · have hnx : ∀ ty, (Instr.next (.pointer (some ⟨w.heap.size, 0, none⟩)) true ty).run Try.prog wr = _ := fun ty => Lib.run_next_any_at wr w.heap.size s p ty hit hp
      obtain ⟨hV, hle⟩ := decode_valid s p hp
      have hwd := width_pos s p hp
      have hA2 := hA.iterAt (p' := p + (Utf8.decode s p).2) (g := w.heap.size) (s := s) (by omega)
      have hit2 := Lib.iterAt_heap wr w.heap.size s p (p + (Utf8.decode s p).2) hit
      have hbw2 := Lib.below_iterAt hbw (k := w.heap.size) (by omega) s (p + (Utf8.decode s p).2)
      have hsz2 : (wr.iterAt w.heap.size s (p + (Utf8.decode s p).2)).heap.size = wr.heap.size := Lib.iterAt_size _ _ _ _
      obtain ⟨f, rfl⟩ : ∃ g, f = g + 1 := ⟨f - 1, by omega⟩
      have R := Lib.hid (rnF_step (f := f) hp)
      have HA2 := Lib.hid hA2
      have Hit2 := Lib.hid hit2
      have Hit := Lib.hid hit
      have Hsz2 := Lib.hid hsz2
      clear hA hit hA2 hit2 hsz2 hV
      go_wp2_with (at_builtin; refine wpList_app1 _ rfl _ _ 60 rfl (w.heap.size + 1) 21 _ _ Try.underlying60 info_i32 rfl A n c _ rfl HA2.out _ rfl _ (by rw [Hsz2.out]) rfl ?_ ?_ ?_ ?_)
      · unfold maxLen; omega
      · omega
      · rw [Hsz2.out]; omega
      intro A3 c3 w3 hA3 hg3 _
      have hne : blk A ≠ some w.heap.size := fun e => by have := (HA2.out.lt _ e).1; omega
      have hit3 : w3.heap[w.heap.size]? = some (.stringIter s (p + (Utf8.decode s p).2)) := (hg3.block w.heap.size (by rw [Hsz2.out]; omega) (fun e => hne e.symm)).trans Hit2.out
      have hb3 := hbw2.grown hg3 (by rw [Hsz2.out]; omega) (fun k hk => by have := (HA2.out.lt k hk).1; omega)
      clear hg3
      go_wp2
      go_roundw
      case rel =>
        refine ⟨A3, n + 1, c3, p + (Utf8.decode s p).2, f, l ++ [(Utf8.decode s p).1], by rw [hn], ?_, hit3, hb3, ?_, by omega, by simp; omega⟩
        · rw [kvs_snoc, hn]; exact hA3
        · rw [Hl.out, R.out, List.map_cons, List.append_assoc]; rfl
      case measure =>
        simp only [World.iterPos, hit3, Hit.out]
        omega
    · have hnx : ∀ ty, (Instr.next (.pointer (some ⟨w.heap.size, 0, none⟩)) true ty).run Try.prog wr = _ := fun ty => Lib.run_next_end_at wr w.heap.size s p ty hit hp
      have R := Lib.hid (rnF_end (f := f) hp)
      go_wp2
      go_ret
      have e : rs s = l := by rw [Hl.out, R.out]; simp
      refine ⟨A, n, c, rfl, ?_, hbw⟩
      unfold rz
      rw [e]
      exact hA.mono (by omega)

end Go.Proofs.Ytbmaaofomgkllaa
