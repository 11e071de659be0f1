/- How often each word stands: the map as it reads, and what is left to go through. No condition. -/
import Derived.Test.YtdcboeeblbakhaaRefWords
import Derived.Maps.StringElems
import Derived.Maps.OwnOps
namespace Go.Proofs.Ytdcboeeblbakhaa
open Go Go.RowKit Go.Maps Go.ChangeMaps

abbrev DU := DataW Unit
def iL (n : Nat) : DU := .lit (.int .i64 (n : Int))
def cR : List (List UInt8) → DU
  | [] => .map []
  | x :: r => (cR r).put (.string x) (iL (r.count x + 1))
/-- The map that counts these words. -/
def cD (ws : List (List UInt8)) : DU := cR ws.reverse
theorem cD_nil : cD [] = .map [] := rfl
theorem cD_snoc (ws : List (List UInt8)) (x : List UInt8) : cD (ws ++ [x]) = (cD ws).put (.string x) (iL (ws.count x + 1)) := by
  unfold cD
  rw [List.reverse_append]
  show (cR ws.reverse).put (.string x) (iL (ws.reverse.count x + 1)) = _
  rw [List.count_reverse]
theorem cR_tidy : ∀ l, Tidy (cR l)
  | [] => tidy_empty
  | x :: r => (cR_tidy r).put (show WideAt.IsKeyLit (.string x) from trivial) _
theorem cR_at (x : List UInt8) : ∀ l, (cR l).atKey (.string x) (iL 0) = iL (l.count x)
  | [] => rfl
  | y :: r => by
    by_cases h : y = x
    · subst h
      rw [cR, atKey_put_same (cR_tidy r).isMap (show WideAt.IsKeyLit (.string y) from trivial), List.count_cons_self]
    · rw [cR, atKey_put_other (by intro e; injection e with e; exact h e.symm), cR_at x r, List.count_cons_of_ne h]
theorem cD_at (ws : List (List UInt8)) (x : List UInt8) : (cD ws).atKey (.string x) (iL 0) = iL (ws.count x) := by
  unfold cD
  rw [cR_at, List.count_reverse]
theorem cR_has (x : List UInt8) : ∀ l, x ∈ l → has (cR l) (.string x) = true
  | [], h => by cases h
  | y :: r, h => by
    by_cases e : y = x
    · subst e
      rw [cR, has_put_same (cR_tidy r).isMap (show WideAt.IsKeyLit (.string y) from trivial)]
    · rw [cR, has_put_other (by intro e2; injection e2 with e2; exact e e2.symm)]
      rcases List.mem_cons.1 h with h | h
      · exact absurd h.symm e
      · exact cR_has x r h
theorem cD_has {ws : List (List UInt8)} {x : List UInt8} (h : x ∈ ws) : has (cD ws) (.string x) = true := cR_has x _ (List.mem_reverse.2 h)

/-- How many of the words are left. -/
def lef (ws : List (List UInt8)) (left : Lit → Bool) : Nat := ws.countP (fun x => left (.string x))
theorem lef_start (ws : List (List UInt8)) : lef ws (has (cD ws)) = ws.length := by
  unfold lef
  rw [List.countP_eq_length]
  intro x hx
  exact cD_has hx
theorem lef_end (ws : List (List UInt8)) {left : Lit → Bool} (h : ∀ k, left k = false) : lef ws left = 0 := by
  unfold lef
  rw [List.countP_eq_zero]
  intro x _
  rw [h]
  simp
theorem lef_step {left : Lit → Bool} {x : List UInt8} (hx : left (.string x) = true) : ∀ ws : List (List UInt8), lef ws (fun z => left z && !z.sameKey (.string x)) + ws.count x = lef ws left
  | [] => rfl
  | y :: r => by
    have ih := lef_step hx r
    unfold lef at ih ⊢
    dsimp only at ih
    rw [List.countP_cons, List.countP_cons]
    by_cases h : y = x
    · subst h
      have e : (Lit.string y).sameKey (.string y) = true := by simp [Lit.sameKey]
      rw [List.count_cons_self, if_pos hx, if_neg (by simp only [e]; simp)]
      dsimp only
      omega
    · rw [List.count_cons_of_ne h]
      have e : (left (.string y) && !(Lit.string y).sameKey (.string x)) = left (.string y) := by
        have : (Lit.string y).sameKey (.string x) = false := by simp [Lit.sameKey, h]
        rw [this]
        simp
      dsimp only
      simp only [e]
      omega

/-- All words of these texts. -/
def allW (ss : List ByteArray) : List (List UInt8) := ss.flatMap wds
theorem allW_snoc {ss : List ByteArray} {k : Nat} {s : ByteArray} (h : ss[k]? = some s) : allW (ss.take (k + 1)) = allW (ss.take k) ++ wds s := by
  unfold allW
  rw [List.take_add_one, h, List.flatMap_append]
  simp
def totS : List ByteArray → Nat
  | [] => 0
  | s :: r => s.size + totS r
theorem totS_at : ∀ {ss : List ByteArray} {k : Nat} {s : ByteArray}, ss[k]? = some s → s.size ≤ totS ss
  | [], _, _, h => by simp at h
  | x :: r, 0, s, h => by simp at h; subst h; simp only [totS]; omega
  | x :: r, k + 1, s, h => by
    have := totS_at (ss := r) (k := k) (by simpa using h)
    simp only [totS]; omega
theorem allW_len : ∀ ss : List ByteArray, (allW ss).length ≤ totS ss
  | [] => by simp [allW]
  | x :: r => by
    have h1 := wds_len x
    have h2 := allW_len r
    simp only [allW, List.flatMap_cons, List.length_append, totS] at *
    omega
theorem totS_take : ∀ (ss : List ByteArray) (k : Nat), totS (ss.take k) ≤ totS ss
  | [], k => by simp [totS]
  | x :: r, 0 => by simp [totS]
  | x :: r, k + 1 => by
    have := totS_take r k
    simp only [List.take_succ_cons, totS]; omega
theorem wd_each : ∀ (l cur : List Nat), ∀ x ∈ wd l cur, x.length ≤ l.length + cur.length
  | [], cur, x, h => by
    rw [wd] at h
    split at h
    · cases h
    · simp at h; subst h; simp
  | c :: r, cur, x, h => by
    rw [wd] at h
    split at h
    · have := wd_each r (cur ++ [c]) x h; simp at this ⊢; omega
    · split at h
      · have := wd_each r [] x h; simp at this ⊢; omega
      · rcases List.mem_cons.1 h with h | h
        · subst h; simp
        · have := wd_each r [] x h; simp at this ⊢; omega
theorem wds_each {s : ByteArray} {x : List UInt8} (h : x ∈ wds s) : x.length ≤ 4 * s.size := by
  obtain ⟨l, hl, rfl⟩ := List.mem_map.1 h
  have h1 := wd_each _ _ l hl
  have h2 := fw_len l
  have h3 := rn_len s
  rw [rs_len] at h1
  simp at h1
  omega

theorem lawS : Keyed Try.prog 9 := string_keyed Try.underlying9
theorem zeroI (w : World) : (zeroValue 3).run Try.prog w = .ok (.int .i64 0) w := by kernel_rfl
theorem keyS {x : List UInt8} (h : x.length ≤ maxLen) : keyOf Try.prog 9 (.string (bs x)) = some (.string x) := by
  have := WideMaps.keyOf_string_mk Try.underlying9 (s := bs x) (by rw [bs_size]; exact h)
  rw [bs_list] at this
  exact this
/-- 'Block b is the map that counts these words.' -/
def Cnt (w : World) (b n : Nat) (ws : List (List UInt8)) : Prop := w.ownsMap Try.prog 9 (plainElem Try.prog 3) b n (cD ws)
theorem Cnt.kept {w w' : World} {b n : Nat} {ws : List (List UInt8)} {row : Option Nat} (h : Cnt w b n ws) (hg : w.grownBy w' row) (hne : some b ≠ row) : Cnt w' b n ws := World.ownsMap.kept h hg hne
theorem Cnt.below {w w' : World} {b n : Nat} {ws : List (List UInt8)} (h : Cnt w b n ws) (hb : Below w.heap.size w w') : Cnt w' b n ws :=
  World.ownsMap.kept (row := none) h ⟨hb.os, hb.tape, hb.output, hb.size, fun k hk _ => hb.block k hk⟩ (by simp)

end Go.Proofs.Ytdcboeeblbakhaa
