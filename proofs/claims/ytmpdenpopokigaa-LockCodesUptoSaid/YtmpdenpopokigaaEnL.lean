/- Words for lists of lists of entries and for asks that came in. No condition. -/
import Derived.Test.YtmpdenpopokigaaEn
namespace Go.Proofs.Ytmpdenpopokigaa
open Go Go.RowKit

/-- 'The slice of n slices at A reads as these lists of entries.' -/
def RLs (w : World) (A : Option Addr) (n : Nat) (ls : List (List En)) : Prop :=
  ls.length = n ∧ (0 < n → ∃ b off, A = some ⟨b, off, none⟩ ∧ b < w.heap.size ∧ ∀ (i : Nat) es, ls[i]? = some es → ∃ B m c, w.cell? ⟨b, off + i, none⟩ = some (.slice B m c) ∧ REs w B m es ∧ m ≤ c)
/-- A Get and a Range as plain data. -/
structure AskP where
  key : List UInt8
  to : List UInt8
  at_ : Nat
/-- 'The slice of n asks at A reads as these.' -/
def RAk (w : World) (A : Option Addr) (n : Nat) (al : List AskP) : Prop :=
  al.length = n ∧ (0 < n → ∃ b off, A = some ⟨b, off, none⟩ ∧ b < w.heap.size ∧ ∀ (i : Nat) a, al[i]? = some a → ∃ v0 v1, w.cell? ⟨b, off + i * 3, none⟩ = some v0 ∧ w.cell? ⟨b, off + i * 3 + 1, none⟩ = some v1 ∧ w.cell? ⟨b, off + i * 3 + 2, none⟩ = some (.int .u64 (a.at_ : Int)) ∧ ElB w v0 a.key ∧ ElB w v1 a.to ∧ U64 a.at_)
theorem RLs.at_ {w : World} {b off n : Nat} {ls : List (List En)} (h : RLs w (some ⟨b, off, none⟩) n ls) (k : Nat) (hk : k < n) : ∃ es B m c, ls[k]? = some es ∧ w.cell? ⟨b, off + k, none⟩ = some (.slice B m c) ∧ REs w B m es ∧ m ≤ c := by
  obtain ⟨b', off', h1, _, h3⟩ := h.2 (by omega)
  have hl : k < ls.length := by have := h.1; omega
  injection h1 with h1
  injection h1 with h1 h2
  subst h1 h2
  obtain ⟨B, m, c, h4, h5, h6⟩ := h3 k _ (List.getElem?_eq_getElem hl)
  exact ⟨_, B, m, c, List.getElem?_eq_getElem hl, h4, h5, h6⟩
theorem RLs.pos {w : World} {A : Option Addr} {n : Nat} {ls : List (List En)} (h : RLs w A n ls) (hn : 0 < n) : ∃ b off, A = some ⟨b, off, none⟩ ∧ b < w.heap.size := by
  obtain ⟨b, off, h1, h2, _⟩ := h.2 hn
  exact ⟨b, off, h1, h2⟩
theorem RAk.pos {w : World} {A : Option Addr} {n : Nat} {al : List AskP} (h : RAk w A n al) (hn : 0 < n) : ∃ b off, A = some ⟨b, off, none⟩ ∧ b < w.heap.size := by
  obtain ⟨b, off, h1, h2, _⟩ := h.2 hn
  exact ⟨b, off, h1, h2⟩
theorem RAk.at_ {w : World} {b off n : Nat} {al : List AskP} (h : RAk w (some ⟨b, off, none⟩) n al) (k : Nat) (hk : k < n) : ∃ a v0 v1, al[k]? = some a ∧ w.cell? ⟨b, off + k * 3, none⟩ = some v0 ∧ w.cell? ⟨b, off + k * 3 + 1, none⟩ = some v1 ∧ w.cell? ⟨b, off + k * 3 + 2, none⟩ = some (.int .u64 (a.at_ : Int)) ∧ ElB w v0 a.key ∧ ElB w v1 a.to ∧ U64 a.at_ := by
  obtain ⟨b', off', h1, _, h3⟩ := h.2 (by omega)
  have hl : k < al.length := by have := h.1; omega
  injection h1 with h1
  injection h1 with h1 h2
  subst h1 h2
  obtain ⟨v0, v1, h4⟩ := h3 k _ (List.getElem?_eq_getElem hl)
  exact ⟨_, v0, v1, List.getElem?_eq_getElem hl, h4⟩
end Go.Proofs.Ytmpdenpopokigaa
