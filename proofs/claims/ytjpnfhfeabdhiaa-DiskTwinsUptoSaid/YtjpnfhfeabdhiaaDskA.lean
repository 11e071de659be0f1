/- A file of the disk turned; a new one; the program's Append. -/
import Derived.Test.YtjpnfhfeabdhiaaDskP
import Derived.Deep.QuietTactic
import Derived.BigQuiet
namespace Go.Proofs.Ytjpnfhfeabdhiaa
open Go Go.RowKit Go.Maps

theorem putR_sub2 {r : FR} : ∀ {rs : List FR}, rsUp rs → ∀ q, q ∈ putR r rs → q = r ∨ (q ∈ rs ∧ q.name ≠ r.name)
  | [], _, q, h => by simp [putR] at h; exact .inl h
  | a :: t, hu, q, h => by
    have hu0 := hu
    unfold rsUp at hu
    rw [List.pairwise_cons] at hu
    simp only [putR] at h
    split at h
    · next e =>
      rcases List.mem_cons.1 h with h | h
      · exact .inl h
      · exact .inr ⟨List.mem_cons_of_mem _ h, fun e2 => nlt_ne (hu.1 q h) (by rw [e, e2])⟩
    · next e =>
      split at h
      · next e3 =>
        rcases List.mem_cons.1 h with h | h
        · exact .inl h
        · refine .inr ⟨h, ?_⟩
          rcases List.mem_cons.1 h with h | h
          · rw [h]; exact e
          · exact fun e2 => nlt_ne (nlt_trans e3 (hu.1 q h)) e2.symm
      · rcases List.mem_cons.1 h with h | h
        · exact .inr ⟨by rw [h]; exact List.mem_cons_self .., by rw [h]; exact e⟩
        · rcases putR_sub2 hu.2 q h with h | ⟨h, h2⟩
          · exact .inl h
          · exact .inr ⟨List.mem_cons_of_mem _ h, h2⟩
theorem putR_len_old {r : FR} : ∀ {rs : List FR}, rsUp rs → (∃ q ∈ rs, q.name = r.name) → (putR r rs).length = rs.length
  | [], _, h => by obtain ⟨q, hq, _⟩ := h; cases hq
  | a :: t, hu, h => by
    unfold rsUp at hu
    rw [List.pairwise_cons] at hu
    simp only [putR]
    split
    · rfl
    · next e =>
      obtain ⟨q, hq, e2⟩ := h
      rcases List.mem_cons.1 hq with rfl | hq
      · exact absurd e2 e
      · rw [if_neg (fun e3 => nlt_ne (nlt_trans e3 (hu.1 q hq)) e2.symm), List.length_cons, putR_len_old hu.2 ⟨q, hq, e2⟩, List.length_cons]
theorem putR_any_old {r : FR} (x : List UInt8) : ∀ {rs : List FR}, rsUp rs → (∃ q ∈ rs, q.name = r.name) → (putR r rs).any (fun q => q.name == x) = rs.any (fun q => q.name == x)
  | [], _, h => by obtain ⟨q, hq, _⟩ := h; cases hq
  | a :: t, hu, h => by
    unfold rsUp at hu
    rw [List.pairwise_cons] at hu
    simp only [putR]
    split
    · next e => rw [List.any_cons, List.any_cons, e]
    · next e =>
      obtain ⟨q, hq, e2⟩ := h
      rcases List.mem_cons.1 hq with rfl | hq
      · exact absurd e2 e
      · rw [if_neg (fun e3 => nlt_ne (nlt_trans e3 (hu.1 q hq)) e2.symm), List.any_cons, putR_any_old x hu.2 ⟨q, hq, e2⟩, List.any_cons]
theorem MR.same {Dm : DU} {rs : List FR} {r r' : FR} (h : MR Dm rs) (hu : rsUp rs) (hr : r ∈ rs) (hn : r'.name = r.name) (hb : r'.fb = r.fb) : MR Dm (putR r' rs) := by
  refine ⟨?_, fun x => ?_, fun q hq z => ?_⟩
  · rw [putR_len_old hu ⟨r, hr, hn.symm⟩]; exact h.1
  · rw [putR_any_old x hu ⟨r, hr, hn.symm⟩]; exact h.2.1 x
  · rcases putR_sub2 hu q hq with rfl | ⟨hq, _⟩
    · rw [hn, hb]; exact h.2.2 r hr z
    · exact h.2.2 q hq z
theorem up_name {rs : List FR} (hu : rsUp rs) {a b : FR} (ha : a ∈ rs) (hb : b ∈ rs) (e : a.name = b.name) : a = b := by
  unfold rsUp at hu
  induction rs with
  | nil => cases ha
  | cons q t ih =>
    rw [List.pairwise_cons] at hu
    rcases List.mem_cons.1 ha with rfl | ha2
    · rcases List.mem_cons.1 hb with rfl | hb2
      · rfl
      · exact absurd e (nlt_ne (hu.1 b hb2))
    · rcases List.mem_cons.1 hb with rfl | hb2
      · exact absurd e.symm (nlt_ne (hu.1 a ha2))
      · exact ih hu.2 ha2 hb2
theorem sp_of {rs : List FR} (hp : rs.Pairwise Sp) (hu : rsUp rs) {a b : FR} (ha : a ∈ rs) (hb : b ∈ rs) (e : a.name ≠ b.name) : Sp a b := by
  induction rs with
  | nil => cases ha
  | cons q t ih =>
    unfold rsUp at hu
    rw [List.pairwise_cons] at hp hu
    rcases List.mem_cons.1 ha with rfl | ha2
    · rcases List.mem_cons.1 hb with rfl | hb2
      · exact absurd rfl e
      · exact hp.1 b hb2
    · rcases List.mem_cons.1 hb with rfl | hb2
      · exact (hp.1 a ha2).symm
      · exact ih hp.2 hu.2 ha2 hb2

section
variable {w w' : World} {p : Nat} {m : Option Nat} {rs : List FR} {room used left : Int} {dead armed : Bool}
/-- A file turned. -/
theorem DskR.file (h : DskR w p m rs room used left dead armed) (hu : rsUp rs) {r r' : FR} (hr : r ∈ rs) (hn : r'.name = r.name) (hb : r'.fb = r.fb) (hf : Fr w w' r.bl) (hat : FileAt w' r') (hbl : ∀ b ∈ r'.bl, b ∈ r.bl ∨ w.heap.size ≤ b) (hne : blk r'.A ≠ some r'.fb) :
    DskR w' p m (putR r' rs) room used left dead armed := by
  have hlt := h.lt
  obtain ⟨h1, h2, h3, h4, h5, h6⟩ := h
  have hpl := (Array.getElem?_eq_some_iff.1 h1).1
  refine ⟨(hf.block p hpl (h4 r hr).1).trans h1, ?_, fun q hq => ?_, fun q hq => ?_, h5, ?_⟩
  · rcases h2 with ⟨rfl, rfl⟩ | ⟨b, Dm, rfl, ho, hm⟩
    · cases hr
    · refine .inr ⟨b, Dm, rfl, ?_, hm.same hu hr hn hb⟩
      rw [putR_len_old hu ⟨r, hr, hn.symm⟩]
      obtain ⟨es, clock, e1, e2⟩ := ho
      exact ⟨es, clock, (hf.block b (Array.getElem?_eq_some_iff.1 e1).1 ((h4 r hr).2.1 b rfl)).trans e1, e2⟩
  · rcases putR_sub2 hu q hq with rfl | ⟨hq, hqn⟩
    · exact hat
    · exact (h3 q hq).fr hf (fun b hb2 hb3 => sp_of h6 hu hq hr (by rw [← hn]; exact hqn) b hb2 hb3)
  · rcases putR_sub2 hu q hq with rfl | ⟨hq, hqn⟩
    · refine ⟨fun hm => ?_, fun b hb2 hm => ?_, hne⟩
      · rcases hbl _ hm with h7 | h7
        · exact (h4 r hr).1 h7
        · omega
      · rcases hbl _ hm with h7 | h7
        · exact (h4 r hr).2.1 b hb2 h7
        · have := h2.lt b hb2; omega
    · exact h4 q hq
  · refine putR_pair (fun a b => Sp.symm) h6 (fun q hq hqn x hx hxq => ?_) hu
    rcases hbl x hx with h7 | h7
    · exact sp_of h6 hu hr hq (fun e => hqn (by rw [hn, e])) x h7 hxq
    · have := hlt x (mem_file hq hxq); omega
theorem mem_putR {r' : FR} (hu : rsUp rs) {r : FR} (hr : r ∈ rs) (hbl : ∀ b ∈ r'.bl, b ∈ r.bl ∨ w.heap.size ≤ b) : ∀ b ∈ allB p m (putR r' rs), b ∈ allB p m rs ∨ w.heap.size ≤ b := fun b hb => by
  simp only [allB, List.mem_cons, List.mem_append, List.mem_flatMap] at hb
  rcases hb with rfl | hb | ⟨q, hq, hb⟩
  · exact .inl mem_head
  · exact .inl (by simp only [allB, List.mem_cons, List.mem_append]; exact .inr (.inl hb))
  · rcases putR_sub2 hu q hq with rfl | ⟨hq, _⟩
    · rcases hbl b hb with h | h
      · exact .inl (mem_file hr h)
      · exact .inr h
    · exact .inl (mem_file hq hb)

/-- What turn answers for OK, and what the head holds behind it. -/
def tE (armed : Bool) (left : Int) : Int := if armed = true ∧ left = 0 then 9 else 0
def tL (armed : Bool) (left : Int) : Int := if armed = true ∧ left ≠ 0 then left - 1 else left
def tD (dead armed : Bool) (left : Int) : Bool := if armed = true ∧ left = 0 then true else dead
def tA (armed : Bool) (left : Int) : Bool := if armed = true ∧ left = 0 then false else armed
theorem turn_zero (h : DskR w p m rs room used left dead armed) (hl : 0 ≤ left ∧ left ≤ 9223372036854775807) :
    Calls Try.prog 63 #[.pointer (some ⟨p, 0, none⟩), .int .i64 0] w (RetHd w p (headV m room used (tL armed left) (tD dead armed left) (tA armed left)) (.int .i64 (tE armed left))) := by
  cases armed with
  | false =>
    have e1 : tE false left = 0 := by simp [tE]
    have e2 : tL false left = left := by simp [tL]
    have e3 : tD dead false left = dead := by simp [tD]
    have e4 : tA false left = false := by simp [tA]
    rw [e1, e2, e3, e4]
    refine (turn_free h).mono ?_
    rintro e w' ⟨rfl, rfl⟩
    exact ⟨rfl, Hd.refl h.1⟩
  | true =>
    by_cases h0 : left = 0
    · subst h0
      have e1 : tE true 0 = 9 := by simp [tE]
      have e2 : tL true 0 = 0 := by simp [tL]
      have e3 : tD dead true 0 = true := by simp [tD]
      have e4 : tA true 0 = false := by simp [tA]
      rw [e1, e2, e3, e4]
      exact turn_kill h
    · have e1 : tE true left = 0 := by simp [tE, h0]
      have e2 : tL true left = left - 1 := by simp [tL, h0]
      have e3 : tD dead true left = dead := by simp [tD, h0]
      have e4 : tA true left = true := by simp [tA, h0]
      rw [e1, e2, e3, e4]
      exact turn_step h (by omega) hl.2
theorem Rd.toV {A : Option Addr} {n : Nat} {xs : List UInt8} (h : Rd w A n xs) : RdV w A n (xs.map cv) := by
  refine ⟨by rw [List.length_map]; exact h.1, fun hn => ?_⟩
  obtain ⟨b, off, h1, h2, h3⟩ := h.2 hn
  refine ⟨b, off, h1, h2, fun i v hv => ?_⟩
  rw [List.getElem?_map] at hv
  cases hx : xs[i]? with
  | none => rw [hx] at hv; cases hv
  | some x =>
    rw [hx] at hv
    injection hv with hv
    subst hv
    exact h3 i x hx
end
end Go.Proofs.Ytjpnfhfeabdhiaa
