/- A living, unarmed disk, closed. -/
import Derived.Test.YtjpnfhfeabdhiaaDskW
namespace Go.Proofs.Ytjpnfhfeabdhiaa
open Go Go.RowKit Go.Maps

/-- 'The disk at block p lives, isn't armed, and holds these files.' -/
def Live (w : World) (p : Nat) (bl : List Nat) (room u : Nat) (fs : List FE) : Prop :=
  ∃ m rs, DskR w p m rs (room : Int) (u : Int) 0 false false ∧ bl = allB p m rs ∧ rs.map FR.val = fs ∧ risingF fs
def RetLv (w : World) (p : Nat) (bl : List Nat) (room u : Nat) (fs : List FE) (v : Value) (e : Ending) (w' : World) : Prop :=
  e = .returned v ∧ ∃ bl', Live w' p bl' room u fs ∧ Fr w w' bl ∧ ∀ b ∈ bl', b ∈ bl ∨ w.heap.size ≤ b
def RetNw (w : World) (room : Nat) (e : Ending) (w' : World) : Prop :=
  ∃ p bl, e = .returned (.pointer (some ⟨p, 0, none⟩)) ∧ Live w' p bl room 0 [] ∧ (∀ b ∈ bl, w.heap.size ≤ b) ∧ Below w.heap.size w w'
section
variable {w w' : World} {p : Nat} {bl : List Nat} {room u : Nat} {fs : List FE}
theorem Live.fr {bl2 : List Nat} (h : Live w p bl room u fs) (hf : Fr w w' bl2) (ho : ∀ b ∈ bl, b ∉ bl2) : Live w' p bl room u fs := by
  obtain ⟨m, rs, h1, rfl, h3, h4⟩ := h
  exact ⟨m, rs, h1.fr hf ho, rfl, h3, h4⟩
theorem Live.lt (h : Live w p bl room u fs) : ∀ b ∈ bl, b < w.heap.size := by
  obtain ⟨m, rs, h1, rfl, h3, h4⟩ := h
  exact h1.lt
theorem Live.below (h : Live w p bl room u fs) (hb : Below w.heap.size w w') : Live w' p bl room u fs := h.fr (Fr.of_below hb []) (fun _ _ h => by cases h)
theorem Live.drewN (h : Live w p bl room u fs) (q : Nat) : Live (w.drewN q) p bl room u fs := h.fr (Fr.drewN (Fr.refl w []) q) (fun _ _ h => by cases h)
theorem Live.grown {row : Option Nat} (h : Live w p bl room u fs) (hg : w.grownBy w' row) (hr : ∀ b, row = some b → b ∉ bl) : Live w' p bl room u fs :=
  h.fr (Fr.of_grown (bl := row.toList) hg (fun b hb => by rw [hb]; simp)) (fun b hb hm => by
    cases row with
    | none => simp at hm
    | some k => simp at hm; exact hr k rfl (by rw [← hm]; exact hb))
theorem Fam.fr {base : Nat} {ps : List VB} (h : Fam w base ps) (hf : Fr w w' bl) (ho : ∀ p ∈ ps, ∀ b, Value.ownBlock p.1 = some b → b ∉ bl) : Fam w' base ps := by
  refine ⟨fun p hp => ?_, h.2⟩
  obtain ⟨A, m, c, e, ho'⟩ := h.1 p hp
  exact ⟨A, m, c, e, ho'.fr hf (fun b hb => ho p hp b (by rw [e, own_blk]; exact hb))⟩
theorem of_name {rs : List FR} {f : FE} (e : rs.map FR.val = fs) (hf : f ∈ fs) : ∃ r ∈ rs, r.name = f.1 ∧ r.dat = f.2.1 ∧ r.saf = f.2.2 := by
  rw [← e] at hf
  obtain ⟨r, hr, rfl⟩ := List.mem_map.1 hf
  exact ⟨r, hr, rfl, rfl, rfl⟩
theorem len_of {rs : List FR} (e : rs.map FR.val = fs) : rs.length = fs.length := by rw [← e, List.length_map]
theorem New_live (n : Nat) (w : World) (hn : n ≤ 9223372036854775807) : Calls Try.prog 18 #[.int .i64 (n : Int)] w (RetNw w n) := by
  have fin : RetNw w n (.returned (.pointer (some ⟨w.heap.size, 0, none⟩))) (w.alloc (.cells (headV none (n : Int) 0 0 false false) 26)) :=
    ⟨w.heap.size, _, rfl, ⟨none, [], DskR.init w _, rfl, rfl, List.Pairwise.nil⟩, (fun b hb => by simp [allB] at hb; omega), (Below.refl _ _).alloc (Nat.le_refl _) _⟩
  have HF := Lib.hid fin
  clear fin
  have h3 : max (n : Int) 0 = n := by omega
  go_enter Try.func18, Try.ntmps18
  go_wp2
  go_ret
  exact HF.out
theorem append_live_new (x : List UInt8) (B : Option Addr) (n c : Nat) (ys : List UInt8) (h : Live w p bl room u fs) (hno : ∀ f ∈ fs, f.1 ≠ x) (hB : Rd w B n ys) (hBo : ∀ b, blk B = some b → b ∉ bl)
    (hf : u + n ≤ room) (hR : room ≤ 9223372036854775807) (hn : n ≤ 1099511627776) (hx : x.length ≤ 1099511627776) (hrs : fs.length ≤ 1099511627776) :
    Calls Try.prog 16 #[.pointer (some ⟨p, 0, none⟩), .string (tx x), .slice B n c] w (RetLv w p bl room (u + n) (putF (x, ys, 0) fs) (.int .i64 0)) := by
  obtain ⟨m, rs, h1, rfl, h3, h4⟩ := h
  have hu : rsUp rs := rsUp_of (by rw [h3]; exact h4)
  have hl := len_of h3
  refine (append_new x B n c ys u room h1 hu (fun r hr e => hno r.val (by rw [← h3]; exact List.mem_map.2 ⟨r, hr, rfl⟩) e) hB hBo hf hR hn hx (by omega) (by omega)).mono ?_
  rintro e w' ⟨rfl, r', m', hn', hd', hs', hD', hF', hB'⟩
  refine ⟨by simp [tE], _, ⟨m', _, hD', rfl, ?_, ?_⟩, hF', hB'⟩
  · rw [putR_val, h3]
    unfold FR.val
    rw [hn', hd', hs']
  · exact putF_up h4
theorem append_live_old {f : FE} (B : Option Addr) (n c : Nat) (ys : List UInt8) (h : Live w p bl room u fs) (hfm : f ∈ fs) (hB : Rd w B n ys)
    (hf : u + n ≤ room) (hR : room ≤ 9223372036854775807) (hn : n ≤ 1099511627776) (hd : f.2.1.length ≤ 1099511627776) (hx : f.1.length ≤ maxLen) :
    Calls Try.prog 16 #[.pointer (some ⟨p, 0, none⟩), .string (tx f.1), .slice B n c] w (RetLv w p bl room (u + n) (putF (f.1, f.2.1 ++ ys, f.2.2) fs) (.int .i64 0)) := by
  obtain ⟨m, rs, h1, rfl, h3, h4⟩ := h
  have hu : rsUp rs := rsUp_of (by rw [h3]; exact h4)
  obtain ⟨r, hr, e1, e2, e3⟩ := of_name h3 hfm
  rw [← e1, ← e2, ← e3]
  refine (append_old B n c ys u room h1 hu hr hB hf hR hn (by rw [e2]; exact hd) (by rw [e1]; exact hx) (by omega)).mono ?_
  rintro e w' ⟨rfl, r', hn', hd', hs', hD', hF', hB'⟩
  refine ⟨by simp [tE], _, ⟨m, _, hD', rfl, ?_, ?_⟩, hF', hB'⟩
  · rw [putR_val, h3]
    unfold FR.val
    rw [hn', hd', hs']
  · exact putF_up h4
theorem sync_live {f : FE} (h : Live w p bl room u fs) (hfm : f ∈ fs) (hx : f.1.length ≤ maxLen) :
    Calls Try.prog 17 #[.pointer (some ⟨p, 0, none⟩), .string (tx f.1)] w (RetLv w p bl room u (putF (f.1, f.2.1, f.2.1.length) fs) (.int .i64 0)) := by
  obtain ⟨m, rs, h1, rfl, h3, h4⟩ := h
  have hu : rsUp rs := rsUp_of (by rw [h3]; exact h4)
  obtain ⟨r, hr, e1, e2, e3⟩ := of_name h3 hfm
  rw [← e1, ← e2]
  refine (sync_some h1 hu hr (by rw [e1]; exact hx) (by omega) (by simp [tE])).mono ?_
  rintro e w' ⟨rfl, r', hn', hd', hs', hD', hF', hB'⟩
  refine ⟨rfl, _, ⟨m, _, hD', rfl, ?_, ?_⟩, hF', hB'⟩
  · rw [putR_val, h3]
    unfold FR.val
    rw [hn', hd', hs']
  · exact putF_up h4
theorem read_live {f : FE} (h : Live w p bl room u fs) (hfm : f ∈ fs) (hx : f.1.length ≤ maxLen) (hd : f.2.1.length ≤ 1099511627776) :
    Calls Try.prog 60 #[.pointer (some ⟨p, 0, none⟩), .string (tx f.1)] w (RetRd w f.2.1 0) := by
  obtain ⟨m, rs, h1, rfl, h3, h4⟩ := h
  obtain ⟨r, hr, e1, e2, e3⟩ := of_name h3 hfm
  have := read_some h1 hr (by rw [e1]; exact hx) (by rw [e2]; exact hd)
  rw [e1, e2] at this
  exact this
theorem crash_live (K : Option Addr) (nk ck : Nat) (ks : List Int) (h : Live w p bl room u fs) (hu : u = usedF fs) (hrs : fs.length ≤ 1099511627776) (hnl : ∀ f ∈ fs, f.1.length ≤ 1099511627776) (hud : u ≤ 1099511627776)
    (hK : RdV w K nk (ivs ks)) (hKo : 0 < nk → ∀ b, blk K = some b → b ∉ bl) (hnk : nk ≤ 1099511627776) (hkz : ∀ z ∈ ks, I64 z) :
    Calls Try.prog 59 #[.pointer (some ⟨p, 0, none⟩), .slice K nk ck] w (RetLv w p bl room (usedF (crP ks fs).1) (crP ks fs).1 (.tuple #[])) := by
  obtain ⟨m, rs, h1, rfl, h3, h4⟩ := h
  have hup : rsUp rs := rsUp_of (by rw [h3]; exact h4)
  subst hu
  rw [← h3] at h1 hud
  have hl := len_of h3
  have := Crash_any K nk ck ks h1 hup (by omega) (fun r hr => hnl r.val (by rw [← h3]; exact List.mem_map.2 ⟨r, hr, rfl⟩)) hud hK hKo hnk hkz
  rw [h3] at this
  refine this.mono ?_
  rintro e w' ⟨rfl, rs', e1, hD, hF, hB⟩
  refine ⟨rfl, _, ⟨m, rs', hD, rfl, e1, ?_⟩, hF, hB⟩
  refine risingF_names ?_ h4
  exact crP_names ks fs
end
end Go.Proofs.Ytjpnfhfeabdhiaa
