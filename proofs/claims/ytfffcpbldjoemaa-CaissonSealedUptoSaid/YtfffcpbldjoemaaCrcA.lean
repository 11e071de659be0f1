/- OpenAll of the program and of the reference: all records up to the first that doesn't open. -/
import Derived.Test.YtfffcpbldjoemaaCrcX
namespace Go.Proofs.Ytfffcpbldjoemaa
open Go Go.RowKit

/-- From the place p on, what has been read so far in acc. -/
def oaF (xs : List UInt8) : Nat → Nat → List (List UInt8) → List (List UInt8) × Nat
  | 0, p, acc => (acc, p)
  | f + 1, p, acc => if (openG xs p).2.2 = 0 then oaF xs f (openG xs p).2.1.toNat (acc ++ [(openG xs p).1]) else (acc, p)
def openAllG (xs : List UInt8) : List (List UInt8) × Nat := oaF xs (xs.length + 1) 0 []
theorem oaF_next {xs : List UInt8} {f p k : Nat} {acc : List (List UInt8)} {b : List UInt8} (hg : openG xs p = (b, (k : Int), 0)) : oaF xs (f + 1) p acc = oaF xs f k (acc ++ [b]) := by
  rw [oaF, hg, if_pos rfl, Int.toNat_natCast]
theorem oaF_stop {xs : List UInt8} {f p : Nat} {acc : List (List UInt8)} {b : List UInt8} {nx e : Int} (hg : openG xs p = (b, nx, e)) (he : e ≠ 0) : oaF xs (f + 1) p acc = (acc, p) := by
  rw [oaF, hg, if_neg he]
/-- What opens goes on behind its own bytes. -/
theorem openG_ok {xs : List UInt8} {p : Nat} {b : List UInt8} {nx e : Int} (hg : openG xs p = (b, nx, e)) (he : e = 0) : ∃ k : Nat, nx = k ∧ k = p + 8 + b.length ∧ k ≤ xs.length := by
  subst he
  unfold openG at hg
  simp only [Int.toNat_natCast] at hg
  split at hg
  · simp at hg
  · split at hg
    · simp at hg
    · split at hg
      · simp at hg
      · next h1 h2 h3 =>
        split at hg
        · simp at hg
        · next h4 =>
          split at hg
          · simp only [Prod.mk.injEq] at hg
            obtain ⟨rfl, rfl, _⟩ := hg
            refine ⟨_, rfl, ?_, by omega⟩
            rw [List.length_drop, List.length_take]
            omega
          · simp at hg
theorem openG_at_end {xs : List UInt8} {p : Nat} (h : xs.length ≤ p) : (openG xs p).2.2 ≠ 0 := by
  intro he
  obtain ⟨k, _, h2, h3⟩ := openG_ok (xs := xs) (p := p) (b := (openG xs p).1) (nx := (openG xs p).2.1) (e := (openG xs p).2.2) rfl he
  omega
theorem oaF_end {xs : List UInt8} {p : Nat} (h : xs.length ≤ p) : ∀ (f : Nat) (acc : List (List UInt8)), oaF xs f p acc = (acc, p)
  | 0, acc => rfl
  | f + 1, acc => by rw [oaF, if_neg (openG_at_end h)]

/-- 'It hands back a row of its own over a family that holds these lists, and a place.' -/
def RetOA (base : Nat) (w : World) (g : List (List UInt8) × Nat) (e : Ending) (w' : World) : Prop :=
  ∃ A n c ps, e = .returned (.tuple #[.slice A n c, .int .i64 (g.2 : Int)]) ∧ RowF w base A n c ps w' ∧ ps.map (·.2) = g.1
theorem retOA_mk {w w' : World} {base n c p : Nat} {A : Option Addr} {ps : List VB} {g : List (List UInt8) × Nat} (hg : g = (ps.map (·.2), p)) (h : RowF w base A n c ps w') : RetOA base w g (.returned (.tuple #[.slice A n c, .int .i64 (p : Int)])) w' := by
  subst hg
  exact ⟨A, n, c, ps, rfl, h, rfl⟩

set_option maxRecDepth 100000 in
set_option maxHeartbeats 2000000 in
theorem OpenAll_any (A : Option Addr) (n c : Nat) (xs : List UInt8) (w : World) (hx : Rd w A n xs) (hn : n ≤ 1099511627776) (hcap : n ≤ c) (hnil : A = none → c = 0) :
    Calls Try.prog 21 #[.slice A n c] w (RetOA w.heap.size w (openAllG xs)) := by
  obtain ⟨base, hbase⟩ : ∃ b, b = w.heap.size := ⟨_, rfl⟩
  rw [← hbase]
  have Hw : Hid (base = w.heap.size) := Lib.hid hbase
  have Hnil := Lib.hid hnil
  clear hbase hnil
  have hlx := hx.len
  have HLX := Lib.hid hlx
  go_enter Try.func21, Try.ntmps21
  go_wp2
  go_loopw [4, 5] (fun v j wr => ∃ (P : Option Addr) (m d p f : Nat) (ps : List VB), v = .slice P m d ∧ j = .int .i64 p ∧ p ≤ n ∧ m ≤ p ∧ n < p + f ∧ openAllG xs = oaF xs f p (ps.map (·.2)) ∧ RowF w base P m d ps wr) (fun _ j _ => n - (intOf j).toNat)
  case atStart => exact ⟨none, 0, 0, 0, n + 1, [], rfl, rfl, Nat.zero_le _, Nat.zero_le _, by omega, by rw [openAllG, HLX.out]; rfl, RowF.nil _ _⟩
  case round =>
    clear hlx
    obtain ⟨P, m, d, p, f, ps, rfl, rfl, hp, hmp, hf, hg, op⟩ := hrel
    have hb := op.bel
    have Hg := Lib.hid hg
    clear hg
    have hbs := hb.size
    have hbase : base ≤ wr.heap.size := by have := Hw.out; omega
    have hb' : Below w.heap.size w wr := by rw [← Hw.out]; exact hb
    have hxr := hx.below hb'
    obtain ⟨f, rfl⟩ : ∃ g, f = g + 1 := ⟨f - 1, by omega⟩
    have hO := Open_any A n c (p : Int) xs wr hxr hn hcap Hnil.out (by unfold I64; omega)
    rcases hgo : openG xs (p : Int) with ⟨bo, nx, eo⟩
    rw [hgo] at hO
    have HO := Lib.hid hO
    have Hgo := Lib.hid hgo
    clear hO hgo
    by_cases he : eo = 0
    · obtain ⟨k, rfl, hk0, hk2⟩ := openG_ok Hgo.out he
      have hk1 : p + 8 ≤ k := by omega
      clear hk0
      subst he
      rw [HLX.out] at hk2
      have F := Lib.hid (Hg.out.trans (oaF_next (acc := ps.map (·.2)) (f := f) Hgo.out))
      clear Hg Hgo
      go_wp2_with fail
      refine HO.out.mono ?_
      clear HO
      rintro e w3 ⟨Q, mq, dq, rfl, oq, hb3⟩
      have hs3 := hb3.size
      have hqc := oq.cap
      have hG := op.own.below hb3
      have HOP := Lib.hid op
      clear op
      go_wp2_with (at_builtin; refine wpList_app1 w3 rfl _ _ 50 rfl base 30 _ _ Try.underlying50 info_sl rfl P m d (ps.map (·.1)) rfl hG (.slice Q mq dq) rfl w3.heap.size rfl rfl ?_ ?_ ?_ ?_)
      · unfold maxLen; omega
      · omega
      · omega
      intro P2 d2 w4 hG4 hg4 hk4
      have HR4 := Lib.hid (HOP.out.snoc hbase oq hb3 hG4 hg4 hk4)
      clear hG hG4 hg4 hk4 oq hb3
      go_wp2
      go_roundw
      case rel => exact ⟨P2, m + 1, d2, k, f, _, rfl, rfl, by omega, by omega, by omega, by rw [F.out, List.map_append]; rfl, HR4.out⟩
      case measure => simp [intOf]; omega
    · have F := Lib.hid (Hg.out.trans (oaF_stop (acc := ps.map (·.2)) (f := f) Hgo.out he))
      have hbne : ((eo : Int) != 0) = true := by simpa using he
      clear Hg Hgo he
      go_wp2_with fail
      refine HO.out.mono ?_
      clear HO
      rintro e w3 ⟨Q, mq, dq, rfl, oq, hb3⟩
      have HR := Lib.hid (op.below hb3 hbase)
      clear op oq hb3
      go_wp2
      go_ret2
      exact retOA_mk F.out HR.out

end Go.Proofs.Ytfffcpbldjoemaa
