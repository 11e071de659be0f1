/- A filter: Build. No condition but sizes. -/
import Derived.Test.YtlnpicfkcahdbaaGreatBlE
import Derived.Test.YtlnpicfkcahdbaaGreatFrame
import Derived.Test.YtlnpicfkcahdbaaGreatLists
namespace Go.Proofs.YtlnpicfkcahdbaaGreat
open Go Go.RowKit Go.Shelf
attribute [local go_sem] Oper.semAt_some

/-- The cells of these bytes. -/
def vsB (fs : List UInt8) : Array Value := (fs.map cv).toArray
theorem vsB_at {fs : List UInt8} {i : Nat} {x : UInt8} (h : fs[i]? = some x) : (vsB fs)[i]? = some (.int .u8 (x.toNat : Int)) := by
  unfold vsB
  simp [h, cv]
theorem vsB_set (fs : List UInt8) (i : Nat) (x : UInt8) : (vsB fs).setIfInBounds i (.int .u8 (x.toNat : Int)) = vsB (fs.set i x) := by
  unfold vsB
  simp [cv, List.map_set]
theorem vsB_rd {w : World} {b : Nat} {fs : List UInt8} {t : TypeId} (h : Cl w b (vsB fs) t) : Rd w (some ⟨b, 0, none⟩) fs.length fs :=
  ⟨rfl, fun _ => ⟨b, 0, rfl, h.lt, fun i x hx => by rw [Nat.zero_add, h.cell i]; exact vsB_at hx⟩⟩
theorem vsB_made (s : Nat) : madeCells (Value.int .u8 0).cells s = vsB (List.replicate s 0) := by
  unfold madeCells vsB
  apply Array.ext
  · simp
  · intro i h1 h2
    simp [cv, Value.cells, Nat.mod_one]
theorem make_bytes (s : Nat) (hs : s ≤ 1048576) (w : World) : (Instr.makeSlice 28 (.int .u64 (s : Int)) (.int .u64 (s : Int))).run Tryz.prog w = .ok (.slice (some ⟨w.heap.size, 0, none⟩) s s) (w.alloc (.cells (vsB (List.replicate s 0)) 5)) := by
  obtain ⟨i, hi, hz, hsz, hby⟩ := info_parts info_u8
  have h := run_make (P := Tryz.prog) w 28 5 i (.int .u8 0) Tryz.underlying28 hi hz .u64 .u64 (s : Int) (s : Int) (by omega) (by omega) (by rw [hby]; omega) (by omega)
  rw [hsz, Nat.mul_one, Int.toNat_natCast, vsB_made] at h
  exact h
/-- One bit more. -/
def putB (fs : List UInt8) (b : Nat) : List UInt8 := fs.set (b / 8) (UInt8.ofNat ((fs[b / 8]?.getD 0).toNat ||| 2 ^ (b % 8)))
/-- One key more, of k bits in a filter of m bits. -/
def fillB (m k : Nat) (fs key : List UInt8) : List UInt8 := ((List.range k).map (bitN key m)).foldl putB fs
def buildB (s k : Nat) (keys : List (List UInt8)) : List UInt8 := keys.foldl (fillB (8 * (s - 1)) k) ((List.replicate s 0).set (s - 1) (UInt8.ofNat k))
theorem putB_len (fs : List UInt8) (b : Nat) : (putB fs b).length = fs.length := by simp [putB]
theorem puts_len : ∀ (l : List Nat) (fs : List UInt8), (l.foldl putB fs).length = fs.length
  | [], _ => rfl
  | b :: l, fs => by rw [List.foldl_cons, puts_len l, putB_len]
theorem fillB_len (m k : Nat) (fs key : List UInt8) : (fillB m k fs key).length = fs.length := puts_len _ _
theorem fills_len (m k : Nat) : ∀ (keys : List (List UInt8)) (fs : List UInt8), (keys.foldl (fillB m k) fs).length = fs.length
  | [], _ => rfl
  | b :: l, fs => by rw [List.foldl_cons, fills_len m k l, fillB_len]
theorem buildB_len (s k : Nat) (keys : List (List UInt8)) : (buildB s k keys).length = s := by
  unfold buildB
  rw [fills_len]
  simp
theorem putB_off {fs : List UInt8} {b i : Nat} (h : b / 8 ≠ i) : (putB fs b)[i]? = fs[i]? := by
  unfold putB
  rw [List.getElem?_set_ne h]
theorem puts_off {i : Nat} : ∀ (l : List Nat) (fs : List UInt8), (∀ b ∈ l, b / 8 ≠ i) → (l.foldl putB fs)[i]? = fs[i]?
  | [], _, _ => rfl
  | b :: l, fs, h => by
    rw [List.foldl_cons, puts_off l _ (fun c hc => h c (List.mem_cons_of_mem _ hc)), putB_off (h b List.mem_cons_self)]
theorem fillB_off {m k i : Nat} (hm : 0 < m) (hi : m ≤ 8 * i) (fs key : List UInt8) : (fillB m k fs key)[i]? = fs[i]? := puts_off _ _ fun b hb => by
  obtain ⟨q, _, rfl⟩ := List.mem_map.1 hb
  have := bitN_lt key hm q
  omega
theorem fills_off {m k i : Nat} (hm : 0 < m) (hi : m ≤ 8 * i) : ∀ (keys : List (List UInt8)) (fs : List UInt8), (keys.foldl (fillB m k) fs)[i]? = fs[i]?
  | [], _ => rfl
  | b :: l, fs => by rw [List.foldl_cons, fills_off hm hi l, fillB_off hm hi]
theorem buildB_last {s k : Nat} (hs : 2 ≤ s) (keys : List (List UInt8)) : (buildB s k keys)[s - 1]? = some (UInt8.ofNat k) := by
  unfold buildB
  rw [fills_off (by omega) (Nat.le_refl _), List.getElem?_set_self (by simp; omega)]
theorem buildB_succ {s k j : Nat} {xss : List (List UInt8)} {key : List UInt8} (h : xss[j]? = some key) : buildB s k (xss.take (j + 1)) = fillB (8 * (s - 1)) k (buildB s k (xss.take j)) key := by
  have e : xss.take (j + 1) = xss.take j ++ [key] := by rw [List.take_add_one, h]; rfl
  unfold buildB
  rw [e]
  exact foldl_snoc _ _ _ _
theorem bits_map (key : List UInt8) {m : Nat} (hm : 0 < m) (k : Nat) : (bitsL key hm k).map (·.1) = (List.range k).map (bitN key m) := by
  unfold bitsL
  rw [List.map_map]
  rfl
def mkD (D : Nat) : Deferred := { target := .collected D, args := #[] }
/-- The filter of these keys. -/
def filterB (p : Nat) (xss : List (List UInt8)) : List UInt8 := buildB (((if xss.length * p < 64 then 64 else xss.length * p) + 7) / 8 + 1) (min (max (p * 69 / 100) 1) 30) xss
/-- A block of the call's own, of these bytes. -/
def RetBd (w : World) (fs : List UInt8) (e : Ending) (w' : World) : Prop :=
  e = .returned (.tuple #[.slice (some ⟨w.heap.size, 0, none⟩) fs.length fs.length, .int .i64 0]) ∧ Cl w' w.heap.size (vsB fs) 5 ∧ Below w.heap.size w w'
theorem leaves_marks {F : Fence} {m : Nat} {P : Program} {fn : Func} {tmps : Array Value} {R : Ending → World → Prop} {w : World} : ∀ (Ds : List Nat) (W : World), Ds.Nodup → (∀ D ∈ Ds, w.heap.size ≤ D ∧ W.heap[D]? = some (.deferred (some []))) →
    (∀ W', (∀ g vs t, Cl W g vs t → Cl W' g vs t) → Below w.heap.size W W' → LeavesInM F m P fn tmps R [] .returning W') → LeavesInM F m P fn tmps R (Ds.map mkD) .returning W
  | [], W, _, _, h => h W (fun _ _ _ h => h) (Below.refl _ _)
  | D :: Ds, W, hn, hD, h => by
    have hd := hD D List.mem_cons_self
    have hn' := List.nodup_cons.1 hn
    refine ⟨by simp, .inl ⟨D, _, rfl, run_takeDeferred hd.2, ?_⟩⟩
    have hb : Below w.heap.size W (W.putObj D (.deferred none)) := belowK_b (w := w) (Nat.le_refl _) W D _ _ hd.1 hd.2 rfl rfl
    refine leaves_marks Ds _ hn'.2 (fun E hE => ⟨(hD E (List.mem_cons_of_mem _ hE)).1, ?_⟩) fun W' k1 k2 => h W' (fun g vs t hc => k1 g vs t ?_) (hb.trans k2)
    · have hne : E ≠ D := fun e => hn'.1 (e ▸ hE)
      exact (World.putObj_heap_other hne).trans (hD E (List.mem_cons_of_mem _ hE)).2
    · have hne : g ≠ D := fun e => by
        subst e
        have := hd.2
        rw [hc] at this
        cases this
      exact (World.putObj_heap_other hne).trans hc
/-- What stands between two keys. -/
def RelB (w : World) (s k n : Nat) (xss : List (List UInt8)) (v : Value) (ds : List Deferred) (W : World) : Prop :=
  ∃ (j : Nat) (Ds : List Nat), j ≤ n ∧ v = .int .i64 (j : Int) ∧ ds = Ds.map mkD ∧ Ds.Nodup ∧ (∀ D ∈ Ds, w.heap.size + 2 ≤ D ∧ W.heap[D]? = some (.deferred (some []))) ∧
    Cl W w.heap.size (vsB (buildB s k (xss.take j))) 5 ∧ Cl W (w.heap.size + 1) #[.slice (some ⟨w.heap.size, 0, none⟩) s s] 28 ∧ Below w.heap.size w W
set_option maxRecDepth 100000 in
set_option maxHeartbeats 16000000 in
theorem build_gen (A : Option Addr) (n c p : Nat) (w : World) (hp : 1 ≤ p) (hp2 : p ≤ 100) (hn : n ≤ 20000) (hnp : n * p ≤ 200000) (xss : List (List UInt8)) (hx : RdL w A n xss) (hxl : ∀ xs ∈ xss, xs.length ≤ maxLen) :
    Calls Tryz.prog 20 #[.int .i64 (p : Int), .slice A n c] w (RetBd w (filterB p xss)) := by
  obtain ⟨q, hq⟩ : ∃ q, q = n * p := ⟨_, rfl⟩
  have hq2 : q ≤ 200000 := by rw [hq]; exact hnp
  obtain ⟨M, hM⟩ : ∃ M, M = if q < 64 then 64 else q := ⟨_, rfl⟩
  have hM2 : 64 ≤ M ∧ M ≤ 200000 := by rw [hM]; split <;> omega
  obtain ⟨s, hs⟩ : ∃ s, s = (M + 7) / 8 + 1 := ⟨_, rfl⟩
  have hs2 : 9 ≤ s ∧ s ≤ 25001 := by omega
  have e1 : IntKind.u64.wrap ((n : Int) * (p : Int)) = (q : Int) := by
    rw [IntKind.wrap_u64, hq]
    have : ((n : Int) * (p : Int)) = ((n * p : Nat) : Int) := by push_cast; rfl
    rw [this, ← hq]
    omega
  have e2 : IntKind.u64.wrap ((M : Int) + 7) = ((M + 7 : Nat) : Int) := by rw [IntKind.wrap_u64]; omega
  have e3 : ((M : Int) + 7) / 8 = ((s - 1 : Nat) : Int) := by omega
  have e4 : IntKind.u64.wrap (((s - 1 : Nat) : Int) + 1) = (s : Int) := by rw [IntKind.wrap_u64]; omega
  obtain ⟨k0, hk0⟩ : ∃ k0, k0 = p * 69 / 100 := ⟨_, rfl⟩
  obtain ⟨k, hk⟩ : ∃ k, k = min (max k0 1) 30 := ⟨_, rfl⟩
  have hk2 : 1 ≤ k ∧ k ≤ 30 := by omega
  have e5 : IntKind.i64.wrap ((p : Int) * 69) = ((p * 69 : Nat) : Int) := by rw [IntWalk.i64_in _ (by omega)]; omega
  have e6 : ((p : Int) * 69) / 100 = (k0 : Int) := by omega
  have e7 : IntKind.u64.wrap ((s : Int) - 1) = ((s - 1 : Nat) : Int) := by rw [IntKind.wrap_u64]; omega
  have e8 : (UInt8.ofNat k).toNat = k := by simp; omega
  have HK := Lib.hid hk
  have HK0 := Lib.hid hk0
  clear hk hk0
  have HS := Lib.hid hs
  have HM := Lib.hid hM
  have HQ := Lib.hid hq
  clear hs hM hq
  refine (callsIn_wide (n := 5)).1 ?_
  refine callsIn_of_wp_marks Tryz.func20 rfl trivial ?_ rfl
  simp only [Tryz.ntmps20, List.size_toArray, List.length_cons, List.length_nil, Nat.reduceAdd, Nat.reduceSub, Array.replicate_succ, Array.replicate_zero, List.push_toArray, List.append_toArray, List.nil_append, List.cons_append]
  refine wpIn_wide.2 ?_
  go_upto_region 3 with (fail)
  go_cut [6] from 18 to 24 (fun s6 wx => s6 = .int .u64 (M : Int) ∧ wx = w)
  case first =>
    by_cases h64 : q < 64
    · obtain rfl : M = 64 := by rw [HM.out, if_pos h64]
      go_wp2_with fail
      go_meet
      case rel => exact ⟨rfl, rfl⟩
    · obtain rfl : M = q := by rw [HM.out, if_neg h64]
      go_wp2_with fail
      go_meet
      case rel => exact ⟨rfl, rfl⟩
  case rest =>
    obtain ⟨rfl, hwc⟩ := hcut
    rw [hwc]
    clear hwc wc
    have hmk := make_bytes s (by omega)
    go_upto_region 8 with (fail)
    obtain ⟨fs0, hfs⟩ : ∃ fs0, fs0 = List.replicate s (0 : UInt8) := ⟨_, rfl⟩
    rw [← hfs]
    have hl0 : fs0.length = s := by rw [hfs]; simp
    have HFS := Lib.hid hfs
    obtain ⟨W, hW⟩ : ∃ W, W = (w.alloc (.cells (vsB fs0) 5)).alloc (.cells #[.slice (some ⟨w.heap.size, 0, none⟩) s s] 28) := ⟨_, rfl⟩
    rw [← hW]
    have bW : Below w.heap.size w W := by rw [hW]; exact ((Below.refl _ _).alloc (Nat.le_refl _) _).alloc (by simp) _
    have kD : Cl W w.heap.size (vsB fs0) 5 := by rw [hW]; exact (Cl.new _ _ _).alloc _
    have kX : Cl W (w.heap.size + 1) #[.slice (some ⟨w.heap.size, 0, none⟩) s s] 28 := by rw [hW]; exact Cl.newg _ _ _ _ (by simp)
    clear hmk hW
    go_cut [41] from 25 to 42 (fun _ wx => Cl wx w.heap.size (vsB (fs0.set (s - 1) (UInt8.ofNat k))) 5 ∧ Cl wx (w.heap.size + 1) #[.slice (some ⟨w.heap.size, 0, none⟩) s s] 28 ∧ Below w.heap.size w wx)
    case first =>
      obtain ⟨y, hy⟩ : ∃ y, fs0[s - 1]? = some y := ⟨_, List.getElem?_eq_getElem (by omega)⟩
      have c1 := (kD.cell (s - 1)).trans (vsB_at hy)
      have c2 := kD.thaw (s - 1)
      have c3 := kX.cell 0
      have hlt : s - 1 < s := by omega
      have hst := kD.set (s - 1) (.int .u8 ((UInt8.ofNat k).toNat : Int))
      rw [vsB_set, e8] at hst
      have hkx := kX.off (k := w.heap.size) (s - 1) (.int .u8 (k : Int)) (by omega)
      have hbx := below_set bW (g := w.heap.size) (s - 1) (.int .u8 (k : Int)) (Nat.le_refl _)
      have HZ : Hid (Cl (W.setCell ⟨w.heap.size, s - 1, none⟩ (.int .u8 (k : Int))) w.heap.size (vsB (fs0.set (s - 1) (UInt8.ofNat k))) 5 ∧ Cl (W.setCell ⟨w.heap.size, s - 1, none⟩ (.int .u8 (k : Int))) (w.heap.size + 1) #[.slice (some ⟨w.heap.size, 0, none⟩) s s] 28 ∧ Below w.heap.size w (W.setCell ⟨w.heap.size, s - 1, none⟩ (.int .u8 (k : Int)))) := Lib.hid ⟨hst, hkx, hbx⟩
      clear hst hkx hbx kD kX bW hy
      have hK := HK.out
      by_cases hk1 : k0 < 1
      · obtain rfl : k = 1 := by omega
        obtain rfl : k0 = 0 := by omega
        have e9 : IntKind.u8.wrap 1 = 1 := by rw [IntKind.wrap_u8]; omega
        clear hK e8
        go_wp2_with fail
        go_meet
        case rel => exact HZ.out
      · by_cases hk30 : k0 ≤ 30
        · obtain rfl : k = k0 := by omega
          have e9 : IntKind.u8.wrap (k : Int) = (k : Int) := by rw [IntKind.wrap_u8]; omega
          clear hK e8
          go_wp2_with fail
          go_meet
          case rel => exact HZ.out
        · obtain rfl : k = 30 := by omega
          have e9 : IntKind.u8.wrap 30 = 30 := by rw [IntKind.wrap_u8]; omega
          clear hK e8
          go_wp2_with fail
          go_meet
          case rel => exact HZ.out
    case rest =>
      obtain ⟨kD, kX, bC⟩ := hcut
      have KD := Lib.hid kD
      have KX := Lib.hid kX
      have BC := Lib.hid bC
      have hHX := Lib.hid hx
      clear kD kX bC hx
      go_wp2_with fail
      refine wp_loop (fun a' W' => ∃ (v10 v11 v13 v14 v16 v17 v45 v46 v47 v48 v49 v50 v51 v52 v53 v54 v55 v56 v57 v58 v59 v60 v61 v62 v63 v64 : Value) (ds : List Deferred), a' = { tmps := List.toArray ((Value.int IntKind.i64 ↑p) :: (Value.slice A n c) :: undef :: undef :: (Value.slice none 0 0) :: (Value.int IntKind.i64 0) :: (Value.int IntKind.u64 ↑M) :: (Value.int IntKind.u64 ↑s) :: (Value.pointer (some ⟨w.heap.size + 1, 0, none⟩)) :: undef :: v10 :: v11 :: (Value.int IntKind.i64 ↑p) :: v13 :: v14 :: (Value.int IntKind.i64 ↑p) :: v16 :: v17 :: u18 :: u19 :: u20 :: u21 :: u22 :: u23 :: u24 :: u25 :: u26 :: u27 :: u28 :: u29 :: u30 :: u31 :: u32 :: u33 :: u34 :: u35 :: u36 :: u37 :: u38 :: u39 :: u40 :: u41 :: u42 :: (Value.slice A n c) :: (Value.int IntKind.i64 ↑n) :: v45 :: v46 :: v47 :: v48 :: v49 :: v50 :: v51 :: v52 :: v53 :: v54 :: v55 :: v56 :: v57 :: v58 :: v59 :: v60 :: v61 :: v62 :: v63 :: v64 :: []), defers := ds } ∧ RelB w s k n xss v45 ds W') (fun a' _ => n - (intOf (a'.tmps.getD 45 undef)).toNat) ?start ?round
      case start =>
        refine ⟨undef, undef, .bool (decide ((p : Int) < 1)), .bool (decide ((p : Int) < 1)), .bool (decide (100 < (p : Int))), .bool (decide ((p : Int) < 1) || decide (100 < (p : Int))), .int .i64 0, undef, undef, undef, undef, undef, undef, undef, undef, undef, undef, undef, undef, undef, undef, undef, undef, undef, undef, undef, [], rfl, ?_⟩
        refine ⟨0, [], Nat.zero_le _, rfl, rfl, List.nodup_nil, by simp, ?_, KX.out, BC.out⟩
        rw [List.take_zero]
        rw [HFS.out] at KD
        exact KD.out
      case round =>
        intro _ wr hinv
        obtain ⟨v10, v11, v13, v14, v16, v17, v45, v46, v47, v48, v49, v50, v51, v52, v53, v54, v55, v56, v57, v58, v59, v60, v61, v62, v63, v64, ds, ha, j, Ds, hj, rfl, rfl, hnd, hDs, kD, kX, bC⟩ := hinv
        subst ha
        by_cases hlt : j < n
        · obtain ⟨bA, off, hA, hbA⟩ : ∃ b off, A = some ⟨b, off, none⟩ ∧ b < w.heap.size := by
            obtain ⟨b, off, h1, h2, _⟩ := hHX.out.2 (by omega)
            exact ⟨b, off, h1, h2⟩
          obtain ⟨key, hkey⟩ : ∃ key, xss[j]? = some key := ⟨_, List.getElem?_eq_getElem (by have := hHX.out.1; omega)⟩
          obtain ⟨K, kn, kc, hcK, hrK⟩ : ∃ K kn kc, w.cell? ⟨bA, off + j, none⟩ = some (.slice K kn kc) ∧ Rd w K kn key := by
            obtain ⟨b, o, h1, h2, h3⟩ := hHX.out.2 (by omega)
            obtain ⟨v, h4, K, kn, kc, h5, h6, _⟩ := h3 j key hkey
            rw [hA] at h1
            cases h1
            rw [h5] at h4
            exact ⟨K, kn, kc, h4, h6⟩
          subst hA
          have hkn : kn ≤ maxLen := by
            have h1 := hrK.len
            have h2 := hxl key (List.mem_of_getElem? hkey)
            omega
          obtain ⟨fs, hfz⟩ : ∃ fs, fs = buildB s k (xss.take j) := ⟨_, rfl⟩
          have hfl : fs.length = s := by rw [hfz]; exact buildB_len _ _ _
          have hlast : fs[s - 1]? = some (UInt8.ofNat k) := by rw [hfz]; exact buildB_last (by omega) _
          have hsucc : buildB s k (xss.take (j + 1)) = fillB (8 * (s - 1)) k fs key := by rw [hfz]; exact buildB_succ hkey
          rw [← hfz] at kD
          have HBT : Hid (Calls Tryz.prog 58 #[.slice (some ⟨w.heap.size, 0, none⟩) s s, .slice K kn kc] wr (RetIt wr K kn kc (8 * (s - 1)) (UInt8.ofNat k).toNat)) := Lib.hid (bitsOf_any _ s s fs K kn kc wr (by rw [← hfl]; exact vsB_rd kD) (by omega) (by omega) _ hlast)
          rw [e8] at HBT
          have hc1 : wr.cell? ⟨bA, off + j, none⟩ = some (.slice K kn kc) := (bC.cell (p := ⟨bA, off + j, none⟩) hbA).trans hcK
          have hc2 := kX.cell 0
          have HSU := Lib.hid hsucc
          have HDS := Lib.hid hDs
          have HND := Lib.hid hnd
          have HRK := Lib.hid hrK
          have HCC : Hid (Cl wr w.heap.size (vsB fs) 5 ∧ Cl wr (w.heap.size + 1) #[.slice (some ⟨w.heap.size, 0, none⟩) s s] 28 ∧ Below w.heap.size w wr) := Lib.hid ⟨kD, kX, bC⟩
          clear kD kX bC hnd hDs hrK hsucc hlast hfz hcK hkey
          go_wp2_with fail
          with_reducible refine HBT.out.mono ?_
          intro e w1 hq
          obtain ⟨bk, bh, g, h1, i1, i2, i3, hgs, b1⟩ := RetIt.out hq
          subst h1
          go_wp2_with fail
          obtain ⟨kD, kX, bC⟩ := HCC.out
          have q0 : Cl w1 w.heap.size (vsB fs) 5 := kD.below b1
          have q1 : Cl w1 (w.heap.size + 1) #[.slice (some ⟨w.heap.size, 0, none⟩) s s] 28 := kX.below b1
          have hw2 : w.heap.size + 2 ≤ wr.heap.size := by have := kX.lt; omega
          have bw : Below w.heap.size w w1 := bC.trans (b1.mono (by omega))
          have hg1 : g < w1.heap.size := cell_lt i3
          have hgB : g ≠ w.heap.size := by omega
          have hsz := b1.size
          have hm0 : 0 < 8 * (s - 1) := by omega
          have hDw : ∀ D ∈ Ds, D < w1.heap.size ∧ w1.heap[D]? = some (.deferred (some [])) := fun D hD => by
            have h1 := (HDS.out D hD).2
            have h2 := (Array.getElem?_eq_some_iff.1 h1).1
            exact ⟨by omega, (b1.block D h2).trans h1⟩
          have HDW := Lib.hid hDw
          clear hq kD kX bC hDw
          refine (wpIn_wide (n := 5)).1 ?_
          refine wpIn_rangeFunc_ownF rfl (by omega) (gf := 123) (lb := #[.pointer (some ⟨bk, 0, none⟩), .pointer (some ⟨bh, 0, none⟩), .pointer (some ⟨g, 0, none⟩)]) rfl trivial (enters_of Tryz.func123 (by kernel_rfl) rfl)
            (bits_stops (5 - 1) (by omega) bk bh g K kn kc key hm0 (by omega) k (by omega) w1 i1 i2 i3 ((HRK.out.below (HCC.out.2.2)).below b1) hkn) (fun h k => Stb.trans h k) ?kb (Below.refl _ _) (fun _ => rfl)
            (fun pre V => (Cl V w.heap.size (vsB ((pre.map (·.1)).foldl putB fs)) 5 ∧ Cl V (w.heap.size + 1) #[.slice (some ⟨w.heap.size, 0, none⟩) s s] 28 ∧ (∀ D ∈ Ds, D < w1.heap.size ∧ V.heap[D]? = some (.deferred (some [])))) ∧ Below w.heap.size w V)
            (fun _ _ _ => False)
            (OwnFrom.and (fun q A B row hq hg hr => ⟨(grownBy_keeps_cells hg (fun r e => (hr r e).2) hq.1 rfl).trans hq.1, (grownBy_keeps_cells hg (fun r e => (hr r e).2) hq.2.1 rfl).trans hq.2.1, fun D hD => ⟨(hq.2.2 D hD).1, (hg.block D (Array.getElem?_eq_some_iff.1 (hq.2.2 D hD).2).1 (fun e => by have h1 := (hr D e.symm).1; have h2 := (hq.2.2 D hD).1; omega)).trans (hq.2.2 D hD).2⟩⟩) (ownFrom_below (Nat.le_refl _) (by omega)))
            (fun cd => fun q A B row hq hg hr => hq)
            ⟨⟨q0, q1, HDW.out⟩, bw⟩
            ?aa ?assign ?body ?done ?stop
          case kb =>
            intro V l o o' hl _ _ _
            have hne : l ≠ g := by omega
            unfold Stb World.putObj
            simp [hne]
          case assign =>
            intro l y V K hK
            gi_wp2
            exact hK
          case body =>
            rintro l pre y V ⟨⟨p0, p1, p2⟩, hB⟩ _
            obtain ⟨y, hy⟩ := y
            obtain ⟨i, t, rfl, ht⟩ : ∃ i t, y = 8 * i + t ∧ t < 8 := ⟨y / 8, y % 8, by omega, by omega⟩
            obtain ⟨fv, hfv⟩ : ∃ fv, fv = (pre.map (·.1)).foldl putB fs := ⟨_, rfl⟩
            rw [← hfv] at p0
            have hfvl : fv.length = s := by rw [hfv, puts_len, hfl]
            have hin : i < s := by omega
            obtain ⟨u, hu⟩ : ∃ u, fv[i]? = some u := ⟨_, List.getElem?_eq_getElem (by omega)⟩
            have c1 := (p0.cell i).trans (vsB_at hu)
            have c2 := p0.thaw i
            have c3 := p1.cell 0
            have e9 : (8 * (i : Int) + (t : Int)) / 8 = (i : Int) := by omega
            have e10 : (8 * (i : Int) + (t : Int)) % 8 = (t : Int) := by omega
            have hp2' : 2 ^ t < 256 := Nat.lt_of_lt_of_le (Nat.pow_lt_pow_right (by omega) ht) (by decide)
            have e11 : (2 : Int) ^ t % 256 = ((2 ^ t : Nat) : Int) := by
              rw [Int.emod_eq_of_lt (by exact_mod_cast Nat.zero_le _) (by exact_mod_cast hp2')]
              push_cast
              rfl
            have hu256 : u.toNat < 256 := u.toNat_lt
            have hor : u.toNat ||| 2 ^ t < 256 := Nat.or_lt_two_pow (n := 8) hu256 hp2'
            obtain ⟨z, hz⟩ : ∃ z, z = UInt8.ofNat (u.toNat ||| 2 ^ t) := ⟨_, rfl⟩
            have hzn : z.toNat = u.toNat ||| 2 ^ t := by
              rw [hz]
              generalize u.toNat ||| 2 ^ t = q at hor ⊢
              simp
              omega
            have e12 : bits .or .u8 (u.toNat : Int) ((2 ^ t : Nat) : Int) = (z.toNat : Int) := by rw [hzn]; exact u8_or_nat _ _ hu256 hp2'
            have hput : ((pre ++ [(⟨8 * i + t, hy⟩ : Bt (8 * (s - 1)))]).map (·.1)).foldl putB fs = fv.set i z := by
              rw [List.map_append, List.foldl_append, ← hfv]
              show putB fv (8 * i + t) = _
              unfold putB
              rw [show (8 * i + t) / 8 = i by omega, show (8 * i + t) % 8 = t by omega, hu, hz]
              rfl
            have hst := p0.set i (.int .u8 (z.toNat : Int))
            rw [vsB_set, ← hput] at hst
            have HX : Hid _ := Lib.hid (And.intro (And.intro hst (And.intro (p1.off (k := w.heap.size) i (.int .u8 (z.toNat : Int)) (by omega)) (fun D (hD : D ∈ Ds) => And.intro (p2 D hD).1 ((heap_setCell_other V ⟨w.heap.size, i, none⟩ D (.int .u8 (z.toNat : Int)) (by have := (HDS.out D hD).1; simp; omega)).trans (p2 D hD).2)))) (below_set hB (g := w.heap.size) i (.int .u8 (z.toNat : Int)) (Nat.le_refl _)))
            have HG : Hid (Stb g V (V.setCell ⟨w.heap.size, i, none⟩ (.int .u8 (z.toNat : Int)))) := Lib.hid (heap_setCell_other V ⟨w.heap.size, i, none⟩ g (.int .u8 (z.toNat : Int)) (by simpa using hgB))
            obtain ⟨Mt, hMt⟩ : ∃ Mt, Mt = 2 ^ t := ⟨_, rfl⟩
            rw [← hMt] at e11 e12
            clear hst hput hzn hz hor hp2' hMt hfv hfvl hu p0 p1 p2 hB
            gi_wp2
            exact ⟨KeepsOthers.setCell _ _ _, HG.out, HX.out⟩
          case done =>
            rintro D ys V hD hys ⟨⟨p0, p1, p2⟩, hB⟩ hK
            have hput : ((bitsL key hm0 k).map (·.1)).foldl putB fs = fillB (8 * (s - 1)) k fs key := by rw [bits_map]; rfl
            subst hys
            rw [hput, ← HSU.out] at p0
            have HP := Lib.hid p0
            have HP1 := Lib.hid p1
            have HP2 := Lib.hid p2
            have HB := Lib.hid hB
            have HKK := Lib.hid hK
            have hjj : IntKind.i64.wrap ((j : Int) + 1) = ((j + 1 : Nat) : Int) := by rw [IntWalk.i64_in _ (by omega)]; omega
            clear p0 p1 p2 hB hK hput
            dsimp only
            go_wp2_with fail
            refine ⟨⟨_, _, _, _, _, _, _, _, _, _, _, _, _, _, _, _, _, _, _, _, _, _, _, _, _, _, _, rfl, j + 1, D :: Ds, by omega, by go_num, rfl, List.nodup_cons.2 ⟨fun h => ?_, HND.out⟩, fun E hE => ?_, HP.out, HP1.out, HB.out⟩, ?_⟩
            · have := (HDW.out D h).1; omega
            · rcases List.mem_cons.1 hE with rfl | h
              · exact ⟨by omega, HKK.out⟩
              · exact ⟨(HDS.out E h).1, (HP2.out E h).2⟩
            · simp [intOf]; omega
          case stop =>
            rintro D cd pre V hD hpre hx hK
            exact hx.elim
        · obtain rfl : j = n := by omega
          have hc2 := kX.cell 0
          have HCC : Hid (Cl wr w.heap.size (vsB (buildB s k (xss.take j))) 5 ∧ Below w.heap.size w wr ∧ Ds.Nodup ∧ (∀ D ∈ Ds, w.heap.size + 2 ≤ D ∧ wr.heap[D]? = some (.deferred (some [])))) := Lib.hid ⟨kD, bC, hnd, hDs⟩
          clear kD kX bC hnd hDs
          go_wp2_with fail
          show LeavesInM _ _ _ _ _ _ (Ds.map mkD) _ _
          refine leaves_marks (w := w) Ds wr HCC.out.2.2.1 (fun D hD => ⟨by have := (HCC.out.2.2.2 D hD).1; omega, (HCC.out.2.2.2 D hD).2⟩) fun W' k1 k2 => ?_
          have hfil : filterB p xss = buildB s k (xss.take j) := by
            have h1 : xss.length = j := hHX.out.1
            unfold filterB
            rw [h1, ← HQ.out, ← HM.out, ← HS.out, ← HK0.out, ← HK.out, List.take_of_length_le (by omega)]
          rw [hfil]
          refine ⟨.tuple #[.slice (some ⟨w.heap.size, 0, none⟩) s s, .int .i64 0], ?_, ?_, k1 _ _ _ HCC.out.1, HCC.out.2.1.trans k2⟩
          · simp [results, Tryz.f20, go_sem]
          · rw [buildB_len]
theorem build_good (A : Option Addr) (n c p : Nat) (w : World) (hp : 1 ≤ p) (hp2 : p ≤ 100) (hn : n ≤ 200) (xss : List (List UInt8)) (hx : RdL w A n xss) (hxl : ∀ xs ∈ xss, xs.length ≤ maxLen) :
    Calls Tryz.prog 20 #[.int .i64 (p : Int), .slice A n c] w (RetBd w (filterB p xss)) :=
  build_gen A n c p w hp hp2 (by omega) (Nat.le_trans (Nat.mul_le_mul hn hp2) (by omega)) xss hx hxl
end Go.Proofs.YtlnpicfkcahdbaaGreat
