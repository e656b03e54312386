/- Texts KT, KX, one behind the other. -/
import Derived.Test.YtnccgaanfjaimaaDoorH4
import Derived.Test.YtnccgaanfjaimaaDoorH5
import Derived.Test.YtnccgaanfjaimaaDoorH6
import Derived.Laws.BytesArg
import Derived.BigRegion
import Derived.IntWalk
import Derived.Maps.AppendAt
set_option linter.unusedSimpArgs false
set_option linter.unusedVariables false
namespace Go.Proofs.YtnccgaanfjaimaaDoor
open Go.ChangeShapes Go.WideShapes Go.ChangeAt Go.RowKit Go.Sort
set_option linter.unusedVariables false
set_option linter.unusedSimpArgs false

attribute [local go_sem] Oper.semAt_some

theorem toList_inj {x y : ByteArray} (h : x.toList = y.toList) : x = y := by
  rw [ByteArray.toList_eq, ByteArray.toList_eq] at h
  exact ByteArray.ext (Array.ext' h)

set_option maxHeartbeats 2000000 in
theorem ret_str {a b : ByteArray} (h : a = b) : Ending.returned (.string a) = .returned (.string b) := by rw [h]
def mtN (k i : Int) : List Int := [35, k, k / 256, k / 65536, 47, i % 256, i / 256, i / 65536]
/-- the mark of a place in a row of texts -/
def mT (k i : Int) : ByteArray := strOfNums (mtN k i)
set_option maxHeartbeats 2000000 in
theorem markText_any (k i : Int) (w : World) (hk1 : 0 ≤ k) (hk2 : k ≤ 2) (hi1 : 0 ≤ i) (hi2 : i ≤ 1000) : Calls Tryd.prog 56 #[.int .i64 k, .int .i64 i] w fun e w' => e = .returned (.string (mT k i)) ∧ Below w.heap.size w w' := by
  have hrun := run_convert_bytes_arg (P := Tryd.prog) (w.alloc (.cells #[.int .u8 35, .int .u8 k, .int .u8 (k / 256), .int .u8 (k / 65536), .int .u8 47, .int .u8 (i % 256), .int .u8 (i / 256), .int .u8 (i / 65536)] 5)) 104 5 Tryd.underlying104 Tryd.underlying5 w.heap.size 0 8 8 (mtN k i) rfl (by
    intro j hj
    rw [Nat.zero_add, cell_of_row _ _ _ _ 5 (0, 0) (heap_alloc_new w _)]
    have h : j = 0 ∨ j = 1 ∨ j = 2 ∨ j = 3 ∨ j = 4 ∨ j = 5 ∨ j = 6 ∨ j = 7 := by omega
    rcases h with rfl | rfl | rfl | rfl | rfl | rfl | rfl | rfl <;> rfl) 9 Tryd.underlying9
  obtain ⟨t, ht⟩ : ∃ t, strOfNums (mtN k i) = t := ⟨_, rfl⟩
  have HT := Lib.hid (show mT k i = t from ht)
  rw [ht] at hrun
  clear ht
  go_enter Tryd.func56, Tryd.ntmps56
  go_wp2
  go_ret
  exact ⟨ret_str HT.out.symm, (Below.refl _ _).alloc (Nat.le_refl _) _⟩

/-- the marks behind a row that is lent -/
def mks : List ByteArray := (List.range 12).map fun i : Nat => mT 1 (i : Int)
theorem mks_len : mks.length = 12 := by simp [mks]
theorem mks_get (k : Nat) (h : k < mks.length) : mks[k] = mT 1 (k : Int) := by simp [mks]

/-- a row that is lent: a copy, with marks behind it -/
def LentR (l : List ByteArray) (w : World) (e : Ending) (w' : World) : Prop :=
  ∃ g c, e = .returned (.slice (some ⟨g, 0, none⟩) l.length c) ∧ w'.ownsRow w.heap.size 9 1 (.slice (some ⟨g, 0, none⟩) (l.length + 12) c) (l.length + 12) ((l ++ mks).map Value.string) ∧ Below w.heap.size w w'

theorem own_succ {w : World} {base e size k : Nat} {v : Value} {xs : List Value} (h : w.ownsRow base e size v (k + 1) xs) : ∃ g cap, v = .slice (some ⟨g, 0, none⟩) (k + 1) cap ∧ k + 1 ≤ cap ∧ cap ≤ maxLen := by
  rcases h.2 with ⟨_, h0⟩ | ⟨g, cap, cur, rfl, _, _, h1, h2, _⟩
  · omega
  · exact ⟨g, cap, rfl, h1, h2⟩

set_option maxHeartbeats 2000000 in
theorem lent_any {N : Nat} (v : Value) (l : Wd) (w : World) (hv : SR N w v l) (hN : N ≤ w.heap.size) (hll : l.length ≤ 100000) : Calls Tryd.prog 26 #[v] w (LentR l w) := by
  obtain ⟨i9, hi9, hz9, hs9, hb9⟩ := info_parts parts9
  have HV := Lib.hid (fun W (h : Below w.heap.size w W) => hv.bel (h.mono hN))
  obtain ⟨A, c, rfl, hv2⟩ := hv
  clear hv2
  unfold LentR
  obtain ⟨n, hn⟩ : ∃ n, l.length = n := ⟨_, rfl⟩
  have HLN := Lib.hid hn
  rw [hn] at HV hll ⊢
  clear hn
  obtain ⟨M, hM⟩ : ∃ M, M = madeCells (Value.string ⟨#[]⟩).cells ((n + 12) * i9.size) := ⟨_, rfl⟩
  have hMs : M.size = (n + 12) * 1 := by rw [hM, size_madeCells, hs9]
  have eN : ((n : Int) + 12).toNat = n + 12 := by omega
  have hmk : ∀ W : World, (Instr.makeSlice 41 (.int .i64 0) (.int .i64 ((n : Int) + 12))).run Tryd.prog W = .ok (.slice (some ⟨W.heap.size, 0, none⟩) 0 (n + 12)) (W.alloc (.cells M 9)) := fun W => by
    have h := run_make (P := Tryd.prog) W 41 9 i9 (.string ⟨#[]⟩) Tryd.underlying41 hi9 hz9 .i64 .i64 0 ((n : Int) + 12) (by omega) (by omega) (by rw [hb9]; omega) (by omega)
    rw [eN, ← hM] at h
    simpa using h
  have HMS := Lib.hid hMs
  clear hM hMs eN
  go_enter Tryd.func26, Tryd.ntmps26
  go_upto_region 4 with (at_builtin; refine wpList_append_sr rfl _ _ rfl w.heap.size (.slice (some ⟨w.heap.size, 0, none⟩) 0 (n + 12)) 0 [] rfl (World.ownsRow_made w M (n + 12) (Nat.le_refl _) (by unfold maxLen; omega) HMS.out) A n c l rfl (HV.out _ ((Below.refl _ _).alloc (Nat.le_refl _) _)) (by omega) (by simp) ?_; intro v1 w1 hown1 hgrow1 hloc1)
  have hB1 : Below w.heap.size w w1 := ((Below.refl _ w).alloc (Nat.le_refl _) _).grown hgrow1 (by simp) (fun k hk => by simp [Value.ownBlock] at hk; omega)
  have HB1 := Lib.hid hB1
  have HOWN1 := Lib.hid hown1
  clear hgrow1 hloc1 hown1 hB1 hmk
  go_loopw [3, 4] (fun v i wr => ∃ k : Nat, k ≤ 12 ∧ i = .int .i64 k ∧ wr.ownsRow w.heap.size 9 1 v (n + k) ((l ++ mks.take k).map Value.string) ∧ Below w.heap.size w wr) (fun _ i _ => 13 - (intOf i).toNat)
  case atStart => exact ⟨0, Nat.zero_le _, rfl, by simpa using HOWN1.out, HB1.out⟩
  case round =>
    obtain ⟨k, hk, rfl, hrow, hbe⟩ := hrel
    have HROW := Lib.hid hrow
    have HBE := Lib.hid hbe
    have hzr := hbe.size
    by_cases hlt : k < 12
    · have hk12 : (k : Int) < 12 := by omega
      clear hrow hbe
      have HMK := Lib.hid (fun W => markText_any 1 (k : Int) W (by omega) (by omega) (by omega) (by omega))
      obtain ⟨t, ht⟩ : ∃ t, mT 1 (k : Int) = t := ⟨_, rfl⟩
      have HT := Lib.hid ht
      rw [ht] at HMK
      clear ht
      go_wp2_with (first
        | (go_at_call 56; refine (HMK.out _).mono ?_; rintro e w2 ⟨rfl, hb2⟩; have HB2 := Lib.hid hb2; have hz2 := hb2.size; have hrow2 := HROW.out.kept (w' := w2) (row := none) ⟨hb2.os, hb2.tape, hb2.output, hb2.size, fun i hi _ => hb2.block i hi⟩ (by cases hv : Value.ownBlock _ <;> simp); clear hb2)
        | (at_builtin; refine wpList_append_own_at _ rfl _ _ 41 rfl w.heap.size 9 i9 (.string ⟨#[]⟩) 1 16 Tryd.underlying41 hi9 hz9 hs9 hb9 rfl (by decide) _ _ _ rfl (hrow2.alloc _) ⟨w2.heap.size, 0, none⟩ 1 1 [.string t] rfl rfl (cell_one_new _ _ _) (by simp [Value.oneCell']) (by unfold maxLen; omega) (by omega) (by simp; omega) ?_; intro v' w4 hown' hgrow hnil hloc))
      go_roundw
      case rel =>
        refine ⟨k + 1, by omega, by go_num, ?_, ?_⟩
        · rw [List.take_succ_eq_append_getElem (by rw [mks_len]; exact hlt), mks_get, HT.out]
          simpa [Nat.add_assoc] using hown'
        · exact ((HBE.out.trans (HB2.out.mono hzr)).alloc (by omega) _).grown hgrow (by simp; omega) (fun g hg => (hrow2.lt g hg).1)
      case measure => simp [intOf]; omega
    · obtain rfl : k = 12 := by omega
      rw [List.take_of_length_le (by rw [mks_len]; exact Nat.le_refl _)] at hrow
      obtain ⟨g, cap, rfl, hcap, _⟩ := own_succ (k := n + 11) hrow
      have hc2 : n ≤ cap := by omega
      have hc3 : (n : Int) ≤ (cap : Int) := by omega
      have HR2 := Lib.hid hrow
      clear hrow hbe
      go_wp2_with fail
      go_ret
      exact ⟨g, cap, rfl, HR2.out, HBE.out⟩

theorem set_blk {w : World} {g k c t : Nat} {cur : Array Value} (h : w.heap[g]? = some (.cells cur t (0, 0))) (hc : cur.size = c) (v : Value) : ∃ cur' : Array Value, cur'.size = c ∧ (w.setCell ⟨g, k, none⟩ v).heap[g]? = some (.cells cur' t (0, 0)) :=
  ⟨cur.setIfInBounds k v, by simpa using hc, by simp [World.setCell, Array.getElem?_modify, h]⟩

set_option maxHeartbeats 2000000 in
set_option maxHeartbeats 4000000 in
set_option maxRecDepth 100000 in
/-- a row that is lent stays as it was -/
theorem keptT_any {N B : Nat} {w : World} {g c : Nat} {l : Wd} {v : Value} (hcell : ∀ W, Below B w W → ∀ j (hj : j < (l ++ mks).length), W.cell? ⟨g, j, none⟩ = some (.string (l ++ mks)[j])) (hcap : l.length + 12 ≤ c) (hv : SR N w v l) (hN : N ≤ w.heap.size) (hB : B ≤ w.heap.size) (hl : l.length ≤ 900) :
    Calls Tryd.prog 32 #[.slice (some ⟨g, 0, none⟩) l.length c, v] w fun e w' => e = .returned (.bool true) ∧ Below w.heap.size w w' := by
  have HV := Lib.hid (fun W (h : Below w.heap.size w W) => hv.bel (h.mono hN))
  obtain ⟨A, cl, rfl, hv2⟩ := hv
  have HCELL := Lib.hid (fun W (h : Below w.heap.size w W) => hcell W (h.mono hB))
  obtain ⟨n, hn⟩ : ∃ n, l.length = n := ⟨_, rfl⟩
  have HN := Lib.hid hn
  rw [hn] at hcap hl HV
  obtain ⟨q, hq⟩ : ∃ q, q = n + 12 := ⟨_, rfl⟩
  have HQ := Lib.hid hq
  have hnat : ((n : Int) + 12).toNat = q := by omega
  have hci : (n : Int) + 12 ≤ (c : Int) := by omega
  have hqc : q ≤ c := by omega
  have hq9 : q ≤ 912 := by omega
  have hqi : (n : Int) + 12 = (q : Int) := by omega
  rw [hn]
  clear hn hq hcell hv2
  go_enter Tryd.func32, Tryd.ntmps32
  go_upto_region 5 with (fail)
  clear hnat hci
  go_loopw [6] (fun i wr => ∃ k : Nat, k ≤ q ∧ i = .int .i64 k ∧ Below w.heap.size w wr) (fun i _ => q + 1 - (intOf i).toNat)
  case atStart => exact ⟨0, Nat.zero_le _, rfl, Below.refl _ _⟩
  case round =>
    obtain ⟨k, hk, rfl, hbe⟩ := hrel
    have HBE := Lib.hid hbe
    by_cases hlt : k < q
    · have hkl : k < (l ++ mks).length := by rw [List.length_append, mks_len, HN.out, ← HQ.out]; exact hlt
      have gk := fun W (h : Below wr.heap.size wr W) => HCELL.out W (hbe.trans (h.mono hbe.size)) k hkl
      obtain ⟨t, ht⟩ : ∃ t, (l ++ mks)[k] = t := ⟨_, rfl⟩
      rw [ht] at gk
      have hk0 : (0 : Int) ≤ (k : Int) := by omega
      have hkq : (k : Int) < (q : Int) := by omega
      have hkqn : ¬ (q ≤ k) := by omega
      go_upto_region 7 with (fail)
      have G0 := Lib.hid (Below.refl wr.heap.size wr).drew
      by_cases hkn : k < n
      · obtain ⟨A', c', hA, hr3⟩ := HV.out wr hbe
        injection hA with hA1 hA2 hA3
        subst hA1
        subst hA3
        obtain ⟨ad, rfl, hg3, hc3⟩ := hr3 (by rw [HN.out]; omega)
        have hck := hc3 k (by rw [HN.out]; exact hkn)
        have e : l[k]'(by rw [HN.out]; exact hkn) = t := by rw [← ht, List.getElem_append_left]
        rw [e] at hck
        have hkni : (k : Int) < (n : Int) := by omega
        have hkni2 : ¬ (n : Int) ≤ (k : Int) := by omega
        have HS := Lib.hid (fun W (h : Below wr.heap.size wr W) => And.intro (gk W h) ((World.cell?_of_block (h.block _ (by rw [block_add]; have := hbe.size; omega))).trans hck))
        clear hc3 hr3 e ht hbe gk hck hA2 HV HCELL HQ hcap hl
        refine wp_region_noPanic ?_
        refine wp_region_held_drew (S := fun W => (W.cell? ⟨g, k, none⟩ = some (.string t) ∧ W.cell? (ad.add k) = some (.string t))) (by kernel_rfl) (HS.out _ G0.out) (fun hHeld => ?_)
        clear hHeld
        refine wpAnyH_take (i := 0) (v := .int .i64 k) rfl (by kernel_rfl) (by kernel_rfl) (by kernel_rfl) (fun _ _ _ h => (h : False).elim) (Or.inl ⟨by rfl, ?_⟩) (HS.out _ G0.out) ?_
        · intro w hSw
          obtain ⟨hs0, hs1⟩ := hSw
          go_simp
        try simp only [Act.put, z1, z2, z3, z4, z5, z6]
        refine wpAnyH_take (i := 1) (v := .slice (some ad) n cl) rfl (by kernel_rfl) (by kernel_rfl) (by kernel_rfl) (fun _ _ _ h => (h : False).elim) (Or.inl ⟨by rfl, ?_⟩) (HS.out _ G0.out) ?_
        · intro w hSw
          obtain ⟨hs0, hs1⟩ := hSw
          go_simp
        try simp only [Act.put, z1, z2, z3, z4, z5, z6]
        refine wpAnyH_take (i := 2) (v := .int .i64 n) rfl (by kernel_rfl) (by kernel_rfl) (by kernel_rfl) (fun _ _ _ h => (h : False).elim) (Or.inl ⟨by rfl, ?_⟩) (HS.out _ G0.out) ?_
        · intro w hSw
          obtain ⟨hs0, hs1⟩ := hSw
          go_simp
        try simp only [Act.put, z1, z2, z3, z4, z5, z6]
        refine wpAnyH_take (i := 3) (v := .bool true) rfl (by kernel_rfl) (by kernel_rfl) (by kernel_rfl) (fun _ _ _ h => (h : False).elim) (Or.inl ⟨by rfl, ?_⟩) (HS.out _ G0.out) ?_
        · intro w hSw
          obtain ⟨hs0, hs1⟩ := hSw
          go_simp
        try simp only [Act.put, z1, z2, z3, z4, z5, z6]
        refine wpAnyH_take (i := 4) (v := .bool true) rfl (by kernel_rfl) (by kernel_rfl) (by kernel_rfl) (fun _ _ _ h => (h : False).elim) (Or.inl ⟨by rfl, ?_⟩) (HS.out _ G0.out) ?_
        · intro w hSw
          obtain ⟨hs0, hs1⟩ := hSw
          go_simp
        try simp only [Act.put, z1, z2, z3, z4, z5, z6]
        refine wpAnyH_take (i := 5) (v := .slice (some ⟨g, 0, none⟩) q c) rfl (by kernel_rfl) (by kernel_rfl) (by kernel_rfl) (fun _ _ _ h => (h : False).elim) (Or.inl ⟨by rfl, ?_⟩) (HS.out _ G0.out) ?_
        · intro w hSw
          obtain ⟨hs0, hs1⟩ := hSw
          go_simp
        try simp only [Act.put, z1, z2, z3, z4, z5, z6]
        refine wpAnyH_take (i := 6) (v := .int .i64 k) rfl (by kernel_rfl) (by kernel_rfl) (by kernel_rfl) (fun _ _ _ h => (h : False).elim) (Or.inl ⟨by rfl, ?_⟩) (HS.out _ G0.out) ?_
        · intro w hSw
          obtain ⟨hs0, hs1⟩ := hSw
          go_simp
        try simp only [Act.put, z1, z2, z3, z4, z5, z6]
        refine wpAnyH_take (i := 7) (v := .pointer (some ⟨g, k, none⟩)) rfl (by kernel_rfl) (by kernel_rfl) (by kernel_rfl) (fun _ _ _ h => (h : False).elim) (Or.inl ⟨by rfl, ?_⟩) (HS.out _ G0.out) ?_
        · intro w hSw
          obtain ⟨hs0, hs1⟩ := hSw
          go_simp
        try simp only [Act.put, z1, z2, z3, z4, z5, z6]
        refine wpAnyH_take (i := 8) (v := .string t) rfl (by kernel_rfl) (by kernel_rfl) (by kernel_rfl) (fun _ _ _ h => (h : False).elim) (Or.inl ⟨by rfl, ?_⟩) (HS.out _ G0.out) ?_
        · intro w hSw
          obtain ⟨hs0, hs1⟩ := hSw
          go_simp
        try simp only [Act.put, z1, z2, z3, z4, z5, z6]
        refine wpAnyH_take (i := 9) (v := .slice (some ad) n cl) rfl (by kernel_rfl) (by kernel_rfl) (by kernel_rfl) (fun _ _ _ h => (h : False).elim) (Or.inl ⟨by rfl, ?_⟩) (HS.out _ G0.out) ?_
        · intro w hSw
          obtain ⟨hs0, hs1⟩ := hSw
          go_simp
        try simp only [Act.put, z1, z2, z3, z4, z5, z6]
        refine wpAnyH_take (i := 10) (v := .int .i64 k) rfl (by kernel_rfl) (by kernel_rfl) (by kernel_rfl) (fun _ _ _ h => (h : False).elim) (Or.inl ⟨by rfl, ?_⟩) (HS.out _ G0.out) ?_
        · intro w hSw
          obtain ⟨hs0, hs1⟩ := hSw
          go_simp
        try simp only [Act.put, z1, z2, z3, z4, z5, z6]
        refine wpAnyH_take (i := 11) (v := .pointer (some (ad.add k))) rfl (by kernel_rfl) (by kernel_rfl) (by kernel_rfl) (fun _ _ _ h => (h : False).elim) (Or.inl ⟨by rfl, ?_⟩) (HS.out _ G0.out) ?_
        · intro w hSw
          obtain ⟨hs0, hs1⟩ := hSw
          go_simp
        try simp only [Act.put, z1, z2, z3, z4, z5, z6]
        refine wpAnyH_take (i := 12) (v := .string t) rfl (by kernel_rfl) (by kernel_rfl) (by kernel_rfl) (fun _ _ _ h => (h : False).elim) (Or.inl ⟨by rfl, ?_⟩) (HS.out _ G0.out) ?_
        · intro w hSw
          obtain ⟨hs0, hs1⟩ := hSw
          go_simp
        try simp only [Act.put, z1, z2, z3, z4, z5, z6]
        refine wpAnyH_take (i := 13) (v := .bool true) rfl (by kernel_rfl) (by kernel_rfl) (by kernel_rfl) (fun _ _ _ h => (h : False).elim) (Or.inl ⟨by rfl, ?_⟩) (HS.out _ G0.out) ?_
        · intro w hSw
          obtain ⟨hs0, hs1⟩ := hSw
          (go_simp; try simp)
        try simp only [Act.put, z1, z2, z3, z4, z5, z6]
        refine wpAnyH_take (i := 14) (v := .bool false) rfl (by kernel_rfl) (by kernel_rfl) (by kernel_rfl) (fun _ _ _ h => (h : False).elim) (Or.inl ⟨by rfl, ?_⟩) (HS.out _ G0.out) ?_
        · intro w hSw
          obtain ⟨hs0, hs1⟩ := hSw
          go_simp
        try simp only [Act.put, z1, z2, z3, z4, z5, z6]
        refine wpAnyH_take (i := 15) (v := .bool false) rfl (by kernel_rfl) (by kernel_rfl) (by kernel_rfl) (fun _ _ _ h => (h : False).elim) (Or.inl ⟨by rfl, ?_⟩) (HS.out _ G0.out) ?_
        · intro w hSw
          obtain ⟨hs0, hs1⟩ := hSw
          go_simp
        try simp only [Act.put, z1, z2, z3, z4, z5, z6]
        refine wpAnyH_take (i := 16) (v := .bool false) rfl (by kernel_rfl) (by kernel_rfl) (by kernel_rfl) (fun _ _ _ h => (h : False).elim) (Or.inl ⟨by rfl, ?_⟩) (HS.out _ G0.out) ?_
        · intro w hSw
          obtain ⟨hs0, hs1⟩ := hSw
          go_simp
        try simp only [Act.put, z1, z2, z3, z4, z5, z6]
        refine wpAnyH_take (i := 17) (v := .int .i64 k) rfl (by kernel_rfl) (by kernel_rfl) (by kernel_rfl) (fun _ _ _ h => (h : False).elim) (Or.inl ⟨by rfl, ?_⟩) (HS.out _ G0.out) ?_
        · intro w hSw
          obtain ⟨hs0, hs1⟩ := hSw
          go_simp
        try simp only [Act.put, z1, z2, z3, z4, z5, z6]
        refine wpAnyH_take (i := 18) (v := .slice (some ad) n cl) rfl (by kernel_rfl) (by kernel_rfl) (by kernel_rfl) (fun _ _ _ h => (h : False).elim) (Or.inl ⟨by rfl, ?_⟩) (HS.out _ G0.out) ?_
        · intro w hSw
          obtain ⟨hs0, hs1⟩ := hSw
          go_simp
        try simp only [Act.put, z1, z2, z3, z4, z5, z6]
        refine wpAnyH_take (i := 19) (v := .int .i64 n) rfl (by kernel_rfl) (by kernel_rfl) (by kernel_rfl) (fun _ _ _ h => (h : False).elim) (Or.inl ⟨by rfl, ?_⟩) (HS.out _ G0.out) ?_
        · intro w hSw
          obtain ⟨hs0, hs1⟩ := hSw
          go_simp
        try simp only [Act.put, z1, z2, z3, z4, z5, z6]
        refine wpAnyH_take (i := 20) (v := .bool false) rfl (by kernel_rfl) (by kernel_rfl) (by kernel_rfl) (fun _ _ _ h => (h : False).elim) (Or.inl ⟨by rfl, ?_⟩) (HS.out _ G0.out) ?_
        · intro w hSw
          obtain ⟨hs0, hs1⟩ := hSw
          go_simp
        try simp only [Act.put, z1, z2, z3, z4, z5, z6]
        refine wpAnyH_take (i := 21) (v := .bool false) rfl (by kernel_rfl) (by kernel_rfl) (by kernel_rfl) (fun _ _ _ h => (h : False).elim) (Or.inl ⟨by rfl, ?_⟩) (HS.out _ G0.out) ?_
        · intro w hSw
          obtain ⟨hs0, hs1⟩ := hSw
          go_simp
        try simp only [Act.put, z1, z2, z3, z4, z5, z6]
        refine wpAnyH_take (i := 22) (v := undef) rfl (by kernel_rfl) (by kernel_rfl) (by kernel_rfl) (fun _ _ _ h => (h : False).elim) (Or.inr ⟨by rfl, rfl⟩) (HS.out _ G0.out) ?_
        try simp only [Act.put, z1, z2, z3, z4, z5, z6]
        refine wpAnyH_take (i := 23) (v := undef) rfl (by kernel_rfl) (by kernel_rfl) (by kernel_rfl) (fun _ _ _ h => (h : False).elim) (Or.inr ⟨by rfl, rfl⟩) (HS.out _ G0.out) ?_
        try simp only [Act.put, z1, z2, z3, z4, z5, z6]
        refine wpAnyH_take (i := 24) (v := undef) rfl (by kernel_rfl) (by kernel_rfl) (by kernel_rfl) (fun _ _ _ h => (h : False).elim) (Or.inr ⟨by rfl, rfl⟩) (HS.out _ G0.out) ?_
        try simp only [Act.put, z1, z2, z3, z4, z5, z6]
        refine wpAnyH_take (i := 25) (v := undef) rfl (by kernel_rfl) (by kernel_rfl) (by kernel_rfl) (fun _ _ _ h => (h : False).elim) (Or.inr ⟨by rfl, rfl⟩) (HS.out _ G0.out) ?_
        try simp only [Act.put, z1, z2, z3, z4, z5, z6]
        refine wpAnyH_take (i := 26) (v := undef) rfl (by kernel_rfl) (by kernel_rfl) (by kernel_rfl) (fun _ _ _ h => (h : False).elim) (Or.inr ⟨by rfl, rfl⟩) (HS.out _ G0.out) ?_
        try simp only [Act.put, z1, z2, z3, z4, z5, z6]
        refine wpAnyH_take (i := 27) (v := undef) rfl (by kernel_rfl) (by kernel_rfl) (by kernel_rfl) (fun _ _ _ h => (h : False).elim) (Or.inr ⟨by rfl, rfl⟩) (HS.out _ G0.out) ?_
        try simp only [Act.put, z1, z2, z3, z4, z5, z6]
        refine wpAnyH_take (i := 28) (v := undef) rfl (by kernel_rfl) (by kernel_rfl) (by kernel_rfl) (fun _ _ _ h => (h : False).elim) (Or.inr ⟨by rfl, rfl⟩) (HS.out _ G0.out) ?_
        try simp only [Act.put, z1, z2, z3, z4, z5, z6]
        refine wpAnyH_take (i := 29) (v := undef) rfl (by kernel_rfl) (by kernel_rfl) (by kernel_rfl) (fun _ _ _ h => (h : False).elim) (Or.inr ⟨by rfl, rfl⟩) (HS.out _ G0.out) ?_
        try simp only [Act.put, z1, z2, z3, z4, z5, z6]
        refine wpAnyH_take (i := 30) (v := undef) rfl (by kernel_rfl) (by kernel_rfl) (by kernel_rfl) (fun _ _ _ h => (h : False).elim) (Or.inr ⟨by rfl, rfl⟩) (HS.out _ G0.out) ?_
        try simp only [Act.put, z1, z2, z3, z4, z5, z6]
        refine wpAnyH_take (i := 31) (v := undef) rfl (by kernel_rfl) (by kernel_rfl) (by kernel_rfl) (fun _ _ _ h => (h : False).elim) (Or.inr ⟨by rfl, rfl⟩) (HS.out _ G0.out) ?_
        try simp only [Act.put, z1, z2, z3, z4, z5, z6]
        refine wpAnyH_take (i := 32) (v := undef) rfl (by kernel_rfl) (by kernel_rfl) (by kernel_rfl) (fun _ _ _ h => (h : False).elim) (Or.inr ⟨by rfl, rfl⟩) (HS.out _ G0.out) ?_
        try simp only [Act.put, z1, z2, z3, z4, z5, z6]
        refine wpAnyH_take (i := 33) (v := .bool false) rfl (by kernel_rfl) (by kernel_rfl) (by kernel_rfl) (fun _ _ _ h => (h : False).elim) (Or.inl ⟨by rfl, ?_⟩) (HS.out _ G0.out) ?_
        · intro w hSw
          obtain ⟨hs0, hs1⟩ := hSw
          go_simp
        try simp only [Act.put, z1, z2, z3, z4, z5, z6]
        refine wpAnyH_take (i := 34) (v := .bool false) rfl (by kernel_rfl) (by kernel_rfl) (by kernel_rfl) (fun _ _ _ h => (h : False).elim) (Or.inl ⟨by rfl, ?_⟩) (HS.out _ G0.out) ?_
        · intro w hSw
          obtain ⟨hs0, hs1⟩ := hSw
          go_simp
        try simp only [Act.put, z1, z2, z3, z4, z5, z6]
        refine ⟨by kernel_rfl, ?_⟩
        refine NoPanic.normal ?_
        go_wp2_with fail
        go_roundw
        case rel => exact ⟨k + 1, by omega, by go_num, HBE.out.trans (G0.out.mono HBE.out.size)⟩
        case measure => simp [intOf]; omega
      · obtain ⟨j, hj⟩ : ∃ j : Nat, j = k - n := ⟨_, rfl⟩
        have hsub : (k : Int) - (n : Int) = (j : Int) := by omega
        have hj12 : j < 12 := by have := HQ.out; omega
        have hwr : IntKind.i64.wrap (j : Int) = (j : Int) := IntWalk.i64_in _ ⟨by omega, by omega⟩
        have hjm : j < mks.length := by rw [mks_len]; exact hj12
        have hT : mT 1 (j : Int) = t := by
          rw [← mks_get j hjm, ← ht, List.getElem_append_right (by rw [HN.out]; omega)]
          congr 1
          rw [HN.out, hj]
        have HMK := Lib.hid (fun W => markText_any 1 (j : Int) W (by omega) (by omega) (by omega) (by omega))
        rw [hT] at HMK
        have hkni : ¬ (k : Int) < (n : Int) := by omega
        have hkni2 : (n : Int) ≤ (k : Int) := by omega
        have HS := Lib.hid gk
        clear ht hT hj hbe gk HV HCELL HQ hcap hl hjm
        refine wp_region_noPanic ?_
        refine wp_region_held_drew (S := fun W => W.cell? ⟨g, k, none⟩ = some (.string t)) (by kernel_rfl) (HS.out _ G0.out) (fun hHeld => ?_)
        clear hHeld
        refine wpAnyH_take (i := 0) (v := .int .i64 k) rfl (by kernel_rfl) (by kernel_rfl) (by kernel_rfl) (fun _ _ _ h => (h : False).elim) (Or.inl ⟨by rfl, ?_⟩) (HS.out _ G0.out) ?_
        · intro w hSw
          obtain hs0 := hSw
          go_simp
        try simp only [Act.put, z1, z2, z3, z4, z5, z6]
        refine wpAnyH_take (i := 1) (v := .slice A n cl) rfl (by kernel_rfl) (by kernel_rfl) (by kernel_rfl) (fun _ _ _ h => (h : False).elim) (Or.inl ⟨by rfl, ?_⟩) (HS.out _ G0.out) ?_
        · intro w hSw
          obtain hs0 := hSw
          go_simp
        try simp only [Act.put, z1, z2, z3, z4, z5, z6]
        refine wpAnyH_take (i := 2) (v := .int .i64 n) rfl (by kernel_rfl) (by kernel_rfl) (by kernel_rfl) (fun _ _ _ h => (h : False).elim) (Or.inl ⟨by rfl, ?_⟩) (HS.out _ G0.out) ?_
        · intro w hSw
          obtain hs0 := hSw
          go_simp
        try simp only [Act.put, z1, z2, z3, z4, z5, z6]
        refine wpAnyH_take (i := 3) (v := .bool false) rfl (by kernel_rfl) (by kernel_rfl) (by kernel_rfl) (fun _ _ _ h => (h : False).elim) (Or.inl ⟨by rfl, ?_⟩) (HS.out _ G0.out) ?_
        · intro w hSw
          obtain hs0 := hSw
          go_simp
        try simp only [Act.put, z1, z2, z3, z4, z5, z6]
        refine wpAnyH_take (i := 4) (v := .bool false) rfl (by kernel_rfl) (by kernel_rfl) (by kernel_rfl) (fun _ _ _ h => (h : False).elim) (Or.inl ⟨by rfl, ?_⟩) (HS.out _ G0.out) ?_
        · intro w hSw
          obtain hs0 := hSw
          go_simp
        try simp only [Act.put, z1, z2, z3, z4, z5, z6]
        refine wpAnyH_take (i := 5) (v := undef) rfl (by kernel_rfl) (by kernel_rfl) (by kernel_rfl) (fun _ _ _ h => (h : False).elim) (Or.inr ⟨by rfl, rfl⟩) (HS.out _ G0.out) ?_
        try simp only [Act.put, z1, z2, z3, z4, z5, z6]
        refine wpAnyH_take (i := 6) (v := undef) rfl (by kernel_rfl) (by kernel_rfl) (by kernel_rfl) (fun _ _ _ h => (h : False).elim) (Or.inr ⟨by rfl, rfl⟩) (HS.out _ G0.out) ?_
        try simp only [Act.put, z1, z2, z3, z4, z5, z6]
        refine wpAnyH_take (i := 7) (v := undef) rfl (by kernel_rfl) (by kernel_rfl) (by kernel_rfl) (fun _ _ _ h => (h : False).elim) (Or.inr ⟨by rfl, rfl⟩) (HS.out _ G0.out) ?_
        try simp only [Act.put, z1, z2, z3, z4, z5, z6]
        refine wpAnyH_take (i := 8) (v := undef) rfl (by kernel_rfl) (by kernel_rfl) (by kernel_rfl) (fun _ _ _ h => (h : False).elim) (Or.inr ⟨by rfl, rfl⟩) (HS.out _ G0.out) ?_
        try simp only [Act.put, z1, z2, z3, z4, z5, z6]
        refine wpAnyH_take (i := 9) (v := undef) rfl (by kernel_rfl) (by kernel_rfl) (by kernel_rfl) (fun _ _ _ h => (h : False).elim) (Or.inr ⟨by rfl, rfl⟩) (HS.out _ G0.out) ?_
        try simp only [Act.put, z1, z2, z3, z4, z5, z6]
        refine wpAnyH_take (i := 10) (v := undef) rfl (by kernel_rfl) (by kernel_rfl) (by kernel_rfl) (fun _ _ _ h => (h : False).elim) (Or.inr ⟨by rfl, rfl⟩) (HS.out _ G0.out) ?_
        try simp only [Act.put, z1, z2, z3, z4, z5, z6]
        refine wpAnyH_take (i := 11) (v := undef) rfl (by kernel_rfl) (by kernel_rfl) (by kernel_rfl) (fun _ _ _ h => (h : False).elim) (Or.inr ⟨by rfl, rfl⟩) (HS.out _ G0.out) ?_
        try simp only [Act.put, z1, z2, z3, z4, z5, z6]
        refine wpAnyH_take (i := 12) (v := undef) rfl (by kernel_rfl) (by kernel_rfl) (by kernel_rfl) (fun _ _ _ h => (h : False).elim) (Or.inr ⟨by rfl, rfl⟩) (HS.out _ G0.out) ?_
        try simp only [Act.put, z1, z2, z3, z4, z5, z6]
        refine wpAnyH_take (i := 13) (v := undef) rfl (by kernel_rfl) (by kernel_rfl) (by kernel_rfl) (fun _ _ _ h => (h : False).elim) (Or.inr ⟨by rfl, rfl⟩) (HS.out _ G0.out) ?_
        try simp only [Act.put, z1, z2, z3, z4, z5, z6]
        refine wpAnyH_take (i := 14) (v := undef) rfl (by kernel_rfl) (by kernel_rfl) (by kernel_rfl) (fun _ _ _ h => (h : False).elim) (Or.inr ⟨by rfl, rfl⟩) (HS.out _ G0.out) ?_
        try simp only [Act.put, z1, z2, z3, z4, z5, z6]
        refine wpAnyH_take (i := 15) (v := .bool false) rfl (by kernel_rfl) (by kernel_rfl) (by kernel_rfl) (fun _ _ _ h => (h : False).elim) (Or.inl ⟨by rfl, ?_⟩) (HS.out _ G0.out) ?_
        · intro w hSw
          obtain hs0 := hSw
          go_simp
        try simp only [Act.put, z1, z2, z3, z4, z5, z6]
        refine wpAnyH_take (i := 16) (v := .bool false) rfl (by kernel_rfl) (by kernel_rfl) (by kernel_rfl) (fun _ _ _ h => (h : False).elim) (Or.inl ⟨by rfl, ?_⟩) (HS.out _ G0.out) ?_
        · intro w hSw
          obtain hs0 := hSw
          go_simp
        try simp only [Act.put, z1, z2, z3, z4, z5, z6]
        refine wpAnyH_take (i := 17) (v := .int .i64 k) rfl (by kernel_rfl) (by kernel_rfl) (by kernel_rfl) (fun _ _ _ h => (h : False).elim) (Or.inl ⟨by rfl, ?_⟩) (HS.out _ G0.out) ?_
        · intro w hSw
          obtain hs0 := hSw
          go_simp
        try simp only [Act.put, z1, z2, z3, z4, z5, z6]
        refine wpAnyH_take (i := 18) (v := .slice A n cl) rfl (by kernel_rfl) (by kernel_rfl) (by kernel_rfl) (fun _ _ _ h => (h : False).elim) (Or.inl ⟨by rfl, ?_⟩) (HS.out _ G0.out) ?_
        · intro w hSw
          obtain hs0 := hSw
          go_simp
        try simp only [Act.put, z1, z2, z3, z4, z5, z6]
        refine wpAnyH_take (i := 19) (v := .int .i64 n) rfl (by kernel_rfl) (by kernel_rfl) (by kernel_rfl) (fun _ _ _ h => (h : False).elim) (Or.inl ⟨by rfl, ?_⟩) (HS.out _ G0.out) ?_
        · intro w hSw
          obtain hs0 := hSw
          go_simp
        try simp only [Act.put, z1, z2, z3, z4, z5, z6]
        refine wpAnyH_take (i := 20) (v := .bool true) rfl (by kernel_rfl) (by kernel_rfl) (by kernel_rfl) (fun _ _ _ h => (h : False).elim) (Or.inl ⟨by rfl, ?_⟩) (HS.out _ G0.out) ?_
        · intro w hSw
          obtain hs0 := hSw
          go_simp
        try simp only [Act.put, z1, z2, z3, z4, z5, z6]
        refine wpAnyH_take (i := 21) (v := .bool true) rfl (by kernel_rfl) (by kernel_rfl) (by kernel_rfl) (fun _ _ _ h => (h : False).elim) (Or.inl ⟨by rfl, ?_⟩) (HS.out _ G0.out) ?_
        · intro w hSw
          obtain hs0 := hSw
          go_simp
        try simp only [Act.put, z1, z2, z3, z4, z5, z6]
        refine wpAnyH_take (i := 22) (v := .slice (some ⟨g, 0, none⟩) q c) rfl (by kernel_rfl) (by kernel_rfl) (by kernel_rfl) (fun _ _ _ h => (h : False).elim) (Or.inl ⟨by rfl, ?_⟩) (HS.out _ G0.out) ?_
        · intro w hSw
          obtain hs0 := hSw
          go_simp
        try simp only [Act.put, z1, z2, z3, z4, z5, z6]
        refine wpAnyH_take (i := 23) (v := .int .i64 k) rfl (by kernel_rfl) (by kernel_rfl) (by kernel_rfl) (fun _ _ _ h => (h : False).elim) (Or.inl ⟨by rfl, ?_⟩) (HS.out _ G0.out) ?_
        · intro w hSw
          obtain hs0 := hSw
          go_simp
        try simp only [Act.put, z1, z2, z3, z4, z5, z6]
        refine wpAnyH_take (i := 24) (v := .pointer (some ⟨g, k, none⟩)) rfl (by kernel_rfl) (by kernel_rfl) (by kernel_rfl) (fun _ _ _ h => (h : False).elim) (Or.inl ⟨by rfl, ?_⟩) (HS.out _ G0.out) ?_
        · intro w hSw
          obtain hs0 := hSw
          go_simp
        try simp only [Act.put, z1, z2, z3, z4, z5, z6]
        refine wpAnyH_take (i := 25) (v := .string t) rfl (by kernel_rfl) (by kernel_rfl) (by kernel_rfl) (fun _ _ _ h => (h : False).elim) (Or.inl ⟨by rfl, ?_⟩) (HS.out _ G0.out) ?_
        · intro w hSw
          obtain hs0 := hSw
          go_simp
        try simp only [Act.put, z1, z2, z3, z4, z5, z6]
        refine wpAnyH_take (i := 26) (v := .int .i64 k) rfl (by kernel_rfl) (by kernel_rfl) (by kernel_rfl) (fun _ _ _ h => (h : False).elim) (Or.inl ⟨by rfl, ?_⟩) (HS.out _ G0.out) ?_
        · intro w hSw
          obtain hs0 := hSw
          go_simp
        try simp only [Act.put, z1, z2, z3, z4, z5, z6]
        refine wpAnyH_take (i := 27) (v := .slice A n cl) rfl (by kernel_rfl) (by kernel_rfl) (by kernel_rfl) (fun _ _ _ h => (h : False).elim) (Or.inl ⟨by rfl, ?_⟩) (HS.out _ G0.out) ?_
        · intro w hSw
          obtain hs0 := hSw
          go_simp
        try simp only [Act.put, z1, z2, z3, z4, z5, z6]
        refine wpAnyH_take (i := 28) (v := .int .i64 n) rfl (by kernel_rfl) (by kernel_rfl) (by kernel_rfl) (fun _ _ _ h => (h : False).elim) (Or.inl ⟨by rfl, ?_⟩) (HS.out _ G0.out) ?_
        · intro w hSw
          obtain hs0 := hSw
          go_simp
        try simp only [Act.put, z1, z2, z3, z4, z5, z6]
        refine wpAnyH_take (i := 29) (v := .int .i64 j) rfl (by kernel_rfl) (by kernel_rfl) (by kernel_rfl) (fun _ _ _ h => (h : False).elim) (Or.inl ⟨by rfl, ?_⟩) (HS.out _ G0.out) ?_
        · intro w hSw
          obtain hs0 := hSw
          (go_simp; try rw [hsub]; try rw [hwr])
        try simp only [Act.put, z1, z2, z3, z4, z5, z6]
        refine wpAnyH_ready (rs := [30]) (by kernel_rfl) (by simp) ?_
        refine AllReadyH.cons rfl (fun K hK => ?_) AllReadyH.nil
        go_simp
        refine (HMK.out _).mono ?_
        rintro e y1 ⟨rfl, hq⟩
        have G1 := Lib.hid (G0.out.trans (hq.mono G0.out.size))
        clear hq
        refine hK.out _ _ (HS.out _ G1.out) (fun _ => ?_)
        clear hK
        try simp only [Act.put, z1, z2, z3, z4, z5, z6]
        refine wpAnyH_take (i := 31) (v := .bool true) rfl (by kernel_rfl) (by kernel_rfl) (by kernel_rfl) (fun _ _ _ h => (h : False).elim) (Or.inl ⟨by rfl, ?_⟩) (HS.out _ G1.out) ?_
        · intro w hSw
          obtain hs0 := hSw
          (go_simp; try simp)
        try simp only [Act.put, z1, z2, z3, z4, z5, z6]
        refine wpAnyH_take (i := 32) (v := .bool false) rfl (by kernel_rfl) (by kernel_rfl) (by kernel_rfl) (fun _ _ _ h => (h : False).elim) (Or.inl ⟨by rfl, ?_⟩) (HS.out _ G1.out) ?_
        · intro w hSw
          obtain hs0 := hSw
          go_simp
        try simp only [Act.put, z1, z2, z3, z4, z5, z6]
        refine wpAnyH_take (i := 33) (v := .bool false) rfl (by kernel_rfl) (by kernel_rfl) (by kernel_rfl) (fun _ _ _ h => (h : False).elim) (Or.inl ⟨by rfl, ?_⟩) (HS.out _ G1.out) ?_
        · intro w hSw
          obtain hs0 := hSw
          go_simp
        try simp only [Act.put, z1, z2, z3, z4, z5, z6]
        refine wpAnyH_take (i := 34) (v := .bool false) rfl (by kernel_rfl) (by kernel_rfl) (by kernel_rfl) (fun _ _ _ h => (h : False).elim) (Or.inl ⟨by rfl, ?_⟩) (HS.out _ G1.out) ?_
        · intro w hSw
          obtain hs0 := hSw
          go_simp
        try simp only [Act.put, z1, z2, z3, z4, z5, z6]
        refine ⟨by kernel_rfl, ?_⟩
        refine NoPanic.normal ?_
        go_wp2_with fail
        go_roundw
        case rel => exact ⟨k + 1, by omega, by go_num, HBE.out.trans (G1.out.mono HBE.out.size)⟩
        case measure => simp [intOf]; omega
    · have hkq : ¬ (k : Int) < (q : Int) := by omega
      clear hbe
      go_wp2_with fail
      go_ret
      exact ⟨rfl, HBE.out⟩
end Go.Proofs.YtnccgaanfjaimaaDoor

namespace Go.Proofs.YtnccgaanfjaimaaDoor
open Go.ChangeShapes Go.WideShapes Go.ChangeAt Go.RowKit
set_option linter.unusedVariables false
set_option linter.unusedSimpArgs false

attribute [local go_sem] Oper.semAt_some

theorem mark64_any (i : Nat) (hi : i ≤ 1000) (w : World) : Calls Tryd.prog 54 #[.int .i64 1, .int .i64 i] w fun e w' => e = .returned (.int .i64 (8000024 + i)) ∧ w = w' := by
  go_enter Tryd.func54, Tryd.ntmps54
  go_wp2_with fail
  go_ret
  exact ⟨rfl, rfl⟩

/-- the mark of a place in a row of expressions -/
def mX (i : Nat) : X := .mk (8000024 + i) ⟨#[]⟩ []
set_option maxHeartbeats 2000000 in
theorem markExpr_any (i : Nat) (hi : i ≤ 1000) (w : World) : Calls Tryd.prog 65 #[.int .i64 1, .int .i64 i] w fun e w' => e = .returned (.agg #[.int .i64 (8000024 + i), .string ⟨#[]⟩, .slice none 0 0]) ∧ Below w.heap.size w w' := by
  have HG := Lib.hid (show Below w.heap.size w (w.alloc (.cells #[.int .i64 (8000024 + i), .string ⟨#[]⟩, .slice none 0 0] 25)) from (Below.refl _ w).alloc (Nat.le_refl _) _)
  go_enter Tryd.func65, Tryd.ntmps65
  go_wp2_with (go_at_call 54; refine (mark64_any i hi _).mono ?_; rintro e w' ⟨hx, hw⟩; subst hx; subst hw)
  have hn := heap_alloc_new w (.cells #[.int .i64 (8000024 + i), .string ⟨#[]⟩, .slice none 0 0] 25)
  have d0 := cell_of_row _ _ 0 _ 25 (0, 0) hn
  have d1 := cell_of_row _ _ 1 _ 25 (0, 0) hn
  have d2 := cell_of_row _ _ 2 _ 25 (0, 0) hn
  exact bodyPost_ret (v := .agg #[.int .i64 (8000024 + i), .string ⟨#[]⟩, .slice none 0 0]) (by simp [results, Tryd.results65, go_sem, d0, d1, d2]) rfl ⟨rfl, HG.out⟩

/-- an expression and its kids' value: three cells each -/
def flatP (ps : List (X × Value)) : List Value := ps.flatMap fun p => [.int .i64 p.1.kind, .string p.1.lab, p.2]
theorem flatP_nil : flatP [] = [] := rfl
theorem flatP_cons (p : X × Value) (ps : List (X × Value)) : flatP (p :: ps) = .int .i64 p.1.kind :: .string p.1.lab :: p.2 :: flatP ps := rfl
theorem flatP_app (ps qs : List (X × Value)) : flatP (ps ++ qs) = flatP ps ++ flatP qs := by unfold flatP; rw [List.flatMap_append]
theorem flatP_len : ∀ ps : List (X × Value), (flatP ps).length = ps.length * 3
  | [] => rfl
  | p :: ps => by rw [flatP_cons]; simp [flatP_len ps]; omega
theorem flatP_at : ∀ (ps : List (X × Value)) (i : Nat) (h : i < ps.length), (flatP ps)[i * 3]? = some (.int .i64 ps[i].1.kind) ∧ (flatP ps)[i * 3 + 1]? = some (.string ps[i].1.lab) ∧ (flatP ps)[i * 3 + 2]? = some ps[i].2
  | p :: ps, 0, h => ⟨rfl, rfl, rfl⟩
  | p :: ps, k + 1, h => by
    have := flatP_at ps k (by simp at h; omega)
    rw [flatP_cons, show (k + 1) * 3 = k * 3 + 1 + 1 + 1 by omega]
    simp only [show ∀ a, k * 3 + 1 + 1 + 1 + a = (k * 3 + a) + 1 + 1 + 1 by omega, List.getElem?_cons_succ]
    exact this
/-- the marks behind a row that is lent -/
def mkps : List (X × Value) := (List.range 12).map fun i : Nat => (mX i, .slice none 0 0)
theorem mkps_len : mkps.length = 12 := by simp [mkps]
theorem mkps_get (k : Nat) (h : k < mkps.length) : mkps[k] = (mX k, .slice none 0 0) := by simp [mkps]

/-- a row that is lent: a copy with marks behind it, the rows within it likewise; all lies in blocks of the kind q -/
inductive LR (q : Nat → Prop) (w : World) : Value → List X → Prop where
  | mk (g c : Nat) (ps : List (X × Value)) (hq : q g) (hc : ps.length + 12 ≤ c) (hcell : ∀ j u, (flatP (ps ++ mkps))[j]? = some u → w.cell? ⟨g, j, none⟩ = some u) (hk : ∀ p, p ∈ ps → LR q w p.2 p.1.kids) : LR q w (.slice (some ⟨g, 0, none⟩) ps.length c) (ps.map Prod.fst)
theorem LR.keep {q q' : Nat → Prop} {w w' : World} {v : Value} {xs : List X} (h : LR q w v xs) (hw : ∀ b, q b → w'.heap[b]? = w.heap[b]?) (hq : ∀ b, q b → q' b) : LR q' w' v xs := by
  induction h with
  | mk g c ps hg hc hcell hk ih => exact .mk g c ps (hq g hg) hc (fun j u hu => (World.cell?_of_block (a := ⟨g, j, none⟩) (hw g hg)).trans (hcell j u hu)) ih
theorem at_zero (g : Nat) (j : Nat) : (⟨g, 0, none⟩ : Addr).add j = ⟨g, j, none⟩ := by
  unfold Addr.add
  split
  · next h => subst h; rfl
  · simp
theorem LR.xr {q : Nat → Prop} {w : World} {v : Value} {xs : List X} (h : LR q w v xs) {B : Nat} (hB : ∀ b, q b → b < B) : XR B w v xs := by
  induction h with
  | mk g c ps hg hc hcell hk ih =>
    have hl : (ps.map Prod.fst).length = ps.length := by simp
    have hat : ∀ i (h : i < ps.length), w.cell? ⟨g, i * 3, none⟩ = some (.int .i64 ps[i].1.kind) ∧ w.cell? ⟨g, i * 3 + 1, none⟩ = some (.string ps[i].1.lab) ∧ w.cell? ⟨g, i * 3 + 2, none⟩ = some ps[i].2 := fun i h => by
      obtain ⟨h0, h1, h2⟩ := flatP_at (ps ++ mkps) i (by rw [List.length_append]; omega)
      rw [List.getElem_append_left h] at h0 h1 h2
      exact ⟨hcell _ _ h0, hcell _ _ h1, hcell _ _ h2⟩
    have := XR.mk (B := B) (w := w) (some ⟨g, 0, none⟩) c (ps.map Prod.fst) ⟨g, 0, none⟩ (fun i => ((ps[i]?).map Prod.snd).getD undef) (by omega) (fun _ => ⟨rfl, hB g hg⟩)
      (fun i h => by rw [at_zero, List.getElem_map]; exact (hat i (by omega)).1) (fun i h => by rw [at_zero, List.getElem_map]; exact (hat i (by omega)).2.1)
      (fun i h => by rw [at_zero, List.getElem?_eq_getElem (by omega)]; exact (hat i (by omega)).2.2) (fun i h => by
        rw [List.getElem?_eq_getElem (by omega), List.getElem_map]
        exact ih _ (List.getElem_mem _))
    rwa [hl] at this

theorem parts25 : (Tryd.prog.info? 25).map (fun i => (i.zero, i.size, i.bytes)) = some (some (.agg #[.int .i64 0, .string ⟨#[]⟩, .slice none 0 0]), 3, 48) := by kernel_rfl
theorem own_succ2 {w : World} {base e size k : Nat} {v : Value} {xs : List Value} (h : w.ownsRow base e size v (k + 1) xs) : ∃ g cap, v = .slice (some ⟨g, 0, none⟩) (k + 1) cap ∧ k + 1 ≤ cap ∧ cap ≤ maxLen ∧ base ≤ g ∧ g < w.heap.size := by
  rcases h.2 with ⟨_, h0⟩ | ⟨g, cap, cur, rfl, hb, hg, h1, h2, _⟩
  · omega
  · exact ⟨g, cap, rfl, h1, h2, hb, (Array.getElem?_eq_some_iff.1 hg).1⟩

/-- what is told of a row that is lent -/
def L32 (w : World) (xs : List X) (e : Ending) (w' : World) : Prop := ∃ v', e = .returned v' ∧ LR (fun b => w.heap.size ≤ b ∧ b < w'.heap.size) w' v' xs ∧ Below w.heap.size w w'
def L9 (x : X) : Prop := ∀ (N : Nat) (w : World) (v : Value), XV N w v x → N ≤ w.heap.size → Calls Tryd.prog 10 #[v] w fun e w' => ∃ kv, e = .returned (.agg #[.int .i64 x.kind, .string x.lab, kv]) ∧ LR (fun b => w.heap.size ≤ b ∧ b < w'.heap.size) w' kv x.kids ∧ Below w.heap.size w w'

/-- the kids that are lent so far -/
structure LK (W : World) (base : Nat) (v : Value) (ps : List (X × Value)) : Prop where
  hk : ∀ p, p ∈ ps → LR (fun b => base ≤ b ∧ b < W.heap.size ∧ v.ownBlock ≠ some b) W p.2 p.1.kids
/-- the row grows: what the kids hold stays -/
theorem LK.grown {W W1 W' : World} {base : Nat} {v v' : Value} {ps : List (X × Value)} (h : LK W base v ps) (h1 : Below W.heap.size W W1) (hg : W1.grownBy W' v.ownBlock) (hat : v'.ownBlock = v.ownBlock ∨ v'.ownBlock = some W1.heap.size) : LK W' base v' ps :=
  ⟨fun p hp => (h.hk p hp).keep (fun b hb => (hg.block b (Nat.lt_of_lt_of_le hb.2.1 h1.size) (fun e => hb.2.2 e.symm)).trans (h1.block b hb.2.1)) (fun b hb => ⟨hb.1, Nat.lt_of_lt_of_le hb.2.1 (Nat.le_trans h1.size hg.size), fun e => by
    rcases hat with h2 | h2
    · rw [h2] at e; exact hb.2.2 e
    · rw [h2] at e
      injection e with e
      have := h1.size
      omega⟩)⟩
end Go.Proofs.YtnccgaanfjaimaaDoor
