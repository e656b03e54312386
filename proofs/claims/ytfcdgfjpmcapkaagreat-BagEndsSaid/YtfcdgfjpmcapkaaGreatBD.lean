/- What is gone through: a map's keys, rising, with what it holds at them. -/
import Derived.Test.YtfcdgfjpmcapkaaGreatSG
import Derived.Test.YtfcdgfjpmcapkaaGreatBB
import Derived.Test.YtfcdgfjpmcapkaaGreatBC
import Derived.Shelf.SlIter.Nil
import Derived.Shelf.SlIterI.Nil
import Derived.Shelf.SortM.Plain
import Derived.Shelf.SortM.SortNone
import Derived.Shelf.SlMaps.Clone
import Derived.Shelf.Lay
import Derived.Ground.GgzProg
import Derived.Ground.SlgmProg
import Derived.Ground.SlmcProg
namespace Go.Proofs.YtfcdgfjpmcapkaaGreat
open Go.ChangeShapes Go.WideShapes Go.ChangeAt Go.RowKit Go.Maps Go.Shelf Go.Sort
set_option linter.unusedVariables false

attribute [local go_sem] Oper.semAt_some

/-- two things told at once -/
def encP (x : Value × Value) : Array Value := #[x.1, x.2]
/-- types of cells that rounds keep -/
def still (t : TypeId) : Bool := t == 3 || t == 9 || t == 121
/-- rows of numbers, rows of texts, a closure's function lie as they lay -/
def KpS (A B : World) : Prop := A.heap.size ≤ B.heap.size ∧ ∀ (k : Nat) (v : Array Value) (t : TypeId) (fr : Nat × Nat), A.heap[k]? = some (Obj.cells v t fr) → still t = true → B.heap[k]? = some (Obj.cells v t fr)
theorem KpS.trans {A B C : World} (h : KpS A B) (k : KpS B C) : KpS A C := ⟨Nat.le_trans h.1 k.1, fun i v t fr hi ht => k.2 i v t fr (h.2 i v t fr hi ht) ht⟩
theorem KpS.refl (A : World) : KpS A A := ⟨Nat.le_refl _, fun _ _ _ _ h _ => h⟩
theorem KpS.putObj (W : World) (l : Nat) (o o' : Obj) (hl : W.heap[l]? = some o) (ho : o.isCells = false) : KpS W (W.putObj l o') := by
  refine ⟨by simp, fun k v t fr hk ht => ?_⟩
  by_cases e : k = l
  · subst e
    rw [hk] at hl
    cases hl
    simp [Obj.isCells] at ho
  · exact (World.putObj_heap_other e).trans hk
theorem KpS.alloc (W : World) (o : Obj) : KpS W (W.alloc o) := ⟨by simp, fun k v t fr hk ht => (Below.heap_alloc W o k (Array.getElem?_eq_some_iff.1 hk).1).trans hk⟩
theorem KpS.of_below {A B : World} (h : Below A.heap.size A B) : KpS A B := ⟨h.size, fun k v t fr hk ht => (h.block k (Array.getElem?_eq_some_iff.1 hk).1).trans hk⟩
theorem own_kp {A B : World} {base e sz n : Nat} {v : Value} {xs : List Value} (h : A.ownsRow base e sz v n xs) (hk : KpS A B) (he : still e = true) : B.ownsRow base e sz v n xs := by
  refine ⟨h.1, ?_⟩
  rcases h.2 with hn | ⟨g, cap, cur, e1, hbg, hg, rest⟩
  · exact .inl hn
  · exact .inr ⟨g, cap, cur, e1, hbg, hk.2 g _ _ _ hg he, rest⟩
theorem MpO.below {w w' : World} {o : Option Nat} {k : Nat} {C : List (Lit × Value)} (h : MpO w o k C) (hb : Below w.heap.size w w') : MpO w' o k C := by
  cases o with
  | none => exact h
  | some b => exact Mp.below h hb
theorem MpO.kf {w w' : World} {o : Option Nat} {k B B' : Nat} {C : List (Lit × Value)} (h : MpO w o k C) (hk : KeepsFrom B w w') (hn : ∀ c, o = some c → B ≤ c) (hx : B ≤ B') : MpO w' o k C := by
  cases o with
  | none => exact h
  | some b =>
    obtain ⟨es, ⟨es', cl, hb, r⟩, hp⟩ := h
    exact ⟨es, ⟨es', cl, hk.same b _ (hn b rfl) hb rfl, r⟩, hp⟩
theorem grown_of_below {w w' : World} (h : Below w.heap.size w w') : w.grownBy w' none := ⟨h.os, h.tape, h.output, h.size, fun i hi _ => h.block i hi⟩

-- I

theorem sortsI (m : Nat) : AnyZI.SortsIn Tryz.prog Tryz.sortedI_ren Fence.wide m :=
  ⟨fun blk off cap ss W hH hblk hsz => callsIn_wide.2 (AnyM.slices_Sort_int Tryz.sortI blk off cap ss W hH hblk hsz),
   fun p cap W => callsIn_wide.2 (AnyM.slices_Sort_int_none Tryz.sortI p cap W)⟩

/-- the keys of what a map holds, rising -/
def ksI (C : List (Lit × Value)) : List Int := (intKeys (DataW.map (C.map hd))).mergeSort leI
theorem ksI_len (C : List (Lit × Value)) : (ksI C).length = C.length := by simp [ksI, intKeys]

theorem cloneI_any {w : World} {o : Option Nat} {C : List (Lit × Value)} (h : MpO w o 3 C) :
    Calls Tryz.prog 61 #[.map o] w fun e w' => ∃ o', e = .returned (.map o') ∧ MpO w' o' 3 C ∧ Below w.heap.size w w' ∧ ∀ c, o' = some c → w.heap.size ≤ c := by
  cases o with
  | none => exact (AnyW.maps_Clone_nil Tryz.cloneI w).mono fun e w' ⟨he, hw⟩ => ⟨none, he, h, by rw [hw]; exact Below.refl _ _, fun c hc => by cases hc⟩
  | some b =>
    obtain ⟨es, h1, h2⟩ := h
    exact (AnyW.maps_Clone_owns Tryz.cloneI 3 RV b _ _ w h1).mono fun e w' ⟨he, ho, _, hb⟩ => ⟨some _, he, ⟨es, ho, h2⟩, hb, fun c hc => by cases hc; exact Nat.le_refl _⟩

theorem keysofI_any (o : Option Nat) (w : World) : Calls Tryz.prog 63 #[.map o] w fun e w' => e = .returned (.func (.func 80) #[] #[.pointer (some ⟨w.heap.size, 0, none⟩)]) ∧ w' = w.alloc (.cells #[.map o] 89) :=
  (callsIn_wide (n := 6)).1 (AnyZI.keys_in Tryz.keysI Fence.wide 6 trivial rfl o w)

theorem sortedI_any {w : World} {o : Option Nat} {B : Nat} {C : List (Lit × Value)} (h : MpO w o 3 C) (hB : w.cell? ⟨B, 0, none⟩ = some (.map o)) (hlt : B < w.heap.size) (hC : C.length ≤ 1073741824) :
    Calls Tryz.prog 62 #[.func (.func 80) #[] #[.pointer (some ⟨B, 0, none⟩)]] w fun e w' => ∃ v, e = .returned v ∧ w'.ownsRow w.heap.size 3 1 v C.length ((ksI C).map encZ) ∧ Below w.heap.size w w' := by
  refine (callsIn_wide (n := 6)).1 ?_
  cases o with
  | none =>
    obtain rfl : C = [] := h
    have hseq : SeqGives Fence.wide 3 Tryz.prog 80 #[.pointer (some ⟨B, 0, none⟩)] encZ (fun ss : List Int => ss = []) 0 w :=
      AnyZI.keys_gives_nil (ρ := Tryz.keysI_ren) { Tryz.keysI with } Fence.wide _ trivial rfl B _ hlt hB
    have cS := AnyZI.sorted_in Tryz.sortedI Fence.wide 6 trivial trivial trivial trivial rfl (by omega) (sortsI _) (enters_of Tryz.func79 (by kernel_rfl) rfl) 80 #[.pointer (some ⟨B, 0, none⟩)] trivial (enters_of Tryz.func80 (by kernel_rfl) rfl) _ 0 (Nat.zero_le _) (by omega) _ hseq
    refine cS.mono ?_
    rintro e w' ⟨v, ss, rfl, rfl, hrow, hnil, hb⟩
    obtain rfl : v = .slice none 0 0 := hnil.2 rfl
    change w'.ownsRow w.heap.size 3 1 _ _ _ at hrow
    exact ⟨_, rfl, by simpa [ksI, intKeys] using hrow, hb⟩
  | some b =>
    obtain ⟨es, h1, h2⟩ := h
    have hsz : Maps.size (DataW.map es) = C.length := by rw [Maps.size_eq, h2.length_eq]; simp
    have hseq : SeqGives Fence.wide 3 Tryz.prog 80 #[.pointer (some ⟨B, 0, none⟩)] encZ (fun ss => ss.Perm (intKeys (DataW.map es))) (Maps.size (DataW.map es)) w :=
      AnyZI.keys_gives (ρ := Tryz.keysI_ren) { Tryz.keysI with } Fence.wide _ trivial rfl (by omega) B b _ _ _ hlt hB h1
    have cS := AnyZI.sorted_in Tryz.sortedI Fence.wide 6 trivial trivial trivial trivial rfl (by omega) (sortsI _) (enters_of Tryz.func79 (by kernel_rfl) rfl) 80 #[.pointer (some ⟨B, 0, none⟩)] trivial (enters_of Tryz.func80 (by kernel_rfl) rfl) _ _ (by rw [hsz]; unfold maxLen; omega) (by rw [hsz]; omega) _ hseq
    refine cS.mono ?_
    rintro e w' ⟨v, ss, rfl, hp, hrow, hnil, hb⟩
    have hp2 : ss.Perm (intKeys (DataW.map (C.map hd))) := hp.trans (h2.map _)
    have hl : ss.length = C.length := by rw [hp2.length_eq]; simp [intKeys]
    refine ⟨v, rfl, ?_, hb⟩
    have e1 : ss.mergeSort leI = ksI C := mergeSort_of_perm_i hp2
    rw [← hl, ← e1]
    exact hrow

/-- what is told: each key with what the map holds at it -/
def xsI (z : Value) (C : List (Lit × Value)) : List (Value × Value) := (ksI C).map fun k => (encZ k, (look C (.int .i64 k)).getD z)
theorem xsI_len (z : Value) (C : List (Lit × Value)) : (xsI z C).length = C.length := by simp [xsI, ksI_len]

theorem renI_any (o : Option Nat) (w : World) : Calls Tryz.prog 43 #[.map o] w fun e w' => e = .returned (.func (.func 60) #[] #[.pointer (some ⟨w.heap.size, 0, none⟩)]) ∧ w' = w.alloc (.cells #[.map o] 89) := by
  go_enter Tryz.func43, Tryz.ntmps43
  go_wp2_with fail
  go_ret
  exact ⟨rfl, rfl⟩

theorem zeroI (w : World) : (zeroValue 68).run Tryz.prog w = .ok (.agg #[.int .i64 0, .int .i64 0]) w := by kernel_rfl
theorem keyokI (C : List (Lit × Value)) (hk : ∀ p ∈ C, ∃ s : Int, p.1 = .int .i64 s ∧ (Lit.int .i64 s).wf = true) (s : Int) (hs : s ∈ ksI C) : keyOf Tryz.prog 3 (encZ s) = some (.int .i64 s) := by
  have h1 := (List.mergeSort_perm _ _).mem_iff.1 hs
  simp only [intKeys, List.map_map, List.mem_map] at h1
  obtain ⟨p, hp, rfl⟩ := h1
  obtain ⟨s, e, hw⟩ := hk p hp
  simp only [Function.comp, hd, e]
  exact hkey3 _ hw

set_option maxRecDepth 100000 in
set_option maxHeartbeats 1000000 in
theorem risingI (n : Nat) (hn : 1 ≤ n) (Bm : Nat) (o : Option Nat) (C : List (Lit × Value)) (w0 : World) (h : MpO w0 o 3 C) (hB : w0.cell? ⟨Bm, 0, none⟩ = some (.map o)) (hlt : Bm < w0.heap.size) (hC : C.length ≤ 1073741824) (hk : ∀ p ∈ C, ∃ s : Int, p.1 = .int .i64 s ∧ (Lit.int .i64 s).wf = true) :
    SeqX Fence.wide n Tryz.prog 60 #[.pointer (some ⟨Bm, 0, none⟩)] encP KpS (xsI (.agg #[.int .i64 0, .int .i64 0]) C) w0 := by
  intro l J Jx W hW hJ hJx hY h0
  have HY := Lib.hid hY
  have HJ := Lib.hid hJ
  have HK := Lib.hid hk
  have c0 : W.cell? ⟨Bm, 0, none⟩ = some (.map o) := (hW.cell (p := ⟨Bm, 0, none⟩) hlt).trans hB
  have hM : MpO W o 3 C := MpO.below h hW
  have HM := Lib.hid hM
  have HB0 := Lib.hid (Below.refl W.heap.size W)
  have HJ0 := Lib.hid h0
  clear hY hJ hk hM h0 hJx h hB hW
  refine callsIn_of_wp Tryz.func60 rfl trivial ?_ rfl
  simp only [Tryz.ntmps60, List.size_toArray, List.length_cons, List.length_nil, Nat.reduceAdd, Nat.reduceSub, Array.replicate_succ, Array.replicate_zero, List.push_toArray, List.append_toArray, List.nil_append, List.cons_append]
  gi_wp2
  refine ⟨trivial, ?_⟩
  refine (callsIn_wide.2 (cloneI_any HM.out)).mono ?_
  rintro e W1 ⟨o', rfl, hM1, hb1, hnew⟩
  have HM1 := Lib.hid hM1
  have HNEW := Lib.hid hnew
  have HB1 := Lib.hid hb1
  clear hM1 hnew hb1
  gi_wp2
  refine ⟨trivial, ?_⟩
  refine (callsIn_wide.2 (keysofI_any _ _)).mono ?_
  rintro e W2 ⟨rfl, hw2⟩
  have hM2 : MpO W2 o' 3 C := by rw [hw2]; exact MpO.below HM1.out ((Below.refl _ _).alloc (Nat.le_refl _) _)
  have cB2 : W2.cell? ⟨W1.heap.size, 0, none⟩ = some (.map o') := by rw [hw2]; exact (Boxed.new W1 _ _).cell
  have hl2 : W1.heap.size < W2.heap.size := by rw [hw2]; simp
  have hb2 : Below W.heap.size W W2 := by rw [hw2]; exact HB1.out.alloc HB1.out.size _
  have cS := sortedI_any hM2 cB2 hl2 hC
  have HM2 := Lib.hid hM2
  have HB2 := Lib.hid hb2
  have HCS := Lib.hid cS
  clear hM2 cB2 hb2 hw2 cS
  gi_wp2
  refine ⟨trivial, ?_⟩
  refine (callsIn_wide.2 HCS.out).mono ?_
  rintro e W3 ⟨v, rfl, hrow, hb3⟩
  have hM3 : MpO W3 o' 3 C := MpO.below HM2.out hb3
  have hb3' : Below W.heap.size W W3 := HB2.out.trans (hb3.mono HB2.out.size)
  have hJ3 : J [] W3 := HJ.out [] W W3 none HJ0.out (grown_of_below hb3') (fun r e => by cases e)
  obtain ⟨A, q, hv, hA, _, _⟩ := row_form hrow
  subst hv
  have HROW := Lib.hid hrow
  have HM3 := Lib.hid hM3
  have HJ3 := Lib.hid hJ3
  have hsz3 : W.heap.size ≤ W3.heap.size := hb3'.size
  have hA3 := Lib.hid hA
  clear hrow hM3 hJ3 hb3 hb3' hA
  gi_wp2
  gi_loopw [12] (fun c wr => ∃ k : Nat, k ≤ C.length ∧ c = .int .i64 k ∧ wr.ownsRow W2.heap.size 3 1 (.slice A C.length q) C.length ((ksI C).map encZ) ∧ MpO wr o' 3 C ∧ W.heap.size ≤ wr.heap.size ∧ J ((xsI (.agg #[.int .i64 0, .int .i64 0]) C).take k) wr) (fun c _ => C.length - (intOf c).toNat)
  case atStart =>
    exact ⟨0, Nat.zero_le _, rfl, HROW.out, HM3.out, hsz3, HJ3.out⟩
  case round =>
    obtain ⟨k, hk, rfl, hrow, hMr, hszr, hJs⟩ := hrel
    by_cases hlt2 : k < C.length
    · have hkl : k < (ksI C).length := by rw [ksI_len]; exact hlt2
      obtain ⟨g, rfl, _, _⟩ := hA3.out (by omega)
      have hck : wr.cell? ⟨g, k, none⟩ = some (encZ (ksI C)[k]) := by
        have := hrow.cells (g := g) rfl k (encZ (ksI C)[k]) (by simp [hkl])
        by_cases hk0 : k = 0
        · subst hk0; simpa [Addr.add] using this
        · simpa [Addr.add, hk0] using this
      have hzs : (xsI (.agg #[.int .i64 0, .int .i64 0]) C).take (k + 1) = (xsI (.agg #[.int .i64 0, .int .i64 0]) C).take k ++ [(encZ (ksI C)[k], (look C (.int .i64 (ksI C)[k])).getD (.agg #[.int .i64 0, .int .i64 0]))] := by
        rw [List.take_succ_eq_append_getElem (by rw [xsI_len]; exact hlt2)]
        simp [xsI]
      have hpre : (xsI (.agg #[.int .i64 0, .int .i64 0]) C).take k ++ [(encZ (ksI C)[k], (look C (.int .i64 (ksI C)[k])).getD (.agg #[.int .i64 0, .int .i64 0]))] <+: xsI (.agg #[.int .i64 0, .int .i64 0]) C := by
        rw [← hzs]; exact List.take_prefix _ _
      have hkey := keyokI C HK.out (ksI C)[k] (List.getElem_mem hkl)
      have hlook := MpO.look_at hMr law3 Tryz.underlying89 (zeroI wr) hkey
      obtain ⟨s, hs⟩ : ∃ s, (ksI C)[k] = s := ⟨_, rfl⟩
      rw [hs] at hck hzs hpre hlook
      obtain ⟨vv, hvv⟩ : ∃ vv, (look C (.int .i64 s)).getD (.agg #[.int .i64 0, .int .i64 0]) = vv := ⟨_, rfl⟩
      rw [hvv] at hzs hpre hlook
      obtain ⟨fn, tmps, assign, body, hy, hR⟩ := HY.out _ (encZ s, vv) wr hpre hszr hJs
      simp only [encP] at hy
      have HZS := Lib.hid hzs
      have HPRE := Lib.hid hpre
      have HRW := Lib.hid hrow
      have HMR := Lib.hid hMr
      clear hzs hpre hrow hMr hJs hkey hs hvv
      gi_wp2
      refine hR.mono ?_
      rintro e W4 ⟨hkf, (⟨rfl, hJ4, hk4⟩ | ⟨rfl, hJx4⟩)⟩
      · have hr4 := Lib.hid (own_kp HRW.out hk4 (by decide))
        have hM4 := Lib.hid (MpO.kf HMR.out hkf HNEW.out HB1.out.size)
        have hs4 := Lib.hid (Nat.le_trans hszr hkf.size)
        clear hkf hk4
        gi_wp2
        go_roundw
        case rel => exact ⟨k + 1, by omega, by go_num, hr4.out, hM4.out, hs4.out, by rw [HZS.out]; exact hJ4⟩
        case measure => simp [intOf]; omega
      · clear hkf
        gi_wp2
        refine bodyPost_ret (results_none rfl _ _ _) rfl ?_
        exact ⟨⟨_, rfl⟩, .inr ⟨_, HPRE.out, hJx4⟩⟩
    · obtain rfl : k = C.length := by omega
      gi_wp2
      go_end0
      rw [List.take_of_length_le (by rw [xsI_len]; exact Nat.le_refl _)] at hJs
      exact ⟨⟨_, rfl⟩, .inl hJs⟩

-- S

theorem sortsS (m : Nat) : AnyZ.SortsIn Tryz.prog Tryz.sortedS_ren Fence.wide m :=
  ⟨fun blk off cap ss W hH hblk hsz => callsIn_wide.2 (AnyM.slices_Sort_string Tryz.sortS blk off cap ss W hH hblk hsz),
   fun p cap W => callsIn_wide.2 (AnyM.slices_Sort_string_none Tryz.sortS p cap W)⟩

/-- the keys of what a map holds, rising -/
def ksS (C : List (Lit × Value)) : List (List UInt8) := (strKeys (DataW.map (C.map hd))).mergeSort leB
theorem ksS_len (C : List (Lit × Value)) : (ksS C).length = C.length := by simp [ksS, strKeys]

theorem cloneS_any {w : World} {o : Option Nat} {C : List (Lit × Value)} (h : MpO w o 9 C) :
    Calls Tryz.prog 57 #[.map o] w fun e w' => ∃ o', e = .returned (.map o') ∧ MpO w' o' 9 C ∧ Below w.heap.size w w' ∧ ∀ c, o' = some c → w.heap.size ≤ c := by
  cases o with
  | none => exact (AnyW.maps_Clone_nil Tryz.cloneS w).mono fun e w' ⟨he, hw⟩ => ⟨none, he, h, by rw [hw]; exact Below.refl _ _, fun c hc => by cases hc⟩
  | some b =>
    obtain ⟨es, h1, h2⟩ := h
    exact (AnyW.maps_Clone_owns Tryz.cloneS 9 RV b _ _ w h1).mono fun e w' ⟨he, ho, _, hb⟩ => ⟨some _, he, ⟨es, ho, h2⟩, hb, fun c hc => by cases hc; exact Nat.le_refl _⟩

theorem keysofS_any (o : Option Nat) (w : World) : Calls Tryz.prog 59 #[.map o] w fun e w' => e = .returned (.func (.func 77) #[] #[.pointer (some ⟨w.heap.size, 0, none⟩)]) ∧ w' = w.alloc (.cells #[.map o] 58) :=
  (callsIn_wide (n := 6)).1 (AnyZ.keys_in Tryz.keysS Fence.wide 6 trivial rfl o w)

theorem sortedS_any {w : World} {o : Option Nat} {B : Nat} {C : List (Lit × Value)} (h : MpO w o 9 C) (hB : w.cell? ⟨B, 0, none⟩ = some (.map o)) (hlt : B < w.heap.size) (hC : C.length ≤ 1073741824) :
    Calls Tryz.prog 58 #[.func (.func 77) #[] #[.pointer (some ⟨B, 0, none⟩)]] w fun e w' => ∃ v, e = .returned v ∧ w'.ownsRow w.heap.size 9 1 v C.length ((ksS C).map encStr) ∧ Below w.heap.size w w' := by
  refine (callsIn_wide (n := 6)).1 ?_
  cases o with
  | none =>
    obtain rfl : C = [] := h
    have hseq : SeqGives Fence.wide 3 Tryz.prog 77 #[.pointer (some ⟨B, 0, none⟩)] encStr (fun ss : List (List UInt8) => ss = []) 0 w :=
      AnyZ.keys_gives_nil (ρ := Tryz.keysS_ren) { Tryz.keysS with } Fence.wide _ trivial rfl B _ hlt hB
    have cS := AnyZ.sorted_in Tryz.sortedS Fence.wide 6 trivial trivial trivial trivial rfl (by omega) (sortsS _) (enters_of Tryz.func76 (by kernel_rfl) rfl) 77 #[.pointer (some ⟨B, 0, none⟩)] trivial (enters_of Tryz.func77 (by kernel_rfl) rfl) _ 0 (Nat.zero_le _) (by omega) _ hseq
    refine cS.mono ?_
    rintro e w' ⟨v, ss, rfl, rfl, hrow, hnil, hb⟩
    obtain rfl : v = .slice none 0 0 := hnil.2 rfl
    change w'.ownsRow w.heap.size 9 1 _ _ _ at hrow
    exact ⟨_, rfl, by simpa [ksS, strKeys] using hrow, hb⟩
  | some b =>
    obtain ⟨es, h1, h2⟩ := h
    have hsz : Maps.size (DataW.map es) = C.length := by rw [Maps.size_eq, h2.length_eq]; simp
    have hseq : SeqGives Fence.wide 3 Tryz.prog 77 #[.pointer (some ⟨B, 0, none⟩)] encStr (fun ss => ss.Perm (strKeys (DataW.map es))) (Maps.size (DataW.map es)) w :=
      AnyZ.keys_gives (ρ := Tryz.keysS_ren) { Tryz.keysS with } Fence.wide _ trivial rfl (by omega) B b _ _ _ hlt hB h1
    have cS := AnyZ.sorted_in Tryz.sortedS Fence.wide 6 trivial trivial trivial trivial rfl (by omega) (sortsS _) (enters_of Tryz.func76 (by kernel_rfl) rfl) 77 #[.pointer (some ⟨B, 0, none⟩)] trivial (enters_of Tryz.func77 (by kernel_rfl) rfl) _ _ (by rw [hsz]; unfold maxLen; omega) (by rw [hsz]; omega) _ hseq
    refine cS.mono ?_
    rintro e w' ⟨v, ss, rfl, hp, hrow, hnil, hb⟩
    have hp2 : ss.Perm (strKeys (DataW.map (C.map hd))) := hp.trans (h2.map _)
    have hl : ss.length = C.length := by rw [hp2.length_eq]; simp [strKeys]
    refine ⟨v, rfl, ?_, hb⟩
    have e1 : ss.mergeSort leB = ksS C := mergeSort_of_perm hp2
    rw [← hl, ← e1]
    exact hrow

/-- what is told: each key with what the map holds at it -/
def xsS (z : Value) (C : List (Lit × Value)) : List (Value × Value) := (ksS C).map fun k => (encStr k, (look C (.string k)).getD z)
theorem xsS_len (z : Value) (C : List (Lit × Value)) : (xsS z C).length = C.length := by simp [xsS, ksS_len]

theorem renS_any (o : Option Nat) (w : World) : Calls Tryz.prog 42 #[.map o] w fun e w' => e = .returned (.func (.func 56) #[] #[.pointer (some ⟨w.heap.size, 0, none⟩)]) ∧ w' = w.alloc (.cells #[.map o] 58) := by
  go_enter Tryz.func42, Tryz.ntmps42
  go_wp2_with fail
  go_ret
  exact ⟨rfl, rfl⟩

theorem zeroS (w : World) : (zeroValue 91).run Tryz.prog w = .ok (.agg #[.string ⟨#[]⟩, .map none]) w := by kernel_rfl
theorem keyokS (C : List (Lit × Value)) (hk : ∀ p ∈ C, ∃ s : ByteArray, p.1 = key s ∧ s.size ≤ maxLen) (s : List UInt8) (hs : s ∈ ksS C) : keyOf Tryz.prog 9 (encStr s) = some (.string s) := by
  have h1 := (List.mergeSort_perm _ _).mem_iff.1 hs
  simp only [strKeys, List.map_map, List.mem_map] at h1
  obtain ⟨p, hp, rfl⟩ := h1
  obtain ⟨s, e, hw⟩ := hk p hp
  simp only [Function.comp, hd, e, key]
  exact hkey9 s hw

set_option maxRecDepth 100000 in
set_option maxHeartbeats 1000000 in
theorem risingS (n : Nat) (hn : 1 ≤ n) (Bm : Nat) (o : Option Nat) (C : List (Lit × Value)) (w0 : World) (h : MpO w0 o 9 C) (hB : w0.cell? ⟨Bm, 0, none⟩ = some (.map o)) (hlt : Bm < w0.heap.size) (hC : C.length ≤ 1073741824) (hk : ∀ p ∈ C, ∃ s : ByteArray, p.1 = key s ∧ s.size ≤ maxLen) :
    SeqX Fence.wide n Tryz.prog 56 #[.pointer (some ⟨Bm, 0, none⟩)] encP KpS (xsS (.agg #[.string ⟨#[]⟩, .map none]) C) w0 := by
  intro l J Jx W hW hJ hJx hY h0
  have HY := Lib.hid hY
  have HJ := Lib.hid hJ
  have HK := Lib.hid hk
  have c0 : W.cell? ⟨Bm, 0, none⟩ = some (.map o) := (hW.cell (p := ⟨Bm, 0, none⟩) hlt).trans hB
  have hM : MpO W o 9 C := MpO.below h hW
  have HM := Lib.hid hM
  have HB0 := Lib.hid (Below.refl W.heap.size W)
  have HJ0 := Lib.hid h0
  clear hY hJ hk hM h0 hJx h hB hW
  refine callsIn_of_wp Tryz.func56 rfl trivial ?_ rfl
  simp only [Tryz.ntmps56, List.size_toArray, List.length_cons, List.length_nil, Nat.reduceAdd, Nat.reduceSub, Array.replicate_succ, Array.replicate_zero, List.push_toArray, List.append_toArray, List.nil_append, List.cons_append]
  gi_wp2
  refine ⟨trivial, ?_⟩
  refine (callsIn_wide.2 (cloneS_any HM.out)).mono ?_
  rintro e W1 ⟨o', rfl, hM1, hb1, hnew⟩
  have HM1 := Lib.hid hM1
  have HNEW := Lib.hid hnew
  have HB1 := Lib.hid hb1
  clear hM1 hnew hb1
  gi_wp2
  refine ⟨trivial, ?_⟩
  refine (callsIn_wide.2 (keysofS_any _ _)).mono ?_
  rintro e W2 ⟨rfl, hw2⟩
  have hM2 : MpO W2 o' 9 C := by rw [hw2]; exact MpO.below HM1.out ((Below.refl _ _).alloc (Nat.le_refl _) _)
  have cB2 : W2.cell? ⟨W1.heap.size, 0, none⟩ = some (.map o') := by rw [hw2]; exact (Boxed.new W1 _ _).cell
  have hl2 : W1.heap.size < W2.heap.size := by rw [hw2]; simp
  have hb2 : Below W.heap.size W W2 := by rw [hw2]; exact HB1.out.alloc HB1.out.size _
  have cS := sortedS_any hM2 cB2 hl2 hC
  have HM2 := Lib.hid hM2
  have HB2 := Lib.hid hb2
  have HCS := Lib.hid cS
  clear hM2 cB2 hb2 hw2 cS
  gi_wp2
  refine ⟨trivial, ?_⟩
  refine (callsIn_wide.2 HCS.out).mono ?_
  rintro e W3 ⟨v, rfl, hrow, hb3⟩
  have hM3 : MpO W3 o' 9 C := MpO.below HM2.out hb3
  have hb3' : Below W.heap.size W W3 := HB2.out.trans (hb3.mono HB2.out.size)
  have hJ3 : J [] W3 := HJ.out [] W W3 none HJ0.out (grown_of_below hb3') (fun r e => by cases e)
  obtain ⟨A, q, hv, hA, _, _⟩ := row_form hrow
  subst hv
  have HROW := Lib.hid hrow
  have HM3 := Lib.hid hM3
  have HJ3 := Lib.hid hJ3
  have hsz3 : W.heap.size ≤ W3.heap.size := hb3'.size
  have hA3 := Lib.hid hA
  clear hrow hM3 hJ3 hb3 hb3' hA
  gi_wp2
  gi_loopw [12] (fun c wr => ∃ k : Nat, k ≤ C.length ∧ c = .int .i64 k ∧ wr.ownsRow W2.heap.size 9 1 (.slice A C.length q) C.length ((ksS C).map encStr) ∧ MpO wr o' 9 C ∧ W.heap.size ≤ wr.heap.size ∧ J ((xsS (.agg #[.string ⟨#[]⟩, .map none]) C).take k) wr) (fun c _ => C.length - (intOf c).toNat)
  case atStart =>
    exact ⟨0, Nat.zero_le _, rfl, HROW.out, HM3.out, hsz3, HJ3.out⟩
  case round =>
    obtain ⟨k, hk, rfl, hrow, hMr, hszr, hJs⟩ := hrel
    by_cases hlt2 : k < C.length
    · have hkl : k < (ksS C).length := by rw [ksS_len]; exact hlt2
      obtain ⟨g, rfl, _, _⟩ := hA3.out (by omega)
      have hck : wr.cell? ⟨g, k, none⟩ = some (encStr (ksS C)[k]) := by
        have := hrow.cells (g := g) rfl k (encStr (ksS C)[k]) (by simp [hkl])
        by_cases hk0 : k = 0
        · subst hk0; simpa [Addr.add] using this
        · simpa [Addr.add, hk0] using this
      have hzs : (xsS (.agg #[.string ⟨#[]⟩, .map none]) C).take (k + 1) = (xsS (.agg #[.string ⟨#[]⟩, .map none]) C).take k ++ [(encStr (ksS C)[k], (look C (.string (ksS C)[k])).getD (.agg #[.string ⟨#[]⟩, .map none]))] := by
        rw [List.take_succ_eq_append_getElem (by rw [xsS_len]; exact hlt2)]
        simp [xsS]
      have hpre : (xsS (.agg #[.string ⟨#[]⟩, .map none]) C).take k ++ [(encStr (ksS C)[k], (look C (.string (ksS C)[k])).getD (.agg #[.string ⟨#[]⟩, .map none]))] <+: xsS (.agg #[.string ⟨#[]⟩, .map none]) C := by
        rw [← hzs]; exact List.take_prefix _ _
      have hkey := keyokS C HK.out (ksS C)[k] (List.getElem_mem hkl)
      have hlook := MpO.look_at hMr law9 Tryz.underlying58 (zeroS wr) hkey
      obtain ⟨s, hs⟩ : ∃ s, (ksS C)[k] = s := ⟨_, rfl⟩
      rw [hs] at hck hzs hpre hlook
      obtain ⟨vv, hvv⟩ : ∃ vv, (look C (.string s)).getD (.agg #[.string ⟨#[]⟩, .map none]) = vv := ⟨_, rfl⟩
      rw [hvv] at hzs hpre hlook
      obtain ⟨fn, tmps, assign, body, hy, hR⟩ := HY.out _ (encStr s, vv) wr hpre hszr hJs
      simp only [encP] at hy
      have HZS := Lib.hid hzs
      have HPRE := Lib.hid hpre
      have HRW := Lib.hid hrow
      have HMR := Lib.hid hMr
      clear hzs hpre hrow hMr hJs hkey hs hvv
      gi_wp2
      refine hR.mono ?_
      rintro e W4 ⟨hkf, (⟨rfl, hJ4, hk4⟩ | ⟨rfl, hJx4⟩)⟩
      · have hr4 := Lib.hid (own_kp HRW.out hk4 (by decide))
        have hM4 := Lib.hid (MpO.kf HMR.out hkf HNEW.out HB1.out.size)
        have hs4 := Lib.hid (Nat.le_trans hszr hkf.size)
        clear hkf hk4
        gi_wp2
        go_roundw
        case rel => exact ⟨k + 1, by omega, by go_num, hr4.out, hM4.out, hs4.out, by rw [HZS.out]; exact hJ4⟩
        case measure => simp [intOf]; omega
      · clear hkf
        gi_wp2
        refine bodyPost_ret (results_none rfl _ _ _) rfl ?_
        exact ⟨⟨_, rfl⟩, .inr ⟨_, HPRE.out, hJx4⟩⟩
    · obtain rfl : k = C.length := by omega
      gi_wp2
      go_end0
      rw [List.take_of_length_le (by rw [xsS_len]; exact Nat.le_refl _)] at hJs
      exact ⟨⟨_, rfl⟩, .inl hJs⟩
end Go.Proofs.YtfcdgfjpmcapkaaGreat
