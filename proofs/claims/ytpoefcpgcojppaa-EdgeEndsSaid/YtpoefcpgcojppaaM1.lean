/- Texts VF, W, X, Y, PA, PB, one behind the other. -/
import Derived.Test.YtpoefcpgcojppaaM0
import Derived.LaidEql
import Derived.Laws.StructEq
import Derived.Shelf.SlSortCmp.QuietGrown
import Derived.Deep.Cut
import Derived.Lib.SmallJoins
import Derived.Lib.AppendStr
import Derived.OpenShut
import Derived.BigQuiet
set_option linter.unusedSimpArgs false
namespace Go.Proofs.Ytpoefcpgcojppaa
open Go.ChangeShapes Go.WideShapes Go.ChangeAt Go.RowKit
set_option linter.unusedVariables false

theorem em_iff (t : ByteArray) : t.toList.isEmpty = decide (t = ⟨#[]⟩) := by
  rw [Bool.eq_iff_iff, List.isEmpty_iff, decide_eq_true_eq, ByteArray.toList_eq]
  constructor
  · intro h
    exact data_inj h
  · rintro rfl
    rfl
def RightR (v : Vt) (w : World) (e : Ending) (w' : World) : Prop := e = .returned (.bool (rightV v)) ∧ Gr w w'

theorem right_any (v : Vt) (w : World) (hm : v.2.2.size ≤ 281474976710656) : Calls Try.prog 73 #[.agg #[.int .i64 v.1, .int .i64 v.2.1, .string v.2.2]] w (RightR v w) := by
  obtain ⟨k, n, t⟩ := v
  simp only at hm ⊢
  by_cases h1 : k = 1
  · subst h1
    have hr : n < -1099511627776 ∨ (-1099511627776 ≤ n ∧ 1099511627776 < n) ∨ (-1099511627776 ≤ n ∧ n ≤ 1099511627776) := by omega
    rcases hr with hr | ⟨hr, hr2⟩ | ⟨hr, hr2⟩
    · have HE := Lib.hid (show rightV (1, n, t) = false by simp [rightV]; omega)
      go_enter Try.func73, Try.ntmps73
      go_wp2_with fail
      go_ret
      exact ⟨ret_bool HE.out.symm, (Gr.refl w).alloc _⟩
    · have HE := Lib.hid (show rightV (1, n, t) = false by simp [rightV]; omega)
      go_enter Try.func73, Try.ntmps73
      go_wp2_with fail
      go_ret
      exact ⟨ret_bool HE.out.symm, (Gr.refl w).alloc _⟩
    · have HE := Lib.hid (show rightV (1, n, t) = t.toList.isEmpty by rw [em_iff]; simp [rightV, hr, hr2])
      go_enter Try.func73, Try.ntmps73
      go_wp2_with fail
      go_ret
      exact ⟨ret_bool HE.out.symm, (Gr.refl w).alloc _⟩
  · have h1' : (k == 1) = false := by simpa using h1
    by_cases h2 : k = 2
    · subst h2
      by_cases h3 : n = 0
      · subst h3
        have HE := Lib.hid (show rightV (2, 0, t) = isT t by simp [rightV])
        clear h1
        go_enter Try.func73, Try.ntmps73
        go_wp2_with (go_at_call 88; refine (isText_any t _ hm).mono ?_; rintro e w' ⟨rfl, rfl⟩)
        go_ret
        exact ⟨ret_bool HE.out.symm, (Gr.refl w).alloc _⟩
      · have HE := Lib.hid (show rightV (2, n, t) = false by simp [rightV, h3])
        have h3' : (n == 0) = false := by simpa using h3
        clear h1 h3
        go_enter Try.func73, Try.ntmps73
        go_wp2_with fail
        go_ret
        exact ⟨ret_bool HE.out.symm, (Gr.refl w).alloc _⟩
    · have HE := Lib.hid (show rightV (k, n, t) = false by simp [rightV, h1, h2])
      have h2' : (k == 2) = false := by simpa using h2
      clear h1 h2
      go_enter Try.func73, Try.ntmps73
      go_wp2_with fail
      go_ret
      exact ⟨ret_bool HE.out.symm, (Gr.refl w).alloc _⟩
set_option maxHeartbeats 2000000 in
theorem rRight_any (v : Vt) (w : World) (hm : v.2.2.size ≤ 281474976710656) : Calls Try.prog 49 #[.agg #[.int .i64 v.1, .int .i64 v.2.1, .string v.2.2]] w (RightR v w) := by
  obtain ⟨k, n, t⟩ := v
  simp only at hm ⊢
  by_cases h1 : k = 1
  · subst h1
    have hr : n < -1099511627776 ∨ (-1099511627776 ≤ n ∧ 1099511627776 < n) ∨ (-1099511627776 ≤ n ∧ n ≤ 1099511627776) := by omega
    rcases hr with hr | ⟨hr, hr2⟩ | ⟨hr, hr2⟩
    · have HE := Lib.hid (show rightV (1, n, t) = false by simp [rightV]; omega)
      go_enter Try.func49, Try.ntmps49
      go_wp2_with fail
      go_ret
      exact ⟨ret_bool HE.out.symm, (Gr.refl w).alloc _⟩
    · have HE := Lib.hid (show rightV (1, n, t) = false by simp [rightV]; omega)
      go_enter Try.func49, Try.ntmps49
      go_wp2_with fail
      go_ret
      exact ⟨ret_bool HE.out.symm, (Gr.refl w).alloc _⟩
    · have HE := Lib.hid (show rightV (1, n, t) = t.toList.isEmpty by rw [em_iff]; simp [rightV, hr, hr2])
      go_enter Try.func49, Try.ntmps49
      go_wp2_with fail
      go_ret
      exact ⟨ret_bool HE.out.symm, (Gr.refl w).alloc _⟩
  · have h1' : (k == 1) = false := by simpa using h1
    have hsz : t.data.toList.length = t.size := Array.length_toList
    have HSZ := Lib.hid hsz
    have HK := Lib.hid h1
    clear hsz h1
    go_enter Try.func49, Try.ntmps49
    go_wp2_with fail
    go_loop [3] (fun i => ∃ p : Nat, p ≤ t.size ∧ i = .int .i64 p ∧ (t.data.toList.take p).all plainC = true) (fun i => t.size - (Lib.intOf i).toNat)
    case atStart => exact ⟨0, Nat.zero_le _, rfl, rfl⟩
    case round =>
      obtain ⟨p, hp, rfl, hall⟩ := hrel
      have HALL := Lib.hid hall
      clear hall
      by_cases hlt : p < t.size
      · have hkl : p < t.data.toList.length := by rw [HSZ.out]; exact hlt
        have hb : t.data.toList[p] = t[p] := rfl
        have HB := Lib.hid hb
        clear hb
        have hpl := plI_eq (t[p])
        have hr : ((t[p]).toNat : Int) < 32 ∨ (32 ≤ ((t[p]).toNat : Int) ∧ 126 < ((t[p]).toNat : Int)) ∨ (32 ≤ ((t[p]).toNat : Int) ∧ ((t[p]).toNat : Int) ≤ 126) := by omega
        have HPL := Lib.hid hpl
        clear hpl
        have key : plI ((t[p]).toNat : Int) = false → rightV (k, n, t) = false := fun h => by
          have e : isT t = false := by unfold isT; rw [all_not hkl (by rw [HB.out, HPL.out]; exact h), Bool.and_false]
          simp [rightV, HK.out, e]
        have KEY := Lib.hid key
        clear key
        rcases hr with hr | ⟨hr, hr2⟩ | ⟨hr, hr2⟩
        · go_wp2_with fail
          go_ret
          exact ⟨ret_bool (KEY.out (by simp [plI]; omega)).symm, (Gr.refl w).alloc _⟩
        · go_wp2_with fail
          go_ret
          exact ⟨ret_bool (KEY.out (by simp [plI]; omega)).symm, (Gr.refl w).alloc _⟩
        · by_cases h34 : ((t[p]).toNat : Int) = 34
          · have h34' : (((t[p]).toNat : Int) == 34) = true := by simpa using h34
            have H34 := Lib.hid h34
            clear h34
            go_wp2_with fail
            go_ret
            exact ⟨ret_bool (KEY.out (by simp [plI]; have := H34.out; omega)).symm, (Gr.refl w).alloc _⟩
          · have h34' : (((t[p]).toNat : Int) == 34) = false := by simpa using h34
            by_cases h92 : ((t[p]).toNat : Int) = 92
            · have h92' : (((t[p]).toNat : Int) == 92) = true := by simpa using h92
              have H92 := Lib.hid h92
              clear h92 h34
              go_wp2_with fail
              go_ret
              exact ⟨ret_bool (KEY.out (by simp [plI]; have := H92.out; omega)).symm, (Gr.refl w).alloc _⟩
            · have h92' : (((t[p]).toNat : Int) == 92) = false := by simpa using h92
              have HG := Lib.hid (show plI ((t[p]).toNat : Int) = true by unfold plI; rw [decide_eq_true_iff]; omega)
              clear h34 h92
              go_wp2_with fail
              go_round
              case rel => exact ⟨p + 1, by omega, by go_num, all_succ HALL.out hkl (by rw [HB.out, HPL.out]; exact HG.out)⟩
              case measure => simp [Lib.intOf]; omega
      · obtain rfl : p = t.size := by omega
        have hall : t.data.toList.all plainC = true := by
          have := HALL.out
          rwa [List.take_of_length_le (by rw [HSZ.out]; exact Nat.le_refl _)] at this
        by_cases h2 : k = 2
        · subst h2
          by_cases h3 : n = 0
          · subst h3
            have HE := Lib.hid (show rightV (2, 0, t) = decide (t.size ≤ 40) by simp [rightV, isT, hall])
            have hs : t.size ≤ 40 ∨ 40 < t.size := by omega
            clear hall
            rcases hs with hs | hs
            all_goals
              go_wp2_with fail
              go_ret
              exact ⟨ret_bool (by rw [HE.out, Bool.eq_iff_iff]; simp; try omega), (Gr.refl w).alloc _⟩
          · have HE := Lib.hid (show rightV (2, n, t) = false by simp [rightV, h3])
            have h3' : (n == 0) = false := by simpa using h3
            clear h3 hall
            go_wp2_with fail
            go_ret
            exact ⟨ret_bool HE.out.symm, (Gr.refl w).alloc _⟩
        · have HE := Lib.hid (show rightV (k, n, t) = false by simp [rightV, HK.out, h2])
          have h2' : (k == 2) = false := by simpa using h2
          clear h2 hall
          go_wp2_with fail
          go_ret
          exact ⟨ret_bool HE.out.symm, (Gr.refl w).alloc _⟩
end Go.Proofs.Ytpoefcpgcojppaa

namespace Go.Proofs.Ytpoefcpgcojppaa
open Go.ChangeShapes Go.WideShapes Go.ChangeAt Go.RowKit
set_option linter.unusedVariables false

/-- of the blocks that p names nothing has turned -/
structure Keep (p : Nat → Prop) (w w' : World) : Prop where
  os : w'.os = w.os
  tape : w'.tape = w.tape
  output : w'.output = w.output
  size : w.heap.size ≤ w'.heap.size
  block : ∀ k, k < w.heap.size → p k → w'.heap[k]? = w.heap[k]?
theorem Keep.refl (p : Nat → Prop) (w : World) : Keep p w w := ⟨rfl, rfl, rfl, Nat.le_refl _, fun _ _ _ => rfl⟩
theorem Keep.trans {p q : Nat → Prop} {a b c : World} (h : Keep p a b) (k : Keep q b c) (hq : ∀ i, i < a.heap.size → p i → q i) : Keep p a c :=
  ⟨k.os.trans h.os, k.tape.trans h.tape, k.output.trans h.output, Nat.le_trans h.size k.size, fun i hi hp => (k.block i (Nat.lt_of_lt_of_le hi h.size) (hq i hi hp)).trans (h.block i hi hp)⟩
theorem Keep.of_below {p : Nat → Prop} {w w' : World} (h : Below w.heap.size w w') : Keep p w w' := ⟨h.os, h.tape, h.output, h.size, fun k hk _ => h.block k hk⟩
theorem Keep.of_belowN {N : Nat} {w w' : World} (h : Below N w w') : Keep (fun k => k < N) w w' := ⟨h.os, h.tape, h.output, h.size, fun k _ hk => h.block k hk⟩
theorem Keep.of_grown {p : Nat → Prop} {w w' : World} {row : Option Nat} (h : w.grownBy w' row) (hr : ∀ k, k < w.heap.size → p k → some k ≠ row) : Keep p w w' := ⟨h.os, h.tape, h.output, h.size, fun k hk hp => h.block k hk (hr k hk hp)⟩
theorem block_add (a : Addr) (n : Nat) : (a.add n).block = a.block := by unfold Addr.add; split <;> rfl
theorem add_of_add (a : Addr) (i j : Nat) : (a.add i).add j = a.add (i + j) := by
  unfold Addr.add
  by_cases hi : i = 0 <;> by_cases hj : j = 0 <;> simp [hi, hj, Nat.add_assoc]
theorem add_off (a : Addr) {k j : Nat} (hj : 0 < j) : a.add (k + j) = ⟨(a.add k).block, (a.add k).off + j, none⟩ := by
  rw [← add_of_add]
  obtain ⟨B, o, s⟩ := a.add k
  unfold Addr.add
  split
  · rename_i h0
    omega
  · simp

/-- a prop's four cells -/
def encP (x : Pt) : List Value := [.string x.1, .int .i64 x.2.1, .int .i64 x.2.2.1, .string x.2.2.2]
def flatP (l : List Pt) : List Value := l.flatMap encP
theorem flatP_len (l : List Pt) : (flatP l).length = l.length * 4 := by simp [flatP, encP, List.length_flatMap, Function.comp_def, List.map_const']
theorem flatP_app (l m : List Pt) : flatP (l ++ m) = flatP l ++ flatP m := by simp [flatP]
theorem flatP_cons (x : Pt) (l : List Pt) : flatP (x :: l) = .string x.1 :: .int .i64 x.2.1 :: .int .i64 x.2.2.1 :: .string x.2.2.2 :: flatP l := by simp [flatP, encP]
theorem flatP_at : ∀ (l : List Pt) (k : Nat) (h : k < l.length), (flatP l)[k * 4]? = some (.string l[k].1) ∧ (flatP l)[k * 4 + 1]? = some (.int .i64 l[k].2.1) ∧ (flatP l)[k * 4 + 2]? = some (.int .i64 l[k].2.2.1) ∧ (flatP l)[k * 4 + 3]? = some (.string l[k].2.2.2)
  | x :: l, 0, h => by simp [flatP, encP]
  | x :: l, k + 1, h => by
    have := flatP_at l k (by simp at h; omega)
    simp only [List.getElem_cons_succ]
    rw [flatP_cons, show (k + 1) * 4 = k * 4 + 1 + 1 + 1 + 1 by omega, show k * 4 + 1 + 1 + 1 + 1 + 1 = (k * 4 + 1) + 1 + 1 + 1 + 1 by omega, show k * 4 + 1 + 1 + 1 + 1 + 2 = (k * 4 + 2) + 1 + 1 + 1 + 1 by omega, show k * 4 + 1 + 1 + 1 + 1 + 3 = (k * 4 + 3) + 1 + 1 + 1 + 1 by omega]
    simpa only [List.getElem?_cons_succ] using this
theorem flatP_one (l : List Pt) : ∀ v ∈ flatP l, v.oneCell' = true := by
  intro v hv
  obtain ⟨x, _, hx⟩ := List.mem_flatMap.1 hv
  simp [encP] at hx
  rcases hx with rfl | rfl | rfl | rfl <;> rfl

/-- the slice v holds just the props of l -/
def PR (w : World) (v : Value) (l : List Pt) : Prop :=
  ∃ A c, v = .slice A l.length c ∧ (0 < l.length → ∃ ad, A = some ad ∧ ad.block < w.heap.size ∧ ∀ j u, (flatP l)[j]? = some u → w.cell? (ad.add j) = some u)
theorem PR.keep {w w' : World} {v : Value} {l : List Pt} (h : PR w v l) {p : Nat → Prop} (hk : Keep p w w') (hp : 0 < l.length → ∀ g, v.ownBlock = some g → g < w.heap.size → p g) : PR w' v l := by
  obtain ⟨A, c, rfl, h⟩ := h
  refine ⟨A, c, rfl, fun hn => ?_⟩
  obtain ⟨ad, rfl, hg, hc⟩ := h hn
  have hb := hk.block _ hg (hp hn _ rfl hg)
  have hcell : ∀ j, w'.cell? (ad.add j) = w.cell? (ad.add j) := fun j => World.cell?_of_block (a := ad.add j) (by rw [block_add]; exact hb)
  exact ⟨ad, rfl, Nat.lt_of_lt_of_le hg hk.size, fun j u hj => (hcell j).trans (hc j u hj)⟩
theorem PR.below {w w' : World} {v : Value} {l : List Pt} (h : PR w v l) (hb : Below w.heap.size w w') : PR w' v l := h.keep (p := fun _ => True) (Keep.of_below hb) fun _ _ _ _ => trivial
theorem PR.gr {w w' : World} {v : Value} {l : List Pt} (h : PR w v l) (hb : Gr w w') : PR w' v l := h.below hb.below
theorem PR.lt {w : World} {v : Value} {l : List Pt} (h : PR w v l) : 0 < l.length → ∀ g, v.ownBlock = some g → g < w.heap.size := by
  obtain ⟨A, c, rfl, h⟩ := h
  intro hn g e
  obtain ⟨ad, rfl, hg, _⟩ := h hn
  simp [Value.ownBlock] at e
  omega
theorem PR.form {w : World} {v : Value} {l : List Pt} (h : PR w v l) : ∃ A c, v = .slice A l.length c := by
  obtain ⟨A, c, e, _⟩ := h
  exact ⟨A, c, e⟩
theorem PR.nil (w : World) (A : Option Addr) (c : Nat) : PR w (.slice A 0 c) [] := ⟨A, c, rfl, fun h => absurd h (by simp)⟩
theorem PR.of_own {w : World} {base n : Nat} {t : TypeId} {v : Value} {l : List Pt} (h : w.ownsRow base t 4 v n (flatP l)) : PR w v l := by
  have hn : n = l.length := by have := h.1; rw [flatP_len] at this; omega
  subst hn
  rcases h.2 with ⟨rfl, hx⟩ | ⟨g, cap, cur, rfl, _, hh, _⟩
  · have : l = [] := List.eq_nil_of_length_eq_zero hx
    subst this
    exact PR.nil w none 0
  · exact ⟨_, cap, rfl, fun _ => ⟨_, rfl, (Array.getElem?_eq_some_iff.1 hh).1, fun j u hj => h.cells (g := g) rfl _ _ hj⟩⟩
/-- a prop of the row, as the walk reads it -/
theorem PR.at4 {w : World} {A : Option Addr} {n c : Nat} {l : List Pt} (h : PR w (.slice A n c) l) {k : Nat} (hk : k < l.length) :
    ∃ ad, A = some ad ∧ ad.block < w.heap.size ∧ w.cell? (ad.add (k * 4)) = some (.string l[k].1) ∧ w.cell? ⟨(ad.add (k * 4)).block, (ad.add (k * 4)).off + 1, none⟩ = some (.int .i64 l[k].2.1) ∧ w.cell? ⟨(ad.add (k * 4)).block, (ad.add (k * 4)).off + 2, none⟩ = some (.int .i64 l[k].2.2.1) ∧ w.cell? ⟨(ad.add (k * 4)).block, (ad.add (k * 4)).off + 3, none⟩ = some (.string l[k].2.2.2) := by
  obtain ⟨A', c', e, h⟩ := h
  injection e with e1 e2 e3
  subst e1
  obtain ⟨ad, h1, h2, h3⟩ := h (by omega)
  obtain ⟨f0, f1, f2, f3⟩ := flatP_at l k hk
  refine ⟨ad, h1, h2, h3 _ _ f0, ?_, ?_, ?_⟩
  · rw [← add_off ad (by omega)]; exact h3 _ _ f1
  · rw [← add_off ad (by omega)]; exact h3 _ _ f2
  · rw [← add_off ad (by omega)]; exact h3 _ _ f3
theorem PR.take {w : World} {A : Option Addr} {n c : Nat} {l : List Pt} (h : PR w (.slice A n c) l) {k : Nat} (hk : k ≤ n) : PR w (.slice A k c) (l.take k) := by
  obtain ⟨A', c', e, h⟩ := h
  injection e with e1 e2 e3
  subst e1 e2 e3
  have hl : (l.take k).length = k := by rw [List.length_take, Nat.min_eq_left hk]
  refine ⟨A, c, by rw [hl], fun hn => ?_⟩
  obtain ⟨ad, h1, h2, h3⟩ := h (by omega)
  refine ⟨ad, h1, h2, fun j u hj => h3 j u ?_⟩
  have e : flatP l = flatP (l.take k) ++ flatP (l.drop k) := by rw [← flatP_app, List.take_append_drop]
  rw [e, List.getElem?_append_left (List.getElem?_eq_some_iff.1 hj).1]
  exact hj

theorem take_stepP {α : Type} {l1 l2 : List α} {k : Nat} (h : l1.take k = l2.take k) (h1 : k < l1.length) (h2 : k < l2.length) (he : l1[k] = l2[k]) : l1.take (k + 1) = l2.take (k + 1) := by
  rw [List.take_succ_eq_append_getElem h1, List.take_succ_eq_append_getElem h2, h, he]

theorem parts53 : (Try.prog.info? 53).map (fun i => (i.zero, i.size, i.bytes)) = some (some (.agg #[.string ⟨#[]⟩, .int .i64 0, .int .i64 0, .string ⟨#[]⟩]), 4, 48) := by kernel_rfl
end Go.Proofs.Ytpoefcpgcojppaa

namespace Go.Proofs.Ytpoefcpgcojppaa
open Go.ChangeShapes Go.WideShapes Go.ChangeAt Go.RowKit
set_option linter.unusedVariables false

theorem tl_iff (a b : ByteArray) : a.toList = b.toList ↔ a = b := ⟨fun h => data_inj (by rwa [ByteArray.toList_eq, ByteArray.toList_eq] at h), fun h => by rw [h]⟩
theorem eqIn53 (W : World) (d : Nat) (k k' : ByteArray) (a a' b b' : Int) (c c' : ByteArray) : (Op.equalIn (d + 1 + 1 + 1) 53 (.agg #[.string k, .int .i64 a, .int .i64 b, .string c]) (.agg #[.string k', .int .i64 a', .int .i64 b', .string c'])).run Try.prog W = .ok (decide ((k, a, b, c) = (k', a', b', c'))) W := by
  rw [run_equalIn_struct W (d + 1 + 1) 53 _ _ (by kernel_rfl) (by kernel_rfl)]
  simp [Program.fieldsOf, Try.underlying53, Op.eqFields, go_sem]
  simp only [tl_iff]
  by_cases h0 : k = k' <;> by_cases h1 : a = a' <;> by_cases h2 : b = b' <;> by_cases h3 : c = c' <;> simp [h0, h1, h2, h3]
theorem eq53 (W : World) (k k' : ByteArray) (a a' b b' : Int) (c c' : ByteArray) : (binOp .eql 53 (.agg #[.string k, .int .i64 a, .int .i64 b, .string c]) (.agg #[.string k', .int .i64 a', .int .i64 b', .string c'])).run Try.prog W = .ok (.bool (decide ((k, a, b, c) = (k', a', b', c')))) W := by
  rw [run_eql_struct, eqIn53]
  rfl
theorem ne53 (W : World) (k k' : ByteArray) (a a' b b' : Int) (c c' : ByteArray) : (binOp .neq 53 (.agg #[.string k, .int .i64 a, .int .i64 b, .string c]) (.agg #[.string k', .int .i64 a', .int .i64 b', .string c'])).run Try.prog W = .ok (.bool (!decide ((k, a, b, c) = (k', a', b', c')))) W := by
  rw [run_neq_struct, eqIn53]
  rfl
theorem ne53_eq (W : World) (k : ByteArray) (a b : Int) (c : ByteArray) : (binOp .neq 53 (.agg #[.string k, .int .i64 a, .int .i64 b, .string c]) (.agg #[.string k, .int .i64 a, .int .i64 b, .string c])).run Try.prog W = .ok (.bool false) W := by
  rw [ne53, decide_eq_true rfl]
  rfl
theorem ne53_not (W : World) {k k' : ByteArray} {a b : Int} {c : ByteArray} {a' b' : Int} {c' : ByteArray} (h : (k, a, b, c) ≠ (k', a', b', c')) : (binOp .neq 53 (.agg #[.string k, .int .i64 a, .int .i64 b, .string c]) (.agg #[.string k', .int .i64 a', .int .i64 b', .string c'])).run Try.prog W = .ok (.bool true) W := by
  rw [ne53, decide_eq_false h]
  rfl
theorem eq53_eq (W : World) (k : ByteArray) (a b : Int) (c : ByteArray) : (binOp .eql 53 (.agg #[.string k, .int .i64 a, .int .i64 b, .string c]) (.agg #[.string k, .int .i64 a, .int .i64 b, .string c])).run Try.prog W = .ok (.bool true) W := by
  rw [eq53, decide_eq_true rfl]

theorem sameP_ne (A B : Option Addr) (m n c d : Nat) (w : World) (h : m ≠ n) :
    Calls Try.prog 62 #[.slice A m c, .slice B n d] w fun e w' => e = .returned (.bool false) ∧ Gr w w' := by
  have h1 : ((m : Int) != n) = true := by rw [bne_iff_ne]; omega
  go_enter Try.func62, Try.ntmps62
  go_wp2_with fail
  go_ret
  exact ⟨rfl, Gr.refl _⟩

set_option maxHeartbeats 2000000 in
theorem sameP_any {w : World} {v1 v2 : Value} {x y : List Pt} (h1 : PR w v1 x) (h2 : PR w v2 y) (hn : x.length ≤ 281474976710656) :
    Calls Try.prog 62 #[v1, v2] w fun e w' => e = .returned (.bool (decide (x = y))) ∧ Gr w w' := by
  have H1 := Lib.hid h1
  have H2 := Lib.hid h2
  obtain ⟨A, c, rfl, _⟩ := h1
  obtain ⟨B, d, rfl, _⟩ := h2
  by_cases hl : x.length = y.length
  · obtain ⟨n, hN⟩ : ∃ n, x.length = n := ⟨_, rfl⟩
    have HN := Lib.hid (And.intro hN (hl.symm.trans hN))
    rw [← hl] at H2 ⊢
    rw [hN] at H1 H2 hn ⊢
    clear hN hl
    go_enter Try.func62, Try.ntmps62
    go_wp2_with fail
    go_loopw [5] (fun i wr => ∃ k : Nat, k ≤ n ∧ i = .int .i64 k ∧ x.take k = y.take k ∧ Gr w wr) (fun i _ => n - (Lib.intOf i).toNat)
    case atStart => exact ⟨0, Nat.zero_le _, rfl, by simp, Gr.refl _⟩
    case round =>
      obtain ⟨k, hk, rfl, ht, hb⟩ := hrel
      have HT := Lib.hid ht
      have HB := Lib.hid hb
      clear ht hb
      by_cases hlt : k < n
      · have e1 : k < x.length := by have := HN.out.1; omega
        have e2 : k < y.length := by have := HN.out.2; omega
        obtain ⟨ad, f1, _, q0, q1, q2, q3⟩ := PR.at4 (H1.out.gr HB.out) e1
        subst f1
        obtain ⟨ad2, f2, _, r0, r1, r2, r3⟩ := PR.at4 (H2.out.gr HB.out) e2
        subst f2
        obtain ⟨p, hp⟩ : ∃ p, x[k] = p := ⟨_, rfl⟩
        obtain ⟨q, hq⟩ : ∃ q, y[k] = q := ⟨_, rfl⟩
        rw [hp] at q0 q1 q2 q3
        rw [hq] at r0 r1 r2 r3
        have HX := Lib.hid hp
        have HY := Lib.hid hq
        clear hp hq
        obtain ⟨p0, p1, p2, p3⟩ := p
        obtain ⟨s0, s1, s2, s3⟩ := q
        by_cases hxy : (p0, p1, p2, p3) = (s0, s1, s2, s3)
        · have HXY := Lib.hid hxy
          injection hxy with z0 z1
          injection z1 with z1 z2
          injection z2 with z2 z3
          subst z0 z1 z2 z3
          have hne := fun W => ne53_eq W p0 p1 p2 p3
          go_upto_region 6 with (fail)
          go_quiet (fail)
          have HBQ := Lib.hid (HB.out.drewN nq)
          clear q0 q1 q2 q3 r0 r1 r2 r3 hne
          generalize wr.drewN nq = WT at *
          go_wp2_with fail
          go_roundw
          case rel => exact ⟨k + 1, by omega, by go_num, take_stepP HT.out e1 e2 (HX.out.trans HY.out.symm), HBQ.out⟩
          case measure => simp [Lib.intOf]; omega
        · have hne := fun W => ne53_not W hxy
          have HXY := Lib.hid hxy
          clear hxy
          go_upto_region 6 with (fail)
          go_quiet (fail)
          have HBQ := Lib.hid (HB.out.drewN nq)
          clear q0 q1 q2 q3 r0 r1 r2 r3 hne
          generalize wr.drewN nq = WT at *
          go_wp2_with fail
          go_ret
          refine ⟨ret_bool ?_, HBQ.out⟩
          symm
          rw [decide_eq_false_iff_not]
          rintro rfl
          exact HXY.out (HX.out.symm.trans HY.out)
      · have : k = n := by omega
        subst this
        go_wp2_with fail
        go_ret
        refine ⟨ret_bool ?_, HB.out⟩
        symm
        rw [decide_eq_true_iff]
        have h := HT.out
        rwa [List.take_of_length_le (by have := HN.out.1; omega), List.take_of_length_le (by have := HN.out.2; omega)] at h
  · rw [decide_eq_false (fun h => hl (by rw [h]))]
    exact sameP_ne A B _ _ c d w hl

/-! ### edges -/
def Ed.v (e : Ed) (pv : Value) : Value := .agg #[.string e.src, .string e.dst, .string e.lab, .int .i64 e.time, pv]
theorem Ed.v_key (e : Ed) (pv : Value) : e.v pv = eV e.key pv := rfl
theorem ed_ext {x y : Ed} : x = y ↔ x.src = y.src ∧ x.dst = y.dst ∧ x.lab = y.lab ∧ x.time = y.time ∧ x.props = y.props := by
  cases x; cases y; simp

set_option maxHeartbeats 2000000 in
theorem sameE_any {w : World} {v1 v2 : Value} {x y : Ed} (h1 : PR w v1 x.props) (h2 : PR w v2 y.props) (hn : x.props.length ≤ 281474976710656) :
    Calls Try.prog 27 #[x.v v1, y.v v2] w fun e w' => e = .returned (.bool (decide (x = y))) ∧ Gr w w' := by
  have hsp : ∀ W, Gr w W → Calls Try.prog 62 #[v1, v2] W fun e w' => e = .returned (.bool (decide (x.props = y.props))) ∧ Gr W w' := fun W hW => sameP_any (h1.gr hW) (h2.gr hW) hn
  have HS := Lib.hid hsp
  obtain ⟨s1, d1, l1, t1, p1⟩ := x
  obtain ⟨s2, d2, l2, t2, p2⟩ := y
  unfold Ed.v
  simp only at HS ⊢
  clear hsp h1 h2 hn
  have hg0 : ∀ x y : Value, Gr w ((w.alloc (.cells #[.string s1, .string d1, .string l1, .int .i64 t1, x] 24)).alloc (.cells #[.string s2, .string d2, .string l2, .int .i64 t2, y] 24)) := fun x y => ((Gr.refl w).alloc _).alloc _
  have HG0 := Lib.hid hg0
  clear hg0
  by_cases e1 : s1 = s2
  · subst e1
    by_cases e2 : d1 = d2
    · subst e2
      by_cases e3 : l1 = l2
      · subst e3
        by_cases e4 : t1 = t2
        · subst e4
          have HE := Lib.hid (show decide (p1 = p2) = decide ((⟨s1, d1, l1, t1, p1⟩ : Ed) = ⟨s1, d1, l1, t1, p2⟩) by rw [decide_eq_decide, ed_ext]; simp)
          go_enter Try.func27, Try.ntmps27
          go_wp2_with (go_at_call 62; refine (HS.out _ (HG0.out _ _)).mono ?_; rintro e w1 ⟨rfl, hg⟩)
          go_ret
          exact ⟨ret_bool HE.out, (HG0.out _ _).trans hg⟩
        · have HE := Lib.hid (show false = decide ((⟨s1, d1, l1, t1, p1⟩ : Ed) = ⟨s1, d1, l1, t2, p2⟩) by symm; rw [decide_eq_false_iff_not, ed_ext]; simp [e4])
          have e4' : (t1 == t2) = false := by simpa using e4
          clear e4
          go_enter Try.func27, Try.ntmps27
          go_wp2_with fail
          go_ret
          exact ⟨ret_bool HE.out, HG0.out _ _⟩
      · have HE := Lib.hid (show false = decide ((⟨s1, d1, l1, t1, p1⟩ : Ed) = ⟨s1, d1, l2, t2, p2⟩) by symm; rw [decide_eq_false_iff_not, ed_ext]; simp [e3])
        have e3' : (l1.toList == l2.toList) = false := by rw [beqS, decide_eq_false e3]
        clear e3
        go_enter Try.func27, Try.ntmps27
        go_wp2_with fail
        go_ret
        exact ⟨ret_bool HE.out, HG0.out _ _⟩
    · have HE := Lib.hid (show false = decide ((⟨s1, d1, l1, t1, p1⟩ : Ed) = ⟨s1, d2, l2, t2, p2⟩) by symm; rw [decide_eq_false_iff_not, ed_ext]; simp [e2])
      have e2' : (d1.toList == d2.toList) = false := by rw [beqS, decide_eq_false e2]
      clear e2
      go_enter Try.func27, Try.ntmps27
      go_wp2_with fail
      go_ret
      exact ⟨ret_bool HE.out, HG0.out _ _⟩
  · have HE := Lib.hid (show false = decide ((⟨s1, d1, l1, t1, p1⟩ : Ed) = ⟨s2, d2, l2, t2, p2⟩) by symm; rw [decide_eq_false_iff_not, ed_ext]; simp [e1])
    have e1' : (s1.toList == s2.toList) = false := by rw [beqS, decide_eq_false e1]
    clear e1
    go_enter Try.func27, Try.ntmps27
    go_wp2_with fail
    go_ret
    exact ⟨ret_bool HE.out, HG0.out _ _⟩
end Go.Proofs.Ytpoefcpgcojppaa

namespace Go.Proofs.Ytpoefcpgcojppaa
open Go.ChangeShapes Go.WideShapes Go.ChangeAt Go.RowKit
set_option linter.unusedVariables false

def byC (l : List UInt8) : List Value := l.map fun b => .int .u8 b.toNat
theorem byC_len (l : List UInt8) : (byC l).length = l.length := by simp [byC]
theorem byC_app (l m : List UInt8) : byC (l ++ m) = byC l ++ byC m := by simp [byC]
theorem byC_str (s : ByteArray) : Lib.strCells s = byC s.data.toList := rfl
theorem byC_one (l : List UInt8) : ∀ u ∈ byC l, u.oneCell' = true := by
  intro u hu
  simp only [byC, List.mem_map] at hu
  obtain ⟨b, _, rfl⟩ := hu
  rfl
theorem byC_at (l : List UInt8) (k : Nat) (h : k < l.length) : (byC l)[k]? = some (.int .u8 l[k].toNat) := by
  simp [byC, h]
/-- the slice v holds just the bytes of l -/
def BR (w : World) (v : Value) (l : List UInt8) : Prop :=
  ∃ A c, v = .slice A l.length c ∧ (0 < l.length → ∃ ad, A = some ad ∧ ad.block < w.heap.size ∧ ∀ j u, (byC l)[j]? = some u → w.cell? (ad.add j) = some u)
theorem BR.keep {w w' : World} {v : Value} {l : List UInt8} (h : BR w v l) {p : Nat → Prop} (hk : Keep p w w') (hp : 0 < l.length → ∀ g, v.ownBlock = some g → g < w.heap.size → p g) : BR w' v l := by
  obtain ⟨A, c, rfl, h⟩ := h
  refine ⟨A, c, rfl, fun hn => ?_⟩
  obtain ⟨ad, rfl, hg, hc⟩ := h hn
  have hb := hk.block _ hg (hp hn _ rfl hg)
  have hcell : ∀ j, w'.cell? (ad.add j) = w.cell? (ad.add j) := fun j => World.cell?_of_block (a := ad.add j) (by rw [block_add]; exact hb)
  exact ⟨ad, rfl, Nat.lt_of_lt_of_le hg hk.size, fun j u hj => (hcell j).trans (hc j u hj)⟩
theorem BR.below {w w' : World} {v : Value} {l : List UInt8} (h : BR w v l) (hb : Below w.heap.size w w') : BR w' v l := h.keep (p := fun _ => True) (Keep.of_below hb) fun _ _ _ _ => trivial
theorem BR.gr {w w' : World} {v : Value} {l : List UInt8} (h : BR w v l) (hb : Gr w w') : BR w' v l := h.below hb.below
theorem BR.form {w : World} {v : Value} {l : List UInt8} (h : BR w v l) : ∃ A c, v = .slice A l.length c := by
  obtain ⟨A, c, e, _⟩ := h
  exact ⟨A, c, e⟩
theorem BR.nil (w : World) (A : Option Addr) (c : Nat) : BR w (.slice A 0 c) [] := ⟨A, c, rfl, fun h => absurd h (by simp)⟩
theorem BR.of_own {w : World} {base n : Nat} {t : TypeId} {v : Value} {l : List UInt8} (h : w.ownsRow base t 1 v n (byC l)) : BR w v l := by
  have hn : n = l.length := by have := h.1; rw [byC_len] at this; omega
  subst hn
  rcases h.2 with ⟨rfl, hx⟩ | ⟨g, cap, cur, rfl, _, hh, _⟩
  · have : l = [] := List.eq_nil_of_length_eq_zero hx
    subst this
    exact BR.nil w none 0
  · exact ⟨_, cap, rfl, fun _ => ⟨_, rfl, (Array.getElem?_eq_some_iff.1 hh).1, fun j u hj => h.cells (g := g) rfl _ _ hj⟩⟩
theorem BR.at1 {w : World} {A : Option Addr} {n c : Nat} {l : List UInt8} (h : BR w (.slice A n c) l) {k : Nat} (hk : k < l.length) :
    ∃ ad, A = some ad ∧ ad.block < w.heap.size ∧ w.cell? (ad.add k) = some (.int .u8 l[k].toNat) := by
  obtain ⟨A', c', e, h⟩ := h
  injection e with e1 e2 e3
  subst e1
  obtain ⟨ad, h1, h2, h3⟩ := h (by omega)
  exact ⟨ad, h1, h2, h3 _ _ (byC_at l k hk)⟩

theorem sameB_ne (A B : Option Addr) (m n c d : Nat) (w : World) (h : m ≠ n) :
    Calls Try.prog 22 #[.slice A m c, .slice B n d] w fun e w' => e = .returned (.bool false) ∧ Gr w w' := by
  have h1 : ((m : Int) != n) = true := by rw [bne_iff_ne]; omega
  go_enter Try.func22, Try.ntmps22
  go_wp2_with fail
  go_ret
  exact ⟨rfl, Gr.refl _⟩

set_option maxHeartbeats 2000000 in
theorem sameB_any {w : World} {v1 v2 : Value} {x y : List UInt8} (h1 : BR w v1 x) (h2 : BR w v2 y) (hn : x.length ≤ 281474976710656) :
    Calls Try.prog 22 #[v1, v2] w fun e w' => e = .returned (.bool (decide (x = y))) ∧ Gr w w' := by
  have H1 := Lib.hid h1
  have H2 := Lib.hid h2
  obtain ⟨A, c, rfl, _⟩ := h1
  obtain ⟨B, d, rfl, _⟩ := h2
  by_cases hl : x.length = y.length
  · obtain ⟨n, hN⟩ : ∃ n, x.length = n := ⟨_, rfl⟩
    have HN := Lib.hid (And.intro hN (hl.symm.trans hN))
    rw [← hl] at H2 ⊢
    rw [hN] at H1 H2 hn ⊢
    clear hN hl
    go_enter Try.func22, Try.ntmps22
    go_wp2_with fail
    go_loopw [5] (fun i wr => ∃ k : Nat, k ≤ n ∧ i = .int .i64 k ∧ x.take k = y.take k ∧ Gr w wr) (fun i _ => n - (Lib.intOf i).toNat)
    case atStart => exact ⟨0, Nat.zero_le _, rfl, by simp, Gr.refl _⟩
    case round =>
      obtain ⟨k, hk, rfl, ht, hb⟩ := hrel
      have HT := Lib.hid ht
      have HB := Lib.hid hb
      clear ht hb
      by_cases hlt : k < n
      · have e1 : k < x.length := by have := HN.out.1; omega
        have e2 : k < y.length := by have := HN.out.2; omega
        obtain ⟨ad, f1, _, q0⟩ := BR.at1 (H1.out.gr HB.out) e1
        subst f1
        obtain ⟨ad2, f2, _, r0⟩ := BR.at1 (H2.out.gr HB.out) e2
        subst f2
        obtain ⟨p, hp⟩ : ∃ p, x[k] = p := ⟨_, rfl⟩
        obtain ⟨q, hq⟩ : ∃ q, y[k] = q := ⟨_, rfl⟩
        rw [hp] at q0
        rw [hq] at r0
        have HX := Lib.hid hp
        have HY := Lib.hid hq
        clear hp hq
        by_cases hxy : p = q
        · have HXY := Lib.hid hxy
          subst hxy
          go_upto_region 6 with (fail)
          go_quiet (fail)
          have HBQ := Lib.hid (HB.out.drewN nq)
          clear q0 r0
          generalize wr.drewN nq = WT at *
          go_wp2_with fail
          go_roundw
          case rel => exact ⟨k + 1, by omega, by go_num, take_stepP HT.out e1 e2 (HX.out.trans HY.out.symm), HBQ.out⟩
          case measure => simp [Lib.intOf]; omega
        · have hne : ((p.toNat : Int) != (q.toNat : Int)) = true := by rw [bne_iff_ne]; intro h; exact hxy (UInt8.toNat_inj.1 (by omega))
          have HXY := Lib.hid hxy
          clear hxy
          go_upto_region 6 with (fail)
          go_quiet (fail)
          have HBQ := Lib.hid (HB.out.drewN nq)
          clear q0 r0 hne
          generalize wr.drewN nq = WT at *
          go_wp2_with fail
          go_ret
          refine ⟨ret_bool ?_, HBQ.out⟩
          symm
          rw [decide_eq_false_iff_not]
          rintro rfl
          exact HXY.out (HX.out.symm.trans HY.out)
      · have : k = n := by omega
        subst this
        go_wp2_with fail
        go_ret
        refine ⟨ret_bool ?_, HB.out⟩
        symm
        rw [decide_eq_true_iff]
        have h := HT.out
        rwa [List.take_of_length_le (by have := HN.out.1; omega), List.take_of_length_le (by have := HN.out.2; omega)] at h
  · rw [decide_eq_false (fun h => hl (by rw [h]))]
    exact sameB_ne A B _ _ c d w hl

/-! ### times -/
def timeB (t : Int) : Bool := decide (0 ≤ t ∧ t ≤ 1099511627776)
theorem within1 (lo hi x : Int) (b : Nat) (w : World) (hc : w.cell? ⟨b, 0, none⟩ = some (.int .i64 x)) :
    Calls Try.prog 74 #[.int .i64 lo, .int .i64 hi, .slice (some ⟨b, 0, none⟩) 1 1] w fun e w' => e = .returned (.bool (decide (lo ≤ x ∧ x ≤ hi))) ∧ w' = w := by
  have h : x < lo ∨ (lo ≤ x ∧ hi < x) ∨ (lo ≤ x ∧ x ≤ hi) := by omega
  rcases h with h | h | h
  · go_enter Try.func74, Try.ntmps74
    go_wp2
    go_rounds 2
    go_ret
    exact ⟨ret_bool (by simp; omega), rfl⟩
  · obtain ⟨h1, h2⟩ := h
    go_enter Try.func74, Try.ntmps74
    go_wp2
    go_rounds 2
    go_ret
    exact ⟨ret_bool (by simp; omega), rfl⟩
  · obtain ⟨h1, h2⟩ := h
    go_enter Try.func74, Try.ntmps74
    go_wp2
    go_rounds 2
    go_ret
    exact ⟨ret_bool (by simp; omega), rfl⟩
theorem is_any (t : Int) (w : World) : Calls Try.prog 46 #[.int .i64 t] w fun e w' => e = .returned (.bool (timeB t)) ∧ Gr w w' := by
  go_enter Try.func46, Try.ntmps46
  go_wp2_with (go_at_call 74; refine (within1 _ _ t _ _ (by go_cell)).mono ?_; rintro e w' ⟨rfl, rfl⟩)
  go_ret
  exact ⟨ret_bool (by simp [timeB]), (Gr.refl w).alloc _⟩
theorem rIs_any (t : Int) (w : World) : Calls Try.prog 50 #[.int .i64 t] w fun e w' => e = .returned (.bool (timeB t)) ∧ Gr w w' := by
  have h : t < 0 ∨ (0 ≤ t ∧ 1099511627776 < t) ∨ (0 ≤ t ∧ t ≤ 1099511627776) := by omega
  rcases h with h | ⟨h1, h2⟩ | ⟨h1, h2⟩
  all_goals
    go_enter Try.func50, Try.ntmps50
    go_wp2
    go_ret
    exact ⟨ret_bool (by simp [timeB]; try omega), Gr.refl w⟩
end Go.Proofs.Ytpoefcpgcojppaa

namespace Go.Proofs.Ytpoefcpgcojppaa
set_option linter.unusedVariables false

def oct (n : Int) : UInt8 := UInt8.ofNat (n % 256).toNat
theorem oct_int (n : Int) : ((oct n).toNat : Int) = n % 256 := by
  unfold oct
  rw [UInt8.toNat_ofNat']
  omega
theorem oct_of (c : UInt8) : oct (c.toNat : Int) = c := by
  apply UInt8.toNat_inj.1
  have := oct_int (c.toNat : Int)
  have h2 := c.toNat_lt
  omega
def txt (s : ByteArray) : List UInt8 := oct s.size :: s.data.toList
def num6 (n : Int) : List UInt8 := [oct (n / 1099511627776), oct (n / 4294967296), oct (n / 16777216), oct (n / 65536), oct (n / 256), oct n]
def valB (v : Vt) : List UInt8 := oct v.1 :: (if v.1 = 1 then num6 (v.2.1 + 1099511627776) else txt v.2.2)
def propB (p : Pt) : List UInt8 := txt p.1 ++ valB p.2
def propsB (l : List Pt) : List UInt8 := l.flatMap propB
def headB (e : Ed) : List UInt8 := txt e.src ++ txt e.dst ++ txt e.lab ++ num6 e.time
def putE (e : Ed) : List UInt8 := headB e ++ [oct e.props.length] ++ propsB e.props

theorem data_mk (s : ByteArray) : (⟨s.data.toList.toArray⟩ : ByteArray) = s := by
  apply ByteArray.ext
  simp
theorem data_size (s : ByteArray) : s.data.toList.length = s.size := Array.length_toList

/-! ### as the program reads -/
def beN (l : List UInt8) : Int := l.foldl (fun s c => s * 256 + (c.toNat : Int)) 0
def bT (l : List UInt8) : ByteArray := ⟨l.toArray⟩
def rdT (b : List UInt8) : ByteArray × List UInt8 := (bT ((b.drop 1).take (beN (b.take 1)).toNat), (b.drop 1).drop (beN (b.take 1)).toNat)
def rdV (b : List UInt8) : Vt × List UInt8 :=
  if beN (b.take 1) = 1 then ((1, beN ((b.drop 1).take 6) - 1099511627776, ⟨#[]⟩), (b.drop 1).drop 6)
  else if beN (b.take 1) = 2 then ((2, 0, (rdT (b.drop 1)).1), (rdT (b.drop 1)).2)
  else ((0, 0, ⟨#[]⟩), b.drop 1)
def rdP (b : List UInt8) : Pt × List UInt8 := (((rdT b).1, (rdV (rdT b).2).1), (rdV (rdT b).2).2)
def rdPs : Nat → List UInt8 → List Pt × List UInt8
  | 0, b => ([], b)
  | n + 1, b => ((rdPs n b).1 ++ [(rdP (rdPs n b).2).1], (rdP (rdPs n b).2).2)
def g1 (b : List UInt8) : List UInt8 := (rdT b).2
def g2 (b : List UInt8) : List UInt8 := (rdT (g1 b)).2
def g3 (b : List UInt8) : List UInt8 := (rdT (g2 b)).2
def g4 (b : List UInt8) : List UInt8 := (g3 b).drop 6
def g5 (b : List UInt8) : List UInt8 := (g4 b).drop 1
def gN (b : List UInt8) : Nat := (beN ((g4 b).take 1)).toNat
def guess (b : List UInt8) : Ed := ⟨(rdT b).1, (rdT (g1 b)).1, (rdT (g2 b)).1, beN ((g3 b).take 6), (rdPs (gN b) (g5 b)).1⟩

theorem beN_one (c : UInt8) (r : List UInt8) : beN ((c :: r).take 1) = c.toNat := by simp [beN]
theorem beN_nonneg : ∀ (l : List UInt8) (s : Int), 0 ≤ s → 0 ≤ l.foldl (fun s c => s * 256 + (c.toNat : Int)) s
  | [], s, h => h
  | c :: l, s, h => beN_nonneg l _ (by show (0 : Int) ≤ s * 256 + (c.toNat : Int); omega)
theorem beN_num (n : Int) (h0 : 0 ≤ n) (h1 : n < 281474976710656) : beN (num6 n) = n := by
  simp only [beN, num6, List.foldl_cons, List.foldl_nil, oct_int]
  omega
theorem num6_len (n : Int) : (num6 n).length = 6 := rfl
theorem beN_take6 (n : Int) (r : List UInt8) (h0 : 0 ≤ n) (h1 : n < 281474976710656) : beN ((num6 n ++ r).take 6) = n ∧ (num6 n ++ r).drop 6 = r := by
  rw [← num6_len n, List.take_left, List.drop_left]
  exact ⟨beN_num n h0 h1, rfl⟩
theorem rdT_put (s : ByteArray) (r : List UInt8) (h : s.size < 256) : rdT (txt s ++ r) = (s, r) := by
  have e1 : beN ((txt s ++ r).take 1) = s.size := by
    unfold txt
    rw [List.cons_append, beN_one, oct_int]
    omega
  have e2 : (txt s ++ r).drop 1 = s.data.toList ++ r := by unfold txt; rfl
  unfold rdT
  rw [e1, e2, Int.toNat_natCast, ← data_size s, List.take_left, List.drop_left]
  unfold bT
  rw [data_mk]
theorem right_cases {v : Vt} (h : rightV v = true) : (∃ n : Int, v = (1, n, ⟨#[]⟩) ∧ -1099511627776 ≤ n ∧ n ≤ 1099511627776) ∨ (∃ t, v = (2, 0, t) ∧ isT t = true) := by
  obtain ⟨k, n, t⟩ := v
  simp only [rightV, Bool.or_eq_true, Bool.and_eq_true, decide_eq_true_eq] at h
  rcases h with ⟨rfl, ⟨h1, h2⟩, rfl⟩ | ⟨rfl, rfl, h2⟩
  · exact .inl ⟨n, rfl, h1, h2⟩
  · exact .inr ⟨t, rfl, h2⟩
theorem isT_size {t : ByteArray} (h : isT t = true) : t.size ≤ 40 := by
  unfold isT at h
  rw [Bool.and_eq_true, decide_eq_true_eq] at h
  exact h.1
theorem verB_size {s : ByteArray} (h : verB s = true) : s.size ≤ 20 := by
  unfold verB at h
  rw [Bool.and_eq_true, decide_eq_true_eq] at h
  exact h.1.2
theorem freB_ver {s : ByteArray} (h : freB s = true) : verB s = true := by
  unfold freB at h
  rw [Bool.and_eq_true] at h
  exact h.1
theorem rdV_put {v : Vt} (h : rightV v = true) (r : List UInt8) : rdV (valB v ++ r) = (v, r) := by
  rcases right_cases h with ⟨n, rfl, h1, h2⟩ | ⟨t, rfl, h1⟩
  · have e : valB (1, n, ⟨#[]⟩) ++ r = oct 1 :: (num6 (n + 1099511627776) ++ r) := by simp [valB]
    obtain ⟨a1, a2⟩ := beN_take6 (n + 1099511627776) r (by omega) (by omega)
    unfold rdV
    rw [e, beN_one, if_pos (by rw [oct_int]; rfl)]
    simp only [List.drop_one, List.tail_cons]
    rw [a1, a2]
    simp only [Prod.mk.injEq, true_and, and_true]
    omega
  · have e : valB (2, 0, t) ++ r = oct 2 :: (txt t ++ r) := by simp [valB]
    have a := rdT_put t r (by have := isT_size h1; omega)
    unfold rdV
    rw [e, beN_one, if_neg (by rw [oct_int]; decide), if_pos (by rw [oct_int]; rfl)]
    simp only [List.drop_one, List.tail_cons]
    rw [a]
theorem rdP_put {p : Pt} (h1 : freB p.1 = true) (h2 : rightV p.2 = true) (r : List UInt8) : rdP (propB p ++ r) = (p, r) := by
  have hs := verB_size (freB_ver h1)
  unfold rdP propB
  rw [List.append_assoc, rdT_put _ _ (by omega), rdV_put h2]
theorem propsB_snoc (l : List Pt) (p : Pt) : propsB (l ++ [p]) = propsB l ++ propB p := by simp [propsB]
theorem rdPs_put (l : List Pt) (r : List UInt8) (h : ∀ p ∈ l, freB p.1 = true ∧ rightV p.2 = true) : ∀ k, k ≤ l.length → rdPs k (propsB l ++ r) = (l.take k, propsB (l.drop k) ++ r)
  | 0, _ => by simp [rdPs]
  | k + 1, hk => by
    have ih := rdPs_put l r h k (by omega)
    have e : l.drop k = l[k] :: l.drop (k + 1) := List.drop_eq_getElem_cons (by omega)
    have e2 : propsB (l.drop k) = propB l[k] ++ propsB (l.drop (k + 1)) := by rw [e]; exact List.flatMap_cons
    have hp := h l[k] (List.getElem_mem _)
    unfold rdPs
    rw [ih, e2, List.append_assoc, rdP_put hp.1 hp.2, List.take_succ_eq_append_getElem (by omega)]

/-! ### whether an edge is right -/
def okAt (l : List Pt) (k : Nat) (h : k < l.length) : Prop := freB l[k].1 = true ∧ rightV l[k].2 = true ∧ (0 < k → cmpB (l[k - 1]'(by omega)).1 l[k].1 = -1)
def areP (l : List Pt) : Prop := l.length ≤ 8 ∧ ∀ k (h : k < l.length), okAt l k h
open Classical in
noncomputable def areB (l : List Pt) : Bool := decide (areP l)
theorem areB_iff (l : List Pt) : areB l = true ↔ areP l := by simp [areB]
theorem areB_not (l : List Pt) (h : ¬ areP l) : areB l = false := by simp [areB, h]
open Classical in
noncomputable def checkE (e : Ed) : Int := if verB e.src = true ∧ verB e.dst = true ∧ freB e.lab = true ∧ areP e.props then (if timeB e.time = true then 0 else 6) else 2
theorem check_ok {e : Ed} : checkE e = 0 ↔ (verB e.src = true ∧ verB e.dst = true ∧ freB e.lab = true ∧ areP e.props) ∧ timeB e.time = true := by
  unfold checkE
  constructor
  · intro h
    split at h
    · rename_i h1
      split at h
      · rename_i h2
        exact ⟨h1, h2⟩
      · omega
    · omega
  · rintro ⟨h1, h2⟩
    rw [if_pos h1, if_pos h2]
theorem areP_mem {l : List Pt} (h : areP l) : ∀ p ∈ l, freB p.1 = true ∧ rightV p.2 = true := by
  intro p hp
  obtain ⟨k, hk, rfl⟩ := List.getElem_of_mem hp
  exact ⟨(h.2 k hk).1, (h.2 k hk).2.1⟩

def zeroE : Ed := ⟨⟨#[]⟩, ⟨#[]⟩, ⟨#[]⟩, 0, []⟩
open Classical in
noncomputable def parseE (b : List UInt8) : Ed × Int := if checkE (guess b) = 0 ∧ putE (guess b) = b then (guess b, 0) else (zeroE, 4)

theorem guess_put {e : Ed} (h : checkE e = 0) : guess (putE e) = e := by
  obtain ⟨⟨h1, h2, h3, h4⟩, h5⟩ := check_ok.1 h
  have s1 := verB_size h1
  have s2 := verB_size h2
  have s3 := verB_size (freB_ver h3)
  have s4 := h4.1
  unfold timeB at h5
  rw [decide_eq_true_eq] at h5
  have e0 : putE e = txt e.src ++ (txt e.dst ++ (txt e.lab ++ (num6 e.time ++ (oct e.props.length :: (propsB e.props ++ []))))) := by simp [putE, headB]
  have a1 := rdT_put e.src (txt e.dst ++ (txt e.lab ++ (num6 e.time ++ (oct e.props.length :: (propsB e.props ++ []))))) (by omega)
  have a2 := rdT_put e.dst (txt e.lab ++ (num6 e.time ++ (oct e.props.length :: (propsB e.props ++ [])))) (by omega)
  have a3 := rdT_put e.lab (num6 e.time ++ (oct e.props.length :: (propsB e.props ++ []))) (by omega)
  obtain ⟨a4, a5⟩ := beN_take6 e.time (oct e.props.length :: (propsB e.props ++ [])) h5.1 (by omega)
  have b1 : g1 (putE e) = txt e.dst ++ (txt e.lab ++ (num6 e.time ++ (oct e.props.length :: (propsB e.props ++ [])))) := by unfold g1; rw [e0, a1]
  have b2 : g2 (putE e) = txt e.lab ++ (num6 e.time ++ (oct e.props.length :: (propsB e.props ++ []))) := by unfold g2; rw [b1, a2]
  have b3 : g3 (putE e) = num6 e.time ++ (oct e.props.length :: (propsB e.props ++ [])) := by unfold g3; rw [b2, a3]
  have b4 : g4 (putE e) = oct e.props.length :: (propsB e.props ++ []) := by unfold g4; rw [b3, a5]
  have b5 : g5 (putE e) = propsB e.props ++ [] := by unfold g5; rw [b4]; rfl
  have bN : gN (putE e) = e.props.length := by unfold gN; rw [b4, beN_one, oct_int]; omega
  unfold guess
  rw [bN, b5, rdPs_put e.props [] (areP_mem h4) e.props.length (Nat.le_refl _), b3, a4, b2, a3, b1, a2, e0, a1]
  simp

theorem parse_put {e : Ed} (h : checkE e = 0) : parseE (putE e) = (e, 0) := by
  unfold parseE
  rw [guess_put h, if_pos ⟨h, rfl⟩]
theorem parse_cases (b : List UInt8) : (checkE (guess b) = 0 ∧ putE (guess b) = b ∧ parseE b = (guess b, 0)) ∨ ((∀ e, checkE e = 0 → putE e ≠ b) ∧ parseE b = (zeroE, 4)) := by
  unfold parseE
  by_cases h : checkE (guess b) = 0 ∧ putE (guess b) = b
  · exact .inl ⟨h.1, h.2, by rw [if_pos h]⟩
  · refine .inr ⟨fun e he hb => h ?_, by rw [if_neg h]⟩
    have := guess_put he
    rw [hb] at this
    rw [this]
    exact ⟨he, hb⟩
theorem put_inj {e e' : Ed} (h : checkE e = 0) (h' : checkE e' = 0) (hb : putE e = putE e') : e = e' := by
  rw [← guess_put h, hb, guess_put h']

/-! ### as the document reads -/
abbrev Rs := List UInt8 × Bool
def tk (n : Nat) (s : Rs) : List UInt8 × Rs := if s.2 = true ∨ s.1.length < n then (List.replicate n 0, (s.1, true)) else (s.1.take n, (s.1.drop n, false))
theorem tk_len (n : Nat) (s : Rs) : (tk n s).1.length = n := by
  unfold tk
  split
  · simp
  · rename_i h
    simp
    omega
def b0 (l : List UInt8) : UInt8 := l.getD 0 0
def rT (s : Rs) : ByteArray × Rs := (bT (tk (b0 (tk 1 s).1).toNat (tk 1 s).2).1, (tk (b0 (tk 1 s).1).toNat (tk 1 s).2).2)
def rN (s : Rs) : Int × Rs := (beN (tk 6 s).1, (tk 6 s).2)
def rV (s : Rs) : Vt × Rs := if ((b0 (tk 1 s).1).toNat : Int) = 1 then ((1, (rN (tk 1 s).2).1 - 1099511627776, ⟨#[]⟩), (rN (tk 1 s).2).2) else (((b0 (tk 1 s).1).toNat, 0, (rT (tk 1 s).2).1), (rT (tk 1 s).2).2)
def rP (s : Rs) : Pt × Rs := (((rT s).1, (rV (rT s).2).1), (rV (rT s).2).2)
def rPs : Nat → Rs → List Pt × Rs
  | 0, s => ([], s)
  | n + 1, s => ((rPs n s).1 ++ [(rP (rPs n s).2).1], (rP (rPs n s).2).2)
def h1 (s : Rs) : Rs := (rT s).2
def h2 (s : Rs) : Rs := (rT (h1 s)).2
def h3 (s : Rs) : Rs := (rT (h2 s)).2
def h4 (s : Rs) : Rs := (rN (h3 s)).2
def h5 (s : Rs) : Rs := (tk 1 (h4 s)).2
def hN (s : Rs) : Nat := (b0 (tk 1 (h4 s)).1).toNat
def rE (s : Rs) : Ed × Rs := (⟨(rT s).1, (rT (h1 s)).1, (rT (h2 s)).1, (rN (h3 s)).1, (rPs (hN s) (h5 s)).1⟩, (rPs (hN s) (h5 s)).2)
open Classical in
noncomputable def rParse (b : List UInt8) : Ed × Int := if (rE (b, false)).2.2 = true ∨ (rE (b, false)).2.1 ≠ [] ∨ checkE (rE (b, false)).1 ≠ 0 then (zeroE, 4) else ((rE (b, false)).1, 0)

/-- x was read of s, its bytes are l, if it was not bad -/
def Rd {α : Type} (enc : α → List UInt8) (s : Rs) (r : α × Rs) : Prop := r.2.2 = false → s.2 = false ∧ s.1 = enc r.1 ++ r.2.1
theorem tk_rd (n : Nat) (s : Rs) : Rd (fun l => l) s (tk n s) := by
  intro h
  unfold tk at h ⊢
  split at h
  · simp at h
  · rename_i h1
    rw [if_neg h1]
    obtain ⟨l, b⟩ := s
    simp at h1
    exact ⟨h1.1, by simp⟩
theorem b0_one {l : List UInt8} (h : l.length = 1) : l = [b0 l] := by
  match l, h with
  | [c], _ => rfl
theorem rT_rd (s : Rs) : Rd txt s (rT s) := by
  intro h
  unfold rT at h ⊢
  simp only at h ⊢
  obtain ⟨p1, p2⟩ := tk_rd _ _ h
  obtain ⟨q1, q2⟩ := tk_rd _ _ p1
  refine ⟨q1, ?_⟩
  rw [b0_one (tk_len 1 s)] at q2
  rw [q2, p2]
  have hsz : (bT (tk (b0 (tk 1 s).1).toNat (tk 1 s).2).1).size = (b0 (tk 1 s).1).toNat := by
    have := tk_len (b0 (tk 1 s).1).toNat (tk 1 s).2
    unfold bT
    show (List.toArray _).size = _
    simp only [List.size_toArray]
    exact this
  unfold txt
  rw [hsz, oct_of]
  simp [bT, b0]
theorem num6_beN {l : List UInt8} (h : l.length = 6) : num6 (beN l) = l := by
  match l, h with
  | [a, b, c, d, e, f], _ =>
    have ha := a.toNat_lt
    have hb := b.toNat_lt
    have hc := c.toNat_lt
    have hd := d.toNat_lt
    have he := e.toNat_lt
    have hf := f.toNat_lt
    have key : ∀ (x : UInt8) (n : Int), n % 256 = x.toNat → oct n = x := fun x n hn => by
      apply UInt8.toNat_inj.1
      have := oct_int n
      omega
    simp only [num6, beN, List.foldl_cons, List.foldl_nil]
    rw [key a _ (by omega), key b _ (by omega), key c _ (by omega), key d _ (by omega), key e _ (by omega), key f _ (by omega)]
theorem rN_rd (s : Rs) : Rd num6 s (rN s) := by
  intro h
  unfold rN at h ⊢
  simp only at h ⊢
  obtain ⟨p1, p2⟩ := tk_rd _ _ h
  exact ⟨p1, by rw [num6_beN (tk_len 6 s)]; exact p2⟩
theorem rV_rd (s : Rs) : Rd valB s (rV s) := by
  intro h
  unfold rV at h ⊢
  split at h
  · rename_i h1
    rw [if_pos h1]
    simp only at h ⊢
    obtain ⟨p1, p2⟩ := rN_rd _ h
    obtain ⟨q1, q2⟩ := tk_rd _ _ p1
    refine ⟨q1, ?_⟩
    rw [b0_one (tk_len 1 s)] at q2
    rw [q2, p2]
    have e : b0 (tk 1 s).1 = oct 1 := by rw [← oct_of (b0 (tk 1 s).1), h1]
    have e2 : (rN (tk 1 s).2).1 - 1099511627776 + 1099511627776 = (rN (tk 1 s).2).1 := by omega
    simp [valB, e, e2]
  · rename_i h1
    rw [if_neg h1]
    simp only at h ⊢
    obtain ⟨p1, p2⟩ := rT_rd _ h
    obtain ⟨q1, q2⟩ := tk_rd _ _ p1
    refine ⟨q1, ?_⟩
    rw [b0_one (tk_len 1 s)] at q2
    rw [q2, p2]
    unfold valB
    simp only
    rw [if_neg h1, oct_of]
    rfl
theorem rP_rd (s : Rs) : Rd propB s (rP s) := by
  intro h
  unfold rP at h ⊢
  simp only at h ⊢
  obtain ⟨p1, p2⟩ := rV_rd _ h
  obtain ⟨q1, q2⟩ := rT_rd _ p1
  exact ⟨q1, by rw [q2, p2]; simp [propB]⟩
theorem rPs_rd (s : Rs) : ∀ n, Rd propsB s (rPs n s)
  | 0 => fun h => ⟨h, by simp [rPs, propsB]⟩
  | n + 1 => by
    intro h
    unfold rPs at h ⊢
    simp only at h ⊢
    obtain ⟨p1, p2⟩ := rP_rd _ h
    obtain ⟨q1, q2⟩ := rPs_rd s n p1
    exact ⟨q1, by rw [q2, p2, propsB_snoc]; simp⟩
theorem rPs_len (s : Rs) : ∀ n, (rPs n s).1.length = n
  | 0 => rfl
  | n + 1 => by unfold rPs; simp [rPs_len s n]
theorem rE_rd (s : Rs) : Rd putE s (rE s) := by
  intro h
  unfold rE at h ⊢
  simp only at h ⊢
  obtain ⟨a1, a2⟩ := rPs_rd _ _ h
  obtain ⟨c1, c2⟩ := tk_rd _ _ a1
  obtain ⟨d1, d2⟩ := rN_rd _ c1
  obtain ⟨e1, e2⟩ := rT_rd _ d1
  obtain ⟨f1, f2⟩ := rT_rd _ e1
  obtain ⟨g1, g2⟩ := rT_rd _ f1
  refine ⟨g1, ?_⟩
  have hb := b0_one (tk_len 1 (h4 s))
  have hl : oct ((rPs (hN s) (h5 s)).1.length : Int) = b0 (tk 1 (h4 s)).1 := by rw [rPs_len]; exact oct_of _
  have g2' : s.1 = txt (rT s).1 ++ (h1 s).1 := g2
  have f2' : (h1 s).1 = txt (rT (h1 s)).1 ++ (h2 s).1 := f2
  have e2' : (h2 s).1 = txt (rT (h2 s)).1 ++ (h3 s).1 := e2
  have d2' : (h3 s).1 = num6 (rN (h3 s)).1 ++ (h4 s).1 := d2
  have c2' : (h4 s).1 = (tk 1 (h4 s)).1 ++ (h5 s).1 := c2
  rw [hb] at c2'
  rw [g2', f2', e2', d2', c2', a2]
  unfold putE headB
  simp only
  rw [hl]
  simp only [List.append_assoc]

/-! ### what is put is read -/
theorem tk_app (l r : List UInt8) (n : Nat) (h : l.length = n) : tk n (l ++ r, false) = (l, (r, false)) := by
  unfold tk
  rw [if_neg (by simp; omega), ← h]
  simp
theorem rT_put (s : ByteArray) (r : List UInt8) (h : s.size < 256) : rT (txt s ++ r, false) = (s, (r, false)) := by
  have e1 : tk 1 (txt s ++ r, false) = ([oct s.size], (s.data.toList ++ r, false)) := by
    have := tk_app [oct s.size] (s.data.toList ++ r) 1 rfl
    simpa [txt] using this
  have e2 : (b0 [oct s.size]).toNat = s.size := by
    have := oct_int (s.size : Int)
    show (oct s.size).toNat = _
    omega
  unfold rT
  rw [e1]
  simp only
  rw [e2, tk_app _ _ _ (data_size s)]
  simp only [bT, data_mk]
theorem rN_put (n : Int) (r : List UInt8) (h0 : 0 ≤ n) (h1 : n < 281474976710656) : rN (num6 n ++ r, false) = (n, (r, false)) := by
  unfold rN
  rw [tk_app _ _ _ (num6_len n)]
  simp only [beN_num n h0 h1]
theorem rV_put {v : Vt} (h : rightV v = true) (r : List UInt8) : rV (valB v ++ r, false) = (v, (r, false)) := by
  rcases right_cases h with ⟨n, rfl, h1, h2⟩ | ⟨t, rfl, h1⟩
  · have e : valB (1, n, ⟨#[]⟩) ++ r = [oct 1] ++ (num6 (n + 1099511627776) ++ r) := by simp [valB]
    unfold rV
    rw [e, tk_app [oct 1] _ 1 rfl]
    simp only
    rw [if_pos (by rfl), rN_put _ _ (by omega) (by omega)]
    simp only [Prod.mk.injEq, true_and, and_true]
    omega
  · have e : valB (2, 0, t) ++ r = [oct 2] ++ (txt t ++ r) := by simp [valB]
    unfold rV
    rw [e, tk_app [oct 2] _ 1 rfl]
    simp only
    rw [if_neg (by decide), rT_put _ _ (by have := isT_size h1; omega)]
    rfl
theorem rP_put {p : Pt} (h1 : freB p.1 = true) (h2 : rightV p.2 = true) (r : List UInt8) : rP (propB p ++ r, false) = (p, (r, false)) := by
  have hs := verB_size (freB_ver h1)
  unfold rP propB
  rw [List.append_assoc, rT_put _ _ (by omega)]
  simp only
  rw [rV_put h2]
theorem rPs_put (l : List Pt) (r : List UInt8) (h : ∀ p ∈ l, freB p.1 = true ∧ rightV p.2 = true) : ∀ k, k ≤ l.length → rPs k (propsB l ++ r, false) = (l.take k, (propsB (l.drop k) ++ r, false))
  | 0, _ => by simp [rPs]
  | k + 1, hk => by
    have ih := rPs_put l r h k (by omega)
    have e : l.drop k = l[k] :: l.drop (k + 1) := List.drop_eq_getElem_cons (by omega)
    have e2 : propsB (l.drop k) = propB l[k] ++ propsB (l.drop (k + 1)) := by rw [e]; exact List.flatMap_cons
    have hp := h l[k] (List.getElem_mem _)
    unfold rPs
    rw [ih]
    simp only
    rw [e2, List.append_assoc, rP_put hp.1 hp.2, List.take_succ_eq_append_getElem (by omega)]
theorem rE_put {e : Ed} (h : checkE e = 0) : rE (putE e, false) = (e, ([], false)) := by
  obtain ⟨⟨k1, k2, k3, k4⟩, k5⟩ := check_ok.1 h
  have s1 := verB_size k1
  have s2 := verB_size k2
  have s3 := verB_size (freB_ver k3)
  have s4 := k4.1
  unfold timeB at k5
  rw [decide_eq_true_eq] at k5
  have e0 : putE e = txt e.src ++ (txt e.dst ++ (txt e.lab ++ (num6 e.time ++ ([oct e.props.length] ++ (propsB e.props ++ []))))) := by simp [putE, headB]
  have a1 := rT_put e.src (txt e.dst ++ (txt e.lab ++ (num6 e.time ++ ([oct e.props.length] ++ (propsB e.props ++ []))))) (by omega)
  have a2 := rT_put e.dst (txt e.lab ++ (num6 e.time ++ ([oct e.props.length] ++ (propsB e.props ++ [])))) (by omega)
  have a3 := rT_put e.lab (num6 e.time ++ ([oct e.props.length] ++ (propsB e.props ++ []))) (by omega)
  have a4 := rN_put e.time ([oct e.props.length] ++ (propsB e.props ++ [])) k5.1 (by omega)
  have a5 := tk_app [oct e.props.length] (propsB e.props ++ []) 1 rfl
  have b1 : h1 (putE e, false) = (txt e.dst ++ (txt e.lab ++ (num6 e.time ++ ([oct e.props.length] ++ (propsB e.props ++ [])))), false) := by unfold h1; rw [e0, a1]
  have b2 : h2 (putE e, false) = (txt e.lab ++ (num6 e.time ++ ([oct e.props.length] ++ (propsB e.props ++ []))), false) := by unfold h2; rw [b1, a2]
  have b3 : h3 (putE e, false) = (num6 e.time ++ ([oct e.props.length] ++ (propsB e.props ++ [])), false) := by unfold h3; rw [b2, a3]
  have b4 : h4 (putE e, false) = ([oct e.props.length] ++ (propsB e.props ++ []), false) := by unfold h4; rw [b3, a4]
  have b5 : h5 (putE e, false) = (propsB e.props ++ [], false) := by unfold h5; rw [b4, a5]
  have bN : hN (putE e, false) = e.props.length := by
    unfold hN
    rw [b4, a5]
    have := oct_int (e.props.length : Int)
    show (oct e.props.length).toNat = _
    omega
  unfold rE
  rw [bN, b5, rPs_put e.props [] (areP_mem k4) e.props.length (Nat.le_refl _), b3, a4, b2, a3, b1, a2, e0, a1]
  simp [propsB]
theorem rParse_eq (b : List UInt8) : rParse b = parseE b := by
  unfold rParse
  rcases parse_cases b with ⟨c1, c2, c3⟩ | ⟨c1, c2⟩
  · have := rE_put c1
    rw [c2] at this
    rw [this, c3, if_neg]
    simp [c1]
  · rw [c2]
    by_cases h : (rE (b, false)).2.2 = true ∨ (rE (b, false)).2.1 ≠ [] ∨ checkE (rE (b, false)).1 ≠ 0
    · rw [if_pos h]
    · exfalso
      rw [not_or, not_or] at h
      obtain ⟨x1, x2, x3⟩ := h
      have hb := (rE_rd (b, false) (by simpa using x1)).2
      have hr : (rE (b, false)).2.1 = [] := Classical.not_not.1 x2
      rw [hr, List.append_nil] at hb
      exact c1 _ (Classical.not_not.1 x3) hb.symm
end Go.Proofs.Ytpoefcpgcojppaa

namespace Go.Proofs.Ytpoefcpgcojppaa
open Go.ChangeShapes Go.WideShapes Go.ChangeAt Go.RowKit
set_option linter.unusedVariables false

/-- sizes that a memory has -/
def SzP (l : List Pt) : Prop := l.length ≤ 281474976710656 ∧ ∀ p ∈ l, p.1.size ≤ 281474976710656 ∧ p.2.2.2.size ≤ 281474976710656
def SzE (e : Ed) : Prop := e.src.size ≤ 281474976710656 ∧ e.dst.size ≤ 281474976710656 ∧ e.lab.size ≤ 281474976710656 ∧ SzP e.props
theorem below_gr {w w' : World} (h : Gr w w') : Below w.heap.size w w' := h.below
theorem mixed : Try.prog.follows .mixedOrders = true := by kernel_rfl
theorem le_max {n : Nat} (h : n ≤ 281474976710656) : n ≤ maxLen := by unfold maxLen; omega

def PropsR (l : List Pt) (w : World) (e : Ending) (w' : World) : Prop := e = .returned (.bool (areB l)) ∧ Below w.heap.size w w'

set_option maxHeartbeats 4000000 in
theorem areProps_any {w : World} {v : Value} {l : List Pt} (h : PR w v l) (hs : SzP l) : Calls Try.prog 45 #[v] w (PropsR l w) := by
  have H := Lib.hid h
  have HS := Lib.hid hs
  obtain ⟨A, c, rfl⟩ := h.form
  obtain ⟨n, hN⟩ : ∃ n, l.length = n := ⟨_, rfl⟩
  have HN := Lib.hid hN
  have hn : n ≤ 281474976710656 := by rw [← hN]; exact hs.1
  unfold PropsR
  rw [hN] at H ⊢
  clear hN hs h
  by_cases h8 : n ≤ 8
  · have HB : ¬ areP l → Hid (areB l = false) := fun h => areB_not l h
    have HBY : areP l → Hid (areB l = true) := fun h => (areB_iff l).2 h
    go_enter Try.func45, Try.ntmps45
    go_wp2_with fail
    go_loopw [11] (fun i wr => ∃ k : Nat, k ≤ n ∧ i = .int .i64 k ∧ (∀ j (hj : j < l.length), j < k → okAt l j hj) ∧ Below w.heap.size w wr) (fun i _ => n - (Lib.intOf i).toNat)
    case atStart => exact ⟨0, Nat.zero_le _, rfl, fun j _ h => absurd h (Nat.not_lt_zero j), Below.refl _ _⟩
    case round =>
      obtain ⟨k, hk, rfl, ha, hb⟩ := hrel
      have HA := Lib.hid ha
      have HBW := Lib.hid hb
      clear ha hb
      by_cases hlt : k < n
      · have e1 : k < l.length := by rw [HN.out]; exact hlt
        obtain ⟨ad, f1, hab, q0, q1, q2, q3⟩ := PR.at4 (H.out.below HBW.out) e1
        subst f1
        have hsz := HS.out.2 l[k] (List.getElem_mem e1)
        obtain ⟨p, hp⟩ : ∃ p, l[k] = p := ⟨_, rfl⟩
        rw [hp] at q0 q1 q2 q3 hsz
        have HX := Lib.hid hp
        clear hp
        obtain ⟨key, kd, nm, tx⟩ := p
        simp only at q0 q1 q2 q3 hsz
        -- the text ahead
        have hprev : ∃ (r : Bool) (pk : ByteArray), (0 < k → wr.cell? (ad.add ((k - 1) * 4)) = some (.string pk)) ∧ Op.bytesLess pk.toList key.toList = r ∧ Hid ((k = 0 ∨ r = true) ↔ (0 < k → cmpB (l[k - 1]'(by omega)).1 (l[k]'e1).1 = -1)) := by
          by_cases h0 : 0 < k
          · have e0 : k - 1 < l.length := by omega
            obtain ⟨ad', f1, _, p0, _⟩ := PR.at4 (H.out.below HBW.out) e0
            injection f1 with f1
            subst f1
            refine ⟨_, l[k - 1].1, fun _ => p0, rfl, ?_⟩
            have hx : (l[k]'e1).1 = key := by rw [HX.out]
            rw [hx, blessB]
            show _ ↔ _
            constructor
            · rintro (h | h)
              · omega
              · exact fun _ => of_decide_eq_true h
            · exact fun h => .inr (decide_eq_true (h h0))
          · exact ⟨_, key, fun h => absurd h h0, rfl, show _ ↔ _ from ⟨fun _ h => absurd h h0, fun _ => .inl (by omega)⟩⟩
        obtain ⟨r, pk, hpk, hr, HR⟩ := hprev
        have hf := fun W => free_any key W (le_max hsz.1)
        have hv := fun W => right_any (kd, nm, tx) W hsz.2
        unfold RightR at hv
        simp only at hv
        obtain ⟨fb, hfb⟩ : ∃ b, freB key = b := ⟨_, rfl⟩
        obtain ⟨vb, hvb⟩ : ∃ b, rightV (kd, nm, tx) = b := ⟨_, rfl⟩
        rw [hfb] at hf
        rw [hvb] at hv
        have HFV := Lib.hid (And.intro hfb hvb)
        have HF := Lib.hid hf
        have HV := Lib.hid hv
        clear hf hv hfb hvb hsz
        have hq : ∀ n, (wr.drewN n).cell? (ad.add (k * 4)) = some (.string key) := fun _ => q0
        -- what it comes to
        have HOK : Hid (okAt l k e1 ↔ (k = 0 ∨ r = true) ∧ fb = true ∧ vb = true) := by
          show _ ↔ _
          unfold okAt
          rw [← HR.out]
          have hx1 : (l[k]'e1).1 = key := by rw [HX.out]
          have hx2 : (l[k]'e1).2 = (kd, nm, tx) := by rw [HX.out]
          rw [hx1, hx2, HFV.out.1, HFV.out.2]
          constructor
          · rintro ⟨a, b, c⟩; exact ⟨c, a, b⟩
          · rintro ⟨c, a, b⟩; exact ⟨a, b, c⟩
        have HGO : okAt l k e1 → Hid (∀ j (hj : j < l.length), j < k + 1 → okAt l j hj) := fun hok => show ∀ j (hj : j < l.length), j < k + 1 → okAt l j hj from fun j hj hjk => by
          by_cases he : j = k
          · subst he; exact hok
          · exact HA.out j hj (by omega)
        have HNO : ¬ okAt l k e1 → Hid (areB l = false) := fun hno => HB fun hp => hno (hp.2 k e1)
        by_cases h0 : 0 < k
        · have hp0 := hpk h0
          have hk1 : IntKind.i64.wrap ((k : Int) - 1) = ((k - 1 : Nat) : Int) := by rw [IntKind.wrap_i64]; omega
          have hk2 : ((k : Int) - 1).toNat = k - 1 := by omega
          have hk3 : ((k : Int) == 0) = false := by rw [beq_eq_false_iff_ne]; omega
          have hk5 : ((k - 1 : Nat) : Int) < (n : Int) := by omega
          have hk6 : k - 1 < n := by omega
          have hp1 : (wr.alloc (.cells #[.string key, .int .i64 kd, .int .i64 nm, .string tx] 53)).cell? (ad.add ((k - 1) * 4)) = some (.string pk) := ((Below.refl _ wr).alloc (Nat.le_refl _) _).cell (p := ad.add ((k - 1) * 4)) (by rw [block_add]; exact hab) |>.trans hp0
          clear hpk
          go_upto_region 6 with (fail)
          go_quiet (fail)
          have hbx : (wr.alloc (.cells #[.string key, .int .i64 kd, .int .i64 nm, .string tx] 53)).heap[wr.heap.size]? = some (.cells #[.string key, .int .i64 kd, .int .i64 nm, .string tx] 53 (0, 0)) := heap_alloc_new wr _
          have hbx' : ((wr.alloc (.cells #[.string key, .int .i64 kd, .int .i64 nm, .string tx] 53)).drewN nq).heap[wr.heap.size]? = some (.cells #[.string key, .int .i64 kd, .int .i64 nm, .string tx] 53 (0, 0)) := hbx
          have c0 := cell_of_row _ _ 0 _ 53 (0, 0) hbx'
          have c1 := cell_of_row _ _ 1 _ 53 (0, 0) hbx'
          have c2 := cell_of_row _ _ 2 _ 53 (0, 0) hbx'
          have c3 := cell_of_row _ _ 3 _ 53 (0, 0) hbx'
          have HW := Lib.hid (show Below w.heap.size w ((wr.alloc (.cells #[.string key, .int .i64 kd, .int .i64 nm, .string tx] 53)).drewN nq) ∧ wr.heap.size < ((wr.alloc (.cells #[.string key, .int .i64 kd, .int .i64 nm, .string tx] 53)).drewN nq).heap.size from ⟨(HBW.out.alloc HBW.out.size _).trans ⟨rfl, rfl, rfl, Nat.le_refl _, fun _ _ => rfl⟩, by show wr.heap.size < (wr.alloc _).heap.size; simp⟩)
          clear hbx hbx' q0 q1 q2 q3 hq
          generalize (wr.alloc (.cells #[.string key, .int .i64 kd, .int .i64 nm, .string tx] 53)).drewN nq = WT at *
          generalize wr.heap.size = B at *
          cases r with
          | false =>
            have HE := HNO (fun h => by have := (HOK.out.1 h).1; simp at this; omega)
            go_wp2_with fail
            go_ret
            exact ⟨ret_bool HE.out.symm, HW.out.1⟩
          | true =>
            cases fb with
            | false =>
              have HE := HNO (fun h => by have := (HOK.out.1 h).2.1; simp at this)
              go_wp2_with (go_at_call 44; refine (HF.out _).mono ?_; clear HF; rintro e w1 ⟨rfl, hb1⟩)
              go_ret
              exact ⟨ret_bool HE.out.symm, HW.out.1.trans (hb1.mono HW.out.1.size)⟩
            | true =>
              cases vb with
              | false =>
                have HE := HNO (fun h => by have := (HOK.out.1 h).2.2; simp at this)
                go_wp2_with (first | (go_at_call 44; refine (HF.out _).mono ?_; clear HF; rintro e w1 ⟨rfl, hb1⟩; have d1 := (hb1.cell (p := ⟨B, 1, none⟩) HW.out.2).trans c1; have d2 := (hb1.cell (p := ⟨B, 2, none⟩) HW.out.2).trans c2; have d3 := (hb1.cell (p := ⟨B, 3, none⟩) HW.out.2).trans c3) | (go_at_call 73; refine (HV.out _).mono ?_; rintro e w2 ⟨rfl, hb2⟩))
                go_ret
                exact ⟨ret_bool HE.out.symm, (HW.out.1.trans (hb1.mono HW.out.1.size)).trans (hb2.below.mono (Nat.le_trans HW.out.1.size hb1.size))⟩
              | true =>
                have HE := HGO (HOK.out.2 ⟨.inr rfl, rfl, rfl⟩)
                go_wp2_with (first | (go_at_call 44; refine (HF.out _).mono ?_; clear HF; rintro e w1 ⟨rfl, hb1⟩; have d1 := (hb1.cell (p := ⟨B, 1, none⟩) HW.out.2).trans c1; have d2 := (hb1.cell (p := ⟨B, 2, none⟩) HW.out.2).trans c2; have d3 := (hb1.cell (p := ⟨B, 3, none⟩) HW.out.2).trans c3) | (go_at_call 73; refine (HV.out _).mono ?_; rintro e w2 ⟨rfl, hb2⟩))
                go_roundw
                case rel => exact ⟨k + 1, by omega, by go_num, HE.out, (HW.out.1.trans (hb1.mono HW.out.1.size)).trans (hb2.below.mono (Nat.le_trans HW.out.1.size hb1.size))⟩
                case measure => simp [Lib.intOf]; omega
        · obtain rfl : k = 0 := by omega
          have had : ad.add (0 * 4) = ad := by simp [Addr.add]
          rw [had] at q0 q1 q2 q3
          have HZ := Lib.hid (show (0 : Nat) = 0 from rfl)
          clear hpk h0 had hq
          go_upto_region 6 with (fail)
          go_quiet (fail)
          have hbx : (wr.alloc (.cells #[.string key, .int .i64 kd, .int .i64 nm, .string tx] 53)).heap[wr.heap.size]? = some (.cells #[.string key, .int .i64 kd, .int .i64 nm, .string tx] 53 (0, 0)) := heap_alloc_new wr _
          have hbx' : ((wr.alloc (.cells #[.string key, .int .i64 kd, .int .i64 nm, .string tx] 53)).drewN nq).heap[wr.heap.size]? = some (.cells #[.string key, .int .i64 kd, .int .i64 nm, .string tx] 53 (0, 0)) := hbx
          have c0 := cell_of_row _ _ 0 _ 53 (0, 0) hbx'
          have c1 := cell_of_row _ _ 1 _ 53 (0, 0) hbx'
          have c2 := cell_of_row _ _ 2 _ 53 (0, 0) hbx'
          have c3 := cell_of_row _ _ 3 _ 53 (0, 0) hbx'
          have HW := Lib.hid (show Below w.heap.size w ((wr.alloc (.cells #[.string key, .int .i64 kd, .int .i64 nm, .string tx] 53)).drewN nq) ∧ wr.heap.size < ((wr.alloc (.cells #[.string key, .int .i64 kd, .int .i64 nm, .string tx] 53)).drewN nq).heap.size from ⟨(HBW.out.alloc HBW.out.size _).trans ⟨rfl, rfl, rfl, Nat.le_refl _, fun _ _ => rfl⟩, by show wr.heap.size < (wr.alloc _).heap.size; simp⟩)
          clear hbx hbx' q0 q1 q2 q3
          generalize (wr.alloc (.cells #[.string key, .int .i64 kd, .int .i64 nm, .string tx] 53)).drewN nq = WT at *
          generalize wr.heap.size = B at *
          cases fb with
          | false =>
            have HE := HNO (fun h => by have := (HOK.out.1 h).2.1; simp at this)
            go_wp2_with (go_at_call 44; refine (HF.out _).mono ?_; clear HF; rintro e w1 ⟨rfl, hb1⟩)
            go_ret
            exact ⟨ret_bool HE.out.symm, HW.out.1.trans (hb1.mono HW.out.1.size)⟩
          | true =>
            cases vb with
            | false =>
              have HE := HNO (fun h => by have := (HOK.out.1 h).2.2; simp at this)
              go_wp2_with (first | (go_at_call 44; refine (HF.out _).mono ?_; clear HF; rintro e w1 ⟨rfl, hb1⟩; have d1 := (hb1.cell (p := ⟨B, 1, none⟩) HW.out.2).trans c1; have d2 := (hb1.cell (p := ⟨B, 2, none⟩) HW.out.2).trans c2; have d3 := (hb1.cell (p := ⟨B, 3, none⟩) HW.out.2).trans c3) | (go_at_call 73; refine (HV.out _).mono ?_; rintro e w2 ⟨rfl, hb2⟩))
              go_ret
              exact ⟨ret_bool HE.out.symm, (HW.out.1.trans (hb1.mono HW.out.1.size)).trans (hb2.below.mono (Nat.le_trans HW.out.1.size hb1.size))⟩
            | true =>
              have HE := HGO (HOK.out.2 ⟨.inl HZ.out, rfl, rfl⟩)
              go_wp2_with (first | (go_at_call 44; refine (HF.out _).mono ?_; clear HF; rintro e w1 ⟨rfl, hb1⟩; have d1 := (hb1.cell (p := ⟨B, 1, none⟩) HW.out.2).trans c1; have d2 := (hb1.cell (p := ⟨B, 2, none⟩) HW.out.2).trans c2; have d3 := (hb1.cell (p := ⟨B, 3, none⟩) HW.out.2).trans c3) | (go_at_call 73; refine (HV.out _).mono ?_; rintro e w2 ⟨rfl, hb2⟩))
              go_roundw
              case rel => exact ⟨1, by omega, by go_num, HE.out, (HW.out.1.trans (hb1.mono HW.out.1.size)).trans (hb2.below.mono (Nat.le_trans HW.out.1.size hb1.size))⟩
              case measure => simp [Lib.intOf]; omega
      · obtain rfl : k = n := by omega
        have HE := HBY ⟨by rw [HN.out]; exact h8, fun j hj => HA.out j hj (by rw [← HN.out]; exact hj)⟩
        go_wp2_with fail
        go_ret
        exact ⟨ret_bool HE.out.symm, HBW.out⟩
  · have HE := Lib.hid (areB_not l (fun h => h8 (by rw [← HN.out]; exact h.1)))
    go_enter Try.func45, Try.ntmps45
    go_wp2_with fail
    go_ret
    exact ⟨ret_bool HE.out.symm, Below.refl _ _⟩
end Go.Proofs.Ytpoefcpgcojppaa
