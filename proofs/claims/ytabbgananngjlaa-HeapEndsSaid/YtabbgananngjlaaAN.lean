/- Walk of HeapEnds. -/
import Derived.Test.YtabbgananngjlaaAL
import Derived.Test.YtabbgananngjlaaAJ
import Derived.IntWalk
namespace Go.Proofs.Ytabbgananngjlaa
open Go.ChangeShapes Go.WideShapes Go.ChangeAt Go.RowKit
set_option linter.unusedVariables false

theorem lit_ab (W2 : World) (X Y : Int) : Calls Try.prog 3 #[.slice (some ⟨W2.heap.size, 0, none⟩) 3 3, .slice (some ⟨W2.heap.size + 1, 0, none⟩) 3 3] (((W2.alloc (.cells #[.int .i64 X, .int .i64 Y, .int .i64 Y, .int .i64 0, .int .i64 0, .int .i64 X] 40)).alloc (.cells #[.int .i64 2, .int .i64 Y, .int .i64 2, .slice none 0 0, .int .i64 1, .int .i64 0, .int .i64 0, .slice none 0 0, .int .i64 2, .int .i64 X, .int .i64 8, .slice none 0 0] 34)).drew) fun e w' => e = .returned (.bool true) ∧ Below W2.heap.size W2 w' := by
  have hsa : (W2.alloc (.cells #[.int .i64 X, .int .i64 Y, .int .i64 Y, .int .i64 0, .int .i64 0, .int .i64 X] 40)).heap.size = W2.heap.size + 1 := by simp
  have hbw : Below W2.heap.size W2 (((W2.alloc (.cells #[.int .i64 X, .int .i64 Y, .int .i64 Y, .int .i64 0, .int .i64 0, .int .i64 X] 40)).alloc (.cells #[.int .i64 2, .int .i64 Y, .int .i64 2, .slice none 0 0, .int .i64 1, .int .i64 0, .int .i64 0, .slice none 0 0, .int .i64 2, .int .i64 X, .int .i64 8, .slice none 0 0] 34)).drew) := (((Below.refl _ W2).alloc (Nat.le_refl _) _).alloc (by rw [hsa]; omega) _).drew
  have hpr : PR (((W2.alloc (.cells #[.int .i64 X, .int .i64 Y, .int .i64 Y, .int .i64 0, .int .i64 0, .int .i64 X] 40)).alloc (.cells #[.int .i64 2, .int .i64 Y, .int .i64 2, .slice none 0 0, .int .i64 1, .int .i64 0, .int .i64 0, .slice none 0 0, .int .i64 2, .int .i64 X, .int .i64 8, .slice none 0 0] 34)).drew) (.slice (some ⟨W2.heap.size, 0, none⟩) 3 3) [(X, Y), (Y, 0), (0, X)] := (pr_newT W2 40 [(X, Y), (Y, 0), (0, X)] 3 3 rfl).below ((Below.refl _ _).alloc (Nat.le_refl _) _).drew
  have hown : (((W2.alloc (.cells #[.int .i64 X, .int .i64 Y, .int .i64 Y, .int .i64 0, .int .i64 0, .int .i64 X] 40)).alloc (.cells #[.int .i64 2, .int .i64 Y, .int .i64 2, .slice none 0 0, .int .i64 1, .int .i64 0, .int .i64 0, .slice none 0 0, .int .i64 2, .int .i64 X, .int .i64 8, .slice none 0 0] 34)).drew).ownsRow 0 34 4 (.slice (some ⟨W2.heap.size + 1, 0, none⟩) 3 3) 3 (flatN [⟨2, Y, 2, []⟩, ⟨1, 0, 0, []⟩, ⟨2, X, 8, []⟩]) := by
    rw [← hsa]
    exact (World.ownsRow_lit (e := 34) (size := 4) (base := 0) _ (flatN [⟨2, Y, 2, []⟩, ⟨1, 0, 0, []⟩, ⟨2, X, 8, []⟩]).toArray 3 (Nat.zero_le _) (by unfold maxLen; omega) rfl).drew
  have hda := does_any hpr (fun _ g hg => by cases hg; have := hbw.size; simp; omega) ((CD.lit _ [⟨2, Y, 2, []⟩, ⟨1, 0, 0, []⟩, ⟨2, X, 8, []⟩] (by simp)).prd hown) (by simp) (by simp) (by simp)
  exact hda.mono fun e w' h => ⟨h.1, hbw.trans (h.2.mono hbw.size)⟩
theorem lit_ba (W2 : World) (X Y : Int) : Calls Try.prog 3 #[.slice (some ⟨W2.heap.size + 1, 0, none⟩) 3 3, .slice (some ⟨W2.heap.size, 0, none⟩) 3 3] (((W2.alloc (.cells #[.int .i64 2, .int .i64 Y, .int .i64 2, .slice none 0 0, .int .i64 1, .int .i64 0, .int .i64 0, .slice none 0 0, .int .i64 2, .int .i64 X, .int .i64 8, .slice none 0 0] 34)).alloc (.cells #[.int .i64 X, .int .i64 Y, .int .i64 Y, .int .i64 0, .int .i64 0, .int .i64 X] 40)).drew) fun e w' => e = .returned (.bool true) ∧ Below W2.heap.size W2 w' := by
  have hsa : (W2.alloc (.cells #[.int .i64 2, .int .i64 Y, .int .i64 2, .slice none 0 0, .int .i64 1, .int .i64 0, .int .i64 0, .slice none 0 0, .int .i64 2, .int .i64 X, .int .i64 8, .slice none 0 0] 34)).heap.size = W2.heap.size + 1 := by simp
  have hbw : Below W2.heap.size W2 (((W2.alloc (.cells #[.int .i64 2, .int .i64 Y, .int .i64 2, .slice none 0 0, .int .i64 1, .int .i64 0, .int .i64 0, .slice none 0 0, .int .i64 2, .int .i64 X, .int .i64 8, .slice none 0 0] 34)).alloc (.cells #[.int .i64 X, .int .i64 Y, .int .i64 Y, .int .i64 0, .int .i64 0, .int .i64 X] 40)).drew) := (((Below.refl _ W2).alloc (Nat.le_refl _) _).alloc (by rw [hsa]; omega) _).drew
  have hpr : PR (((W2.alloc (.cells #[.int .i64 2, .int .i64 Y, .int .i64 2, .slice none 0 0, .int .i64 1, .int .i64 0, .int .i64 0, .slice none 0 0, .int .i64 2, .int .i64 X, .int .i64 8, .slice none 0 0] 34)).alloc (.cells #[.int .i64 X, .int .i64 Y, .int .i64 Y, .int .i64 0, .int .i64 0, .int .i64 X] 40)).drew) (.slice (some ⟨W2.heap.size + 1, 0, none⟩) 3 3) [(X, Y), (Y, 0), (0, X)] := by
    rw [← hsa]
    exact (pr_newT (W2.alloc (.cells #[.int .i64 2, .int .i64 Y, .int .i64 2, .slice none 0 0, .int .i64 1, .int .i64 0, .int .i64 0, .slice none 0 0, .int .i64 2, .int .i64 X, .int .i64 8, .slice none 0 0] 34)) 40 [(X, Y), (Y, 0), (0, X)] 3 3 rfl).below (Below.refl _ _).drew
  have hown : (((W2.alloc (.cells #[.int .i64 2, .int .i64 Y, .int .i64 2, .slice none 0 0, .int .i64 1, .int .i64 0, .int .i64 0, .slice none 0 0, .int .i64 2, .int .i64 X, .int .i64 8, .slice none 0 0] 34)).alloc (.cells #[.int .i64 X, .int .i64 Y, .int .i64 Y, .int .i64 0, .int .i64 0, .int .i64 X] 40)).drew).ownsRow 0 34 4 (.slice (some ⟨W2.heap.size, 0, none⟩) 3 3) 3 (flatN [⟨2, Y, 2, []⟩, ⟨1, 0, 0, []⟩, ⟨2, X, 8, []⟩]) :=
    ((World.ownsRow_lit (e := 34) (size := 4) (base := 0) W2 (flatN [⟨2, Y, 2, []⟩, ⟨1, 0, 0, []⟩, ⟨2, X, 8, []⟩]).toArray 3 (Nat.zero_le _) (by unfold maxLen; omega) rfl).alloc (.cells #[.int .i64 X, .int .i64 Y, .int .i64 Y, .int .i64 0, .int .i64 0, .int .i64 X] 40)).drew
  have hda := does_any hpr (fun _ g hg => by cases hg; have := hbw.size; simp) ((CD.lit _ [⟨2, Y, 2, []⟩, ⟨1, 0, 0, []⟩, ⟨2, X, 8, []⟩] (by simp)).prd hown) (by simp) (by simp) (by simp)
  exact hda.mono fun e w' h => ⟨h.1, hbw.trans (h.2.mono hbw.size)⟩
set_option maxRecDepth 100000 in
set_option maxHeartbeats 6000000 in
theorem ends_any (w : World) : Calls Try.prog 4 #[] w (Tr w) := by
  obtain ⟨i0, hi, hz0, hz1, hz2⟩ := info_parts info40
  obtain ⟨i1, hj, hy0, hy1, hy2⟩ := info_parts info34
  go_enter Try.func4, Try.ntmps4
  go_wp2_with fail
  go_loopw [1] (fun i wr => ∃ q : Nat, q ≤ 364 ∧ i = .int .i64 q ∧ Below w.heap.size w wr) (fun i _ => 364 - (intOf i).toNat)
  case atStart => exact ⟨0, by omega, rfl, Below.refl _ _⟩
  case round =>
    obtain ⟨q, hq, rfl, hb⟩ := hrel
    have HB := Lib.hid hb
    rename World => W1
    by_cases hlt : q < 364
    · have hqI : (q : Int) < 364 := by omega
      clear hb
      go_wp2_with fail
      go_loopw [2, 3] (fun l k w2 => ∃ (L : List It) (m : Nat), k = .int .i64 m ∧ L.length + m ≤ 364 ∧ w2.ownsRow W1.heap.size 40 2 l L.length (flat L) ∧ Below W1.heap.size W1 w2) (fun _ k _ => (intOf k).toNat)
      case atStart => exact ⟨[], q, rfl, by simp; omega, World.ownsRow_nil _ _ _ _, Below.refl _ _⟩
      case round =>
        obtain ⟨L, m, rfl, hlm, hrow, hb2⟩ := hrel
        have HB2 := Lib.hid hb2
        rename World => W2
        obtain ⟨Al, cl, rfl, _⟩ := row_form hrow
        by_cases hm : 0 < m
        · have hmI : (m : Int) > 0 := by omega
          have hmI2 : (0 : Int) < m := by omega
          obtain ⟨x, hx⟩ : ∃ x : It, x = (((m : Int) - 1) % 3, (L.length : Int) % 2) := ⟨_, rfl⟩
          have hx1 : ((m : Int) - 1) % 3 = x.1 := by rw [hx]
          have hx2 : (L.length : Int) % 2 = x.2 := by rw [hx]
          have hpn : PR (W2.alloc (.cells #[.int .i64 (((m : Int) - 1) % 3), .int .i64 ((L.length : Int) % 2)] 40)) (.slice (some ⟨W2.heap.size, 0, none⟩) 1 1) [x] := by rw [hx1, hx2]; exact pr_newT W2 40 [x] 1 1 rfl
          have hro := hrow.alloc (.cells #[.int .i64 (((m : Int) - 1) % 3), .int .i64 ((L.length : Int) % 2)] 40)
          have hbs := HB2.out.size
          clear hx hx1 hx2 hrow hb2
          go_wp2_with (at_builtin; refine wpList_append_pr rfl _ _ rfl (base := W1.heap.size) Try.underlying22 hi hz0 hz1 hz2 (v := .slice Al L.length cl) rfl hro (v2 := .slice (some ⟨W2.heap.size, 0, none⟩) 1 1) rfl hpn (by simp; omega) (by simp; omega) ?_; intro v3 w3 hown3 hgrow3 _; have hb3 : Below W1.heap.size W1 w3 := (HB2.out.alloc hbs _).grown hgrow3 (by simp; omega) (fun k e => (hro.lt k e).1); have HB3 := Lib.hid hb3; have HR3 := Lib.hid hown3; clear hb3 hown3 hgrow3)
          go_roundw
          case rel => exact ⟨L ++ [x], (m - 1) / 3, by go_num, by simp; omega, by rw [flat_app]; simpa using HR3.out, HB3.out⟩
          case measure => simp [intOf] <;> omega
        · have hmI : ¬ (m : Int) > 0 := by omega
          have hmI2 : ¬ (0 : Int) < m := by omega
          have HRL := Lib.hid hrow
          clear hrow hb2
          go_wp2_with fail
          go_loopw [4, 5] (fun o i w3 => ∃ (k : Nat) (xs : List Value) (ds : List Dd), k ≤ L.length ∧ i = .int .i64 k ∧ w3.ownsRow W2.heap.size 34 4 o k xs ∧ CD W2 xs ds ∧ (∀ d ∈ ds, d.items.length ≤ 1) ∧ Below W2.heap.size W2 w3) (fun _ i _ => L.length - (intOf i).toNat)
          case atStart => exact ⟨0, [], [], Nat.zero_le _, rfl, World.ownsRow_nil _ _ _ _, CD.nil _, fun d h => absurd h (by simp), Below.refl _ _⟩
          case round =>
            obtain ⟨k, xs, ds, hk, rfl, hro, hcd, hits, hb3⟩ := hrel
            have HB3 := Lib.hid hb3
            have HCD := Lib.hid hcd
            have HIT := Lib.hid hits
            rename World => W3
            obtain ⟨Ao, co, rfl, _⟩ := row_form hro
            clear hcd hits hb3
            by_cases hkl : k < L.length
            · have hkI : (k : Int) < (L.length : Int) := by omega
              obtain ⟨ad, e1, hx9, hx8, x1, x2⟩ := PR.at2 (PR.of_own HRL.out) (k := k) hkl
              subst e1
              have hvi0 : PR W2 (.slice (some (ad.add (k * 2))) (L.drop k).length (cl - k)) (L.drop k) := PR.drop (PR.of_own HRL.out) hk (by rw [List.length_drop]) (fun _ => rfl)
              have hvi : PR W2 (.slice (some (ad.add (k * 2))) 1 (cl - k)) ((L.drop k).take 1) := PR.take hvi0 (by rw [List.length_drop]; omega)
              have hone := CD.one (a := 0) (b := 0) (c := 0) hvi
              have HCD2 := Lib.hid (HCD.out.app hone)
              have hlit : (W3.alloc (.cells #[.int .i64 0, .int .i64 0, .int .i64 0, .slice (some (ad.add (k * 2))) 1 (cl - k)] 34)).ownsRow W3.heap.size 34 4 (.slice (some ⟨W3.heap.size, 0, none⟩) 1 1) 1 [.int .i64 0, .int .i64 0, .int .i64 0, .slice (some (ad.add (k * 2))) 1 (cl - k)] := World.ownsRow_lit W3 #[.int .i64 0, .int .i64 0, .int .i64 0, .slice (some (ad.add (k * 2))) 1 (cl - k)] 1 (Nat.le_refl _) (by unfold maxLen; omega) rfl
              have hone1 : ∀ u ∈ [Value.int .i64 0, .int .i64 0, .int .i64 0, .slice (some (ad.add (k * 2))) 1 (cl - k)], u.oneCell' = true := by
                intro u hu
                simp at hu
                rcases hu with rfl | rfl <;> rfl
              have hro4 := hro.alloc (.cells #[.int .i64 0, .int .i64 0, .int .i64 0, .slice (some (ad.add (k * 2))) 1 (cl - k)] 34)
              have hbs3 := HB3.out.size
              have HL1 := Lib.hid hlit
              have HL2 := Lib.hid hone1
              clear hx9 hx8 x1 x2 hvi0 hvi hone hro hlit hone1
              go_wp2_with (at_builtin; refine wpList_append_dd rfl _ _ rfl (base := W2.heap.size) (b2 := W3.heap.size) Try.underlying23 hj hy0 hy1 hy2 (v := .slice Ao k co) rfl hro4 (B := W3.heap.size) (m := 1) (c := 1) rfl HL1.out HL2.out (by omega) (by simp; omega) ?_; intro v4 w4 hown4 hgrow4 _; have hb4 : Below W2.heap.size W2 w4 := (HB3.out.alloc hbs3 _).grown hgrow4 (by simp; omega) (fun k e => (hro4.lt k e).1); have HB4 := Lib.hid hb4; have HR4 := Lib.hid hown4; clear hb4 hown4 hgrow4)
              go_roundw
              case rel =>
                refine ⟨k + 1, _, _, by omega, by go_num, HR4.out, HCD2.out, ?_, HB4.out⟩
                intro d hd
                rcases List.mem_append.1 hd with h | h
                · exact HIT.out d h
                · simp at h
                  subst h
                  simp
                  omega
              case measure => simp [intOf] <;> omega
            · obtain rfl : k = L.length := by omega
              have hprL := PR.of_own HRL.out
              have hll : L.length ≤ 364 := by omega
              have hrl := HRL.out.lt
              have HRO := Lib.hid hro
              clear hro
              go_wp2_with fail
              have hcl : CD (W3.alloc (.cells (flatN [⟨1, 0, 0, []⟩, ⟨1, 0, 0, []⟩, ⟨2, 1, (q : Int), []⟩, ⟨3, 0, 0, []⟩, ⟨1, 0, 0, []⟩, ⟨1, 0, 0, []⟩]).toArray 34)) (flatN [⟨1, 0, 0, []⟩, ⟨1, 0, 0, []⟩, ⟨2, 1, (q : Int), []⟩, ⟨3, 0, 0, []⟩, ⟨1, 0, 0, []⟩, ⟨1, 0, 0, []⟩]) _ := CD.lit _ [⟨1, 0, 0, []⟩, ⟨1, 0, 0, []⟩, ⟨2, 1, (q : Int), []⟩, ⟨3, 0, 0, []⟩, ⟨1, 0, 0, []⟩, ⟨1, 0, 0, []⟩] (by simp)
              have hrr := World.ownsRow_lit (e := 34) (size := 4) (base := W3.heap.size) W3 (flatN [⟨1, 0, 0, []⟩, ⟨1, 0, 0, []⟩, ⟨2, 1, (q : Int), []⟩, ⟨3, 0, 0, []⟩, ⟨1, 0, 0, []⟩, ⟨1, 0, 0, []⟩]).toArray 6 (Nat.le_refl _) (by unfold maxLen; omega) rfl
              have hprd := hcl.prd hrr
              have hpr4 := (hprL.below HB3.out).below ((Below.refl _ W3).alloc (Nat.le_refl _) (.cells (flatN [⟨1, 0, 0, []⟩, ⟨1, 0, 0, []⟩, ⟨2, 1, (q : Int), []⟩, ⟨3, 0, 0, []⟩, ⟨1, 0, 0, []⟩, ⟨1, 0, 0, []⟩]).toArray 34))
              refine (does_any hpr4 (fun _ g hg => by have := (hrl g hg).2; have := HB3.out.size; simp; omega) hprd (by omega) (by simp) (by simp)).mono ?_
              rintro e w4 ⟨rfl, hb4⟩
              have hb5 : Below W3.heap.size W3 w4 := ((Below.refl _ W3).alloc (Nat.le_refl _) _).trans (hb4.mono (by simp))
              have HB5 := Lib.hid hb5
              clear hb4 hb5 hpr4 hprd hrr hcl
              have hro5 := (own_keep HRO.out (Keep.of_below HB5.out) (p := fun _ => True) fun _ _ => trivial).alloc (.cells (flatN [⟨3, 0, 0, []⟩, ⟨2, (q : Int) % 4 - 1, 3, []⟩, ⟨1, 0, 0, []⟩]).toArray 34)
              have hlit := World.ownsRow_lit (e := 34) (size := 4) (base := w4.heap.size) w4 (flatN [⟨3, 0, 0, []⟩, ⟨2, (q : Int) % 4 - 1, 3, []⟩, ⟨1, 0, 0, []⟩]).toArray 3 (Nat.le_refl _) (by unfold maxLen; omega) rfl
              have hone1 : ∀ u ∈ (flatN [⟨3, 0, 0, []⟩, ⟨2, (q : Int) % 4 - 1, 3, []⟩, ⟨1, 0, 0, []⟩]).toArray.toList, u.oneCell' = true := by
                intro u hu
                simp [flatN, encN] at hu
                repeat' (rcases hu with rfl | hu)
                all_goals first | rfl | (subst hu; rfl)
              have hbs5 := HB5.out.size
              have hb24 : Below W2.heap.size W2 (w4.alloc (.cells (flatN [⟨3, 0, 0, []⟩, ⟨2, (q : Int) % 4 - 1, 3, []⟩, ⟨1, 0, 0, []⟩]).toArray 34)) := (HB3.out.trans (HB5.out.mono HB3.out.size)).alloc (by have := HB3.out.size; omega) _
              have HB24 := Lib.hid hb24
              have HLIT := Lib.hid hlit
              have HONE := Lib.hid hone1
              have hlx := HRO.out.1
              have hlx2 := HCD.out.1
              clear hlit hone1 hb24
              go_wp2_with (at_builtin; refine wpList_append_ddg (by first | rfl | simp [Region.wanted, yielded]) _ _ rfl (base := W2.heap.size) (b2 := w4.heap.size) Try.underlying23 hj hy0 hy1 hy2 (v := .slice Ao L.length co) rfl hro5 (B := w4.heap.size) (m := 3) (c := 3) rfl HLIT.out HONE.out (by omega) (by have := HB3.out.size; simp; omega) ?_; intro v6 w6 hown6 hgrow6 _; have hb6 : Below W2.heap.size W2 w6 := HB24.out.grown hgrow6 HB24.out.size (fun k e => (hro5.lt k e).1); have HB6 := Lib.hid hb6; have HR6 := Lib.hid hown6; clear hb6 hown6 hgrow6)
              have hcd6 : CD w6 (xs ++ (flatN [⟨3, 0, 0, []⟩, ⟨2, (q : Int) % 4 - 1, 3, []⟩, ⟨1, 0, 0, []⟩]).toArray.toList) (ds ++ [⟨3, 0, 0, []⟩, ⟨2, (q : Int) % 4 - 1, 3, []⟩, ⟨1, 0, 0, []⟩]) :=
                (HCD.out.keep fun v l hp _ => hp.below HB6.out).app (CD.lit w6 [⟨3, 0, 0, []⟩, ⟨2, (q : Int) % 4 - 1, 3, []⟩, ⟨1, 0, 0, []⟩] (by simp))
              have hprd6 := hcd6.prd HR6.out
              refine (does_any (l := []) ⟨none, 0, rfl, fun h => absurd h (by simp)⟩ (fun h => absurd h (by simp)) hprd6 (by simp) (by simp; omega) (by
                intro d hd
                rcases List.mem_append.1 hd with h | h
                · have := HIT.out d h; omega
                · simp at h
                  rcases h with rfl | rfl | rfl <;> simp)).mono ?_
              rintro e w7 ⟨rfl, hb7⟩
              have hb8 : Below w.heap.size w w7 := HB.out.trans ((HB2.out.trans ((HB6.out.trans (hb7.mono HB6.out.size)).mono HB2.out.size)).mono HB.out.size)
              have HB8 := Lib.hid hb8
              clear hb7 hb8 hprd6 hcd6 hro5
              go_wp2_with fail
              go_roundw
              case rel => exact ⟨q + 1, by omega, by go_num, HB8.out⟩
              case measure => simp [intOf] <;> omega
    · have hqI : ¬ (q : Int) < 364 := by omega
      clear hb
      go_wp2_with fail
      have hb0 : Below w.heap.size w (W1.alloc (.cells #[.int .i64 (-9223372036854775808), .int .i64 (-1), .int .i64 0, .int .i64 1, .int .i64 9223372036854775807] 3)) := HB.out.alloc HB.out.size _
      have he0 := heap_alloc_new W1 (.cells #[.int .i64 (-9223372036854775808), .int .i64 (-1), .int .i64 0, .int .i64 1, .int .i64 9223372036854775807] 3)
      obtain ⟨W0, hW0⟩ : ∃ W0, W1.alloc (.cells #[.int .i64 (-9223372036854775808), .int .i64 (-1), .int .i64 0, .int .i64 1, .int .i64 9223372036854775807] 3) = W0 := ⟨_, rfl⟩
      rw [hW0] at hb0 he0 ⊢
      obtain ⟨E, hE⟩ : ∃ E, W1.heap.size = E := ⟨_, rfl⟩
      rw [hE] at he0 ⊢
      have HB0 := Lib.hid hb0
      have HE0 := Lib.hid he0
      clear hb0 he0 hW0 hE
      go_loopw [7] (fun i wr => ∃ r : Nat, r ≤ 25 ∧ i = .int .i64 r ∧ Below W0.heap.size W0 wr) (fun i _ => 25 - (intOf i).toNat)
      case atStart => exact ⟨0, by omega, rfl, Below.refl _ _⟩
      case round =>
        obtain ⟨r, hr, rfl, hb2⟩ := hrel
        have HB2 := Lib.hid hb2
        rename World => W2
        by_cases hlr : r < 25
        · have hrI : (r : Int) < 25 := by omega
          have hE2 := (hb2.block E (Array.getElem?_eq_some_iff.1 HE0.out).1).trans HE0.out
          clear hb2
          have hcells : ∀ k, k < 5 → ∃ x : Int, W2.cell? ⟨E, k, none⟩ = some (.int .i64 x) := by
            intro k hk
            rcases (by omega : k = 0 ∨ k = 1 ∨ k = 2 ∨ k = 3 ∨ k = 4) with rfl | rfl | rfl | rfl | rfl
            · exact ⟨_, cell_of_row _ _ 0 _ 3 (0, 0) hE2⟩
            · exact ⟨_, cell_of_row _ _ 1 _ 3 (0, 0) hE2⟩
            · exact ⟨_, cell_of_row _ _ 2 _ 3 (0, 0) hE2⟩
            · exact ⟨_, cell_of_row _ _ 3 _ 3 (0, 0) hE2⟩
            · exact ⟨_, cell_of_row _ _ 4 _ 3 (0, 0) hE2⟩
          obtain ⟨a, ha⟩ : ∃ a, r / 5 = a := ⟨_, rfl⟩
          obtain ⟨b, hb⟩ : ∃ b, r % 5 = b := ⟨_, rfl⟩
          have ha5 : a < 5 := by omega
          have hb5 : b < 5 := by omega
          obtain ⟨X, hX⟩ := hcells a ha5
          obtain ⟨Y, hY⟩ := hcells b hb5
          have hEl := (Array.getElem?_eq_some_iff.1 hE2).1
          have HEL := Lib.hid hEl
          have HR := Lib.hid hlr
          have ha0 : (0 : Int) ≤ (a : Int) := by omega
          have ha1 : (a : Int) < 5 := by omega
          have hb0 : (0 : Int) ≤ (b : Int) := by omega
          have hb1 : (b : Int) < 5 := by omega
          have hab : (a : Int) * 1 = a := by omega
          have e3 : (r : Int) / 5 = a := by omega
          have e4 : (r : Int) % 5 = b := by omega
          have e1 : (r : Int).tdiv 5 = a := by rw [Int.tdiv_eq_ediv_of_nonneg (by omega)]; exact e3
          have e2 : (r : Int).tmod 5 = b := by rw [Int.tmod_eq_emod_of_nonneg (by omega)]; exact e4
          have e5 : IntKind.i64.wrap (a : Int) = a := IntWalk.i64_in _ (by omega)
          have e6 : IntKind.i64.wrap (b : Int) = b := IntWalk.i64_in _ (by omega)
          have e7 : IntKind.i64.wrap ((r : Int).tdiv 5) = a := by rw [e1]; exact e5
          have e8 : IntKind.i64.wrap ((r : Int).tmod 5) = b := by rw [e2]; exact e6
          have e9 : IntKind.i64.wrap ((r : Int) / 5) = a := by rw [e3]; exact e5
          have e10 : IntKind.i64.wrap ((r : Int) % 5) = b := by rw [e4]; exact e6
          have pab := lit_ab W2 X Y
          have pba := lit_ba W2 X Y
          obtain ⟨WC, hWC⟩ : ∃ WC, (((W2.alloc (.cells #[.int .i64 X, .int .i64 Y, .int .i64 Y, .int .i64 0, .int .i64 0, .int .i64 X] 40)).alloc (.cells #[.int .i64 2, .int .i64 Y, .int .i64 2, .slice none 0 0, .int .i64 1, .int .i64 0, .int .i64 0, .slice none 0 0, .int .i64 2, .int .i64 X, .int .i64 8, .slice none 0 0] 34)).drew) = WC := ⟨_, rfl⟩
          obtain ⟨WD, hWD⟩ : ∃ WD, (((W2.alloc (.cells #[.int .i64 2, .int .i64 Y, .int .i64 2, .slice none 0 0, .int .i64 1, .int .i64 0, .int .i64 0, .slice none 0 0, .int .i64 2, .int .i64 X, .int .i64 8, .slice none 0 0] 34)).alloc (.cells #[.int .i64 X, .int .i64 Y, .int .i64 Y, .int .i64 0, .int .i64 0, .int .i64 X] 40)).drew) = WD := ⟨_, rfl⟩
          rw [hWC] at pab
          rw [hWD] at pba
          have HWC := Lib.hid hWC
          have HWD := Lib.hid hWD
          have HAB := Lib.hid pab
          have HBA := Lib.hid pba
          clear pab pba hWC hWD
          clear hE2 hcells hab hlr hEl
          go_wp2_with fail
          go_region_held3 (fun w' => w'.cell? ⟨E, a, none⟩ = some (.int .i64 X) ∧ w'.cell? ⟨E, b, none⟩ = some (.int .i64 Y)) (first | exact ⟨hX, hY⟩ | (go_keep; done) | exact ⟨z1, z2⟩ | (refine ⟨?_, ?_⟩ <;> assumption)) (first | (go_at_call 3; rw [HWC.out]; refine HAB.out.mono ?_; rintro e w4 ⟨rfl, hb4⟩; have z1 := (hb4.cell (p := ⟨E, a, none⟩) HEL.out).trans hX; have z2 := (hb4.cell (p := ⟨E, b, none⟩) HEL.out).trans hY; have HB4 := Lib.hid hb4; clear hb4) | (go_at_call 3; rw [HWD.out]; refine HBA.out.mono ?_; rintro e w4 ⟨rfl, hb4⟩; have z1 := (hb4.cell (p := ⟨E, a, none⟩) HEL.out).trans hX; have z2 := (hb4.cell (p := ⟨E, b, none⟩) HEL.out).trans hY; have HB4 := Lib.hid hb4; clear hb4))
          all_goals
            clear e1 e2 e3 e4 e5 e6 e7 e8 e9 e10 ha hb
            have hlr := HR.out
            go_wp2_with fail
            go_roundw
            case rel => exact ⟨r + 1, by omega, by go_num, HB2.out.trans (HB4.out.mono HB2.out.size)⟩
            case measure => simp [intOf] <;> omega
        · have hrI : ¬ (r : Int) < 25 := by omega
          clear hb2
          go_wp2_with fail
          refine (none_any _).mono ?_
          rintro e w3 ⟨rfl, hb3⟩
          have HB3 := Lib.hid (HB2.out.trans (hb3.mono HB2.out.size))
          clear hb3
          go_wp2_with fail
          refine (awake_any _).mono ?_
          rintro e w4 ⟨rfl, hb4⟩
          have HB4 := Lib.hid (HB3.out.trans (hb4.mono HB3.out.size))
          clear hb4
          go_wp2_with fail
          go_ret
          exact ⟨rfl, HB0.out.trans (HB4.out.mono HB0.out.size)⟩
end Go.Proofs.Ytabbgananngjlaa
