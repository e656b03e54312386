/- Walks of Like, of the document's comparison. -/
import Derived.Test.YtpoefcpgcojppaaD
namespace Go.Proofs.Ytpoefcpgcojppaa
open Go.ChangeShapes Go.WideShapes Go.ChangeAt Go.RowKit
set_option linter.unusedVariables false

theorem ret_bool {b c : Bool} (h : b = c) : Ending.returned (.bool b) = .returned (.bool c) := by rw [h]
theorem ret_int {b c : Int} (h : b = c) : Ending.returned (.int .i64 b) = .returned (.int .i64 c) := by rw [h]
theorem beq_bool (a b : Int) : (a == b) = decide (a = b) := rfl

theorem bless : ∀ a b : List UInt8, Op.bytesLess a b = decide (Lib.compareBytes a b = -1)
  | [], [] => by simp [Op.bytesLess, Lib.compareBytes]
  | [], _ :: _ => by simp [Op.bytesLess, Lib.compareBytes]
  | _ :: _, [] => by simp [Op.bytesLess, Lib.compareBytes]
  | a :: x, b :: y => by
    simp only [Op.bytesLess, Lib.compareBytes]
    by_cases h1 : a < b
    · simp [h1]
    · by_cases h2 : b < a
      · have h3 : (a == b) = false := by rw [beq_eq_false_iff_ne]; rintro rfl; exact h1 h2
        simp [h1, h2, h3]
      · have := u8_tri a b h1 h2
        subst this
        simp [bless x y]
theorem blessB (a b : ByteArray) : Op.bytesLess a.toList b.toList = decide (cmpB a b = -1) := by
  rw [bless, ByteArray.toList_eq, ByteArray.toList_eq]
  rfl
theorem tl_ne {a b : ByteArray} (h : a ≠ b) : ¬ a.toList = b.toList := fun e => h (data_inj (by rwa [ByteArray.toList_eq, ByteArray.toList_eq] at e))
theorem beqS (a b : ByteArray) : (a.toList == b.toList) = decide (a = b) := by
  by_cases h : a = b
  · subst h; simp
  · rw [decide_eq_false h, beq_eq_false_iff_ne]
    exact tl_ne h
theorem neS (W : World) (a b : ByteArray) : (binOp .neq 9 (.string a) (.string b)).run Try.prog W = .ok (.bool (!decide (a = b))) W := by
  simp [binOp, go_sem, Op.stringOp, beqS, bne]
theorem eqS (W : World) (a b : ByteArray) : (binOp .eql 9 (.string a) (.string b)).run Try.prog W = .ok (.bool (decide (a = b))) W := by
  simp [binOp, go_sem, Op.stringOp, beqS]
theorem ltS (W : World) (a b : ByteArray) : (binOp .lss 9 (.string a) (.string b)).run Try.prog W = .ok (.bool (decide (cmpB a b = -1))) W := by
  simp [binOp, go_sem, Op.stringOp, blessB]

theorem like_gr (x y : Kt) (xv yv : Value) (w : World) : Calls Try.prog 20 #[eV x xv, eV y yv] w fun e w' => e = .returned (.bool (decide (cmpK x y = 0))) ∧ Gr w w' := by
  have hc := fun W => compare_gr x y xv yv W
  unfold eV at hc ⊢
  generalize cmpK x y = c at hc ⊢
  have HC := Lib.hid hc
  clear hc
  go_enter Try.func20, Try.ntmps20
  go_wp2_with (go_at_call 18; refine (HC.out _).mono ?_; rintro e w1 ⟨rfl, hg⟩)
  go_ret
  exact ⟨rfl, (((Gr.refl w).alloc _).alloc _).trans hg⟩

theorem ahead_gr (x y : Kt) (xv yv : Value) (w : World) : Calls Try.prog 54 #[eV x xv, eV y yv] w fun e w' => e = .returned (.bool (decide (cmpK x y = -1))) ∧ Gr w w' := by
  rw [cmpK_or]
  obtain ⟨xt, xf, xo, xl⟩ := x
  obtain ⟨yt, yf, yo, yl⟩ := y
  unfold eV
  simp only
  have hlb := three_bytes
  by_cases h1 : xt = yt
  · subst h1
    by_cases h2 : xf = yf
    · subst h2
      by_cases h3 : xo = yo
      · subst h3
        have HE := Lib.hid (show or4 (Lib.compareInt xt xt) (cmpB xf xf) (cmpB xo xo) (cmpB xl yl) = cmpB xl yl by rw [three_int.rfl', hlb.rfl', hlb.rfl']; rfl)
        clear hlb
        go_enter Try.func54, Try.ntmps54
        go_wp2_with fail
        go_ret
        exact ⟨ret_bool (by rw [HE.out]; first | rfl | exact blessB _ _), ((Gr.refl w).alloc _).alloc _⟩
      · have HE := Lib.hid (show or4 (Lib.compareInt xt xt) (cmpB xf xf) (cmpB xo yo) (cmpB xl yl) = cmpB xo yo by rw [three_int.rfl', hlb.rfl']; simp only [or4, if_pos]; rw [if_neg (fun e => h3 ((hlb.zero _ _).1 e))])
        have h3' : (xo.toList == yo.toList) = false := by rw [beqS, decide_eq_false h3]
        clear hlb
        go_enter Try.func54, Try.ntmps54
        go_wp2_with fail
        go_ret
        exact ⟨ret_bool (by rw [HE.out]; first | rfl | exact blessB _ _), ((Gr.refl w).alloc _).alloc _⟩
    · have HE := Lib.hid (show or4 (Lib.compareInt xt xt) (cmpB xf yf) (cmpB xo yo) (cmpB xl yl) = cmpB xf yf by rw [three_int.rfl']; simp only [or4, if_pos]; rw [if_neg (fun e => h2 ((hlb.zero _ _).1 e))])
      have h2' : (xf.toList == yf.toList) = false := by rw [beqS, decide_eq_false h2]
      clear hlb
      go_enter Try.func54, Try.ntmps54
      go_wp2_with fail
      go_ret
      exact ⟨ret_bool (by rw [HE.out]; first | rfl | exact blessB _ _), ((Gr.refl w).alloc _).alloc _⟩
  · have HE := Lib.hid (show or4 (Lib.compareInt xt yt) (cmpB xf yf) (cmpB xo yo) (cmpB xl yl) = Lib.compareInt xt yt by simp only [or4]; rw [if_neg (fun e => h1 ((three_int.zero _ _).1 e))])
    have h1' : (xt != yt) = true := by simpa using h1
    have HC := Lib.hid (show decide (xt < yt) = decide (Lib.compareInt xt yt = -1) by
      rw [decide_eq_decide]; unfold Lib.compareInt; split <;> (try split) <;> omega)
    clear hlb h1
    go_enter Try.func54, Try.ntmps54
    go_wp2_with fail
    go_ret
    exact ⟨ret_bool (by rw [HE.out]; exact HC.out), ((Gr.refl w).alloc _).alloc _⟩

theorem box_a {w w1 : World} {xs ys : Array Value} {T U : TypeId} (h : Gr ((w.alloc (.cells xs T)).alloc (.cells ys U)) w1) (i : Nat) (v : Value) (hv : xs[i]? = some v) : w1.cell? ⟨w.heap.size, i, none⟩ = some v := by
  rw [h.below.cell (p := ⟨w.heap.size, i, none⟩) (by simp; omega)]
  have a1 : ((w.alloc (.cells xs T)).alloc (.cells ys U)).heap[w.heap.size]? = some (.cells xs T (0, 0)) := (Below.heap_alloc _ _ _ (by simp)).trans (heap_alloc_new w _)
  rw [cell_of_row _ _ i _ T (0, 0) a1, hv]
theorem box_b {w w1 : World} {xs ys : Array Value} {T U : TypeId} (h : Gr ((w.alloc (.cells xs T)).alloc (.cells ys U)) w1) (i : Nat) (v : Value) (hv : ys[i]? = some v) : w1.cell? ⟨w.heap.size + 1, i, none⟩ = some v := by
  rw [h.below.cell (p := ⟨w.heap.size + 1, i, none⟩) (by simp)]
  have a2 := heap_alloc_new (w.alloc (.cells xs T)) (.cells ys U)
  rw [World.size_alloc] at a2
  rw [cell_of_row _ _ i _ U (0, 0) a2, hv]

set_option maxRecDepth 100000 in
theorem rCompare_gr (x y : Kt) (xv yv : Value) (w : World) : Calls Try.prog 19 #[eV x xv, eV y yv] w fun e w' => e = .returned (.int .i64 (cmpK x y)) ∧ Gr w w' := by
  have h1 := fun W => ahead_gr x y xv yv W
  have h2 := fun W => ahead_gr y x yv xv W
  have hr := three_key.rng x y
  have hn := three_key.neg x y
  unfold eV at h1 h2 ⊢
  generalize cmpK x y = c at h1 hr hn ⊢
  generalize cmpK y x = d at h2 hn
  obtain rfl : d = -c := by omega
  obtain ⟨p, hp⟩ : ∃ p, decide (c = -1) = p := ⟨_, rfl⟩
  obtain ⟨q, hq⟩ : ∃ q, decide (-c = -1) = q := ⟨_, rfl⟩
  rw [hp] at h1
  rw [hq] at h2
  have H1 := Lib.hid h1
  have H2 := Lib.hid h2
  have HP := Lib.hid (And.intro hp (And.intro hq hr))
  clear h1 h2 hn hp hq hr
  cases p with
  | true =>
    have HE := Lib.hid (show c = -1 from of_decide_eq_true HP.out.1)
    clear HP
    go_enter Try.func19, Try.ntmps19
    go_wp2_with (go_at_call 54; (refine (H1.out _).mono ?_; rintro e w1 ⟨rfl, hg⟩))
    go_ret
    exact ⟨ret_int HE.out.symm, (((Gr.refl w).alloc _).alloc _).trans hg⟩
  | false =>
    cases q with
    | true =>
      have HE := Lib.hid (show c = 1 by have := of_decide_eq_true HP.out.2.1; omega)
      clear HP
      go_enter Try.func19, Try.ntmps19
      go_wp2_with (go_at_call 54; first | (refine (H1.out _).mono ?_; clear H1; rintro e w1 ⟨rfl, hg⟩; have c0 := box_a hg 0 _ rfl; have c1 := box_a hg 1 _ rfl; have c2 := box_a hg 2 _ rfl; have c3 := box_a hg 3 _ rfl; have c4 := box_a hg 4 _ rfl; have d0 := box_b hg 0 _ rfl; have d1 := box_b hg 1 _ rfl; have d2 := box_b hg 2 _ rfl; have d3 := box_b hg 3 _ rfl; have d4 := box_b hg 4 _ rfl; have HG := Lib.hid hg; clear hg) | (refine (H2.out _).mono ?_; rintro e w2 ⟨rfl, hg2⟩))
      go_ret
      exact ⟨ret_int HE.out.symm, ((((Gr.refl w).alloc _).alloc _).trans HG.out).trans hg2⟩
    | false =>
      have HE := Lib.hid (show c = 0 by have h1 := of_decide_eq_false HP.out.2.1; have h2 := of_decide_eq_false HP.out.1; have := HP.out.2.2; omega)
      clear HP
      go_enter Try.func19, Try.ntmps19
      go_wp2_with (go_at_call 54; first | (refine (H1.out _).mono ?_; clear H1; rintro e w1 ⟨rfl, hg⟩; have c0 := box_a hg 0 _ rfl; have c1 := box_a hg 1 _ rfl; have c2 := box_a hg 2 _ rfl; have c3 := box_a hg 3 _ rfl; have c4 := box_a hg 4 _ rfl; have d0 := box_b hg 0 _ rfl; have d1 := box_b hg 1 _ rfl; have d2 := box_b hg 2 _ rfl; have d3 := box_b hg 3 _ rfl; have d4 := box_b hg 4 _ rfl; have HG := Lib.hid hg; clear hg) | (refine (H2.out _).mono ?_; rintro e w2 ⟨rfl, hg2⟩))
      go_ret
      exact ⟨ret_int HE.out.symm, ((((Gr.refl w).alloc _).alloc _).trans HG.out).trans hg2⟩

theorem rLike_gr (x y : Kt) (xv yv : Value) (w : World) : Calls Try.prog 21 #[eV x xv, eV y yv] w fun e w' => e = .returned (.bool (decide (cmpK x y = 0))) ∧ Gr w w' := by
  have hc := fun W => rCompare_gr x y xv yv W
  unfold eV at hc ⊢
  generalize cmpK x y = c at hc ⊢
  have HC := Lib.hid hc
  clear hc
  go_enter Try.func21, Try.ntmps21
  go_wp2_with (go_at_call 19; refine (HC.out _).mono ?_; rintro e w1 ⟨rfl, hg⟩)
  go_ret
  exact ⟨rfl, (((Gr.refl w).alloc _).alloc _).trans hg⟩
end Go.Proofs.Ytpoefcpgcojppaa
