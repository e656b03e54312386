/- Takes: whether a word is taken. -/
import Derived.Test.YtnohnkhhkeikoaaT1
import Derived.Test.YtnohnkhhkeikoaaT2
import Derived.Test.YtnohnkhhkeikoaaT3
import Derived.Test.YtnohnkhhkeikoaaT4
namespace Go.Proofs.Ytnohnkhhkeikoaa
open Go.ChangeShapes Go.WideShapes Go.ChangeAt Go.RowKit
set_option linter.unusedVariables false

theorem good_kind {x : X} (h : x.good) : x.kind = 1 ∨ x.kind = 2 ∨ (x.kind = 3 ∨ x.kind = 6) ∨ (x.kind = 4 ∨ x.kind = 5) := by
  have hf := h.fit
  unfold X.fits fitB at hf
  by_cases h1 : x.kind = 1
  · exact .inl h1
  · rw [if_neg h1] at hf
    by_cases h2 : x.kind = 2 ∨ x.kind = 3
    · rcases h2 with h2 | h2
      · exact .inr (.inl h2)
      · exact .inr (.inr (.inl (.inl h2)))
    · rw [if_neg h2] at hf
      by_cases h3 : x.kind = 4 ∨ x.kind = 5 ∨ x.kind = 6
      · rcases h3 with h3 | h3 | h3
        · exact .inr (.inr (.inr (.inl h3)))
        · exact .inr (.inr (.inr (.inr h3)))
        · exact .inr (.inr (.inl (.inr h3)))
      · rw [if_neg h3] at hf
        cases hf
theorem step_any : ∀ x : X, x.good → StepC x := by
  intro x
  induction x using X.ind' with
  | h x ih =>
    intro hg
    have ih' : ∀ y ∈ x.kids, StepC y := fun y hy => ih y hy (hg.kids y hy)
    rcases good_kind hg with h | h | h | h
    · exact step_label hg h
    · exact step_seq hg h ih'
    · exact step_alt hg h ih'
    · exact step_star hg h ih'

/-- the flags behind the first k labels of a word -/
def flW (x : X) (word : List ByteArray) : Nat → List Bool
  | 0 => List.replicate x.sz false
  | k + 1 => stepF ((word[k]?).getD ⟨#[]⟩) x (flW x word k) (decide (k = 0))
theorem flW_len {x : X} (hg : x.good) (word : List ByteArray) : ∀ k, (flW x word k).length = x.sz
  | 0 => by simp [flW]
  | k + 1 => by rw [flW]; exact stepF_len _ x hg _ _ (flW_len hg word k)
/-- does an expression take a word? -/
def takesB (x : X) (word : List ByteArray) : Bool := x.right && (hd (flW x word word.length) || (decide (word.length = 0) && x.emp))

/-- where no flag is there none comes but by a beginning -/
theorem stepF_none (s : ByteArray) : ∀ (x : X), x.good → ∀ (fl : List Bool), fl.length = x.sz → (∀ e ∈ fl, e = false) → ∀ e ∈ stepF s x fl false, e = false := by
  intro x
  induction x using X.ind' with
  | h x ih =>
    intro hg fl hl hf
    have hhd : ∀ (l : List Bool), (∀ e ∈ l, e = false) → hd l = false := fun l h => by
      cases l with
      | nil => rfl
      | cons a l => exact h a (by simp)
    have hrow : ∀ (ks : List X), (∀ y ∈ ks, y ∈ x.kids) → ∀ (kf : List Bool), kf.length = szL ks → (∀ e ∈ kf, e = false) → (rowS s ks kf false false).2.1 = false ∧ ∀ e ∈ (rowS s ks kf false false).2.2, e = false := by
      intro ks
      induction ks with
      | nil => intro _ kf _ _; rw [rowS_nil]; exact ⟨rfl, fun e h => by cases h⟩
      | cons y ys ihy =>
        intro hin kf hk hkf
        rw [szL_cons] at hk
        have h1 := ih y (hin y (by simp)) (hg.kids y (hin y (by simp))) (kf.take y.sz) (by rw [List.length_take]; omega) (fun e he => hkf e (List.mem_of_mem_take he))
        have h2 := ihy (fun z hz => hin z (by simp [hz])) (kf.drop y.sz) (by rw [List.length_drop]; omega) (fun e he => hkf e (List.mem_of_mem_drop he))
        rw [rowS_cons]
        rw [hhd _ (fun e he => hkf e (List.mem_of_mem_take he)), hhd _ h1]
        simp only [Bool.false_and, Bool.or_self]
        refine ⟨h2.1, fun e he => ?_⟩
        rcases List.mem_append.1 he with he | he
        · exact h1 e he
        · exact h2.2 e he
    have halt : ∀ (ks : List X), (∀ y ∈ ks, y ∈ x.kids) → ∀ (kf : List Bool), kf.length = szL ks → (∀ e ∈ kf, e = false) → (altS s ks kf false false).1 = false ∧ ∀ e ∈ (altS s ks kf false false).2, e = false := by
      intro ks
      induction ks with
      | nil => intro _ kf _ _; rw [altS_nil]; exact ⟨rfl, fun e h => by cases h⟩
      | cons y ys ihy =>
        intro hin kf hk hkf
        rw [szL_cons] at hk
        have h1 := ih y (hin y (by simp)) (hg.kids y (hin y (by simp))) (kf.take y.sz) (by rw [List.length_take]; omega) (fun e he => hkf e (List.mem_of_mem_take he))
        have h2 := ihy (fun z hz => hin z (by simp [hz])) (kf.drop y.sz) (by rw [List.length_drop]; omega) (fun e he => hkf e (List.mem_of_mem_drop he))
        rw [altS_cons]
        rw [hhd _ h1]
        simp only [Bool.or_self]
        refine ⟨h2.1, fun e he => ?_⟩
        rcases List.mem_append.1 he with he | he
        · exact h1 e he
        · exact h2.2 e he
    have htl : fl.tail.length = szL x.kids := by rw [List.length_tail, hl, X.sz_eq]; omega
    have htf : ∀ e ∈ fl.tail, e = false := fun e he => hf e (List.mem_of_mem_tail he)
    obtain ⟨r1, r2⟩ := hrow x.kids (fun y hy => hy) fl.tail htl htf
    obtain ⟨a1, a2⟩ := halt x.kids (fun y hy => hy) fl.tail htl htf
    rw [stepF_eq]
    intro e he
    split at he
    · rcases List.mem_cons.1 he with rfl | he
      · rfl
      · exact htf e he
    · split at he
      · rcases List.mem_cons.1 he with rfl | he
        · exact r1
        · exact r2 e he
      · split at he
        · rcases List.mem_cons.1 he with rfl | he
          · exact a1
          · exact a2 e he
        · rw [hhd _ htf] at he
          simp only [Bool.or_self] at he
          rcases List.mem_cons.1 he with rfl | he
          · exact hhd _ a2
          · exact a2 e he
theorem flW_dead {x : X} (hg : x.good) {word : List ByteArray} {k : Nat} (h0 : 0 < k) (h : ∀ e ∈ flW x word k, e = false) : ∀ n, k ≤ n → ∀ e ∈ flW x word n, e = false := by
  intro n hn
  induction n with
  | zero => omega
  | succ n ih =>
    by_cases hk : k = n + 1
    · subst hk; exact h
    · rw [flW, decide_eq_false (by omega)]
      exact stepF_none _ x hg _ (flW_len hg word n) (ih (by omega))
theorem hd_false {l : List Bool} (h : ∀ e ∈ l, e = false) : hd l = false := by
  cases l with
  | nil => rfl
  | cons a l => exact h a (by simp)
theorem right_good {x : X} (h : x.right = true) : x.good ∧ x.sz ≤ 24 := by
  unfold X.right at h
  rw [Bool.and_eq_true, decide_eq_true_eq, List.all_eq_true] at h
  exact ⟨h.2, h.1⟩

/-- the slice v holds just the texts of l; all lies in blocks below B -/
def SR (B : Nat) (w : World) (v : Value) (l : List ByteArray) : Prop :=
  ∃ A c, v = .slice A l.length c ∧ (0 < l.length → ∃ ad, A = some ad ∧ ad.block < B ∧ ∀ k (h : k < l.length), w.cell? (ad.add k) = some (.string l[k]))
theorem SR.bel {B : Nat} {w w' : World} {v : Value} {l : List ByteArray} (h : SR B w v l) (hb : Below B w w') : SR B w' v l := by
  obtain ⟨A, c, rfl, h⟩ := h
  refine ⟨A, c, rfl, fun hn => ?_⟩
  obtain ⟨ad, rfl, hg, hc⟩ := h hn
  exact ⟨ad, rfl, hg, fun k hlt => (World.cell?_of_block (a := ad.add k) (by rw [block_add]; exact hb.block _ hg)).trans (hc k hlt)⟩

theorem SL_rep (x : X) (e : Bool) : SL x (List.replicate x.sz e) = x.parts.map (spX e) := by
  unfold SL X.sz
  generalize x.parts = l
  induction l with
  | nil => rfl
  | cons a l ih => rw [List.length_cons, List.replicate_succ, List.zipWith_cons_cons, ih]; rfl
theorem spots_mem {w : World} {base : Nat} {sv : Value} {x : X} (h : w.ownsRow base 56 5 sv x.sz (flatS (x.parts.map (spX false)))) : ∃ g cap, sv = .slice (some ⟨g, 0, none⟩) x.sz cap ∧ base ≤ g ∧ SpM w g (SL x (List.replicate x.sz false)) ∧ x.sz ≤ cap := by
  have hp := x.sz_pos
  rcases h.2 with ⟨_, h0⟩ | ⟨g, cap, cur, rfl, hb, hg, hc, _, _, ht⟩
  · omega
  · refine ⟨g, cap, rfl, hb, ⟨cur, hg, fun j u hj => ?_⟩, hc⟩
    rw [SL_rep, ← ht] at hj
    have hlt := (List.getElem?_eq_some_iff.1 hj).1
    rw [List.length_take] at hlt
    rw [List.getElem?_take_of_lt (by omega)] at hj
    simpa using hj

set_option maxRecDepth 100000 in
set_option maxHeartbeats 4000000 in
theorem takes20_any {N M : Nat} {w : World} {v wv : Value} {x : X} {word : List ByteArray} (hx : XV N w v x) (hN : N ≤ w.heap.size) (hsz : x.sz ≤ 100000) (hl : x.lit) (hw : SR M w wv word) (hM : M ≤ w.heap.size) (hwl : word.length ≤ 100000) :
    Calls Try.prog 20 #[v, wv] w fun e w' => e = .returned (.bool (takesB x word)) ∧ Below w.heap.size w w' := by
  have hR := fun w' (hb : Below w.heap.size w w') => right12_any (hx.bel (hb.mono hN)) (Nat.le_trans hN hb.size) hsz hl
  have HXB := Lib.hid (fun w' (hb : Below w.heap.size w w') => hx.bel (hb.mono hN))
  have HW := Lib.hid (fun w' (hb : Below w.heap.size w w') => hw.bel (hb.mono hM))
  obtain ⟨kv, rfl, hxr⟩ := hx
  obtain ⟨A, c, rfl⟩ := hxr.form
  obtain ⟨A2, c2, rfl, -⟩ := hw
  have hb0 : Below w.heap.size w (w.alloc (.cells #[.int .i64 x.kind, .string x.lab, .slice A x.kids.length c] 25)) := (Below.refl _ w).alloc (Nat.le_refl _) _
  have HB0 := Lib.hid hb0
  clear hb0 hxr
  obtain ⟨n, hn⟩ : ∃ n, word.length = n := ⟨_, rfl⟩
  have HN := Lib.hid hn
  rw [hn] at hwl ⊢
  clear hn
  cases hr : x.right with
  | false =>
    have HRT := Lib.hid hr
    have HR := Lib.hid (hR _ HB0.out)
    rw [hr] at HR
    clear hR
    go_enter Try.func20, Try.ntmps20
    go_wp2_with fail
    go_step3
    go_wp2_with (go_at_call 12; refine HR.out.mono ?_; rintro e w1 ⟨rfl, hb1⟩; have HB1 := Lib.hid (HB0.out.trans (hb1.mono HB0.out.size)); clear hb1)
    rw [Exit.noGoto_ret]
    go_ret
    exact ⟨by unfold takesB; rw [HRT.out]; rfl, HB1.out⟩
  | true =>
    have HRT := Lib.hid hr
    have HR := Lib.hid (hR _ HB0.out)
    rw [hr] at HR
    clear hR
    obtain ⟨hg, h24⟩ := right_good hr
    have HG := Lib.hid hg
    clear hr hg
    go_enter Try.func20, Try.ntmps20
    go_wp2_with fail
    go_step3
    go_wp2_with (first
      | (go_at_call 12; refine HR.out.mono ?_; rintro e w1 ⟨rfl, hb1⟩; have HB1 := Lib.hid (HB0.out.trans (hb1.mono HB0.out.size)); obtain ⟨d0, d1, d2⟩ := box_cells (w := w) (W := w1) (by simpa using hb1); clear hb1)
      | (go_at_call 41; refine (spots_any (HXB.out _ HB1.out) (Nat.le_trans hN HB1.out.size) (by omega)).mono ?_; rintro e w2 ⟨sv, rfl, hrow, hb2⟩; obtain ⟨g, cp, rfl, hgb, hsm, hcp⟩ := spots_mem hrow; have HSM := Lib.hid hsm; have hgw := Nat.le_trans HB1.out.size hgb; have HB2 := Lib.hid (HB1.out.trans (hb2.mono HB1.out.size)); clear hrow hb2 hsm hgb))
    go_step3
    go_wp2_with fail
    have hxp := x.sz_pos
    have hxi : (0 : Int) < (x.sz : Int) := by omega
    clear d0 d1 d2
    go_loopw [17] (fun i wr => ∃ k : Nat, k ≤ n ∧ i = .int .i64 k ∧ SpM wr g (SL x (flW x word k)) ∧ Ch g w2 wr) (fun i _ => n - (intOf i).toNat)
    case atStart => exact ⟨0, Nat.zero_le _, rfl, by rw [flW]; exact HSM.out, Ch.refl _ _⟩
    case round =>
      obtain ⟨k, hk, rfl, hsm, hch⟩ := hrel
      have hbw : Below w.heap.size w wr := HB2.out.trans (hch.below HB2.out.size hgw)
      by_cases hlt : k < n
      · have e1 : k < word.length := by have := HN.out; omega
        obtain ⟨A', c', eA, hcell⟩ := HW.out wr hbw
        injection eA with e2 e3 e4
        subst e2 e4
        obtain ⟨ad, rfl, _, hck⟩ := hcell (by omega)
        have hc0 := hck k e1
        obtain ⟨lb, hlb⟩ : ∃ lb, word[k] = lb := ⟨_, rfl⟩
        rw [hlb] at hc0
        have hfl : flW x word (k + 1) = stepF lb x (flW x word k) (decide (k = 0)) := by rw [flW, List.getElem?_eq_getElem e1, hlb]; rfl
        have hstep := step_any x HG.out g [] [] (flW x word k) cp lb (decide (k = 0)) wr (flW_len HG.out word k) (by simpa using hsm) hcp (by simp; omega)
        rw [← hfl] at hstep
        simp only [List.length_nil, Nat.zero_mul] at hstep
        have HST := Lib.hid hstep
        have HSC := Lib.hid (And.intro hsm hch)
        have hln := flW_len HG.out word (k + 1)
        have HF1 := Lib.hid (show ∃ F, flW x word (k + 1) = F from ⟨_, rfl⟩)
        obtain ⟨F, hF⟩ := HF1.out
        have HF := Lib.hid hF
        rw [hF] at hln HST
        clear hsm hch hbw hck hcell hlb hfl hstep hF HF1
        have hkk : (((k : Int) == 0) = decide (k = 0)) := by
          by_cases h : k = 0 <;> simp [h]
        go_wp2_with (go_at_call 42; first | (refine HST.out.mono ?_; rintro e w3 ⟨rfl, hm3, hc3⟩; have HM3 := Lib.hid (And.intro hm3 (HSC.out.2.trans hc3)); clear hm3 hc3))
        go_loopw [29] (fun i wq => ∃ j : Nat, j ≤ x.sz ∧ i = .int .i64 j ∧ (∀ q, q < j → F[q]? = some false) ∧ Below w3.heap.size w3 wq) (fun i _ => x.sz - (intOf i).toNat)
        case atStart => exact ⟨0, Nat.zero_le _, rfl, fun q hq => absurd hq (Nat.not_lt_zero _), Below.refl _ _⟩
        case round =>
          obtain ⟨j, hj, rfl, hpre, hbq⟩ := hrel
          have hmq := HM3.out.1.bel hbq
          simp only [List.nil_append, List.append_nil] at hmq
          have HQ := Lib.hid (And.intro hmq (And.intro hpre hbq))
          clear hpre hbq
          by_cases hjs : j < x.sz
          · have hjF : j < F.length := by omega
            have hjL : j < (SL x F).length := by rw [SL_len hln]; exact hjs
            obtain ⟨y0, y1, y2, y3, y4⟩ := hmq.at5 hjL
            have hej : (SL x F)[j].ends = F[j] := by simp [SL, spX]
            rw [hej] at y4
            generalize (SL x F)[j] = sj at *
            clear hmq
            cases hFj : F[j] with
            | true =>
              rw [hFj] at y4
              clear hFj
              go_wp2_with fail
              go_roundw
              case rel => exact ⟨k + 1, by omega, by go_num, by rw [HF.out]; exact HQ.out.1.bel ((Below.refl _ wr).alloc (Nat.le_refl _) _), (HM3.out.2.trans (Ch.of_below HQ.out.2.2)).trans (Ch.of_below ((Below.refl _ wr).alloc (Nat.le_refl _) _))⟩
              case measure => simp [intOf]; omega
            | false =>
              rw [hFj] at y4
              have HFJ := Lib.hid hFj
              clear hFj
              go_wp2_with fail
              go_roundw
              case rel =>
                refine ⟨j + 1, by omega, by go_num, fun q hq => ?_, HQ.out.2.2.trans (((Below.refl _ wr).alloc (Nat.le_refl _) _).mono HQ.out.2.2.size)⟩
                by_cases hqj : q = j
                · subst hqj
                  rw [List.getElem?_eq_getElem hjF, HFJ.out]
                · exact HQ.out.2.1 q (by omega)
              case measure => simp [intOf]; omega
          · have hjz : j = x.sz := by omega
            have hdead : ∀ e ∈ F, e = false := fun e he => by
              obtain ⟨q, hq, rfl⟩ := List.mem_iff_getElem.1 he
              have := HQ.out.2.1 q (by omega)
              rw [List.getElem?_eq_getElem hq] at this
              injection this
            have hres : takesB x word = false := by
              unfold takesB
              rw [← HF.out] at hdead
              have h1 := flW_dead HG.out (by omega) hdead word.length (by have := HN.out; omega)
              rw [hd_false h1, decide_eq_false (by have := HN.out; omega)]
              simp
            have HRES := Lib.hid (And.intro hres (HB2.out.trans ((HM3.out.2.trans (Ch.of_below HQ.out.2.2)).below HB2.out.size hgw)))
            clear hmq hdead hres
            go_wp2_with fail
            try rw [Exit.noGoto_ret]
            go_ret
            exact ⟨by rw [HRES.out.1]; rfl, HRES.out.2⟩
      · have hkn : k = n := by omega
        subst hkn
        have hfl := flW_len HG.out word k
        obtain ⟨e0, fk, hfk⟩ : ∃ e0 fk, flW x word k = e0 :: fk := List.exists_cons_of_length_pos (by omega)
        rw [hfk, SL_cons] at hsm
        have hsm' : SpM wr g ([] ++ spX e0 x :: (SLs x.kids fk ++ [])) := by simpa using hsm
        obtain ⟨-, -, -, y3, y4⟩ := hsm'.at0
        simp only [List.length_nil, Nat.zero_mul, Nat.zero_add, spX] at y3 y4
        have hres : takesB x word = (e0 || (decide (k = 0) && x.emp)) := by
          unfold takesB
          rw [HRT.out, HN.out, hfk]
          rfl
        have HRES := Lib.hid (And.intro hres hbw)
        clear hres hsm hsm' hfk hbw hch
        generalize x.emp = em at *
        rcases Bool.eq_false_or_eq_true e0 with rfl | rfl
        · go_wp2_with fail
          try rw [Exit.noGoto_ret]
          go_ret
          exact ⟨by rw [HRES.out.1]; rfl, HRES.out.2⟩
        · rcases Nat.eq_zero_or_pos k with h0 | h0
          · subst h0
            go_wp2_with fail
            try rw [Exit.noGoto_ret]
            go_ret
            exact ⟨by rw [HRES.out.1]; simp, HRES.out.2⟩
          · have h0' : (k : Int) ≠ 0 := by omega
            go_wp2_with fail
            try rw [Exit.noGoto_ret]
            go_ret
            exact ⟨by rw [HRES.out.1, decide_eq_false (by omega)]; rfl, HRES.out.2⟩
end Go.Proofs.Ytnohnkhhkeikoaa
