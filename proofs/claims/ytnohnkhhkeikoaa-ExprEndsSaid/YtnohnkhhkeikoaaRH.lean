/- The reference: whether a word is taken, whether the empty one. -/
import Derived.Test.YtnohnkhhkeikoaaRG
namespace Go.Proofs.Ytnohnkhhkeikoaa
open Go.ChangeShapes Go.WideShapes Go.ChangeAt Go.RowKit
set_option linter.unusedVariables false
set_option linter.unusedSimpArgs false

attribute [local go_sem] Oper.semAt_some

theorem ways_takes {x : X} (hr : x.right = true) (word : Wd) : pF (Bt (wdF word) x.L) 0 word.length = takesB x word := by
  apply bool_ext
  rw [pF_iff, takesB_iff]
  unfold Bt
  have e : seg (wdF word) 0 word.length = word := seg_word word
  rw [e]
  exact ⟨fun h => ⟨hr, h.2⟩, fun h => ⟨Nat.zero_le _, h.2⟩⟩

set_option maxRecDepth 100000 in
set_option maxHeartbeats 4000000 in
theorem rtakes_any {N M : Nat} {w : World} {v wv : Value} {x : X} {word : Wd} (hx : XV N w v x) (hN : N ≤ w.heap.size) (hsz : x.sz ≤ 100000) (hl : x.lit) (hw : SR M w wv word) (hM : M ≤ w.heap.size) (hwl : word.length ≤ 100000) :
    Calls Try.prog 21 #[v, wv] w fun e w' => e = .returned (.bool (takesB x word)) ∧ Below w.heap.size w w' := by
  have hxv := hx
  obtain ⟨kx, rfl, hkx⟩ := hx
  obtain ⟨A, c, rfl⟩ := hkx.form
  have hws := hw
  obtain ⟨A2, c2, rfl, hw2⟩ := hw
  clear hw2
  obtain ⟨n, hn⟩ : ∃ n, word.length = n := ⟨_, rfl⟩
  rw [hn] at hws hwl ⊢
  obtain ⟨W0, hW0⟩ : ∃ W0, w.alloc (.cells #[.int .i64 x.kind, .string x.lab, .slice A x.kids.length c] 25) = W0 := ⟨_, rfl⟩
  obtain ⟨hb0, hz0, hbx, hkd⟩ := boxed_kids hW0 hkx hN
  have HB0 := Lib.hid hb0
  have HBX := Lib.hid hbx
  have hxW : ∀ W, Below W0.heap.size W0 W → XV N W (.agg #[.int .i64 x.kind, .string x.lab, .slice A x.kids.length c]) x := fun W h => hxv.bel ((hb0.mono hN).trans (h.mono (by omega)))
  have HR := Lib.hid (fun W (h : Below W0.heap.size W0 W) => calls_base (rright_any (hxW W h) (Nat.le_trans hN (Nat.le_trans hb0.size h.size)) hsz hl) h)
  obtain ⟨d0, d1, d2⟩ := hbx W0 (Below.refl _ _)
  obtain ⟨rt, hrt⟩ : ∃ rt, x.right = rt := ⟨_, rfl⟩
  rw [hrt] at HR
  cases rt with
  | false =>
    have htk : takesB x word = false := by
      cases h : takesB x word with
      | false => rfl
      | true =>
        have := ((takesB_iff x word).1 h).1
        rw [hrt] at this
        cases this
    rw [htk]
    clear htk hrt hxv hxW hkx hws hbx hkd hb0 hn
    generalize x.kind = kd at *
    generalize x.lab = lb at *
    generalize x.kids.length = kn at *
    go_enter Try.func21, Try.ntmps21
    go_upto_region 1 with (fail)
    try rw [hW0]
    go_wp2_with (go_at_call 13; refine (HR.out _ (Below.refl _ _)).mono ?_; rintro e w1 ⟨rfl, h1⟩; have H1 := Lib.hid h1; clear h1)
    go_ret
    exact ⟨rfl, HB0.out.trans (H1.out.mono HB0.out.size)⟩
  | true =>
    have HTK := Lib.hid (ways_takes hrt word)
    rw [hn] at HTK
    have hgood := (right_good hrt).1
    have HW := Lib.hid (fun W (h : Below W0.heap.size W0 W) => ways43_any hn hwl x hsz hgood N M W _ _ (hxW W h) (hws.bel ((hb0.mono hM).trans (h.mono (by omega)))) (Nat.le_trans hN (Nat.le_trans hb0.size h.size)) (Nat.le_trans hM (Nat.le_trans hb0.size h.size)))
    clear hrt hxv hxW hkx hws hbx hkd hb0 hn
    obtain ⟨tk, htk⟩ : ∃ tk, takesB x word = tk := ⟨_, rfl⟩
    rw [htk] at HTK ⊢
    clear htk hgood
    generalize x.kind = kd at *
    generalize x.lab = lb at *
    generalize x.kids.length = kn at *
    go_enter Try.func21, Try.ntmps21
    go_upto_region 1 with (fail)
    try rw [hW0]
    go_upto_region 4 with (first
      | (go_at_call 13; refine (HR.out _ (Below.refl _ _)).mono ?_; rintro e w1 ⟨rfl, h1⟩; have H1 := Lib.hid h1; obtain ⟨d0, d1, d2⟩ := HBX.out _ h1; clear h1)
      | (go_at_call 43; refine (HW.out _ H1.out).mono ?_; rintro e w2 ⟨v2, rfl, hm2, hb2⟩; have H2 := Lib.hid (And.intro hm2 hb2); clear hm2 hb2))
    obtain ⟨g, cg, r, rfl, hcg, hmt⟩ := H2.out.1
    have c1 := hmt.cell (Nat.zero_le n)
    have c2' := hmt.flag (Nat.zero_le n) (Nat.le_refl n)
    rw [HTK.out] at c2'
    generalize r 0 = r0 at *
    have hni : (n : Int) < (n : Int) + 1 := by omega
    have hn1 : n < n + 1 := Nat.lt_succ_self n
    clear hmt d0 d1 d2
    go_wp2_with fail
    go_ret
    exact ⟨rfl, HB0.out.trans ((H1.out.trans (H2.out.2.mono H1.out.size)).mono HB0.out.size)⟩

set_option maxHeartbeats 1000000 in
theorem rempty_any {N : Nat} {w : World} {v : Value} {x : X} (hx : XV N w v x) (hN : N ≤ w.heap.size) (hsz : x.sz ≤ 100000) (hl : x.lit) :
    Calls Try.prog 19 #[v] w fun e w' => e = .returned (.bool (takesB x [])) ∧ Below w.heap.size w w' := by
  have hxv := hx
  obtain ⟨kx, rfl, hkx⟩ := hx
  obtain ⟨A, c, rfl⟩ := hkx.form
  obtain ⟨W0, hW0⟩ : ∃ W0, w.alloc (.cells #[.int .i64 x.kind, .string x.lab, .slice A x.kids.length c] 25) = W0 := ⟨_, rfl⟩
  obtain ⟨hb0, hz0, hbx, hkd⟩ := boxed_kids hW0 hkx hN
  have HB0 := Lib.hid hb0
  have HT := Lib.hid (rtakes_any (hxv.bel (hb0.mono hN)) (Nat.le_trans hN hb0.size) hsz hl (⟨none, 0, rfl, fun h => absurd h (Nat.lt_irrefl _)⟩ : SR 0 W0 (.slice none 0 0) []) (Nat.zero_le _) (Nat.zero_le _))
  obtain ⟨d0, d1, d2⟩ := hbx W0 (Below.refl _ _)
  clear hxv hkx hbx hkd hb0
  obtain ⟨tk, htk⟩ : ∃ tk, takesB x [] = tk := ⟨_, rfl⟩
  rw [htk] at HT ⊢
  clear htk
  generalize x.kind = kd at *
  generalize x.lab = lb at *
  generalize x.kids.length = kn at *
  go_enter Try.func19, Try.ntmps19
  go_upto_region 1 with (fail)
  try rw [hW0]
  go_wp2_with (go_at_call 21; refine HT.out.mono ?_; rintro e w1 ⟨rfl, h1⟩; have H1 := Lib.hid h1; clear h1)
  go_ret
  exact ⟨rfl, HB0.out.trans (H1.out.mono HB0.out.size)⟩
end Go.Proofs.Ytnohnkhhkeikoaa
