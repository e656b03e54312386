/- Texts UG, PC, PE, PF, PG, PH, one behind the other. -/
import Derived.Test.YtpoefcpgcojppaaM0
import Derived.Test.YtpoefcpgcojppaaM1
import Derived.Test.YtpoefcpgcojppaaM2
import Derived.Maps.AppendAt
import Derived.Deep.RegionHeld3
import Derived.Deep.RegionLaw
set_option linter.unusedSimpArgs false
namespace Go.Proofs.Ytpoefcpgcojppaa
open Go.Shelf Go.RowKit Go.Lib Go.Sort
set_option linter.unusedVariables false
variable {P : Program} {α : Type} [Inhabited α] {enc : α → List Value} {k : Nat} {w0 : World} {blk off : Nat} {d0 : Array α} {cf : α → α → Int}

set_option maxHeartbeats 8000000 in
set_option maxRecDepth 1000000 in
theorem stable_any (L : Ly P k) (R : RowK enc k w0 blk off d0) (hC : Cm cf) (g : Nat) (cb : Array Value) (hcmp : CmpLays P g cb enc k cf blk off d0.size w0) (eg : ∀ args w, (callFunc g args).run P w = .ok (.enter g args) w) (cap : Nat) (hsz : d0.size ≤ 1099511627776) (dk : Array α) (hs : dk.size = d0.size) {W : World} (h : SWK enc k w0 blk off dk W) :
    Calls P 86 #[.slice (some ⟨blk, off, none⟩) d0.size cap, .int .i64 d0.size, .func (.func g) #[] cb] W fun e w' => e = .returned (.tuple #[]) ∧ ∃ dj : Array α, dj.size = d0.size ∧ SWK enc k w0 blk off dj w' ∧ Srt cf 0 d0.size (fn dj) ∧ Mv cf 0 d0.size (fn dk) (fn dj) := by
  have mixed := L.mixed; have t0 := L.t0; have a0 := L.a0; have z0 := L.z0; have v0 := L.v0; have t3 := L.t3; have a3 := L.a3; have z3 := L.z3; have v3 := L.v3; have t4 := L.t4; have a4 := L.a4; have z4 := L.z4; have v4 := L.v4; have t26 := L.t26; have a26 := L.a26; have z26 := L.z26; have v26 := L.v26; have t39 := L.t39; have a39 := L.a39; have z39 := L.z39; have v39 := L.v39; have aE := L.aE; have zE := L.zE
  have u26 := run_underlying L.t26
  have e91 : ∀ args w, (callFunc 91 args).run P w = .ok (.enter 91 args) w := enters_of L.f91 (by kernel_rfl) rfl
  have e92 : ∀ args w, (callFunc 92 args).run P w = .ok (.enter 92 args) w := enters_of L.f92 (by kernel_rfl) rfl
  have FF := L.f86
  have hins := fun (a b : Nat) (dk : Array α) (hs : dk.size = d0.size) (W : World) (h : SWK enc k w0 blk off dk W) (hab : a ≤ b) (hb : b ≤ d0.size) => insertion_any L R hC g cb hcmp eg cap a b dk hs h hab hb hsz
  have hsym := fun (a m b : Nat) (dk : Array α) (W : World) (hs : dk.size = d0.size) (h : SWK enc k w0 blk off dk W) (ham : a < m) (hmb : m < b) (hb : b ≤ d0.size) (s1 : Srt cf a m (fn dk)) (s2 : Srt cf m b (fn dk)) => symMerge_any L R hC g cb hcmp eg cap hsz (b - a) a m b dk W (Nat.le_refl _) hs h ham hmb hb s1 s2
  unfold SymR at hsym
  have HINS := Lib.hid hins
  have HSYM := Lib.hid hsym
  have H := Lib.hid h
  obtain ⟨N, hN⟩ : ∃ N, d0.size = N := ⟨_, rfl⟩
  have HN := Lib.hid hN
  rw [hN] at hs hsz HINS HSYM ⊢
  clear R h hN L hcmp hC hins hsym
  go_enter FF, Try.ntmps86
  go_wp2_with fail
  go_loopg [7, 8] (N + 40) (fun g1 va vb wr => ∃ (a b q : Nat) (dj : Array α), va = .int .i64 a ∧ vb = .int .i64 b ∧ b = a + 20 ∧ a ≤ N ∧ N + 20 ≤ g1 + a ∧ dj.size = N ∧ Hid (SWK enc k w0 blk off dj wr) ∧ Hid (a = q * 20 ∧ (∀ x, x < q → Srt cf (x * 20) ((x + 1) * 20) (fn dj)) ∧ Mv cf 0 N (fn dk) (fn dj)))
  case atStart => exact ⟨0, 20, 0, dk, rfl, rfl, rfl, Nat.zero_le _, by omega, hs, H.out, by omega, fun x hx => by omega, Mv.refl _ _ _⟩
  case round =>
    obtain ⟨a, b, q, dj, rfl, rfl, hab, haN, hg1, hsj, HK, HI⟩ := hrel
    have HAB := Lib.hid hab
    have wb : IntKind.i64.wrap ((b : Int) + 20) = (b : Int) + 20 := by rw [IntKind.wrap_i64]; omega
    by_cases hle : b ≤ N
    · have hle' : (b : Int) ≤ (N : Int) := by omega
      clear hab
      go_wp2_with (go_at_fn 91; refine (HINS.out a b dj hsj _ HK.out (by have := HAB.out; omega) hle).mono ?_; rintro e w' ⟨rfl, dn, hsn, hkn, hsr, hmv⟩; have HKN := Lib.hid hkn; have HMV := Lib.hid hmv; have HSR := Lib.hid hsr; clear hkn hmv hsr)
      go_roundg (N + 20 - b)
      case measure => have := HAB.out; omega
      case rel =>
        have hab := HAB.out
        refine ⟨b, b + 20, q + 1, dn, rfl, by go_num, rfl, hle, by omega, hsn, HKN.out, by have := HI.out.1; omega, fun x hx => ?_, HI.out.2.2.trans (HMV.out.wide (Nat.zero_le _) (by omega) hle)⟩
        by_cases e : x = q
        · subst e
          have := HI.out.1
          rw [Nat.add_mul, ← this, Nat.one_mul, ← hab]
          exact HSR.out
        · have e1 : (x + 1) * 20 ≤ q * 20 := Nat.mul_le_mul_right _ (by omega)
          exact (HI.out.2.1 x (by omega)).mv HMV.out (.inl (by have := HI.out.1; omega))
    · have hle' : ¬ (b : Int) ≤ (N : Int) := by omega
      clear hab wb
      go_wp2_with (go_at_fn 91; refine (HINS.out a N dj hsj _ HK.out haN (Nat.le_refl _)).mono ?_; rintro e w' ⟨rfl, dn, hsn, hkn, hsr, hmv⟩; have HKN := Lib.hid hkn; have HMV := Lib.hid hmv; have HSR := Lib.hid hsr; clear hkn hmv hsr)
      have HBL := Lib.hid (show Blk cf N 20 (fn dn) ∧ Mv cf 0 N (fn dk) (fn dn) from by
        have hab := HAB.out
        obtain ⟨h1, h2, h3⟩ := HI.out
        refine ⟨blk_first h2 (by rw [← h1]; exact HMV.out) (by rw [← h1]; exact HSR.out) (by omega) (by omega), h3.trans (HMV.out.wide (Nat.zero_le _) haN (Nat.le_refl _))⟩)
      clear HI HMV HSR HAB HK
      go_loopg [6] N (fun g2 vs wr => ∃ (s : Nat) (dj : Array α), vs = .int .i64 s ∧ 0 < s ∧ s ≤ 2 * N + 20 ∧ N ≤ g2 + s ∧ dj.size = N ∧ Hid (SWK enc k w0 blk off dj wr) ∧ Hid (Blk cf N s (fn dj) ∧ Mv cf 0 N (fn dk) (fn dj)))
      case atStart => exact ⟨20, dn, rfl, by omega, by omega, by omega, hsn, HKN.out, HBL.out⟩
      case round =>
        obtain ⟨s, dj, rfl, hs0, hs1, hg2, hsj, HK2, HB⟩ := hrel
        clear HBL HKN
        by_cases hlt : s < N
        · have hlt' : (s : Int) < (N : Int) := by omega
          obtain ⟨t, ht⟩ : ∃ t, 2 * s = t := ⟨_, rfl⟩
          have HT := Lib.hid ht
          have e1 : (2 : Int) * (s : Int) = (t : Int) := by omega
          have e2 : (s : Int) * 2 = (t : Int) := by omega
          have w1 : IntKind.i64.wrap (t : Int) = (t : Int) := by rw [IntKind.wrap_i64]; omega
          have HST := Lib.hid (show s < t ∧ t ≤ 2 * N by omega)
          clear ht
          go_wp2_with fail
          clear e2
          go_loopg [7, 8] (N + t) (fun g3 va vb wr => ∃ (a b q : Nat) (d2 : Array α), va = .int .i64 a ∧ vb = .int .i64 b ∧ b ≤ N + t ∧ a ≤ N ∧ N + t ≤ g3 + a ∧ d2.size = N ∧ Hid (b = a + t) ∧ Hid (SWK enc k w0 blk off d2 wr) ∧ Hid (a = q * (2 * s) ∧ Pas cf N s q (fn d2) ∧ Mv cf 0 N (fn dk) (fn d2)))
          case atStart => exact ⟨0, t, 0, dj, rfl, rfl, by omega, Nat.zero_le _, by omega, hsj, (Nat.zero_add t).symm, HK2.out, (Nat.zero_mul _).symm, Pas.start HB.out.1, HB.out.2⟩
          case round =>
            obtain ⟨a, b, q, d2, rfl, rfl, hbt, haN, hg3, hs2, HAB, HK3, HI⟩ := hrel
            obtain ⟨m, hm⟩ : ∃ m, a + s = m := ⟨_, rfl⟩
            have e3 : (a : Int) + (s : Int) = (m : Int) := by omega
            have w3 : IntKind.i64.wrap (m : Int) = (m : Int) := by rw [IntKind.wrap_i64]; omega
            have HM := Lib.hid hm
            have ham : a < m := by omega
            clear hm
            by_cases hle : b ≤ N
            · have hle' : (b : Int) ≤ (N : Int) := by omega
              obtain ⟨b2, hb2⟩ : ∃ x, b + t = x := ⟨_, rfl⟩
              have e4 : (b : Int) + (t : Int) = (b2 : Int) := by omega
              have w4 : IntKind.i64.wrap (b2 : Int) = (b2 : Int) := by rw [IntKind.wrap_i64]; omega
              have HB2 := Lib.hid hb2
              have hmb : m < b := by have := HAB.out; have := HM.out; have := HST.out; omega
              have HS1 := Lib.hid (show Srt cf a m (fn d2) by
                have h := HI.out.2.1.s1
                rwa [← HI.out.1, HM.out, Nat.min_eq_left (by omega)] at h)
              have HS2 := Lib.hid (show Srt cf m b (fn d2) by
                have h := HI.out.2.1.s2
                rwa [← HI.out.1, HM.out, HT.out, ← HAB.out, Nat.min_eq_left hle] at h)
              clear hb2
              go_wp2_with (go_at_fn 92; refine (HSYM.out a m b d2 _ hs2 HK3.out ham hmb hle HS1.out HS2.out).mono ?_; rintro e w' ⟨rfl, dn, hsn, hkn, hsr, hmv⟩; have HKN := Lib.hid hkn; have HMV := Lib.hid hmv; have HSR := Lib.hid hsr; clear hkn hmv hsr)
              go_roundg (N + t - b)
              case measure => have := HAB.out; have := HST.out; omega
              case rel =>
                refine ⟨b, b2, q + 1, dn, rfl, rfl, by have := HB2.out; omega, hle, by omega, hsn, HB2.out.symm, HKN.out, ?_, ?_, HI.out.2.2.trans (HMV.out.wide (Nat.zero_le _) (by omega) hle)⟩
                · rw [succ_dbl, ← HI.out.1, HT.out]; exact HAB.out
                · refine HI.out.2.1.next ?_ ?_
                  · rw [← HI.out.1, HT.out, ← HAB.out]; exact HMV.out
                  · rw [← HI.out.1, HT.out, ← HAB.out]; exact HSR.out
            · have hle' : ¬ (b : Int) ≤ (N : Int) := by omega
              by_cases hmn : m < N
              · have hmn' : (m : Int) < (N : Int) := by omega
                have HS1 := Lib.hid (show Srt cf a m (fn d2) by
                  have h := HI.out.2.1.s1
                  rwa [← HI.out.1, HM.out, Nat.min_eq_left (by omega)] at h)
                have HS2 := Lib.hid (show Srt cf m N (fn d2) by
                  have h := HI.out.2.1.s2
                  rwa [← HI.out.1, HM.out, HT.out, ← HAB.out, Nat.min_eq_right (by omega)] at h)
                have e5 : (s : Int) * 2 = (t : Int) := by have := HT.out; omega
                clear e1
                go_wp2_with (go_at_fn 92; refine (HSYM.out a m N d2 _ hs2 HK3.out ham hmn (Nat.le_refl _) HS1.out HS2.out).mono ?_; rintro e w' ⟨rfl, dn, hsn, hkn, hsr, hmv⟩; have HKN := Lib.hid hkn; have HMV := Lib.hid hmv; have HSR := Lib.hid hsr; clear hkn hmv hsr)
                go_roundg (N - t)
                case measure => have := HST.out; omega
                case rel =>
                  have hst := HST.out
                  refine ⟨t, dn, rfl, by omega, by omega, by omega, hsn, HKN.out, ?_, HI.out.2.2.trans (HMV.out.wide (Nat.zero_le _) haN (Nat.le_refl _))⟩
                  rw [← HT.out]
                  exact HI.out.2.1.last (by rw [← HI.out.1]; exact HMV.out) (by rw [← HI.out.1]; exact HSR.out) (by rw [← HI.out.1]; exact haN) (by rw [← HI.out.1, HT.out, ← HAB.out]; omega)
              · have hmn' : ¬ (m : Int) < (N : Int) := by omega
                have e5 : (s : Int) * 2 = (t : Int) := by have := HT.out; omega
                clear e1
                go_wp2_with fail
                go_roundg (N - t)
                case measure => have := HST.out; omega
                case rel =>
                  have hst := HST.out
                  refine ⟨t, d2, rfl, by omega, by omega, by omega, hs2, HK3.out, ?_, HI.out.2.2⟩
                  rw [← HT.out]
                  have h := HI.out.2.1.s1
                  rw [← HI.out.1, HM.out, Nat.min_eq_right (by omega)] at h
                  exact HI.out.2.1.last (Mv.refl _ _ _) (by rw [← HI.out.1]; exact h) (by rw [← HI.out.1]; exact haN) (by rw [← HI.out.1, HT.out, ← HAB.out]; omega)
        · have hlt' : ¬ (s : Int) < (N : Int) := by omega
          go_wp2_with fail
          go_end0
          exact ⟨rfl, dj, hsj, HK2.out, HB.out.1.all (by omega), HB.out.2⟩
end Go.Proofs.Ytpoefcpgcojppaa

namespace Go.Proofs.Ytpoefcpgcojppaa
open Go.ChangeShapes Go.WideShapes Go.ChangeAt Go.RowKit
set_option linter.unusedVariables false

/-- an edge's five cells in a block of its own -/
structure Bx5 (w : World) (b : Nat) (v0 v1 v2 v3 v4 : Value) : Prop where
  c0 : w.cell? ⟨b, 0, none⟩ = some v0
  c1 : w.cell? ⟨b, 1, none⟩ = some v1
  c2 : w.cell? ⟨b, 2, none⟩ = some v2
  c3 : w.cell? ⟨b, 3, none⟩ = some v3
  c4 : w.cell? ⟨b, 4, none⟩ = some v4
  lt : b < w.heap.size
theorem Bx5.of {w : World} {b : Nat} {v0 v1 v2 v3 v4 : Value} {t : TypeId} (h : w.heap[b]? = some (.cells #[v0, v1, v2, v3, v4] t (0, 0))) : Bx5 w b v0 v1 v2 v3 v4 :=
  ⟨by rw [cell_of_row _ _ 0 _ t (0, 0) h]; rfl, by rw [cell_of_row _ _ 1 _ t (0, 0) h]; rfl, by rw [cell_of_row _ _ 2 _ t (0, 0) h]; rfl, by rw [cell_of_row _ _ 3 _ t (0, 0) h]; rfl, by rw [cell_of_row _ _ 4 _ t (0, 0) h]; rfl, (Array.getElem?_eq_some_iff.1 h).1⟩
theorem Bx5.new (w : World) (v0 v1 v2 v3 v4 : Value) (t : TypeId) : Bx5 (w.alloc (.cells #[v0, v1, v2, v3, v4] t)) w.heap.size v0 v1 v2 v3 v4 := Bx5.of (heap_alloc_new w _)
theorem Bx5.belowN {w w' : World} {b N : Nat} {v0 v1 v2 v3 v4 : Value} (h : Bx5 w b v0 v1 v2 v3 v4) (hb : Below N w w') (hlt : b < N) : Bx5 w' b v0 v1 v2 v3 v4 :=
  ⟨(hb.cell (p := ⟨b, 0, none⟩) hlt).trans h.c0, (hb.cell (p := ⟨b, 1, none⟩) hlt).trans h.c1, (hb.cell (p := ⟨b, 2, none⟩) hlt).trans h.c2, (hb.cell (p := ⟨b, 3, none⟩) hlt).trans h.c3, (hb.cell (p := ⟨b, 4, none⟩) hlt).trans h.c4, Nat.lt_of_lt_of_le h.lt hb.size⟩
theorem Bx5.below {w w' : World} {b : Nat} {v0 v1 v2 v3 v4 : Value} (h : Bx5 w b v0 v1 v2 v3 v4) (hb : Below w.heap.size w w') : Bx5 w' b v0 v1 v2 v3 v4 := h.belowN hb h.lt

def CheckR (e : Ed) (w : World) (x : Ending) (w' : World) : Prop := x = .returned (.int .i64 (checkE e)) ∧ Below w.heap.size w w'
theorem chn {w a b : World} (h : Below w.heap.size w a) (k : Below a.heap.size a b) : Below w.heap.size w b := h.trans (k.mono h.size)

set_option maxHeartbeats 4000000 in
theorem check_any {w : World} {pv : Value} {e : Ed} (h : PR w pv e.props) (hs : SzE e) : Calls Try.prog 16 #[e.v pv] w (CheckR e w) := by
  unfold CheckR
  obtain ⟨z1, z2, z3, z4⟩ := hs
  have hf1 := fun W => vertex_any e.src W (le_max z1)
  have hf2 := fun W => vertex_any e.dst W (le_max z2)
  have hf3 := fun W => free_any e.lab W (le_max z3)
  have hf4 := fun W (hW : Below w.heap.size w W) => areProps_any (h.below hW) z4
  have hf5 := fun W => is_any e.time W
  unfold PropsR at hf4
  have hchk : checkE e = if verB e.src = true ∧ verB e.dst = true ∧ freB e.lab = true ∧ areB e.props = true then (if timeB e.time = true then 0 else 6) else 2 := by
    unfold checkE
    by_cases hp : areP e.props
    · simp [hp, (areB_iff _).2 hp]
    · simp [hp, areB_not _ hp]
  have HCHK := Lib.hid hchk
  clear hchk
  obtain ⟨b1, hb1⟩ : ∃ b, verB e.src = b := ⟨_, rfl⟩
  obtain ⟨b2, hb2⟩ : ∃ b, verB e.dst = b := ⟨_, rfl⟩
  obtain ⟨b3, hb3⟩ : ∃ b, freB e.lab = b := ⟨_, rfl⟩
  obtain ⟨b4, hb4⟩ : ∃ b, areB e.props = b := ⟨_, rfl⟩
  obtain ⟨b5, hb5⟩ : ∃ b, timeB e.time = b := ⟨_, rfl⟩
  rw [hb1] at hf1
  rw [hb2] at hf2
  rw [hb3] at hf3
  rw [hb4] at hf4
  rw [hb5] at hf5
  have HCE : Hid (checkE e = if b1 = true ∧ b2 = true ∧ b3 = true ∧ b4 = true then (if b5 = true then 0 else 6) else 2) := by
    show _ = _
    rw [HCHK.out, hb1, hb2, hb3, hb4, hb5]
  have F1 := Lib.hid hf1
  have F2 := Lib.hid hf2
  have F3 := Lib.hid hf3
  have F4 := Lib.hid hf4
  have F5 := Lib.hid hf5
  clear hf1 hf2 hf3 hf4 hf5 hb1 hb2 hb3 hb4 hb5 HCHK z1 z2 z3 z4 h
  unfold Ed.v
  generalize e.src = s at *
  generalize e.dst = d at *
  generalize e.lab = l at *
  generalize e.time = t at *
  have HX0 := Lib.hid (Bx5.new w (.string s) (.string d) (.string l) (.int .i64 t) pv 24)
  have HW0 := Lib.hid ((Below.refl w.heap.size w).alloc (Nat.le_refl _) (.cells #[.string s, .string d, .string l, .int .i64 t, pv] 24))
  cases b1 with
  | false =>
    go_enter Try.func16, Try.ntmps16
    go_wp2_with (go_at_call 43; refine (F1.out _).mono ?_; clear F1; rintro x w1 ⟨rfl, k1⟩; obtain ⟨y0, y1, y2, y3, y4, _⟩ := HX0.out.below k1)
    go_ret
    exact ⟨ret_int (by rw [HCE.out]; simp), chn HW0.out k1⟩
  | true =>
    cases b2 with
    | false =>
      go_enter Try.func16, Try.ntmps16
      go_wp2_with (go_at_call 43; first | (refine (F1.out _).mono ?_; clear F1; rintro x w1 ⟨rfl, k1⟩; have HX1 := Lib.hid (HX0.out.below k1); obtain ⟨y0, y1, y2, y3, y4, _⟩ := HX1.out) | (refine (F2.out _).mono ?_; clear F2; rintro x w2 ⟨rfl, k2⟩; obtain ⟨z0, z1, z2, z3, z4, _⟩ := HX1.out.below k2))
      go_ret
      exact ⟨ret_int (by rw [HCE.out]; simp), chn (chn HW0.out k1) k2⟩
    | true =>
      cases b3 with
      | false =>
        go_enter Try.func16, Try.ntmps16
        go_wp2_with (first | (go_at_call 43; first | (refine (F1.out _).mono ?_; clear F1; rintro x w1 ⟨rfl, k1⟩; have HX1 := Lib.hid (HX0.out.below k1); obtain ⟨y0, y1, y2, y3, y4, _⟩ := HX1.out) | (refine (F2.out _).mono ?_; clear F2; rintro x w2 ⟨rfl, k2⟩; have HX2 := Lib.hid (HX1.out.below k2); obtain ⟨z0, z1, z2, z3, z4, _⟩ := HX2.out)) | (go_at_call 44; refine (F3.out _).mono ?_; clear F3; rintro x w3 ⟨rfl, k3⟩))
        go_ret
        exact ⟨ret_int (by rw [HCE.out]; simp), chn (chn (chn HW0.out k1) k2) k3⟩
      | true =>
        cases b4 with
        | false =>
          go_enter Try.func16, Try.ntmps16
          go_wp2_with (first | (go_at_call 43; first | (refine (F1.out _).mono ?_; clear F1; rintro x w1 ⟨rfl, k1⟩; have HX1 := Lib.hid (HX0.out.below k1); obtain ⟨y0, y1, y2, y3, y4, _⟩ := HX1.out) | (refine (F2.out _).mono ?_; clear F2; rintro x w2 ⟨rfl, k2⟩; have HX2 := Lib.hid (HX1.out.below k2); obtain ⟨z0, z1, z2, z3, z4, _⟩ := HX2.out)) | (go_at_call 44; refine (F3.out _).mono ?_; clear F3; rintro x w3 ⟨rfl, k3⟩; have HX3 := Lib.hid (HX2.out.below k3); obtain ⟨u0, u1, u2, u3, u4, _⟩ := HX3.out; have HW3 := Lib.hid (chn (chn (chn HW0.out k1) k2) k3)) | (go_at_call 45; refine (F4.out _ HW3.out).mono ?_; clear F4; rintro x w4 ⟨rfl, k4⟩))
          go_ret
          exact ⟨ret_int (by rw [HCE.out]; simp), chn HW3.out k4⟩
        | true =>
          cases b5 with
          | false =>
            go_enter Try.func16, Try.ntmps16
            go_wp2_with (first | (go_at_call 43; first | (refine (F1.out _).mono ?_; clear F1; rintro x w1 ⟨rfl, k1⟩; have HX1 := Lib.hid (HX0.out.below k1); obtain ⟨y0, y1, y2, y3, y4, _⟩ := HX1.out) | (refine (F2.out _).mono ?_; clear F2; rintro x w2 ⟨rfl, k2⟩; have HX2 := Lib.hid (HX1.out.below k2); obtain ⟨z0, z1, z2, z3, z4, _⟩ := HX2.out)) | (go_at_call 44; refine (F3.out _).mono ?_; clear F3; rintro x w3 ⟨rfl, k3⟩; have HX3 := Lib.hid (HX2.out.below k3); obtain ⟨u0, u1, u2, u3, u4, _⟩ := HX3.out; have HW3 := Lib.hid (chn (chn (chn HW0.out k1) k2) k3)) | (go_at_call 45; refine (F4.out _ HW3.out).mono ?_; clear F4; rintro x w4 ⟨rfl, k4⟩; have HX4 := Lib.hid (HX3.out.below k4); obtain ⟨x0, x1, x2, x3, x4, _⟩ := HX4.out) | (go_at_call 46; refine (F5.out _).mono ?_; clear F5; rintro x w5 ⟨rfl, k5⟩))
            go_ret
            exact ⟨ret_int (by rw [HCE.out]; simp), chn (chn HW3.out k4) k5.below⟩
          | true =>
            go_enter Try.func16, Try.ntmps16
            go_wp2_with (first | (go_at_call 43; first | (refine (F1.out _).mono ?_; clear F1; rintro x w1 ⟨rfl, k1⟩; have HX1 := Lib.hid (HX0.out.below k1); obtain ⟨y0, y1, y2, y3, y4, _⟩ := HX1.out) | (refine (F2.out _).mono ?_; clear F2; rintro x w2 ⟨rfl, k2⟩; have HX2 := Lib.hid (HX1.out.below k2); obtain ⟨z0, z1, z2, z3, z4, _⟩ := HX2.out)) | (go_at_call 44; refine (F3.out _).mono ?_; clear F3; rintro x w3 ⟨rfl, k3⟩; have HX3 := Lib.hid (HX2.out.below k3); obtain ⟨u0, u1, u2, u3, u4, _⟩ := HX3.out; have HW3 := Lib.hid (chn (chn (chn HW0.out k1) k2) k3)) | (go_at_call 45; refine (F4.out _ HW3.out).mono ?_; clear F4; rintro x w4 ⟨rfl, k4⟩; have HX4 := Lib.hid (HX3.out.below k4); obtain ⟨x0, x1, x2, x3, x4, _⟩ := HX4.out) | (go_at_call 46; refine (F5.out _).mono ?_; clear F5; rintro x w5 ⟨rfl, k5⟩))
            go_ret
            exact ⟨ret_int (by rw [HCE.out]; simp), chn (chn HW3.out k4) k5.below⟩
end Go.Proofs.Ytpoefcpgcojppaa

namespace Go.Proofs.Ytpoefcpgcojppaa
open Go.ChangeShapes Go.WideShapes Go.ChangeAt Go.RowKit
set_option linter.unusedVariables false

/-- from w to w' nothing has turned but v's own block, which is v''s, or that is a new one -/
structure Grw (w : World) (v : Value) (w' : World) (v' : Value) : Prop where
  gr : w.grownBy w' v.ownBlock
  own : v'.ownBlock = v.ownBlock ∨ ∀ g, v'.ownBlock = some g → w.heap.size ≤ g
theorem Grw.refl (w : World) (v : Value) : Grw w v w v := ⟨⟨rfl, rfl, rfl, Nat.le_refl _, fun _ _ _ => rfl⟩, .inl rfl⟩
theorem Grw.trans {a b c : World} {u v x : Value} (h : Grw a u b v) (k : Grw b v c x) : Grw a u c x := by
  refine ⟨⟨k.gr.os.trans h.gr.os, k.gr.tape.trans h.gr.tape, k.gr.output.trans h.gr.output, Nat.le_trans h.gr.size k.gr.size, fun i hi hne => ?_⟩, ?_⟩
  · have h1 := h.gr.block i hi hne
    have h2 : some i ≠ v.ownBlock := by
      rcases h.own with e | e
      · rw [e]; exact hne
      · intro e2
        have := e i e2.symm
        omega
    exact (k.gr.block i (Nat.lt_of_lt_of_le hi h.gr.size) h2).trans h1
  · rcases k.own with e | e
    · rw [e]; exact h.own
    · right
      intro g hg
      exact Nat.le_trans h.gr.size (e g hg)
theorem Grw.alloc {w : World} (v : Value) (o : Obj) : Grw w v (w.alloc o) v := ⟨⟨rfl, rfl, rfl, by simp, fun k hk _ => Below.heap_alloc w o k hk⟩, .inl rfl⟩
theorem Grw.drewN {w : World} (v : Value) (n : Nat) : Grw w v (w.drewN n) v := ⟨⟨rfl, rfl, rfl, Nat.le_refl _, fun _ _ _ => rfl⟩, .inl rfl⟩
theorem Grw.of_at {w w' : World} {v v' : Value} (h : w.grownBy w' v.ownBlock) (k : v'.ownBlock = v.ownBlock ∨ v'.ownBlock = some w.heap.size) : Grw w v w' v' :=
  ⟨h, k.elim .inl fun e => .inr fun g hg => by rw [e] at hg; injection hg with hg; omega⟩
theorem Grw.cell {w w' : World} {v v' : Value} (h : Grw w v w' v') {a : Addr} (hb : a.block < w.heap.size) (hne : some a.block ≠ v.ownBlock) : w'.cell? a = w.cell? a :=
  World.cell?_of_block (h.gr.block _ hb hne)
theorem Grw.base {w w' : World} {v v' : Value} {base : Nat} (h : Grw w v w' v') (hb : base ≤ w.heap.size) (hv : ∀ g, v.ownBlock = some g → base ≤ g) : Below base w w' :=
  ⟨h.gr.os, h.gr.tape, h.gr.output, h.gr.size, fun k hk => h.gr.block k (by omega) fun e => by have := hv k e.symm; omega⟩
theorem own_base {w : World} {base n : Nat} {t : TypeId} {sz : Nat} {v : Value} {xs : List Value} (h : w.ownsRow base t sz v n xs) : ∀ g, v.ownBlock = some g → base ≤ g := by
  intro g hg
  rcases h.2 with ⟨rfl, _⟩ | ⟨g', cap, cur, rfl, hb, _⟩
  · cases hg
  · simp [Value.ownBlock] at hg
    omega
theorem own_lt {w : World} {base n : Nat} {t : TypeId} {sz : Nat} {v : Value} {xs : List Value} (h : w.ownsRow base t sz v n xs) : ∀ g, v.ownBlock = some g → g < w.heap.size := by
  intro g hg
  rcases h.2 with ⟨rfl, _⟩ | ⟨g', cap, cur, rfl, hb, hh, _⟩
  · cases hg
  · simp [Value.ownBlock] at hg
    have := (Array.getElem?_eq_some_iff.1 hh).1
    omega

theorem parts5 : (Try.prog.info? 5).map (fun i => (i.zero, i.size, i.bytes)) = some (some (.int .u8 0), 1, 1) := by kernel_rfl
theorem info_parts5 : ∃ i, Try.prog.info? 5 = some i ∧ i.zero = some (.int .u8 0) ∧ i.size = 1 ∧ i.bytes = 1 := by
  have h := parts5
  cases hq : Try.prog.info? 5 with
  | none => rw [hq] at h; cases h
  | some i =>
    rw [hq] at h
    simp only [Option.map_some, Option.some.injEq, Prod.mk.injEq] at h
    exact ⟨i, rfl, h.1, h.2.1, h.2.2⟩
theorem wrap_u8 (n : Int) : IntKind.u8.wrap n = ((oct n).toNat : Int) := by
  rw [oct_int]
  simp [IntKind.wrap, IntKind.bits, IntKind.signed]
theorem byC_cons (c : UInt8) : [Value.int .u8 (c.toNat : Int)] = byC [c] := rfl

theorem txt_len (s : ByteArray) : (txt s).length = s.size + 1 := by unfold txt; rw [List.length_cons, data_size]
/-- bytes of a text appended: where the row lies -/
theorem run_append_str {P : Program} {w : World} {t u ty base : Nat} {i : TypeInfo} (ht : P.underlying t = some (.slice 5)) (hu : P.underlying u = some .string) (hi : P.info? 5 = some i) (hz : i.zero = some (.int .u8 0)) (hsize : i.size = 1) (hby : i.bytes = 1)
    {v : Value} {n : Nat} {xs : List Value} (hown : w.ownsRow base 5 1 v n xs) (s : ByteArray) (hl : n + s.size ≤ 2000000) (hbase : base ≤ w.heap.size) :
    ∃ v' w', (Builtin.append_ #[t, u] ty #[v, .string s]).run P w = .ok v' w' ∧ w'.ownsRow base 5 1 v' (n + s.size) (xs ++ Lib.strCells s) ∧ w.grownBy w' v.ownBlock ∧ (v'.ownBlock = v.ownBlock ∨ v'.ownBlock = some w.heap.size) := by
  obtain ⟨v', w', hr, h2, h3, h4⟩ := Lib.run_append_own_string (P := P) w base t u ty 5 i ht hu hi hz hsize hby v n xs hown s (by unfold maxLen; omega) (by omega) hbase
  refine ⟨v', w', hr, h2, h3, ?_⟩
  have hxl : xs.length = n := by simpa using hown.1
  rcases hown.2 with ⟨rfl, rfl⟩ | ⟨g, cap, cur, rfl, hbg, hg, hnc, hcm, hcs, htake⟩
  · by_cases hm : s.size = 0
    · left
      rw [h4.2 ⟨rfl, hm⟩]
    · right
      have hr2 := run_append_nil_string (P := P) w t u ty 5 i (.int .u8 0) ht hu hi hz s (by omega) (by omega) (by rw [hby]; omega)
      rw [hr] at hr2
      injection hr2 with e1 e2
      rw [e1]
      rfl
  · by_cases hroom : n + s.size ≤ cap
    · left
      have hcs' : cur.size = cap := by simpa using hcs
      have hr2 := Lib.run_append_room_string (P := P) w t u ty 5 i ht hu hi hsize g n cap cur hg s hroom (by omega)
      rw [hr] at hr2
      injection hr2 with e1 e2
      rw [e1]
      rfl
    · right
      have holds : ∀ j u, xs[j]? = some u → w.cell? ((⟨g, 0, none⟩ : Addr).add j) = some u := hown.cells (g := g) rfl
      have hr2 := Lib.run_append_grow_string (P := P) w t u ty 5 i (.int .u8 0) ht hu hi hz ⟨g, 0, none⟩ n cap xs (by rw [hsize]; simpa using hxl) holds s (by omega) (by omega) (by rw [hby]; exact growslice_fits (by omega) (by omega))
      rw [hr] at hr2
      injection hr2 with e1 e2
      rw [e1]
      rfl
theorem wpList_append_str {P : Program} {w : World} {ops : Array Oper} {rest : List Oper} {o : Oper} {a : Act} {Q : Exit → Act → World → Prop} (hgd : o.guard = none) (sl x : Operand) {t u base : Nat} (ho : o.op = .call { callee := .builtin .append, args := #[sl, x], argTypes := #[t, u] })
    {i : TypeInfo} (ht : P.underlying t = some (.slice 5)) (hu : P.underlying u = some .string) (hi : P.info? 5 = some i) (hz : i.zero = some (.int .u8 0)) (hsize : i.size = 1) (hby : i.bytes = 1)
    {v : Value} {n : Nat} {xs : List Value} (hs : a.eval sl = v) (hown : w.ownsRow base 5 1 v n xs) (s : ByteArray) (hx : a.eval x = .string s) (hl : n + s.size ≤ 2000000) (hbase : base ≤ w.heap.size)
    (h : ∀ v' w', w'.ownsRow base 5 1 v' (n + s.size) (xs ++ Lib.strCells s) → w.grownBy w' v.ownBlock → (v'.ownBlock = v.ownBlock ∨ v'.ownBlock = some w.heap.size) → wpList P ops Q rest (a.put o.dst v') w') : wpList P ops Q (o :: rest) a w := by
  refine wpList_plain hgd fun K hK => ?_
  obtain ⟨v', w', hr, h2, h3, h4⟩ := run_append_str (P := P) (ty := o.type) ht hu hi hz hsize hby hown s hl hbase
  unfold Oper.wp execOp
  simp only [ho, resolve, invoke, builtin, Sem.run_bind, Sem.run_pure, Result.andThen_ok, List.map_toArray, List.map_cons, List.map_nil, hs, hx, hr]
  exact hK _ _ (h v' w' h2 h3 h4)

def PutR (base : Nat) (v : Value) (l : List UInt8) (w : World) (e : Ending) (w' : World) : Prop := ∃ v', e = .returned v' ∧ w'.ownsRow base 5 1 v' l.length (byC l) ∧ Grw w v w' v'
def txts (ts : List ByteArray) : List UInt8 := ts.flatMap txt

set_option maxHeartbeats 2000000 in
set_option maxRecDepth 100000 in
theorem putTexts_any {base gb n : Nat} {w : World} {v : Value} {l : List UInt8} {ts : List ByteArray} (hown : w.ownsRow base 5 1 v l.length (byC l)) (hn : ts.length = n) (hc : ∀ j (h : j < ts.length), w.cell? ⟨gb, j, none⟩ = some (.string ts[j])) (hgb : gb < w.heap.size) (hne : some gb ≠ v.ownBlock) (hbase : base ≤ w.heap.size) (hl : (l ++ txts ts).length ≤ 1000000) :
    Calls Try.prog 39 #[v, .slice (some ⟨gb, 0, none⟩) n n] w (PutR base v (l ++ txts ts) w) := by
  obtain ⟨i0, hi, hz0, hz1, hz2⟩ := info_parts5
  unfold PutR
  have HC := Lib.hid hc
  have HO := Lib.hid hown
  have HL := Lib.hid hl
  have HN := Lib.hid hn
  have hn48 : n ≤ 281474976710656 := by
    rw [← hn]
    have : ts.length ≤ (txts ts).length := by
      unfold txts
      clear hc hn hl HC HL HN
      induction ts with
      | nil => simp
      | cons a r ih => simp only [List.flatMap_cons, List.length_cons, List.length_append, txt_len]; omega
    simp at hl
    omega
  clear hc hl hown hn
  go_enter Try.func39, Try.ntmps39
  go_wp2_with fail
  go_loopw [0, 9] (fun b i wr => ∃ k : Nat, k ≤ n ∧ i = .int .i64 k ∧ wr.ownsRow base 5 1 b (l ++ txts (ts.take k)).length (byC (l ++ txts (ts.take k))) ∧ Grw w v wr b) (fun _ i _ => n - (Lib.intOf i).toNat)
  case atStart => exact ⟨0, Nat.zero_le _, rfl, by simpa [txts] using HO.out, Grw.refl _ _⟩
  case round =>
    obtain ⟨k, hk, rfl, hr, hg⟩ := hrel
    have HG := Lib.hid hg
    have hbw : base ≤ wr.heap.size := Nat.le_trans hbase hg.gr.size
    clear hg
    by_cases hlt : k < n
    · have e1 : k < ts.length := by rw [HN.out]; exact hlt
      have hcell := (HG.out.cell (a := ⟨gb, k, none⟩) hgb hne).trans (HC.out k e1)
      obtain ⟨s, hs⟩ : ∃ s, ts[k] = s := ⟨_, rfl⟩
      rw [hs] at hcell
      have hT : txts (ts.take (k + 1)) = txts (ts.take k) ++ txt s := by
        rw [List.take_succ_eq_append_getElem e1, hs]
        simp [txts]
      have hlen : (l ++ txts (ts.take k)).length + 1 + s.size ≤ 1000000 := by
        have h1 := HL.out
        have h2 : (txts ts).length = (txts (ts.take (k + 1))).length + (txts (ts.drop (k + 1))).length := by
          rw [← List.length_append]
          unfold txts
          rw [← List.flatMap_append, List.take_append_drop]
        have h3 := txt_len s
        rw [hT] at h2
        simp only [List.length_append] at h1 h2 ⊢
        omega
      have HT := Lib.hid hT
      clear hT hs
      obtain ⟨L, hL⟩ : ∃ L, l ++ txts (ts.take k) = L := ⟨_, rfl⟩
      have HLL := Lib.hid hL
      rw [hL] at hr hlen
      clear hL
      have hw8 := wrap_u8 (s.size : Int)
      go_wp2_with (at_builtin; first
        | (refine wpList_append_own_at _ rfl _ _ 34 rfl base 5 i0 (.int .u8 0) 1 1 Try.underlying34 hi hz0 hz1 hz2 rfl (by decide) _ L.length (byC L) rfl (hr.alloc _) ⟨wr.heap.size, 0, none⟩ 1 1 [.int .u8 ((oct (s.size : Int)).toNat : Int)] rfl rfl (cell_one_new _ _ _) (by simp [Value.oneCell']) (by unfold maxLen; omega) (by omega) (by simp; omega) ?_; intro v1 w1 r1 r2 r3 r4; have hg1 := (Grw.alloc u0 (.cells #[.int .u8 ((oct (s.size : Int)).toNat : Int)] 5)).trans (Grw.of_at r2 r4); have HG1 := Lib.hid (HG.out.trans hg1); clear r2 r3 r4 hg1 hr hcell)
        | (refine wpList_append_str rfl _ _ rfl Try.underlying34 Try.underlying9 hi hz0 hz1 hz2 rfl r1 s rfl (by omega) (by have := HG1.out.gr.size; omega) ?_; intro v2 w2 s1 s2 s3))
      have HS := Lib.hid (And.intro s1 (Grw.of_at s2 s3))
      go_roundw
      case rel =>
        have e : byC L ++ [Value.int .u8 ((oct (s.size : Int)).toNat : Int)] ++ Lib.strCells s = byC (l ++ txts (ts.take (k + 1))) := by
          rw [HT.out, byC_str, ← List.append_assoc, HLL.out, byC_cons, ← byC_app, ← byC_app, List.append_assoc]
          rfl
        have e2 : (l ++ txts (ts.take (k + 1))).length = L.length + 1 + s.size := by
          have := txt_len s
          rw [HT.out, ← List.append_assoc, HLL.out, List.length_append, this]
          omega
        exact ⟨k + 1, by omega, by go_num, by rw [e2, ← e]; exact HS.out.1, HG1.out.trans HS.out.2⟩
      case measure => simp [Lib.intOf]; omega
    · obtain rfl : k = n := by omega
      rw [List.take_of_length_le (by rw [HN.out]; exact Nat.le_refl _)] at hr
      go_wp2_with fail
      go_ret
      exact ⟨_, rfl, hr, HG.out⟩

/-! ### numbers -/
def numK (n : Int) (k : Nat) : List UInt8 := (num6 n).take k
theorem num6_at (n : Int) (k : Nat) (hk : k < 6) : (num6 n).take (k + 1) = (num6 n).take k ++ [oct (n / 2 ^ (8 * (5 - k)))] := by
  match k, hk with
  | 0, _ => rfl
  | 1, _ => rfl
  | 2, _ => rfl
  | 3, _ => rfl
  | 4, _ => rfl
  | 5, _ => simp [num6]

set_option maxHeartbeats 2000000 in
set_option maxRecDepth 100000 in
theorem putNumber_any {base : Nat} {w : World} {v : Value} {l : List UInt8} {x : Int} (hown : w.ownsRow base 5 1 v l.length (byC l)) (hbase : base ≤ w.heap.size) (hl : l.length ≤ 1000000) :
    Calls Try.prog 38 #[v, .int .i64 x] w (PutR base v (l ++ num6 x) w) := by
  obtain ⟨i0, hi, hz0, hz1, hz2⟩ := info_parts5
  unfold PutR
  have HO := Lib.hid hown
  clear hown
  go_enter Try.func38, Try.ntmps38
  go_wp2_with fail
  go_loopw [0, 6] (fun b i wr => ∃ k : Nat, k ≤ 6 ∧ i = .int .i64 k ∧ wr.ownsRow base 5 1 b (l ++ numK x k).length (byC (l ++ numK x k)) ∧ Grw w v wr b) (fun _ i _ => 6 - (Lib.intOf i).toNat)
  case atStart => exact ⟨0, Nat.zero_le _, rfl, by simpa [numK] using HO.out, Grw.refl _ _⟩
  case round =>
    obtain ⟨k, hk, rfl, hr, hg⟩ := hrel
    have HG := Lib.hid hg
    have hbw : base ≤ wr.heap.size := Nat.le_trans hbase hg.gr.size
    clear hg
    by_cases hlt : k < 6
    · have hT : numK x (k + 1) = numK x k ++ [oct (x / 2 ^ (8 * (5 - k)))] := num6_at x k hlt
      have HT := Lib.hid hT
      have hkl : (numK x k).length ≤ 6 := by unfold numK; rw [List.length_take]; omega
      obtain ⟨L, hL⟩ : ∃ L, l ++ numK x k = L := ⟨_, rfl⟩
      have HLL := Lib.hid hL
      have hLl : L.length ≤ 1000006 := by rw [← hL, List.length_append]; omega
      rw [hL] at hr
      clear hL hT hkl
      have hs1 : IntKind.i64.wrap (5 - (k : Int)) = 5 - (k : Int) := by rw [IntKind.wrap_i64]; omega
      have hs2 : IntKind.i64.wrap (8 * (5 - (k : Int))) = 8 * (5 - (k : Int)) := by rw [IntKind.wrap_i64]; omega
      go_wp2_with (at_builtin; refine wpList_append_own_at _ rfl _ _ 34 rfl base 5 i0 (.int .u8 0) 1 1 Try.underlying34 hi hz0 hz1 hz2 rfl (by decide) _ L.length (byC L) rfl (hr.alloc _) ⟨wr.heap.size, 0, none⟩ 1 1 [.int .u8 (x / 2 ^ (8 * (5 - k)) % 256)] rfl rfl (cell_one_new _ _ _) (by simp [Value.oneCell']) (by unfold maxLen; omega) (by omega) (by simp; omega) ?_; intro v1 w1 r1 r2 r3 r4; have hg1 := (Grw.alloc u0 (.cells #[.int .u8 (x / 2 ^ (8 * (5 - k)) % 256)] 5)).trans (Grw.of_at r2 r4); have HG1 := Lib.hid (And.intro r1 (HG.out.trans hg1)); clear r2 r3 r4 hg1 hr)
      go_roundw
      case rel =>
        have e : byC L ++ [Value.int .u8 (x / 2 ^ (8 * (5 - k)) % 256)] = byC (l ++ numK x (k + 1)) := by
          rw [HT.out, ← List.append_assoc, HLL.out, byC_app, ← byC_cons, oct_int]
        have e2 : (l ++ numK x (k + 1)).length = L.length + 1 := by rw [HT.out, ← List.append_assoc, HLL.out]; simp
        exact ⟨k + 1, by omega, by go_num, by rw [e2, ← e]; exact HG1.out.1, HG1.out.2⟩
      case measure => simp [Lib.intOf]; omega
    · obtain rfl : k = 6 := by omega
      have e : numK x 6 = num6 x := rfl
      rw [e] at hr
      go_wp2_with fail
      go_ret
      exact ⟨_, rfl, hr, HG.out⟩
end Go.Proofs.Ytpoefcpgcojppaa

namespace Go.Proofs.Ytpoefcpgcojppaa
open Go.ChangeShapes Go.WideShapes Go.ChangeAt Go.RowKit
set_option linter.unusedVariables false

/-- a value's three cells in a block of its own -/
structure Bx3 (w : World) (b : Nat) (v0 v1 v2 : Value) : Prop where
  c0 : w.cell? ⟨b, 0, none⟩ = some v0
  c1 : w.cell? ⟨b, 1, none⟩ = some v1
  c2 : w.cell? ⟨b, 2, none⟩ = some v2
  lt : b < w.heap.size
theorem Bx3.of {w : World} {b : Nat} {v0 v1 v2 : Value} {t : TypeId} (h : w.heap[b]? = some (.cells #[v0, v1, v2] t (0, 0))) : Bx3 w b v0 v1 v2 :=
  ⟨by rw [cell_of_row _ _ 0 _ t (0, 0) h]; rfl, by rw [cell_of_row _ _ 1 _ t (0, 0) h]; rfl, by rw [cell_of_row _ _ 2 _ t (0, 0) h]; rfl, (Array.getElem?_eq_some_iff.1 h).1⟩
theorem Bx3.new (w : World) (v0 v1 v2 : Value) (t : TypeId) : Bx3 (w.alloc (.cells #[v0, v1, v2] t)) w.heap.size v0 v1 v2 := Bx3.of (heap_alloc_new w _)
theorem Bx3.grw {w w' : World} {b : Nat} {v0 v1 v2 v v' : Value} (h : Bx3 w b v0 v1 v2) (hb : Grw w v w' v') (hne : some b ≠ v.ownBlock) : Bx3 w' b v0 v1 v2 :=
  ⟨(hb.cell (a := ⟨b, 0, none⟩) h.lt hne).trans h.c0, (hb.cell (a := ⟨b, 1, none⟩) h.lt hne).trans h.c1, (hb.cell (a := ⟨b, 2, none⟩) h.lt hne).trans h.c2, Nat.lt_of_lt_of_le h.lt hb.gr.size⟩
theorem own_ne {w : World} {base n : Nat} {t : TypeId} {sz : Nat} {v : Value} {xs : List Value} (h : w.ownsRow base t sz v n xs) {b : Nat} (hb : w.heap.size ≤ b) : some b ≠ v.ownBlock := fun e => by
  have := own_lt h b e.symm
  omega

theorem valB_num (n : Int) : valB (1, n, ⟨#[]⟩) = [oct 1] ++ num6 (n + 1099511627776) := rfl
theorem valB_text (t : ByteArray) : valB (2, 0, t) = [oct 2] ++ (txts [t]) := by simp [valB, txts]

set_option maxHeartbeats 2000000 in
set_option maxRecDepth 100000 in
theorem putValue_any {base : Nat} {w : World} {v : Value} {l : List UInt8} {x : Vt} (hx : rightV x = true) (hown : w.ownsRow base 5 1 v l.length (byC l)) (hbase : base ≤ w.heap.size) (hl : l.length ≤ 900000) :
    Calls Try.prog 40 #[v, .agg #[.int .i64 x.1, .int .i64 x.2.1, .string x.2.2]] w (PutR base v (l ++ valB x) w) := by
  obtain ⟨i0, hi, hz0, hz1, hz2⟩ := info_parts5
  unfold PutR
  rcases right_cases hx with ⟨n, rfl, n1, n2⟩ | ⟨t, rfl, ht⟩
  · rw [valB_num, ← List.append_assoc]
    have hbx := Bx3.new w (.int .i64 1) (.int .i64 n) (.string ⟨#[]⟩) 31
    have HBX := Lib.hid hbx
    have HNE := Lib.hid (own_ne hown (Nat.le_refl w.heap.size))
    have hr : (w.alloc (.cells #[.int .i64 1, .int .i64 n, .string ⟨#[]⟩] 31)).ownsRow base 5 1 v l.length (byC l) := hown.alloc _
    have hsz : (w.alloc (.cells #[.int .i64 1, .int .i64 n, .string ⟨#[]⟩] 31)).heap.size = w.heap.size + 1 := by simp
    have HGA := Lib.hid (Grw.alloc (w := w) v (.cells #[.int .i64 1, .int .i64 n, .string ⟨#[]⟩] 31))
    have hwn : IntKind.i64.wrap (n + 1099511627776) = n + 1099511627776 := by rw [IntKind.wrap_i64]; omega
    clear hbx hx
    have hone : ∀ j u, [Value.int .u8 1][j]? = some u → ((w.alloc (.cells #[.int .i64 1, .int .i64 n, .string ⟨#[]⟩] 31)).alloc (.cells #[.int .u8 1] 5)).cell? ((⟨w.heap.size + 1, 0, none⟩ : Addr).add j) = some u := by
      have h := cell_one_new (w.alloc (.cells #[.int .i64 1, .int .i64 n, .string ⟨#[]⟩] 31)) (.int .u8 1) 5
      rw [hsz] at h
      exact h
    go_enter Try.func40, Try.ntmps40
    go_wp2_with (first | (at_builtin; refine wpList_append_own_at _ rfl _ _ 34 rfl base 5 i0 (.int .u8 0) 1 1 Try.underlying34 hi hz0 hz1 hz2 rfl (by decide) _ l.length (byC l) rfl (hr.alloc _) ⟨w.heap.size + 1, 0, none⟩ 1 1 [.int .u8 1] rfl rfl hone (by simp [Value.oneCell']) (by unfold maxLen; omega) (by omega) (by rw [World.size_alloc, hsz]; omega) ?_; intro v1 w1 r1 r2 r3 r4; have hg1 := HGA.out.trans ((Grw.alloc v (.cells #[.int .u8 1] 5)).trans (Grw.of_at r2 r4)); have HG1 := Lib.hid hg1; have HX1 := Lib.hid (HBX.out.grw ((Grw.alloc v (.cells #[.int .u8 1] 5)).trans (Grw.of_at r2 r4)) HNE.out); obtain ⟨c0, c1, c2, _⟩ := HX1.out; have HR1 := Lib.hid (show w1.ownsRow base 5 1 v1 (l ++ [oct 1]).length (byC (l ++ [oct 1])) by rw [byC_app, List.length_append]; exact r1); clear r1 r2 r3 r4 hg1 hr hone) | (go_at_call 38; refine (putNumber_any HR1.out (Nat.le_trans hbase HG1.out.gr.size) (by simp; omega)).mono ?_; rintro e w2 ⟨v2, rfl, p1, p2⟩))
    go_ret
    exact ⟨_, rfl, p1, HG1.out.trans p2⟩
  · rw [valB_text, ← List.append_assoc]
    have hbx := Bx3.new w (.int .i64 2) (.int .i64 0) (.string t) 31
    have HBX := Lib.hid hbx
    have HNE := Lib.hid (own_ne hown (Nat.le_refl w.heap.size))
    have hr : (w.alloc (.cells #[.int .i64 2, .int .i64 0, .string t] 31)).ownsRow base 5 1 v l.length (byC l) := hown.alloc _
    have hsz : (w.alloc (.cells #[.int .i64 2, .int .i64 0, .string t] 31)).heap.size = w.heap.size + 1 := by simp
    have HGA := Lib.hid (Grw.alloc (w := w) v (.cells #[.int .i64 2, .int .i64 0, .string t] 31))
    have HT := Lib.hid (show (txts [t]).length ≤ 41 by have := isT_size ht; have := txt_len t; simp [txts]; omega)
    clear hbx hx
    have hone : ∀ j u, [Value.int .u8 2][j]? = some u → ((w.alloc (.cells #[.int .i64 2, .int .i64 0, .string t] 31)).alloc (.cells #[.int .u8 2] 5)).cell? ((⟨w.heap.size + 1, 0, none⟩ : Addr).add j) = some u := by
      have h := cell_one_new (w.alloc (.cells #[.int .i64 2, .int .i64 0, .string t] 31)) (.int .u8 2) 5
      rw [hsz] at h
      exact h
    go_enter Try.func40, Try.ntmps40
    go_wp2_with (first | (at_builtin; refine wpList_append_own_at _ rfl _ _ 34 rfl base 5 i0 (.int .u8 0) 1 1 Try.underlying34 hi hz0 hz1 hz2 rfl (by decide) _ l.length (byC l) rfl (hr.alloc _) ⟨w.heap.size + 1, 0, none⟩ 1 1 [.int .u8 2] rfl rfl hone (by simp [Value.oneCell']) (by unfold maxLen; omega) (by omega) (by rw [World.size_alloc, hsz]; omega) ?_; intro v1 w1 r1 r2 r3 r4; have hg1 := HGA.out.trans ((Grw.alloc v (.cells #[.int .u8 2] 5)).trans (Grw.of_at r2 r4)); have HG1 := Lib.hid hg1; have HX1 := Lib.hid (HBX.out.grw ((Grw.alloc v (.cells #[.int .u8 2] 5)).trans (Grw.of_at r2 r4)) HNE.out); obtain ⟨c0, c1, c2, _⟩ := HX1.out; have HR1 := Lib.hid (show w1.ownsRow base 5 1 v1 (l ++ [oct 2]).length (byC (l ++ [oct 2])) by rw [byC_app, List.length_append]; exact r1); clear r1 r2 r3 r4 hg1 hr hone) | (go_at_call 39; refine (putTexts_any (gb := w1.heap.size) (ts := [t]) (HR1.out.alloc (.cells #[.string t] 9)) rfl (fun j hj => by have h := cell_one_new w1 (.string t) 9 j; match j, hj, h with | 0, _, h => exact h _ rfl) (by simp) (own_ne HR1.out (Nat.le_refl _)) (by have := HG1.out.gr.size; simp; omega) (by have := HT.out; simp only [List.length_append, List.length_singleton] at *; omega)).mono ?_; rintro e w2 ⟨v2, rfl, p1, p2⟩))
    go_ret
    exact ⟨_, rfl, p1, (HG1.out.trans (Grw.alloc v1 (.cells #[.string t] 9))).trans p2⟩
end Go.Proofs.Ytpoefcpgcojppaa

namespace Go.Proofs.Ytpoefcpgcojppaa
open Go.ChangeShapes Go.WideShapes Go.ChangeAt Go.RowKit
set_option linter.unusedVariables false

theorem putTexts_new3 {base k : Nat} {W : World} {v : Value} {l : List UInt8} {a b c : ByteArray} (hk : k = W.heap.size) (hown : W.ownsRow base 5 1 v l.length (byC l)) (hbase : base ≤ W.heap.size) (hl : (l ++ txts [a, b, c]).length ≤ 1000000) :
    Calls Try.prog 39 #[v, .slice (some ⟨k, 0, none⟩) 3 3] (W.alloc (.cells #[.string a, .string b, .string c] 9)).drew (PutR base v (l ++ txts [a, b, c]) W) := by
  subst hk
  have hg := heap_alloc_new W (.cells #[.string a, .string b, .string c] 9)
  refine (putTexts_any (base := base) (gb := W.heap.size) (ts := [a, b, c]) (hown.alloc _).drew rfl ?_ (by show _ < (W.alloc _).heap.size; simp) (own_ne hown (Nat.le_refl _)) (by show _ ≤ (W.alloc _).heap.size; simp; omega) hl).mono ?_
  · intro j hj
    rw [World.cell?_drew]
    match j, hj with
    | 0, _ => rw [cell_of_row _ _ 0 _ 9 (0, 0) hg]; rfl
    | 1, _ => rw [cell_of_row _ _ 1 _ 9 (0, 0) hg]; rfl
    | 2, _ => rw [cell_of_row _ _ 2 _ 9 (0, 0) hg]; rfl
  · rintro e w' ⟨v', rfl, h1, h2⟩
    exact ⟨v', rfl, h1, ((Grw.alloc v _).trans (Grw.drewN v 1)).trans h2⟩
theorem putTexts_new1 {base k : Nat} {W : World} {v : Value} {l : List UInt8} {a : ByteArray} (hk : k = W.heap.size) (hown : W.ownsRow base 5 1 v l.length (byC l)) (hbase : base ≤ W.heap.size) (hl : (l ++ txts [a]).length ≤ 1000000) :
    Calls Try.prog 39 #[v, .slice (some ⟨k, 0, none⟩) 1 1] (W.alloc (.cells #[.string a] 9)).drew (PutR base v (l ++ txts [a]) W) := by
  subst hk
  have hg := heap_alloc_new W (.cells #[.string a] 9)
  refine (putTexts_any (base := base) (gb := W.heap.size) (ts := [a]) (hown.alloc _).drew rfl ?_ (by show _ < (W.alloc _).heap.size; simp) (own_ne hown (Nat.le_refl _)) (by show _ ≤ (W.alloc _).heap.size; simp; omega) hl).mono ?_
  · intro j hj
    rw [World.cell?_drew]
    match j, hj with
    | 0, _ => rw [cell_of_row _ _ 0 _ 9 (0, 0) hg]; rfl
  · rintro e w' ⟨v', rfl, h1, h2⟩
    exact ⟨v', rfl, h1, ((Grw.alloc v _).trans (Grw.drewN v 1)).trans h2⟩

theorem valB_len {v : Vt} (h : rightV v = true) : (valB v).length ≤ 42 := by
  rcases right_cases h with ⟨n, rfl, _, _⟩ | ⟨t, rfl, ht⟩
  · rw [valB_num]; simp [num6]
  · rw [valB_text]
    have := isT_size ht
    have := txt_len t
    simp [txts]
    omega
theorem propB_len {p : Pt} (h1 : freB p.1 = true) (h2 : rightV p.2 = true) : (propB p).length ≤ 63 := by
  have := verB_size (freB_ver h1)
  have := valB_len h2
  have := txt_len p.1
  simp [propB]
  omega
theorem propsB_len : ∀ (l : List Pt), (∀ p ∈ l, freB p.1 = true ∧ rightV p.2 = true) → (propsB l).length ≤ 63 * l.length
  | [], _ => by simp [propsB]
  | p :: l, h => by
    have a := propsB_len l fun q hq => h q (by simp [hq])
    have b := propB_len (h p (by simp)).1 (h p (by simp)).2
    have e : propsB (p :: l) = propB p ++ propsB l := List.flatMap_cons
    rw [e, List.length_append, List.length_cons]
    omega
theorem headB_len {e : Ed} (h : checkE e = 0) : (headB e).length ≤ 69 := by
  obtain ⟨⟨h1, h2, h3, h4⟩, h5⟩ := check_ok.1 h
  have s1 := verB_size h1
  have s2 := verB_size h2
  have s3 := verB_size (freB_ver h3)
  simp [headB, txt_len, num6_len]
  omega
theorem putE_len {e : Ed} (h : checkE e = 0) : (putE e).length ≤ 600 := by
  have a := headB_len h
  obtain ⟨⟨h1, h2, h3, h4⟩, h5⟩ := check_ok.1 h
  have b := propsB_len e.props (areP_mem h4)
  have c := h4.1
  simp [putE]
  omega
theorem headB_eq (e : Ed) : headB e = [] ++ txts [e.src, e.dst, e.lab] ++ num6 e.time := by simp [headB, txts]

noncomputable def putB (e : Ed) : List UInt8 := if checkE e = 0 then putE e else []
def PutsR (e : Ed) (w : World) (x : Ending) (w' : World) : Prop := ∃ v, x = .returned (.tuple #[v, .int .i64 (checkE e)]) ∧ BR w' v (putB e) ∧ Below w.heap.size w w'

set_option maxHeartbeats 4000000 in
set_option maxRecDepth 100000 in
theorem put_any {w : World} {pv : Value} {e : Ed} (h : PR w pv e.props) (hs : SzE e) : Calls Try.prog 14 #[e.v pv] w (PutsR e w) := by
  obtain ⟨i0, hi, hz0, hz1, hz2⟩ := info_parts5
  unfold PutsR
  have hck : ∀ W, Below w.heap.size w W → Calls Try.prog 16 #[e.v pv] W (CheckR e W) := fun W hW => check_any (h.below hW) hs
  unfold CheckR at hck
  have HCK := Lib.hid hck
  clear hck
  have H := Lib.hid h
  have HX0 := Lib.hid (Bx5.new w (.string e.src) (.string e.dst) (.string e.lab) (.int .i64 e.time) pv 24)
  have HW0 := Lib.hid ((Below.refl w.heap.size w).alloc (Nat.le_refl _) (.cells #[.string e.src, .string e.dst, .string e.lab, .int .i64 e.time, pv] 24))
  by_cases hc0 : checkE e = 0
  · have HC0 := Lib.hid hc0
    have HPB := Lib.hid (show putB e = putE e by unfold putB; rw [if_pos hc0])
    rw [hc0] at HCK ⊢
    unfold Ed.v at HCK ⊢
    clear hc0
    obtain ⟨A, c, rfl⟩ := h.form
    clear h hs
    obtain ⟨n, hN⟩ : ∃ n, e.props.length = n := ⟨_, rfl⟩
    have HN := Lib.hid hN
    have hn8 : n ≤ 8 := by rw [← hN]; exact (check_ok.1 HC0.out).1.2.2.2.1
    rw [hN] at H HX0 HW0 HCK ⊢
    clear hN
    go_enter Try.func14, Try.ntmps14
    go_wp2_with (go_at_call 16; refine (HCK.out _ HW0.out).mono ?_; clear HCK; rintro x w1 ⟨rfl, k1⟩; have HX1 := Lib.hid (HX0.out.below k1); have HW1 := Lib.hid (chn HW0.out k1); clear k1)
    have HLEN := Lib.hid (And.intro (headB_len HC0.out) (And.intro (propsB_len e.props (areP_mem (check_ok.1 HC0.out).1.2.2.2)) (putE_len HC0.out)))
    obtain ⟨B0, hB0⟩ : ∃ B, w.heap.size = B := ⟨_, rfl⟩
    have HB0 := Lib.hid hB0
    have hx1 := HX1.out
    rw [hB0] at hx1 ⊢
    obtain ⟨q0, q1, q2, q3, q4, qlt⟩ := hx1
    have HXX := Lib.hid (Bx5.mk q0 q1 q2 q3 q4 qlt)
    clear hB0 HX0 HX1
    have HTX := Lib.hid (show ([] ++ txts [e.src, e.dst, e.lab] : List UInt8).length ≤ 1000 by
      have := HLEN.out.1; rw [headB_eq, List.length_append] at this; omega)
    go_region_held3 (fun w' => w'.cell? ⟨B0, 0, none⟩ = some (.string e.src) ∧ w'.cell? ⟨B0, 1, none⟩ = some (.string e.dst) ∧ w'.cell? ⟨B0, 2, none⟩ = some (.string e.lab) ∧ w'.cell? ⟨B0, 3, none⟩ = some (.int .i64 e.time)) (first | exact ⟨q0, q1, q2, q3⟩ | exact ⟨z0, z1, z2, z3⟩ | (go_keep; done)) (first | (go_at_call 39; refine (putTexts_new3 (base := w1.heap.size) (l := []) rfl (World.ownsRow_nil w1 w1.heap.size 5 1) (Nat.le_refl _) (by have := HTX.out; omega)).mono ?_; rintro x w2 ⟨v2, rfl, p1, p2⟩; have HX2 := Lib.hid (Bx5.belowN HXX.out (p2.base (Nat.le_refl _) (fun g hg => by cases hg)) qlt); obtain ⟨z0, z1, z2, z3, z4, _⟩ := HX2.out; have HP2 := Lib.hid p2) | (go_at_call 38; refine (putNumber_any p1 HP2.out.gr.size (by have := HTX.out; omega)).mono ?_; rintro x w3 ⟨v3, rfl, r1, r2⟩; have HP3 := Lib.hid (HP2.out.trans r2); have HB3 := Lib.hid (HP3.out.base (Nat.le_refl _) (fun g hg => by cases hg)); have HX3 := Lib.hid (Bx5.belowN HXX.out HB3.out qlt); obtain ⟨y0, y1, y2, y3, y4, _⟩ := HX3.out))
    have HR1 := Lib.hid (show w3.ownsRow w1.heap.size 5 1 v3 (headB e).length (byC (headB e)) by rw [headB_eq]; exact r1)
    clear z0 z1 z2 z3 z4 q0 q1 q2 q3 q4 r1 r2 p1 y0 y1 y2 y3
    have hw8 := wrap_u8 (n : Int)
    obtain ⟨L0, hL0⟩ : ∃ L, headB e = L := ⟨_, rfl⟩
    have HL0 := Lib.hid hL0
    have hr3 := HR1.out
    rw [hL0] at hr3
    have hl0 : L0.length ≤ 69 := by rw [← hL0]; exact HLEN.out.1
    have hs3 : w1.heap.size ≤ w3.heap.size := HB3.out.size
    clear hL0
    go_wp2_with (at_builtin; refine wpList_append_own_at _ rfl _ _ 34 rfl w1.heap.size 5 i0 (.int .u8 0) 1 1 Try.underlying34 hi hz0 hz1 hz2 rfl (by decide) _ L0.length (byC L0) rfl (hr3.alloc _) ⟨w3.heap.size, 0, none⟩ 1 1 [.int .u8 ((oct (n : Int)).toNat : Int)] rfl rfl (cell_one_new _ _ _) (by simp [Value.oneCell']) (by unfold maxLen; omega) (by omega) (by rw [World.size_alloc]; omega) ?_; intro v4 w4 r1 r2 r3 r4; have HG4 := Lib.hid ((Grw.alloc v3 (.cells #[.int .u8 ((oct (n : Int)).toNat : Int)] 5)).trans (Grw.of_at r2 r4)); have HB4 := Lib.hid (HB3.out.trans (HG4.out.base hs3 (own_base hr3))); have HX4 := Lib.hid (Bx5.belowN HXX.out HB4.out qlt); obtain ⟨y0, y1, y2, y3, y4, _⟩ := HX4.out; have HR4 := Lib.hid (show w4.ownsRow w1.heap.size 5 1 v4 (L0 ++ [oct (n : Int)]).length (byC (L0 ++ [oct (n : Int)])) by rw [byC_app, List.length_append]; exact r1); clear r1 r2 r3 r4 hr3)
    clear y0 y1 y2 y3 y4 hl0 hs3 hw8
    have HPW := Lib.hid (H.out.below (HW1.out))
    go_loopw [5, 34] (fun b i wr => ∃ k : Nat, k ≤ n ∧ i = .int .i64 k ∧ wr.ownsRow w1.heap.size 5 1 b (L0 ++ [oct (n : Int)] ++ propsB (e.props.take k)).length (byC (L0 ++ [oct (n : Int)] ++ propsB (e.props.take k))) ∧ Below w1.heap.size w1 wr) (fun _ i _ => n - (Lib.intOf i).toNat)
    case atStart => exact ⟨0, Nat.zero_le _, rfl, by simpa [propsB] using HR4.out, HB4.out⟩
    case round =>
      obtain ⟨k, hk, rfl, hr, hb⟩ := hrel
      have HB := Lib.hid hb
      have hsz : w1.heap.size ≤ wr.heap.size := hb.size
      clear hb
      by_cases hlt : k < n
      · have e1 : k < e.props.length := by rw [HN.out]; exact hlt
        obtain ⟨ad, f1, hab, x0, x1, x2, x3⟩ := PR.at4 (HPW.out.below HB.out) e1
        subst f1
        have hpp := areP_mem (check_ok.1 HC0.out).1.2.2.2 _ (List.getElem_mem e1)
        obtain ⟨p, hp⟩ : ∃ p, e.props[k] = p := ⟨_, rfl⟩
        rw [hp] at x0 x1 x2 x3 hpp
        have HT : Hid (propsB (e.props.take (k + 1)) = propsB (e.props.take k) ++ propB p) := by
          show _ = _
          rw [List.take_succ_eq_append_getElem e1, hp, propsB_snoc]
        obtain ⟨L, hL⟩ : ∃ L, L0 ++ [oct (n : Int)] ++ propsB (e.props.take k) = L := ⟨_, rfl⟩
        have HL := Lib.hid hL
        have hLl : L.length ≤ 900 := by
          have h1 := propsB_len (e.props.take k) (fun q hq => areP_mem (check_ok.1 HC0.out).1.2.2.2 q (List.mem_of_mem_take hq))
          have h2 := HLEN.out.1
          rw [HL0.out] at h2
          rw [List.length_take] at h1
          rw [← hL]
          simp only [List.length_append, List.length_singleton]
          omega
        rw [hL] at hr
        have HR := Lib.hid hr
        obtain ⟨key, kd, nm, tx⟩ := p
        simp only at x0 x1 x2 x3
        have HPP := Lib.hid hpp
        have HTT := Lib.hid (show (L ++ txts [key]).length ≤ 950 by
          have := verB_size (freB_ver HPP.out.1); have := txt_len key; simp [txts]; simp only at *; omega)
        have HTE := Lib.hid (show txts [key] = txt key by simp [txts])
        clear hp hL hpp hr
        go_upto_region 9 with (fail)
        have hnew := heap_alloc_new wr (.cells #[.string key, .int .i64 kd, .int .i64 nm, .string tx] 53)
        have d0 := cell_of_row _ _ 0 _ 53 (0, 0) hnew
        have d1 := cell_of_row _ _ 1 _ 53 (0, 0) hnew
        have d2 := cell_of_row _ _ 2 _ 53 (0, 0) hnew
        have d3 := cell_of_row _ _ 3 _ 53 (0, 0) hnew
        have HRA := Lib.hid (HR.out.alloc (.cells #[.string key, .int .i64 kd, .int .i64 nm, .string tx] 53))
        have HGA := Lib.hid (Grw.alloc (w := wr) u5 (.cells #[.string key, .int .i64 kd, .int .i64 nm, .string tx] 53))
        have HNE := Lib.hid (own_ne HR.out (Nat.le_refl wr.heap.size))
        have hsz2 : wr.heap.size < (wr.alloc (.cells #[.string key, .int .i64 kd, .int .i64 nm, .string tx] 53)).heap.size := by simp
        clear hnew x0 x1 x2 x3
        generalize wr.alloc (.cells #[.string key, .int .i64 kd, .int .i64 nm, .string tx] 53) = wa at *
        obtain ⟨B1, hB1⟩ : ∃ B, wr.heap.size = B := ⟨_, rfl⟩
        have HB1 := Lib.hid hB1
        rw [hB1] at d0 d1 d2 d3 hsz2 HNE ⊢
        clear hB1
        go_region_held3 (fun w' => w'.cell? ⟨B1, 0, none⟩ = some (.string key) ∧ w'.cell? ⟨B1, 1, none⟩ = some (.int .i64 kd) ∧ w'.cell? ⟨B1, 2, none⟩ = some (.int .i64 nm) ∧ w'.cell? ⟨B1, 3, none⟩ = some (.string tx)) (first | exact ⟨d0, d1, d2, d3⟩ | exact ⟨z0, z1, z2, z3⟩ | exact ⟨y0, y1, y2, y3⟩ | (go_keep; done)) (first | (go_at_call 39; refine (putTexts_new1 rfl HRA.out (by have := HB1.out; omega) (by have := HTT.out; omega)).mono ?_; rintro x w5 ⟨v5, rfl, p1, p2⟩; have z0 := (p2.cell (a := ⟨B1, 0, none⟩) hsz2 HNE.out).trans d0; have z1 := (p2.cell (a := ⟨B1, 1, none⟩) hsz2 HNE.out).trans d1; have z2 := (p2.cell (a := ⟨B1, 2, none⟩) hsz2 HNE.out).trans d2; have z3 := (p2.cell (a := ⟨B1, 3, none⟩) hsz2 HNE.out).trans d3; have HP5 := Lib.hid p2) | (go_at_call 40; refine (putValue_any (x := (kd, nm, tx)) HPP.out.2 p1 (by have := HP5.out.gr.size; have := HB1.out; omega) (by have := HTT.out; omega)).mono ?_; rintro x w6 ⟨v6, rfl, r1, r2⟩; have HP6 := Lib.hid (HP5.out.trans r2); have y0 := (HP6.out.cell (a := ⟨B1, 0, none⟩) hsz2 HNE.out).trans d0; have y1 := (HP6.out.cell (a := ⟨B1, 1, none⟩) hsz2 HNE.out).trans d1; have y2 := (HP6.out.cell (a := ⟨B1, 2, none⟩) hsz2 HNE.out).trans d2; have y3 := (HP6.out.cell (a := ⟨B1, 3, none⟩) hsz2 HNE.out).trans d3))
        have HF := Lib.hid (show w6.ownsRow w1.heap.size 5 1 v6 (L0 ++ [oct (n : Int)] ++ propsB (e.props.take (k + 1))).length (byC (L0 ++ [oct (n : Int)] ++ propsB (e.props.take (k + 1)))) by
          have e2 : L0 ++ [oct (n : Int)] ++ propsB (e.props.take (k + 1)) = L ++ txts [key] ++ valB (kd, nm, tx) := by
            rw [HT.out, ← List.append_assoc, HL.out, HTE.out]
            simp [propB]
          rw [e2]
          exact r1)
        have HBF := Lib.hid (HB.out.trans ((HGA.out.trans HP6.out).base hsz (own_base HR.out)))
        go_wp2_with fail
        go_roundw
        case rel => exact ⟨k + 1, by omega, by go_num, HF.out, HBF.out⟩
        case measure => simp [Lib.intOf]; omega
      · obtain rfl : k = n := by omega
        rw [List.take_of_length_le (by rw [HN.out]; exact Nat.le_refl _)] at hr
        have HE := Lib.hid (show L0 ++ [oct (k : Int)] ++ propsB e.props = putB e by rw [HPB.out]; unfold putE; rw [HL0.out, HN.out])
        rw [HE.out] at hr
        have HR := Lib.hid (BR.of_own hr)
        clear hr
        go_wp2_with fail
        exact bodyPost_ret (v := .tuple #[u5, .int .i64 0]) (by simp [results, Try.results14, go_sem]) rfl ⟨_, rfl, HR.out, HW1.out.trans (HB.out.mono HW1.out.size)⟩
  · have HE := Lib.hid (show putB e = [] by unfold putB; rw [if_neg hc0])
    obtain ⟨cc, hcc⟩ : ∃ c, checkE e = c := ⟨_, rfl⟩
    rw [hcc] at HCK hc0 ⊢
    rw [HE.out]
    have hb : (cc != 0) = true := by simpa using hc0
    unfold Ed.v at HCK ⊢
    clear hc0 hcc hs
    go_enter Try.func14, Try.ntmps14
    go_wp2_with (go_at_call 16; refine (HCK.out _ HW0.out).mono ?_; clear HCK; rintro x w1 ⟨rfl, k1⟩)
    exact bodyPost_ret (v := .tuple #[.slice none 0 0, .int .i64 cc]) (by simp [results, Try.results14, go_sem]) rfl ⟨_, rfl, BR.nil _ _ _, chn HW0.out k1⟩
end Go.Proofs.Ytpoefcpgcojppaa

namespace Go.Proofs.Ytpoefcpgcojppaa
open Go.ChangeShapes Go.WideShapes Go.ChangeAt Go.RowKit
set_option linter.unusedVariables false

theorem run_append_br {P : Program} {w : World} {t ty base : Nat} {i : TypeInfo} (ht : P.underlying t = some (.slice 5)) (hi : P.info? 5 = some i) (hz : i.zero = some (.int .u8 0)) (hs : i.size = 1) (hby : i.bytes = 1)
    {v : Value} {n : Nat} {xs : List Value} (hown : w.ownsRow base 5 1 v n xs) {v2 : Value} {l : List UInt8} (hpr : BR w v2 l) (hl : n + l.length ≤ 2000000) (hbase : base ≤ w.heap.size) :
    ∃ v' w', (Builtin.append_ #[t, t] ty #[v, v2]).run P w = .ok v' w' ∧ w'.ownsRow base 5 1 v' (n + l.length) (xs ++ byC l) ∧ w.grownBy w' v.ownBlock ∧ (v'.ownBlock = v.ownBlock ∨ v'.ownBlock = some w.heap.size) := by
  obtain ⟨A, c, rfl, hr⟩ := hpr
  cases A with
  | none =>
    have h0 : l = [] := by
      cases l with
      | nil => rfl
      | cons a r =>
        obtain ⟨ad, e, _⟩ := hr (by simp)
        cases e
    subst h0
    refine ⟨v, w, ?_, by simpa [byC] using hown, ⟨rfl, rfl, rfl, Nat.le_refl _, fun _ _ _ => rfl⟩, .inl rfl⟩
    rcases hown.2 with ⟨rfl, rfl⟩ | ⟨g, cap, cur, rfl, _, _, hnc, _⟩
    · simp [Builtin.append_, run_underlying ht, sizeOf, typeInfo, hi, Builtin.lenOf, Builtin.firstCells]
    · simp [Builtin.append_, run_underlying ht, sizeOf, typeInfo, hi, Builtin.lenOf, Builtin.firstCells, hnc, storeCells]
  | some ad =>
    have hnews : ∀ j u, (byC l)[j]? = some u → w.cell? (ad.add j) = some u := by
      intro j u hj
      have h0 : 0 < l.length := by
        have := (List.getElem?_eq_some_iff.1 hj).1
        rw [byC_len] at this
        omega
      obtain ⟨ad', e, _, hc⟩ := hr h0
      injection e with e
      rw [e]
      exact hc j u hj
    obtain ⟨v', w', h1, h2, h3, _, h5⟩ := run_append_own_at (P := P) w base t ty 5 i (.int .u8 0) 1 1 ht hi hz hs hby rfl (by decide) v n xs hown ad l.length c (byC l) (by rw [byC_len]; omega) hnews (byC_one l) (by unfold maxLen; omega) (by omega) hbase
    exact ⟨v', w', h1, h2, h3, h5⟩
theorem wp_append_br {P : Program} {w : World} {o : Oper} {a : Act} {K : Act → World → Prop} {Q : Exit → Act → World → Prop} (s x : Operand) {t base : Nat} (ho : o.op = .call { callee := .builtin .append, args := #[s, x], argTypes := #[t, t] })
    {i : TypeInfo} (ht : P.underlying t = some (.slice 5)) (hi : P.info? 5 = some i) (hz : i.zero = some (.int .u8 0)) (hs : i.size = 1) (hby : i.bytes = 1)
    {v : Value} {n : Nat} {xs : List Value} (he : a.eval s = v) (hown : w.ownsRow base 5 1 v n xs) {v2 : Value} {l : List UInt8} (hx : a.eval x = v2) (hpr : BR w v2 l) (hl : n + l.length ≤ 2000000) (hbase : base ≤ w.heap.size)
    (h : ∀ v' w', w'.ownsRow base 5 1 v' (n + l.length) (xs ++ byC l) → w.grownBy w' v.ownBlock → (v'.ownBlock = v.ownBlock ∨ v'.ownBlock = some w.heap.size) → K (a.put o.dst v') w') : o.wp P a w K Q := by
  obtain ⟨v', w', hr, h2, h3, h4⟩ := run_append_br (P := P) (ty := o.type) ht hi hz hs hby hown hpr hl hbase
  unfold Oper.wp execOp
  simp only [ho, resolve, invoke, builtin, Sem.run_bind, Sem.run_pure, Result.andThen_ok, List.map_toArray, List.map_cons, List.map_nil, he, hx, hr]
  exact h v' w' h2 h3 h4
theorem wpList_append_br {P : Program} {w : World} {ops : Array Oper} {rest : List Oper} {o : Oper} {a : Act} {Q : Exit → Act → World → Prop} (hgd : o.guard = none) (s x : Operand) {t base : Nat} (ho : o.op = .call { callee := .builtin .append, args := #[s, x], argTypes := #[t, t] })
    {i : TypeInfo} (ht : P.underlying t = some (.slice 5)) (hi : P.info? 5 = some i) (hz : i.zero = some (.int .u8 0)) (hs : i.size = 1) (hby : i.bytes = 1)
    {v : Value} {n : Nat} {xs : List Value} (he : a.eval s = v) (hown : w.ownsRow base 5 1 v n xs) {v2 : Value} {l : List UInt8} (hx : a.eval x = v2) (hpr : BR w v2 l) (hl : n + l.length ≤ 2000000) (hbase : base ≤ w.heap.size)
    (h : ∀ v' w', w'.ownsRow base 5 1 v' (n + l.length) (xs ++ byC l) → w.grownBy w' v.ownBlock → (v'.ownBlock = v.ownBlock ∨ v'.ownBlock = some w.heap.size) → wpList P ops Q rest (a.put o.dst v') w') : wpList P ops Q (o :: rest) a w :=
  wpList_plain hgd fun _ hK => wp_append_br s x ho ht hi hz hs hby he hown hx hpr hl hbase fun v' w' h2 h3 h4 => hK _ _ (h v' w' h2 h3 h4)
theorem step_append_br {P : Program} {w : World} {ops : Array Oper} {o : Oper} {a : Act} {K : Act → World → Prop} {Q : Exit → Act → World → Prop} {E : Prop} (hgd : o.guard = none) (s x : Operand) {t base : Nat} (ho : o.op = .call { callee := .builtin .append, args := #[s, x], argTypes := #[t, t] })
    {i : TypeInfo} (ht : P.underlying t = some (.slice 5)) (hi : P.info? 5 = some i) (hz : i.zero = some (.int .u8 0)) (hs : i.size = 1) (hby : i.bytes = 1)
    {v : Value} {n : Nat} {xs : List Value} (he : a.eval s = v) (hown : w.ownsRow base 5 1 v n xs) {v2 : Value} {l : List UInt8} (hx : a.eval x = v2) (hpr : BR w v2 l) (hl : n + l.length ≤ 2000000) (hbase : base ≤ w.heap.size)
    (h : ∀ v' w', w'.ownsRow base 5 1 v' (n + l.length) (xs ++ byC l) → w.grownBy w' v.ownBlock → (v'.ownBlock = v.ownBlock ∨ v'.ownBlock = some w.heap.size) → K (a.put o.dst v') w') :
    if Region.wanted o (yielded ops a.tmps) = true then Oper.wp P o a w K Q else E := by
  have hw : Region.wanted o (yielded ops a.tmps) = true := by simp [Region.wanted, hgd]
  rw [if_pos hw]
  exact wp_append_br s x ho ht hi hz hs hby he hown hx hpr hl hbase h

/-- a row of its own, of these bytes -/
def OwnR (l : List UInt8) (w : World) (e : Ending) (w' : World) : Prop := ∃ v, e = .returned v ∧ w'.ownsRow w.heap.size 5 1 v l.length (byC l) ∧ Below w.heap.size w w'

set_option maxRecDepth 100000 in
theorem rText_any (s : ByteArray) (w : World) (hs : s.size ≤ 1000000) : Calls Try.prog 41 #[.string s] w (OwnR (txt s) w) := by
  obtain ⟨i0, hi, hz0, hz1, hz2⟩ := info_parts5
  unfold OwnR
  have hw8 := wrap_u8 (s.size : Int)
  have hown : (w.alloc (.cells #[.int .u8 ((oct (s.size : Int)).toNat : Int)] 5)).ownsRow w.heap.size 5 1 (.slice (some ⟨w.heap.size, 0, none⟩) 1 1) 1 [.int .u8 ((oct (s.size : Int)).toNat : Int)] := ⟨rfl, .inr ⟨w.heap.size, 1, _, rfl, Nat.le_refl _, heap_alloc_new w _, Nat.le_refl _, by unfold maxLen; omega, rfl, rfl⟩⟩
  have HW := Lib.hid ((Below.refl w.heap.size w).alloc (Nat.le_refl _) (.cells #[.int .u8 ((oct (s.size : Int)).toNat : Int)] 5))
  go_enter Try.func41, Try.ntmps41
  go_wp2_with (at_builtin; refine wpList_append_str rfl _ _ rfl Try.underlying34 Try.underlying9 hi hz0 hz1 hz2 rfl hown s rfl (by omega) (by simp) ?_; intro v2 w2 s1 s2 s3)
  go_ret
  refine ⟨_, rfl, ?_, HW.out.grown s2 (by simp) (fun k hk => by cases hk; exact Nat.le_refl _)⟩
  have e : byC (txt s) = [.int .u8 ((oct (s.size : Int)).toNat : Int)] ++ Lib.strCells s := rfl
  rw [e, txt_len, Nat.add_comm]
  exact s1

theorem num6_at2 (n : Int) (k : Nat) (hk : k < 6) : numK n (k + 1) = numK n k ++ [oct (n / 2 ^ (8 * (5 - k)))] := num6_at n k hk

set_option maxHeartbeats 2000000 in
set_option maxRecDepth 100000 in
theorem rNumber_any (x : Int) (w : World) : Calls Try.prog 42 #[.int .i64 x] w (OwnR (num6 x) w) := by
  obtain ⟨i0, hi, hz0, hz1, hz2⟩ := info_parts5
  unfold OwnR
  go_enter Try.func42, Try.ntmps42
  go_wp2_with fail
  go_loopw [3, 4] (fun b i wr => ∃ k : Nat, k ≤ 6 ∧ i = .int .i64 (5 - (k : Int)) ∧ wr.ownsRow w.heap.size 5 1 b (numK x k).length (byC (numK x k)) ∧ Below w.heap.size w wr) (fun _ i _ => (Lib.intOf i + 1).toNat)
  case atStart => exact ⟨0, Nat.zero_le _, rfl, by simpa [numK, byC] using World.ownsRow_nil w w.heap.size 5 1, Below.refl _ _⟩
  case round =>
    obtain ⟨k, hk, rfl, hr, hb⟩ := hrel
    have HB := Lib.hid hb
    have hbw : w.heap.size ≤ wr.heap.size := hb.size
    clear hb
    by_cases hlt : k < 6
    · have HT := Lib.hid (num6_at2 x k hlt)
      have hkl : (numK x k).length ≤ 6 := by unfold numK; rw [List.length_take]; omega
      obtain ⟨L, hL⟩ : ∃ L, numK x k = L := ⟨_, rfl⟩
      have HLL := Lib.hid hL
      rw [hL] at hr hkl
      clear hL
      have hs1 : IntKind.i64.wrap (5 - (k : Int)) = 5 - (k : Int) := by rw [IntKind.wrap_i64]; omega
      have hs2 : IntKind.i64.wrap (8 * (5 - (k : Int))) = 8 * (5 - (k : Int)) := by rw [IntKind.wrap_i64]; omega
      have hs3 : (0 : Int) ≤ 5 - (k : Int) := by omega
      have HO := Lib.hid (own_base hr)
      go_wp2_with (at_builtin; refine wpList_append_own_at _ rfl _ _ 34 rfl w.heap.size 5 i0 (.int .u8 0) 1 1 Try.underlying34 hi hz0 hz1 hz2 rfl (by decide) _ L.length (byC L) rfl (hr.alloc _) ⟨wr.heap.size, 0, none⟩ 1 1 [.int .u8 (x / 2 ^ (8 * (5 - k)) % 256)] rfl rfl (cell_one_new _ _ _) (by simp [Value.oneCell']) (by unfold maxLen; omega) (by omega) (by simp; omega) ?_; intro v1 w1 r1 r2 r3 r4; have HG1 := Lib.hid (And.intro r1 ((HB.out.alloc hbw (.cells #[.int .u8 (x / 2 ^ (8 * (5 - k)) % 256)] 5)).grown r2 (by simp; omega) (fun j hj => HO.out j hj))); clear r1 r2 r3 r4 hr)
      go_roundw
      case rel =>
        have e : byC L ++ [Value.int .u8 (x / 2 ^ (8 * (5 - k)) % 256)] = byC (numK x (k + 1)) := by
          rw [HT.out, HLL.out, byC_app, ← byC_cons, oct_int]
        have e2 : (numK x (k + 1)).length = L.length + 1 := by rw [HT.out, HLL.out]; simp
        refine ⟨k + 1, by omega, ?_, by rw [e2, ← e]; exact HG1.out.1, HG1.out.2⟩
        first | go_num | (congr 1; omega)
      case measure => simp [Lib.intOf]; omega
    · obtain rfl : k = 6 := by omega
      have e : numK x 6 = num6 x := rfl
      rw [e] at hr
      go_wp2_with fail
      go_ret
      exact ⟨_, rfl, hr, HB.out⟩
end Go.Proofs.Ytpoefcpgcojppaa
