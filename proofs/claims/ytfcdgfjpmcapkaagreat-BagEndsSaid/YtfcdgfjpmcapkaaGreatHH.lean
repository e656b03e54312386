/- Walks of what makes heaps, puts items into them. -/
import Derived.Test.YtfcdgfjpmcapkaaGreatHG
import Derived.Deep.AppendLies
import Derived.Deep.RegionLaw
import Derived.Lib.SliceRun
namespace Go.Proofs.YtfcdgfjpmcapkaaGreat
open Go.ChangeShapes Go.WideShapes Go.ChangeAt Go.RowKit
set_option linter.unusedVariables false

theorem info40 : (Tryz.prog.info? 74).map (fun i => (i.zero, i.size, i.bytes)) = some (some (.agg #[.int .i64 0, .int .i64 0]), 2, 16) := by kernel_rfl

theorem flat_one : ∀ (l : List It) (u : Value), u ∈ flat l → u.oneCell' = true := by
  intro l u hu
  obtain ⟨x, _, hx⟩ := List.mem_flatMap.1 hu
  simp only [enc, List.mem_cons, List.not_mem_nil, or_false] at hx
  rcases hx with rfl | rfl <;> rfl

theorem flat_news {w : World} {ad : Addr} {l : List It} (hc : ∀ k (h : k < l.length), w.cell? (ad.add (k * 2)) = some (.int .i64 l[k].1) ∧ w.cell? (ad.add (k * 2 + 1)) = some (.int .i64 l[k].2)) (j : Nat) (u : Value) (h : (flat l)[j]? = some u) : w.cell? (ad.add j) = some u := by
  have hj : j < l.length * 2 := by
    have := (List.getElem?_eq_some_iff.1 h).1
    rwa [flat_len] at this
  have hk : j / 2 < l.length := by omega
  obtain ⟨f1, f2⟩ := flat_at l (j / 2) hk
  obtain ⟨c1, c2⟩ := hc (j / 2) hk
  by_cases hm : j % 2 = 0
  · have e : j / 2 * 2 = j := by omega
    rw [e] at f1 c1
    rw [f1] at h
    rw [c1, h]
  · have e : j / 2 * 2 + 1 = j := by omega
    rw [e] at f2 c2
    rw [f2] at h
    rw [c2, h]

def CloneR (l : List It) (w : World) (e : Ending) (w' : World) : Prop := ∃ v, e = .returned v ∧ w'.ownsRow w.heap.size 74 2 v l.length (flat l) ∧ Below w.heap.size w w'

set_option maxRecDepth 100000 in
theorem clone_some {w : World} {ad : Addr} {c : Nat} {l : List It} (hc : 0 < l.length → ad.block < w.heap.size ∧ ∀ k (h : k < l.length), w.cell? (ad.add (k * 2)) = some (.int .i64 l[k].1) ∧ w.cell? (ad.add (k * 2 + 1)) = some (.int .i64 l[k].2)) (hl : l.length ≤ 1000000) :
    Calls Tryz.prog 45 #[.slice (some ad) l.length c] w (CloneR l w) := by
  obtain ⟨i0, hi, hz0, hz1, hz2⟩ := info_parts info40
  have hown := World.ownsRow_made (e := 74) (size := 2) w #[] 0 (base := w.heap.size) (Nat.le_refl _) (by unfold maxLen; omega) rfl
  have hnews : ∀ j u, (flat l)[j]? = some u → (w.alloc (.cells #[] 74)).cell? (ad.add j) = some u := by
    intro j u hj
    have h0 : 0 < l.length := by
      have := (List.getElem?_eq_some_iff.1 hj).1
      rw [flat_len] at this
      omega
    obtain ⟨hb, hc⟩ := hc h0
    exact (World.cell?_alloc_lt _ _ _ (by rw [block_add]; exact hb)).trans (flat_news hc j u hj)
  have HN := Lib.hid hnews
  have HL := Lib.hid (flat_len l)
  have HF := Lib.hid (flat_one l)
  obtain ⟨n, hn⟩ : ∃ n, l.length = n := ⟨_, rfl⟩
  unfold CloneR
  rw [hn] at hl HL ⊢
  have he : ∀ (W : World) (n c : Nat), (binOp .eql 99 (.slice (some ad) n c) (.slice none 0 0)).run Tryz.prog W = .ok (.bool false) W := fun W n c => by have h := Lib.run_eql_slice_nil W 99 74 (some ad) n c 0 0 Tryz.underlying99; simpa using h
  clear hc hnews hn
  go_enter Tryz.func45, Tryz.ntmps45
  go_wp2_with (at_builtin; refine wpList_append_own_at _ rfl _ _ 99 rfl w.heap.size 74 i0 (.agg #[.int .i64 0, .int .i64 0]) 2 16 Tryz.underlying99 hi hz0 hz1 hz2 rfl (by decide) _ _ _ rfl hown ad n c (flat l) rfl HL.out HN.out HF.out (by unfold maxLen; omega) (by omega) (by simp) ?_; intro v' w3 hown' hgrow hnil hloc)
  go_ret
  refine ⟨_, rfl, by simpa using hown', ?_⟩
  exact ((Below.refl _ _).alloc (Nat.le_refl _) _).grown hgrow (by simp) (fun k e => by injection e with e; exact Nat.le_of_eq e)

set_option maxRecDepth 100000 in
theorem clone_none {w : World} (c : Nat) : Calls Tryz.prog 45 #[.slice none 0 c] w (CloneR [] w) := by
  unfold CloneR
  have he : ∀ (W : World) (n c : Nat), (binOp .eql 99 (.slice none n c) (.slice none 0 0)).run Tryz.prog W = .ok (.bool true) W := fun W n c => by have h := Lib.run_eql_slice_nil W 99 74 none n c 0 0 Tryz.underlying99; simpa using h
  go_enter Tryz.func45, Tryz.ntmps45
  go_wp2_with fail
  go_ret
  exact ⟨_, rfl, World.ownsRow_nil _ _ _ _, Below.refl _ _⟩

theorem clone_any {w : World} {v : Value} {l : List It} (h : PR w v l) (hl : l.length ≤ 1000000) : Calls Tryz.prog 45 #[v] w (CloneR l w) := by
  obtain ⟨A, c, rfl, hr⟩ := h
  cases A with
  | none =>
    have h0 : l = [] := by
      rcases Nat.eq_zero_or_pos l.length with h0 | h0
      · exact List.eq_nil_of_length_eq_zero h0
      · obtain ⟨ad, e, _⟩ := hr h0
        cases e
    subst h0
    exact clone_none c
  | some ad =>
    exact clone_some (fun h0 => by obtain ⟨ad', e, hb, hc⟩ := hr h0; injection e with e; subst e; exact ⟨hb, hc⟩) hl

def NewR (l : List It) (w : World) (e : Ending) (w' : World) : Prop :=
  ∃ b sv L, e = .returned (.pointer (some ⟨b, 0, none⟩)) ∧ Hb w' b sv L ∧ L.Perm l ∧ Heap L ∧ w.heap.size ≤ b ∧ (∀ g, sv.ownBlock = some g → w.heap.size ≤ g) ∧ Below w.heap.size w w'

theorem ownsRow_base {w : World} {n n' e sz k : Nat} {v : Value} {xs : List Value} (h : w.ownsRow n e sz v k xs) (hn : n' ≤ n) : w.ownsRow n' e sz v k xs := by
  refine ⟨h.1, ?_⟩
  rcases h.2 with h1 | ⟨g, cap, cur, h1, h2, h3⟩
  · exact .inl h1
  · exact .inr ⟨g, cap, cur, h1, Nat.le_trans hn h2, h3⟩

set_option maxRecDepth 100000 in
theorem new_any {w : World} {v : Value} {l : List It} (h : PR w v l) (hl : l.length ≤ 1000000) : Calls Tryz.prog 30 #[v] w (NewR l w) := by
  have H := Lib.hid h
  clear h
  go_enter Tryz.func30, Tryz.ntmps30
  go_wp2_with fail
  refine (clone_any H.out hl).mono ?_
  rintro e w1 ⟨v1, rfl, hrow, hb1⟩
  have hz := hb1.size
  obtain ⟨A, c, rfl, _⟩ := row_form hrow
  have hlt := fun g hg => hrow.lt g hg
  obtain ⟨W, hW⟩ : ∃ W, W = w1.alloc (.cells #[.pointer (some ⟨w1.heap.size, 0, none⟩), .slice A l.length c] 102) := ⟨_, rfl⟩
  have hHb : Hb W w1.heap.size (.slice A l.length c) l := by
    rw [hW]
    exact ⟨heap_alloc_new w1 _, ownsRow_base (hrow.alloc _) (Nat.zero_le _)⟩
  have hbW : Below w.heap.size w W := by rw [hW]; exact hb1.alloc hz _
  have HH := Lib.hid hHb
  have HB := Lib.hid hbW
  have HLT := Lib.hid hlt
  have HW := Lib.hid hW
  obtain ⟨c0, c1, c2⟩ := hHb.cells
  have hdiv : (l.length : Int) / 2 = ((l.length / 2 : Nat) : Int) := by omega
  have hlm : l.length / 2 ≤ 1000000 := by omega
  have HO := Lib.hid (ord_far (Nat.le_refl (l.length / 2)))
  have HDIV := Lib.hid hdiv
  clear hrow hb1 hHb hbW hlt c0 c1 c2 hdiv hW
  go_wp2_with fail
  rw [HDIV.out, ← HW.out]
  refine (sink_any HH.out (l.length / 2) hlm HO.out hl).mono ?_
  rintro e w3 ⟨rfl, hk3, M, hb3, hp3, hh3⟩
  have HK3 := Lib.hid hk3
  have HB3 := Lib.hid hb3
  have HP3 := Lib.hid hp3
  have HH3 := Lib.hid hh3
  clear hk3 hb3 hp3 hh3
  go_wp2_with fail
  go_ret
  refine ⟨_, _, M, rfl, HB3.out, HP3.out, HH3.out, hz, fun g hg => (HLT.out g hg).1, ?_⟩
  exact HB.out.trans (HK3.out.below HB.out.size fun k hk => ⟨by omega, fun e => by have := (HLT.out k e).1; omega⟩)

theorem pair_new (W : World) (u v : Value) (t : TypeId) : ∀ j z, [u, v][j]? = some z → (W.alloc (.cells #[u, v] t)).drew.cell? ((⟨W.heap.size, 0, none⟩ : Addr).add j) = some z := by
  intro j z hj
  rw [Addr.add_lit]
  simp only [Nat.zero_add]
  rw [World.cell?_drew, cell_of_row _ _ j _ t (0, 0) (heap_alloc_new W _)]
  simpa using hj

/-- where a row lies: where it lay, or in a new block -/
def Loc (w : World) (sv sv1 : Value) : Prop := ∀ g, sv1.ownBlock = some g → sv.ownBlock = some g ∨ w.heap.size ≤ g
theorem Loc.trans {w wr : World} {sv sv1 sv2 : Value} (h : Loc w sv sv1) (hz : w.heap.size ≤ wr.heap.size) (k : Loc wr sv1 sv2) : Loc w sv sv2 := fun g e => by
  rcases k g e with h1 | h1
  · exact h g h1
  · exact .inr (by omega)
theorem Loc.off {w : World} {sv sv1 : Value} (h : Loc w sv sv1) {b k : Nat} (hk : k < w.heap.size) (hp : Off b sv k) : Off b sv1 k :=
  ⟨hp.1, fun e => by rcases h k e with h1 | h1; exact hp.2 h1; omega⟩
theorem Keep.off_trans {w wr w7 : World} {b : Nat} {sv sv1 : Value} (h : Keep (Off b sv) w wr) (l : Loc w sv sv1) (k : Keep (Off b sv1) wr w7) : Keep (Off b sv) w w7 := h.trans k fun i hi hp => l.off hi hp

/-- what a heap has become, its blocks and new ones alone -/
def Turn (w : World) (b : Nat) (sv : Value) (L : List It) (wr : World) : Prop :=
  ∃ sv1 M, Hb wr b sv1 M ∧ M.Perm L ∧ Heap M ∧ Loc w sv sv1 ∧ Keep (Off b sv) w wr

theorem hb_mid {w w2 w3 : World} {b : Nat} {sv : Value} {L : List It} (h : Hb w b sv L) (hb : Below w.heap.size w w2) (hg : w2.grownBy w3 sv.ownBlock) : w3.heap[b]? = some (.cells #[.pointer (some ⟨b, 0, none⟩), sv] 102 (0, 0)) :=
  (hg.block b (Nat.lt_of_lt_of_le h.ltb hb.size) (fun e => h.br e.symm)).trans ((hb.block b h.ltb).trans h.blk)

theorem hb_put {w3 : World} {b gg n c : Nat} {v sv : Value} {L : List It} (hb : w3.heap[b]? = some (.cells #[v, sv] 102 (0, 0))) (hrow : w3.ownsRow 0 74 2 (.slice (some ⟨gg, 0, none⟩) n c) n (flat L)) (hv : v = .pointer (some ⟨b, 0, none⟩)) :
    Hb (w3.setCell ⟨b, 1, none⟩ (.slice (some ⟨gg, 0, none⟩) n c)) b (.slice (some ⟨gg, 0, none⟩) n c) L := by
  have hn := hrow.1
  rw [flat_len] at hn
  obtain rfl : n = L.length := by omega
  have hne : gg ≠ b := by
    rintro rfl
    rcases hrow.2 with ⟨h', _⟩ | ⟨g', cap, cur, h', _, hh, _⟩
    · cases h'
    · injection h' with e1
      injection e1 with e1
      injection e1 with e1
      subst e1
      rw [hh] at hb
      simp at hb
  refine ⟨?_, hrow.1, ?_⟩
  · subst hv
    simp [World.setCell, Array.getElem?_modify, hb]
  · rcases hrow.2 with h' | ⟨g', cap, cur, h', hb', hh, r⟩
    · exact .inl h'
    · refine .inr ⟨g', cap, cur, h', hb', ?_, r⟩
      injection h' with e1
      injection e1 with e1
      injection e1 with e1
      subst e1
      rw [Below.heap_setCell _ _ _ _ hne]
      exact hh

theorem add_of_add (a : Addr) (i j : Nat) : (a.add i).add j = a.add (i + j) := by
  unfold Addr.add
  by_cases hi : i = 0 <;> by_cases hj : j = 0 <;> simp [hi, hj, Nat.add_assoc]

theorem add_one' (a : Addr) : a.add 1 = ⟨a.block, a.off + 1, none⟩ := by simp [Addr.add]
theorem at2 {w : World} {ad : Addr} {k : Nat} {u : Value} (h : w.cell? (ad.add (k * 2 + 1)) = some u) : w.cell? ⟨(ad.add (k * 2)).block, (ad.add (k * 2)).off + 1, none⟩ = some u := by
  rw [← add_one', add_of_add]; exact h

theorem put_keep {wr w5 w6 : World} {o : Obj} {b : Nat} {sv u : Value} (h : Below wr.heap.size wr w5) (hg : (w5.alloc o).drew.grownBy w6 sv.ownBlock) : Keep (Off b sv) wr (w6.setCell ⟨b, 1, none⟩ u) := by
  refine Keep.setCell ?_ _ _ fun k _ hp => hp.1
  have h1 : Below wr.heap.size wr (w5.alloc o).drew := (h.alloc h.size o).drew
  exact (Keep.of_below h1).trans (q := Off b sv) (Keep.of_grown hg fun k _ hp e => hp.2 e.symm) (p := Off b sv) fun _ _ h => h
theorem loc_put {wr w5 : World} {sv : Value} {g' n c : Nat} (hz : wr.heap.size ≤ w5.heap.size) (h : sv.ownBlock = some g' ∨ g' = w5.heap.size + 1) : Loc wr sv (.slice (some ⟨g', 0, none⟩) n c) := fun g e => by
  have e' : g' = g := by injection e
  subst e'
  rcases h with h | h
  · exact .inl h
  · exact .inr (by omega)

def PushR (w : World) (b : Nat) (sv : Value) (L : List It) (e : Ending) (w' : World) : Prop := e = .returned (.int .i64 0) ∧ Turn w b sv L w'

set_option maxRecDepth 100000 in
set_option maxHeartbeats 1000000 in
theorem push_any {w : World} {b : Nat} {sv : Value} {L F : List It} {v : Value} (h : Hb w b sv L) (hh : Heap L) (hv : PR w v F) (hoff : 0 < F.length → ∀ g, v.ownBlock = some g → Off b sv g) (hl : L.length + F.length ≤ 1000000) :
    Calls Tryz.prog 34 #[.pointer (some ⟨b, 0, none⟩), v] w (PushR w b sv (L ++ F)) := by
  obtain ⟨i0, hi, hz0, hz1, hz2⟩ := info_parts info40
  have HV := Lib.hid hv
  obtain ⟨A, c, rfl, hv2⟩ := hv
  obtain ⟨n, hn⟩ : ∃ n, F.length = n := ⟨_, rfl⟩
  have HN := Lib.hid hn
  have HO := Lib.hid hoff
  have HB := Lib.hid h
  have HH := Lib.hid hh
  rw [hn] at hl ⊢
  clear hoff h hn hv2 hh
  go_enter Tryz.func34, Tryz.ntmps34
  go_wp2_with fail
  refine (made_any HB.out).mono ?_
  rintro e w' ⟨rfl, rfl⟩
  go_wp2_with fail
  go_loopw [12] (fun i wr => ∃ k : Nat, k ≤ n ∧ i = .int .i64 k ∧ Turn w b sv (L ++ F.take k) wr) (fun i _ => n - (intOf i).toNat)
  case atStart => exact ⟨0, Nat.zero_le _, rfl, sv, L, HB.out, by simp, HH.out, fun g hg => .inl hg, Keep.refl _ _⟩
  case round =>
    obtain ⟨k, hk, rfl, sv1, M, hb1, hp1, hh1, hl1, hk1⟩ := hrel
    have HB1 := Lib.hid hb1
    have HP1 := Lib.hid hp1
    have HH1 := Lib.hid hh1
    have HL1 := Lib.hid hl1
    have HK1 := Lib.hid hk1
    clear hp1 hh1 hl1 hb1
    by_cases hlt : k < n
    · have hkF : k < F.length := by rw [HN.out]; exact hlt
      obtain ⟨A', c', hA, hv3⟩ := HV.out.keep hk1 fun h0 g hg _ => HO.out h0 g hg
      injection hA with hA1 hA2 hA3
      subst hA1
      subst hA3
      obtain ⟨ad, rfl, hg, hc⟩ := hv3 (by omega)
      obtain ⟨hc1, hc2⟩ := hc k hkF
      obtain ⟨x, hx⟩ : ∃ x, F[k] = x := ⟨_, rfl⟩
      rw [hx] at hc1 hc2
      have hTk : L ++ F.take (k + 1) = (L ++ F.take k) ++ [x] := by rw [List.take_succ_eq_append_getElem hkF, hx, List.append_assoc]
      have HTK := Lib.hid hTk
      have hml : M.length ≤ 999999 := by have := HP1.out.length_eq; simp at this; omega
      have hzk := hk1.size
      have hc2 := at2 hc2
      clear hc hv3 hx hTk hk1
      go_wp2_with fail
      have hB5 := HB1.out.below ((Below.refl _ wr).alloc (Nat.le_refl _) (.cells #[.int .i64 x.1, .int .i64 x.2] 74))
      have hb5 : Below wr.heap.size wr (wr.alloc (.cells #[.int .i64 x.1, .int .i64 x.2] 74)) := (Below.refl _ wr).alloc (Nat.le_refl _) _
      have q1 := cell_of_row _ _ 0 _ 74 (0, 0) (heap_alloc_new wr (.cells #[.int .i64 x.1, .int .i64 x.2] 74))
      have q2 := cell_of_row _ _ 1 _ 74 (0, 0) (heap_alloc_new wr (.cells #[.int .i64 x.1, .int .i64 x.2] 74))
      generalize wr.alloc (.cells #[.int .i64 x.1, .int .i64 x.2] 74) = w5 at *
      obtain ⟨B, hBe⟩ : ∃ B, wr.heap.size = B := ⟨_, rfl⟩
      rw [hBe] at q1 q2 ⊢
      have HBE := Lib.hid hBe
      have HB5 := Lib.hid hB5
      have HBL5 := Lib.hid hb5
      obtain ⟨c0, c1, c2⟩ := hB5.cells
      have hrow := hB5.row
      have nb := World.new_ne w5 ⟨b, 1, none⟩ c1
      have hlb5 := hB5.ltb
      clear hBe hB5 hb5 hc1 hc2 c0
      go_region_law ((refine step_append_lies _ rfl (.tmp 20) (.tmp 22) 99 rfl 0 74 i0 (.agg #[.int .i64 0, .int .i64 0]) 2 16 Tryz.underlying99 hi hz0 hz1 hz2 rfl (by decide) sv1 M.length (flat M) (by simp [Act.eval, Act.put]) (hrow.alloc _).drew ⟨w5.heap.size, 0, none⟩ 1 1 [.int .i64 x.1, .int .i64 x.2] (by simp [Act.eval, Act.put]) rfl (pair_new _ _ _ _) (by simp [Value.oneCell']) (by decide) (by unfold maxLen; omega) (by omega) (Nat.zero_le _) (w5.heap.size + 1) (by simp) ?_; intro g' cap' w6 hown' hgrow hloc hlt6; have d3 := hb_mid HB5.out (((Below.refl _ w5).alloc (Nat.le_refl _) _).drew) hgrow; have d1 : w6.cell? ⟨b, 1, none⟩ = some sv1 := (by simp [World.cell?, d3]); have d2 : w6.frozen? ⟨b, 1, none⟩ = false := (by simp [World.frozen?, d3])))
      all_goals
        have hB6 := hb_put (L := M ++ [x]) d3 (by rw [flat_app]; exact hown') rfl
        have hK6 := put_keep (b := b) (u := .slice (some ⟨g', 0, none⟩) (M.length + 1) cap') HBL5.out hgrow
        have hL6 := loc_put (n := M.length + 1) (c := cap') HBL5.out.size hloc
        have HK6 := Lib.hid hK6
        have HL6 := Lib.hid hL6
        have HB6 := Lib.hid hB6
        obtain ⟨e0, e1, e2⟩ := hB6.cells
        obtain ⟨z, hz⟩ : ∃ z, M.length + 1 = z := ⟨_, rfl⟩
        obtain ⟨W6, hW6⟩ : ∃ W6, w6.setCell ⟨b, 1, none⟩ (.slice (some ⟨g', 0, none⟩) (M.length + 1) cap') = W6 := ⟨_, rfl⟩
        rw [hW6] at HK6 HB6 e1
        have hze : ((M.length : Nat) : Int) + 1 - 1 = (M.length : Int) := by omega
        have hup := up_start HH1.out x
        have HUP := Lib.hid hup
        simp only [hW6]
        clear hB6 hK6 hL6 e0 e2 hup hown' hgrow hloc hlt6 d1 d2 d3 hW6 hz hze c1 c2 q1 q2 hrow nb
        go_wp2_with fail
        clear e1
        refine (rise_any HB6.out M.length (by simp) HUP.out (by simp; omega)).mono ?_
        rintro e w7 ⟨rfl, hk7, M7, hb7, hp7, hh7⟩
        have HT := Lib.hid (⟨_, M7, hb7, hp7.trans (by rw [HTK.out]; exact HP1.out.append_right [x]), hh7, HL1.out.trans hzk HL6.out, HK1.out.off_trans HL1.out (HK6.out.off_trans HL6.out hk7)⟩ : Turn w b sv (L ++ F.take (k + 1)) w7)
        clear hk7 hb7 hp7 hh7
        go_wp2_with fail
        go_roundw
        case rel => exact ⟨k + 1, by omega, by go_num, HT.out⟩
        case measure => simp [intOf] <;> omega
    · obtain rfl : n = k := by omega
      clear hk1
      go_wp2_with fail
      go_ret
      have hT : Turn w b sv (L ++ F.take n) wr := ⟨sv1, M, HB1.out, HP1.out, HH1.out, HL1.out, HK1.out⟩
      rw [List.take_of_length_le (by have := HN.out; omega)] at hT
      exact ⟨rfl, hT⟩
end Go.Proofs.YtfcdgfjpmcapkaaGreat
