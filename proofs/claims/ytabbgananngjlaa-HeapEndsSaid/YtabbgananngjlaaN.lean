/- Walk of the law's taken. -/
import Derived.Test.YtabbgananngjlaaM
namespace Go.Proofs.Ytabbgananngjlaa
open Go.ChangeShapes Go.WideShapes Go.ChangeAt Go.RowKit Go.Shelf
set_option linter.unusedVariables false

attribute [local go_sem] Oper.semAt_some

theorem run_equalIn_func_nil {P : Program} (w : World) (d : Nat) (t : TypeId) (ps rs : Array TypeId) (vd : Bool) (fn : Fn) (fi ca : Array Value) (h : P.underlying t = some (.func ps rs vd)) :
    (Op.equalIn (d + 1) t (.func fn fi ca) .nilFunc).run P w = .ok false w := by
  simp [Op.equalIn, run_underlying h]

theorem run_eql_func_nil {P : Program} (w : World) (t : TypeId) (ps rs : Array TypeId) (vd : Bool) (fn : Fn) (fi ca : Array Value) (h : P.underlying t = some (.func ps rs vd)) :
    (binOp .eql t (.func fn fi ca) .nilFunc).run P w = .ok (.bool false) w := by
  simp only [binOp]
  simp [Op.equal, Op.maxDepth, run_equalIn_func_nil w 9999 t ps rs vd fn fi ca h]

/-- what taken hands back: a row of its own; what the heap has become -/
def TakR (w : World) (b : Nat) (sv : Value) (res rest : List It) (e : Ending) (w' : World) : Prop :=
  ∃ v sv1 M, e = .returned v ∧ PR w' v res ∧ (∀ g, v.ownBlock = some g → w.heap.size ≤ g) ∧ Hb w' b sv1 M ∧ Heap M ∧ srt M = rest ∧ Loc w sv sv1 ∧ Keep (Off b sv) w w' ∧ (∀ g, v.ownBlock = some g → Off b sv1 g)

theorem tk_out {w : World} {b : Nat} {sv : Value} {n : Nat} {key N : Int} {out : List It} {v sv1 : Value} {M rest : List It} {W : World} (h : Tk w b sv n key N v out v sv1 M W) (hr : srt M = rest) : TakR w b sv out rest (.returned v) W :=
  ⟨v, sv1, M, rfl, PR.of_own h.row, fun g hg => by have := (h.row.lt g hg).1; omega, h.hb, h.hh, hr, h.loc, h.keep, h.off⟩

/-- the start: five boxes -/
theorem tk_start {w : World} {b : Nat} {sv : Value} {L : List It} (h : Hb w b sv L) (hh : Heap L) (key N : Int) :
    Tk w b sv L.length key N (.slice none 0 0) [] (.slice none 0 0) sv L
      (((((w.alloc (.cells #[.int .i64 N] 3)).alloc (.cells #[.slice none 0 0] 22)).alloc (.cells #[.slice none 0 0] 22)).alloc (.cells #[.pointer (some ⟨b, 0, none⟩)] 26)).alloc (.cells #[.int .i64 key] 3)) := by
  have e1 : (w.alloc (.cells #[.int .i64 N] 3)).heap.size = w.heap.size + 1 := by simp
  have e2 : ((w.alloc (.cells #[.int .i64 N] 3)).alloc (.cells #[.slice none 0 0] 22)).heap.size = w.heap.size + 1 + 1 := by simp
  have e3 : (((w.alloc (.cells #[.int .i64 N] 3)).alloc (.cells #[.slice none 0 0] 22)).alloc (.cells #[.slice none 0 0] 22)).heap.size = w.heap.size + 1 + 1 + 1 := by simp
  have e4 : ((((w.alloc (.cells #[.int .i64 N] 3)).alloc (.cells #[.slice none 0 0] 22)).alloc (.cells #[.slice none 0 0] 22)).alloc (.cells #[.pointer (some ⟨b, 0, none⟩)] 26)).heap.size = w.heap.size + 1 + 1 + 1 + 1 := by simp
  have b0 := Boxed.new w 3 (.int .i64 N)
  have b1 := Boxed.new (w.alloc (.cells #[.int .i64 N] 3)) 22 (.slice none 0 0)
  have b2 := Boxed.new ((w.alloc (.cells #[.int .i64 N] 3)).alloc (.cells #[.slice none 0 0] 22)) 22 (.slice none 0 0)
  have b3 := Boxed.new (((w.alloc (.cells #[.int .i64 N] 3)).alloc (.cells #[.slice none 0 0] 22)).alloc (.cells #[.slice none 0 0] 22)) 26 (.pointer (some ⟨b, 0, none⟩))
  have b4 := Boxed.new ((((w.alloc (.cells #[.int .i64 N] 3)).alloc (.cells #[.slice none 0 0] 22)).alloc (.cells #[.slice none 0 0] 22)).alloc (.cells #[.pointer (some ⟨b, 0, none⟩)] 26)) 3 (.int .i64 key)
  rw [e1] at b1
  rw [e2] at b2
  rw [e3] at b3
  rw [e4] at b4
  have hB : Below w.heap.size w (((((w.alloc (.cells #[.int .i64 N] 3)).alloc (.cells #[.slice none 0 0] 22)).alloc (.cells #[.slice none 0 0] 22)).alloc (.cells #[.pointer (some ⟨b, 0, none⟩)] 26)).alloc (.cells #[.int .i64 key] 3)) :=
    ((((((Below.refl _ w).alloc (Nat.le_refl _) _).alloc (by omega) _).alloc (by omega) _).alloc (by omega) _).alloc (by omega) _)
  exact ⟨(((b0.alloc _).alloc _).alloc _).alloc _, ((b1.alloc _).alloc _).alloc _, (b2.alloc _).alloc _, b3.alloc _, b4, World.ownsRow_nil _ _ _ _, h.below hB, hh, Nat.le_refl _, (fun g e => by cases e), (fun g hg => .inl hg), Keep.of_below hB, h.ltb, (by simp)⟩

theorem new_two (W : World) (u v : Int) : ∀ j z, [Value.int .i64 u, Value.int .i64 v][j]? = some z → (W.alloc (.cells #[.int .i64 u, .int .i64 v] 40)).cell? ((⟨W.heap.size, 0, none⟩ : Addr).add j) = some z := by
  intro j z hj
  rw [Addr.add_lit]
  simp only [Nat.zero_add]
  rw [cell_of_row _ _ j _ 40 (0, 0) (heap_alloc_new W _)]
  simpa using hj

theorem Tk.below {w : World} {b : Nat} {sv : Value} {n : Nat} {key N : Int} {r : Value} {out : List It} {v sv1 : Value} {M : List It} {W W' : World} (h : Tk w b sv n key N r out v sv1 M W) (hb : Below W.heap.size W W') :
    Tk w b sv n key N r out v sv1 M W' :=
  h.grown (row := none) ⟨hb.os, hb.tape, hb.output, hb.size, fun k hk _ => hb.block k hk⟩ fun r e => by cases e

theorem tk_res {w : World} {b : Nat} {sv : Value} {n : Nat} {key N : Int} {r : Value} {out : List It} {v sv1 : Value} {M : List It} {W : World} (h : Tk w b sv n key N r out v sv1 M W) (u : Value) :
    Tk w b sv n key N u out v sv1 M (W.setCell ⟨w.heap.size + 1, 0, none⟩ u) := by
  have hg := grownBy_setCell' W (w.heap.size + 1) u
  refine ⟨h.b0.other (by omega) _, h.b1.set _, h.b2.other (by omega) _, h.b3.other (by omega) _, h.b4.other (by omega) _, ownsRow_setCell_below h.row (by simp only []; omega) _, hb_grown h.hb hg ?_, h.hh, h.ml, h.off, h.loc, Keep.setCell h.keep _ _ ?_, h.blt, by simp only [World.size_setCell]; exact h.size⟩
  · intro k e
    cases e
    exact ⟨by have := h.blt; omega, fun e => h.b1.not_row (by decide) h.hb.row e.symm⟩
  · intro k hk _
    simp only []
    omega

set_option maxRecDepth 100000 in
set_option maxHeartbeats 2000000 in
theorem taken_none {w : World} {b : Nat} {sv : Value} {L : List It} (h : Hb w b sv L) (hh : Heap L) (key N : Int) (hN : N < 1) :
    Calls Try.prog 19 #[.pointer (some ⟨b, 0, none⟩), .int .i64 key, .int .i64 N] w (TakR w b sv [] (srt L)) := by
  have HT := Lib.hid (tk_start h hh key N)
  clear h hh
  refine (callsIn_wide (n := 9)).1 ?_
  refine callsIn_of_wp_marks Try.func19 rfl trivial ?_ rfl
  simp only [Try.ntmps19, List.size_toArray, List.length_cons, List.length_nil, Nat.reduceAdd, Nat.reduceSub, Array.replicate_succ, Array.replicate_zero, List.push_toArray, List.append_toArray, List.nil_append, List.cons_append]
  gi_wp2
  refine ⟨trivial, ?_⟩
  refine (callsIn_wide.2 (upto_any b key _)).mono ?_
  rintro e w1 ⟨rfl, rfl⟩
  have c0 := HT.out.b0.cell
  have c1 := HT.out.b1.cell
  have f1 := HT.out.b1.frozen
  generalize (((((w.alloc (.cells #[.int .i64 N] 3)).alloc (.cells #[.slice none 0 0] 22)).alloc (.cells #[.slice none 0 0] 22)).alloc (.cells #[.pointer (some ⟨b, 0, none⟩)] 26)).alloc (.cells #[.int .i64 key] 3)) = W at *
  simp only [World.size_alloc]
  gi_wp2
  have hT : Tk w b sv L.length key N (.slice none 0 0) [] (.slice none 0 0) sv L (W.setCell ⟨w.heap.size + 1, 0, none⟩ (.slice none 0 0)) := tk_res HT.out (.slice none 0 0)
  have c4 := hT.b1.cell
  exact ⟨.slice none 0 0, by simp [results, Try.f19, go_sem, c4], .slice none 0 0, sv, L, rfl, ⟨none, 0, rfl, fun h => by simp at h⟩, (fun g e => by cases e), hT.hb, hT.hh, rfl, hT.loc, hT.keep, (fun g e => by cases e)⟩

/-- the frame of taken where a round begins -/
def frm (w : World) (b : Nat) (key N : Int) (s9 s20 : Value) : Act :=
  { tmps := #[.pointer (some ⟨b, 0, none⟩), .int .i64 key, .int .i64 N, undef, undef, .pointer (some ⟨w.heap.size, 0, none⟩), .pointer (some ⟨w.heap.size + 1, 0, none⟩), .pointer (some ⟨w.heap.size + 1 + 1, 0, none⟩),
      .func (.func 38) #[] #[.pointer (some ⟨w.heap.size + 1 + 1 + 1, 0, none⟩), .pointer (some ⟨w.heap.size + 1 + 1 + 1 + 1, 0, none⟩)], s9, .pointer (some ⟨b, 0, none⟩), .int .i64 key,
      .func (.func 38) #[] #[.pointer (some ⟨w.heap.size + 1 + 1 + 1, 0, none⟩), .pointer (some ⟨w.heap.size + 1 + 1 + 1 + 1, 0, none⟩)], .int .i64 N, .bool (decide (N < 1)), .bool (decide (N < 1)),
      .func (.func 38) #[] #[.pointer (some ⟨w.heap.size + 1 + 1 + 1, 0, none⟩), .pointer (some ⟨w.heap.size + 1 + 1 + 1 + 1, 0, none⟩)], .bool false, .bool (decide (N < 1)),
      .func (.func 38) #[] #[.pointer (some ⟨w.heap.size + 1 + 1 + 1, 0, none⟩), .pointer (some ⟨w.heap.size + 1 + 1 + 1 + 1, 0, none⟩)], s20,
      undef, undef, undef, undef, undef, undef, undef, undef, undef, undef], defers := [] }

theorem abd_tk {w : World} {b : Nat} {sv : Value} {n : Nat} {key N : Int} {B : Nat} (hB : B = w.heap.size + 1 + 1 + 1 + 1 + 1) (p : Value → List It → Value → Value → List It → Prop) :
    Abd B fun W => ∃ r out v sv1 M, Tk w b sv n key N r out v sv1 M W ∧ p r out v sv1 M := by
  rintro _ W W' row ⟨r, out, v, sv1, M, h, hp⟩ hg hr
  exact ⟨r, out, v, sv1, M, h.grown hg (fun r' e => by rw [← hB]; exact hr r' e), hp⟩

set_option maxRecDepth 100000 in
set_option maxHeartbeats 2000000 in
theorem taken_some {w : World} {b : Nat} {sv : Value} {L : List It} (h : Hb w b sv L) (hh : Heap L) (hl : L.length ≤ 1000000) (key : Int) (N : Nat) (hN : 1 ≤ N) (hN2 : N ≤ 1000000) :
    Calls Try.prog 19 #[.pointer (some ⟨b, 0, none⟩), .int .i64 key, .int .i64 N] w (TakR w b sv (tk key N (srt L)).1 (tk key N (srt L)).2) := by
  have HT := Lib.hid (tk_start h hh key N)
  have HL := Lib.hid hl
  obtain ⟨res, hres⟩ : ∃ res, (tk key N (srt L)).1 = res := ⟨_, rfl⟩
  obtain ⟨rest, hrest⟩ : ∃ rest, (tk key N (srt L)).2 = rest := ⟨_, rfl⟩
  rw [hres, hrest]
  have HRS := Lib.hid hres
  have HRT := Lib.hid hrest
  clear h hh hres hrest hl
  have hn1 : (1 : Int) ≤ (N : Int) := by omega
  refine (callsIn_wide (n := 9)).1 ?_
  refine callsIn_of_wp_marks Try.func19 rfl trivial ?_ rfl
  simp only [Try.ntmps19, List.size_toArray, List.length_cons, List.length_nil, Nat.reduceAdd, Nat.reduceSub, Array.replicate_succ, Array.replicate_zero, List.push_toArray, List.append_toArray, List.nil_append, List.cons_append]
  gi_wp2
  refine ⟨trivial, ?_⟩
  refine (callsIn_wide.2 (upto_any b key _)).mono ?_
  rintro e w1 ⟨rfl, rfl⟩
  have c0 := HT.out.b0.cell
  have c1 := HT.out.b1.cell
  have f1 := HT.out.b1.frozen
  have hz : (((((w.alloc (.cells #[.int .i64 N] 3)).alloc (.cells #[.slice none 0 0] 22)).alloc (.cells #[.slice none 0 0] 22)).alloc (.cells #[.pointer (some ⟨b, 0, none⟩)] 26)).alloc (.cells #[.int .i64 key] 3)).heap.size = w.heap.size + 1 + 1 + 1 + 1 + 1 := by simp
  have HZ := Lib.hid hz
  clear hz
  generalize (((((w.alloc (.cells #[.int .i64 N] 3)).alloc (.cells #[.slice none 0 0] 22)).alloc (.cells #[.slice none 0 0] 22)).alloc (.cells #[.pointer (some ⟨b, 0, none⟩)] 26)).alloc (.cells #[.int .i64 key] 3)) = W at *
  simp only [World.size_alloc]
  have qf : ∀ (w : World) (ca : Array Value), (binOp .eql 60 (.func (.func 38) #[] ca) .nilFunc).run Try.prog w = .ok (.bool false) w := fun w ca => run_eql_func_nil w 60 _ _ _ _ _ ca Try.underlying60
  obtain ⟨i0, hi, hz0, hz1, hz2⟩ := info_parts info40
  gi_wp2
  refine wpIn_rangeFunc_dir rfl (by decide) (gf := 38) (lb := #[.pointer (some ⟨w.heap.size + 1 + 1 + 1, 0, none⟩), .pointer (some ⟨w.heap.size + 1 + 1 + 1 + 1, 0, none⟩)]) rfl trivial (enters_of Try.func38 (by kernel_rfl) rfl)
    (encs := fun x : It => #[.agg #[.int .i64 x.1, .int .i64 x.2]])
    (fun m W => ∃ r out v sv1 M, Tk w b sv L.length key N r out v sv1 M W ∧ (r = .slice none 0 0 ∧ 1 ≤ m ∧ out.length + m = N ∧ out ++ (tk key m (srt M)).1 = res ∧ (tk key m (srt M)).2 = rest))
    (fun m x W => ∃ r out v sv1 M, Tk w b sv L.length key N r out v sv1 M W ∧ (r = .slice none 0 0 ∧ 1 ≤ m ∧ out.length + m = N ∧ (out ++ [x]) ++ (tk key (m - 1) (srt M)).1 = res ∧ (tk key (m - 1) (srt M)).2 = rest))
    (fun W => ∃ r out v sv1 M, Tk w b sv L.length key N r out v sv1 M W ∧ (r = .slice none 0 0 ∧ out = res ∧ srt M = rest))
    (fun c W => ∃ r out v sv1 M, Tk w b sv L.length key N r out v sv1 M W ∧ (c = .ret ∧ r = v ∧ out = res ∧ srt M = rest))
    (fun m x a' W => ∃ bx, (a' = frm w b key N (.pointer (some ⟨bx, 0, none⟩)) (.agg #[.int .i64 x.1, .int .i64 x.2])) ∧ w.heap.size + 1 + 1 + 1 + 1 + 1 ≤ bx ∧ W.heap[bx]? = some (.cells #[.int .i64 x.1, .int .i64 x.2] 40 (0, 0)) ∧
      ∃ r out v sv1 M, Tk w b sv L.length key N r out v sv1 M W ∧ (r = .slice none 0 0 ∧ 1 ≤ m ∧ out.length + m = N ∧ (out ++ [x]) ++ (tk key (m - 1) (srt M)).1 = res ∧ (tk key (m - 1) (srt M)).2 = rest))
    (up_seq _ b _ _ key _ _ _ ?hI) (fun _ => rfl) ?aI ?aX ?aD ?aA N ?h0 ?assign ?body ?done ?stop
  case hI =>
    rintro m W ⟨r, out, v, sv1, M, hT, rfl, hm, hlen, hr1, hr2⟩
    refine ⟨sv1, M, hT.b3.cell, hT.b4.cell, hT.hb, boxed_off hT.b4 (by decide) (by have := hT.blt; omega) hT.hb, hT.hh, by have := hT.ml; have := HL.out; omega, ?_, ?_⟩
    · intro hx W' hb
      have he := tk_stop key m (S := srt M) (fun h0 => by rw [srt_len] at h0; rw [srt_g0 hT.hh h0]; exact hx h0)
      rw [he] at hr1 hr2
      obtain ⟨h1, h2⟩ : Tk w b sv L.length key N (.slice none 0 0) out v sv1 M W' ∧ out = res := ⟨hT.below hb, by simpa using hr1⟩
      exact ⟨_, out, v, sv1, M, h1, rfl, h2, hr2⟩
    · intro h0 hk W' ht
      obtain ⟨sv2, M2, h2, hp2⟩ := hT.pop ht
      obtain ⟨q, rfl⟩ : ∃ q, m = q + 1 := ⟨m - 1, by omega⟩
      rw [tk_go hT.hh h0 hk, ← srt_congr hp2] at hr1 hr2
      exact ⟨_, out, v, sv2, M2, h2, rfl, hm, hlen, by simpa using hr1, hr2⟩
  case aI => exact fun m => abd_tk HZ.out _
  case aX => exact fun c => abd_tk HZ.out _
  case aD => exact abd_tk HZ.out _
  case aA =>
    rintro m x a' _ W W' row ⟨bx, ha, hbx, hc, r, out, v, sv1, M, h, hp⟩ hg hr
    refine ⟨bx, ha, hbx, (hg.block bx (Array.getElem?_eq_some_iff.1 hc).1 ?_).trans hc, r, out, v, sv1, M, h.grown hg (fun r' e => by rw [← HZ.out]; exact hr r' e), hp⟩
    intro e
    obtain ⟨_, o, ho, hco⟩ := hr bx e.symm
    rw [hc] at ho
    cases ho
    cases hco
  case h0 => exact ⟨_, [], _, sv, L, HT.out, rfl, hN, by simp, by simpa using HRS.out, HRT.out⟩
  case assign =>
    rintro l m x W K ⟨r, out, v, sv1, M, hT, hp⟩ hK
    have HK := Lib.hid hK
    have HTT := Lib.hid hT
    clear hK hT
    gi_wp2
    have hbw : Below W.heap.size W (W.alloc (.cells #[.int .i64 x.1, .int .i64 x.2] 40)) := (Below.refl _ W).alloc (Nat.le_refl _) _
    refine HK.out _ _ ((below_others hbw).from _) ⟨W.heap.size, rfl, HTT.out.size, heap_alloc_new W _, r, out, v, sv1, M, HTT.out.below hbw, hp⟩
  case body =>
    rintro l m x a' W hwl ⟨bx, rfl, hbx, hxc, r, out, v, sv1, M, hT, rfl, hm, hlen, hr1, hr2⟩
    have HTT := Lib.hid hT
    have HR1 := Lib.hid hr1
    have HR2 := Lib.hid hr2
    obtain ⟨x0, x1, _, _⟩ := res_cells hxc
    have hc := hT.b2.cell
    have hsz := hT.size
    have hrow := hT.row
    have hbxl : bx < W.heap.size := (Array.getElem?_eq_some_iff.1 hxc).1
    clear hT hr1 hr2 hxc
    unfold frm
    gi_wp2_with (gi_at_builtin; refine wpListIn_append_own_at _ rfl _ _ 22 rfl (w.heap.size + 1 + 1 + 1 + 1 + 1) 40 i0 (.agg #[.int .i64 0, .int .i64 0]) 2 16 Try.underlying22 hi hz0 hz1 hz2 rfl (by decide) _ _ _ rfl (hrow.alloc _) ⟨W.heap.size, 0, none⟩ 1 1 [.int .i64 x.1, .int .i64 x.2] rfl rfl (new_two W x.1 x.2) (by simp [Value.oneCell']) (by unfold maxLen; omega) (by omega) (by simp; omega) ?_; intro v' w2 hown' hgrow _ hat; obtain ⟨g', cap', rfl⟩ := ownsRow_succ hown'; obtain ⟨q2, q0, q1, hk2, hT2⟩ := HTT.out.app hown' hgrow hat; have HT2 := Lib.hid hT2; clear hT2; have hc2 := q2.cell; have hf2 := q2.frozen; have hc0 := q0.cell; have hc1 := q1.cell; have hf1 := q1.frozen)
    · have hle : (N : Int) ≤ (out.length : Int) + 1 := by assumption
      obtain rfl : m = 1 := by omega
      have r1 := HR1.out
      have r2 := HR2.out
      simp only [tk, List.append_nil, Nat.sub_self] at r1 r2
      exact ⟨((hk2.trans (KeepsOthers.setCell _ _ _)).trans (KeepsOthers.setCell _ _ _)).from _, _, _, _, _, _, tk_res HT2.out _, rfl, rfl, r1, r2⟩
    · have hgt : (out.length : Int) + 1 < (N : Int) := by assumption
      exact ⟨(hk2.trans (KeepsOthers.setCell _ _ _)).from _, m - 1, by omega, _, _, _, _, _, HT2.out, rfl, by omega, by rw [List.length_append, List.length_singleton]; omega, HR1.out, HR2.out⟩
  case done =>
    rintro D W hD ⟨r, out, v, sv1, M, hT, rfl, hor, hrest⟩ hK
    obtain ⟨A, cc, rfl, _⟩ := row_form hT.row
    have hc := hT.b2.cell
    have hcr := hT.b1.cell
    have hfr := hT.b1.frozen
    have hT2 := tk_res hT (.slice A out.length cc)
    have HTT := Lib.hid hT2
    have HOR := Lib.hid hor
    have HRR := Lib.hid hrest
    have hDl : w.heap.size + 1 + 1 + 1 + 1 + 1 ≤ D := by rw [← HZ.out]; exact hD
    clear hT hT2 hor hrest
    gi_wp2
    have hK' := (KeepsOthers.setCell W ⟨w.heap.size + 1, 0, none⟩ (.slice A out.length cc)).same D _ hK rfl
    have hT3 := HTT.out.grown (grownBy_putObj' _ D (.deferred none)) fun r' e => by cases e; exact ⟨hDl, _, hK', rfl⟩
    have hc5 := hT3.b1.cell
    refine ⟨by simp, .inl ⟨_, _, rfl, run_takeDeferred hK', ?_⟩⟩
    refine ⟨.slice A out.length cc, by simp [results, Try.f19, go_sem, hc5], ?_⟩
    rw [← HOR.out]
    exact tk_out hT3 HRR.out
  case stop =>
    rintro D c W hD ⟨r, out, v, sv1, M, hT, rfl, rfl, hor, hrest⟩ hK
    have HTT := Lib.hid hT
    have HOR := Lib.hid hor
    have HRR := Lib.hid hrest
    have hDl : w.heap.size + 1 + 1 + 1 + 1 + 1 ≤ D := by rw [← HZ.out]; exact hD
    clear hT hor hrest
    gi_wp2
    have hT3 := HTT.out.grown (grownBy_putObj' _ D (.deferred none)) fun r' e => by cases e; exact ⟨hDl, _, hK, rfl⟩
    have hc5 := hT3.b1.cell
    refine ⟨by simp, .inl ⟨_, _, rfl, run_takeDeferred hK, ?_⟩⟩
    refine ⟨r, by simp [results, Try.f19, go_sem, hc5], ?_⟩
    rw [← HOR.out]
    exact tk_out hT3 HRR.out

theorem taken_any {w : World} {b : Nat} {sv : Value} {L : List It} (h : Hb w b sv L) (hh : Heap L) (hl : L.length ≤ 1000000) (key N : Int) (hN : N ≤ 1000000) :
    Calls Try.prog 19 #[.pointer (some ⟨b, 0, none⟩), .int .i64 key, .int .i64 N] w (TakR w b sv (tk key N.toNat (srt L)).1 (tk key N.toNat (srt L)).2) := by
  by_cases h1 : 1 ≤ N
  · obtain ⟨k, rfl⟩ : ∃ k : Nat, N = k := ⟨N.toNat, by omega⟩
    exact taken_some h hh hl key k (by omega) (by omega)
  · have e : N.toNat = 0 := by omega
    rw [e]
    exact taken_none h hh key N (by omega)
end Go.Proofs.Ytabbgananngjlaa
