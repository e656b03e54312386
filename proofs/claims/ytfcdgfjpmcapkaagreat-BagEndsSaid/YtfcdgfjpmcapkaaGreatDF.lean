/- Rows of deeds in memory; walk of the law's size; both bags side by side. -/
import Derived.Test.YtfcdgfjpmcapkaaGreatDE
namespace Go.Proofs.YtfcdgfjpmcapkaaGreat
open Go.ChangeShapes Go.WideShapes Go.ChangeAt Go.RowKit Go.Maps Go.Shelf
set_option linter.unusedVariables false

structure Dd where
  what : Int
  key : ByteArray
  val : Int
  en : Int
  items : List Et

def Wd (d : Dd) : Prop := d.key.size ≤ 140737488355328 ∧ (Lit.int .i64 d.val).wf = true ∧ (Lit.int .i64 d.en).wf = true ∧ ∀ k, k < d.items.length → We (ge d.items k)

def tot (ds : List Dd) : Nat := (ds.map fun d => d.items.length).sum
theorem tot_take_succ {ds : List Dd} {k : Nat} (h : k < ds.length) : tot (ds.take (k + 1)) = tot (ds.take k) + ds[k].items.length := by
  unfold tot
  rw [List.take_succ_eq_append_getElem h]
  simp only [List.map_append, List.map_cons, List.map_nil, List.sum_append, List.sum_cons, List.sum_nil, Nat.add_zero]
theorem tot_take_le (ds : List Dd) (k : Nat) : tot (ds.take k) ≤ tot ds := by
  have h : tot (ds.take k ++ ds.drop k) = tot (ds.take k) + tot (ds.drop k) := by
    unfold tot
    simp only [List.map_append, List.sum_append]
  rw [List.take_append_drop] at h
  omega
/-- the law's size -/
def szf (n : Nat) : List Dd → Nat
  | [] => n
  | d :: ds => if n ≤ 400 then szf (n + d.items.length) ds else n
theorem szf_ge : ∀ (ds : List Dd) (n : Nat), n ≤ szf n ds
  | [], n => Nat.le_refl _
  | d :: ds, n => by
    unfold szf
    split
    · have := szf_ge ds (n + d.items.length); omega
    · exact Nat.le_refl _
theorem szf_tot : ∀ (ds : List Dd) (n : Nat), szf n ds ≤ 400 → szf n ds = n + tot ds
  | [], n, _ => by simp [szf, tot]
  | d :: ds, n, h => by
    unfold szf at h ⊢
    split
    · rename_i h1
      rw [if_pos h1] at h
      rw [szf_tot ds _ h]
      simp [tot]
      omega
    · rename_i h1
      rw [if_neg h1] at h
      omega
theorem szf_bd {M : Nat} : ∀ (ds : List Dd) (n : Nat), (∀ d ∈ ds, d.items.length ≤ M) → szf n ds ≤ max n (400 + M)
  | [], n, _ => by simp [szf]; omega
  | d :: ds, n, h => by
    unfold szf
    split
    · have h1 := szf_bd ds (n + d.items.length) fun x hx => h x (List.mem_cons_of_mem _ hx)
      have h2 := h d List.mem_cons_self
      omega
    · omega

/-- a row of deeds, all that it holds below B -/
def PRD (B : Nat) (w : World) (v : Value) (ds : List Dd) : Prop :=
  ∃ A c, v = .slice A ds.length c ∧ (0 < ds.length → ∃ ad, A = some ad ∧ ad.block < B ∧ ∀ k (h : k < ds.length), ∃ vi, w.cell? (ad.add (k * 5)) = some (.int .i64 ds[k].what) ∧ w.cell? ⟨(ad.add (k * 5)).block, (ad.add (k * 5)).off + 1, none⟩ = some (.string ds[k].key) ∧
    w.cell? ⟨(ad.add (k * 5)).block, (ad.add (k * 5)).off + 2, none⟩ = some (.int .i64 ds[k].val) ∧ w.cell? ⟨(ad.add (k * 5)).block, (ad.add (k * 5)).off + 3, none⟩ = some (.int .i64 ds[k].en) ∧ w.cell? ⟨(ad.add (k * 5)).block, (ad.add (k * 5)).off + 4, none⟩ = some vi ∧
    PE w vi ds[k].items ∧ (0 < ds[k].items.length → ∀ g, vi.ownBlock = some g → g < B))
theorem PRD.below {B : Nat} {w w' : World} {v : Value} {ds : List Dd} (h : PRD B w v ds) (hb : Below B w w') (hB : B ≤ w.heap.size) : PRD B w' v ds := by
  obtain ⟨A, c, rfl, h⟩ := h
  refine ⟨A, c, rfl, fun h0 => ?_⟩
  obtain ⟨ad, rfl, hl, hc⟩ := h h0
  refine ⟨ad, rfl, hl, fun k hk => ?_⟩
  obtain ⟨vi, c1, c2, c3, c4, c5, hp, ho⟩ := hc k hk
  have hcell : ∀ (a : Addr), a.block = ad.block → w'.cell? a = w.cell? a := fun a e => hb.cell (by rw [e]; exact hl)
  refine ⟨vi, (hcell _ (block_add _ _)).trans c1, (hcell ⟨_, _, none⟩ (block_add ad (k * 5))).trans c2, (hcell ⟨_, _, none⟩ (block_add ad (k * 5))).trans c3, (hcell ⟨_, _, none⟩ (block_add ad (k * 5))).trans c4, (hcell ⟨_, _, none⟩ (block_add ad (k * 5))).trans c5, ?_, ho⟩
  exact hp.keep (Keep.of_belowN hb) fun h1 g hg _ => ho h1 g hg
theorem PRD.at {B : Nat} {w : World} {A : Option Addr} {n c : Nat} {ds : List Dd} (h : PRD B w (.slice A n c) ds) {k : Nat} (hk : k < ds.length) :
    ∃ ad vi, A = some ad ∧ ad.block < B ∧ w.cell? (ad.add (k * 5)) = some (.int .i64 ds[k].what) ∧ w.cell? ⟨(ad.add (k * 5)).block, (ad.add (k * 5)).off + 1, none⟩ = some (.string ds[k].key) ∧
    w.cell? ⟨(ad.add (k * 5)).block, (ad.add (k * 5)).off + 2, none⟩ = some (.int .i64 ds[k].val) ∧ w.cell? ⟨(ad.add (k * 5)).block, (ad.add (k * 5)).off + 3, none⟩ = some (.int .i64 ds[k].en) ∧ w.cell? ⟨(ad.add (k * 5)).block, (ad.add (k * 5)).off + 4, none⟩ = some vi ∧
    PE w vi ds[k].items ∧ (0 < ds[k].items.length → ∀ g, vi.ownBlock = some g → g < B) := by
  obtain ⟨A', c', e, h⟩ := h
  injection e with e1
  subst e1
  obtain ⟨ad, h1, h2, h3⟩ := h (by omega)
  obtain ⟨vi, r⟩ := h3 k hk
  exact ⟨ad, vi, h1, h2, r⟩

set_option maxRecDepth 100000 in
theorem size_any {B : Nat} {w : World} {v : Value} {ds : List Dd} (h : PRD B w v ds) (hl : ds.length ≤ 281474976710656) (hi : ∀ d ∈ ds, d.items.length ≤ 281474976710656) :
    Calls Tryz.prog 7 #[v] w fun e w' => e = .returned (.int .i64 (szf ds.length ds)) ∧ w = w' := by
  have H := Lib.hid h
  obtain ⟨A, c, rfl, _⟩ := h
  obtain ⟨n, hn⟩ : ∃ n, ds.length = n := ⟨_, rfl⟩
  rw [hn] at H hl
  obtain ⟨sz, hsz⟩ : ∃ sz, szf ds.length ds = sz := ⟨_, rfl⟩
  rw [hsz]
  have HN := Lib.hid hn
  have HSZ := Lib.hid hsz
  have HI := Lib.hid hi
  rw [hn]
  clear hn hsz hi
  go_enter Tryz.func7, Tryz.ntmps7
  go_wp2_with fail
  go_loop [3, 4] (fun z i => ∃ q m : Nat, q ≤ n ∧ i = .int .i64 q ∧ z = .int .i64 m ∧ szf m (ds.drop q) = sz ∧ m ≤ 562949953421312) (fun _ i => n - (intOf i).toNat)
  case atStart => exact ⟨0, n, Nat.zero_le _, rfl, rfl, by rw [← HSZ.out, HN.out]; rfl, by omega⟩
  case round =>
    obtain ⟨q, m, hq, rfl, rfl, hs, hm⟩ := hrel
    by_cases hlt : q < n
    · have hqd : q < ds.length := by rw [HN.out]; exact hlt
      obtain ⟨ad, vi, e1, _, c1, c2, c3, c4, c5, hp, _⟩ := H.out.at (k := q) hqd
      subst e1
      obtain ⟨Ai, ci, rfl, _⟩ := hp
      have hil := HI.out ds[q] (List.getElem_mem hqd)
      rw [List.drop_eq_getElem_cons hqd] at hs
      unfold szf at hs
      obtain ⟨k, hk⟩ : ∃ k, ds[q].items.length = k := ⟨_, rfl⟩
      rw [hk] at c5 hil hs
      by_cases hm6 : m ≤ 400
      · rw [if_pos hm6] at hs
        have hm6' : (m : Int) ≤ 400 := by omega
        have HS := Lib.hid hs
        clear hs hk c1 c2 c3 c4
        go_wp2_with fail
        go_round
        case rel => exact ⟨q + 1, m + k, by omega, by go_num, by go_num, HS.out, by omega⟩
        case measure => simp [intOf] <;> omega
      · rw [if_neg hm6] at hs
        have hm6' : ¬ (m : Int) ≤ 400 := by omega
        have hd6 : decide ((m : Int) ≤ 400) = false := decide_eq_false hm6'
        have HS := Lib.hid hs
        clear hs hk c1 c2 c3 c4 c5
        go_wp2_with fail
        go_ret
        refine ⟨?_, rfl⟩
        rw [HS.out]
        rfl
    · obtain rfl : n = q := by omega
      rw [List.drop_of_length_le (by rw [HN.out]; exact Nat.le_refl _)] at hs
      have HS := Lib.hid hs
      clear hs
      go_wp2_with fail
      go_ret
      refine ⟨?_, rfl⟩
      have := HS.out
      unfold szf at this
      rw [this]
      rfl

theorem Bs.kept {lo : Nat} {W W' : World} {b : Nat} {O : Nat → Prop} {S : List Et} {n : Nat} (h : Bs lo W b O S n) {p : Nat → Prop} (hk : Keep p W W') (hp : ∀ k, O k → p k) : Bs lo W' b O S n := ⟨h.bag.keep hk hp, h.low, Nat.le_trans h.sz hk.size⟩
/-! ### both bags side by side, all their blocks at or behind the mark, apart from each other -/
structure DX (w : World) (b : Nat) (O : Nat → Prop) (n : Nat) (S : List Et) (rb : Nat) (v : Value) (T : List Et) (W : World) : Prop where
  be : Below w.heap.size w W
  bs : Bs w.heap.size W b O S n
  rr : RB w.heap.size W rb v T
  ap : ¬ O rb
  av : ∀ g, v.ownBlock = some g → ¬ O g
variable {w W W' : World} {b n rb : Nat} {O : Nat → Prop} {S T : List Et} {v : Value}
theorem DX.keep (h : DX w b O n S rb v T W) {p : Nat → Prop} (hk : Keep p W W') (h0 : ∀ k, k < w.heap.size → p k) (hO : ∀ k, O k → p k) (hr : p rb) (hv : ∀ g, v.ownBlock = some g → p g) : DX w b O n S rb v T W' :=
  ⟨h.be.trans (hk.below h.be.size fun k hk => h0 k hk), h.bs.kept hk hO, h.rr.keep hk hr hv, h.ap, h.av⟩
theorem DX.below (h : DX w b O n S rb v T W) (hb : Below W.heap.size W W') : DX w b O n S rb v T W' :=
  ⟨h.be.trans (hb.mono h.be.size), h.bs.below hb, h.rr.below hb, h.ap, h.av⟩
theorem DX.bturn (h : DX w b O n S rb v T W) {S' : List Et} {n' : Nat} (hb : Bag W' b (grw O W W') S' n') (hk : Keep (fun k => ¬ O k) W W') : DX w b (grw O W W') n' S' rb v T W' := by
  obtain ⟨h1, h2⟩ := h.bs.next hb hk
  refine ⟨h.be.trans h2, h1, h.rr.keep hk h.ap h.av, fun ho => ?_, fun g hg ho => ?_⟩
  · rcases ho with ho | ho
    · exact h.ap ho
    · have := h.rr.ltb; omega
  · rcases ho with ho | ho
    · exact h.av g hg ho
    · have := (h.rr.row.lt g hg).2; omega
theorem DX.rturn (h : DX w b O n S rb v T W) {T' : List Et} (ht : RTurn w.heap.size W rb v T' W') : ∃ v', DX w b O n S rb v' T' W' ∧ Keep (RK rb v) W W' ∧ ∀ g, v'.ownBlock = some g → v.ownBlock = some g ∨ W.heap.size ≤ g := by
  obtain ⟨v', h1, h2, h3⟩ := ht
  refine ⟨v', ⟨h.be.trans (h2.below h.be.size fun k hk => ⟨fun e => ?_, fun e => ?_⟩), h.bs.kept h2 fun k ho => ⟨fun e => h.ap (e ▸ ho), fun e => h.av k e ho⟩, h1, h.ap, fun g hg ho => ?_⟩, h2, h3⟩
  · have := h.rr.low; omega
  · have := (h.rr.row.lt k e).1; omega
  · rcases h3 g hg with h4 | h4
    · exact h.av g h4 ho
    · have := h.bs.bag.lt ho; omega
theorem fir_is {S : List Et} {w w' : World} {e : Ending} (h : FirR S w e w') : e = .returned (.tuple #[.int .i64 (minV S), .bool (decide (0 < S.length))]) ∧ Below w.heap.size w w' := by
  obtain ⟨m, c, rfl, hb, (⟨rfl, rfl, rfl⟩ | ⟨rfl, hm, hp⟩)⟩ := h
  · exact ⟨by simp [minV], hb⟩
  · exact ⟨by rw [minV_of hm, decide_eq_true hp], hb⟩

/-- a deed's own block, apart from both bags -/
structure DXX (w : World) (X : Nat) (D : Dd) (vi : Value) (b : Nat) (O : Nat → Prop) (n : Nat) (S : List Et) (rb : Nat) (v : Value) (T : List Et) (W : World) : Prop where
  d : DX w b O n S rb v T W
  hx : W.heap[X]? = some (.cells #[.int .i64 D.what, .string D.key, .int .i64 D.val, .int .i64 D.en, vi] 33 (0, 0))
  ox : ¬ O X
  xr : X ≠ rb
  xv : v.ownBlock ≠ some X
variable {X : Nat} {D : Dd} {vi : Value}
theorem DXX.cells (h : DXX w X D vi b O n S rb v T W) : W.cell? ⟨X, 0, none⟩ = some (.int .i64 D.what) ∧ W.cell? ⟨X, 1, none⟩ = some (.string D.key) ∧ W.cell? ⟨X, 2, none⟩ = some (.int .i64 D.val) ∧ W.cell? ⟨X, 3, none⟩ = some (.int .i64 D.en) ∧ W.cell? ⟨X, 4, none⟩ = some vi :=
  ⟨cell_of_row _ _ 0 _ 33 (0, 0) h.hx, cell_of_row _ _ 1 _ 33 (0, 0) h.hx, cell_of_row _ _ 2 _ 33 (0, 0) h.hx, cell_of_row _ _ 3 _ 33 (0, 0) h.hx, cell_of_row _ _ 4 _ 33 (0, 0) h.hx⟩
theorem DXX.lx (h : DXX w X D vi b O n S rb v T W) : X < W.heap.size := (Array.getElem?_eq_some_iff.1 h.hx).1
theorem DXX.below (h : DXX w X D vi b O n S rb v T W) (hb : Below W.heap.size W W') : DXX w X D vi b O n S rb v T W' := ⟨h.d.below hb, (hb.block X h.lx).trans h.hx, h.ox, h.xr, h.xv⟩
theorem DXX.keep (h : DXX w X D vi b O n S rb v T W) {p : Nat → Prop} (hk : Keep p W W') (h0 : ∀ k, k < w.heap.size → p k) (hO : ∀ k, O k → p k) (hr : p rb) (hv : ∀ g, v.ownBlock = some g → p g) (hX : p X) : DXX w X D vi b O n S rb v T W' :=
  ⟨h.d.keep hk h0 hO hr hv, (hk.block X h.lx hX).trans h.hx, h.ox, h.xr, h.xv⟩
theorem DXX.bturn (h : DXX w X D vi b O n S rb v T W) {S' : List Et} {n' : Nat} (hb : Bag W' b (grw O W W') S' n') (hk : Keep (fun k => ¬ O k) W W') : DXX w X D vi b (grw O W W') n' S' rb v T W' :=
  ⟨h.d.bturn hb hk, (hk.block X h.lx h.ox).trans h.hx, fun ho => by
    rcases ho with ho | ho
    · exact h.ox ho
    · have := h.lx; omega, h.xr, h.xv⟩
theorem DXX.rturn (h : DXX w X D vi b O n S rb v T W) {T' : List Et} (ht : RTurn w.heap.size W rb v T' W') : ∃ v', DXX w X D vi b O n S rb v' T' W' := by
  obtain ⟨v', h1, h2, h3⟩ := h.d.rturn ht
  refine ⟨v', h1, (h2.block X h.lx ⟨h.xr, h.xv⟩).trans h.hx, h.ox, h.xr, fun e => ?_⟩
  rcases h3 X e with h4 | h4
  · exact h.xv h4
  · have := h.lx; omega
theorem RB.new {lo : Nat} {w : World} (hl : lo ≤ w.heap.size) : RB lo (w.alloc (.cells #[.slice none 0 0] 30)) w.heap.size (.slice none 0 0) [] :=
  ⟨heap_alloc_new _ _, World.ownsRow_nil _ _ _ _, by simp [Value.ownBlock], hl⟩
end Go.Proofs.YtfcdgfjpmcapkaaGreat
