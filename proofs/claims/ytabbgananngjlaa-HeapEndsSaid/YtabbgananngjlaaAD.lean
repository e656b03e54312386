/- Rows of deeds in memory; walk of the law's size. -/
import Derived.Test.YtabbgananngjlaaAC
namespace Go.Proofs.Ytabbgananngjlaa
open Go.ChangeShapes Go.WideShapes Go.ChangeAt Go.RowKit
set_option linter.unusedVariables false

structure Dd where
  what : Int
  key : Int
  many : Int
  items : List It

def tot (ds : List Dd) : Nat := (ds.map fun d => d.items.length).sum
theorem tot_take_succ {ds : List Dd} {k : Nat} (h : k < ds.length) : tot (ds.take (k + 1)) = tot (ds.take k) + ds[k].items.length := by
  unfold tot
  rw [List.take_succ_eq_append_getElem h]
  simp only [List.map_append, List.map_cons, List.map_nil, List.sum_append, List.sum_cons, List.sum_nil, Nat.add_zero]
theorem tot_take_le (ds : List Dd) (k : Nat) : tot (ds.take k) ≤ tot ds := by
  have h : tot (ds.take k ++ ds.drop k) = tot (ds.take k) + tot (ds.drop k) := by
    unfold tot
    simp only [List.map_append, List.sum_append]
  rw [List.take_append_drop] at h
  omega
/-- the law's size -/
def szf (n : Nat) : List Dd → Nat
  | [] => n
  | d :: ds => if n ≤ 600 then szf (n + d.items.length) ds else n
theorem szf_ge : ∀ (ds : List Dd) (n : Nat), n ≤ szf n ds
  | [], n => Nat.le_refl _
  | d :: ds, n => by
    unfold szf
    split
    · have := szf_ge ds (n + d.items.length); omega
    · exact Nat.le_refl _
theorem szf_tot : ∀ (ds : List Dd) (n : Nat), szf n ds ≤ 600 → szf n ds = n + tot ds
  | [], n, _ => by simp [szf, tot]
  | d :: ds, n, h => by
    unfold szf at h ⊢
    split
    · rename_i h1
      rw [if_pos h1] at h
      rw [szf_tot ds _ h]
      simp [tot]
      omega
    · rename_i h1
      rw [if_neg h1] at h
      omega

/-- a row of deeds, all that it holds below B -/
def PRD (B : Nat) (w : World) (v : Value) (ds : List Dd) : Prop :=
  ∃ A c, v = .slice A ds.length c ∧ (0 < ds.length → ∃ ad, A = some ad ∧ ad.block < B ∧ ∀ k (h : k < ds.length), ∃ vi, w.cell? (ad.add (k * 4)) = some (.int .i64 ds[k].what) ∧ w.cell? ⟨(ad.add (k * 4)).block, (ad.add (k * 4)).off + 1, none⟩ = some (.int .i64 ds[k].key) ∧
    w.cell? ⟨(ad.add (k * 4)).block, (ad.add (k * 4)).off + 2, none⟩ = some (.int .i64 ds[k].many) ∧ w.cell? ⟨(ad.add (k * 4)).block, (ad.add (k * 4)).off + 3, none⟩ = some vi ∧ PR w vi ds[k].items ∧ (0 < ds[k].items.length → ∀ g, vi.ownBlock = some g → g < B))
theorem PRD.below {B : Nat} {w w' : World} {v : Value} {ds : List Dd} (h : PRD B w v ds) (hb : Below B w w') (hB : B ≤ w.heap.size) : PRD B w' v ds := by
  obtain ⟨A, c, rfl, h⟩ := h
  refine ⟨A, c, rfl, fun h0 => ?_⟩
  obtain ⟨ad, rfl, hl, hc⟩ := h h0
  refine ⟨ad, rfl, hl, fun k hk => ?_⟩
  obtain ⟨vi, c1, c2, c3, c4, hp, ho⟩ := hc k hk
  have hcell : ∀ (a : Addr), a.block = ad.block → w'.cell? a = w.cell? a := fun a e => hb.cell (by rw [e]; exact hl)
  refine ⟨vi, (hcell _ (block_add _ _)).trans c1, (hcell ⟨_, _, none⟩ (block_add ad (k * 4))).trans c2, (hcell ⟨_, _, none⟩ (block_add ad (k * 4))).trans c3, (hcell ⟨_, _, none⟩ (block_add ad (k * 4))).trans c4, ?_, ho⟩
  exact hp.keep (Keep.of_belowN hb) fun h1 g hg _ => ho h1 g hg
theorem PRD.at {B : Nat} {w : World} {A : Option Addr} {n c : Nat} {ds : List Dd} (h : PRD B w (.slice A n c) ds) {k : Nat} (hk : k < ds.length) :
    ∃ ad vi, A = some ad ∧ ad.block < B ∧ w.cell? (ad.add (k * 4)) = some (.int .i64 ds[k].what) ∧ w.cell? ⟨(ad.add (k * 4)).block, (ad.add (k * 4)).off + 1, none⟩ = some (.int .i64 ds[k].key) ∧
    w.cell? ⟨(ad.add (k * 4)).block, (ad.add (k * 4)).off + 2, none⟩ = some (.int .i64 ds[k].many) ∧ w.cell? ⟨(ad.add (k * 4)).block, (ad.add (k * 4)).off + 3, none⟩ = some vi ∧ PR w vi ds[k].items ∧ (0 < ds[k].items.length → ∀ g, vi.ownBlock = some g → g < B) := by
  obtain ⟨A', c', e, h⟩ := h
  injection e with e1
  subst e1
  obtain ⟨ad, h1, h2, h3⟩ := h (by omega)
  obtain ⟨vi, r⟩ := h3 k hk
  exact ⟨ad, vi, h1, h2, r⟩

set_option maxRecDepth 100000 in
theorem size_any {B : Nat} {w : World} {v : Value} {ds : List Dd} (h : PRD B w v ds) (hl : ds.length ≤ 281474976710656) (hi : ∀ d ∈ ds, d.items.length ≤ 281474976710656) :
    Calls Try.prog 7 #[v] w fun e w' => e = .returned (.int .i64 (szf ds.length ds)) ∧ w = w' := by
  have H := Lib.hid h
  obtain ⟨A, c, rfl, _⟩ := h
  obtain ⟨n, hn⟩ : ∃ n, ds.length = n := ⟨_, rfl⟩
  rw [hn] at H hl
  obtain ⟨sz, hsz⟩ : ∃ sz, szf ds.length ds = sz := ⟨_, rfl⟩
  rw [hsz]
  have HN := Lib.hid hn
  have HSZ := Lib.hid hsz
  have HI := Lib.hid hi
  rw [hn]
  clear hn hsz hi
  go_enter Try.func7, Try.ntmps7
  go_wp2_with fail
  go_loop [3, 4] (fun z i => ∃ q m : Nat, q ≤ n ∧ i = .int .i64 q ∧ z = .int .i64 m ∧ szf m (ds.drop q) = sz ∧ m ≤ 562949953421312) (fun _ i => n - (intOf i).toNat)
  case atStart => exact ⟨0, n, Nat.zero_le _, rfl, rfl, by rw [← HSZ.out, HN.out]; rfl, by omega⟩
  case round =>
    obtain ⟨q, m, hq, rfl, rfl, hs, hm⟩ := hrel
    by_cases hlt : q < n
    · have hqd : q < ds.length := by rw [HN.out]; exact hlt
      obtain ⟨ad, vi, e1, _, c1, c2, c3, c4, hp, _⟩ := H.out.at (k := q) hqd
      subst e1
      obtain ⟨Ai, ci, rfl, _⟩ := hp
      have hil := HI.out ds[q] (List.getElem_mem hqd)
      rw [List.drop_eq_getElem_cons hqd] at hs
      unfold szf at hs
      obtain ⟨k, hk⟩ : ∃ k, ds[q].items.length = k := ⟨_, rfl⟩
      rw [hk] at c4 hil hs
      by_cases hm6 : m ≤ 600
      · rw [if_pos hm6] at hs
        have hm6' : (m : Int) ≤ 600 := by omega
        have HS := Lib.hid hs
        clear hs hk c1 c2 c3
        go_wp2_with fail
        go_round
        case rel => exact ⟨q + 1, m + k, by omega, by go_num, by go_num, HS.out, by omega⟩
        case measure => simp [intOf] <;> omega
      · rw [if_neg hm6] at hs
        have hm6' : ¬ (m : Int) ≤ 600 := by omega
        have hd6 : decide ((m : Int) ≤ 600) = false := decide_eq_false hm6'
        have HS := Lib.hid hs
        clear hs hk c1 c2 c3 c4
        go_wp2_with fail
        go_ret
        refine ⟨?_, rfl⟩
        rw [HS.out]
        rfl
    · obtain rfl : n = q := by omega
      rw [List.drop_of_length_le (by rw [HN.out]; exact Nat.le_refl _)] at hs
      have HS := Lib.hid hs
      clear hs
      go_wp2_with fail
      go_ret
      refine ⟨?_, rfl⟩
      have := HS.out
      unfold szf at this
      rw [this]
      rfl

theorem PR.ltb {w : World} {v : Value} {l : List It} (h : PR w v l) (h0 : 0 < l.length) (g : Nat) (hg : v.ownBlock = some g) : g < w.heap.size := by
  obtain ⟨A, c, rfl, h⟩ := h
  obtain ⟨ad, rfl, hb, _⟩ := h h0
  cases hg
  exact hb
end Go.Proofs.Ytabbgananngjlaa
