/- Walk of Items; what lies where while a heap and the reference's one are driven side by side. -/
import Derived.Test.YtabbgananngjlaaX
import Derived.Test.YtabbgananngjlaaR
import Derived.Test.YtabbgananngjlaaAE
namespace Go.Proofs.Ytabbgananngjlaa
open Go.ChangeShapes Go.WideShapes Go.ChangeAt Go.RowKit
set_option linter.unusedVariables false

theorem items_any {w : World} {b : Nat} {sv : Value} {L : List It} (h : Hb w b sv L) (hl : L.length ≤ 1000000) : Calls Try.prog 24 #[.pointer (some ⟨b, 0, none⟩)] w (ItemsR L w) := by
  have H := Lib.hid h
  obtain ⟨c0, c1, c2⟩ := h.cells
  obtain ⟨A, c, rfl, _⟩ := row_form h.row
  clear h
  go_enter Try.func24, Try.ntmps24
  go_wp2_with fail
  refine (made_any H.out).mono ?_
  rintro e w' ⟨rfl, rfl⟩
  go_wp2_with fail
  refine (clone_any H.out.pr hl).mono ?_
  rintro e w1 ⟨v1, rfl, hrow, hb1⟩
  obtain ⟨A1, cc1, rfl, _⟩ := row_form hrow
  have hso := sort_own (n := 0) (c := 0) hrow hl
  have HROW := Lib.hid hrow
  have HB1 := Lib.hid hb1
  clear hrow hb1
  go_wp2_with fail
  refine hso.mono ?_
  rintro e w2 ⟨rfl, hrow2, hk2⟩
  have HR2 := Lib.hid hrow2
  have HK2 := Lib.hid hk2
  clear hso hrow2 hk2
  go_wp2_with fail
  go_ret
  exact ⟨.slice A1 L.length cc1, rfl, HR2.out, HB1.out.trans (HK2.out.below HB1.out.size fun k hk e => by have := (HROW.out.lt k e).1; omega)⟩

/-- a heap and the reference's one, all their blocks at or behind the mark, apart from each other -/
structure DI (w : World) (n b : Nat) (sv : Value) (M : List It) (rb : Nat) (A : Option Addr) (c : Nat) (S : List It) (W : World) : Prop where
  be : Below w.heap.size w W
  hs : HS w.heap.size W b sv M
  ml : M.length ≤ n
  rbk : RB W rb A c S
  rlo : w.heap.size ≤ rb
  alo : ∀ ad, A = some ad → w.heap.size ≤ ad.block
  off : Off b sv rb
  offA : ∀ ad, A = some ad → Off b sv ad.block

theorem DI.keep {w W W' : World} {n b rb c : Nat} {sv : Value} {M S : List It} {A : Option Addr} (h : DI w n b sv M rb A c S W) {p : Nat → Prop} (hk : Keep p W W') (h0 : ∀ k, k < w.heap.size → p k) (h1 : p b) (h2 : ∀ g, sv.ownBlock = some g → p g) (h3 : p rb) (h4 : ∀ ad, A = some ad → p ad.block) : DI w n b sv M rb A c S W' :=
  ⟨h.be.trans (hk.below h.be.size h0), ⟨h.hs.hb.keep hk fun k _ hkk => by
    rcases hkk with rfl | hs
    · exact h1
    · exact h2 k hs, h.hs.hh, h.hs.lo, h.hs.ro, Nat.le_trans h.hs.sz hk.size⟩, h.ml, h.rbk.keep hk h3 h4, h.rlo, h.alo, h.off, h.offA⟩
theorem DI.below {w W W' : World} {n b rb c : Nat} {sv : Value} {M S : List It} {A : Option Addr} (h : DI w n b sv M rb A c S W) (hb : Below W.heap.size W W') : DI w n b sv M rb A c S W' :=
  h.keep (p := fun _ => True) (Keep.of_below hb) (fun _ _ => trivial) trivial (fun _ _ => trivial) trivial (fun _ _ => trivial)
/-- a row that is written over -/
theorem DI.over {w W W' : World} {n b rb c : Nat} {sv v : Value} {M S : List It} {A : Option Addr} (h : DI w n b sv M rb A c S W) (hk : Keep (fun k => v.ownBlock ≠ some k) W W') (hg : ∀ g, v.ownBlock = some g → w.heap.size ≤ g ∧ Off b sv g ∧ g ≠ rb ∧ ∀ ad, A = some ad → ad.block ≠ g) : DI w n b sv M rb A c S W' := by
  refine h.keep hk (fun k hk e => ?_) (fun e => ?_) (fun g hg' e => ?_) (fun e => ?_) (fun ad e e' => ?_)
  · have := (hg k e).1; omega
  · exact (hg b e).2.1.1 rfl
  · exact (hg g e).2.1.2 hg'
  · exact (hg rb e).2.2.1 rfl
  · exact (hg _ e').2.2.2 ad e rfl
/-- the heap was turned -/
theorem DI.hturn {w W W' : World} {n n' b rb c : Nat} {sv : Value} {M S L2 : List It} {A : Option Addr} (h : DI w n b sv M rb A c S W) (ht : Turn W b sv L2 W') (hl : L2.length ≤ n') :
    ∃ sv' M', DI w n' b sv' M' rb A c S W' ∧ M'.Perm L2 ∧ ∀ k, k < W.heap.size → Off b sv k → Off b sv' k := by
  obtain ⟨sv1, M1, h1, h2, h3, h4, h5⟩ := ht
  refine ⟨sv1, M1, ⟨h.be.trans (h.hs.keepB h5), ⟨h1, h3, h.hs.lo, fun g hg => ?_, Nat.le_trans h.hs.sz h5.size⟩, by rw [h2.length_eq]; exact hl, h.rbk.keep h5 h.off h.offA, h.rlo, h.alo, h4.off h.rbk.ltb h.off, fun ad e => h4.off (h.rbk.lt ad e).1 (h.offA ad e)⟩, h2, fun k hk ho => h4.off hk ho⟩
  rcases h4 g hg with k | k
  · exact h.hs.ro g k
  · exact Nat.le_trans h.hs.sz k
/-- the reference's heap was turned -/
theorem DI.rturn {w W W' : World} {n b rb c : Nat} {sv : Value} {M S S2 : List It} {A : Option Addr} (h : DI w n b sv M rb A c S W) (ht : RTurn W rb A S2 W') :
    ∃ A' c', DI w n b sv M rb A' c' S2 W' ∧ ∀ g, g < W.heap.size → (∀ ad, A = some ad → ad.block ≠ g) → ∀ ad, A' = some ad → ad.block ≠ g := by
  obtain ⟨A', c', h1, h2, h3⟩ := ht
  have hb : Below w.heap.size W W' := h2.below h.be.size fun k hk e => by have := h.rlo; omega
  refine ⟨A', c', ⟨h.be.trans hb, ⟨h.hs.hb.keep h2 fun k _ hk => ?_, h.hs.hh, h.hs.lo, h.hs.ro, Nat.le_trans h.hs.sz h2.size⟩, h.ml, h1, h.rlo, fun ad e => ?_, h.off, fun ad e => ?_⟩, fun g hg hx ad e e' => ?_⟩
  · rcases hk with rfl | hs
    · exact fun e => h.off.1 e.symm
    · rintro rfl; exact h.off.2 hs
  · rcases h3 ad e with ⟨ad0, e0, e1⟩ | h4
    · rw [e1]; exact h.alo ad0 e0
    · exact Nat.le_trans h.be.size h4
  · rcases h3 ad e with ⟨ad0, e0, e1⟩ | h4
    · rw [e1]; exact h.offA ad0 e0
    · exact h.hs.hb.off h4
  · rcases h3 ad e with ⟨ad0, e0, e1⟩ | h4
    · rw [e1] at e'; exact hx ad0 e0 e'
    · omega
theorem szf_bd {M : Nat} : ∀ (ds : List Dd) (n : Nat), (∀ d ∈ ds, d.items.length ≤ M) → szf n ds ≤ max n (600 + M)
  | [], n, _ => by simp [szf]; omega
  | d :: ds, n, h => by
    unfold szf
    split
    · have h1 := szf_bd ds (n + d.items.length) fun x hx => h x (List.mem_cons_of_mem _ hx)
      have h2 := h d List.mem_cons_self
      omega
    · omega
end Go.Proofs.Ytabbgananngjlaa
