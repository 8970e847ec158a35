/-
  The walk of the program's cut: a free block out of the front of one; the halves behind it stay free.
-/
import Derived.Test.YtcokchfedaoccabBuddyNext
namespace Go.Proofs.Ytcokchfedaoccab.bpool
open Go.RowKit Go.Deep Go.Maps Go.Sort
open Go.Proofs.Ytcokchfedaoccab
open Go.Proofs.Ytcokchfedaoccab.brows
open Go.Proofs.Ytcokchfedaoccab.bspec
open Go.Proofs.Ytcokchfedaoccab.bimpl
open Go.Proofs.Ytcokchfedaoccab.bd (Blk)
set_option linter.unusedVariables false

theorem taken_start {n : Nat} {l : List Blk} (h : bd.Right n l) {x : Blk} (hx : x ∈ l) : ∃ l', bd.Taken n l x l' ∧ ∀ y, y ∈ l.filter (· ≠ x) ↔ y ∈ l' := by
  obtain ⟨i, hi, rfl⟩ := List.getElem_of_mem hx
  refine ⟨bd.outL l i, bd.cut_start h hi, fun y => ?_⟩
  rw [bd.mem_out hi h.up, List.mem_filter]
  simp
theorem taken_step {n : Nat} {l lj : List Blk} {a j : Nat} (h : bd.Taken n l (a, j + 1) lj) : bd.Taken n l (a, j) (bd.putL lj (a + 2 ^ j, j)) := by
  obtain ⟨h1, h2, h3⟩ := h
  obtain ⟨g1, g2, g3⟩ := bd.cut_step h1
  refine ⟨g1, fun p => (g2 p).trans (h2 p), ?_⟩
  simp only at h3 ⊢
  omega
theorem taken_fel {n : Nat} {l lj : List Blk} {a j : Nat} (h : bd.Taken n l (a, j + 1) lj) : a ^^^ 2 ^ j = a + 2 ^ j ∧ a + 2 ^ j < 64 := by
  have hin := h.1.inn
  have hn := h.1.right.ord
  have h32 := bd.pow_le32 hn
  have ho := hin.ord
  have hlt := hin.lt
  have hal := hin.al
  simp only at ho hlt hal
  have := bd.fel_half a (by omega) j (by omega) hal
  have hp : 2 ^ j ≤ 32 := bd.pow_le32 (by omega)
  refine ⟨?_, by omega⟩
  have e : (a + 2 ^ j) ^^^ 2 ^ j ^^^ 2 ^ j = a ^^^ 2 ^ j := by rw [this.2]
  rw [Nat.xor_assoc, Nat.xor_self, Nat.xor_zero] at e
  exact e.symm

/-- the pool in a box -/
def PBox (w : World) (B : Nat) (n : Int) (b : Nat) : Prop := w.heap[B]? = some (.cells #[.int .i64 n, .map (some b)] 60 (0, 0))
theorem PBox.cells {w : World} {B : Nat} {n : Int} {b : Nat} (h : PBox w B n b) : w.cell? ⟨B, 0, none⟩ = some (.int .i64 n) ∧ w.cell? ⟨B, 1, none⟩ = some (.map (some b)) := by
  unfold PBox at h
  constructor
  · simp [World.cell?, h]
  · simp [World.cell?, h]
theorem PBox.lt {w : World} {B : Nat} {n : Int} {b : Nat} (h : PBox w B n b) : B < w.heap.size := (Array.getElem?_eq_some_iff.1 h).1
theorem PBox.grown {w w' : World} {B : Nat} {n : Int} {b : Nat} {row : Option Nat} (h : PBox w B n b) (hg : w.grownBy w' row) (hne : some B ≠ row) : PBox w' B n b := (hg.block B h.lt hne).trans h
theorem PBox.far {w : World} {B Y i : Nat} {n : Int} {b : Nat} {u : Value} (h : PBox w B n b) (hne : B ≠ Y) : PBox (w.setCell ⟨Y, i, none⟩ u) B n b := (Below.heap_setCell w _ u B hne).trans h
theorem pbox_new (w : World) (n : Int) (b : Nat) (a q : Int) : PBox ((w.alloc (.cells #[.int .i64 n, .map (some b)] 60)).alloc (.cells #[.int .i64 a, .int .i64 q] 68)) w.heap.size n b ∧ Blx ((w.alloc (.cells #[.int .i64 n, .map (some b)] 60)).alloc (.cells #[.int .i64 a, .int .i64 q] 68)) (w.heap.size + 1) a q := by
  have h1 : (w.alloc (.cells #[.int .i64 n, .map (some b)] 60)).heap.size = w.heap.size + 1 := by simp
  have e1 := (MapKept.heap_alloc w (.cells #[.int .i64 n, .map (some b)] 60)).1
  have e2 := (MapKept.heap_alloc (w.alloc (.cells #[.int .i64 n, .map (some b)] 60)) (.cells #[.int .i64 a, .int .i64 q] 68)).1
  rw [h1] at e2
  exact ⟨((World.grownBy_alloc _ _ none).block _ (by omega) (by simp)).trans e1, e2⟩

/-- what cut leaves -/
def CutPost (n b N a o : Nat) (l : List Blk) (w : World) (e : Ending) (w' : World) : Prop :=
  ∃ l', e = .returned (.tuple #[]) ∧ bd.Taken n l (a, o) l' ∧ Pool w' b (N + 6) l' ∧ w.grownBy w' (some b)
/-- round for round -/
def CutInv (n b N a o q : Nat) (l : List Blk) (B X : Nat) (w wr : World) : Prop :=
  ∃ (j : Nat) (lj : List Blk), o ≤ j ∧ j ≤ q ∧ bd.Taken n l (a, j) lj ∧ Pool wr b (N + (q - j)) lj ∧ Blx wr X a j ∧ PBox wr B n b ∧ w.grownBy wr (some b)

set_option maxRecDepth 100000 in
set_option maxHeartbeats 4000000 in
theorem impl_cut (n b N : Nat) (l : List Blk) (hr : bd.Right n l) (a q o : Nat) (hx : (a, q) ∈ l) (hoq : o ≤ q) (hN : N ≤ 100) (w : World) (hp : Pool w b N l) :
    Calls Try.prog 40 #[.agg #[.int .i64 n, .map (some b)], .agg #[.int .i64 a, .int .i64 q], .int .i64 o] w (CutPost n b N a o l w) := by
  have hb := hp.lt
  have hin := hr.inn _ hx
  have hn5 := hr.ord
  have hn32 := bd.pow_le32 hn5
  have hq5 : q ≤ 5 := by have := hin.ord; simp only at this; omega
  have ha : a < 32 := by have := hin.lt; simp only at this; omega
  obtain ⟨l0, ht0, hm0⟩ := taken_start hr hx
  have HT0 : Hid (bd.Taken n l (a, q) l0) := ht0
  have HP : Hid (Pool w b N l) := hp
  have HM0 : Hid (∀ y, y ∈ l.filter (· ≠ (a, q)) ↔ y ∈ l0) := hm0
  have HDEL : Hid (∀ W, Pool W b N l → ∀ ty, ∃ w', (Builtin.delete_ #[58, 68] ty #[.map (some b), .agg #[.int .i64 a, .int .i64 q]]).run Try.prog W = .ok (.tuple #[]) w' ∧ Pool w' b N (l.filter (· ≠ (a, q))) ∧ W.grownBy w' (some b)) := fun W hW ty => hW.drop (y := (a, q)) (wf_emb (by omega) (by omega)) ty
  clear hp ht0 hm0 hin hx hr
  have hPV : Pool ((w.alloc (.cells #[.int .i64 n, .map (some b)] 60)).alloc (.cells #[.int .i64 a, .int .i64 q] 68)) b N l := (HP.out.kept (World.grownBy_alloc _ _ none) (by simp)).kept (World.grownBy_alloc _ _ none) (by simp)
  obtain ⟨w1, hr1, hp1, hg1⟩ := HDEL.out _ hPV 0
  obtain ⟨hpb, hxb⟩ := pbox_new w n b a q
  have HP1 : Hid (Pool w1 b N l0) := hp1.congr HM0.out
  have HPB1 : Hid (PBox w1 w.heap.size n b) := PBox.grown hpb hg1 (by simp; omega)
  have HXB1 : Hid (Blx w1 (w.heap.size + 1) a q) := (hg1.block _ (by simp) (by simp; omega)).trans hxb
  have HG1 : Hid (w.grownBy w1 (some b)) := grown_trans (grown_trans (World.grownBy_alloc _ _ _) (World.grownBy_alloc _ _ _)) hg1
  clear hp1 hg1 hpb hxb hPV HDEL HM0
  go_enter Try.func40, Try.ntmps40
  go_wp2_with fail
  go_loopw [] (fun wr => CutInv n b N a o q l w.heap.size (w.heap.size + 1) w wr) (fun wr => lenAt wr (w.heap.size + 1))
  case atStart => exact ⟨q, l0, hoq, Nat.le_refl _, HT0.out, HP1.out.mono (by omega), HXB1.out, HPB1.out, HG1.out⟩
  case round =>
    obtain ⟨j, lj, hoj, hjq, htj, hpj, hxj, hbj, hgj⟩ := hrel
    have HTJ : Hid (bd.Taken n l (a, j) lj) := htj
    have HPJ : Hid (Pool wr b (N + (q - j)) lj) := hpj
    have HXJ : Hid (Blx wr (w.heap.size + 1) a j) := hxj
    have HBJ : Hid (PBox wr w.heap.size n b) := hbj
    have HGJ : Hid (w.grownBy wr (some b)) := hgj
    have HLJ : Hid (lenAt wr (w.heap.size + 1) = j) := lenAt_of hxj
    obtain ⟨x0, x1, g0, g1⟩ := hxj.cells
    obtain ⟨b0, b1⟩ := hbj.cells
    have hws := hxj.lt
    clear htj hpj hxj hbj hgj
    by_cases hlt : o < j
    · obtain ⟨k, rfl⟩ : ∃ k, j = k + 1 := ⟨j - 1, by omega⟩
      obtain ⟨hfe, hf64⟩ := taken_fel HTJ.out
      have HFE : Hid (∀ W, _) := fun W => impl_fellow a k (by omega) (by omega) W
      rw [hfe] at HFE
      have HADD : Hid (∀ W, Pool W b (N + (q - (k + 1))) lj → _) := fun W hW => impl_add (n : Int) b (N + (q - (k + 1))) lj (a + 2 ^ k, k) hf64 (by show k ≤ 5; omega) W hW (by omega)
      simp only at HADD
      have HT2 : Hid (bd.Taken n l (a, k) (bd.putL lj (a + 2 ^ k, k))) := taken_step HTJ.out
      generalize a + 2 ^ k = f at *
      clear hfe
      go_wp2_with fail
      obtain ⟨W, hW⟩ : ∃ W, W = wr.setCell ⟨w.heap.size + 1, 1, none⟩ (.int .i64 k) := ⟨_, rfl⟩
      have HXW : Hid (Blx W (w.heap.size + 1) a k) := by rw [hW]; exact blx_set1 HXJ.out
      have HBW : Hid (PBox W w.heap.size n b) := by rw [hW]; exact PBox.far HBJ.out (by omega)
      have HPW : Hid (Pool W b (N + (q - (k + 1))) lj) := by rw [hW]; exact HPJ.out.block (Below.heap_setCell _ _ _ _ (by show b ≠ w.heap.size + 1; omega))
      have HGW : Hid (w.grownBy W (some b)) := by rw [hW]; exact grown_new HGJ.out (by omega)
      have hW2 : w.heap.size + 1 < W.heap.size := HXW.out.lt
      have hbW : b < W.heap.size := by omega
      obtain ⟨X0, X1⟩ := HBW.out.cells
      obtain ⟨Q0, Q1, _, _⟩ := HXW.out.cells
      rw [← hW]
      clear hW x0 x1 g0 g1 b0 b1 HXJ HBJ HPJ HGJ hr1 HTJ
      go_region_held3 (fun W => W.cell? ⟨w.heap.size, 0, none⟩ = some (.int .i64 n) ∧ W.cell? ⟨w.heap.size, 1, none⟩ = some (.map (some b)) ∧ W.cell? ⟨w.heap.size + 1, 0, none⟩ = some (.int .i64 a) ∧ W.cell? ⟨w.heap.size + 1, 1, none⟩ = some (.int .i64 k))
        (first | assumption | exact ⟨X0, X1, Q0, Q1⟩ | exact Z | exact Y)
        (first | (go_at_call 56; refine Calls.mono (HFE.out _) ?_; rintro e v1 ⟨rfl, hb1⟩; have hb2 : Below W.heap.size W v1 := Below.trans (Below.drew (Below.refl W.heap.size W)) hb1; have Z := four_cells hb2 hW2 X0 X1 Q0 Q1; have HB1 : Hid (Below W.heap.size W v1) := hb2; have HPV1 : Hid (Pool v1 b (N + (q - (k + 1))) lj) := HPW.out.below hb2 hbW; clear hb1 hb2) | (go_at_call 60; refine Calls.mono (HADD.out _ HPV1.out) ?_; rintro e v2 ⟨rfl, hp2, hg2⟩; have Y := four_grown hg2 (by omega) (by omega) Z; have HP2 : Hid _ := hp2; have HG2 : Hid _ := hg2; clear hp2 hg2))
      have HGE : Hid (W.grownBy v2 (some b)) := grown_trans (grown_below HB1.out _) HG2.out
      have HX2 : Hid (Blx v2 (w.heap.size + 1) a k) := Blx.grown HXW.out HGE.out (by simp; omega)
      have HPE : Hid (Pool v2 b (N + (q - k)) (bd.putL lj (f, k))) := Pool.congr (Pool.mono HP2.out (by omega)) (fun y => by rw [bd.mem_putL, List.mem_cons])
      go_wp2_with fail
      go_roundw
      case rel => exact ⟨k, _, by omega, by omega, HT2.out, HPE.out, HX2.out, PBox.grown HBW.out HGE.out (by simp; omega), grown_trans HGW.out HGE.out⟩
      case measure =>
        have h1 := HLJ.out
        have h2 := lenAt_of HX2.out
        omega
    · obtain rfl : o = j := by omega
      go_wp2_with fail
      go_end0
      exact ⟨lj, rfl, HTJ.out, HPJ.out.mono (by omega), HGJ.out⟩
end Go.Proofs.Ytcokchfedaoccab.bpool
