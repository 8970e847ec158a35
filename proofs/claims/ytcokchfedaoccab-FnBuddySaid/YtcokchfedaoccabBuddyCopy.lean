/-
  The walk of the specification's l04Copy: a buddy's copy.
-/
import Derived.Test.YtcokchfedaoccabBuddyDrop
namespace Go.Proofs.Ytcokchfedaoccab.bspec
open Go.RowKit Go.Deep Go.Sort
open Go.Proofs.Ytcokchfedaoccab
open Go.Proofs.Ytcokchfedaoccab.brows
open Go.Proofs.Ytcokchfedaoccab.bd (Blk)
set_option linter.unusedVariables false

/-- what Copy leaves -/
def CopyPost (n : Int) (xs : List Pr) (w : World) (e : Ending) (w' : World) : Prop :=
  ∃ v', e = .returned (.agg #[.int .i64 n, v']) ∧ Rd w' v' xs ∧ Below w.heap.size w w'

theorem row_form {w : World} {B : Nat} {v : Value} {xs : List Pr} (h : w.ownsRow B 68 2 v (0 + xs.length) ([] ++ cellsB xs)) (hn : 0 < xs.length) : Row w B v xs ∧ ∃ g c, v = .slice (some ⟨g, 0, none⟩) xs.length c := by
  have hr : Row w B v xs := by rw [Nat.zero_add, List.nil_append] at h; exact h
  obtain ⟨g, c, e, _⟩ := hr.rd.at hn
  exact ⟨hr, g, c, e⟩
theorem copy_below {V w1 : World} {o : Obj} (gr : (V.drew.alloc o).grownBy w1 (Value.slice (some ⟨V.drew.heap.size, 0, none⟩) 0 0).ownBlock) : Below V.heap.size V w1 :=
  (Below.alloc (Below.drew (Below.refl V.heap.size V)) (Nat.le_refl _) o).grown gr (by simp) (fun k e => by simp [Value.ownBlock] at e; omega)
theorem copy_cells {V w1 : World} {B : Nat} {a b c d : Value} (h : Below V.heap.size V w1) (hB : B + 1 < V.heap.size) (x0 : V.cell? ⟨B, 0, none⟩ = some a) (x1 : V.cell? ⟨B, 1, none⟩ = some b) (q0 : V.cell? ⟨B + 1, 0, none⟩ = some c) (q1 : V.cell? ⟨B + 1, 1, none⟩ = some d)
    (f0 : V.frozen? ⟨B + 1, 0, none⟩ = false) (f1 : V.frozen? ⟨B + 1, 1, none⟩ = false) :
    (w1.cell? ⟨B, 0, none⟩ = some a ∧ w1.cell? ⟨B, 1, none⟩ = some b) ∧ w1.cell? ⟨B + 1, 0, none⟩ = some c ∧ w1.cell? ⟨B + 1, 1, none⟩ = some d ∧ w1.frozen? ⟨B + 1, 0, none⟩ = false ∧ w1.frozen? ⟨B + 1, 1, none⟩ = false := by
  have hB' : B < V.heap.size := by omega
  exact ⟨⟨(h.cell (p := ⟨B, 0, none⟩) hB').trans x0, (h.cell (p := ⟨B, 1, none⟩) hB').trans x1⟩, (h.cell (p := ⟨B + 1, 0, none⟩) hB).trans q0, (h.cell (p := ⟨B + 1, 1, none⟩) hB).trans q1, (h.frozen (p := ⟨B + 1, 0, none⟩) hB).trans f0, (h.frozen (p := ⟨B + 1, 1, none⟩) hB).trans f1⟩
theorem store2 {w : World} {B : Nat} {a b x y : Value} (h : w.cell? ⟨B, 0, none⟩ = some a ∧ w.cell? ⟨B, 1, none⟩ = some b) :
    ((w.setCell ⟨B + 1, 0, none⟩ x).setCell ⟨B + 1, 1, none⟩ y).cell? ⟨B, 0, none⟩ = some a ∧ ((w.setCell ⟨B + 1, 0, none⟩ x).setCell ⟨B + 1, 1, none⟩ y).cell? ⟨B, 1, none⟩ = some b := by
  rw [far2 (by omega), far2 (by omega), far2 (by omega), far2 (by omega)]; exact h

theorem copy_end {n : Int} {xs : List Pr} {w V w1 : World} {v a b : Value} (hV : Below w.heap.size w V) (hV2 : w.heap.size + 1 < V.heap.size) (h1 : Below V.heap.size V w1) (hr : Row w1 V.heap.size v xs) :
    CopyPost n xs w (.returned (.agg #[.int .i64 n, v])) ((w1.setCell ⟨w.heap.size + 1, 0, none⟩ a).setCell ⟨w.heap.size + 1, 1, none⟩ b) := by
  have hne : ∀ g, v.ownBlock = some g → g ≠ w.heap.size + 1 := fun g hg => by have := own_block hr g hg; omega
  exact ⟨v, rfl, rd_store (rd_store hr.rd hne _ _) hne _ _, ((hV.trans (h1.mono hV.size)).setCell (by simp) _).setCell (by simp) _⟩

set_option maxHeartbeats 4000000 in
theorem spec_copy_some (n : Int) (g c : Nat) (xs : List Pr) (w : World) (hl0 : 0 < xs.length) (hl : xs.length ≤ 1000) (hcap : xs.length ≤ c) (hcm : c ≤ maxLen) (hg : g < w.heap.size)
    (hc : ∀ i (hi : i < xs.length), w.cell? ⟨g, i * 2, none⟩ = some (.int .i64 xs[i].1) ∧ w.cell? ⟨g, i * 2 + 1, none⟩ = some (.int .i64 xs[i].2)) :
    Calls Try.prog 65 #[.agg #[.int .i64 n, .slice (some ⟨g, 0, none⟩) xs.length c]] w (CopyPost n xs w) := by
  have HC : Hid _ := hc
  obtain ⟨i0, hi0, hz0, hz1, hz2⟩ := info_parts info_blk
  unfold maxLen at hcm
  clear hc
  go_enter Try.func65, Try.ntmps65
  go_wp2_with fail
  obtain ⟨V, hV⟩ : ∃ V, V = (w.alloc (.cells #[.int .i64 n, .slice (some ⟨g, 0, none⟩) xs.length c] 29)).alloc (.cells #[.int .i64 0, .slice none 0 0] 29) := ⟨_, rfl⟩
  have HBV : Hid (Below w.heap.size w V) := by rw [hV]; exact ((Below.refl _ _).alloc (Nat.le_refl _) _).alloc (by simp) _
  have hV2 : w.heap.size + 1 < V.heap.size := by rw [hV]; simp
  have X0 : V.cell? ⟨w.heap.size, 0, none⟩ = some (.int .i64 n) := by rw [hV]; simp
  have X1 : V.cell? ⟨w.heap.size, 1, none⟩ = some (.slice (some ⟨g, 0, none⟩) xs.length c) := by rw [hV]; simp
  have Q0 : V.cell? ⟨w.heap.size + 1, 0, none⟩ = some (.int .i64 0) := by rw [hV]; simp
  have Q1 : V.cell? ⟨w.heap.size + 1, 1, none⟩ = some (.slice none 0 0) := by rw [hV]; simp
  have QF0 : V.frozen? ⟨w.heap.size + 1, 0, none⟩ = false := by rw [hV]; simp
  have QF1 : V.frozen? ⟨w.heap.size + 1, 1, none⟩ = false := by rw [hV]; simp
  have hgV : g < V.heap.size := by omega
  have HR : Hid (∀ j u, (cellsB xs)[j]? = some u → V.cell? ⟨g, j, none⟩ = some u) := fun j u hu => (HBV.out.cell (p := ⟨g, j, none⟩) hg).trans (cells_of HC.out j u hu)
  rw [← hV]
  clear hV HC
  go_region_held3 (fun W => W.cell? ⟨w.heap.size, 0, none⟩ = some (.int .i64 n) ∧ W.cell? ⟨w.heap.size, 1, none⟩ = some (.slice (some ⟨g, 0, none⟩) xs.length c))
    (first | assumption | exact ⟨X0, X1⟩ | exact ⟨Z0, Z1⟩ | exact store2 ⟨Z0, Z1⟩ | exact ⟨((Below.alloc (Below.drew (Below.refl V.heap.size V)) (Nat.le_refl _) _).cell (p := ⟨w.heap.size, 0, none⟩) (by show w.heap.size < V.heap.size; omega)).trans X0, ((Below.alloc (Below.drew (Below.refl V.heap.size V)) (Nat.le_refl _) _).cell (p := ⟨w.heap.size, 1, none⟩) (by show w.heap.size < V.heap.size; omega)).trans X1⟩)
    (first | (rw [if_pos (by rfl)]; refine wp_append_own _ (.tmp 5) (.tmp 7) 27 rfl V.heap.size 68 i0 (.agg #[.int .i64 0, .int .i64 0]) 2 16 Try.underlying27 hi0 hz0 hz1 hz2 rfl (by decide) _ 0 [] rfl (World.ownsRow_made V.drew #[] 0 (Nat.le_refl _) (by unfold maxLen; omega) rfl) ⟨g, 0, none⟩ xs.length c (cellsB xs) rfl (by rw [cellsB_len]) (fun j u hu => by rw [add_at, Nat.zero_add]; exact ((Below.alloc (Below.drew (Below.refl V.heap.size V)) (Nat.le_refl _) _).cell (p := ⟨g, j, none⟩) hgV).trans (HR.out j u hu)) (fun u hu => cellsB_one hu) (by unfold maxLen; omega) (by omega) (by simp) ?_; intro v1 w1 own1 gr1 _; obtain ⟨hrow, g1, c1, rfl⟩ := row_form own1 hl0; have hb1 := copy_below gr1; obtain ⟨⟨Z0, Z1⟩, R0, R1, RF0, RF1⟩ := copy_cells hb1 hV2 X0 X1 Q0 Q1 QF0 QF1; have HROW : Hid _ := hrow; have HB1 : Hid _ := hb1; clear own1 gr1 hrow hb1))
  go_wp2_with fail
  exact bodyPost_ret (v := .agg #[.int .i64 n, .slice (some ⟨g1, 0, none⟩) xs.length c1]) (by simp [results, Try.results65, go_sem, R0, R1]) rfl
    (copy_end HBV.out hV2 HB1.out HROW.out)

theorem new3 (w : World) (a b : Value) (T : TypeId) (o o' : Obj) (i : Nat) : (((w.alloc o).alloc (.cells #[a, b] T)).alloc o').cell? ⟨w.heap.size + 1, i, none⟩ = ((w.alloc o).alloc (.cells #[a, b] T)).cell? ⟨w.heap.size + 1, i, none⟩ :=
  (Below.alloc (Below.refl _ _) (Nat.le_refl _) o').cell (p := ⟨w.heap.size + 1, i, none⟩) (by simp)

set_option maxHeartbeats 4000000 in
theorem spec_copy_none (n : Int) (a : Option Addr) (c : Nat) (w : World) (hcm : c ≤ maxLen) :
    Calls Try.prog 65 #[.agg #[.int .i64 n, .slice a 0 c]] w (CopyPost n [] w) := by
  obtain ⟨i0, hi0, hz0, hz1, hz2⟩ := info_parts info_blk
  unfold maxLen at hcm
  go_enter Try.func65, Try.ntmps65
  go_wp2_with fail
  cases a
  all_goals
    go_region
    go_wp2
    exact bodyPost_ret (v := .agg #[.int .i64 n, .slice (some ⟨w.heap.size + 1 + 1, 0, none⟩) 0 0]) (by simp [results, Try.results65, go_sem, new3]) rfl
      ⟨_, rfl, ⟨_, 0, rfl, Nat.le_refl _, by unfold maxLen; omega, fun h => by simp at h⟩, ((((Below.refl _ _).alloc (Nat.le_refl _) _).alloc (by simp) _).alloc (by simp; omega) _).drew⟩

/-- l04Copy at every row -/
theorem spec_copy (n : Int) (v : Value) (xs : List Pr) (w : World) (hrd : Rd w v xs) (hl : xs.length ≤ 1000) :
    Calls Try.prog 65 #[.agg #[.int .i64 n, v]] w (CopyPost n xs w) := by
  by_cases h0 : xs.length = 0
  · have e : xs = [] := List.eq_nil_of_length_eq_zero h0
    subst e
    obtain ⟨a, c, rfl, _, hc⟩ := hrd.form
    exact spec_copy_none n a c w hc
  · obtain ⟨g, c, rfl, hc1, hc2, hg, hc⟩ := hrd.at (by omega)
    exact spec_copy_some n g c xs w (by omega) hl hc1 hc2 hg hc
end Go.Proofs.Ytcokchfedaoccab.bspec
