/-
  The walk of the specification's l04Drop: a block taken out, in the buddy itself.
-/
import Derived.Test.YtcokchfedaoccabBuddyPut0
namespace Go.Proofs.Ytcokchfedaoccab.bspec
open Go.RowKit Go.Deep Go.Sort
open Go.Proofs.Ytcokchfedaoccab
open Go.Proofs.Ytcokchfedaoccab.brows
open Go.Proofs.Ytcokchfedaoccab.bd (Blk)
set_option linter.unusedVariables false

/-- what Drop leaves -/
def DropPost (P : Nat) (n : Int) (x : Pr) (ys : List Pr) (w : World) (e : Ending) (w' : World) : Prop :=
  ∃ v', e = .returned (.agg #[.int .i64 x.1, .int .i64 x.2]) ∧ Box w' P n v' ∧ Rd w' v' ys ∧ w.grownBy w' (some P) ∧ (∀ g, v'.ownBlock = some g → w.heap.size ≤ g) ∧ Own w' w.heap.size v'
theorem grown_new {w w' : World} {B k : Nat} (h : w.grownBy w' (some B)) (hk : w.heap.size ≤ k) (i : Nat) (v : Value) : w.grownBy (w'.setCell ⟨k, i, none⟩ v) (some B) :=
  ⟨h.os, h.tape, h.output, by simp [World.setCell, h.size], fun j hj hn => by rw [Below.heap_setCell _ _ _ _ (show j ≠ k by omega)]; exact h.block j hj hn⟩
theorem Box.apart {w : World} {P k : Nat} {n : Int} {v u : Value} (h : Box w P n v) (hk : P ≠ k) (i : Nat) : Box (w.setCell ⟨k, i, none⟩ u) P n v := (Below.heap_setCell w ⟨k, i, none⟩ u P hk).trans h
theorem drop_end {P : Nat} {n : Int} {x : Pr} {ys : List Pr} {w V w3 : World} {v v3 a b : Value} (hV : Below w.heap.size w V) (hwV : w.heap.size < V.heap.size) (h3 : Below V.heap.size V w3) (hb : Box w3 P n v) (ho : Row w3 V.heap.size v3 ys) (hP : P < w.heap.size) :
    DropPost P n x ys w (.returned (.agg #[.int .i64 x.1, .int .i64 x.2])) (((w3.setCell ⟨P, 1, none⟩ v3).setCell ⟨w.heap.size, 0, none⟩ a).setCell ⟨w.heap.size, 1, none⟩ b) := by
  have hne : ∀ g, v3.ownBlock = some g → V.heap.size ≤ g := fun g hg => own_block ho g hg
  refine ⟨v3, rfl, ((hb.store).apart (by omega) _).apart (by omega) _, rd_store (rd_store (rd_store ho.rd (fun g hg => by have := hne g hg; omega) _ _) (fun g hg => by have := hne g hg; omega) _ _) (fun g hg => by have := hne g hg; omega) _ _, ?_, fun g hg => by have := hne g hg; omega, (Own.far (Own.far (Own.far ⟨_, ho⟩ (fun g hg => by have := hne g hg; omega) _ _) (fun g hg => by have := hne g hg; omega) _ _) (fun g hg => by have := hne g hg; omega) _ _).down (by omega)⟩
  exact grown_new (grown_new (grown_store (grown_of_below (hV.trans (h3.mono hV.size)) _) _ _) (Nat.le_refl _) _ _) (Nat.le_refl _) _ _

theorem far2 {k j : Nat} (h : k ≠ j) (w : World) (i i' : Nat) (v : Value) : (w.setCell ⟨j, i, none⟩ v).cell? ⟨k, i', none⟩ = w.cell? ⟨k, i', none⟩ :=
  World.cell?_setCell_other _ _ _ _ (by intro e; simp only [Addr.mk.injEq] at e; exact h e.1.symm)

set_option maxHeartbeats 4000000 in
theorem spec_drop (P : Nat) (n : Int) (v : Value) (xs : List Pr) (i : Nat) (hi : i < xs.length) (w : World) (hbox : Box w P n v) (hrd : Rd w v xs) (hl : xs.length ≤ 1000) :
    Calls Try.prog 66 #[.pointer (some ⟨P, 0, none⟩), .int .i64 i] w (DropPost P n xs[i] (xs.take i ++ xs.drop (i + 1)) w) := by
  obtain ⟨g, c, rfl, hcap, hcm, hg, hc⟩ := hrd.at (by omega)
  have HC : Hid _ := hc
  have HBX : Hid (Box w P n (.slice (some ⟨g, 0, none⟩) xs.length c)) := hbox
  have hP : P < w.heap.size := hbox.lt
  obtain ⟨i0, hi0, hz0, hz1, hz2⟩ := info_parts info_blk
  unfold maxLen at hcm
  have c0 := (hc i hi).1
  have c1 := (hc i hi).2
  generalize hx : xs[i] = x at *
  obtain ⟨p, q⟩ := x
  simp only at c0 c1
  obtain ⟨b0, b1, f0, f1⟩ := hbox.cells
  clear hc hbox hrd hx
  have hP1 : P < w.heap.size + 1 := by omega
  have hg1 : g < w.heap.size + 1 := by omega
  go_enter Try.func66, Try.ntmps66
  go_upto_region 2 with fail
  obtain ⟨V, hV⟩ : ∃ V, V = (w.alloc (.cells #[.int .i64 0, .int .i64 0] 68)).alloc (.cells #[.int .i64 p, .int .i64 q] 68) := ⟨_, rfl⟩
  have HBV : Hid (Below w.heap.size w V) := by rw [hV]; exact ((Below.refl _ _).alloc (Nat.le_refl _) _).alloc (by simp) _
  have hV2 : w.heap.size + 1 < V.heap.size := by rw [hV]; simp
  have hV1 : w.heap.size < V.heap.size := by omega
  have X0 : V.cell? ⟨w.heap.size + 1, 0, none⟩ = some (.int .i64 p) := by rw [hV]; simp
  have X1 : V.cell? ⟨w.heap.size + 1, 1, none⟩ = some (.int .i64 q) := by rw [hV]; simp
  have Q0 : V.cell? ⟨w.heap.size, 0, none⟩ = some (.int .i64 0) := by rw [hV]; simp
  have Q1 : V.cell? ⟨w.heap.size, 1, none⟩ = some (.int .i64 0) := by rw [hV]; simp
  have QF0 : V.frozen? ⟨w.heap.size, 0, none⟩ = false := by rw [hV]; simp
  have QF1 : V.frozen? ⟨w.heap.size, 1, none⟩ = false := by rw [hV]; simp
  have HBP : Hid (Box V P n (.slice (some ⟨g, 0, none⟩) xs.length c)) := (HBV.out.block P hP).trans HBX.out
  have hPV : P < V.heap.size := by omega
  have hgV : g < V.heap.size := by omega
  have HR : Hid (∀ j u, (cellsB xs)[j]? = some u → V.cell? ⟨g, j, none⟩ = some u) := fun j u hu => (HBV.out.cell (p := ⟨g, j, none⟩) hg).trans (cells_of HC.out j u hu)
  rw [← hV]
  clear hV b0 b1 f0 f1 c0 c1 HC
  obtain ⟨b0, b1, f0, f1⟩ := HBP.out.cells
  go_wp2_with (at_builtin; refine wpList_append_own _ rfl _ _ 27 rfl V.heap.size 68 i0 (.agg #[.int .i64 0, .int .i64 0]) 2 16 Try.underlying27 hi0 hz0 hz1 hz2 rfl (by decide) _ 0 [] rfl (World.ownsRow_made V #[] 0 (Nat.le_refl _) (by unfold maxLen; omega) rfl) ⟨g, 0, none⟩ i c (cellsB (xs.take i)) rfl ?l1 ?c1 ?c2 ?c3 ?c4 ?c5 ?_)
  case l1 => rw [cellsB_len, List.length_take]; omega
  case c1 =>
    intro j u hu
    rw [← cellsB_take, List.getElem?_take] at hu
    have hu' : (cellsB xs)[j]? = some u := by
      by_cases hj : j < i * 2
      · rwa [if_pos hj] at hu
      · rw [if_neg hj] at hu; cases hu
    rw [add_at, Nat.zero_add]
    exact ((Below.alloc (Below.refl _ V) (Nat.le_refl _) _).cell (p := ⟨g, j, none⟩) hgV).trans (HR.out j u hu')
  case c2 => exact fun u hu => cellsB_one hu
  case c3 => unfold maxLen; omega
  case c4 => omega
  case c5 => simp
  intro v1 w1 own1 gr1 _
  have hb1 : Below V.heap.size V w1 := ((Below.refl _ V).alloc (Nat.le_refl _) _).grown gr1 (by simp) (fun k e => by simp [Value.ownBlock] at e; omega)
  have hs1 := hb1.size
  have HBP1 : Hid (Box w1 P n (.slice (some ⟨g, 0, none⟩) xs.length c)) := (hb1.block P hPV).trans HBP.out
  have HB1 : Hid (Below V.heap.size V w1) := hb1
  have OWN1 : Hid (w1.ownsRow V.heap.size 68 2 v1 i (cellsB (xs.take i))) := own1
  clear b0 b1 f0 f1 gr1 own1 hb1
  obtain ⟨b0, b1, f0, f1⟩ := HBP1.out.cells
  by_cases hck : c = i + 1
  · go_wp2_with (at_builtin; refine wpList_append_own _ rfl _ _ 27 rfl V.heap.size 68 i0 (.agg #[.int .i64 0, .int .i64 0]) 2 16 Try.underlying27 hi0 hz0 hz1 hz2 rfl (by decide) _ i _ rfl OWN1.out ⟨g, 0, none⟩ (xs.length - (i + 1)) 0 (cellsB (xs.drop (i + 1))) ?hx ?l1 ?c1 ?c2 ?c3 ?c4 ?c5 ?_)
    case hx => rfl
    case l1 => rw [cellsB_len, List.length_drop]
    case c1 =>
      intro j u hu
      rw [List.drop_eq_nil_of_le (by omega)] at hu
      simp [cellsB] at hu
    case c2 => exact fun u hu => cellsB_one hu
    case c3 => unfold maxLen; omega
    case c4 => omega
    case c5 => exact hs1
    intro v3 w3 own3 gr3 _
    have hb3 : Below V.heap.size V w3 := HB1.out.grown gr3 hs1 (own_block OWN1.out)
    have HB3 : Hid (Below V.heap.size V w3) := hb3
    have HBP3 : Hid (Box w3 P n (.slice (some ⟨g, 0, none⟩) xs.length c)) := (hb3.block P hPV).trans HBP.out
    have OWN3 : Hid (Row w3 V.heap.size v3 (xs.take i ++ xs.drop (i + 1))) := by
      have e1 : (xs.take i ++ xs.drop (i + 1)).length = i + (xs.length - (i + 1)) := by simp; omega
      have e2 : cellsB (xs.take i ++ xs.drop (i + 1)) = cellsB (xs.take i) ++ cellsB (xs.drop (i + 1)) := cellsB_app _ _
      rw [Hid, Row, e1, e2]
      exact own3
    obtain ⟨d0, d1, h0, h1⟩ := HBP3.out.cells
    have Z0 := (hb3.cell (p := ⟨w.heap.size + 1, 0, none⟩) hV2).trans X0
    have Z1 := (hb3.cell (p := ⟨w.heap.size + 1, 1, none⟩) hV2).trans X1
    have R0 := (hb3.cell (p := ⟨w.heap.size, 0, none⟩) hV1).trans Q0
    have R1 := (hb3.cell (p := ⟨w.heap.size, 1, none⟩) hV1).trans Q1
    have RF0 := (hb3.frozen (p := ⟨w.heap.size, 0, none⟩) hV1).trans QF0
    have RF1 := (hb3.frozen (p := ⟨w.heap.size, 1, none⟩) hV1).trans QF1
    have hPw : P ≠ w.heap.size := by omega
    have hPw1 : P ≠ w.heap.size + 1 := by omega
    clear b0 b1 f0 f1 gr3 own3 hb3 HBP1 HB1 OWN1
    obtain ⟨a3, c3, hv3, _⟩ := OWN3.out.rd.form
    obtain ⟨L, hL⟩ : ∃ L, L = (xs.take i ++ xs.drop (i + 1)).length := ⟨_, rfl⟩
    rw [← hL] at hv3
    subst hv3
    clear hL
    go_wp2
    exact bodyPost_ret (v := .agg #[.int .i64 p, .int .i64 q]) (by simp [results, Try.results66, go_sem, far2 hPw.symm, R0, R1]) rfl (drop_end (x := (p, q)) HBV.out (by omega) HB3.out HBP3.out OWN3.out hP)
  · go_wp2_with (at_builtin; refine wpList_append_own _ rfl _ _ 27 rfl V.heap.size 68 i0 (.agg #[.int .i64 0, .int .i64 0]) 2 16 Try.underlying27 hi0 hz0 hz1 hz2 rfl (by decide) _ i _ rfl OWN1.out ⟨g, (i + 1) * 2, none⟩ (xs.length - (i + 1)) (c - (i + 1)) (cellsB (xs.drop (i + 1))) ?hx ?l1 ?c1 ?c2 ?c3 ?c4 ?c5 ?_)
    case hx => rfl
    case l1 => rw [cellsB_len, List.length_drop]
    case c1 =>
      intro j u hu
      rw [← cellsB_drop, List.getElem?_drop] at hu
      rw [add_at]
      exact (HB1.out.cell (p := ⟨g, (i + 1) * 2 + j, none⟩) hgV).trans (HR.out _ u hu)
    case c2 => exact fun u hu => cellsB_one hu
    case c3 => unfold maxLen; omega
    case c4 => omega
    case c5 => exact hs1
    intro v3 w3 own3 gr3 _
    have hb3 : Below V.heap.size V w3 := HB1.out.grown gr3 hs1 (own_block OWN1.out)
    have HB3 : Hid (Below V.heap.size V w3) := hb3
    have HBP3 : Hid (Box w3 P n (.slice (some ⟨g, 0, none⟩) xs.length c)) := (hb3.block P hPV).trans HBP.out
    have OWN3 : Hid (Row w3 V.heap.size v3 (xs.take i ++ xs.drop (i + 1))) := by
      have e1 : (xs.take i ++ xs.drop (i + 1)).length = i + (xs.length - (i + 1)) := by simp; omega
      have e2 : cellsB (xs.take i ++ xs.drop (i + 1)) = cellsB (xs.take i) ++ cellsB (xs.drop (i + 1)) := cellsB_app _ _
      rw [Hid, Row, e1, e2]
      exact own3
    obtain ⟨d0, d1, h0, h1⟩ := HBP3.out.cells
    have Z0 := (hb3.cell (p := ⟨w.heap.size + 1, 0, none⟩) hV2).trans X0
    have Z1 := (hb3.cell (p := ⟨w.heap.size + 1, 1, none⟩) hV2).trans X1
    have R0 := (hb3.cell (p := ⟨w.heap.size, 0, none⟩) hV1).trans Q0
    have R1 := (hb3.cell (p := ⟨w.heap.size, 1, none⟩) hV1).trans Q1
    have RF0 := (hb3.frozen (p := ⟨w.heap.size, 0, none⟩) hV1).trans QF0
    have RF1 := (hb3.frozen (p := ⟨w.heap.size, 1, none⟩) hV1).trans QF1
    have hPw : P ≠ w.heap.size := by omega
    have hPw1 : P ≠ w.heap.size + 1 := by omega
    clear b0 b1 f0 f1 gr3 own3 hb3 HBP1 HB1 OWN1
    obtain ⟨a3, c3, hv3, _⟩ := OWN3.out.rd.form
    obtain ⟨L, hL⟩ : ∃ L, L = (xs.take i ++ xs.drop (i + 1)).length := ⟨_, rfl⟩
    rw [← hL] at hv3
    subst hv3
    clear hL
    go_wp2
    exact bodyPost_ret (v := .agg #[.int .i64 p, .int .i64 q]) (by simp [results, Try.results66, go_sem, far2 hPw.symm, R0, R1]) rfl (drop_end (x := (p, q)) HBV.out (by omega) HB3.out HBP3.out OWN3.out hP)
end Go.Proofs.Ytcokchfedaoccab.bspec
