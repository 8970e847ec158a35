/-
  The walks of the specification's l04Put and l04Drop: a block put in its place, a block taken out, in the buddy itself.
-/
import Derived.Test.YtcokchfedaoccabBuddyBest
import Derived.OwnWalk
import Derived.Laws.CopyOwn
namespace Go.Proofs.Ytcokchfedaoccab.bspec
open Go.RowKit Go.Deep Go.Sort
open Go.Proofs.Ytcokchfedaoccab
open Go.Proofs.Ytcokchfedaoccab.brows
open Go.Proofs.Ytcokchfedaoccab.bd (Blk)
set_option linter.unusedVariables false

def putI (xs : List Pr) (x : Pr) : List Pr := xs.takeWhile (fun y => decide (y.1 < x.1)) ++ x :: xs.dropWhile (fun y => decide (y.1 < x.1))
theorem while_at (c : Int) : ∀ (xs : List Pr) (k : Nat), (∀ j y, j < k → xs[j]? = some y → y.1 < c) → (∀ y, xs[k]? = some y → ¬ y.1 < c) → k ≤ xs.length →
    xs.takeWhile (fun y => decide (y.1 < c)) = xs.take k ∧ xs.dropWhile (fun y => decide (y.1 < c)) = xs.drop k
  | [], k, _, _, hk => by simp at hk; subst hk; simp
  | x :: t, 0, _, h2, _ => by
    have := h2 x (by simp)
    rw [List.takeWhile_cons, List.dropWhile_cons, if_neg (by simpa using this), if_neg (by simpa using this)]
    simp
  | x :: t, k + 1, h1, h2, hk => by
    have hx := h1 0 x (by omega) (by simp)
    have ih := while_at c t k (fun j y hj hy => h1 (j + 1) y (by omega) (by simpa using hy)) (fun y hy => h2 y (by simpa using hy)) (by simpa using hk)
    rw [List.takeWhile_cons, List.dropWhile_cons, if_pos (by simpa using hx), if_pos (by simpa using hx), ih.1, ih.2]
    simp
theorem info_blk : (Try.prog.info? 68).map (fun i => (i.zero, i.size, i.bytes)) = some (some (.agg #[.int .i64 0, .int .i64 0]), 2, 16) := by kernel_rfl
theorem info_parts {i : Option TypeInfo} {z : Value} {s b : Nat} (h : i.map (fun i => (i.zero, i.size, i.bytes)) = some (some z, s, b)) : ∃ i0, i = some i0 ∧ i0.zero = some z ∧ i0.size = s ∧ i0.bytes = b := by
  obtain ⟨i0, h1, h2⟩ := Option.map_eq_some_iff.1 h
  simp only [Prod.mk.injEq] at h2
  exact ⟨i0, h1, h2.1, h2.2.1, h2.2.2⟩

theorem cells_of {w : World} {g : Nat} {xs : List Pr} (hc : ∀ i (hi : i < xs.length), w.cell? ⟨g, i * 2, none⟩ = some (.int .i64 xs[i].1) ∧ w.cell? ⟨g, i * 2 + 1, none⟩ = some (.int .i64 xs[i].2))
    (j : Nat) (u : Value) (hu : (cellsB xs)[j]? = some u) : w.cell? ⟨g, j, none⟩ = some u := by
  have hj : j < xs.length * 2 := by
    rcases Nat.lt_or_ge j (cellsB xs).length with h1 | h1
    · rwa [cellsB_len] at h1
    · rw [List.getElem?_eq_none h1] at hu; cases hu
  have hi : j / 2 < xs.length := by omega
  have ha := cellsB_at xs (j / 2) hi
  have hb := hc (j / 2) hi
  rcases Nat.mod_two_eq_zero_or_one j with e | e
  · have ej : j / 2 * 2 = j := by omega
    rw [ej] at ha hb
    rw [hb.1, ← ha.1, hu]
  · have ej : j / 2 * 2 + 1 = j := by omega
    rw [ej] at ha hb
    rw [hb.2, ← ha.2, hu]
theorem cellsB_one {xs : List Pr} {u : Value} (h : u ∈ cellsB xs) : u.oneCell' = true := by
  simp only [cellsB, List.mem_flatMap] at h
  obtain ⟨x, _, hx⟩ := h
  simp at hx
  rcases hx with rfl | rfl <;> rfl
theorem own_block {w : World} {base : Nat} {e : TypeId} {size : Nat} {v : Value} {n : Nat} {xs : List Value} (h : w.ownsRow base e size v n xs) (k : Nat) (hk : v.ownBlock = some k) : base ≤ k := by
  rcases h.2 with ⟨rfl, _⟩ | ⟨g, cap, cur, rfl, hb, _⟩
  · simp [Value.ownBlock] at hk
  · simp [Value.ownBlock] at hk; omega
theorem add_at (g o j : Nat) : (⟨g, o, none⟩ : Addr).add j = ⟨g, o + j, none⟩ := by
  unfold Addr.add
  by_cases h : j = 0 <;> simp [h]
/-- the buddy's box -/
def Box (w : World) (P : Nat) (n : Int) (v : Value) : Prop := w.heap[P]? = some (.cells #[.int .i64 n, v] 29 (0, 0))
theorem Box.cells {w : World} {P : Nat} {n : Int} {v : Value} (h : Box w P n v) : w.cell? ⟨P, 0, none⟩ = some (.int .i64 n) ∧ w.cell? ⟨P, 1, none⟩ = some v ∧ w.frozen? ⟨P, 0, none⟩ = false ∧ w.frozen? ⟨P, 1, none⟩ = false := by
  refine ⟨?_, ?_, ?_, ?_⟩
  · rw [cell_of_row w P 0 _ 29 (0, 0) h]; rfl
  · rw [cell_of_row w P 1 _ 29 (0, 0) h]; rfl
  · simp [World.frozen?, show w.heap[P]? = _ from h]
  · simp [World.frozen?, show w.heap[P]? = _ from h]
theorem Box.lt {w : World} {P : Nat} {n : Int} {v : Value} (h : Box w P n v) : P < w.heap.size := (Array.getElem?_eq_some_iff.1 h).1

/-- its row is its own, from base on -/
def Own (w : World) (base : Nat) (v : Value) : Prop := ∃ ys, Row w base v ys
theorem Own.move {w w' : World} {base : Nat} {v : Value} (h : Own w base v) (hk : ∀ g, base ≤ g → g < w.heap.size → v.ownBlock = some g → w'.heap[g]? = w.heap[g]?) : Own w' base v := by
  obtain ⟨ys, hl, hr⟩ := h
  refine ⟨ys, hl, ?_⟩
  rcases hr with h0 | ⟨g, cap, cur, hv, hbg, hc, hrest⟩
  · exact Or.inl h0
  · exact Or.inr ⟨g, cap, cur, hv, hbg, (hk g hbg (Array.getElem?_eq_some_iff.1 hc).1 (by rw [hv]; rfl)).trans hc, hrest⟩
theorem Own.far {w : World} {base : Nat} {v : Value} (h : Own w base v) {P : Nat} (hP : ∀ g, v.ownBlock = some g → g ≠ P) (i : Nat) (u : Value) : Own (w.setCell ⟨P, i, none⟩ u) base v :=
  h.move fun g _ _ hg => Below.heap_setCell _ _ _ _ (hP g hg)
theorem Own.below {w w' : World} {base : Nat} {v : Value} (h : Own w base v) (hb : Below w.heap.size w w') : Own w' base v := h.move fun g _ hl _ => hb.block g hl
theorem Own.down {w : World} {b b' : Nat} {v : Value} (h : Own w b' v) (hb : b ≤ b') : Own w b v := by
  obtain ⟨ys, hl, hr⟩ := h
  refine ⟨ys, hl, ?_⟩
  rcases hr with h0 | ⟨g, cap, cur, hv, hbg, hrest⟩
  · exact Or.inl h0
  · exact Or.inr ⟨g, cap, cur, hv, Nat.le_trans hb hbg, hrest⟩
/-- what Put leaves -/
def PutPost (P : Nat) (n : Int) (ys : List Pr) (w : World) (e : Ending) (w' : World) : Prop :=
  ∃ v', e = .returned (.tuple #[]) ∧ Box w' P n v' ∧ Rd w' v' ys ∧ w.grownBy w' (some P) ∧ Own w' w.heap.size v'

theorem grown_of_below {w w' : World} (h : Below w.heap.size w w') (r : Option Nat) : w.grownBy w' r := ⟨h.os, h.tape, h.output, h.size, fun k hk _ => h.block k hk⟩
theorem grown_store {w w' : World} {B : Nat} (h : w.grownBy w' (some B)) (i : Nat) (v : Value) : w.grownBy (w'.setCell ⟨B, i, none⟩ v) (some B) :=
  ⟨h.os, h.tape, h.output, by simp [World.setCell, h.size], fun k hk hn => by rw [Below.heap_setCell _ _ _ _ (fun e => hn (by rw [e]))]; exact h.block k hk hn⟩
theorem rd_store {w : World} {v : Value} {xs : List Pr} (h : Rd w v xs) {P : Nat} (hP : ∀ g, v.ownBlock = some g → g ≠ P) (i : Nat) (u : Value) : Rd (w.setCell ⟨P, i, none⟩ u) v xs := by
  obtain ⟨a, c, rfl, h1, h2, h3⟩ := h
  refine ⟨a, c, rfl, h1, h2, fun hn => ?_⟩
  obtain ⟨g, rfl, hg, hc⟩ := h3 hn
  have hgP := hP g rfl
  have far : ∀ j, (w.setCell ⟨P, i, none⟩ u).cell? ⟨g, j, none⟩ = w.cell? ⟨g, j, none⟩ := fun j =>
    World.cell?_setCell_other _ _ _ _ (by intro e; simp only [Addr.mk.injEq] at e; exact hgP e.1.symm)
  exact ⟨g, rfl, by simp [World.setCell]; exact hg, fun j hj => ⟨by rw [far]; exact (hc j hj).1, by rw [far]; exact (hc j hj).2⟩⟩
theorem Box.store {w : World} {P : Nat} {n : Int} {v v' : Value} (h : Box w P n v) : Box (w.setCell ⟨P, 1, none⟩ v') P n v' := heap_setCell_same w P 1 _ 29 v' h
theorem put_end {P : Nat} {n : Int} {ys zs : List Pr} {w V w3 : World} {v v3 : Value} (he : ys = zs) (hV : Below w.heap.size w V) (hPV : P < V.heap.size) (h3 : Below V.heap.size V w3) (hb : Box w3 P n v) (ho : Row w3 V.heap.size v3 zs) (hP : P < w.heap.size) :
    PutPost P n ys w (.returned (.tuple #[])) (w3.setCell ⟨P, 1, none⟩ v3) := by
  subst he
  refine ⟨v3, rfl, hb.store, rd_store ho.rd (fun g hg => ?_) _ _, grown_store (grown_of_below (hV.trans (h3.mono hV.size)) _) _ _, ?_⟩
  · have := own_block ho g hg; omega
  · exact (Own.far ⟨_, ho⟩ (fun g hg => by have := own_block ho g hg; omega) _ _).down hV.size

set_option maxRecDepth 100000 in
set_option maxHeartbeats 4000000 in
theorem spec_put_some (P : Nat) (n : Int) (g c : Nat) (xs : List Pr) (x : Pr) (w : World) (hbox : Box w P n (.slice (some ⟨g, 0, none⟩) xs.length c)) (hgP : g ≠ P) (hg : g < w.heap.size) (hl0 : 0 < xs.length) (hl : xs.length ≤ 1000) (hcap : xs.length ≤ c) (hcm : c ≤ maxLen)
    (hc : ∀ i (hi : i < xs.length), w.cell? ⟨g, i * 2, none⟩ = some (.int .i64 xs[i].1) ∧ w.cell? ⟨g, i * 2 + 1, none⟩ = some (.int .i64 xs[i].2)) :
    Calls Try.prog 67 #[.pointer (some ⟨P, 0, none⟩), .agg #[.int .i64 x.1, .int .i64 x.2]] w (PutPost P n (putI xs x) w) := by
  obtain ⟨p, q⟩ := x
  simp only
  have HC : Hid _ := hc
  have HBX : Hid (Box w P n (.slice (some ⟨g, 0, none⟩) xs.length c)) := hbox
  have hP : P < w.heap.size := hbox.lt
  obtain ⟨i0, hi, hz0, hz1, hz2⟩ := info_parts info_blk
  unfold maxLen at hcm
  clear hc hbox
  go_enter Try.func67, Try.ntmps67
  go_wp2
  go_loopw [4] (fun i wr => ∃ k : Nat, k ≤ xs.length ∧ i = .int .i64 k ∧ Hid (∀ j y, j < k → xs[j]? = some y → y.1 < p) ∧ Below (w.alloc (.cells #[.int .i64 p, .int .i64 q] 68)).heap.size (w.alloc (.cells #[.int .i64 p, .int .i64 q] 68)) wr) (fun i _ => xs.length - (intOf i).toNat)
  case atStart => exact ⟨0, by omega, rfl, fun j y h => by omega, Below.refl _ _⟩
  case round =>
    obtain ⟨k, hk, rfl, HJ, hbel⟩ := hrel
    have HB : Hid (Below w.heap.size w wr) := ((Below.refl w.heap.size w).alloc (Nat.le_refl _) _).trans (hbel.mono (by simp))
    have x0 : wr.cell? ⟨w.heap.size, 0, none⟩ = some (.int .i64 p) := (hbel.cell (p := ⟨w.heap.size, 0, none⟩) (by simp)).trans (by simp)
    have x1 : wr.cell? ⟨w.heap.size, 1, none⟩ = some (.int .i64 q) := (hbel.cell (p := ⟨w.heap.size, 1, none⟩) (by simp)).trans (by simp)
    have HBR : Hid (Box wr P n (.slice (some ⟨g, 0, none⟩) xs.length c)) := (HB.out.block P hP).trans HBX.out
    obtain ⟨b0, b1, f0, f1⟩ := HBR.out.cells
    by_cases hgo : ∃ hlt : k < xs.length, xs[k].1 < p
    · obtain ⟨hlt, hless⟩ := hgo
      have e0 := (HB.out.cell (p := ⟨g, k * 2, none⟩) hg).trans (HC.out k hlt).1
      have HJ2 : Hid (∀ j y, j < k + 1 → xs[j]? = some y → y.1 < p) := fun j y hj hy => by
        by_cases e : j = k
        · subst e; rw [List.getElem?_eq_getElem hlt] at hy; injection hy with hy; subst hy; exact hless
        · exact HJ.out j y (by omega) hy
      generalize xs[k].1 = y0 at *
      clear HJ
      have hd : decide ((k : Int) < (xs.length : Int)) = true := decide_eq_true (by omega)
      go_wp2
      go_quiet (fail)
      go_wp2
      go_roundw
      case rel => exact ⟨k + 1, by omega, by go_num, HJ2.out, below_drewN hbel _⟩
      case measure => simp [intOf]; omega
    · have HW : Hid (putI xs (p, q) = xs.take k ++ (p, q) :: xs.drop k) := by
        have := while_at p xs k HJ.out (fun y hy => by
          have hlt : k < xs.length := by
            rcases Nat.lt_or_ge k xs.length with h1 | h1
            · exact h1
            · rw [List.getElem?_eq_none h1] at hy; cases hy
          rw [List.getElem?_eq_getElem hlt] at hy; injection hy with hy; subst hy
          exact fun h => hgo ⟨hlt, h⟩) hk
        rw [Hid, putI, this.1, this.2]
      by_cases hlt : k < xs.length
      · have e0 := (HB.out.cell (p := ⟨g, k * 2, none⟩) hg).trans (HC.out k hlt).1
        have hnl : ¬ xs[k].1 < p := fun h => hgo ⟨hlt, h⟩
        generalize xs[k].1 = y0 at *
        clear HJ hgo
        have hd : decide ((k : Int) < (xs.length : Int)) = true := decide_eq_true (by omega)
        go_wp2
        go_quiet (fail)
        go_upto_region 4 with fail
        obtain ⟨V, hV⟩ : ∃ V, V = wr.drewN nq := ⟨_, rfl⟩
        have HBV : Hid (Below w.heap.size w V) := by rw [hV]; exact below_drewN HB.out _
        have hVs : w.heap.size < V.heap.size := by rw [hV]; exact cell_lt x0
        have HBP : Hid (Box V P n (.slice (some ⟨g, 0, none⟩) xs.length c)) := by rw [hV]; exact HBR.out
        have X0 : V.cell? ⟨w.heap.size, 0, none⟩ = some (.int .i64 p) := by rw [hV]; exact x0
        have X1 : V.cell? ⟨w.heap.size, 1, none⟩ = some (.int .i64 q) := by rw [hV]; exact x1
        rw [← hV]
        clear hV x0 x1 HBR HB hbel b0 b1 f0 f1 e0
        have HR : Hid (∀ j u, (cellsB xs)[j]? = some u → V.cell? ⟨g, j, none⟩ = some u) := fun j u hu => (HBV.out.cell (p := ⟨g, j, none⟩) hg).trans (cells_of HC.out j u hu)
        obtain ⟨b0, b1, f0, f1⟩ := HBP.out.cells
        have hPV : P < V.heap.size := Nat.lt_trans hP hVs
        have hgV : g < V.heap.size := Nat.lt_trans hg hVs
        go_wp2_with (at_builtin; refine wpList_append_own _ rfl _ _ 27 rfl V.heap.size 68 i0 (.agg #[.int .i64 0, .int .i64 0]) 2 16 Try.underlying27 hi hz0 hz1 hz2 rfl (by decide) _ 0 [] rfl (World.ownsRow_made V #[] 0 (Nat.le_refl _) (by unfold maxLen; omega) rfl) ⟨g, 0, none⟩ k c (cellsB (xs.take k)) rfl ?l1 ?c1 ?c2 ?c3 ?c4 ?c5 ?_)
        case l1 => rw [cellsB_len, List.length_take]; omega
        case c1 =>
          intro j u hu
          rw [← cellsB_take, List.getElem?_take] at hu
          have hu' : (cellsB xs)[j]? = some u := by
            by_cases hj : j < k * 2
            · rwa [if_pos hj] at hu
            · rw [if_neg hj] at hu; cases hu
          rw [add_at, Nat.zero_add]
          exact ((Below.alloc (Below.refl _ V) (Nat.le_refl _) _).cell (p := ⟨g, j, none⟩) hgV).trans (HR.out j u hu')
        case c2 => exact fun u hu => cellsB_one hu
        case c3 => unfold maxLen; omega
        case c4 => omega
        case c5 => simp
        intro v1 w1 own1 gr1 _
        have hb1 : Below V.heap.size V w1 := ((Below.refl _ V).alloc (Nat.le_refl _) _).grown gr1 (by simp) (fun k e => by simp [Value.ownBlock] at e; omega)
        have hs1 := hb1.size
        have Y0 := (hb1.cell (p := ⟨w.heap.size, 0, none⟩) hVs).trans X0
        have Y1 := (hb1.cell (p := ⟨w.heap.size, 1, none⟩) hVs).trans X1
        have HBP1 : Hid (Box w1 P n (.slice (some ⟨g, 0, none⟩) xs.length c)) := (hb1.block P hPV).trans HBP.out
        have HB1 : Hid (Below V.heap.size V w1) := hb1
        have OWN1 : Hid (w1.ownsRow V.heap.size 68 2 v1 k (cellsB (xs.take k))) := own1
        have hW1 : w.heap.size < w1.heap.size := Nat.lt_of_lt_of_le hVs hs1
        clear b0 b1 f0 f1 X0 X1 gr1 own1 hb1
        go_wp2_with (at_builtin; refine wpList_append_own _ rfl _ _ 27 rfl V.heap.size 68 i0 (.agg #[.int .i64 0, .int .i64 0]) 2 16 Try.underlying27 hi hz0 hz1 hz2 rfl (by decide) _ k _ rfl (World.ownsRow.alloc OWN1.out _) ⟨w1.heap.size, 0, none⟩ 1 1 [.int .i64 p, .int .i64 q] rfl rfl ?c1 ?c2 ?c3 ?c4 ?c5 ?_)
        case c1 =>
          intro j u hu
          match j, hu with
          | 0, hu => simp at hu; subst hu; simp [Addr.add]
          | 1, hu => simp at hu; subst hu; simp [Addr.add]
        case c2 => intro u hu; simp at hu; rcases hu with rfl | rfl <;> rfl
        case c3 => unfold maxLen; omega
        case c4 => omega
        case c5 => simp; omega
        intro v2 w2 own2 gr2 _
        have hb2 : Below V.heap.size V w2 := (HB1.out.alloc HB1.out.size _).grown gr2 (by simp; omega) (own_block OWN1.out)
        have hs2 := hb2.size
        have HB2 : Hid (Below V.heap.size V w2) := hb2
        have HBP2 : Hid (Box w2 P n (.slice (some ⟨g, 0, none⟩) xs.length c)) := (hb2.block P hPV).trans HBP.out
        have OWN2 : Hid (w2.ownsRow V.heap.size 68 2 v2 (k + 1) (cellsB (xs.take k) ++ [.int .i64 p, .int .i64 q])) := own2
        obtain ⟨b0, b1, f0, f1⟩ := HBP2.out.cells
        clear Y0 Y1 gr2 own2 hb2 HBP1 HB1 OWN1
        go_wp2_with (at_builtin; refine wpList_append_own _ rfl _ _ 27 rfl V.heap.size 68 i0 (.agg #[.int .i64 0, .int .i64 0]) 2 16 Try.underlying27 hi hz0 hz1 hz2 rfl (by decide) _ (k + 1) _ rfl OWN2.out ⟨g, k * 2, none⟩ (xs.length - k) (c - k) (cellsB (xs.drop k)) ?hx ?l1 ?c1 ?c2 ?c3 ?c4 ?c5 ?_)
        case hx => rfl
        case l1 => rw [cellsB_len, List.length_drop]
        case c1 =>
          intro j u hu
          rw [← cellsB_drop, List.getElem?_drop] at hu
          rw [add_at]
          exact (HB2.out.cell (p := ⟨g, k * 2 + j, none⟩) hgV).trans (HR.out _ u hu)
        case c2 => exact fun u hu => cellsB_one hu
        case c3 => unfold maxLen; omega
        case c4 => omega
        case c5 => exact hs2
        intro v3 w3 own3 gr3 _
        have hb3 : Below V.heap.size V w3 := HB2.out.grown gr3 hs2 (own_block OWN2.out)
        have HB3 : Hid (Below V.heap.size V w3) := hb3
        have HBP3 : Hid (Box w3 P n (.slice (some ⟨g, 0, none⟩) xs.length c)) := (hb3.block P hPV).trans HBP.out
        have OWN3 : Hid (Row w3 V.heap.size v3 (xs.take k ++ (p, q) :: xs.drop k)) := by
          have e1 : (xs.take k ++ (p, q) :: xs.drop k).length = k + 1 + (xs.length - k) := by simp; omega
          have e2 : cellsB (xs.take k ++ (p, q) :: xs.drop k) = cellsB (xs.take k) ++ Value.int .i64 p :: Value.int .i64 q :: cellsB (xs.drop k) := by rw [cellsB_app]; rfl
          rw [Hid, Row, e1, e2]
          exact own3
        obtain ⟨d0, d1, h0, h1⟩ := HBP3.out.cells
        clear b0 b1 f0 f1 gr3 own3 hb3 HBP2 HB2 OWN2
        obtain ⟨a3, c3, hv3, _⟩ := OWN3.out.rd.form
        obtain ⟨L, hL⟩ : ∃ L, L = (xs.take k ++ (p, q) :: xs.drop k).length := ⟨_, rfl⟩
        rw [← hL] at hv3
        subst hv3
        clear hL
        go_wp2
        go_end0
        exact put_end HW.out HBV.out hPV HB3.out HBP3.out OWN3.out hP
      · have hd : decide ((k : Int) < (xs.length : Int)) = false := decide_eq_false (by omega)
        clear HJ hgo
        go_wp2
        go_quiet (fail)
        go_upto_region 4 with fail
        obtain ⟨V, hV⟩ : ∃ V, V = wr.drewN nq := ⟨_, rfl⟩
        have HBV : Hid (Below w.heap.size w V) := by rw [hV]; exact below_drewN HB.out _
        have hVs : w.heap.size < V.heap.size := by rw [hV]; exact cell_lt x0
        have HBP : Hid (Box V P n (.slice (some ⟨g, 0, none⟩) xs.length c)) := by rw [hV]; exact HBR.out
        have X0 : V.cell? ⟨w.heap.size, 0, none⟩ = some (.int .i64 p) := by rw [hV]; exact x0
        have X1 : V.cell? ⟨w.heap.size, 1, none⟩ = some (.int .i64 q) := by rw [hV]; exact x1
        rw [← hV]
        clear hV x0 x1 HBR HB hbel b0 b1 f0 f1
        have HR : Hid (∀ j u, (cellsB xs)[j]? = some u → V.cell? ⟨g, j, none⟩ = some u) := fun j u hu => (HBV.out.cell (p := ⟨g, j, none⟩) hg).trans (cells_of HC.out j u hu)
        obtain ⟨b0, b1, f0, f1⟩ := HBP.out.cells
        have hPV : P < V.heap.size := Nat.lt_trans hP hVs
        have hgV : g < V.heap.size := Nat.lt_trans hg hVs
        go_wp2_with (at_builtin; refine wpList_append_own _ rfl _ _ 27 rfl V.heap.size 68 i0 (.agg #[.int .i64 0, .int .i64 0]) 2 16 Try.underlying27 hi hz0 hz1 hz2 rfl (by decide) _ 0 [] rfl (World.ownsRow_made V #[] 0 (Nat.le_refl _) (by unfold maxLen; omega) rfl) ⟨g, 0, none⟩ k c (cellsB (xs.take k)) rfl ?l1 ?c1 ?c2 ?c3 ?c4 ?c5 ?_)
        case l1 => rw [cellsB_len, List.length_take]; omega
        case c1 =>
          intro j u hu
          rw [← cellsB_take, List.getElem?_take] at hu
          have hu' : (cellsB xs)[j]? = some u := by
            by_cases hj : j < k * 2
            · rwa [if_pos hj] at hu
            · rw [if_neg hj] at hu; cases hu
          rw [add_at, Nat.zero_add]
          exact ((Below.alloc (Below.refl _ V) (Nat.le_refl _) _).cell (p := ⟨g, j, none⟩) hgV).trans (HR.out j u hu')
        case c2 => exact fun u hu => cellsB_one hu
        case c3 => unfold maxLen; omega
        case c4 => omega
        case c5 => simp
        intro v1 w1 own1 gr1 _
        have hb1 : Below V.heap.size V w1 := ((Below.refl _ V).alloc (Nat.le_refl _) _).grown gr1 (by simp) (fun k e => by simp [Value.ownBlock] at e; omega)
        have hs1 := hb1.size
        have Y0 := (hb1.cell (p := ⟨w.heap.size, 0, none⟩) hVs).trans X0
        have Y1 := (hb1.cell (p := ⟨w.heap.size, 1, none⟩) hVs).trans X1
        have HBP1 : Hid (Box w1 P n (.slice (some ⟨g, 0, none⟩) xs.length c)) := (hb1.block P hPV).trans HBP.out
        have HB1 : Hid (Below V.heap.size V w1) := hb1
        have OWN1 : Hid (w1.ownsRow V.heap.size 68 2 v1 k (cellsB (xs.take k))) := own1
        have hW1 : w.heap.size < w1.heap.size := Nat.lt_of_lt_of_le hVs hs1
        clear b0 b1 f0 f1 X0 X1 gr1 own1 hb1
        go_wp2_with (at_builtin; refine wpList_append_own _ rfl _ _ 27 rfl V.heap.size 68 i0 (.agg #[.int .i64 0, .int .i64 0]) 2 16 Try.underlying27 hi hz0 hz1 hz2 rfl (by decide) _ k _ rfl (World.ownsRow.alloc OWN1.out _) ⟨w1.heap.size, 0, none⟩ 1 1 [.int .i64 p, .int .i64 q] rfl rfl ?c1 ?c2 ?c3 ?c4 ?c5 ?_)
        case c1 =>
          intro j u hu
          match j, hu with
          | 0, hu => simp at hu; subst hu; simp [Addr.add]
          | 1, hu => simp at hu; subst hu; simp [Addr.add]
        case c2 => intro u hu; simp at hu; rcases hu with rfl | rfl <;> rfl
        case c3 => unfold maxLen; omega
        case c4 => omega
        case c5 => simp; omega
        intro v2 w2 own2 gr2 _
        have hb2 : Below V.heap.size V w2 := (HB1.out.alloc HB1.out.size _).grown gr2 (by simp; omega) (own_block OWN1.out)
        have hs2 := hb2.size
        have HB2 : Hid (Below V.heap.size V w2) := hb2
        have HBP2 : Hid (Box w2 P n (.slice (some ⟨g, 0, none⟩) xs.length c)) := (hb2.block P hPV).trans HBP.out
        have OWN2 : Hid (w2.ownsRow V.heap.size 68 2 v2 (k + 1) (cellsB (xs.take k) ++ [.int .i64 p, .int .i64 q])) := own2
        obtain ⟨b0, b1, f0, f1⟩ := HBP2.out.cells
        clear Y0 Y1 gr2 own2 hb2 HBP1 HB1 OWN1
        by_cases hck : c = k
        · go_wp2_with (at_builtin; refine wpList_append_own _ rfl _ _ 27 rfl V.heap.size 68 i0 (.agg #[.int .i64 0, .int .i64 0]) 2 16 Try.underlying27 hi hz0 hz1 hz2 rfl (by decide) _ (k + 1) _ rfl OWN2.out ⟨g, 0, none⟩ (xs.length - k) 0 (cellsB (xs.drop k)) ?hx ?l1 ?c1 ?c2 ?c3 ?c4 ?c5 ?_)
          case hx => rfl
          case l1 => rw [cellsB_len, List.length_drop]
          case c1 =>
            intro j u hu
            rw [List.drop_eq_nil_of_le (by omega)] at hu
            simp [cellsB] at hu
          case c2 => exact fun u hu => cellsB_one hu
          case c3 => unfold maxLen; omega
          case c4 => omega
          case c5 => exact hs2
          intro v3 w3 own3 gr3 _
          have hb3 : Below V.heap.size V w3 := HB2.out.grown gr3 hs2 (own_block OWN2.out)
          have HB3 : Hid (Below V.heap.size V w3) := hb3
          have HBP3 : Hid (Box w3 P n (.slice (some ⟨g, 0, none⟩) xs.length c)) := (hb3.block P hPV).trans HBP.out
          have OWN3 : Hid (Row w3 V.heap.size v3 (xs.take k ++ (p, q) :: xs.drop k)) := by
            have e1 : (xs.take k ++ (p, q) :: xs.drop k).length = k + 1 + (xs.length - k) := by simp; omega
            have e2 : cellsB (xs.take k ++ (p, q) :: xs.drop k) = cellsB (xs.take k) ++ Value.int .i64 p :: Value.int .i64 q :: cellsB (xs.drop k) := by rw [cellsB_app]; rfl
            rw [Hid, Row, e1, e2]
            exact own3
          obtain ⟨d0, d1, h0, h1⟩ := HBP3.out.cells
          clear b0 b1 f0 f1 gr3 own3 hb3 HBP2 HB2 OWN2
          obtain ⟨a3, c3, hv3, _⟩ := OWN3.out.rd.form
          obtain ⟨L, hL⟩ : ∃ L, L = (xs.take k ++ (p, q) :: xs.drop k).length := ⟨_, rfl⟩
          rw [← hL] at hv3
          subst hv3
          clear hL
          go_wp2
          go_end0
          exact put_end HW.out HBV.out hPV HB3.out HBP3.out OWN3.out hP
        · go_wp2_with (at_builtin; refine wpList_append_own _ rfl _ _ 27 rfl V.heap.size 68 i0 (.agg #[.int .i64 0, .int .i64 0]) 2 16 Try.underlying27 hi hz0 hz1 hz2 rfl (by decide) _ (k + 1) _ rfl OWN2.out ⟨g, k * 2, none⟩ (xs.length - k) (c - k) (cellsB (xs.drop k)) ?hx ?l1 ?c1 ?c2 ?c3 ?c4 ?c5 ?_)
          case hx => rfl
          case l1 => rw [cellsB_len, List.length_drop]
          case c1 =>
            intro j u hu
            rw [List.drop_eq_nil_of_le (by omega)] at hu
            simp [cellsB] at hu
          case c2 => exact fun u hu => cellsB_one hu
          case c3 => unfold maxLen; omega
          case c4 => omega
          case c5 => exact hs2
          intro v3 w3 own3 gr3 _
          have hb3 : Below V.heap.size V w3 := HB2.out.grown gr3 hs2 (own_block OWN2.out)
          have HB3 : Hid (Below V.heap.size V w3) := hb3
          have HBP3 : Hid (Box w3 P n (.slice (some ⟨g, 0, none⟩) xs.length c)) := (hb3.block P hPV).trans HBP.out
          have OWN3 : Hid (Row w3 V.heap.size v3 (xs.take k ++ (p, q) :: xs.drop k)) := by
            have e1 : (xs.take k ++ (p, q) :: xs.drop k).length = k + 1 + (xs.length - k) := by simp; omega
            have e2 : cellsB (xs.take k ++ (p, q) :: xs.drop k) = cellsB (xs.take k) ++ Value.int .i64 p :: Value.int .i64 q :: cellsB (xs.drop k) := by rw [cellsB_app]; rfl
            rw [Hid, Row, e1, e2]
            exact own3
          obtain ⟨d0, d1, h0, h1⟩ := HBP3.out.cells
          clear b0 b1 f0 f1 gr3 own3 hb3 HBP2 HB2 OWN2
          obtain ⟨a3, c3, hv3, _⟩ := OWN3.out.rd.form
          obtain ⟨L, hL⟩ : ∃ L, L = (xs.take k ++ (p, q) :: xs.drop k).length := ⟨_, rfl⟩
          rw [← hL] at hv3
          subst hv3
          clear hL
          go_wp2
          go_end0
          exact put_end HW.out HBV.out hPV HB3.out HBP3.out OWN3.out hP
end Go.Proofs.Ytcokchfedaoccab.bspec
