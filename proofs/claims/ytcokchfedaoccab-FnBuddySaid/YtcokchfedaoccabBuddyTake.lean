/-
  The walks of the specification's l04Ill, l04New, l04Take.
-/
import Derived.Test.YtcokchfedaoccabBuddyCopy
namespace Go.Proofs.Ytcokchfedaoccab.bspec
open Go.RowKit Go.Deep Go.Sort
open Go.Proofs.Ytcokchfedaoccab
open Go.Proofs.Ytcokchfedaoccab.brows
open Go.Proofs.Ytcokchfedaoccab.bd (Blk)
set_option linter.unusedVariables false

theorem putI_emb (l : List Blk) (y : Blk) : putI (l.map emb) (emb y) = (bd.putL l y).map emb := by
  have h : (fun z : Blk => decide ((emb z).1 < (emb y).1)) = fun z => decide (z.1 < y.1) := by
    funext z; simp [emb]
  simp only [putI, bd.putL, List.map_append, List.map_cons, List.takeWhile_map, List.dropWhile_map, Function.comp_def, h]
theorem out_emb (l : List Blk) (i : Nat) : (l.map emb).take i ++ (l.map emb).drop (i + 1) = (bd.outL l i).map emb := by
  simp [bd.outL, List.map_take, List.map_drop]

/-- an answer that tells a code alone -/
def illV (code : Int) : Value := .agg #[.int .i64 0, .slice none 0 0, .int .i64 0, .int .i64 code]
theorem spec_ill (code : Int) (w : World) : Calls Try.prog 49 #[.int .i64 code] w fun e w' => e = .returned (illV code) ∧ Below w.heap.size w w' := by
  go_enter Try.func49, Try.ntmps49
  go_wp2
  exact bodyPost_ret (v := illV code) (by simp [results, Try.results49, go_sem, illV]) rfl ⟨rfl, (Below.refl _ _).alloc (Nat.le_refl _) _⟩

theorem best_some (xs : List Pr) (o : Int) : ∀ k, k ≤ xs.length → ∃ r, Best xs o k r
  | 0, _ => ⟨-1, best_zero xs o⟩
  | k + 1, hk => by
    obtain ⟨r, h⟩ := best_some xs o k (by omega)
    have hy : xs[k]? = some xs[k] := List.getElem?_eq_getElem (by omega)
    by_cases hlt : (xs[k]).2 < o
    · exact ⟨r, best_less h hy hlt⟩
    · rcases best_at h with rfl | ⟨i, hi, rfl⟩
      · exact ⟨k, best_first h hy (by omega)⟩
      · have hx : xs[i]? = some xs[i] := List.getElem?_eq_getElem (by omega)
        by_cases hl : (xs[k]).2 < (xs[i]).2
        · exact ⟨k, best_next h hx hy (by omega) hl⟩
        · exact ⟨i, best_stay h hx hy hl⟩
theorem bestI_is (xs : List Pr) (o : Int) : Best xs o xs.length (bestI xs o) :=
  Classical.epsilon_spec (p := fun r => Best xs o xs.length r) (best_some xs o xs.length (Nat.le_refl _))

/-- the answer's box -/
def Res (w : World) (R : Nat) (a b c d : Value) : Prop := w.heap[R]? = some (.cells #[a, b, c, d] 37 (0, 0))
theorem Res.cells {w : World} {R : Nat} {a b c d : Value} (h : Res w R a b c d) :
    (w.cell? ⟨R, 0, none⟩ = some a ∧ w.cell? ⟨R, 1, none⟩ = some b ∧ w.cell? ⟨R, 2, none⟩ = some c ∧ w.cell? ⟨R, 3, none⟩ = some d) ∧
    w.frozen? ⟨R, 0, none⟩ = false ∧ w.frozen? ⟨R, 1, none⟩ = false ∧ w.frozen? ⟨R, 2, none⟩ = false ∧ w.frozen? ⟨R, 3, none⟩ = false := by
  have f : ∀ i, w.frozen? ⟨R, i, none⟩ = false := fun i => by simp [World.frozen?, show w.heap[R]? = _ from h]
  refine ⟨⟨?_, ?_, ?_, ?_⟩, f 0, f 1, f 2, f 3⟩
  · rw [cell_of_row w R 0 _ 37 (0, 0) h]; rfl
  · rw [cell_of_row w R 1 _ 37 (0, 0) h]; rfl
  · rw [cell_of_row w R 2 _ 37 (0, 0) h]; rfl
  · rw [cell_of_row w R 3 _ 37 (0, 0) h]; rfl
theorem Res.lt {w : World} {R : Nat} {a b c d : Value} (h : Res w R a b c d) : R < w.heap.size := (Array.getElem?_eq_some_iff.1 h).1
theorem Res.below {w w' : World} {R : Nat} {a b c d : Value} (h : Res w R a b c d) {B : Nat} (hb : Below B w w') (hR : R < B) : Res w' R a b c d := (hb.block R hR).trans h
theorem Res.grown {w w' : World} {R P : Nat} {a b c d : Value} (h : Res w R a b c d) (hg : w.grownBy w' (some P)) (hR : R ≠ P) : Res w' R a b c d := (hg.block R h.lt (by simp; omega)).trans h

theorem rd_apart {w : World} {v : Value} {xs : List Pr} (h : Rd w v xs) {R : Nat} (hR : 0 < xs.length → ∀ g, v.ownBlock = some g → g ≠ R) (i : Nat) (u : Value) : Rd (w.setCell ⟨R, i, none⟩ u) v xs := by
  by_cases hn : 0 < xs.length
  · exact rd_store h (hR hn) i u
  · obtain ⟨a, c, rfl, h1, h2, _⟩ := h
    exact ⟨a, c, rfl, h1, h2, fun h => absurd h hn⟩
theorem rd_res4 {w : World} {v : Value} {xs : List Pr} {R : Nat} {a c d x0 x1 x2 x3 : Value} {s : Option Addr} {n m : Nat} (h : Rd w v xs) (hr : Res w R a (.slice s n m) c d) :
    Rd ((((w.setCell ⟨R, 0, none⟩ x0).setCell ⟨R, 1, none⟩ x1).setCell ⟨R, 2, none⟩ x2).setCell ⟨R, 3, none⟩ x3) v xs := by
  have hne : 0 < xs.length → ∀ g, v.ownBlock = some g → g ≠ R := fun hn g hg e => by
    obtain ⟨g', c', rfl, _, _, _, hc⟩ := h.at hn
    simp [Value.ownBlock] at hg
    subst hg e
    have h1 := (hc 0 hn).2
    simp only [Nat.zero_mul, Nat.zero_add] at h1
    rw [hr.cells.1.2.1] at h1
    cases h1
  exact rd_apart (rd_apart (rd_apart (rd_apart h hne _ _) hne _ _) hne _ _) hne _ _

/-- a box of an answer is no row of blocks -/
theorem own_ne {w : World} {base R : Nat} {v a b c d : Value} (h : Own w base v) (hr : Res w R a b c d) : ∀ g, v.ownBlock = some g → g ≠ R := by
  intro g hg e
  obtain ⟨ys, hl, h1⟩ := h
  rcases h1 with ⟨rfl, _⟩ | ⟨g', cap, cur, rfl, _, hc, _⟩
  · simp [Value.ownBlock] at hg
  · simp [Value.ownBlock] at hg
    subst hg e
    have h2 : some (Obj.cells cur 68 (0, 0)) = some (Obj.cells #[a, b, c, d] 37 (0, 0)) := hc.symm.trans hr
    simp at h2
theorem own_res4 {w : World} {base R : Nat} {v a b c d x0 x1 x2 x3 : Value} (h : Own w base v) (hr : Res w R a b c d) : Own ((((w.setCell ⟨R, 0, none⟩ x0).setCell ⟨R, 1, none⟩ x1).setCell ⟨R, 2, none⟩ x2).setCell ⟨R, 3, none⟩ x3) base v :=
  have hn := own_ne h hr
  (((h.far hn _ _).far hn _ _).far hn _ _).far hn _ _
/-- what l04Take tells -/
def TakePost (n o : Nat) (l : List Blk) (w : World) (e : Ending) (w' : World) : Prop :=
  (e = .returned (illV 9) ∧ Best (l.map emb) o l.length (-1) ∧ Below w.heap.size w w') ∨
  ∃ (i : Nat) (x : Blk) (v' : Value) (l' : List Blk), e = .returned (.agg #[.int .i64 n, v', .int .i64 x.1, .int .i64 0]) ∧ Best (l.map emb) o l.length i ∧ l[i]? = some x ∧ bd.Taken n l (x.1, o) l' ∧ Rd w' v' (l'.map emb) ∧ Below w.heap.size w w' ∧ Own w' w.heap.size v'

/-- what holds round for round: the halves down to order j are put, the block of order j is beside -/
def TakeInv (n o xa xq : Nat) (l : List Blk) (P X R : Nat) (w : World) (cv : Value) (wr : World) : Prop :=
  ∃ (j : Nat) (vj : Value) (lj : List Blk), o ≤ j ∧ j ≤ xq ∧ cv = .int .i64 ((j : Int) - 1) ∧ bd.Beside n lj (xa, j) ∧ (∀ p, bd.Cov lj p ∨ bd.cv (xa, j) p ↔ bd.Cov l p) ∧ bd.sumL lj + 2 ^ j = bd.sumL l ∧
    Box wr P n vj ∧ Rd wr vj (lj.map emb) ∧ Res wr R (.int .i64 0) (.slice none 0 0) (.int .i64 0) (.int .i64 0) ∧ wr.cell? ⟨X, 0, none⟩ = some (.int .i64 xa) ∧ Below w.heap.size w wr ∧ Own wr w.heap.size vj

set_option maxHeartbeats 4000000 in
theorem spec_take0 (n o : Nat) (ho : o ≤ 5) (l : List Blk) (hr : bd.Right n l) (v : Value) (w : World) (hrd : Rd w v (l.map emb)) :
    Calls Try.prog 50 #[.agg #[.int .i64 n, v], .int .i64 o] w (TakePost n o l w) := by
  have hll : (l.map emb).length = l.length := by simp
  have hl32 := hr.len_le
  obtain ⟨a, c, hv, _⟩ := hrd.form
  have HRD : Hid (Rd w v (l.map emb)) := hrd
  have HBEST : Hid (∀ W, Below w.heap.size w W → _) := fun W hW => spec_best (n : Int) (o : Int) v (l.map emb) W (HRD.out.below hW) (by simp; omega)
  have HILL : Hid (∀ W, _) := fun W => spec_ill 9 W
  rw [hll] at hv
  subst hv
  clear hrd hll
  go_enter Try.func50, Try.ntmps50
  go_wp2_with fail
  obtain ⟨V, hV⟩ : ∃ V, V = (w.alloc (.cells #[.int .i64 n, .slice a l.length c] 29)).alloc (.cells #[.int .i64 0, .slice none 0 0, .int .i64 0, .int .i64 0] 37) := ⟨_, rfl⟩
  have HBV : Hid (Below w.heap.size w V) := by rw [hV]; exact ((Below.refl _ _).alloc (Nat.le_refl _) _).alloc (by simp) _
  have HRV : Hid (Res V (w.heap.size + 1) (.int .i64 0) (.slice none 0 0) (.int .i64 0) (.int .i64 0)) := by
    have := (MapKept.heap_alloc (w.alloc (.cells #[.int .i64 n, .slice a l.length c] 29)) (.cells #[.int .i64 0, .slice none 0 0, .int .i64 0, .int .i64 0] 37)).1
    rw [← hV] at this
    simpa [Hid, Res] using this
  have HXV : Hid (Box V w.heap.size n (.slice a l.length c)) := by
    have h1 := (MapKept.heap_alloc w (.cells #[.int .i64 n, .slice a l.length c] 29)).1
    have h2 : Below (w.alloc (.cells #[.int .i64 n, .slice a l.length c] 29)).heap.size (w.alloc (.cells #[.int .i64 n, .slice a l.length c] 29)) V := by rw [hV]; exact (Below.refl _ _).alloc (Nat.le_refl _) _
    exact (h2.block _ (by simp)).trans h1
  rw [← hV]
  clear hV
  refine Calls.mono (HBEST.out V HBV.out) ?_
  rintro e w1 ⟨rfl, hb1⟩
  have hbest := bestI_is (l.map emb) (o : Int)
  rw [List.length_map] at hbest
  generalize bestI (l.map emb) (o : Int) = r at *
  have HB1 : Hid (Below w.heap.size w w1) := HBV.out.trans (hb1.mono HBV.out.size)
  have HR1 : Hid (Res w1 (w.heap.size + 1) (.int .i64 0) (.slice none 0 0) (.int .i64 0) (.int .i64 0)) := HRV.out.below hb1 HRV.out.lt
  have HX1 : Hid (Box w1 w.heap.size n (.slice a l.length c)) := (hb1.block _ HXV.out.lt).trans HXV.out
  clear hb1 HBV HRV HXV HBEST
  rcases best_at hbest with rfl | ⟨i, hi, rfl⟩
  · go_wp2_with fail
    refine Calls.mono (HILL.out _) ?_
    rintro e w2 ⟨rfl, hb2⟩
    have HR2 : Hid (Res w2 (w.heap.size + 1) (.int .i64 0) (.slice none 0 0) (.int .i64 0) (.int .i64 0)) := HR1.out.below hb2 HR1.out.lt
    have HB2 : Hid (Below w.heap.size w w2) := HB1.out.trans (hb2.mono HB1.out.size)
    obtain ⟨⟨r0, r1, r2, r3⟩, f0, f1, f2, f3⟩ := HR2.out.cells
    have HBE : Hid (Best (l.map emb) o l.length (-1)) := hbest
    clear hb2 HR1 HX1 HB1 hbest
    simp only [illV]
    go_wp2
    exact bodyPost_ret (v := illV 9) (by simp [results, Try.results50, go_sem, illV, r0, r1, r2, r3]) rfl
      (Or.inl ⟨rfl, HBE.out, (((HB2.out.setCell (by simp) _).setCell (by simp) _).setCell (by simp) _).setCell (by simp) _⟩)
  · have hi' : i < (l.map emb).length := by simpa using hi
    have hxi : (l.map emb)[i] = emb l[i] := by simp
    have HCUT : Hid (bd.Beside n (bd.outL l i) l[i] ∧ (∀ p, bd.Cov (bd.outL l i) p ∨ bd.cv l[i] p ↔ bd.Cov l p) ∧ bd.sumL (bd.outL l i) + 2 ^ (l[i]).2 = bd.sumL l) := bd.cut_start hr hi
    have HLI : Hid (l[i]? = some l[i]) := List.getElem?_eq_getElem hi
    have HBE : Hid (Best (l.map emb) o l.length i) := hbest
    have HCOPY : Hid (∀ W, Below w.heap.size w W → _) := fun W hW => spec_copy (n : Int) (.slice a l.length c) (l.map emb) W (HRD.out.below hW) (by simp; omega)
    obtain ⟨b0, b1, f0, f1⟩ := HX1.out.cells
    clear hbest HILL
    go_wp2_with fail
    refine Calls.mono (HCOPY.out w1 HB1.out) ?_
    rintro e w2 ⟨v2, rfl, hrd2, hb2⟩
    have HRD2 : Hid (Rd w2 v2 (l.map emb)) := hrd2
    have HB2 : Hid (Below w.heap.size w w2) := HB1.out.trans (hb2.mono HB1.out.size)
    have HR2 : Hid (Res w2 (w.heap.size + 1) (.int .i64 0) (.slice none 0 0) (.int .i64 0) (.int .i64 0)) := HR1.out.below hb2 HR1.out.lt
    clear hb2 hrd2 HB1 HR1 HX1 HCOPY b0 b1 f0 f1
    obtain ⟨a2, c2, hv2, _⟩ := HRD2.out.form
    rw [List.length_map] at hv2
    subst hv2
    have HDROP : Hid _ := spec_drop w2.heap.size (n : Int) (.slice a2 l.length c2) (l.map emb) i hi' (w2.alloc (.cells #[.int .i64 n, .slice a2 l.length c2] 29)) (MapKept.heap_alloc w2 _).1 (HRD2.out.below ((Below.refl _ _).alloc (Nat.le_refl _) _)) (by simp; omega)
    rw [hxi, out_emb] at HDROP
    go_wp2_with fail
    refine Calls.mono HDROP.out ?_
    rintro e w3 ⟨v3, rfl, hbox3, hrd3, hg3, _, hown3⟩
    have HOW3 : Hid (Own w3 w.heap.size v3) := hown3.down (by have := HB2.out.size; simp; omega)
    clear hown3
    obtain ⟨P, hP⟩ : ∃ P, P = w2.heap.size := ⟨_, rfl⟩
    have hPw : w.heap.size + 1 < w2.heap.size := HR2.out.lt
    have HB3 : Hid (Below w.heap.size w w3) := (HB2.out.alloc HB2.out.size _).grown hg3 (by simp; have := HB2.out.size; omega) (fun k e => by simp at e; omega)
    have HR3 : Hid (Res w3 (w.heap.size + 1) (.int .i64 0) (.slice none 0 0) (.int .i64 0) (.int .i64 0)) := (Res.below HR2.out ((Below.refl _ _).alloc (Nat.le_refl _) _) HR2.out.lt).grown hg3 (by omega)
    have HBX3 : Hid (Box w3 P n v3) := by rw [hP]; exact hbox3
    have HRD3 : Hid (Rd w3 v3 ((bd.outL l i).map emb)) := hrd3
    rw [← hP] at hPw
    rw [← hP]
    generalize hxq : l[i] = x at *
    obtain ⟨xa, xq⟩ := x
    have hq5 : xq ≤ 5 := Nat.le_trans HCUT.out.1.inn.ord hr.ord
    have hx32 : xa < 32 := Nat.lt_of_lt_of_le HCUT.out.1.inn.lt (bd.pow_le32 hr.ord)
    have hoq : o ≤ xq := by
      rcases HBE.out with ⟨h1, _⟩ | ⟨i', y, h1, h2, h3, h4, _⟩
      · omega
      · obtain rfl : i = i' := by omega
        rw [List.getElem?_map, HLI.out] at h3
        injection h3 with h3
        rw [← h3] at h4
        simp only [emb] at h4; omega
    clear hg3 hrd3 hbox3 HDROP HB2 HR2 HRD2 hP hxi hi'
    simp only [emb]
    go_wp2_with fail
    obtain ⟨X, hX⟩ : ∃ X, X = w3.heap.size := ⟨_, rfl⟩
    have hPX : P < X := by rw [hX]; exact HBX3.out.lt
    have HSZ : Hid (∀ o : Nat, o ≤ 5 → ∀ W, _) := fun o ho W => spec_size o ho W
    rw [← hX]
    have HXE : Hid (X = w3.heap.size) := hX
    clear hX
    go_loopw [8] (fun cv wr => TakeInv n o xa xq l P X (w.heap.size + 1) w cv wr) (fun cv _ => (intOf cv + 1).toNat)
    case atStart =>
      refine ⟨xq, v3, bd.outL l i, hoq, Nat.le_refl _, rfl, HCUT.out.1, HCUT.out.2.1, HCUT.out.2.2, ?_, ?_, ?_, ?_, ?_, ?_⟩
      · exact ((Below.alloc (Below.refl _ w3) (Nat.le_refl _) _).block P HBX3.out.lt).trans HBX3.out
      · exact HRD3.out.below ((Below.refl _ w3).alloc (Nat.le_refl _) _)
      · exact Res.below HR3.out ((Below.refl _ w3).alloc (Nat.le_refl _) _) HR3.out.lt
      · rw [HXE.out]; simp
      · exact HB3.out.alloc HB3.out.size _
      · exact HOW3.out.below ((Below.refl _ w3).alloc (Nat.le_refl _) _)
    case round =>
      obtain ⟨j, vj, lj, hoj, hjq, rfl, hbes, hcov, hsum, hbox, hrd, hres, hx0, hbel, hown⟩ := hrel
      by_cases hlt : o < j
      · obtain ⟨j, rfl⟩ : ∃ j', j = j' + 1 := ⟨j - 1, by omega⟩
        have hst := bd.cut_step hbes
        have hp32 : 2 ^ j ≤ 32 := bd.pow_le32 (by omega)
        have hjj : (((j + 1 : Nat) : Int) - 1) = (j : Int) := by omega
        rw [hjj]
        have hwr : IntKind.i64.wrap ((xa : Int) + ((2 ^ j : Nat) : Int)) = ((xa + 2 ^ j : Nat) : Int) := by rw [IntWalk.i64_in _ (by generalize 2 ^ j = s at *; omega)]; omega
        have hput := spec_put P (n : Int) vj (lj.map emb) (emb (xa + 2 ^ j, j)) wr.drew hbox hrd (by have := hbes.right.len_le; simp; omega)
        rw [putI_emb] at hput
        simp only [emb] at hput
        rw [← hwr] at hput
        have HPUT : Hid _ := hput
        have HS1 : Hid (∀ W, _) := HSZ.out j (by omega)
        have HST : Hid _ := hst
        have HCV : Hid _ := hcov
        have HSM : Hid _ := hsum
        have HRES : Hid (Res wr (w.heap.size + 1) (.int .i64 0) (.slice none 0 0) (.int .i64 0) (.int .i64 0)) := hres
        have HBEL : Hid (Below w.heap.size w wr) := hbel
        have hXl : X < wr.heap.size := cell_lt hx0
        clear hput hst hcov hsum hres hbel hown hbes hbox hrd hwr hjj HBX3 HRD3 HR3 HB3 HCUT HSZ
        generalize hsj : 2 ^ j = s at *
        have HSJ : Hid (2 ^ j = s) := hsj
        clear hsj
        go_wp2_with fail
        go_region_held3 (fun W => W.cell? ⟨X, 0, none⟩ = some (.int .i64 xa))
          (first | assumption | exact hx0 | exact hx1)
          (first
            | (go_at_call 46; refine Calls.mono (HS1.out _) ?_; rintro e w' ⟨rfl, rfl⟩)
            | (go_at_call 67; refine Calls.mono HPUT.out ?_; rintro e w4 ⟨v4, rfl, hbox4, hrd4, hg4, hown4⟩; have hx1 := hg4.cell hx0 (by simp; omega)))
        go_wp2_with fail
        go_roundw
        case rel =>
          have hRP : w.heap.size + 1 ≠ P := by omega
          have hBl := HBEL.out.size
          refine ⟨j, v4, bd.putL lj (xa + s, j), by omega, by omega, rfl, HST.out.1, fun p => (HST.out.2.1 p).trans (HCV.out p), ?_, hbox4, hrd4, Res.grown (w := wr.drew) HRES.out hg4 hRP, hx1, HBEL.out.drew.grown hg4 hBl (fun k e => by simp at e; omega), hown4.down hBl⟩
          rw [HSJ.out]
          exact HST.out.2.2.trans HSM.out
        case measure => simp [intOf]
      · obtain rfl : j = o := by omega
        obtain ⟨a4, c4, hv4, _⟩ := hrd.form
        obtain ⟨L, hL⟩ : ∃ L, L = (lj.map emb).length := ⟨_, rfl⟩
        rw [← hL] at hv4
        subst hv4
        obtain ⟨b0, b1, g0, g1⟩ := hbox.cells
        obtain ⟨⟨r0, r1, r2, r3⟩, f0, f1, f2, f3⟩ := hres.cells
        have HRD4 : Hid (Rd wr (.slice a4 L c4) (lj.map emb)) := hrd
        have HT : Hid (bd.Taken n l (xa, j) lj) := ⟨hbes, hcov, hsum⟩
        have HBEL : Hid (Below w.heap.size w wr) := hbel
        have HRES : Hid (Res wr (w.heap.size + 1) (.int .i64 0) (.slice none 0 0) (.int .i64 0) (.int .i64 0)) := hres
        have HOW : Hid (Own wr w.heap.size (.slice a4 L c4)) := hown
        clear hL hrd hbox hres hbes hcov hsum hbel hown HBX3 HRD3 HR3 HB3 HCUT HSZ
        go_wp2_with fail
        exact bodyPost_ret (v := .agg #[.int .i64 n, .slice a4 L c4, .int .i64 xa, .int .i64 0]) (by simp [results, Try.results50, go_sem, r0, r1, r2, r3]) rfl
          (Or.inr ⟨i, (xa, xq), .slice a4 L c4, lj, rfl, HBE.out, HLI.out, HT.out, rd_res4 HRD4.out HRES.out, (((HBEL.out.setCell (by simp) _).setCell (by simp) _).setCell (by simp) _).setCell (by simp) _, own_res4 HOW.out HRES.out⟩)
end Go.Proofs.Ytcokchfedaoccab.bspec
