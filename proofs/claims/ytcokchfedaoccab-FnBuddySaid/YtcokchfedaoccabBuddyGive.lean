/-
  The walk of the specification's l04Give.
-/
import Derived.Test.YtcokchfedaoccabBuddyTake
namespace Go.Proofs.Ytcokchfedaoccab.bspec
open Go.RowKit Go.Deep Go.Sort
open Go.Proofs.Ytcokchfedaoccab
open Go.Proofs.Ytcokchfedaoccab.brows
open Go.Proofs.Ytcokchfedaoccab.bd (Blk)
set_option linter.unusedVariables false

/-- two blocks share a page -/
def Meets (y x : Blk) : Prop := y.1 < x.1 + 2 ^ x.2 ∧ x.1 < y.1 + 2 ^ y.2
theorem off_iff (l : List Blk) (x : Blk) : bd.Off l x ↔ ∀ y ∈ l, ¬ Meets y x := by
  constructor
  · intro h y hy hm
    rcases bd.off_side h hy with e | e
    · have := hm.2; omega
    · have := hm.1; omega
  · intro h y hy p px py
    exact h y hy ⟨by have := px.2; have := py.1; omega, by have := py.2; have := px.1; omega⟩

/-- what l04Give tells -/
def GivePost (n : Nat) (l : List Blk) (x : Blk) (w : World) (e : Ending) (w' : World) : Prop :=
  (e = .returned (illV 10) ∧ ¬ bd.Off l x ∧ Below w.heap.size w w') ∨
  ∃ (v' : Value) (l' : List Blk), e = .returned (.agg #[.int .i64 n, v', .int .i64 0, .int .i64 0]) ∧ bd.Off l x ∧ bd.Given n l x l' ∧ Rd w' v' (l'.map emb) ∧ Below w.heap.size w w' ∧ Own w' w.heap.size v'

/-- a box of a block -/
def Blx (w : World) (X : Nat) (a b : Int) : Prop := w.heap[X]? = some (.cells #[.int .i64 a, .int .i64 b] 68 (0, 0))
theorem Blx.cells {w : World} {X : Nat} {a b : Int} (h : Blx w X a b) : w.cell? ⟨X, 0, none⟩ = some (.int .i64 a) ∧ w.cell? ⟨X, 1, none⟩ = some (.int .i64 b) ∧ w.frozen? ⟨X, 0, none⟩ = false ∧ w.frozen? ⟨X, 1, none⟩ = false := by
  refine ⟨?_, ?_, ?_, ?_⟩
  · rw [cell_of_row w X 0 _ 68 (0, 0) h]; rfl
  · rw [cell_of_row w X 1 _ 68 (0, 0) h]; rfl
  · simp [World.frozen?, show w.heap[X]? = _ from h]
  · simp [World.frozen?, show w.heap[X]? = _ from h]
theorem Blx.lt {w : World} {X : Nat} {a b : Int} (h : Blx w X a b) : X < w.heap.size := (Array.getElem?_eq_some_iff.1 h).1

/-- the beginning of a row meets the block nowhere -/
def Clear (l : List Blk) (x : Blk) (k : Nat) : Prop := ∀ j y, j < k → l[j]? = some y → ¬ Meets y x

/-- the order in a box -/
def lenAt (w : World) (X : Nat) : Nat := match w.cell? ⟨X, 1, none⟩ with | some (.int _ o) => o.toNat | _ => 0
/-- what holds round for round: the block so far is beside what is free -/
def GiveInv (n : Nat) (l : List Blk) (x : Blk) (P B : Nat) (v : Value) (w wr : World) : Prop :=
  ∃ (y : Blk) (vj : Value) (lj : List Blk), bd.Beside n lj y ∧ (∀ p, bd.Cov lj p ∨ bd.cv y p ↔ bd.Cov l p ∨ bd.cv x p) ∧ bd.sumL lj + 2 ^ y.2 = bd.sumL l + 2 ^ x.2 ∧
    Box wr P n vj ∧ Rd wr vj (lj.map emb) ∧ Box wr B n v ∧ Blx wr (B + 1) y.1 y.2 ∧ Res wr (B + 1 + 1) (.int .i64 0) (.slice none 0 0) (.int .i64 0) (.int .i64 0) ∧ Below w.heap.size w wr

theorem blx_set {w : World} {X : Nat} {a b a' b' : Int} (h : Blx w X a b) : Blx ((w.setCell ⟨X, 0, none⟩ (.int .i64 a')).setCell ⟨X, 1, none⟩ (.int .i64 b')) X a' b' :=
  heap_setCell_same _ X 1 _ 68 _ (heap_setCell_same w X 0 _ 68 _ h)
theorem blx_set1 {w : World} {X : Nat} {a b b' : Int} (h : Blx w X a b) : Blx (w.setCell ⟨X, 1, none⟩ (.int .i64 b')) X a b' := heap_setCell_same w X 1 _ 68 _ h
theorem lenAt_of {w : World} {X o : Nat} {a : Int} (h : Blx w X a o) : lenAt w X = o := by simp [lenAt, h.cells.2.1]
/-- a round's end, behind the stores into the block's box -/
theorem give_end1 {n : Nat} {l lj l' : List Blk} {x y z : Blk} {P B : Nat} {v v4 : Value} {w w5 : World} {o : Obj}
    (hj : bd.Beside n l' z ∧ (∀ p, bd.Cov l' p ∨ bd.cv z p ↔ bd.Cov lj p ∨ bd.cv y p) ∧ bd.sumL l' + 2 ^ z.2 = bd.sumL lj + 2 ^ y.2)
    (hc : ∀ p, bd.Cov lj p ∨ bd.cv y p ↔ bd.Cov l p ∨ bd.cv x p) (hs : bd.sumL lj + 2 ^ y.2 = bd.sumL l + 2 ^ x.2)
    (h1 : Box w5 P n v4) (h2 : Rd w5 v4 (l'.map emb)) (h3 : Box w5 B n v) (h4 : Res w5 (B + 1 + 1) (.int .i64 0) (.slice none 0 0) (.int .i64 0) (.int .i64 0)) (h5 : Below w.heap.size w w5) (h6 : Blx w5 (B + 1) z.1 z.2) :
    GiveInv n l x P B v w (w5.alloc o) ∧ lenAt (w5.alloc o) (B + 1) = z.2 := by
  have hb : Below w5.heap.size w5 (w5.alloc o) := (Below.refl _ _).alloc (Nat.le_refl _) _
  have h6' : Blx (w5.alloc o) (B + 1) z.1 z.2 := (hb.block _ h6.lt).trans h6
  exact ⟨⟨z, v4, l', hj.1, fun p => (hj.2.1 p).trans (hc p), hj.2.2.trans hs, (hb.block _ h1.lt).trans h1, h2.below hb, (hb.block _ h3.lt).trans h3, h6', h4.below hb h4.lt, h5.alloc h5.size _⟩, lenAt_of h6'⟩
theorem Res.apart {w : World} {R k : Nat} {a b c d u : Value} (h : Res w R a b c d) (hk : R ≠ k) (i : Nat) : Res (w.setCell ⟨k, i, none⟩ u) R a b c d := (Below.heap_setCell w ⟨k, i, none⟩ u R hk).trans h
theorem give_round {n : Nat} {l lj l' : List Blk} {x y : Blk} {P B fy : Nat} {v v4 : Value} {w w4 : World} {o : Obj}
    (hj : bd.Beside n l' (min y.1 fy, y.2 + 1) ∧ (∀ p, bd.Cov l' p ∨ bd.cv (min y.1 fy, y.2 + 1) p ↔ bd.Cov lj p ∨ bd.cv y p) ∧ bd.sumL l' + 2 ^ (y.2 + 1) = bd.sumL lj + 2 ^ y.2)
    (hc : ∀ p, bd.Cov lj p ∨ bd.cv y p ↔ bd.Cov l p ∨ bd.cv x p) (hs : bd.sumL lj + 2 ^ y.2 = bd.sumL l + 2 ^ x.2) (hm : min y.1 fy = fy)
    (h1 : Box w4 P n v4) (h2 : Rd w4 v4 (l'.map emb)) (h3 : Box w4 B n v) (h4 : Res w4 (B + 1 + 1) (.int .i64 0) (.slice none 0 0) (.int .i64 0) (.int .i64 0)) (h5 : Below w.heap.size w w4)
    (h6 : Blx ((w4.setCell ⟨B + 1, 0, none⟩ (.int .i64 fy)).setCell ⟨B + 1, 1, none⟩ (.int .i64 ((y.2 : Int) + 1))) (B + 1) fy ((y.2 : Int) + 1)) (hn : ∀ g, v4.ownBlock = some g → g ≠ B + 1) (hP : P ≠ B + 1) (hB : w.heap.size ≤ B + 1) :
    GiveInv n l x P B v w (((w4.setCell ⟨B + 1, 0, none⟩ (.int .i64 fy)).setCell ⟨B + 1, 1, none⟩ (.int .i64 ((y.2 : Int) + 1))).alloc o) ∧ lenAt (((w4.setCell ⟨B + 1, 0, none⟩ (.int .i64 fy)).setCell ⟨B + 1, 1, none⟩ (.int .i64 ((y.2 : Int) + 1))).alloc o) (B + 1) = y.2 + 1 := by
  rw [hm] at hj
  exact give_end1 (z := (fy, y.2 + 1)) hj hc hs ((h1.apart hP _).apart hP _) (rd_store (rd_store h2 hn _ _) hn _ _) ((h3.apart (by omega) _).apart (by omega) _) ((h4.apart (by omega) _).apart (by omega) _) ((h5.setCell hB _).setCell hB _) (by simpa using h6)
theorem give_round1 {n : Nat} {l lj l' : List Blk} {x y : Blk} {P B fy : Nat} {v v4 : Value} {w w4 : World} {o : Obj}
    (hj : bd.Beside n l' (min y.1 fy, y.2 + 1) ∧ (∀ p, bd.Cov l' p ∨ bd.cv (min y.1 fy, y.2 + 1) p ↔ bd.Cov lj p ∨ bd.cv y p) ∧ bd.sumL l' + 2 ^ (y.2 + 1) = bd.sumL lj + 2 ^ y.2)
    (hc : ∀ p, bd.Cov lj p ∨ bd.cv y p ↔ bd.Cov l p ∨ bd.cv x p) (hs : bd.sumL lj + 2 ^ y.2 = bd.sumL l + 2 ^ x.2) (hm : min y.1 fy = y.1)
    (h1 : Box w4 P n v4) (h2 : Rd w4 v4 (l'.map emb)) (h3 : Box w4 B n v) (h4 : Res w4 (B + 1 + 1) (.int .i64 0) (.slice none 0 0) (.int .i64 0) (.int .i64 0)) (h5 : Below w.heap.size w w4)
    (h6 : Blx (w4.setCell ⟨B + 1, 1, none⟩ (.int .i64 ((y.2 : Int) + 1))) (B + 1) y.1 ((y.2 : Int) + 1)) (hn : ∀ g, v4.ownBlock = some g → g ≠ B + 1) (hP : P ≠ B + 1) (hB : w.heap.size ≤ B + 1) :
    GiveInv n l x P B v w ((w4.setCell ⟨B + 1, 1, none⟩ (.int .i64 ((y.2 : Int) + 1))).alloc o) ∧ lenAt ((w4.setCell ⟨B + 1, 1, none⟩ (.int .i64 ((y.2 : Int) + 1))).alloc o) (B + 1) = y.2 + 1 := by
  rw [hm] at hj
  exact give_end1 (z := (y.1, y.2 + 1)) hj hc hs (h1.apart hP _) (rd_store h2 hn _ _) (h3.apart (by omega) _) (h4.apart (by omega) _) (h5.setCell hB _) (by simpa using h6)

set_option maxHeartbeats 4000000 in
theorem spec_give0 (n : Nat) (l : List Blk) (hr : bd.Right n l) (x : Blk) (hx : bd.In n x) (v : Value) (w : World) (hrd : Rd w v (l.map emb)) :
    Calls Try.prog 52 #[.agg #[.int .i64 n, v], .agg #[.int .i64 x.1, .int .i64 x.2]] w (GivePost n l x w) := by
  have hll : (l.map emb).length = l.length := by simp
  have hl32 := hr.len_le
  have h5 := hr.ord
  have hxo := hx.ord
  have hxl : x.1 < 32 := Nat.lt_of_lt_of_le hx.lt (bd.pow_le32 h5)
  obtain ⟨a, c, hv, hcap, hcm⟩ := hrd.form
  have HRD : Hid (Rd w v (l.map emb)) := hrd
  have HILL : Hid (∀ W, _) := fun W => spec_ill 10 W
  have HSZ : Hid (∀ o : Nat, o ≤ 5 → ∀ W, _) := fun o ho W => spec_size o ho W
  rw [hll] at hv hcap
  subst hv
  unfold maxLen at hcm
  clear hrd hll
  go_enter Try.func52, Try.ntmps52
  go_wp2_with fail
  obtain ⟨V, hV⟩ : ∃ V, V = ((w.alloc (.cells #[.int .i64 n, .slice a l.length c] 29)).alloc (.cells #[.int .i64 x.1, .int .i64 x.2] 68)).alloc (.cells #[.int .i64 0, .slice none 0 0, .int .i64 0, .int .i64 0] 37) := ⟨_, rfl⟩
  have HBV : Hid (Below w.heap.size w V) := by rw [hV]; exact (((Below.refl _ _).alloc (Nat.le_refl _) _).alloc (by simp) _).alloc (by simp; omega) _
  have HXV : Hid (Box V w.heap.size n (.slice a l.length c)) := by
    have h1 := (MapKept.heap_alloc w (.cells #[.int .i64 n, .slice a l.length c] 29)).1
    have h2 : Below (w.alloc (.cells #[.int .i64 n, .slice a l.length c] 29)).heap.size (w.alloc (.cells #[.int .i64 n, .slice a l.length c] 29)) V := by rw [hV]; exact ((Below.refl _ _).alloc (Nat.le_refl _) _).alloc (by simp) _
    exact (h2.block _ (by simp)).trans h1
  have HYV : Hid (Blx V (w.heap.size + 1) x.1 x.2) := by
    have h1 := (MapKept.heap_alloc (w.alloc (.cells #[.int .i64 n, .slice a l.length c] 29)) (.cells #[.int .i64 x.1, .int .i64 x.2] 68)).1
    have h2 : Below ((w.alloc (.cells #[.int .i64 n, .slice a l.length c] 29)).alloc (.cells #[.int .i64 x.1, .int .i64 x.2] 68)).heap.size ((w.alloc (.cells #[.int .i64 n, .slice a l.length c] 29)).alloc (.cells #[.int .i64 x.1, .int .i64 x.2] 68)) V := by rw [hV]; exact (Below.refl _ _).alloc (Nat.le_refl _) _
    have := (h2.block _ (by simp)).trans h1
    simpa [Hid, Blx] using this
  have HRV : Hid (Res V (w.heap.size + 1 + 1) (.int .i64 0) (.slice none 0 0) (.int .i64 0) (.int .i64 0)) := by
    have := (MapKept.heap_alloc ((w.alloc (.cells #[.int .i64 n, .slice a l.length c] 29)).alloc (.cells #[.int .i64 x.1, .int .i64 x.2] 68)) (.cells #[.int .i64 0, .slice none 0 0, .int .i64 0, .int .i64 0] 37)).1
    rw [← hV] at this
    simpa [Hid, Res] using this
  rw [← hV]
  clear hV
  go_loopw [5] (fun i wr => ∃ k : Nat, k ≤ l.length ∧ i = .int .i64 k ∧ Hid (Clear l x k) ∧ Hid (Below V.heap.size V wr)) (fun i _ => l.length - (intOf i).toNat)
  case atStart => exact ⟨0, by omega, rfl, fun j y h => by omega, Below.refl _ _⟩
  case round =>
    obtain ⟨k, hk, rfl, HCL, HBR⟩ := hrel
    have HX1 : Hid (Box wr w.heap.size n (.slice a l.length c)) := (HBR.out.block _ HXV.out.lt).trans HXV.out
    have HY1 : Hid (Blx wr (w.heap.size + 1) x.1 x.2) := (HBR.out.block _ HYV.out.lt).trans HYV.out
    have HR1 : Hid (Res wr (w.heap.size + 1 + 1) (.int .i64 0) (.slice none 0 0) (.int .i64 0) (.int .i64 0)) := HRV.out.below HBR.out HRV.out.lt
    have HB1 : Hid (Below w.heap.size w wr) := HBV.out.trans (HBR.out.mono HBV.out.size)
    obtain ⟨b0, b1, f0, f1⟩ := HX1.out.cells
    obtain ⟨y0, y1, g0, g1⟩ := HY1.out.cells
    by_cases hlt : k < l.length
    · have hrd1 := HRD.out.below HB1.out
      obtain ⟨gg, cc, hvv, _, _, hgl, hcc⟩ := hrd1.at (by simp; omega)
      rw [List.length_map] at hvv
      injection hvv with hva _ hvc
      subst hva hvc
      have hck := hcc k (by simpa using hlt)
      simp only [List.getElem_map] at hck
      have HLK : Hid (l[k]? = some l[k]) := List.getElem?_eq_getElem hlt
      have hin := hr.inn _ (List.getElem_mem hlt)
      generalize l[k] = y at *
      have hyo := hin.ord
      have hyl : y.1 < 32 := Nat.lt_of_lt_of_le hin.lt (bd.pow_le32 h5)
      have e0 := hck.1
      have e1 := hck.2
      simp only [emb] at e0 e1
      have HS1 : Hid (∀ W, _) := HSZ.out x.2 (by omega)
      have HS2 : Hid (∀ W, _) := HSZ.out y.2 (by omega)
      have hp1 : 2 ^ x.2 ≤ 32 := bd.pow_le32 (by omega)
      have hp2 : 2 ^ y.2 ≤ 32 := bd.pow_le32 (by omega)
      have HM : Hid (Meets y x ↔ (y.1 < x.1 + 2 ^ x.2 ∧ x.1 < y.1 + 2 ^ y.2)) := Iff.rfl
      generalize 2 ^ x.2 = sx at *
      generalize 2 ^ y.2 = sy at *
      clear hck hcc hrd1 hin
      go_upto_region 5 with fail
      obtain ⟨W, hW⟩ : ∃ W, W = wr.alloc (.cells #[.int .i64 y.1, .int .i64 y.2] 68) := ⟨_, rfl⟩
      have hbW : Below wr.heap.size wr W := by rw [hW]; exact (Below.refl _ _).alloc (Nat.le_refl _) _
      have z0 : W.cell? ⟨wr.heap.size, 0, none⟩ = some (.int .i64 y.1) := by rw [hW]; simp
      have z1 : W.cell? ⟨wr.heap.size, 1, none⟩ = some (.int .i64 y.2) := by rw [hW]; simp
      have HYW : Hid (Blx W (w.heap.size + 1) x.1 x.2) := (hbW.block _ HY1.out.lt).trans HY1.out
      have HRW : Hid (Res W (w.heap.size + 1 + 1) (.int .i64 0) (.slice none 0 0) (.int .i64 0) (.int .i64 0)) := HR1.out.below hbW HR1.out.lt
      have HBW : Hid (Below V.heap.size V W) := HBR.out.trans (hbW.mono HBR.out.size)
      have HBwW : Hid (Below w.heap.size w W) := HB1.out.trans (hbW.mono HB1.out.size)
      rw [← hW]
      generalize hYb : wr.heap.size = Y at *
      clear hW hbW hYb HX1 HY1 HR1 HB1 HBR b0 b1 f0 f1 y0 y1 g0 g1 e0 e1
      obtain ⟨y0, y1, g0, g1⟩ := HYW.out.cells
      have HOFF : Hid (Meets y x → ¬ bd.Off l x) := fun hm ho => (off_iff l x).1 ho y (List.mem_of_getElem? HLK.out) hm
      have HCL2 : Hid (¬ Meets y x → Clear l x (k + 1)) := fun hm j z hj hz => by
        by_cases e : j = k
        · subst e; rw [HLK.out] at hz; injection hz with hz; subst hz; exact hm
        · exact HCL.out j z (by omega) hz
      by_cases h1 : y.1 < x.1 + sx
      · have d1 : decide ((y.1 : Int) < (x.1 : Int) + (sx : Int)) = true := decide_eq_true (by omega)
        by_cases h2 : x.1 < y.1 + sy
        · have d2 : decide ((x.1 : Int) < (y.1 : Int) + (sy : Int)) = true := decide_eq_true (by omega)
          have HNO : Hid (¬ bd.Off l x) := HOFF.out (HM.out.2 ⟨h1, h2⟩)
          go_quiet (first | (go_at_call 46; exact Calls.quiet_of_same (HS1.out _)) | (go_at_call 46; exact Calls.quiet_of_same (HS2.out _)))
          go_wp2_with fail
          refine Calls.mono (HILL.out _) ?_
          rintro e w2 ⟨rfl, hb2⟩
          have HR2 : Hid (Res w2 (w.heap.size + 1 + 1) (.int .i64 0) (.slice none 0 0) (.int .i64 0) (.int .i64 0)) := (Res.below HRW.out (below_drewN (Below.refl _ _) _) HRW.out.lt).below hb2 HRW.out.lt
          have HB2 : Hid (Below w.heap.size w w2) := (below_drewN HBwW.out _).trans (hb2.mono HBwW.out.size)
          obtain ⟨⟨r0, r1, r2, r3⟩, q0, q1, q2, q3⟩ := HR2.out.cells
          clear hb2
          simp only [illV]
          go_wp2
          exact bodyPost_ret (v := illV 10) (by simp [results, Try.results52, go_sem, illV, r0, r1, r2, r3]) rfl
            (Or.inl ⟨rfl, HNO.out, (((HB2.out.setCell (by simp; omega) _).setCell (by simp; omega) _).setCell (by simp; omega) _).setCell (by simp; omega) _⟩)
        · have d2 : decide ((x.1 : Int) < (y.1 : Int) + (sy : Int)) = false := decide_eq_false (by omega)
          have HC2 : Hid (Clear l x (k + 1)) := HCL2.out fun hm => h2 (HM.out.1 hm).2
          go_quiet (first | (go_at_call 46; exact Calls.quiet_of_same (HS1.out _)) | (go_at_call 46; exact Calls.quiet_of_same (HS2.out _)))
          go_wp2_with fail
          go_roundw
          case rel => exact ⟨k + 1, by omega, by go_num, HC2, below_drewN HBW.out _⟩
          case measure => simp [intOf]; omega
      · have d1 : decide ((y.1 : Int) < (x.1 : Int) + (sx : Int)) = false := decide_eq_false (by omega)
        have HC2 : Hid (Clear l x (k + 1)) := HCL2.out fun hm => h1 (HM.out.1 hm).1
        go_quiet (first | (go_at_call 46; exact Calls.quiet_of_same (HS1.out _)))
        go_wp2_with fail
        go_roundw
        case rel => exact ⟨k + 1, by omega, by go_num, HC2, below_drewN HBW.out _⟩
        case measure => simp [intOf]; omega
    · have HOFF : Hid (bd.Off l x) := (off_iff l x).2 fun y hy hm => by
        obtain ⟨j, hj⟩ := List.getElem?_of_mem hy
        have hjl : j < l.length := by
          rcases Nat.lt_or_ge j l.length with h1 | h1
          · exact h1
          · rw [List.getElem?_eq_none h1] at hj; cases hj
        exact HCL.out j y (by omega) hj hm
      have HCOPY : Hid (∀ W, Below w.heap.size w W → _) := fun W hW => spec_copy (n : Int) (.slice a l.length c) (l.map emb) W (HRD.out.below hW) (by simp; omega)
      clear HCL HILL HBR HXV HYV HRV
      go_wp2_with fail
      refine Calls.mono (HCOPY.out wr HB1.out) ?_
      rintro e w2 ⟨v2, rfl, hrd2, hb2⟩
      have HRD2 : Hid (Rd w2 v2 (l.map emb)) := hrd2
      have HB2 : Hid (Below w.heap.size w w2) := HB1.out.trans (hb2.mono HB1.out.size)
      have HX2 : Hid (Box w2 w.heap.size n (.slice a l.length c)) := (hb2.block _ HX1.out.lt).trans HX1.out
      have HY2 : Hid (Blx w2 (w.heap.size + 1) x.1 x.2) := (hb2.block _ HY1.out.lt).trans HY1.out
      have HR2 : Hid (Res w2 (w.heap.size + 1 + 1) (.int .i64 0) (.slice none 0 0) (.int .i64 0) (.int .i64 0)) := HR1.out.below hb2 HR1.out.lt
      clear hb2 hrd2 HB1 HR1 HX1 HY1 HCOPY b0 b1 f0 f1 y0 y1 g0 g1 HRD
      obtain ⟨a2, c2, hv2, _⟩ := HRD2.out.form
      rw [List.length_map] at hv2
      subst hv2
      go_wp2_with fail
      obtain ⟨P, hP⟩ : ∃ P, P = w2.heap.size := ⟨_, rfl⟩
      have hPw : w.heap.size + 1 + 1 < P := by rw [hP]; exact HR2.out.lt
      have HPE : Hid (P = w2.heap.size) := hP
      rw [← hP]
      clear hP
      have HBES : Hid (bd.Beside n l x) := ⟨hr, hx, HOFF.out⟩
      go_loopw [] (fun wr => GiveInv n l x P w.heap.size (.slice a l.length c) w wr) (fun wr => n - lenAt wr (w.heap.size + 1))
      case atStart =>
        refine ⟨x, .slice a2 l.length c2, l, HBES.out, fun p => Iff.rfl, rfl, ?_, ?_, ?_, ?_, ?_, ?_⟩
        · rw [HPE.out]; exact (MapKept.heap_alloc w2 _).1
        · exact HRD2.out.below ((Below.refl _ _).alloc (Nat.le_refl _) _)
        · exact ((Below.alloc (Below.refl _ w2) (Nat.le_refl _) _).block _ HX2.out.lt).trans HX2.out
        · exact ((Below.alloc (Below.refl _ w2) (Nat.le_refl _) _).block _ HY2.out.lt).trans HY2.out
        · exact Res.below HR2.out ((Below.refl _ _).alloc (Nat.le_refl _) _) HR2.out.lt
        · exact HB2.out.alloc HB2.out.size _
      case round =>
        obtain ⟨y, vj, lj, hbes, hcov, hsum, hbox, hrd, hbx, hblx, hres, hbel⟩ := hrel
        have HBS : Hid (bd.Beside n lj y) := hbes
        have HCV : Hid (∀ p, bd.Cov lj p ∨ bd.cv y p ↔ bd.Cov l p ∨ bd.cv x p) := hcov
        have HSM : Hid (bd.sumL lj + 2 ^ y.2 = bd.sumL l + 2 ^ x.2) := hsum
        have hyo := hbes.inn.ord
        have hyl : y.1 < 32 := Nat.lt_of_lt_of_le hbes.inn.lt (bd.pow_le32 h5)
        have hlj := hbes.right.len_le
        have TBX0 : Hid (Box wr P n vj) := hbox
        have TRD0 : Hid (Rd wr vj (lj.map emb)) := hrd
        have TBB0 : Hid (Box wr w.heap.size n (.slice a l.length c)) := hbx
        have TBL0 : Hid (Blx wr (w.heap.size + 1) y.1 y.2) := hblx
        have TRS0 : Hid (Res wr (w.heap.size + 1 + 1) (.int .i64 0) (.slice none 0 0) (.int .i64 0) (.int .i64 0)) := hres
        have TBE0 : Hid (Below w.heap.size w wr) := hbel
        obtain ⟨aj, cj, hvj, _⟩ := hrd.form
        obtain ⟨Lj, hLj⟩ : ∃ L, L = (lj.map emb).length := ⟨_, rfl⟩
        rw [← hLj] at hvj
        subst hvj
        obtain ⟨o0, o1, _, _⟩ := hbox.cells
        obtain ⟨B0, B1, _, _⟩ := hbx.cells
        obtain ⟨x0, x1, xf0, xf1⟩ := hblx.cells
        clear hbes hcov hsum hbox hrd hbx hblx hres hbel hLj HRD2 HB2 HX2 HY2 HR2 HBES HPE
        have HLENR : Hid (lenAt wr (w.heap.size + 1) = y.2) := by simp [Hid, lenAt, x1]
        by_cases hlt2 : y.2 < n
        · have hfo := found (lj.map emb) (emb (bd.fel y))
          have HFE : Hid (∀ W, _) := fun W => spec_fellow y.1 y.2 (by omega) (by omega) W
          have HFI : Hid (∀ W, Below wr.heap.size wr W → _) := fun W hW => spec_find (n : Int) (.slice aj Lj cj) (lj.map emb) (emb (bd.fel y)) W (TRD0.out.below hW) (by simp; omega)
          go_upto_region 9 with fail
          have ko0 := cell_regrown o0
          have ko1 := cell_regrown o1
          have kx0 := cell_regrown x0
          have kx1 := cell_regrown x1
          have cF : ∀ d os, _ := fun d os => Calls.regrown_of (w := wr) (d := d) (os := os) (HFE.out _)
          have cG : ∀ d os, _ := fun d os => Calls.regrown_of (w := wr) (d := d) (os := os) (HFI.out _ (below_regrown wr d os))
          generalize findI (lj.map emb) (emb (bd.fel y)) 0 = r at *
          simp only [emb, bd.fel] at cG
          refine wp_region_quiet_below (by kernel_rfl) (by kernel_rfl) ?_
          repeat (go_big_quiet_step (first | (go_at_call 58; exact cF _ _) | (go_at_call 57; exact cG _ _)))
          refine wpQuiet_nil ?_
          intro _ hw'
          obtain ⟨⟨dq, osq⟩, hw''⟩ := hw'
          subst hw''
          have hbq := below_regrown wr dq osq
          generalize grow (redrawn wr dq) osq = Wt at *
          have TBX : Hid (Box Wt P n (.slice aj Lj cj)) := (hbq.block _ TBX0.out.lt).trans TBX0.out
          have TRD : Hid (Rd Wt (.slice aj Lj cj) (lj.map emb)) := TRD0.out.below hbq
          have TBB : Hid (Box Wt w.heap.size n (.slice a l.length c)) := (hbq.block _ TBB0.out.lt).trans TBB0.out
          have TBL : Hid (Blx Wt (w.heap.size + 1) y.1 y.2) := (hbq.block _ TBL0.out.lt).trans TBL0.out
          have TRS : Hid (Res Wt (w.heap.size + 1 + 1) (.int .i64 0) (.slice none 0 0) (.int .i64 0) (.int .i64 0)) := TRS0.out.below hbq TRS0.out.lt
          have TBE : Hid (Below w.heap.size w Wt) := TBE0.out.trans (hbq.mono TBE0.out.size)
          clear hbq ko0 ko1 kx0 kx1 cF cG HFE HFI o0 o1 x0 x1 xf0 xf1 B0 B1 TBX0 TRD0 TBB0 TBL0 TRS0 TBE0
          rcases hfo with ⟨rfl, hm⟩ | ⟨i, hi, rfl, hi2⟩
          · have HFN : Hid (y.2 < n → bd.fel y ∉ lj) := fun _ h => hm (mem_emb.2 h)
            clear hm
            generalize hvjj : Value.slice aj Lj cj = vj at *
            clear hvjj
            have hput := spec_put P (n : Int) vj (lj.map emb) (emb y) Wt TBX.out TRD.out (by have := HBS.out.right.len_le; simp; omega)
            rw [putI_emb] at hput
            simp only [emb] at hput
            have HPUT : Hid (Calls Try.prog 67 #[.pointer (some ⟨P, 0, none⟩), .agg #[.int .i64 y.1, .int .i64 y.2]] Wt (PutPost P n ((bd.putL lj y).map emb) Wt)) := hput
            have HGV : Hid (bd.Given n l x (bd.putL lj y)) := by
              have hg := bd.give_end HBS.out HFN.out
              exact ⟨hg.1, fun p => (hg.2.1 p).trans (HCV.out p), hg.2.2.trans HSM.out⟩
            obtain ⟨x0, x1, _, _⟩ := TBL.out.cells
            clear hput
            go_wp2_with fail
            refine Calls.mono HPUT.out ?_
            rintro e w5 ⟨v5, rfl, hbox5, hrd5, hg5, hown5⟩
            have HR5 : Hid (Res w5 (w.heap.size + 1 + 1) (.int .i64 0) (.slice none 0 0) (.int .i64 0) (.int .i64 0)) := TRS.out.grown hg5 (by omega)
            have HRD5 : Hid (Rd w5 v5 ((bd.putL lj y).map emb)) := hrd5
            have HB5 : Hid (Below w.heap.size w w5) := TBE.out.grown hg5 TBE.out.size (fun k e => by simp at e; omega)
            obtain ⟨a5, c5, hv5, _⟩ := HRD5.out.form
            obtain ⟨L, hL⟩ : ∃ L, L = ((bd.putL lj y).map emb).length := ⟨_, rfl⟩
            rw [← hL] at hv5
            subst hv5
            obtain ⟨b0, b1, _, _⟩ := hbox5.cells
            obtain ⟨⟨r0, r1, r2, r3⟩, q0, q1, q2, q3⟩ := HR5.out.cells
            have HOW5 : Hid (Own w5 w.heap.size (.slice a5 L c5)) := hown5.down TBE.out.size
            clear hL hrd5 hg5 hbox5 x0 x1 hown5
            go_wp2_with fail
            exact bodyPost_ret (v := .agg #[.int .i64 n, .slice a5 L c5, .int .i64 0, .int .i64 0]) (by simp [results, Try.results52, go_sem, r0, r1, r2, r3]) rfl
              (Or.inr ⟨.slice a5 L c5, bd.putL lj y, rfl, HOFF.out, HGV.out, rd_res4 HRD5.out HR5.out, (((HB5.out.setCell (by simp; omega) _).setCell (by simp; omega) _).setCell (by simp; omega) _).setCell (by simp; omega) _, own_res4 HOW5.out HR5.out⟩)
          · have hi' : i < lj.length := by simpa using hi
            have hge : lj[i] = bd.fel y := by
              rw [List.getElem?_map, List.getElem?_eq_getElem hi'] at hi2
              injection hi2 with hi2
              exact emb_inj hi2
            have HJS : Hid _ := bd.join_step HBS.out hlt2 hi' hge
            have hdrop := spec_drop P (n : Int) (.slice aj Lj cj) (lj.map emb) i hi Wt TBX.out TRD.out (by simp; omega)
            have hxi : (lj.map emb)[i] = emb (bd.fel y) := by rw [List.getElem_map, hge]
            rw [hxi, out_emb] at hdrop
            have HDROP : Hid (Calls Try.prog 66 #[.pointer (some ⟨P, 0, none⟩), .int .i64 i] Wt (DropPost P n (emb (bd.fel y)) ((bd.outL lj i).map emb) Wt)) := hdrop
            clear hdrop hxi hi2 hge hi'
            go_wp2_with fail
            refine Calls.mono HDROP.out ?_
            rintro e w4 ⟨v4, rfl, hbox4, hrd4, hg4, hnew, _⟩
            have HBB4 : Hid (Box w4 w.heap.size n (.slice a l.length c)) := (hg4.block _ TBB.out.lt (by simp; omega)).trans TBB.out
            have HBL4 : Hid (Blx w4 (w.heap.size + 1) y.1 y.2) := (hg4.block _ TBL.out.lt (by simp; omega)).trans TBL.out
            have HRS4 : Hid (Res w4 (w.heap.size + 1 + 1) (.int .i64 0) (.slice none 0 0) (.int .i64 0) (.int .i64 0)) := TRS.out.grown hg4 (by omega)
            have HBE4 : Hid (Below w.heap.size w w4) := TBE.out.grown hg4 TBE.out.size (fun k e => by simp at e; omega)
            have HBX4 : Hid (Box w4 P n v4) := hbox4
            have HRD4 : Hid (Rd w4 v4 ((bd.outL lj i).map emb)) := hrd4
            have hWt : w.heap.size + 1 + 1 < Wt.heap.size := TRS.out.lt
            have HNEW : Hid (∀ g, v4.ownBlock = some g → g ≠ w.heap.size + 1) := fun g hg => by have := hnew g hg; omega
            clear hbox4 hrd4 hg4 hnew HDROP TBX TRD TBB TBL TRS TBE
            simp only [emb]
            have hbW := Below.alloc (Below.refl w4.heap.size w4) (Nat.le_refl _) (.cells #[.int .i64 ((bd.fel y).1 : Nat), .int .i64 ((bd.fel y).2 : Nat)] 68)
            obtain ⟨x0, x1, xf0, xf1⟩ := HBL4.out.cells
            have hXl : w.heap.size + 1 < w4.heap.size := HBL4.out.lt
            have HFF : Hid ((bd.fel y).2 = y.2) := rfl
            generalize (bd.fel y).1 = fy at *
            generalize (bd.fel y).2 = fo at *
            by_cases hmin : fy < y.1
            · go_wp2_with fail
              have hres := give_round (o := .cells #[.int .i64 fy, .int .i64 fo] 68) HJS.out HCV.out HSM.out (show min y.1 fy = fy by omega) HBX4.out HRD4.out HBB4.out HRS4.out HBE4.out (blx_set HBL4.out) HNEW.out (by omega) (by omega)
              refine ⟨hres.1, ?_⟩
              rw [hres.2, HLENR.out]
              omega
            · go_wp2_with fail
              have hres := give_round1 (o := .cells #[.int .i64 fy, .int .i64 fo] 68) HJS.out HCV.out HSM.out (show min y.1 fy = y.1 by omega) HBX4.out HRD4.out HBB4.out HRS4.out HBE4.out (blx_set1 HBL4.out) HNEW.out (by omega) (by omega)
              refine ⟨hres.1, ?_⟩
              rw [hres.2, HLENR.out]
              omega
        · have HFN : Hid (y.2 < n → bd.fel y ∉ lj) := fun h => absurd h hlt2
          clear o0 o1 x0 x1 xf0 xf1
          generalize hvjj : Value.slice aj Lj cj = vj at *
          clear hvjj
          obtain ⟨Wt, hWt⟩ : ∃ Wt, Wt = wr := ⟨_, rfl⟩
          have TBX : Hid (Box Wt P n vj) := by rw [hWt]; exact TBX0.out
          have TRD : Hid (Rd Wt vj (lj.map emb)) := by rw [hWt]; exact TRD0.out
          have TBL : Hid (Blx Wt (w.heap.size + 1) y.1 y.2) := by rw [hWt]; exact TBL0.out
          have TRS : Hid (Res Wt (w.heap.size + 1 + 1) (.int .i64 0) (.slice none 0 0) (.int .i64 0) (.int .i64 0)) := by rw [hWt]; exact TRS0.out
          have TBE : Hid (Below w.heap.size w Wt) := by rw [hWt]; exact TBE0.out
          obtain ⟨x0', x1', _, _⟩ := TBL.out.cells
          rw [← hWt]
          rw [← hWt] at B0
          clear hWt TBX0 TRD0 TBB0 TBL0 TRS0 TBE0
          have hput := spec_put P (n : Int) vj (lj.map emb) (emb y) Wt TBX.out TRD.out (by have := HBS.out.right.len_le; simp; omega)
          rw [putI_emb] at hput
          simp only [emb] at hput
          have HPUT : Hid (Calls Try.prog 67 #[.pointer (some ⟨P, 0, none⟩), .agg #[.int .i64 y.1, .int .i64 y.2]] Wt (PutPost P n ((bd.putL lj y).map emb) Wt)) := hput
          have HGV : Hid (bd.Given n l x (bd.putL lj y)) := by
            have hg := bd.give_end HBS.out HFN.out
            exact ⟨hg.1, fun p => (hg.2.1 p).trans (HCV.out p), hg.2.2.trans HSM.out⟩
          obtain ⟨x0, x1, _, _⟩ := TBL.out.cells
          clear hput
          go_wp2_with fail
          refine Calls.mono HPUT.out ?_
          rintro e w5 ⟨v5, rfl, hbox5, hrd5, hg5, hown5⟩
          have HR5 : Hid (Res w5 (w.heap.size + 1 + 1) (.int .i64 0) (.slice none 0 0) (.int .i64 0) (.int .i64 0)) := TRS.out.grown hg5 (by omega)
          have HRD5 : Hid (Rd w5 v5 ((bd.putL lj y).map emb)) := hrd5
          have HB5 : Hid (Below w.heap.size w w5) := TBE.out.grown hg5 TBE.out.size (fun k e => by simp at e; omega)
          obtain ⟨a5, c5, hv5, _⟩ := HRD5.out.form
          obtain ⟨L, hL⟩ : ∃ L, L = ((bd.putL lj y).map emb).length := ⟨_, rfl⟩
          rw [← hL] at hv5
          subst hv5
          obtain ⟨b0, b1, _, _⟩ := hbox5.cells
          obtain ⟨⟨r0, r1, r2, r3⟩, q0, q1, q2, q3⟩ := HR5.out.cells
          have HOW5 : Hid (Own w5 w.heap.size (.slice a5 L c5)) := hown5.down TBE.out.size
          clear hL hrd5 hg5 hbox5 x0 x1 hown5
          go_wp2_with fail
          exact bodyPost_ret (v := .agg #[.int .i64 n, .slice a5 L c5, .int .i64 0, .int .i64 0]) (by simp [results, Try.results52, go_sem, r0, r1, r2, r3]) rfl
            (Or.inr ⟨.slice a5 L c5, bd.putL lj y, rfl, HOFF.out, HGV.out, rd_res4 HRD5.out HR5.out, (((HB5.out.setCell (by simp; omega) _).setCell (by simp; omega) _).setCell (by simp; omega) _).setCell (by simp; omega) _, own_res4 HOW5.out HR5.out⟩)
end Go.Proofs.Ytcokchfedaoccab.bspec
