/-
  The walks of the specification's BuddyNew, BuddyTake, BuddyGive at every argument.
-/
import Derived.Test.YtcokchfedaoccabBuddyGive
namespace Go.Proofs.Ytcokchfedaoccab.bspec
open Go.RowKit Go.Deep Go.Sort
open Go.Proofs.Ytcokchfedaoccab
open Go.Proofs.Ytcokchfedaoccab.brows
open Go.Proofs.Ytcokchfedaoccab.bd (Blk)
set_option linter.unusedVariables false

/-- an answer's box is there, and no row lies in it -/
theorem res_new (w : World) (o : Obj) : Res ((w.alloc o).alloc (.cells #[.int .i64 0, .slice none 0 0, .int .i64 0, .int .i64 0] 37)) (w.heap.size + 1) (.int .i64 0) (.slice none 0 0) (.int .i64 0) (.int .i64 0) := by
  have := (MapKept.heap_alloc (w.alloc o) (.cells #[.int .i64 0, .slice none 0 0, .int .i64 0, .int .i64 0] 37)).1
  simpa [Res] using this
theorem box_new (w : World) (n : Int) (v : Value) (o : Obj) : Box ((w.alloc (.cells #[.int .i64 n, v] 29)).alloc o) w.heap.size n v := by
  have h1 := (MapKept.heap_alloc w (.cells #[.int .i64 n, v] 29)).1
  exact ((Below.alloc (Below.refl _ _) (Nat.le_refl _) o).block _ (by simp)).trans h1

/-- what BuddyTake tells -/
def TookPost (m : Int) (xs : List Pr) (o : Int) (w : World) (e : Ending) (w' : World) : Prop :=
  ((¬ RightI m xs ∨ ordB o = false) ∧ e = .returned (illV 1) ∧ Below w.heap.size w w') ∨
  ∃ (n k : Nat) (l : List Blk), m = (n : Int) ∧ o = (k : Int) ∧ k ≤ 5 ∧ xs = l.map emb ∧ bd.Right n l ∧ TakePost n k l w e w'

theorem four_end {w w' : World} {R : Nat} {v0 v1 v2 v3 : Value} (h : Below w.heap.size w w') (hR : w.heap.size ≤ R) : Below w.heap.size w ((((w'.setCell ⟨R, 0, none⟩ v0).setCell ⟨R, 1, none⟩ v1).setCell ⟨R, 2, none⟩ v2).setCell ⟨R, 3, none⟩ v3) :=
  (((h.setCell hR _).setCell hR _).setCell hR _).setCell hR _

set_option maxHeartbeats 4000000 in
theorem spec_btake (m o : Int) (v : Value) (xs : List Pr) (w : World) (hrd : Rd w v xs) :
    Calls Try.prog 19 #[.agg #[.int .i64 m, v], .int .i64 o] w (TookPost m xs o w) := by
  obtain ⟨a, c, hv, _⟩ := hrd.form
  have HRD : Hid (Rd w v xs) := hrd
  have HILL : Hid (∀ W, _) := fun W => spec_ill 1 W
  have HRI : Hid (∀ W, Below w.heap.size w W → _) := fun W hW => spec_right m v xs W (HRD.out.below hW)
  have HOR : Hid (∀ W, _) := fun W => spec_order o W
  have HTK : Hid (∀ (n k : Nat) (l : List Blk), k ≤ 5 → bd.Right n l → xs = l.map emb → ∀ W, Below w.heap.size w W → Calls Try.prog 50 #[.agg #[.int .i64 n, v], .int .i64 k] W (TakePost n k l W)) := fun n k l hk hr he W hW => spec_take0 n k hk l hr v W (he ▸ HRD.out.below hW)
  obtain ⟨L, hL⟩ : ∃ L, L = xs.length := ⟨_, rfl⟩
  rw [← hL] at hv
  subst hv
  clear hrd hL
  go_enter Try.func19, Try.ntmps19
  go_wp2_with fail
  obtain ⟨V, hV⟩ : ∃ V, V = (w.alloc (.cells #[.int .i64 m, .slice a L c] 29)).alloc (.cells #[.int .i64 0, .slice none 0 0, .int .i64 0, .int .i64 0] 37) := ⟨_, rfl⟩
  have HBV : Hid (Below w.heap.size w V) := by rw [hV]; exact ((Below.refl _ _).alloc (Nat.le_refl _) _).alloc (by simp) _
  have HRV : Hid (Res V (w.heap.size + 1) (.int .i64 0) (.slice none 0 0) (.int .i64 0) (.int .i64 0)) := by rw [hV]; exact res_new w _
  have HXV : Hid (Box V w.heap.size m (.slice a L c)) := by rw [hV]; exact box_new w m _ _
  rw [← hV]
  clear hV
  refine Calls.mono (HRI.out V HBV.out) ?_
  rintro e w1 ⟨rfl, hb1⟩
  have HB1 : Hid (Below w.heap.size w w1) := HBV.out.trans (hb1.mono HBV.out.size)
  have HR1 : Hid (Res w1 (w.heap.size + 1) (.int .i64 0) (.slice none 0 0) (.int .i64 0) (.int .i64 0)) := HRV.out.below hb1 HRV.out.lt
  have HX1 : Hid (Box w1 w.heap.size m (.slice a L c)) := (hb1.block _ HXV.out.lt).trans HXV.out
  clear hb1 HBV HRV HXV HRI
  obtain ⟨b0, b1, f0, f1⟩ := HX1.out.cells
  cases hri : rightB m xs with
  | false =>
    have HNR : Hid (¬ RightI m xs) := fun h => by rw [rightB_yes h] at hri; cases hri
    go_wp2_with fail
    refine Calls.mono (HILL.out _) ?_
    rintro e w2 ⟨rfl, hb2⟩
    have HR2 : Hid (Res w2 (w.heap.size + 1) (.int .i64 0) (.slice none 0 0) (.int .i64 0) (.int .i64 0)) := HR1.out.below hb2 HR1.out.lt
    have HB2 : Hid (Below w.heap.size w w2) := HB1.out.trans (hb2.mono HB1.out.size)
    obtain ⟨⟨r0, r1, r2, r3⟩, q0, q1, q2, q3⟩ := HR2.out.cells
    clear hb2 HR1 HX1 HB1 b0 b1 f0 f1
    simp only [illV]
    go_wp2
    exact bodyPost_ret (v := illV 1) (by simp [results, Try.results19, go_sem, illV, r0, r1, r2, r3]) rfl (Or.inl ⟨Or.inl HNR.out, rfl, four_end HB2.out (by simp)⟩)
  | true =>
    cases hor : ordB o with
    | false =>
      have HNR : Hid (ordB o = false) := hor
      go_wp2_with (first | (go_at_call 29; refine Calls.mono (HOR.out _) ?_; rintro e w' ⟨rfl, rfl⟩))
      refine Calls.mono (HILL.out _) ?_
      rintro e w2 ⟨rfl, hb2⟩
      have HR2 : Hid (Res w2 (w.heap.size + 1) (.int .i64 0) (.slice none 0 0) (.int .i64 0) (.int .i64 0)) := HR1.out.below hb2 HR1.out.lt
      have HB2 : Hid (Below w.heap.size w w2) := HB1.out.trans (hb2.mono HB1.out.size)
      obtain ⟨⟨r0, r1, r2, r3⟩, q0, q1, q2, q3⟩ := HR2.out.cells
      clear hb2 HR1 HX1 HB1 b0 b1 f0 f1
      simp only [illV]
      go_wp2
      exact bodyPost_ret (v := illV 1) (by simp [results, Try.results19, go_sem, illV, r0, r1, r2, r3]) rfl (Or.inl ⟨Or.inr HNR.out, rfl, four_end HB2.out (by simp)⟩)
    | true =>
      obtain ⟨n, l, rfl, he, hr⟩ := rightB_iff.1 hri
      obtain ⟨k, hk, rfl⟩ := ord_nat hor
      have HT : Hid _ := HTK.out n k l hk hr he w1 HB1.out
      have HE : Hid (xs = l.map emb) := he
      clear he
      go_wp2_with (first | (go_at_call 29; refine Calls.mono (HOR.out _) ?_; rintro e w' ⟨rfl, rfl⟩))
      refine Calls.mono HT.out ?_
      rintro e w2 (⟨rfl, hbe, hb2⟩ | ⟨i, x, v', l', rfl, hbe, hli, htk, hrd2, hb2, hown2⟩)
      · have HR2 : Hid (Res w2 (w.heap.size + 1) (.int .i64 0) (.slice none 0 0) (.int .i64 0) (.int .i64 0)) := HR1.out.below hb2 HR1.out.lt
        have HB2 : Hid (Below w.heap.size w w2) := HB1.out.trans (hb2.mono HB1.out.size)
        have HBE : Hid (Best (l.map emb) k l.length (-1)) := hbe
        obtain ⟨⟨r0, r1, r2, r3⟩, q0, q1, q2, q3⟩ := HR2.out.cells
        clear hb2 HR1 HX1 HB1 b0 b1 f0 f1 hbe HT
        simp only [illV]
        go_wp2
        exact bodyPost_ret (v := illV 9) (by simp [results, Try.results19, go_sem, illV, r0, r1, r2, r3]) rfl
          (Or.inr ⟨n, k, l, rfl, rfl, hk, HE.out, hr, Or.inl ⟨rfl, HBE.out, four_end HB2.out (by simp)⟩⟩)
      · have HR2 : Hid (Res w2 (w.heap.size + 1) (.int .i64 0) (.slice none 0 0) (.int .i64 0) (.int .i64 0)) := HR1.out.below hb2 HR1.out.lt
        have HB2 : Hid (Below w.heap.size w w2) := HB1.out.trans (hb2.mono HB1.out.size)
        have HBE : Hid (Best (l.map emb) k l.length i) := hbe
        have HTA : Hid (bd.Taken n l (x.1, k) l') := htk
        have HLI : Hid (l[i]? = some x) := hli
        have HRD2 : Hid (Rd w2 v' (l'.map emb)) := hrd2
        obtain ⟨a2, c2, hv2, _⟩ := hrd2.form
        obtain ⟨L2, hL2⟩ : ∃ L, L = (l'.map emb).length := ⟨_, rfl⟩
        rw [← hL2] at hv2
        subst hv2
        obtain ⟨⟨r0, r1, r2, r3⟩, q0, q1, q2, q3⟩ := HR2.out.cells
        have HOW : Hid (Own w2 w.heap.size (.slice a2 L2 c2)) := hown2.down HB1.out.size
        clear hb2 HR1 HX1 HB1 b0 b1 f0 f1 hbe HT hrd2 hL2 htk hli hown2
        go_wp2
        exact bodyPost_ret (v := .agg #[.int .i64 n, .slice a2 L2 c2, .int .i64 x.1, .int .i64 0]) (by simp [results, Try.results19, go_sem, r0, r1, r2, r3]) rfl
          (Or.inr ⟨n, k, l, rfl, rfl, hk, HE.out, hr, Or.inr ⟨i, x, .slice a2 L2 c2, l', rfl, HBE.out, HLI.out, HTA.out, rd_res4 HRD2.out HR2.out, four_end HB2.out (by simp), own_res4 HOW.out HR2.out⟩⟩)

/-- what BuddyGive tells -/
def GavePost (m : Int) (xs : List Pr) (x : Pr) (w : World) (e : Ending) (w' : World) : Prop :=
  ((¬ RightI m xs ∨ ordB x.2 = false ∨ ∃ n : Nat, m = (n : Int) ∧ inB n x = false) ∧ e = .returned (illV 1) ∧ Below w.heap.size w w') ∨
  ∃ (n : Nat) (l : List Blk) (y : Blk), m = (n : Int) ∧ x = emb y ∧ bd.In n y ∧ xs = l.map emb ∧ bd.Right n l ∧ GivePost n l y w e w'

set_option maxHeartbeats 4000000 in
theorem spec_bgive (m : Int) (x : Pr) (v : Value) (xs : List Pr) (w : World) (hrd : Rd w v xs) :
    Calls Try.prog 20 #[.agg #[.int .i64 m, v], .int .i64 x.1, .int .i64 x.2] w (GavePost m xs x w) := by
  obtain ⟨xa, xo⟩ := x
  simp only
  obtain ⟨a, c, hv, _⟩ := hrd.form
  have HRD : Hid (Rd w v xs) := hrd
  have HILL : Hid (∀ W, _) := fun W => spec_ill 1 W
  have HRI : Hid (∀ W, Below w.heap.size w W → _) := fun W hW => spec_right m v xs W (HRD.out.below hW)
  have HOR : Hid (∀ W, _) := fun W => spec_order xo W
  have HIN : Hid (∀ n : Nat, n ≤ 5 → ∀ W, _) := fun n hn W => spec_in n hn v (xa, xo) W
  have HGV : Hid (∀ (n : Nat) (y : Blk) (l : List Blk), bd.In n y → bd.Right n l → xs = l.map emb → ∀ W, Below w.heap.size w W → Calls Try.prog 52 #[.agg #[.int .i64 n, v], .agg #[.int .i64 y.1, .int .i64 y.2]] W (GivePost n l y W)) := fun n y l hy hr he W hW => spec_give0 n l hr y hy v W (he ▸ HRD.out.below hW)
  obtain ⟨L, hL⟩ : ∃ L, L = xs.length := ⟨_, rfl⟩
  rw [← hL] at hv
  subst hv
  clear hrd hL
  go_enter Try.func20, Try.ntmps20
  go_wp2_with fail
  obtain ⟨V, hV⟩ : ∃ V, V = ((w.alloc (.cells #[.int .i64 m, .slice a L c] 29)).alloc (.cells #[.int .i64 0, .slice none 0 0, .int .i64 0, .int .i64 0] 37)).alloc (.cells #[.int .i64 xa, .int .i64 xo] 68) := ⟨_, rfl⟩
  have hlast : Below ((w.alloc (.cells #[.int .i64 m, .slice a L c] 29)).alloc (.cells #[.int .i64 0, .slice none 0 0, .int .i64 0, .int .i64 0] 37)).heap.size ((w.alloc (.cells #[.int .i64 m, .slice a L c] 29)).alloc (.cells #[.int .i64 0, .slice none 0 0, .int .i64 0, .int .i64 0] 37)) V := by rw [hV]; exact (Below.refl _ _).alloc (Nat.le_refl _) _
  have HBV : Hid (Below w.heap.size w V) := by rw [hV]; exact (((Below.refl _ _).alloc (Nat.le_refl _) _).alloc (by simp) _).alloc (by simp; omega) _
  have HRV : Hid (Res V (w.heap.size + 1) (.int .i64 0) (.slice none 0 0) (.int .i64 0) (.int .i64 0)) := (res_new w _).below hlast (by simp)
  have HXV : Hid (Box V w.heap.size m (.slice a L c)) := (hlast.block _ (by simp; omega)).trans (box_new w m _ _)
  have HYV : Hid (Blx V (w.heap.size + 1 + 1) xa xo) := by
    have := (MapKept.heap_alloc ((w.alloc (.cells #[.int .i64 m, .slice a L c] 29)).alloc (.cells #[.int .i64 0, .slice none 0 0, .int .i64 0, .int .i64 0] 37)) (.cells #[.int .i64 xa, .int .i64 xo] 68)).1
    rw [← hV] at this
    simpa [Hid, Blx] using this
  rw [← hV]
  clear hV hlast
  refine Calls.mono (HRI.out V HBV.out) ?_
  rintro e w1 ⟨rfl, hb1⟩
  have HB1 : Hid (Below w.heap.size w w1) := HBV.out.trans (hb1.mono HBV.out.size)
  have HR1 : Hid (Res w1 (w.heap.size + 1) (.int .i64 0) (.slice none 0 0) (.int .i64 0) (.int .i64 0)) := HRV.out.below hb1 HRV.out.lt
  have HX1 : Hid (Box w1 w.heap.size m (.slice a L c)) := (hb1.block _ HXV.out.lt).trans HXV.out
  have HY1 : Hid (Blx w1 (w.heap.size + 1 + 1) xa xo) := (hb1.block _ HYV.out.lt).trans HYV.out
  clear hb1 HBV HRV HXV HYV HRI
  obtain ⟨b0, b1, f0, f1⟩ := HX1.out.cells
  obtain ⟨y0, y1, _, _⟩ := HY1.out.cells
  cases hri : rightB m xs with
  | false =>
    have HNR : Hid (¬ RightI m xs) := fun h => by rw [rightB_yes h] at hri; cases hri
    go_wp2_with fail
    refine Calls.mono (HILL.out _) ?_
    rintro e w2 ⟨rfl, hb2⟩
    have HR2 : Hid (Res w2 (w.heap.size + 1) (.int .i64 0) (.slice none 0 0) (.int .i64 0) (.int .i64 0)) := HR1.out.below hb2 HR1.out.lt
    have HB2 : Hid (Below w.heap.size w w2) := HB1.out.trans (hb2.mono HB1.out.size)
    obtain ⟨⟨r0, r1, r2, r3⟩, q0, q1, q2, q3⟩ := HR2.out.cells
    clear hb2
    simp only [illV]
    go_wp2
    exact bodyPost_ret (v := illV 1) (by simp [results, Try.results20, go_sem, illV, r0, r1, r2, r3]) rfl (Or.inl ⟨Or.inl HNR.out, rfl, four_end HB2.out (by simp)⟩)
  | true =>
    cases hor : ordB xo with
    | false =>
      have HNR : Hid (ordB xo = false) := hor
      go_wp2_with (first | (go_at_call 29; refine Calls.mono (HOR.out _) ?_; rintro e w' ⟨rfl, rfl⟩))
      refine Calls.mono (HILL.out _) ?_
      rintro e w2 ⟨rfl, hb2⟩
      have HR2 : Hid (Res w2 (w.heap.size + 1) (.int .i64 0) (.slice none 0 0) (.int .i64 0) (.int .i64 0)) := HR1.out.below hb2 HR1.out.lt
      have HB2 : Hid (Below w.heap.size w w2) := HB1.out.trans (hb2.mono HB1.out.size)
      obtain ⟨⟨r0, r1, r2, r3⟩, q0, q1, q2, q3⟩ := HR2.out.cells
      clear hb2
      simp only [illV]
      go_wp2
      exact bodyPost_ret (v := illV 1) (by simp [results, Try.results20, go_sem, illV, r0, r1, r2, r3]) rfl (Or.inl ⟨Or.inr (Or.inl HNR.out), rfl, four_end HB2.out (by simp)⟩)
    | true =>
      obtain ⟨n, l, rfl, he, hr⟩ := rightB_iff.1 hri
      have hn5 := hr.ord
      have HE : Hid (xs = l.map emb) := he
      have HIN1 : Hid (∀ W, _) := HIN.out n hn5
      clear he HIN
      cases hin : inB n (xa, xo) with
      | false =>
        have HNR : Hid (∃ k : Nat, (n : Int) = (k : Int) ∧ inB k (xa, xo) = false) := ⟨n, rfl, hin⟩
        rw [hin] at HIN1
        go_wp2_with (first | (go_at_call 29; refine Calls.mono (HOR.out _) ?_; rintro e w' ⟨rfl, rfl⟩))
        refine Calls.mono (HIN1.out _) ?_
        rintro e w9 ⟨rfl, hb9⟩
        have HR9 : Hid (Res w9 (w.heap.size + 1) (.int .i64 0) (.slice none 0 0) (.int .i64 0) (.int .i64 0)) := HR1.out.below hb9 HR1.out.lt
        have HB9 : Hid (Below w.heap.size w w9) := HB1.out.trans (hb9.mono HB1.out.size)
        clear hb9
        go_wp2_with fail
        refine Calls.mono (HILL.out _) ?_
        rintro e w2 ⟨rfl, hb2⟩
        have HR2 : Hid (Res w2 (w.heap.size + 1) (.int .i64 0) (.slice none 0 0) (.int .i64 0) (.int .i64 0)) := HR9.out.below hb2 HR9.out.lt
        have HB2 : Hid (Below w.heap.size w w2) := HB9.out.trans (hb2.mono HB9.out.size)
        obtain ⟨⟨r0, r1, r2, r3⟩, q0, q1, q2, q3⟩ := HR2.out.cells
        clear hb2
        simp only [illV]
        go_wp2
        exact bodyPost_ret (v := illV 1) (by simp [results, Try.results20, go_sem, illV, r0, r1, r2, r3]) rfl (Or.inl ⟨Or.inr (Or.inr HNR.out), rfl, four_end HB2.out (by simp)⟩)
      | true =>
        obtain ⟨y, hy, hyn⟩ := in_nat hin
        have HEY : Hid ((xa, xo) = emb y) := hy
        have hy0 : xa = (y.1 : Int) := congrArg Prod.fst hy
        have hy1 : xo = (y.2 : Int) := congrArg Prod.snd hy
        rw [hin] at HIN1
        subst hy0 hy1
        clear hy hin
        go_wp2_with (first | (go_at_call 29; refine Calls.mono (HOR.out _) ?_; rintro e w' ⟨rfl, rfl⟩))
        refine Calls.mono (HIN1.out _) ?_
        rintro e w2 ⟨rfl, hb2⟩
        have HR2 : Hid (Res w2 (w.heap.size + 1) (.int .i64 0) (.slice none 0 0) (.int .i64 0) (.int .i64 0)) := HR1.out.below hb2 HR1.out.lt
        have HB2 : Hid (Below w.heap.size w w2) := HB1.out.trans (hb2.mono HB1.out.size)
        have B0 := (hb2.cell (p := ⟨w.heap.size, 0, none⟩) HX1.out.lt).trans b0
        have B1 := (hb2.cell (p := ⟨w.heap.size, 1, none⟩) HX1.out.lt).trans b1
        have Y0 := (hb2.cell (p := ⟨w.heap.size + 1 + 1, 0, none⟩) HY1.out.lt).trans y0
        have Y1 := (hb2.cell (p := ⟨w.heap.size + 1 + 1, 1, none⟩) HY1.out.lt).trans y1
        have HT : Hid _ := HGV.out n y l hyn hr HE.out w2 HB2.out
        clear hb2 HR1 HX1 HY1 HB1 b0 b1 f0 f1 y0 y1
        go_wp2_with fail
        refine Calls.mono HT.out ?_
        rintro e w3 (⟨rfl, hno, hb3⟩ | ⟨v', l', rfl, hoff, hgiv, hrd3, hb3, hown3⟩)
        · have HR3 : Hid (Res w3 (w.heap.size + 1) (.int .i64 0) (.slice none 0 0) (.int .i64 0) (.int .i64 0)) := HR2.out.below hb3 HR2.out.lt
          have HB3 : Hid (Below w.heap.size w w3) := HB2.out.trans (hb3.mono HB2.out.size)
          have HNO : Hid (¬ bd.Off l y) := hno
          obtain ⟨⟨r0, r1, r2, r3⟩, q0, q1, q2, q3⟩ := HR3.out.cells
          clear hb3 hno HT
          simp only [illV]
          go_wp2
          exact bodyPost_ret (v := illV 10) (by simp [results, Try.results20, go_sem, illV, r0, r1, r2, r3]) rfl
            (Or.inr ⟨n, l, y, rfl, HEY.out, hyn, HE.out, hr, Or.inl ⟨rfl, HNO.out, four_end HB3.out (by simp)⟩⟩)
        · have HR3 : Hid (Res w3 (w.heap.size + 1) (.int .i64 0) (.slice none 0 0) (.int .i64 0) (.int .i64 0)) := HR2.out.below hb3 HR2.out.lt
          have HB3 : Hid (Below w.heap.size w w3) := HB2.out.trans (hb3.mono HB2.out.size)
          have HOF : Hid (bd.Off l y) := hoff
          have HGI : Hid (bd.Given n l y l') := hgiv
          have HRD3 : Hid (Rd w3 v' (l'.map emb)) := hrd3
          obtain ⟨a3, c3, hv3, _⟩ := hrd3.form
          obtain ⟨L3, hL3⟩ : ∃ L, L = (l'.map emb).length := ⟨_, rfl⟩
          rw [← hL3] at hv3
          subst hv3
          obtain ⟨⟨r0, r1, r2, r3⟩, q0, q1, q2, q3⟩ := HR3.out.cells
          have HOW : Hid (Own w3 w.heap.size (.slice a3 L3 c3)) := hown3.down HB2.out.size
          clear hb3 hoff hgiv hrd3 hL3 HT hown3
          go_wp2
          exact bodyPost_ret (v := .agg #[.int .i64 n, .slice a3 L3 c3, .int .i64 0, .int .i64 0]) (by simp [results, Try.results20, go_sem, r0, r1, r2, r3]) rfl
            (Or.inr ⟨n, l, y, rfl, HEY.out, hyn, HE.out, hr, Or.inr ⟨.slice a3 L3 c3, l', rfl, HOF.out, HGI.out, rd_res4 HRD3.out HR3.out, four_end HB3.out (by simp), own_res4 HOW.out HR3.out⟩⟩)
end Go.Proofs.Ytcokchfedaoccab.bspec
