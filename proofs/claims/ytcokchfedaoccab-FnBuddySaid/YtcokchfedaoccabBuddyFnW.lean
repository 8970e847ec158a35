/-
  The walk of the law FnBuddy, at every two rows of bytes. No condition.
-/
import Derived.Test.YtcokchfedaoccabBuddyFn
import Derived.Deep.RegionHeld3
import Derived.Deep.Cut
import Derived.Deep.CutRange
namespace Go.Proofs.Ytcokchfedaoccab.blaw
open Go.RowKit Go.Deep Go.Sort
open Go.Proofs.Ytcokchfedaoccab
open Go.Proofs.Ytcokchfedaoccab.brows
open Go.Proofs.Ytcokchfedaoccab.bspec
open Go.Proofs.Ytcokchfedaoccab.draws (Byts)
open Go.Proofs.Ytcokchfedaoccab.btop (impl_take impl_give impl_new impl_free impl_of fitB spec_fits impl_fits)
open Go.Proofs.Ytcokchfedaoccab.bimpl (impl_right)
set_option linter.unusedVariables false

set_option maxRecDepth 100000 in
set_option maxHeartbeats 8000000 in
theorem walk (x1 : Option Addr) (len1 cap1 : Nat) (x2 : Option Addr) (len2 cap2 : Nat) (w : World) (hy1 : Byts w x1 len1 w.heap.size) (hy2 : Byts w x2 len2 w.heap.size) :
    Calls Try.prog 4 #[.slice x1 len1 cap1, .slice x2 len2 cap2] w fun e w' => e = .returned (.bool true) ∧ Below w.heap.size w w' := by
  have hl1 := hy1.1
  have hl2 := hy2.1
  have HY1 : Hid (∀ W, Below w.heap.size w W → Byts W x1 len1 W.heap.size) := fun W hW => (hy1.below hW (Nat.le_refl _)).up hW.size
  have HY2 : Hid (∀ W, Below w.heap.size w W → Byts W x2 len2 W.heap.size) := fun W hW => (hy2.below hW (Nat.le_refl _)).up hW.size
  clear hy1 hy2
  by_cases hc1 : (len1 : Int) ≤ 1048576
  · by_cases hc2 : (len2 : Int) ≤ 1048576
    · go_enter Try.func4, Try.ntmps4
      go_wp2_with fail
      refine Calls.mono (draws.drawBuddyTake x1 len1 cap1 _ (HY1.out _ (Below.refl _ _))) ?_
      rintro e w1 ⟨m, v, xs, o, rfl, hm0, hm1, hxl, ho0, ho1, hrd1, hb1⟩
      have HV : Hid (Rd w1 v xs) := hrd1
      have HB1 : Hid (Below w.heap.size w w1) := hb1
      have HXL : Hid (xs.length ≤ 40) := hxl
      obtain ⟨av, cv, hv, -⟩ := hrd1.form
      generalize xs.length = LX at hv
      subst hv
      clear hrd1 hb1 hxl
      go_wp2_with fail
      obtain ⟨V1, hV1⟩ : ∃ V, V = w1.alloc (.cells #[.int .i64 m, .slice av LX cv] 29) := ⟨_, rfl⟩
      have HP1 : Hid (Bx V1 w1.heap.size m (.slice av LX cv) xs) := by rw [hV1]; exact bx_new HV.out
      have HBV1 : Hid (Below w.heap.size w V1) := by rw [hV1]; exact below_tr HB1.out (below_one _ _)
      rw [← hV1]
      obtain ⟨P1, hP1⟩ : ∃ P, P = w1.heap.size := ⟨_, rfl⟩
      rw [← hP1] at HP1 ⊢
      clear hV1 hP1 HB1 HV
      refine Calls.mono (impl_take m o _ xs _ HP1.out.rd (by have := HXL.out; omega)) ?_
      rintro e w2 ⟨⟨a1, ys1, p1, q1⟩, u1, ha1, rfl, hr2, hb2⟩
      have HA1 : Hid (TakeAns m xs o (a1, ys1, p1, q1)) := ha1
      have HU1 : Hid (Rd w2 u1 ys1) := hr2.rd
      have HP1b : Hid (Bx w2 P1 m (.slice av LX cv) xs) := HP1.out.below hb2
      have HB2 : Hid (Below w.heap.size w w2) := below_tr HBV1.out hb2
      obtain ⟨au1, cu1, hu1, -⟩ := hr2.rd.form
      generalize ys1.length = LU1 at hu1
      subst hu1
      clear ha1 hr2 hb2 HP1 HBV1
      simp only [outV]
      go_wp2_with fail
      obtain ⟨V2, hV2⟩ : ∃ V, V = w2.alloc (.cells #[.int .i64 a1, .slice au1 LU1 cu1, .int .i64 p1, .int .i64 q1] 37) := ⟨_, rfl⟩
      have HX : Hid (Ax V2 w2.heap.size a1 p1 q1 (.slice au1 LU1 cu1) ys1) := by rw [hV2]; exact ax_new HU1.out
      have HP1 : Hid (Bx V2 P1 m (.slice av LX cv) xs) := by rw [hV2]; exact HP1b.out.below (below_one _ _)
      have HBV2 : Hid (Below w.heap.size w V2) := by rw [hV2]; exact below_tr HB2.out (below_one _ _)
      rw [← hV2]
      obtain ⟨X, hX⟩ : ∃ P, P = w2.heap.size := ⟨_, rfl⟩
      rw [← hX] at HX ⊢
      clear hV2 hX HU1 HP1b HB2
      refine Calls.mono (draws.drawBuddyGive x2 len2 cap2 _ (HY2.out _ HBV2.out)) ?_
      rintro e w3 ⟨m2, v2, xs2, at2, o2, rfl, hm20, hm21, hxl2, hrd3, hb3⟩
      have HV2 : Hid (Rd w3 v2 xs2) := hrd3
      have HX3 : Hid (Ax w3 X a1 p1 q1 (.slice au1 LU1 cu1) ys1) := HX.out.below hb3
      have HP13 : Hid (Bx w3 P1 m (.slice av LX cv) xs) := HP1.out.below hb3
      have HB3 : Hid (Below w.heap.size w w3) := below_tr HBV2.out hb3
      have HXL2 : Hid (xs2.length ≤ 40) := hxl2
      obtain ⟨av2, cv2, hv2, -⟩ := hrd3.form
      generalize xs2.length = LX2 at hv2
      subst hv2
      clear hrd3 hb3 hxl2 HX HP1 HBV2
      go_wp2_with fail
      obtain ⟨V3, hV3⟩ : ∃ V, V = w3.alloc (.cells #[.int .i64 m2, .slice av2 LX2 cv2] 29) := ⟨_, rfl⟩
      have HP2 : Hid (Bx V3 w3.heap.size m2 (.slice av2 LX2 cv2) xs2) := by rw [hV3]; exact bx_new HV2.out
      have HX : Hid (Ax V3 X a1 p1 q1 (.slice au1 LU1 cu1) ys1) := by rw [hV3]; exact HX3.out.below (below_one _ _)
      have HP1 : Hid (Bx V3 P1 m (.slice av LX cv) xs) := by rw [hV3]; exact HP13.out.below (below_one _ _)
      have HBV3 : Hid (Below w.heap.size w V3) := by rw [hV3]; exact below_tr HB3.out (below_one _ _)
      rw [← hV3]
      obtain ⟨P2, hP2⟩ : ∃ P, P = w3.heap.size := ⟨_, rfl⟩
      rw [← hP2] at HP2 ⊢
      clear hV3 hP2 HV2 HX3 HP13 HB3
      refine Calls.mono (impl_give m2 (at2, o2) _ xs2 _ HP2.out.rd (by have := HXL2.out; omega)) ?_
      rintro e w4 ⟨⟨a2, ys2, p2, q2⟩, u2, ha2, rfl, hr4, hb4⟩
      have HA2 : Hid (GiveAns m2 xs2 (at2, o2) (a2, ys2, p2, q2)) := ha2
      have HU2 : Hid (Rd w4 u2 ys2) := hr4.rd
      have HX4 : Hid (Ax w4 X a1 p1 q1 (.slice au1 LU1 cu1) ys1) := HX.out.below hb4
      have HP14 : Hid (Bx w4 P1 m (.slice av LX cv) xs) := HP1.out.below hb4
      have HP24 : Hid (Bx w4 P2 m2 (.slice av2 LX2 cv2) xs2) := HP2.out.below hb4
      have HB4 : Hid (Below w.heap.size w w4) := below_tr HBV3.out hb4
      obtain ⟨au2, cu2, hu2, -⟩ := hr4.rd.form
      generalize ys2.length = LU2 at hu2
      subst hu2
      clear ha2 hr4 hb4 HX HP1 HP2 HBV3
      simp only [outV]
      go_wp2_with fail
      obtain ⟨V4, hV4⟩ : ∃ V, V = w4.alloc (.cells #[.int .i64 a2, .slice au2 LU2 cu2, .int .i64 p2, .int .i64 q2] 37) := ⟨_, rfl⟩
      have HYY : Hid (Ax V4 w4.heap.size a2 p2 q2 (.slice au2 LU2 cu2) ys2) := by rw [hV4]; exact ax_new HU2.out
      have HX : Hid (Ax V4 X a1 p1 q1 (.slice au1 LU1 cu1) ys1) := by rw [hV4]; exact HX4.out.below (below_one _ _)
      have HP1 : Hid (Bx V4 P1 m (.slice av LX cv) xs) := by rw [hV4]; exact HP14.out.below (below_one _ _)
      have HP2 : Hid (Bx V4 P2 m2 (.slice av2 LX2 cv2) xs2) := by rw [hV4]; exact HP24.out.below (below_one _ _)
      have HBV4 : Hid (Below w.heap.size w V4) := by rw [hV4]; exact below_tr HB4.out (below_one _ _)
      rw [← hV4]
      obtain ⟨Y, hY⟩ : ∃ P, P = w4.heap.size := ⟨_, rfl⟩
      rw [← hY] at HYY ⊢
      clear hV4 hY HU2 HX4 HP14 HP24 HB4
      refine Calls.mono (draws.drawBuddyOf x2 len2 cap2 _ (HY2.out _ HBV4.out)) ?_
      rintro e w5 ⟨o3, v5, ps, rfl, hpl, hr5, hb5⟩
      have HPS : Hid (irows.Row w5 V4.heap.size v5 ps) := hr5
      have HPL : Hid (ps.length ≤ 40) := hpl
      have HY5 : Hid (Ax w5 Y a2 p2 q2 (.slice au2 LU2 cu2) ys2) := HYY.out.below hb5
      have HX5 : Hid (Ax w5 X a1 p1 q1 (.slice au1 LU1 cu1) ys1) := HX.out.below hb5
      have HP15 : Hid (Bx w5 P1 m (.slice av LX cv) xs) := HP1.out.below hb5
      have HP25 : Hid (Bx w5 P2 m2 (.slice av2 LX2 cv2) xs2) := HP2.out.below hb5
      have HB5 : Hid (Below w.heap.size w w5) := below_tr HBV4.out hb5
      clear hr5 hb5 hpl HYY HX HP1 HP2 HBV4
      go_wp2_with fail
      refine Calls.mono (impl_of o3 v5 ps _ (IRd.of HPS.out)) ?_
      rintro e w6 ⟨⟨a3, ys3, p3, q3⟩, u3, ha3, rfl, hr6, hb6⟩
      have HA3 : Hid (OfAns o3 ps (a3, ys3, p3, q3)) := ha3
      have HU3 : Hid (Rd w6 u3 ys3) := hr6.rd
      have HPS6 : Hid (irows.Row w6 V4.heap.size v5 ps) := HPS.out.later hb6
      have HY6 : Hid (Ax w6 Y a2 p2 q2 (.slice au2 LU2 cu2) ys2) := HY5.out.below hb6
      have HX6 : Hid (Ax w6 X a1 p1 q1 (.slice au1 LU1 cu1) ys1) := HX5.out.below hb6
      have HP16 : Hid (Bx w6 P1 m (.slice av LX cv) xs) := HP15.out.below hb6
      have HP26 : Hid (Bx w6 P2 m2 (.slice av2 LX2 cv2) xs2) := HP25.out.below hb6
      have HB6 : Hid (Below w.heap.size w w6) := below_tr HB5.out hb6
      obtain ⟨au3, cu3, hu3, -⟩ := hr6.rd.form
      generalize ys3.length = LU3 at hu3
      subst hu3
      clear ha3 hr6 hb6 HPS HY5 HX5 HP15 HP25 HB5
      simp only [outV]
      go_wp2_with fail
      obtain ⟨V6, hV6⟩ : ∃ V, V = w6.alloc (.cells #[.int .i64 a3, .slice au3 LU3 cu3, .int .i64 p3, .int .i64 q3] 37) := ⟨_, rfl⟩
      have HZ : Hid (Ax V6 w6.heap.size a3 p3 q3 (.slice au3 LU3 cu3) ys3) := by rw [hV6]; exact ax_new HU3.out
      have HPS : Hid (irows.Row V6 V4.heap.size v5 ps) := by rw [hV6]; exact HPS6.out.later (below_one _ _)
      have HYY : Hid (Ax V6 Y a2 p2 q2 (.slice au2 LU2 cu2) ys2) := by rw [hV6]; exact HY6.out.below (below_one _ _)
      have HX : Hid (Ax V6 X a1 p1 q1 (.slice au1 LU1 cu1) ys1) := by rw [hV6]; exact HX6.out.below (below_one _ _)
      have HP1 : Hid (Bx V6 P1 m (.slice av LX cv) xs) := by rw [hV6]; exact HP16.out.below (below_one _ _)
      have HP2 : Hid (Bx V6 P2 m2 (.slice av2 LX2 cv2) xs2) := by rw [hV6]; exact HP26.out.below (below_one _ _)
      have HBV6 : Hid (Below w.heap.size w V6) := by rw [hV6]; exact below_tr HB6.out (below_one _ _)
      rw [← hV6]
      obtain ⟨Z, hZ⟩ : ∃ P, P = w6.heap.size := ⟨_, rfl⟩
      rw [← hZ] at HZ ⊢
      clear hV6 hZ HU3 HPS6 HY6 HX6 HP16 HP26 HB6
      refine Calls.mono (draws.drawBuddyNew x1 len1 cap1 _ (HY1.out _ HBV6.out)) ?_
      rintro e w7 ⟨o4, rfl, ho40, ho41, hb7⟩
      have HP17 : Hid (Bx w7 P1 m (.slice av LX cv) xs) := HP1.out.below hb7
      have HB67 : Hid (Below V6.heap.size V6 w7) := hb7
      clear hb7
      obtain ⟨b0, b1, -, -⟩ := HP17.out.box.cells
      go_wp2_with fail
      refine Calls.mono (impl_free m _ xs _ HP17.out.rd (by have := HXL.out; omega)) ?_
      rintro e w8 ⟨v8, rfl, hr8, hb8⟩
      have HFR : Hid (irows.Row w8 w7.heap.size v8 (pagesI m xs)) := hr8
      have hb68 := below_tr HB67.out hb8
      have HPS8 : Hid (irows.Row w8 V4.heap.size v5 ps) := HPS.out.later hb68
      have HZ8 : Hid (Ax w8 Z a3 p3 q3 (.slice au3 LU3 cu3) ys3) := HZ.out.below hb68
      have HY8 : Hid (Ax w8 Y a2 p2 q2 (.slice au2 LU2 cu2) ys2) := HYY.out.below hb68
      have HX8 : Hid (Ax w8 X a1 p1 q1 (.slice au1 LU1 cu1) ys1) := HX.out.below hb68
      have HP18 : Hid (Bx w8 P1 m (.slice av LX cv) xs) := HP1.out.below hb68
      have HP28 : Hid (Bx w8 P2 m2 (.slice av2 LX2 cv2) xs2) := HP2.out.below hb68
      have HB8 : Hid (Below w.heap.size w w8) := below_tr HBV6.out hb68
      obtain ⟨a5, c5, hv5⟩ := HPS8.out.form
      generalize ps.length = LP at hv5
      subst hv5
      obtain ⟨a8, c8, hv8⟩ := HFR.out.form
      generalize (pagesI m xs).length = L8 at hv8
      subst hv8
      clear hr8 hb8 hb68 HP17 HB67 HPS HZ HYY HX HP1 HP2 HBV6 b0 b1
      go_upto_region 11 with fail
      have HMK : Hid (∀ W : World, Below w8.heap.size w8 W → (W.cell? ⟨P1, 0, none⟩ = some (.int .i64 m) ∧ W.cell? ⟨P1, 1, none⟩ = some (.slice av LX cv) ∧ W.cell? ⟨X, 0, none⟩ = some (.int .i64 a1) ∧ W.cell? ⟨X, 1, none⟩ = some (.slice au1 LU1 cu1) ∧ W.cell? ⟨X, 2, none⟩ = some (.int .i64 p1) ∧ W.cell? ⟨X, 3, none⟩ = some (.int .i64 q1) ∧ W.cell? ⟨P2, 0, none⟩ = some (.int .i64 m2) ∧ W.cell? ⟨P2, 1, none⟩ = some (.slice av2 LX2 cv2) ∧ W.cell? ⟨Y, 0, none⟩ = some (.int .i64 a2) ∧ W.cell? ⟨Y, 1, none⟩ = some (.slice au2 LU2 cu2) ∧ W.cell? ⟨Y, 2, none⟩ = some (.int .i64 p2) ∧ W.cell? ⟨Y, 3, none⟩ = some (.int .i64 q2) ∧ W.cell? ⟨Z, 0, none⟩ = some (.int .i64 a3) ∧ W.cell? ⟨Z, 1, none⟩ = some (.slice au3 LU3 cu3) ∧ W.cell? ⟨Z, 2, none⟩ = some (.int .i64 p3) ∧ W.cell? ⟨Z, 3, none⟩ = some (.int .i64 q3) ∧ Below w8.heap.size w8 W)) := fun W hb =>
        have h1 := (HP18.out.below hb).box.cells
        have h2 := (HX8.out.below hb).box.cells.1
        have h3 := (HP28.out.below hb).box.cells
        have h4 := (HY8.out.below hb).box.cells.1
        have h5 := (HZ8.out.below hb).box.cells.1
        ⟨h1.1, h1.2.1, h2.1, h2.2.1, h2.2.2.1, h2.2.2.2, h3.1, h3.2.1, h4.1, h4.2.1, h4.2.2.1, h4.2.2.2, h5.1, h5.2.1, h5.2.2.1, h5.2.2.2, hb⟩
      have HSB : Hid (∀ W W' : World, (W.cell? ⟨P1, 0, none⟩ = some (.int .i64 m) ∧ W.cell? ⟨P1, 1, none⟩ = some (.slice av LX cv) ∧ W.cell? ⟨X, 0, none⟩ = some (.int .i64 a1) ∧ W.cell? ⟨X, 1, none⟩ = some (.slice au1 LU1 cu1) ∧ W.cell? ⟨X, 2, none⟩ = some (.int .i64 p1) ∧ W.cell? ⟨X, 3, none⟩ = some (.int .i64 q1) ∧ W.cell? ⟨P2, 0, none⟩ = some (.int .i64 m2) ∧ W.cell? ⟨P2, 1, none⟩ = some (.slice av2 LX2 cv2) ∧ W.cell? ⟨Y, 0, none⟩ = some (.int .i64 a2) ∧ W.cell? ⟨Y, 1, none⟩ = some (.slice au2 LU2 cu2) ∧ W.cell? ⟨Y, 2, none⟩ = some (.int .i64 p2) ∧ W.cell? ⟨Y, 3, none⟩ = some (.int .i64 q2) ∧ W.cell? ⟨Z, 0, none⟩ = some (.int .i64 a3) ∧ W.cell? ⟨Z, 1, none⟩ = some (.slice au3 LU3 cu3) ∧ W.cell? ⟨Z, 2, none⟩ = some (.int .i64 p3) ∧ W.cell? ⟨Z, 3, none⟩ = some (.int .i64 q3) ∧ Below w8.heap.size w8 W) → Below W.heap.size W W' → (W'.cell? ⟨P1, 0, none⟩ = some (.int .i64 m) ∧ W'.cell? ⟨P1, 1, none⟩ = some (.slice av LX cv) ∧ W'.cell? ⟨X, 0, none⟩ = some (.int .i64 a1) ∧ W'.cell? ⟨X, 1, none⟩ = some (.slice au1 LU1 cu1) ∧ W'.cell? ⟨X, 2, none⟩ = some (.int .i64 p1) ∧ W'.cell? ⟨X, 3, none⟩ = some (.int .i64 q1) ∧ W'.cell? ⟨P2, 0, none⟩ = some (.int .i64 m2) ∧ W'.cell? ⟨P2, 1, none⟩ = some (.slice av2 LX2 cv2) ∧ W'.cell? ⟨Y, 0, none⟩ = some (.int .i64 a2) ∧ W'.cell? ⟨Y, 1, none⟩ = some (.slice au2 LU2 cu2) ∧ W'.cell? ⟨Y, 2, none⟩ = some (.int .i64 p2) ∧ W'.cell? ⟨Y, 3, none⟩ = some (.int .i64 q2) ∧ W'.cell? ⟨Z, 0, none⟩ = some (.int .i64 a3) ∧ W'.cell? ⟨Z, 1, none⟩ = some (.slice au3 LU3 cu3) ∧ W'.cell? ⟨Z, 2, none⟩ = some (.int .i64 p3) ∧ W'.cell? ⟨Z, 3, none⟩ = some (.int .i64 q3) ∧ Below w8.heap.size w8 W')) := fun W W' h hb => HMK.out _ (below_tr h.2.2.2.2.2.2.2.2.2.2.2.2.2.2.2.2 hb)
      have T1 : Hid (∀ W : World, (W.cell? ⟨P1, 0, none⟩ = some (.int .i64 m) ∧ W.cell? ⟨P1, 1, none⟩ = some (.slice av LX cv) ∧ W.cell? ⟨X, 0, none⟩ = some (.int .i64 a1) ∧ W.cell? ⟨X, 1, none⟩ = some (.slice au1 LU1 cu1) ∧ W.cell? ⟨X, 2, none⟩ = some (.int .i64 p1) ∧ W.cell? ⟨X, 3, none⟩ = some (.int .i64 q1) ∧ W.cell? ⟨P2, 0, none⟩ = some (.int .i64 m2) ∧ W.cell? ⟨P2, 1, none⟩ = some (.slice av2 LX2 cv2) ∧ W.cell? ⟨Y, 0, none⟩ = some (.int .i64 a2) ∧ W.cell? ⟨Y, 1, none⟩ = some (.slice au2 LU2 cu2) ∧ W.cell? ⟨Y, 2, none⟩ = some (.int .i64 p2) ∧ W.cell? ⟨Y, 3, none⟩ = some (.int .i64 q2) ∧ W.cell? ⟨Z, 0, none⟩ = some (.int .i64 a3) ∧ W.cell? ⟨Z, 1, none⟩ = some (.slice au3 LU3 cu3) ∧ W.cell? ⟨Z, 2, none⟩ = some (.int .i64 p3) ∧ W.cell? ⟨Z, 3, none⟩ = some (.int .i64 q3) ∧ Below w8.heap.size w8 W) → Calls Try.prog 19 #[.agg #[.int .i64 m, .slice av LX cv], .int .i64 o] W (SaysA a1 p1 q1 ys1 W)) := fun W h => says_a (says_take m o _ xs W (HP18.out.below h.2.2.2.2.2.2.2.2.2.2.2.2.2.2.2.2).rd) HA1.out (fun a b => take_one)
      have T2 : Hid (∀ W : World, (W.cell? ⟨P1, 0, none⟩ = some (.int .i64 m) ∧ W.cell? ⟨P1, 1, none⟩ = some (.slice av LX cv) ∧ W.cell? ⟨X, 0, none⟩ = some (.int .i64 a1) ∧ W.cell? ⟨X, 1, none⟩ = some (.slice au1 LU1 cu1) ∧ W.cell? ⟨X, 2, none⟩ = some (.int .i64 p1) ∧ W.cell? ⟨X, 3, none⟩ = some (.int .i64 q1) ∧ W.cell? ⟨P2, 0, none⟩ = some (.int .i64 m2) ∧ W.cell? ⟨P2, 1, none⟩ = some (.slice av2 LX2 cv2) ∧ W.cell? ⟨Y, 0, none⟩ = some (.int .i64 a2) ∧ W.cell? ⟨Y, 1, none⟩ = some (.slice au2 LU2 cu2) ∧ W.cell? ⟨Y, 2, none⟩ = some (.int .i64 p2) ∧ W.cell? ⟨Y, 3, none⟩ = some (.int .i64 q2) ∧ W.cell? ⟨Z, 0, none⟩ = some (.int .i64 a3) ∧ W.cell? ⟨Z, 1, none⟩ = some (.slice au3 LU3 cu3) ∧ W.cell? ⟨Z, 2, none⟩ = some (.int .i64 p3) ∧ W.cell? ⟨Z, 3, none⟩ = some (.int .i64 q3) ∧ Below w8.heap.size w8 W) → Calls Try.prog 20 #[.agg #[.int .i64 m2, .slice av2 LX2 cv2], .int .i64 at2, .int .i64 o2] W (SaysA a2 p2 q2 ys2 W)) := fun W h => says_a (says_give m2 (at2, o2) _ xs2 W (HP28.out.below h.2.2.2.2.2.2.2.2.2.2.2.2.2.2.2.2).rd) HA2.out (fun a b => give_one)
      have T3 : Hid (∀ W : World, (W.cell? ⟨P1, 0, none⟩ = some (.int .i64 m) ∧ W.cell? ⟨P1, 1, none⟩ = some (.slice av LX cv) ∧ W.cell? ⟨X, 0, none⟩ = some (.int .i64 a1) ∧ W.cell? ⟨X, 1, none⟩ = some (.slice au1 LU1 cu1) ∧ W.cell? ⟨X, 2, none⟩ = some (.int .i64 p1) ∧ W.cell? ⟨X, 3, none⟩ = some (.int .i64 q1) ∧ W.cell? ⟨P2, 0, none⟩ = some (.int .i64 m2) ∧ W.cell? ⟨P2, 1, none⟩ = some (.slice av2 LX2 cv2) ∧ W.cell? ⟨Y, 0, none⟩ = some (.int .i64 a2) ∧ W.cell? ⟨Y, 1, none⟩ = some (.slice au2 LU2 cu2) ∧ W.cell? ⟨Y, 2, none⟩ = some (.int .i64 p2) ∧ W.cell? ⟨Y, 3, none⟩ = some (.int .i64 q2) ∧ W.cell? ⟨Z, 0, none⟩ = some (.int .i64 a3) ∧ W.cell? ⟨Z, 1, none⟩ = some (.slice au3 LU3 cu3) ∧ W.cell? ⟨Z, 2, none⟩ = some (.int .i64 p3) ∧ W.cell? ⟨Z, 3, none⟩ = some (.int .i64 q3) ∧ Below w8.heap.size w8 W) → Calls Try.prog 21 #[.int .i64 o3, .slice a5 LP c5] W (SaysA a3 p3 q3 ys3 W)) := fun W h => says_a (says_of o3 _ ps W (IRd.of (HPS8.out.later h.2.2.2.2.2.2.2.2.2.2.2.2.2.2.2.2))) HA3.out (fun a b => of_one)
      obtain ⟨⟨a4, ys4, p4, q4⟩, ha4⟩ : ∃ a, NewAns o4 a := by
        cases ho4 : ordB o4 with
        | false => exact ⟨_, Or.inl ⟨ho4, rfl⟩⟩
        | true =>
          obtain ⟨n4, hn4, rfl⟩ := ord_nat ho4
          exact ⟨_, Or.inr ⟨n4, rfl, hn4, rfl⟩⟩
      have HA4 : Hid (NewAns o4 (a4, ys4, p4, q4)) := ha4
      clear ha4
      have N1 : Hid (∀ W, Calls Try.prog 22 #[.int .i64 o4] W (SaysA a4 p4 q4 ys4 W)) := fun W => (impl_new o4 W).mono fun e W' ⟨a, u, ha, he, hr, hb⟩ => by
        obtain rfl := new_one HA4.out ha
        exact ⟨u, he, hr.rd, hb⟩
      have N2 : Hid (∀ W, Calls Try.prog 23 #[.int .i64 o4] W (SaysA a4 p4 q4 ys4 W)) := fun W => says_a (says_new o4 W) HA4.out (fun a b => new_one)
      have HRB : Hid (∀ (u : Value) (ys : List Pr) (W W' : World), Hid (Rd W u ys) → Below W.heap.size W W' → Hid (Rd W' u ys)) := fun u ys W W' h hb => h.out.below hb
      have L1 : Hid (∀ (u : Value) (W : World), (W.cell? ⟨P1, 0, none⟩ = some (.int .i64 m) ∧ W.cell? ⟨P1, 1, none⟩ = some (.slice av LX cv) ∧ W.cell? ⟨X, 0, none⟩ = some (.int .i64 a1) ∧ W.cell? ⟨X, 1, none⟩ = some (.slice au1 LU1 cu1) ∧ W.cell? ⟨X, 2, none⟩ = some (.int .i64 p1) ∧ W.cell? ⟨X, 3, none⟩ = some (.int .i64 q1) ∧ W.cell? ⟨P2, 0, none⟩ = some (.int .i64 m2) ∧ W.cell? ⟨P2, 1, none⟩ = some (.slice av2 LX2 cv2) ∧ W.cell? ⟨Y, 0, none⟩ = some (.int .i64 a2) ∧ W.cell? ⟨Y, 1, none⟩ = some (.slice au2 LU2 cu2) ∧ W.cell? ⟨Y, 2, none⟩ = some (.int .i64 p2) ∧ W.cell? ⟨Y, 3, none⟩ = some (.int .i64 q2) ∧ W.cell? ⟨Z, 0, none⟩ = some (.int .i64 a3) ∧ W.cell? ⟨Z, 1, none⟩ = some (.slice au3 LU3 cu3) ∧ W.cell? ⟨Z, 2, none⟩ = some (.int .i64 p3) ∧ W.cell? ⟨Z, 3, none⟩ = some (.int .i64 q3) ∧ Below w8.heap.size w8 W) → Hid (Rd W u ys1) → Calls Try.prog 18 #[.agg #[.int .i64 a1, .slice au1 LU1 cu1, .int .i64 p1, .int .i64 q1], .agg #[.int .i64 a1, u, .int .i64 p1, .int .i64 q1]] W (fun e w' => e = .returned (.bool true) ∧ Below W.heap.size W w')) := fun u W h hu => lw_buddy a1 p1 q1 ys1 _ u W (HX8.out.below h.2.2.2.2.2.2.2.2.2.2.2.2.2.2.2.2).rd hu.out (take_right HA1.out).1 (Nat.le_trans (take_right HA1.out).2 (by omega))
      have L2 : Hid (∀ (u : Value) (W : World), (W.cell? ⟨P1, 0, none⟩ = some (.int .i64 m) ∧ W.cell? ⟨P1, 1, none⟩ = some (.slice av LX cv) ∧ W.cell? ⟨X, 0, none⟩ = some (.int .i64 a1) ∧ W.cell? ⟨X, 1, none⟩ = some (.slice au1 LU1 cu1) ∧ W.cell? ⟨X, 2, none⟩ = some (.int .i64 p1) ∧ W.cell? ⟨X, 3, none⟩ = some (.int .i64 q1) ∧ W.cell? ⟨P2, 0, none⟩ = some (.int .i64 m2) ∧ W.cell? ⟨P2, 1, none⟩ = some (.slice av2 LX2 cv2) ∧ W.cell? ⟨Y, 0, none⟩ = some (.int .i64 a2) ∧ W.cell? ⟨Y, 1, none⟩ = some (.slice au2 LU2 cu2) ∧ W.cell? ⟨Y, 2, none⟩ = some (.int .i64 p2) ∧ W.cell? ⟨Y, 3, none⟩ = some (.int .i64 q2) ∧ W.cell? ⟨Z, 0, none⟩ = some (.int .i64 a3) ∧ W.cell? ⟨Z, 1, none⟩ = some (.slice au3 LU3 cu3) ∧ W.cell? ⟨Z, 2, none⟩ = some (.int .i64 p3) ∧ W.cell? ⟨Z, 3, none⟩ = some (.int .i64 q3) ∧ Below w8.heap.size w8 W) → Hid (Rd W u ys2) → Calls Try.prog 18 #[.agg #[.int .i64 a2, .slice au2 LU2 cu2, .int .i64 p2, .int .i64 q2], .agg #[.int .i64 a2, u, .int .i64 p2, .int .i64 q2]] W (fun e w' => e = .returned (.bool true) ∧ Below W.heap.size W w')) := fun u W h hu => lw_buddy a2 p2 q2 ys2 _ u W (HY8.out.below h.2.2.2.2.2.2.2.2.2.2.2.2.2.2.2.2).rd hu.out (give_right HA2.out).1 (Nat.le_trans (give_right HA2.out).2 (by omega))
      have L3 : Hid (∀ (u : Value) (W : World), (W.cell? ⟨P1, 0, none⟩ = some (.int .i64 m) ∧ W.cell? ⟨P1, 1, none⟩ = some (.slice av LX cv) ∧ W.cell? ⟨X, 0, none⟩ = some (.int .i64 a1) ∧ W.cell? ⟨X, 1, none⟩ = some (.slice au1 LU1 cu1) ∧ W.cell? ⟨X, 2, none⟩ = some (.int .i64 p1) ∧ W.cell? ⟨X, 3, none⟩ = some (.int .i64 q1) ∧ W.cell? ⟨P2, 0, none⟩ = some (.int .i64 m2) ∧ W.cell? ⟨P2, 1, none⟩ = some (.slice av2 LX2 cv2) ∧ W.cell? ⟨Y, 0, none⟩ = some (.int .i64 a2) ∧ W.cell? ⟨Y, 1, none⟩ = some (.slice au2 LU2 cu2) ∧ W.cell? ⟨Y, 2, none⟩ = some (.int .i64 p2) ∧ W.cell? ⟨Y, 3, none⟩ = some (.int .i64 q2) ∧ W.cell? ⟨Z, 0, none⟩ = some (.int .i64 a3) ∧ W.cell? ⟨Z, 1, none⟩ = some (.slice au3 LU3 cu3) ∧ W.cell? ⟨Z, 2, none⟩ = some (.int .i64 p3) ∧ W.cell? ⟨Z, 3, none⟩ = some (.int .i64 q3) ∧ Below w8.heap.size w8 W) → Hid (Rd W u ys3) → Calls Try.prog 18 #[.agg #[.int .i64 a3, .slice au3 LU3 cu3, .int .i64 p3, .int .i64 q3], .agg #[.int .i64 a3, u, .int .i64 p3, .int .i64 q3]] W (fun e w' => e = .returned (.bool true) ∧ Below W.heap.size W w')) := fun u W h hu => lw_buddy a3 p3 q3 ys3 _ u W (HZ8.out.below h.2.2.2.2.2.2.2.2.2.2.2.2.2.2.2.2).rd hu.out (of_right HA3.out).1 (Nat.le_trans (of_right HA3.out).2 (by omega))
      have L4 : Hid (∀ (u u' : Value) (W : World), Hid (Rd W u ys4) → Hid (Rd W u' ys4) → Calls Try.prog 18 #[.agg #[.int .i64 a4, u, .int .i64 p4, .int .i64 q4], .agg #[.int .i64 a4, u', .int .i64 p4, .int .i64 q4]] W (fun e w' => e = .returned (.bool true) ∧ Below W.heap.size W w')) := fun u u' W h h' => lw_buddy a4 p4 q4 ys4 u u' W h.out h'.out (new_right HA4.out).1 (Nat.le_trans (new_right HA4.out).2 (by omega))
      have F1 : Hid (∀ W : World, (W.cell? ⟨P1, 0, none⟩ = some (.int .i64 m) ∧ W.cell? ⟨P1, 1, none⟩ = some (.slice av LX cv) ∧ W.cell? ⟨X, 0, none⟩ = some (.int .i64 a1) ∧ W.cell? ⟨X, 1, none⟩ = some (.slice au1 LU1 cu1) ∧ W.cell? ⟨X, 2, none⟩ = some (.int .i64 p1) ∧ W.cell? ⟨X, 3, none⟩ = some (.int .i64 q1) ∧ W.cell? ⟨P2, 0, none⟩ = some (.int .i64 m2) ∧ W.cell? ⟨P2, 1, none⟩ = some (.slice av2 LX2 cv2) ∧ W.cell? ⟨Y, 0, none⟩ = some (.int .i64 a2) ∧ W.cell? ⟨Y, 1, none⟩ = some (.slice au2 LU2 cu2) ∧ W.cell? ⟨Y, 2, none⟩ = some (.int .i64 p2) ∧ W.cell? ⟨Y, 3, none⟩ = some (.int .i64 q2) ∧ W.cell? ⟨Z, 0, none⟩ = some (.int .i64 a3) ∧ W.cell? ⟨Z, 1, none⟩ = some (.slice au3 LU3 cu3) ∧ W.cell? ⟨Z, 2, none⟩ = some (.int .i64 p3) ∧ W.cell? ⟨Z, 3, none⟩ = some (.int .i64 q3) ∧ Below w8.heap.size w8 W) → Calls Try.prog 25 #[.agg #[.int .i64 m, .slice av LX cv]] W (Gives W (pagesI m xs))) := fun W h => spec_pages m _ xs W (HP18.out.below h.2.2.2.2.2.2.2.2.2.2.2.2.2.2.2.2).rd
      have F2 : Hid (∀ (b : Nat) (v : Value) (W : World), (W.cell? ⟨P1, 0, none⟩ = some (.int .i64 m) ∧ W.cell? ⟨P1, 1, none⟩ = some (.slice av LX cv) ∧ W.cell? ⟨X, 0, none⟩ = some (.int .i64 a1) ∧ W.cell? ⟨X, 1, none⟩ = some (.slice au1 LU1 cu1) ∧ W.cell? ⟨X, 2, none⟩ = some (.int .i64 p1) ∧ W.cell? ⟨X, 3, none⟩ = some (.int .i64 q1) ∧ W.cell? ⟨P2, 0, none⟩ = some (.int .i64 m2) ∧ W.cell? ⟨P2, 1, none⟩ = some (.slice av2 LX2 cv2) ∧ W.cell? ⟨Y, 0, none⟩ = some (.int .i64 a2) ∧ W.cell? ⟨Y, 1, none⟩ = some (.slice au2 LU2 cu2) ∧ W.cell? ⟨Y, 2, none⟩ = some (.int .i64 p2) ∧ W.cell? ⟨Y, 3, none⟩ = some (.int .i64 q2) ∧ W.cell? ⟨Z, 0, none⟩ = some (.int .i64 a3) ∧ W.cell? ⟨Z, 1, none⟩ = some (.slice au3 LU3 cu3) ∧ W.cell? ⟨Z, 2, none⟩ = some (.int .i64 p3) ∧ W.cell? ⟨Z, 3, none⟩ = some (.int .i64 q3) ∧ Below w8.heap.size w8 W) → Hid (irows.Row W b v (pagesI m xs)) → Calls Try.prog 24 #[.slice a8 L8 c8, v] W (fun e w' => e = .returned (.bool true) ∧ Below W.heap.size W w')) := fun b v W h hv => irows.lw_rows (HFR.out.later h.2.2.2.2.2.2.2.2.2.2.2.2.2.2.2.2) hv.out (Nat.le_trans (pages_few m xs) (by omega))
      have G1 : Hid (∀ W : World, (W.cell? ⟨P1, 0, none⟩ = some (.int .i64 m) ∧ W.cell? ⟨P1, 1, none⟩ = some (.slice av LX cv) ∧ W.cell? ⟨X, 0, none⟩ = some (.int .i64 a1) ∧ W.cell? ⟨X, 1, none⟩ = some (.slice au1 LU1 cu1) ∧ W.cell? ⟨X, 2, none⟩ = some (.int .i64 p1) ∧ W.cell? ⟨X, 3, none⟩ = some (.int .i64 q1) ∧ W.cell? ⟨P2, 0, none⟩ = some (.int .i64 m2) ∧ W.cell? ⟨P2, 1, none⟩ = some (.slice av2 LX2 cv2) ∧ W.cell? ⟨Y, 0, none⟩ = some (.int .i64 a2) ∧ W.cell? ⟨Y, 1, none⟩ = some (.slice au2 LU2 cu2) ∧ W.cell? ⟨Y, 2, none⟩ = some (.int .i64 p2) ∧ W.cell? ⟨Y, 3, none⟩ = some (.int .i64 q2) ∧ W.cell? ⟨Z, 0, none⟩ = some (.int .i64 a3) ∧ W.cell? ⟨Z, 1, none⟩ = some (.slice au3 LU3 cu3) ∧ W.cell? ⟨Z, 2, none⟩ = some (.int .i64 p3) ∧ W.cell? ⟨Z, 3, none⟩ = some (.int .i64 q3) ∧ Below w8.heap.size w8 W) → Calls Try.prog 8 #[.agg #[.int .i64 m, .slice av LX cv], .int .i64 o] W (fun e w' => e = .returned (.bool (fitB m xs o)) ∧ Below W.heap.size W w')) := fun W h => impl_fits m o _ xs W (HP18.out.below h.2.2.2.2.2.2.2.2.2.2.2.2.2.2.2.2).rd (by have := HXL.out; omega)
      have G2 : Hid (∀ W : World, (W.cell? ⟨P1, 0, none⟩ = some (.int .i64 m) ∧ W.cell? ⟨P1, 1, none⟩ = some (.slice av LX cv) ∧ W.cell? ⟨X, 0, none⟩ = some (.int .i64 a1) ∧ W.cell? ⟨X, 1, none⟩ = some (.slice au1 LU1 cu1) ∧ W.cell? ⟨X, 2, none⟩ = some (.int .i64 p1) ∧ W.cell? ⟨X, 3, none⟩ = some (.int .i64 q1) ∧ W.cell? ⟨P2, 0, none⟩ = some (.int .i64 m2) ∧ W.cell? ⟨P2, 1, none⟩ = some (.slice av2 LX2 cv2) ∧ W.cell? ⟨Y, 0, none⟩ = some (.int .i64 a2) ∧ W.cell? ⟨Y, 1, none⟩ = some (.slice au2 LU2 cu2) ∧ W.cell? ⟨Y, 2, none⟩ = some (.int .i64 p2) ∧ W.cell? ⟨Y, 3, none⟩ = some (.int .i64 q2) ∧ W.cell? ⟨Z, 0, none⟩ = some (.int .i64 a3) ∧ W.cell? ⟨Z, 1, none⟩ = some (.slice au3 LU3 cu3) ∧ W.cell? ⟨Z, 2, none⟩ = some (.int .i64 p3) ∧ W.cell? ⟨Z, 3, none⟩ = some (.int .i64 q3) ∧ Below w8.heap.size w8 W) → Calls Try.prog 6 #[.agg #[.int .i64 m, .slice av LX cv], .int .i64 o] W (fun e w' => e = .returned (.bool (fitB m xs o)) ∧ Below W.heap.size W w')) := fun W h => spec_fits m o _ xs W (HP18.out.below h.2.2.2.2.2.2.2.2.2.2.2.2.2.2.2.2).rd
      have R1 : Hid (∀ W : World, (W.cell? ⟨P1, 0, none⟩ = some (.int .i64 m) ∧ W.cell? ⟨P1, 1, none⟩ = some (.slice av LX cv) ∧ W.cell? ⟨X, 0, none⟩ = some (.int .i64 a1) ∧ W.cell? ⟨X, 1, none⟩ = some (.slice au1 LU1 cu1) ∧ W.cell? ⟨X, 2, none⟩ = some (.int .i64 p1) ∧ W.cell? ⟨X, 3, none⟩ = some (.int .i64 q1) ∧ W.cell? ⟨P2, 0, none⟩ = some (.int .i64 m2) ∧ W.cell? ⟨P2, 1, none⟩ = some (.slice av2 LX2 cv2) ∧ W.cell? ⟨Y, 0, none⟩ = some (.int .i64 a2) ∧ W.cell? ⟨Y, 1, none⟩ = some (.slice au2 LU2 cu2) ∧ W.cell? ⟨Y, 2, none⟩ = some (.int .i64 p2) ∧ W.cell? ⟨Y, 3, none⟩ = some (.int .i64 q2) ∧ W.cell? ⟨Z, 0, none⟩ = some (.int .i64 a3) ∧ W.cell? ⟨Z, 1, none⟩ = some (.slice au3 LU3 cu3) ∧ W.cell? ⟨Z, 2, none⟩ = some (.int .i64 p3) ∧ W.cell? ⟨Z, 3, none⟩ = some (.int .i64 q3) ∧ Below w8.heap.size w8 W) → Calls Try.prog 26 #[.agg #[.int .i64 m, .slice av LX cv]] W (fun e w' => e = .returned (.bool (rightB m xs)) ∧ Below W.heap.size W w')) := fun W h => impl_right m _ xs W (HP18.out.below h.2.2.2.2.2.2.2.2.2.2.2.2.2.2.2.2).rd (by have := HXL.out; omega)
      have R2 : Hid (∀ W : World, (W.cell? ⟨P1, 0, none⟩ = some (.int .i64 m) ∧ W.cell? ⟨P1, 1, none⟩ = some (.slice av LX cv) ∧ W.cell? ⟨X, 0, none⟩ = some (.int .i64 a1) ∧ W.cell? ⟨X, 1, none⟩ = some (.slice au1 LU1 cu1) ∧ W.cell? ⟨X, 2, none⟩ = some (.int .i64 p1) ∧ W.cell? ⟨X, 3, none⟩ = some (.int .i64 q1) ∧ W.cell? ⟨P2, 0, none⟩ = some (.int .i64 m2) ∧ W.cell? ⟨P2, 1, none⟩ = some (.slice av2 LX2 cv2) ∧ W.cell? ⟨Y, 0, none⟩ = some (.int .i64 a2) ∧ W.cell? ⟨Y, 1, none⟩ = some (.slice au2 LU2 cu2) ∧ W.cell? ⟨Y, 2, none⟩ = some (.int .i64 p2) ∧ W.cell? ⟨Y, 3, none⟩ = some (.int .i64 q2) ∧ W.cell? ⟨Z, 0, none⟩ = some (.int .i64 a3) ∧ W.cell? ⟨Z, 1, none⟩ = some (.slice au3 LU3 cu3) ∧ W.cell? ⟨Z, 2, none⟩ = some (.int .i64 p3) ∧ W.cell? ⟨Z, 3, none⟩ = some (.int .i64 q3) ∧ Below w8.heap.size w8 W) → Calls Try.prog 27 #[.agg #[.int .i64 m, .slice av LX cv]] W (fun e w' => e = .returned (.bool (rightB m xs)) ∧ Below W.heap.size W w')) := fun W h => spec_right m _ xs W (HP18.out.below h.2.2.2.2.2.2.2.2.2.2.2.2.2.2.2.2).rd
      have hM0 := HMK.out _ (Below.refl _ _)
      have hMd := HMK.out _ (Below.drew (Below.refl w8.heap.size w8))
      go_cut [115] from 24 to 116 (fun s W => s = .bool false ∧ Hid (Below w8.heap.size w8 W))
      case first => as_aux_lemma =>
        go_region_held3 (fun W => W.cell? ⟨P1, 0, none⟩ = some (.int .i64 m) ∧ W.cell? ⟨P1, 1, none⟩ = some (.slice av LX cv) ∧ W.cell? ⟨X, 0, none⟩ = some (.int .i64 a1) ∧ W.cell? ⟨X, 1, none⟩ = some (.slice au1 LU1 cu1) ∧ W.cell? ⟨X, 2, none⟩ = some (.int .i64 p1) ∧ W.cell? ⟨X, 3, none⟩ = some (.int .i64 q1) ∧ W.cell? ⟨P2, 0, none⟩ = some (.int .i64 m2) ∧ W.cell? ⟨P2, 1, none⟩ = some (.slice av2 LX2 cv2) ∧ W.cell? ⟨Y, 0, none⟩ = some (.int .i64 a2) ∧ W.cell? ⟨Y, 1, none⟩ = some (.slice au2 LU2 cu2) ∧ W.cell? ⟨Y, 2, none⟩ = some (.int .i64 p2) ∧ W.cell? ⟨Y, 3, none⟩ = some (.int .i64 q2) ∧ W.cell? ⟨Z, 0, none⟩ = some (.int .i64 a3) ∧ W.cell? ⟨Z, 1, none⟩ = some (.slice au3 LU3 cu3) ∧ W.cell? ⟨Z, 2, none⟩ = some (.int .i64 p3) ∧ W.cell? ⟨Z, 3, none⟩ = some (.int .i64 q3) ∧ Below w8.heap.size w8 W)
          (with_reducible first | assumption | exact hM0 | exact hMd)
          (first | (go_at_call 19; refine Calls.mono (T1.out _ (by with_reducible assumption)) ?_; rintro e wA ⟨uA, rfl, hrA, hbA⟩; have ZZ := HSB.out _ _ (by with_reducible assumption) hbA; have RA1 : Hid (Rd wA uA ys1) := hrA; obtain ⟨aA, cA, hA, _⟩ := hrA.form; generalize ys1.length = LA at hA; subst hA; clear hrA hbA) | (go_at_call 20; refine Calls.mono (T2.out _ (by with_reducible assumption)) ?_; rintro e wB ⟨uA, rfl, hrA, hbA⟩; have ZZ := HSB.out _ _ (by with_reducible assumption) hbA; have RA2 : Hid (Rd wB uA ys2) := hrA; obtain ⟨aA, cA, hA, _⟩ := hrA.form; generalize ys2.length = LA at hA; subst hA; clear hrA hbA) | (go_at_call 21; refine Calls.mono (T3.out _ (by with_reducible assumption)) ?_; rintro e wC ⟨uA, rfl, hrA, hbA⟩; have ZZ := HSB.out _ _ (by with_reducible assumption) hbA; have RA3 : Hid (Rd wC uA ys3) := hrA; obtain ⟨aA, cA, hA, _⟩ := hrA.form; generalize ys3.length = LA at hA; subst hA; clear hrA hbA) | (go_at_call 22; refine Calls.mono (N1.out _) ?_; rintro e wD ⟨uA, rfl, hrA, hbA⟩; have ZZ := HSB.out _ _ (by with_reducible assumption) hbA; have RA4 : Hid (Rd wD uA ys4) := hrA; obtain ⟨aA, cA, hA, _⟩ := hrA.form; generalize ys4.length = LA at hA; subst hA; clear hrA hbA) | (go_at_call 23; refine Calls.mono (N2.out _) ?_; rintro e wE ⟨uB, rfl, hrA, hbA⟩; have ZZ := HSB.out _ _ (by with_reducible assumption) hbA; have RA5 : Hid (Rd wE uB ys4) := hrA; (with_reducible have RA4 := HRB.out _ _ _ _ RA4 hbA); obtain ⟨aB, cB, hA, _⟩ := hrA.form; generalize ys4.length = LB at hA; subst hA; clear hrA hbA) | (go_at_call 18; (first | with_reducible refine Calls.mono (L1.out _ _ (by with_reducible assumption) RA1) ?_ | with_reducible refine Calls.mono (L2.out _ _ (by with_reducible assumption) RA2) ?_ | with_reducible refine Calls.mono (L3.out _ _ (by with_reducible assumption) RA3) ?_ | with_reducible refine Calls.mono (L4.out _ _ _ RA4 RA5) ?_); rintro e wF ⟨rfl, hbA⟩; have ZZ := HSB.out _ _ (by with_reducible assumption) hbA; clear hbA) | (go_at_call 25; refine Calls.mono (F1.out _ (by with_reducible assumption)) ?_; rintro e wG ⟨vG, rfl, hrG, hbA⟩; have ZZ := HSB.out _ _ (by with_reducible assumption) hbA; have RG : Hid (irows.Row wG _ vG (pagesI m xs)) := hrG; obtain ⟨aG, cG, hG⟩ := hrG.form; generalize (pagesI m xs).length = LG at hG; subst hG; clear hrG hbA) | (go_at_call 24; refine Calls.mono (F2.out _ _ _ (by with_reducible assumption) RG) ?_; rintro e wH ⟨rfl, hbA⟩; have ZZ := HSB.out _ _ (by with_reducible assumption) hbA; clear hbA) | (go_at_call 8; refine Calls.mono (G1.out _ (by with_reducible assumption)) ?_; rintro e wI ⟨rfl, hbA⟩; have ZZ := HSB.out _ _ (by with_reducible assumption) hbA; clear hbA) | (go_at_call 6; refine Calls.mono (G2.out _ (by with_reducible assumption)) ?_; rintro e wI ⟨rfl, hbA⟩; have ZZ := HSB.out _ _ (by with_reducible assumption) hbA; clear hbA) | (go_at_call 26; refine Calls.mono (R1.out _ (by with_reducible assumption)) ?_; rintro e wI ⟨rfl, hbA⟩; have ZZ := HSB.out _ _ (by with_reducible assumption) hbA; clear hbA) | (go_at_call 27; refine Calls.mono (R2.out _ (by with_reducible assumption)) ?_; rintro e wI ⟨rfl, hbA⟩; have ZZ := HSB.out _ _ (by with_reducible assumption) hbA; clear hbA))
        go_wp2_with fail
        go_meet
        case rel => exact ⟨by simp, ZZ.2.2.2.2.2.2.2.2.2.2.2.2.2.2.2.2⟩
      case rest =>
        obtain ⟨rfl, HBC⟩ := hcut
        obtain ⟨W9, rfl⟩ : ∃ W, W = wc := ⟨_, rfl⟩
        have HP19 : Hid (Bx W9 P1 m (.slice av LX cv) xs) := HP18.out.below HBC.out
        have HX9 : Hid (Ax W9 X a1 p1 q1 (.slice au1 LU1 cu1) ys1) := HX8.out.below HBC.out
        have HP29 : Hid (Bx W9 P2 m2 (.slice av2 LX2 cv2) xs2) := HP28.out.below HBC.out
        have HY9 : Hid (Ax W9 Y a2 p2 q2 (.slice au2 LU2 cu2) ys2) := HY8.out.below HBC.out
        have HZ9 : Hid (Ax W9 Z a3 p3 q3 (.slice au3 LU3 cu3) ys3) := HZ8.out.below HBC.out
        have HPS9 : Hid (irows.Row W9 V4.heap.size (.slice a5 LP c5) ps) := HPS8.out.later HBC.out
        have HFR9 : Hid (irows.Row W9 w7.heap.size (.slice a8 L8 c8) (pagesI m xs)) := HFR.out.later HBC.out
        have HB9 : Hid (Below w.heap.size w W9) := below_tr HB8.out HBC.out
        clear HP18 HX8 HP28 HY8 HZ8 HPS8 HFR HB8 HBC HMK HSB T1 T2 T3 N1 N2 HRB L1 L2 L3 L4 F1 F2 G1 G2 R1 R2 hM0 hMd HA4 HY1 HY2
        go_upto_region 13 with fail
        go_cut [126] from 116 to 127 (fun s W => s = .bool false ∧ Hid (Below W9.heap.size W9 W))
        case first => as_aux_lemma =>
          obtain ⟨⟨z0, z1, z2, z3⟩, _⟩ := HZ9.out.box.cells
          by_cases hq3 : q3 = 0
          · subst hq3
            have hof := of_back HA3.out rfl
            simp only at hof
            have HPL1 : Hid (ps.length ≤ 1000000000) := by have := HPL.out; show _ ≤ _; omega
            go_wp2_with fail
            refine Calls.mono (impl_free a3 _ ys3 _ HZ9.out.rd (by have := (of_right HA3.out).2; simp only at this; omega)) ?_
            rw [hof]
            rintro e wd ⟨vd, rfl, hrd, hbd⟩
            have HRD : Hid (irows.Row wd W9.heap.size vd ps) := hrd
            have HBD : Hid (Below W9.heap.size W9 wd) := hbd
            clear hrd hbd hof
            go_wp2_with fail
            refine Calls.mono (irows.lw_rows HRD.out (HPS9.out.later HBD.out) HPL1.out) ?_
            rintro e we ⟨rfl, hbe⟩
            have HBE : Hid (Below W9.heap.size W9 we) := below_tr HBD.out hbe
            clear hbe
            go_wp2_with fail
            go_meet
            case rel => exact ⟨rfl, HBE.out⟩
          · have hqb : (q3 == 0) = false := by simp [hq3]
            go_wp2_with fail
            go_meet
            case rel => exact ⟨rfl, Below.refl _ _⟩
        case rest =>
          obtain ⟨rfl, HBC⟩ := hcut
          obtain ⟨WA, rfl⟩ : ∃ W, W = wc := ⟨_, rfl⟩
          clear HA3 HZ9
          go_upto_region 15 with fail
          go_cut [142] from 127 to 143 (fun s W => s = .bool false ∧ Hid (Below W9.heap.size W9 W))
          case first => as_aux_lemma =>
            by_cases hq2 : q2 = 0
            · subst hq2
              obtain ⟨k, rfl, hk5, hlen⟩ := give_more HA2.out rfl
              simp only at hlen
              have HMK : Hid (∀ W : World, Below W9.heap.size W9 W → (W.cell? ⟨Y, 0, none⟩ = some (.int .i64 a2) ∧ W.cell? ⟨Y, 1, none⟩ = some (.slice au2 LU2 cu2) ∧ W.cell? ⟨Y, 2, none⟩ = some (.int .i64 p2) ∧ W.cell? ⟨Y, 3, none⟩ = some (.int .i64 0) ∧ W.cell? ⟨P2, 0, none⟩ = some (.int .i64 m2) ∧ W.cell? ⟨P2, 1, none⟩ = some (.slice av2 LX2 cv2) ∧ Below W9.heap.size W9 W)) := fun W hb =>
                have h4 := (HY9.out.below hb).box.cells.1
                have h3 := (HP29.out.below hb).box.cells
                ⟨h4.1, h4.2.1, h4.2.2.1, h4.2.2.2, h3.1, h3.2.1, hb⟩
              have HSB : Hid (∀ W W' : World, (W.cell? ⟨Y, 0, none⟩ = some (.int .i64 a2) ∧ W.cell? ⟨Y, 1, none⟩ = some (.slice au2 LU2 cu2) ∧ W.cell? ⟨Y, 2, none⟩ = some (.int .i64 p2) ∧ W.cell? ⟨Y, 3, none⟩ = some (.int .i64 0) ∧ W.cell? ⟨P2, 0, none⟩ = some (.int .i64 m2) ∧ W.cell? ⟨P2, 1, none⟩ = some (.slice av2 LX2 cv2) ∧ Below W9.heap.size W9 W) → Below W.heap.size W W' → (W'.cell? ⟨Y, 0, none⟩ = some (.int .i64 a2) ∧ W'.cell? ⟨Y, 1, none⟩ = some (.slice au2 LU2 cu2) ∧ W'.cell? ⟨Y, 2, none⟩ = some (.int .i64 p2) ∧ W'.cell? ⟨Y, 3, none⟩ = some (.int .i64 0) ∧ W'.cell? ⟨P2, 0, none⟩ = some (.int .i64 m2) ∧ W'.cell? ⟨P2, 1, none⟩ = some (.slice av2 LX2 cv2) ∧ Below W9.heap.size W9 W')) := fun W W' h hb => HMK.out _ (below_tr h.2.2.2.2.2.2 hb)
              obtain ⟨LF, hLF⟩ : ∃ L, L = (pagesI a2 ys2).length := ⟨_, rfl⟩
              obtain ⟨LG, hLG⟩ : ∃ L, L = (pagesI m2 xs2).length := ⟨_, rfl⟩
              have hf32 : LG ≤ 32 := by rw [hLG]; exact pages_few m2 xs2
              rw [← hLF, ← hLG] at hlen
              have FA : Hid (∀ W : World, (W.cell? ⟨Y, 0, none⟩ = some (.int .i64 a2) ∧ W.cell? ⟨Y, 1, none⟩ = some (.slice au2 LU2 cu2) ∧ W.cell? ⟨Y, 2, none⟩ = some (.int .i64 p2) ∧ W.cell? ⟨Y, 3, none⟩ = some (.int .i64 0) ∧ W.cell? ⟨P2, 0, none⟩ = some (.int .i64 m2) ∧ W.cell? ⟨P2, 1, none⟩ = some (.slice av2 LX2 cv2) ∧ Below W9.heap.size W9 W) → Calls Try.prog 17 #[.agg #[.int .i64 a2, .slice au2 LU2 cu2]] W (fun e W' => ∃ a c, e = .returned (.slice a LF c) ∧ Below W.heap.size W W')) := fun W h => (impl_free a2 _ ys2 W (HY9.out.below h.2.2.2.2.2.2).rd (by have := (give_right HA2.out).2; simp only at this; omega)).mono fun e W' ⟨v, he, hr, hb⟩ => by
                obtain ⟨a, c, hv⟩ := hr.form
                exact ⟨a, c, by rw [he, hv, hLF], hb⟩
              have FB : Hid (∀ W : World, (W.cell? ⟨Y, 0, none⟩ = some (.int .i64 a2) ∧ W.cell? ⟨Y, 1, none⟩ = some (.slice au2 LU2 cu2) ∧ W.cell? ⟨Y, 2, none⟩ = some (.int .i64 p2) ∧ W.cell? ⟨Y, 3, none⟩ = some (.int .i64 0) ∧ W.cell? ⟨P2, 0, none⟩ = some (.int .i64 m2) ∧ W.cell? ⟨P2, 1, none⟩ = some (.slice av2 LX2 cv2) ∧ Below W9.heap.size W9 W) → Calls Try.prog 25 #[.agg #[.int .i64 m2, .slice av2 LX2 cv2]] W (fun e W' => ∃ a c, e = .returned (.slice a LG c) ∧ Below W.heap.size W W')) := fun W h => (spec_pages m2 _ xs2 W (HP29.out.below h.2.2.2.2.2.2).rd).mono fun e W' ⟨v, he, hr, hb⟩ => by
                obtain ⟨a, c, hv⟩ := hr.form
                exact ⟨a, c, by rw [he, hv, hLG], hb⟩
              have hM0 := HMK.out _ HBC.out
              have hMd := HMK.out _ (Below.drew HBC.out)
              clear hLF hLG
              subst hlen
              have hww : ∀ z : Int, 0 ≤ z → z ≤ 32 → (LG : Int) + z = IntKind.i64.wrap ((LG : Int) + IntKind.i64.wrap z) := fun z h0 h1 => by rw [IntWalk.i64_in z (by omega), IntWalk.i64_in _ (by omega)]
              have hk6 : k = 0 ∨ k = 1 ∨ k = 2 ∨ k = 3 ∨ k = 4 ∨ k = 5 := by omega
              rcases hk6 with rfl | rfl | rfl | rfl | rfl | rfl
              all_goals
                simp only [Nat.reducePow] at FA
                go_region_held3 (fun W => W.cell? ⟨Y, 0, none⟩ = some (.int .i64 a2) ∧ W.cell? ⟨Y, 1, none⟩ = some (.slice au2 LU2 cu2) ∧ W.cell? ⟨Y, 2, none⟩ = some (.int .i64 p2) ∧ W.cell? ⟨Y, 3, none⟩ = some (.int .i64 0) ∧ W.cell? ⟨P2, 0, none⟩ = some (.int .i64 m2) ∧ W.cell? ⟨P2, 1, none⟩ = some (.slice av2 LX2 cv2) ∧ Below W9.heap.size W9 W)
                  (with_reducible first | assumption | exact hM0 | exact hMd)
                  (first | (go_at_call 17; refine Calls.mono (FA.out _ (by with_reducible assumption)) ?_; rintro e wF ⟨aF, cF, rfl, hbF⟩; have ZZ := HSB.out _ _ (by with_reducible assumption) hbF; clear hbF) | (go_at_call 25; refine Calls.mono (FB.out _ (by with_reducible assumption)) ?_; rintro e wG ⟨aG, cG, rfl, hbG⟩; have ZZ := HSB.out _ _ (by with_reducible assumption) hbG; clear hbG))
                go_wp2_with fail
                go_meet
                case rel => exact ⟨by first | (simp; done) | (simp; exact hww _ (by omega) (by omega)), ZZ.2.2.2.2.2.2⟩
            · have hqb : (q2 == 0) = false := by simp [hq2]
              have hqd : decide (q2 = 0) = false := by simp [hq2]
              obtain ⟨⟨y0, y1, y2, y3⟩, _⟩ := (HY9.out.below HBC.out).box.cells
              go_quiet (fail)
              go_wp2_with fail
              go_meet
              case rel => exact ⟨rfl, ⟨HBC.out.os, HBC.out.tape, HBC.out.output, HBC.out.size, HBC.out.block⟩⟩
          case rest =>
            obtain ⟨rfl, HBD⟩ := hcut
            obtain ⟨WB, rfl⟩ : ∃ W, W = wc := ⟨_, rfl⟩
            clear HA2 HP29 HY9 HBC
            have HRT : Hid (Calls Try.prog 27 #[.agg #[.int .i64 m, .slice av LX cv]] WB fun e w' => e = .returned (.bool (rightB m xs)) ∧ Below WB.heap.size WB w') := spec_right m _ xs WB (HP19.out.below HBD.out).rd
            obtain ⟨b0, b1, -, -⟩ := (HP19.out.below HBD.out).box.cells
            obtain ⟨⟨x0, x1', x2', x3⟩, -⟩ := (HX9.out.below HBD.out).box.cells
            by_cases hgood : rightB m xs = true ∧ 0 ≤ o ∧ o ≤ 5
            · obtain ⟨hrb, hor0, hor5⟩ := hgood
              rw [hrb] at HRT
              obtain ⟨n, l, rfl, rfl, hrt⟩ := rightB_iff.1 hrb
              obtain ⟨k, rfl⟩ := Int.eq_ofNat_of_zero_le hor0
              have HR : Hid (bd.Right n l) := hrt
              clear hrb hrt
              go_wp2_with fail
              refine Calls.mono HRT.out ?_
              rintro e wd ⟨rfl, hbd⟩
              have HBE : Hid (Below W9.heap.size W9 wd) := below_tr HBD.out hbd
              clear hbd
              go_upto_region 19 with fail
              have HMK : Hid (∀ W : World, Below W9.heap.size W9 W → (W.cell? ⟨P1, 0, none⟩ = some (.int .i64 n) ∧ W.cell? ⟨P1, 1, none⟩ = some (.slice av LX cv) ∧ Below W9.heap.size W9 W)) := fun W hb =>
                have h1 := (HP19.out.below hb).box.cells
                ⟨h1.1, h1.2.1, hb⟩
              have HSB : Hid (∀ W W' : World, (W.cell? ⟨P1, 0, none⟩ = some (.int .i64 n) ∧ W.cell? ⟨P1, 1, none⟩ = some (.slice av LX cv) ∧ Below W9.heap.size W9 W) → Below W.heap.size W W' → (W'.cell? ⟨P1, 0, none⟩ = some (.int .i64 n) ∧ W'.cell? ⟨P1, 1, none⟩ = some (.slice av LX cv) ∧ Below W9.heap.size W9 W')) := fun W W' h hb => HMK.out _ (below_tr h.2.2 hb)
              have OF : Hid (∀ W : World, (W.cell? ⟨P1, 0, none⟩ = some (.int .i64 n) ∧ W.cell? ⟨P1, 1, none⟩ = some (.slice av LX cv) ∧ Below W9.heap.size W9 W) → Calls Try.prog 15 #[.int .i64 n, .slice a8 L8 c8] W (SaysA n 0 0 (l.map emb) W)) := fun W h => (impl_of n _ _ W (IRd.of (HFR9.out.later h.2.2))).mono fun e W' ⟨a, u, ha, he, hr, hb⟩ => by
                obtain rfl := of_one (of_self HR.out) ha
                exact ⟨u, he, hr.rd, hb⟩
              have LW : Hid (∀ (u : Value) (W : World), (W.cell? ⟨P1, 0, none⟩ = some (.int .i64 n) ∧ W.cell? ⟨P1, 1, none⟩ = some (.slice av LX cv) ∧ Below W9.heap.size W9 W) → Hid (Rd W u (l.map emb)) → Calls Try.prog 18 #[.agg #[.int .i64 n, u, .int .i64 0, .int .i64 0], .agg #[.int .i64 n, .slice av LX cv, .int .i64 0, .int .i64 0]] W (fun e w' => e = .returned (.bool true) ∧ Below W.heap.size W w')) := fun u W h hu => lw_buddy n 0 0 _ u _ W hu.out (HP19.out.below h.2.2).rd (fun _ => rightB_yes ⟨n, l, rfl, rfl, HR.out⟩) (by have := HXL.out; omega)
              have hM0 := HMK.out _ HBE.out
              have hMd := HMK.out _ (Below.drew HBE.out)
              obtain ⟨WC, rfl⟩ : ∃ W, W = wd := ⟨_, rfl⟩
              go_cut [164] from 143 to 165 (fun s W => s = .bool false ∧ Hid (Below W9.heap.size W9 W))
              case first => as_aux_lemma =>
                go_region_held3 (fun W => W.cell? ⟨P1, 0, none⟩ = some (.int .i64 n) ∧ W.cell? ⟨P1, 1, none⟩ = some (.slice av LX cv) ∧ Below W9.heap.size W9 W)
                  (with_reducible first | assumption | exact hM0 | exact hMd)
                  (first | (go_at_call 15; refine Calls.mono (OF.out _ (by with_reducible assumption)) ?_; rintro e wF ⟨uF, rfl, hrF, hbF⟩; have ZZ := HSB.out _ _ (by with_reducible assumption) hbF; have RF : Hid (Rd wF uF (l.map emb)) := hrF; obtain ⟨aF, cF, hF, _⟩ := hrF.form; generalize (l.map emb).length = LF at hF; subst hF; clear hrF hbF) | (go_at_call 18; refine Calls.mono (LW.out _ _ (by with_reducible assumption) RF) ?_; rintro e wG ⟨rfl, hbG⟩; have ZZ := HSB.out _ _ (by with_reducible assumption) hbG; clear hbG))
                go_wp2_with fail
                go_meet
                case rel => exact ⟨by simp, ZZ.2.2⟩
              case rest =>
                obtain ⟨rfl, HBF⟩ := hcut
                obtain ⟨WD, rfl⟩ : ∃ W, W = wc := ⟨_, rfl⟩
                clear HMK HSB OF LW hM0 hMd HBE HBD HRT b0 b1 x0 x1' x2' x3
                have hn5 := HR.out.ord
                have hn32 := bd.pow_le32 hn5
                obtain ⟨pg, hpg⟩ : ∃ pg, pg = bd.pagesL l := ⟨_, rfl⟩
                have HPG : Hid (pg = bd.pagesL l) := hpg
                have HPI : Hid (pagesI (n : Int) (l.map emb) = pg.map fun i : Nat => (i : Int)) := by rw [Hid, pagesI_of HR.out, hpg]
                have HPB : Hid (∀ i (hi : i < pg.length), pg[i] < 64) := fun i hi => by
                  have hm : pg[i] ∈ pg := List.getElem_mem _
                  obtain ⟨y, hy, hc⟩ := (bd.mem_pages l pg[i]).1 (by rw [← hpg]; exact hm)
                  have ht := (HR.out.inn y hy).top hn5
                  have := hc.2
                  omega
                have hpl32 : pg.length ≤ 32 := by rw [hpg, bd.pages_len]; exact Nat.le_trans HR.out.sum_le hn32
                clear hpg
                have HLL : Hid (L8 = pg.length) := by
                  obtain ⟨a, c, e⟩ := HFR9.out.form
                  rw [HPI.out, List.length_map] at e
                  injection e
                have hL32 : L8 ≤ 32 := by rw [HLL.out]; exact hpl32
                have HFC : Hid (∀ W, Below W9.heap.size W9 W → ∀ i (hi : i < pg.length), ∃ g, a8 = some ⟨g, 0, none⟩ ∧ g < W9.heap.size ∧ W.cell? ⟨g, i, none⟩ = some (.int .i64 (pg[i] : Int))) := fun W hb i hi => by
                  have hrow := HFR9.out
                  rw [HPI.out] at hrow
                  obtain ⟨g, c, e, _, hg, hc, _⟩ := hrow.at (by simpa using (by omega : 0 < pg.length))
                  injection e with e _ _
                  refine ⟨g, e, hg, (hb.cell (p := ⟨g, i, none⟩) hg).trans ?_⟩
                  rw [hc i (by simpa using hi)]; simp
                obtain ⟨V, hV⟩ : ∃ V, V = WD.alloc (.cells noM 4) := ⟨_, rfl⟩
                have HK0 : Hid (Mk V WD.heap.size (seen pg 0)) := by rw [hV]; exact (mk_new WD).congr (fun j => (seen_zero pg j).symm)
                have HBV : Hid (Below W9.heap.size W9 V) := by rw [hV]; exact below_tr HBF.out (below_one _ _)
                have hK9 : W9.heap.size ≤ WD.heap.size := HBF.out.size
                have hVs : WD.heap.size < V.heap.size := by rw [hV]; simp
                have hmk := make64
                go_wp2_with fail
                rw [← hV]
                obtain ⟨K, hK⟩ : ∃ K, K = WD.heap.size := ⟨_, rfl⟩
                rw [← hK] at HK0 hK9 hVs ⊢
                clear hV hmk hK
                go_loopw [18] (fun t18 wr => ∃ i : Nat, t18 = .int .i64 i ∧ i ≤ L8 ∧ Hid (Mk wr K (seen pg i)) ∧ Hid (Below W9.heap.size W9 wr)) (fun t18 _ => L8 - (intOf t18).toNat)
                case atStart => exact ⟨0, rfl, by omega, HK0.out, HBV.out⟩
                case round =>
                  obtain ⟨i, rfl, hi, HKI, HBI⟩ := hrel
                  clear HK0 HBV
                  by_cases hlt : i < L8
                  · have hip : i < pg.length := by rw [← HLL.out]; exact hlt
                    obtain ⟨g, rfl, hg, e0⟩ := HFC.out _ HBI.out i hip
                    have hb64 := HPB.out i hip
                    have HST : Hid (seen pg i = seen pg i → ∀ j, (seen pg i j || j == pg[i]) = seen pg (i + 1) j) := fun _ j => seen_step pg i hip j
                    have HKS : Hid (Mk (wr.setCell ⟨K, pg[i], none⟩ (.bool true)) K (seen pg (i + 1))) := (HKI.out.set _ hb64).congr (fun j => seen_step pg i hip j)
                    obtain ⟨k0, k1⟩ := HKI.out.at _ hb64
                    generalize pg[i] = q at *
                    generalize seen pg i q = oldb at k0
                    have hq0 : (0 : Int) ≤ (q : Int) := by omega
                    have hq1 : (q : Int) < 64 := by omega
                    have hwx : ¬ g = K := by omega
                    go_wp2_with fail
                    go_roundw
                    case rel => exact ⟨i + 1, by go_num, by omega, HKS.out, HBI.out.setCell hK9 _⟩
                    case measure => simp [intOf]; omega
                  · obtain rfl : i = L8 := by omega
                    have HKF : Hid (Mk wr K (fun j => decide (j ∈ bd.pagesL l))) := HKI.out.congr (fun j => by rw [HLL.out, seen_all, HPG.out])
                    clear HKI
                    have hk5 : k ≤ 5 := by omega
                    have hp0 := bd.pow_pos' k
                    have hs32 := bd.pow_le32 hk5
                    have hsk := shl_one k hk5
                    have HSN : Hid _ := shl_one n hn5
                    have HFIT : Hid (∀ c, c * 2 ^ k ≤ 2 ^ n → 2 ^ n < (c + 1) * 2 ^ k → (anyM (fun j => decide (j ∈ bd.pagesL l)) (2 ^ k) c = true ↔ ∃ y ∈ l, k ≤ y.2)) := fun c h1 h2 => any_fits HR.out h1 h2
                    have HTF : Hid _ := take_fits HR.out hk5 HA1.out
                    obtain ⟨sz, hsz⟩ : ∃ s, s = 2 ^ k := ⟨_, rfl⟩
                    obtain ⟨N, hN⟩ : ∃ s, s = 2 ^ n := ⟨_, rfl⟩
                    have HSZ : Hid (sz = 2 ^ k) := hsz
                    have HNN : Hid (N = 2 ^ n) := hN
                    rw [← hsz] at hsk hs32 hp0
                    rw [← hN] at HSN hn32
                    rw [← hsz, ← hN] at HFIT
                    clear hsz hN
                    have HCV : Hid (∀ j, bd.Cov l j → (fun j => decide (j ∈ bd.pagesL l)) j = true ∧ j < 64) := fun j hj => ⟨decide_eq_true ((bd.mem_pages l j).2 hj), by
                      obtain ⟨y, hy, hc⟩ := hj
                      have ht := (HR.out.inn y hy).top hn5
                      have := hc.2
                      have := bd.pow_le32 hn5
                      omega⟩
                    generalize (fun j => decide (j ∈ bd.pagesL l)) = f at HKF HFIT HCV
                    clear HFC HPB HPS9 HFR9 HXL2 HPL hm20 hm21 ho40 ho41 hpl32
                    go_wp2_with fail
                    clear hsk
                    go_loopw [20, 21, 22, 23] (fun t20 t21 t22 t23 wp => ∃ c : Nat, t20 = .bool (anyM f sz c) ∧ t21 = .int .i64 ((c * sz : Nat) : Int) ∧ c * sz ≤ N ∧ Hid (Mk wp K f) ∧ Hid (Below W9.heap.size W9 wp)) (fun _ t21 _ _ _ => N + 1 - (intOf t21).toNat)
                    case atStart => exact ⟨0, by simp [anyM], by simp, by omega, HKF.out, HBI.out⟩
                    case round =>
                      obtain ⟨c, rfl, rfl, hcN, HKW, HBW⟩ := hrel
                      clear HKF HBI
                      obtain ⟨b0, b1, -, -⟩ := (HP19.out.below HBW.out).box.cells
                      obtain ⟨p, hp⟩ : ∃ p, p = c * sz := ⟨_, rfl⟩
                      have HPC : Hid (p = c * sz) := hp
                      rw [← hp] at hcN ⊢
                      clear hp
                      by_cases hlt : p + sz ≤ N
                      · have hlt2 : (p : Int) + (sz : Int) ≤ (N : Int) := by omega
                        clear HFIT HTF HA1 HCV
                        have hsn : Value.int .i64 (wrap64 (2 ^ n)) = Value.int .i64 (N : Int) := by rw [HSN.out]
                        go_wp2_with fail
                        clear hsn hlt2
                        go_loopw [22, 23] (fun t22 t23 wq => ∃ i : Nat, t22 = .bool (allM f p i) ∧ t23 = .int .i64 i ∧ i ≤ sz ∧ wq = wr) (fun _ t23 _ => sz - (intOf t23).toNat)
                        case atStart => exact ⟨0, by simp [allM], rfl, by omega, rfl⟩
                        case round =>
                          obtain ⟨i, rfl, rfl, hi, rfl⟩ := hrel
                          by_cases hil : i < sz
                          · have hil2 : (i : Int) < (sz : Int) := by omega
                            have HAS : Hid ((allM f p i && f (p + i)) = allM f p (i + 1)) := allM_step f p i
                            obtain ⟨k0, k1⟩ := HKW.out.at (p + i) (by omega)
                            generalize f (p + i) = fv at HAS k0
                            obtain ⟨q, hq⟩ : ∃ q, q = p + i := ⟨_, rfl⟩
                            have hqi : (p : Int) + (i : Int) = (q : Int) := by omega
                            have hq64 : (q : Int) < 64 := by omega
                            rw [← hq] at k0 k1
                            have HQ : Hid (q = p + i) := hq
                            clear hq
                            cases hA : allM f p i with
                            | true =>
                              rw [hA] at HAS
                              go_wp2_with fail
                              go_roundw
                              case rel => exact ⟨i + 1, by rw [← HAS.out]; simp, by go_num, by omega, by first | rfl | trivial⟩
                              case measure => simp [intOf]; omega
                            | false =>
                              rw [hA] at HAS
                              go_wp2_with fail
                              go_roundw
                              case rel => exact ⟨i + 1, by rw [← HAS.out]; simp, by go_num, by omega, by first | rfl | trivial⟩
                              case measure => simp [intOf]; omega
                          · have hie : i = sz := by omega
                            have HAY : Hid ((anyM f sz c || allM f p i) = anyM f sz (c + 1)) := by rw [Hid, hie, HPC.out]; exact anyM_step f sz c
                            have hil2 : ¬ (i : Int) < (sz : Int) := by omega
                            clear hie
                            cases hN : anyM f sz c with
                            | true =>
                              rw [hN] at HAY
                              go_wp2_with fail
                              go_roundw
                              case rel => exact ⟨c + 1, by rw [← HAY.out]; simp, by rw [Nat.add_mul, Nat.one_mul, ← HPC.out]; go_num, by rw [Nat.add_mul, Nat.one_mul, ← HPC.out]; omega, HKW.out, HBW.out⟩
                              case measure => simp [intOf]; omega
                            | false =>
                              rw [hN] at HAY
                              go_wp2_with fail
                              go_roundw
                              case rel => exact ⟨c + 1, by rw [← HAY.out]; simp, by rw [Nat.add_mul, Nat.one_mul, ← HPC.out]; go_num, by rw [Nat.add_mul, Nat.one_mul, ← HPC.out]; omega, HKW.out, HBW.out⟩
                              case measure => simp [intOf]; omega
                      · have hlt2 : ¬ (p : Int) + (sz : Int) ≤ (N : Int) := by omega
                        have HANY : Hid (anyM f sz c = true ↔ ∃ y ∈ l, k ≤ y.2) := HFIT.out c (by have := HPC.out; omega) (by rw [Nat.add_mul, Nat.one_mul]; have := HPC.out; omega)
                        clear HFIT
                        obtain ⟨⟨x0, x1c, x2c, x3⟩, -⟩ := (HX9.out.below HBW.out).box.cells
                        by_cases hq1 : q1 = 0
                        · subst hq1
                          have hany : anyM f sz c = true := HANY.out.2 (HTF.out.1.1 rfl)
                          obtain ⟨x, l', e, ht⟩ := HTF.out.2 rfl
                          obtain ⟨rfl, rfl, rfl⟩ : a1 = (n : Int) ∧ ys1 = l'.map emb ∧ p1 = (x.1 : Int) := by
                            simp only [Prod.mk.injEq, and_true] at e
                            exact e
                          have HTB : Hid _ := take_back HR.out ht
                          have HYL : Hid ((l'.map emb).length ≤ 32) := (take_right HA1.out).2
                          obtain ⟨hfx, hx64⟩ := HCV.out x.1 HTB.out.2.2
                          have HFX : Hid (f x.1 = true) := hfx
                          have HLS : Hid (∀ LF, LF = (pagesI (n : Int) (l'.map emb)).length → LF + sz = i) := fun LF h => by
                            have h1 := HTB.out.2.1
                            rw [HPI.out, List.length_map] at h1
                            rw [h, HSZ.out, HLL.out]; exact h1
                          clear e ht hfx HANY HTF HA1 HCV
                          generalize x.1 = xa at *
                          rw [hany]
                          have hsn : Value.int .i64 (wrap64 (2 ^ n)) = Value.int .i64 (N : Int) := by rw [HSN.out]
                          go_wp2_with fail
                          clear hsn hlt2
                          refine Calls.mono (impl_free n _ (l'.map emb) _ (HX9.out.below HBW.out).rd (by have := HYL.out; omega)) ?_
                          rintro e wF ⟨vF, rfl, hrF, hbF⟩
                          obtain ⟨aF, cF, hvF⟩ := hrF.form
                          obtain ⟨LF, hLF⟩ : ∃ LF, LF = (pagesI (n : Int) (l'.map emb)).length := ⟨_, rfl⟩
                          rw [← hLF] at hvF
                          have hLS := HLS.out LF hLF
                          have hLS2 : (LF : Int) + (sz : Int) = (i : Int) := by omega
                          have hLi : (LF : Int) ≤ 32 := by omega
                          subst hvF
                          have HBE : Hid (Below W9.heap.size W9 wF) := below_tr HBW.out hbF
                          obtain ⟨kk0, kk1⟩ := (HKW.out.below hbF).at xa hx64
                          rw [HFX.out] at kk0
                          obtain ⟨⟨z0, z1, z2, z3⟩, -⟩ := (HX9.out.below HBE.out).box.cells
                          obtain ⟨y0, y1, -, -⟩ := (HP19.out.below HBE.out).box.cells
                          have hxi : (xa : Int) < 64 := by omega
                          clear hrF hbF hLF HLS hLS x0 x1c x2c x3 HKW HBW
                          go_upto_region 43 with fail
                          have HMK : Hid (∀ W : World, Below W9.heap.size W9 W → (W.cell? ⟨X, 0, none⟩ = some (.int .i64 n) ∧ W.cell? ⟨X, 1, none⟩ = some (.slice au1 LU1 cu1) ∧ W.cell? ⟨X, 2, none⟩ = some (.int .i64 xa) ∧ W.cell? ⟨P1, 0, none⟩ = some (.int .i64 n) ∧ W.cell? ⟨P1, 1, none⟩ = some (.slice av LX cv) ∧ Below W9.heap.size W9 W)) := fun W hb =>
                            have h1 := (HP19.out.below hb).box.cells
                            have h2 := (HX9.out.below hb).box.cells.1
                            ⟨h2.1, h2.2.1, h2.2.2.1, h1.1, h1.2.1, hb⟩
                          have HSB : Hid (∀ W W' : World, (W.cell? ⟨X, 0, none⟩ = some (.int .i64 n) ∧ W.cell? ⟨X, 1, none⟩ = some (.slice au1 LU1 cu1) ∧ W.cell? ⟨X, 2, none⟩ = some (.int .i64 xa) ∧ W.cell? ⟨P1, 0, none⟩ = some (.int .i64 n) ∧ W.cell? ⟨P1, 1, none⟩ = some (.slice av LX cv) ∧ Below W9.heap.size W9 W) → Below W.heap.size W W' → (W'.cell? ⟨X, 0, none⟩ = some (.int .i64 n) ∧ W'.cell? ⟨X, 1, none⟩ = some (.slice au1 LU1 cu1) ∧ W'.cell? ⟨X, 2, none⟩ = some (.int .i64 xa) ∧ W'.cell? ⟨P1, 0, none⟩ = some (.int .i64 n) ∧ W'.cell? ⟨P1, 1, none⟩ = some (.slice av LX cv) ∧ Below W9.heap.size W9 W')) := fun W W' h hb => HMK.out _ (below_tr h.2.2.2.2.2 hb)
                          have GV : Hid (∀ W : World, (W.cell? ⟨X, 0, none⟩ = some (.int .i64 n) ∧ W.cell? ⟨X, 1, none⟩ = some (.slice au1 LU1 cu1) ∧ W.cell? ⟨X, 2, none⟩ = some (.int .i64 xa) ∧ W.cell? ⟨P1, 0, none⟩ = some (.int .i64 n) ∧ W.cell? ⟨P1, 1, none⟩ = some (.slice av LX cv) ∧ Below W9.heap.size W9 W) → Calls Try.prog 13 #[.agg #[.int .i64 n, .slice au1 LU1 cu1], .int .i64 xa, .int .i64 k] W (SaysA n 0 0 (l.map emb) W)) := fun W h => (impl_give n ((xa : Int), (k : Int)) _ _ W (HX9.out.below h.2.2.2.2.2).rd (by have := HYL.out; omega)).mono fun e W' ⟨a, u, ha, he, hr, hb⟩ => by
                            obtain rfl := give_one HTB.out.1 ha
                            exact ⟨u, he, hr.rd, hb⟩
                          have LW : Hid (∀ (u : Value) (W : World), (W.cell? ⟨X, 0, none⟩ = some (.int .i64 n) ∧ W.cell? ⟨X, 1, none⟩ = some (.slice au1 LU1 cu1) ∧ W.cell? ⟨X, 2, none⟩ = some (.int .i64 xa) ∧ W.cell? ⟨P1, 0, none⟩ = some (.int .i64 n) ∧ W.cell? ⟨P1, 1, none⟩ = some (.slice av LX cv) ∧ Below W9.heap.size W9 W) → Hid (Rd W u (l.map emb)) → Calls Try.prog 18 #[.agg #[.int .i64 n, u, .int .i64 0, .int .i64 0], .agg #[.int .i64 n, .slice av LX cv, .int .i64 0, .int .i64 0]] W (fun e w' => e = .returned (.bool true) ∧ Below W.heap.size W w')) := fun u W h hu => lw_buddy n 0 0 _ u _ W hu.out (HP19.out.below h.2.2.2.2.2).rd (fun _ => rightB_yes ⟨n, l, rfl, rfl, HR.out⟩) (by have := HXL.out; omega)
                          have hM0 := HMK.out _ HBE.out
                          have hMd := HMK.out _ (Below.drew HBE.out)
                          clear z0 z1 z2 z3 y0 y1 kk0 kk1
                          go_region_held3 (fun W => W.cell? ⟨X, 0, none⟩ = some (.int .i64 n) ∧ W.cell? ⟨X, 1, none⟩ = some (.slice au1 LU1 cu1) ∧ W.cell? ⟨X, 2, none⟩ = some (.int .i64 xa) ∧ W.cell? ⟨P1, 0, none⟩ = some (.int .i64 n) ∧ W.cell? ⟨P1, 1, none⟩ = some (.slice av LX cv) ∧ Below W9.heap.size W9 W)
                            (with_reducible first | assumption | exact hM0 | exact hMd)
                            (first | (go_at_call 13; refine Calls.mono (GV.out _ (by with_reducible assumption)) ?_; rintro e wG ⟨uG, rfl, hrG, hbG⟩; have ZZ := HSB.out _ _ (by with_reducible assumption) hbG; have RF : Hid (Rd wG uG (l.map emb)) := hrG; obtain ⟨aG, cG, hG, _⟩ := hrG.form; generalize (l.map emb).length = LG at hG; subst hG; clear hrG hbG) | (go_at_call 18; refine Calls.mono (LW.out _ _ (by with_reducible assumption) RF) ?_; rintro e wH ⟨rfl, hbH⟩; have ZZ := HSB.out _ _ (by with_reducible assumption) hbH; clear hbH))
                          go_wp2_with fail
                          go_ret
                          exact ⟨rfl, below_tr HB9.out ZZ.2.2.2.2.2⟩
                        · have hany : anyM f sz c = false := by
                            cases h : anyM f sz c with
                            | false => rfl
                            | true => exact absurd (HTF.out.1.2 (HANY.out.1 h)) hq1
                          have hqb : (q1 == 0) = false := by simp [hq1]
                          have hqd : decide (q1 = 0) = false := by simp [hq1]
                          clear HANY HTF HA1 HCV
                          rw [hany]
                          have hsn : Value.int .i64 (wrap64 (2 ^ n)) = Value.int .i64 (N : Int) := by rw [HSN.out]
                          go_wp2_with fail
                          go_ret
                          exact ⟨rfl, below_tr HB9.out HBW.out⟩
            · have hq1 : q1 = 1 := take_ill HA1.out (by
                cases hrb : rightB m xs with
                | false => exact Or.inl rfl
                | true => exact Or.inr (by simp only [ordB]; rw [decide_eq_false]; intro h; exact hgood ⟨hrb, by omega, by omega⟩))
              subst hq1
              cases hrb : rightB m xs with
              | false =>
                rw [hrb] at HRT
                go_wp2_with fail
                refine Calls.mono HRT.out ?_
                rintro e wd ⟨rfl, hbd⟩
                have HBE : Hid (Below w.heap.size w wd) := below_tr (below_tr HB9.out HBD.out) hbd
                have y3 := (hbd.cell (p := ⟨X, 3, none⟩) (by have := (HX9.out.below HBD.out).box.lt; exact this)).trans x3
                clear hbd
                go_wp2_with fail
                go_ret
                exact ⟨rfl, HBE.out⟩
              | true =>
                have hor : o < 0 ∨ 5 < o := by
                  by_cases h1 : 0 ≤ o
                  · by_cases h2 : o ≤ 5
                    · exact absurd ⟨hrb, h1, h2⟩ hgood
                    · exact Or.inr (by omega)
                  · exact Or.inl (by omega)
                rw [hrb] at HRT
                go_wp2_with fail
                refine Calls.mono HRT.out ?_
                rintro e wd ⟨rfl, hbd⟩
                have HBE : Hid (Below w.heap.size w wd) := below_tr (below_tr HB9.out HBD.out) hbd
                have y3 := (hbd.cell (p := ⟨X, 3, none⟩) (by have := (HX9.out.below HBD.out).box.lt; exact this)).trans x3
                clear hbd
                rcases hor with hor | hor
                · go_wp2_with fail
                  go_ret
                  exact ⟨rfl, HBE.out⟩
                · go_wp2_with fail
                  go_ret
                  exact ⟨rfl, HBE.out⟩
    · go_enter Try.func4, Try.ntmps4
      go_wp2_with fail
      go_ret
      exact ⟨rfl, Below.refl _ _⟩
  · go_enter Try.func4, Try.ntmps4
    go_wp2_with fail
    go_ret
    exact ⟨rfl, Below.refl _ _⟩
end Go.Proofs.Ytcokchfedaoccab.blaw
