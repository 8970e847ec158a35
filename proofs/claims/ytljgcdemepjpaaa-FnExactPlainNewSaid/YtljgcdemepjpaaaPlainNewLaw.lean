/-
  The law FnExactPlainNew answers true at every root: PlainNew answers as the specification, and its answer owns its memory. Conditions: none.
-/
import Derived.Test.YtljgcdemepjpaaaPlainK
import Derived.Lib.SmallJoins
import Derived.OpenShut
namespace Go.Proofs.Ytljgcdemepjpaaa.fnExactPlainNew
open Go.ChangeShapes Go.WideShapes Go.ChangeAt Go.RowKit Go.Joins
open Go.Proofs.Ytljgcdemepjpaaa
open Go.Proofs.Ytljgcdemepjpaaa.deep
set_option linter.unusedVariables false
set_option maxRecDepth 100000

theorem own : ownKnob Try.prog.godebug = none := by kernel_rfl
/-- what is wanted of the two functions and of the laws' helpers, whatever they answer -/
structure Kit (b i g q m : Int) (A : Nat → Nat → World → Value → Prop) (Hl : World → Value → Prop) : Prop where
  small : 0 ≤ m ∧ m ≤ 1000
  sp : ∀ W, Calls Try.prog 4 #[.agg #[.int .i64 b, .int .i64 i, .int .i64 g]] W fun e w' => ∃ v, e = .returned v ∧ A W.heap.size w'.heap.size w' v ∧ Below W.heap.size W w'
  im : ∀ W, Calls Try.prog 6 #[.agg #[.int .i64 b, .int .i64 i, .int .i64 g]] W fun e w' => ∃ v, e = .returned v ∧ A W.heap.size w'.heap.size w' v ∧ Below W.heap.size W w'
  form : ∀ lo hi W v, A lo hi W v → ∃ a1 n1 c1 a2 n2 c2 a3 n3 c3, v = .agg #[.slice a1 n1 c1, .slice a2 n2 c2, .slice a3 n3 c3, .int .i64 q]
  eq : ∀ W l1 h1 l2 h2 v1 v2, A l1 h1 W v1 → A l2 h2 W v2 → Calls Try.prog 7 #[v1, v2] W fun e w' => e = .returned (.bool true) ∧ Below W.heap.size W w'
  mark : ∀ W lo hi v, A lo hi W v → lo ≤ W.heap.size → 0 < W.heap.size → Calls Try.prog 8 #[v, .int .i64 1] W fun e w' => e = .returned (.int .i64 m) ∧ Hl w' v ∧ Below lo W w' ∧ ∀ B t cs, hi ≤ B → Blk W B t cs → Blk w' B t cs
  held : ∀ W v, Hl W v → Calls Try.prog 9 #[v, .int .i64 1] W fun e w' => e = .returned (.int .i64 m) ∧ Below W.heap.size W w'
  later : ∀ W W' lo hi v, A lo hi W v → Below W.heap.size W W' → A lo hi W' v
  stays : ∀ W W' v, Hl W v → Below W.heap.size W W' → Hl W' v

set_option maxHeartbeats 8000000 in
theorem walk (b i g q m : Int) (A : Nat → Nat → World → Value → Prop) (Hl : World → Value → Prop) (K : Kit b i g q m A Hl) (w : World) :
    Calls Try.prog 3 #[.agg #[.int .i64 b, .int .i64 i, .int .i64 g]] w fun e w' => e = .returned (.bool true) ∧ Below w.heap.size w w' := by
  have HTH : Hid (∀ (p0 p1 p2 : Int) W, Calls Try.prog 5 #[.agg #[.int .i64 p0, .int .i64 p1, .int .i64 p2]] W fun e w' => e = .returned (.agg #[.int .i64 p0, .int .i64 p1, .int .i64 p2]) ∧ Below W.heap.size W w') := fun p0 p1 p2 W => (to_hd p0 p1 p2 W).mono fun e w' h => ⟨h.1, by rw [h.2]; exact below3 _ _ _ _⟩
  have HK : Hid (Kit b i g q m A Hl) := K
  have hm := K.small
  clear K
  have HL0 : Hid (Blk (w.alloc (.cells #[.int .i64 b, .int .i64 i, .int .i64 g] 23)) w.heap.size 23 [.int .i64 b, .int .i64 i, .int .i64 g]) := blk_new w _ _
  have HB0 : Hid (Below w.heap.size w (w.alloc (.cells #[.int .i64 b, .int .i64 i, .int .i64 g] 23))) := below_one w _
  go_enter Try.func3, Try.ntmps3
  go_wp2_with fail
  refine Calls.mono (HTH.out _ _ _ _) ?_
  rintro e w1 ⟨rfl, hb1⟩
  have HL1 : Hid (Blk w1 w.heap.size 23 [.int .i64 b, .int .i64 i, .int .i64 g]) := HL0.out.later hb1
  have HB1 : Hid (Below w.heap.size w w1) := below_tr HB0.out hb1
  clear hb1 HL0 HB0
  go_wp2_with fail
  refine Calls.mono (HK.out.sp _) ?_
  rintro e w2 ⟨v2, rfl, ha2, hb2⟩
  obtain ⟨a1, n1, c1, a2, n2, c2, a3, n3, c3, hv2⟩ := HK.out.form _ _ _ _ ha2
  subst hv2
  obtain ⟨l2, hl2⟩ : ∃ l, l = w1.heap.size := ⟨_, rfl⟩
  obtain ⟨u2, hu2⟩ : ∃ l, l = w2.heap.size := ⟨_, rfl⟩
  rw [← hl2, ← hu2] at ha2
  have HA2 : Hid (A l2 u2 w2 (.agg #[.slice a1 n1 c1, .slice a2 n2 c2, .slice a3 n3 c3, .int .i64 q])) := ha2
  have HL2 : Hid (Blk w2 w.heap.size 23 [.int .i64 b, .int .i64 i, .int .i64 g]) := HL1.out.later hb2
  have HB2 : Hid (Below w.heap.size w w2) := below_tr HB1.out hb2
  have hlt2 : w.heap.size < w2.heap.size := HL2.out.lt
  obtain ⟨x0, x1, x2⟩ := cells3 HL2.out
  clear ha2 hl2 hu2 hb2 HL1 HB1
  go_wp2_with fail
  obtain ⟨V2, hV2⟩ : ∃ V, V = w2.alloc (.cells #[.slice a1 n1 c1, .slice a2 n2 c2, .slice a3 n3 c3, .int .i64 q] 30) := ⟨_, rfl⟩
  have hbv : Below w2.heap.size w2 V2 := by rw [hV2]; exact below_one _ _
  have HW3 : Hid (Blk V2 w2.heap.size 30 [.slice a1 n1 c1, .slice a2 n2 c2, .slice a3 n3 c3, .int .i64 q]) := by rw [hV2]; exact blk_new _ _ _
  have HA3 : Hid (A l2 u2 V2 (.agg #[.slice a1 n1 c1, .slice a2 n2 c2, .slice a3 n3 c3, .int .i64 q])) := HK.out.later _ _ _ _ _ HA2.out hbv
  have HL3 : Hid (Blk V2 w.heap.size 23 [.int .i64 b, .int .i64 i, .int .i64 g]) := HL2.out.later hbv
  have HB3 : Hid (Below w.heap.size w V2) := below_tr HB2.out hbv
  rw [← hV2]
  clear hV2 hbv HA2 HL2 HB2 x0 x1 x2 hlt2
  obtain ⟨y2, hy2⟩ : ∃ n, n = w2.heap.size := ⟨_, rfl⟩
  rw [← hy2] at HW3 ⊢
  clear hy2
  refine Calls.mono (HTH.out _ _ _ _) ?_
  rintro e w4 ⟨rfl, hb4⟩
  have HW4 : Hid (Blk w4 y2 30 [.slice a1 n1 c1, .slice a2 n2 c2, .slice a3 n3 c3, .int .i64 q]) := HW3.out.later hb4
  have HA4 : Hid (A l2 u2 w4 (.agg #[.slice a1 n1 c1, .slice a2 n2 c2, .slice a3 n3 c3, .int .i64 q])) := HK.out.later _ _ _ _ _ HA3.out hb4
  have HL4 : Hid (Blk w4 w.heap.size 23 [.int .i64 b, .int .i64 i, .int .i64 g]) := HL3.out.later hb4
  have HB4 : Hid (Below w.heap.size w w4) := below_tr HB3.out hb4
  clear hb4 HW3 HA3 HL3 HB3
  go_wp2_with fail
  refine Calls.mono (HK.out.im _) ?_
  rintro e w5 ⟨v5, rfl, ha5, hb5⟩
  obtain ⟨d1, m1, e1, d2, m2, e2, d3, m3, e3, hv5⟩ := HK.out.form _ _ _ _ ha5
  subst hv5
  obtain ⟨u5, hu5⟩ : ∃ l, l = w5.heap.size := ⟨_, rfl⟩
  rw [← hu5] at ha5
  have HU5 : Hid (u5 ≤ w5.heap.size) := by rw [hu5]; exact Nat.le_refl _
  have HG5 : Hid (A w4.heap.size u5 w5 (.agg #[.slice d1 m1 e1, .slice d2 m2 e2, .slice d3 m3 e3, .int .i64 q])) := ha5
  have HK5 : Hid (Below w4.heap.size w4 w5) := hb5
  have HW5 : Hid (Blk w5 y2 30 [.slice a1 n1 c1, .slice a2 n2 c2, .slice a3 n3 c3, .int .i64 q]) := HW4.out.later hb5
  have hlt5 : y2 < w5.heap.size := HW5.out.lt
  obtain ⟨x0, x1, x2, x3⟩ := cells4' HW5.out
  clear ha5 hb5 hu5
  go_wp2_with fail
  obtain ⟨V5, hV5⟩ : ∃ V, V = w5.alloc (.cells #[.slice d1 m1 e1, .slice d2 m2 e2, .slice d3 m3 e3, .int .i64 q] 30) := ⟨_, rfl⟩
  have hbv : Below w5.heap.size w5 V5 := by rw [hV5]; exact below_one _ _
  have HX6 : Hid (Blk V5 w5.heap.size 30 [.slice d1 m1 e1, .slice d2 m2 e2, .slice d3 m3 e3, .int .i64 q]) := by rw [hV5]; exact blk_new _ _ _
  have HG6 : Hid (A w4.heap.size u5 V5 (.agg #[.slice d1 m1 e1, .slice d2 m2 e2, .slice d3 m3 e3, .int .i64 q])) := HK.out.later _ _ _ _ _ HG5.out hbv
  have HK6 : Hid (Below w4.heap.size w4 V5) := below_tr HK5.out hbv
  have HX4 : Hid (w4.heap.size ≤ w5.heap.size) := HK5.out.size
  rw [← hV5]
  clear hV5 hbv HG5 HK5 HW5 hlt5 x0 x1 x2 x3
  obtain ⟨y5, hy5⟩ : ∃ n, n = w5.heap.size := ⟨_, rfl⟩
  rw [← hy5] at HX6 HX4 HU5 ⊢
  clear hy5
  have HA6 : Hid (A l2 u2 V5 (.agg #[.slice a1 n1 c1, .slice a2 n2 c2, .slice a3 n3 c3, .int .i64 q])) := HK.out.later _ _ _ _ _ HA4.out HK6.out
  refine Calls.mono (HK.out.eq _ _ _ _ _ _ _ HG6.out HA6.out) ?_
  rintro e w7 ⟨rfl, hb7⟩
  have HX7 : Hid (Blk w7 y5 30 [.slice d1 m1 e1, .slice d2 m2 e2, .slice d3 m3 e3, .int .i64 q]) := HX6.out.later hb7
  have HG7 : Hid (A w4.heap.size u5 w7 (.agg #[.slice d1 m1 e1, .slice d2 m2 e2, .slice d3 m3 e3, .int .i64 q])) := HK.out.later _ _ _ _ _ HG6.out hb7
  have HK7 : Hid (Below w4.heap.size w4 w7) := below_tr HK6.out hb7
  clear hb7 HX6 HG6 HK6 HA6
  obtain ⟨x0, x1, x2, x3⟩ := cells4' HX7.out
  go_wp2_with fail
  refine Calls.mono (HK.out.mark _ _ _ _ HG7.out HK7.out.size (Nat.lt_of_le_of_lt (Nat.zero_le _) HX7.out.lt)) ?_
  rintro e w8 ⟨rfl, hh8, hb8, hx8⟩
  have HH8 : Hid (Hl w8 (.agg #[.slice d1 m1 e1, .slice d2 m2 e2, .slice d3 m3 e3, .int .i64 q])) := hh8
  have HK8 : Hid (Below w4.heap.size w4 w8) := HK7.out.trans hb8
  have HX8 : Hid (Blk w8 y5 30 [.slice d1 m1 e1, .slice d2 m2 e2, .slice d3 m3 e3, .int .i64 q]) := hx8 _ _ _ HU5.out HX7.out
  clear hh8 hb8 hx8 HX7 HG7 HK7 x0 x1 x2 x3
  obtain ⟨x0, x1, x2, x3⟩ := cells4' HX8.out
  go_wp2_with fail
  refine Calls.mono (HK.out.held _ _ HH8.out) ?_
  rintro e w9 ⟨rfl, hb9⟩
  have HH9 : Hid (Hl w9 (.agg #[.slice d1 m1 e1, .slice d2 m2 e2, .slice d3 m3 e3, .int .i64 q])) := HK.out.stays _ _ _ HH8.out hb9
  have HK9 : Hid (Below w4.heap.size w4 w9) := below_tr HK8.out hb9
  have HX9 : Hid (Blk w9 y5 30 [.slice d1 m1 e1, .slice d2 m2 e2, .slice d3 m3 e3, .int .i64 q]) := HX8.out.later hb9
  have HL9 : Hid (Blk w9 w.heap.size 23 [.int .i64 b, .int .i64 i, .int .i64 g]) := HL4.out.later HK9.out
  clear hb9 HX8 HH8 HK8 x0 x1 x2 x3
  obtain ⟨x0, x1, x2⟩ := cells3 HL9.out
  go_wp2_with fail
  refine Calls.mono (HTH.out _ _ _ _) ?_
  rintro e wa ⟨rfl, hba⟩
  have HHa : Hid (Hl wa (.agg #[.slice d1 m1 e1, .slice d2 m2 e2, .slice d3 m3 e3, .int .i64 q])) := HK.out.stays _ _ _ HH9.out hba
  have HKa : Hid (Below w4.heap.size w4 wa) := below_tr HK9.out hba
  have HXa : Hid (Blk wa y5 30 [.slice d1 m1 e1, .slice d2 m2 e2, .slice d3 m3 e3, .int .i64 q]) := HX9.out.later hba
  clear hba HX9 HH9 HK9 HL9 x0 x1 x2
  go_wp2_with fail
  refine Calls.mono (HK.out.im _) ?_
  rintro e wb ⟨vb, rfl, hab, hbb⟩
  obtain ⟨f1, o1, g1, f2, o2, g2, f3, o3, g3, hvb⟩ := HK.out.form _ _ _ _ hab
  subst hvb
  obtain ⟨lb, hlb⟩ : ∃ l, l = wa.heap.size := ⟨_, rfl⟩
  obtain ⟨ub, hub⟩ : ∃ l, l = wb.heap.size := ⟨_, rfl⟩
  rw [← hlb, ← hub] at hab
  have HIb : Hid (A lb ub wb (.agg #[.slice f1 o1 g1, .slice f2 o2 g2, .slice f3 o3 g3, .int .i64 q])) := hab
  have HHb : Hid (Hl wb (.agg #[.slice d1 m1 e1, .slice d2 m2 e2, .slice d3 m3 e3, .int .i64 q])) := HK.out.stays _ _ _ HHa.out hbb
  have HKb : Hid (Below w4.heap.size w4 wb) := below_tr HKa.out hbb
  have HXb : Hid (Blk wb y5 30 [.slice d1 m1 e1, .slice d2 m2 e2, .slice d3 m3 e3, .int .i64 q]) := HXa.out.later hbb
  have HWb : Hid (Blk wb y2 30 [.slice a1 n1 c1, .slice a2 n2 c2, .slice a3 n3 c3, .int .i64 q]) := HW4.out.later HKb.out
  have hltb : y2 < wb.heap.size := HWb.out.lt
  obtain ⟨x0, x1, x2, x3⟩ := cells4' HWb.out
  clear hab hlb hub hbb HHa HKa HXa
  go_wp2_with fail
  obtain ⟨Vb, hVb⟩ : ∃ V, V = wb.alloc (.cells #[.slice f1 o1 g1, .slice f2 o2 g2, .slice f3 o3 g3, .int .i64 q] 30) := ⟨_, rfl⟩
  have hbv : Below wb.heap.size wb Vb := by rw [hVb]; exact below_one _ _
  have HIc : Hid (A lb ub Vb (.agg #[.slice f1 o1 g1, .slice f2 o2 g2, .slice f3 o3 g3, .int .i64 q])) := HK.out.later _ _ _ _ _ HIb.out hbv
  have HHc : Hid (Hl Vb (.agg #[.slice d1 m1 e1, .slice d2 m2 e2, .slice d3 m3 e3, .int .i64 q])) := HK.out.stays _ _ _ HHb.out hbv
  have HKc : Hid (Below w4.heap.size w4 Vb) := below_tr HKb.out hbv
  have HXc : Hid (Blk Vb y5 30 [.slice d1 m1 e1, .slice d2 m2 e2, .slice d3 m3 e3, .int .i64 q]) := HXb.out.later hbv
  have HAc : Hid (A l2 u2 Vb (.agg #[.slice a1 n1 c1, .slice a2 n2 c2, .slice a3 n3 c3, .int .i64 q])) := HK.out.later _ _ _ _ _ HA4.out HKc.out
  rw [← hVb]
  clear hVb hbv HIb HHb HKb HXb HWb hltb x0 x1 x2 x3
  refine Calls.mono (HK.out.eq _ _ _ _ _ _ _ HIc.out HAc.out) ?_
  rintro e wd ⟨rfl, hbd⟩
  have HHd : Hid (Hl wd (.agg #[.slice d1 m1 e1, .slice d2 m2 e2, .slice d3 m3 e3, .int .i64 q])) := HK.out.stays _ _ _ HHc.out hbd
  have HKd : Hid (Below w4.heap.size w4 wd) := below_tr HKc.out hbd
  have HXd : Hid (Blk wd y5 30 [.slice d1 m1 e1, .slice d2 m2 e2, .slice d3 m3 e3, .int .i64 q]) := HXc.out.later hbd
  clear hbd HHc HKc HXc HIc HAc
  obtain ⟨x0, x1, x2, x3⟩ := cells4' HXd.out
  go_wp2_with fail
  refine Calls.mono (HK.out.held _ _ HHd.out) ?_
  rintro e we ⟨rfl, hbe⟩
  have HBe : Hid (Below w.heap.size w we) := below_tr HB4.out (below_tr HKd.out hbe)
  clear hbe HKd HHd HXd x0 x1 x2 x3
  go_wp2_with fail
  go_ret
  exact ⟨rfl, HBe.out⟩

/-- a plain kernel with the root alone, in blocks from lo on and below hi -/
def AY (i g : Int) (lo hi : Nat) (W : World) (v : Value) : Prop := ∃ T L E : Nat, v = .agg #[.slice (some ⟨T, 0, none⟩) 1 1, .slice (some ⟨L, 0, none⟩) 16 16, .slice (some ⟨E, 0, none⟩) 1 1, .int .i64 0] ∧ ∃ H : Nat, Blk W L 26 (toldL H) ∧ Blk W T 40 (tcells i g) ∧ Blk W H 32 (hcells i g) ∧ Blk W E 32 (hcells i g) ∧ (lo ≤ T ∧ lo ≤ L ∧ lo ≤ H ∧ lo ≤ E) ∧ (T < hi ∧ L < hi ∧ H < hi ∧ E < hi) ∧ (T ≠ L ∧ T ≠ H ∧ T ≠ E ∧ L ≠ H ∧ L ≠ E ∧ H ≠ E)
theorem ay_of {i g : Int} {lo : Nat} {W : World} {v : Value} (h : PAns i g lo W v) : AY i g lo W.heap.size W v := by
  obtain ⟨T, L, E, hv, H, h1, h2, h3, h4, h5, h6⟩ := h
  exact ⟨T, L, E, hv, H, h1, h2, h3, h4, h5, ⟨h2.lt, h1.lt, h3.lt, h4.lt⟩, h6⟩
/-- the marks stand in it -/
def HY (W : World) (v : Value) : Prop := ∃ T L E : Nat, v = .agg #[.slice (some ⟨T, 0, none⟩) 1 1, .slice (some ⟨L, 0, none⟩) 16 16, .slice (some ⟨E, 0, none⟩) 1 1, .int .i64 0] ∧ ∃ H : Nat, Blk W L 26 (toldL H) ∧ Blk W T 40 tmarked ∧ Blk W H 32 [.int .i64 10, .int .i64 (10 + 1), .int .i64 (10 + 2)] ∧ Blk W E 32 [.int .i64 13, .int .i64 (13 + 1), .int .i64 (13 + 2)]
theorem told_of {W : World} {L H : Nat} {i g : Int} (h1 : Blk W L 26 (toldL H)) (h2 : Blk W H 32 (hcells i g)) : deep.Told W L H (0, i, g) := by
  refine ⟨fun j hj => ?_, h1.lt, ?_⟩
  · rw [h1.cell j]
    by_cases e : j = 0
    · subst e; rfl
    · rw [told_n H j hj e, if_neg e]
  · refine ⟨_, 1, rfl, by simp [maxLen], fun _ => ⟨H, 0, rfl, Nat.zero_le _, h2.lt, fun k hk => ?_⟩⟩
    obtain rfl : k = 0 := by simp at hk; omega
    exact ⟨hcells i g, rfl, fun j hj => by rw [show 0 + 0 * 3 + j = j by omega]; exact h2.cell j, rfl⟩
theorem hd_row {W : World} {E : Nat} {i g : Int} (h2 : Blk W E 32 (hcells i g)) : RowE (Plain chd) 3 0 W (.slice (some ⟨E, 0, none⟩) 1 1) [(0, i, g)] := by
  refine ⟨_, 1, rfl, by simp [maxLen], fun _ => ⟨E, 0, rfl, Nat.zero_le _, h2.lt, fun k hk => ?_⟩⟩
  obtain rfl : k = 0 := by simp at hk; omega
  exact ⟨hcells i g, rfl, fun j hj => by rw [show 0 + 0 * 3 + j = j by omega]; exact h2.cell j, rfl⟩

theorem kit_yes (i g : Int) : Kit 0 i g 0 16 (AY i g) HY where
  small := by omega
  sp := fun W => (spec_yes i g W).mono fun e w' h => by
    obtain ⟨v, h1, h2, h3⟩ := h
    exact ⟨v, h1, ay_of h2, h3⟩
  im := fun W => (impl_yes i g W).mono fun e w' h => by
    obtain ⟨v, h1, h2, h3⟩ := h
    exact ⟨v, h1, ay_of h2, h3⟩
  form := fun lo hi W v h => by
    obtain ⟨T, L, E, rfl, _⟩ := h
    exact ⟨_, _, _, _, _, _, _, _, _, rfl⟩
  eq := fun W l1 h1 l2 h2 v1 v2 a1 a2 => by
    obtain ⟨T, L, E, rfl, H, b1, b2, b3, b4, _⟩ := a1
    obtain ⟨T', L', E', rfl, H', b1', b2', b3', b4', _⟩ := a2
    exact eq_po _ _ _ _ _ _ _ _ _ _ _ _ _ _ _ _ _ _ 0 W (fun V hV => eq_ths (b2.later hV) (b2'.later hV)) (fun V hV => eq_told ((told_of b1 b3).later hV) ((told_of b1' b3').later hV)) (fun V hV => eq_hds ((hd_row b4).below (plain_stays _) hV) ((hd_row b4').below (plain_stays _) hV))
  mark := fun W lo hi v h hlo _ => by
    obtain ⟨T, L, E, rfl, H, b1, b2, b3, b4, ⟨c1, c2, c3, c4⟩, ⟨d1, d2, d3, d4⟩, n1, n2, n3', n4, n5, n6⟩ := h
    refine (mark_po _ _ _ _ _ _ _ _ _ 0 1 10 13 16 T H E n9 (n3 10) (n3 13) W b2.lt b3.lt (fun V hV => mark_ths (b2.later hV)) (fun V hV => mark_told ((b1.later hV).other _ _ _ (Ne.symm n1)) ((b3.later hV).other _ _ _ (Ne.symm n2)) n4) (fun V hV => mark_one (((b4.later hV).other _ _ _ (Ne.symm n3')).other _ _ _ (Ne.symm n6)) (by omega) (by omega))).mono ?_
    rintro e w' ⟨he, V, hV, rfl⟩
    refine ⟨he, ⟨T, L, E, rfl, H, ?_, ?_, ?_, ?_⟩, ?_, ?_⟩
    · exact (((b1.later hV).other _ _ _ (Ne.symm n1)).other _ _ _ n4).other _ _ _ n5
    · have := (b2.later hV).put n9 0
      rw [putL_n9] at this
      exact (this.other _ _ _ n2).other _ _ _ n3'
    · have := ((b3.later hV).other n9 T 0 (Ne.symm n2)).put (n3 10) 0
      rw [hcells, n3_put] at this
      exact this.other _ _ _ n6
    · have := (((b4.later hV).other n9 T 0 (Ne.symm n3')).other (n3 10) H 0 (Ne.symm n6)).put (n3 13) 0
      rw [hcells, n3_put] at this
      exact this
    · exact putW_below _ (putW_below _ (putW_below _ (hV.mono hlo) c1) c3) c4
    · intro B t cs hB hb
      have hv := hb.later hV
      exact ((hv.other _ _ _ (by omega)).other _ _ _ (by omega)).other _ _ _ (by omega)
  held := fun W v h => by
    obtain ⟨T, L, E, rfl, H, b1, b2, b3, b4⟩ := h
    exact held_po _ _ _ _ _ _ _ _ _ 0 1 10 13 16 W (fun V hV => held_ths (b2.later hV)) (fun V hV => held_told (b1.later hV) (b3.later hV)) (fun V hV => held_1 (b4.later hV) (by omega) (by omega)) (by omega) (by omega) (by omega)
  later := fun W W' lo hi v h hb => by
    obtain ⟨T, L, E, rfl, H, b1, b2, b3, b4, h5⟩ := h
    exact ⟨T, L, E, rfl, H, b1.later hb, b2.later hb, b3.later hb, b4.later hb, h5⟩
  stays := fun W W' v h hb => by
    obtain ⟨T, L, E, rfl, H, b1, b2, b3, b4⟩ := h
    exact ⟨T, L, E, rfl, H, b1.later hb, b2.later hb, b3.later hb, b4.later hb⟩

theorem kit_no (b i g : Int) (hb : ¬ b = 0) : Kit b i g 1 1 (fun _ _ _ v => v = noAns) (fun _ v => v = noAns) where
  small := by omega
  sp := fun W => (spec_no b i g W hb).mono fun e w' h => ⟨_, h.1, rfl, h.2⟩
  im := fun W => (impl_no b i g W hb).mono fun e w' h => ⟨_, h.1, rfl, h.2⟩
  form := fun lo hi W v h => ⟨_, _, _, _, _, _, _, _, _, h⟩
  eq := fun W l1 h1 l2 h2 v1 v2 a1 a2 => by
    subst a1 a2
    exact eq_po _ _ _ _ _ _ _ _ _ _ _ _ _ _ _ _ _ _ 1 W (fun V hV => eq_ths0 _ _ _ _ V) (fun V hV => eq_told0 _ _ _ _ V) (fun V hV => eq_hds0 _ _ _ _ V)
  mark := fun W lo hi v h hlo h0 => by
    subst h
    refine (mark_po _ _ _ _ _ _ _ _ _ 1 1 1 1 1 0 0 0 [] [] [] W h0 h0 (fun V hV => mark_ths0 _ _ _ V) (fun V hV => mark_told0 _ _ _ V) (fun V hV => mark_hds0 _ _ _ V)).mono ?_
    rintro e w' ⟨he, V, hV, rfl⟩
    exact ⟨he, rfl, hV.mono hlo, fun B t cs _ hx => hx.later hV⟩
  held := fun W v h => by
    subst h
    exact held_po _ _ _ _ _ _ _ _ _ 1 1 1 1 1 W (fun V hV => held_ths0 _ _ _ V) (fun V hV => held_told0 _ _ _ V) (fun V hV => held_hds0 _ _ _ V) (by omega) (by omega) (by omega)
  later := fun W W' lo hi v h _ => h
  stays := fun W W' v h _ => h

theorem whole (b i g : Int) (w : World) : Calls Try.prog 3 #[.agg #[.int .i64 b, .int .i64 i, .int .i64 g]] w fun e w' => e = .returned (.bool true) ∧ Below w.heap.size w w' := by
  by_cases hb : b = 0
  · subst hb; exact walk 0 i g 0 16 _ _ (kit_yes i g) w
  · exact walk b i g 1 1 _ _ (kit_no b i g hb) w

set_option maxRecDepth 100000 in
theorem lifted (os : Os) (started : os.Started) (H : Type) (enc : TypeId × Value → H) :
    ReturnsInHanded {} Try.checked os 3 .any (Rows.fnExactPlainNewSpec.pre6 enc Try.prog Try.f3 Rows.fnExactPlainNewRow.domain false) (Rows.fnExactPlainNewSpec.post enc Try.prog Try.f3 false true false false) := by
  refine returnsInHanded_of_change (C := Try.checked) own started (by kernel_rfl) Try.func3
    (ChangeSpec.witness6 (enc := enc) (C := Try.checked) false ⟨#[], #[.agg #[.int .i64 0, .int .i64 0, .int .i64 0]], []⟩ 8 (by kernel_rfl) (by kernel_rfl) (by kernel_rfl) (by kernel_rfl)) ?_
  intro W base args ds gs before hval0 hW hcnd _
  have hval : ∀ (j : Nat) t v, Try.f3.params[j]? = some t → args[j]? = some v → Value.okWide Try.prog W .any base t v := hval0
  have hW' := hW
  obtain ⟨p, q, hA0, hV, rfl, hfz, hnd⟩ := hW
  have hA : DataW.TrodAll enc Try.prog W 0 (fun _ => true) true Try.f3.params.toList args.toList ds p := hA0
  rw [Try.params3] at hA hval
  obtain ⟨v0, vs0, d0, ds0, p0, q0, hargs, rfl, rfl, h0, r0⟩ := trodAll_cons hA
  obtain ⟨rfl, rfl, rfl⟩ := trodAll_nil r0
  obtain rfl : args = #[v0] := by cases args; simp_all
  obtain ⟨rfl, rfl⟩ := trodVars_none hV
  obtain ⟨g0, g1, g2, e0, e1, e2, k1, rfl, rfl, rfl, hg0, hg1, hg2⟩ := open_agg3 Try.underlying23 (by kernel_rfl) (by kernel_rfl) (hval 0 23 v0 rfl rfl) h0
  obtain ⟨y1, ey1, rfl, u1⟩ := DataW.trod_int Try.underlying2 hg0
  obtain ⟨y2, ey2, rfl, u2⟩ := DataW.trod_int Try.underlying2 hg1
  obtain ⟨y3, ey3, rfl, u3⟩ := DataW.trod_int Try.underlying2 hg2
  simp at ey1 ey2 ey3
  subst ey1 ey2 ey3
  clear hA0 hval0
  simp only [List.append_nil] at hW'
  refine (whole y1 y2 y3 W).mono fun e W' ⟨he, hg⟩ => ?_
  subst he
  have harg1 : DataW.Trod enc Try.prog W' 0 (fun b => decide (b < W.heap.size)) true 23 (.agg #[.int .i64 y1, .int .i64 y2, .int .i64 y3]) _ _ :=
    shut_agg3 (y0 := (.lit (.int .i64 y1), [])) (y1 := (.lit (.int .i64 y2), [])) (y2 := (.lit (.int .i64 y3), [])) Try.underlying23 (by kernel_rfl) (by kernel_rfl) ⟨1, by simp [DataW.trod, Try.underlying2, u1]⟩ ⟨1, by simp [DataW.trod, Try.underlying2, u2]⟩ ⟨1, by simp [DataW.trod, Try.underlying2, u3]⟩
  exact ⟨_, rfl, _, _, _, [], _, [], hW', (trodAll_cons_mk (shut_bool Try.underlying4 _) trodAll_mk0), (trodAll_cons_mk harg1 trodAll_mk0), rfl, hg.frame _, fun h => by cases h⟩

/-- the statement -/
theorem proved : Rows.FnExactPlainNewSaid :=
  OpenClaim.holds_of_wide 3 Try.f3 rfl rfl rfl rfl rfl rfl rfl ⟨rfl, rfl, rfl, rfl, rfl⟩ rfl rfl rfl rfl rfl (by kernel_rfl) Try.func3 (by kernel_rfl)
    (of_decide_eq_true (by kernel_rfl)) (by unfold Func.isWrapper; first | (rw [if_pos (by decide +kernel)]; kernel_rfl) | (rw [if_neg (by decide +kernel)]; exact ⟨rfl, rfl⟩))
    (fun os started H enc _ => lifted os started H enc)
#print axioms proved
end Go.Proofs.Ytljgcdemepjpaaa.fnExactPlainNew
