/-
  The law FnExactArenaFind answers true at every arena and handle: ArenaFind answers as the specification, and writes into no argument. Conditions: none.
-/
import Derived.Test.YtohgafblffnekaaArenaFindI
import Derived.Test.YtohgafblffnekaaArenaOpen
import Derived.Deep.RegionHeld3
import Derived.Deep.Cut
import Derived.Carry
import Derived.Lib.SmallJoins
namespace Go.Proofs.Ytohgafblffnekaa.fnExactArenaFind
open Go.ChangeShapes Go.WideShapes Go.ChangeAt Go.RowKit
open Go.Joins
open Go.Proofs.Ytohgafblffnekaa
open Go.Proofs.Ytohgafblffnekaa.deep
set_option linter.unusedVariables false

theorem own : ownKnob Try.prog.godebug = none := by kernel_rfl
theorem four_three {w W : World} {B X : Nat} {lb ky ct y1 y2 y3 : Int} {u : Value} {t1 t2 : Nat} (h1 : Blk w B t1 [.int .i64 lb, .int .i64 ky, .int .i64 ct, u]) (h2 : Blk w X t2 [.int .i64 y1, .int .i64 y2, .int .i64 y3]) (hb : Below w.heap.size w W) :
    W.cell? ⟨B, 0, none⟩ = some (.int .i64 lb) ∧ W.cell? ⟨B, 1, none⟩ = some (.int .i64 ky) ∧ W.cell? ⟨B, 2, none⟩ = some (.int .i64 ct) ∧ W.cell? ⟨B, 3, none⟩ = some (u) ∧ W.cell? ⟨X, 0, none⟩ = some (.int .i64 y1) ∧ W.cell? ⟨X, 1, none⟩ = some (.int .i64 y2) ∧ W.cell? ⟨X, 2, none⟩ = some (.int .i64 y3) :=
  ⟨(h1.later hb).cell 0, (h1.later hb).cell 1, (h1.later hb).cell 2, (h1.later hb).cell 3, (h2.later hb).cell 0, (h2.later hb).cell 1, (h2.later hb).cell 2⟩
theorem eight {w W : World} {B X : Nat} {lb ky ct : Int} {u v : Value} {t1 t2 : Nat} (h1 : Blk w B t1 [.int .i64 lb, .int .i64 ky, .int .i64 ct, u]) (h2 : Blk w X t2 [.int .i64 lb, .int .i64 ky, .int .i64 ct, v]) (hb : Below w.heap.size w W) :
    W.cell? ⟨B, 0, none⟩ = some (.int .i64 lb) ∧ W.cell? ⟨B, 1, none⟩ = some (.int .i64 ky) ∧ W.cell? ⟨B, 2, none⟩ = some (.int .i64 ct) ∧ W.cell? ⟨B, 3, none⟩ = some (u) ∧ W.cell? ⟨X, 0, none⟩ = some (.int .i64 lb) ∧ W.cell? ⟨X, 1, none⟩ = some (.int .i64 ky) ∧ W.cell? ⟨X, 2, none⟩ = some (.int .i64 ct) ∧ W.cell? ⟨X, 3, none⟩ = some (v) :=
  ⟨(h1.later hb).cell 0, (h1.later hb).cell 1, (h1.later hb).cell 2, (h1.later hb).cell 3, (h2.later hb).cell 0, (h2.later hb).cell 1, (h2.later hb).cell 2, (h2.later hb).cell 3⟩

set_option maxHeartbeats 8000000 in
theorem walk (x : ArenaD) (v : Value) (y1 y2 y3 : Int) (hy : Wf3 (y1, y2, y3)) (w : World) (h : RowE SlotE 15 0 w v x.slots) :
    Calls Try.prog 3 #[.agg (acells x v).toArray, .agg #[.int .i64 y1, .int .i64 y2, .int .i64 y3]] w fun e w' => e = .returned (.bool true) ∧ Below w.heap.size w w' := by
  obtain ⟨lb, ky, ct, xs⟩ := x
  simp only at h
  obtain ⟨bk, hbk⟩ : ∃ b, b = ArenaD.bulk ⟨lb, ky, ct, xs⟩ := ⟨_, rfl⟩
  have HSZ : Hid (∀ W, Below w.heap.size w W → Calls Try.prog 6 #[.agg #[.int .i64 lb, .int .i64 ky, .int .i64 ct, v], .int .i64 1048576] W fun e w' => e = .returned (.int .i64 (if (bk : Int) ≤ 1048576 then 1048576 - bk else -1)) ∧ Below W.heap.size W w') := fun W hW => by rw [hbk]; exact sz_arena ⟨lb, ky, ct, xs⟩ (h.below slot_stays hW) 1048576 (by omega) (by omega)
  have HT : Hid ((bk : Int) ≤ 1048576 → ∀ W, Below w.heap.size w W → Calls Try.prog 8 #[.agg #[.int .i64 lb, .int .i64 ky, .int .i64 ct, v]] W (ToArena ⟨lb, ky, ct, xs⟩ W)) := fun hn W hW => to_arena ⟨lb, ky, ct, xs⟩ (h.below slot_stays hW) (by omega)
  have HTH : Hid (∀ W, Calls Try.prog 9 #[.agg #[.int .i64 y1, .int .i64 y2, .int .i64 y3]] W fun e w' => e = .returned (.agg #[.int .i64 y1, .int .i64 y2, .int .i64 y3]) ∧ Below W.heap.size W w') := fun W => (to_hd y1 y2 y3 W).mono fun e w' h => ⟨h.1, by rw [h.2]; exact below3 _ _ _ _⟩
  have HS : Hid (∀ l u W, RowE SlotE 15 l W u xs → Calls Try.prog 7 #[.agg #[.int .i64 lb, .int .i64 ky, .int .i64 ct, u], .agg #[.int .i64 y1, .int .i64 y2, .int .i64 y3]] W fun e w' => e = .returned (.int .i64 (ArenaD.place ⟨lb, ky, ct, xs⟩ (y1, y2, y3))) ∧ Below W.heap.size W w') := fun l u W hW => sp_find ⟨lb, ky, ct, xs⟩ y1 y2 y3 hW
  have HI : Hid (∀ l u W, RowE SlotE 15 l W u xs → Calls Try.prog 10 #[.agg #[.int .i64 lb, .int .i64 ky, .int .i64 ct, u], .agg #[.int .i64 y1, .int .i64 y2, .int .i64 y3]] W fun e w' => e = .returned (.int .i64 (ArenaD.place ⟨lb, ky, ct, xs⟩ (y1, y2, y3))) ∧ Below W.heap.size W w') := fun l u W hW => im_find ⟨lb, ky, ct, xs⟩ y1 y2 y3 hy hW
  have HE : Hid (∀ W l1 l2 u1 u2, RowE SlotE 15 l1 W u1 xs → RowE SlotE 15 l2 W u2 xs → Calls Try.prog 11 #[.agg #[.int .i64 lb, .int .i64 ky, .int .i64 ct, u1], .agg #[.int .i64 lb, .int .i64 ky, .int .i64 ct, u2]] W fun e w' => e = .returned (.bool true) ∧ Below W.heap.size W w') := fun W l1 l2 u1 u2 h1 h2 => eq_arena ⟨lb, ky, ct, xs⟩ h1 h2
  generalize ArenaD.place ⟨lb, ky, ct, xs⟩ (y1, y2, y3) = ans at HS HI
  obtain ⟨a, c, hv, _⟩ := h.form
  simp only [acells]
  obtain ⟨L, hL⟩ : ∃ n, n = xs.length := ⟨_, rfl⟩
  rw [← hL] at hv
  clear h hL hbk
  subst hv
  by_cases hn : (bk : Int) ≤ 1048576
  · rw [if_pos hn] at HSZ
    have HT2 : Hid _ := HT.out hn
    have hbn : (0 : Int) ≤ 1048576 - bk := by omega
    clear HT
    go_enter Try.func3, Try.ntmps3
    go_wp2_with fail
    refine Calls.mono (HSZ.out _ (below2 w _ _)) ?_
    rintro e w1 ⟨rfl, hb1⟩
    have F := blk2 w [.int .i64 lb, .int .i64 ky, .int .i64 ct, .slice a L c] [.int .i64 y1, .int .i64 y2, .int .i64 y3] 26 28
    have HL1 : Hid (Blk w1 w.heap.size 26 [.int .i64 lb, .int .i64 ky, .int .i64 ct, .slice a L c]) := F.1.later hb1
    have HH1 : Hid (Blk w1 (w.heap.size + 1) 28 [.int .i64 y1, .int .i64 y2, .int .i64 y3]) := F.2.later hb1
    have HB1 : Hid (Below w.heap.size w w1) := below_tr (below2 w _ _) hb1
    clear hb1 F HSZ
    have hM0 := four_three HL1.out HH1.out (Below.refl _ _)
    have hMd := four_three HL1.out HH1.out (Below.drew (Below.refl _ _))
    go_wp2_with fail
    go_cut [6] from 14 to 18 (fun x6 wx => x6 = .int .i64 ans ∧ Hid (Below w1.heap.size w1 wx))
    case first =>
      go_region_held3 (fun W => W.cell? ⟨w.heap.size, 0, none⟩ = some (.int .i64 lb) ∧ W.cell? ⟨w.heap.size, 1, none⟩ = some (.int .i64 ky) ∧ W.cell? ⟨w.heap.size, 2, none⟩ = some (.int .i64 ct) ∧ W.cell? ⟨w.heap.size, 3, none⟩ = some (.slice a L c) ∧ W.cell? ⟨w.heap.size + 1, 0, none⟩ = some (.int .i64 y1) ∧ W.cell? ⟨w.heap.size + 1, 1, none⟩ = some (.int .i64 y2) ∧ W.cell? ⟨w.heap.size + 1, 2, none⟩ = some (.int .i64 y3))
        (with_reducible first | assumption | exact hM0 | exact hMd)
        (first | (go_at_call 8; refine Calls.mono (HT2.out _ (by first | exact below_tr HB1.out HQH.out | exact below_tr HB1.out (Below.drew HQH.out) | exact Below.drew HB1.out | exact HB1.out)) ?_; rintro e wA ⟨vA, rfl, hrA, hbA⟩; have hqA : Below w1.heap.size w1 wA := (by first | exact below_tr HQH.out hbA | exact Below.trans (Below.drew (Below.refl w1.heap.size w1)) hbA | exact hbA); have HQA : Hid (Below w1.heap.size w1 wA) := hqA; have HRA : Hid (RowE SlotE 15 _ wA vA xs) := hrA; have ZA := four_three HL1.out HH1.out hqA; simp only [acells]; clear hqA hrA hbA) | (go_at_call 9; refine Calls.mono (HTH.out _) ?_; rintro e wH ⟨rfl, hbH⟩; have hqH : Below w1.heap.size w1 wH := (by first | exact below_tr HQA.out hbH | exact Below.trans (Below.drew (Below.refl w1.heap.size w1)) hbH | exact hbH); have HQH : Hid (Below w1.heap.size w1 wH) := hqH; have ZH := four_three HL1.out HH1.out hqH; (first | (have HRB : Hid (RowE SlotE 15 _ wH _ xs) := HRA.out.below slot_stays hbH) | skip); clear hqH hbH) | (go_at_call 7; refine Calls.mono (HS.out _ _ _ (by first | exact HRB.out | exact HRA.out)) ?_; rintro e wS ⟨rfl, hbS⟩; have hqS : Below w1.heap.size w1 wS := (by first | exact below_tr HQH.out hbS | exact below_tr HQA.out hbS); have HQS : Hid (Below w1.heap.size w1 wS) := hqS; have ZS := four_three HL1.out HH1.out hqS; clear hqS hbS))
      all_goals (go_wp2_with fail)
      all_goals go_meet
      all_goals (first | exact ⟨rfl, HQS.out⟩)
    case rest =>
      obtain ⟨rfl, HQ⟩ := hcut
      obtain ⟨w2, rfl⟩ : ∃ W, W = wc := ⟨_, rfl⟩
      have HL2 : Hid (Blk w2 w.heap.size 26 [.int .i64 lb, .int .i64 ky, .int .i64 ct, .slice a L c]) := HL1.out.later HQ.out
      have HH2 : Hid (Blk w2 (w.heap.size + 1) 28 [.int .i64 y1, .int .i64 y2, .int .i64 y3]) := HH1.out.later HQ.out
      have HB2 : Hid (Below w.heap.size w w2) := below_tr HB1.out HQ.out
      clear HQ HL1 HH1 HB1 hM0 hMd HS
      have c0 : w2.cell? ⟨w.heap.size, 0, none⟩ = some (.int .i64 lb) := HL2.out.cell 0
      have c1 : w2.cell? ⟨w.heap.size, 1, none⟩ = some (.int .i64 ky) := HL2.out.cell 1
      have c2 : w2.cell? ⟨w.heap.size, 2, none⟩ = some (.int .i64 ct) := HL2.out.cell 2
      have c3 : w2.cell? ⟨w.heap.size, 3, none⟩ = some (.slice a L c) := HL2.out.cell 3
      go_wp2_with fail
      refine Calls.mono (HT2.out _ HB2.out) ?_
      rintro e w4 ⟨v4, rfl, hr4, hb4⟩
      obtain ⟨a4, k4, hv4, _⟩ := hr4.form
      have HR4 : Hid (RowE SlotE 15 w2.heap.size w4 v4 xs) := hr4
      have HL4 : Hid (Blk w4 w.heap.size 26 [.int .i64 lb, .int .i64 ky, .int .i64 ct, .slice a L c]) := HL2.out.later hb4
      have HH4 : Hid (Blk w4 (w.heap.size + 1) 28 [.int .i64 y1, .int .i64 y2, .int .i64 y3]) := HH2.out.later hb4
      have HB4 : Hid (Below w.heap.size w w4) := below_tr HB2.out hb4
      simp only at hv4
      obtain ⟨L4, hL4⟩ : ∃ n, n = xs.length := ⟨_, rfl⟩
      rw [← hL4] at hv4
      simp only [acells]
      clear hb4 hr4 HL2 HH2 HB2 c0 c1 c2 c3 hL4
      subst hv4
      obtain ⟨w5, hw5⟩ : ∃ W, W = w4.alloc (.cells #[.int .i64 lb, .int .i64 ky, .int .i64 ct, .slice a4 L4 k4] 34) := ⟨_, rfl⟩
      have HX5 : Hid (Blk w5 w4.heap.size 34 [.int .i64 lb, .int .i64 ky, .int .i64 ct, .slice a4 L4 k4]) := by rw [hw5]; exact blk_new w4 _ _
      have HR5 : Hid (RowE SlotE 15 w2.heap.size w5 (.slice a4 L4 k4) xs) := by rw [hw5]; exact HR4.out.below slot_stays (below_one _ _)
      have HL5 : Hid (Blk w5 w.heap.size 26 [.int .i64 lb, .int .i64 ky, .int .i64 ct, .slice a L c]) := by rw [hw5]; exact HL4.out.later (below_one _ _)
      have HH5 : Hid (Blk w5 (w.heap.size + 1) 28 [.int .i64 y1, .int .i64 y2, .int .i64 y3]) := by rw [hw5]; exact HH4.out.later (below_one _ _)
      have HB5 : Hid (Below w.heap.size w w5) := by rw [hw5]; exact below_tr HB4.out (below_one _ _)
      clear HR4 HL4 HH4 HB4
      go_upto_region 7 with fail
      rw [← hw5]
      clear hw5
      have hM0 := four_three HX5.out HH5.out (Below.refl _ _)
      have hMd := four_three HX5.out HH5.out (Below.drew (Below.refl _ _))
      go_cut [8] from 21 to 24 (fun x8 wx => x8 = .int .i64 ans ∧ Hid (Below w5.heap.size w5 wx))
      case first =>
        go_region_held3 (fun W => W.cell? ⟨w4.heap.size, 0, none⟩ = some (.int .i64 lb) ∧ W.cell? ⟨w4.heap.size, 1, none⟩ = some (.int .i64 ky) ∧ W.cell? ⟨w4.heap.size, 2, none⟩ = some (.int .i64 ct) ∧ W.cell? ⟨w4.heap.size, 3, none⟩ = some (.slice a4 L4 k4) ∧ W.cell? ⟨w.heap.size + 1, 0, none⟩ = some (.int .i64 y1) ∧ W.cell? ⟨w.heap.size + 1, 1, none⟩ = some (.int .i64 y2) ∧ W.cell? ⟨w.heap.size + 1, 2, none⟩ = some (.int .i64 y3))
          (with_reducible first | assumption | exact hM0 | exact hMd)
          (first | (go_at_call 9; refine Calls.mono (HTH.out _) ?_; rintro e wH ⟨rfl, hbH⟩; have hqH : Below w5.heap.size w5 wH := (by first | exact Below.trans (Below.drew (Below.refl w5.heap.size w5)) hbH | exact hbH); have HQH : Hid (Below w5.heap.size w5 wH) := hqH; have ZH := four_three HX5.out HH5.out hqH; clear hqH hbH) | (go_at_call 10; refine Calls.mono (HI.out _ _ _ (HR5.out.below slot_stays HQH.out)) ?_; rintro e wS ⟨rfl, hbS⟩; have hqS : Below w5.heap.size w5 wS := below_tr HQH.out hbS; have HQS : Hid (Below w5.heap.size w5 wS) := hqS; have ZS := four_three HX5.out HH5.out hqS; clear hqS hbS))
        all_goals (go_wp2_with fail)
        all_goals go_meet
        all_goals (exact ⟨rfl, HQS.out⟩)
      case rest =>
        obtain ⟨rfl, HQ⟩ := hcut
        obtain ⟨w6, rfl⟩ : ∃ W, W = wc := ⟨_, rfl⟩
        have HX6 : Hid (Blk w6 w4.heap.size 34 [.int .i64 lb, .int .i64 ky, .int .i64 ct, .slice a4 L4 k4]) := HX5.out.later HQ.out
        have HR6 : Hid (RowE SlotE 15 w2.heap.size w6 (.slice a4 L4 k4) xs) := HR5.out.below slot_stays HQ.out
        have HL6 : Hid (Blk w6 w.heap.size 26 [.int .i64 lb, .int .i64 ky, .int .i64 ct, .slice a L c]) := HL5.out.later HQ.out
        have HB6 : Hid (Below w.heap.size w w6) := below_tr HB5.out HQ.out
        clear HQ HX5 HR5 HL5 HB5 HH5 hM0 hMd HI HTH
        have hM0 := eight HL6.out HX6.out (Below.refl _ _)
        have hMd := eight HL6.out HX6.out (Below.drew (Below.refl _ _))
        go_wp2_with fail
        go_region_held3 (fun W => W.cell? ⟨w.heap.size, 0, none⟩ = some (.int .i64 lb) ∧ W.cell? ⟨w.heap.size, 1, none⟩ = some (.int .i64 ky) ∧ W.cell? ⟨w.heap.size, 2, none⟩ = some (.int .i64 ct) ∧ W.cell? ⟨w.heap.size, 3, none⟩ = some (.slice a L c) ∧ W.cell? ⟨w4.heap.size, 0, none⟩ = some (.int .i64 lb) ∧ W.cell? ⟨w4.heap.size, 1, none⟩ = some (.int .i64 ky) ∧ W.cell? ⟨w4.heap.size, 2, none⟩ = some (.int .i64 ct) ∧ W.cell? ⟨w4.heap.size, 3, none⟩ = some (.slice a4 L4 k4))
          (with_reducible first | assumption | exact hM0 | exact hMd | exact Z7 | exact Z8)
          (first | (go_at_call 8; refine Calls.mono (HT2.out _ (Below.drew HB6.out)) ?_; rintro e w7 ⟨v7, rfl, hr7, hb7⟩; have hb7' : Below w6.heap.size w6 w7 := Below.trans (Below.drew (Below.refl w6.heap.size w6)) hb7; have Z7 := eight HL6.out HX6.out hb7'; have HR7b : Hid (RowE SlotE 15 w2.heap.size w7 (.slice a4 L4 k4) xs) := HR6.out.below slot_stays hb7'; have HR7 : Hid (RowE SlotE 15 w6.heap.size w7 v7 xs) := hr7; have HB67 : Hid (Below w6.heap.size w6 w7) := hb7'; simp only [acells]; clear hb7 hb7' hr7) | (go_at_call 11; refine Calls.mono (HE.out _ _ _ _ _ HR7b.out HR7.out) ?_; rintro e w8 ⟨rfl, hb8⟩; have HB8 : Hid (Below w6.heap.size w6 w8) := below_tr HB67.out hb8; have Z8 := eight HL6.out HX6.out HB8.out; clear hb8))
        go_wp2_with fail
        go_ret
        exact ⟨rfl, below_tr HB6.out HB8.out⟩
  · rw [if_neg hn] at HSZ
    go_enter Try.func3, Try.ntmps3
    go_wp2_with fail
    refine Calls.mono (HSZ.out _ (below2 w _ _)) ?_
    rintro e w1 ⟨rfl, hb1⟩
    have HB1 : Hid (Below w.heap.size w w1) := below_tr (below2 w _ _) hb1
    clear hb1
    go_wp2_with fail
    go_ret
    exact ⟨rfl, HB1.out⟩
theorem cells_ar : Try.prog.cellsOf 26 = 4 := by kernel_rfl
set_option maxRecDepth 100000 in
/-- a value of that struct type is its cells -/
theorem agg_of {W : World} {base : Nat} {v : Value} {cs : List Value} (h : Value.okWide Try.prog W .any base 26 v) (hc : v.cells.toList = cs) : v = .agg cs.toArray := by
  cases v with
  | agg c =>
    have e : c.toList = cs := hc
    rw [← e]
  | _ => simp [Value.okWide, Try.underlying26] at h

set_option maxRecDepth 100000 in
theorem lifted (os : Os) (started : os.Started) (H : Type) (enc : TypeId × Value → H) :
    ReturnsInHanded {} Try.checked os 3 .any (Rows.fnExactArenaFindSpec.pre6 enc Try.prog Try.f3 Rows.fnExactArenaFindRow.domain false) (Rows.fnExactArenaFindSpec.post enc Try.prog Try.f3 false true false false) := by
  refine returnsInHanded_of_change (C := Try.checked) own started (by kernel_rfl) Try.func3
    (ChangeSpec.witness6 (enc := enc) (C := Try.checked) false ⟨#[], #[.agg #[.int .i64 0, .int .i64 0, .int .i64 0, .slice none 0 0], .agg #[.int .i64 0, .int .i64 0, .int .i64 0]], []⟩ 8 (by kernel_rfl) (by kernel_rfl) (by kernel_rfl) (by kernel_rfl)) ?_
  intro W base args ds gs before hval0 hW hcnd _
  have hval : ∀ (j : Nat) t v, Try.f3.params[j]? = some t → args[j]? = some v → Value.okWide Try.prog W .any base t v := hval0
  have hW' := hW
  obtain ⟨p, q, hA0, hV, rfl, hfz, hnd⟩ := hW
  have hA : DataW.TrodAll enc Try.prog W 0 (fun _ => true) true Try.f3.params.toList args.toList ds p := hA0
  rw [Try.params3] at hA hval
  obtain ⟨v0, vs0, d0, ds0, p0, q0, hargs, rfl, rfl, h0, r0⟩ := trodAll_cons hA
  obtain ⟨v1, vs1, d1, ds1, p1, q1, hargs1, rfl, rfl, h1, r1⟩ := trodAll_cons r0
  obtain ⟨rfl, rfl, rfl⟩ := trodAll_nil r1
  obtain rfl : args = #[v0, v1] := by cases args; simp_all
  obtain ⟨rfl, rfl⟩ := trodVars_none hV
  have h0k := h0
  obtain ⟨fuel, hf⟩ := h0k
  obtain ⟨hlen, _⟩ := open_struct Try.underlying26 hf
  rw [cells_ar] at hlen
  obtain ⟨x, v, hcs, hx⟩ := open_ar fuel _ _ hlen hf
  obtain rfl : v0 = .agg (acells x v).toArray := agg_of (hval 0 26 v0 rfl rfl) hcs
  obtain ⟨g0, g1, g2, e0, e1, e2, k1, rfl, rfl, rfl, hg0, hg1, hg2⟩ := open_agg3 Try.underlying28 (by kernel_rfl) (by kernel_rfl) (hval 1 28 v1 rfl rfl) h1
  obtain ⟨y1, ey1, rfl, u1⟩ := DataW.trod_int Try.underlying2 hg0
  obtain ⟨y2, ey2, rfl, u2⟩ := DataW.trod_int Try.underlying2 hg1
  obtain ⟨y3, ey3, rfl, u3⟩ := DataW.trod_int Try.underlying2 hg2
  simp at ey1 ey2 ey3
  subst ey1 ey2 ey3
  clear hA0 hval0 hf
  simp only [List.append_nil] at hW'
  have hlt : ∀ y ∈ p0, y.block < W.heap.size := fun y hy => by simpa using hW'.lt y hy
  refine (walk x v y1 y2 y3 ⟨u1, u2, u3⟩ W hx).mono fun e W' ⟨he, hg⟩ => ?_
  subst he
  have harg0 : DataW.Trod enc Try.prog W' 0 (fun b => decide (b < W.heap.size)) true 26 (.agg (acells x v).toArray) d0 p0 :=
    Below.trod laidOutL (by kernel_rfl) (of_decide_eq_true (by kernel_rfl)) h0 hg (fun y hy => hlt y hy)
  have harg1 : DataW.Trod enc Try.prog W' 0 (fun b => decide (b < W.heap.size)) true 28 (.agg #[.int .i64 y1, .int .i64 y2, .int .i64 y3]) _ _ :=
    shut_agg3 (y0 := (.lit (.int .i64 y1), [])) (y1 := (.lit (.int .i64 y2), [])) (y2 := (.lit (.int .i64 y3), [])) Try.underlying28 (by kernel_rfl) (by kernel_rfl) ⟨1, by simp [DataW.trod, Try.underlying2, u1]⟩ ⟨1, by simp [DataW.trod, Try.underlying2, u2]⟩ ⟨1, by simp [DataW.trod, Try.underlying2, u3]⟩
  exact ⟨_, rfl, _, _, _, [], _, [], hW', (trodAll_cons_mk (shut_bool Try.underlying4 _) trodAll_mk0), (trodAll_cons_mk harg0 (trodAll_cons_mk harg1 trodAll_mk0)), rfl, hg.frame _, fun h => by cases h⟩

/-- the statement -/
theorem proved : Rows.FnExactArenaFindSaid :=
  OpenClaim.holds_of_wide 3 Try.f3 rfl rfl rfl rfl rfl rfl rfl ⟨rfl, rfl, rfl, rfl, rfl⟩ rfl rfl rfl rfl rfl (by kernel_rfl) Try.func3 (by kernel_rfl)
    (of_decide_eq_true (by kernel_rfl)) (by unfold Func.isWrapper; first | (rw [if_pos (by decide +kernel)]; kernel_rfl) | (rw [if_neg (by decide +kernel)]; exact ⟨rfl, rfl⟩))
    (fun os started H enc _ => lifted os started H enc)
#print axioms proved
end Go.Proofs.Ytohgafblffnekaa.fnExactArenaFind
