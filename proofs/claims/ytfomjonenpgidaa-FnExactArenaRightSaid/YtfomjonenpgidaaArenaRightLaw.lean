/-
  The law FnExactArenaRight answers true at every arena: ArenaRight answers as the specification, and writes into no argument. Conditions: none.
-/
import Derived.Test.YtfomjonenpgidaaArenaRightI
import Derived.Test.YtfomjonenpgidaaArenaOpen
import Derived.Deep.RegionHeld3
import Derived.Carry
namespace Go.Proofs.Ytfomjonenpgidaa.fnExactArenaRight
open Go.ChangeShapes Go.WideShapes Go.ChangeAt Go.RowKit
open Go.Proofs.Ytfomjonenpgidaa
open Go.Proofs.Ytfomjonenpgidaa.deep
set_option linter.unusedVariables false

theorem own : ownKnob Try.prog.godebug = none := by kernel_rfl
theorem eight {w W : World} {B X : Nat} {lb ky ct : Int} {u v : Value} {t1 t2 : Nat} (h1 : Blk w B t1 [.int .i64 lb, .int .i64 ky, .int .i64 ct, u]) (h2 : Blk w X t2 [.int .i64 lb, .int .i64 ky, .int .i64 ct, v]) (hb : Below w.heap.size w W) :
    W.cell? ⟨B, 0, none⟩ = some (.int .i64 lb) ∧ W.cell? ⟨B, 1, none⟩ = some (.int .i64 ky) ∧ W.cell? ⟨B, 2, none⟩ = some (.int .i64 ct) ∧ W.cell? ⟨B, 3, none⟩ = some (u) ∧ W.cell? ⟨X, 0, none⟩ = some (.int .i64 lb) ∧ W.cell? ⟨X, 1, none⟩ = some (.int .i64 ky) ∧ W.cell? ⟨X, 2, none⟩ = some (.int .i64 ct) ∧ W.cell? ⟨X, 3, none⟩ = some (v) :=
  ⟨(h1.later hb).cell 0, (h1.later hb).cell 1, (h1.later hb).cell 2, (h1.later hb).cell 3, (h2.later hb).cell 0, (h2.later hb).cell 1, (h2.later hb).cell 2, (h2.later hb).cell 3⟩

set_option maxHeartbeats 4000000 in
theorem walk (x : ArenaD) (v : Value) (w : World) (h : RowE SlotE 15 0 w v x.slots) :
    Calls Try.prog 4 #[.agg (acells x v).toArray] w fun e w' => e = .returned (.bool true) ∧ Below w.heap.size w w' := by
  obtain ⟨lb, ky, ct, xs⟩ := x
  simp only at h
  obtain ⟨bk, hbk⟩ : ∃ b, b = ArenaD.bulk ⟨lb, ky, ct, xs⟩ := ⟨_, rfl⟩
  have HSZ : Hid (∀ W, Below w.heap.size w W → Calls Try.prog 11 #[.agg #[.int .i64 lb, .int .i64 ky, .int .i64 ct, v], .int .i64 1048576] W fun e w' => e = .returned (.int .i64 (if (bk : Int) ≤ 1048576 then 1048576 - bk else -1)) ∧ Below W.heap.size W w') := fun W hW => by rw [hbk]; exact sz_arena ⟨lb, ky, ct, xs⟩ (h.below slot_stays hW) 1048576 (by omega) (by omega)
  have HT : Hid ((bk : Int) ≤ 1048576 → ∀ W, Below w.heap.size w W → Calls Try.prog 13 #[.agg #[.int .i64 lb, .int .i64 ky, .int .i64 ct, v]] W (ToArena ⟨lb, ky, ct, xs⟩ W)) := fun hn W hW => to_arena ⟨lb, ky, ct, xs⟩ (h.below slot_stays hW) (by omega)
  have HS : Hid (∀ l u W, RowE SlotE 15 l W u xs → Calls Try.prog 12 #[.agg #[.int .i64 lb, .int .i64 ky, .int .i64 ct, u]] W fun e w' => e = .returned (.bool (ArenaD.right ⟨lb, ky, ct, xs⟩)) ∧ Below W.heap.size W w') := fun l u W hW => sp_right ⟨lb, ky, ct, xs⟩ hW
  have HI : Hid (∀ l u W, RowE SlotE 15 l W u xs → Calls Try.prog 14 #[.agg #[.int .i64 lb, .int .i64 ky, .int .i64 ct, u]] W fun e w' => e = .returned (.bool (ArenaD.right ⟨lb, ky, ct, xs⟩)) ∧ Below W.heap.size W w') := fun l u W hW => im_right ⟨lb, ky, ct, xs⟩ hW
  have HE : Hid (∀ W l1 l2 u1 u2, RowE SlotE 15 l1 W u1 xs → RowE SlotE 15 l2 W u2 xs → Calls Try.prog 15 #[.agg #[.int .i64 lb, .int .i64 ky, .int .i64 ct, u1], .agg #[.int .i64 lb, .int .i64 ky, .int .i64 ct, u2]] W fun e w' => e = .returned (.bool true) ∧ Below W.heap.size W w') := fun W l1 l2 u1 u2 h1 h2 => eq_arena ⟨lb, ky, ct, xs⟩ h1 h2
  generalize ArenaD.right ⟨lb, ky, ct, xs⟩ = ans at HS HI
  obtain ⟨a, c, hv, _⟩ := h.form
  simp only [acells]
  obtain ⟨L, hL⟩ : ∃ n, n = xs.length := ⟨_, rfl⟩
  rw [← hL] at hv
  clear h hL hbk
  subst hv
  by_cases hn : (bk : Int) ≤ 1048576
  · rw [if_pos hn] at HSZ
    have HT2 : Hid _ := HT.out hn
    have hbn : (0 : Int) ≤ 1048576 - bk := by omega
    go_enter Try.func4, Try.ntmps4
    go_wp2_with fail
    refine Calls.mono (HSZ.out _ (below_one w _)) ?_
    rintro e w1 ⟨rfl, hb1⟩
    have HL1 : Hid (Blk w1 w.heap.size 28 [.int .i64 lb, .int .i64 ky, .int .i64 ct, .slice a L c]) := (blk_new w [.int .i64 lb, .int .i64 ky, .int .i64 ct, .slice a L c] 28).later hb1
    have HB1 : Hid (Below w.heap.size w w1) := below_tr (below_one w _) hb1
    have c0 : w1.cell? ⟨w.heap.size, 0, none⟩ = some (.int .i64 lb) := HL1.out.cell 0
    have c1 : w1.cell? ⟨w.heap.size, 1, none⟩ = some (.int .i64 ky) := HL1.out.cell 1
    have c2 : w1.cell? ⟨w.heap.size, 2, none⟩ = some (.int .i64 ct) := HL1.out.cell 2
    have c3 : w1.cell? ⟨w.heap.size, 3, none⟩ = some (.slice a L c) := HL1.out.cell 3
    clear hb1
    go_wp2_with fail
    refine Calls.mono (HT2.out _ HB1.out) ?_
    rintro e w2 ⟨v2, rfl, hr2, hb2⟩
    have HR2 : Hid (RowE SlotE 15 w1.heap.size w2 v2 xs) := hr2
    have HL2 : Hid (Blk w2 w.heap.size 28 [.int .i64 lb, .int .i64 ky, .int .i64 ct, .slice a L c]) := HL1.out.later hb2
    have HB2 : Hid (Below w.heap.size w w2) := below_tr HB1.out hb2
    simp only [acells]
    clear hb2 hr2 HL1 HB1 c0 c1 c2 c3
    go_wp2_with fail
    refine Calls.mono (HS.out _ _ _ HR2.out) ?_
    rintro e w3 ⟨rfl, hb3⟩
    have HL3 : Hid (Blk w3 w.heap.size 28 [.int .i64 lb, .int .i64 ky, .int .i64 ct, .slice a L c]) := HL2.out.later hb3
    have HB3 : Hid (Below w.heap.size w w3) := below_tr HB2.out hb3
    have c0 : w3.cell? ⟨w.heap.size, 0, none⟩ = some (.int .i64 lb) := HL3.out.cell 0
    have c1 : w3.cell? ⟨w.heap.size, 1, none⟩ = some (.int .i64 ky) := HL3.out.cell 1
    have c2 : w3.cell? ⟨w.heap.size, 2, none⟩ = some (.int .i64 ct) := HL3.out.cell 2
    have c3 : w3.cell? ⟨w.heap.size, 3, none⟩ = some (.slice a L c) := HL3.out.cell 3
    clear hb3 HL2 HB2 HR2
    go_wp2_with fail
    refine Calls.mono (HT2.out _ HB3.out) ?_
    rintro e w4 ⟨v4, rfl, hr4, hb4⟩
    obtain ⟨a4, k4, hv4, _⟩ := hr4.form
    have HR4 : Hid (RowE SlotE 15 w3.heap.size w4 v4 xs) := hr4
    have HL4 : Hid (Blk w4 w.heap.size 28 [.int .i64 lb, .int .i64 ky, .int .i64 ct, .slice a L c]) := HL3.out.later hb4
    have HB4 : Hid (Below w.heap.size w w4) := below_tr HB3.out hb4
    simp only at hv4
    obtain ⟨L4, hL4⟩ : ∃ n, n = xs.length := ⟨_, rfl⟩
    rw [← hL4] at hv4
    simp only [acells]
    clear hb4 hr4 HL3 HB3 c0 c1 c2 c3 hL4
    subst hv4
    have HX5 : Hid (Blk (w4.alloc (.cells #[.int .i64 lb, .int .i64 ky, .int .i64 ct, .slice a4 L4 k4] 34)) w4.heap.size 34 [.int .i64 lb, .int .i64 ky, .int .i64 ct, .slice a4 L4 k4]) := blk_new w4 _ _
    have HR5 : Hid (RowE SlotE 15 w3.heap.size (w4.alloc (.cells #[.int .i64 lb, .int .i64 ky, .int .i64 ct, .slice a4 L4 k4] 34)) (.slice a4 L4 k4) xs) := HR4.out.below slot_stays (below_one _ _)
    have HL5 : Hid (Blk (w4.alloc (.cells #[.int .i64 lb, .int .i64 ky, .int .i64 ct, .slice a4 L4 k4] 34)) w.heap.size 28 [.int .i64 lb, .int .i64 ky, .int .i64 ct, .slice a L c]) := HL4.out.later (below_one _ _)
    have HB5 : Hid (Below w.heap.size w (w4.alloc (.cells #[.int .i64 lb, .int .i64 ky, .int .i64 ct, .slice a4 L4 k4] 34))) := below_tr HB4.out (below_one _ _)
    go_wp2_with fail
    refine Calls.mono (HI.out _ _ _ HR5.out) ?_
    rintro e w6 ⟨rfl, hb6⟩
    have HX6 : Hid (Blk w6 w4.heap.size 34 [.int .i64 lb, .int .i64 ky, .int .i64 ct, .slice a4 L4 k4]) := HX5.out.later hb6
    have HR6 : Hid (RowE SlotE 15 w3.heap.size w6 (.slice a4 L4 k4) xs) := HR5.out.below slot_stays hb6
    have HL6 : Hid (Blk w6 w.heap.size 28 [.int .i64 lb, .int .i64 ky, .int .i64 ct, .slice a L c]) := HL5.out.later hb6
    have HB6 : Hid (Below w.heap.size w w6) := below_tr HB5.out hb6
    clear hb6 HX5 HR5 HL5 HB5 HL4 HB4 HR4
    have hM0 := eight HL6.out HX6.out (Below.refl _ _)
    have hMd := eight HL6.out HX6.out (Below.drew (Below.refl _ _))
    cases ans <;>
    · go_wp2_with fail
      go_region_held3 (fun W => W.cell? ⟨w.heap.size, 0, none⟩ = some (.int .i64 lb) ∧ W.cell? ⟨w.heap.size, 1, none⟩ = some (.int .i64 ky) ∧ W.cell? ⟨w.heap.size, 2, none⟩ = some (.int .i64 ct) ∧ W.cell? ⟨w.heap.size, 3, none⟩ = some (.slice a L c) ∧ W.cell? ⟨w4.heap.size, 0, none⟩ = some (.int .i64 lb) ∧ W.cell? ⟨w4.heap.size, 1, none⟩ = some (.int .i64 ky) ∧ W.cell? ⟨w4.heap.size, 2, none⟩ = some (.int .i64 ct) ∧ W.cell? ⟨w4.heap.size, 3, none⟩ = some (.slice a4 L4 k4))
        (with_reducible first | assumption | exact hM0 | exact hMd | exact Z7 | exact Z8)
        (first | (go_at_call 13; refine Calls.mono (HT2.out _ (Below.drew HB6.out)) ?_; rintro e w7 ⟨v7, rfl, hr7, hb7⟩; have hb7' : Below w6.heap.size w6 w7 := Below.trans (Below.drew (Below.refl w6.heap.size w6)) hb7; have Z7 := eight HL6.out HX6.out hb7'; have HR7b : Hid (RowE SlotE 15 w3.heap.size w7 (.slice a4 L4 k4) xs) := HR6.out.below slot_stays hb7'; have HR7 : Hid (RowE SlotE 15 w6.heap.size w7 v7 xs) := hr7; have HB67 : Hid (Below w6.heap.size w6 w7) := hb7'; simp only [acells]; clear hb7 hb7' hr7) | (go_at_call 15; refine Calls.mono (HE.out _ _ _ _ _ HR7b.out HR7.out) ?_; rintro e w8 ⟨rfl, hb8⟩; have HB8 : Hid (Below w6.heap.size w6 w8) := below_tr HB67.out hb8; have Z8 := eight HL6.out HX6.out HB8.out; clear hb8))
      go_wp2_with fail
      go_ret
      exact ⟨rfl, below_tr HB6.out HB8.out⟩
  · rw [if_neg hn] at HSZ
    go_enter Try.func4, Try.ntmps4
    go_wp2_with fail
    refine Calls.mono (HSZ.out _ (below_one w _)) ?_
    rintro e w1 ⟨rfl, hb1⟩
    have HB1 : Hid (Below w.heap.size w w1) := below_tr (below_one w _) hb1
    clear hb1
    go_wp2_with fail
    go_ret
    exact ⟨rfl, HB1.out⟩

theorem cells_ar : Try.prog.cellsOf 28 = 4 := by kernel_rfl
set_option maxRecDepth 100000 in
/-- a value of that struct type is its cells -/
theorem agg_of {W : World} {base : Nat} {v : Value} {cs : List Value} (h : Value.okWide Try.prog W .any base 28 v) (hc : v.cells.toList = cs) : v = .agg cs.toArray := by
  cases v with
  | agg c =>
    have e : c.toList = cs := hc
    rw [← e]
  | _ => simp [Value.okWide, Try.underlying28] at h

set_option maxRecDepth 100000 in
theorem lifted (os : Os) (started : os.Started) (H : Type) (enc : TypeId × Value → H) :
    ReturnsInHanded {} Try.checked os 4 .any (Rows.fnExactArenaRightSpec.pre6 enc Try.prog Try.f4 Rows.fnExactArenaRightRow.domain false) (Rows.fnExactArenaRightSpec.post enc Try.prog Try.f4 false true false false) := by
  refine returnsInHanded_of_change (C := Try.checked) own started (by kernel_rfl) Try.func4
    (ChangeSpec.witness6 (enc := enc) (C := Try.checked) false ⟨#[], #[.agg #[.int .i64 0, .int .i64 0, .int .i64 0, .slice none 0 0]], []⟩ 8 (by kernel_rfl) (by kernel_rfl) (by kernel_rfl) (by kernel_rfl)) ?_
  intro W base args ds gs before hval0 hW hcnd _
  have hval : ∀ (j : Nat) t v, Try.f4.params[j]? = some t → args[j]? = some v → Value.okWide Try.prog W .any base t v := hval0
  have hW' := hW
  obtain ⟨p, q, hA0, hV, rfl, hfz, hnd⟩ := hW
  have hA : DataW.TrodAll enc Try.prog W 0 (fun _ => true) true Try.f4.params.toList args.toList ds p := hA0
  rw [Try.params4] at hA hval
  obtain ⟨v0, vs0, d0, ds0, p0, q0, hargs, rfl, rfl, h0, r0⟩ := trodAll_cons hA
  obtain ⟨rfl, rfl, rfl⟩ := trodAll_nil r0
  obtain rfl : args = #[v0] := by cases args; simp_all
  obtain ⟨rfl, rfl⟩ := trodVars_none hV
  have h0k := h0
  obtain ⟨fuel, hf⟩ := h0k
  obtain ⟨hlen, _⟩ := open_struct Try.underlying28 hf
  rw [cells_ar] at hlen
  obtain ⟨x, v, hcs, hx⟩ := open_ar fuel _ _ hlen hf
  obtain rfl : v0 = .agg (acells x v).toArray := agg_of (hval 0 28 v0 rfl rfl) hcs
  clear hA0 hval0 hf
  simp only [List.append_nil] at hW'
  have hlt : ∀ y ∈ p0, y.block < W.heap.size := fun y hy => by simpa using hW'.lt y hy
  refine (walk x v W hx).mono fun e W' ⟨he, hg⟩ => ?_
  subst he
  have harg0 : DataW.Trod enc Try.prog W' 0 (fun b => decide (b < W.heap.size)) true 28 (.agg (acells x v).toArray) d0 p0 :=
    Below.trod laidOutL (by kernel_rfl) (of_decide_eq_true (by kernel_rfl)) h0 hg (fun y hy => hlt y hy)
  exact ⟨_, rfl, _, _, _, [], _, [], hW', (trodAll_cons_mk (shut_bool Try.underlying4 _) trodAll_mk0), (trodAll_cons_mk harg0 trodAll_mk0), rfl, hg.frame _, fun h => by cases h⟩

/-- the statement -/
theorem proved : Rows.FnExactArenaRightSaid :=
  OpenClaim.holds_of_wide 4 Try.f4 rfl rfl rfl rfl rfl rfl rfl ⟨rfl, rfl, rfl, rfl, rfl⟩ rfl rfl rfl rfl rfl (by kernel_rfl) Try.func4 (by kernel_rfl)
    (of_decide_eq_true (by kernel_rfl)) (by unfold Func.isWrapper; first | (rw [if_pos (by decide +kernel)]; kernel_rfl) | (rw [if_neg (by decide +kernel)]; exact ⟨rfl, rfl⟩))
    (fun os started H enc _ => lifted os started H enc)
#print axioms proved
end Go.Proofs.Ytfomjonenpgidaa.fnExactArenaRight
