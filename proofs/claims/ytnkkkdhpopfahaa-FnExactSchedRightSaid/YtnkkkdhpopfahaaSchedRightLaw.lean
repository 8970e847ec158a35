/-
  The law FnExactSchedRight answers true at every Sched: SchedRight answers as the specification, and writes into no argument. Conditions: none.
-/
import Derived.Test.YtnkkkdhpopfahaaSchRK
import Derived.Test.YtnkkkdhpopfahaaSchOpen
import Derived.Deep.RegionHeld3
import Derived.OpenShut
import Derived.Carry
namespace Go.Proofs.Ytnkkkdhpopfahaa.fnExactSchedRight
open Go.ChangeShapes Go.WideShapes Go.ChangeAt Go.RowKit
open Go.Proofs.Ytnkkkdhpopfahaa
open Go.Proofs.Ytnkkkdhpopfahaa.deep
open Go.Proofs.Ytnkkkdhpopfahaa.sch
set_option linter.unusedVariables false
set_option maxRecDepth 100000

theorem own : ownKnob Try.prog.godebug = none := by kernel_rfl
theorem six {w W : World} {B X t1 t2 : Nat} {a b c d e f : Value} (h1 : Blk w B t1 [a, b, c]) (h2 : Blk w X t2 [d, e, f]) (hb : Below w.heap.size w W) :
    W.cell? ⟨B, 0, none⟩ = some a ∧ W.cell? ⟨B, 1, none⟩ = some b ∧ W.cell? ⟨B, 2, none⟩ = some c ∧ W.cell? ⟨X, 0, none⟩ = some d ∧ W.cell? ⟨X, 1, none⟩ = some e ∧ W.cell? ⟨X, 2, none⟩ = some f :=
  ⟨(h1.later hb).cell 0, (h1.later hb).cell 1, (h1.later hb).cell 2, (h2.later hb).cell 0, (h2.later hb).cell 1, (h2.later hb).cell 2⟩

set_option maxHeartbeats 4000000 in
theorem walk (x : SchedD) (vo vt : Value) (w : World) (h : SF 0 w vo vt x) :
    Calls Try.prog 3 #[.agg #[vo, .int .i64 x.now, vt]] w fun e w' => e = .returned (.bool true) ∧ Below w.heap.size w w' := by
  obtain ⟨ao, co, hvo, hmo, -⟩ := int_at h.1
  obtain ⟨at', ct, hvt, hmt, -⟩ := tk_at h.2
  unfold maxLen at hmo hmt
  obtain ⟨no, hno⟩ : ∃ n, n = x.order.length := ⟨_, rfl⟩
  obtain ⟨nt, hnt⟩ : ∃ n, n = x.tasks.length := ⟨_, rfl⟩
  rw [← hno] at hvo hmo
  rw [← hnt] at hvt hmt
  obtain ⟨nw, hnw⟩ : ∃ n, n = x.now := ⟨_, rfl⟩
  rw [← hnw]
  have HSZ : Hid (∀ W, Calls Try.prog 9 #[.agg #[vo, .int .i64 nw, vt], .int .i64 1048576] W fun e w' => e = .returned (.int .i64 (if (no : Int) + nt ≤ 1048576 then 1048576 - no - nt else -1)) ∧ Below W.heap.size W w') := fun W => by rw [hvo, hvt]; exact sz_sched ao at' no co nt ct nw (by omega) (by omega) W
  have HT : Hid ((no : Int) + nt ≤ 1048576 → ∀ W, Below w.heap.size w W → Calls Try.prog 11 #[.agg #[vo, .int .i64 nw, vt]] W (ToSched x W)) := fun hn W hW => by rw [hnw]; exact to_sched x (h.later hW) (by omega) (by omega)
  have HS : Hid (∀ l u v W, SF l W u v x → Calls Try.prog 10 #[.agg #[u, .int .i64 nw, v]] W fun e w' => e = .returned (.bool (schedB x)) ∧ Below W.heap.size W w') := fun l u v W hW => by rw [hnw]; exact spec_right x hW
  have HI : Hid (∀ l u a n W, SF l W u (.slice a n n) x → Calls Try.prog 12 #[.agg #[u, .int .i64 nw, .slice a n n]] W fun e w' => e = .returned (.bool (schedB x)) ∧ Below W.heap.size W w') := fun l u a n W hW => by rw [hnw]; exact impl_right x a n n (Nat.le_refl _) hW
  have HE : Hid (∀ W l1 l2 u1 v1 u2 v2, SF l1 W u1 v1 x → SF l2 W u2 v2 x → Calls Try.prog 13 #[.agg #[u1, .int .i64 nw, v1], .agg #[u2, .int .i64 nw, v2]] W fun e w' => e = .returned (.bool true) ∧ Below W.heap.size W w') := fun W l1 l2 u1 v1 u2 v2 h1 h2 => by rw [hnw]; exact eq_sched h1 h2
  unfold ToSched at HT
  rw [← hnw] at HT
  generalize schedB x = ans at HS HI
  clear h hno hnt hnw
  subst hvo hvt
  by_cases hn : (no : Int) + nt ≤ 1048576
  · rw [if_pos hn] at HSZ
    have HT2 : Hid _ := HT.out hn
    have hbn : (0 : Int) ≤ 1048576 - no - nt := by omega
    clear HT
    go_enter Try.func3, Try.ntmps3
    go_wp2_with fail
    refine Calls.mono (HSZ.out _) ?_
    rintro e w1 ⟨rfl, hb1⟩
    have HL1 : Hid (Blk w1 w.heap.size 25 [.slice ao no co, .int .i64 nw, .slice at' nt ct]) := (blk_new w [.slice ao no co, .int .i64 nw, .slice at' nt ct] 25).later hb1
    have HB1 : Hid (Below w.heap.size w w1) := below_tr (below_one w _) hb1
    obtain ⟨c0, c1, c2⟩ := cells3s HL1.out
    clear hb1
    go_wp2_with fail
    refine Calls.mono (HT2.out _ HB1.out) ?_
    rintro e w2 ⟨go2, no2, gt2, nt2, rfl, hr2, _, _, hb2⟩
    have HR2 : Hid (SF w1.heap.size w2 (.slice (some ⟨go2, 0, none⟩) no2 no2) (.slice (some ⟨gt2, 0, none⟩) nt2 nt2) x) := hr2
    have HL2 : Hid (Blk w2 w.heap.size 25 [.slice ao no co, .int .i64 nw, .slice at' nt ct]) := HL1.out.later hb2
    have HB2 : Hid (Below w.heap.size w w2) := below_tr HB1.out hb2
    clear hb2 hr2 HL1 HB1 c0 c1 c2
    go_wp2_with fail
    refine Calls.mono (HS.out _ _ _ _ HR2.out) ?_
    rintro e w3 ⟨rfl, hb3⟩
    have HL3 : Hid (Blk w3 w.heap.size 25 [.slice ao no co, .int .i64 nw, .slice at' nt ct]) := HL2.out.later hb3
    have HB3 : Hid (Below w.heap.size w w3) := below_tr HB2.out hb3
    obtain ⟨c0, c1, c2⟩ := cells3s HL3.out
    clear hb3 HL2 HB2 HR2
    go_wp2_with fail
    refine Calls.mono (HT2.out _ HB3.out) ?_
    rintro e w4 ⟨go4, no4, gt4, nt4, rfl, hr4, _, _, hb4⟩
    have HR4 : Hid (SF w3.heap.size w4 (.slice (some ⟨go4, 0, none⟩) no4 no4) (.slice (some ⟨gt4, 0, none⟩) nt4 nt4) x) := hr4
    have HL4 : Hid (Blk w4 w.heap.size 25 [.slice ao no co, .int .i64 nw, .slice at' nt ct]) := HL3.out.later hb4
    have HB4 : Hid (Below w.heap.size w w4) := below_tr HB3.out hb4
    clear hb4 hr4 HL3 HB3 c0 c1 c2
    have HX5 : Hid (Blk (w4.alloc (.cells #[.slice (some ⟨go4, 0, none⟩) no4 no4, .int .i64 nw, .slice (some ⟨gt4, 0, none⟩) nt4 nt4] 30)) w4.heap.size 30 [.slice (some ⟨go4, 0, none⟩) no4 no4, .int .i64 nw, .slice (some ⟨gt4, 0, none⟩) nt4 nt4]) := blk_new w4 _ _
    have HR5 : Hid (SF w3.heap.size (w4.alloc (.cells #[.slice (some ⟨go4, 0, none⟩) no4 no4, .int .i64 nw, .slice (some ⟨gt4, 0, none⟩) nt4 nt4] 30)) (.slice (some ⟨go4, 0, none⟩) no4 no4) (.slice (some ⟨gt4, 0, none⟩) nt4 nt4) x) := HR4.out.later (below_one _ _)
    have HL5 : Hid (Blk (w4.alloc (.cells #[.slice (some ⟨go4, 0, none⟩) no4 no4, .int .i64 nw, .slice (some ⟨gt4, 0, none⟩) nt4 nt4] 30)) w.heap.size 25 [.slice ao no co, .int .i64 nw, .slice at' nt ct]) := HL4.out.later (below_one _ _)
    have HB5 : Hid (Below w.heap.size w (w4.alloc (.cells #[.slice (some ⟨go4, 0, none⟩) no4 no4, .int .i64 nw, .slice (some ⟨gt4, 0, none⟩) nt4 nt4] 30))) := below_tr HB4.out (below_one _ _)
    go_wp2_with fail
    refine Calls.mono (HI.out _ _ _ _ _ HR5.out) ?_
    rintro e w6 ⟨rfl, hb6⟩
    have HX6 : Hid (Blk w6 w4.heap.size 30 [.slice (some ⟨go4, 0, none⟩) no4 no4, .int .i64 nw, .slice (some ⟨gt4, 0, none⟩) nt4 nt4]) := HX5.out.later hb6
    have HR6 : Hid (SF w3.heap.size w6 (.slice (some ⟨go4, 0, none⟩) no4 no4) (.slice (some ⟨gt4, 0, none⟩) nt4 nt4) x) := HR5.out.later hb6
    have HL6 : Hid (Blk w6 w.heap.size 25 [.slice ao no co, .int .i64 nw, .slice at' nt ct]) := HL5.out.later hb6
    have HB6 : Hid (Below w.heap.size w w6) := below_tr HB5.out hb6
    clear hb6 HX5 HR5 HL5 HB5 HL4 HB4 HR4
    have hM0 := six HL6.out HX6.out (Below.refl _ _)
    have hMd := six HL6.out HX6.out (Below.drew (Below.refl _ _))
    cases ans <;>
    · go_wp2_with fail
      go_region_held3 (fun W => W.cell? ⟨w.heap.size, 0, none⟩ = some (.slice ao no co) ∧ W.cell? ⟨w.heap.size, 1, none⟩ = some (.int .i64 nw) ∧ W.cell? ⟨w.heap.size, 2, none⟩ = some (.slice at' nt ct) ∧ W.cell? ⟨w4.heap.size, 0, none⟩ = some (.slice (some ⟨go4, 0, none⟩) no4 no4) ∧ W.cell? ⟨w4.heap.size, 1, none⟩ = some (.int .i64 nw) ∧ W.cell? ⟨w4.heap.size, 2, none⟩ = some (.slice (some ⟨gt4, 0, none⟩) nt4 nt4))
        (with_reducible first | assumption | exact hM0 | exact hMd | exact Z7 | exact Z8)
        (first | (go_at_call 11; refine Calls.mono (HT2.out _ (Below.drew HB6.out)) ?_; rintro e w7 ⟨go7, no7, gt7, nt7, rfl, hr7, _, _, hb7⟩; have hb7' : Below w6.heap.size w6 w7 := Below.trans (Below.drew (Below.refl w6.heap.size w6)) hb7; have Z7 := six HL6.out HX6.out hb7'; have HR7b : Hid (SF w3.heap.size w7 (.slice (some ⟨go4, 0, none⟩) no4 no4) (.slice (some ⟨gt4, 0, none⟩) nt4 nt4) x) := HR6.out.later hb7'; have HR7 : Hid (SF w6.heap.size w7 (.slice (some ⟨go7, 0, none⟩) no7 no7) (.slice (some ⟨gt7, 0, none⟩) nt7 nt7) x) := hr7; have HB67 : Hid (Below w6.heap.size w6 w7) := hb7'; clear hb7 hb7' hr7) | (go_at_call 13; refine Calls.mono (HE.out _ _ _ _ _ _ _ HR7b.out HR7.out) ?_; rintro e w8 ⟨rfl, hb8⟩; have HB8 : Hid (Below w6.heap.size w6 w8) := below_tr HB67.out hb8; have Z8 := six HL6.out HX6.out HB8.out; clear hb8))
      go_wp2_with fail
      go_ret
      exact ⟨rfl, below_tr HB6.out HB8.out⟩
  · rw [if_neg hn] at HSZ
    clear HT
    go_enter Try.func3, Try.ntmps3
    go_wp2_with fail
    refine Calls.mono (HSZ.out _) ?_
    rintro e w1 ⟨rfl, hb1⟩
    have HB1 : Hid (Below w.heap.size w w1) := below_tr (below_one w _) hb1
    clear hb1
    go_wp2_with fail
    go_ret
    exact ⟨rfl, HB1.out⟩

set_option maxRecDepth 100000 in
theorem lifted (os : Os) (started : os.Started) (H : Type) (enc : TypeId × Value → H) :
    ReturnsInHanded {} Try.checked os 3 .any (Rows.fnExactSchedRightSpec.pre6 enc Try.prog Try.f3 Rows.fnExactSchedRightRow.domain false) (Rows.fnExactSchedRightSpec.post enc Try.prog Try.f3 false true false false) := by
  refine returnsInHanded_of_change (C := Try.checked) own started (by kernel_rfl) Try.func3
    (ChangeSpec.witness6 (enc := enc) (C := Try.checked) false ⟨#[], #[.agg #[.slice none 0 0, .int .i64 0, .slice none 0 0]], []⟩ 8 (by kernel_rfl) (by kernel_rfl) (by kernel_rfl) (by kernel_rfl)) ?_
  intro W base args ds gs before hval0 hW hcnd _
  have hval : ∀ (j : Nat) t v, Try.f3.params[j]? = some t → args[j]? = some v → Value.okWide Try.prog W .any base t v := hval0
  have hW' := hW
  obtain ⟨p, q, hA0, hV, rfl, hfz, hnd⟩ := hW
  have hA : DataW.TrodAll enc Try.prog W 0 (fun _ => true) true Try.f3.params.toList args.toList ds p := hA0
  rw [Try.params3] at hA hval
  obtain ⟨v0, vs0, d0, ds0, p0, q0, hargs, rfl, rfl, h0, r0⟩ := trodAll_cons hA
  obtain ⟨rfl, rfl, rfl⟩ := trodAll_nil r0
  obtain rfl : args = #[v0] := by cases args; simp_all
  obtain ⟨rfl, rfl⟩ := trodVars_none hV
  have h0k := h0
  obtain ⟨fuel, hf⟩ := h0k
  obtain ⟨hlen, _⟩ := open_struct Try.underlying25 hf
  rw [cells_sc] at hlen
  obtain ⟨x, vo, vt, hcs, hx⟩ := open_sc fuel _ _ hlen hf
  obtain rfl : v0 = .agg #[vo, .int .i64 x.now, vt] := agg_sc (hval 0 25 v0 rfl rfl) hcs
  clear hA0 hval0 hf
  simp only [List.append_nil] at hW'
  have hlt : ∀ y ∈ p0, y.block < W.heap.size := fun y hy => by simpa using hW'.lt y hy
  refine (walk x vo vt W hx).mono fun e W' ⟨he, hg⟩ => ?_
  subst he
  have harg0 : DataW.Trod enc Try.prog W' 0 (fun b => decide (b < W.heap.size)) true 25 (.agg #[vo, .int .i64 x.now, vt]) d0 p0 :=
    Below.trod laidOutS (by kernel_rfl) (of_decide_eq_true (by kernel_rfl)) h0 hg (fun y hy => hlt y hy)
  exact ⟨_, rfl, _, _, _, [], _, [], hW', (trodAll_cons_mk (shut_bool Try.underlying4 _) trodAll_mk0), (trodAll_cons_mk harg0 trodAll_mk0), rfl, hg.frame _, fun h => by cases h⟩

/-- the statement -/
theorem proved : Rows.FnExactSchedRightSaid :=
  OpenClaim.holds_of_wide 3 Try.f3 rfl rfl rfl rfl rfl rfl rfl ⟨rfl, rfl, rfl, rfl, rfl⟩ rfl rfl rfl rfl rfl (by kernel_rfl) Try.func3 (by kernel_rfl)
    (of_decide_eq_true (by kernel_rfl)) (by unfold Func.isWrapper; first | (rw [if_pos (by decide +kernel)]; kernel_rfl) | (rw [if_neg (by decide +kernel)]; exact ⟨rfl, rfl⟩))
    (fun os started H enc _ => lifted os started H enc)
#print axioms proved
end Go.Proofs.Ytnkkkdhpopfahaa.fnExactSchedRight
