/-
  The walk of CallText of the specification, at every call. No condition.
-/
import Derived.Test.YtacfhchmoiphfaaDoorScrText
import Derived.Deep.RegionHeld3
import Derived.Lib.QuietBelow
import Derived.BigQuiet
namespace Go.Proofs.YtacfhchmoiphfaaDoor.scr
open Go.RowKit Go.Deep Go.Sort
open Go.Proofs.YtacfhchmoiphfaaDoor
open Go.Proofs.YtacfhchmoiphfaaDoor.deep (Blk putW putL)
open Go.Proofs.YtacfhchmoiphfaaDoor.call (CallD ccall)
set_option linter.unusedVariables false
set_option maxRecDepth 100000

theorem empty_of {s : ByteArray} (h : s.size = 0) : s.toList.isEmpty = true := by
  rw [ByteArray.toList_eq]
  obtain ⟨⟨l⟩⟩ := s
  have : l = [] := List.eq_nil_of_length_eq_zero h
  subst this
  rfl
theorem full_of {s : ByteArray} (h : ¬ s.size = 0) : s.toList.isEmpty = false := by
  rw [ByteArray.toList_eq]
  obtain ⟨⟨l⟩⟩ := s
  cases l with
  | nil => exact absurd rfl h
  | cons a l => rfl
theorem callT_off {c : CallD} (h : (callB c && plainB c) = false) : callT c = ⟨#[]⟩ := by simp [callT, h]
theorem callT_on {c : CallD} (h : callB c = true) (h2 : plainB c = true) : callT c = (textTo c (headT c) (takesB c.q1) (takesB c.q1).size).getD ⟨#[]⟩ := by simp [callT, h, h2]
theorem getD_of {a : Option ByteArray} {t s : ByteArray} (h : a = some t) (e : s = a.getD ⟨#[]⟩) : Value.string s = .string t := by rw [e, h]; rfl
theorem getD_no {a : Option ByteArray} {s : ByteArray} (h : a = none) (e : s = a.getD ⟨#[]⟩) : Value.string s = .string ⟨#[]⟩ := by rw [e, h]; rfl

/-- a call that is not right -/
theorem callt_ill (c : CallD) (hc : callB c = false) (w : World) : Calls Tryd.prog 11 #[.agg (ccall c).toArray] w fun e w' => e = .returned (.string ⟨#[]⟩) ∧ Below w.heap.size w w' := by
  have HCR : Hid (∀ W, Calls Tryd.prog 30 #[.agg (ccall c).toArray] W fun e w' => e = .returned (.bool false) ∧ Below W.heap.size W w') := fun W => by
    have := call.spec_call c.q0 c.q1 c.q2 c.q3 c.q4 c.q5 c.q6 c.q7 c.q8 W
    unfold callB at hc
    rw [hc] at this
    exact this
  clear hc
  obtain ⟨q0, q1, q2, q3, q4, q5, q6, q7, q8⟩ := c
  simp only [ccall] at *
  obtain ⟨V, hV⟩ : ∃ V, V = w.alloc (.cells #[.int .i64 q0, .int .i64 q1, .int .i64 q2, .int .i64 q3, .int .i64 q4, .int .i64 q5, .int .i64 q6, .int .i64 q7, .int .i64 q8] 26) := ⟨_, rfl⟩
  have HX : Hid (Blk V w.heap.size 26 [.int .i64 q0, .int .i64 q1, .int .i64 q2, .int .i64 q3, .int .i64 q4, .int .i64 q5, .int .i64 q6, .int .i64 q7, .int .i64 q8]) := by rw [hV]; exact deep.blk_new w _ _
  have HB : Hid (Below w.heap.size w V) := by rw [hV]; exact below_one w _
  have e0 : V.cell? ⟨w.heap.size, 0, none⟩ = some (.int .i64 q0) := HX.out.cell 0
  have ke0 := cell_regrown e0
  have e1 : V.cell? ⟨w.heap.size, 1, none⟩ = some (.int .i64 q1) := HX.out.cell 1
  have ke1 := cell_regrown e1
  have e2 : V.cell? ⟨w.heap.size, 2, none⟩ = some (.int .i64 q2) := HX.out.cell 2
  have ke2 := cell_regrown e2
  have e3 : V.cell? ⟨w.heap.size, 3, none⟩ = some (.int .i64 q3) := HX.out.cell 3
  have ke3 := cell_regrown e3
  have e4 : V.cell? ⟨w.heap.size, 4, none⟩ = some (.int .i64 q4) := HX.out.cell 4
  have ke4 := cell_regrown e4
  have e5 : V.cell? ⟨w.heap.size, 5, none⟩ = some (.int .i64 q5) := HX.out.cell 5
  have ke5 := cell_regrown e5
  have e6 : V.cell? ⟨w.heap.size, 6, none⟩ = some (.int .i64 q6) := HX.out.cell 6
  have ke6 := cell_regrown e6
  have e7 : V.cell? ⟨w.heap.size, 7, none⟩ = some (.int .i64 q7) := HX.out.cell 7
  have ke7 := cell_regrown e7
  have e8 : V.cell? ⟨w.heap.size, 8, none⟩ = some (.int .i64 q8) := HX.out.cell 8
  have ke8 := cell_regrown e8
  have cR : ∀ d os, _ := fun d os => Calls.regrown_of (w := V) (d := d) (os := os) (HCR.out _)
  go_enter Tryd.func11, Tryd.ntmps11
  go_wp2_with fail
  rw [← hV]
  clear hV
  refine wp_region_quiet_below (by kernel_rfl) (by kernel_rfl) ?_
  repeat (go_big_quiet_step (first | (go_at_call 30; exact cR _ _)))
  refine wpQuiet_nil ?_
  intro _ hw'
  obtain ⟨⟨dq, osq⟩, hw''⟩ := hw'
  subst hw''
  have HB2 : Hid (Below w.heap.size w (grow (redrawn V dq) osq)) := HB.out.trans ((below_regrown V dq osq).mono HB.out.size)
  go_wp2_with fail
  go_ret
  exact ⟨rfl, HB2.out⟩

set_option maxHeartbeats 4000000 in
/-- a call that has what its word does not take -/
theorem callt_odd (c : CallD) (hc : callB c = true) (hp : plainB c = false) (w : World) : Calls Tryd.prog 11 #[.agg (ccall c).toArray] w fun e w' => e = .returned (.string ⟨#[]⟩) ∧ Below w.heap.size w w' := by
  have HCR : Hid (∀ W, Calls Tryd.prog 30 #[.agg (ccall c).toArray] W fun e w' => e = .returned (.bool true) ∧ Below W.heap.size W w') := fun W => by
    have := call.spec_call c.q0 c.q1 c.q2 c.q3 c.q4 c.q5 c.q6 c.q7 c.q8 W
    unfold callB at hc
    rw [hc] at this
    exact this
  have HON : Hid (∀ W, Calls Tryd.prog 31 #[.agg (ccall c).toArray] W fun e w' => e = .returned (.agg (ccall (onlyC c)).toArray) ∧ Below W.heap.size W w') := fun W => spec_only c W
  have hdf := differ (onlyC c) c hp
  generalize onlyC c = d at *
  clear hc hp
  obtain ⟨q0, q1, q2, q3, q4, q5, q6, q7, q8⟩ := c
  obtain ⟨d0, d1, d2, d3, d4, d5, d6, d7, d8⟩ := d
  simp only [ccall] at *
  obtain ⟨V, hV⟩ : ∃ V, V = w.alloc (.cells #[.int .i64 q0, .int .i64 q1, .int .i64 q2, .int .i64 q3, .int .i64 q4, .int .i64 q5, .int .i64 q6, .int .i64 q7, .int .i64 q8] 26) := ⟨_, rfl⟩
  have HX : Hid (Blk V w.heap.size 26 [.int .i64 q0, .int .i64 q1, .int .i64 q2, .int .i64 q3, .int .i64 q4, .int .i64 q5, .int .i64 q6, .int .i64 q7, .int .i64 q8]) := by rw [hV]; exact deep.blk_new w _ _
  have HB : Hid (Below w.heap.size w V) := by rw [hV]; exact below_one w _
  have e0 : V.cell? ⟨w.heap.size, 0, none⟩ = some (.int .i64 q0) := HX.out.cell 0
  have ke0 := cell_regrown e0
  have e1 : V.cell? ⟨w.heap.size, 1, none⟩ = some (.int .i64 q1) := HX.out.cell 1
  have ke1 := cell_regrown e1
  have e2 : V.cell? ⟨w.heap.size, 2, none⟩ = some (.int .i64 q2) := HX.out.cell 2
  have ke2 := cell_regrown e2
  have e3 : V.cell? ⟨w.heap.size, 3, none⟩ = some (.int .i64 q3) := HX.out.cell 3
  have ke3 := cell_regrown e3
  have e4 : V.cell? ⟨w.heap.size, 4, none⟩ = some (.int .i64 q4) := HX.out.cell 4
  have ke4 := cell_regrown e4
  have e5 : V.cell? ⟨w.heap.size, 5, none⟩ = some (.int .i64 q5) := HX.out.cell 5
  have ke5 := cell_regrown e5
  have e6 : V.cell? ⟨w.heap.size, 6, none⟩ = some (.int .i64 q6) := HX.out.cell 6
  have ke6 := cell_regrown e6
  have e7 : V.cell? ⟨w.heap.size, 7, none⟩ = some (.int .i64 q7) := HX.out.cell 7
  have ke7 := cell_regrown e7
  have e8 : V.cell? ⟨w.heap.size, 8, none⟩ = some (.int .i64 q8) := HX.out.cell 8
  have ke8 := cell_regrown e8
  have cR : ∀ d os, _ := fun d os => Calls.regrown_of (w := V) (d := d) (os := os) (HCR.out _)
  have cO : ∀ d os, _ := fun d os => Calls.regrown_of (w := V) (d := d) (os := os) (HON.out _)
  rcases hdf with h0 | ⟨h0, h1⟩ | ⟨h0, h1, h2⟩ | ⟨h0, h1, h2, h3⟩ | ⟨h0, h1, h2, h3, h4⟩ | ⟨h0, h1, h2, h3, h4, h5⟩ | ⟨h0, h1, h2, h3, h4, h5, h6⟩ | ⟨h0, h1, h2, h3, h4, h5, h6, h7⟩ | ⟨h0, h1, h2, h3, h4, h5, h6, h7, h8⟩
  all_goals (
    go_enter Tryd.func11, Tryd.ntmps11
    go_wp2_with fail
    rw [← hV]
    clear hV
    refine wp_region_quiet_below (by kernel_rfl) (by kernel_rfl) ?_
    repeat (go_big_quiet_step (first | (go_at_call 30; exact cR _ _) | (go_at_call 31; exact cO _ _)))
    refine wpQuiet_nil ?_
    intro _ hw'
    obtain ⟨⟨dq, osq⟩, hw''⟩ := hw'
    subst hw''
    have HB2 : Hid (Below w.heap.size w (grow (redrawn V dq) osq)) := HB.out.trans ((below_regrown V dq osq).mono HB.out.size)
    go_wp2_with fail
    go_ret
    exact ⟨rfl, HB2.out⟩)

set_option maxHeartbeats 4000000 in
/-- a call that is right, and has nothing but what its word takes -/
theorem callt_on (c : CallD) (hc : callB c = true) (hp : plainB c = true) (w : World) : Calls Tryd.prog 11 #[.agg (ccall c).toArray] w fun e w' => e = .returned (.string (callT c)) ∧ Below w.heap.size w w' := by
  have HCR : Hid (∀ W, Calls Tryd.prog 30 #[.agg (ccall c).toArray] W fun e w' => e = .returned (.bool true) ∧ Below W.heap.size W w') := fun W => by
    have := call.spec_call c.q0 c.q1 c.q2 c.q3 c.q4 c.q5 c.q6 c.q7 c.q8 W
    unfold callB at hc
    rw [hc] at this
    exact this
  have hs := callB_small hc
  have HON : Hid (∀ W, Calls Tryd.prog 31 #[.agg (ccall c).toArray] W fun e w' => e = .returned (.agg (ccall c).toArray) ∧ Below W.heap.size W w') := fun W => by have := spec_only c W; rwa [same_eq hp] at this
  have HN : Hid (∀ W, Calls Tryd.prog 32 #[.int .i64 c.q1] W fun e w' => e = .returned (.tuple #[.string (nameB c.q1), .string (takesB c.q1)]) ∧ w' = W) := fun W => spec_name c.q1 W
  have HLT : Hid (∀ W, Calls Tryd.prog 33 #[.int .i64 c.q0] W fun e w' => e = .returned (.string (ltext.textS c.q0)) ∧ w' = W) := fun W => ltext.spec_text c.q0 W
  have HAR : Hid (∀ (a : Int) W, 0 ≤ a → a < 256 → Calls Tryd.prog 34 #[.agg (ccall c).toArray, .int .u8 a] W fun e w' => e = .returned (.string (argT c a)) ∧ Below W.heap.size W w') := fun a W h0 h1 => spec_arg c hs a h0 h1 W
  have HAZ : Hid (∀ a, (argT c a).size ≤ 26) := fun a => arg_size c hs a
  have HON2 : Hid (callT c = (textTo c (headT c) (takesB c.q1) (takesB c.q1).size).getD ⟨#[]⟩) := callT_on hc hp
  have HST : Hid (∀ (t : ByteArray) j (h : j < (takesB c.q1).size), textTo c (headT c) (takesB c.q1) j = some t → textTo c (headT c) (takesB c.q1) (j + 1) = if (argT c ((takesB c.q1)[j].toNat : Int)).size = 0 then none else some (t ++ blank ++ argT c ((takesB c.q1)[j].toNat : Int))) := fun t j h ht => text_step h ht
  have HNO : Hid (∀ j d, textTo c (headT c) (takesB c.q1) j = none → textTo c (headT c) (takesB c.q1) (j + d) = none) := fun j d h => text_none h d
  have H0 : Hid (textTo c (headT c) (takesB c.q1) 0 = some (ltext.textS c.q0 ++ blank ++ nameB c.q1)) := rfl
  have hz1 := takes_size c.q1
  have hz2 := name_size c.q1
  have hz3 := text_size c.q0
  generalize callT c = R at *
  generalize textTo c (headT c) = T at *
  generalize argT c = A at *
  generalize takesB c.q1 = g at *
  generalize nameB c.q1 = nm at *
  generalize ltext.textS c.q0 = lt at *
  unfold blank at *
  clear hs hc hp
  obtain ⟨q0, q1, q2, q3, q4, q5, q6, q7, q8⟩ := c
  simp only [ccall] at *
  obtain ⟨V, hV⟩ : ∃ V, V = w.alloc (.cells #[.int .i64 q0, .int .i64 q1, .int .i64 q2, .int .i64 q3, .int .i64 q4, .int .i64 q5, .int .i64 q6, .int .i64 q7, .int .i64 q8] 26) := ⟨_, rfl⟩
  have HX : Hid (Blk V w.heap.size 26 [.int .i64 q0, .int .i64 q1, .int .i64 q2, .int .i64 q3, .int .i64 q4, .int .i64 q5, .int .i64 q6, .int .i64 q7, .int .i64 q8]) := by rw [hV]; exact deep.blk_new w _ _
  have HB : Hid (Below w.heap.size w V) := by rw [hV]; exact below_one w _
  have e0 : V.cell? ⟨w.heap.size, 0, none⟩ = some (.int .i64 q0) := HX.out.cell 0
  have ke0 := cell_regrown e0
  have e1 : V.cell? ⟨w.heap.size, 1, none⟩ = some (.int .i64 q1) := HX.out.cell 1
  have ke1 := cell_regrown e1
  have e2 : V.cell? ⟨w.heap.size, 2, none⟩ = some (.int .i64 q2) := HX.out.cell 2
  have ke2 := cell_regrown e2
  have e3 : V.cell? ⟨w.heap.size, 3, none⟩ = some (.int .i64 q3) := HX.out.cell 3
  have ke3 := cell_regrown e3
  have e4 : V.cell? ⟨w.heap.size, 4, none⟩ = some (.int .i64 q4) := HX.out.cell 4
  have ke4 := cell_regrown e4
  have e5 : V.cell? ⟨w.heap.size, 5, none⟩ = some (.int .i64 q5) := HX.out.cell 5
  have ke5 := cell_regrown e5
  have e6 : V.cell? ⟨w.heap.size, 6, none⟩ = some (.int .i64 q6) := HX.out.cell 6
  have ke6 := cell_regrown e6
  have e7 : V.cell? ⟨w.heap.size, 7, none⟩ = some (.int .i64 q7) := HX.out.cell 7
  have ke7 := cell_regrown e7
  have e8 : V.cell? ⟨w.heap.size, 8, none⟩ = some (.int .i64 q8) := HX.out.cell 8
  have ke8 := cell_regrown e8
  have cR : ∀ d os, _ := fun d os => Calls.regrown_of (w := V) (d := d) (os := os) (HCR.out _)
  have cO : ∀ d os, _ := fun d os => Calls.regrown_of (w := V) (d := d) (os := os) (HON.out _)
  go_enter Tryd.func11, Tryd.ntmps11
  go_wp2_with fail
  rw [← hV]
  clear hV
  refine wp_region_quiet_below (by kernel_rfl) (by kernel_rfl) ?_
  repeat (go_big_quiet_step (first | (go_at_call 30; exact cR _ _) | (go_at_call 31; exact cO _ _)))
  refine wpQuiet_nil ?_
  intro _ hw'
  obtain ⟨⟨dq, osq⟩, hw''⟩ := hw'
  subst hw''
  have hb2 := below_regrown V dq osq
  have HB2 : Hid (Below w.heap.size w (grow (redrawn V dq) osq)) := HB.out.trans (hb2.mono HB.out.size)
  have HX2 : Hid (Blk (grow (redrawn V dq) osq) w.heap.size 26 [.int .i64 q0, .int .i64 q1, .int .i64 q2, .int .i64 q3, .int .i64 q4, .int .i64 q5, .int .i64 q6, .int .i64 q7, .int .i64 q8]) := HX.out.later hb2
  clear hb2 cR cO HCR HON HX HB e0 ke0 e1 ke1 e2 ke2 e3 ke3 e4 ke4 e5 ke5 e6 ke6 e7 ke7 e8 ke8
  generalize grow (redrawn V dq) osq = W2 at *
  have e0 : W2.cell? ⟨w.heap.size, 0, none⟩ = some (.int .i64 q0) := HX2.out.cell 0
  have e1 : W2.cell? ⟨w.heap.size, 1, none⟩ = some (.int .i64 q1) := HX2.out.cell 1
  have e2 : W2.cell? ⟨w.heap.size, 2, none⟩ = some (.int .i64 q2) := HX2.out.cell 2
  have e3 : W2.cell? ⟨w.heap.size, 3, none⟩ = some (.int .i64 q3) := HX2.out.cell 3
  have e4 : W2.cell? ⟨w.heap.size, 4, none⟩ = some (.int .i64 q4) := HX2.out.cell 4
  have e5 : W2.cell? ⟨w.heap.size, 5, none⟩ = some (.int .i64 q5) := HX2.out.cell 5
  have e6 : W2.cell? ⟨w.heap.size, 6, none⟩ = some (.int .i64 q6) := HX2.out.cell 6
  have e7 : W2.cell? ⟨w.heap.size, 7, none⟩ = some (.int .i64 q7) := HX2.out.cell 7
  have e8 : W2.cell? ⟨w.heap.size, 8, none⟩ = some (.int .i64 q8) := HX2.out.cell 8
  go_wp2_with fail
  refine Calls.mono (HN.out _) ?_
  rintro e w3 ⟨rfl, rfl⟩
  go_wp2_with fail
  refine Calls.mono (HLT.out _) ?_
  rintro e w4 ⟨rfl, rfl⟩
  go_wp2_with fail
  go_loopw [5, 6, 7] (fun tt ti tx wr => ∃ (j : Nat) (t : ByteArray), j ≤ g.size ∧ ti = .int .i64 j ∧ tt = .string t ∧ t.size ≤ 10 + 27 * j ∧ Hid (T g j = some t) ∧ Hid (Blk wr w.heap.size 26 [.int .i64 q0, .int .i64 q1, .int .i64 q2, .int .i64 q3, .int .i64 q4, .int .i64 q5, .int .i64 q6, .int .i64 q7, .int .i64 q8]) ∧ Hid (Below w.heap.size w wr)) (fun _ ti _ _ => g.size - (intOf ti).toNat)
  case atStart => exact ⟨0, _, by omega, rfl, rfl, by simp only [ByteArray.size_append]; show _ ≤ _; have : (ByteArray.mk #[32]).size = 1 := rfl; omega, H0.out, HX2.out, HB2.out⟩
  case round =>
    obtain ⟨j, t, hj, rfl, rfl, hz, HT, XX, XB⟩ := hrel
    clear e0 e1 e2 e3 e4 e5 e6 e7 e8 HX2 HB2
    by_cases hlt : j < g.size
    · have HSJ := HST.out t j hlt HT.out
      have hax := HAZ.out (g[j].toNat : Int)
      have HAX : Hid (∀ W, Calls Tryd.prog 34 #[.agg #[.int .i64 q0, .int .i64 q1, .int .i64 q2, .int .i64 q3, .int .i64 q4, .int .i64 q5, .int .i64 q6, .int .i64 q7, .int .i64 q8], .int .u8 (g[j].toNat : Int)] W fun e w' => e = .returned (.string (A (g[j].toNat : Int))) ∧ Below W.heap.size W w') := fun W => HAR.out _ W (by omega) (by have := g[j].toNat_lt; omega)
      generalize A (g[j].toNat : Int) = x at *
      have cA : ∀ d os, _ := fun d os => Calls.regrown_of (w := wr) (d := d) (os := os) (HAX.out _)
      have e0 : wr.cell? ⟨w.heap.size, 0, none⟩ = some (.int .i64 q0) := XX.out.cell 0
      have ke0 := cell_regrown e0
      have e1 : wr.cell? ⟨w.heap.size, 1, none⟩ = some (.int .i64 q1) := XX.out.cell 1
      have ke1 := cell_regrown e1
      have e2 : wr.cell? ⟨w.heap.size, 2, none⟩ = some (.int .i64 q2) := XX.out.cell 2
      have ke2 := cell_regrown e2
      have e3 : wr.cell? ⟨w.heap.size, 3, none⟩ = some (.int .i64 q3) := XX.out.cell 3
      have ke3 := cell_regrown e3
      have e4 : wr.cell? ⟨w.heap.size, 4, none⟩ = some (.int .i64 q4) := XX.out.cell 4
      have ke4 := cell_regrown e4
      have e5 : wr.cell? ⟨w.heap.size, 5, none⟩ = some (.int .i64 q5) := XX.out.cell 5
      have ke5 := cell_regrown e5
      have e6 : wr.cell? ⟨w.heap.size, 6, none⟩ = some (.int .i64 q6) := XX.out.cell 6
      have ke6 := cell_regrown e6
      have e7 : wr.cell? ⟨w.heap.size, 7, none⟩ = some (.int .i64 q7) := XX.out.cell 7
      have ke7 := cell_regrown e7
      have e8 : wr.cell? ⟨w.heap.size, 8, none⟩ = some (.int .i64 q8) := XX.out.cell 8
      have ke8 := cell_regrown e8
      by_cases hx0 : x.size = 0
      · rw [if_pos hx0] at HSJ
        have hem := empty_of hx0
        have HRR : Hid (Value.string R = .string ⟨#[]⟩) := by
          have h1 := HNO.out (j + 1) (g.size - (j + 1)) HSJ
          rw [show j + 1 + (g.size - (j + 1)) = g.size by omega] at h1
          exact getD_no h1 HON2.out
        clear HSJ
        go_wp2_with fail
        refine wp_region_quiet_below (by kernel_rfl) (by kernel_rfl) ?_
        repeat (go_big_quiet_step (first | (go_at_call 34; exact cA _ _)))
        refine wpQuiet_nil ?_
        intro _ hw'
        obtain ⟨⟨dq, osq⟩, hw''⟩ := hw'
        subst hw''
        have HB3 : Hid (Below w.heap.size w (grow (redrawn wr dq) osq)) := XB.out.trans ((below_regrown wr dq osq).mono XB.out.size)
        go_wp2_with fail
        go_ret
        exact ⟨ret_of HRR.out, HB3.out⟩
      · rw [if_neg hx0] at HSJ
        have hem := full_of hx0
        have HNX : Hid (T g (j + 1) = some (t ++ ⟨#[32]⟩ ++ x)) := HSJ
        clear HSJ
        go_wp2_with fail
        refine wp_region_quiet_below (by kernel_rfl) (by kernel_rfl) ?_
        repeat (go_big_quiet_step (first | (go_at_call 34; exact cA _ _)))
        refine wpQuiet_nil ?_
        intro _ hw'
        obtain ⟨⟨dq, osq⟩, hw''⟩ := hw'
        subst hw''
        have hb3 := below_regrown wr dq osq
        have HB3 : Hid (Below w.heap.size w (grow (redrawn wr dq) osq)) := XB.out.trans (hb3.mono XB.out.size)
        have HX3 : Hid (Blk (grow (redrawn wr dq) osq) w.heap.size 26 [.int .i64 q0, .int .i64 q1, .int .i64 q2, .int .i64 q3, .int .i64 q4, .int .i64 q5, .int .i64 q6, .int .i64 q7, .int .i64 q8]) := XX.out.later hb3
        clear hb3
        go_wp2_with fail
        go_roundw
        case rel => exact ⟨j + 1, _, by omega, by go_num, rfl, by simp only [ByteArray.size_append]; have : (ByteArray.mk #[32]).size = 1 := rfl; omega, HNX.out, HX3.out, HB3.out⟩
        case measure => simp [intOf]; omega
    · obtain rfl : j = g.size := by omega
      have HRR : Hid (Value.string R = .string t) := getD_of HT.out HON2.out
      go_wp2_with fail
      go_ret
      exact ⟨ret_of HRR.out, XB.out⟩
theorem spec_callt (c : CallD) (w : World) : Calls Tryd.prog 11 #[.agg (ccall c).toArray] w fun e w' => e = .returned (.string (callT c)) ∧ Below w.heap.size w w' := by
  cases hc : callB c with
  | false =>
    rw [callT_off (by rw [hc]; rfl)]
    exact callt_ill c hc w
  | true =>
    cases hp : plainB c with
    | false =>
      rw [callT_off (by rw [hp, Bool.and_false])]
      exact callt_odd c hc hp w
    | true => exact callt_on c hc hp w
end Go.Proofs.YtacfhchmoiphfaaDoor.scr
