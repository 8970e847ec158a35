/-
  The program's ReplyText, at every call and every reply. Conditions: the numbers are numbers of 64 bits; the library's table of powers reads as its text lays it.
-/
import Derived.Test.YtlojigfhbfemfaaDoorScrReply
import Derived.Test.YtlojigfhbfemfaaDoorScrPow
namespace Go.Proofs.YtlojigfhbfemfaaDoor.scr
open Go.RowKit Go.Deep Go.Sort
open Go.Proofs.YtlojigfhbfemfaaDoor
open Go.Proofs.YtlojigfhbfemfaaDoor.deep (Blk putW putL)
open Go.Proofs.YtlojigfhbfemfaaDoor.call (CallD ccall)
set_option linter.unusedVariables false
set_option maxRecDepth 100000

def hdV (a b c : Int) : Value := .iface 47 (.agg #[.int .i64 a, .int .i64 b, .int .i64 c])
def nmV (a : Int) : Value := .iface 2 (.int .i64 a)
/-- what a reply has to say -/
def ansV (q1 r1 r2 r3 r4 hn : Int) : Value := if q1 = 1 then hdV r2 r3 r4 else if numW q1 then nmV r1 else if q1 = 4 then nmV hn else .nilIface
theorem h_as_h (v : Value) (W : World) : (Instr.typeAssert (.iface 47 v) 20 47 true).run Tryd.prog W = .ok (.tuple #[v, .bool true]) W := by kernel_rfl
theorem n_as_h (v : Value) (W : World) : (Instr.typeAssert (.iface 2 v) 20 47 true).run Tryd.prog W = .ok (.tuple #[.agg #[.int .i64 0, .int .i64 0, .int .i64 0], .bool false]) W := by kernel_rfl
theorem n_as_n (v : Value) (W : World) : (Instr.typeAssert (.iface 2 v) 20 2 true).run Tryd.prog W = .ok (.tuple #[v, .bool true]) W := by kernel_rfl
theorem nil_as_h (W : World) : (Instr.typeAssert .nilIface 20 47 true).run Tryd.prog W = .ok (.tuple #[.agg #[.int .i64 0, .int .i64 0, .int .i64 0], .bool false]) W := by kernel_rfl
theorem nil_as_n (W : World) : (Instr.typeAssert .nilIface 20 2 true).run Tryd.prog W = .ok (.tuple #[.int .i64 0, .bool false]) W := by kernel_rfl
theorem ret_val {a b : Value} (h : b = a) : Ending.returned a = Ending.returned b := by rw [h]

set_option maxHeartbeats 4000000 in
theorem impl_answer (q0 q1 q2 q3 q4 q5 q6 q7 q8 r0 r1 r2 r3 r4 : Int) (ha : Option Addr) (hn hc : Nat) (hh : (hn : Int) ≤ 9223372036854775807) (w : World) :
    Calls Tryd.prog 60 #[.agg #[.int .i64 q0, .int .i64 q1, .int .i64 q2, .int .i64 q3, .int .i64 q4, .int .i64 q5, .int .i64 q6, .int .i64 q7, .int .i64 q8], .agg #[.int .i64 r0, .int .i64 r1, .int .i64 r2, .int .i64 r3, .int .i64 r4, .slice ha hn hc]] w fun e w' => e = .returned (ansV q1 r1 r2 r3 r4 hn) ∧ Below w.heap.size w w' := by
  have HB : Hid (Below w.heap.size w ((w.alloc (.cells #[.int .i64 q0, .int .i64 q1, .int .i64 q2, .int .i64 q3, .int .i64 q4, .int .i64 q5, .int .i64 q6, .int .i64 q7, .int .i64 q8] 32)).alloc (.cells #[.int .i64 r0, .int .i64 r1, .int .i64 r2, .int .i64 r3, .int .i64 r4, .slice ha hn hc] 50))) := deep.below2 w _ _
  by_cases e1 : q1 = 1
  · subst e1
    have er : ansV 1 r1 r2 r3 r4 hn = hdV r2 r3 r4 := by simp [ansV]
    rw [er]
    unfold hdV
    clear er
    go_enter Tryd.func60, Tryd.ntmps60
    go_wp2
    go_ret
    exact ⟨rfl, HB.out⟩
  have g1 : (q1 == 1) = false := by simp; exact e1
  by_cases e3 : q1 = 3
  · subst e3
    have er : ansV 3 r1 r2 r3 r4 hn = nmV r1 := by simp [ansV, numW]
    rw [er]
    unfold nmV
    clear er g1 e1
    go_enter Tryd.func60, Tryd.ntmps60
    go_wp2
    go_ret
    exact ⟨rfl, HB.out⟩
  have g3 : (q1 == 3) = false := by simp; exact e3
  by_cases e5 : q1 = 5
  · subst e5
    have er : ansV 5 r1 r2 r3 r4 hn = nmV r1 := by simp [ansV, numW]
    rw [er]
    unfold nmV
    clear er g1 e1 g3 e3
    go_enter Tryd.func60, Tryd.ntmps60
    go_wp2
    go_ret
    exact ⟨rfl, HB.out⟩
  have g5 : (q1 == 5) = false := by simp; exact e5
  by_cases e6 : q1 = 6
  · subst e6
    have er : ansV 6 r1 r2 r3 r4 hn = nmV r1 := by simp [ansV, numW]
    rw [er]
    unfold nmV
    clear er g1 e1 g3 e3 g5 e5
    go_enter Tryd.func60, Tryd.ntmps60
    go_wp2
    go_ret
    exact ⟨rfl, HB.out⟩
  have g6 : (q1 == 6) = false := by simp; exact e6
  by_cases e11 : q1 = 11
  · subst e11
    have er : ansV 11 r1 r2 r3 r4 hn = nmV r1 := by simp [ansV, numW]
    rw [er]
    unfold nmV
    clear er g1 e1 g3 e3 g5 e5 g6 e6
    go_enter Tryd.func60, Tryd.ntmps60
    go_wp2
    go_ret
    exact ⟨rfl, HB.out⟩
  have g11 : (q1 == 11) = false := by simp; exact e11
  by_cases e4 : q1 = 4
  · subst e4
    have er : ansV 4 r1 r2 r3 r4 hn = nmV hn := by simp [ansV, numW]
    rw [er]
    unfold nmV
    clear er g1 e1 g3 e3 g5 e5 g6 e6 g11 e11
    go_enter Tryd.func60, Tryd.ntmps60
    go_wp2
    go_ret
    exact ⟨rfl, HB.out⟩
  have g4 : (q1 == 4) = false := by simp; exact e4
  have er : ansV q1 r1 r2 r3 r4 hn = .nilIface := by simp [ansV, numW, e1, e4, g3, g5, g6, g11]
  rw [er]
  clear er e1 e3 e5 e6 e11 e4
  go_enter Tryd.func60, Tryd.ntmps60
  go_wp2
  go_ret
  exact ⟨rfl, HB.out⟩
/-- what is told of a reply that is OK -/
def okT (c : CallD) (n many told : Int) : ByteArray :=
  if c.q1 = 1 then refT c.q0 told else if numW c.q1 then decB n else if c.q1 = 4 then decB many else ⟨#[111, 107]⟩

set_option maxHeartbeats 4000000 in
theorem impl_antext (q0 q1 q2 q3 q4 q5 q6 q7 q8 r0 r1 r2 r3 r4 told : Int) (ha : Option Addr) (hn hc : Nat) (hh : (hn : Int) ≤ 9223372036854775807) (h1 : I64 r1) (w : World) (hp : Pow w) :
    Calls Tryd.prog 41 #[.agg #[.int .i64 q0, .int .i64 q1, .int .i64 q2, .int .i64 q3, .int .i64 q4, .int .i64 q5, .int .i64 q6, .int .i64 q7, .int .i64 q8], .agg #[.int .i64 r0, .int .i64 r1, .int .i64 r2, .int .i64 r3, .int .i64 r4, .slice ha hn hc], .int .i64 told] w fun e w' => e = .returned (.string (okT ⟨q0, q1, q2, q3, q4, q5, q6, q7, q8⟩ r1 hn told)) ∧ Below w.heap.size w w' := by
  have HA : Hid (∀ W, Calls Tryd.prog 60 #[.agg #[.int .i64 q0, .int .i64 q1, .int .i64 q2, .int .i64 q3, .int .i64 q4, .int .i64 q5, .int .i64 q6, .int .i64 q7, .int .i64 q8], .agg #[.int .i64 r0, .int .i64 r1, .int .i64 r2, .int .i64 r3, .int .i64 r4, .slice ha hn hc]] W fun e w' => e = .returned (ansV q1 r1 r2 r3 r4 hn) ∧ Below W.heap.size W w') := fun W => impl_answer q0 q1 q2 q3 q4 q5 q6 q7 q8 r0 r1 r2 r3 r4 ha hn hc hh W
  have HR : Hid (∀ l n W, Pow W → Calls Tryd.prog 9 #[.agg #[.int .i64 l, .int .i64 n]] W fun e w' => e = .returned (.string (refT l n)) ∧ Below W.heap.size W w') := fun l n W h => impl_reft l n W h
  have HD : Hid (∀ n W, I64 n → Pow W → Calls Tryd.prog 26 #[.int .i64 n] W fun e w' => e = .returned (.string (decB n)) ∧ Below W.heap.size W w') := fun n W h k => impl_dec n h.1 h.2 W k
  have I1 : Hid (I64 r1) := h1
  have I2 : Hid (I64 (hn : Int)) := by show I64 _; unfold I64; omega
  have HP : Hid (Pow w) := hp
  have f1 := h_as_h
  have f2 := n_as_h
  have f3 := n_as_n
  have f4 := nil_as_h
  have f5 := nil_as_n
  clear h1 hp
  have HB : Hid (Below w.heap.size w ((w.alloc (.cells #[.int .i64 q0, .int .i64 q1, .int .i64 q2, .int .i64 q3, .int .i64 q4, .int .i64 q5, .int .i64 q6, .int .i64 q7, .int .i64 q8] 32)).alloc (.cells #[.int .i64 r0, .int .i64 r1, .int .i64 r2, .int .i64 r3, .int .i64 r4, .slice ha hn hc] 50))) := deep.below2 w _ _
  have HX : Hid (Blk ((w.alloc (.cells #[.int .i64 q0, .int .i64 q1, .int .i64 q2, .int .i64 q3, .int .i64 q4, .int .i64 q5, .int .i64 q6, .int .i64 q7, .int .i64 q8] 32)).alloc (.cells #[.int .i64 r0, .int .i64 r1, .int .i64 r2, .int .i64 r3, .int .i64 r4, .slice ha hn hc] 50)) w.heap.size 32 [.int .i64 q0, .int .i64 q1, .int .i64 q2, .int .i64 q3, .int .i64 q4, .int .i64 q5, .int .i64 q6, .int .i64 q7, .int .i64 q8]) := (deep.blk_new w _ _).later (below_one _ _)
  by_cases e1 : q1 = 1
  · subst e1
    have er : ansV 1 r1 r2 r3 r4 hn = hdV r2 r3 r4 := by simp [ansV]
    have et : okT ⟨q0, 1, q2, q3, q4, q5, q6, q7, q8⟩ r1 hn told = refT q0 told := by simp [okT]
    rw [er] at HA
    rw [et]
    unfold hdV at HA
    clear er et
    go_enter Tryd.func41, Tryd.ntmps41
    go_wp2_with fail
    refine Calls.mono (HA.out _) ?_
    rintro e w1 ⟨rfl, hb1⟩
    have HB1 : Hid (Below w.heap.size w w1) := below_tr HB.out hb1
    have HX1 : Hid (Blk w1 w.heap.size 32 [.int .i64 q0, .int .i64 1, .int .i64 q2, .int .i64 q3, .int .i64 q4, .int .i64 q5, .int .i64 q6, .int .i64 q7, .int .i64 q8]) := HX.out.later hb1
    have c0 : w1.cell? ⟨w.heap.size, 0, none⟩ = some (.int .i64 q0) := HX1.out.cell 0
    have hlt : w.heap.size < w1.heap.size := HX1.out.lt
    have HBN : Hid (∀ o, Below w.heap.size w (w1.alloc o)) := fun o => below_tr HB1.out (below_one _ _)
    clear hb1
    go_wp2_with fail
    refine Calls.mono (HR.out _ _ _ (HP.out.later (HBN.out _))) ?_
    rintro e w2 ⟨rfl, hb2⟩
    have HB2 : Hid (Below w.heap.size w w2) := below_tr (HBN.out _) hb2
    clear hb2
    go_wp2_with fail
    go_ret
    exact ⟨rfl, HB2.out⟩
  by_cases e3 : q1 = 3
  · subst e3
    have er : ansV 3 r1 r2 r3 r4 hn = nmV r1 := by simp [ansV, numW]
    have et : okT ⟨q0, 3, q2, q3, q4, q5, q6, q7, q8⟩ r1 hn told = decB r1 := by simp [okT, numW]
    rw [er] at HA
    rw [et]
    unfold nmV at HA
    clear er et e1
    go_enter Tryd.func41, Tryd.ntmps41
    go_wp2_with fail
    refine Calls.mono (HA.out _) ?_
    rintro e w1 ⟨rfl, hb1⟩
    have HB1 : Hid (Below w.heap.size w w1) := below_tr HB.out hb1
    have HX1 : Hid (Blk w1 w.heap.size 32 [.int .i64 q0, .int .i64 3, .int .i64 q2, .int .i64 q3, .int .i64 q4, .int .i64 q5, .int .i64 q6, .int .i64 q7, .int .i64 q8]) := HX.out.later hb1
    have c0 : w1.cell? ⟨w.heap.size, 0, none⟩ = some (.int .i64 q0) := HX1.out.cell 0
    have hlt : w.heap.size < w1.heap.size := HX1.out.lt
    have HBN : Hid (∀ o, Below w.heap.size w (w1.alloc o)) := fun o => below_tr HB1.out (below_one _ _)
    clear hb1
    go_wp2_with fail
    refine Calls.mono (HD.out _ _ I1.out (HP.out.later (HBN.out _))) ?_
    rintro e w2 ⟨rfl, hb2⟩
    have HB2 : Hid (Below w.heap.size w w2) := below_tr (HBN.out _) hb2
    clear hb2
    go_wp2_with fail
    go_ret
    exact ⟨rfl, HB2.out⟩
  by_cases e5 : q1 = 5
  · subst e5
    have er : ansV 5 r1 r2 r3 r4 hn = nmV r1 := by simp [ansV, numW]
    have et : okT ⟨q0, 5, q2, q3, q4, q5, q6, q7, q8⟩ r1 hn told = decB r1 := by simp [okT, numW]
    rw [er] at HA
    rw [et]
    unfold nmV at HA
    clear er et e1 e3
    go_enter Tryd.func41, Tryd.ntmps41
    go_wp2_with fail
    refine Calls.mono (HA.out _) ?_
    rintro e w1 ⟨rfl, hb1⟩
    have HB1 : Hid (Below w.heap.size w w1) := below_tr HB.out hb1
    have HX1 : Hid (Blk w1 w.heap.size 32 [.int .i64 q0, .int .i64 5, .int .i64 q2, .int .i64 q3, .int .i64 q4, .int .i64 q5, .int .i64 q6, .int .i64 q7, .int .i64 q8]) := HX.out.later hb1
    have c0 : w1.cell? ⟨w.heap.size, 0, none⟩ = some (.int .i64 q0) := HX1.out.cell 0
    have hlt : w.heap.size < w1.heap.size := HX1.out.lt
    have HBN : Hid (∀ o, Below w.heap.size w (w1.alloc o)) := fun o => below_tr HB1.out (below_one _ _)
    clear hb1
    go_wp2_with fail
    refine Calls.mono (HD.out _ _ I1.out (HP.out.later (HBN.out _))) ?_
    rintro e w2 ⟨rfl, hb2⟩
    have HB2 : Hid (Below w.heap.size w w2) := below_tr (HBN.out _) hb2
    clear hb2
    go_wp2_with fail
    go_ret
    exact ⟨rfl, HB2.out⟩
  by_cases e6 : q1 = 6
  · subst e6
    have er : ansV 6 r1 r2 r3 r4 hn = nmV r1 := by simp [ansV, numW]
    have et : okT ⟨q0, 6, q2, q3, q4, q5, q6, q7, q8⟩ r1 hn told = decB r1 := by simp [okT, numW]
    rw [er] at HA
    rw [et]
    unfold nmV at HA
    clear er et e1 e3 e5
    go_enter Tryd.func41, Tryd.ntmps41
    go_wp2_with fail
    refine Calls.mono (HA.out _) ?_
    rintro e w1 ⟨rfl, hb1⟩
    have HB1 : Hid (Below w.heap.size w w1) := below_tr HB.out hb1
    have HX1 : Hid (Blk w1 w.heap.size 32 [.int .i64 q0, .int .i64 6, .int .i64 q2, .int .i64 q3, .int .i64 q4, .int .i64 q5, .int .i64 q6, .int .i64 q7, .int .i64 q8]) := HX.out.later hb1
    have c0 : w1.cell? ⟨w.heap.size, 0, none⟩ = some (.int .i64 q0) := HX1.out.cell 0
    have hlt : w.heap.size < w1.heap.size := HX1.out.lt
    have HBN : Hid (∀ o, Below w.heap.size w (w1.alloc o)) := fun o => below_tr HB1.out (below_one _ _)
    clear hb1
    go_wp2_with fail
    refine Calls.mono (HD.out _ _ I1.out (HP.out.later (HBN.out _))) ?_
    rintro e w2 ⟨rfl, hb2⟩
    have HB2 : Hid (Below w.heap.size w w2) := below_tr (HBN.out _) hb2
    clear hb2
    go_wp2_with fail
    go_ret
    exact ⟨rfl, HB2.out⟩
  by_cases e11 : q1 = 11
  · subst e11
    have er : ansV 11 r1 r2 r3 r4 hn = nmV r1 := by simp [ansV, numW]
    have et : okT ⟨q0, 11, q2, q3, q4, q5, q6, q7, q8⟩ r1 hn told = decB r1 := by simp [okT, numW]
    rw [er] at HA
    rw [et]
    unfold nmV at HA
    clear er et e1 e3 e5 e6
    go_enter Tryd.func41, Tryd.ntmps41
    go_wp2_with fail
    refine Calls.mono (HA.out _) ?_
    rintro e w1 ⟨rfl, hb1⟩
    have HB1 : Hid (Below w.heap.size w w1) := below_tr HB.out hb1
    have HX1 : Hid (Blk w1 w.heap.size 32 [.int .i64 q0, .int .i64 11, .int .i64 q2, .int .i64 q3, .int .i64 q4, .int .i64 q5, .int .i64 q6, .int .i64 q7, .int .i64 q8]) := HX.out.later hb1
    have c0 : w1.cell? ⟨w.heap.size, 0, none⟩ = some (.int .i64 q0) := HX1.out.cell 0
    have hlt : w.heap.size < w1.heap.size := HX1.out.lt
    have HBN : Hid (∀ o, Below w.heap.size w (w1.alloc o)) := fun o => below_tr HB1.out (below_one _ _)
    clear hb1
    go_wp2_with fail
    refine Calls.mono (HD.out _ _ I1.out (HP.out.later (HBN.out _))) ?_
    rintro e w2 ⟨rfl, hb2⟩
    have HB2 : Hid (Below w.heap.size w w2) := below_tr (HBN.out _) hb2
    clear hb2
    go_wp2_with fail
    go_ret
    exact ⟨rfl, HB2.out⟩
  by_cases e4 : q1 = 4
  · subst e4
    have er : ansV 4 r1 r2 r3 r4 hn = nmV hn := by simp [ansV, numW]
    have et : okT ⟨q0, 4, q2, q3, q4, q5, q6, q7, q8⟩ r1 hn told = decB hn := by simp [okT, numW]
    rw [er] at HA
    rw [et]
    unfold nmV at HA
    clear er et e1 e3 e5 e6 e11
    go_enter Tryd.func41, Tryd.ntmps41
    go_wp2_with fail
    refine Calls.mono (HA.out _) ?_
    rintro e w1 ⟨rfl, hb1⟩
    have HB1 : Hid (Below w.heap.size w w1) := below_tr HB.out hb1
    have HX1 : Hid (Blk w1 w.heap.size 32 [.int .i64 q0, .int .i64 4, .int .i64 q2, .int .i64 q3, .int .i64 q4, .int .i64 q5, .int .i64 q6, .int .i64 q7, .int .i64 q8]) := HX.out.later hb1
    have c0 : w1.cell? ⟨w.heap.size, 0, none⟩ = some (.int .i64 q0) := HX1.out.cell 0
    have hlt : w.heap.size < w1.heap.size := HX1.out.lt
    have HBN : Hid (∀ o, Below w.heap.size w (w1.alloc o)) := fun o => below_tr HB1.out (below_one _ _)
    clear hb1
    go_wp2_with fail
    refine Calls.mono (HD.out _ _ I2.out (HP.out.later (HBN.out _))) ?_
    rintro e w2 ⟨rfl, hb2⟩
    have HB2 : Hid (Below w.heap.size w w2) := below_tr (HBN.out _) hb2
    clear hb2
    go_wp2_with fail
    go_ret
    exact ⟨rfl, HB2.out⟩
  have er : ansV q1 r1 r2 r3 r4 hn = .nilIface := by simp [ansV, numW, e1, e3, e5, e6, e11, e4]
  have et : okT ⟨q0, q1, q2, q3, q4, q5, q6, q7, q8⟩ r1 hn told = ⟨#[111, 107]⟩ := by simp [okT, numW, e1, e3, e5, e6, e11, e4]
  rw [er] at HA
  rw [et]
  clear er et e1 e3 e5 e6 e11 e4
  go_enter Tryd.func41, Tryd.ntmps41
  go_wp2_with fail
  refine Calls.mono (HA.out _) ?_
  rintro e w1 ⟨rfl, hb1⟩
  have HB1 : Hid (Below w.heap.size w w1) := below_tr HB.out hb1
  have HX1 : Hid (Blk w1 w.heap.size 32 [.int .i64 q0, .int .i64 q1, .int .i64 q2, .int .i64 q3, .int .i64 q4, .int .i64 q5, .int .i64 q6, .int .i64 q7, .int .i64 q8]) := HX.out.later hb1
  have c0 : w1.cell? ⟨w.heap.size, 0, none⟩ = some (.int .i64 q0) := HX1.out.cell 0
  have hlt : w.heap.size < w1.heap.size := HX1.out.lt
  have HBN : Hid (∀ o, Below w.heap.size w (w1.alloc o)) := fun o => below_tr HB1.out (below_one _ _)
  clear hb1
  go_wp2_with fail
  go_ret
  exact ⟨rfl, HBN.out _⟩

set_option maxHeartbeats 4000000 in
theorem impl_replyt (c : CallD) (r0 r1 r2 r3 r4 told : Int) (ha : Option Addr) (hn hc : Nat) (hh : (hn : Int) ≤ 9223372036854775807) (h0 : I64 r0) (h1 : I64 r1) (w : World) (hp : Pow w) :
    Calls Tryd.prog 19 #[.agg (ccall c).toArray, .agg #[.int .i64 r0, .int .i64 r1, .int .i64 r2, .int .i64 r3, .int .i64 r4, .slice ha hn hc], .int .i64 told] w fun e w' => e = .returned (.string (replyT c r0 r1 hn told)) ∧ Below w.heap.size w w' := by
  obtain ⟨q0, q1, q2, q3, q4, q5, q6, q7, q8⟩ := c
  have HA : Hid (∀ W, Pow W → Calls Tryd.prog 41 #[.agg #[.int .i64 q0, .int .i64 q1, .int .i64 q2, .int .i64 q3, .int .i64 q4, .int .i64 q5, .int .i64 q6, .int .i64 q7, .int .i64 q8], .agg #[.int .i64 r0, .int .i64 r1, .int .i64 r2, .int .i64 r3, .int .i64 r4, .slice ha hn hc], .int .i64 told] W fun e w' => e = .returned (.string (okT ⟨q0, q1, q2, q3, q4, q5, q6, q7, q8⟩ r1 hn told)) ∧ Below W.heap.size W w') := fun W h => impl_antext q0 q1 q2 q3 q4 q5 q6 q7 q8 r0 r1 r2 r3 r4 told ha hn hc hh h1 W h
  have HD : Hid (∀ n W, I64 n → Pow W → Calls Tryd.prog 26 #[.int .i64 n] W fun e w' => e = .returned (.string (decB n)) ∧ Below W.heap.size W w') := fun n W h k => impl_dec n h.1 h.2 W k
  have I0 : Hid (I64 r0) := h0
  have HP : Hid (Pow w) := hp
  have hz0 := dec_size r0 h0.1 h0.2
  clear h0 h1 hp
  simp only [ccall]
  have HB : Hid (Below w.heap.size w ((w.alloc (.cells #[.int .i64 q0, .int .i64 q1, .int .i64 q2, .int .i64 q3, .int .i64 q4, .int .i64 q5, .int .i64 q6, .int .i64 q7, .int .i64 q8] 32)).alloc (.cells #[.int .i64 r0, .int .i64 r1, .int .i64 r2, .int .i64 r3, .int .i64 r4, .slice ha hn hc] 50))) := deep.below2 w _ _
  by_cases c0 : r0 = 0
  · subst c0
    have et : replyT ⟨q0, q1, q2, q3, q4, q5, q6, q7, q8⟩ 0 r1 hn told = okT ⟨q0, q1, q2, q3, q4, q5, q6, q7, q8⟩ r1 hn told := by simp [replyT, okT]
    rw [et]
    generalize okT ⟨q0, q1, q2, q3, q4, q5, q6, q7, q8⟩ r1 hn told = T at *
    clear et
    go_enter Tryd.func19, Tryd.ntmps19
    go_wp2_with fail
    refine Calls.mono (HA.out _ (HP.out.later HB.out)) ?_
    rintro e w1 ⟨rfl, hb1⟩
    have HB1 : Hid (Below w.heap.size w w1) := below_tr HB.out hb1
    clear hb1
    go_wp2_with fail
    go_ret
    exact ⟨rfl, HB1.out⟩
  · have et : replyT ⟨q0, q1, q2, q3, q4, q5, q6, q7, q8⟩ r0 r1 hn told = errT ++ decB r0 := by simp [replyT, c0]
    rw [et]
    have gc : (r0 != 0) = true := by simp; exact c0
    unfold errT
    clear c0 et
    go_enter Tryd.func19, Tryd.ntmps19
    go_wp2_with fail
    refine Calls.mono (HD.out _ _ I0.out (HP.out.later HB.out)) ?_
    rintro e w1 ⟨rfl, hb1⟩
    have HB1 : Hid (Below w.heap.size w w1) := below_tr HB.out hb1
    clear hb1
    go_wp2_with fail
    go_ret
    exact ⟨rfl, HB1.out⟩
end Go.Proofs.YtlojigfhbfemfaaDoor.scr
