/-
  The program's side: a number in digits (by the library), the text of a Ref. Condition: the library's table of powers reads as its text lays it.
-/
import Derived.Test.YtacfhchmoiphfaaDoorScrRef
import Derived.Test.YtacfhchmoiphfaaDoorShelf
namespace Go.Proofs.YtacfhchmoiphfaaDoor.scr
open Go.RowKit Go.Deep Go.Sort
open Go.Proofs.YtacfhchmoiphfaaDoor
set_option linter.unusedVariables false
set_option maxRecDepth 100000

theorem gpow : Tryd.prog.globalNamed "internal/strconv.uint64pow10" = some 2 := by kernel_rfl
/-- the library's table stands -/
structure Pow (w : World) : Prop where
  tab : Lib.TabIs Tryd.prog w "internal/strconv.uint64pow10" .u64 Lib.pow10Tab
theorem Pow.pos {w : World} (h : Pow w) : 2 < w.heap.size := by
  have ht := h.tab
  unfold Lib.TabIs World.var? at ht
  rw [gpow] at ht
  simp only [Option.bind_some] at ht
  rcases Nat.lt_or_ge 2 w.heap.size with h' | h'
  · exact h'
  · rw [Array.getElem?_eq_none h'] at ht
    cases ht
theorem Pow.below {B : Nat} {w w' : World} (h : Pow w) (hb : Below B w w') (hB : 2 < B) : Pow w' := by
  refine ⟨?_⟩
  have e : w'.heap[2]? = w.heap[2]? := hb.block _ hB
  have ht := h.tab
  unfold Lib.TabIs World.var? at ht ⊢
  rw [gpow] at ht ⊢
  simp only [Option.bind_some] at ht ⊢
  rw [e]
  exact ht
theorem Pow.later {w w' : World} (h : Pow w) (hb : Below w.heap.size w w') : Pow w' := h.below hb h.pos
theorem Pow.alloc {w : World} (h : Pow w) (o : Obj) : Pow (w.alloc o) := h.later (below_one w o)
theorem below_grown (w : World) (k : Nat) (os : Array Obj) : Below w.heap.size w (grow (w.drewN k) os) := below_regrown w (w.drawn + k) os

set_option maxHeartbeats 2000000 in
theorem impl_dec (n : Int) (h0 : -9223372036854775808 ≤ n) (h1 : n ≤ 9223372036854775807) (w : World) (hp : Pow w) : Calls Tryd.prog 38 #[.int .i64 n] w fun e w' => e = .returned (.string (decB n)) ∧ Below w.heap.size w w' := by
  have HC : Hid _ := Tryd.strconv_FormatInt_10 n h0 h1 w hp.tab
  clear h0 h1 hp
  unfold decB
  go_enter Tryd.func38, Tryd.ntmps38
  go_wp2_with fail
  refine Calls.mono (HC.out) ?_
  rintro e w1 ⟨rfl, k, os, rfl⟩
  have HB : Hid _ := below_grown w k os
  go_wp2_with fail
  go_ret
  exact ⟨rfl, HB.out⟩

set_option maxHeartbeats 2000000 in
theorem impl_reft (l n : Int) (w : World) (hp : Pow w) : Calls Tryd.prog 15 #[.agg #[.int .i64 l, .int .i64 n]] w fun e w' => e = .returned (.string (refT l n)) ∧ Below w.heap.size w w' := by
  have HR : Hid (∀ W, Calls Tryd.prog 41 #[.agg #[.int .i64 l, .int .i64 n]] W fun e w' => e = .returned (.bool (call.refB l n)) ∧ Below W.heap.size W w') := fun W => call.impl_ref l n W
  cases h : call.refB l n with
  | false =>
    rw [h] at HR
    have e : refT l n = ⟨#[]⟩ := by simp [refT, h]
    rw [e]
    clear h e hp
    go_enter Tryd.func15, Tryd.ntmps15
    go_wp2_with fail
    refine Calls.mono (HR.out _) ?_
    rintro e w1 ⟨rfl, hb1⟩
    have HB1 : Hid (Below w.heap.size w w1) := below_tr (below_one w _) hb1
    clear hb1
    go_wp2_with fail
    go_ret
    exact ⟨rfl, HB1.out⟩
  | true =>
    rw [h] at HR
    have hn : 0 ≤ n ∧ n ≤ 999 := by
      simp only [call.refB, Bool.and_eq_true] at h
      exact call.isB_yes h.2
    have e : refT l n = ltext.textS l ++ dot ++ decB n := by simp [refT, h]
    rw [e]
    have HT : Hid (∀ W, Calls Tryd.prog 42 #[.int .i64 l] W fun e w' => e = .returned (.string (ltext.textS l)) ∧ Below W.heap.size W w') := fun W => ltext.impl_text l W
    have HD : Hid (∀ W, Pow W → Calls Tryd.prog 38 #[.int .i64 n] W fun e w' => e = .returned (.string (decB n)) ∧ Below W.heap.size W w') := fun W hW => impl_dec n (by omega) (by omega) W hW
    have HP : Hid (Pow w) := hp
    have hz1 := text_size l
    have hz2 := dec_size n (by omega) (by omega)
    generalize ltext.textS l = s1 at *
    generalize decB n = s2 at *
    unfold dot
    clear h e hn hp
    go_enter Tryd.func15, Tryd.ntmps15
    go_wp2_with fail
    refine Calls.mono (HR.out _) ?_
    rintro e w1 ⟨rfl, hb1⟩
    have HB1 : Hid (Below w.heap.size w w1) := below_tr (below_one w _) hb1
    have HX : Hid (deep.Blk w1 w.heap.size 24 [.int .i64 l, .int .i64 n]) := (deep.blk_new w _ _).later hb1
    have HP1 : Hid (Pow w1) := HP.out.later HB1.out
    have e0 : w1.cell? ⟨w.heap.size, 0, none⟩ = some (.int .i64 l) := HX.out.cell 0
    have e1 : w1.cell? ⟨w.heap.size, 1, none⟩ = some (.int .i64 n) := HX.out.cell 1
    have ke0 := cell_regrown e0
    have ke1 := cell_regrown e1
    have cT : ∀ d os, _ := fun d os => Calls.regrown_of (w := w1) (d := d) (os := os) (HT.out _)
    have cD : ∀ d os, _ := fun d os => Calls.regrown_of (w := w1) (d := d) (os := os) (HD.out _ (HP1.out.later (below_regrown w1 d os)))
    clear hb1
    go_wp2_with fail
    refine wp_region_quiet_below (by kernel_rfl) (by kernel_rfl) ?_
    repeat (go_big_quiet_step (first | (go_at_call 42; exact cT _ _) | (go_at_call 38; exact cD _ _)))
    refine wpQuiet_nil ?_
    intro _ hw'
    obtain ⟨⟨dq, osq⟩, hw''⟩ := hw'
    subst hw''
    have HB2 : Hid (Below w.heap.size w (grow (redrawn w1 dq) osq)) := HB1.out.trans ((below_regrown w1 dq osq).mono HB1.out.size)
    go_wp2_with fail
    go_ret
    exact ⟨rfl, HB2.out⟩
end Go.Proofs.YtacfhchmoiphfaaDoor.scr
