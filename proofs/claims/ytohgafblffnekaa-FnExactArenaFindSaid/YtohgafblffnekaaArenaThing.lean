/-
  The program's things: what thingOf makes of an Obj, and which one is none; the program's look at one slot.
-/
import Derived.Test.YtohgafblffnekaaArenaBare
import Derived.Lib.QuietBelow
import Derived.BigQuiet
import Derived.Deep.Cut
import Derived.Deep.CutRange
import Derived.Laws.StructEq
namespace Go.Proofs.Ytohgafblffnekaa.deep
open Go.RowKit Go.Deep Go.Sort
open Go.Proofs.Ytohgafblffnekaa
set_option linter.unusedVariables false

theorem blk4 (w : World) (c1 c2 c3 c4 : List Value) (t1 t2 t3 t4 : Nat) : Blk ((((w.alloc (.cells c1.toArray t1)).alloc (.cells c2.toArray t2)).alloc (.cells c3.toArray t3)).alloc (.cells c4.toArray t4)) w.heap.size t1 c1 ∧ Blk ((((w.alloc (.cells c1.toArray t1)).alloc (.cells c2.toArray t2)).alloc (.cells c3.toArray t3)).alloc (.cells c4.toArray t4)) (w.heap.size + 1) t2 c2 ∧ Blk ((((w.alloc (.cells c1.toArray t1)).alloc (.cells c2.toArray t2)).alloc (.cells c3.toArray t3)).alloc (.cells c4.toArray t4)) (w.heap.size + 1 + 1) t3 c3 ∧ Blk ((((w.alloc (.cells c1.toArray t1)).alloc (.cells c2.toArray t2)).alloc (.cells c3.toArray t3)).alloc (.cells c4.toArray t4)) (w.heap.size + 1 + 1 + 1) t4 c4 := by
  obtain ⟨h1, h2, h3⟩ := blk3 w c1 c2 c3 t1 t2 t3
  have h4 := blk_new (((w.alloc (.cells c1.toArray t1)).alloc (.cells c2.toArray t2)).alloc (.cells c3.toArray t3)) c4 t4
  rw [size3] at h4
  exact ⟨h1.later (below_one _ _), h2.later (below_one _ _), h3.later (below_one _ _), h4⟩
theorem below4 (w : World) (o1 o2 o3 o4 : Obj) : Below w.heap.size w ((((w.alloc o1).alloc o2).alloc o3).alloc o4) := (below3 w o1 o2 o3).alloc (below3 w o1 o2 o3).size _

/-- a box has nothing, a space has nothing -/
def noBx (rm : Int) (nf nk : Nat) : Bool := decide (rm = 0) && decide (nf = 0) && decide (nk = 0)
def noSp (nm nq : Nat) : Bool := decide (nm = 0) && decide (nq = 0)
theorem im_nobox (kd lb od pl u1 u2 u3 rm : Int) (af : Option Addr) (nf cf : Nat) (ak : Option Addr) (nk ck : Nat) (am : Option Addr) (nm cm : Nat) (aq : Option Addr) (nq cq : Nat) (lf : nf ≤ maxLen) (lk : nk ≤ maxLen) (lm : nm ≤ maxLen) (ls : nq ≤ maxLen) (w : World) : Calls Try.prog 110 #[.agg #[.int .i64 kd, .int .i64 lb, .int .i64 od, .int .i64 pl, .int .i64 u1, .int .i64 u2, .int .i64 u3, .int .i64 rm, .slice af nf cf, .slice ak nk ck]] w fun e w' => e = .returned (.bool (noBx rm nf nk)) ∧ Below w.heap.size w w' := by
  unfold maxLen at lf lk lm ls
  by_cases h : rm = 0
  · subst h
    by_cases h2 : nf = 0
    · subst h2
      by_cases h3 : nk = 0
      · subst h3
        go_enter Try.func110, Try.ntmps110
        go_wp2
        go_ret
        exact ⟨by simp [noBx], below_one w _⟩
      · have z : ¬ (nk : Int) = 0 := by omega
        go_enter Try.func110, Try.ntmps110
        go_wp2
        go_ret
        exact ⟨by simp [noBx, h3], below_one w _⟩
    · have z : ¬ (nf : Int) = 0 := by omega
      go_enter Try.func110, Try.ntmps110
      go_wp2
      go_ret
      exact ⟨by simp [noBx, h2], below_one w _⟩
  · have hb : (rm == 0) = false := by simp [h]
    go_enter Try.func110, Try.ntmps110
    go_wp2
    go_ret
    exact ⟨by simp [noBx, h], below_one w _⟩
theorem im_nospace (kd lb od pl u1 u2 u3 rm : Int) (af : Option Addr) (nf cf : Nat) (ak : Option Addr) (nk ck : Nat) (am : Option Addr) (nm cm : Nat) (aq : Option Addr) (nq cq : Nat) (lf : nf ≤ maxLen) (lk : nk ≤ maxLen) (lm : nm ≤ maxLen) (ls : nq ≤ maxLen) (w : World) : Calls Try.prog 111 #[.agg #[.int .i64 kd, .int .i64 lb, .int .i64 od, .int .i64 pl, .int .i64 u1, .int .i64 u2, .int .i64 u3, .slice am nm cm, .slice aq nq cq]] w fun e w' => e = .returned (.bool (noSp nm nq)) ∧ Below w.heap.size w w' := by
  unfold maxLen at lf lk lm ls
  by_cases h2 : nm = 0
  · subst h2
    by_cases h3 : nq = 0
    · subst h3
      go_enter Try.func111, Try.ntmps111
      go_wp2
      go_ret
      exact ⟨by simp [noSp], below_one w _⟩
    · have z : ¬ (nq : Int) = 0 := by omega
      go_enter Try.func111, Try.ntmps111
      go_wp2
      go_ret
      exact ⟨by simp [noSp, h3], below_one w _⟩
  · have z : ¬ (nm : Int) = 0 := by omega
    go_enter Try.func111, Try.ntmps111
    go_wp2
    go_ret
    exact ⟨by simp [noSp, h2], below_one w _⟩

/-- all of the seven numbers are nought -/
def zeroC (kd lb od pl u1 u2 u3 : Int) : Bool := decide (kd = 0 ∧ lb = 0 ∧ od = 0 ∧ pl = 0 ∧ u1 = 0 ∧ u2 = 0 ∧ u3 = 0)
/-- what thingOf makes -/
def thingC (kd lb od pl u1 u2 u3 rm : Int) (af : Option Addr) (nf cf : Nat) (ak : Option Addr) (nk ck : Nat) (am : Option Addr) (nm cm : Nat) (aq : Option Addr) (nq cq : Nat) : Value :=
  if zeroC kd lb od pl u1 u2 u3 && noBx rm nf nk && noSp nm nq then .iface 176 (.agg #[])
  else if decide (kd = 1) && noSp nm nq then .iface 156 (.agg #[.int .i64 kd, .int .i64 lb, .int .i64 od, .int .i64 pl, .int .i64 u1, .int .i64 u2, .int .i64 u3, .int .i64 rm, .slice af nf cf, .slice ak nk ck])
  else if decide (kd = 2) && noBx rm nf nk && noSp nm nq then .iface 179 (.agg #[.int .i64 kd, .int .i64 lb, .int .i64 od, .int .i64 pl, .int .i64 u1, .int .i64 u2, .int .i64 u3])
  else if decide (kd = 3) && noBx rm nf nk then .iface 160 (.agg #[.int .i64 kd, .int .i64 lb, .int .i64 od, .int .i64 pl, .int .i64 u1, .int .i64 u2, .int .i64 u3, .slice am nm cm, .slice aq nq cq])
  else .iface 162 (.agg #[.int .i64 kd, .int .i64 lb, .int .i64 od, .int .i64 pl, .int .i64 u1, .int .i64 u2, .int .i64 u3, .int .i64 kd, .int .i64 lb, .int .i64 od, .int .i64 pl, .int .i64 u1, .int .i64 u2, .int .i64 u3, .int .i64 rm, .slice af nf cf, .slice ak nk ck, .int .i64 kd, .int .i64 lb, .int .i64 od, .int .i64 pl, .int .i64 u1, .int .i64 u2, .int .i64 u3, .slice am nm cm, .slice aq nq cq])

set_option maxHeartbeats 8000000 in
theorem im_thing (kd lb od pl u1 u2 u3 rm : Int) (af : Option Addr) (nf cf : Nat) (ak : Option Addr) (nk ck : Nat) (am : Option Addr) (nm cm : Nat) (aq : Option Addr) (nq cq : Nat) (lf : nf ≤ maxLen) (lk : nk ≤ maxLen) (lm : nm ≤ maxLen) (ls : nq ≤ maxLen) (w : World) : Calls Try.prog 86 #[.agg #[.int .i64 kd, .int .i64 lb, .int .i64 od, .int .i64 pl, .int .i64 u1, .int .i64 u2, .int .i64 u3, .int .i64 rm, .slice af nf cf, .slice ak nk ck, .slice am nm cm, .slice aq nq cq]] w fun e w' => e = .returned (thingC kd lb od pl u1 u2 u3 rm af nf cf ak nk ck am nm cm aq nq cq) ∧ Below w.heap.size w w' := by
  have HNB : Hid (∀ W, _) := fun W => im_nobox kd lb od pl u1 u2 u3 rm af nf cf ak nk ck am nm cm aq nq cq lf lk lm ls W
  have HNS : Hid (∀ W, _) := fun W => im_nospace kd lb od pl u1 u2 u3 rm af nf cf ak nk ck am nm cm aq nq cq lf lk lm ls W
  obtain ⟨V, hV⟩ : ∃ V, V = thingC kd lb od pl u1 u2 u3 rm af nf cf ak nk ck am nm cm aq nq cq := ⟨_, rfl⟩
  have HV : Hid (V = thingC kd lb od pl u1 u2 u3 rm af nf cf ak nk ck am nm cm aq nq cq) := hV
  rw [← hV]
  clear hV
  unfold thingC at HV
  generalize noBx rm nf nk = nb at HNB HV
  generalize noSp nm nq = ns at HNS HV
  go_enter Try.func86, Try.ntmps86
  go_upto_region 4 with fail
  have F := blk4 w [.int .i64 kd, .int .i64 lb, .int .i64 od, .int .i64 pl, .int .i64 u1, .int .i64 u2, .int .i64 u3, .int .i64 rm, .slice af nf cf, .slice ak nk ck, .slice am nm cm, .slice aq nq cq] [.int .i64 kd, .int .i64 lb, .int .i64 od, .int .i64 pl, .int .i64 u1, .int .i64 u2, .int .i64 u3] [.int .i64 kd, .int .i64 lb, .int .i64 od, .int .i64 pl, .int .i64 u1, .int .i64 u2, .int .i64 u3, .int .i64 rm, .slice af nf cf, .slice ak nk ck] [.int .i64 kd, .int .i64 lb, .int .i64 od, .int .i64 pl, .int .i64 u1, .int .i64 u2, .int .i64 u3, .slice am nm cm, .slice aq nq cq] 55 154 156 160
  have HBW : Hid (Below w.heap.size w ((((w.alloc (.cells #[.int .i64 kd, .int .i64 lb, .int .i64 od, .int .i64 pl, .int .i64 u1, .int .i64 u2, .int .i64 u3, .int .i64 rm, .slice af nf cf, .slice ak nk ck, .slice am nm cm, .slice aq nq cq] 55)).alloc (.cells #[.int .i64 kd, .int .i64 lb, .int .i64 od, .int .i64 pl, .int .i64 u1, .int .i64 u2, .int .i64 u3] 154)).alloc (.cells #[.int .i64 kd, .int .i64 lb, .int .i64 od, .int .i64 pl, .int .i64 u1, .int .i64 u2, .int .i64 u3, .int .i64 rm, .slice af nf cf, .slice ak nk ck] 156)).alloc (.cells #[.int .i64 kd, .int .i64 lb, .int .i64 od, .int .i64 pl, .int .i64 u1, .int .i64 u2, .int .i64 u3, .slice am nm cm, .slice aq nq cq] 160))) := below4 w _ _ _ _
  generalize (((w.alloc (.cells #[.int .i64 kd, .int .i64 lb, .int .i64 od, .int .i64 pl, .int .i64 u1, .int .i64 u2, .int .i64 u3, .int .i64 rm, .slice af nf cf, .slice ak nk ck, .slice am nm cm, .slice aq nq cq] 55)).alloc (.cells #[.int .i64 kd, .int .i64 lb, .int .i64 od, .int .i64 pl, .int .i64 u1, .int .i64 u2, .int .i64 u3] 154)).alloc (.cells #[.int .i64 kd, .int .i64 lb, .int .i64 od, .int .i64 pl, .int .i64 u1, .int .i64 u2, .int .i64 u3, .int .i64 rm, .slice af nf cf, .slice ak nk ck] 156)).alloc (.cells #[.int .i64 kd, .int .i64 lb, .int .i64 od, .int .i64 pl, .int .i64 u1, .int .i64 u2, .int .i64 u3, .slice am nm cm, .slice aq nq cq] 160) = W4 at *
  have H0 : Hid (Blk W4 (w.heap.size) 55 [.int .i64 kd, .int .i64 lb, .int .i64 od, .int .i64 pl, .int .i64 u1, .int .i64 u2, .int .i64 u3, .int .i64 rm, .slice af nf cf, .slice ak nk ck, .slice am nm cm, .slice aq nq cq]) := F.1
  have H1 : Hid (Blk W4 (w.heap.size + 1) 154 [.int .i64 kd, .int .i64 lb, .int .i64 od, .int .i64 pl, .int .i64 u1, .int .i64 u2, .int .i64 u3]) := F.2.1
  have H2 : Hid (Blk W4 (w.heap.size + 1 + 1) 156 [.int .i64 kd, .int .i64 lb, .int .i64 od, .int .i64 pl, .int .i64 u1, .int .i64 u2, .int .i64 u3, .int .i64 rm, .slice af nf cf, .slice ak nk ck]) := F.2.2.1
  have H3 : Hid (Blk W4 (w.heap.size + 1 + 1 + 1) 160 [.int .i64 kd, .int .i64 lb, .int .i64 od, .int .i64 pl, .int .i64 u1, .int .i64 u2, .int .i64 u3, .slice am nm cm, .slice aq nq cq]) := F.2.2.2
  clear F
  have b0 : W4.cell? ⟨w.heap.size + 1 + 1, 0, none⟩ = some (.int .i64 kd) := H2.out.cell 0
  have kb0 := cell_regrown b0
  have b1 : W4.cell? ⟨w.heap.size + 1 + 1, 1, none⟩ = some (.int .i64 lb) := H2.out.cell 1
  have kb1 := cell_regrown b1
  have b2 : W4.cell? ⟨w.heap.size + 1 + 1, 2, none⟩ = some (.int .i64 od) := H2.out.cell 2
  have kb2 := cell_regrown b2
  have b3 : W4.cell? ⟨w.heap.size + 1 + 1, 3, none⟩ = some (.int .i64 pl) := H2.out.cell 3
  have kb3 := cell_regrown b3
  have b4 : W4.cell? ⟨w.heap.size + 1 + 1, 4, none⟩ = some (.int .i64 u1) := H2.out.cell 4
  have kb4 := cell_regrown b4
  have b5 : W4.cell? ⟨w.heap.size + 1 + 1, 5, none⟩ = some (.int .i64 u2) := H2.out.cell 5
  have kb5 := cell_regrown b5
  have b6 : W4.cell? ⟨w.heap.size + 1 + 1, 6, none⟩ = some (.int .i64 u3) := H2.out.cell 6
  have kb6 := cell_regrown b6
  have b7 : W4.cell? ⟨w.heap.size + 1 + 1, 7, none⟩ = some (.int .i64 rm) := H2.out.cell 7
  have kb7 := cell_regrown b7
  have b8 : W4.cell? ⟨w.heap.size + 1 + 1, 8, none⟩ = some (.slice af nf cf) := H2.out.cell 8
  have kb8 := cell_regrown b8
  have b9 : W4.cell? ⟨w.heap.size + 1 + 1, 9, none⟩ = some (.slice ak nk ck) := H2.out.cell 9
  have kb9 := cell_regrown b9
  have s0 : W4.cell? ⟨w.heap.size + 1 + 1 + 1, 0, none⟩ = some (.int .i64 kd) := H3.out.cell 0
  have ks0 := cell_regrown s0
  have s1 : W4.cell? ⟨w.heap.size + 1 + 1 + 1, 1, none⟩ = some (.int .i64 lb) := H3.out.cell 1
  have ks1 := cell_regrown s1
  have s2 : W4.cell? ⟨w.heap.size + 1 + 1 + 1, 2, none⟩ = some (.int .i64 od) := H3.out.cell 2
  have ks2 := cell_regrown s2
  have s3 : W4.cell? ⟨w.heap.size + 1 + 1 + 1, 3, none⟩ = some (.int .i64 pl) := H3.out.cell 3
  have ks3 := cell_regrown s3
  have s4 : W4.cell? ⟨w.heap.size + 1 + 1 + 1, 4, none⟩ = some (.int .i64 u1) := H3.out.cell 4
  have ks4 := cell_regrown s4
  have s5 : W4.cell? ⟨w.heap.size + 1 + 1 + 1, 5, none⟩ = some (.int .i64 u2) := H3.out.cell 5
  have ks5 := cell_regrown s5
  have s6 : W4.cell? ⟨w.heap.size + 1 + 1 + 1, 6, none⟩ = some (.int .i64 u3) := H3.out.cell 6
  have ks6 := cell_regrown s6
  have s7 : W4.cell? ⟨w.heap.size + 1 + 1 + 1, 7, none⟩ = some (.slice am nm cm) := H3.out.cell 7
  have ks7 := cell_regrown s7
  have s8 : W4.cell? ⟨w.heap.size + 1 + 1 + 1, 8, none⟩ = some (.slice aq nq cq) := H3.out.cell 8
  have ks8 := cell_regrown s8
  have cB : ∀ d os, _ := fun d os => Calls.regrown_of (w := W4) (d := d) (os := os) (HNB.out _)
  have cS : ∀ d os, _ := fun d os => Calls.regrown_of (w := W4) (d := d) (os := os) (HNS.out _)
  go_cut [6, 7] from 31 to 34 (fun x6 x7 wx => x6 = .bool nb ∧ x7 = .bool ns ∧ Hid (Below W4.heap.size W4 wx))
  case first =>
    refine wp_region_quiet_below (by kernel_rfl) (by kernel_rfl) ?_
    repeat (go_big_quiet_step (first | (go_at_call 110; exact cB _ _) | (go_at_call 111; exact cS _ _)))
    refine wpQuiet_nil ?_
    intro _ hw'
    obtain ⟨⟨dq, osq⟩, hw''⟩ := hw'
    subst hw''
    have HB2 : Hid (Below W4.heap.size W4 (grow (redrawn W4 dq) osq)) := below_regrown W4 dq osq
    go_wp2_with fail
    go_meet
    case rel => exact ⟨rfl, rfl, HB2.out⟩
  case rest =>
    obtain ⟨rfl, rfl, HBC⟩ := hcut
    have HBE : Hid (Below w.heap.size w wc) := below_tr HBW.out HBC.out
    clear b0 kb0 b1 kb1 b2 kb2 b3 kb3 b4 kb4 b5 kb5 b6 kb6 b7 kb7 b8 kb8 b9 kb9 s0 ks0 s1 ks1 s2 ks2 s3 ks3 s4 ks4 s5 ks5 s6 ks6 s7 ks7 s8 ks8 cB cS HNB HNS
    have o0 : wc.cell? ⟨w.heap.size, 0, none⟩ = some (.int .i64 kd) := (H0.out.later HBC.out).cell 0
    have c0 : wc.cell? ⟨w.heap.size + 1, 0, none⟩ = some (.int .i64 kd) := (H1.out.later HBC.out).cell 0
    have c1 : wc.cell? ⟨w.heap.size + 1, 1, none⟩ = some (.int .i64 lb) := (H1.out.later HBC.out).cell 1
    have c2 : wc.cell? ⟨w.heap.size + 1, 2, none⟩ = some (.int .i64 od) := (H1.out.later HBC.out).cell 2
    have c3 : wc.cell? ⟨w.heap.size + 1, 3, none⟩ = some (.int .i64 pl) := (H1.out.later HBC.out).cell 3
    have c4 : wc.cell? ⟨w.heap.size + 1, 4, none⟩ = some (.int .i64 u1) := (H1.out.later HBC.out).cell 4
    have c5 : wc.cell? ⟨w.heap.size + 1, 5, none⟩ = some (.int .i64 u2) := (H1.out.later HBC.out).cell 5
    have c6 : wc.cell? ⟨w.heap.size + 1, 6, none⟩ = some (.int .i64 u3) := (H1.out.later HBC.out).cell 6
    have b0 : wc.cell? ⟨w.heap.size + 1 + 1, 0, none⟩ = some (.int .i64 kd) := (H2.out.later HBC.out).cell 0
    have b1 : wc.cell? ⟨w.heap.size + 1 + 1, 1, none⟩ = some (.int .i64 lb) := (H2.out.later HBC.out).cell 1
    have b2 : wc.cell? ⟨w.heap.size + 1 + 1, 2, none⟩ = some (.int .i64 od) := (H2.out.later HBC.out).cell 2
    have b3 : wc.cell? ⟨w.heap.size + 1 + 1, 3, none⟩ = some (.int .i64 pl) := (H2.out.later HBC.out).cell 3
    have b4 : wc.cell? ⟨w.heap.size + 1 + 1, 4, none⟩ = some (.int .i64 u1) := (H2.out.later HBC.out).cell 4
    have b5 : wc.cell? ⟨w.heap.size + 1 + 1, 5, none⟩ = some (.int .i64 u2) := (H2.out.later HBC.out).cell 5
    have b6 : wc.cell? ⟨w.heap.size + 1 + 1, 6, none⟩ = some (.int .i64 u3) := (H2.out.later HBC.out).cell 6
    have b7 : wc.cell? ⟨w.heap.size + 1 + 1, 7, none⟩ = some (.int .i64 rm) := (H2.out.later HBC.out).cell 7
    have b8 : wc.cell? ⟨w.heap.size + 1 + 1, 8, none⟩ = some (.slice af nf cf) := (H2.out.later HBC.out).cell 8
    have b9 : wc.cell? ⟨w.heap.size + 1 + 1, 9, none⟩ = some (.slice ak nk ck) := (H2.out.later HBC.out).cell 9
    have s0 : wc.cell? ⟨w.heap.size + 1 + 1 + 1, 0, none⟩ = some (.int .i64 kd) := (H3.out.later HBC.out).cell 0
    have s1 : wc.cell? ⟨w.heap.size + 1 + 1 + 1, 1, none⟩ = some (.int .i64 lb) := (H3.out.later HBC.out).cell 1
    have s2 : wc.cell? ⟨w.heap.size + 1 + 1 + 1, 2, none⟩ = some (.int .i64 od) := (H3.out.later HBC.out).cell 2
    have s3 : wc.cell? ⟨w.heap.size + 1 + 1 + 1, 3, none⟩ = some (.int .i64 pl) := (H3.out.later HBC.out).cell 3
    have s4 : wc.cell? ⟨w.heap.size + 1 + 1 + 1, 4, none⟩ = some (.int .i64 u1) := (H3.out.later HBC.out).cell 4
    have s5 : wc.cell? ⟨w.heap.size + 1 + 1 + 1, 5, none⟩ = some (.int .i64 u2) := (H3.out.later HBC.out).cell 5
    have s6 : wc.cell? ⟨w.heap.size + 1 + 1 + 1, 6, none⟩ = some (.int .i64 u3) := (H3.out.later HBC.out).cell 6
    have s7 : wc.cell? ⟨w.heap.size + 1 + 1 + 1, 7, none⟩ = some (.slice am nm cm) := (H3.out.later HBC.out).cell 7
    have s8 : wc.cell? ⟨w.heap.size + 1 + 1 + 1, 8, none⟩ = some (.slice aq nq cq) := (H3.out.later HBC.out).cell 8
    cases nb <;> cases ns
    · by_cases hk1 : kd = 1
      · subst hk1
        have HVV : Hid (V = .iface 162 (.agg #[.int .i64 1, .int .i64 lb, .int .i64 od, .int .i64 pl, .int .i64 u1, .int .i64 u2, .int .i64 u3, .int .i64 1, .int .i64 lb, .int .i64 od, .int .i64 pl, .int .i64 u1, .int .i64 u2, .int .i64 u3, .int .i64 rm, .slice af nf cf, .slice ak nk ck, .int .i64 1, .int .i64 lb, .int .i64 od, .int .i64 pl, .int .i64 u1, .int .i64 u2, .int .i64 u3, .slice am nm cm, .slice aq nq cq])) := by rw [Hid, HV.out]; simp [zeroC]
        go_wp2_with fail
        all_goals (first | (exfalso; simp_all; done) | (go_ret; refine ⟨?_, HBE.out⟩; rw [HVV.out]; first | rfl | (subst_vars; rfl)))
      · by_cases hk2 : kd = 2
        · subst hk2
          have HVV : Hid (V = .iface 162 (.agg #[.int .i64 2, .int .i64 lb, .int .i64 od, .int .i64 pl, .int .i64 u1, .int .i64 u2, .int .i64 u3, .int .i64 2, .int .i64 lb, .int .i64 od, .int .i64 pl, .int .i64 u1, .int .i64 u2, .int .i64 u3, .int .i64 rm, .slice af nf cf, .slice ak nk ck, .int .i64 2, .int .i64 lb, .int .i64 od, .int .i64 pl, .int .i64 u1, .int .i64 u2, .int .i64 u3, .slice am nm cm, .slice aq nq cq])) := by rw [Hid, HV.out]; simp [zeroC]
          go_wp2_with fail
          all_goals (first | (exfalso; simp_all; done) | (go_ret; refine ⟨?_, HBE.out⟩; rw [HVV.out]; first | rfl | (subst_vars; rfl)))
        · by_cases hk3 : kd = 3
          · subst hk3
            have HVV : Hid (V = .iface 162 (.agg #[.int .i64 3, .int .i64 lb, .int .i64 od, .int .i64 pl, .int .i64 u1, .int .i64 u2, .int .i64 u3, .int .i64 3, .int .i64 lb, .int .i64 od, .int .i64 pl, .int .i64 u1, .int .i64 u2, .int .i64 u3, .int .i64 rm, .slice af nf cf, .slice ak nk ck, .int .i64 3, .int .i64 lb, .int .i64 od, .int .i64 pl, .int .i64 u1, .int .i64 u2, .int .i64 u3, .slice am nm cm, .slice aq nq cq])) := by rw [Hid, HV.out]; simp [zeroC]
            go_wp2_with fail
            all_goals (first | (exfalso; simp_all; done) | (go_ret; refine ⟨?_, HBE.out⟩; rw [HVV.out]; first | rfl | (subst_vars; rfl)))
          · skip
            have hq1 : (kd == 1) = false := by simp [hk1]
            have hq2 : (kd == 2) = false := by simp [hk2]
            have hq3 : (kd == 3) = false := by simp [hk3]
            have HVV : Hid (V = .iface 162 (.agg #[.int .i64 kd, .int .i64 lb, .int .i64 od, .int .i64 pl, .int .i64 u1, .int .i64 u2, .int .i64 u3, .int .i64 kd, .int .i64 lb, .int .i64 od, .int .i64 pl, .int .i64 u1, .int .i64 u2, .int .i64 u3, .int .i64 rm, .slice af nf cf, .slice ak nk ck, .int .i64 kd, .int .i64 lb, .int .i64 od, .int .i64 pl, .int .i64 u1, .int .i64 u2, .int .i64 u3, .slice am nm cm, .slice aq nq cq])) := by rw [Hid, HV.out]; simp [zeroC, hk1, hk2, hk3]
            go_wp2_with fail
            all_goals (first | (exfalso; simp_all; done) | (go_ret; refine ⟨?_, HBE.out⟩; rw [HVV.out]; first | rfl | (subst_vars; rfl)))
    · by_cases hk1 : kd = 1
      · subst hk1
        have HVV : Hid (V = .iface 156 (.agg #[.int .i64 1, .int .i64 lb, .int .i64 od, .int .i64 pl, .int .i64 u1, .int .i64 u2, .int .i64 u3, .int .i64 rm, .slice af nf cf, .slice ak nk ck])) := by rw [Hid, HV.out]; simp [zeroC]
        go_wp2_with fail
        all_goals (first | (exfalso; simp_all; done) | (go_ret; refine ⟨?_, HBE.out⟩; rw [HVV.out]; first | rfl | (subst_vars; rfl)))
      · by_cases hk2 : kd = 2
        · subst hk2
          have HVV : Hid (V = .iface 162 (.agg #[.int .i64 2, .int .i64 lb, .int .i64 od, .int .i64 pl, .int .i64 u1, .int .i64 u2, .int .i64 u3, .int .i64 2, .int .i64 lb, .int .i64 od, .int .i64 pl, .int .i64 u1, .int .i64 u2, .int .i64 u3, .int .i64 rm, .slice af nf cf, .slice ak nk ck, .int .i64 2, .int .i64 lb, .int .i64 od, .int .i64 pl, .int .i64 u1, .int .i64 u2, .int .i64 u3, .slice am nm cm, .slice aq nq cq])) := by rw [Hid, HV.out]; simp [zeroC]
          go_wp2_with fail
          all_goals (first | (exfalso; simp_all; done) | (go_ret; refine ⟨?_, HBE.out⟩; rw [HVV.out]; first | rfl | (subst_vars; rfl)))
        · by_cases hk3 : kd = 3
          · subst hk3
            have HVV : Hid (V = .iface 162 (.agg #[.int .i64 3, .int .i64 lb, .int .i64 od, .int .i64 pl, .int .i64 u1, .int .i64 u2, .int .i64 u3, .int .i64 3, .int .i64 lb, .int .i64 od, .int .i64 pl, .int .i64 u1, .int .i64 u2, .int .i64 u3, .int .i64 rm, .slice af nf cf, .slice ak nk ck, .int .i64 3, .int .i64 lb, .int .i64 od, .int .i64 pl, .int .i64 u1, .int .i64 u2, .int .i64 u3, .slice am nm cm, .slice aq nq cq])) := by rw [Hid, HV.out]; simp [zeroC]
            go_wp2_with fail
            all_goals (first | (exfalso; simp_all; done) | (go_ret; refine ⟨?_, HBE.out⟩; rw [HVV.out]; first | rfl | (subst_vars; rfl)))
          · skip
            have hq1 : (kd == 1) = false := by simp [hk1]
            have hq2 : (kd == 2) = false := by simp [hk2]
            have hq3 : (kd == 3) = false := by simp [hk3]
            have HVV : Hid (V = .iface 162 (.agg #[.int .i64 kd, .int .i64 lb, .int .i64 od, .int .i64 pl, .int .i64 u1, .int .i64 u2, .int .i64 u3, .int .i64 kd, .int .i64 lb, .int .i64 od, .int .i64 pl, .int .i64 u1, .int .i64 u2, .int .i64 u3, .int .i64 rm, .slice af nf cf, .slice ak nk ck, .int .i64 kd, .int .i64 lb, .int .i64 od, .int .i64 pl, .int .i64 u1, .int .i64 u2, .int .i64 u3, .slice am nm cm, .slice aq nq cq])) := by rw [Hid, HV.out]; simp [zeroC, hk1, hk2, hk3]
            go_wp2_with fail
            all_goals (first | (exfalso; simp_all; done) | (go_ret; refine ⟨?_, HBE.out⟩; rw [HVV.out]; first | rfl | (subst_vars; rfl)))
    · by_cases hk1 : kd = 1
      · subst hk1
        have HVV : Hid (V = .iface 162 (.agg #[.int .i64 1, .int .i64 lb, .int .i64 od, .int .i64 pl, .int .i64 u1, .int .i64 u2, .int .i64 u3, .int .i64 1, .int .i64 lb, .int .i64 od, .int .i64 pl, .int .i64 u1, .int .i64 u2, .int .i64 u3, .int .i64 rm, .slice af nf cf, .slice ak nk ck, .int .i64 1, .int .i64 lb, .int .i64 od, .int .i64 pl, .int .i64 u1, .int .i64 u2, .int .i64 u3, .slice am nm cm, .slice aq nq cq])) := by rw [Hid, HV.out]; simp [zeroC]
        go_wp2_with fail
        all_goals (first | (exfalso; simp_all; done) | (go_ret; refine ⟨?_, HBE.out⟩; rw [HVV.out]; first | rfl | (subst_vars; rfl)))
      · by_cases hk2 : kd = 2
        · subst hk2
          have HVV : Hid (V = .iface 162 (.agg #[.int .i64 2, .int .i64 lb, .int .i64 od, .int .i64 pl, .int .i64 u1, .int .i64 u2, .int .i64 u3, .int .i64 2, .int .i64 lb, .int .i64 od, .int .i64 pl, .int .i64 u1, .int .i64 u2, .int .i64 u3, .int .i64 rm, .slice af nf cf, .slice ak nk ck, .int .i64 2, .int .i64 lb, .int .i64 od, .int .i64 pl, .int .i64 u1, .int .i64 u2, .int .i64 u3, .slice am nm cm, .slice aq nq cq])) := by rw [Hid, HV.out]; simp [zeroC]
          go_wp2_with fail
          all_goals (first | (exfalso; simp_all; done) | (go_ret; refine ⟨?_, HBE.out⟩; rw [HVV.out]; first | rfl | (subst_vars; rfl)))
        · by_cases hk3 : kd = 3
          · subst hk3
            have HVV : Hid (V = .iface 160 (.agg #[.int .i64 3, .int .i64 lb, .int .i64 od, .int .i64 pl, .int .i64 u1, .int .i64 u2, .int .i64 u3, .slice am nm cm, .slice aq nq cq])) := by rw [Hid, HV.out]; simp [zeroC]
            go_wp2_with fail
            all_goals (first | (exfalso; simp_all; done) | (go_ret; refine ⟨?_, HBE.out⟩; rw [HVV.out]; first | rfl | (subst_vars; rfl)))
          · skip
            have hq1 : (kd == 1) = false := by simp [hk1]
            have hq2 : (kd == 2) = false := by simp [hk2]
            have hq3 : (kd == 3) = false := by simp [hk3]
            have HVV : Hid (V = .iface 162 (.agg #[.int .i64 kd, .int .i64 lb, .int .i64 od, .int .i64 pl, .int .i64 u1, .int .i64 u2, .int .i64 u3, .int .i64 kd, .int .i64 lb, .int .i64 od, .int .i64 pl, .int .i64 u1, .int .i64 u2, .int .i64 u3, .int .i64 rm, .slice af nf cf, .slice ak nk ck, .int .i64 kd, .int .i64 lb, .int .i64 od, .int .i64 pl, .int .i64 u1, .int .i64 u2, .int .i64 u3, .slice am nm cm, .slice aq nq cq])) := by rw [Hid, HV.out]; simp [zeroC, hk1, hk2, hk3]
            go_wp2_with fail
            all_goals (first | (exfalso; simp_all; done) | (go_ret; refine ⟨?_, HBE.out⟩; rw [HVV.out]; first | rfl | (subst_vars; rfl)))
    · by_cases hz : kd = 0 ∧ lb = 0 ∧ od = 0 ∧ pl = 0 ∧ u1 = 0 ∧ u2 = 0 ∧ u3 = 0
      · obtain ⟨rfl, rfl, rfl, rfl, rfl, rfl, rfl⟩ := hz
        have HVV : Hid (V = .iface 176 (.agg #[])) := by rw [Hid, HV.out]; simp [zeroC]
        go_wp2_with fail
        all_goals (first | (exfalso; simp_all; done) | (go_ret; refine ⟨?_, HBE.out⟩; rw [HVV.out]; first | rfl | (subst_vars; rfl)))
      · by_cases hk1 : kd = 1
        · subst hk1
          have HVV : Hid (V = .iface 156 (.agg #[.int .i64 1, .int .i64 lb, .int .i64 od, .int .i64 pl, .int .i64 u1, .int .i64 u2, .int .i64 u3, .int .i64 rm, .slice af nf cf, .slice ak nk ck])) := by rw [Hid, HV.out]; simp [zeroC]
          go_wp2_with fail
          all_goals (first | (exfalso; simp_all; done) | (go_ret; refine ⟨?_, HBE.out⟩; rw [HVV.out]; first | rfl | (subst_vars; rfl)))
        · by_cases hk2 : kd = 2
          · subst hk2
            have HVV : Hid (V = .iface 179 (.agg #[.int .i64 2, .int .i64 lb, .int .i64 od, .int .i64 pl, .int .i64 u1, .int .i64 u2, .int .i64 u3])) := by rw [Hid, HV.out]; simp [zeroC]
            go_wp2_with fail
            all_goals (first | (exfalso; simp_all; done) | (go_ret; refine ⟨?_, HBE.out⟩; rw [HVV.out]; first | rfl | (subst_vars; rfl)))
          · by_cases hk3 : kd = 3
            · subst hk3
              have HVV : Hid (V = .iface 160 (.agg #[.int .i64 3, .int .i64 lb, .int .i64 od, .int .i64 pl, .int .i64 u1, .int .i64 u2, .int .i64 u3, .slice am nm cm, .slice aq nq cq])) := by rw [Hid, HV.out]; simp [zeroC]
              go_wp2_with fail
              all_goals (first | (exfalso; simp_all; done) | (go_ret; refine ⟨?_, HBE.out⟩; rw [HVV.out]; first | rfl | (subst_vars; rfl)))
            · skip
              have hq1 : (kd == 1) = false := by simp [hk1]
              have hq2 : (kd == 2) = false := by simp [hk2]
              have hq3 : (kd == 3) = false := by simp [hk3]
              have HVV : Hid (V = .iface 162 (.agg #[.int .i64 kd, .int .i64 lb, .int .i64 od, .int .i64 pl, .int .i64 u1, .int .i64 u2, .int .i64 u3, .int .i64 kd, .int .i64 lb, .int .i64 od, .int .i64 pl, .int .i64 u1, .int .i64 u2, .int .i64 u3, .int .i64 rm, .slice af nf cf, .slice ak nk ck, .int .i64 kd, .int .i64 lb, .int .i64 od, .int .i64 pl, .int .i64 u1, .int .i64 u2, .int .i64 u3, .slice am nm cm, .slice aq nq cq])) := by rw [Hid, HV.out]; simp [zeroC, hz, hk1, hk2, hk3]
              go_wp2_with fail
              all_goals (first | (exfalso; simp_all; done) | (go_ret; refine ⟨?_, HBE.out⟩; rw [HVV.out]; first | rfl | (subst_vars; rfl)))
end Go.Proofs.Ytohgafblffnekaa.deep
