/-
  The law FnExactSchedRun answers true at every argument: SchedRun answers as the specification, writes into no argument, and its answer owns its memory. Conditions: none.
-/
import Derived.Test.YtnkkkdhpopfahaaSchSr
import Derived.Test.YtnkkkdhpopfahaaSchIr
import Derived.Test.YtnkkkdhpopfahaaSchTk
import Derived.Test.YtnkkkdhpopfahaaSchSt
import Derived.Test.YtnkkkdhpopfahaaSchOpen
import Derived.Deep.RegionHeld3
import Derived.OpenShut
import Derived.Carry
namespace Go.Proofs.Ytnkkkdhpopfahaa.fnExactSchedRun
open Go.ChangeShapes Go.WideShapes Go.ChangeAt Go.RowKit
open Go.Proofs.Ytnkkkdhpopfahaa
open Go.Proofs.Ytnkkkdhpopfahaa.deep
open Go.Proofs.Ytnkkkdhpopfahaa.sch
set_option linter.unusedVariables false
set_option maxRecDepth 100000

theorem own : ownKnob Try.prog.godebug = none := by kernel_rfl
theorem six {w W : World} {B X t1 t2 : Nat} {a b c d e f : Value} (h1 : Blk w B t1 [a, b, c]) (h2 : Blk w X t2 [d, e, f]) (hb : Below w.heap.size w W) :
    W.cell? ⟨B, 0, none⟩ = some a ∧ W.cell? ⟨B, 1, none⟩ = some b ∧ W.cell? ⟨B, 2, none⟩ = some c ∧ W.cell? ⟨X, 0, none⟩ = some d ∧ W.cell? ⟨X, 1, none⟩ = some e ∧ W.cell? ⟨X, 2, none⟩ = some f :=
  ⟨(h1.later hb).cell 0, (h1.later hb).cell 1, (h1.later hb).cell 2, (h2.later hb).cell 0, (h2.later hb).cell 1, (h2.later hb).cell 2⟩
set_option maxHeartbeats 16000000 in
theorem walk (x : SchedD) (vo vt : Value) (e0 : Int) (ts : List Tt) (hd2 : ts.length ≤ 1048576) (w : World) (h : SF 0 w vo vt x)
    (sp : ∀ l (p q : Addr) (n n' : Nat) W, SF l W (.slice (some p) n n) (.slice (some q) n' n') x → Calls Try.prog 27 #[.agg #[.slice (some p) n n, .int .i64 x.now, .slice (some q) n' n'], .int .i64 e0] W (SpecTks ts W))
    (im : ∀ l u a n W, SF l W u (.slice a n n) x → Calls Try.prog 28 #[.agg #[u, .int .i64 x.now, .slice a n n], .int .i64 e0] W (ImplTks ts W)) :
    Calls Try.prog 7 #[.agg #[vo, .int .i64 x.now, vt], .int .i64 e0] w fun e w' => e = .returned (.bool true) ∧ Below w.heap.size w w' := by
  obtain ⟨ao, co, hvo, hmo, -⟩ := int_at h.1
  obtain ⟨at', ct, hvt, hmt, -⟩ := tk_at h.2
  unfold maxLen at hmo hmt
  obtain ⟨no, hno⟩ : ∃ n, n = x.order.length := ⟨_, rfl⟩
  obtain ⟨nt, hnt⟩ : ∃ n, n = x.tasks.length := ⟨_, rfl⟩
  rw [← hno] at hvo hmo
  rw [← hnt] at hvt hmt
  obtain ⟨nw, hnw⟩ : ∃ n, n = x.now := ⟨_, rfl⟩
  rw [← hnw] at sp im ⊢
  have HSZ : Hid (∀ W, Calls Try.prog 9 #[.agg #[vo, .int .i64 nw, vt], .int .i64 1048576] W fun e w' => e = .returned (.int .i64 (if (no : Int) + nt ≤ 1048576 then 1048576 - no - nt else -1)) ∧ Below W.heap.size W w') := fun W => by rw [hvo, hvt]; exact sz_sched ao at' no co nt ct nw (by omega) (by omega) W
  have HT : Hid ((no : Int) + nt ≤ 1048576 → ∀ W, Below w.heap.size w W → Calls Try.prog 11 #[.agg #[vo, .int .i64 nw, vt]] W (ToSched x W)) := fun hn W hW => by rw [hnw]; exact to_sched x (h.later hW) (by omega) (by omega)
  have HNW : Hid (nw = x.now) := hnw
  have HXL : Hid (x.order.length = no ∧ x.tasks.length = nt) := ⟨hno.symm, hnt.symm⟩
  have HE : Hid (∀ W l1 l2 u1 v1 u2 v2, SF l1 W u1 v1 x → SF l2 W u2 v2 x → Calls Try.prog 13 #[.agg #[u1, .int .i64 nw, v1], .agg #[u2, .int .i64 nw, v2]] W fun e w' => e = .returned (.bool true) ∧ Below W.heap.size W w') := fun W l1 l2 u1 v1 u2 v2 h1 h2 => by rw [hnw]; exact eq_sched h1 h2
  have HMX : Hid (∀ W u v, Mks W 1 u → Mks W 3 v → Calls Try.prog 24 #[.agg #[u, .int .i64 nw, v], .int .i64 1] W fun e w' => e = .returned (.int .i64 (kOf u v)) ∧ ∃ V, Below W.heap.size W V ∧ w' = markS V u v) := fun W u v h1 h2 => (mark_sched nw h1 h2).mono fun e w' h => ⟨h.1, _, below_one _ _, h.2⟩
  unfold ToSched at HT
  rw [← hnw] at HT
  have HEQ : Hid (∀ W l1 l2 (a : Option Addr) (n c : Nat) (a' : Option Addr) (n' c' : Nat), RowE (Plain ctk) 3 l1 W (.slice a n c) ts → RowE (Plain ctk) 3 l2 W (.slice a' n' c') ts → Calls Try.prog 29 #[.slice a n c, .slice a' n' c'] W fun e w' => e = .returned (.bool true) ∧ Below W.heap.size W w') := fun W l1 l2 a n c a' n' c' h1 h2 => eq_tks h1 h2
  have HMK : Hid (∀ W (a : Option Addr) (n c : Nat), Mks W 3 (.slice a n c) → Calls Try.prog 30 #[.slice a n c, .int .i64 1] W fun e' w' => e' = .returned (.int .i64 (1 + 3 * (n : Int))) ∧ w' = markV W 3 (.slice a n c) 1) := fun W a n c h1 => mark_tks h1 (by omega) (by omega)
  have HHD : Hid (∀ W (a : Option Addr) (n c : Nat), HeldV W 3 (.slice a n c) 1 → Calls Try.prog 31 #[.slice a n c, .int .i64 1] W fun e' w' => e' = .returned (.int .i64 (1 + 3 * (n : Int))) ∧ w' = W) := fun W a n c h => held_tks h (by omega) (by omega)
  have HS : Hid (∀ l (p q : Addr) (n n' : Nat) W, SF l W (.slice (some p) n n) (.slice (some q) n' n') x → Calls Try.prog 27 #[.agg #[.slice (some p) n n, .int .i64 nw, .slice (some q) n' n'], .int .i64 e0] W fun e' w' => ∃ a c, e' = .returned (.slice a ts.length c) ∧ RowE (Plain ctk) 3 W.heap.size w' (.slice a ts.length c) ts ∧ Below W.heap.size W w') := fun l p q n n' W hW => (sp l p q n n' W hW).mono fun e' w' ⟨vt, he, hs, hb⟩ => by
    obtain ⟨b, e, e2, -⟩ := tk_at hs
    subst e2
    exact ⟨b, e, he, hs, hb⟩
  have HI : Hid (∀ l u a0 n0 W, SF l W u (.slice a0 n0 n0) x → Calls Try.prog 28 #[.agg #[u, .int .i64 nw, .slice a0 n0 n0], .int .i64 e0] W fun e' w' => ∃ a c, e' = .returned (.slice a ts.length c) ∧ RowE (Plain ctk) 3 W.heap.size w' (.slice a ts.length c) ts ∧ Below W.heap.size W w' ∧ Mks w' 3 (.slice a ts.length c)) := fun l u a0 n0 W hW => (im l u a0 n0 W hW).mono fun e' w' ⟨vt, he, hs, hb, f2⟩ => by
    have m2 := tk_marks hs f2 hd2
    obtain ⟨b, e, e2, -⟩ := tk_at hs
    subst e2
    exact ⟨b, e, he, hs, hb, m2⟩
  obtain ⟨m, hm⟩ : ∃ m, m = ts.length := ⟨_, rfl⟩
  rw [← hm] at hd2 HS HI
  clear h hno hnt hnw sp im hm
  subst hvo hvt
  by_cases hn : (no : Int) + nt ≤ 1048576
  · rw [if_pos hn] at HSZ
    have HT2 : Hid _ := HT.out hn
    have hbn : (0 : Int) ≤ 1048576 - no - nt := by omega
    have HXO : Hid (x.order.length ≤ 1048576 ∧ x.tasks.length ≤ 1048576) := by obtain ⟨h1, h2⟩ := HXL.out; exact ⟨by omega, by omega⟩
    clear HT HXL
    go_enter Try.func7, Try.ntmps7
    go_wp2_with fail
    refine Calls.mono (HSZ.out _) ?_
    rintro e w1 ⟨rfl, hb1⟩
    have HL1 : Hid (Blk w1 w.heap.size 25 [.slice ao no co, .int .i64 nw, .slice at' nt ct]) := (blk_new w [.slice ao no co, .int .i64 nw, .slice at' nt ct] 25).later hb1
    have HB1 : Hid (Below w.heap.size w w1) := below_tr (below_one w _) hb1
    obtain ⟨c0, c1, c2⟩ := cells3s HL1.out
    clear hb1
    go_wp2_with fail
    refine Calls.mono (HT2.out _ HB1.out) ?_
    rintro e w2 ⟨go2, no2, gt2, nt2, rfl, hr2, _, _, hb2⟩
    have HR2 : Hid (SF w1.heap.size w2 (.slice (some ⟨go2, 0, none⟩) no2 no2) (.slice (some ⟨gt2, 0, none⟩) nt2 nt2) x) := hr2
    have HL2 : Hid (Blk w2 w.heap.size 25 [.slice ao no co, .int .i64 nw, .slice at' nt ct]) := HL1.out.later hb2
    have HB2 : Hid (Below w.heap.size w w2) := below_tr HB1.out hb2
    clear hb2 hr2 HL1 HB1 c0 c1 c2
    go_wp2_with fail
    refine Calls.mono (HS.out _ _ _ _ _ _ HR2.out) ?_
    rintro e U3 ⟨a3, c3, rfl, hs3, hb3⟩
    have HA3' : Hid (RowE (Plain ctk) 3 w2.heap.size U3 (.slice a3 m c3) ts) := hs3
    have HL3' : Hid (Blk U3 w.heap.size 25 [.slice ao no co, .int .i64 nw, .slice at' nt ct]) := HL2.out.later hb3
    have HB3' : Hid (Below w.heap.size w U3) := below_tr HB2.out hb3
    obtain ⟨c0, c1, c2⟩ := cells3s HL3'.out
    clear hb3 hs3 HL2 HB2 HR2
    go_wp2_with fail
    clear c0 c1 c2
    refine Calls.mono (HT2.out _ HB3'.out) ?_
    rintro e w4 ⟨go4, no4, gt4, nt4, rfl, hr4, hf4, hg4, hb4⟩
    have hx4 := HXO.out
    have HP4 : Hid (Within U3.heap.size w4.heap.size (.slice (some ⟨go4, 0, none⟩) no4 no4) ∧ Within U3.heap.size w4.heap.size (.slice (some ⟨gt4, 0, none⟩) nt4 nt4)) := ⟨row_spot hr4.1, row_spot hr4.2⟩
    have HR4 : Hid (SF U3.heap.size w4 (.slice (some ⟨go4, 0, none⟩) no4 no4) (.slice (some ⟨gt4, 0, none⟩) nt4 nt4) x ∧ Mks w4 1 (.slice (some ⟨go4, 0, none⟩) no4 no4) ∧ Mks w4 3 (.slice (some ⟨gt4, 0, none⟩) nt4 nt4)) := ⟨hr4, int_marks hr4.1 hf4 hx4.1, tk_marks hr4.2 hg4 hx4.2⟩
    have HK4 : Hid (Below U3.heap.size U3 w4) := hb4
    have HL4 : Hid (Blk w4 w.heap.size 25 [.slice ao no co, .int .i64 nw, .slice at' nt ct]) := HL3'.out.later hb4
    clear hb4 hr4 hf4 hg4 hx4
    go_wp2_with fail
    obtain ⟨U4, hU4⟩ : ∃ U, U = w4.alloc (.cells #[.slice (some ⟨go4, 0, none⟩) no4 no4, .int .i64 nw, .slice (some ⟨gt4, 0, none⟩) nt4 nt4] 30) := ⟨_, rfl⟩
    have hbU : Below w4.heap.size w4 U4 := by rw [hU4]; exact below_one _ _
    have HX4 : Hid (XB x U3.heap.size w4.heap.size (.slice (some ⟨go4, 0, none⟩) no4 no4) (.slice (some ⟨gt4, 0, none⟩) nt4 nt4) U4) := ⟨by rw [hU4, ← HNW.out]; exact blk_new _ _ _, HR4.out.1.later hbU, HR4.out.2.1.later hbU, HR4.out.2.2.later hbU⟩
    have HK4' : Hid (Below U3.heap.size U3 U4) := below_tr HK4.out hbU
    have HL4' : Hid (Blk U4 w.heap.size 25 [.slice ao no co, .int .i64 nw, .slice at' nt ct]) := HL4.out.later hbU
    have h3x : U3.heap.size ≤ w4.heap.size := HK4.out.size
    rw [← hU4]
    clear hU4 hbU HR4 HK4 HL4
    obtain ⟨x4, hx4⟩ : ∃ n, n = w4.heap.size := ⟨_, rfl⟩
    rw [← hx4] at HX4 HP4 h3x ⊢
    clear hx4
    have h4x : x4 < U4.heap.size := HX4.out.1.lt
    refine Calls.mono (HI.out _ _ _ _ _ HX4.out.2.1) ?_
    rintro e U5 ⟨a5, c5, rfl, hs5, hb5, hm5⟩
    have HP5 : Hid (Within U4.heap.size U5.heap.size (.slice a5 m c5)) := row_spot hs5
    have HA5 : Hid (ANt ts U4.heap.size (.slice a5 m c5) U5) := ⟨hs5, hm5⟩
    have HX5 : Hid (XB x U3.heap.size x4 (.slice (some ⟨go4, 0, none⟩) no4 no4) (.slice (some ⟨gt4, 0, none⟩) nt4 nt4) U5) := HX4.out.later hb5
    have HK5 : Hid (Below U3.heap.size U3 U5) := below_tr HK4'.out hb5
    have HL5 : Hid (Blk U5 w.heap.size 25 [.slice ao no co, .int .i64 nw, .slice at' nt ct]) := HL4'.out.later hb5
    have HC5 : Hid (RowE (Plain ctk) 3 w2.heap.size U5 (.slice a3 m c3) ts) := HA3'.out.below (plain_stays _) HK5.out
    clear hb5 hs5 hm5 HX4 HK4' HL4'
    go_wp2_with fail
    refine Calls.mono (HEQ.out _ _ _ _ _ _ _ _ _ HA5.out.1 HC5.out) ?_
    rintro e w6 ⟨rfl, hb6⟩
    have HA6 : Hid (ANt ts U4.heap.size (.slice a5 m c5) w6) := HA5.out.later hb6
    have HX6 : Hid (XB x U3.heap.size x4 (.slice (some ⟨go4, 0, none⟩) no4 no4) (.slice (some ⟨gt4, 0, none⟩) nt4 nt4) w6) := HX5.out.later hb6
    have HK6 : Hid (Below U3.heap.size U3 w6) := below_tr HK5.out hb6
    have HL6 : Hid (Blk w6 w.heap.size 25 [.slice ao no co, .int .i64 nw, .slice at' nt ct]) := HL5.out.later hb6
    clear hb6 HA5 HX5 HK5 HC5 HL5
    have HXW : Hid (Blk w6 x4 30 [.slice (some ⟨go4, 0, none⟩) no4 no4, .int .i64 nw, .slice (some ⟨gt4, 0, none⟩) nt4 nt4]) := by rw [HNW.out]; exact HX6.out.1
    have hM0 := six HL6.out HXW.out (Below.refl _ _)
    have hMd := six HL6.out HXW.out (Below.drew (Below.refl _ _))
    go_wp2_with fail
    go_region_held3 (fun W => W.cell? ⟨w.heap.size, 0, none⟩ = some (.slice ao no co) ∧ W.cell? ⟨w.heap.size, 1, none⟩ = some (.int .i64 nw) ∧ W.cell? ⟨w.heap.size, 2, none⟩ = some (.slice at' nt ct) ∧ W.cell? ⟨x4, 0, none⟩ = some (.slice (some ⟨go4, 0, none⟩) no4 no4) ∧ W.cell? ⟨x4, 1, none⟩ = some (.int .i64 nw) ∧ W.cell? ⟨x4, 2, none⟩ = some (.slice (some ⟨gt4, 0, none⟩) nt4 nt4))
      (with_reducible first | assumption | exact hM0 | exact hMd | exact Z7 | exact Z8)
      (first | (go_at_call 11; refine Calls.mono (HT2.out _ (Below.drew (below_tr HB3'.out HK6.out))) ?_; rintro e w7 ⟨go7, no7, gt7, nt7, rfl, hr7, _, _, hb7⟩; have hb7' : Below w6.heap.size w6 w7 := Below.trans (Below.drew (Below.refl w6.heap.size w6)) hb7; have Z7 := six HL6.out HXW.out hb7'; have HR7b : Hid (SF U3.heap.size w7 (.slice (some ⟨go4, 0, none⟩) no4 no4) (.slice (some ⟨gt4, 0, none⟩) nt4 nt4) x) := HX6.out.2.1.later hb7'; have HR7 : Hid (SF w6.heap.size w7 (.slice (some ⟨go7, 0, none⟩) no7 no7) (.slice (some ⟨gt7, 0, none⟩) nt7 nt7) x) := hr7; have HB67 : Hid (Below w6.heap.size w6 w7) := hb7'; clear hb7 hb7' hr7) | (go_at_call 13; refine Calls.mono (HE.out _ _ _ _ _ _ _ HR7b.out HR7.out) ?_; rintro e w8 ⟨rfl, hb8⟩; have HB8 : Hid (Below w6.heap.size w6 w8) := below_tr HB67.out hb8; have Z8 := six HL6.out HXW.out HB8.out; clear hb8))
    have HA8 : Hid (ANt ts U4.heap.size (.slice a5 m c5) w8) := HA6.out.later HB8.out
    have HX8 : Hid (XB x U3.heap.size x4 (.slice (some ⟨go4, 0, none⟩) no4 no4) (.slice (some ⟨gt4, 0, none⟩) nt4 nt4) w8) := HX6.out.later HB8.out
    have HK8 : Hid (Below U3.heap.size U3 w8) := below_tr HK6.out HB8.out
    have HX8b : Hid (Blk w8 x4 30 [.slice (some ⟨go4, 0, none⟩) no4 no4, .int .i64 nw, .slice (some ⟨gt4, 0, none⟩) nt4 nt4]) := by rw [HNW.out]; exact HX8.out.1
    obtain ⟨p0, p1, p2⟩ := cells3s HX8b.out
    clear HB8 Z8 Z7 HR7 HR7b HB67 hM0 hMd HXW HA6 HX6 HK6 HL6
    go_wp2_with fail
    refine Calls.mono (HMX.out _ _ _ HX8.out.2.2.1 HX8.out.2.2.2) ?_
    rintro e w9 ⟨rfl, V9, hb9, hw9⟩
    have HA9 : Hid (ANt ts U4.heap.size (.slice a5 m c5) w9) := by rw [hw9]; exact ANt.past (HA8.out.later hb9) HP4.out.1 HP4.out.2 (Nat.le_of_lt h4x)
    have HK9 : Hid (Below U3.heap.size U3 w9) := by rw [hw9]; exact past_below (below_tr HK8.out hb9) HP4.out.1 HP4.out.2 (Nat.le_refl _)
    have HKX : Hid (0 ≤ kOf (.slice (some ⟨go4, 0, none⟩) no4 no4) (.slice (some ⟨gt4, 0, none⟩) nt4 nt4)) := by show _ ≤ _; unfold kOf; omega
    have HC9 : Hid (RowE (Plain ctk) 3 w2.heap.size w9 (.slice a3 m c3) ts) := HA3'.out.below (plain_stays _) HK9.out
    clear hw9 hb9 HA8 HX8 HK8 HX8b p0 p1 p2
    generalize kOf (.slice (some ⟨go4, 0, none⟩) no4 no4) (.slice (some ⟨gt4, 0, none⟩) nt4 nt4) = kx at *
    have hkx := HKX.out
    go_wp2_with fail
    refine Calls.mono (HEQ.out _ _ _ _ _ _ _ _ _ HA9.out.1 HC9.out) ?_
    rintro e w10 ⟨rfl, hb10⟩
    have HA10 : Hid (ANt ts U4.heap.size (.slice a5 m c5) w10) := HA9.out.later hb10
    have HK10 : Hid (Below U3.heap.size U3 w10) := below_tr HK9.out hb10
    clear hb10 HA9 HK9 HC9
    go_wp2_with fail
    refine Calls.mono (HMK.out _ _ _ _ HA10.out.2) ?_
    rintro e w11 ⟨rfl, hw11⟩
    have HH11 : Hid (HNt (.slice a5 m c5) w11) := by rw [hw11]; exact HA10.out.held
    have HK11 : Hid (Below U3.heap.size U3 w11) := by rw [hw11]; exact markV_below HK10.out (fun g o p q => Nat.le_trans (by omega) (HP5.out g o p q).1)
    have HHD2 : Hid (∀ W, HeldV W 3 (.slice a5 m c5) 1 → Calls Try.prog 31 #[.slice a5 m c5, .int .i64 1] W fun e' w' => e' = .returned (.int .i64 (1 + 3 * (m : Int))) ∧ w' = W) := fun W h => HHD.out _ _ _ _ h
    have hkg : 0 ≤ 1 + 3 * (m : Int) := by omega
    clear hw11 HA10 HK10 HHD HMK
    generalize 1 + 3 * (m : Int) = kg at *
    go_wp2_with fail
    refine Calls.mono (HHD2.out _ HH11.out.1) ?_
    rintro e w12 ⟨rfl, rfl⟩
    have HH12 : Hid (HNt (.slice a5 m c5) w12) := HH11.out
    have HK12 : Hid (Below U3.heap.size U3 w12) := HK11.out
    have HL12 : Hid (Blk w12 w.heap.size 25 [.slice ao no co, .int .i64 nw, .slice at' nt ct]) := HL3'.out.later HK12.out
    clear HH11 HK11
    obtain ⟨c0, c1, c2⟩ := cells3s HL12.out
    go_wp2_with fail
    refine Calls.mono (HT2.out _ (below_tr HB3'.out HK12.out)) ?_
    rintro e w13 ⟨go13, no13, gt13, nt13, rfl, hr13, _, _, hb13⟩
    have HH13 : Hid (HNt (.slice a5 m c5) w13) := HH12.out.later hb13
    have HK13 : Hid (Below U3.heap.size U3 w13) := below_tr HK12.out hb13
    have HR13 : Hid (SF w12.heap.size w13 (.slice (some ⟨go13, 0, none⟩) no13 no13) (.slice (some ⟨gt13, 0, none⟩) nt13 nt13) x) := hr13
    clear hb13 hr13 HH12 HK12 HL12 c0 c1 c2
    go_wp2_with fail
    refine Calls.mono (HI.out _ _ _ _ _ HR13.out) ?_
    rintro e w14 ⟨ah, ch, rfl, hs14, hb14, -⟩
    have HA14 : Hid (RowE (Plain ctk) 3 w13.heap.size w14 (.slice ah m ch) ts) := hs14
    have HH14 : Hid (HNt (.slice a5 m c5) w14) := HH13.out.later hb14
    have HK14 : Hid (Below U3.heap.size U3 w14) := below_tr HK13.out hb14
    have HC14 : Hid (RowE (Plain ctk) 3 w2.heap.size w14 (.slice a3 m c3) ts) := HA3'.out.below (plain_stays _) HK14.out
    clear hb14 hs14 HH13 HK13 HR13
    go_wp2_with fail
    refine Calls.mono (HEQ.out _ _ _ _ _ _ _ _ _ HA14.out HC14.out) ?_
    rintro e w16 ⟨rfl, hb16⟩
    have HH16 : Hid (HNt (.slice a5 m c5) w16) := HH14.out.later hb16
    have HK16 : Hid (Below U3.heap.size U3 w16) := below_tr HK14.out hb16
    clear hb16 HA14 HH14 HK14 HC14
    go_wp2_with fail
    refine Calls.mono (HHD2.out _ HH16.out.1) ?_
    rintro e w17 ⟨rfl, rfl⟩
    have HBE : Hid (Below w.heap.size w w17) := below_tr HB3'.out HK16.out
    clear HH16 HK16
    go_wp2_with fail
    go_ret
    exact ⟨rfl, HBE.out⟩
  · rw [if_neg hn] at HSZ
    clear HT
    go_enter Try.func7, Try.ntmps7
    go_wp2_with fail
    refine Calls.mono (HSZ.out _) ?_
    rintro e w1 ⟨rfl, hb1⟩
    have HB1 : Hid (Below w.heap.size w w1) := below_tr (below_one w _) hb1
    clear hb1
    go_wp2_with fail
    go_ret
    exact ⟨rfl, HB1.out⟩

theorem whole (x : SchedD) (vo vt : Value) (e0 : Int) (w : World) (h : SF 0 w vo vt x) :
    Calls Try.prog 7 #[.agg #[vo, .int .i64 x.now, vt], .int .i64 e0] w fun e w' => e = .returned (.bool true) ∧ Below w.heap.size w w' := by
  have hl : (runL x e0).length ≤ 1048576 := by
    unfold runL
    split
    · rename_i hs
      simp only [Bool.and_eq_true] at hs
      have h1 := isB_of.1 hs.2
      rw [ran_len]
      unfold turnsN
      omega
    · simp
  exact walk x vo vt e0 (runL x e0) hl w h
    (fun l p q n n' W hW => (spec_run x e0 p q n n n' n' (Nat.le_refl _) hW).mono fun e w' ⟨v, h1, h2, h3⟩ => ⟨v, h1, (tks_free h2).1, h3⟩)
    (fun l u a n W hW => impl_run x e0 a n n (Nat.le_refl _) hW)

set_option maxRecDepth 100000 in
theorem lifted (os : Os) (started : os.Started) (H : Type) (enc : TypeId × Value → H) :
    ReturnsInHanded {} Try.checked os 7 .any (Rows.fnExactSchedRunSpec.pre6 enc Try.prog Try.f7 Rows.fnExactSchedRunRow.domain false) (Rows.fnExactSchedRunSpec.post enc Try.prog Try.f7 false true false false) := by
  refine returnsInHanded_of_change (C := Try.checked) own started (by kernel_rfl) Try.func7
    (ChangeSpec.witness6 (enc := enc) (C := Try.checked) false ⟨#[], #[.agg #[.slice none 0 0, .int .i64 0, .slice none 0 0], .int .i64 0], []⟩ 8 (by kernel_rfl) (by kernel_rfl) (by kernel_rfl) (by kernel_rfl)) ?_
  intro W base args ds gs before hval0 hW hcnd _
  have hval : ∀ (j : Nat) t v, Try.f7.params[j]? = some t → args[j]? = some v → Value.okWide Try.prog W .any base t v := hval0
  have hW' := hW
  obtain ⟨p, q, hA0, hV, rfl, hfz, hnd⟩ := hW
  have hA : DataW.TrodAll enc Try.prog W 0 (fun _ => true) true Try.f7.params.toList args.toList ds p := hA0
  rw [Try.params7] at hA hval
  obtain ⟨v0, vs0, d0, ds0, p0, q0, hargs, rfl, rfl, h0, r0⟩ := trodAll_cons hA
  obtain ⟨v1, vs1, d1, ds1, p1, q1, hargs1, rfl, rfl, h1, r1⟩ := trodAll_cons r0
  obtain ⟨rfl, rfl, rfl⟩ := trodAll_nil r1
  obtain rfl : args = #[v0, v1] := by cases args; simp_all
  obtain ⟨rfl, rfl⟩ := trodVars_none hV
  obtain ⟨e0, rfl, rfl, rfl, u1⟩ := open_int Try.underlying2 (hval 1 2 v1 rfl rfl) h1
  have h0k := h0
  obtain ⟨fuel, hf⟩ := h0k
  obtain ⟨hlen, _⟩ := open_struct Try.underlying25 hf
  rw [cells_sc] at hlen
  obtain ⟨x, vo, vt, hcs, hx⟩ := open_sc fuel _ _ hlen hf
  obtain rfl : v0 = .agg #[vo, .int .i64 x.now, vt] := agg_sc (hval 0 25 v0 rfl rfl) hcs
  clear hA0 hval0 hf
  simp only [List.append_nil] at hW'
  have hlt : ∀ y ∈ p0, y.block < W.heap.size := fun y hy => by simpa using hW'.lt y (by simpa using hy)
  refine (whole x vo vt e0 W hx).mono fun e W' ⟨he, hg⟩ => ?_
  subst he
  have harg0 : DataW.Trod enc Try.prog W' 0 (fun b => decide (b < W.heap.size)) true 25 (.agg #[vo, .int .i64 x.now, vt]) d0 p0 :=
    Below.trod laidOutS (by kernel_rfl) (of_decide_eq_true (by kernel_rfl)) h0 hg (fun y hy => hlt y hy)
  exact ⟨_, rfl, _, _, _, [], _, [], hW', (trodAll_cons_mk (shut_bool Try.underlying4 _) trodAll_mk0), (trodAll_cons_mk harg0 (trodAll_cons_mk (shut_int Try.underlying2 u1) trodAll_mk0)), rfl, hg.frame _, fun h => by cases h⟩

/-- the statement -/
theorem proved : Rows.FnExactSchedRunSaid :=
  OpenClaim.holds_of_wide 7 Try.f7 rfl rfl rfl rfl rfl rfl rfl ⟨rfl, rfl, rfl, rfl, rfl⟩ rfl rfl rfl rfl rfl (by kernel_rfl) Try.func7 (by kernel_rfl)
    (of_decide_eq_true (by kernel_rfl)) (by unfold Func.isWrapper; first | (rw [if_pos (by decide +kernel)]; kernel_rfl) | (rw [if_neg (by decide +kernel)]; exact ⟨rfl, rfl⟩))
    (fun os started H enc _ => lifted os started H enc)
#print axioms proved
end Go.Proofs.Ytnkkkdhpopfahaa.fnExactSchedRun
