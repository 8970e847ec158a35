/-
  The law FnExactSchedAdd answers true at every argument: SchedAdd answers as the specification, writes into no argument, and its answer owns its memory. Conditions: none.
-/
import Derived.Test.YtnkkkdhpopfahaaSchAd
import Derived.Test.YtnkkkdhpopfahaaSchAdI
import Derived.Test.YtnkkkdhpopfahaaSchSt
import Derived.Test.YtnkkkdhpopfahaaSchOpen
import Derived.Deep.RegionHeld3
import Derived.OpenShut
import Derived.Carry
namespace Go.Proofs.Ytnkkkdhpopfahaa.fnExactSchedAdd
open Go.ChangeShapes Go.WideShapes Go.ChangeAt Go.RowKit
open Go.Proofs.Ytnkkkdhpopfahaa
open Go.Proofs.Ytnkkkdhpopfahaa.deep
open Go.Proofs.Ytnkkkdhpopfahaa.sch
set_option linter.unusedVariables false
set_option maxRecDepth 100000

theorem own : ownKnob Try.prog.godebug = none := by kernel_rfl
theorem six {w W : World} {B X t1 t2 : Nat} {a b c d e f : Value} (h1 : Blk w B t1 [a, b, c]) (h2 : Blk w X t2 [d, e, f]) (hb : Below w.heap.size w W) :
    W.cell? ⟨B, 0, none⟩ = some a ∧ W.cell? ⟨B, 1, none⟩ = some b ∧ W.cell? ⟨B, 2, none⟩ = some c ∧ W.cell? ⟨X, 0, none⟩ = some d ∧ W.cell? ⟨X, 1, none⟩ = some e ∧ W.cell? ⟨X, 2, none⟩ = some f :=
  ⟨(h1.later hb).cell 0, (h1.later hb).cell 1, (h1.later hb).cell 2, (h2.later hb).cell 0, (h2.later hb).cell 1, (h2.later hb).cell 2⟩
set_option maxHeartbeats 16000000 in
theorem walk (x : SchedD) (vo vt : Value) (e0 : Int) (e1 : Int) (e2 : Int) (d : SoD) (hd1 : d.y.order.length ≤ 1048576) (hd2 : d.y.tasks.length ≤ 1048576) (w : World) (h : SF 0 w vo vt x)
    (sp : ∀ l (p q : Addr) (n n' : Nat) W, SF l W (.slice (some p) n n) (.slice (some q) n' n') x → Calls Try.prog 22 #[.agg #[.slice (some p) n n, .int .i64 x.now, .slice (some q) n' n'], .int .i64 e0, .int .i64 e1, .int .i64 e2] W (SpecAns d W))
    (im : ∀ l u a n W, SF l W u (.slice a n n) x → Calls Try.prog 23 #[.agg #[u, .int .i64 x.now, .slice a n n], .int .i64 e0, .int .i64 e1, .int .i64 e2] W (ImplAns d W)) :
    Calls Try.prog 5 #[.agg #[vo, .int .i64 x.now, vt], .int .i64 e0, .int .i64 e1, .int .i64 e2] w fun e w' => e = .returned (.bool true) ∧ Below w.heap.size w w' := by
  obtain ⟨ao, co, hvo, hmo, -⟩ := int_at h.1
  obtain ⟨at', ct, hvt, hmt, -⟩ := tk_at h.2
  unfold maxLen at hmo hmt
  obtain ⟨no, hno⟩ : ∃ n, n = x.order.length := ⟨_, rfl⟩
  obtain ⟨nt, hnt⟩ : ∃ n, n = x.tasks.length := ⟨_, rfl⟩
  rw [← hno] at hvo hmo
  rw [← hnt] at hvt hmt
  obtain ⟨nw, hnw⟩ : ∃ n, n = x.now := ⟨_, rfl⟩
  rw [← hnw] at sp im ⊢
  have HSZ : Hid (∀ W, Calls Try.prog 9 #[.agg #[vo, .int .i64 nw, vt], .int .i64 1048576] W fun e w' => e = .returned (.int .i64 (if (no : Int) + nt ≤ 1048576 then 1048576 - no - nt else -1)) ∧ Below W.heap.size W w') := fun W => by rw [hvo, hvt]; exact sz_sched ao at' no co nt ct nw (by omega) (by omega) W
  have HT : Hid ((no : Int) + nt ≤ 1048576 → ∀ W, Below w.heap.size w W → Calls Try.prog 11 #[.agg #[vo, .int .i64 nw, vt]] W (ToSched x W)) := fun hn W hW => by rw [hnw]; exact to_sched x (h.later hW) (by omega) (by omega)
  have HNW : Hid (nw = x.now) := hnw
  have HXL : Hid (x.order.length = no ∧ x.tasks.length = nt) := ⟨hno.symm, hnt.symm⟩
  have HE : Hid (∀ W l1 l2 u1 v1 u2 v2, SF l1 W u1 v1 x → SF l2 W u2 v2 x → Calls Try.prog 13 #[.agg #[u1, .int .i64 nw, v1], .agg #[u2, .int .i64 nw, v2]] W fun e w' => e = .returned (.bool true) ∧ Below W.heap.size W w') := fun W l1 l2 u1 v1 u2 v2 h1 h2 => by rw [hnw]; exact eq_sched h1 h2
  have HMX : Hid (∀ W u v, Mks W 1 u → Mks W 3 v → Calls Try.prog 24 #[.agg #[u, .int .i64 nw, v], .int .i64 1] W fun e w' => e = .returned (.int .i64 (kOf u v)) ∧ ∃ V, Below W.heap.size W V ∧ w' = markS V u v) := fun W u v h1 h2 => (mark_sched nw h1 h2).mono fun e w' h => ⟨h.1, _, below_one _ _, h.2⟩
  unfold ToSched at HT
  rw [← hnw] at HT
  obtain ⟨y, ⟨r0, r1, r2⟩, k⟩ := d
  simp only at hd1 hd2
  have HEQ : Hid (∀ W l1 l2 (a : Option Addr) (n c : Nat) (b : Option Addr) (m e : Nat) (a' : Option Addr) (n' c' : Nat) (b' : Option Addr) (m' e' : Nat), SF l1 W (.slice a n c) (.slice b m e) y → SF l2 W (.slice a' n' c') (.slice b' m' e') y → Calls Try.prog 17 #[.agg #[.slice a n c, .int .i64 y.now, .slice b m e, .int .i64 r0, .int .i64 r1, .int .i64 r2, .int .i64 k], .agg #[.slice a' n' c', .int .i64 y.now, .slice b' m' e', .int .i64 r0, .int .i64 r1, .int .i64 r2, .int .i64 k]] W fun e w' => e = .returned (.bool true) ∧ Below W.heap.size W w') := fun W l1 l2 a n c b m e a' n' c' b' m' e' h1 h2 => eq_so (d := ⟨y, (r0, r1, r2), k⟩) h1 h2
  have HMK : Hid (∀ W (a : Option Addr) (n c : Nat) (b : Option Addr) (m e : Nat), Mks W 1 (.slice a n c) → Mks W 3 (.slice b m e) → Calls Try.prog 20 #[.agg #[.slice a n c, .int .i64 y.now, .slice b m e, .int .i64 r0, .int .i64 r1, .int .i64 r2, .int .i64 k], .int .i64 1] W fun e' w' => e' = .returned (.int .i64 (kOf (.slice a n c) (.slice b m e))) ∧ ∃ V, Below W.heap.size W V ∧ w' = markS V (.slice a n c) (.slice b m e)) := fun W a n c b m e h1 h2 => mark_so ⟨y, (r0, r1, r2), k⟩ h1 h2
  have HHD : Hid (∀ W (a : Option Addr) (n c : Nat) (b : Option Addr) (m e : Nat), HeldS W (.slice a n c) (.slice b m e) → n ≤ 1048576 → m ≤ 1048576 → Calls Try.prog 21 #[.agg #[.slice a n c, .int .i64 y.now, .slice b m e, .int .i64 r0, .int .i64 r1, .int .i64 r2, .int .i64 k], .int .i64 1] W fun e' w' => e' = .returned (.int .i64 (kOf (.slice a n c) (.slice b m e))) ∧ Below W.heap.size W w') := fun W a n c b m e h h1 h2 => held_so ⟨y, (r0, r1, r2), k⟩ h (by simp only [lenOf]; omega) (by simp only [lenOf]; omega)
  have HS : Hid (∀ l (p q : Addr) (n n' : Nat) W, SF l W (.slice (some p) n n) (.slice (some q) n' n') x → Calls Try.prog 22 #[.agg #[.slice (some p) n n, .int .i64 nw, .slice (some q) n' n'], .int .i64 e0, .int .i64 e1, .int .i64 e2] W fun e' w' => ∃ a c b e, e' = .returned (.agg #[.slice a y.order.length c, .int .i64 y.now, .slice b y.tasks.length e, .int .i64 r0, .int .i64 r1, .int .i64 r2, .int .i64 k]) ∧ SF W.heap.size w' (.slice a y.order.length c) (.slice b y.tasks.length e) y ∧ Below W.heap.size W w') := fun l p q n n' W hW => (sp l p q n n' W hW).mono fun e' w' ⟨vo, vt, he, hs, hb⟩ => by
    obtain ⟨a, c, e1, -⟩ := int_at hs.1
    obtain ⟨b, e, e2, -⟩ := tk_at hs.2
    subst e1 e2
    exact ⟨a, c, b, e, he, hs, hb⟩
  have HI : Hid (∀ l u a0 n0 W, SF l W u (.slice a0 n0 n0) x → Calls Try.prog 23 #[.agg #[u, .int .i64 nw, .slice a0 n0 n0], .int .i64 e0, .int .i64 e1, .int .i64 e2] W fun e' w' => ∃ a c b e, e' = .returned (.agg #[.slice a y.order.length c, .int .i64 y.now, .slice b y.tasks.length e, .int .i64 r0, .int .i64 r1, .int .i64 r2, .int .i64 k]) ∧ SF W.heap.size w' (.slice a y.order.length c) (.slice b y.tasks.length e) y ∧ Below W.heap.size W w' ∧ Mks w' 1 (.slice a y.order.length c) ∧ Mks w' 3 (.slice b y.tasks.length e) ∧ Two (.slice a y.order.length c) (.slice b y.tasks.length e)) := fun l u a0 n0 W hW => (im l u a0 n0 W hW).mono fun e' w' ⟨vo, vt, he, hs, hb, f1, f2, ht⟩ => by
    have m1 := int_marks hs.1 f1 hd1
    have m2 := tk_marks hs.2 f2 hd2
    obtain ⟨a, c, e1, -⟩ := int_at hs.1
    obtain ⟨b, e, e2, -⟩ := tk_at hs.2
    subst e1 e2
    exact ⟨a, c, b, e, he, hs, hb, m1, m2, ht⟩
  generalize y.now = q at HEQ HMK HHD HS HI
  obtain ⟨m, hm⟩ : ∃ m, m = y.order.length := ⟨_, rfl⟩
  obtain ⟨t, ht⟩ : ∃ m, m = y.tasks.length := ⟨_, rfl⟩
  rw [← hm] at hd1 HS HI
  rw [← ht] at hd2 HS HI
  clear h hno hnt hnw sp im hm ht
  subst hvo hvt
  by_cases hn : (no : Int) + nt ≤ 1048576
  · rw [if_pos hn] at HSZ
    have HT2 : Hid _ := HT.out hn
    have hbn : (0 : Int) ≤ 1048576 - no - nt := by omega
    have HXO : Hid (x.order.length ≤ 1048576 ∧ x.tasks.length ≤ 1048576) := by obtain ⟨h1, h2⟩ := HXL.out; exact ⟨by omega, by omega⟩
    clear HT HXL
    go_enter Try.func5, Try.ntmps5
    go_wp2_with fail
    refine Calls.mono (HSZ.out _) ?_
    rintro e w1 ⟨rfl, hb1⟩
    have HL1 : Hid (Blk w1 w.heap.size 25 [.slice ao no co, .int .i64 nw, .slice at' nt ct]) := (blk_new w [.slice ao no co, .int .i64 nw, .slice at' nt ct] 25).later hb1
    have HB1 : Hid (Below w.heap.size w w1) := below_tr (below_one w _) hb1
    obtain ⟨c0, c1, c2⟩ := cells3s HL1.out
    clear hb1
    go_wp2_with fail
    refine Calls.mono (HT2.out _ HB1.out) ?_
    rintro e w2 ⟨go2, no2, gt2, nt2, rfl, hr2, _, _, hb2⟩
    have HR2 : Hid (SF w1.heap.size w2 (.slice (some ⟨go2, 0, none⟩) no2 no2) (.slice (some ⟨gt2, 0, none⟩) nt2 nt2) x) := hr2
    have HL2 : Hid (Blk w2 w.heap.size 25 [.slice ao no co, .int .i64 nw, .slice at' nt ct]) := HL1.out.later hb2
    have HB2 : Hid (Below w.heap.size w w2) := below_tr HB1.out hb2
    clear hb2 hr2 HL1 HB1 c0 c1 c2
    go_wp2_with fail
    refine Calls.mono (HS.out _ _ _ _ _ _ HR2.out) ?_
    rintro e w3 ⟨a3, c3, b3, e3, rfl, hs3, hb3⟩
    have HA3 : Hid (SF w2.heap.size w3 (.slice a3 m c3) (.slice b3 t e3) y) := hs3
    have HL3 : Hid (Blk w3 w.heap.size 25 [.slice ao no co, .int .i64 nw, .slice at' nt ct]) := HL2.out.later hb3
    have HB3 : Hid (Below w.heap.size w w3) := below_tr HB2.out hb3
    obtain ⟨c0, c1, c2⟩ := cells3s HL3.out
    have hw3 : w.heap.size < w3.heap.size := HL3.out.lt
    clear hb3 hs3 HL2 HB2 HR2
    go_wp2_with fail
    obtain ⟨U3, hU3⟩ : ∃ U, U = w3.alloc (.cells #[.slice a3 m c3, .int .i64 q, .slice b3 t e3, .int .i64 r0, .int .i64 r1, .int .i64 r2, .int .i64 k] 37) := ⟨_, rfl⟩
    have hbU : Below w3.heap.size w3 U3 := by rw [hU3]; exact below_one _ _
    have HZ3 : Hid (Blk U3 w3.heap.size 37 [.slice a3 m c3, .int .i64 q, .slice b3 t e3, .int .i64 r0, .int .i64 r1, .int .i64 r2, .int .i64 k]) := by rw [hU3]; exact blk_new _ _ _
    have HA3' : Hid (SF w2.heap.size U3 (.slice a3 m c3) (.slice b3 t e3) y) := HA3.out.later hbU
    have HL3' : Hid (Blk U3 w.heap.size 25 [.slice ao no co, .int .i64 nw, .slice at' nt ct]) := HL3.out.later hbU
    have HB3' : Hid (Below w.heap.size w U3) := below_tr HB3.out hbU
    rw [← hU3]
    clear hU3 hbU HA3 HL3 HB3 c0 c1 c2 hw3
    obtain ⟨z3, hz3⟩ : ∃ n, n = w3.heap.size := ⟨_, rfl⟩
    rw [← hz3] at HZ3 ⊢
    clear hz3
    refine Calls.mono (HT2.out _ HB3'.out) ?_
    rintro e w4 ⟨go4, no4, gt4, nt4, rfl, hr4, hf4, hg4, hb4⟩
    have hx4 := HXO.out
    have HP4 : Hid (Within U3.heap.size w4.heap.size (.slice (some ⟨go4, 0, none⟩) no4 no4) ∧ Within U3.heap.size w4.heap.size (.slice (some ⟨gt4, 0, none⟩) nt4 nt4)) := ⟨row_spot hr4.1, row_spot hr4.2⟩
    have HR4 : Hid (SF U3.heap.size w4 (.slice (some ⟨go4, 0, none⟩) no4 no4) (.slice (some ⟨gt4, 0, none⟩) nt4 nt4) x ∧ Mks w4 1 (.slice (some ⟨go4, 0, none⟩) no4 no4) ∧ Mks w4 3 (.slice (some ⟨gt4, 0, none⟩) nt4 nt4)) := ⟨hr4, int_marks hr4.1 hf4 hx4.1, tk_marks hr4.2 hg4 hx4.2⟩
    have HK4 : Hid (Below U3.heap.size U3 w4) := hb4
    have HL4 : Hid (Blk w4 w.heap.size 25 [.slice ao no co, .int .i64 nw, .slice at' nt ct]) := HL3'.out.later hb4
    clear hb4 hr4 hf4 hg4 hx4
    go_wp2_with fail
    obtain ⟨U4, hU4⟩ : ∃ U, U = w4.alloc (.cells #[.slice (some ⟨go4, 0, none⟩) no4 no4, .int .i64 nw, .slice (some ⟨gt4, 0, none⟩) nt4 nt4] 30) := ⟨_, rfl⟩
    have hbU : Below w4.heap.size w4 U4 := by rw [hU4]; exact below_one _ _
    have HX4 : Hid (XB x U3.heap.size w4.heap.size (.slice (some ⟨go4, 0, none⟩) no4 no4) (.slice (some ⟨gt4, 0, none⟩) nt4 nt4) U4) := ⟨by rw [hU4, ← HNW.out]; exact blk_new _ _ _, HR4.out.1.later hbU, HR4.out.2.1.later hbU, HR4.out.2.2.later hbU⟩
    have HK4' : Hid (Below U3.heap.size U3 U4) := below_tr HK4.out hbU
    have HL4' : Hid (Blk U4 w.heap.size 25 [.slice ao no co, .int .i64 nw, .slice at' nt ct]) := HL4.out.later hbU
    have h3x : U3.heap.size ≤ w4.heap.size := HK4.out.size
    rw [← hU4]
    clear hU4 hbU HR4 HK4 HL4
    obtain ⟨x4, hx4⟩ : ∃ n, n = w4.heap.size := ⟨_, rfl⟩
    rw [← hx4] at HX4 HP4 h3x ⊢
    clear hx4
    have h4x : x4 < U4.heap.size := HX4.out.1.lt
    refine Calls.mono (HI.out _ _ _ _ _ HX4.out.2.1) ?_
    rintro e w5 ⟨a5, c5, b5, e5, rfl, hs5, hb5, hm5, hn5, ht5⟩
    have HP5 : Hid (Within U4.heap.size w5.heap.size (.slice a5 m c5) ∧ Within U4.heap.size w5.heap.size (.slice b5 t e5)) := ⟨row_spot hs5.1, row_spot hs5.2⟩
    have HT5 : Hid (Two (.slice a5 m c5) (.slice b5 t e5)) := ht5
    have HZ5 : Hid (Blk w5 z3 37 [.slice a3 m c3, .int .i64 q, .slice b3 t e3, .int .i64 r0, .int .i64 r1, .int .i64 r2, .int .i64 k]) := (HZ3.out.later HK4'.out).later hb5
    have hz5 : z3 < w5.heap.size := HZ5.out.lt
    have h45 : U4.heap.size ≤ w5.heap.size := hb5.size
    obtain ⟨q0, q1, q2, q3, q4, q5, q6⟩ := seven HZ5.out
    go_wp2_with fail
    obtain ⟨U5, hU5⟩ : ∃ U, U = w5.alloc (.cells #[.slice a5 m c5, .int .i64 q, .slice b5 t e5, .int .i64 r0, .int .i64 r1, .int .i64 r2, .int .i64 k] 37) := ⟨_, rfl⟩
    have hbU : Below w5.heap.size w5 U5 := by rw [hU5]; exact below_one _ _
    have hbV : Below U4.heap.size U4 U5 := below_tr hb5 hbU
    have HA5 : Hid (AN y U4.heap.size w5.heap.size [.slice a5 m c5, .int .i64 q, .slice b5 t e5, .int .i64 r0, .int .i64 r1, .int .i64 r2, .int .i64 k] (.slice a5 m c5) (.slice b5 t e5) U5) := ⟨by rw [hU5]; exact blk_new _ _ _, SF.later hs5 hbU, hm5.later hbU, hn5.later hbU⟩
    have HX5 : Hid (XB x U3.heap.size x4 (.slice (some ⟨go4, 0, none⟩) no4 no4) (.slice (some ⟨gt4, 0, none⟩) nt4 nt4) U5) := HX4.out.later hbV
    have HK5 : Hid (Below U3.heap.size U3 U5) := below_tr HK4'.out hbV
    have HL5 : Hid (Blk U5 w.heap.size 25 [.slice ao no co, .int .i64 nw, .slice at' nt ct]) := HL4'.out.later hbV
    have HC5 : Hid (SF w2.heap.size U5 (.slice a3 m c3) (.slice b3 t e3) y) := HA3'.out.later HK5.out
    rw [← hU5]
    clear hU5 hbU hbV hb5 hs5 hm5 hn5 ht5 HX4 HK4' HL4' HZ5 q0 q1 q2 q3 q4 q5 q6
    obtain ⟨g5, hg5⟩ : ∃ n, n = w5.heap.size := ⟨_, rfl⟩
    rw [← hg5] at HA5 HP5 hz5 h45 ⊢
    clear hg5
    refine Calls.mono (HEQ.out _ _ _ _ _ _ _ _ _ _ _ _ _ _ _ HA5.out.2.1 HC5.out) ?_
    rintro e w6 ⟨rfl, hb6⟩
    have HA6 : Hid (AN y U4.heap.size g5 [.slice a5 m c5, .int .i64 q, .slice b5 t e5, .int .i64 r0, .int .i64 r1, .int .i64 r2, .int .i64 k] (.slice a5 m c5) (.slice b5 t e5) w6) := HA5.out.later hb6
    have HX6 : Hid (XB x U3.heap.size x4 (.slice (some ⟨go4, 0, none⟩) no4 no4) (.slice (some ⟨gt4, 0, none⟩) nt4 nt4) w6) := HX5.out.later hb6
    have HK6 : Hid (Below U3.heap.size U3 w6) := below_tr HK5.out hb6
    have HL6 : Hid (Blk w6 w.heap.size 25 [.slice ao no co, .int .i64 nw, .slice at' nt ct]) := HL5.out.later hb6
    clear hb6 HA5 HX5 HK5 HC5 HL5
    have HXW : Hid (Blk w6 x4 30 [.slice (some ⟨go4, 0, none⟩) no4 no4, .int .i64 nw, .slice (some ⟨gt4, 0, none⟩) nt4 nt4]) := by rw [HNW.out]; exact HX6.out.1
    have hM0 := six HL6.out HXW.out (Below.refl _ _)
    have hMd := six HL6.out HXW.out (Below.drew (Below.refl _ _))
    go_wp2_with fail
    go_region_held3 (fun W => W.cell? ⟨w.heap.size, 0, none⟩ = some (.slice ao no co) ∧ W.cell? ⟨w.heap.size, 1, none⟩ = some (.int .i64 nw) ∧ W.cell? ⟨w.heap.size, 2, none⟩ = some (.slice at' nt ct) ∧ W.cell? ⟨x4, 0, none⟩ = some (.slice (some ⟨go4, 0, none⟩) no4 no4) ∧ W.cell? ⟨x4, 1, none⟩ = some (.int .i64 nw) ∧ W.cell? ⟨x4, 2, none⟩ = some (.slice (some ⟨gt4, 0, none⟩) nt4 nt4))
      (with_reducible first | assumption | exact hM0 | exact hMd | exact Z7 | exact Z8)
      (first | (go_at_call 11; refine Calls.mono (HT2.out _ (Below.drew (below_tr HB3'.out HK6.out))) ?_; rintro e w7 ⟨go7, no7, gt7, nt7, rfl, hr7, _, _, hb7⟩; have hb7' : Below w6.heap.size w6 w7 := Below.trans (Below.drew (Below.refl w6.heap.size w6)) hb7; have Z7 := six HL6.out HXW.out hb7'; have HR7b : Hid (SF U3.heap.size w7 (.slice (some ⟨go4, 0, none⟩) no4 no4) (.slice (some ⟨gt4, 0, none⟩) nt4 nt4) x) := HX6.out.2.1.later hb7'; have HR7 : Hid (SF w6.heap.size w7 (.slice (some ⟨go7, 0, none⟩) no7 no7) (.slice (some ⟨gt7, 0, none⟩) nt7 nt7) x) := hr7; have HB67 : Hid (Below w6.heap.size w6 w7) := hb7'; clear hb7 hb7' hr7) | (go_at_call 13; refine Calls.mono (HE.out _ _ _ _ _ _ _ HR7b.out HR7.out) ?_; rintro e w8 ⟨rfl, hb8⟩; have HB8 : Hid (Below w6.heap.size w6 w8) := below_tr HB67.out hb8; have Z8 := six HL6.out HXW.out HB8.out; clear hb8))
    have HA8 : Hid (AN y U4.heap.size g5 [.slice a5 m c5, .int .i64 q, .slice b5 t e5, .int .i64 r0, .int .i64 r1, .int .i64 r2, .int .i64 k] (.slice a5 m c5) (.slice b5 t e5) w8) := HA6.out.later HB8.out
    have HX8 : Hid (XB x U3.heap.size x4 (.slice (some ⟨go4, 0, none⟩) no4 no4) (.slice (some ⟨gt4, 0, none⟩) nt4 nt4) w8) := HX6.out.later HB8.out
    have HK8 : Hid (Below U3.heap.size U3 w8) := below_tr HK6.out HB8.out
    have HX8b : Hid (Blk w8 x4 30 [.slice (some ⟨go4, 0, none⟩) no4 no4, .int .i64 nw, .slice (some ⟨gt4, 0, none⟩) nt4 nt4]) := by rw [HNW.out]; exact HX8.out.1
    obtain ⟨p0, p1, p2⟩ := cells3s HX8b.out
    clear HB8 Z8 Z7 HR7 HR7b HB67 hM0 hMd HXW HA6 HX6 HK6 HL6
    go_wp2_with fail
    refine Calls.mono (HMX.out _ _ _ HX8.out.2.2.1 HX8.out.2.2.2) ?_
    rintro e w9 ⟨rfl, V9, hb9, hw9⟩
    have HA9 : Hid (AN y U4.heap.size g5 [.slice a5 m c5, .int .i64 q, .slice b5 t e5, .int .i64 r0, .int .i64 r1, .int .i64 r2, .int .i64 k] (.slice a5 m c5) (.slice b5 t e5) w9) := by rw [hw9]; exact AN.past (HA8.out.later hb9) HP4.out.1 HP4.out.2 (Nat.le_of_lt h4x) (by omega)
    have HK9 : Hid (Below U3.heap.size U3 w9) := by rw [hw9]; exact past_below (below_tr HK8.out hb9) HP4.out.1 HP4.out.2 (Nat.le_refl _)
    have HKX : Hid (0 ≤ kOf (.slice (some ⟨go4, 0, none⟩) no4 no4) (.slice (some ⟨gt4, 0, none⟩) nt4 nt4)) := by show _ ≤ _; unfold kOf; omega
    have HC9 : Hid (SF w2.heap.size w9 (.slice a3 m c3) (.slice b3 t e3) y) := HA3'.out.later HK9.out
    clear hw9 hb9 HA8 HX8 HK8 HX8b p0 p1 p2
    generalize kOf (.slice (some ⟨go4, 0, none⟩) no4 no4) (.slice (some ⟨gt4, 0, none⟩) nt4 nt4) = kx at *
    have hkx := HKX.out
    have HZ9 : Hid (Blk w9 z3 37 [.slice a3 m c3, .int .i64 q, .slice b3 t e3, .int .i64 r0, .int .i64 r1, .int .i64 r2, .int .i64 k]) := HZ3.out.later HK9.out
    obtain ⟨q0, q1, q2, q3, q4, q5, q6⟩ := seven HZ9.out
    obtain ⟨p0, p1, p2, p3, p4, p5, p6⟩ := seven HA9.out.1
    go_wp2_with fail
    refine Calls.mono (HEQ.out _ _ _ _ _ _ _ _ _ _ _ _ _ _ _ HA9.out.2.1 HC9.out) ?_
    rintro e w10 ⟨rfl, hb10⟩
    have HA10 : Hid (AN y U4.heap.size g5 [.slice a5 m c5, .int .i64 q, .slice b5 t e5, .int .i64 r0, .int .i64 r1, .int .i64 r2, .int .i64 k] (.slice a5 m c5) (.slice b5 t e5) w10) := HA9.out.later hb10
    have HK10 : Hid (Below U3.heap.size U3 w10) := below_tr HK9.out hb10
    clear hb10 HA9 HK9 HC9 HZ9 p0 p1 p2 p3 p4 p5 p6 q0 q1 q2 q3 q4 q5 q6
    obtain ⟨p0, p1, p2, p3, p4, p5, p6⟩ := seven HA10.out.1
    go_wp2_with fail
    refine Calls.mono (HMK.out _ _ _ _ _ _ _ HA10.out.2.2.1 HA10.out.2.2.2) ?_
    rintro e w11 ⟨rfl, V11, hb11, hw11⟩
    have HH11 : Hid (HN g5 [.slice a5 m c5, .int .i64 q, .slice b5 t e5, .int .i64 r0, .int .i64 r1, .int .i64 r2, .int .i64 k] (.slice a5 m c5) (.slice b5 t e5) w11) := by rw [hw11]; exact (HA10.out.later hb11).held HT5.out HP5.out.1 HP5.out.2
    have HK11 : Hid (Below U3.heap.size U3 w11) := by rw [hw11]; exact past_below (below_tr HK10.out hb11) HP5.out.1 HP5.out.2 (by omega)
    have HHD2 : Hid (∀ W, HeldS W (.slice a5 m c5) (.slice b5 t e5) → Calls Try.prog 21 #[.agg #[.slice a5 m c5, .int .i64 q, .slice b5 t e5, .int .i64 r0, .int .i64 r1, .int .i64 r2, .int .i64 k], .int .i64 1] W fun e' w' => e' = .returned (.int .i64 (kOf (.slice a5 m c5) (.slice b5 t e5))) ∧ Below W.heap.size W w') := fun W h => HHD.out _ _ _ _ _ _ _ h hd1 hd2
    have hkg : 0 ≤ kOf (.slice a5 m c5) (.slice b5 t e5) := by unfold kOf; omega
    clear hw11 hb11 HA10 HK10 p0 p1 p2 p3 p4 p5 p6 HHD
    generalize kOf (.slice a5 m c5) (.slice b5 t e5) = kg at *
    obtain ⟨p0, p1, p2, p3, p4, p5, p6⟩ := seven HH11.out.1
    go_wp2_with fail
    refine Calls.mono (HHD2.out _ HH11.out.2) ?_
    rintro e w12 ⟨rfl, hb12⟩
    have HH12 : Hid (HN g5 [.slice a5 m c5, .int .i64 q, .slice b5 t e5, .int .i64 r0, .int .i64 r1, .int .i64 r2, .int .i64 k] (.slice a5 m c5) (.slice b5 t e5) w12) := HH11.out.later hb12
    have HK12 : Hid (Below U3.heap.size U3 w12) := below_tr HK11.out hb12
    have HL12 : Hid (Blk w12 w.heap.size 25 [.slice ao no co, .int .i64 nw, .slice at' nt ct]) := HL3'.out.later HK12.out
    clear hb12 HH11 HK11 p0 p1 p2 p3 p4 p5 p6
    obtain ⟨c0, c1, c2⟩ := cells3s HL12.out
    go_wp2_with fail
    refine Calls.mono (HT2.out _ (below_tr HB3'.out HK12.out)) ?_
    rintro e w13 ⟨go13, no13, gt13, nt13, rfl, hr13, _, _, hb13⟩
    have HH13 : Hid (HN g5 [.slice a5 m c5, .int .i64 q, .slice b5 t e5, .int .i64 r0, .int .i64 r1, .int .i64 r2, .int .i64 k] (.slice a5 m c5) (.slice b5 t e5) w13) := HH12.out.later hb13
    have HK13 : Hid (Below U3.heap.size U3 w13) := below_tr HK12.out hb13
    have HR13 : Hid (SF w12.heap.size w13 (.slice (some ⟨go13, 0, none⟩) no13 no13) (.slice (some ⟨gt13, 0, none⟩) nt13 nt13) x) := hr13
    clear hb13 hr13 HH12 HK12 HL12 c0 c1 c2
    go_wp2_with fail
    refine Calls.mono (HI.out _ _ _ _ _ HR13.out) ?_
    rintro e w14 ⟨ah, ch, bh, eh, rfl, hs14, hb14, -, -, -⟩
    have HA14 : Hid (SF w13.heap.size w14 (.slice ah m ch) (.slice bh t eh) y) := hs14
    have HH14 : Hid (HN g5 [.slice a5 m c5, .int .i64 q, .slice b5 t e5, .int .i64 r0, .int .i64 r1, .int .i64 r2, .int .i64 k] (.slice a5 m c5) (.slice b5 t e5) w14) := HH13.out.later hb14
    have HK14 : Hid (Below U3.heap.size U3 w14) := below_tr HK13.out hb14
    have HZ14 : Hid (Blk w14 z3 37 [.slice a3 m c3, .int .i64 q, .slice b3 t e3, .int .i64 r0, .int .i64 r1, .int .i64 r2, .int .i64 k]) := HZ3.out.later HK14.out
    have hz14 : z3 < w14.heap.size := HZ14.out.lt
    obtain ⟨q0, q1, q2, q3, q4, q5, q6⟩ := seven HZ14.out
    clear hb14 hs14 HH13 HK13 HR13
    go_wp2_with fail
    obtain ⟨U14, hU14⟩ : ∃ U, U = w14.alloc (.cells #[.slice ah m ch, .int .i64 q, .slice bh t eh, .int .i64 r0, .int .i64 r1, .int .i64 r2, .int .i64 k] 37) := ⟨_, rfl⟩
    have hbU : Below w14.heap.size w14 U14 := by rw [hU14]; exact below_one _ _
    have HA15 : Hid (SF w13.heap.size U14 (.slice ah m ch) (.slice bh t eh) y) := HA14.out.later hbU
    have HH15 : Hid (HN g5 [.slice a5 m c5, .int .i64 q, .slice b5 t e5, .int .i64 r0, .int .i64 r1, .int .i64 r2, .int .i64 k] (.slice a5 m c5) (.slice b5 t e5) U14) := HH14.out.later hbU
    have HK15 : Hid (Below U3.heap.size U3 U14) := below_tr HK14.out hbU
    have HC15 : Hid (SF w2.heap.size U14 (.slice a3 m c3) (.slice b3 t e3) y) := HA3'.out.later HK15.out
    rw [← hU14]
    clear hU14 hbU HA14 HH14 HK14 HZ14 hz14 q0 q1 q2 q3 q4 q5 q6
    refine Calls.mono (HEQ.out _ _ _ _ _ _ _ _ _ _ _ _ _ _ _ HA15.out HC15.out) ?_
    rintro e w16 ⟨rfl, hb16⟩
    have HH16 : Hid (HN g5 [.slice a5 m c5, .int .i64 q, .slice b5 t e5, .int .i64 r0, .int .i64 r1, .int .i64 r2, .int .i64 k] (.slice a5 m c5) (.slice b5 t e5) w16) := HH15.out.later hb16
    have HK16 : Hid (Below U3.heap.size U3 w16) := below_tr HK15.out hb16
    obtain ⟨p0, p1, p2, p3, p4, p5, p6⟩ := seven HH16.out.1
    clear hb16 HA15 HH15 HK15 HC15
    go_wp2_with fail
    refine Calls.mono (HHD2.out _ HH16.out.2) ?_
    rintro e w17 ⟨rfl, hb17⟩
    have HBE : Hid (Below w.heap.size w w17) := below_tr HB3'.out (below_tr HK16.out hb17)
    clear hb17 HH16 HK16 p0 p1 p2 p3 p4 p5 p6
    go_wp2_with fail
    go_ret
    exact ⟨rfl, HBE.out⟩
  · rw [if_neg hn] at HSZ
    clear HT
    go_enter Try.func5, Try.ntmps5
    go_wp2_with fail
    refine Calls.mono (HSZ.out _) ?_
    rintro e w1 ⟨rfl, hb1⟩
    have HB1 : Hid (Below w.heap.size w w1) := below_tr (below_one w _) hb1
    clear hb1
    go_wp2_with fail
    go_ret
    exact ⟨rfl, HB1.out⟩

theorem whole (x : SchedD) (vo vt : Value) (e0 e1 e2 : Int) (w : World) (h : SF 0 w vo vt x) :
    Calls Try.prog 5 #[.agg #[vo, .int .i64 x.now, vt], .int .i64 e0, .int .i64 e1, .int .i64 e2] w fun e w' => e = .returned (.bool true) ∧ Below w.heap.size w w' := by
  have hl : (addA x (e0, e1, e2)).y.order.length ≤ 1048576 ∧ (addA x (e0, e1, e2)).y.tasks.length ≤ 1048576 := by
    unfold addA
    split
    · rename_i hs
      simp only [Bool.and_eq_true] at hs
      have h1 := (order_len (sched_facts hs.1).1).2
      have h2 := right_short hs.1
      split
      · simp [illD]
      · split
        · simp [illD]
        · simp only [List.length_append, List.length_singleton]
          omega
    · simp [illD]
  exact walk x vo vt e0 e1 e2 (addA x (e0, e1, e2)) hl.1 hl.2 w h
    (fun l p q n n' W hW => spec_add x e0 e1 e2 p q n n n' n' hW)
    (fun l u a n W hW => impl_add x e0 e1 e2 a n n (Nat.le_refl _) hW)

set_option maxRecDepth 100000 in
theorem lifted (os : Os) (started : os.Started) (H : Type) (enc : TypeId × Value → H) :
    ReturnsInHanded {} Try.checked os 5 .any (Rows.fnExactSchedAddSpec.pre6 enc Try.prog Try.f5 Rows.fnExactSchedAddRow.domain false) (Rows.fnExactSchedAddSpec.post enc Try.prog Try.f5 false true false false) := by
  refine returnsInHanded_of_change (C := Try.checked) own started (by kernel_rfl) Try.func5
    (ChangeSpec.witness6 (enc := enc) (C := Try.checked) false ⟨#[], #[.agg #[.slice none 0 0, .int .i64 0, .slice none 0 0], .int .i64 0, .int .i64 0, .int .i64 0], []⟩ 8 (by kernel_rfl) (by kernel_rfl) (by kernel_rfl) (by kernel_rfl)) ?_
  intro W base args ds gs before hval0 hW hcnd _
  have hval : ∀ (j : Nat) t v, Try.f5.params[j]? = some t → args[j]? = some v → Value.okWide Try.prog W .any base t v := hval0
  have hW' := hW
  obtain ⟨p, q, hA0, hV, rfl, hfz, hnd⟩ := hW
  have hA : DataW.TrodAll enc Try.prog W 0 (fun _ => true) true Try.f5.params.toList args.toList ds p := hA0
  rw [Try.params5] at hA hval
  obtain ⟨v0, vs0, d0, ds0, p0, q0, hargs, rfl, rfl, h0, r0⟩ := trodAll_cons hA
  obtain ⟨v1, vs1, d1, ds1, p1, q1, hargs1, rfl, rfl, h1, r1⟩ := trodAll_cons r0
  obtain ⟨v2, vs2, d2, ds2, p2, q2, hargs2, rfl, rfl, h2, r2⟩ := trodAll_cons r1
  obtain ⟨v3, vs3, d3, ds3, p3, q3, hargs3, rfl, rfl, h3, r3⟩ := trodAll_cons r2
  obtain ⟨rfl, rfl, rfl⟩ := trodAll_nil r3
  obtain rfl : args = #[v0, v1, v2, v3] := by cases args; simp_all
  obtain ⟨rfl, rfl⟩ := trodVars_none hV
  obtain ⟨e0, rfl, rfl, rfl, u1⟩ := open_int Try.underlying2 (hval 1 2 v1 rfl rfl) h1
  obtain ⟨e1, rfl, rfl, rfl, u2⟩ := open_int Try.underlying2 (hval 2 2 v2 rfl rfl) h2
  obtain ⟨e2, rfl, rfl, rfl, u3⟩ := open_int Try.underlying2 (hval 3 2 v3 rfl rfl) h3
  have h0k := h0
  obtain ⟨fuel, hf⟩ := h0k
  obtain ⟨hlen, _⟩ := open_struct Try.underlying25 hf
  rw [cells_sc] at hlen
  obtain ⟨x, vo, vt, hcs, hx⟩ := open_sc fuel _ _ hlen hf
  obtain rfl : v0 = .agg #[vo, .int .i64 x.now, vt] := agg_sc (hval 0 25 v0 rfl rfl) hcs
  clear hA0 hval0 hf
  simp only [List.append_nil] at hW'
  have hlt : ∀ y ∈ p0, y.block < W.heap.size := fun y hy => by simpa using hW'.lt y (by simpa using hy)
  refine (whole x vo vt e0 e1 e2 W hx).mono fun e W' ⟨he, hg⟩ => ?_
  subst he
  have harg0 : DataW.Trod enc Try.prog W' 0 (fun b => decide (b < W.heap.size)) true 25 (.agg #[vo, .int .i64 x.now, vt]) d0 p0 :=
    Below.trod laidOutS (by kernel_rfl) (of_decide_eq_true (by kernel_rfl)) h0 hg (fun y hy => hlt y hy)
  exact ⟨_, rfl, _, _, _, [], _, [], hW', (trodAll_cons_mk (shut_bool Try.underlying4 _) trodAll_mk0), (trodAll_cons_mk harg0 (trodAll_cons_mk (shut_int Try.underlying2 u1) (trodAll_cons_mk (shut_int Try.underlying2 u2) (trodAll_cons_mk (shut_int Try.underlying2 u3) trodAll_mk0)))), rfl, hg.frame _, fun h => by cases h⟩

/-- the statement -/
theorem proved : Rows.FnExactSchedAddSaid :=
  OpenClaim.holds_of_wide 5 Try.f5 rfl rfl rfl rfl rfl rfl rfl ⟨rfl, rfl, rfl, rfl, rfl⟩ rfl rfl rfl rfl rfl (by kernel_rfl) Try.func5 (by kernel_rfl)
    (of_decide_eq_true (by kernel_rfl)) (by unfold Func.isWrapper; first | (rw [if_pos (by decide +kernel)]; kernel_rfl) | (rw [if_neg (by decide +kernel)]; exact ⟨rfl, rfl⟩))
    (fun os started H enc _ => lifted os started H enc)
#print axioms proved
end Go.Proofs.Ytnkkkdhpopfahaa.fnExactSchedAdd
