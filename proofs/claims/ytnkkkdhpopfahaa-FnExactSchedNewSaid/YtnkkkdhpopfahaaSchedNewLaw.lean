/-
  The law FnExactSchedNew answers true at every argument: SchedNew answers as the specification, writes into no argument, and its answer owns its memory. Conditions: none.
-/
import Derived.Test.YtnkkkdhpopfahaaSchNI
import Derived.Test.YtnkkkdhpopfahaaSchSt
import Derived.Test.YtnkkkdhpopfahaaSchOpen
import Derived.Deep.RegionHeld3
import Derived.OpenShut
import Derived.Carry
namespace Go.Proofs.Ytnkkkdhpopfahaa.fnExactSchedNew
open Go.ChangeShapes Go.WideShapes Go.ChangeAt Go.RowKit
open Go.Proofs.Ytnkkkdhpopfahaa
open Go.Proofs.Ytnkkkdhpopfahaa.deep
open Go.Proofs.Ytnkkkdhpopfahaa.sch
set_option linter.unusedVariables false
set_option maxRecDepth 100000

theorem own : ownKnob Try.prog.godebug = none := by kernel_rfl
/-- a row of numbers made anew -/
def XI (xs : List Int) (u : Nat) (v : Value) (W : World) : Prop := RowE (Plain cint) 1 u W v xs ∧ Mks W 1 v
theorem XI.later {xs : List Int} {u : Nat} {v : Value} {W W' : World} (h : XI xs u v W) (hb : Below W.heap.size W W') : XI xs u v W' := ⟨h.1.below (plain_stays _) hb, h.2.later hb⟩
theorem past1 {y : SchedD} {u g5 a x4 : Nat} {cs : List Value} {vo vt xo : Value} {W : World} (h : AN y u g5 cs vo vt W) (h1 : Within a x4 xo) (hu : x4 ≤ u) (hg : x4 ≤ g5) (k : Int) : AN y u g5 cs vo vt (markV W 1 xo k) := by
  have hk : Keep x4 W (markV W 1 xo k) := mark_keep (fun g o a b => (h1 g o a b).2)
  exact ⟨Blk.keep h.1 hk hg, h.2.1.keep hk hu (Nat.le_refl _), h.2.2.1.mark _, h.2.2.2.mark _⟩
set_option maxHeartbeats 16000000 in
theorem walk (xs : List Int) (vo : Value) (d : SoD) (hd1 : d.y.order.length ≤ 1048576) (hd2 : d.y.tasks.length ≤ 1048576) (w : World) (h : RowE (Plain cint) 1 0 w vo xs)
    (sp : ∀ l u W, RowE (Plain cint) 1 l W u xs → Calls Try.prog 14 #[u] W (SpecAns d W))
    (im : ∀ l u W, RowE (Plain cint) 1 l W u xs → Calls Try.prog 16 #[u] W (ImplAns d W)) :
    Calls Try.prog 4 #[vo] w fun e w' => e = .returned (.bool true) ∧ Below w.heap.size w w' := by
  obtain ⟨ao, co, hvo, hmo, -⟩ := int_at h
  unfold maxLen at hmo
  obtain ⟨no, hno⟩ : ∃ n, n = xs.length := ⟨_, rfl⟩
  rw [← hno] at hvo hmo
  have HT : Hid ((no : Int) ≤ 1048576 → ∀ W, Below w.heap.size w W → Calls Try.prog 15 #[vo] W (ToinsF xs W)) := fun hn W hW => to_insF (h.below (plain_stays _) hW) (by omega)
  have HXL : Hid (xs.length = no) := hno.symm
  have HE : Hid (∀ W l1 l2 u1 u2, RowE (Plain cint) 1 l1 W u1 xs → RowE (Plain cint) 1 l2 W u2 xs → Calls Try.prog 18 #[u1, u2] W fun e w' => e = .returned (.bool true) ∧ Below W.heap.size W w') := fun W l1 l2 u1 u2 h1 h2 => eq_ins h1 h2
  have HMX : Hid (∀ W u, Mks W 1 u → Calls Try.prog 19 #[u, .int .i64 1] W fun e w' => e = .returned (.int .i64 (1 + (lenOf u : Int))) ∧ w' = markV W 1 u 1) := fun W u h1 => mark_ins h1 (by omega) (by omega)
  unfold ToinsF at HT
  obtain ⟨y, ⟨r0, r1, r2⟩, k⟩ := d
  simp only at hd1 hd2
  have HEQ : Hid (∀ W l1 l2 (a : Option Addr) (n c : Nat) (b : Option Addr) (m e : Nat) (a' : Option Addr) (n' c' : Nat) (b' : Option Addr) (m' e' : Nat), SF l1 W (.slice a n c) (.slice b m e) y → SF l2 W (.slice a' n' c') (.slice b' m' e') y → Calls Try.prog 17 #[.agg #[.slice a n c, .int .i64 y.now, .slice b m e, .int .i64 r0, .int .i64 r1, .int .i64 r2, .int .i64 k], .agg #[.slice a' n' c', .int .i64 y.now, .slice b' m' e', .int .i64 r0, .int .i64 r1, .int .i64 r2, .int .i64 k]] W fun e w' => e = .returned (.bool true) ∧ Below W.heap.size W w') := fun W l1 l2 a n c b m e a' n' c' b' m' e' h1 h2 => eq_so (d := ⟨y, (r0, r1, r2), k⟩) h1 h2
  have HMK : Hid (∀ W (a : Option Addr) (n c : Nat) (b : Option Addr) (m e : Nat), Mks W 1 (.slice a n c) → Mks W 3 (.slice b m e) → Calls Try.prog 20 #[.agg #[.slice a n c, .int .i64 y.now, .slice b m e, .int .i64 r0, .int .i64 r1, .int .i64 r2, .int .i64 k], .int .i64 1] W fun e' w' => e' = .returned (.int .i64 (kOf (.slice a n c) (.slice b m e))) ∧ ∃ V, Below W.heap.size W V ∧ w' = markS V (.slice a n c) (.slice b m e)) := fun W a n c b m e h1 h2 => mark_so ⟨y, (r0, r1, r2), k⟩ h1 h2
  have HHD : Hid (∀ W (a : Option Addr) (n c : Nat) (b : Option Addr) (m e : Nat), HeldS W (.slice a n c) (.slice b m e) → n ≤ 1048576 → m ≤ 1048576 → Calls Try.prog 21 #[.agg #[.slice a n c, .int .i64 y.now, .slice b m e, .int .i64 r0, .int .i64 r1, .int .i64 r2, .int .i64 k], .int .i64 1] W fun e' w' => e' = .returned (.int .i64 (kOf (.slice a n c) (.slice b m e))) ∧ Below W.heap.size W w') := fun W a n c b m e h h1 h2 => held_so ⟨y, (r0, r1, r2), k⟩ h (by simp only [lenOf]; omega) (by simp only [lenOf]; omega)
  have HS : Hid (∀ l u W, RowE (Plain cint) 1 l W u xs → Calls Try.prog 14 #[u] W fun e' w' => ∃ a c b e, e' = .returned (.agg #[.slice a y.order.length c, .int .i64 y.now, .slice b y.tasks.length e, .int .i64 r0, .int .i64 r1, .int .i64 r2, .int .i64 k]) ∧ SF W.heap.size w' (.slice a y.order.length c) (.slice b y.tasks.length e) y ∧ Below W.heap.size W w') := fun l u W hW => (sp l u W hW).mono fun e' w' ⟨vo, vt, he, hs, hb⟩ => by
    obtain ⟨a, c, e1, -⟩ := int_at hs.1
    obtain ⟨b, e, e2, -⟩ := tk_at hs.2
    subst e1 e2
    exact ⟨a, c, b, e, he, hs, hb⟩
  have HI : Hid (∀ l u W, RowE (Plain cint) 1 l W u xs → Calls Try.prog 16 #[u] W fun e' w' => ∃ a c b e, e' = .returned (.agg #[.slice a y.order.length c, .int .i64 y.now, .slice b y.tasks.length e, .int .i64 r0, .int .i64 r1, .int .i64 r2, .int .i64 k]) ∧ SF W.heap.size w' (.slice a y.order.length c) (.slice b y.tasks.length e) y ∧ Below W.heap.size W w' ∧ Mks w' 1 (.slice a y.order.length c) ∧ Mks w' 3 (.slice b y.tasks.length e) ∧ Two (.slice a y.order.length c) (.slice b y.tasks.length e)) := fun l u W hW => (im l u W hW).mono fun e' w' ⟨vo, vt, he, hs, hb, f1, f2, ht⟩ => by
    have m1 := int_marks hs.1 f1 hd1
    have m2 := tk_marks hs.2 f2 hd2
    obtain ⟨a, c, e1, -⟩ := int_at hs.1
    obtain ⟨b, e, e2, -⟩ := tk_at hs.2
    subst e1 e2
    exact ⟨a, c, b, e, he, hs, hb, m1, m2, ht⟩
  generalize y.now = q at HEQ HMK HHD HS HI
  obtain ⟨m, hm⟩ : ∃ m, m = y.order.length := ⟨_, rfl⟩
  obtain ⟨t, ht⟩ : ∃ m, m = y.tasks.length := ⟨_, rfl⟩
  rw [← hm] at hd1 HS HI
  rw [← ht] at hd2 HS HI
  clear h hno sp im hm ht
  subst hvo
  by_cases hn : (no : Int) ≤ 1048576
  · have HT2 : Hid _ := HT.out hn
    have HXO : Hid (xs.length ≤ 1048576) := by have h1 := HXL.out; show _ ≤ _; omega
    clear HT HXL
    go_enter Try.func4, Try.ntmps4
    go_wp2_with fail
    refine Calls.mono (HT2.out _ (Below.refl _ _)) ?_
    rintro e w2 ⟨v2, rfl, hr2, hb2, -⟩
    have HR2 : Hid (RowE (Plain cint) 1 w.heap.size w2 v2 xs) := hr2
    have HB2 : Hid (Below w.heap.size w w2) := hb2
    clear hb2 hr2
    go_wp2_with fail
    refine Calls.mono (HS.out _ _ _ HR2.out) ?_
    rintro e w3 ⟨a3, c3, b3, e3, rfl, hs3, hb3⟩
    have HA3 : Hid (SF w2.heap.size w3 (.slice a3 m c3) (.slice b3 t e3) y) := hs3
    have HB3 : Hid (Below w.heap.size w w3) := below_tr HB2.out hb3
    clear hb3 hs3 HB2 HR2
    go_wp2_with fail
    obtain ⟨U3, hU3⟩ : ∃ U, U = w3.alloc (.cells #[.slice a3 m c3, .int .i64 q, .slice b3 t e3, .int .i64 r0, .int .i64 r1, .int .i64 r2, .int .i64 k] 37) := ⟨_, rfl⟩
    have hbU : Below w3.heap.size w3 U3 := by rw [hU3]; exact below_one _ _
    have HZ3 : Hid (Blk U3 w3.heap.size 37 [.slice a3 m c3, .int .i64 q, .slice b3 t e3, .int .i64 r0, .int .i64 r1, .int .i64 r2, .int .i64 k]) := by rw [hU3]; exact blk_new _ _ _
    have HA3' : Hid (SF w2.heap.size U3 (.slice a3 m c3) (.slice b3 t e3) y) := HA3.out.later hbU
    have HB3' : Hid (Below w.heap.size w U3) := below_tr HB3.out hbU
    rw [← hU3]
    clear hU3 hbU HA3 HB3
    obtain ⟨z3, hz3⟩ : ∃ n, n = w3.heap.size := ⟨_, rfl⟩
    rw [← hz3] at HZ3 ⊢
    clear hz3
    refine Calls.mono (HT2.out _ HB3'.out) ?_
    rintro e w4 ⟨v4, rfl, hr4, hb4, hf4, g4, n4, hv4⟩
    subst hv4
    have HP4 : Hid (Within U3.heap.size w4.heap.size (.slice (some ⟨g4, 0, none⟩) n4 n4)) := row_spot hr4
    have HX4 : Hid (XI xs U3.heap.size (.slice (some ⟨g4, 0, none⟩) n4 n4) w4) := ⟨hr4, int_marks hr4 hf4 HXO.out⟩
    have HK4' : Hid (Below U3.heap.size U3 w4) := hb4
    clear hb4 hr4 hf4
    go_wp2_with fail
    refine Calls.mono (HI.out _ _ _ HX4.out.1) ?_
    rintro e w5 ⟨a5, c5, b5, e5, rfl, hs5, hb5, hm5, hn5, ht5⟩
    have HP5 : Hid (Within w4.heap.size w5.heap.size (.slice a5 m c5) ∧ Within w4.heap.size w5.heap.size (.slice b5 t e5)) := ⟨row_spot hs5.1, row_spot hs5.2⟩
    have HT5 : Hid (Two (.slice a5 m c5) (.slice b5 t e5)) := ht5
    have HZ5 : Hid (Blk w5 z3 37 [.slice a3 m c3, .int .i64 q, .slice b3 t e3, .int .i64 r0, .int .i64 r1, .int .i64 r2, .int .i64 k]) := (HZ3.out.later HK4'.out).later hb5
    have hz5 : z3 < w5.heap.size := HZ5.out.lt
    have h45 : w4.heap.size ≤ w5.heap.size := hb5.size
    have h34 : U3.heap.size ≤ w4.heap.size := HK4'.out.size
    obtain ⟨q0, q1, q2, q3, q4, q5, q6⟩ := seven HZ5.out
    go_wp2_with fail
    obtain ⟨U5, hU5⟩ : ∃ U, U = w5.alloc (.cells #[.slice a5 m c5, .int .i64 q, .slice b5 t e5, .int .i64 r0, .int .i64 r1, .int .i64 r2, .int .i64 k] 37) := ⟨_, rfl⟩
    have hbU : Below w5.heap.size w5 U5 := by rw [hU5]; exact below_one _ _
    have hbV : Below w4.heap.size w4 U5 := below_tr hb5 hbU
    have HA5 : Hid (AN y w4.heap.size w5.heap.size [.slice a5 m c5, .int .i64 q, .slice b5 t e5, .int .i64 r0, .int .i64 r1, .int .i64 r2, .int .i64 k] (.slice a5 m c5) (.slice b5 t e5) U5) := ⟨by rw [hU5]; exact blk_new _ _ _, SF.later hs5 hbU, hm5.later hbU, hn5.later hbU⟩
    have HX5 : Hid (XI xs U3.heap.size (.slice (some ⟨g4, 0, none⟩) n4 n4) U5) := HX4.out.later hbV
    have HK5 : Hid (Below U3.heap.size U3 U5) := below_tr HK4'.out hbV
    have HC5 : Hid (SF w2.heap.size U5 (.slice a3 m c3) (.slice b3 t e3) y) := HA3'.out.later HK5.out
    rw [← hU5]
    clear hU5 hbU hbV hb5 hs5 hm5 hn5 ht5 HX4 HK4' HZ5 q0 q1 q2 q3 q4 q5 q6
    obtain ⟨g5, hg5⟩ : ∃ n, n = w5.heap.size := ⟨_, rfl⟩
    rw [← hg5] at HA5 HP5 hz5 h45 ⊢
    clear hg5
    refine Calls.mono (HEQ.out _ _ _ _ _ _ _ _ _ _ _ _ _ _ _ HA5.out.2.1 HC5.out) ?_
    rintro e w6 ⟨rfl, hb6⟩
    have HA6 : Hid (AN y w4.heap.size g5 [.slice a5 m c5, .int .i64 q, .slice b5 t e5, .int .i64 r0, .int .i64 r1, .int .i64 r2, .int .i64 k] (.slice a5 m c5) (.slice b5 t e5) w6) := HA5.out.later hb6
    have HX6 : Hid (XI xs U3.heap.size (.slice (some ⟨g4, 0, none⟩) n4 n4) w6) := HX5.out.later hb6
    have HK6 : Hid (Below U3.heap.size U3 w6) := below_tr HK5.out hb6
    clear hb6 HA5 HX5 HK5 HC5
    go_wp2_with fail
    refine Calls.mono (HT2.out _ (below_tr HB3'.out HK6.out)) ?_
    rintro e w7 ⟨v7, rfl, hr7, hb7, -⟩
    have HR7 : Hid (RowE (Plain cint) 1 w6.heap.size w7 v7 xs) := hr7
    have HA7 : Hid (AN y w4.heap.size g5 [.slice a5 m c5, .int .i64 q, .slice b5 t e5, .int .i64 r0, .int .i64 r1, .int .i64 r2, .int .i64 k] (.slice a5 m c5) (.slice b5 t e5) w7) := HA6.out.later hb7
    have HX7 : Hid (XI xs U3.heap.size (.slice (some ⟨g4, 0, none⟩) n4 n4) w7) := HX6.out.later hb7
    have HK7 : Hid (Below U3.heap.size U3 w7) := below_tr HK6.out hb7
    clear hr7 hb7 HA6 HX6 HK6
    go_wp2_with fail
    refine Calls.mono (HE.out _ _ _ _ _ HX7.out.1 HR7.out) ?_
    rintro e w8 ⟨rfl, hb8⟩
    have HA8 : Hid (AN y w4.heap.size g5 [.slice a5 m c5, .int .i64 q, .slice b5 t e5, .int .i64 r0, .int .i64 r1, .int .i64 r2, .int .i64 k] (.slice a5 m c5) (.slice b5 t e5) w8) := HA7.out.later hb8
    have HX8 : Hid (XI xs U3.heap.size (.slice (some ⟨g4, 0, none⟩) n4 n4) w8) := HX7.out.later hb8
    have HK8 : Hid (Below U3.heap.size U3 w8) := below_tr HK7.out hb8
    clear hb8 HA7 HX7 HK7 HR7
    go_wp2_with fail
    refine Calls.mono (HMX.out _ _ HX8.out.2) ?_
    rintro e w9 ⟨rfl, hw9⟩
    have HA9 : Hid (AN y w4.heap.size g5 [.slice a5 m c5, .int .i64 q, .slice b5 t e5, .int .i64 r0, .int .i64 r1, .int .i64 r2, .int .i64 k] (.slice a5 m c5) (.slice b5 t e5) w9) := by rw [hw9]; exact past1 HA8.out HP4.out (Nat.le_refl _) (by omega) _
    have HK9 : Hid (Below U3.heap.size U3 w9) := by rw [hw9]; exact markV_below HK8.out (fun g o p q => (HP4.out g o p q).1)
    have HKX : Hid ((0 : Int) ≤ 1 + (lenOf (.slice (some ⟨g4, 0, none⟩) n4 n4) : Int)) := by show _ ≤ _; omega
    have HC9 : Hid (SF w2.heap.size w9 (.slice a3 m c3) (.slice b3 t e3) y) := HA3'.out.later HK9.out
    clear hw9 HA8 HX8 HK8
    generalize 1 + (lenOf (.slice (some ⟨g4, 0, none⟩) n4 n4) : Int) = kx at *
    have hkx := HKX.out
    have HZ9 : Hid (Blk w9 z3 37 [.slice a3 m c3, .int .i64 q, .slice b3 t e3, .int .i64 r0, .int .i64 r1, .int .i64 r2, .int .i64 k]) := HZ3.out.later HK9.out
    obtain ⟨q0, q1, q2, q3, q4, q5, q6⟩ := seven HZ9.out
    obtain ⟨p0, p1, p2, p3, p4, p5, p6⟩ := seven HA9.out.1
    go_wp2_with fail
    refine Calls.mono (HEQ.out _ _ _ _ _ _ _ _ _ _ _ _ _ _ _ HA9.out.2.1 HC9.out) ?_
    rintro e w10 ⟨rfl, hb10⟩
    have HA10 : Hid (AN y w4.heap.size g5 [.slice a5 m c5, .int .i64 q, .slice b5 t e5, .int .i64 r0, .int .i64 r1, .int .i64 r2, .int .i64 k] (.slice a5 m c5) (.slice b5 t e5) w10) := HA9.out.later hb10
    have HK10 : Hid (Below U3.heap.size U3 w10) := below_tr HK9.out hb10
    clear hb10 HA9 HK9 HC9 HZ9 p0 p1 p2 p3 p4 p5 p6 q0 q1 q2 q3 q4 q5 q6
    obtain ⟨p0, p1, p2, p3, p4, p5, p6⟩ := seven HA10.out.1
    go_wp2_with fail
    refine Calls.mono (HMK.out _ _ _ _ _ _ _ HA10.out.2.2.1 HA10.out.2.2.2) ?_
    rintro e w11 ⟨rfl, V11, hb11, hw11⟩
    have HH11 : Hid (HN g5 [.slice a5 m c5, .int .i64 q, .slice b5 t e5, .int .i64 r0, .int .i64 r1, .int .i64 r2, .int .i64 k] (.slice a5 m c5) (.slice b5 t e5) w11) := by rw [hw11]; exact (HA10.out.later hb11).held HT5.out HP5.out.1 HP5.out.2
    have HK11 : Hid (Below U3.heap.size U3 w11) := by rw [hw11]; exact past_below (below_tr HK10.out hb11) HP5.out.1 HP5.out.2 h34
    have HHD2 : Hid (∀ W, HeldS W (.slice a5 m c5) (.slice b5 t e5) → Calls Try.prog 21 #[.agg #[.slice a5 m c5, .int .i64 q, .slice b5 t e5, .int .i64 r0, .int .i64 r1, .int .i64 r2, .int .i64 k], .int .i64 1] W fun e' w' => e' = .returned (.int .i64 (kOf (.slice a5 m c5) (.slice b5 t e5))) ∧ Below W.heap.size W w') := fun W h => HHD.out _ _ _ _ _ _ _ h hd1 hd2
    have hkg : 0 ≤ kOf (.slice a5 m c5) (.slice b5 t e5) := by unfold kOf; omega
    clear hw11 hb11 HA10 HK10 p0 p1 p2 p3 p4 p5 p6 HHD
    generalize kOf (.slice a5 m c5) (.slice b5 t e5) = kg at *
    obtain ⟨p0, p1, p2, p3, p4, p5, p6⟩ := seven HH11.out.1
    go_wp2_with fail
    refine Calls.mono (HHD2.out _ HH11.out.2) ?_
    rintro e w12 ⟨rfl, hb12⟩
    have HH12 : Hid (HN g5 [.slice a5 m c5, .int .i64 q, .slice b5 t e5, .int .i64 r0, .int .i64 r1, .int .i64 r2, .int .i64 k] (.slice a5 m c5) (.slice b5 t e5) w12) := HH11.out.later hb12
    have HK12 : Hid (Below U3.heap.size U3 w12) := below_tr HK11.out hb12
    clear hb12 HH11 HK11 p0 p1 p2 p3 p4 p5 p6
    go_wp2_with fail
    refine Calls.mono (HT2.out _ (below_tr HB3'.out HK12.out)) ?_
    rintro e w13 ⟨v13, rfl, hr13, hb13, -⟩
    have HH13 : Hid (HN g5 [.slice a5 m c5, .int .i64 q, .slice b5 t e5, .int .i64 r0, .int .i64 r1, .int .i64 r2, .int .i64 k] (.slice a5 m c5) (.slice b5 t e5) w13) := HH12.out.later hb13
    have HK13 : Hid (Below U3.heap.size U3 w13) := below_tr HK12.out hb13
    have HR13 : Hid (RowE (Plain cint) 1 w12.heap.size w13 v13 xs) := hr13
    clear hb13 hr13 HH12 HK12
    go_wp2_with fail
    refine Calls.mono (HI.out _ _ _ HR13.out) ?_
    rintro e w14 ⟨ah, ch, bh, eh, rfl, hs14, hb14, -, -, -⟩
    have HA14 : Hid (SF w13.heap.size w14 (.slice ah m ch) (.slice bh t eh) y) := hs14
    have HH14 : Hid (HN g5 [.slice a5 m c5, .int .i64 q, .slice b5 t e5, .int .i64 r0, .int .i64 r1, .int .i64 r2, .int .i64 k] (.slice a5 m c5) (.slice b5 t e5) w14) := HH13.out.later hb14
    have HK14 : Hid (Below U3.heap.size U3 w14) := below_tr HK13.out hb14
    have HZ14 : Hid (Blk w14 z3 37 [.slice a3 m c3, .int .i64 q, .slice b3 t e3, .int .i64 r0, .int .i64 r1, .int .i64 r2, .int .i64 k]) := HZ3.out.later HK14.out
    have hz14 : z3 < w14.heap.size := HZ14.out.lt
    obtain ⟨q0, q1, q2, q3, q4, q5, q6⟩ := seven HZ14.out
    clear hb14 hs14 HH13 HK13 HR13
    go_wp2_with fail
    obtain ⟨U14, hU14⟩ : ∃ U, U = w14.alloc (.cells #[.slice ah m ch, .int .i64 q, .slice bh t eh, .int .i64 r0, .int .i64 r1, .int .i64 r2, .int .i64 k] 37) := ⟨_, rfl⟩
    have hbU : Below w14.heap.size w14 U14 := by rw [hU14]; exact below_one _ _
    have HA15 : Hid (SF w13.heap.size U14 (.slice ah m ch) (.slice bh t eh) y) := HA14.out.later hbU
    have HH15 : Hid (HN g5 [.slice a5 m c5, .int .i64 q, .slice b5 t e5, .int .i64 r0, .int .i64 r1, .int .i64 r2, .int .i64 k] (.slice a5 m c5) (.slice b5 t e5) U14) := HH14.out.later hbU
    have HK15 : Hid (Below U3.heap.size U3 U14) := below_tr HK14.out hbU
    have HC15 : Hid (SF w2.heap.size U14 (.slice a3 m c3) (.slice b3 t e3) y) := HA3'.out.later HK15.out
    rw [← hU14]
    clear hU14 hbU HA14 HH14 HK14 HZ14 hz14 q0 q1 q2 q3 q4 q5 q6
    refine Calls.mono (HEQ.out _ _ _ _ _ _ _ _ _ _ _ _ _ _ _ HA15.out HC15.out) ?_
    rintro e w16 ⟨rfl, hb16⟩
    have HH16 : Hid (HN g5 [.slice a5 m c5, .int .i64 q, .slice b5 t e5, .int .i64 r0, .int .i64 r1, .int .i64 r2, .int .i64 k] (.slice a5 m c5) (.slice b5 t e5) w16) := HH15.out.later hb16
    have HK16 : Hid (Below U3.heap.size U3 w16) := below_tr HK15.out hb16
    obtain ⟨p0, p1, p2, p3, p4, p5, p6⟩ := seven HH16.out.1
    clear hb16 HA15 HH15 HK15 HC15
    go_wp2_with fail
    refine Calls.mono (HHD2.out _ HH16.out.2) ?_
    rintro e w17 ⟨rfl, hb17⟩
    have HBE : Hid (Below w.heap.size w w17) := below_tr HB3'.out (below_tr HK16.out hb17)
    clear hb17 HH16 HK16 p0 p1 p2 p3 p4 p5 p6
    go_wp2_with fail
    go_ret
    exact ⟨rfl, HBE.out⟩
  · clear HT
    go_enter Try.func4, Try.ntmps4
    go_wp2_with fail
    go_ret
    exact ⟨rfl, Below.refl _ _⟩

theorem new_len (xs : List Int) : (newD xs).y.order.length ≤ 1048576 ∧ (newD xs).y.tasks.length ≤ 1048576 := by
  unfold newD
  split
  · exact ⟨by simp [illD], by simp [illD]⟩
  · split
    · exact ⟨by simp [illD], by simp [illD]⟩
    · exact ⟨by simp only; omega, by simp⟩
theorem spec_newD {lo : Nat} {w : World} {v : Value} {xs : List Int} (h : RowE (Plain cint) 1 lo w v xs) : Calls Try.prog 14 #[v] w (SpecAns (newD xs) w) := (spec_new h).mono fun e w' q => by
  unfold NewPost at q
  unfold newD
  split at q
  · rename_i h4
    rw [if_pos h4, q.1]
    exact ill_spec 2 q.2
  · rename_i h4
    rw [if_neg h4]
    split at q
    · rename_i ho
      rw [if_pos ho, q.1]
      exact ill_spec 1 q.2
    · rename_i ho
      rw [if_neg ho]
      obtain ⟨v, he, hi, hb⟩ := q
      rw [he]
      exact ⟨v, _, rfl, ⟨hi.row.1, (ill_sf _ _ 0).2⟩, hb⟩
theorem whole (xs : List Int) (vo : Value) (w : World) (h : RowE (Plain cint) 1 0 w vo xs) :
    Calls Try.prog 4 #[vo] w fun e w' => e = .returned (.bool true) ∧ Below w.heap.size w w' :=
  walk xs vo (newD xs) (new_len xs).1 (new_len xs).2 w h (fun l u W hW => spec_newD hW) (fun l u W hW => impl_new hW)
/-- a slice is one cell -/
theorem slice_cells {W : World} {base : Nat} {v : Value} (h : Value.okWide Try.prog W .any base 22 v) : v.cells.toList = [v] := by
  cases v with
  | agg c => simp [Value.okWide, Cell.okWide, Cell.ok, Try.underlying22] at h
  | _ => rfl

set_option maxRecDepth 100000 in
theorem lifted (os : Os) (started : os.Started) (H : Type) (enc : TypeId × Value → H) :
    ReturnsInHanded {} Try.checked os 4 .any (Rows.fnExactSchedNewSpec.pre6 enc Try.prog Try.f4 Rows.fnExactSchedNewRow.domain false) (Rows.fnExactSchedNewSpec.post enc Try.prog Try.f4 false true false false) := by
  refine returnsInHanded_of_change (C := Try.checked) own started (by kernel_rfl) Try.func4
    (ChangeSpec.witness6 (enc := enc) (C := Try.checked) false ⟨#[], #[.slice none 0 0], []⟩ 8 (by kernel_rfl) (by kernel_rfl) (by kernel_rfl) (by kernel_rfl)) ?_
  intro W base args ds gs before hval0 hW hcnd _
  have hval : ∀ (j : Nat) t v, Try.f4.params[j]? = some t → args[j]? = some v → Value.okWide Try.prog W .any base t v := hval0
  have hW' := hW
  obtain ⟨p, q, hA0, hV, rfl, hfz, hnd⟩ := hW
  have hA : DataW.TrodAll enc Try.prog W 0 (fun _ => true) true Try.f4.params.toList args.toList ds p := hA0
  rw [Try.params4] at hA hval
  obtain ⟨v0, vs0, d0, ds0, p0, q0, hargs, rfl, rfl, h0, r0⟩ := trodAll_cons hA
  obtain ⟨rfl, rfl, rfl⟩ := trodAll_nil r0
  obtain rfl : args = #[v0] := by cases args; simp_all
  obtain ⟨rfl, rfl⟩ := trodVars_none hV
  have h0k := h0
  obtain ⟨fuel, hf⟩ := h0k
  rw [slice_cells (hval 0 22 v0 rfl rfl)] at hf
  obtain ⟨xs, hx⟩ := open_row (E := Plain cint) Try.underlying22 cells_in (by decide) (fun m cs z hl hz => open_in m cs z hl hz) hf
  clear hA0 hval0 hf
  simp only [List.append_nil] at hW'
  have hlt : ∀ y ∈ p0, y.block < W.heap.size := fun y hy => by simpa using hW'.lt y (by simpa using hy)
  refine (whole xs v0 W hx).mono fun e W' ⟨he, hg⟩ => ?_
  subst he
  have harg0 : DataW.Trod enc Try.prog W' 0 (fun b => decide (b < W.heap.size)) true 22 v0 d0 p0 :=
    Below.trod laidOutS (by kernel_rfl) (of_decide_eq_true (by kernel_rfl)) h0 hg (fun y hy => hlt y hy)
  exact ⟨_, rfl, _, _, _, [], _, [], hW', (trodAll_cons_mk (shut_bool Try.underlying4 _) trodAll_mk0), (trodAll_cons_mk harg0 trodAll_mk0), rfl, hg.frame _, fun h => by cases h⟩

/-- the statement -/
theorem proved : Rows.FnExactSchedNewSaid :=
  OpenClaim.holds_of_wide 4 Try.f4 rfl rfl rfl rfl rfl rfl rfl ⟨rfl, rfl, rfl, rfl, rfl⟩ rfl rfl rfl rfl rfl (by kernel_rfl) Try.func4 (by kernel_rfl)
    (of_decide_eq_true (by kernel_rfl)) (by unfold Func.isWrapper; first | (rw [if_pos (by decide +kernel)]; kernel_rfl) | (rw [if_neg (by decide +kernel)]; exact ⟨rfl, rfl⟩))
    (fun os started H enc _ => lifted os started H enc)
#print axioms proved
end Go.Proofs.Ytnkkkdhpopfahaa.fnExactSchedNew
