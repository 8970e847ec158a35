/-
  The specification's SchedTick. Condition: the Sched's lists are no nil lists.
-/
import Derived.Test.YtnkkkdhpopfahaaSchSr
import Derived.Test.YtnkkkdhpopfahaaSchOut
namespace Go.Proofs.Ytnkkkdhpopfahaa.sch
open Go.RowKit Go.Deep Go.Sort
open Go.Proofs.Ytnkkkdhpopfahaa
open Go.Proofs.Ytnkkkdhpopfahaa.deep
set_option linter.unusedVariables false
set_option maxRecDepth 100000

def tickA (x : SchedD) : SoD := if schedB x && decide (x.now < 999999) then tickD x else illD 1
theorem ans_end {d : SoD} {w W : World} {vo vt : Value} {lo1 : Nat} (hB : Below w.heap.size w W) (hlo : w.heap.size + 1 < lo1) (h : SF lo1 W vo vt d.y) (cs : List Value) : SpecAns d w (.returned (soV d vo vt)) (putW W (w.heap.size + 1) 0 cs) := by
  have hk := putW_keep cs W (w.heap.size + 1) 0 (w.heap.size + 2) (by omega)
  have hf : SF (w.heap.size + 2) W vo vt d.y := ⟨rowE_lowers (plain_lowers _) h.1 (by omega), rowE_lowers (plain_lowers _) h.2 (by omega)⟩
  have hf2 := hf.keep hk (Nat.le_refl _) (Nat.le_refl _)
  exact ⟨vo, vt, rfl, ⟨rowE_lowers (plain_lowers _) hf2.1 (by omega), rowE_lowers (plain_lowers _) hf2.2 (by omega)⟩, putW_below _ hB (by omega)⟩
theorem ill_end (k : Int) {w W : World} (hB : Below w.heap.size w W) (cs : List Value) : SpecAns (illD k) w (.returned (.agg #[.slice none 0 0, .int .i64 0, .slice none 0 0, .int .i64 0, .int .i64 0, .int .i64 0, .int .i64 k])) (putW W (w.heap.size + 1) 0 cs) :=
  ans_end (d := illD k) hB (Nat.lt_succ_self _) (ill_sf W (w.heap.size + 2) 0) cs
set_option maxHeartbeats 4000000 in
theorem spec_ticks (x : SchedD) (ao at' : Addr) (no co nt ct : Nat) (hnc : nt ≤ ct) {lo : Nat} {w : World} (h : SF lo w (.slice (some ao) no co) (.slice (some at') nt ct) x) : Calls Try.prog 25 #[.agg #[.slice (some ao) no co, .int .i64 x.now, .slice (some at') nt ct]] w (SpecAns (tickA x) w) := by
  have HR : Hid (∀ W, Below w.heap.size w W → Calls Try.prog 10 #[.agg #[.slice (some ao) no co, .int .i64 x.now, .slice (some at') nt ct]] W fun e w' => e = .returned (.bool (schedB x)) ∧ Below W.heap.size W w') := fun W hW => spec_right x (h.later hW)
  have HIL : Hid (∀ W, Calls Try.prog 43 #[.int .i64 1] W fun e w' => e = .returned (.agg #[.slice none 0 0, .int .i64 0, .slice none 0 0, .int .i64 0, .int .i64 0, .int .i64 0, .int .i64 1]) ∧ Below W.heap.size W w') := fun W => spec_ill 1 W
  obtain ⟨V, hV⟩ : ∃ V, V = (w.alloc (.cells #[.slice (some ao) no co, .int .i64 x.now, .slice (some at') nt ct] 30)).alloc (.cells #[.slice none 0 0, .int .i64 0, .slice none 0 0, .int .i64 0, .int .i64 0, .int .i64 0, .int .i64 0] 37) := ⟨_, rfl⟩
  have HB : Hid (Below w.heap.size w V) := by rw [hV]; exact below2 _ _ _
  obtain ⟨b1, b2⟩ : Blk V w.heap.size 30 [.slice (some ao) no co, .int .i64 x.now, .slice (some at') nt ct] ∧ Blk V (w.heap.size + 1) 37 [.slice none 0 0, .int .i64 0, .slice none 0 0, .int .i64 0, .int .i64 0, .int .i64 0, .int .i64 0] := by rw [hV]; exact blk2 _ _ _ _ _
  have HX : Hid (Blk V w.heap.size 30 [.slice (some ao) no co, .int .i64 x.now, .slice (some at') nt ct]) := b1
  have HY : Hid (Blk V (w.heap.size + 1) 37 [.slice none 0 0, .int .i64 0, .slice none 0 0, .int .i64 0, .int .i64 0, .int .i64 0, .int .i64 0]) := b2
  clear b1 b2
  have HSF : Hid (∀ W, Below w.heap.size w W → SF lo W (.slice (some ao) no co) (.slice (some at') nt ct) x) := fun W hW => h.later hW
  obtain ⟨x0, x1, x2⟩ := cells3s HX.out
  clear h
  cases hs : schedB x with
  | false =>
    have HE : Hid (tickA x = illD 1) := by rw [Hid, tickA, hs]; rfl
    rw [hs] at HR
    rw [HE.out]
    go_enter Try.func25, Try.ntmps25
    go_wp2_with fail
    rw [← hV]
    clear hV
    refine Calls.mono (HR.out _ HB.out) ?_
    rintro e w1 ⟨rfl, hb1⟩
    have HB1 : Hid (Below w.heap.size w w1) := below_tr HB.out hb1
    have HY1 : Hid (Blk w1 (w.heap.size + 1) 37 [.slice none 0 0, .int .i64 0, .slice none 0 0, .int .i64 0, .int .i64 0, .int .i64 0, .int .i64 0]) := HY.out.later hb1
    clear hb1
    go_wp2_with fail
    refine Calls.mono (HIL.out _) ?_
    rintro e w2 ⟨rfl, hb2⟩
    have HB2 : Hid (Below w.heap.size w w2) := below_tr HB1.out hb2
    obtain ⟨y0, y1, y2, y3, y4, y5, y6⟩ := seven (HY1.out.later hb2)
    obtain ⟨z0, z1, z2, z3, z4, z5, z6⟩ := seven_free (HY1.out.later hb2)
    clear hb2
    go_wp2_with fail
    refine bodyPost_ret (v := .agg #[.slice none 0 0, .int .i64 0, .slice none 0 0, .int .i64 0, .int .i64 0, .int .i64 0, .int .i64 1]) ?_ rfl ?_
    · simp [results, Try.results25, go_sem, y0, y1, y2, y3, y4, y5, y6]
    · exact ill_end 1 HB2.out [.slice none 0 0, .int .i64 0, .slice none 0 0, .int .i64 0, .int .i64 0, .int .i64 0, .int .i64 1]
  | true =>
    rw [hs] at HR
    obtain ⟨f1, f2, f3, f4⟩ := sched_facts hs
    have f5 := order_len f1
    have HND : Hid (∀ t ∈ x.tasks, 1 ≤ t.2.2 ∧ t.2.2 ≤ 99) := fun t ht => by
      obtain ⟨k, hk, rfl⟩ := List.getElem_of_mem ht
      have := f4 k hk
      simp only [taskB, Bool.and_eq_true] at this
      exact isB_of.1 this.2.2
    by_cases hn : x.now < 999999
    · have HE : Hid (tickA x = tickD x) := by rw [Hid, tickA, hs, decide_eq_true hn]; rfl
      have hne : ¬ x.now = 999999 := by omega
      have HTK : Hid (∀ W, Below w.heap.size w W → Calls Try.prog 56 #[.agg #[.slice (some ao) no co, .int .i64 x.now, .slice (some at') nt ct]] W (TickPost x W)) := fun W hW => spec_tick x ao at' no co nt ct hnc (HSF.out W hW) f5.1 f5.2 f2.1 hn (by omega) HND.out
      clear f1 f4 HSF
      rw [HE.out]
      go_enter Try.func25, Try.ntmps25
      go_wp2_with fail
      rw [← hV]
      clear hV
      refine Calls.mono (HR.out _ HB.out) ?_
      rintro e w1 ⟨rfl, hb1⟩
      have HB1 : Hid (Below w.heap.size w w1) := below_tr HB.out hb1
      have HY1 : Hid (Blk w1 (w.heap.size + 1) 37 [.slice none 0 0, .int .i64 0, .slice none 0 0, .int .i64 0, .int .i64 0, .int .i64 0, .int .i64 0]) := HY.out.later hb1
      have HX1 : Hid (Blk w1 w.heap.size 30 [.slice (some ao) no co, .int .i64 x.now, .slice (some at') nt ct]) := HX.out.later hb1
      clear hb1 x0 x1 x2
      obtain ⟨x0, x1, x2⟩ := cells3s HX1.out
      go_wp2_with fail
      refine Calls.mono (HTK.out _ HB1.out) ?_
      rintro e w2 ⟨a1, n1, c1, b1, m1, d1, rfl, hsf, hmd, hb2⟩
      obtain ⟨r0, r1, r2, hr⟩ : ∃ r0 r1 r2, (tickD x).r = (r0, r1, r2) := ⟨_, _, _, rfl⟩
      have hv : soV (tickD x) (.slice (some a1) n1 c1) (.slice (some b1) m1 d1) = .agg #[.slice (some a1) n1 c1, .int .i64 (x.now + 1), .slice (some b1) m1 d1, .int .i64 r0, .int .i64 r1, .int .i64 r2, .int .i64 0] := by
        have hy : (tickD x).y.now = x.now + 1 := rfl
        have hcd : (tickD x).code = 0 := rfl
        unfold soV soC soL
        rw [hr, hy, hcd]
      have HQ : Hid (SpecAns (tickD x) w (.returned (.agg #[.slice (some a1) n1 c1, .int .i64 (x.now + 1), .slice (some b1) m1 d1, .int .i64 r0, .int .i64 r1, .int .i64 r2, .int .i64 0])) (putW w2 (w.heap.size + 1) 0 [.slice (some a1) n1 c1, .int .i64 (x.now + 1), .slice (some b1) m1 d1, .int .i64 r0, .int .i64 r1, .int .i64 r2, .int .i64 0])) := by
        rw [Hid, ← hv]
        exact ans_end (below_tr HB1.out hb2) (HY1.out.lt) ⟨hsf.1, hsf.2⟩ _
      rw [hv]
      obtain ⟨y0, y1, y2, y3, y4, y5, y6⟩ := seven (HY1.out.later hb2)
      obtain ⟨z0, z1, z2, z3, z4, z5, z6⟩ := seven_free (HY1.out.later hb2)
      clear hb2 hsf hv hr
      go_wp2_with fail
      refine bodyPost_ret (v := .agg #[.slice (some a1) n1 c1, .int .i64 (x.now + 1), .slice (some b1) m1 d1, .int .i64 r0, .int .i64 r1, .int .i64 r2, .int .i64 0]) ?_ rfl ?_
      · simp [results, Try.results25, go_sem, y0, y1, y2, y3, y4, y5, y6]
      · exact HQ.out
    · have HE : Hid (tickA x = illD 1) := by rw [Hid, tickA, decide_eq_false hn, Bool.and_false]; rfl
      have HNE : Hid (x.now = 999999) := by show _ = _; omega
      clear f1 f4 HSF
      rw [HE.out]
      go_enter Try.func25, Try.ntmps25
      go_wp2_with fail
      rw [← hV]
      clear hV
      refine Calls.mono (HR.out _ HB.out) ?_
      rintro e w1 ⟨rfl, hb1⟩
      have HB1 : Hid (Below w.heap.size w w1) := below_tr HB.out hb1
      have HY1 : Hid (Blk w1 (w.heap.size + 1) 37 [.slice none 0 0, .int .i64 0, .slice none 0 0, .int .i64 0, .int .i64 0, .int .i64 0, .int .i64 0]) := HY.out.later hb1
      have HX1 : Hid (Blk w1 w.heap.size 30 [.slice (some ao) no co, .int .i64 x.now, .slice (some at') nt ct]) := HX.out.later hb1
      have hne := HNE.out
      clear hb1 x0 x1 x2
      obtain ⟨x0, x1, x2⟩ := cells3s HX1.out
      go_wp2_with fail
      refine Calls.mono (HIL.out _) ?_
      rintro e w2 ⟨rfl, hb2⟩
      have HB2 : Hid (Below w.heap.size w w2) := below_tr HB1.out hb2
      obtain ⟨y0, y1, y2, y3, y4, y5, y6⟩ := seven (HY1.out.later hb2)
      obtain ⟨z0, z1, z2, z3, z4, z5, z6⟩ := seven_free (HY1.out.later hb2)
      clear hb2
      go_wp2_with fail
      refine bodyPost_ret (v := .agg #[.slice none 0 0, .int .i64 0, .slice none 0 0, .int .i64 0, .int .i64 0, .int .i64 0, .int .i64 1]) ?_ rfl ?_
      · simp [results, Try.results25, go_sem, y0, y1, y2, y3, y4, y5, y6]
      · exact ill_end 1 HB2.out [.slice none 0 0, .int .i64 0, .slice none 0 0, .int .i64 0, .int .i64 0, .int .i64 0, .int .i64 1]
end Go.Proofs.Ytnkkkdhpopfahaa.sch
