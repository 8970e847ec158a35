/-
  The walks of the specification's l13Task, l13At and SchedRight. No condition.
-/
import Derived.Test.YtnkkkdhpopfahaaSchRight
namespace Go.Proofs.Ytnkkkdhpopfahaa.sch
open Go.RowKit Go.Deep Go.Sort
open Go.Proofs.Ytnkkkdhpopfahaa
open Go.Proofs.Ytnkkkdhpopfahaa.deep
set_option linter.unusedVariables false
set_option maxRecDepth 100000

theorem cells3s {W : World} {B t : Nat} {x y z : Value} (h : Blk W B t [x, y, z]) : W.cell? ⟨B, 0, none⟩ = some x ∧ W.cell? ⟨B, 1, none⟩ = some y ∧ W.cell? ⟨B, 2, none⟩ = some z := ⟨h.cell 0, h.cell 1, h.cell 2⟩
set_option maxHeartbeats 2000000 in
theorem spec_task (l : List Int) (nw : Int) (t0 t1 t2 : Int) (at' : Option Addr) (nt ct : Nat) {lo : Nat} {w : World} {vo : Value} (h : RowE (Plain cint) 1 lo w vo l) : Calls Try.prog 38 #[.agg #[vo, .int .i64 nw, .slice at' nt ct], .agg #[.int .i64 t0, .int .i64 t1, .int .i64 t2]] w fun e w' => e = .returned (.bool (taskB l (t0, t1, t2))) ∧ Below w.heap.size w w' := by
  have HO : Hid (∀ W, Below w.heap.size w W → Calls Try.prog 48 #[vo, .int .i64 t0] W fun e w' => e = .returned (.int .i64 (oft l t0)) ∧ w' = W) := fun W hW => spec_often t0 (h.below (plain_stays _) hW)
  have H1 : Hid (∀ W, Calls Try.prog 37 #[.int .i64 t1, .int .i64 1, .int .i64 9999] W fun e w' => e = .returned (.bool (isB t1 1 9999)) ∧ w' = W) := fun W => spec_isS _ _ _ W
  have H2 : Hid (∀ W, Calls Try.prog 37 #[.int .i64 t2, .int .i64 1, .int .i64 99] W fun e w' => e = .returned (.bool (isB t2 1 99)) ∧ w' = W) := fun W => spec_isS _ _ _ W
  have HT : Hid (taskB l (t0, t1, t2) = (decide (0 < oft l t0) && (isB t1 1 9999 && isB t2 1 99))) := rfl
  have hle := oft_le l t0 l.length
  obtain ⟨a, c, rfl, hm, _⟩ := int_at h
  unfold maxLen at hm
  have HW : Hid (Below w.heap.size w ((w.alloc (.cells #[.slice a l.length c, .int .i64 nw, .slice at' nt ct] 30)).alloc (.cells #[.int .i64 t0, .int .i64 t1, .int .i64 t2] 35))) := below2 _ _ _
  have ho : (oft l t0 : Int) ≤ 9223372036854775807 := by unfold oft; omega
  generalize taskB l (t0, t1, t2) = R at *
  generalize oft l t0 = q at *
  clear h hle
  generalize isB t1 1 9999 = b1 at *
  generalize isB t2 1 99 = b2 at *
  by_cases hq : 0 < q
  · have HT2 : Hid (R = (b1 && b2)) := by rw [Hid, HT.out]; simp [hq]
    clear HT
    cases b1 with
    | false =>
      go_enter Try.func38, Try.ntmps38
      go_wp2_with fail
      refine Calls.mono (HO.out _ HW.out) ?_
      rintro e w1 ⟨rfl, rfl⟩
      go_wp2_with fail
      refine Calls.mono (H1.out _) ?_
      rintro e w2 ⟨rfl, rfl⟩
      go_wp2_with fail
      go_ret
      exact ⟨by rw [HT2.out]; rfl, HW.out⟩
    | true =>
      go_enter Try.func38, Try.ntmps38
      go_wp2_with fail
      refine Calls.mono (HO.out _ HW.out) ?_
      rintro e w1 ⟨rfl, rfl⟩
      go_wp2_with fail
      refine Calls.mono (H1.out _) ?_
      rintro e w2 ⟨rfl, rfl⟩
      go_wp2_with fail
      refine Calls.mono (H2.out _) ?_
      rintro e w3 ⟨rfl, rfl⟩
      go_wp2_with fail
      go_ret
      exact ⟨by rw [HT2.out]; rfl, HW.out⟩
  · obtain rfl : q = 0 := by omega
    have HT2 : Hid (R = false) := by rw [Hid, HT.out]; simp
    clear HT
    go_enter Try.func38, Try.ntmps38
    go_wp2_with fail
    refine Calls.mono (HO.out _ HW.out) ?_
    rintro e w1 ⟨rfl, rfl⟩
    go_wp2_with fail
    go_ret
    exact ⟨by rw [HT2.out]; rfl, HW.out⟩

set_option maxHeartbeats 4000000 in
theorem spec_at (ao : Option Addr) (no co : Nat) (nw b i : Int) {lo : Nat} {w : World} {vt : Value} {ts : List Tt} (h : RowE (Plain ctk) 3 lo w vt ts) : Calls Try.prog 39 #[.agg #[.slice ao no co, .int .i64 nw, vt], .int .i64 b, .int .i64 i] w fun e w' => e = .returned (.int .i64 (atI ts b i)) ∧ Below w.heap.size w w' := by
  obtain ⟨a, c, rfl, hm, h3⟩ := tk_at h
  unfold maxLen at hm
  obtain ⟨n, hn⟩ : ∃ n, n = ts.length := ⟨_, rfl⟩
  have HN : Hid (n = ts.length) := hn
  obtain ⟨V, hV⟩ : ∃ V, V = w.alloc (.cells #[.slice ao no co, .int .i64 nw, .slice a n c] 30) := ⟨_, rfl⟩
  have hbV : Below w.heap.size w V := by rw [hV]; exact below_one _ _
  have HX : Hid (Blk V w.heap.size 30 [.slice ao no co, .int .i64 nw, .slice a n c]) := by rw [hV]; exact blk_new _ _ _
  have H3 : Hid (0 < ts.length → ∃ g o, a = some ⟨g, o, none⟩ ∧ ∀ i (hi : i < ts.length), V.cell? ⟨g, o + i * 3, none⟩ = some (.int .i64 ts[i].1) ∧ V.cell? ⟨g, o + i * 3 + 1, none⟩ = some (.int .i64 ts[i].2.1)) := fun h0 => by
    obtain ⟨g, o, ha, hg, hc⟩ := h3 h0
    exact ⟨g, o, ha, fun i hi => ⟨(hbV.cell (p := ⟨g, _, none⟩) hg).trans (hc i hi).1, (hbV.cell (p := ⟨g, _, none⟩) hg).trans (hc i hi).2.1⟩⟩
  have HB : Hid (Below w.heap.size w V) := hbV
  obtain ⟨R, hR⟩ : ∃ R, R = atI ts b i := ⟨_, rfl⟩
  have HR : Hid (R = atI ts b i) := hR
  rw [← hR]
  rw [← hn] at hm ⊢
  clear hn h3 h hbV hR
  go_enter Try.func39, Try.ntmps39
  go_wp2_with fail
  rw [← hV]
  clear hV
  obtain ⟨x0, x1, x2⟩ := cells3s HX.out
  go_loop [7] (fun ti => ∃ j : Nat, j ≤ n ∧ ti = .int .i64 j ∧ Hid (∀ k (hk : k < ts.length), k < j → (ts[k].1 == b && ts[k].2.1 == i) = false)) (fun ti => n - (intOf ti).toNat)
  case atStart => exact ⟨0, by omega, rfl, fun k _ h => absurd h (by omega)⟩
  case round =>
    obtain ⟨j, hj, rfl, H⟩ := hrel
    by_cases hlt : j < n
    · have hlx : j < ts.length := by rw [← HN.out]; exact hlt
      obtain ⟨g, o, rfl, hc⟩ := H3.out (by omega)
      obtain ⟨e0, e1⟩ := hc j hlx
      have HST : Hid ((ts[j].1 == b && ts[j].2.1 == i) = false → ∀ k (hk : k < ts.length), k < j + 1 → (ts[k].1 == b && ts[k].2.1 == i) = false) := fun h k hk hlt2 => by
        by_cases e : k = j
        · subst e; exact h
        · exact H.out k hk (by omega)
      have HHIT : Hid ((ts[j].1 == b && ts[j].2.1 == i) = true → R = (j : Int)) := fun h => by rw [HR.out]; exact at_hit hlx h (fun k hk hlt2 => H.out k hk hlt2)
      clear hc
      generalize ts[j] = x at *
      obtain ⟨p0, p1, p2⟩ := x
      simp only at e0 e1 HST HHIT
      cases hb0 : p0 == b with
      | false =>
        have HS : Hid _ := HST.out (by rw [hb0]; rfl)
        clear HST HHIT
        go_wp2
        go_round
        case rel => exact ⟨j + 1, by omega, by go_num, HS.out⟩
        case measure => simp [intOf]; omega
      | true =>
        cases hb1 : p1 == i with
        | false =>
          have HS : Hid _ := HST.out (by rw [hb0, hb1]; rfl)
          clear HST HHIT
          go_wp2
          go_round
          case rel => exact ⟨j + 1, by omega, by go_num, HS.out⟩
          case measure => simp [intOf]; omega
        | true =>
          have HE : Hid (R = (j : Int)) := HHIT.out (by rw [hb0, hb1]; rfl)
          clear HST HHIT HR
          have e := HE.out
          subst e
          go_wp2
          go_ret
          exact ⟨rfl, HB.out⟩
    · obtain rfl : j = n := by omega
      have HE : Hid (R = -1) := by rw [Hid, HR.out]; exact at_miss fun k hk => H.out k hk (by rw [HN.out]; exact hk)
      clear HR
      have e := HE.out
      subst e
      go_wp2
      go_ret
      exact ⟨rfl, HB.out⟩
end Go.Proofs.Ytnkkkdhpopfahaa.sch
