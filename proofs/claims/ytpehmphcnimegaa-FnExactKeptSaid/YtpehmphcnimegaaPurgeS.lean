/-
  The specification's Purge at every list and label. No condition.
-/
import Derived.Test.YtpehmphcnimegaaRowCall
import Derived.Test.YtpehmphcnimegaaGrow
namespace Go.Proofs.Ytpehmphcnimegaa.deep
open Go.RowKit Go.Deep Go.Sort
set_option linter.unusedVariables false

/-- what Purge leaves -/
def Purged (lb : Int) (xs : List Tcl) (w : World) (e : Ending) (w' : World) : Prop :=
  ∃ v', e = .returned v' ∧ OwnC 42 9 w.heap.size w' v' ((keptL (fun x => label.flo x.q0 lb) xs).map ccl) ∧ Below w.heap.size w w'
theorem ccl_one (x : Tcl) : ∀ u ∈ ccl x, u.oneCell' = true := by
  intro u hu
  simp [ccl] at hu
  rcases hu with h | h | h | h | h | h | h | h | h <;> (subst h; rfl)
theorem purge_push {lb : Int} {xs : List Tcl} {j : Nat} (hj : j < xs.length) (hp : label.flo xs[j].q0 lb = true) {base : Nat} {w wr w1 : World} {u v' : Value} {o : Obj} (h : OwnC 42 9 base wr u ((keptJ (fun x => label.flo x.q0 lb) xs j).map ccl)) (hb : Below base w wr) (hs : base ≤ wr.heap.size)
    (h1 : w1.ownsRow base 42 9 v' (((keptJ (fun x => label.flo x.q0 lb) xs j).map ccl).length + 1) (((keptJ (fun x => label.flo x.q0 lb) xs j).map ccl).flatten ++ ccl xs[j])) (hg : (wr.alloc o).grownBy w1 u.ownBlock) :
    OwnC 42 9 base w1 v' ((keptJ (fun x => label.flo x.q0 lb) xs (j + 1)).map ccl) ∧ Below base w w1 := by
  refine ⟨?_, (hb.alloc hs o).grown hg (by simp; omega) (fun k hk => h.own_ge k hk)⟩
  rw [keptJ_yes (p := fun x => label.flo x.q0 lb) hj hp, List.map_append]
  exact h.push rfl h1

set_option maxHeartbeats 4000000 in
theorem sp_purge (lb : Int) {lo : Nat} {w : World} {v : Value} {xs : List Tcl} (h : RowE (Plain ccl) 9 lo w v xs) : Calls Try.prog 6 #[v, .int .i64 lb] w (Purged lb xs w) := by
  obtain ⟨a, c, rfl, hml, h3⟩ := h
  obtain ⟨i0, hi, hz0, hz1, hz2⟩ := info_parts info_cl
  have HF : Hid (∀ q W, Calls Try.prog 19 #[.int .i64 q, .int .i64 lb] W fun e w' => e = .returned (.bool (label.flo q lb)) ∧ w' = W) := fun q W => label.spec_flows q lb W
  obtain ⟨n, hx⟩ : ∃ n, n = xs.length := ⟨_, rfl⟩
  have H3 : Hid (0 < xs.length → ∃ g o, a = some ⟨g, o, none⟩ ∧ g < w.heap.size ∧ ∀ i (hi : i < xs.length), ∀ j, j < 9 → w.cell? ⟨g, o + i * 9 + j, none⟩ = (ccl xs[i])[j]?) := fun h0 => by
    obtain ⟨g, o, ha, _, hg, hc⟩ := h3 h0
    refine ⟨g, o, ha, hg, fun i hi => ?_⟩
    obtain ⟨cs, _, hcc, rfl⟩ := hc i hi
    exact hcc
  have HX : Hid (n = xs.length) := hx
  have hnm : n ≤ maxLen := by rw [hx]; exact hml
  unfold maxLen at hnm
  rw [← hx]
  clear h3 hx hml
  go_enter Try.func6, Try.ntmps6
  go_wp2_with fail
  have HO : Hid (OwnC 42 9 w.heap.size (w.alloc (.cells #[] 42)) (.slice (some ⟨w.heap.size, 0, none⟩) 0 0) ((keptJ (fun x => label.flo x.q0 lb) xs 0).map ccl)) := ⟨by simp [keptJ_zero], by rw [keptJ_zero]; exact World.ownsRow_made w #[] 0 (Nat.le_refl _) (by unfold maxLen; omega) rfl⟩
  have HB : Hid (Below w.heap.size w (w.alloc (.cells #[] 42))) := below_one _ _
  go_loopw [5, 6] (fun u i wr => ∃ j : Nat, j ≤ n ∧ (400 < n → j = 0) ∧ i = .int .i64 j ∧ Hid (OwnC 42 9 w.heap.size wr u ((keptJ (fun x => label.flo x.q0 lb) xs j).map ccl)) ∧ Hid (Below w.heap.size w wr)) (fun _ i _ => n - (intOf i).toNat)
  case atStart => exact ⟨0, by omega, fun _ => rfl, rfl, HO.out, HB.out⟩
  case round =>
    obtain ⟨j, hj, hj4, rfl, HR, HW⟩ := hrel
    clear HO HB
    by_cases hlt : j < n ∧ n ≤ 400
    · obtain ⟨hlt, hn4⟩ := hlt
      have hlx : j < xs.length := by rw [← HX.out]; exact hlt
      obtain ⟨g, o, rfl, hg, hc⟩ := H3.out (by omega)
      have hc' : ∀ r, r < 9 → wr.cell? ⟨g, o + j * 9 + r, none⟩ = (ccl xs[j])[r]? := fun r hr => (HW.out.cell (p := ⟨g, o + j * 9 + r, none⟩) hg).trans (hc j hlx r hr)
      have HP : Hid (∀ (v' : Value) (w1 : World) (u : Value) (o : Obj), label.flo xs[j].q0 lb = true → OwnC 42 9 w.heap.size wr u ((keptJ (fun x => label.flo x.q0 lb) xs j).map ccl) → w1.ownsRow w.heap.size 42 9 v' (((keptJ (fun x => label.flo x.q0 lb) xs j).map ccl).length + 1) (((keptJ (fun x => label.flo x.q0 lb) xs j).map ccl).flatten ++ ccl xs[j]) → (wr.alloc o).grownBy w1 u.ownBlock → OwnC 42 9 w.heap.size w1 v' ((keptJ (fun x => label.flo x.q0 lb) xs (j + 1)).map ccl) ∧ Below w.heap.size w w1) := fun v' w1 u o hp h h1 h2 => purge_push hlx hp h HW.out HW.out.size h1 h2
      have HN : Hid (label.flo xs[j].q0 lb = false → keptJ (fun x => label.flo x.q0 lb) xs (j + 1) = keptJ (fun x => label.flo x.q0 lb) xs j) := fun hp => keptJ_no (p := fun x => label.flo x.q0 lb) hlx hp
      have HLE : Hid (((keptJ (fun x => label.flo x.q0 lb) xs j).map ccl).length ≤ 400) := by rw [List.length_map]; exact Nat.le_trans (keptJ_le _ _ _) (by omega)
      clear hc
      generalize xs[j] = x at *
      obtain ⟨p0, p1, p2, p3, p4, p5, p6, p7, p8⟩ := x
      have e0 : wr.cell? ⟨g, o + j * 9, none⟩ = some (.int .i64 p0) := hc' 0 (by decide)
      have e1 : wr.cell? ⟨g, o + j * 9 + 1, none⟩ = some (.int .i64 p1) := hc' 1 (by decide)
      have e2 : wr.cell? ⟨g, o + j * 9 + 2, none⟩ = some (.int .i64 p2) := hc' 2 (by decide)
      have e3 : wr.cell? ⟨g, o + j * 9 + 3, none⟩ = some (.int .i64 p3) := hc' 3 (by decide)
      have e4 : wr.cell? ⟨g, o + j * 9 + 4, none⟩ = some (.int .i64 p4) := hc' 4 (by decide)
      have e5 : wr.cell? ⟨g, o + j * 9 + 5, none⟩ = some (.int .i64 p5) := hc' 5 (by decide)
      have e6 : wr.cell? ⟨g, o + j * 9 + 6, none⟩ = some (.int .i64 p6) := hc' 6 (by decide)
      have e7 : wr.cell? ⟨g, o + j * 9 + 7, none⟩ = some (.int .i64 p7) := hc' 7 (by decide)
      have e8 : wr.cell? ⟨g, o + j * 9 + 8, none⟩ = some (.int .i64 p8) := hc' 8 (by decide)
      clear hc'
      simp only at HP HN
      go_wp2_with fail
      refine Calls.mono (HF.out _ _) ?_
      rintro e w2 ⟨rfl, rfl⟩
      cases hfl : label.flo p0 lb with
      | false =>
        have HN2 : Hid _ := HN.out hfl
        clear HP
        go_wp2_with fail
        go_roundw
        case rel => exact ⟨j + 1, by omega, fun h => by omega, by go_num, by rw [HN2.out]; exact HR.out, HW.out⟩
        case measure => simp [intOf]; omega
      | true =>
        have hs := HW.out.size
        go_wp2_with (at_builtin; refine wpList_append_own _ rfl _ _ 24 rfl w.heap.size 42 i0 (.agg #[.int .i64 0, .int .i64 0, .int .i64 0, .int .i64 0, .int .i64 0, .int .i64 0, .int .i64 0, .int .i64 0, .int .i64 0]) 9 72 Try.underlying24 hi hz0 hz1 hz2 rfl (by decide) _ _ _ rfl (HR.out.row.alloc _) ⟨w2.heap.size, 0, none⟩ 1 1 (ccl ⟨p0, p1, p2, p3, p4, p5, p6, p7, p8⟩) rfl rfl (new_cells w2 _ _) (ccl_one _) (by have := HLE.out; unfold maxLen; omega) (by have := HLE.out; omega) (by simp; omega) ?_; intro v' w3 hown hgrow _; have HQ : Hid _ := HP.out v' w3 _ _ hfl HR.out hown hgrow; clear hown hgrow)
        go_roundw
        case rel => exact ⟨j + 1, by omega, fun h => by omega, by go_num, HQ.out.1, HQ.out.2⟩
        case measure => simp [intOf]; omega
    · have HE : Hid (keptJ (fun x => label.flo x.q0 lb) xs j = keptL (fun x => label.flo x.q0 lb) xs) := by
        by_cases h4 : n ≤ 400
        · have : j = xs.length := by rw [← HX.out]; omega
          rw [this]; exact keptJ_all _ _ (by rw [← HX.out]; exact h4)
        · rw [hj4 (by omega), keptL_none _ _ (by rw [← HX.out]; omega)]; rfl
      by_cases h4 : j < n
      · have h5 : 400 < n := by omega
        go_wp2_with fail
        go_ret
        exact ⟨_, rfl, by rw [← HE.out]; exact HR.out, HW.out⟩
      · go_wp2_with fail
        go_ret
        exact ⟨_, rfl, by rw [← HE.out]; exact HR.out, HW.out⟩
end Go.Proofs.Ytpehmphcnimegaa.deep
