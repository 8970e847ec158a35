/-
  The program's isThere, tasksRight and SchedRight. No condition.
-/
import Derived.Test.YtnkkkdhpopfahaaSchRI
import Derived.Test.YtnkkkdhpopfahaaSchOf
namespace Go.Proofs.Ytnkkkdhpopfahaa.sch
open Go.RowKit Go.Deep Go.Sort
open Go.Proofs.Ytnkkkdhpopfahaa
open Go.Proofs.Ytnkkkdhpopfahaa.deep
set_option linter.unusedVariables false
set_option maxRecDepth 100000

/-- is one of them of that label and Id -/
def same (b i : Int) (t : Tt) : Bool := t.1 == b && t.2.1 == i
def has (ts : List Tt) (b i : Int) : Bool := ts.any (same b i)
theorem has_hit {ts : List Tt} {b i : Int} {j : Nat} (hj : j < ts.length) (h : same b i ts[j] = true) : has ts b i = true := by
  rw [has, List.any_eq_true]; exact ⟨_, List.getElem_mem hj, h⟩
theorem has_miss {ts : List Tt} {b i : Int} (h : ∀ j (hj : j < ts.length), same b i ts[j] = false) : has ts b i = false := by
  rw [has, List.any_eq_false]
  intro x hx
  obtain ⟨j, hj, rfl⟩ := List.getElem_of_mem hx
  rw [h j hj]; simp
theorem has_at (ts : List Tt) (b i : Int) : has ts b i = decide (0 ≤ atI ts b i) := by
  unfold atI
  cases h : atN ts b i with
  | none =>
    unfold atN at h
    rw [List.findIdx?_eq_none_iff] at h
    simp only [show ¬ (0 : Int) ≤ -1 by omega, decide_false]
    rw [has, List.any_eq_false]
    intro x hx
    have := h x hx
    simp only [same]
    rw [this]; simp
  | some n =>
    unfold atN at h
    rw [List.findIdx?_eq_some_iff_getElem] at h
    obtain ⟨h1, h2, _⟩ := h
    simp only [Int.natCast_nonneg, decide_true]
    exact has_hit h1 h2
/-- the first of its label and Id -/
theorem at_self {ts : List Tt} {j : Nat} (hj : j < ts.length) : (atI ts ts[j].1 ts[j].2.1 == (j : Int)) = !has (ts.take j) ts[j].1 ts[j].2.1 := by
  cases h : has (ts.take j) ts[j].1 ts[j].2.1 with
  | false =>
    have : atI ts ts[j].1 ts[j].2.1 = (j : Int) := at_hit hj (by simp) (fun k hk hlt => by
      rw [has, List.any_eq_false] at h
      have hkt : k < (ts.take j).length := by rw [List.length_take]; omega
      have h2 := h ((ts.take j)[k]'hkt) (List.getElem_mem hkt)
      rw [List.getElem_take] at h2
      simpa [same] using h2)
    rw [this]; simp
  | true =>
    rw [has, List.any_eq_true] at h
    obtain ⟨x, hx, hm⟩ := h
    obtain ⟨k, hk, rfl⟩ := List.getElem_of_mem hx
    rw [List.getElem_take] at hm
    have hkj : k < j := by simp at hk; omega
    simp only [Bool.not_true, beq_eq_false_iff_ne, ne_eq]
    intro e
    unfold atI at e
    cases hn : atN ts ts[j].1 ts[j].2.1 with
    | none => rw [hn] at e; have e2 : (-1 : Int) = (j : Int) := e; omega
    | some n =>
      rw [hn] at e
      simp only [Int.natCast_inj] at e
      subst e
      unfold atN at hn
      rw [List.findIdx?_eq_some_iff_getElem] at hn
      have := hn.2.2 k hkj
      simp only [same] at hm
      rw [hm] at this
      simp at this
theorem row_take {α : Type} {E : Reader α} {k lo : Nat} {w : World} {a : Option Addr} {c n : Nat} {xs : List α} (h : RowE E k lo w (.slice a n c) xs) {j : Nat} (hj : j ≤ xs.length) : RowE E k lo w (.slice a j c) (xs.take j) := by
  obtain ⟨a', c', hv, hm, h3⟩ := h
  cases hv
  refine ⟨a, c, by rw [List.length_take, Nat.min_eq_left hj], by rw [List.length_take]; omega, fun h0 => ?_⟩
  have hlt : 0 < j := by rw [List.length_take] at h0; omega
  obtain ⟨g, o, ha, hl, hg, hc⟩ := h3 (by omega)
  refine ⟨g, o, ha, hl, hg, fun i hi => ?_⟩
  have hi2 : i < xs.length := by rw [List.length_take] at hi; omega
  obtain ⟨cs, h4, h5, h6⟩ := hc i hi2
  exact ⟨cs, h4, h5, by rw [List.getElem_take]; exact h6⟩

theorem impl_same (t0 t1 t2 : Int) (B : Nat) (q0 q1 q2 : Int) {w : World} (hB : Blk w B 35 [.int .i64 q0, .int .i64 q1, .int .i64 q2]) : Calls Try.prog 66 #[.agg #[.int .i64 t0, .int .i64 t1, .int .i64 t2], .pointer (some ⟨B, 0, none⟩)] w fun e w' => e = .returned (.bool (same q0 q1 (t0, t1, t2))) ∧ Below w.heap.size w w' := by
  have HS : Hid (same q0 q1 (t0, t1, t2) = (t0 == q0 && t1 == q1)) := rfl
  have hB2 := hB.later (below_one w (.cells #[.int .i64 t0, .int .i64 t1, .int .i64 t2] 35))
  have HW : Hid (Below w.heap.size w (w.alloc (.cells #[.int .i64 t0, .int .i64 t1, .int .i64 t2] 35))) := below_one _ _
  obtain ⟨x0, x1, x2⟩ := cells3s hB2
  obtain ⟨y0, y1, y2⟩ := cells3s hB
  have hlt := hB.lt
  have hne : B ≠ w.heap.size := by omega
  generalize same q0 q1 (t0, t1, t2) = R at *
  clear hB hB2
  cases h0 : t0 == q0 with
  | false =>
    have HE : Hid (R = false) := by rw [Hid, HS.out, h0]; rfl
    clear HS
    go_enter Try.func66, Try.ntmps66
    go_wp2
    go_ret
    exact ⟨by rw [HE.out]; first | rfl | simp, HW.out⟩
  | true =>
    cases h1 : t1 == q1 with
    | false =>
      have HE : Hid (R = false) := by rw [Hid, HS.out, h0, h1]; rfl
      clear HS
      go_enter Try.func66, Try.ntmps66
      go_wp2
      go_ret
      exact ⟨by rw [HE.out]; first | rfl | simp, HW.out⟩
    | true =>
      have HE : Hid (R = true) := by rw [Hid, HS.out, h0, h1]; rfl
      clear HS
      go_enter Try.func66, Try.ntmps66
      go_wp2
      go_ret
      exact ⟨by rw [HE.out]; first | rfl | simp, HW.out⟩

set_option maxHeartbeats 2000000 in
theorem sl_indexf (q0 q1 q2 : Int) (B : Nat) {lo : Nat} {w : World} {v : Value} {ts : List Tt} (h : RowE (Plain ctk) 3 lo w v ts) (hB : Blk w B 35 [.int .i64 q0, .int .i64 q1, .int .i64 q2]) : Calls Try.prog 75 #[v, .func (.func 66) #[] #[.pointer (some ⟨B, 0, none⟩)]] w fun e w' => (∃ r : Int, e = .returned (.int .i64 r) ∧ decide (0 ≤ r) = has ts q0 q1) ∧ Below w.heap.size w w' := by
  obtain ⟨a, c, rfl, hm, h3⟩ := tk_at h
  obtain ⟨n, hn⟩ : ∃ n, n = ts.length := ⟨_, rfl⟩
  have HN : Hid (n = ts.length) := hn
  have H3 : Hid (0 < ts.length → ∃ g o, a = some ⟨g, o, none⟩ ∧ g < w.heap.size ∧ ∀ i (hi : i < ts.length), w.cell? ⟨g, o + i * 3, none⟩ = some (.int .i64 ts[i].1) ∧ w.cell? ⟨g, o + i * 3 + 1, none⟩ = some (.int .i64 ts[i].2.1) ∧ w.cell? ⟨g, o + i * 3 + 2, none⟩ = some (.int .i64 ts[i].2.2)) := h3
  have HHIT : Hid (∀ j (hj : j < ts.length), same q0 q1 ts[j] = true → has ts q0 q1 = true) := fun j hj h => has_hit hj h
  have HMISS : Hid ((∀ j (hj : j < ts.length), same q0 q1 ts[j] = false) → has ts q0 q1 = false) := has_miss
  have HS : Hid (∀ t0 t1 t2 W, Below w.heap.size w W → Calls Try.prog 66 #[.agg #[.int .i64 t0, .int .i64 t1, .int .i64 t2], .pointer (some ⟨B, 0, none⟩)] W fun e w' => e = .returned (.bool (same q0 q1 (t0, t1, t2))) ∧ Below W.heap.size W w') := fun t0 t1 t2 W hW => impl_same t0 t1 t2 B q0 q1 q2 (hB.later hW)
  rw [← hn] at hm ⊢
  unfold maxLen at hm
  generalize has ts q0 q1 = R at *
  clear hn h3 h hB
  go_enter Try.func75, Try.ntmps75
  go_wp2
  go_loopw [8] (fun ti wr => ∃ j : Nat, j ≤ n ∧ ti = .int .i64 j ∧ Hid (∀ i (hi : i < ts.length), i < j → same q0 q1 ts[i] = false) ∧ Hid (Below w.heap.size w wr)) (fun ti _ => n - (intOf ti).toNat)
  case atStart => exact ⟨0, by omega, rfl, fun i _ h => absurd h (by omega), Below.refl _ _⟩
  case round =>
    obtain ⟨j, hj, rfl, H, HB⟩ := hrel
    by_cases hlt : j < n
    · have hlx : j < ts.length := by rw [← HN.out]; exact hlt
      obtain ⟨g, o, rfl, hg, hc⟩ := H3.out (by omega)
      obtain ⟨f0, f1, f2⟩ := hc j hlx
      have e0 := (HB.out.cell (p := ⟨g, o + j * 3, none⟩) hg).trans f0
      have e1 := (HB.out.cell (p := ⟨g, o + j * 3 + 1, none⟩) hg).trans f1
      have e2 := (HB.out.cell (p := ⟨g, o + j * 3 + 2, none⟩) hg).trans f2
      have HST : Hid (same q0 q1 ts[j] = false → ∀ i (hi : i < ts.length), i < j + 1 → same q0 q1 ts[i] = false) := fun h i hi hlt2 => by
        by_cases e : i = j
        · subst e; exact h
        · exact H.out i hi (by omega)
      have HHJ : Hid (same q0 q1 ts[j] = true → R = true) := HHIT.out j hlx
      have HSJ : Hid (Calls Try.prog 66 #[.agg #[.int .i64 ts[j].1, .int .i64 ts[j].2.1, .int .i64 ts[j].2.2], .pointer (some ⟨B, 0, none⟩)] wr fun e w' => e = .returned (.bool (same q0 q1 ts[j])) ∧ Below wr.heap.size wr w') := HS.out _ _ _ _ HB.out
      clear hc f0 f1 f2
      generalize same q0 q1 ts[j] = s at *
      generalize ts[j] = x at *
      obtain ⟨p0, p1, p2⟩ := x
      simp only at e0 e1 e2 HSJ
      cases s with
      | true =>
        have HE : Hid (R = true) := HHJ.out rfl
        clear HST HHJ
        go_wp2_with fail
        refine Calls.mono HSJ.out ?_
        rintro e w1 ⟨rfl, hb1⟩
        have HB1 : Hid (Below w.heap.size w w1) := below_tr HB.out hb1
        clear hb1
        go_wp2_with fail
        go_ret
        exact ⟨⟨_, rfl, by rw [HE.out]; simp⟩, HB1.out⟩
      | false =>
        have HSS : Hid _ := HST.out rfl
        clear HST HHJ
        go_wp2_with fail
        refine Calls.mono HSJ.out ?_
        rintro e w1 ⟨rfl, hb1⟩
        have HB1 : Hid (Below w.heap.size w w1) := below_tr HB.out hb1
        clear hb1
        go_wp2_with fail
        go_roundw
        case rel => exact ⟨j + 1, by omega, by go_num, HSS.out, HB1.out⟩
        case measure => simp [intOf]; omega
    · obtain rfl : j = n := by omega
      have HE : Hid (R = false) := HMISS.out fun i hi => H.out i hi (by rw [HN.out]; exact hi)
      go_wp2_with fail
      go_ret
      exact ⟨⟨_, rfl, by rw [HE.out]; simp⟩, HB.out⟩
theorem sl_hasf (q0 q1 q2 : Int) (B : Nat) {lo : Nat} {w : World} {v : Value} {ts : List Tt} (h : RowE (Plain ctk) 3 lo w v ts) (hB : Blk w B 35 [.int .i64 q0, .int .i64 q1, .int .i64 q2]) : Calls Try.prog 65 #[v, .func (.func 66) #[] #[.pointer (some ⟨B, 0, none⟩)]] w fun e w' => e = .returned (.bool (has ts q0 q1)) ∧ Below w.heap.size w w' := by
  have HI : Hid (∀ W, W = w → Calls Try.prog 75 #[v, .func (.func 66) #[] #[.pointer (some ⟨B, 0, none⟩)]] W fun e w' => (∃ r : Int, e = .returned (.int .i64 r) ∧ decide (0 ≤ r) = has ts q0 q1) ∧ Below W.heap.size W w') := fun W hW => by rw [hW]; exact sl_indexf q0 q1 q2 B h hB
  generalize has ts q0 q1 = R at *
  obtain ⟨a, c, hv, -⟩ := tk_at h
  generalize ts.length = n at hv
  subst hv
  clear h hB
  go_enter Try.func65, Try.ntmps65
  go_wp2_with fail
  refine Calls.mono (HI.out _ rfl) ?_
  rintro e w1 ⟨⟨r, rfl, hr⟩, hb⟩
  have HE : Hid (decide (0 ≤ r) = R) := hr
  have HB : Hid (Below w.heap.size w w1) := hb
  clear hr hb
  by_cases h0 : 0 ≤ r
  · have HE2 : Hid (true = R) := by rw [Hid, ← HE.out]; simp [h0]
    clear HE
    go_wp2_with fail
    go_ret
    exact ⟨by rw [← HE2.out]; first | rfl | (simp; omega), HB.out⟩
  · have HE2 : Hid (false = R) := by rw [Hid, ← HE.out]; simp [h0]
    clear HE
    go_wp2_with fail
    go_ret
    exact ⟨by rw [← HE2.out]; first | rfl | (simp; omega), HB.out⟩
theorem impl_there (q0 q1 q2 : Int) {lo : Nat} {w : World} {v : Value} {ts : List Tt} (h : RowE (Plain ctk) 3 lo w v ts) : Calls Try.prog 51 #[v, .agg #[.int .i64 q0, .int .i64 q1, .int .i64 q2]] w fun e w' => e = .returned (.bool (has ts q0 q1)) ∧ Below w.heap.size w w' := by
  obtain ⟨V, hV⟩ : ∃ V, V = w.alloc (.cells #[.int .i64 q0, .int .i64 q1, .int .i64 q2] 35) := ⟨_, rfl⟩
  have hbV : Below w.heap.size w V := by rw [hV]; exact below_one _ _
  have HX : Hid (Blk V w.heap.size 35 [.int .i64 q0, .int .i64 q1, .int .i64 q2]) := by rw [hV]; exact blk_new _ _ _
  have HF : Hid (Calls Try.prog 65 #[v, .func (.func 66) #[] #[.pointer (some ⟨w.heap.size, 0, none⟩)]] V fun e w' => e = .returned (.bool (has ts q0 q1)) ∧ Below V.heap.size V w') := sl_hasf q0 q1 q2 _ (h.below (plain_stays _) hbV) HX.out
  have HB : Hid (Below w.heap.size w V) := hbV
  generalize has ts q0 q1 = R at *
  obtain ⟨a, c, hv, -⟩ := tk_at h
  generalize ts.length = n at hv
  subst hv
  clear h hbV
  go_enter Try.func51, Try.ntmps51
  go_wp2_with fail
  rw [← hV]
  refine Calls.mono HF.out ?_
  rintro e w1 ⟨rfl, hb⟩
  have HB1 : Hid (Below w.heap.size w w1) := below_tr HB.out hb
  clear hb
  go_wp2_with fail
  go_ret
  exact ⟨rfl, HB1.out⟩
end Go.Proofs.Ytnkkkdhpopfahaa.sch
