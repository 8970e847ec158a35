/-
  The walks of the specification's and the program's FitsIn at every argument.
-/
import Derived.Test.YtcokchfedaoccabBuddyTakeI
namespace Go.Proofs.Ytcokchfedaoccab.btop
open Go.RowKit Go.Deep Go.Maps Go.Sort
open Go.Proofs.Ytcokchfedaoccab
open Go.Proofs.Ytcokchfedaoccab.brows
open Go.Proofs.Ytcokchfedaoccab.bspec
open Go.Proofs.Ytcokchfedaoccab.bimpl
open Go.Proofs.Ytcokchfedaoccab.bpool
open Go.Proofs.Ytcokchfedaoccab.bd (Blk)
set_option linter.unusedVariables false

/-- there is a free block of that order or a greater one -/
noncomputable def fitB (m : Int) (xs : List Pr) (o : Int) : Bool := rightB m xs && (ordB o && xs.any fun x => decide (o ≤ x.2))
theorem best_is (xs : List Pr) (o : Int) : ∀ k, k ≤ xs.length → ∃ r, Best xs o k r
  | 0, _ => ⟨-1, best_zero xs o⟩
  | k + 1, hk => by
    obtain ⟨r, hr⟩ := best_is xs o k (by omega)
    have hy : xs[k]? = some xs[k] := List.getElem?_eq_getElem (by omega)
    by_cases hlt : (xs[k]).2 < o
    · exact ⟨r, best_less hr hy hlt⟩
    · rcases best_at hr with rfl | ⟨i, hi, rfl⟩
      · exact ⟨_, best_first hr hy (by omega)⟩
      · have hx : xs[i]? = some xs[i] := List.getElem?_eq_getElem (by omega)
        by_cases h2 : (xs[k]).2 < (xs[i]).2
        · exact ⟨_, best_next hr hx hy (by omega) h2⟩
        · exact ⟨_, best_stay hr hx hy h2⟩
theorem best_I (xs : List Pr) (o : Int) : Best xs o xs.length (bestI xs o) := by
  obtain ⟨r, hr⟩ := best_is xs o xs.length (Nat.le_refl _)
  rw [← bestI_of hr]; exact hr
theorem best_any {xs : List Pr} {o r : Int} (h : Best xs o xs.length r) : decide (r ≥ 0) = xs.any fun x => decide (o ≤ x.2) := by
  rcases h with ⟨rfl, h⟩ | ⟨i, y, hi, rfl, hy, ho, _⟩
  · have : xs.any (fun x => decide (o ≤ x.2)) = false := by
      rw [List.any_eq_false]
      intro x hx
      obtain ⟨j, hj, e⟩ := List.getElem_of_mem hx
      have := h j x hj (by rw [← e]; exact List.getElem?_eq_getElem hj)
      simpa using this
    rw [this]; rfl
  · have : xs.any (fun x => decide (o ≤ x.2)) = true := List.any_eq_true.2 ⟨y, List.mem_of_getElem? hy, by simpa using ho⟩
    rw [this]
    exact decide_eq_true (by omega)
theorem least_any {l : List Blk} {k q : Nat} (h5 : ∀ y ∈ l, y.2 ≤ 5) (h : Least l k q) : decide ((q : Int) ≤ 5) = (l.map emb).any fun x => decide ((k : Int) ≤ x.2) := by
  rcases h.2.2 with ⟨y, hy, e⟩ | ⟨h1, h2⟩
  · have : (l.map emb).any (fun x => decide ((k : Int) ≤ x.2)) = true := List.any_eq_true.2 ⟨emb y, List.mem_map_of_mem hy, decide_eq_true (by have := h.1; simp only [emb]; omega)⟩
    rw [this]
    have := h5 y hy
    exact decide_eq_true (by omega)
  · have : (l.map emb).any (fun x => decide ((k : Int) ≤ x.2)) = false := by
      rw [List.any_eq_false]
      intro x hx
      obtain ⟨y, hy, rfl⟩ := List.mem_map.1 hx
      have := h2 y hy
      have e : decide ((k : Int) ≤ (emb y).2) = false := decide_eq_false (by simp only [emb]; omega)
      rw [e]; simp
    rw [this]
    exact decide_eq_false (by omega)

set_option maxHeartbeats 2000000 in
theorem spec_fits (m o : Int) (v : Value) (xs : List Pr) (w : World) (hrd : Rd w v xs) : Calls Try.prog 6 #[.agg #[.int .i64 m, v], .int .i64 o] w fun e w' => e = .returned (.bool (fitB m xs o)) ∧ Below w.heap.size w w' := by
  have HRD : Hid (Rd w v xs) := hrd
  have HRT : Hid (∀ W, Below w.heap.size w W → _) := fun W hW => spec_right m v xs W (HRD.out.below hW)
  have HOR : Hid (∀ W, _) := fun W => spec_order o W
  obtain ⟨a, c, hv, _⟩ := hrd.form
  clear hrd
  have HX0 : Hid (Box (w.alloc (.cells #[.int .i64 m, v] 29)) w.heap.size m v) := (MapKept.heap_alloc w _).1
  have HB0 : Hid (Below w.heap.size w (w.alloc (.cells #[.int .i64 m, v] 29))) := below_one _ _
  cases hr : rightB m xs with
  | false =>
    have HF : Hid (fitB m xs o = false) := by simp [Hid, fitB, hr]
    rw [hr] at HRT
    generalize xs.length = L at hv
    subst hv
    go_enter Try.func6, Try.ntmps6
    go_wp2_with fail
    refine Calls.mono (HRT.out _ HB0.out) ?_
    rintro e w1 ⟨rfl, hb1⟩
    have HB1 : Hid (Below w.heap.size w w1) := below_tr HB0.out hb1
    clear hb1
    go_wp2_with fail
    go_ret
    exact ⟨congrArg (fun b => Ending.returned (.bool b)) HF.out.symm, HB1.out⟩
  | true =>
    have hlen : xs.length ≤ 32 := by
      obtain ⟨n, l, _, rfl, hrt⟩ := rightB_iff.1 hr
      simpa using hrt.len_le
    have HBE : Hid (∀ W, Below w.heap.size w W → _) := fun W hW => spec_best m o v xs W (HRD.out.below hW) (by omega)
    rw [hr] at HRT
    cases ho : ordB o with
    | false =>
      have HF : Hid (fitB m xs o = false) := by simp [Hid, fitB, ho]
      rw [ho] at HOR
      generalize xs.length = L at hv
      subst hv
      go_enter Try.func6, Try.ntmps6
      go_wp2_with fail
      refine Calls.mono (HRT.out _ HB0.out) ?_
      rintro e w1 ⟨rfl, hb1⟩
      have HB1 : Hid (Below w.heap.size w w1) := below_tr HB0.out hb1
      clear hb1
      go_wp2_with (first | (go_at_call 29; refine Calls.mono (HOR.out _) ?_; rintro e w' ⟨rfl, rfl⟩))
      go_ret
      exact ⟨congrArg (fun b => Ending.returned (.bool b)) HF.out.symm, HB1.out⟩
    | true =>
      have HF : Hid (fitB m xs o = decide (bestI xs o ≥ 0)) := by rw [Hid, best_any (best_I xs o)]; simp [fitB, hr, ho]
      rw [ho] at HOR
      generalize bestI xs o = r at HBE HF
      generalize xs.length = L at hv
      subst hv
      go_enter Try.func6, Try.ntmps6
      go_wp2_with fail
      refine Calls.mono (HRT.out _ HB0.out) ?_
      rintro e w1 ⟨rfl, hb1⟩
      have HB1 : Hid (Below w.heap.size w w1) := below_tr HB0.out hb1
      have HX1 : Hid (Box w1 w.heap.size m (.slice a L c)) := (hb1.block _ HX0.out.lt).trans HX0.out
      obtain ⟨b0, b1, _, _⟩ := HX1.out.cells
      clear hb1
      go_wp2_with (first | (go_at_call 29; refine Calls.mono (HOR.out _) ?_; rintro e w' ⟨rfl, rfl⟩))
      refine Calls.mono (HBE.out _ HB1.out) ?_
      rintro e w2 ⟨rfl, hb2⟩
      have HB2 : Hid (Below w.heap.size w w2) := below_tr HB1.out hb2
      clear hb2
      by_cases hr0 : 0 ≤ r
      · have HF2 : Hid (fitB m xs o = true) := by rw [Hid, HF.out]; exact decide_eq_true hr0
        go_wp2_with fail
        go_ret
        exact ⟨congrArg (fun b => Ending.returned (.bool b)) HF2.out.symm, HB2.out⟩
      · have HF2 : Hid (fitB m xs o = false) := by rw [Hid, HF.out]; exact decide_eq_false hr0
        go_wp2_with fail
        go_ret
        exact ⟨congrArg (fun b => Ending.returned (.bool b)) HF.out.symm, HB2.out⟩

set_option maxHeartbeats 2000000 in
theorem impl_fits (m o : Int) (v : Value) (xs : List Pr) (w : World) (hrd : Rd w v xs) (hlm : xs.length ≤ 1000000000) : Calls Try.prog 8 #[.agg #[.int .i64 m, v], .int .i64 o] w fun e w' => e = .returned (.bool (fitB m xs o)) ∧ Below w.heap.size w w' := by
  have HRD : Hid (Rd w v xs) := hrd
  have HRT : Hid (∀ W, Below w.heap.size w W → _) := fun W hW => impl_right m v xs W (HRD.out.below hW) hlm
  have HOR : Hid (∀ W, _) := fun W => impl_order o W
  obtain ⟨a, c, hv, _⟩ := hrd.form
  clear hrd
  have HX0 : Hid (Box (w.alloc (.cells #[.int .i64 m, v] 29)) w.heap.size m v) := (MapKept.heap_alloc w _).1
  have HB0 : Hid (Below w.heap.size w (w.alloc (.cells #[.int .i64 m, v] 29))) := below_one _ _
  generalize hL : xs.length = L at hv
  subst hv
  cases hr : rightB m xs with
  | false =>
    have HF : Hid (fitB m xs o = false) := by simp [Hid, fitB, hr]
    rw [hr] at HRT
    go_enter Try.func8, Try.ntmps8
    go_wp2_with fail
    refine Calls.mono (HRT.out _ HB0.out) ?_
    rintro e w1 ⟨rfl, hb1⟩
    have HB1 : Hid (Below w.heap.size w w1) := below_tr HB0.out hb1
    clear hb1
    go_wp2_with fail
    go_ret
    exact ⟨congrArg (fun b => Ending.returned (.bool b)) HF.out.symm, HB1.out⟩
  | true =>
    rw [hr] at HRT
    cases ho : ordB o with
    | false =>
      have HF : Hid (fitB m xs o = false) := by simp [Hid, fitB, ho]
      rw [ho] at HOR
      go_enter Try.func8, Try.ntmps8
      go_wp2_with fail
      refine Calls.mono (HRT.out _ HB0.out) ?_
      rintro e w1 ⟨rfl, hb1⟩
      have HB1 : Hid (Below w.heap.size w w1) := below_tr HB0.out hb1
      clear hb1
      go_wp2_with (first | (go_at_call 32; refine Calls.mono (HOR.out _) ?_; rintro e w' ⟨rfl, rfl⟩))
      go_ret
      exact ⟨congrArg (fun b => Ending.returned (.bool b)) HF.out.symm, HB1.out⟩
    | true =>
      obtain ⟨k, hk, rfl⟩ := ord_nat ho
      obtain ⟨n, l, rfl, rfl, hrt⟩ := rightB_iff.1 hr
      rw [ho] at HOR
      have hn5 := hrt.ord
      have H5 : Hid (∀ y ∈ l, y.1 < 64 ∧ y.2 ≤ 5) := fun y hy => ⟨by have := (hrt.inn y hy).lt; have := bd.pow_le32 hn5; omega, by have := (hrt.inn y hy).ord; omega⟩
      have HF : Hid (∀ q : Nat, Least l k q → fitB n (l.map emb) k = decide ((q : Int) ≤ 5)) := fun q hq => by rw [least_any (fun y hy => (H5.out y hy).2) hq]; simp [fitB, hr, ho]
      have HPO : Hid (∀ W, Below w.heap.size w W → Calls Try.prog 33 #[.agg #[.int .i64 n, .slice a L c]] W (PoolPost n l W)) := fun W hW => impl_poolOf n _ l hrt W (HRD.out.below hW)
      have HLE : Hid (∀ b W, Pool W b 32 l → Calls Try.prog 34 #[.agg #[.int .i64 n, .map (some b)], .int .i64 k] W fun e w' => ∃ r : Nat, e = .returned (.int .i64 r) ∧ Least l k r ∧ r ≤ 13 ∧ Below W.heap.size W w') := fun b W hW => impl_least n b 32 l H5.out k hk W hW
      clear hr ho hrt
      go_enter Try.func8, Try.ntmps8
      go_wp2_with fail
      refine Calls.mono (HRT.out _ HB0.out) ?_
      rintro e w1 ⟨rfl, hb1⟩
      have HB1 : Hid (Below w.heap.size w w1) := below_tr HB0.out hb1
      have HX1 : Hid (Box w1 w.heap.size n (.slice a L c)) := (hb1.block _ HX0.out.lt).trans HX0.out
      obtain ⟨b0, b1, _, _⟩ := HX1.out.cells
      clear hb1
      go_wp2_with (first | (go_at_call 32; refine Calls.mono (HOR.out _) ?_; rintro e w' ⟨rfl, rfl⟩))
      refine Calls.mono (HPO.out _ HB1.out) ?_
      rintro e w2 ⟨b, rfl, hbw, hp2, hb2⟩
      have HB2 : Hid (Below w.heap.size w w2) := below_tr HB1.out hb2
      have HP2 : Hid (Pool w2 b 32 l) := hp2
      clear hb2 hp2 hbw
      go_wp2_with fail
      refine Calls.mono (HLE.out b _ HP2.out) ?_
      rintro e w3 ⟨q, rfl, hle, hq13, hb3⟩
      have HB3 : Hid (Below w.heap.size w w3) := below_tr HB2.out hb3
      have HF2 : Hid (fitB n (l.map emb) k = decide ((q : Int) ≤ 5)) := HF.out q hle
      clear hb3 hle
      by_cases hq : (q : Int) ≤ 5
      · have HF3 : Hid (fitB n (l.map emb) k = true) := by rw [Hid, HF2.out]; exact decide_eq_true hq
        go_wp2_with fail
        go_ret
        exact ⟨congrArg (fun b => Ending.returned (.bool b)) HF3.out.symm, HB3.out⟩
      · have HF3 : Hid (fitB n (l.map emb) k = false) := by rw [Hid, HF2.out]; exact decide_eq_false hq
        go_wp2_with fail
        go_ret
        exact ⟨congrArg (fun b => Ending.returned (.bool b)) HF2.out.symm, HB3.out⟩
end Go.Proofs.Ytcokchfedaoccab.btop
