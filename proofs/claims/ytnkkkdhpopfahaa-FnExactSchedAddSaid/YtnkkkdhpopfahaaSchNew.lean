/-
  The specification's l13Ill and SchedNew. No condition.
-/
import Derived.Test.YtnkkkdhpopfahaaSchOf
namespace Go.Proofs.Ytnkkkdhpopfahaa.sch
open Go.RowKit Go.Deep Go.Sort
open Go.Proofs.Ytnkkkdhpopfahaa
open Go.Proofs.Ytnkkkdhpopfahaa.deep
set_option linter.unusedVariables false
set_option maxRecDepth 100000

/-- what a call tells: a Sched, what ran, a code -/
def soL (vo : Value) (nw : Int) (vt : Value) (r0 r1 r2 code : Int) : List Value := [vo, .int .i64 nw, vt, .int .i64 r0, .int .i64 r1, .int .i64 r2, .int .i64 code]
theorem spec_ill (k : Int) (w : World) : Calls Try.prog 43 #[.int .i64 k] w fun e w' => e = .returned (.agg (soL (.slice none 0 0) 0 (.slice none 0 0) 0 0 0 k).toArray) ∧ Below w.heap.size w w' := by
  go_enter Try.func43, Try.ntmps43
  go_wp2
  exact bodyPost_ret (v := .agg (soL (.slice none 0 0) 0 (.slice none 0 0) 0 0 0 k).toArray) (by simp [results, Try.results43, go_sem, soL]) rfl ⟨rfl, below_one _ _⟩
/-- a row of numbers of the call's own -/
def Ints (base : Nat) (w : World) (v : Value) (xs : List Int) : Prop := OwnC 2 1 base w v (xs.map cint)
theorem info_i64 : (Try.prog.info? 2).map (fun i => (i.zero, i.size, i.bytes)) = some (some (.int .i64 0), 1, 8) := by kernel_rfl
theorem cint_flat (xs : List Int) : (xs.map cint).flatten = xs.map (Value.int .i64) := by
  induction xs with
  | nil => rfl
  | cons a t ih => rw [List.map_cons, List.flatten_cons, ih]; rfl
theorem cint_one {xs : List Int} {u : Value} (h : u ∈ xs.map (Value.int .i64)) : u.oneCell' = true := by
  obtain ⟨x, _, rfl⟩ := List.mem_map.1 h; rfl
theorem ints_of {base : Nat} {w : World} {v : Value} {n : Nat} {xs : List Int} (hn : n = xs.length) (h : w.ownsRow base 2 1 v (0 + n) ([] ++ xs.map (Value.int .i64))) : Ints base w v xs := by
  refine ⟨fun cs hc => ?_, ?_⟩
  · obtain ⟨x, _, rfl⟩ := List.mem_map.1 hc; rfl
  · rw [cint_flat, List.length_map]
    simpa [hn] using h
theorem own_put {t k base base' : Nat} {w : World} {v : Value} {css : List (List Value)} (h : OwnC t k base w v css) (B b : Nat) (vs : List Value) (hB : B < base) (hb : base' ≤ base) : OwnC t k base' (putW w B b vs) v css := by
  refine ⟨h.len, h.row.1, ?_⟩
  rcases h.row.2 with h0 | ⟨g, cap, cur, hv, hbg, hc, hrest⟩
  · exact .inl h0
  · exact .inr ⟨g, cap, cur, hv, Nat.le_trans hb hbg, (putW_other vs w B b g (by omega)).trans hc, hrest⟩
theorem seven {W : World} {B t : Nat} {a0 a1 a2 a3 a4 a5 a6 : Value} (h : Blk W B t [a0, a1, a2, a3, a4, a5, a6]) : W.cell? ⟨B, 0, none⟩ = some a0 ∧ W.cell? ⟨B, 1, none⟩ = some a1 ∧ W.cell? ⟨B, 2, none⟩ = some a2 ∧ W.cell? ⟨B, 3, none⟩ = some a3 ∧ W.cell? ⟨B, 4, none⟩ = some a4 ∧ W.cell? ⟨B, 5, none⟩ = some a5 ∧ W.cell? ⟨B, 6, none⟩ = some a6 :=
  ⟨h.cell 0, h.cell 1, h.cell 2, h.cell 3, h.cell 4, h.cell 5, h.cell 6⟩
theorem seven_free {W : World} {B t : Nat} {cs : List Value} (h : Blk W B t cs) : W.frozen? ⟨B, 0, none⟩ = false ∧ W.frozen? ⟨B, 1, none⟩ = false ∧ W.frozen? ⟨B, 2, none⟩ = false ∧ W.frozen? ⟨B, 3, none⟩ = false ∧ W.frozen? ⟨B, 4, none⟩ = false ∧ W.frozen? ⟨B, 5, none⟩ = false ∧ W.frozen? ⟨B, 6, none⟩ = false :=
  ⟨h.free 0, h.free 1, h.free 2, h.free 3, h.free 4, h.free 5, h.free 6⟩
/-- what SchedNew tells -/
def NewPost (xs : List Int) (w : World) (e : Ending) (w' : World) : Prop :=
  if 400 < xs.length then e = .returned (.agg (soL (.slice none 0 0) 0 (.slice none 0 0) 0 0 0 2).toArray) ∧ Below w.heap.size w w'
  else if orderB xs = false then e = .returned (.agg (soL (.slice none 0 0) 0 (.slice none 0 0) 0 0 0 1).toArray) ∧ Below w.heap.size w w'
  else ∃ v, e = .returned (.agg (soL v 0 (.slice none 0 0) 0 0 0 0).toArray) ∧ Ints w.heap.size w' v xs ∧ Below w.heap.size w w'
theorem order_len {xs : List Int} (h : orderB xs = true) : 1 ≤ xs.length ∧ xs.length ≤ 16 := by
  simp only [orderB, Bool.and_eq_true, decide_eq_true_eq] at h
  exact h.2
def ZSO : List Value := soL (.slice none 0 0) 0 (.slice none 0 0) 0 0 0 0
set_option maxHeartbeats 4000000 in
theorem spec_new {lo : Nat} {w : World} {v : Value} {xs : List Int} (h : RowE (Plain cint) 1 lo w v xs) : Calls Try.prog 14 #[v] w (NewPost xs w) := by
  have HOR : Hid (∀ W, Below w.heap.size w W → Calls Try.prog 36 #[v] W fun e w' => e = .returned (.bool (orderB xs)) ∧ w' = W) := fun W hW => spec_order (h.below (plain_stays _) hW)
  have HIL : Hid (∀ k W, Calls Try.prog 43 #[.int .i64 k] W fun e w' => e = .returned (.agg (soL (.slice none 0 0) 0 (.slice none 0 0) 0 0 0 k).toArray) ∧ Below W.heap.size W w') := fun k W => spec_ill k W
  obtain ⟨a, c, hv, hm, h3⟩ := int_at h
  obtain ⟨V, hV⟩ : ∃ V, V = w.alloc (.cells #[.slice none 0 0, .int .i64 0, .slice none 0 0, .int .i64 0, .int .i64 0, .int .i64 0, .int .i64 0] 37) := ⟨_, rfl⟩
  have HB : Hid (Below w.heap.size w V) := by rw [hV]; exact below_one _ _
  have HX : Hid (Blk V w.heap.size 37 [.slice none 0 0, .int .i64 0, .slice none 0 0, .int .i64 0, .int .i64 0, .int .i64 0, .int .i64 0]) := by rw [hV]; exact blk_new _ _ _
  obtain ⟨n, hn⟩ : ∃ n, n = xs.length := ⟨_, rfl⟩
  have HN : Hid (n = xs.length) := hn
  unfold maxLen at hm
  by_cases h4 : 400 < n
  · suffices H : Calls Try.prog 14 #[v] w (fun e w' => e = .returned (.agg (soL (.slice none 0 0) 0 (.slice none 0 0) 0 0 0 2).toArray) ∧ Below w.heap.size w w') from H.mono fun e w' q => by unfold NewPost; rw [if_pos (by rw [← hn]; exact h4)]; exact q
    simp only [soL] at *
    rw [← hn] at hv hm
    clear hn h3 h HOR
    subst hv
    go_enter Try.func14, Try.ntmps14
    go_wp2_with fail
    rw [← hV]
    clear hV
    refine Calls.mono (HIL.out _ _) ?_
    rintro e w1 ⟨rfl, hb1⟩
    have HX1 : Hid (Blk w1 w.heap.size 37 [.slice none 0 0, .int .i64 0, .slice none 0 0, .int .i64 0, .int .i64 0, .int .i64 0, .int .i64 0]) := HX.out.later hb1
    have HB1 : Hid (Below w.heap.size w w1) := below_tr HB.out hb1
    clear hb1
    have z0 : w1.cell? ⟨w.heap.size, 0, none⟩ = some (.slice none 0 0) := HX1.out.cell 0
    have y0 := HX1.out.free 0
    have z1 : w1.cell? ⟨w.heap.size, 1, none⟩ = some (.int .i64 0) := HX1.out.cell 1
    have y1 := HX1.out.free 1
    have z2 : w1.cell? ⟨w.heap.size, 2, none⟩ = some (.slice none 0 0) := HX1.out.cell 2
    have y2 := HX1.out.free 2
    have z3 : w1.cell? ⟨w.heap.size, 3, none⟩ = some (.int .i64 0) := HX1.out.cell 3
    have y3 := HX1.out.free 3
    have z4 : w1.cell? ⟨w.heap.size, 4, none⟩ = some (.int .i64 0) := HX1.out.cell 4
    have y4 := HX1.out.free 4
    have z5 : w1.cell? ⟨w.heap.size, 5, none⟩ = some (.int .i64 0) := HX1.out.cell 5
    have y5 := HX1.out.free 5
    have z6 : w1.cell? ⟨w.heap.size, 6, none⟩ = some (.int .i64 0) := HX1.out.cell 6
    have y6 := HX1.out.free 6
    go_wp2_with fail
    refine bodyPost_ret (v := .agg #[.slice none 0 0, .int .i64 0, .slice none 0 0, .int .i64 0, .int .i64 0, .int .i64 0, .int .i64 2]) (by simp [results, Try.results14, go_sem, z0, z1, z2, z3, z4, z5, z6]) rfl ⟨rfl, ?_⟩
    exact putW_below [.slice none 0 0, .int .i64 0, .slice none 0 0, .int .i64 0, .int .i64 0, .int .i64 0, .int .i64 2] HB1.out (Nat.le_refl _) (b := 0)
  · cases ho : orderB xs with
    | false =>
      rw [ho] at HOR
      suffices H : Calls Try.prog 14 #[v] w (fun e w' => e = .returned (.agg (soL (.slice none 0 0) 0 (.slice none 0 0) 0 0 0 1).toArray) ∧ Below w.heap.size w w') from H.mono fun e w' q => by unfold NewPost; rw [if_neg (by rw [← hn]; exact h4), if_pos ho]; exact q
      simp only [soL] at *
      rw [← hn] at hv hm
      clear hn h3 h ho
      subst hv
      go_enter Try.func14, Try.ntmps14
      go_wp2_with fail
      rw [← hV]
      clear hV
      refine Calls.mono (HOR.out _ HB.out) ?_
      rintro e w0 ⟨rfl, rfl⟩
      go_wp2_with fail
      refine Calls.mono (HIL.out _ _) ?_
      rintro e w1 ⟨rfl, hb1⟩
      have HX1 : Hid (Blk w1 w.heap.size 37 [.slice none 0 0, .int .i64 0, .slice none 0 0, .int .i64 0, .int .i64 0, .int .i64 0, .int .i64 0]) := HX.out.later hb1
      have HB1 : Hid (Below w.heap.size w w1) := below_tr HB.out hb1
      clear hb1
      have z0 : w1.cell? ⟨w.heap.size, 0, none⟩ = some (.slice none 0 0) := HX1.out.cell 0
      have y0 := HX1.out.free 0
      have z1 : w1.cell? ⟨w.heap.size, 1, none⟩ = some (.int .i64 0) := HX1.out.cell 1
      have y1 := HX1.out.free 1
      have z2 : w1.cell? ⟨w.heap.size, 2, none⟩ = some (.slice none 0 0) := HX1.out.cell 2
      have y2 := HX1.out.free 2
      have z3 : w1.cell? ⟨w.heap.size, 3, none⟩ = some (.int .i64 0) := HX1.out.cell 3
      have y3 := HX1.out.free 3
      have z4 : w1.cell? ⟨w.heap.size, 4, none⟩ = some (.int .i64 0) := HX1.out.cell 4
      have y4 := HX1.out.free 4
      have z5 : w1.cell? ⟨w.heap.size, 5, none⟩ = some (.int .i64 0) := HX1.out.cell 5
      have y5 := HX1.out.free 5
      have z6 : w1.cell? ⟨w.heap.size, 6, none⟩ = some (.int .i64 0) := HX1.out.cell 6
      have y6 := HX1.out.free 6
      go_wp2_with fail
      refine bodyPost_ret (v := .agg #[.slice none 0 0, .int .i64 0, .slice none 0 0, .int .i64 0, .int .i64 0, .int .i64 0, .int .i64 1]) (by simp [results, Try.results14, go_sem, z0, z1, z2, z3, z4, z5, z6]) rfl ⟨rfl, ?_⟩
      exact putW_below [.slice none 0 0, .int .i64 0, .slice none 0 0, .int .i64 0, .int .i64 0, .int .i64 0, .int .i64 1] HB1.out (Nat.le_refl _) (b := 0)
    | true =>
      rw [ho] at HOR
      suffices H : Calls Try.prog 14 #[v] w (fun e w' => ∃ v, e = .returned (.agg (soL v 0 (.slice none 0 0) 0 0 0 0).toArray) ∧ Ints w.heap.size w' v xs ∧ Below w.heap.size w w') from H.mono fun e w' q => by unfold NewPost; rw [if_neg (by rw [← hn]; exact h4), if_neg (by rw [ho]; simp)]; exact q
      simp only [soL] at *
      obtain ⟨hl1, hl2⟩ := order_len ho
      obtain ⟨g, o, ha, hg, hc⟩ := h3 (by omega)
      obtain ⟨i0, hi, hz0, hz1, hz2⟩ := info_parts info_i64
      have HS : Hid (∀ j u, (xs.map (Value.int .i64))[j]? = some u → V.cell? ((⟨g, o, none⟩ : Addr).add j) = some u) := fun j u hu => by
        have hj : j < xs.length := by
          rcases Nat.lt_or_ge j xs.length with h | h
          · exact h
          · rw [List.getElem?_eq_none (by simpa using h)] at hu; cases hu
        rw [List.getElem?_map, List.getElem?_eq_getElem hj] at hu
        have e := (HB.out.cell (p := ⟨g, o + j, none⟩) hg).trans (hc j hj)
        rw [← Option.some.inj hu, show ((⟨g, o, none⟩ : Addr).add j) = ⟨g, o + j, none⟩ by unfold Addr.add; by_cases h : j = 0 <;> simp [h]]
        exact e
      rw [← hn] at hv hm hl1 hl2
      clear hn h3 h ho hc
      subst hv ha
      have hLM : (xs.map (Value.int .i64)).length = n * 1 := by rw [List.length_map, ← HN.out]; omega
      have hgV : g < V.heap.size := Nat.lt_of_lt_of_le hg HB.out.size
      go_enter Try.func14, Try.ntmps14
      go_wp2_with fail
      rw [← hV]
      clear hV
      refine Calls.mono (HOR.out _ HB.out) ?_
      rintro e w0 ⟨rfl, rfl⟩
      go_wp2_with (at_builtin; go_loud (refine wpList_append_own _ rfl _ _ 22 rfl w0.heap.size 2 i0 (.int .i64 0) 1 8 Try.underlying22 hi hz0 hz1 hz2 rfl (by decide) _ 0 [] rfl (World.ownsRow_made w0 #[] 0 (Nat.le_refl _) (by unfold maxLen; omega) rfl) ⟨g, o, none⟩ n c (xs.map (Value.int .i64)) rfl hLM (fun j u hu => ((below_one w0 _).cell (p := ((⟨g, o, none⟩ : Addr).add j)) (by unfold Addr.add; split <;> exact hgV)).trans (HS.out j u hu)) (fun u hu => cint_one hu) (by unfold maxLen; omega) (by omega) (by simp) ?_; intro v1 w1 own1 gr1 _; have HI : Hid (Ints w0.heap.size w1 v1 xs) := ints_of HN.out own1; have HX1 : Hid (Blk w1 w.heap.size 37 [.slice none 0 0, .int .i64 0, .slice none 0 0, .int .i64 0, .int .i64 0, .int .i64 0, .int .i64 0]) := (gr1.block w.heap.size (by simp; exact Nat.lt_succ_of_lt HX.out.lt) (fun e => absurd (Option.some.inj e) (Nat.ne_of_lt HX.out.lt))).trans (HX.out.later (below_one w0 _)); have HB1 : Hid (Below w.heap.size w w1) := below_tr HB.out ((below_one w0 _).grown gr1 (by simp) (fun k hk => Nat.le_of_eq (Option.some.inj hk))); clear own1 gr1; obtain ⟨a1, c1, hv1, -⟩ := HI.out.form; generalize (xs.map cint).length = ln at hv1; subst hv1; obtain ⟨z0, z1, z2, z3, z4, z5, z6⟩ := seven HX1.out; obtain ⟨y0, y1, y2, y3, y4, y5, y6⟩ := seven_free HX1.out))
      refine bodyPost_ret (v := .agg #[.slice a1 ln c1, .int .i64 0, .slice none 0 0, .int .i64 0, .int .i64 0, .int .i64 0, .int .i64 0]) (by simp [results, Try.results14, go_sem, z0, z1, z2, z3, z4, z5, z6]) rfl ⟨_, rfl, ?_, ?_⟩
      · exact own_put HI.out w.heap.size 0 [.slice a1 ln c1, .int .i64 0, .slice none 0 0, .int .i64 0, .int .i64 0, .int .i64 0, .int .i64 0] HX.out.lt HB.out.size
      · exact putW_below [.slice a1 ln c1, .int .i64 0, .slice none 0 0, .int .i64 0, .int .i64 0, .int .i64 0, .int .i64 0] HB1.out (Nat.le_refl _) (b := 0)
end Go.Proofs.Ytnkkkdhpopfahaa.sch
