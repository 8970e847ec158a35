/-
  The program's copy of a row of numbers, and its SchedNew. No condition but the length.
-/
import Derived.Test.YtnkkkdhpopfahaaSchRK
import Derived.Test.YtnkkkdhpopfahaaSchSt
namespace Go.Proofs.Ytnkkkdhpopfahaa.sch
open Go.RowKit Go.Deep Go.Sort
open Go.Proofs.Ytnkkkdhpopfahaa
open Go.Proofs.Ytnkkkdhpopfahaa.deep
set_option linter.unusedVariables false
set_option maxRecDepth 100000

def CopiedI (xs : List Int) (w : World) (e : Ending) (w' : World) : Prop := ∃ v', e = .returned v' ∧ Ints w.heap.size w' v' xs ∧ Below w.heap.size w w'
theorem nil_below {W w4 : World} (gr : W.grownBy w4 (Value.slice none 0 0).ownBlock) : Below W.heap.size W w4 := (Below.refl _ _).grown gr (Nat.le_refl _) (fun k e => by cases e)
theorem ints_nil (w : World) (b : Nat) : Ints b w (.slice none 0 0) [] := ⟨by simp, World.ownsRow_nil w b _ _⟩
set_option maxHeartbeats 2000000 in
theorem im_copied {lo : Nat} {w : World} {v : Value} {xs : List Int} (h : RowE (Plain cint) 1 lo w v xs) (hn : xs.length ≤ 1048576) : Calls Try.prog 44 #[v] w (CopiedI xs w) := by
  obtain ⟨i0, hi, hz0, hz1, hz2⟩ := info_parts info_i64
  obtain ⟨a, c, hv, hm, h3⟩ := int_at h
  obtain ⟨n, hb⟩ : ∃ b, b = xs.length := ⟨_, rfl⟩
  have HN : Hid (n = xs.length) := hb
  rw [← hb] at hv hn hm
  by_cases h0 : n = 0
  · have e : xs = [] := List.eq_nil_of_length_eq_zero (by omega)
    subst e
    subst h0 hv
    have HI : Hid (CopiedI [] w (.returned (.slice none 0 0)) w) := ⟨_, rfl, ints_nil _ _, Below.refl _ _⟩
    clear h h3 hb
    cases a with
    | none =>
      go_enter Try.func44, Try.ntmps44
      go_wp2
      go_ret
      exact HI.out
    | some ad =>
      go_enter Try.func44, Try.ntmps44
      go_wp2
      go_ret
      exact HI.out
  · obtain ⟨g, o, ha, hg, hc⟩ := h3 (by omega)
    have HS : Hid (∀ j u, (xs.map (Value.int .i64))[j]? = some u → w.cell? ((⟨g, o, none⟩ : Addr).add j) = some u) := fun j u hu => by
      have hj : j < xs.length := by
        rcases Nat.lt_or_ge j xs.length with h | h
        · exact h
        · rw [List.getElem?_eq_none (by simpa using h)] at hu; cases hu
      rw [List.getElem?_map, List.getElem?_eq_getElem hj] at hu
      rw [← Option.some.inj hu, show ((⟨g, o, none⟩ : Addr).add j) = ⟨g, o + j, none⟩ by unfold Addr.add; by_cases h : j = 0 <;> simp [h]]
      exact hc j hj
    have HLM : Hid ((xs.map (Value.int .i64)).length = n * 1) := by show _ = _; rw [List.length_map, ← HN.out]; omega
    subst hv ha
    have a4 : 0 + n ≤ maxLen := by unfold maxLen; omega
    have a5 : (0 + n) * 8 ≤ 140737488355328 := by omega
    have A4 : Hid (0 + n ≤ maxLen) := a4
    have A5 : Hid ((0 + n) * 8 ≤ 140737488355328) := a5
    clear hb h h3 hc a4 a5 hm
    go_enter Try.func44, Try.ntmps44
    go_wp2_with (at_builtin; go_loud (refine wpList_append_own _ rfl _ _ 22 rfl w.heap.size 2 i0 (.int .i64 0) 1 8 Try.underlying22 hi hz0 hz1 hz2 rfl (by decide) _ 0 [] rfl (World.ownsRow_nil w w.heap.size _ _) ⟨g, o, none⟩ n c (xs.map (Value.int .i64)) rfl HLM.out HS.out (fun u hu => cint_one hu) A4.out A5.out (Nat.le_refl _) ?_; intro v3 w4 hown hgrow _; have HB4 : Hid (Below w.heap.size w w4) := nil_below hgrow; have HO4 : Hid (Ints w.heap.size w4 v3 xs) := ints_of HN.out hown; clear hown hgrow))
    go_ret
    exact ⟨_, rfl, HO4.out, HB4.out⟩
theorem Ints.row {b : Nat} {w : World} {v : Value} {xs : List Int} (h : Ints b w v xs) : RowE (Plain cint) 1 b w v xs ∧ Free w v := ⟨OwnC.plain h, OwnC.free h⟩

def newD (xs : List Int) : SoD := if 400 < xs.length then illD 2 else if orderB xs = false then illD 1 else ⟨⟨xs, 0, []⟩, (0, 0, 0), 0⟩
set_option maxHeartbeats 2000000 in
theorem impl_new {lo : Nat} {w : World} {v : Value} {xs : List Int} (h : RowE (Plain cint) 1 lo w v xs) : Calls Try.prog 16 #[v] w (ImplAns (newD xs) w) := by
  have HOR : Hid (∀ W, Below w.heap.size w W → Calls Try.prog 41 #[v] W fun e w' => e = .returned (.bool (orderB xs)) ∧ w' = W) := fun W hW => impl_turns (h.below (plain_stays _) hW)
  have HCP : Hid (xs.length ≤ 1048576 → ∀ W, Below w.heap.size w W → Calls Try.prog 44 #[v] W (CopiedI xs W)) := fun hn W hW => im_copied (h.below (plain_stays _) hW) hn
  have HD : Hid (newD xs = if 400 < xs.length then illD 2 else if orderB xs = false then illD 1 else ⟨⟨xs, 0, []⟩, (0, 0, 0), 0⟩) := rfl
  have HL : Hid (orderB xs = true → xs.length ≤ 16) := fun h => (order_len h).2
  obtain ⟨a, c, hv, hm, -⟩ := int_at h
  obtain ⟨V, hV⟩ : ∃ V, V = w.alloc (.cells #[.slice none 0 0, .int .i64 0, .slice none 0 0, .int .i64 0, .int .i64 0, .int .i64 0, .int .i64 0] 37) := ⟨_, rfl⟩
  have HB : Hid (Below w.heap.size w V) := by rw [hV]; exact below_one _ _
  have HX : Hid (Blk V w.heap.size 37 [.slice none 0 0, .int .i64 0, .slice none 0 0, .int .i64 0, .int .i64 0, .int .i64 0, .int .i64 0]) := by rw [hV]; exact blk_new _ _ _
  obtain ⟨n, hn⟩ : ∃ n, n = xs.length := ⟨_, rfl⟩
  rw [← hn] at hv hm HCP HD HL
  unfold maxLen at hm
  clear hn h
  subst hv
  obtain ⟨z0, z1, z2, z3, z4, z5, z6⟩ := seven HX.out
  obtain ⟨y0, y1, y2, y3, y4, y5, y6⟩ := seven_free HX.out
  by_cases h4 : 400 < n
  · have HE : Hid (newD xs = illD 2) := by rw [Hid, HD.out, if_pos h4]
    rw [HE.out]
    clear HE HD
    go_enter Try.func16, Try.ntmps16
    go_wp2_with fail
    exact bodyPost_ret (v := .agg #[.slice none 0 0, .int .i64 0, .slice none 0 0, .int .i64 0, .int .i64 0, .int .i64 0, .int .i64 2]) (by simp [results, Try.results16, go_sem]) rfl (ill_impl 2 (below_one _ _))
  · cases ho : orderB xs with
    | false =>
      rw [ho] at HOR
      have HE : Hid (newD xs = illD 1) := by rw [Hid, HD.out, if_neg h4, if_pos ho]
      rw [HE.out]
      clear HE HD HL HCP ho
      go_enter Try.func16, Try.ntmps16
      go_wp2_with fail
      rw [← hV]
      clear hV
      refine Calls.mono (HOR.out _ HB.out) ?_
      rintro e w1 ⟨rfl, rfl⟩
      go_wp2_with fail
      refine bodyPost_ret (v := .agg #[.slice none 0 0, .int .i64 0, .slice none 0 0, .int .i64 0, .int .i64 0, .int .i64 0, .int .i64 1]) (by simp [results, Try.results16, go_sem, z0, z1, z2, z3, z4, z5, z6]) rfl ?_
      exact ill_impl 1 (putW_below [.slice none 0 0, .int .i64 0, .slice none 0 0, .int .i64 0, .int .i64 0, .int .i64 0, .int .i64 1] HB.out (Nat.le_refl _) (b := 0))
    | true =>
      rw [ho] at HOR
      have hl := HL.out ho
      have HCP2 : Hid _ := HCP.out (by omega)
      have HE : Hid (newD xs = ⟨⟨xs, 0, []⟩, (0, 0, 0), 0⟩) := by rw [Hid, HD.out, if_neg h4, if_neg (by rw [ho]; simp)]
      rw [HE.out]
      clear HE HD HL HCP ho z0 z1 z2 z3 z4 z5 z6 y0 y1 y2 y3 y4 y5 y6
      go_enter Try.func16, Try.ntmps16
      go_wp2_with fail
      rw [← hV]
      clear hV
      refine Calls.mono (HOR.out _ HB.out) ?_
      rintro e w1 ⟨rfl, rfl⟩
      go_wp2_with fail
      refine Calls.mono (HCP2.out _ HB.out) ?_
      rintro e w2 ⟨v2, rfl, hi2, hb2⟩
      obtain ⟨a2, c2, hv2, -⟩ := hi2.form
      have HI2 : Hid (Ints w1.heap.size w2 v2 xs) := hi2
      have hX2 := HX.out.later hb2
      have HB2 : Hid (Below w.heap.size w w2) := below_tr HB.out hb2
      have hlt : w.heap.size < w1.heap.size := HX.out.lt
      generalize (xs.map cint).length = ln at hv2
      subst hv2
      obtain ⟨z0, z1, z2, z3, z4, z5, z6⟩ := seven hX2
      obtain ⟨y0, y1, y2, y3, y4, y5, y6⟩ := seven_free hX2
      have HI3 : Hid (Ints w.heap.size (putW w2 w.heap.size 0 [.slice a2 ln c2, .int .i64 0, .slice none 0 0, .int .i64 0, .int .i64 0, .int .i64 0, .int .i64 0]) (.slice a2 ln c2) xs) := own_put HI2.out w.heap.size 0 _ hlt (by omega)
      have HB3 : Hid (Below w.heap.size w (putW w2 w.heap.size 0 [.slice a2 ln c2, .int .i64 0, .slice none 0 0, .int .i64 0, .int .i64 0, .int .i64 0, .int .i64 0])) := putW_below _ HB2.out (Nat.le_refl _)
      clear hi2 hb2 hX2
      go_wp2_with fail
      refine bodyPost_ret (v := .agg #[.slice a2 ln c2, .int .i64 0, .slice none 0 0, .int .i64 0, .int .i64 0, .int .i64 0, .int .i64 0]) (by simp [results, Try.results16, go_sem, z0, z1, z2, z3, z4, z5, z6]) rfl ?_
      obtain ⟨r1, f1⟩ := HI3.out.row
      exact ⟨_, _, rfl, ⟨r1, (ill_sf _ _ 0).2⟩, HB3.out, f1, free_nil _, fun g o g' o' _ h => by simp [spotOf] at h⟩
end Go.Proofs.Ytnkkkdhpopfahaa.sch
