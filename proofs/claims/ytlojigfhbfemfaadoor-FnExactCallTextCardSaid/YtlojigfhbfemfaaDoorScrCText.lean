/-
  The program's CallText, at every call. Conditions: the library's table of powers and the program's tables read as their texts lay them.
-/
import Derived.Test.YtlojigfhbfemfaaDoorScrWords
import Derived.Laws.StructEq
namespace Go.Proofs.YtlojigfhbfemfaaDoor.scr
open Go.RowKit Go.Deep Go.Sort
open Go.Proofs.YtlojigfhbfemfaaDoor
open Go.Proofs.YtlojigfhbfemfaaDoor.deep (Blk putW putL)
open Go.Proofs.YtlojigfhbfemfaaDoor.call (CallD ccall)
set_option linter.unusedVariables false
set_option maxRecDepth 100000

theorem empty_text {s : ByteArray} (h : s.size = 0) : s = ⟨#[]⟩ := empty_yes (by omega)
theorem ret_A {A x : ByteArray} (h : A = x) : Ending.returned (.string x) = .returned (.string A) := by rw [h]
theorem ct_off {c : CallD} (h : callB c = false) : callT c = ⟨#[]⟩ := callT_off (by rw [h]; rfl)
theorem ct_no {c d : CallD} (h : Got (wordsT c) d false) : callT c = ⟨#[]⟩ := by
  rcases h with ⟨h, _⟩ | ⟨_, h⟩
  · cases h
  · by_cases h0 : (callT c).size = 0
    · exact empty_text h0
    · have e := words_text h0
      have := h c e
      rw [← e] at this
      exact absurd this h0
theorem ct_yes {c : CallD} (h : Got (wordsT c) c true) : callT c = wordsT c := by
  rcases h with ⟨_, h, _⟩ | ⟨h, _⟩
  · exact h
  · cases h
theorem ct_other {c d : CallD} (h : Got (wordsT c) d true) (hd : sameB d c = false) : callT c = ⟨#[]⟩ := by
  rcases h with ⟨_, h, hz⟩ | ⟨h, _⟩
  · by_cases h0 : (callT c).size = 0
    · exact empty_text h0
    · have e := words_text h0
      have := call_one (c := c) (d := d) (e.trans h.symm) h0
      rw [this, same_refl] at hd
      cases hd
  · cases h

set_option maxHeartbeats 8000000 in
theorem impl_callt (c : CallD) (w : World) (hp : Pow w) (hS : Say w) : Calls Tryd.prog 12 #[.agg (ccall c).toArray] w fun e w' => e = .returned (.string (callT c)) ∧ Below w.heap.size w w' := by
  have HCR : Hid (∀ W, Calls Tryd.prog 31 #[.agg (ccall c).toArray] W fun e w' => e = .returned (.bool (callB c)) ∧ Below W.heap.size W w') := fun W => call.impl_call _ _ _ _ _ _ _ _ _ W
  have HP : Hid (Pow (w.alloc (.cells (ccall c).toArray 32))) := hp.alloc _
  have HS : Hid (Say (w.alloc (.cells (ccall c).toArray 32))) := hS.alloc _
  have HB : Hid (Below w.heap.size w (w.alloc (.cells (ccall c).toArray 32))) := below_one _ _
  have HX : Hid (Blk (w.alloc (.cells (ccall c).toArray 32)) w.heap.size 32 (ccall c)) := deep.blk_new w _ _
  clear hp hS
  cases hc : callB c with
  | false =>
    rw [hc] at HCR
    rw [ct_off hc]
    clear hc
    obtain ⟨q0, q1, q2, q3, q4, q5, q6, q7, q8⟩ := c
    simp only [ccall] at *
    go_enter Tryd.func12, Tryd.ntmps12
    go_wp2_with fail
    refine Calls.mono (HCR.out _) ?_
    rintro e w1 ⟨rfl, hb1⟩
    have HB1 : Hid (Below w.heap.size w w1) := below_tr HB.out hb1
    clear hb1
    go_wp2_with fail
    go_ret
    exact ⟨rfl, HB1.out⟩
  | true =>
    rw [hc] at HCR
    have HW : Hid (∀ W, Pow W → Say W → Calls Tryd.prog 32 #[.agg (ccall c).toArray] W fun e w' => e = .returned (.string (wordsT c)) ∧ Below W.heap.size W w') := fun W h k => impl_words c hc W h k
    have hz := words_size (callB_small hc)
    have HRC : Hid (∀ W, Say W → Calls Tryd.prog 33 #[.string (wordsT c)] W (CallPost (wordsT c) W)) := fun W k => impl_rcall (wordsT c) (by omega) W k
    have HN : Hid (∀ d, Got (wordsT c) d false → callT c = ⟨#[]⟩) := fun d h => ct_no h
    have HY : Hid (Got (wordsT c) c true → callT c = wordsT c) := fun h => ct_yes h
    have HO : Hid (∀ d, Got (wordsT c) d true → sameB d c = false → callT c = ⟨#[]⟩) := fun d h k => ct_other h k
    unfold CallPost at HRC
    obtain ⟨G, hG⟩ : ∃ G, G = Got (wordsT c) := ⟨_, rfl⟩
    rw [← hG] at HRC HN HY HO
    generalize wordsT c = T at *
    obtain ⟨A, hA⟩ : ∃ A, A = callT c := ⟨_, rfl⟩
    rw [← hA] at HN HY HO ⊢
    clear hG hA hc
    obtain ⟨S, hS⟩ : ∃ S : CallD → Bool, S = fun d => sameB d c := ⟨_, rfl⟩
    have HDF : Hid (∀ d : CallD, S d = true → d = c) := fun d h => by rw [hS] at h; exact same_eq h
    have HDG : Hid (∀ d : CallD, S d = false → _) := fun d h => differ d c (by rw [hS] at h; exact h)
    have HO2 : Hid (∀ d, G d true → S d = false → A = ⟨#[]⟩) := fun d h k => HO.out d h (by rw [hS] at k; exact k)
    clear HO hS
    obtain ⟨q0, q1, q2, q3, q4, q5, q6, q7, q8⟩ := c
    simp only [ccall] at *
    go_enter Tryd.func12, Tryd.ntmps12
    go_wp2_with fail
    refine Calls.mono (HCR.out _) ?_
    rintro e w1 ⟨rfl, hb1⟩
    have HB1 : Hid (Below w.heap.size w w1) := below_tr HB.out hb1
    have HX1 : Hid (Blk w1 w.heap.size 32 [.int .i64 q0, .int .i64 q1, .int .i64 q2, .int .i64 q3, .int .i64 q4, .int .i64 q5, .int .i64 q6, .int .i64 q7, .int .i64 q8]) := HX.out.later hb1
    have HP1 : Hid (Pow w1) := HP.out.later hb1
    have HS1 : Hid (Say w1) := HS.out.later hb1
    clear hb1 HB HX HP HS HCR
    have c0 : w1.cell? ⟨w.heap.size, 0, none⟩ = some (.int .i64 q0) := HX1.out.cell 0
    have c1 : w1.cell? ⟨w.heap.size, 1, none⟩ = some (.int .i64 q1) := HX1.out.cell 1
    have c2 : w1.cell? ⟨w.heap.size, 2, none⟩ = some (.int .i64 q2) := HX1.out.cell 2
    have c3 : w1.cell? ⟨w.heap.size, 3, none⟩ = some (.int .i64 q3) := HX1.out.cell 3
    have c4 : w1.cell? ⟨w.heap.size, 4, none⟩ = some (.int .i64 q4) := HX1.out.cell 4
    have c5 : w1.cell? ⟨w.heap.size, 5, none⟩ = some (.int .i64 q5) := HX1.out.cell 5
    have c6 : w1.cell? ⟨w.heap.size, 6, none⟩ = some (.int .i64 q6) := HX1.out.cell 6
    have c7 : w1.cell? ⟨w.heap.size, 7, none⟩ = some (.int .i64 q7) := HX1.out.cell 7
    have c8 : w1.cell? ⟨w.heap.size, 8, none⟩ = some (.int .i64 q8) := HX1.out.cell 8
    go_wp2_with fail
    refine Calls.mono (HW.out _ HP1.out HS1.out) ?_
    rintro e w2 ⟨rfl, hb2⟩
    have HB2 : Hid (Below w.heap.size w w2) := below_tr HB1.out hb2
    have HX2 : Hid (Blk w2 w.heap.size 32 [.int .i64 q0, .int .i64 q1, .int .i64 q2, .int .i64 q3, .int .i64 q4, .int .i64 q5, .int .i64 q6, .int .i64 q7, .int .i64 q8]) := HX1.out.later hb2
    have HS2 : Hid (Say w2) := HS1.out.later hb2
    clear hb2 HB1 HX1 HP1 HS1 HW c0 c1 c2 c3 c4 c5 c6 c7 c8
    go_wp2_with fail
    refine Calls.mono (HRC.out _ HS2.out) ?_
    rintro e w3 ⟨d, k, rfl, hg, hb3⟩
    have HB3 : Hid (Below w.heap.size w w3) := below_tr HB2.out hb3
    have HX3 : Hid (Blk w3 w.heap.size 32 [.int .i64 q0, .int .i64 q1, .int .i64 q2, .int .i64 q3, .int .i64 q4, .int .i64 q5, .int .i64 q6, .int .i64 q7, .int .i64 q8]) := HX2.out.later hb3
    have HBN : Hid (∀ o, Below w.heap.size w (w3.alloc o)) := fun o => below_tr HB3.out (below_one _ _)
    have hlt : w.heap.size < w3.heap.size := HX3.out.lt
    clear hb3 HB2 HX2 HS2 HRC
    have c0 : w3.cell? ⟨w.heap.size, 0, none⟩ = some (.int .i64 q0) := HX3.out.cell 0
    have c1 : w3.cell? ⟨w.heap.size, 1, none⟩ = some (.int .i64 q1) := HX3.out.cell 1
    have c2 : w3.cell? ⟨w.heap.size, 2, none⟩ = some (.int .i64 q2) := HX3.out.cell 2
    have c3 : w3.cell? ⟨w.heap.size, 3, none⟩ = some (.int .i64 q3) := HX3.out.cell 3
    have c4 : w3.cell? ⟨w.heap.size, 4, none⟩ = some (.int .i64 q4) := HX3.out.cell 4
    have c5 : w3.cell? ⟨w.heap.size, 5, none⟩ = some (.int .i64 q5) := HX3.out.cell 5
    have c6 : w3.cell? ⟨w.heap.size, 6, none⟩ = some (.int .i64 q6) := HX3.out.cell 6
    have c7 : w3.cell? ⟨w.heap.size, 7, none⟩ = some (.int .i64 q7) := HX3.out.cell 7
    have c8 : w3.cell? ⟨w.heap.size, 8, none⟩ = some (.int .i64 q8) := HX3.out.cell 8
    cases k with
    | false =>
      have HE : Hid (A = ⟨#[]⟩) := HN.out d hg
      clear HN HY HO2 HDF HDG hg
      obtain ⟨d0, d1, d2, d3, d4, d5, d6, d7, d8⟩ := d
      go_wp2_with fail
      go_ret
      exact ⟨ret_A HE.out, HBN.out _⟩
    | true =>
      cases hs : S d with
      | true =>
        obtain rfl := HDF.out d hs
        have HE : Hid (A = T) := HY.out hg
        clear HN HY HO2 HDF HDG hg hs
        go_wp2_with fail
        go_ret
        exact ⟨ret_A HE.out, HBN.out _⟩
      | false =>
        have HE : Hid (A = ⟨#[]⟩) := HO2.out d hg hs
        have hdf := HDG.out d hs
        clear HN HY HO2 HDF HDG hg hs
        obtain ⟨d0, d1, d2, d3, d4, d5, d6, d7, d8⟩ := d
        simp only at hdf
        rcases hdf with h0 | ⟨h0, h1⟩ | ⟨h0, h1, h2⟩ | ⟨h0, h1, h2, h3⟩ | ⟨h0, h1, h2, h3, h4⟩ | ⟨h0, h1, h2, h3, h4, h5⟩ | ⟨h0, h1, h2, h3, h4, h5, h6⟩ | ⟨h0, h1, h2, h3, h4, h5, h6, h7⟩ | ⟨h0, h1, h2, h3, h4, h5, h6, h7, h8⟩
        all_goals (
          go_wp2_with fail
          go_ret
          exact ⟨ret_A HE.out, HBN.out _⟩)
end Go.Proofs.YtlojigfhbfemfaaDoor.scr
