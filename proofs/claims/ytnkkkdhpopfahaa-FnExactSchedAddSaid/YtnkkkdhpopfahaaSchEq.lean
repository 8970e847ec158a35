/-
  The laws' helpers at a Sched and at a SchedOut: measured, compared, marked, held. No condition but the lengths.
-/
import Derived.Test.YtnkkkdhpopfahaaSchTo
namespace Go.Proofs.Ytnkkkdhpopfahaa.sch
open Go.RowKit Go.Deep Go.Sort
open Go.Proofs.Ytnkkkdhpopfahaa
open Go.Proofs.Ytnkkkdhpopfahaa.deep
set_option linter.unusedVariables false
set_option maxRecDepth 100000

theorem sz_sched (ao at' : Option Addr) (no co nt ct : Nat) (nw : Int) (hno : (no : Int) ≤ 9223372036854775807) (hnt : (nt : Int) ≤ 9223372036854775807) (w : World) : Calls Try.prog 9 #[.agg #[.slice ao no co, .int .i64 nw, .slice at' nt ct], .int .i64 1048576] w fun e w' => e = .returned (.int .i64 (if (no : Int) + nt ≤ 1048576 then 1048576 - no - nt else -1)) ∧ Below w.heap.size w w' := by
  have HO : Hid (∀ W, Calls Try.prog 34 #[.slice ao no co, .int .i64 1048576] W fun e w' => e = .returned (.int .i64 (if (no : Int) ≤ 1048576 then 1048576 - no else -1)) ∧ w' = W) := fun W => sz_ins ao no co 1048576 hno (by omega) (by omega) W
  have HW : Hid (Below w.heap.size w (w.alloc (.cells #[.slice ao no co, .int .i64 nw, .slice at' nt ct] 25))) := below_one _ _
  by_cases h1 : (no : Int) ≤ 1048576
  · have HT : Hid (∀ W, Calls Try.prog 35 #[.slice at' nt ct, .int .i64 (1048576 - no)] W fun e w' => e = .returned (.int .i64 (if (nt : Int) ≤ 1048576 - no then 1048576 - no - nt else -1)) ∧ w' = W) := fun W => sz_tks at' nt ct (1048576 - no) hnt (by omega) (by omega) W
    rw [if_pos h1] at HO
    have hp : (0 : Int) ≤ 1048576 - no := by omega
    by_cases h2 : (nt : Int) ≤ 1048576 - no
    · rw [if_pos h2] at HT
      rw [if_pos (by omega)]
      have hp2 : (0 : Int) ≤ 1048576 - no - nt := by omega
      go_enter Try.func9, Try.ntmps9
      go_wp2_with fail
      refine Calls.mono (HO.out _) ?_
      rintro e w1 ⟨rfl, rfl⟩
      go_wp2_with fail
      refine Calls.mono (HT.out _) ?_
      rintro e w2 ⟨rfl, rfl⟩
      go_wp2_with fail
      go_ret
      exact ⟨rfl, HW.out⟩
    · rw [if_neg h2] at HT
      rw [if_neg (by omega)]
      go_enter Try.func9, Try.ntmps9
      go_wp2_with fail
      refine Calls.mono (HO.out _) ?_
      rintro e w1 ⟨rfl, rfl⟩
      go_wp2_with fail
      refine Calls.mono (HT.out _) ?_
      rintro e w2 ⟨rfl, rfl⟩
      go_wp2_with fail
      go_ret
      exact ⟨rfl, HW.out⟩
  · rw [if_neg h1] at HO
    rw [if_neg (by omega)]
    go_enter Try.func9, Try.ntmps9
    go_wp2_with fail
    refine Calls.mono (HO.out _) ?_
    rintro e w1 ⟨rfl, rfl⟩
    go_wp2_with fail
    go_ret
    exact ⟨rfl, HW.out⟩

theorem eq_sched {x : SchedD} {l1 l2 : Nat} {w : World} {vo vt uo ut : Value} (h1 : SF l1 w vo vt x) (h2 : SF l2 w uo ut x) : Calls Try.prog 13 #[.agg #[vo, .int .i64 x.now, vt], .agg #[uo, .int .i64 x.now, ut]] w fun e w' => e = .returned (.bool true) ∧ Below w.heap.size w w' := by
  have HO : Hid (∀ W, Below w.heap.size w W → Calls Try.prog 18 #[vo, uo] W fun e w' => e = .returned (.bool true) ∧ Below W.heap.size W w') := fun W hW => eq_ins (h1.1.below (plain_stays _) hW) (h2.1.below (plain_stays _) hW)
  have HT : Hid (∀ W, Below w.heap.size w W → Calls Try.prog 29 #[vt, ut] W fun e w' => e = .returned (.bool true) ∧ Below W.heap.size W w') := fun W hW => eq_tks (h1.2.below (plain_stays _) hW) (h2.2.below (plain_stays _) hW)
  obtain ⟨ao, co, hvo, -⟩ := int_at h1.1
  obtain ⟨at', ct, hvt, -⟩ := tk_at h1.2
  obtain ⟨bo, eo, huo, -⟩ := int_at h2.1
  obtain ⟨bt, et, hut, -⟩ := tk_at h2.2
  clear h1 h2
  generalize x.order.length = no at hvo huo
  generalize x.tasks.length = nt at hvt hut
  generalize x.now = nw
  subst hvo hvt huo hut
  obtain ⟨V, hV⟩ : ∃ V, V = (w.alloc (.cells #[.slice ao no co, .int .i64 nw, .slice at' nt ct] 30)).alloc (.cells #[.slice bo no eo, .int .i64 nw, .slice bt nt et] 30) := ⟨_, rfl⟩
  have HW : Hid (Below w.heap.size w V) := by rw [hV]; exact below2 _ _ _
  obtain ⟨b1, b2⟩ : Blk V w.heap.size 30 [.slice ao no co, .int .i64 nw, .slice at' nt ct] ∧ Blk V (w.heap.size + 1) 30 [.slice bo no eo, .int .i64 nw, .slice bt nt et] := by rw [hV]; exact blk2 _ _ _ _ _
  have HB1 : Hid (Blk V w.heap.size 30 [.slice ao no co, .int .i64 nw, .slice at' nt ct]) := b1
  have HB2 : Hid (Blk V (w.heap.size + 1) 30 [.slice bo no eo, .int .i64 nw, .slice bt nt et]) := b2
  obtain ⟨x0, x1, x2⟩ := cells3s b1
  obtain ⟨y0, y1, y2⟩ := cells3s b2
  clear b1 b2
  go_enter Try.func13, Try.ntmps13
  go_wp2_with fail
  rw [← hV]
  clear hV
  refine Calls.mono (HO.out _ HW.out) ?_
  rintro e w1 ⟨rfl, hb1⟩
  have h1 := HB1.out.later hb1
  have h2 := HB2.out.later hb1
  have HW1 : Hid (Below w.heap.size w w1) := below_tr HW.out hb1
  clear x0 x1 x2 y0 y1 y2
  obtain ⟨x0, x1, x2⟩ := cells3s h1
  obtain ⟨y0, y1, y2⟩ := cells3s h2
  clear h1 h2 hb1
  go_wp2_with fail
  refine Calls.mono (HT.out _ HW1.out) ?_
  rintro e w2 ⟨rfl, hb2⟩
  have HW2 : Hid (Below w.heap.size w w2) := below_tr HW1.out hb2
  clear hb2
  go_wp2_with fail
  go_ret
  exact ⟨rfl, HW2.out⟩

/-- a Sched that may be marked: what is told, and the world -/
def markS (w : World) (vo vt : Value) : World := markV (markV w 1 vo 1) 3 vt (1 + (lenOf vo : Int))
theorem lenOf_le {w : World} {K : Nat} {v : Value} (h : Mks w K v) : (lenOf v : Int) ≤ 1048576 ∧ ∃ a n c, v = .slice a n c := by
  obtain ⟨a, n, c, rfl, hn, _⟩ := h
  exact ⟨hn, a, n, c, rfl⟩
theorem mark_sched (nw : Int) {w : World} {vo vt : Value} (h1 : Mks w 1 vo) (h2 : Mks w 3 vt) : Calls Try.prog 24 #[.agg #[vo, .int .i64 nw, vt], .int .i64 1] w fun e w' => e = .returned (.int .i64 (1 + (lenOf vo : Int) + 3 * (lenOf vt : Int))) ∧ w' = markS (w.alloc (.cells #[vo, .int .i64 nw, vt] 30)) vo vt := by
  have hb := below_one w (.cells #[vo, .int .i64 nw, vt] 30)
  obtain ⟨V, hV⟩ : ∃ V, V = w.alloc (.cells #[vo, .int .i64 nw, vt] 30) := ⟨_, rfl⟩
  rw [← hV] at hb ⊢
  obtain ⟨l1, a1, n1, c1, e1⟩ := lenOf_le h1
  obtain ⟨l2, a2, n2, c2, e2⟩ := lenOf_le h2
  have HM1 : Hid (Calls Try.prog 19 #[vo, .int .i64 1] V fun e w' => e = .returned (.int .i64 (1 + (lenOf vo : Int))) ∧ w' = markV V 1 vo 1) := mark_ins (h1.later hb) (by omega) (by omega)
  have HM2 : Hid (Calls Try.prog 30 #[vt, .int .i64 (1 + (lenOf vo : Int))] (markV V 1 vo 1) fun e w' => e = .returned (.int .i64 (1 + (lenOf vo : Int) + 3 * (lenOf vt : Int))) ∧ w' = markV (markV V 1 vo 1) 3 vt (1 + (lenOf vo : Int))) := mark_tks ((h2.later hb).mark 1) (by omega) (by omega)
  have hX : Blk V w.heap.size 30 [vo, .int .i64 nw, vt] := by rw [hV]; exact blk_new _ _ _
  obtain ⟨x0, x1, x2⟩ := cells3s hX
  have hX2 : (markV V 1 vo 1).cell? ⟨w.heap.size, 2, none⟩ = some vt := by
    have hne : ∀ g o, spotOf vo = some (g, o) → 0 < lenOf vo → g ≠ w.heap.size := fun g o hs hl => by
      obtain ⟨a, n, c, rfl, _, hi⟩ := h1
      obtain ⟨g', o', rfl, hI⟩ := hi (by simpa [lenOf] using hl)
      simp [spotOf] at hs
      obtain ⟨rfl, rfl⟩ := hs
      obtain ⟨⟨x, hx⟩, _⟩ := hI 0 (by simp [lenOf] at hl; omega)
      have := (show g' < w.heap.size from by unfold World.cell? at hx; cases e : w.heap[g']? with | none => simp [e] at hx | some o => exact (Array.getElem?_eq_some_iff.1 e).1)
      omega
    have hk : (markV V 1 vo 1).heap[w.heap.size]? = V.heap[w.heap.size]? := by
      unfold markV
      split
      · rename_i a n c
        by_cases h0 : n = 0
        · subst h0; rw [Nat.zero_mul, nums_zero]; rfl
        · exact putW_other _ _ _ _ _ (Ne.symm (hne a.block a.off rfl (by simp [lenOf]; omega)))
      · rfl
    rw [World.cell?_of_block (w := V) hk]; exact x2
  have HV : Hid (markS V vo vt = markV (markV V 1 vo 1) 3 vt (1 + (lenOf vo : Int))) := rfl
  generalize markS V vo vt = M at *
  generalize markV (markV V 1 vo 1) 3 vt (1 + (lenOf vo : Int)) = M2 at *
  generalize markV V 1 vo 1 = M1 at *
  generalize lenOf vo = lo at *
  generalize lenOf vt = lt at *
  subst e1 e2
  clear h1 h2 hb hX
  go_enter Try.func24, Try.ntmps24
  go_wp2_with fail
  rw [← hV]
  refine Calls.mono HM1.out ?_
  rintro e w1 ⟨rfl, rfl⟩
  go_wp2_with fail
  refine Calls.mono HM2.out ?_
  rintro e w2 ⟨rfl, rfl⟩
  go_wp2_with fail
  go_ret
  exact ⟨rfl, HV.out.symm⟩
end Go.Proofs.Ytnkkkdhpopfahaa.sch
