/-
  The laws' helpers at a Sched: made anew, measured, compared, marked, held. No condition but the lengths.
-/
import Derived.Test.YtnkkkdhpopfahaaSchOf
import Derived.Test.YtnkkkdhpopfahaaSchNew
import Derived.Test.YtnkkkdhpopfahaaRowInt
import Derived.Test.YtnkkkdhpopfahaaMarkTask
namespace Go.Proofs.Ytnkkkdhpopfahaa.sch
open Go.RowKit Go.Deep Go.Sort
open Go.Proofs.Ytnkkkdhpopfahaa
open Go.Proofs.Ytnkkkdhpopfahaa.deep
set_option linter.unusedVariables false
set_option maxRecDepth 100000

/-- what toSched leaves -/
def ToSched (x : SchedD) (w : World) (e : Ending) (w' : World) : Prop := ∃ go no gt nt, e = .returned (.agg #[.slice (some ⟨go, 0, none⟩) no no, .int .i64 x.now, .slice (some ⟨gt, 0, none⟩) nt nt]) ∧ SF w.heap.size w' (.slice (some ⟨go, 0, none⟩) no no) (.slice (some ⟨gt, 0, none⟩) nt nt) x ∧ Free w' (.slice (some ⟨go, 0, none⟩) no no) ∧ Free w' (.slice (some ⟨gt, 0, none⟩) nt nt) ∧ Below w.heap.size w w'
theorem free_put {w : World} {v : Value} (h : Free w v) (g b : Nat) (vs : List Value) : Free (putW w g b vs) v := fun g' o hs hl j => by rw [putW_frozen]; exact h g' o hs hl j
theorem spot_lt {α : Type} {E : Reader α} {k lo : Nat} {w : World} {v : Value} {xs : List α} (h : RowE E k lo w v xs) : ∀ g o, spotOf v = some (g, o) → 0 < lenOf v → g < w.heap.size := fun g o a b => (row_spot h g o a b).2
set_option maxHeartbeats 4000000 in
theorem to_sched (x : SchedD) {lo : Nat} {w : World} {vo vt : Value} (h : SF lo w vo vt x) (hn : x.order.length ≤ 1048576) (hm : x.tasks.length ≤ 1048576) : Calls Try.prog 11 #[.agg #[vo, .int .i64 x.now, vt]] w (ToSched x w) := by
  have HTO : Hid (∀ W, Below w.heap.size w W → Calls Try.prog 15 #[vo] W (ToinsF x.order W)) := fun W hW => to_insF (h.1.below (plain_stays _) hW) hn
  have HTT : Hid (∀ W, Below w.heap.size w W → Calls Try.prog 40 #[vt] W (TotksF x.tasks W)) := fun W hW => to_tksF (h.2.below (plain_stays _) hW) hm
  obtain ⟨ao, co, hvo, -⟩ := int_at h.1
  obtain ⟨at', ct, hvt, -⟩ := tk_at h.2
  unfold ToSched
  generalize x.order.length = no0 at hvo
  generalize x.tasks.length = nt0 at hvt
  obtain ⟨nw, hnw⟩ : ∃ n, n = x.now := ⟨_, rfl⟩
  rw [← hnw]
  subst hvo hvt
  obtain ⟨V, hV⟩ : ∃ V, V = ((w.alloc (.cells #[.slice ao no0 co, .int .i64 nw, .slice at' nt0 ct] 25)).alloc (.cells #[.slice none 0 0, .int .i64 0, .slice none 0 0] 30)).alloc (.cells #[.slice none 0 0, .int .i64 0, .slice none 0 0] 30) := ⟨_, rfl⟩
  have hbV : Below w.heap.size w V := by rw [hV]; exact below3 _ _ _ _
  obtain ⟨b1, b2, b3⟩ : Blk V w.heap.size 25 [.slice ao no0 co, .int .i64 nw, .slice at' nt0 ct] ∧ Blk V (w.heap.size + 1) 30 [.slice none 0 0, .int .i64 0, .slice none 0 0] ∧ Blk V (w.heap.size + 1 + 1) 30 [.slice none 0 0, .int .i64 0, .slice none 0 0] := by rw [hV]; exact blk3 _ _ _ _ _ _ _
  have HB1 : Hid (Blk V w.heap.size 25 [.slice ao no0 co, .int .i64 nw, .slice at' nt0 ct]) := b1
  have HB2 : Hid (Blk V (w.heap.size + 1) 30 [.slice none 0 0, .int .i64 0, .slice none 0 0]) := b2
  have HB3 : Hid (Blk V (w.heap.size + 1 + 1) 30 [.slice none 0 0, .int .i64 0, .slice none 0 0]) := b3
  have HW : Hid (Below w.heap.size w V) := hbV
  obtain ⟨x0, x1, x2⟩ := cells3s b1
  clear h hn hm hnw b1 b2 b3 hbV
  go_enter Try.func11, Try.ntmps11
  go_wp2_with fail
  rw [← hV]
  clear hV
  refine Calls.mono (HTO.out _ HW.out) ?_
  rintro e w1 ⟨v1, rfl, hr1, hb1, hf1, g1, n1, hv1⟩
  subst hv1
  have HR1 : Hid (RowE (Plain cint) 1 V.heap.size w1 (.slice (some ⟨g1, 0, none⟩) n1 n1) x.order) := hr1
  have HF1 : Hid (Free w1 (.slice (some ⟨g1, 0, none⟩) n1 n1)) := hf1
  have h1 : Blk w1 w.heap.size 25 [.slice ao no0 co, .int .i64 nw, .slice at' nt0 ct] := HB1.out.later hb1
  have h2 : Blk w1 (w.heap.size + 1) 30 [.slice none 0 0, .int .i64 0, .slice none 0 0] := HB2.out.later hb1
  have h3 : Blk w1 (w.heap.size + 1 + 1) 30 [.slice none 0 0, .int .i64 0, .slice none 0 0] := HB3.out.later hb1
  have HC1 : Hid (Blk (putW w1 (w.heap.size + 1 + 1) 0 [.slice (some ⟨g1, 0, none⟩) n1 n1, .int .i64 nw]) w.heap.size 25 [.slice ao no0 co, .int .i64 nw, .slice at' nt0 ct]) := h1.other _ _ _ (by omega)
  have HC2 : Hid (Blk (putW w1 (w.heap.size + 1 + 1) 0 [.slice (some ⟨g1, 0, none⟩) n1 n1, .int .i64 nw]) (w.heap.size + 1) 30 [.slice none 0 0, .int .i64 0, .slice none 0 0]) := h2.other _ _ _ (by omega)
  have HC3 : Hid (Blk (putW w1 (w.heap.size + 1 + 1) 0 [.slice (some ⟨g1, 0, none⟩) n1 n1, .int .i64 nw]) (w.heap.size + 1 + 1) 30 [.slice (some ⟨g1, 0, none⟩) n1 n1, .int .i64 nw, .slice none 0 0]) := h3.put _ 0
  have hB1 : Below w.heap.size w w1 := below_tr HW.out hb1
  have HBP : Hid (Below w.heap.size w (putW w1 (w.heap.size + 1 + 1) 0 [.slice (some ⟨g1, 0, none⟩) n1 n1, .int .i64 nw])) := putW_below _ hB1 (by omega)
  have hVs : w.heap.size + 1 + 1 < V.heap.size := HB3.out.lt
  have HRP : Hid (RowE (Plain cint) 1 V.heap.size (putW w1 (w.heap.size + 1 + 1) 0 [.slice (some ⟨g1, 0, none⟩) n1 n1, .int .i64 nw]) (.slice (some ⟨g1, 0, none⟩) n1 n1) x.order) := rowE_stays (plain_stays _) HR1.out (putW_keep _ _ _ _ _ hVs)
  have HFP : Hid (Free (putW w1 (w.heap.size + 1 + 1) 0 [.slice (some ⟨g1, 0, none⟩) n1 n1, .int .i64 nw]) (.slice (some ⟨g1, 0, none⟩) n1 n1)) := free_put hf1 _ _ _
  obtain ⟨P, hP⟩ : ∃ P, P = putW w1 (w.heap.size + 1 + 1) 0 [.slice (some ⟨g1, 0, none⟩) n1 n1, .int .i64 nw] := ⟨_, rfl⟩
  have hPE : P = (w1.setCell ⟨w.heap.size + 1 + 1, 0, none⟩ (.slice (some ⟨g1, 0, none⟩) n1 n1)).setCell ⟨w.heap.size + 1 + 1, 1, none⟩ (.int .i64 nw) := hP
  rw [← hP] at HC1 HC2 HC3 HBP HRP HFP
  clear x0 x1 x2
  obtain ⟨x0, x1, x2⟩ := cells3s h1
  obtain ⟨z0, z1, z2⟩ := cells3s h3
  have f0 := h3.free 0
  have f1 := h3.free 1
  obtain ⟨y0, y1, y2⟩ := cells3s HC1.out
  have hs1 : w.heap.size + 1 + 1 < w1.heap.size := h3.lt
  have hsV : w.heap.size ≤ V.heap.size := by omega
  clear hP h1 h2 h3 hB1 hb1 hr1 hf1 HR1 HF1 HB1 HB2 HB3
  go_wp2_with fail
  rw [← hPE]
  clear hPE
  clear x0 x1 x2 z0 z1 z2 f0 f1
  refine Calls.mono (HTT.out _ HBP.out) ?_
  rintro e w2 ⟨v2, rfl, hr2, hb2, hf2, g2, n2, hv2⟩
  subst hv2
  have hr1 : RowE (Plain cint) 1 V.heap.size w2 (.slice (some ⟨g1, 0, none⟩) n1 n1) x.order := HRP.out.below (plain_stays _) hb2
  have hf1 : Free w2 (.slice (some ⟨g1, 0, none⟩) n1 n1) := HFP.out.later (spot_lt HRP.out) hb2
  have h2 : Blk w2 (w.heap.size + 1) 30 [.slice none 0 0, .int .i64 0, .slice none 0 0] := HC2.out.later hb2
  have h3 : Blk w2 (w.heap.size + 1 + 1) 30 [.slice (some ⟨g1, 0, none⟩) n1 n1, .int .i64 nw, .slice none 0 0] := HC3.out.later hb2
  have hB2 : Below w.heap.size w w2 := below_tr HBP.out hb2
  have hsP : w.heap.size ≤ P.heap.size := HBP.out.size
  have HOK : Hid (∃ go no gt nt, Ending.returned (.agg #[.slice (some ⟨g1, 0, none⟩) n1 n1, .int .i64 nw, .slice (some ⟨g2, 0, none⟩) n2 n2]) = .returned (.agg #[.slice (some ⟨go, 0, none⟩) no no, .int .i64 nw, .slice (some ⟨gt, 0, none⟩) nt nt]) ∧ SF w.heap.size (putW (w2.setCell ⟨w.heap.size + 1 + 1, 2, none⟩ (.slice (some ⟨g2, 0, none⟩) n2 n2)) (w.heap.size + 1) 0 [.slice (some ⟨g1, 0, none⟩) n1 n1, .int .i64 nw, .slice (some ⟨g2, 0, none⟩) n2 n2]) (.slice (some ⟨go, 0, none⟩) no no) (.slice (some ⟨gt, 0, none⟩) nt nt) x ∧ Free (putW (w2.setCell ⟨w.heap.size + 1 + 1, 2, none⟩ (.slice (some ⟨g2, 0, none⟩) n2 n2)) (w.heap.size + 1) 0 [.slice (some ⟨g1, 0, none⟩) n1 n1, .int .i64 nw, .slice (some ⟨g2, 0, none⟩) n2 n2]) (.slice (some ⟨go, 0, none⟩) no no) ∧ Free (putW (w2.setCell ⟨w.heap.size + 1 + 1, 2, none⟩ (.slice (some ⟨g2, 0, none⟩) n2 n2)) (w.heap.size + 1) 0 [.slice (some ⟨g1, 0, none⟩) n1 n1, .int .i64 nw, .slice (some ⟨g2, 0, none⟩) n2 n2]) (.slice (some ⟨gt, 0, none⟩) nt nt) ∧ Below w.heap.size w (putW (w2.setCell ⟨w.heap.size + 1 + 1, 2, none⟩ (.slice (some ⟨g2, 0, none⟩) n2 n2)) (w.heap.size + 1) 0 [.slice (some ⟨g1, 0, none⟩) n1 n1, .int .i64 nw, .slice (some ⟨g2, 0, none⟩) n2 n2])) := by
    have k1 : Keep (w.heap.size + 1 + 1 + 1) w2 (putW w2 (w.heap.size + 1 + 1) 2 [.slice (some ⟨g2, 0, none⟩) n2 n2]) := putW_keep _ _ _ _ _ (by omega)
    have k2 : Keep (w.heap.size + 1 + 1 + 1) (putW w2 (w.heap.size + 1 + 1) 2 [.slice (some ⟨g2, 0, none⟩) n2 n2]) (putW (putW w2 (w.heap.size + 1 + 1) 2 [.slice (some ⟨g2, 0, none⟩) n2 n2]) (w.heap.size + 1) 0 [.slice (some ⟨g1, 0, none⟩) n1 n1, .int .i64 nw, .slice (some ⟨g2, 0, none⟩) n2 n2]) := putW_keep _ _ _ _ _ (by omega)
    have hPV : w.heap.size + 1 + 1 < P.heap.size := HC3.out.lt
    refine ⟨_, _, _, _, rfl, ⟨?_, ?_⟩, free_put (free_put hf1 (w.heap.size + 1 + 1) 2 [.slice (some ⟨g2, 0, none⟩) n2 n2]) _ _ _, free_put (free_put hf2 (w.heap.size + 1 + 1) 2 [.slice (some ⟨g2, 0, none⟩) n2 n2]) _ _ _, ?_⟩
    · exact rowE_lowers (plain_lowers _) (rowE_stays (plain_stays _) (rowE_lowers (plain_lowers _) hr1 (by omega)) (k1.trans k2)) (by omega)
    · exact rowE_lowers (plain_lowers _) (rowE_stays (plain_stays _) (rowE_lowers (plain_lowers _) hr2 (by omega)) (k1.trans k2)) (by omega)
    · exact putW_below [.slice (some ⟨g1, 0, none⟩) n1 n1, .int .i64 nw, .slice (some ⟨g2, 0, none⟩) n2 n2] (putW_below [.slice (some ⟨g2, 0, none⟩) n2 n2] hB2 (by omega)) (by omega)
  clear y0 y1 y2
  obtain ⟨y0, y1, y2⟩ := cells3s h3
  have f2 := h3.free 2
  obtain ⟨z0, z1, z2⟩ := cells3s h2
  have d0 := h2.free 0
  have d1 := h2.free 1
  have d2 := h2.free 2
  clear hr1 hf1 hr2 hf2 hB2 h2 h3 hb2
  go_wp2_with fail
  exact bodyPost_ret (v := .agg #[.slice (some ⟨g1, 0, none⟩) n1 n1, .int .i64 nw, .slice (some ⟨g2, 0, none⟩) n2 n2]) (by simp [results, Try.results11, go_sem, z0, z1, z2]) rfl HOK.out
end Go.Proofs.Ytnkkkdhpopfahaa.sch
