/-
  The draw for BuddyOf.
-/
import Derived.Test.YtcokchfedaoccabBuddyDraws4
import Derived.Test.YtcokchfedaoccabBuddyPages
namespace Go.Proofs.Ytcokchfedaoccab.draws
open Go.RowKit Go.Deep Go.Sort Go.Maps
open Go.Proofs.Ytcokchfedaoccab
set_option linter.unusedVariables false

/-- where the draw of pages stands: the source lies at w.heap.size, the row behind it -/
structure Dp (w : World) (x : Option Addr) (len cap : Nat) (v : Value) (ps : List Int) (W : World) : Prop where
  src : IsSrc W w.heap.size x len cap
  byt : Byts W x len w.heap.size
  row : irows.Row W (w.heap.size + 1) v ps
  bel : Below w.heap.size w W
  lt : w.heap.size < W.heap.size
theorem irow_at {w : World} {base : Nat} {v : Value} {ps : List Int} (h : irows.Row w base v ps) : ∀ g, v.ownBlock = some g → base ≤ g ∧ g < w.heap.size := by
  intro g hg
  rcases h.2 with ⟨rfl, _⟩ | ⟨g', cap, cur, rfl, hb, hc, _⟩
  · simp [Value.ownBlock] at hg
  · simp [Value.ownBlock] at hg
    subst hg
    exact ⟨hb, (Array.getElem?_eq_some_iff.1 hc).1⟩
theorem irow_move {w w' : World} {base : Nat} {v : Value} {ps : List Int} (h : irows.Row w base v ps) (hk : ∀ g, base ≤ g → g < w.heap.size → v.ownBlock = some g → w'.heap[g]? = w.heap[g]?) : irows.Row w' base v ps := by
  obtain ⟨hl, hr⟩ := h
  refine ⟨hl, ?_⟩
  rcases hr with h0 | ⟨g, cap, cur, hv, hbg, hc, hrest⟩
  · exact Or.inl h0
  · exact Or.inr ⟨g, cap, cur, hv, hbg, (hk g hbg (Array.getElem?_eq_some_iff.1 hc).1 (by rw [hv]; rfl)).trans hc, hrest⟩
theorem Dp.n {w : World} {x : Option Addr} {len cap : Nat} {v : Value} {ps : List Int} {W W' : World} (h : Dp w x len cap v ps W) (hs : IsSrc W' w.heap.size x len cap) (hg : W.grownBy W' (some w.heap.size)) : Dp w x len cap v ps W' :=
  ⟨hs, h.byt.kept hg, irow_move h.row (fun g hb hl _ => hg.block g hl (by simp; omega)), h.bel.grown hg h.bel.size (fun k e => by simp at e; omega), Nat.lt_of_lt_of_le h.lt hg.size⟩
/-- one more number behind the row -/
theorem Dp.more {w : World} {x : Option Addr} {len cap : Nat} {v v' : Value} {ps qs : List Int} {W W' : World} {o : Obj} (h : Dp w x len cap v ps W) (hr : irows.Row W' (w.heap.size + 1) v' qs) (hg : (W.alloc o).grownBy W' v.ownBlock) : Dp w x len cap v' qs W' := by
  have hlt := h.lt
  have hne : some w.heap.size ≠ v.ownBlock := fun e => by have := (irow_at h.row _ e.symm).1; omega
  have ha : Below W.heap.size W (W.alloc o) := (Below.refl _ _).alloc (Nat.le_refl _) _
  have hb : Below w.heap.size w (W.alloc o) := h.bel.trans (ha.mono h.bel.size)
  have hb2 : Below w.heap.size w W' := hb.grown hg hb.size (fun k e => by have := (irow_at h.row _ e).1; omega)
  have hs : IsSrc (W.alloc o) w.heap.size x len cap := IsSrc.other h.src (World.grownBy_alloc _ _ none) hlt (by simp)
  exact ⟨IsSrc.other hs hg (by simp; omega) (fun e => hne e.symm), (h.byt.below ha (by omega)).below (Below.mono (show Below w.heap.size (W.alloc o) W' from ⟨hg.os, hg.tape, hg.output, hg.size, fun k hk => hg.block k (by simp; omega) (fun e => by have := (irow_at h.row _ e.symm).1; omega)⟩) (Nat.le_refl _)) (Nat.le_refl _), hr, hb2, Nat.lt_of_lt_of_le (by simp; omega) hg.size⟩
theorem Dp.fresh {w : World} {x : Option Addr} {len cap : Nat} {v v' : Value} {ps qs : List Int} {W W' : World} {o : Obj} (h : Dp w x len cap v ps W) (hr : irows.Row W' (w.heap.size + 1) v' qs) (hg : (W.alloc o).grownBy W' (some W.heap.size)) : Dp w x len cap v' qs W' := by
  have hlt := h.lt
  have hb : Below W.heap.size W W' := ⟨hg.os, hg.tape, hg.output, Nat.le_trans (by simp) hg.size, fun k hk => (hg.block k (by simp; omega) (by simp; omega)).trans ((World.grownBy_alloc W o none).block k hk (by simp))⟩
  exact ⟨IsSrc.other h.src (bspec.grown_of_below hb none) hlt (by simp), h.byt.below hb (by omega), hr, h.bel.trans (hb.mono h.bel.size), Nat.lt_of_lt_of_le hlt hb.size⟩
theorem one_irow (w : World) (q : Int) : irows.Row (w.alloc (.cells #[.int .i64 q] 2)) w.heap.size (.slice (some ⟨w.heap.size, 0, none⟩) 1 1) [q] :=
  ⟨by simp, Or.inr ⟨w.heap.size, 1, #[.int .i64 q], rfl, Nat.le_refl _, (MapKept.heap_alloc w _).1, by simp, by unfold maxLen; omega, by simp, by simp⟩⟩
theorem irow_cells {w : World} {base g c n : Nat} {ps : List Int} (h : irows.Row w base (.slice (some ⟨g, 0, none⟩) n c) ps) : ∀ j u, (ps.map (Value.int .i64))[j]? = some u → w.cell? ((⟨g, 0, none⟩ : Addr).add j) = some u := by
  intro j u hu
  have hj : j < ps.length := by
    have := (List.getElem?_eq_some_iff.1 hu).1
    simpa using this
  rw [bspec.add_at, Nat.zero_add, (irows.Row.cells h).1 j hj]
  rw [List.getElem?_map, List.getElem?_eq_getElem hj] at hu
  exact hu
/-- what DrawBuddyOf leaves -/
def DOf (w : World) (e : Ending) (w' : World) : Prop := ∃ (o : Int) (v : Value) (ps : List Int), e = .returned (.tuple #[.int .i64 o, v]) ∧ ps.length ≤ 40 ∧ irows.Row w' w.heap.size v ps ∧ Below w.heap.size w w'
theorem Dp.fin {w : World} {x : Option Addr} {len cap : Nat} {v : Value} {ps : List Int} {W : World} (h : Dp w x len cap v ps W) (o : Int) (hl : ps.length ≤ 40) : DOf w (.returned (.tuple #[.int .i64 o, v])) W :=
  ⟨o, v, ps, rfl, hl, bspec.own_mono h.row (by omega), h.bel⟩
theorem irow_snoc {w : World} {base : Nat} {v : Value} {ps : List Int} {q : Int} (h : w.ownsRow base 2 1 v (ps.length + 1) (ps.map (Value.int .i64) ++ [.int .i64 q])) : irows.Row w base v (ps ++ [q]) := by
  have e1 : (ps ++ [q]).length = ps.length + 1 := by simp
  have e2 : (ps ++ [q]).map (Value.int .i64) = ps.map (Value.int .i64) ++ [.int .i64 q] := by simp
  rw [irows.Row, e1, e2]; exact h

set_option maxRecDepth 100000 in
set_option maxHeartbeats 4000000 in
theorem drawBuddyOf (x : Option Addr) (len cap : Nat) (w : World) (hby : Byts w x len w.heap.size) :
    Calls Try.prog 14 #[.slice x len cap] w (DOf w) := by
  have HC : Hid _ := source_any x len cap w hby
  have HY : Hid (Byts w x len w.heap.size) := hby
  obtain ⟨i0, hi, hz0, hz1, hz2⟩ := info_parts bspec.info_i64
  clear hby
  have HN : Hid (∀ (most : Int) (v : Value) (ps : List Int) W, most ≤ 100 → Dp w x len cap v ps W → Calls Try.prog 38 #[.pointer (some ⟨w.heap.size, 0, none⟩), .int .i64 most] W (NPost w.heap.size x len cap most W)) := fun most v ps W hm hW => n_any _ x len cap W most hW.src hW.byt (by omega)
  have HO : Hid (∀ (most : Int) (v : Value) (ps : List Int) W, most ≤ 100 → Dp w x len cap v ps W → Calls Try.prog 42 #[.pointer (some ⟨w.heap.size, 0, none⟩), .int .i64 most] W (OPost w.heap.size x len cap W)) := fun most v ps W hm hW => one_any _ x len cap W most hW.src hW.byt (by omega)
  go_enter Try.func14, Try.ntmps14
  go_wp2_with fail
  refine Calls.mono HC.out ?_
  rintro e w1 ⟨rfl, hs1, hb1, hzz1⟩
  have HB1 : Hid (Below w.heap.size w w1) := hb1
  have HY1 : Hid (Byts w1 x len w.heap.size) := HY.out.below hb1 (Nat.le_refl _)
  have HN1 : Hid _ := n_any w.heap.size x len cap w1 6 hs1 HY1.out (by omega)
  clear hs1 hb1 HC HY
  go_wp2_with fail
  refine Calls.mono HN1.out ?_
  rintro e w2 ⟨q, rfl, hq0, hq, hs2, hg2⟩
  obtain ⟨n, rfl⟩ := Int.eq_ofNat_of_zero_le hq0
  have hn5 : n ≤ 5 := by omega
  have hlt2 : w.heap.size < w2.heap.size := Nat.lt_of_lt_of_le hzz1 hg2.size
  have HB2 : Hid (Below w.heap.size w w2) := HB1.out.grown hg2 (Nat.le_of_lt hzz1) (fun k e => by simp at e; omega)
  have HY2 : Hid (Byts w2 x len w.heap.size) := HY1.out.kept hg2
  have HS2 : Hid (IsSrc w2 w.heap.size x len cap) := hs2
  have hp32 := bd.pow_le32 hn5
  have HSZ : Hid (∀ W, _) := fun W => bspec.spec_size n hn5 W
  obtain ⟨s, hs⟩ : ∃ s, s = 2 ^ n := ⟨_, rfl⟩
  rw [← hs] at hp32
  simp only [← hs] at HSZ
  clear hs hs2 hg2 HN1 hq HB1 HY1 hq0
  have HDP : Hid (Dp w x len cap (.slice (some ⟨w2.heap.size, 0, none⟩) 0 0) [] (w2.alloc (.cells #[] 2))) := by
    have ha : Below w2.heap.size w2 (w2.alloc (.cells #[] 2)) := (Below.refl _ _).alloc (Nat.le_refl _) _
    refine ⟨IsSrc.other HS2.out (World.grownBy_alloc _ _ none) hlt2 (by simp), HY2.out.below ha (by omega), ?_, HB2.out.trans (ha.mono HB2.out.size), by simp; omega⟩
    have := World.ownsRow_made (base := w.heap.size + 1) (e := 2) (size := 1) w2 #[] 0 hlt2 (by unfold maxLen; omega) rfl
    simpa [irows.Row] using this
  clear HB2 HY2 HS2
  go_wp2_with fail
  go_loopw [6, 7] (fun t6 t7 wr => ∃ (p : Nat) (ps : List Int), t7 = .int .i64 p ∧ p ≤ s ∧ ps.length ≤ p ∧ Hid (Dp w x len cap t6 ps wr)) (fun _ t7 _ => s - (intOf t7).toNat)
  case atStart => exact ⟨0, [], rfl, by omega, by simp, HDP.out⟩
  case round =>
    obtain ⟨p, ps, rfl, hp, hl, HD⟩ := hrel
    clear HDP
    by_cases hps : p < s
    · go_wp2_with (first | (go_at_call 46; refine Calls.mono (HSZ.out _) ?_; rintro e w' ⟨rfl, rfl⟩))
      refine Calls.mono (HO.out 3 _ _ _ (by omega) HD.out) ?_
      rintro e w3 ⟨t, rfl, hs3, hg3⟩
      have HD3 : Hid (Dp w x len cap u6 ps w3) := HD.out.n hs3 hg3
      clear hs3 hg3
      cases t with
      | true =>
        go_wp2_with fail
        go_roundw
        case rel => exact ⟨p + 1, ps, by go_num, by omega, by omega, HD3.out⟩
        case measure => simp [intOf]; omega
      | false =>
        go_wp2_with (at_builtin; refine wpList_append_own_at _ rfl _ _ 42 rfl (w.heap.size + 1) 2 i0 (.int .i64 0) 1 8 Try.underlying42 hi hz0 hz1 hz2 rfl (by decide) _ _ _ rfl (World.ownsRow.alloc HD3.out.row _) ⟨w3.heap.size, 0, none⟩ 1 1 [.int .i64 p] rfl rfl (cell_one_new _ _ _) (fun u hu => by simp at hu; subst hu; rfl) (by unfold maxLen; omega) (by omega) (by have := HD3.out.lt; simp; omega) ?_)
        intro v4 w4 own4 gr4 _ _
        have HD4 : Hid (Dp w x len cap v4 (ps ++ [(p : Int)]) w4) := HD3.out.more (irow_snoc own4) gr4
        clear own4 gr4
        go_wp2_with fail
        go_roundw
        case rel => exact ⟨p + 1, ps ++ [(p : Int)], by go_num, by omega, by simp; omega, HD4.out⟩
        case measure => simp [intOf]; omega
    · obtain rfl : p = s := by omega
      go_wp2_with (first | (go_at_call 46; refine Calls.mono (HSZ.out _) ?_; rintro e w' ⟨rfl, rfl⟩))
      refine Calls.mono (HO.out 12 _ _ _ (by omega) HD.out) ?_
      rintro e w3 ⟨t, rfl, hs3, hg3⟩
      have HD3 : Hid (Dp w x len cap u6 ps w3) := HD.out.n hs3 hg3
      clear hs3 hg3 HD
      cases t with
      | false =>
        go_wp2_with fail
        go_ret2
        exact HD3.out.fin _ (by omega)
      | true =>
        go_wp2_with fail
        refine Calls.mono (HN.out 3 _ _ _ (by omega) HD3.out) ?_
        rintro e w4 ⟨c, rfl, hc0, hc, hs4, hg4⟩
        have HD4 : Hid (Dp w x len cap u6 ps w4) := HD3.out.n hs4 hg4
        clear hs4 hg4 HD3
        have hc3 : c = 0 ∨ c = 1 ∨ c = 2 := by omega
        clear hc0 hc
        rcases hc3 with rfl | rfl | rfl
        · go_wp2_with fail
          refine Calls.mono (HN.out 40 _ _ _ (by omega) HD4.out) ?_
          rintro e w5 ⟨q5, rfl, _, _, hs5, hg5⟩
          have HD5 : Hid (Dp w x len cap u6 ps w5) := HD4.out.n hs5 hg5
          clear hs5 hg5 HD4
          go_wp2_with (at_builtin; refine wpList_append_own_at _ rfl _ _ 42 rfl (w.heap.size + 1) 2 i0 (.int .i64 0) 1 8 Try.underlying42 hi hz0 hz1 hz2 rfl (by decide) _ _ _ rfl (World.ownsRow.alloc HD5.out.row _) ⟨w5.heap.size, 0, none⟩ 1 1 [.int .i64 q5] rfl rfl (cell_one_new _ _ _) (fun u hu => by simp at hu; subst hu; rfl) (by unfold maxLen; omega) (by omega) (by have := HD5.out.lt; simp; omega) ?_)
          intro v6 w6 own6 gr6 _ _
          have HD6 : Hid (Dp w x len cap v6 (ps ++ [q5]) w6) := HD5.out.more (irow_snoc own6) gr6
          clear own6 gr6
          go_wp2_with fail
          go_ret2
          exact HD6.out.fin _ (by simp; omega)
        · go_wp2_with fail
          refine Calls.mono (HN.out 8 _ _ _ (by omega) HD4.out) ?_
          rintro e w5 ⟨q5, rfl, _, _, hs5, hg5⟩
          have HD5 : Hid (Dp w x len cap u6 ps w5) := HD4.out.n hs5 hg5
          clear hs5 hg5 HD4
          go_wp2_with fail
          go_ret2
          exact HD5.out.fin _ (by omega)
        · go_wp2_with fail
          refine Calls.mono (HN.out 40 _ _ _ (by omega) HD4.out) ?_
          rintro e w5 ⟨q5, rfl, hq50, hq5, hs5, hg5⟩
          have HD5 : Hid (Dp w x len cap u6 ps w5) := HD4.out.n hs5 hg5
          have hq40 : q5 ≤ 40 := by omega
          clear hs5 hg5 HD4 hq5
          obtain ⟨a5, c5, hv5⟩ := HD5.out.row.form
          obtain ⟨LP, hLP⟩ : ∃ L, L = ps.length := ⟨_, rfl⟩
          rw [← hLP] at hv5
          have HLP : Hid (LP = ps.length) := hLP
          have hLP32 : LP ≤ 32 := by omega
          subst hv5
          clear hLP hl
          have hlt5 := HD5.out.lt
          have HR5 : Hid (irows.Row (w5.alloc (.cells #[.int .i64 (q5 - 1)] 2)) (w.heap.size + 1) (.slice (some ⟨w5.heap.size, 0, none⟩) 1 1) [q5 - 1]) := bspec.own_mono (one_irow w5 (q5 - 1)) hlt5
          by_cases h0 : LP = 0
          · subst h0
            have HD6 : Hid (Dp w x len cap (.slice (some ⟨w5.heap.size, 0, none⟩) 1 1) [q5 - 1] (w5.alloc (.cells #[.int .i64 (q5 - 1)] 2))) := HD5.out.fresh HR5.out (World.grownBy.refl _ _)
            cases a5
            all_goals
              go_wp2_with fail
              go_ret2
              exact HD6.out.fin _ (by simp)
          · obtain ⟨g, rfl⟩ : ∃ g, a5 = some ⟨g, 0, none⟩ := by
              obtain ⟨g, c', e, _⟩ := HD5.out.row.at (by have := HLP.out; omega)
              injection e with e _ _
              exact ⟨g, e⟩
            have HC5 : Hid (∀ j u, (ps.map (Value.int .i64))[j]? = some u → (w5.alloc (.cells #[.int .i64 (q5 - 1)] 2)).cell? ((⟨g, 0, none⟩ : Addr).add j) = some u) := irow_cells (HD5.out.row.later ((Below.refl _ _).alloc (Nat.le_refl _) _))
            have HCL : Hid ((ps.map (Value.int .i64)).length = LP * 1) := by rw [Hid, List.length_map, HLP.out]; omega
            have hLP0 : 0 < LP := by omega
            go_wp2_with (at_builtin; refine wpList_append_own_at _ rfl _ _ 42 rfl (w.heap.size + 1) 2 i0 (.int .i64 0) 1 8 Try.underlying42 hi hz0 hz1 hz2 rfl (by decide) _ 1 _ rfl HR5.out ⟨g, 0, none⟩ LP c5 (ps.map (Value.int .i64)) rfl HCL.out HC5.out (fun u hu => by obtain ⟨z, _, rfl⟩ := List.mem_map.1 hu; rfl) (by unfold maxLen; omega) (by omega) (by simp; omega) ?_)
            intro v6 w6 own6 gr6 _ _
            have HR6 : Hid (irows.Row w6 (w.heap.size + 1) v6 ((q5 - 1) :: ps)) := by
              have e1 : ((q5 - 1) :: ps).length = 1 + LP := by rw [List.length_cons, HLP.out]; omega
              rw [Hid, irows.Row, e1]; exact own6
            have HD6 : Hid (Dp w x len cap v6 ((q5 - 1) :: ps) w6) := HD5.out.fresh HR6.out gr6
            have HL6 : Hid (((q5 - 1) :: ps).length ≤ 40) := by have := HLP.out; show ((q5 - 1) :: ps).length ≤ 40; simp; omega
            clear own6 gr6
            go_wp2_with fail
            go_ret2
            exact HD6.out.fin _ HL6.out
end Go.Proofs.Ytcokchfedaoccab.draws
