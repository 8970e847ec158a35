/-
  The specification's Kept at every two lists and every label. No condition but how many handles there are.
-/
import Derived.Test.YtpehmphcnimegaaKeptP
import Derived.Deep.AppendLies
import Derived.Deep.CutRange
namespace Go.Proofs.Ytpehmphcnimegaa.deep
open Go.RowKit Go.Deep Go.Sort
set_option linter.unusedVariables false
set_option maxRecDepth 100000

def pw (lb : Int) : Tcl → Bool := fun x => label.flo x.q0 lb
/-- what the specification's Kept leaves -/
def KeptS (lb : Int) (xs : List Tcl) (rs : List RepD) (w : World) (e : Ending) (w' : World) : Prop :=
  ∃ v', e = .returned v' ∧ RowE RepE 6 w.heap.size w' v' (kept2 (pw lb) xs rs) ∧ Below w.heap.size w w'

theorem grown_one {W w4 : World} {t : Nat} (gr : (W.alloc (.cells #[] t)).grownBy w4 (Value.slice (some ⟨W.heap.size, 0, none⟩) 0 0).ownBlock) : Below W.heap.size W w4 :=
  (below_one W (.cells #[] t)).grown gr (by simp) (fun k e => by simp [Value.ownBlock] at e; omega)
theorem spot_none_own {lo : Nat} {W : World} {u : Value} {v : Value} {hs : List Thd} (hv : RowE (Plain chd) 3 lo W v hs) (hu : ∀ g, u.ownBlock = some g → g < lo) : ∀ g o, spotOf v = some (g, o) → 0 < lenOf v → u.ownBlock ≠ some g := fun g o h1 h2 e => by
  have h3 := (row_spot hv g o h1 h2).1
  have h4 := hu g e
  omega
theorem own_in {g cap n : Nat} {u : Value} {H : Nat} (hat : u.ownBlock = some g ∨ g = H) {W : World} (hH : W.heap.size = H) : ∀ x, (Value.slice (some ⟨g, 0, none⟩) n cap).ownBlock = some x → u.ownBlock = some x ∨ W.heap.size ≤ x := fun x hx => by
  simp [Value.ownBlock] at hx
  subst hx
  rcases hat with h | h
  · exact .inl h
  · exact .inr (by omega)

/-- a reply with a list of its own, put behind the others -/
theorem kept_push {base : Nat} {w W w9 : World} {o : Obj} {u val : Value} {css : List (List Value)} {ys : List RepD} {x : RepD} {L g9 c9 : Nat} (h : Gath base base W u css ys) (hv : RowE (Plain chd) 3 L W val x.hs) (hu : ∀ g, u.ownBlock = some g → g < L) (hb : Below base w W)
    (h1 : w9.ownsRow base 58 6 (.slice (some ⟨g9, 0, none⟩) (css.length + 1) c9) (css.length + 1) (css.flatten ++ rcells x val)) (hg : (W.alloc o).grownBy w9 u.ownBlock) (hat : u.ownBlock = some g9 ∨ g9 = (W.alloc o).heap.size) (hL : base ≤ L) (hbw : base ≤ w.heap.size) :
    Gath base base w9 (.slice (some ⟨g9, 0, none⟩) (css.length + 1) c9) (css ++ [rcells x val]) (ys ++ [x]) ∧ Below base w w9 := by
  have hs := hb.size
  refine ⟨(h.later (below_one W o)).push (rowE_lowers (plain_lowers _) (hv.below (plain_stays _) (below_one W o)) hL) (spot_none_own hv hu) h1 hg (own_in hat rfl), ?_⟩
  exact (hb.alloc (Nat.le_trans hbw hb.size) o).grown hg (by simp; omega) (fun k hk => h.own.own_ge k hk)

set_option maxHeartbeats 8000000 in
theorem sp_kept (lb : Int) {lo lo2 : Nat} {w : World} {v v2 : Value} {xs : List Tcl} {rs : List RepD} (h : RowE (Plain ccl) 9 lo w v xs) (h2 : RowE RepE 6 lo2 w v2 rs) (hbk : bulkR rs ≤ 1048576) : Calls Try.prog 13 #[v, v2, .int .i64 lb] w (KeptS lb xs rs w) := by
  obtain ⟨a, c, rfl, hml, h3⟩ := h
  obtain ⟨a', c', rfl, hml', h3'⟩ := h2
  obtain ⟨i0, hi, hz0, hz1, hz2⟩ := info_parts info_rep
  obtain ⟨k0, hk, hy0, hy1, hy2⟩ := info_parts info_hd
  have HF : Hid (∀ q W, Calls Try.prog 19 #[.int .i64 q, .int .i64 lb] W fun e w' => e = .returned (.bool (label.flo q lb)) ∧ w' = W) := fun q W => label.spec_flows q lb W
  obtain ⟨n, hx⟩ : ∃ n, n = xs.length := ⟨_, rfl⟩
  obtain ⟨m, hm⟩ : ∃ n, n = rs.length := ⟨_, rfl⟩
  have H3 : Hid (0 < xs.length → ∃ g o, a = some ⟨g, o, none⟩ ∧ g < w.heap.size ∧ ∀ i (hi : i < xs.length), w.cell? ⟨g, o + i * 9, none⟩ = some (.int .i64 xs[i].q0)) := fun h0 => by
    obtain ⟨g, o, ha, _, hg, hc⟩ := h3 h0
    refine ⟨g, o, ha, hg, fun i hi => ?_⟩
    obtain ⟨cs, _, hcc, rfl⟩ := hc i hi
    exact hcc 0 (by decide)
  have H4 : Hid (0 < rs.length → ∃ g o, a' = some ⟨g, o, none⟩ ∧ lo2 ≤ g ∧ g < w.heap.size ∧ ∀ i (hi : i < rs.length), ∃ cs : List Value, cs.length = 6 ∧ (∀ j, j < 6 → w.cell? ⟨g, o + i * 6 + j, none⟩ = cs[j]?) ∧ RepE lo2 w cs rs[i]) := h3'
  have HX : Hid (n = xs.length) := hx
  have HM : Hid (m = rs.length) := hm
  have HBK : Hid (∀ x ∈ rs, x.hs.length ≤ 1048576) := rep_bulk hbk
  have hnm : n ≤ maxLen := by rw [hx]; exact hml
  have hmm : m ≤ maxLen := by rw [hm]; exact hml'
  unfold maxLen at hnm hmm
  rw [← hx, ← hm]
  clear h3 hx hml h3' hm hml' hbk
  have HO : Hid (Gath w.heap.size w.heap.size (w.alloc (.cells #[] 58)) (.slice (some ⟨w.heap.size, 0, none⟩) 0 0) [] (kept2J (pw lb) xs rs 0)) := ⟨⟨by simp, World.ownsRow_made w #[] 0 (Nat.le_refl _) (by unfold maxLen; omega) rfl⟩, rfl, fun i hi => by simp [kept2J_zero] at hi⟩
  have HB : Hid (Below w.heap.size w (w.alloc (.cells #[] 58))) := below_one _ _
  by_cases hok : n ≤ 400 ∧ n = m
  · obtain ⟨hn4, rfl⟩ := hok
    go_enter Try.func13, Try.ntmps13
    go_wp2_with fail
    go_loopw [7, 8] (fun u i wr => ∃ (j : Nat) (css : List (List Value)), j ≤ n ∧ i = .int .i64 j ∧ Hid (Gath w.heap.size w.heap.size wr u css (kept2J (pw lb) xs rs j)) ∧ Hid (Below w.heap.size w wr)) (fun _ i _ => n - (intOf i).toNat)
    case atStart => exact ⟨0, [], by omega, rfl, HO.out, HB.out⟩
    case round =>
      obtain ⟨j, css, hj, rfl, HR, HW⟩ := hrel
      clear HO HB
      by_cases hlt : j < n
      · have hlx : j < xs.length := by rw [← HX.out]; exact hlt
        have hlr : j < rs.length := by rw [← HM.out]; exact hlt
        obtain ⟨g, o, rfl, hg, hc⟩ := H3.out (by omega)
        obtain ⟨g', o', rfl, _, hg', hc3⟩ := H4.out (by omega)
        obtain ⟨vh, hl, hcr⟩ := rep_at (hc3 j hlr)
        have e0 : wr.cell? ⟨g, o + j * 9, none⟩ = some (.int .i64 xs[j].q0) := (HW.out.cell (p := ⟨g, o + j * 9, none⟩) hg).trans (hc j hlx)
        have HY : Hid (label.flo xs[j].q0 lb = true → kept2J (pw lb) xs rs (j + 1) = kept2J (pw lb) xs rs j ++ [rs[j]]) := fun hp => kept2J_yes (p := pw lb) hlx hlr hp
        have HN : Hid (label.flo xs[j].q0 lb = false → kept2J (pw lb) xs rs (j + 1) = kept2J (pw lb) xs rs j) := fun hp => kept2J_no (p := pw lb) hlx hlr hp
        have HCL : Hid (css.length ≤ 400) := by have h1 := HR.out.len; have h2 := kept2J_le (pw lb) xs rs j; show _ ≤ _; omega
        have hxl := HBK.out rs[j] (List.getElem_mem _)
        clear hc hc3
        generalize xs[j].q0 = p0 at *
        generalize rs[j] = x at *
        obtain ⟨q0, q1, q2, q3, q4, hs⟩ := x
        simp only at hl hxl
        have HL : Hid (RowE (Plain chd) 3 lo2 wr vh hs) := hl.below (plain_stays _) HW.out
        obtain ⟨ah, ch, qh, _⟩ := hl.form
        obtain ⟨b, hb⟩ : ∃ b, b = hs.length := ⟨_, rfl⟩
        rw [← hb] at qh
        have HBL : Hid (b = hs.length) := hb
        have hb1 : b ≤ 1048576 := by omega
        clear hb hl hxl
        subst qh
        have r0 : wr.cell? ⟨g', o' + j * 6, none⟩ = some (.int .i64 q0) := (HW.out.cell (p := ⟨g', o' + j * 6, none⟩) hg').trans (hcr 0 (by decide))
        have r1 : wr.cell? ⟨g', o' + j * 6 + 1, none⟩ = some (.int .i64 q1) := (HW.out.cell (p := ⟨g', o' + j * 6 + 1, none⟩) hg').trans (hcr 1 (by decide))
        have r2 : wr.cell? ⟨g', o' + j * 6 + 2, none⟩ = some (.int .i64 q2) := (HW.out.cell (p := ⟨g', o' + j * 6 + 2, none⟩) hg').trans (hcr 2 (by decide))
        have r3 : wr.cell? ⟨g', o' + j * 6 + 3, none⟩ = some (.int .i64 q3) := (HW.out.cell (p := ⟨g', o' + j * 6 + 3, none⟩) hg').trans (hcr 3 (by decide))
        have r4 : wr.cell? ⟨g', o' + j * 6 + 4, none⟩ = some (.int .i64 q4) := (HW.out.cell (p := ⟨g', o' + j * 6 + 4, none⟩) hg').trans (hcr 4 (by decide))
        have r5 : wr.cell? ⟨g', o' + j * 6 + 5, none⟩ = some (.slice ah b ch) := (HW.out.cell (p := ⟨g', o' + j * 6 + 5, none⟩) hg').trans (hcr 5 (by decide))
        clear hcr
        go_wp2_with fail
        refine Calls.mono (HF.out _ _) ?_
        rintro e w2 ⟨rfl, rfl⟩
        have hs0 := HW.out.size
        cases hfl : label.flo p0 lb with
        | false =>
          have HN2 : Hid _ := HN.out hfl
          clear HY
          go_wp2_with fail
          go_roundw
          case rel => exact ⟨j + 1, css, by omega, by go_num, by rw [HN2.out]; exact HR.out, HW.out⟩
          case measure => simp [intOf]; omega
        | true =>
          have HY2 : Hid _ := HY.out hfl
          clear HY HN
          obtain ⟨W1, hW1⟩ : ∃ W, W = w2.alloc (.cells #[.int .i64 q0, .int .i64 q1, .int .i64 q2, .int .i64 q3, .int .i64 q4, .slice ah b ch] 58) := ⟨_, rfl⟩
          have HX1 : Hid (Blk W1 w2.heap.size 58 [.int .i64 q0, .int .i64 q1, .int .i64 q2, .int .i64 q3, .int .i64 q4, .slice ah b ch]) := by rw [hW1]; exact blk_new w2 _ _
          have HS1 : Hid (W1.heap.size = w2.heap.size + 1) := by rw [hW1]; simp [Hid]
          have HB1 : Hid (Below w2.heap.size w2 W1) := by rw [hW1]; exact below_one _ _
          have HL1 : Hid (RowE (Plain chd) 3 lo2 W1 (.slice ah b ch) hs) := HL.out.below (plain_stays _) HB1.out
          clear HL
          go_upto_region 7 with fail
          rw [← hW1]
          clear hW1
          obtain ⟨c0, c1, c2, c3, c4, c5⟩ := six HX1.out
          obtain ⟨f0, f1, f2, f3, f4, f5⟩ := six_free HX1.out
          have hxl : w2.heap.size < W1.heap.size := HX1.out.lt
          by_cases hb0 : b = 0
          · subst hb0
            obtain ⟨W3, hW3⟩ : ∃ W, W = (W1.setCell ⟨w2.heap.size, 5, none⟩ (.slice (some ⟨W1.heap.size, 0, none⟩) 0 0)).alloc (.cells #[] 55) := ⟨_, rfl⟩
            cases ah with
            | none =>
              go_upto_region 8 with fail
              have HB3 : Hid (Below w2.heap.size w2 W3) := by rw [hW3]; exact below_tr (HB1.out.setCell (Nat.le_refl _) _) (below_one _ _)
              have HX3 : Hid (Blk W3 w2.heap.size 58 [.int .i64 q0, .int .i64 q1, .int .i64 q2, .int .i64 q3, .int .i64 q4, .slice (some ⟨W1.heap.size, 0, none⟩) 0 0]) := by rw [hW3]; exact Blk.later (HX1.out.put [.slice (some ⟨W1.heap.size, 0, none⟩) 0 0] 5) (below_one _ _)
              have HL3 : Hid (RowE (Plain chd) 3 (w2.heap.size + 1) W3 (.slice (some ⟨W1.heap.size, 0, none⟩) 0 0) hs) := ⟨_, 0, by rw [← HBL.out], by rw [← HBL.out]; exact Nat.zero_le _, fun h => by rw [← HBL.out] at h; omega⟩
              have HR3 : Hid (Gath w.heap.size w.heap.size W3 u7 css (kept2J (pw lb) xs rs j)) := HR.out.later HB3.out
              have HW3 : Hid (Below w.heap.size w W3) := below_tr HW.out HB3.out
              have HU : Hid (∀ g, u7.ownBlock = some g → g < w2.heap.size + 1) := fun g hg => Nat.lt_succ_of_lt (World.ownsRow.lt HR.out.own.row g hg).2
              have hs3 := HB3.out.size
              have b4 : css.length + 1 ≤ maxLen := by have := HCL.out; unfold maxLen; omega
              have b5 : (css.length + 1) * 64 ≤ 140737488355328 := by have := HCL.out; omega
              have b6 : w.heap.size ≤ W3.heap.size + 1 := by omega
              have b7 : w.heap.size ≤ w2.heap.size + 1 := by omega
              have B4 : Hid (css.length + 1 ≤ maxLen) := b4
              have B5 : Hid ((css.length + 1) * 64 ≤ 140737488355328) := b5
              have B6 : Hid (w.heap.size ≤ W3.heap.size + 1) := b6
              have B7 : Hid (w.heap.size ≤ w2.heap.size + 1) := b7
              clear b4 b5 b6 b7
              clear HR HW HB3 HL1 HX1 HB1
              rw [← hW3]
              clear hW3
              obtain ⟨c0, c1, c2, c3, c4, c5⟩ := six HX3.out
              go_wp2_with (at_builtin; refine wpList_append_lies _ rfl _ _ 32 rfl w.heap.size 58 i0 (.agg #[.int .i64 0, .int .i64 0, .int .i64 0, .int .i64 0, .int .i64 0, .slice none 0 0]) 6 64 Try.underlying32 hi hz0 hz1 hz2 rfl (by decide) _ _ _ rfl (HR3.out.own.row.alloc _) ⟨W3.heap.size, 0, none⟩ 1 1 (rcells ⟨q0, q1, q2, q3, q4, hs⟩ (.slice (some ⟨W1.heap.size, 0, none⟩) 0 0)) rfl rfl (new_cells W3 _ _) (rcells_one _) (by decide) B4.out B5.out (by simp; exact B6.out) _ rfl ?_; intro g9 c9 w9 hown hgrow hat _; have HQ : Hid (Gath w.heap.size w.heap.size w9 (.slice (some ⟨g9, 0, none⟩) (css.length + 1) c9) (css ++ [rcells ⟨q0, q1, q2, q3, q4, hs⟩ (.slice (some ⟨W1.heap.size, 0, none⟩) 0 0)]) (kept2J (pw lb) xs rs (j + 1)) ∧ Below w.heap.size w w9) := (by rw [HY2.out]; exact kept_push HR3.out HL3.out HU.out HW3.out hown hgrow hat B7.out (Nat.le_refl _)); clear hown hgrow hat)
              go_roundw
              case rel => exact ⟨j + 1, _, by omega, by go_num, HQ.out.1, HQ.out.2⟩
              case measure => simp [intOf]; omega
            | some ad =>
              go_upto_region 8 with fail
              have HB3 : Hid (Below w2.heap.size w2 W3) := by rw [hW3]; exact below_tr (HB1.out.setCell (Nat.le_refl _) _) (below_one _ _)
              have HX3 : Hid (Blk W3 w2.heap.size 58 [.int .i64 q0, .int .i64 q1, .int .i64 q2, .int .i64 q3, .int .i64 q4, .slice (some ⟨W1.heap.size, 0, none⟩) 0 0]) := by rw [hW3]; exact Blk.later (HX1.out.put [.slice (some ⟨W1.heap.size, 0, none⟩) 0 0] 5) (below_one _ _)
              have HL3 : Hid (RowE (Plain chd) 3 (w2.heap.size + 1) W3 (.slice (some ⟨W1.heap.size, 0, none⟩) 0 0) hs) := ⟨_, 0, by rw [← HBL.out], by rw [← HBL.out]; exact Nat.zero_le _, fun h => by rw [← HBL.out] at h; omega⟩
              have HR3 : Hid (Gath w.heap.size w.heap.size W3 u7 css (kept2J (pw lb) xs rs j)) := HR.out.later HB3.out
              have HW3 : Hid (Below w.heap.size w W3) := below_tr HW.out HB3.out
              have HU : Hid (∀ g, u7.ownBlock = some g → g < w2.heap.size + 1) := fun g hg => Nat.lt_succ_of_lt (World.ownsRow.lt HR.out.own.row g hg).2
              have hs3 := HB3.out.size
              have b4 : css.length + 1 ≤ maxLen := by have := HCL.out; unfold maxLen; omega
              have b5 : (css.length + 1) * 64 ≤ 140737488355328 := by have := HCL.out; omega
              have b6 : w.heap.size ≤ W3.heap.size + 1 := by omega
              have b7 : w.heap.size ≤ w2.heap.size + 1 := by omega
              have B4 : Hid (css.length + 1 ≤ maxLen) := b4
              have B5 : Hid ((css.length + 1) * 64 ≤ 140737488355328) := b5
              have B6 : Hid (w.heap.size ≤ W3.heap.size + 1) := b6
              have B7 : Hid (w.heap.size ≤ w2.heap.size + 1) := b7
              clear b4 b5 b6 b7
              clear HR HW HB3 HL1 HX1 HB1
              rw [← hW3]
              clear hW3
              obtain ⟨c0, c1, c2, c3, c4, c5⟩ := six HX3.out
              go_wp2_with (at_builtin; refine wpList_append_lies _ rfl _ _ 32 rfl w.heap.size 58 i0 (.agg #[.int .i64 0, .int .i64 0, .int .i64 0, .int .i64 0, .int .i64 0, .slice none 0 0]) 6 64 Try.underlying32 hi hz0 hz1 hz2 rfl (by decide) _ _ _ rfl (HR3.out.own.row.alloc _) ⟨W3.heap.size, 0, none⟩ 1 1 (rcells ⟨q0, q1, q2, q3, q4, hs⟩ (.slice (some ⟨W1.heap.size, 0, none⟩) 0 0)) rfl rfl (new_cells W3 _ _) (rcells_one _) (by decide) B4.out B5.out (by simp; exact B6.out) _ rfl ?_; intro g9 c9 w9 hown hgrow hat _; have HQ : Hid (Gath w.heap.size w.heap.size w9 (.slice (some ⟨g9, 0, none⟩) (css.length + 1) c9) (css ++ [rcells ⟨q0, q1, q2, q3, q4, hs⟩ (.slice (some ⟨W1.heap.size, 0, none⟩) 0 0)]) (kept2J (pw lb) xs rs (j + 1)) ∧ Below w.heap.size w w9) := (by rw [HY2.out]; exact kept_push HR3.out HL3.out HU.out HW3.out hown hgrow hat B7.out (Nat.le_refl _)); clear hown hgrow hat)
              go_roundw
              case rel => exact ⟨j + 1, _, by omega, by go_num, HQ.out.1, HQ.out.2⟩
              case measure => simp [intOf]; omega
          · obtain ⟨gh, oh, ck, hvv, _, _, hgh, _⟩ := HL1.out.at (by rw [← HBL.out]; omega)
            have hah : ah = some ⟨gh, oh, none⟩ := by cases hvv; rfl
            clear hvv
            subst hah
            have HNW : Hid (RowE (Plain chd) 3 lo2 (W1.alloc (.cells #[] 55)) (.slice (some ⟨gh, oh, none⟩) b ch) hs) := HL1.out.below (plain_stays _) (below_one _ _)
            have A1 : Hid ((W1.alloc (.cells #[] 55)).ownsRow W1.heap.size 55 3 (.slice (some ⟨W1.heap.size, 0, none⟩) 0 0) 0 []) := World.ownsRow_made W1 #[] 0 (Nat.le_refl _) (by unfold maxLen; omega) rfl
            have A2 : Hid (((hs.map chd).flatten).length = b * 3) := by rw [chd_flat, HBL.out]; rfl
            have A3 : Hid (∀ j u, ((hs.map chd).flatten)[j]? = some u → (W1.alloc (.cells #[] 55)).cell? ((⟨gh, oh, none⟩ : Addr).add j) = some u) := row_news (f := chd) (k := 3) (fun x => rfl) HNW.out (by rw [← HBL.out]; omega)
            have a4 : 0 + b ≤ maxLen := by unfold maxLen; omega
            have a5 : (0 + b) * 24 ≤ 140737488355328 := by omega
            have a6 : W1.heap.size ≤ (W1.alloc (.cells #[] 55)).heap.size := by simp
            have A4 : Hid (0 + b ≤ maxLen) := a4
            have A5 : Hid ((0 + b) * 24 ≤ 140737488355328) := a5
            have A6 : Hid (W1.heap.size ≤ (W1.alloc (.cells #[] 55)).heap.size) := a6
            clear a4 a5 a6
            go_upto_region 8 with (at_builtin; refine wpList_append_own _ rfl _ _ 56 rfl W1.heap.size 55 k0 (.agg #[.int .i64 0, .int .i64 0, .int .i64 0]) 3 24 Try.underlying56 hk hy0 hy1 hy2 rfl (by decide) _ 0 [] rfl A1.out ⟨gh, oh, none⟩ b ch ((hs.map chd).flatten) rfl A2.out A3.out (chd_one _) A4.out A5.out A6.out ?_; intro v3 w4 hown hgrow _; have HB4 : Hid (Below W1.heap.size W1 w4) := grown_one hgrow; have HO4 : Hid (RowE (Plain chd) 3 W1.heap.size w4 v3 hs) := (chd_own (by rw [← HBL.out]; exact hown)).plain; have HX4 : Hid (Blk w4 w2.heap.size 58 [.int .i64 q0, .int .i64 q1, .int .i64 q2, .int .i64 q3, .int .i64 q4, .slice (some ⟨gh, oh, none⟩) b ch]) := HX1.out.later HB4.out; obtain ⟨a3, k3, hv3, _⟩ := HO4.out.form; obtain ⟨n3, hn3⟩ : ∃ n, n = hs.length := ⟨_, rfl⟩; rw [← hn3] at hv3; clear hn3 hown hgrow; subst hv3; obtain ⟨z0, z1, z2, z3, z4, z5⟩ := six HX4.out; obtain ⟨y0, y1, y2, y3, y4, y5⟩ := six_free HX4.out)
            trace_state
            obtain ⟨W3, hW3⟩ : ∃ W, W = w4.setCell ⟨w2.heap.size, 5, none⟩ (.slice a3 n3 k3) := ⟨_, rfl⟩
            have HB3 : Hid (Below w2.heap.size w2 W3) := by rw [hW3]; exact (below_tr HB1.out HB4.out).setCell (Nat.le_refl _) _
            have HX3 : Hid (Blk W3 w2.heap.size 58 [.int .i64 q0, .int .i64 q1, .int .i64 q2, .int .i64 q3, .int .i64 q4, .slice a3 n3 k3]) := by rw [hW3]; exact HX4.out.put [.slice a3 n3 k3] 5
            have HL3 : Hid (RowE (Plain chd) 3 (w2.heap.size + 1) W3 (.slice a3 n3 k3) hs) := by rw [hW3]; exact rowE_stays (plain_stays _) (rowE_lowers (plain_lowers _) HO4.out (by rw [HS1.out]; exact Nat.le_refl _)) (putW_keep [.slice a3 n3 k3] w4 w2.heap.size 5 _ (by omega))
            have HR3 : Hid (Gath w.heap.size w.heap.size W3 u7 css (kept2J (pw lb) xs rs j)) := HR.out.later HB3.out
            have HW3 : Hid (Below w.heap.size w W3) := below_tr HW.out HB3.out
            have HU : Hid (∀ g, u7.ownBlock = some g → g < w2.heap.size + 1) := fun g hg => Nat.lt_succ_of_lt (World.ownsRow.lt HR.out.own.row g hg).2
            have hs3 := HB3.out.size
            have b4 : css.length + 1 ≤ maxLen := by have := HCL.out; unfold maxLen; omega
            have b5 : (css.length + 1) * 64 ≤ 140737488355328 := by have := HCL.out; omega
            have b6 : w.heap.size ≤ W3.heap.size + 1 := by omega
            have b7 : w.heap.size ≤ w2.heap.size + 1 := by omega
            have B4 : Hid (css.length + 1 ≤ maxLen) := b4
            have B5 : Hid ((css.length + 1) * 64 ≤ 140737488355328) := b5
            have B6 : Hid (w.heap.size ≤ W3.heap.size + 1) := b6
            have B7 : Hid (w.heap.size ≤ w2.heap.size + 1) := b7
            clear b4 b5 b6 b7
            clear HR HW HB3 HL1 HX1 HB1 HO4 HX4 HB4 HNW z0 z1 z2 z3 z4 z5 y0 y1 y2 y3 y4 y5
            rw [← hW3]
            clear hW3
            obtain ⟨c0, c1, c2, c3, c4, c5⟩ := six HX3.out
            go_wp2_with (at_builtin; refine wpList_append_lies _ rfl _ _ 32 rfl w.heap.size 58 i0 (.agg #[.int .i64 0, .int .i64 0, .int .i64 0, .int .i64 0, .int .i64 0, .slice none 0 0]) 6 64 Try.underlying32 hi hz0 hz1 hz2 rfl (by decide) _ _ _ rfl (HR3.out.own.row.alloc _) ⟨W3.heap.size, 0, none⟩ 1 1 (rcells ⟨q0, q1, q2, q3, q4, hs⟩ (.slice a3 n3 k3)) rfl rfl (new_cells W3 _ _) (rcells_one _) (by decide) B4.out B5.out (by simp; exact B6.out) _ rfl ?_; intro g9 c9 w9 hown hgrow hat _; have HQ : Hid (Gath w.heap.size w.heap.size w9 (.slice (some ⟨g9, 0, none⟩) (css.length + 1) c9) (css ++ [rcells ⟨q0, q1, q2, q3, q4, hs⟩ (.slice a3 n3 k3)]) (kept2J (pw lb) xs rs (j + 1)) ∧ Below w.heap.size w w9) := (by rw [HY2.out]; exact kept_push HR3.out HL3.out HU.out HW3.out hown hgrow hat B7.out (Nat.le_refl _)); clear hown hgrow hat)
            go_roundw
            case rel => exact ⟨j + 1, _, by omega, by go_num, HQ.out.1, HQ.out.2⟩
            case measure => simp [intOf]; omega
      · have HE : Hid (kept2J (pw lb) xs rs j = kept2 (pw lb) xs rs) := by
          have : j = xs.length := by rw [← HX.out]; omega
          rw [this, kept2, if_pos ⟨by rw [← HX.out]; exact hn4, by rw [← HX.out, HM.out]⟩]; rfl
        go_wp2_with fail
        go_ret
        exact ⟨_, rfl, by rw [← HE.out]; exact HR.out.row (Nat.le_refl _) (Nat.le_refl _), HW.out⟩
  · have HE : Hid (kept2 (pw lb) xs rs = []) := kept2_no (by rw [← HX.out, ← HM.out]; exact hok)
    go_enter Try.func13, Try.ntmps13
    go_wp2_with fail
    go_loopw [7, 8] (fun u i wr => i = .int .i64 0 ∧ Hid (Gath w.heap.size w.heap.size wr u [] []) ∧ Hid (Below w.heap.size w wr)) (fun _ i _ => 0)
    case atStart => exact ⟨rfl, HO.out, HB.out⟩
    case round =>
      obtain ⟨rfl, HR, HW⟩ := hrel
      clear HO HB
      by_cases h0 : n = 0
      · subst h0
        go_wp2_with fail
        go_ret
        exact ⟨_, rfl, by rw [HE.out]; exact HR.out.row (Nat.le_refl _) (Nat.le_refl _), HW.out⟩
      · by_cases h1 : n = m
        · subst h1
          have h4 : 400 < n := by omega
          go_wp2_with fail
          go_ret
          exact ⟨_, rfl, by rw [HE.out]; exact HR.out.row (Nat.le_refl _) (Nat.le_refl _), HW.out⟩
        · go_wp2_with fail
          go_ret
          exact ⟨_, rfl, by rw [HE.out]; exact HR.out.row (Nat.le_refl _) (Nat.le_refl _), HW.out⟩
end Go.Proofs.Ytpehmphcnimegaa.deep
