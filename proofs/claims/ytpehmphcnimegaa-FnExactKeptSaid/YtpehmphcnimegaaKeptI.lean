/-
  The program's Kept at every two lists and every label: the replies gathered, and their lists copied. No condition but how many handles there are.
-/
import Derived.Test.YtpehmphcnimegaaKeptQ
import Derived.Test.YtpehmphcnimegaaKeptS
namespace Go.Proofs.Ytpehmphcnimegaa.deep
open Go.RowKit Go.Deep Go.Sort
set_option linter.unusedVariables false
set_option maxRecDepth 100000

/-- what a copy of a list leaves -/
def Copied (hs : List Thd) (w : World) (e : Ending) (w' : World) : Prop := ∃ v', e = .returned v' ∧ RowE (Plain chd) 3 w.heap.size w' v' hs ∧ Free w' v' ∧ Below w.heap.size w w'
theorem nil_below {W w4 : World} (gr : W.grownBy w4 (Value.slice none 0 0).ownBlock) : Below W.heap.size W w4 := (Below.refl _ _).grown gr (Nat.le_refl _) (fun k e => by cases e)
set_option maxHeartbeats 1000000 in
theorem im_copied {lo : Nat} {w : World} {v : Value} {hs : List Thd} (h : RowE (Plain chd) 3 lo w v hs) (hn : hs.length ≤ 1048576) : Calls Try.prog 26 #[v] w (Copied hs w) := by
  obtain ⟨k0, hk, hy0, hy1, hy2⟩ := info_parts info_hd
  obtain ⟨a, c, hv, _⟩ := h.form
  obtain ⟨b, hb⟩ : ∃ b, b = hs.length := ⟨_, rfl⟩
  have HBL : Hid (b = hs.length) := hb
  have HR : Hid (RowE (Plain chd) 3 lo w v hs) := h
  rw [← hb] at hv hn
  clear h hb
  subst hv
  by_cases hb0 : b = 0
  · subst hb0
    have HE : Hid (RowE (Plain chd) 3 w.heap.size w (.slice none 0 0) hs ∧ Free w (.slice none 0 0)) := ⟨⟨none, 0, by rw [← HBL.out], by rw [← HBL.out]; exact Nat.zero_le _, fun h => by rw [← HBL.out] at h; omega⟩, fun g o h => by simp [spotOf] at h⟩
    cases a with
    | none =>
      go_enter Try.func26, Try.ntmps26
      go_wp2
      go_ret
      exact ⟨_, rfl, HE.out.1, HE.out.2, Below.refl _ _⟩
    | some ad =>
      go_enter Try.func26, Try.ntmps26
      go_wp2
      go_ret
      exact ⟨_, rfl, HE.out.1, HE.out.2, Below.refl _ _⟩
  · obtain ⟨gh, oh, ck, hvv, _, _, hgh, _⟩ := HR.out.at (by rw [← HBL.out]; omega)
    have hah : a = some ⟨gh, oh, none⟩ := by cases hvv; rfl
    clear hvv
    subst hah
    have A2 : Hid (((hs.map chd).flatten).length = b * 3) := by rw [chd_flat, HBL.out]; rfl
    have A3 : Hid (∀ j u, ((hs.map chd).flatten)[j]? = some u → w.cell? ((⟨gh, oh, none⟩ : Addr).add j) = some u) := row_news (f := chd) (k := 3) (fun x => rfl) HR.out (by rw [← HBL.out]; omega)
    have a4 : 0 + b ≤ maxLen := by unfold maxLen; omega
    have a5 : (0 + b) * 24 ≤ 140737488355328 := by omega
    have A4 : Hid (0 + b ≤ maxLen) := a4
    have A5 : Hid ((0 + b) * 24 ≤ 140737488355328) := a5
    clear a4 a5
    go_enter Try.func26, Try.ntmps26
    go_wp2_with (at_builtin; refine wpList_append_own _ rfl _ _ 56 rfl w.heap.size 55 k0 (.agg #[.int .i64 0, .int .i64 0, .int .i64 0]) 3 24 Try.underlying56 hk hy0 hy1 hy2 rfl (by decide) _ 0 [] rfl (World.ownsRow_nil w w.heap.size _ _) ⟨gh, oh, none⟩ b c ((hs.map chd).flatten) rfl A2.out A3.out (chd_one _) A4.out A5.out (Nat.le_refl _) ?_; intro v3 w4 hown hgrow _; have HB4 : Hid (Below w.heap.size w w4) := nil_below hgrow; have HO4 : Hid (OwnC 55 3 w.heap.size w4 v3 (hs.map chd)) := chd_own (by rw [← HBL.out]; exact hown); clear hown hgrow)
    go_ret
    exact ⟨_, rfl, HO4.out.plain, HO4.out.free, HB4.out⟩

/-- what the gathering leaves -/
def Heard (lb : Int) (lo2 : Nat) (xs : List Tcl) (rs : List RepD) (w : World) (e : Ending) (w' : World) : Prop :=
  ∃ v' vals, e = .returned v' ∧ GathO lo2 w.heap.size w w' v' vals (kept2 (pw lb) xs rs) ∧ Below w.heap.size w w'

theorem heard_push {lo2 : Nat} {w W w3 : World} {o : Obj} {u v' v : Value} {vals : List Value} {ys : List RepD} {y : RepD} (h : GathO lo2 w.heap.size w W u vals ys) (hv : RowE (Plain chd) 3 lo2 w v y.hs) (hb : Below w.heap.size w W)
    (h1 : w3.ownsRow w.heap.size 58 6 v' ((rowsOf ys vals).length + 1) ((rowsOf ys vals).flatten ++ rcells y v)) (hg : (W.alloc o).grownBy w3 u.ownBlock) : GathO lo2 w.heap.size w w3 v' (vals ++ [v]) (ys ++ [y]) ∧ Below w.heap.size w w3 := by
  have hs := hb.size
  exact ⟨(h.later (below_one W o)).push hv h1, (hb.alloc hs o).grown hg (by simp; omega) (fun k hk => h.own.own_ge k hk)⟩

set_option maxHeartbeats 8000000 in
theorem im_heardR (lb : Int) {lo lo2 : Nat} {w : World} {v v2 : Value} {xs : List Tcl} {rs : List RepD} (h : RowE (Plain ccl) 9 lo w v xs) (h2 : RowE RepE 6 lo2 w v2 rs) : Calls Try.prog 25 #[v, v2, .int .i64 lb] w (Heard lb lo2 xs rs w) := by
  obtain ⟨a, c, rfl, hml, h3⟩ := h
  obtain ⟨a', c', rfl, hml', h3'⟩ := h2
  obtain ⟨i0, hi, hz0, hz1, hz2⟩ := info_parts info_rep
  have HF : Hid (∀ q W, Calls Try.prog 33 #[.int .i64 q, .int .i64 lb] W fun e w' => e = .returned (.bool (label.flo q lb)) ∧ w' = W) := fun q W => label.impl_flows q lb W
  obtain ⟨n, hx⟩ : ∃ n, n = xs.length := ⟨_, rfl⟩
  obtain ⟨m, hm⟩ : ∃ n, n = rs.length := ⟨_, rfl⟩
  have H3 : Hid (0 < xs.length → ∃ g o, a = some ⟨g, o, none⟩ ∧ g < w.heap.size ∧ ∀ i (hi : i < xs.length), w.cell? ⟨g, o + i * 9, none⟩ = some (.int .i64 xs[i].q0)) := fun h0 => by
    obtain ⟨g, o, ha, _, hg, hc⟩ := h3 h0
    refine ⟨g, o, ha, hg, fun i hi => ?_⟩
    obtain ⟨cs, _, hcc, rfl⟩ := hc i hi
    exact hcc 0 (by decide)
  have H4 : Hid (0 < rs.length → ∃ g o, a' = some ⟨g, o, none⟩ ∧ lo2 ≤ g ∧ g < w.heap.size ∧ ∀ i (hi : i < rs.length), ∃ cs : List Value, cs.length = 6 ∧ (∀ j, j < 6 → w.cell? ⟨g, o + i * 6 + j, none⟩ = cs[j]?) ∧ RepE lo2 w cs rs[i]) := h3'
  have HX : Hid (n = xs.length) := hx
  have HM : Hid (m = rs.length) := hm
  have hnm : n ≤ maxLen := by rw [hx]; exact hml
  have hmm : m ≤ maxLen := by rw [hm]; exact hml'
  unfold maxLen at hnm hmm
  rw [← hx, ← hm]
  clear h3 hx hml h3' hm hml'
  have HO : Hid (GathO lo2 w.heap.size w w (.slice none 0 0) [] (kept2J (pw lb) xs rs 0)) := GathO.nil _ _ _ _
  by_cases hok : n ≤ 400 ∧ n = m
  · obtain ⟨hn4, rfl⟩ := hok
    go_enter Try.func25, Try.ntmps25
    go_wp2_with fail
    go_loopw [7, 22] (fun u i wr => ∃ (j : Nat) (vals : List Value), j ≤ n ∧ i = .int .i64 j ∧ Hid (GathO lo2 w.heap.size w wr u vals (kept2J (pw lb) xs rs j)) ∧ Hid (Below w.heap.size w wr)) (fun _ i _ => n - (intOf i).toNat)
    case atStart => exact ⟨0, [], by omega, rfl, HO.out, Below.refl _ _⟩
    case round =>
      obtain ⟨j, vals, hj, rfl, HR, HW⟩ := hrel
      clear HO
      by_cases hlt : j < n
      · have hlx : j < xs.length := by rw [← HX.out]; exact hlt
        have hlr : j < rs.length := by rw [← HM.out]; exact hlt
        obtain ⟨g, o, rfl, hg, hc⟩ := H3.out (by omega)
        obtain ⟨g', o', rfl, _, hg', hc3⟩ := H4.out (by omega)
        obtain ⟨vh, hl, hcr⟩ := rep_at (hc3 j hlr)
        have e0 : wr.cell? ⟨g, o + j * 9, none⟩ = some (.int .i64 xs[j].q0) := (HW.out.cell (p := ⟨g, o + j * 9, none⟩) hg).trans (hc j hlx)
        have HY : Hid (label.flo xs[j].q0 lb = true → kept2J (pw lb) xs rs (j + 1) = kept2J (pw lb) xs rs j ++ [rs[j]]) := fun hp => kept2J_yes (p := pw lb) hlx hlr hp
        have HN : Hid (label.flo xs[j].q0 lb = false → kept2J (pw lb) xs rs (j + 1) = kept2J (pw lb) xs rs j) := fun hp => kept2J_no (p := pw lb) hlx hlr hp
        have hcl : (rowsOf (kept2J (pw lb) xs rs j) vals).length ≤ 400 := by rw [rows_len HR.out.len]; exact Nat.le_trans (kept2J_le _ _ _ _) (by omega)
        have b4 : (rowsOf (kept2J (pw lb) xs rs j) vals).length + 1 ≤ maxLen := by unfold maxLen; omega
        have b5 : ((rowsOf (kept2J (pw lb) xs rs j) vals).length + 1) * 64 ≤ 140737488355328 := by omega
        have B4 : Hid ((rowsOf (kept2J (pw lb) xs rs j) vals).length + 1 ≤ maxLen) := b4
        have B5 : Hid (((rowsOf (kept2J (pw lb) xs rs j) vals).length + 1) * 64 ≤ 140737488355328) := b5
        clear hc hc3 hcl b4 b5
        generalize xs[j].q0 = p0 at *
        generalize rs[j] = x at *
        obtain ⟨q0, q1, q2, q3, q4, hs⟩ := x
        simp only at hl
        have HL : Hid (RowE (Plain chd) 3 lo2 w vh hs) := hl
        obtain ⟨ah, ch, qh, _⟩ := hl.form
        obtain ⟨b, hb⟩ : ∃ b, b = hs.length := ⟨_, rfl⟩
        rw [← hb] at qh
        clear hb hl
        subst qh
        have r0 : wr.cell? ⟨g', o' + j * 6, none⟩ = some (.int .i64 q0) := (HW.out.cell (p := ⟨g', o' + j * 6, none⟩) hg').trans (hcr 0 (by decide))
        have r1 : wr.cell? ⟨g', o' + j * 6 + 1, none⟩ = some (.int .i64 q1) := (HW.out.cell (p := ⟨g', o' + j * 6 + 1, none⟩) hg').trans (hcr 1 (by decide))
        have r2 : wr.cell? ⟨g', o' + j * 6 + 2, none⟩ = some (.int .i64 q2) := (HW.out.cell (p := ⟨g', o' + j * 6 + 2, none⟩) hg').trans (hcr 2 (by decide))
        have r3 : wr.cell? ⟨g', o' + j * 6 + 3, none⟩ = some (.int .i64 q3) := (HW.out.cell (p := ⟨g', o' + j * 6 + 3, none⟩) hg').trans (hcr 3 (by decide))
        have r4 : wr.cell? ⟨g', o' + j * 6 + 4, none⟩ = some (.int .i64 q4) := (HW.out.cell (p := ⟨g', o' + j * 6 + 4, none⟩) hg').trans (hcr 4 (by decide))
        have r5 : wr.cell? ⟨g', o' + j * 6 + 5, none⟩ = some (.slice ah b ch) := (HW.out.cell (p := ⟨g', o' + j * 6 + 5, none⟩) hg').trans (hcr 5 (by decide))
        clear hcr
        have hs0 := HW.out.size
        have hgl : g < wr.heap.size := by omega
        have hgl' : g' < wr.heap.size := by omega
        go_wp2_with fail
        refine Calls.mono (HF.out _ _) ?_
        rintro e w2 ⟨rfl, rfl⟩
        obtain ⟨W1, hW1⟩ : ∃ W, W = wr.alloc (.cells #[.int .i64 q0, .int .i64 q1, .int .i64 q2, .int .i64 q3, .int .i64 q4, .slice ah b ch] 58) := ⟨_, rfl⟩
        have HX1 : Hid (Blk W1 wr.heap.size 58 [.int .i64 q0, .int .i64 q1, .int .i64 q2, .int .i64 q3, .int .i64 q4, .slice ah b ch]) := by rw [hW1]; exact blk_new wr _ _
        have HR1 : Hid (GathO lo2 w.heap.size w W1 u7 vals (kept2J (pw lb) xs rs j)) := by rw [hW1]; exact HR.out.later (below_one _ _)
        have HW1 : Hid (Below w.heap.size w W1) := by rw [hW1]; exact HW.out.alloc hs0 _
        rw [← hW1]
        clear hW1 HR HW e0 r0 r1 r2 r3 r4 r5 hgl hgl'
        cases hfl : label.flo p0 lb with
        | false =>
          have HN2 : Hid _ := HN.out hfl
          clear HY
          go_wp2_with fail
          go_roundw
          case rel => exact ⟨j + 1, vals, by omega, by go_num, by rw [HN2.out]; exact HR1.out, HW1.out⟩
          case measure => simp [intOf]; omega
        | true =>
          have HY2 : Hid _ := HY.out hfl
          clear HY HN
          obtain ⟨c0, c1, c2, c3, c4, c5⟩ := six HX1.out
          have hs1 := HW1.out.size
          have b6 : w.heap.size ≤ W1.heap.size + 1 := by omega
          have B6 : Hid (w.heap.size ≤ W1.heap.size + 1) := b6
          clear b6
          go_wp2_with (at_builtin; refine wpList_append_own _ rfl _ _ 32 rfl w.heap.size 58 i0 (.agg #[.int .i64 0, .int .i64 0, .int .i64 0, .int .i64 0, .int .i64 0, .slice none 0 0]) 6 64 Try.underlying32 hi hz0 hz1 hz2 rfl (by decide) _ _ _ rfl (HR1.out.own.row.alloc _) ⟨W1.heap.size, 0, none⟩ 1 1 (rcells ⟨q0, q1, q2, q3, q4, hs⟩ (.slice ah b ch)) rfl rfl (new_cells W1 _ _) (rcells_one _) B4.out B5.out (by simp; exact B6.out) ?_; intro v' w3 hown hgrow _; have HQ : Hid (GathO lo2 w.heap.size w w3 v' (vals ++ [.slice ah b ch]) (kept2J (pw lb) xs rs (j + 1)) ∧ Below w.heap.size w w3) := (by rw [HY2.out]; exact heard_push HR1.out HL.out HW1.out hown hgrow); clear hown hgrow)
          go_roundw
          case rel => exact ⟨j + 1, _, by omega, by go_num, HQ.out.1, HQ.out.2⟩
          case measure => simp [intOf]; omega
      · have HE : Hid (kept2J (pw lb) xs rs j = kept2 (pw lb) xs rs) := by
          have : j = xs.length := by rw [← HX.out]; omega
          rw [this, kept2, if_pos ⟨by rw [← HX.out]; exact hn4, by rw [← HX.out, HM.out]⟩]; rfl
        go_wp2_with fail
        go_ret
        exact ⟨_, _, rfl, by rw [← HE.out]; exact HR.out, HW.out⟩
  · have HE : Hid (kept2 (pw lb) xs rs = []) := kept2_no (by rw [← HX.out, ← HM.out]; exact hok)
    by_cases h4 : n ≤ 400
    · have h1 : ¬ m = n := fun e => hok ⟨h4, e.symm⟩
      have h1' : ((m : Int) != (n : Int)) = true := by simp only [bne_iff_ne, ne_eq]; omega
      go_enter Try.func25, Try.ntmps25
      go_wp2_with fail
      go_ret
      exact ⟨_, [], rfl, by rw [HE.out]; exact GathO.nil _ _ _ _, Below.refl _ _⟩
    · go_enter Try.func25, Try.ntmps25
      go_wp2_with fail
      go_ret
      exact ⟨_, [], rfl, by rw [HE.out]; exact GathO.nil _ _ _ _, Below.refl _ _⟩

/-- what the program's Kept leaves: nothing, or a row that may be marked and held -/
def KeptP (lb : Int) (xs : List Tcl) (rs : List RepD) (w : World) (e : Ending) (w' : World) : Prop :=
  ∃ v', e = .returned v' ∧ Below w.heap.size w w' ∧ ((kept2 (pw lb) xs rs = [] ∧ ∃ a c, v' = .slice a 0 c) ∨ ∃ G vals, 0 < (kept2 (pw lb) xs rs).length ∧ Whole w.heap.size w' v' (kept2 (pw lb) xs rs) G vals)
theorem mid_start {lo2 : Nat} {w w1 : World} {u : Value} {vals : List Value} {ys : List RepD} (h : GathO lo2 w.heap.size w w1 u vals ys) (h0 : 0 < ys.length) : ∃ G c, u = .slice (some ⟨G, 0, none⟩) ys.length c ∧ w.heap.size ≤ G ∧ G < w1.heap.size ∧ Mid lo2 w.heap.size G w w1 vals ys c 0 := by
  have hl := h.len
  obtain ⟨G, c, hu, h1, h2, h3⟩ := h.own.made (by rw [rows_len hl]; exact h0)
  rw [rows_len hl] at hu
  exact ⟨G, c, hu, h1, h2, h3, hl, fun i hi h => absurd h (Nat.not_lt_zero _), fun i hi _ => h.each i hi, fun i i' _ _ h => absurd h (Nat.not_lt_zero _)⟩

set_option maxHeartbeats 4000000 in
theorem im_kept (lb : Int) {lo lo2 : Nat} {w : World} {v v2 : Value} {xs : List Tcl} {rs : List RepD} (h : RowE (Plain ccl) 9 lo w v xs) (h2 : RowE RepE 6 lo2 w v2 rs) (hbk : bulkR rs ≤ 1048576) : Calls Try.prog 15 #[v, v2, .int .i64 lb] w (KeptP lb xs rs w) := by
  have HH : Hid (Calls Try.prog 25 #[v, v2, .int .i64 lb] w (Heard lb lo2 xs rs w)) := im_heardR lb h h2
  have HBK : Hid (∀ y ∈ kept2 (pw lb) xs rs, y.hs.length ≤ 1048576) := fun y hy => rep_bulk hbk y (kept2_mem hy)
  have HYL : Hid ((kept2 (pw lb) xs rs).length ≤ 400) := kept2_le _ _ _
  obtain ⟨a, c, rfl, _⟩ := h.form
  obtain ⟨a', c', rfl, _⟩ := h2.form
  unfold KeptP
  unfold Heard at HH
  generalize kept2 (pw lb) xs rs = ys at *
  generalize xs.length = n at *
  generalize rs.length = m at *
  clear h h2 hbk
  go_enter Try.func15, Try.ntmps15
  go_wp2_with fail
  refine Calls.mono HH.out ?_
  rintro e w1 ⟨u, vals, rfl, hg1, hb1⟩
  have HB1 : Hid (Below w.heap.size w w1) := hb1
  obtain ⟨q, hq⟩ : ∃ q, q = ys.length := ⟨_, rfl⟩
  have HQ : Hid (q = ys.length) := hq
  have hq4 : q ≤ 400 := by rw [hq]; exact HYL.out
  by_cases h0 : q = 0
  · have hy : ys = [] := List.eq_nil_of_length_eq_zero (by omega)
    obtain ⟨au, cu, hu, _⟩ := hg1.own.form
    rw [rows_len hg1.len, ← hq, h0] at hu
    have HE : Hid (ys = []) := hy
    clear hg1 hb1 hq hy h0 HBK HYL HQ hq4
    subst hu
    go_wp2_with fail
    go_loopw [15] (fun i wr => i = .int .i64 0 ∧ wr = w1) (fun _ _ => 0)
    case atStart => exact ⟨rfl, rfl⟩
    case round =>
      obtain ⟨rfl, rfl⟩ := hrel
      go_wp2_with fail
      go_ret
      exact ⟨_, rfl, HB1.out, Or.inl ⟨HE.out, _, _, rfl⟩⟩
  · obtain ⟨G, cu, hu, hG, hG1, hm⟩ := mid_start hg1 (by omega)
    rw [← hq] at hu
    have HM0 : Hid (Mid lo2 w.heap.size G w w1 vals ys cu 0) := hm
    clear hg1 hb1 hq hm
    subst hu
    go_wp2_with fail
    go_loopw [15] (fun i wr => ∃ (j : Nat) (vs : List Value), j ≤ q ∧ i = .int .i64 j ∧ Hid (Mid lo2 w.heap.size G w wr vs ys cu j) ∧ Hid (Below w.heap.size w wr)) (fun i _ => q - (intOf i).toNat)
    case atStart => exact ⟨0, vals, by omega, rfl, HM0.out, HB1.out⟩
    case round =>
      obtain ⟨j, vs, hj, rfl, HM, HW⟩ := hrel
      clear HM0 HB1
      by_cases hlt : j < q
      · have hly : j < ys.length := by rw [← HQ.out]; exact hlt
        have hlv : j < vs.length := by rw [HM.out.len]; exact hly
        have hold := HM.out.old j hly (Nat.le_refl _)
        have hc5 : wr.cell? ⟨G, j * 6 + 5, none⟩ = some vs[j] := by
          rw [HM.out.made.at j (by rw [rows_len HM.out.len]; exact hly) 5 (by decide), rows_at j hly hlv]; rfl
        have hf5 := HM.out.made.free (j * 6 + 5)
        have hGw := HM.out.made.lt
        have HST : Hid (∀ (w2 : World) (v : Value), Below wr.heap.size wr w2 → RowE (Plain chd) 3 wr.heap.size w2 v ys[j].hs → Free w2 v → Mid lo2 w.heap.size G w (w2.setCell ⟨G, j * 6 + 5, none⟩ v) (vs.set j v) ys cu (j + 1) ∧ Below w.heap.size w (w2.setCell ⟨G, j * 6 + 5, none⟩ v)) := fun w2 v hb hv hf =>
          ⟨HM.out.step hly hb hv hf HW.out.size, (below_tr HW.out hb).setCell (by omega) _⟩
        have HC : Hid (Calls Try.prog 26 #[vs[j]] wr (Copied ys[j].hs wr)) := im_copied (hold.below (plain_stays _) HW.out) (HBK.out _ (List.getElem_mem _))
        obtain ⟨ao, co, ho, _⟩ := hold.form
        generalize vs[j] = vj at *
        generalize ys[j].hs = zs at *
        obtain ⟨no, hno⟩ : ∃ n, n = zs.length := ⟨_, rfl⟩
        rw [← hno] at ho
        clear hold hno HM HW
        subst ho
        go_wp2_with fail
        refine Calls.mono HC.out ?_
        rintro e w2 ⟨v1, rfl, hr2, hf2, hb2⟩
        obtain ⟨a1, c1, h1, _⟩ := hr2.form
        have HS2 : Hid _ := HST.out w2 v1 hb2 hr2 hf2
        have hc2 : w2.cell? ⟨G, j * 6 + 5, none⟩ = some (.slice ao no co) := (hb2.cell (p := ⟨G, j * 6 + 5, none⟩) hGw).trans hc5
        have hf2' : w2.frozen? ⟨G, j * 6 + 5, none⟩ = false := (hb2.frozen (p := ⟨G, j * 6 + 5, none⟩) hGw).trans hf5
        obtain ⟨n1, hn1⟩ : ∃ n, n = zs.length := ⟨_, rfl⟩
        rw [← hn1] at h1
        clear hr2 hf2 hb2 hn1 HST HC
        subst h1
        go_wp2_with fail
        go_roundw
        case rel => exact ⟨j + 1, _, by omega, by go_num, HS2.out.1, HS2.out.2⟩
        case measure => simp [intOf]; omega
      · obtain rfl : j = q := by omega
        have HWH : Hid (Whole w.heap.size wr (.slice (some ⟨G, 0, none⟩) j cu) ys G vs) := by
          have h1 := HM.out
          have h2 := HQ.out
          rw [h2] at h1 ⊢
          exact h1.whole hG (by have := HYL.out; unfold maxLen; omega) HBK.out
        have HP : Hid (0 < ys.length) := by have := HQ.out; show 0 < _; omega
        go_wp2_with fail
        go_ret
        exact ⟨_, rfl, HW.out, Or.inr ⟨G, vs, HP.out, HWH.out⟩⟩
end Go.Proofs.Ytpehmphcnimegaa.deep
