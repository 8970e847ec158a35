/-
  A ring's line, and the tasks of a line.
-/
import Derived.Test.YtnkkkdhpopfahaaSchWq
namespace Go.Proofs.Ytnkkkdhpopfahaa.sch
open Go.RowKit Go.Deep Go.Sort
open Go.Proofs.Ytnkkkdhpopfahaa
open Go.Proofs.Ytnkkkdhpopfahaa.deep
set_option linter.unusedVariables false
set_option maxRecDepth 100000

theorem info_wt : (Try.prog.info? 67).map (fun i => (i.zero, i.size, i.bytes)) = some (some (.agg #[.int .i64 0, .int .i64 0, .int .i64 0, .int .i64 0]), 4, 32) := by kernel_rfl
/-- a row of waiting tasks of the call's own -/
def Wts (base : Nat) (w : World) (v : Value) (ws : List Wt) : Prop := OwnC 67 4 base w v (ws.map cwt)
theorem cwt_one (x : Wt) : ∀ u ∈ cwt x, u.oneCell' = true := by
  intro u hu
  simp [cwt] at hu
  rcases hu with h | h | h | h <;> (subst h; rfl)
theorem Wts.lower {base base' : Nat} {w : World} {v : Value} {ws : List Wt} (h : Wts base w v ws) (hb : base' ≤ base) : Wts base' w v ws := by
  refine ⟨h.len, h.row.1, ?_⟩
  rcases h.row.2 with h0 | ⟨g, cap, cur, hv, hbg, hrest⟩
  · exact .inl h0
  · exact .inr ⟨g, cap, cur, hv, Nat.le_trans hb hbg, hrest⟩
def WtsPost (ws : List Wt) (w : World) (e : Ending) (w' : World) : Prop := ∃ v, e = .returned v ∧ Wts w.heap.size w' v ws ∧ Below w.heap.size w w'
theorem push_wts {base : Nat} {w wr w1 : World} {u v' : Value} {xs : List Wt} {x : Wt} (h : Wts base wr u xs) (hb : Below base w wr) (hs : base ≤ wr.heap.size)
    (h1 : w1.ownsRow base 67 4 v' ((xs.map cwt).length + 1) ((xs.map cwt).flatten ++ cwt x)) {W : World} (hW : Below wr.heap.size wr W) (hg : W.grownBy w1 u.ownBlock) : Wts base w1 v' (xs ++ [x]) ∧ Below base w w1 := by
  refine ⟨?_, (hb.trans (hW.mono hs)).grown hg (Nat.le_trans hs hW.size) (fun k hk => h.own_ge k hk)⟩
  unfold Wts
  rw [List.map_append]
  exact h.push rfl h1

theorem new_cells2 (wr : World) (o : Obj) (cs : List Value) (t : Nat) : ∀ j u, cs[j]? = some u → ((wr.alloc o).alloc (.cells cs.toArray t)).cell? ((⟨wr.heap.size + 1, 0, none⟩ : Addr).add j) = some u := by
  have h := new_cells (wr.alloc o) cs t
  rw [show (wr.alloc o).heap.size = wr.heap.size + 1 by simp] at h
  exact h
set_option maxHeartbeats 4000000 in
theorem tasks_in {lo : Nat} {w : World} {v : Value} {ws : List Wt} (h : RowE (Plain cwt) 4 lo w v ws) (hn : ws.length ≤ 1000) : Calls Try.prog 60 #[v] w (OfPost (ws.map (·.1)) w) := by
  obtain ⟨a, c, rfl, hm, h3⟩ := h
  obtain ⟨i0, hi, hz0, hz1, hz2⟩ := info_parts info_tk
  obtain ⟨n, hx⟩ : ∃ n, n = ws.length := ⟨_, rfl⟩
  have HN : Hid (n = ws.length) := hx
  have H3 : Hid (0 < ws.length → ∃ g o, a = some ⟨g, o, none⟩ ∧ g < w.heap.size ∧ ∀ i (hi : i < ws.length), w.cell? ⟨g, o + i * 4, none⟩ = some (.int .i64 ws[i].1.1) ∧ w.cell? ⟨g, o + i * 4 + 1, none⟩ = some (.int .i64 ws[i].1.2.1) ∧ w.cell? ⟨g, o + i * 4 + 2, none⟩ = some (.int .i64 ws[i].1.2.2) ∧ w.cell? ⟨g, o + i * 4 + 3, none⟩ = some (.int .i64 ws[i].2)) := fun h0 => by
    obtain ⟨g, o, ha, _, hg, hc⟩ := h3 h0
    refine ⟨g, o, ha, hg, fun i hi => ?_⟩
    obtain ⟨cs, _, hcc, rfl⟩ := hc i hi
    exact ⟨hcc 0 (by decide), hcc 1 (by decide), hcc 2 (by decide), hcc 3 (by decide)⟩
  rw [← hx] at hn hm ⊢
  unfold maxLen at hm
  have HO : Hid (Tks w.heap.size w (.slice none 0 0) ((ws.take 0).map (·.1))) := OwnC.nil _ _ _ _
  have HALL : Hid ((ws.take ws.length).map (·.1) = ws.map (·.1)) := by rw [Hid, List.take_length]
  clear hx h3
  go_enter Try.func60, Try.ntmps60
  go_wp2_with fail
  go_loopw [3, 8] (fun tv ti wr => ∃ j : Nat, j ≤ n ∧ ti = .int .i64 j ∧ Hid (Tks w.heap.size wr tv ((ws.take j).map (·.1))) ∧ Hid (Below w.heap.size w wr)) (fun _ ti _ => n - (intOf ti).toNat)
  case atStart => exact ⟨0, by omega, rfl, HO.out, Below.refl _ _⟩
  case round =>
    obtain ⟨j, hj, rfl, HR, HB⟩ := hrel
    clear HO
    by_cases hlt : j < n
    · have hlx : j < ws.length := by rw [← HN.out]; exact hlt
      obtain ⟨g, o, rfl, hg, hc⟩ := H3.out (by omega)
      obtain ⟨f0, f1, f2, f3⟩ := hc j hlx
      have e0 := (HB.out.cell (p := ⟨g, o + j * 4, none⟩) hg).trans f0
      have e1 := (HB.out.cell (p := ⟨g, o + j * 4 + 1, none⟩) hg).trans f1
      have e2 := (HB.out.cell (p := ⟨g, o + j * 4 + 2, none⟩) hg).trans f2
      have e3 := (HB.out.cell (p := ⟨g, o + j * 4 + 3, none⟩) hg).trans f3
      have HTK : Hid ((ws.take (j + 1)).map (·.1) = (ws.take j).map (·.1) ++ [ws[j].1]) := by rw [Hid, List.take_add_one, List.getElem?_eq_getElem hlx, List.map_append]; rfl
      have HLE : Hid ((((ws.take j).map (·.1)).map ctk).length ≤ 1000) := by show _ ≤ _; simp; omega
      have hws := HB.out.size
      have HP : Hid (∀ (v' : Value) (w1 W : World) (u : Value) (x : Tt), Tks w.heap.size wr u ((ws.take j).map (·.1)) → Below wr.heap.size wr W → w1.ownsRow w.heap.size 35 3 v' ((((ws.take j).map (·.1)).map ctk).length + 1) ((((ws.take j).map (·.1)).map ctk).flatten ++ ctk x) → W.grownBy w1 u.ownBlock → Tks w.heap.size w1 v' ((ws.take j).map (·.1) ++ [x]) ∧ Below w.heap.size w w1) := fun v' w1 W u x h hW h1 h2 => by
        refine ⟨?_, (HB.out.trans (hW.mono hws)).grown h2 (Nat.le_trans hws hW.size) (fun k hk => h.own_ge k hk)⟩
        unfold Tks
        rw [List.map_append]
        exact OwnC.push h rfl h1
      clear hc f0 f1 f2 f3
      generalize ws[j] = x at *
      obtain ⟨⟨p0, p1, p2⟩, p3⟩ := x
      simp only at e0 e1 e2 e3 HTK
      generalize (ws.take j).map (·.1) = L at *
      obtain ⟨a0, c0, hv0, -⟩ := HR.out.form
      go_wp2_with (at_builtin; go_loud (refine wpList_append_own _ rfl _ _ 28 rfl w.heap.size 35 i0 (.agg #[.int .i64 0, .int .i64 0, .int .i64 0]) 3 24 Try.underlying28 hi hz0 hz1 hz2 rfl (by decide) _ _ _ rfl ((HR.out.row.alloc _).alloc _) ⟨wr.heap.size + 1, 0, none⟩ 1 1 (ctk (p0, p1, p2)) rfl rfl (new_cells2 wr _ (ctk (p0, p1, p2)) _) (ctk_one _) (by have := HLE.out; unfold maxLen; omega) (by have := HLE.out; omega) (by simp; omega) ?_); intro v' w3 hown hgrow _; have HQ : Hid _ := HP.out v' w3 _ _ (p0, p1, p2) HR.out (below2 wr _ _) hown hgrow; clear hown hgrow)
      go_roundw
      case rel => exact ⟨j + 1, by omega, by go_num, by rw [HTK.out]; exact HQ.out.1, HQ.out.2⟩
      case measure => simp [intOf]; omega
    · obtain rfl : j = n := by omega
      have HE : Hid ((ws.take j).map (·.1) = ws.map (·.1)) := by rw [Hid, HN.out]; exact HALL.out
      go_wp2_with fail
      go_ret
      exact ⟨_, rfl, by rw [← HE.out]; exact HR.out, HB.out⟩

theorem row_list (ws : List Wt) (j : Nat) (hj : j < ws.length) : ws.take (j + 1) = ws.take j ++ [ws[j]] := by rw [List.take_add_one, List.getElem?_eq_getElem hj]; rfl
set_option maxHeartbeats 4000000 in
theorem ring_line (B o f T : Nat) (ws : List Wt) (cur : Array Value) {w : World} (hB : w.heap[B]? = some (.cells cur T (0, 0))) (h : RingC cur o f ws) : Calls Try.prog 61 #[.pointer (some ⟨B, o, none⟩)] w (WtsPost ws w) := by
  obtain ⟨i0, hi, hz0, hz1, hz2⟩ := info_parts info_wt
  have hBl : B < w.heap.size := (Array.getElem?_eq_some_iff.1 hB).1
  have hff := h.ff
  have hlen := h.len
  obtain ⟨n, hx⟩ : ∃ n, n = ws.length := ⟨_, rfl⟩
  have HN : Hid (n = ws.length) := hx
  have m0 : w.cell? ⟨B, o + 161, none⟩ = some (.int .i64 n) := by rw [cell_cur hB, h.many, hx]
  have HC : Hid (∀ W, Below w.heap.size w W → W.cell? ⟨B, o + 160, none⟩ = some (.int .i64 f) ∧ ∀ p (hp : p < ws.length), W.cell? ⟨B, o + (f + p) % 40 * 4, none⟩ = some (.int .i64 ws[p].1.1) ∧ W.cell? ⟨B, o + (f + p) % 40 * 4 + 1, none⟩ = some (.int .i64 ws[p].1.2.1) ∧ W.cell? ⟨B, o + (f + p) % 40 * 4 + 2, none⟩ = some (.int .i64 ws[p].1.2.2) ∧ W.cell? ⟨B, o + (f + p) % 40 * 4 + 3, none⟩ = some (.int .i64 ws[p].2)) := fun W hW => by
    have hBW := (hW.block B hBl).trans hB
    refine ⟨by rw [cell_cur hBW]; exact h.first, fun p hp => ⟨?_, ?_, ?_, ?_⟩⟩
    · rw [cell_cur hBW]; exact h.at' p hp 0 (by decide)
    · rw [cell_cur hBW]; exact h.at' p hp 1 (by decide)
    · rw [cell_cur hBW]; exact h.at' p hp 2 (by decide)
    · rw [cell_cur hBW]; exact h.at' p hp 3 (by decide)
  have HO : Hid (Wts w.heap.size w (.slice none 0 0) (ws.take 0)) := OwnC.nil _ _ _ _
  have HALL : Hid (ws.take ws.length = ws) := List.take_length
  rw [← hx] at hlen
  clear hx h hB
  go_enter Try.func61, Try.ntmps61
  go_wp2_with fail
  go_loopw [3, 9] (fun tv ti wr => ∃ j : Nat, j ≤ n ∧ ti = .int .i64 j ∧ Hid (Wts w.heap.size wr tv (ws.take j)) ∧ Hid (Below w.heap.size w wr)) (fun _ ti _ => n - (intOf ti).toNat)
  case atStart => exact ⟨0, by omega, rfl, HO.out, Below.refl _ _⟩
  case round =>
    obtain ⟨j, hj, rfl, HR, HB⟩ := hrel
    clear HO
    by_cases hlt : j < n
    · have hlx : j < ws.length := by rw [← HN.out]; exact hlt
      obtain ⟨hf0, hc⟩ := HC.out wr HB.out
      obtain ⟨e0, e1, e2, e3⟩ := hc j hlx
      obtain ⟨k, hk⟩ : ∃ k, k = (f + j) % 40 := ⟨_, rfl⟩
      have hk40 : k < 40 := by rw [hk]; omega
      have hki : (0 : Int) ≤ (k : Int) := by omega
      have hki2 : (k : Int) < 40 := by omega
      have HAT : Hid (∀ W, W.heap = wr.heap → Calls Try.prog 73 #[.pointer (some ⟨B, o, none⟩), .int .i64 j] W fun e w' => e = .returned (.int .i64 k) ∧ w' = W) := fun W hW => by
        rw [hk]; exact ring_at B o f j hff (by omega) ((World.cell?_of_block (w := wr) (a := ⟨B, o + 160, none⟩) (by rw [hW])).trans hf0)
      rw [← hk] at e0 e1 e2 e3
      have HTK : Hid (ws.take (j + 1) = ws.take j ++ [ws[j]]) := row_list ws j hlx
      have HLE : Hid (((ws.take j).map cwt).length ≤ 40) := by show _ ≤ _; simp; omega
      have hws := HB.out.size
      obtain ⟨nl, hnl⟩ : ∃ n, n = ((ws.take j).map cwt).length := ⟨_, rfl⟩
      have HP : Hid (∀ (v' : Value) (w1 W : World) (u : Value) (x : Wt), Wts w.heap.size wr u (ws.take j) → Below wr.heap.size wr W → w1.ownsRow w.heap.size 67 4 v' (nl + 1) (((ws.take j).map cwt).flatten ++ cwt x) → W.grownBy w1 u.ownBlock → Wts w.heap.size w1 v' (ws.take j ++ [x]) ∧ Below w.heap.size w w1) := fun v' w1 W u x h hW h1 h2 => push_wts h HB.out hws (by rw [← hnl]; exact h1) hW h2
      have HZ : Hid (∀ W, Below w.heap.size w W → W.cell? ⟨B, o + k * 4, none⟩ = some (.int .i64 ws[j].1.1) ∧ W.cell? ⟨B, o + k * 4 + 1, none⟩ = some (.int .i64 ws[j].1.2.1) ∧ W.cell? ⟨B, o + k * 4 + 2, none⟩ = some (.int .i64 ws[j].1.2.2) ∧ W.cell? ⟨B, o + k * 4 + 3, none⟩ = some (.int .i64 ws[j].2)) := fun W hW => by rw [hk]; exact (HC.out W hW).2 j hlx
      clear hc hk
      generalize ws[j] = x at *
      obtain ⟨⟨p0, p1, p2⟩, p3⟩ := x
      simp only at e0 e1 e2 e3 HZ
      generalize ws.take j = L at *
      obtain ⟨a0, c0, hv0, -⟩ := HR.out.form
      have HNL : Hid ((L.map cwt).length = nl) := hnl.symm
      rw [← hnl] at hv0 HLE
      clear hnl
      subst hv0
      have A4 : Hid (nl + 1 ≤ maxLen ∧ (nl + 1) * 32 ≤ 140737488355328) := by have h40 := HLE.out; refine ⟨?_, ?_⟩ <;> (try unfold maxLen) <;> omega
      have A6 : Hid (w.heap.size ≤ (wr.alloc (.cells #[.int .i64 p0, .int .i64 p1, .int .i64 p2, .int .i64 p3] 67)).heap.size) := by show _ ≤ _; simp; omega
      have HOW : Hid (wr.ownsRow w.heap.size 67 4 (.slice a0 nl c0) nl (L.map cwt).flatten) := by have := HR.out.row; rw [HNL.out] at this; exact this
      clear e0 e1 e2 e3
      go_wp2_with fail
      go_region_held3 (fun W => W.cell? ⟨B, o + k * 4, none⟩ = some (.int .i64 p0) ∧ W.cell? ⟨B, o + k * 4 + 1, none⟩ = some (.int .i64 p1) ∧ W.cell? ⟨B, o + k * 4 + 2, none⟩ = some (.int .i64 p2) ∧ W.cell? ⟨B, o + k * 4 + 3, none⟩ = some (.int .i64 p3))
        (first | (with_reducible assumption) | (refine HZ.out _ ?_; (with_reducible (repeat' first | exact HQ.out.2 | exact HB.out | refine bdd ?_ | refine bda ?_ _))))
        (first
          | (go_at_call 73; refine Calls.mono (HAT.out _ rfl) ?_; rintro e w1 ⟨rfl, rfl⟩)
          | (rw [if_pos (by rfl)]; refine wp_append_own _ (.tmp 12) (.tmp 21) 81 rfl w.heap.size 67 i0 (.agg #[.int .i64 0, .int .i64 0, .int .i64 0, .int .i64 0]) 4 32 Try.underlying81 hi hz0 hz1 hz2 rfl (by decide) _ nl _ rfl (HOW.out.alloc _) ⟨wr.heap.size, 0, none⟩ 1 1 (cwt ((p0, p1, p2), p3)) rfl rfl (new_cells wr (cwt ((p0, p1, p2), p3)) _) (cwt_one _) A4.out.1 A4.out.2 A6.out ?_; (refine fun v' w3 hown hgrow _ => ?_); (have HQ : Hid (Wts w.heap.size w3 v' (L ++ [((p0, p1, p2), p3)]) ∧ Below w.heap.size w w3) := HP.out v' w3 _ _ ((p0, p1, p2), p3) HR.out (bdd (below_one wr _)) hown hgrow); (clear hown hgrow)))
      go_wp2_with fail
      go_roundw
      case rel => exact ⟨j + 1, by omega, by go_num, by rw [HTK.out]; exact HQ.out.1, HQ.out.2⟩
      case measure => simp [intOf]; omega
    · obtain rfl : j = n := by omega
      have HE : Hid (ws.take j = ws) := by rw [Hid, HN.out]; exact HALL.out
      go_wp2_with fail
      go_ret
      exact ⟨_, rfl, by rw [← HE.out]; exact HR.out, HB.out⟩
end Go.Proofs.Ytnkkkdhpopfahaa.sch
