/-
  Replies (five numbers and a list of handles each): made anew by the laws' helpers, measured, compared. No condition but their lengths.
-/
import Derived.Test.YtlojigfhbfemfaaDoorRowHandle
import Derived.Test.YtlojigfhbfemfaaDoorNest
namespace Go.Proofs.YtlojigfhbfemfaaDoor.deep
open Go.RowKit Go.Deep Go.Sort
set_option linter.unusedVariables false
set_option maxRecDepth 100000

structure RepD where
  q0 : Int
  q1 : Int
  q2 : Int
  q3 : Int
  q4 : Int
  hs : List Thd
def rcells (x : RepD) (v : Value) : List Value := [.int .i64 x.q0, .int .i64 x.q1, .int .i64 x.q2, .int .i64 x.q3, .int .i64 x.q4, v]
def RepE : Reader RepD := fun lo w cs x => ∃ v, cs = rcells x v ∧ RowE (Plain chd) 3 lo w v x.hs
/-- and its list may be written -/
def RepF : Reader RepD := fun lo w cs x => ∃ v, cs = rcells x v ∧ RowE (Plain chd) 3 lo w v x.hs ∧ Free w v
theorem rep_stays : Stays RepE := fun lo w w' cs x h hk => by
  obtain ⟨v, rfl, h⟩ := h
  exact ⟨v, rfl, rowE_stays (plain_stays _) h hk⟩
theorem rep_lowers : Lowers RepE := fun lo lo' w cs x h hl => by
  obtain ⟨v, rfl, h⟩ := h
  exact ⟨v, rfl, rowE_lowers (plain_lowers _) h hl⟩
theorem repF_stays : Stays RepF := fun lo w w' cs x h hk => by
  obtain ⟨v, rfl, h, hf⟩ := h
  exact ⟨v, rfl, rowE_stays (plain_stays _) h hk, free_keep hf (row_spot h) hk⟩
theorem rep_of {lo : Nat} {w : World} {cs : List Value} {x : RepD} (h : RepF lo w cs x) : RepE lo w cs x := by
  obtain ⟨v, rfl, h, _⟩ := h
  exact ⟨v, rfl, h⟩
/-- a reply of a row, cell by cell -/
theorem rep_at {lo : Nat} {w : World} {xs : List RepD} {g o i : Nat} {hi : i < xs.length} (h : ∃ cs : List Value, cs.length = 6 ∧ (∀ j, j < 6 → w.cell? ⟨g, o + i * 6 + j, none⟩ = cs[j]?) ∧ RepE lo w cs xs[i]) :
    ∃ v, RowE (Plain chd) 3 lo w v xs[i].hs ∧ ∀ j, j < 6 → w.cell? ⟨g, o + i * 6 + j, none⟩ = (rcells xs[i] v)[j]? := by
  obtain ⟨cs, _, h1, v, rfl, h2⟩ := h
  exact ⟨v, h2, h1⟩
def bulkRTo (xs : List RepD) (j : Nat) : Nat := ((xs.take j).map fun s => s.hs.length).sum
def bulkR (xs : List RepD) : Nat := bulkRTo xs xs.length
theorem bulkR_step (xs : List RepD) (j : Nat) (h : j < xs.length) : bulkRTo xs (j + 1) = bulkRTo xs j + xs[j].hs.length := by
  simp only [bulkRTo]
  rw [List.take_add_one, List.getElem?_eq_getElem h, List.map_append, List.sum_append]; simp
theorem bulkR_le (xs : List RepD) : ∀ d j, j + d = xs.length → bulkRTo xs j ≤ bulkR xs
  | 0, j, h => by
    have e : j = xs.length := by omega
    rw [e]; exact Nat.le_refl _
  | d + 1, j, h => Nat.le_trans (by rw [bulkR_step xs j (by omega)]; omega) (bulkR_le xs d (j + 1) (by omega))
theorem bulkR_one (xs : List RepD) (i : Nat) (h : i < xs.length) : xs[i].hs.length ≤ bulkR xs := by
  have h1 := bulkR_le xs (xs.length - (i + 1)) (i + 1) (by omega)
  rw [bulkR_step xs i h] at h1
  omega
theorem six {W : World} {B t : Nat} {a0 a1 a2 a3 a4 a5 : Value} (h : Blk W B t [a0, a1, a2, a3, a4, a5]) : W.cell? ⟨B, 0, none⟩ = some a0 ∧ W.cell? ⟨B, 1, none⟩ = some a1 ∧ W.cell? ⟨B, 2, none⟩ = some a2 ∧ W.cell? ⟨B, 3, none⟩ = some a3 ∧ W.cell? ⟨B, 4, none⟩ = some a4 ∧ W.cell? ⟨B, 5, none⟩ = some a5 :=
  ⟨h.cell 0, h.cell 1, h.cell 2, h.cell 3, h.cell 4, h.cell 5⟩
theorem six_free {W : World} {B t : Nat} {cs : List Value} (h : Blk W B t cs) : W.frozen? ⟨B, 0, none⟩ = false ∧ W.frozen? ⟨B, 1, none⟩ = false ∧ W.frozen? ⟨B, 2, none⟩ = false ∧ W.frozen? ⟨B, 3, none⟩ = false ∧ W.frozen? ⟨B, 4, none⟩ = false ∧ W.frozen? ⟨B, 5, none⟩ = false :=
  ⟨h.free 0, h.free 1, h.free 2, h.free 3, h.free 4, h.free 5⟩

/-- measured -/
theorem sz_rep (q0 q1 q2 q3 q4 : Int) {lo : Nat} {w : World} {v : Value} {hs : List Thd} (h : RowE (Plain chd) 3 lo w v hs) (k : Int) (hk0 : 0 ≤ k) (hk1 : k ≤ 1048576) : Calls Tryd.prog 16 #[.agg #[.int .i64 q0, .int .i64 q1, .int .i64 q2, .int .i64 q3, .int .i64 q4, v], .int .i64 k] w fun e w' => e = .returned (.int .i64 (if (hs.length : Int) ≤ k then k - hs.length else -1)) ∧ Below w.heap.size w w' := by
  obtain ⟨a, c, rfl, hml⟩ := h.form
  unfold maxLen at hml
  have HS : Hid (∀ W, Calls Tryd.prog 38 #[.slice a hs.length c, .int .i64 k] W fun e w' => e = .returned (.int .i64 (if (hs.length : Int) ≤ k then k - hs.length else -1)) ∧ w' = W) := fun W => sz_hds a hs.length c k (by omega) hk0 hk1 W
  generalize hs.length = n at *
  clear h
  by_cases hk : (n : Int) ≤ k
  · rw [if_pos hk] at HS ⊢
    go_enter Tryd.func16, Tryd.ntmps16
    go_wp2_with fail
    refine Calls.mono (HS.out _) ?_
    rintro e w1 ⟨rfl, rfl⟩
    go_wp2_with fail
    go_ret
    exact ⟨rfl, below_one _ _⟩
  · rw [if_neg hk] at HS ⊢
    go_enter Tryd.func16, Tryd.ntmps16
    go_wp2_with fail
    refine Calls.mono (HS.out _) ?_
    rintro e w1 ⟨rfl, rfl⟩
    go_wp2_with fail
    go_ret
    exact ⟨rfl, below_one _ _⟩

/-- made anew -/
def ToRep (x : RepD) (w : World) (e : Ending) (w' : World) : Prop := ∃ v, e = .returned (.agg (rcells x v).toArray) ∧ RowE (Plain chd) 3 w.heap.size w' v x.hs ∧ Free w' v ∧ Below w.heap.size w w'
set_option maxHeartbeats 2000000 in
theorem to_rep (q0 q1 q2 q3 q4 : Int) {lo : Nat} {w : World} {v : Value} {hs : List Thd} (h : RowE (Plain chd) 3 lo w v hs) (hn : hs.length ≤ 1048576) : Calls Tryd.prog 18 #[.agg #[.int .i64 q0, .int .i64 q1, .int .i64 q2, .int .i64 q3, .int .i64 q4, v]] w (ToRep ⟨q0, q1, q2, q3, q4, hs⟩ w) := by
  have HT : Hid (∀ (p0 p1 p2 : Int) W, Calls Tryd.prog 39 #[.agg #[.int .i64 p0, .int .i64 p1, .int .i64 p2]] W fun e w' => e = .returned (.agg #[.int .i64 p0, .int .i64 p1, .int .i64 p2]) ∧ Below W.heap.size W w') := fun p0 p1 p2 W => (to_hd p0 p1 p2 W).mono fun e w' h => ⟨h.1, by rw [h.2]; exact below3 _ _ _ _⟩
  have HL : Hid (∀ W, Below w.heap.size w W → Calls Tryd.prog 40 #[v] W (TohdsF hs W)) := fun W hW => to_hdsF (h.below (plain_stays _) hW) hn
  obtain ⟨a, c, rfl, _⟩ := h.form
  generalize hs.length = n at *
  clear h
  go_enter Tryd.func18, Tryd.ntmps18
  go_wp2_with fail
  refine Calls.mono (HT.out _ _ _ _) ?_
  rintro e w1 ⟨rfl, hb1⟩
  have F := blk3 w [.int .i64 q0, .int .i64 q1, .int .i64 q2, .int .i64 q3, .int .i64 q4, .slice a n c] [.int .i64 0, .int .i64 0, .int .i64 0, .int .i64 0, .int .i64 0, .slice none 0 0] [.int .i64 q0, .int .i64 q1, .int .i64 0, .int .i64 0, .int .i64 0, .slice none 0 0] 44 50 50
  have HA1 : Hid (Blk w1 w.heap.size 44 [.int .i64 q0, .int .i64 q1, .int .i64 q2, .int .i64 q3, .int .i64 q4, .slice a n c]) := F.1.later hb1
  have HR1 : Hid (Blk w1 (w.heap.size + 1) 50 [.int .i64 0, .int .i64 0, .int .i64 0, .int .i64 0, .int .i64 0, .slice none 0 0]) := F.2.1.later hb1
  have HO1 : Hid (Blk w1 (w.heap.size + 1 + 1) 50 [.int .i64 q0, .int .i64 q1, .int .i64 0, .int .i64 0, .int .i64 0, .slice none 0 0]) := F.2.2.later hb1
  have HB1 : Hid (Below w.heap.size w w1) := below_tr (below3 w _ _ _) hb1
  have hs1 : w.heap.size + 3 ≤ w1.heap.size := by have := hb1.size; simp at this; omega
  clear hb1 F
  obtain ⟨a0, a1, a2, a3, a4, a5⟩ := six HA1.out
  obtain ⟨o0, o1, o2, o3, o4, o5⟩ := six HO1.out
  obtain ⟨y0, y1, y2, y3, y4, y5⟩ := six_free HO1.out
  go_wp2_with fail
  have HP1 : Hid (Below w.heap.size w (putW w1 (w.heap.size + 1 + 1) 2 [.int .i64 q2, .int .i64 q3, .int .i64 q4])) := putW_below _ HB1.out (by omega)
  refine Calls.mono (HL.out _ HP1.out) ?_
  rintro e w2 ⟨v2, rfl, hr2, hb2, hf2⟩
  obtain ⟨a2', c2', hv2, _⟩ := hr2.form
  have HRV : Hid (RowE (Plain chd) 3 (w1.heap.size) w2 v2 hs) := rowE_lowers (plain_lowers _) hr2 (by show _ ≤ (putW w1 (w.heap.size + 1 + 1) 2 [.int .i64 q2, .int .i64 q3, .int .i64 q4]).heap.size; rw [putW_size]; exact Nat.le_refl _)
  have HFV : Hid (Free w2 v2) := hf2
  have HR2 : Hid (Blk w2 (w.heap.size + 1) 50 [.int .i64 0, .int .i64 0, .int .i64 0, .int .i64 0, .int .i64 0, .slice none 0 0]) := (HR1.out.other [.int .i64 q2, .int .i64 q3, .int .i64 q4] (w.heap.size + 1 + 1) 2 (by omega)).later hb2
  have HO2 : Hid (Blk w2 (w.heap.size + 1 + 1) 50 [.int .i64 q0, .int .i64 q1, .int .i64 q2, .int .i64 q3, .int .i64 q4, .slice none 0 0]) := (HO1.out.put [.int .i64 q2, .int .i64 q3, .int .i64 q4] 2).later hb2
  have HB2 : Hid (Below w.heap.size w w2) := below_tr HP1.out hb2
  have hs2 : w.heap.size + 3 ≤ w2.heap.size := by have := Nat.le_trans (Nat.le_of_eq (putW_size [.int .i64 q2, .int .i64 q3, .int .i64 q4] w1 (w.heap.size + 1 + 1) 2).symm) hb2.size; omega
  obtain ⟨n2, hn2⟩ : ∃ n, n = hs.length := ⟨_, rfl⟩
  rw [← hn2] at hv2
  clear hb2 hr2 hf2 HA1 HR1 HO1 HP1 HB1 a0 a1 a2 a3 a4 a5 o0 o1 o2 o3 o4 o5 y0 y1 y2 y3 y4 y5 hn2
  subst hv2
  obtain ⟨o0, o1, o2, o3, o4, o5⟩ := six HO2.out
  obtain ⟨y0, y1, y2, y3, y4, y5⟩ := six_free HO2.out
  obtain ⟨r0, r1, r2, r3, r4, r5⟩ := six HR2.out
  obtain ⟨u0, u1, u2, u3, u4, u5⟩ := six_free HR2.out
  go_wp2_with fail
  refine bodyPost_ret (v := .agg #[.int .i64 q0, .int .i64 q1, .int .i64 q2, .int .i64 q3, .int .i64 q4, .slice a2' n2 c2']) (by simp [results, Tryd.results18, go_sem, r0, r1, r2, r3, r4, r5]) rfl ⟨_, rfl, ?_, ?_, ?_⟩
  · exact rowE_lowers (plain_lowers _) (rowE_stays (plain_stays _) HRV.out ((putW_keep [.slice a2' n2 c2'] w2 (w.heap.size + 1 + 1) 5 _ (by omega)).trans (putW_keep [.int .i64 q0, .int .i64 q1, .int .i64 q2, .int .i64 q3, .int .i64 q4, .slice a2' n2 c2'] _ (w.heap.size + 1) 0 _ (by omega)))) (by omega)
  · exact free_keep HFV.out (row_spot HRV.out) ((putW_keep [.slice a2' n2 c2'] w2 (w.heap.size + 1 + 1) 5 _ (by omega)).trans (putW_keep [.int .i64 q0, .int .i64 q1, .int .i64 q2, .int .i64 q3, .int .i64 q4, .slice a2' n2 c2'] _ (w.heap.size + 1) 0 _ (by omega)))
  · exact putW_below [.int .i64 q0, .int .i64 q1, .int .i64 q2, .int .i64 q3, .int .i64 q4, .slice a2' n2 c2'] (putW_below [.slice a2' n2 c2'] (b := 5) HB2.out (g := w.heap.size + 1 + 1) (by omega)) (by omega) (b := 0)
def zrep : List Value := [.int .i64 0, .int .i64 0, .int .i64 0, .int .i64 0, .int .i64 0, .slice none 0 0]
theorem info_rep : (Tryd.prog.info? 50).map (fun i => (i.zero, i.size, i.bytes)) = some (some (.agg #[.int .i64 0, .int .i64 0, .int .i64 0, .int .i64 0, .int .i64 0, .slice none 0 0]), 6, 64) := by kernel_rfl

set_option maxHeartbeats 2000000 in
/-- compared -/
theorem eq_rep (q0 q1 q2 q3 q4 : Int) (hs : List Thd) {l1 l2 : Nat} {w : World} {v u : Value} (h1 : RowE (Plain chd) 3 l1 w v hs) (h2 : RowE (Plain chd) 3 l2 w u hs) : Calls Tryd.prog 20 #[.agg #[.int .i64 q0, .int .i64 q1, .int .i64 q2, .int .i64 q3, .int .i64 q4, v], .agg #[.int .i64 q0, .int .i64 q1, .int .i64 q2, .int .i64 q3, .int .i64 q4, u]] w fun e w' => e = .returned (.bool true) ∧ Below w.heap.size w w' := by
  have HA : Hid (∀ (p0 p1 p2 : Int) W, Calls Tryd.prog 42 #[.agg #[.int .i64 p0, .int .i64 p1, .int .i64 p2], .agg #[.int .i64 p0, .int .i64 p1, .int .i64 p2]] W fun e w' => e = .returned (.bool true) ∧ Below W.heap.size W w') := fun p0 p1 p2 W => (eq_hd p0 p1 p2 W).mono fun e w' h => ⟨h.1, by rw [h.2]; exact below2 _ _ _⟩
  have HE : Hid (∀ W, Below w.heap.size w W → Calls Tryd.prog 43 #[v, u] W fun e w' => e = .returned (.bool true) ∧ Below W.heap.size W w') := fun W hW => eq_hds (h1.below (plain_stays _) hW) (h2.below (plain_stays _) hW)
  obtain ⟨a, c, qv, _⟩ := h1.form
  obtain ⟨b, d, qu, _⟩ := h2.form
  generalize hs.length = n at *
  subst qv qu
  clear h1 h2
  go_enter Tryd.func20, Tryd.ntmps20
  go_wp2_with fail
  refine Calls.mono (HA.out _ _ _ _) ?_
  rintro e w1 ⟨rfl, hb1⟩
  have F := blk2 w [.int .i64 q0, .int .i64 q1, .int .i64 q2, .int .i64 q3, .int .i64 q4, .slice a n c] [.int .i64 q0, .int .i64 q1, .int .i64 q2, .int .i64 q3, .int .i64 q4, .slice b n d] 50 50
  have HX1 : Hid (Blk w1 w.heap.size 50 [.int .i64 q0, .int .i64 q1, .int .i64 q2, .int .i64 q3, .int .i64 q4, .slice a n c]) := F.1.later hb1
  have HY1 : Hid (Blk w1 (w.heap.size + 1) 50 [.int .i64 q0, .int .i64 q1, .int .i64 q2, .int .i64 q3, .int .i64 q4, .slice b n d]) := F.2.later hb1
  have HB1 : Hid (Below w.heap.size w w1) := below_tr (below2 w _ _) hb1
  clear hb1 F
  obtain ⟨c0, c1, c2, c3, c4, c5⟩ := six HX1.out
  obtain ⟨d0, d1, d2, d3, d4, d5⟩ := six HY1.out
  go_wp2_with fail
  refine Calls.mono (HE.out _ HB1.out) ?_
  rintro e w2 ⟨rfl, hb2⟩
  have HB2 : Hid (Below w.heap.size w w2) := below_tr HB1.out hb2
  clear hb2
  go_wp2_with fail
  go_ret
  exact ⟨rfl, HB2.out⟩

end Go.Proofs.YtlojigfhbfemfaaDoor.deep
