/-
  Replies (five numbers and a list of handles each): made anew by the laws' helpers, measured, compared. No condition but their lengths.
-/
import Derived.Test.YtpehmphcnimegaaRowHandle
import Derived.Test.YtpehmphcnimegaaNest
namespace Go.Proofs.Ytpehmphcnimegaa.deep
open Go.RowKit Go.Deep Go.Sort
set_option linter.unusedVariables false
set_option maxRecDepth 100000

structure RepD where
  q0 : Int
  q1 : Int
  q2 : Int
  q3 : Int
  q4 : Int
  hs : List Thd
def rcells (x : RepD) (v : Value) : List Value := [.int .i64 x.q0, .int .i64 x.q1, .int .i64 x.q2, .int .i64 x.q3, .int .i64 x.q4, v]
def RepE : Reader RepD := fun lo w cs x => ∃ v, cs = rcells x v ∧ RowE (Plain chd) 3 lo w v x.hs
/-- and its list may be written -/
def RepF : Reader RepD := fun lo w cs x => ∃ v, cs = rcells x v ∧ RowE (Plain chd) 3 lo w v x.hs ∧ Free w v
theorem rep_stays : Stays RepE := fun lo w w' cs x h hk => by
  obtain ⟨v, rfl, h⟩ := h
  exact ⟨v, rfl, rowE_stays (plain_stays _) h hk⟩
theorem rep_lowers : Lowers RepE := fun lo lo' w cs x h hl => by
  obtain ⟨v, rfl, h⟩ := h
  exact ⟨v, rfl, rowE_lowers (plain_lowers _) h hl⟩
theorem repF_stays : Stays RepF := fun lo w w' cs x h hk => by
  obtain ⟨v, rfl, h, hf⟩ := h
  exact ⟨v, rfl, rowE_stays (plain_stays _) h hk, free_keep hf (row_spot h) hk⟩
theorem rep_of {lo : Nat} {w : World} {cs : List Value} {x : RepD} (h : RepF lo w cs x) : RepE lo w cs x := by
  obtain ⟨v, rfl, h, _⟩ := h
  exact ⟨v, rfl, h⟩
/-- a reply of a row, cell by cell -/
theorem rep_at {lo : Nat} {w : World} {xs : List RepD} {g o i : Nat} {hi : i < xs.length} (h : ∃ cs : List Value, cs.length = 6 ∧ (∀ j, j < 6 → w.cell? ⟨g, o + i * 6 + j, none⟩ = cs[j]?) ∧ RepE lo w cs xs[i]) :
    ∃ v, RowE (Plain chd) 3 lo w v xs[i].hs ∧ ∀ j, j < 6 → w.cell? ⟨g, o + i * 6 + j, none⟩ = (rcells xs[i] v)[j]? := by
  obtain ⟨cs, _, h1, v, rfl, h2⟩ := h
  exact ⟨v, h2, h1⟩
def bulkRTo (xs : List RepD) (j : Nat) : Nat := ((xs.take j).map fun s => s.hs.length).sum
def bulkR (xs : List RepD) : Nat := bulkRTo xs xs.length
theorem bulkR_step (xs : List RepD) (j : Nat) (h : j < xs.length) : bulkRTo xs (j + 1) = bulkRTo xs j + xs[j].hs.length := by
  simp only [bulkRTo]
  rw [List.take_add_one, List.getElem?_eq_getElem h, List.map_append, List.sum_append]; simp
theorem bulkR_le (xs : List RepD) : ∀ d j, j + d = xs.length → bulkRTo xs j ≤ bulkR xs
  | 0, j, h => by
    have e : j = xs.length := by omega
    rw [e]; exact Nat.le_refl _
  | d + 1, j, h => Nat.le_trans (by rw [bulkR_step xs j (by omega)]; omega) (bulkR_le xs d (j + 1) (by omega))
theorem bulkR_one (xs : List RepD) (i : Nat) (h : i < xs.length) : xs[i].hs.length ≤ bulkR xs := by
  have h1 := bulkR_le xs (xs.length - (i + 1)) (i + 1) (by omega)
  rw [bulkR_step xs i h] at h1
  omega
theorem six {W : World} {B t : Nat} {a0 a1 a2 a3 a4 a5 : Value} (h : Blk W B t [a0, a1, a2, a3, a4, a5]) : W.cell? ⟨B, 0, none⟩ = some a0 ∧ W.cell? ⟨B, 1, none⟩ = some a1 ∧ W.cell? ⟨B, 2, none⟩ = some a2 ∧ W.cell? ⟨B, 3, none⟩ = some a3 ∧ W.cell? ⟨B, 4, none⟩ = some a4 ∧ W.cell? ⟨B, 5, none⟩ = some a5 :=
  ⟨h.cell 0, h.cell 1, h.cell 2, h.cell 3, h.cell 4, h.cell 5⟩
theorem six_free {W : World} {B t : Nat} {cs : List Value} (h : Blk W B t cs) : W.frozen? ⟨B, 0, none⟩ = false ∧ W.frozen? ⟨B, 1, none⟩ = false ∧ W.frozen? ⟨B, 2, none⟩ = false ∧ W.frozen? ⟨B, 3, none⟩ = false ∧ W.frozen? ⟨B, 4, none⟩ = false ∧ W.frozen? ⟨B, 5, none⟩ = false :=
  ⟨h.free 0, h.free 1, h.free 2, h.free 3, h.free 4, h.free 5⟩

/-- measured -/
theorem sz_rep (q0 q1 q2 q3 q4 : Int) {lo : Nat} {w : World} {v : Value} {hs : List Thd} (h : RowE (Plain chd) 3 lo w v hs) (k : Int) (hk0 : 0 ≤ k) (hk1 : k ≤ 1048576) : Calls Try.prog 23 #[.agg #[.int .i64 q0, .int .i64 q1, .int .i64 q2, .int .i64 q3, .int .i64 q4, v], .int .i64 k] w fun e w' => e = .returned (.int .i64 (if (hs.length : Int) ≤ k then k - hs.length else -1)) ∧ Below w.heap.size w w' := by
  obtain ⟨a, c, rfl, hml⟩ := h.form
  unfold maxLen at hml
  have HS : Hid (∀ W, Calls Try.prog 35 #[.slice a hs.length c, .int .i64 k] W fun e w' => e = .returned (.int .i64 (if (hs.length : Int) ≤ k then k - hs.length else -1)) ∧ w' = W) := fun W => sz_hds a hs.length c k (by omega) hk0 hk1 W
  generalize hs.length = n at *
  clear h
  by_cases hk : (n : Int) ≤ k
  · rw [if_pos hk] at HS ⊢
    go_enter Try.func23, Try.ntmps23
    go_wp2_with fail
    refine Calls.mono (HS.out _) ?_
    rintro e w1 ⟨rfl, rfl⟩
    go_wp2_with fail
    go_ret
    exact ⟨rfl, below_one _ _⟩
  · rw [if_neg hk] at HS ⊢
    go_enter Try.func23, Try.ntmps23
    go_wp2_with fail
    refine Calls.mono (HS.out _) ?_
    rintro e w1 ⟨rfl, rfl⟩
    go_wp2_with fail
    go_ret
    exact ⟨rfl, below_one _ _⟩

set_option maxHeartbeats 2000000 in
theorem sz_reps {lo : Nat} {w : World} {v : Value} {xs : List RepD} (h : RowE RepE 6 lo w v xs) (k : Int) (hk0 : 0 ≤ k) (hk1 : k ≤ 1048576) : Calls Try.prog 12 #[v, .int .i64 k] w fun e w' => e = .returned (.int .i64 (if ((xs.length + bulkR xs : Nat) : Int) ≤ k then k - ((xs.length + bulkR xs : Nat) : Int) else -1)) ∧ Below w.heap.size w w' := by
  obtain ⟨a, c, rfl, hml, h3⟩ := h
  unfold maxLen at hml
  obtain ⟨n, hx⟩ : ∃ n, n = xs.length := ⟨_, rfl⟩
  have H3 : Hid (0 < xs.length → ∃ g o, a = some ⟨g, o, none⟩ ∧ lo ≤ g ∧ g < w.heap.size ∧ ∀ i (hi : i < xs.length), ∃ cs : List Value, cs.length = 6 ∧ (∀ j, j < 6 → w.cell? ⟨g, o + i * 6 + j, none⟩ = cs[j]?) ∧ RepE lo w cs xs[i]) := h3
  have HX : Hid (n = xs.length) := hx
  rw [← hx] at hml ⊢
  clear h3 hx
  obtain ⟨rv, hrv⟩ : ∃ r : Int, r = (if ((n + bulkR xs : Nat) : Int) ≤ k then k - ((n + bulkR xs : Nat) : Int) else -1) := ⟨_, rfl⟩
  have HRV : Hid (rv = (if ((n + bulkR xs : Nat) : Int) ≤ k then k - ((n + bulkR xs : Nat) : Int) else -1)) := hrv
  rw [← hrv]
  clear hrv
  by_cases hnk : (n : Int) ≤ k
  · go_enter Try.func12, Try.ntmps12
    go_wp2_with fail
    go_loopw [1, 5] (fun t1 t5 wr => ∃ j : Nat, j ≤ n ∧ t5 = .int .i64 j ∧ t1 = .int .i64 (k - n - bulkRTo xs j) ∧ (bulkRTo xs j : Int) ≤ k - n ∧ Hid (Below w.heap.size w wr)) (fun _ t5 _ => n - (intOf t5).toNat)
    case atStart => exact ⟨0, by omega, rfl, by simp [bulkRTo], by simp [bulkRTo]; omega, Below.refl _ _⟩
    case round =>
      obtain ⟨j, hj, rfl, rfl, hbj, HB⟩ := hrel
      by_cases hlt : j < n
      · have hlx : j < xs.length := by rw [← HX.out]; exact hlt
        obtain ⟨g, o, rfl, _, hg, hc3⟩ := H3.out (by omega)
        obtain ⟨v, hl, hc⟩ := rep_at (hc3 j hlx)
        have HST : Hid (bulkRTo xs (j + 1) = bulkRTo xs j + xs[j].hs.length) := bulkR_step xs j hlx
        have HLE : Hid (bulkRTo xs (j + 1) ≤ bulkR xs) := bulkR_le xs (xs.length - (j + 1)) (j + 1) (by omega)
        clear hc3
        generalize xs[j] = x at *
        obtain ⟨q0, q1, q2, q3, q4, hs⟩ := x
        simp only at HST hl
        have HS : Hid (∀ W, Below w.heap.size w W → Calls Try.prog 23 #[.agg #[.int .i64 q0, .int .i64 q1, .int .i64 q2, .int .i64 q3, .int .i64 q4, v], .int .i64 (k - n - bulkRTo xs j)] W fun e w' => e = .returned (.int .i64 (if (hs.length : Int) ≤ k - n - bulkRTo xs j then k - n - bulkRTo xs j - hs.length else -1)) ∧ Below W.heap.size W w') := fun W hW => sz_rep q0 q1 q2 q3 q4 (hl.below (plain_stays _) hW) _ (by omega) (by omega)
        generalize bulkRTo xs j = bt at *
        obtain ⟨bt2, hbt2⟩ : ∃ q, q = bulkRTo xs (j + 1) := ⟨_, rfl⟩
        have HBT : Hid (bt2 = bulkRTo xs (j + 1)) := hbt2
        rw [← hbt2] at HST HLE
        clear hbt2
        obtain ⟨ah, ch, qh, _⟩ := hl.form
        generalize hs.length = b at *
        subst qh
        have e0 : wr.cell? ⟨g, o + j * 6, none⟩ = some (.int .i64 q0) := (HB.out.cell (p := ⟨g, o + j * 6, none⟩) hg).trans (hc 0 (by decide))
        have e1 : wr.cell? ⟨g, o + j * 6 + 1, none⟩ = some (.int .i64 q1) := (HB.out.cell (p := ⟨g, o + j * 6 + 1, none⟩) hg).trans (hc 1 (by decide))
        have e2 : wr.cell? ⟨g, o + j * 6 + 2, none⟩ = some (.int .i64 q2) := (HB.out.cell (p := ⟨g, o + j * 6 + 2, none⟩) hg).trans (hc 2 (by decide))
        have e3 : wr.cell? ⟨g, o + j * 6 + 3, none⟩ = some (.int .i64 q3) := (HB.out.cell (p := ⟨g, o + j * 6 + 3, none⟩) hg).trans (hc 3 (by decide))
        have e4 : wr.cell? ⟨g, o + j * 6 + 4, none⟩ = some (.int .i64 q4) := (HB.out.cell (p := ⟨g, o + j * 6 + 4, none⟩) hg).trans (hc 4 (by decide))
        have e5 : wr.cell? ⟨g, o + j * 6 + 5, none⟩ = some (.slice ah b ch) := (HB.out.cell (p := ⟨g, o + j * 6 + 5, none⟩) hg).trans (hc 5 (by decide))
        clear hl hc
        by_cases hfit : (b : Int) ≤ k - n - bt
        · rw [if_pos hfit] at HS
          go_wp2_with fail
          refine Calls.mono (HS.out _ HB.out) ?_
          rintro e w2 ⟨rfl, hb2⟩
          have HB2 : Hid (Below w.heap.size w w2) := below_tr HB.out hb2
          clear hb2
          go_wp2_with fail
          go_roundw
          case rel => exact ⟨j + 1, by omega, by go_num, by rw [← HBT.out, HST.out]; go_num, by rw [← HBT.out, HST.out]; omega, HB2.out⟩
          case measure => simp [intOf]; omega
        · rw [if_neg hfit] at HS
          have HNO : Hid (¬ (((n + bulkR xs : Nat) : Int) ≤ k)) := by
            have h1 := HST.out
            have h2 := HLE.out
            show ¬ _
            omega
          go_wp2_with fail
          refine Calls.mono (HS.out _ HB.out) ?_
          rintro e w2 ⟨rfl, hb2⟩
          have HB2 : Hid (Below w.heap.size w w2) := below_tr HB.out hb2
          clear hb2
          go_wp2_with fail
          go_ret
          exact ⟨by rw [HRV.out, if_neg (by have := HNO.out; omega)]; rfl, HB2.out⟩
      · obtain rfl : j = n := by omega
        have HE : Hid (bulkRTo xs j = bulkR xs) := by rw [HX.out]; rfl
        have HYES : Hid (((j + bulkR xs : Nat) : Int) ≤ k) := by
          have := HE.out
          show _ ≤ _
          omega
        have HV : Hid (k - j - bulkRTo xs j = k - ((j + bulkR xs : Nat) : Int)) := by
          have := HE.out
          show _ = _
          omega
        go_wp2_with fail
        go_ret
        exact ⟨by rw [HRV.out, if_pos (by have := HYES.out; omega), ← HV.out]; rfl, HB.out⟩
  · have hno : ¬ (((n + bulkR xs : Nat) : Int) ≤ k) := by omega
    have HNO : Hid (rv = -1) := by rw [HRV.out, if_neg hno]; exact rfl
    clear hno
    go_enter Try.func12, Try.ntmps12
    go_wp2_with fail
    go_ret
    exact ⟨by rw [HNO.out]; rfl, Below.refl _ _⟩

/-- made anew -/
def ToRep (x : RepD) (w : World) (e : Ending) (w' : World) : Prop := ∃ v, e = .returned (.agg (rcells x v).toArray) ∧ RowE (Plain chd) 3 w.heap.size w' v x.hs ∧ Free w' v ∧ Below w.heap.size w w'
set_option maxHeartbeats 2000000 in
theorem to_rep (q0 q1 q2 q3 q4 : Int) {lo : Nat} {w : World} {v : Value} {hs : List Thd} (h : RowE (Plain chd) 3 lo w v hs) (hn : hs.length ≤ 1048576) : Calls Try.prog 24 #[.agg #[.int .i64 q0, .int .i64 q1, .int .i64 q2, .int .i64 q3, .int .i64 q4, v]] w (ToRep ⟨q0, q1, q2, q3, q4, hs⟩ w) := by
  have HT : Hid (∀ (p0 p1 p2 : Int) W, Calls Try.prog 36 #[.agg #[.int .i64 p0, .int .i64 p1, .int .i64 p2]] W fun e w' => e = .returned (.agg #[.int .i64 p0, .int .i64 p1, .int .i64 p2]) ∧ Below W.heap.size W w') := fun p0 p1 p2 W => (to_hd p0 p1 p2 W).mono fun e w' h => ⟨h.1, by rw [h.2]; exact below3 _ _ _ _⟩
  have HL : Hid (∀ W, Below w.heap.size w W → Calls Try.prog 37 #[v] W (TohdsF hs W)) := fun W hW => to_hdsF (h.below (plain_stays _) hW) hn
  obtain ⟨a, c, rfl, _⟩ := h.form
  generalize hs.length = n at *
  clear h
  go_enter Try.func24, Try.ntmps24
  go_wp2_with fail
  refine Calls.mono (HT.out _ _ _ _) ?_
  rintro e w1 ⟨rfl, hb1⟩
  have F := blk3 w [.int .i64 q0, .int .i64 q1, .int .i64 q2, .int .i64 q3, .int .i64 q4, .slice a n c] [.int .i64 0, .int .i64 0, .int .i64 0, .int .i64 0, .int .i64 0, .slice none 0 0] [.int .i64 q0, .int .i64 q1, .int .i64 0, .int .i64 0, .int .i64 0, .slice none 0 0] 54 58 58
  have HA1 : Hid (Blk w1 w.heap.size 54 [.int .i64 q0, .int .i64 q1, .int .i64 q2, .int .i64 q3, .int .i64 q4, .slice a n c]) := F.1.later hb1
  have HR1 : Hid (Blk w1 (w.heap.size + 1) 58 [.int .i64 0, .int .i64 0, .int .i64 0, .int .i64 0, .int .i64 0, .slice none 0 0]) := F.2.1.later hb1
  have HO1 : Hid (Blk w1 (w.heap.size + 1 + 1) 58 [.int .i64 q0, .int .i64 q1, .int .i64 0, .int .i64 0, .int .i64 0, .slice none 0 0]) := F.2.2.later hb1
  have HB1 : Hid (Below w.heap.size w w1) := below_tr (below3 w _ _ _) hb1
  have hs1 : w.heap.size + 3 ≤ w1.heap.size := by have := hb1.size; simp at this; omega
  clear hb1 F
  obtain ⟨a0, a1, a2, a3, a4, a5⟩ := six HA1.out
  obtain ⟨o0, o1, o2, o3, o4, o5⟩ := six HO1.out
  obtain ⟨y0, y1, y2, y3, y4, y5⟩ := six_free HO1.out
  go_wp2_with fail
  have HP1 : Hid (Below w.heap.size w (putW w1 (w.heap.size + 1 + 1) 2 [.int .i64 q2, .int .i64 q3, .int .i64 q4])) := putW_below _ HB1.out (by omega)
  refine Calls.mono (HL.out _ HP1.out) ?_
  rintro e w2 ⟨v2, rfl, hr2, hb2, hf2⟩
  obtain ⟨a2', c2', hv2, _⟩ := hr2.form
  have HRV : Hid (RowE (Plain chd) 3 (w1.heap.size) w2 v2 hs) := rowE_lowers (plain_lowers _) hr2 (by show _ ≤ (putW w1 (w.heap.size + 1 + 1) 2 [.int .i64 q2, .int .i64 q3, .int .i64 q4]).heap.size; rw [putW_size]; exact Nat.le_refl _)
  have HFV : Hid (Free w2 v2) := hf2
  have HR2 : Hid (Blk w2 (w.heap.size + 1) 58 [.int .i64 0, .int .i64 0, .int .i64 0, .int .i64 0, .int .i64 0, .slice none 0 0]) := (HR1.out.other [.int .i64 q2, .int .i64 q3, .int .i64 q4] (w.heap.size + 1 + 1) 2 (by omega)).later hb2
  have HO2 : Hid (Blk w2 (w.heap.size + 1 + 1) 58 [.int .i64 q0, .int .i64 q1, .int .i64 q2, .int .i64 q3, .int .i64 q4, .slice none 0 0]) := (HO1.out.put [.int .i64 q2, .int .i64 q3, .int .i64 q4] 2).later hb2
  have HB2 : Hid (Below w.heap.size w w2) := below_tr HP1.out hb2
  have hs2 : w.heap.size + 3 ≤ w2.heap.size := by have := Nat.le_trans (Nat.le_of_eq (putW_size [.int .i64 q2, .int .i64 q3, .int .i64 q4] w1 (w.heap.size + 1 + 1) 2).symm) hb2.size; omega
  obtain ⟨n2, hn2⟩ : ∃ n, n = hs.length := ⟨_, rfl⟩
  rw [← hn2] at hv2
  clear hb2 hr2 hf2 HA1 HR1 HO1 HP1 HB1 a0 a1 a2 a3 a4 a5 o0 o1 o2 o3 o4 o5 y0 y1 y2 y3 y4 y5 hn2
  subst hv2
  obtain ⟨o0, o1, o2, o3, o4, o5⟩ := six HO2.out
  obtain ⟨y0, y1, y2, y3, y4, y5⟩ := six_free HO2.out
  obtain ⟨r0, r1, r2, r3, r4, r5⟩ := six HR2.out
  obtain ⟨u0, u1, u2, u3, u4, u5⟩ := six_free HR2.out
  go_wp2_with fail
  refine bodyPost_ret (v := .agg #[.int .i64 q0, .int .i64 q1, .int .i64 q2, .int .i64 q3, .int .i64 q4, .slice a2' n2 c2']) (by simp [results, Try.results24, go_sem, r0, r1, r2, r3, r4, r5]) rfl ⟨_, rfl, ?_, ?_, ?_⟩
  · exact rowE_lowers (plain_lowers _) (rowE_stays (plain_stays _) HRV.out ((putW_keep [.slice a2' n2 c2'] w2 (w.heap.size + 1 + 1) 5 _ (by omega)).trans (putW_keep [.int .i64 q0, .int .i64 q1, .int .i64 q2, .int .i64 q3, .int .i64 q4, .slice a2' n2 c2'] _ (w.heap.size + 1) 0 _ (by omega)))) (by omega)
  · exact free_keep HFV.out (row_spot HRV.out) ((putW_keep [.slice a2' n2 c2'] w2 (w.heap.size + 1 + 1) 5 _ (by omega)).trans (putW_keep [.int .i64 q0, .int .i64 q1, .int .i64 q2, .int .i64 q3, .int .i64 q4, .slice a2' n2 c2'] _ (w.heap.size + 1) 0 _ (by omega)))
  · exact putW_below [.int .i64 q0, .int .i64 q1, .int .i64 q2, .int .i64 q3, .int .i64 q4, .slice a2' n2 c2'] (putW_below [.slice a2' n2 c2'] (b := 5) HB2.out (g := w.heap.size + 1 + 1) (by omega)) (by omega) (b := 0)
def zrep : List Value := [.int .i64 0, .int .i64 0, .int .i64 0, .int .i64 0, .int .i64 0, .slice none 0 0]
theorem info_rep : (Try.prog.info? 58).map (fun i => (i.zero, i.size, i.bytes)) = some (some (.agg #[.int .i64 0, .int .i64 0, .int .i64 0, .int .i64 0, .int .i64 0, .slice none 0 0]), 6, 64) := by kernel_rfl
/-- what toReplyS leaves: its lists behind its own block, all of it may be written -/
def ToReps (xs : List RepD) (w : World) (e : Ending) (w' : World) : Prop := ∃ c, e = .returned (.slice (some ⟨w.heap.size, 0, none⟩) xs.length c) ∧ RowE RepF 6 w.heap.size w' (.slice (some ⟨w.heap.size, 0, none⟩) xs.length c) xs ∧ (∃ css, css.length = xs.length ∧ Made w' w.heap.size 58 6 xs.length css ∧ FillE RepF (w.heap.size + 1) w' css xs) ∧ Below w.heap.size w w'
set_option maxHeartbeats 4000000 in
theorem to_reps {lo : Nat} {w : World} {v : Value} {xs : List RepD} (h : RowE RepE 6 lo w v xs) (hn : xs.length ≤ 1048576) (hbk : bulkR xs ≤ 1048576) : Calls Try.prog 14 #[v] w (ToReps xs w) := by
  obtain ⟨a, c, rfl, hml, h3⟩ := h
  obtain ⟨i0, hi, hz0, hz1, hz2⟩ := info_parts info_rep
  obtain ⟨n, hx⟩ : ∃ n, n = xs.length := ⟨_, rfl⟩
  have H3 : Hid (0 < xs.length → ∃ g o, a = some ⟨g, o, none⟩ ∧ lo ≤ g ∧ g < w.heap.size ∧ ∀ i (hi : i < xs.length), ∃ cs : List Value, cs.length = 6 ∧ (∀ j, j < 6 → w.cell? ⟨g, o + i * 6 + j, none⟩ = cs[j]?) ∧ RepE lo w cs xs[i]) := h3
  have HX : Hid (n = xs.length) := hx
  have HML : Hid (xs.length ≤ maxLen) := hml
  have HBK : Hid (bulkR xs ≤ 1048576) := hbk
  unfold ToReps
  rw [← hx] at hn ⊢
  clear h3 hx hml hbk
  go_enter Try.func14, Try.ntmps14
  go_wp2_with (first | (at_make; refine wpList_make_full _ rfl _ _ 32 rfl w.heap.size 58 i0 (.agg #[.int .i64 0, .int .i64 0, .int .i64 0, .int .i64 0, .int .i64 0, .slice none 0 0]) 6 Try.underlying32 hi hz0 hz1 .i64 .i64 _ _ n rfl rfl rfl rfl (by rw [hz2]; omega) (by unfold maxLen; omega) (Nat.le_refl _) ?_; intro w1 own1 gr1) | go_in)
  have HM : Hid (Made w1 w.heap.size 58 6 n (filled [] n zrep)) := made_new (z := zrep) rfl (by decide) own1
  have HB1 : Hid (Below w.heap.size w w1) := (Below.refl w.heap.size w).grown gr1 (Nat.le_refl _) (fun k hk => by cases hk)
  clear own1 gr1
  go_wp2_with fail
  go_loopw [4] (fun i wr => ∃ j : Nat, j ≤ n ∧ i = .int .i64 j ∧ (∃ css : List (List Value), css.length = j ∧ Hid (Made wr w.heap.size 58 6 n (filled css n zrep)) ∧ Hid (FillE RepF (w.heap.size + 1) wr css xs)) ∧ Hid (Below w.heap.size w wr)) (fun i _ => n - (intOf i).toNat)
  case atStart => exact ⟨0, by omega, rfl, ⟨[], rfl, HM.out, ⟨by simp, fun i hi => by simp at hi⟩⟩, HB1.out⟩
  case round =>
    obtain ⟨j, hj, rfl, ⟨css, hcl, HR, HF⟩, HB⟩ := hrel
    have HCL : Hid (css.length = j) := hcl
    clear hcl HM HB1
    by_cases hlt : j < n
    · have hlx : j < xs.length := by rw [← HX.out]; exact hlt
      obtain ⟨g, o, rfl, _, hg, hc3⟩ := H3.out (by omega)
      obtain ⟨v, hl, hc⟩ := rep_at (hc3 j hlx)
      have hbo := Nat.le_trans (bulkR_one xs j hlx) HBK.out
      have HOLD : Hid (∀ W, Made W w.heap.size 58 6 n (filled css n zrep) → ∀ r, r < 6 → W.cell? ⟨w.heap.size, j * 6 + r, none⟩ = zrep[r]?) := fun W hW r hr => by
        have h1 := hW.at j (by rw [filled_len (by have := HCL.out; omega)]; exact hlt) r hr
        rw [filled_old (by have := HCL.out; omega) hlt] at h1
        exact h1
      have HXJ : Hid (∀ (W : World) (cs : List Value), RepF (w.heap.size + 1) W cs xs[j] → FillE RepF (w.heap.size + 1) W css xs → FillE RepF (w.heap.size + 1) W (css ++ [cs]) xs) := fun W cs h1 h2 => by
        have e := HCL.out
        subst e
        exact h2.more hlx h1
      clear hc3
      generalize xs[j] = x at *
      obtain ⟨q0, q1, q2, q3, q4, hs⟩ := x
      simp only at hl hbo
      have HT : Hid (∀ W, Below w.heap.size w W → Calls Try.prog 24 #[.agg #[.int .i64 q0, .int .i64 q1, .int .i64 q2, .int .i64 q3, .int .i64 q4, v]] W (ToRep ⟨q0, q1, q2, q3, q4, hs⟩ W)) := fun W hW => to_rep q0 q1 q2 q3 q4 (hl.below (plain_stays _) hW) hbo
      obtain ⟨ah, ch, qh, _⟩ := hl.form
      obtain ⟨b, hb⟩ : ∃ b, b = hs.length := ⟨_, rfl⟩
      rw [← hb] at qh
      clear hbo hb
      subst qh
      have e0 : wr.cell? ⟨g, o + j * 6, none⟩ = some (.int .i64 q0) := (HB.out.cell (p := ⟨g, o + j * 6, none⟩) hg).trans (hc 0 (by decide))
      have e1 : wr.cell? ⟨g, o + j * 6 + 1, none⟩ = some (.int .i64 q1) := (HB.out.cell (p := ⟨g, o + j * 6 + 1, none⟩) hg).trans (hc 1 (by decide))
      have e2 : wr.cell? ⟨g, o + j * 6 + 2, none⟩ = some (.int .i64 q2) := (HB.out.cell (p := ⟨g, o + j * 6 + 2, none⟩) hg).trans (hc 2 (by decide))
      have e3 : wr.cell? ⟨g, o + j * 6 + 3, none⟩ = some (.int .i64 q3) := (HB.out.cell (p := ⟨g, o + j * 6 + 3, none⟩) hg).trans (hc 3 (by decide))
      have e4 : wr.cell? ⟨g, o + j * 6 + 4, none⟩ = some (.int .i64 q4) := (HB.out.cell (p := ⟨g, o + j * 6 + 4, none⟩) hg).trans (hc 4 (by decide))
      have e5 : wr.cell? ⟨g, o + j * 6 + 5, none⟩ = some (.slice ah b ch) := (HB.out.cell (p := ⟨g, o + j * 6 + 5, none⟩) hg).trans (hc 5 (by decide))
      clear hl hc
      go_wp2_with fail
      refine Calls.mono (HT.out _ HB.out) ?_
      rintro e w2 ⟨v2, rfl, hr2, hf2, hb2⟩
      have HR2 : Hid (Made w2 w.heap.size 58 6 n (filled css n zrep)) := HR.out.later hb2
      have HB2 : Hid (Below w.heap.size w w2) := below_tr HB.out hb2
      have HF2 : Hid (FillE RepF (w.heap.size + 1) w2 css xs) := HF.out.keep repF_stays (Keep.of _ hb2)
      have HL2 : Hid (RowE (Plain chd) 3 (w.heap.size + 1) w2 v2 hs) := rowE_lowers (plain_lowers _) hr2 (HR.out.lt)
      have HV2 : Hid (Free w2 v2) := hf2
      obtain ⟨a2, c2, hv2, _⟩ := hr2.form
      obtain ⟨n2, hn2⟩ : ∃ n, n = hs.length := ⟨_, rfl⟩
      rw [← hn2] at hv2
      clear hr2 hf2 hn2
      subst hv2
      simp only [rcells]
      have z0 : w2.cell? ⟨w.heap.size, j * 6, none⟩ = some (.int .i64 0) := HOLD.out _ HR2.out 0 (by decide)
      have y0 := HR2.out.free (j * 6)
      have z1 : w2.cell? ⟨w.heap.size, j * 6 + 1, none⟩ = some (.int .i64 0) := HOLD.out _ HR2.out 1 (by decide)
      have y1 := HR2.out.free (j * 6 + 1)
      have z2 : w2.cell? ⟨w.heap.size, j * 6 + 2, none⟩ = some (.int .i64 0) := HOLD.out _ HR2.out 2 (by decide)
      have y2 := HR2.out.free (j * 6 + 2)
      have z3 : w2.cell? ⟨w.heap.size, j * 6 + 3, none⟩ = some (.int .i64 0) := HOLD.out _ HR2.out 3 (by decide)
      have y3 := HR2.out.free (j * 6 + 3)
      have z4 : w2.cell? ⟨w.heap.size, j * 6 + 4, none⟩ = some (.int .i64 0) := HOLD.out _ HR2.out 4 (by decide)
      have y4 := HR2.out.free (j * 6 + 4)
      have z5 : w2.cell? ⟨w.heap.size, j * 6 + 5, none⟩ = some (.slice none 0 0) := HOLD.out _ HR2.out 5 (by decide)
      have y5 := HR2.out.free (j * 6 + 5)
      clear hb2 HR HOLD HF HB
      go_wp2_with fail
      go_roundw
      case rel =>
        refine ⟨j + 1, by omega, by go_num, ⟨css ++ [[.int .i64 q0, .int .i64 q1, .int .i64 q2, .int .i64 q3, .int .i64 q4, .slice a2 n2 c2]], by have := HCL.out; simp; omega, ?_, ?_⟩, ?_⟩
        · have hj := HCL.out
          subst hj
          rw [← filled_set hlt]
          exact HR2.out.put (css.length) (by rw [filled_len (by omega)]; exact hlt) (cs := [.int .i64 q0, .int .i64 q1, .int .i64 q2, .int .i64 q3, .int .i64 q4, .slice a2 n2 c2]) rfl
        · exact HXJ.out _ _ ⟨_, rfl, rowE_stays (plain_stays _) HL2.out (putW_keep [.int .i64 q0, .int .i64 q1, .int .i64 q2, .int .i64 q3, .int .i64 q4, .slice a2 n2 c2] w2 w.heap.size (j * 6) _ (by omega)), free_keep HV2.out (row_spot HL2.out) (putW_keep [.int .i64 q0, .int .i64 q1, .int .i64 q2, .int .i64 q3, .int .i64 q4, .slice a2 n2 c2] w2 w.heap.size (j * 6) _ (by omega))⟩ (HF2.out.keep repF_stays (putW_keep [.int .i64 q0, .int .i64 q1, .int .i64 q2, .int .i64 q3, .int .i64 q4, .slice a2 n2 c2] w2 w.heap.size (j * 6) _ (by omega)))
        · exact putW_below [.int .i64 q0, .int .i64 q1, .int .i64 q2, .int .i64 q3, .int .i64 q4, .slice a2 n2 c2] HB2.out (Nat.le_refl _) (b := j * 6)
      case measure => simp [intOf]; omega
    · obtain rfl : j = n := by omega
      have HMR : Hid (Made wr w.heap.size 58 6 j css) := by
        have h1 := HR.out
        have h2 := HCL.out
        rw [← h2, filled_all] at h1
        rw [← h2]; exact h1
      have HRE : Hid (RowE RepF 6 w.heap.size wr (.slice (some ⟨w.heap.size, 0, none⟩) j j) xs) := by
        have h2 := HCL.out
        have h4 := HX.out
        exact HMR.out.row (by omega) (by omega) HML.out (Nat.le_refl _) (fun i hi => by
          obtain ⟨v, h5, h6, h7⟩ := HF.out.each i (by omega)
          exact ⟨v, h5, rowE_lowers (plain_lowers _) h6 (by omega), h7⟩)
      go_wp2_with fail
      go_ret
      exact ⟨_, rfl, HRE.out, ⟨css, by rw [HCL.out], HMR.out, HF.out⟩, HB.out⟩

set_option maxHeartbeats 2000000 in
/-- compared -/
theorem eq_rep (q0 q1 q2 q3 q4 : Int) (hs : List Thd) {l1 l2 : Nat} {w : World} {v u : Value} (h1 : RowE (Plain chd) 3 l1 w v hs) (h2 : RowE (Plain chd) 3 l2 w u hs) : Calls Try.prog 27 #[.agg #[.int .i64 q0, .int .i64 q1, .int .i64 q2, .int .i64 q3, .int .i64 q4, v], .agg #[.int .i64 q0, .int .i64 q1, .int .i64 q2, .int .i64 q3, .int .i64 q4, u]] w fun e w' => e = .returned (.bool true) ∧ Below w.heap.size w w' := by
  have HA : Hid (∀ (p0 p1 p2 : Int) W, Calls Try.prog 38 #[.agg #[.int .i64 p0, .int .i64 p1, .int .i64 p2], .agg #[.int .i64 p0, .int .i64 p1, .int .i64 p2]] W fun e w' => e = .returned (.bool true) ∧ Below W.heap.size W w') := fun p0 p1 p2 W => (eq_hd p0 p1 p2 W).mono fun e w' h => ⟨h.1, by rw [h.2]; exact below2 _ _ _⟩
  have HE : Hid (∀ W, Below w.heap.size w W → Calls Try.prog 39 #[v, u] W fun e w' => e = .returned (.bool true) ∧ Below W.heap.size W w') := fun W hW => eq_hds (h1.below (plain_stays _) hW) (h2.below (plain_stays _) hW)
  obtain ⟨a, c, qv, _⟩ := h1.form
  obtain ⟨b, d, qu, _⟩ := h2.form
  generalize hs.length = n at *
  subst qv qu
  clear h1 h2
  go_enter Try.func27, Try.ntmps27
  go_wp2_with fail
  refine Calls.mono (HA.out _ _ _ _) ?_
  rintro e w1 ⟨rfl, hb1⟩
  have F := blk2 w [.int .i64 q0, .int .i64 q1, .int .i64 q2, .int .i64 q3, .int .i64 q4, .slice a n c] [.int .i64 q0, .int .i64 q1, .int .i64 q2, .int .i64 q3, .int .i64 q4, .slice b n d] 58 58
  have HX1 : Hid (Blk w1 w.heap.size 58 [.int .i64 q0, .int .i64 q1, .int .i64 q2, .int .i64 q3, .int .i64 q4, .slice a n c]) := F.1.later hb1
  have HY1 : Hid (Blk w1 (w.heap.size + 1) 58 [.int .i64 q0, .int .i64 q1, .int .i64 q2, .int .i64 q3, .int .i64 q4, .slice b n d]) := F.2.later hb1
  have HB1 : Hid (Below w.heap.size w w1) := below_tr (below2 w _ _) hb1
  clear hb1 F
  obtain ⟨c0, c1, c2, c3, c4, c5⟩ := six HX1.out
  obtain ⟨d0, d1, d2, d3, d4, d5⟩ := six HY1.out
  go_wp2_with fail
  refine Calls.mono (HE.out _ HB1.out) ?_
  rintro e w2 ⟨rfl, hb2⟩
  have HB2 : Hid (Below w.heap.size w w2) := below_tr HB1.out hb2
  clear hb2
  go_wp2_with fail
  go_ret
  exact ⟨rfl, HB2.out⟩

set_option maxHeartbeats 2000000 in
theorem eq_reps0 (a b : Option Addr) (c d : Nat) (w : World) :
    Calls Try.prog 16 #[.slice a 0 c, .slice b 0 d] w fun e w' => e = .returned (.bool true) ∧ Below w.heap.size w w' := by
  go_enter Try.func16, Try.ntmps16
  go_wp2
  go_loop [5] (fun i => i = .int .i64 0) (fun _ => 0)
  case atStart => exact rfl
  case round =>
    subst hrel
    go_wp2
    go_ret
    exact ⟨rfl, Below.refl _ _⟩

set_option maxHeartbeats 4000000 in
theorem eq_reps {l1 l2 : Nat} {w : World} {va vb : Value} {xs : List RepD} (h1 : RowE RepE 6 l1 w va xs) (h2 : RowE RepE 6 l2 w vb xs) :
    Calls Try.prog 16 #[va, vb] w fun e w' => e = .returned (.bool true) ∧ Below w.heap.size w w' := by
  by_cases h0 : xs.length = 0
  · obtain ⟨a, c, rfl, _⟩ := h1.form
    obtain ⟨b, d, rfl, _⟩ := h2.form
    rw [h0]
    exact eq_reps0 a b c d w
  obtain ⟨g1, o1, c1, rfl, hm1, _, hg1, hc1⟩ := h1.at (by omega)
  obtain ⟨g2, o2, c2, rfl, _, _, hg2, hc2⟩ := h2.at (by omega)
  have HC1 : Hid (∀ i (hi : i < xs.length), ∃ cs : List Value, cs.length = 6 ∧ (∀ j, j < 6 → w.cell? ⟨g1, o1 + i * 6 + j, none⟩ = cs[j]?) ∧ RepE l1 w cs xs[i]) := hc1
  have HC2 : Hid (∀ i (hi : i < xs.length), ∃ cs : List Value, cs.length = 6 ∧ (∀ j, j < 6 → w.cell? ⟨g2, o2 + i * 6 + j, none⟩ = cs[j]?) ∧ RepE l2 w cs xs[i]) := hc2
  unfold maxLen at hm1
  have hn : (xs.length : Int) ≤ 9223372036854775807 := by omega
  clear hc1 hc2 h1 h2
  go_enter Try.func16, Try.ntmps16
  go_wp2
  go_loopw [5] (fun i wr => ∃ k : Nat, k ≤ xs.length ∧ i = .int .i64 k ∧ Hid (Below w.heap.size w wr)) (fun i _ => xs.length - (intOf i).toNat)
  case atStart => exact ⟨0, by omega, rfl, Below.refl _ _⟩
  case round =>
    obtain ⟨k, hk, rfl, HB⟩ := hrel
    by_cases hlt : k < xs.length
    · obtain ⟨v, hl, hc⟩ := rep_at (HC1.out k hlt)
      obtain ⟨u, hl', hc'⟩ := rep_at (HC2.out k hlt)
      generalize xs[k] = x at *
      obtain ⟨q0, q1, q2, q3, q4, hs⟩ := x
      simp only at hl hl'
      have HE1 : Hid (∀ W, Below w.heap.size w W → Calls Try.prog 27 #[.agg #[.int .i64 q0, .int .i64 q1, .int .i64 q2, .int .i64 q3, .int .i64 q4, v], .agg #[.int .i64 q0, .int .i64 q1, .int .i64 q2, .int .i64 q3, .int .i64 q4, u]] W fun e w' => e = .returned (.bool true) ∧ Below W.heap.size W w') := fun W hW => eq_rep q0 q1 q2 q3 q4 hs (hl.below (plain_stays _) hW) (hl'.below (plain_stays _) hW)
      obtain ⟨ah, ch, qh, _⟩ := hl.form
      obtain ⟨ak, ck, qk, _⟩ := hl'.form
      generalize hs.length = b at qh qk
      subst qh qk
      have e0 : wr.cell? ⟨g1, o1 + k * 6, none⟩ = some (.int .i64 q0) := (HB.out.cell (p := ⟨g1, o1 + k * 6, none⟩) hg1).trans (hc 0 (by decide))
      have d0 : wr.cell? ⟨g2, o2 + k * 6, none⟩ = some (.int .i64 q0) := (HB.out.cell (p := ⟨g2, o2 + k * 6, none⟩) hg2).trans (hc' 0 (by decide))
      have ke0 := cell_regrown e0
      have kd0 := cell_regrown d0
      have e1 : wr.cell? ⟨g1, o1 + k * 6 + 1, none⟩ = some (.int .i64 q1) := (HB.out.cell (p := ⟨g1, o1 + k * 6 + 1, none⟩) hg1).trans (hc 1 (by decide))
      have d1 : wr.cell? ⟨g2, o2 + k * 6 + 1, none⟩ = some (.int .i64 q1) := (HB.out.cell (p := ⟨g2, o2 + k * 6 + 1, none⟩) hg2).trans (hc' 1 (by decide))
      have ke1 := cell_regrown e1
      have kd1 := cell_regrown d1
      have e2 : wr.cell? ⟨g1, o1 + k * 6 + 2, none⟩ = some (.int .i64 q2) := (HB.out.cell (p := ⟨g1, o1 + k * 6 + 2, none⟩) hg1).trans (hc 2 (by decide))
      have d2 : wr.cell? ⟨g2, o2 + k * 6 + 2, none⟩ = some (.int .i64 q2) := (HB.out.cell (p := ⟨g2, o2 + k * 6 + 2, none⟩) hg2).trans (hc' 2 (by decide))
      have ke2 := cell_regrown e2
      have kd2 := cell_regrown d2
      have e3 : wr.cell? ⟨g1, o1 + k * 6 + 3, none⟩ = some (.int .i64 q3) := (HB.out.cell (p := ⟨g1, o1 + k * 6 + 3, none⟩) hg1).trans (hc 3 (by decide))
      have d3 : wr.cell? ⟨g2, o2 + k * 6 + 3, none⟩ = some (.int .i64 q3) := (HB.out.cell (p := ⟨g2, o2 + k * 6 + 3, none⟩) hg2).trans (hc' 3 (by decide))
      have ke3 := cell_regrown e3
      have kd3 := cell_regrown d3
      have e4 : wr.cell? ⟨g1, o1 + k * 6 + 4, none⟩ = some (.int .i64 q4) := (HB.out.cell (p := ⟨g1, o1 + k * 6 + 4, none⟩) hg1).trans (hc 4 (by decide))
      have d4 : wr.cell? ⟨g2, o2 + k * 6 + 4, none⟩ = some (.int .i64 q4) := (HB.out.cell (p := ⟨g2, o2 + k * 6 + 4, none⟩) hg2).trans (hc' 4 (by decide))
      have ke4 := cell_regrown e4
      have kd4 := cell_regrown d4
      have e5 : wr.cell? ⟨g1, o1 + k * 6 + 5, none⟩ = some (.slice ah b ch) := (HB.out.cell (p := ⟨g1, o1 + k * 6 + 5, none⟩) hg1).trans (hc 5 (by decide))
      have d5 : wr.cell? ⟨g2, o2 + k * 6 + 5, none⟩ = some (.slice ak b ck) := (HB.out.cell (p := ⟨g2, o2 + k * 6 + 5, none⟩) hg2).trans (hc' 5 (by decide))
      have ke5 := cell_regrown e5
      have kd5 := cell_regrown d5
      clear hc hc' hl hl'
      have cE : ∀ d os, _ := fun d os => Calls.regrown_of (w := wr) (d := d) (os := os) (HE1.out _ (HB.out.trans ((below_regrown wr d os).mono HB.out.size)))
      go_wp2_with fail
      refine wp_region_quiet_below (by kernel_rfl) (by kernel_rfl) ?_
      repeat (go_big_quiet_step (first | (go_at_call 27; exact cE _ _)))
      refine wpQuiet_nil ?_
      intro _ hw'
      obtain ⟨⟨dq, osq⟩, hw''⟩ := hw'
      subst hw''
      have HB2 : Hid (Below w.heap.size w (grow (redrawn wr dq) osq)) := HB.out.trans ((below_regrown wr dq osq).mono HB.out.size)
      go_wp2_with fail
      go_roundw
      case rel => exact ⟨k + 1, by omega, by go_num, HB2.out⟩
      case measure => simp [intOf]; omega
    · go_wp2
      go_ret
      exact ⟨rfl, HB.out⟩
end Go.Proofs.Ytpehmphcnimegaa.deep
