/-
  The comparison of the program's schedule: by place; a strict weak order; what a row of waiting tasks holds. No condition.
-/
import Derived.Test.YtnkkkdhpopfahaaSchWk
import Derived.Test.YtnkkkdhpopfahaaSchTi
import Derived.Test.YtnkkkdhpopfahaaShelf
namespace Go.Proofs.Ytnkkkdhpopfahaa.sch
open Go.RowKit Go.Deep Go.Sort Go.Lib Go.Shelf
open Go.Proofs.Ytnkkkdhpopfahaa
open Go.Proofs.Ytnkkkdhpopfahaa.deep
set_option linter.unusedVariables false
set_option maxRecDepth 100000

def cfP (x y : Wt) : Int := Lib.compareInt x.2 y.2
theorem lt_cf (x y : Wt) : ltOf cfP x y = decide (x.2 < y.2) := by
  unfold ltOf cfP Lib.compareInt
  by_cases h1 : x.2 < y.2
  · simp [h1]
  · by_cases h2 : y.2 < x.2 <;> simp [h1, h2]
theorem swo_cf : SWO (ltOf cfP) where
  irrefl x := by rw [lt_cf]; simp
  trans x y z h1 h2 := by rw [lt_cf] at *; simp at *; omega
  ntrans x y z h1 h2 := by rw [lt_cf] at *; simp at *; omega
set_option maxHeartbeats 1000000 in
theorem closure_cf (x y : Wt) (W : World) : Calls Try.prog 69 #[.agg (cwt x).toArray, .agg (cwt y).toArray] W fun e w' => e = .returned (.int .i64 (cfP x y)) ∧ ∃ q os', w' = grow (W.drewN q) os' := by
  obtain ⟨⟨x0, x1, x2⟩, x3⟩ := x
  obtain ⟨⟨y0, y1, y2⟩, y3⟩ := y
  have HC : Hid (∀ W', Calls Try.prog 70 #[.int .i64 x3, .int .i64 y3] W' fun e w' => e = .returned (.int .i64 (Lib.compareInt x3 y3)) ∧ w' = W') := fun W' => Try.cmp_Compare_int x3 y3 W'
  show Calls Try.prog 69 #[.agg #[.int .i64 x0, .int .i64 x1, .int .i64 x2, .int .i64 x3], .agg #[.int .i64 y0, .int .i64 y1, .int .i64 y2, .int .i64 y3]] W fun e w' => e = .returned (.int .i64 (Lib.compareInt x3 y3)) ∧ ∃ q os', w' = grow (W.drewN q) os'
  generalize Lib.compareInt x3 y3 = r at *
  go_enter Try.func69, Try.ntmps69
  go_wp2_with (go_at_call 70; refine (HC.out _).mono ?_; rintro e w' ⟨rfl, rfl⟩)
  go_ret
  exact ⟨rfl, 0, _, by rw [alloc_eq_grow, alloc_eq_grow, grow_grow]; rfl⟩
theorem cmp_lays (blk off size : Nat) (w : World) : CmpLays Try.prog 69 #[] cwt 4 cfP blk off size w := fun _ _ _ _ x y => closure_cf x y _
instance : Inhabited Wt := ⟨((0, 0, 0), 0)⟩
/-- the row holds what it holds -/
theorem holds_wts {base g n c : Nat} {w : World} {ws : List Wt} (h : Wts base w (.slice (some ⟨g, 0, none⟩) n c) ws) (h0 : 0 < ws.length) : HoldsK cwt 4 w g 0 ws.toArray ∧ g < w.heap.size ∧ n = ws.length := by
  obtain ⟨g', c', hv, _, hg, hc, hf⟩ := OwnC.at h (by rw [List.length_map]; exact h0)
  cases hv
  refine ⟨fun j hj => ⟨?_, by rw [Nat.zero_add]; exact hf j⟩, hg, by rw [List.length_map]⟩
  rw [size_flatK, List.size_toArray] at hj
  rw [get_flatK _ _ _ _ (by rw [List.size_toArray]; exact hj), Nat.zero_add]
  have h1 : j / 4 < ws.length := by omega
  have h2 : j % 4 < 4 := Nat.mod_lt _ (by decide)
  have h3 := hc (j / 4) (by rw [List.length_map]; exact h1) (j % 4) h2
  rw [show j / 4 * 4 + j % 4 = j by omega] at h3
  rw [h3]
  simp only [List.getElem_map, id]
  have h4 : (ws.toArray[j / 4]!) = ws[j / 4] := by simp [h1]
  rw [h4]
  exact List.getElem?_eq_getElem (by rw [cwt_len]; exact h2) |>.trans (by rw [getElem!_pos])
/-- two lists of the same, one in order of place, one that rises: they are one -/
theorem eq_of_perm : ∀ (l1 l2 : List Wt), l1.Perm l2 → l1.Pairwise (fun a b => ¬ b.2 < a.2) → l2.Pairwise (fun a b => a.2 < b.2) → l1 = l2
  | [], l2, h, _, _ => (List.nil_perm.1 h).symm
  | a :: t, [], h, _, _ => absurd (List.perm_nil.1 h) (by simp)
  | a :: t1, b :: t2, h, h1, h2 => by
    rw [List.pairwise_cons] at h1 h2
    have e : a = b := by
      rcases List.mem_cons.1 (h.subset List.mem_cons_self) with e | ha
      · exact e
      · rcases List.mem_cons.1 (h.symm.subset List.mem_cons_self) with e | hb
        · exact e.symm
        · exact absurd (h2.1 a ha) (h1.1 b hb)
    subst e
    rw [eq_of_perm t1 t2 ((List.perm_cons a).1 h) h1.2 h2.2]
/-- the lines of the first labels, one behind the other -/
def catL (ws : List Wt) (j : Nat) : List Wt := (List.range j).flatMap fun i => ws.filter (isL i)
theorem catL_zero (ws : List Wt) : catL ws 0 = [] := rfl
theorem catL_succ (ws : List Wt) (j : Nat) : catL ws (j + 1) = catL ws j ++ ws.filter (isL j) := by
  unfold catL
  rw [List.range_succ, List.flatMap_append]
  simp
theorem flat_mid (y : Wt) (f : Nat → List Wt) (l : Nat) : ∀ L : List Nat, L.Nodup → l ∈ L → (L.flatMap fun i => if i = l then y :: f i else f i).Perm (y :: L.flatMap f)
  | [], _, h => absurd h (by simp)
  | a :: L, hn, h => by
    rw [List.nodup_cons] at hn
    rw [List.flatMap_cons, List.flatMap_cons]
    by_cases e : a = l
    · subst e
      have hc : (L.flatMap fun i => if i = a then y :: f i else f i) = L.flatMap f := by
        have : ∀ M : List Nat, (∀ i ∈ M, i ≠ a) → (M.flatMap fun i => if i = a then y :: f i else f i) = M.flatMap f := by
          intro M
          induction M with
          | nil => intro _; rfl
          | cons b M ih =>
            intro hb
            rw [List.flatMap_cons, List.flatMap_cons, if_neg (hb b List.mem_cons_self), ih (fun i hi => hb i (List.mem_cons_of_mem _ hi))]
        exact this L (fun i hi e => hn.1 (e ▸ hi))
      rw [if_pos rfl, hc]
      exact List.Perm.refl _
    · rw [if_neg e]
      have hl : l ∈ L := by
        rcases List.mem_cons.1 h with h | h
        · exact absurd h.symm e
        · exact h
      exact ((flat_mid y f l L hn.2 hl).append_left (f a)).trans List.perm_middle
theorem cat_perm : ∀ (ws : List Wt), (∀ y ∈ ws, 0 ≤ y.1.1 ∧ y.1.1 ≤ 15) → (catL ws 16).Perm ws
  | [], _ => by simp [catL]
  | y :: ws, h => by
    have hy := h y List.mem_cons_self
    obtain ⟨l, hl, hl2⟩ : ∃ l : Nat, l < 16 ∧ y.1.1 = (l : Int) := ⟨y.1.1.toNat, by omega, by omega⟩
    have e : catL (y :: ws) 16 = (List.range 16).flatMap fun i => if i = l then y :: ws.filter (isL i) else ws.filter (isL i) := by
      unfold catL
      congr 1
      funext i
      by_cases e : i = l
      · subst e; rw [if_pos rfl, List.filter_cons_of_pos (isL_self hl2)]
      · rw [if_neg e, List.filter_cons_of_neg (by rw [isL_other hl2 e]; exact Bool.false_ne_true)]
    rw [e]
    exact (flat_mid y (fun i => ws.filter (isL i)) l _ List.nodup_range (List.mem_range.2 hl)).trans (List.Perm.cons y (cat_perm ws fun z hz => h z (List.mem_cons_of_mem _ hz)))
/-- what is sorted by place is the line -/
theorem sorted_is {ws : List Wt} {last : Int} (h : LineOk ws last) {d' : Array Wt} (hp : PermIn 0 (catL ws 16).toArray.size (catL ws 16).toArray d') (hs : SortedIn (ltOf cfP) 0 (catL ws 16).toArray.size d') : d'.toList = ws := by
  obtain ⟨h1, _, h3⟩ := hp
  have e1 : d'.extract 0 (catL ws 16).toArray.size = d' := by rw [← h1]; exact Array.extract_size
  have e2 : (catL ws 16).toArray.extract 0 (catL ws 16).toArray.size = (catL ws 16).toArray := Array.extract_size
  rw [e1, e2] at h3
  refine eq_of_perm _ _ (h3.trans (cat_perm ws h.lab)) ?_ h.rise
  rw [List.pairwise_iff_getElem]
  intro i j hi hj hij
  rw [Array.length_toList] at hi hj
  have := hs i j (Nat.zero_le _) hij (by rw [← h1]; exact hj)
  rw [lt_cf] at this
  simp only [decide_eq_false_iff_not] at this
  rw [getElem!_pos d' j hj, getElem!_pos d' i hi] at this
  simpa using this
end Go.Proofs.Ytnkkkdhpopfahaa.sch
