/-
  Rows of replies that may be marked and held, whether there is anything in them or not.
-/
import Derived.Test.YtpehmphcnimegaaKeptI
import Derived.Test.YtpehmphcnimegaaMarkReply
import Derived.Test.YtpehmphcnimegaaDeepOpen
namespace Go.Proofs.Ytpehmphcnimegaa.deep
open Go.RowKit Go.Deep
set_option linter.unusedVariables false

/-- a row of elements that may be marked -/
def RM (w : World) (v : Value) (ds : List EL) : Prop := ∃ a c, v = .slice a ds.length c ∧ ds.length ≤ 1048576 ∧ (0 < ds.length → ∃ G, a = some ⟨G, 0, none⟩ ∧ G < w.heap.size ∧ MElems 5 6 w G 0 ds)
def markR (w : World) (v : Value) (ds : List EL) (k : Int) : World := match v with | .slice (some a) _ _ => markEs 5 6 w a.block a.off k ds ds.length | _ => w
def RH (w : World) (v : Value) (ds : List EL) (k : Int) : Prop := ∃ a c, v = .slice a ds.length c ∧ ds.length ≤ 1048576 ∧ (0 < ds.length → ∃ G, a = some ⟨G, 0, none⟩ ∧ G < w.heap.size ∧ HElems 5 6 w G 0 ds k ds.length ∧ ∀ i (hi : i < ds.length), ∀ r (hr : r < ds[i].length), w.cell? ⟨G, 0 + i * 6 + (5 + r), none⟩ = some (ds[i][r]).2)
/-- all that is marked lies from base on, and below top -/
def Span (base top : Nat) (v : Value) (ds : List EL) : Prop := (∀ g o, spotOf v = some (g, o) → 0 < lenOf v → base ≤ g ∧ g < top) ∧ ∀ d ∈ ds, ∀ p ∈ d, ∀ g o, spotOf p.2 = some (g, o) → 0 < lenOf p.2 → base ≤ g ∧ g < top
theorem Span.up {base base' top top' : Nat} {v : Value} {ds : List EL} (h : Span base top v ds) (h1 : base' ≤ base) (h2 : top ≤ top') : Span base' top' v ds :=
  ⟨fun g o a b => ⟨Nat.le_trans h1 (h.1 g o a b).1, Nat.lt_of_lt_of_le (h.1 g o a b).2 h2⟩, fun d hd p hp g o a b => ⟨Nat.le_trans h1 (h.2 d hd p hp g o a b).1, Nat.lt_of_lt_of_le (h.2 d hd p hp g o a b).2 h2⟩⟩
theorem mark_repsV {w : World} {v : Value} {ds : List EL} {k : Int} (h : RM w v ds) (h1 : OneL ds) (hk0 : 0 ≤ k) (hk1 : k + sumE 5 ds ds.length ≤ 500000000) : Calls Try.prog 17 #[v, .int .i64 k] w fun e w' => e = .returned (.int .i64 (k + sumE 5 ds ds.length)) ∧ w' = markR w v ds k := by
  obtain ⟨a, c, rfl, hn, hi⟩ := h
  by_cases h0 : ds.length = 0
  · have e : ds = [] := List.eq_nil_of_length_eq_zero h0
    subst e
    refine (mark_reps0 a c k w).mono ?_
    rintro e w' ⟨rfl, rfl⟩
    refine ⟨by simp [sumE], ?_⟩
    cases a <;> rfl
  · obtain ⟨G, rfl, _, hm⟩ := hi (by omega)
    exact mark_reps hm h1 rfl (by omega) hk0 hk1
theorem held_repsV {w : World} {v : Value} {ds : List EL} {k : Int} (h : RH w v ds k) (h1 : OneL ds) (hk0 : 0 ≤ k) (hk1 : k + sumE 5 ds ds.length ≤ 500000000) : Calls Try.prog 18 #[v, .int .i64 k] w fun e w' => e = .returned (.int .i64 (k + sumE 5 ds ds.length)) ∧ w' = w := by
  obtain ⟨a, c, rfl, hn, hi⟩ := h
  by_cases h0 : ds.length = 0
  · have e : ds = [] := List.eq_nil_of_length_eq_zero h0
    subst e
    refine (held_reps0 a c k w).mono ?_
    rintro e w' ⟨rfl, rfl⟩
    exact ⟨by simp [sumE], rfl⟩
  · obtain ⟨G, rfl, _, hm, hv⟩ := hi (by omega)
    exact held_reps hm h1 hv rfl (by omega) hk0 hk1
theorem RM.later {w w' : World} {v : Value} {ds : List EL} (h : RM w v ds) (hb : Below w.heap.size w w') : RM w' v ds := by
  obtain ⟨a, c, hv, hn, hi⟩ := h
  refine ⟨a, c, hv, hn, fun h0 => ?_⟩
  obtain ⟨G, ha, hG, hm⟩ := hi h0
  exact ⟨G, ha, Nat.lt_of_lt_of_le hG hb.size, hm.later hG hb⟩
theorem RH.later {w w' : World} {v : Value} {ds : List EL} {k : Int} {base : Nat} (h : RH w v ds k) (hs : Span base w.heap.size v ds) (hb : Below w.heap.size w w') : RH w' v ds k := by
  obtain ⟨a, c, hv, hn, hi⟩ := h
  refine ⟨a, c, hv, hn, fun h0 => ?_⟩
  obtain ⟨G, ha, hG, hm, hc⟩ := hi h0
  exact ⟨G, ha, Nat.lt_of_lt_of_le hG hb.size, hm.later hG (fun d hd p hp g o h1 h2 => (hs.2 d hd p hp g o h1 h2).2) hb, fun i hi r hr => (hb.cell (p := ⟨G, _, none⟩) hG).trans (hc i hi r hr)⟩
theorem RM.held {w : World} {v : Value} {ds : List EL} (h : RM w v ds) (hd : DistinctE ds) (k : Int) : RH (markR w v ds k) v ds k := by
  obtain ⟨a, c, rfl, hn, hi⟩ := h
  refine ⟨a, c, rfl, hn, fun h0 => ?_⟩
  obtain ⟨G, rfl, hG, hm⟩ := hi h0
  refine ⟨G, rfl, ?_, HElems.upto hm hd k ds.length (Nat.le_refl _), (MElems.upto hm k ds.length (Nat.le_refl _)).vals⟩
  show G < (markEs 5 6 w G 0 k ds ds.length).heap.size
  rw [markEs_size]; exact hG
theorem markR_size (w : World) (v : Value) (ds : List EL) (k : Int) : (markR w v ds k).heap.size = w.heap.size := by
  unfold markR
  split
  · exact markEs_size _ _ _ _ _ _ _ _
  · rfl
theorem RM.nil_or {w : World} {v : Value} {ds : List EL} (h : RM w v ds) : ds = [] ∨ ∃ G c, v = .slice (some ⟨G, 0, none⟩) ds.length c ∧ 0 < ds.length := by
  obtain ⟨a, c, rfl, hn, hi⟩ := h
  by_cases h0 : ds.length = 0
  · exact .inl (List.eq_nil_of_length_eq_zero h0)
  · obtain ⟨G, rfl, _⟩ := hi (by omega)
    exact .inr ⟨G, c, rfl, by omega⟩
theorem markR_nil (w : World) (v : Value) (k : Int) : markR w v [] k = w := by
  unfold markR
  split <;> rfl
theorem markR_below {n base top : Nat} {u w : World} {v : Value} {ds : List EL} {k : Int} (hr : RM w v ds) (h : Below n u w) (hs : Span base top v ds) (hn : n ≤ base) : Below n u (markR w v ds k) := by
  rcases hr.nil_or with rfl | ⟨G, c, rfl, h0⟩
  · rw [markR_nil]; exact h
  · exact markEs_below h (Nat.le_trans hn (hs.1 G 0 rfl (by simpa [lenOf] using h0)).1) (fun d hd p hp g o h1 h2 => Nat.le_trans hn (hs.2 d hd p hp g o h1 h2).1) ds.length
theorem markR_keep {base lo : Nat} {w : World} {v : Value} {ds : List EL} {k : Int} (hr : RM w v ds) (hs : Span base lo v ds) : Keep lo w (markR w v ds k) := by
  rcases hr.nil_or with rfl | ⟨G, c, rfl, h0⟩
  · rw [markR_nil]; exact ⟨Nat.le_refl _, fun _ _ _ => rfl⟩
  · exact markEs_keep (hs.1 G 0 rfl (by simpa [lenOf] using h0)).2 (fun d hd p hp g o h1 h2 => (hs.2 d hd p hp g o h1 h2).2) ds.length
/-- what may be marked stays so, when what lies elsewhere is marked -/
theorem RM.keep {lo top : Nat} {w w' : World} {v : Value} {ds : List EL} (h : RM w v ds) (hs : Span lo top v ds) (hk : Keep lo w w') (ht : top ≤ w.heap.size) : RM w' v ds := by
  obtain ⟨a, c, rfl, hn, hi⟩ := h
  refine ⟨a, c, rfl, hn, fun h0 => ?_⟩
  obtain ⟨G, rfl, hG, hm⟩ := hi h0
  have hGl := (hs.1 G 0 rfl (by simpa [lenOf] using h0)).1
  have hfz : ∀ g, lo ≤ g → g < w.heap.size → ∀ q, w'.frozen? ⟨g, q, none⟩ = w.frozen? ⟨g, q, none⟩ := fun g h1 h2 q => by
    have := hk.block g h1 h2
    unfold World.frozen?
    rw [show (⟨g, q, none⟩ : Addr).block = g from rfl, this]
  refine ⟨G, rfl, Nat.lt_of_lt_of_le hG hk.size, fun i hi r hr => ?_, fun q => ?_, fun i hi r hr => ?_, fun d hd p hp => ?_, hm.off, hm.room⟩
  · obtain ⟨x, hx⟩ := hm.ints i hi r hr
    exact ⟨x, (hk.cell hGl hG).trans hx⟩
  · rw [hfz G hGl hG]; exact hm.free q
  · exact (hk.cell hGl hG).trans (hm.vals i hi r hr)
  · obtain ⟨a2, n2, c2, hv2, hn2, hi2⟩ := hm.mks d hd p hp
    refine ⟨a2, n2, c2, hv2, hn2, fun h2 => ?_⟩
    obtain ⟨g, o, ha2, hI⟩ := hi2 h2
    have hsp := hs.2 d hd p hp g o (by rw [hv2, ha2]; rfl) (by rw [hv2]; exact h2)
    refine ⟨g, o, ha2, fun q hq => ?_⟩
    obtain ⟨⟨x, hx⟩, hf⟩ := hI q hq
    have hgl : g < w.heap.size := by omega
    exact ⟨⟨x, (hk.cell hsp.1 hgl).trans hx⟩, by rw [hfz g hsp.1 hgl]; exact hf⟩

theorem els_one (vals : List Value) : OneL (elsOf vals) := fun d hd => by
  obtain ⟨v, _, rfl⟩ := List.mem_map.1 hd
  exact ⟨v, rfl⟩
theorem els_len (vals : List Value) : (elsOf vals).length = vals.length := by simp [elsOf]
/-- how many marks there are -/
theorem els_sum {ys : List RepD} {vals : List Value} (hl : vals.length = ys.length) (hv : ∀ i (hi : i < ys.length), lenOf (vals[i]'(by omega)) = ys[i].hs.length) : ∀ j, j ≤ ys.length → sumE 5 (elsOf vals) j = 5 * (j : Int) + 3 * (bulkRTo ys j : Int)
  | 0, _ => by simp [sumE, bulkRTo]
  | j + 1, hj => by
    have h1 := els_sum hl hv j (by omega)
    rw [sumE_next 5 _ j (by rw [els_len]; omega), h1, bulkR_step ys j (by omega)]
    have h2 : cntL ((elsOf vals)[j]'(by rw [els_len]; omega)) = 3 * (ys[j].hs.length : Int) := by
      simp only [elsOf, List.getElem_map, cntL]
      rw [hv j (by omega)]; simp
    rw [h2]; push_cast; omega
theorem bulkR_sum (xs : List RepD) : bulkR xs = (xs.map fun s => s.hs.length).sum := by unfold bulkR bulkRTo; rw [List.take_length]
theorem kept2J_bulk (p : Tcl → Bool) (cs : List Tcl) (rs : List RepD) : ∀ j, j ≤ cs.length → j ≤ rs.length → bulkR (kept2J p cs rs j) ≤ bulkRTo rs j
  | 0, _, _ => by simp [kept2J_zero, bulkR, bulkRTo]
  | j + 1, h1, h2 => by
    have h := kept2J_bulk p cs rs j (by omega) (by omega)
    rw [bulkR_step rs j (by omega), kept2J_step p cs rs j (by omega) (by omega)]
    rw [bulkR_sum] at h ⊢
    rw [List.map_append, List.sum_append]
    split
    · simp; omega
    · simp; omega
theorem kept2_bulk (p : Tcl → Bool) (cs : List Tcl) (rs : List RepD) : bulkR (kept2 p cs rs) ≤ bulkR rs := by
  unfold kept2
  split
  · rename_i h
    have h1 := kept2J_bulk p cs rs cs.length (Nat.le_refl _) (by omega)
    rw [h.2] at h1 ⊢
    exact h1
  · simp [bulkR, bulkRTo]

/-- replies made anew may be marked -/
theorem reps_rm {G c t : Nat} {w : World} {xs : List RepD} {css : List (List Value)} (hc : css.length = xs.length) (hm : Made w G t 6 xs.length css) (hf : FillE RepF (G + 1) w css xs) (hn : xs.length ≤ 1048576) (hb : ∀ x ∈ xs, x.hs.length ≤ 1048576) :
    ∃ ds, RM w (.slice (some ⟨G, 0, none⟩) xs.length c) ds ∧ OneL ds ∧ ds.length = xs.length ∧ sumE 5 ds ds.length = 5 * (xs.length : Int) + 3 * (bulkR xs : Int) ∧ Span G w.heap.size (.slice (some ⟨G, 0, none⟩) xs.length c) ds := by
  obtain ⟨vals, hl, hv⟩ := choose_list (n := xs.length) (R := fun i v => ∃ hi : i < xs.length, css[i]'(by omega) = rcells xs[i] v ∧ RowE (Plain chd) 3 (G + 1) w v xs[i].hs ∧ Free w v) (fun i hi => by
    obtain ⟨v, h1, h2, h3⟩ := hf.each i (by omega)
    exact ⟨v, hi, h1, h2, h3⟩)
  have hrows : css = rowsOf xs vals := by
    apply List.ext_getElem
    · rw [rows_len hl, hc]
    · intro i h1 h2
      obtain ⟨hi, h3, _⟩ := hv i (by omega)
      rw [h3, rows_at i hi (by omega)]
  rw [hrows] at hm
  have hG := hm.lt
  refine ⟨elsOf vals, ⟨_, c, by rw [els_len, hl], by rw [els_len, hl]; exact hn, fun _ => ⟨G, rfl, hG, melems_of hm hl (fun i hi => ?_)⟩⟩, els_one _, by rw [els_len, hl], ?_, ⟨fun g o h1 h2 => ?_, fun d hd p hp => ?_⟩⟩
  · obtain ⟨_, _, h4, h5⟩ := hv i (by omega)
    exact ⟨hd_marks h4 h5 (hb _ (List.getElem_mem _)), fun g o h6 h7 => by have := (row_spot h4 g o h6 h7).1; omega⟩
  · rw [els_len, hl]
    exact els_sum hl (fun i hi => by obtain ⟨_, _, h4, _⟩ := hv i (by omega); exact len_of h4) xs.length (Nat.le_refl _)
  · simp only [spotOf, Option.some.injEq, Prod.mk.injEq] at h1
    rw [← h1.1]; exact ⟨Nat.le_refl _, hG⟩
  · obtain ⟨v, hv1, rfl⟩ := List.mem_map.1 hd
    rw [List.mem_singleton.1 hp]
    obtain ⟨i, hi, rfl⟩ := List.getElem_of_mem hv1
    obtain ⟨_, _, h4, _⟩ := hv i hi
    exact fun g o h6 h7 => by have := row_spot h4 g o h6 h7; omega
/-- so may the answer of Kept, and what is marked in it is held -/
theorem whole_rm {base : Nat} {w : World} {v : Value} {ys : List RepD} (h : (ys = [] ∧ ∃ a c, v = .slice a 0 c) ∨ ∃ G vals, 0 < ys.length ∧ Whole base w v ys G vals) (hn : ys.length ≤ 400) : RowE RepE 6 base w v ys ∧ ∃ ds, RM w v ds ∧ OneL ds ∧ DistinctE ds ∧ sumE 5 ds ds.length = 5 * (ys.length : Int) + 3 * (bulkR ys : Int) ∧ Span base w.heap.size v ds := by
  rcases h with ⟨rfl, a, c, rfl⟩ | ⟨G, vals, h0, h⟩
  · refine ⟨⟨a, c, rfl, by simp, fun h => by simp at h⟩, [], ⟨a, c, rfl, by simp, fun h => by simp at h⟩, fun d hd => by simp at hd, ⟨fun d hd => by simp at hd, fun i j hi => by simp at hi⟩, by simp [sumE, bulkR, bulkRTo], fun g o _ h => by simp [lenOf] at h, fun d hd => by simp at hd⟩
  · obtain ⟨c, hc⟩ := h.form
    have hl := h.len
    have hel : (elsOf vals).length = ys.length := by rw [els_len, hl]
    refine ⟨h.row, elsOf vals, ⟨_, c, by rw [hc, hel], by omega, fun _ => ⟨G, rfl, h.spots.2.1, h.elems⟩⟩, els_one _, h.apart, ?_, ⟨fun g o h1 h2 => ?_, h.spots.2.2⟩⟩
    · rw [hel]
      refine els_sum hl (fun i hi => ?_) ys.length (Nat.le_refl _)
      obtain ⟨g, o, c', hv, _, _, _, hcell⟩ := h.row.at (by omega)
      rw [hc] at hv
      cases hv
      obtain ⟨u, hu, hcs⟩ := rep_at (hcell i hi)
      have h5 := hcs 5 (by decide)
      have h6 := h.elems.vals i (by omega) 0 (by simp [elsOf])
      rw [show 0 + i * 6 + (5 + 0) = 0 + i * 6 + 5 by omega, h5] at h6
      simp [rcells, elsOf] at h6
      rw [← h6]; exact len_of hu
    · rw [hc] at h1
      simp only [spotOf, Option.some.injEq, Prod.mk.injEq] at h1
      rw [← h1.1]; exact ⟨h.spots.1, h.spots.2.1⟩
end Go.Proofs.Ytpehmphcnimegaa.deep
