/-
  The specification's l13Tick. Condition: the Sched's lists are no nil lists, the tasks no more than 1000, their needs 1 to 99, Now 0 to 999998.
-/
import Derived.Test.YtnkkkdhpopfahaaSchCopy
import Derived.Test.YtnkkkdhpopfahaaSchTi
namespace Go.Proofs.Ytnkkkdhpopfahaa.sch
open Go.RowKit Go.Deep Go.Sort
open Go.Proofs.Ytnkkkdhpopfahaa
open Go.Proofs.Ytnkkkdhpopfahaa.deep
set_option linter.unusedVariables false
set_option maxRecDepth 100000

theorem first_at {p : Tt → Bool} : ∀ (ts : List Tt) (i : Nat) (hi : i < ts.length), p ts[i] = true → (∀ k (hk : k < ts.length), k < i → p ts[k] = false) → ts.find? p = some ts[i] ∧ ts.eraseP p = ts.take i ++ ts.drop (i + 1)
  | [], i, hi, _, _ => by simp at hi
  | t :: r, 0, hi, h, _ => by
    simp only [List.getElem_cons_zero] at h
    rw [List.find?_cons_of_pos h, List.eraseP_cons_of_pos h]
    exact ⟨rfl, rfl⟩
  | t :: r, i + 1, hi, h, hn => by
    have h0 : p t = false := hn 0 (by simp) (by omega)
    have hne : ¬ p t = true := by rw [h0]; exact Bool.false_ne_true
    obtain ⟨h1, h2⟩ := first_at r i (by simpa using hi) (by simpa using h) (fun k hk hlt => by have := hn (k + 1) (by simpa using hk) (by omega); simpa using this)
    rw [List.find?_cons_of_neg hne, List.eraseP_cons_of_neg hne, h1, h2]
    exact ⟨by simp, by simp⟩
theorem first_none {p : Tt → Bool} {ts : List Tt} (h : ∀ k (hk : k < ts.length), p ts[k] = false) : ts.find? p = none := by
  rw [List.find?_eq_none]
  intro x hx
  obtain ⟨k, hk, rfl⟩ := List.getElem_of_mem hx
  rw [h k hk]; exact Bool.false_ne_true
theorem left_hit {ts : List Tt} {l : Int} {i : Nat} (hi : i < ts.length) (h : mine l ts[i] = true) (hn : ∀ k (hk : k < ts.length), k < i → mine l ts[k] = false) : leftT ts l = ts.take i ++ ts.drop (i + 1) ++ backT l ts[i] ∧ ranT ts l = ts[i] := by
  obtain ⟨h1, h2⟩ := first_at ts i hi h hn
  unfold leftT ranT
  rw [h1]
  simp only [Option.getD_some]
  rw [h2]
  exact ⟨rfl, trivial⟩
theorem left_miss {ts : List Tt} {l : Int} (h : ∀ k (hk : k < ts.length), mine l ts[k] = false) : leftT ts l = ts ∧ ranT ts l = (0, 0, 0) := by
  unfold leftT ranT
  rw [first_none h]
  exact ⟨rfl, rfl⟩
theorem row_drop {α : Type} {E : Reader α} {k lo : Nat} {w : World} {g o c n : Nat} {xs : List α} (h : RowE E k lo w (.slice (some ⟨g, o, none⟩) n c) xs) (j : Nat) (hj : j ≤ xs.length) (c' : Nat) : RowE E k lo w (.slice (some ⟨g, o + j * k, none⟩) (n - j) c') (xs.drop j) := by
  obtain ⟨a', c0, hv, hm, h3⟩ := h
  cases hv
  refine ⟨_, c', by rw [List.length_drop], by rw [List.length_drop]; omega, fun h0 => ?_⟩
  rw [List.length_drop] at h0
  obtain ⟨g', o', ha, hl, hg, hc⟩ := h3 (by omega)
  cases ha
  refine ⟨g, _, rfl, hl, hg, fun i hi => ?_⟩
  rw [List.length_drop] at hi
  obtain ⟨cs, h4, h5, h6⟩ := hc (j + i) (by omega)
  refine ⟨cs, h4, fun q hq => ?_, by rw [List.getElem_drop]; exact h6⟩
  rw [show o + j * k + i * k + q = o + (j + i) * k + q by rw [Nat.add_mul]; omega]
  exact h5 q hq
theorem tks_app {base : Nat} {w : World} {v : Value} {L M : List Tt} {n : Nat} (hn : n = L.length + M.length) (h : w.ownsRow base 35 3 v n ((L.map ctk).flatten ++ (M.map ctk).flatten)) : Tks base w v (L ++ M) := by
  refine ⟨fun cs hc => ?_, ?_⟩
  · obtain ⟨x, _, rfl⟩ := List.mem_map.1 hc; rfl
  · rw [List.length_map, List.length_append, ← hn, List.map_append, List.flatten_append]
    exact h
theorem own_cap {t k base n c : Nat} {w : World} {a : Option Addr} {css : List (List Value)} (h : OwnC t k base w (.slice a n c) css) : n ≤ c := by
  rcases h.row.2 with ⟨e, h0⟩ | ⟨g, cap, cur, e, _, _, hn, _⟩
  · cases e; exact Nat.le_refl _
  · cases e; exact hn
theorem Tks.at0 {base : Nat} {w : World} {v : Value} {ts : List Tt} (h : Tks base w v ts) : w.ownsRow base 35 3 v ts.length (ts.map ctk).flatten := by
  have := h.row
  rw [List.length_map] at this
  exact this
/-- the seven cells of what is told, the three of a Sched -/
theorem put_tk {W : World} {O t : Nat} {a0 a1 a2 a3 a4 a5 a6 b3 b4 b5 : Value} (h : Blk W O t [a0, a1, a2, a3, a4, a5, a6]) : Blk (putW W O 3 [b3, b4, b5]) O t [a0, a1, a2, b3, b4, b5, a6] := h.put [b3, b4, b5] 3
theorem put_2 {W : World} {O t : Nat} {a0 a1 a2 a3 a4 a5 a6 b : Value} (h : Blk W O t [a0, a1, a2, a3, a4, a5, a6]) : Blk (putW W O 2 [b]) O t [a0, a1, b, a3, a4, a5, a6] := h.put [b] 2
theorem put_1 {W : World} {O t : Nat} {a0 a1 a2 a3 a4 a5 a6 b : Value} (h : Blk W O t [a0, a1, a2, a3, a4, a5, a6]) : Blk (putW W O 1 [b]) O t [a0, b, a2, a3, a4, a5, a6] := h.put [b] 1
/-- what a tick leaves -/
theorem push_ok {base : Nat} {w w1 : World} {v v' : Value} {ts : List Tt} {t : Tt} {o : Obj} (h : Tks base w v ts) (hs : base ≤ w.heap.size) (h1 : w1.ownsRow base 35 3 v' ((ts.map ctk).length + 1) ((ts.map ctk).flatten ++ ctk t)) (hg : (w.alloc o).grownBy w1 v.ownBlock) {V : World} (hb : Below V.heap.size V w) (hV : V.heap.size = base) : Tks base w1 v' (ts ++ [t]) ∧ Below V.heap.size V w1 := by
  subst hV
  obtain ⟨q1, q2, _⟩ := push_tks (w := V) h hb hs h1 hg
  exact ⟨q1, q2⟩
def TickPost (x : SchedD) (w : World) (e : Ending) (w' : World) : Prop := ∃ ao no co at' nt ct, e = .returned (soV (tickD x) (.slice (some ao) no co) (.slice (some at') nt ct)) ∧ SF w.heap.size w' (.slice (some ao) no co) (.slice (some at') nt ct) (tickX x) ∧ nt ≤ ct ∧ Below w.heap.size w w'
theorem tick_end {x : SchedD} {w W : World} {a0 a1 : Addr} {no co nt ct lo1 : Nat} {nw r0 r1 r2 : Int} (hB : Below w.heap.size w W) (hlo : w.heap.size + 1 < lo1) (h1 : RowE (Plain cint) 1 lo1 W (.slice (some a0) no co) x.order) {lo2 : Nat} (hlo2 : lo1 ≤ lo2) (h2 : RowE (Plain ctk) 3 lo2 W (.slice (some a1) nt ct) (tickX x).tasks) (hn : (tickX x).now = nw + 1) (hr : (tickD x).r = (r0, r1, r2)) (hc : nt ≤ ct) (cs : List Value) :
    TickPost x w (.returned (.agg #[.slice (some a0) no co, .int .i64 (nw + 1), .slice (some a1) nt ct, .int .i64 r0, .int .i64 r1, .int .i64 r2, .int .i64 0])) (putW W (w.heap.size + 1) 0 cs) := by
  have hk := putW_keep cs W (w.heap.size + 1) 0 (w.heap.size + 2) (by omega)
  have hf : SF (w.heap.size + 2) W (.slice (some a0) no co) (.slice (some a1) nt ct) (tickX x) := ⟨rowE_lowers (plain_lowers _) h1 (by omega), rowE_lowers (plain_lowers _) h2 (by omega)⟩
  have hf2 := hf.keep hk (Nat.le_refl _) (Nat.le_refl _)
  refine ⟨a0, no, co, a1, nt, ct, ?_, ⟨rowE_lowers (plain_lowers _) hf2.1 (by omega), rowE_lowers (plain_lowers _) hf2.2 (by omega)⟩, hc, putW_below _ hB (by omega)⟩
  have hy : (tickD x).y.now = nw + 1 := hn
  have hcd : (tickD x).code = 0 := rfl
  unfold soV soC soL
  rw [hr, hy, hcd]
set_option maxHeartbeats 8000000 in
theorem spec_tick (x : SchedD) (ao at' : Addr) (no co nt ct : Nat) (hnc : nt ≤ ct) {lo : Nat} {w : World} (h : SF lo w (.slice (some ao) no co) (.slice (some at') nt ct) x) (ho1 : 1 ≤ x.order.length) (ho2 : x.order.length ≤ 16) (hn0 : 0 ≤ x.now) (hn1 : x.now < 999999) (ht : x.tasks.length ≤ 1000) (hnd : ∀ t ∈ x.tasks, 1 ≤ t.2.2 ∧ t.2.2 ≤ 99) :
    Calls Try.prog 56 #[.agg #[.slice (some ao) no co, .int .i64 x.now, .slice (some at') nt ct]] w (TickPost x w) := by
  obtain ⟨i0, hi, hz0, hz1, hz2⟩ := info_parts info_tk
  have HCP : Hid (∀ W, Below w.heap.size w W → Calls Try.prog 49 #[.agg #[.slice (some ao) no co, .int .i64 x.now, .slice (some at') nt ct]] W (CopyPost x W)) := fun W hW => spec_copy x ao at' no co nt ct (h.later hW) (by omega) (by omega)
  have HRT : Hid (RowE (Plain ctk) 3 lo w (.slice (some at') nt ct) x.tasks) := h.2
  obtain ⟨a1, c1, e1, hm1, h31⟩ := int_at h.1
  cases e1
  obtain ⟨a2, c2, e2, hm2, h32⟩ := tk_at h.2
  cases e2
  obtain ⟨g, o, e3, hg, hc⟩ := h31 ho1
  cases e3
  have hemod := Int.emod_lt_of_pos x.now (show (0 : Int) < x.order.length by omega)
  have hemod0 := Int.emod_nonneg x.now (show (x.order.length : Int) ≠ 0 by omega)
  obtain ⟨i, hi1, hi2⟩ : ∃ i : Nat, (i : Int) = x.now % (x.order.length : Int) ∧ i < x.order.length := ⟨(x.now % (x.order.length : Int)).toNat, by omega, by omega⟩
  have hlab : labOf x = x.order[i] := by
    unfold labOf
    rw [← hi1]
    simp [List.getD, List.getElem?_eq_getElem hi2]
  have d0 := hc i hi2
  rw [← hlab] at d0
  obtain ⟨l, hl⟩ : ∃ l, l = labOf x := ⟨_, rfl⟩
  rw [← hl] at d0
  obtain ⟨nw, hnw⟩ : ∃ q, q = x.now := ⟨_, rfl⟩
  obtain ⟨m, hmm⟩ : ∃ m, m = x.order.length := ⟨_, rfl⟩
  obtain ⟨n, hnn⟩ : ∃ n, n = x.tasks.length := ⟨_, rfl⟩
  have HN : Hid (n = x.tasks.length) := hnn
  have HHIT : Hid (∀ i (hi : i < x.tasks.length), mine l x.tasks[i] = true → (∀ k (hk : k < x.tasks.length), k < i → mine l x.tasks[k] = false) → (tickX x).tasks = x.tasks.take i ++ x.tasks.drop (i + 1) ++ backT l x.tasks[i] ∧ (tickD x).r = x.tasks[i]) := fun i hi h1 h2 => by rw [hl] at *; exact left_hit hi h1 h2
  have HMISS : Hid ((∀ k (hk : k < x.tasks.length), mine l x.tasks[k] = false) → (tickX x).tasks = x.tasks ∧ (tickD x).r = (0, 0, 0)) := fun h => by rw [hl] at h; exact left_miss h
  have HND : Hid (∀ i (hi : i < x.tasks.length), 1 ≤ x.tasks[i].2.2 ∧ x.tasks[i].2.2 ≤ 99) := fun i hi => hnd _ (List.getElem_mem hi)
  have H3 : Hid (0 < x.tasks.length → ∃ g o, some at' = some ⟨g, o, none⟩ ∧ g < w.heap.size ∧ ∀ i (hi : i < x.tasks.length), w.cell? ⟨g, o + i * 3, none⟩ = some (.int .i64 x.tasks[i].1) ∧ w.cell? ⟨g, o + i * 3 + 1, none⟩ = some (.int .i64 x.tasks[i].2.1) ∧ w.cell? ⟨g, o + i * 3 + 2, none⟩ = some (.int .i64 x.tasks[i].2.2)) := h32
  have HXN : Hid ((tickX x).order = x.order ∧ (tickX x).now = nw + 1) := ⟨rfl, by rw [hnw]; rfl⟩
  unfold CopyPost at HCP
  rw [← hnw] at HCP hn0 hn1 hi1 hemod hemod0 ⊢
  rw [← hmm] at HCP ho1 ho2 hi1 hi2 hemod hemod0 hm1 ⊢
  rw [← hnn] at HCP HRT hm2 hnc ht ⊢
  unfold maxLen at hm1 hm2
  have hmod : nw % (m : Int) = (i : Int) := hi1.symm
  have hii : (0 : Int) ≤ (i : Int) := by omega
  have hii2 : (i : Int) < (m : Int) := by omega
  have hb3 : (nw % (m : Int)).toNat = i := by omega
  have hmz : (m : Int) ≠ 0 := by omega
  have hmz2 : ¬ m = 0 := by omega
  have hb1 : 0 ≤ nw % (m : Int) := by omega
  have hb2 : nw % (m : Int) < (m : Int) := by omega
  have hT : nw.tmod (m : Int) = (i : Int) := by rw [Int.tmod_eq_emod_of_nonneg hn0]; exact hmod
  obtain ⟨V, hV⟩ : ∃ V, V = (w.alloc (.cells #[.slice (some ⟨g, o, none⟩) m co, .int .i64 nw, .slice (some at') n ct] 30)).alloc (.cells #[.slice none 0 0, .int .i64 0, .slice none 0 0, .int .i64 0, .int .i64 0, .int .i64 0, .int .i64 0] 37) := ⟨_, rfl⟩
  have HBV : Hid (Below w.heap.size w V) := by rw [hV]; exact below2 _ _ _
  obtain ⟨b1, b2⟩ : Blk V w.heap.size 30 [.slice (some ⟨g, o, none⟩) m co, .int .i64 nw, .slice (some at') n ct] ∧ Blk V (w.heap.size + 1) 37 [.slice none 0 0, .int .i64 0, .slice none 0 0, .int .i64 0, .int .i64 0, .int .i64 0, .int .i64 0] := by rw [hV]; exact blk2 _ _ _ _ _
  have HX : Hid (Blk V w.heap.size 30 [.slice (some ⟨g, o, none⟩) m co, .int .i64 nw, .slice (some at') n ct]) := b1
  have HR : Hid (Blk V (w.heap.size + 1) 37 [.slice none 0 0, .int .i64 0, .slice none 0 0, .int .i64 0, .int .i64 0, .int .i64 0, .int .i64 0]) := b2
  obtain ⟨x0, x1, x2⟩ := cells3s b1
  clear h h31 h32 hc hlab hl hnw hmm hnn hi1 hemod hemod0 hnd b1 b2
  go_enter Try.func56, Try.ntmps56
  go_wp2_with fail
  rw [← hV]
  clear hV
  refine Calls.mono (HCP.out _ HBV.out) ?_
  rintro e w1 ⟨ao1, no1, co1, at1, nt1, ct1, rfl, hi1, ht1, hb1⟩
  have HI1 : Hid (RowE (Plain cint) 1 V.heap.size w1 (.slice (some ao1) no1 co1) x.order) := hi1.row.1
  have HT1 : Hid (RowE (Plain ctk) 3 V.heap.size w1 (.slice (some at1) nt1 ct1) x.tasks) := OwnC.plain ht1
  have HC1 : Hid (nt1 ≤ ct1) := own_cap ht1
  have hX1 : Blk w1 w.heap.size 30 [.slice (some ⟨g, o, none⟩) m co, .int .i64 nw, .slice (some at') n ct] := HX.out.later hb1
  have HR1 : Hid (Blk w1 (w.heap.size + 1) 37 [.slice none 0 0, .int .i64 0, .slice none 0 0, .int .i64 0, .int .i64 0, .int .i64 0, .int .i64 0]) := HR.out.later hb1
  have HX1 : Hid (Blk w1 w.heap.size 30 [.slice (some ⟨g, o, none⟩) m co, .int .i64 nw, .slice (some at') n ct]) := hX1
  have HB1 : Hid (Below w.heap.size w w1) := below_tr HBV.out hb1
  have hVs : w.heap.size + 1 < V.heap.size := HR.out.lt
  have hVw : V.heap.size ≤ w1.heap.size := hb1.size
  have d1 : w1.cell? ⟨g, o + i, none⟩ = some (.int .i64 l) := (HB1.out.cell (p := ⟨g, o + i, none⟩) hg).trans d0
  clear hi1 ht1 hb1 x0 x1 x2 HX HR d0 hX1
  obtain ⟨x0, x1, x2⟩ := cells3s HX1.out
  go_upto_region 2 with fail
  obtain ⟨U, hU⟩ : ∃ U, U = w1.alloc (.cells #[.slice (some ao1) no1 co1, .int .i64 nw, .slice (some at1) nt1 ct1, .int .i64 0, .int .i64 0, .int .i64 0, .int .i64 0] 37) := ⟨_, rfl⟩
  have hbU : Below w1.heap.size w1 U := by rw [hU]; exact below_one _ _
  have hOU : Blk U w1.heap.size 37 [.slice (some ao1) no1 co1, .int .i64 nw, .slice (some at1) nt1 ct1, .int .i64 0, .int .i64 0, .int .i64 0, .int .i64 0] := by rw [hU]; exact blk_new _ _ _
  have HS : Hid (∀ W : World, W.heap = U.heap → W.cell? ⟨w.heap.size, 0, none⟩ = some (.slice (some ⟨g, o, none⟩) m co) ∧ W.cell? ⟨w.heap.size, 1, none⟩ = some (.int .i64 nw) ∧ W.cell? ⟨w.heap.size, 2, none⟩ = some (.slice (some at') n ct) ∧ W.cell? ⟨g, o + i, none⟩ = some (.int .i64 l)) := fun W hW => by
    have hXU := HX1.out.later hbU
    have hgU : U.cell? ⟨g, o + i, none⟩ = some (.int .i64 l) := (hbU.cell (p := ⟨g, o + i, none⟩) (Nat.lt_of_lt_of_le hg HB1.out.size)).trans d1
    have hXW : Blk W w.heap.size 30 [.slice (some ⟨g, o, none⟩) m co, .int .i64 nw, .slice (some at') n ct] := (by rw [hW] : W.heap[w.heap.size]? = U.heap[w.heap.size]?).trans hXU
    exact ⟨hXW.cell 0, hXW.cell 1, hXW.cell 2, (World.cell?_of_block (w := U) (a := ⟨g, o + i, none⟩) (by rw [hW])).trans hgU⟩
  have HBU : Hid (Below w1.heap.size w1 U) := hbU
  have HOU : Hid (Blk U w1.heap.size 37 [.slice (some ao1) no1 co1, .int .i64 nw, .slice (some at1) nt1 ct1, .int .i64 0, .int .i64 0, .int .i64 0, .int .i64 0]) := hOU
  rw [← hU]
  clear hU hbU hOU x0 x1 x2 d1
  go_region_held3 (fun W => W.cell? ⟨w.heap.size, 0, none⟩ = some (.slice (some ⟨g, o, none⟩) m co) ∧ W.cell? ⟨w.heap.size, 1, none⟩ = some (.int .i64 nw) ∧ W.cell? ⟨w.heap.size, 2, none⟩ = some (.slice (some at') n ct) ∧ W.cell? ⟨g, o + i, none⟩ = some (.int .i64 l))
    (first | (with_reducible assumption) | exact HS.out _ rfl)
    (first | fail)
  obtain ⟨D, hD⟩ : ∃ D, D = U.drew := ⟨_, rfl⟩
  have hbD : Below w1.heap.size w1 D := by rw [hD]; exact bdd HBU.out
  have hOD : Blk D w1.heap.size 37 [.slice (some ao1) no1 co1, .int .i64 nw, .slice (some at1) nt1 ct1, .int .i64 0, .int .i64 0, .int .i64 0, .int .i64 0] := by rw [hD]; exact HOU.out
  obtain ⟨x0, x1, x2, -⟩ := HS.out D (by rw [hD]; rfl)
  obtain ⟨o0, o1, o2, o3, o4, o5, o6⟩ := seven hOD
  obtain ⟨z0, z1, z2, z3, z4, z5, z6⟩ := seven_free hOD
  have HO1 : Hid (Blk (putW D w1.heap.size 1 [.int .i64 (nw + 1)]) w1.heap.size 37 [.slice (some ao1) no1 co1, .int .i64 (nw + 1), .slice (some at1) nt1 ct1, .int .i64 0, .int .i64 0, .int .i64 0, .int .i64 0]) := put_1 hOD
  have HBD1 : Hid (Below w1.heap.size w1 (putW D w1.heap.size 1 [.int .i64 (nw + 1)])) := putW_below _ hbD (Nat.le_refl _)
  rw [← hD]
  clear hD hbD hOD HS HBU HOU
  go_upto_region 4 with fail
  obtain ⟨O, hO⟩ : ∃ O, O = w1.heap.size := ⟨_, rfl⟩
  have hwO : w.heap.size + 1 < O := by omega
  rw [← hO] at HO1 HBD1 hVw ⊢
  obtain ⟨E, hE⟩ : ∃ E, E = D.setCell ⟨O, 1, none⟩ (.int .i64 (nw + 1)) := ⟨_, rfl⟩
  have hE2 : E = putW D O 1 [.int .i64 (nw + 1)] := hE
  rw [← hE2] at HO1 HBD1
  rw [← hE]
  clear hE hE2 x0 x1 x2 o0 o1 o2 o3 o4 o5 o6 z0 z1 z2 z3 z4 z5 z6
  have HOW : Hid (O = w1.heap.size) := hO
  clear hO
  have HBD1' : Hid (Below w1.heap.size w1 E) := by rw [Hid, ← HOW.out]; exact HBD1.out
  have HXE : Hid (Blk E w.heap.size 30 [.slice (some ⟨g, o, none⟩) m co, .int .i64 nw, .slice (some at') n ct]) := HX1.out.later HBD1'.out
  have HRE : Hid (Blk E (w.heap.size + 1) 37 [.slice none 0 0, .int .i64 0, .slice none 0 0, .int .i64 0, .int .i64 0, .int .i64 0, .int .i64 0]) := HR1.out.later HBD1'.out
  have HEs : w1.heap.size ≤ E.heap.size := HBD1'.out.size
  have HOE : O < E.heap.size := HO1.out.lt
  obtain ⟨x0, x1, x2⟩ := cells3s HXE.out
  go_wp2_with fail
  go_loop [5] (fun ti => ∃ j : Nat, j ≤ n ∧ ti = .int .i64 j ∧ Hid (∀ k (hk : k < x.tasks.length), k < j → mine l x.tasks[k] = false)) (fun ti => n - (intOf ti).toNat)
  case atStart => exact ⟨0, by omega, rfl, fun k _ h => absurd h (by omega)⟩
  case round =>
    obtain ⟨j, hj, rfl, H⟩ := hrel
    by_cases hlt : j < n
    · have hlx : j < x.tasks.length := by rw [← HN.out]; exact hlt
      obtain ⟨gt, ot, hat, hgt, hc⟩ := H3.out (by omega)
      obtain rfl := Option.some.inj hat
      obtain ⟨f0, f1, f2⟩ := hc j hlx
      have HBE : Hid (Below w.heap.size w E) := below_tr HB1.out HBD1'.out
      have e0 := (HBE.out.cell (p := ⟨gt, ot + j * 3, none⟩) hgt).trans f0
      have e1 := (HBE.out.cell (p := ⟨gt, ot + j * 3 + 1, none⟩) hgt).trans f1
      have e2 := (HBE.out.cell (p := ⟨gt, ot + j * 3 + 2, none⟩) hgt).trans f2
      have HST : Hid (mine l x.tasks[j] = false → ∀ k (hk : k < x.tasks.length), k < j + 1 → mine l x.tasks[k] = false) := fun h k hk hlt2 => by
        by_cases e : k = j
        · subst e; exact h
        · exact H.out k hk (by omega)
      cases hmi : mine l x.tasks[j] with
      | false =>
        have HS : Hid _ := HST.out hmi
        have hne : (x.tasks[j].1 == l) = false := hmi
        clear HST hc f0 f1 f2 hmi
        generalize x.tasks[j] = y at *
        obtain ⟨p0, p1, p2⟩ := y
        simp only at e0 e1 e2 hne
        go_wp2
        go_round
        case rel => exact ⟨j + 1, by omega, by go_num, HS.out⟩
        case measure => simp [intOf]; omega
      | true =>
        obtain ⟨HK1, HK2⟩ := HHIT.out j hlx hmi (fun k hk hlt2 => H.out k hk hlt2)
        have HTK : Hid ((tickX x).tasks = x.tasks.take j ++ x.tasks.drop (j + 1) ++ backT l x.tasks[j]) := HK1
        have HRK : Hid ((tickD x).r = x.tasks[j]) := HK2
        have hnd := HND.out j hlx
        have hne : x.tasks[j].1 = l := by simpa [mine] using hmi
        have hl1 : (x.tasks.take j).length = j := by rw [List.length_take]; omega
        have hl2 : (x.tasks.drop (j + 1)).length = n - (j + 1) := by rw [List.length_drop, ← HN.out]
        have HTR : Hid (∀ W, Below w.heap.size w W → RowE (Plain ctk) 3 lo W (.slice (some ⟨gt, ot, none⟩) n ct) x.tasks) := fun W hW => HRT.out.below (plain_stays _) hW
        have HNA : Hid (∀ W, Below w.heap.size w W → ∀ q u, ((x.tasks.take j).map ctk).flatten[q]? = some u → W.cell? ((⟨gt, ot, none⟩ : Addr).add q) = some u) := fun W hW => row_cells (fun _ => rfl) (row_take (HTR.out W hW) (Nat.le_of_lt hlx))
        have HNB : Hid (∀ W, Below w.heap.size w W → ∀ q u, ((x.tasks.drop (j + 1)).map ctk).flatten[q]? = some u → W.cell? ((⟨gt, ot + (j + 1) * 3, none⟩ : Addr).add q) = some u) := fun W hW => row_cells (fun _ => rfl) (row_drop (HTR.out W hW) (j + 1) hlx 0)
        have A1 : Hid (((x.tasks.take j).map ctk).flatten.length = j * 3) := by rw [Hid, tks_len, hl1]
        have A2 : Hid (((x.tasks.drop (j + 1)).map ctk).flatten.length = (n - (j + 1)) * 3) := by rw [Hid, tks_len, hl2]
        have HO1A : Hid (∀ u ∈ ((x.tasks.take j).map ctk).flatten, u.oneCell' = true) := tks_one _
        have HO1B : Hid (∀ u ∈ ((x.tasks.drop (j + 1)).map ctk).flatten, u.oneCell' = true) := tks_one _
        have HL1 : Hid ((x.tasks.take j).length = j ∧ (x.tasks.drop (j + 1)).length = n - (j + 1)) := ⟨hl1, hl2⟩
        have A4 : Hid (0 + j ≤ maxLen ∧ (0 + j) * 24 ≤ 140737488355328) := ⟨by unfold maxLen; omega, by omega⟩
        have A5 : Hid (j + (n - (j + 1)) ≤ maxLen ∧ (j + (n - (j + 1))) * 24 ≤ 140737488355328 ∧ j + (n - (j + 1)) + 1 ≤ maxLen ∧ (j + (n - (j + 1)) + 1) * 24 ≤ 140737488355328) := ⟨by unfold maxLen; omega, by omega, by unfold maxLen; omega, by omega⟩
        have hjc : (j : Int) ≤ (ct : Int) := by omega
        have hjc2 : (j : Int) + 1 ≤ (n : Int) := by omega
        have hnc2 : (n : Int) ≤ (ct : Int) := by omega
        clear HST hc f0 f1 f2 hmi hl1 hl2 HK1 HK2
        generalize x.tasks[j] = y at *
        obtain ⟨p0, p1, p2⟩ := y
        simp only at e0 e1 e2 hne hnd
        subst hne
        obtain ⟨o0, o1, o2, o3, o4, o5, o6⟩ := seven HO1.out
        obtain ⟨z0, z1, z2, z3, z4, z5, z6⟩ := seven_free HO1.out
        go_upto_region 9 with fail
        obtain ⟨E2, hE2⟩ : ∃ E2, E2 = ((E.setCell ⟨O, 3, none⟩ (.int .i64 p0)).setCell ⟨O, 4, none⟩ (.int .i64 p1)).setCell ⟨O, 5, none⟩ (.int .i64 p2) := ⟨_, rfl⟩
        have hE2' : E2 = putW E O 3 [.int .i64 p0, .int .i64 p1, .int .i64 p2] := hE2
        have HO2 : Hid (Blk E2 O 37 [.slice (some ao1) no1 co1, .int .i64 (nw + 1), .slice (some at1) nt1 ct1, .int .i64 p0, .int .i64 p1, .int .i64 p2, .int .i64 0]) := by rw [Hid, hE2']; exact put_tk HO1.out
        have HB2' : Hid (Below w1.heap.size w1 E2) := by rw [Hid, hE2']; exact putW_below _ HBD1'.out (Nat.le_of_eq HOW.out.symm)
        have HX2 : Hid (Blk E2 w.heap.size 30 [.slice (some ⟨g, o, none⟩) m co, .int .i64 nw, .slice (some ⟨gt, ot, none⟩) n ct]) := HX1.out.later HB2'.out
        rw [← hE2]
        clear hE2 hE2' x0 x1 x2 o0 o1 o2 o3 o4 o5 o6 z0 z1 z2 z3 z4 z5 z6 e0 e1 e2
        obtain ⟨x0, x1, x2⟩ := cells3s HX2.out
        have hx2l := HX2.out.lt
        go_upto_region 10 with (at_builtin; go_loud (refine wpList_append_own _ rfl _ _ 28 rfl E2.heap.size 35 i0 (.agg #[.int .i64 0, .int .i64 0, .int .i64 0]) 3 24 Try.underlying28 hi hz0 hz1 hz2 rfl (by decide) _ 0 [] rfl (World.ownsRow_made E2 #[] 0 (Nat.le_refl _) (by unfold maxLen; omega) rfl) ⟨gt, ot, none⟩ j ct (((x.tasks.take j).map ctk).flatten) rfl A1.out (HNA.out _ (below_tr (below_tr HB1.out HB2'.out) (below_one E2 _))) HO1A.out A4.out.1 A4.out.2 (by simp) ?_); intro v1 w2 own1 gr1 nn1)
        have HT9 : Hid (Tks E2.heap.size w2 v1 (x.tasks.take j)) := tks_of HL1.out.1.symm own1
        have HB9 : Hid (Below E2.heap.size E2 w2) := gb (V := E2) (below_one E2 _) (Nat.le_refl _) gr1
        obtain ⟨b1, m1, d1, rfl⟩ := own_some HT9.out (fun e => sl_ne (nn1.1 e).1)
        have HW9 : Hid (w2.ownsRow E2.heap.size 35 3 (.slice (some b1) m1 d1) j ((x.tasks.take j).map ctk).flatten) := by have := HT9.out.at0; rw [HL1.out.1] at this; exact this
        have HX9 : Hid (Blk w2 w.heap.size 30 [.slice (some ⟨g, o, none⟩) m co, .int .i64 nw, .slice (some ⟨gt, ot, none⟩) n ct]) := HX2.out.later HB9.out
        clear own1 gr1 nn1 x0 x1 x2
        obtain ⟨x0, x1, x2⟩ := cells3s HX9.out
        have hj1 : (j : Int) + 1 ≤ 9223372036854775807 := by omega
        have hj2 : ((j : Int) + 1).toNat = j + 1 := by omega
        rcases Nat.lt_or_ge (j + 1) ct with hq | hq
        case' inl =>
          have hne2 : ¬ ct = j + 1 := by omega
          have hne3 : ¬ ct - (j + 1) = 0 := by omega
          clear hq
          go_upto_region 11 with (at_builtin; go_loud (refine wpList_append_own _ rfl _ _ 28 rfl E2.heap.size 35 i0 (.agg #[.int .i64 0, .int .i64 0, .int .i64 0]) 3 24 Try.underlying28 hi hz0 hz1 hz2 rfl (by decide) _ j ((x.tasks.take j).map ctk).flatten rfl HW9.out ⟨gt, ot + (j + 1) * 3, none⟩ (n - (j + 1)) (ct - (j + 1)) (((x.tasks.drop (j + 1)).map ctk).flatten) rfl A2.out (HNB.out _ (below_tr (below_tr HB1.out HB2'.out) HB9.out)) HO1B.out A5.out.1 A5.out.2.1 HB9.out.size ?_); intro v2 w3 own2 gr2 nn2)
        case' inr =>
          obtain rfl : ct = j + 1 := by omega
          obtain rfl : n = j + 1 := by omega
          have AZ : Hid (((x.tasks.drop (j + 1)).map ctk).flatten.length = 0 * 3 ∧ j + 0 ≤ maxLen ∧ (j + 0) * 24 ≤ 140737488355328) := ⟨by rw [A2.out]; omega, by unfold maxLen; omega, by omega⟩
          have HNV : Hid (∀ q u, ((x.tasks.drop (j + 1)).map ctk).flatten[q]? = some u → w2.cell? ((⟨gt, ot, none⟩ : Addr).add q) = some u) := fun q u h => by have h1 := (List.getElem?_eq_some_iff.1 h).1; rw [A2.out] at h1; omega
          go_upto_region 11 with (at_builtin; go_loud (refine wpList_append_own _ rfl _ _ 28 rfl E2.heap.size 35 i0 (.agg #[.int .i64 0, .int .i64 0, .int .i64 0]) 3 24 Try.underlying28 hi hz0 hz1 hz2 rfl (by decide) _ j ((x.tasks.take j).map ctk).flatten rfl HW9.out ⟨gt, ot, none⟩ 0 0 (((x.tasks.drop (j + 1)).map ctk).flatten) rfl AZ.out.1 HNV.out HO1B.out AZ.out.2.1 AZ.out.2.2 HB9.out.size ?_); intro v2 w3 own2 gr2 nn2)
        all_goals
          have HT10 : Hid (Tks E2.heap.size w3 v2 (x.tasks.take j ++ x.tasks.drop (j + 1))) := tks_app (by have h1 := HL1.out.1; have h2 := HL1.out.2; omega) own2
          have HB10 : Hid (Below E2.heap.size E2 w3) := HB9.out.grown gr2 HB9.out.size (fun k e => HT9.out.own_ge k e)
          obtain ⟨b3, m3, d3, rfl⟩ := own_some HT10.out (fun e => sl_ne (nn2.1 e).1)
          have HO10 : Hid (Blk w3 O 37 [.slice (some ao1) no1 co1, .int .i64 (nw + 1), .slice (some at1) nt1 ct1, .int .i64 p0, .int .i64 p1, .int .i64 p2, .int .i64 0]) := HO2.out.later HB10.out
          have hw3 : E2.heap.size ≤ w3.heap.size := HB10.out.size
          have hO2 : O < E2.heap.size := HO2.out.lt
          have HLX : Hid (((x.tasks.take j ++ x.tasks.drop (j + 1)).map ctk).length + 1 ≤ 1000) := by show _ ≤ _; rw [List.length_map, List.length_append, HL1.out.1, HL1.out.2]; omega
          clear own2 gr2 nn2 x0 x1 x2
          generalize x.tasks.take j ++ x.tasks.drop (j + 1) = L at *
          obtain ⟨o0, o1, o2, o3, o4, o5, o6⟩ := seven HO10.out
          obtain ⟨z0, z1, z2, z3, z4, z5, z6⟩ := seven_free HO10.out
          by_cases h1 : 1 < p2
          · have HBK : Hid (backT p0 (p0, p1, p2) = [(p0, p1, p2 - 1)]) := if_pos h1
            go_upto_region 13 with (at_builtin; go_loud (refine wpList_append_own _ rfl _ _ 28 rfl E2.heap.size 35 i0 (.agg #[.int .i64 0, .int .i64 0, .int .i64 0]) 3 24 Try.underlying28 hi hz0 hz1 hz2 rfl (by decide) _ _ _ rfl (HT10.out.row.alloc _) ⟨w3.heap.size, 0, none⟩ 1 1 (ctk (p0, p1, p2 - 1)) rfl rfl (new_cells w3 _ _) (ctk_one _) (by have := HLX.out; unfold maxLen; omega) (by have := HLX.out; omega) (by simp; omega) ?_); intro v3 w4 own3 gr3 nn3)
            obtain ⟨hA, hB⟩ := push_ok HT10.out hw3 own3 gr3 HB10.out rfl
            obtain ⟨b4, m4, d4, rfl⟩ := own_some hA (fun e => sl_ne (nn3.1 e).1)
            have HT12 : Hid (Tks E2.heap.size w4 (.slice (some b4) m4 d4) (tickX x).tasks) := by rw [Hid, HTK.out, HBK.out]; exact hA
            have HB12 : Hid (Below E2.heap.size E2 w4) := hB
            clear own3 gr3 nn3 hA hB o0 o1 o2 o3 o4 o5 o6 z0 z1 z2 z3 z4 z5 z6
            obtain ⟨o0, o1, o2, o3, o4, o5, o6⟩ := seven (HO2.out.later HB12.out)
            obtain ⟨z0, z1, z2, z3, z4, z5, z6⟩ := seven_free (HO2.out.later HB12.out)
            go_upto_region 14 with fail
            obtain ⟨F, hF⟩ : ∃ F, F = w4.setCell ⟨O, 2, none⟩ (.slice (some b4) m4 d4) := ⟨_, rfl⟩
            have hF2 : F = putW w4 O 2 [.slice (some b4) m4 d4] := hF
            have HOF : Hid (Blk F O 37 [.slice (some ao1) no1 co1, .int .i64 (nw + 1), .slice (some b4) m4 d4, .int .i64 p0, .int .i64 p1, .int .i64 p2, .int .i64 0]) := by rw [Hid, hF2]; exact put_2 (HO2.out.later HB12.out)
            have HRF : Hid (Blk F (w.heap.size + 1) 37 [.slice none 0 0, .int .i64 0, .slice none 0 0, .int .i64 0, .int .i64 0, .int .i64 0, .int .i64 0]) := by rw [Hid, hF2]; exact ((HR1.out.later HB2'.out).later HB12.out).other _ _ _ (by omega)
            have HTF : Hid (RowE (Plain ctk) 3 E2.heap.size F (.slice (some b4) m4 d4) (tickX x).tasks) := by rw [Hid, hF2]; exact OwnC.plain (own_put HT12.out O 2 _ hO2 (Nat.le_refl _))
            have HBF1 : Hid (Below w1.heap.size w1 F) := by rw [Hid, hF2]; exact putW_below _ (below_tr HB2'.out HB12.out) (Nat.le_of_eq HOW.out.symm)
            have HIF : Hid (RowE (Plain cint) 1 V.heap.size F (.slice (some ao1) no1 co1) x.order) := HI1.out.below (plain_stays _) HBF1.out
            have HBF : Hid (Below w.heap.size w F) := below_tr HB1.out HBF1.out
            have HCAP : Hid (m4 ≤ d4) := own_cap HT12.out
            have HVE : Hid (V.heap.size ≤ E2.heap.size) := by show _ ≤ _; omega
            rw [← hF]
            clear hF hF2 o0 o1 o2 o3 o4 o5 o6 z0 z1 z2 z3 z4 z5 z6
            obtain ⟨o0, o1, o2, o3, o4, o5, o6⟩ := seven HOF.out
            obtain ⟨y0, y1, y2, y3, y4, y5, y6⟩ := seven HRF.out
            obtain ⟨z0, z1, z2, z3, z4, z5, z6⟩ := seven_free HRF.out
            go_wp2_with fail
            refine bodyPost_ret (v := .agg #[.slice (some ao1) no1 co1, .int .i64 (nw + 1), .slice (some b4) m4 d4, .int .i64 p0, .int .i64 p1, .int .i64 p2, .int .i64 0]) ?_ rfl ?_
            · simp [results, Try.results56, go_sem, y0, y1, y2, y3, y4, y5, y6]
            · exact tick_end HBF.out hVs HIF.out HVE.out HTF.out HXN.out.2 HRK.out HCAP.out [.slice (some ao1) no1 co1, .int .i64 (nw + 1), .slice (some b4) m4 d4, .int .i64 p0, .int .i64 p1, .int .i64 p2, .int .i64 0]
          · have HBK : Hid (backT p0 (p0, p1, p2) = []) := if_neg h1
            go_upto_region 13 with fail
            have HT12 : Hid (Tks E2.heap.size w3 (.slice (some b3) m3 d3) (tickX x).tasks) := by rw [Hid, HTK.out, HBK.out, List.append_nil]; exact HT10.out
            have HB12 : Hid (Below E2.heap.size E2 w3) := HB10.out
            go_upto_region 14 with fail
            obtain ⟨F, hF⟩ : ∃ F, F = w3.setCell ⟨O, 2, none⟩ (.slice (some b3) m3 d3) := ⟨_, rfl⟩
            have hF2 : F = putW w3 O 2 [.slice (some b3) m3 d3] := hF
            have HOF : Hid (Blk F O 37 [.slice (some ao1) no1 co1, .int .i64 (nw + 1), .slice (some b3) m3 d3, .int .i64 p0, .int .i64 p1, .int .i64 p2, .int .i64 0]) := by rw [Hid, hF2]; exact put_2 (HO2.out.later HB12.out)
            have HRF : Hid (Blk F (w.heap.size + 1) 37 [.slice none 0 0, .int .i64 0, .slice none 0 0, .int .i64 0, .int .i64 0, .int .i64 0, .int .i64 0]) := by rw [Hid, hF2]; exact ((HR1.out.later HB2'.out).later HB12.out).other _ _ _ (by omega)
            have HTF : Hid (RowE (Plain ctk) 3 E2.heap.size F (.slice (some b3) m3 d3) (tickX x).tasks) := by rw [Hid, hF2]; exact OwnC.plain (own_put HT12.out O 2 _ hO2 (Nat.le_refl _))
            have HBF1 : Hid (Below w1.heap.size w1 F) := by rw [Hid, hF2]; exact putW_below _ (below_tr HB2'.out HB12.out) (Nat.le_of_eq HOW.out.symm)
            have HIF : Hid (RowE (Plain cint) 1 V.heap.size F (.slice (some ao1) no1 co1) x.order) := HI1.out.below (plain_stays _) HBF1.out
            have HBF : Hid (Below w.heap.size w F) := below_tr HB1.out HBF1.out
            have HCAP : Hid (m3 ≤ d3) := own_cap HT12.out
            have HVE : Hid (V.heap.size ≤ E2.heap.size) := by show _ ≤ _; omega
            rw [← hF]
            clear hF hF2 o0 o1 o2 o3 o4 o5 o6 z0 z1 z2 z3 z4 z5 z6
            obtain ⟨o0, o1, o2, o3, o4, o5, o6⟩ := seven HOF.out
            obtain ⟨y0, y1, y2, y3, y4, y5, y6⟩ := seven HRF.out
            obtain ⟨z0, z1, z2, z3, z4, z5, z6⟩ := seven_free HRF.out
            go_wp2_with fail
            refine bodyPost_ret (v := .agg #[.slice (some ao1) no1 co1, .int .i64 (nw + 1), .slice (some b3) m3 d3, .int .i64 p0, .int .i64 p1, .int .i64 p2, .int .i64 0]) ?_ rfl ?_
            · simp [results, Try.results56, go_sem, y0, y1, y2, y3, y4, y5, y6]
            · exact tick_end HBF.out hVs HIF.out HVE.out HTF.out HXN.out.2 HRK.out HCAP.out [.slice (some ao1) no1 co1, .int .i64 (nw + 1), .slice (some b3) m3 d3, .int .i64 p0, .int .i64 p1, .int .i64 p2, .int .i64 0]
    · obtain ⟨hk1, hk2⟩ := HMISS.out (fun k hk => H.out k hk (by have := HN.out; omega))
      have HTF : Hid (RowE (Plain ctk) 3 V.heap.size E (.slice (some at1) nt1 ct1) (tickX x).tasks) := by rw [Hid, hk1]; exact HT1.out.below (plain_stays _) HBD1'.out
      have HRK : Hid ((tickD x).r = (0, 0, 0)) := hk2
      have HIF : Hid (RowE (Plain cint) 1 V.heap.size E (.slice (some ao1) no1 co1) x.order) := HI1.out.below (plain_stays _) HBD1'.out
      have HBF : Hid (Below w.heap.size w E) := below_tr HB1.out HBD1'.out
      obtain ⟨o0, o1, o2, o3, o4, o5, o6⟩ := seven HO1.out
      obtain ⟨y0, y1, y2, y3, y4, y5, y6⟩ := seven HRE.out
      obtain ⟨z0, z1, z2, z3, z4, z5, z6⟩ := seven_free HRE.out
      clear hk1 hk2
      go_wp2_with fail
      refine bodyPost_ret (v := .agg #[.slice (some ao1) no1 co1, .int .i64 (nw + 1), .slice (some at1) nt1 ct1, .int .i64 0, .int .i64 0, .int .i64 0, .int .i64 0]) ?_ rfl ?_
      · simp [results, Try.results56, go_sem, y0, y1, y2, y3, y4, y5, y6]
      · exact tick_end HBF.out hVs HIF.out (Nat.le_refl _) HTF.out HXN.out.2 HRK.out HC1.out [.slice (some ao1) no1 co1, .int .i64 (nw + 1), .slice (some at1) nt1 ct1, .int .i64 0, .int .i64 0, .int .i64 0, .int .i64 0]
end Go.Proofs.Ytnkkkdhpopfahaa.sch
