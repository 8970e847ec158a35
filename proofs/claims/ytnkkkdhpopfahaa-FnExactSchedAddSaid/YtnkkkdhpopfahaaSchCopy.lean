/-
  The specification's l13Copy: a Sched's copy. Condition: its lists are no nil lists, and not too long.
-/
import Derived.Test.YtnkkkdhpopfahaaSchSt
namespace Go.Proofs.Ytnkkkdhpopfahaa.sch
open Go.RowKit Go.Deep Go.Sort
open Go.Proofs.Ytnkkkdhpopfahaa
open Go.Proofs.Ytnkkkdhpopfahaa.deep
set_option linter.unusedVariables false
set_option maxRecDepth 100000

/-- the cells of a row, one behind the other -/
theorem row_cells {α : Type} {f : α → List Value} {k lo : Nat} {w : World} {a : Addr} {c n : Nat} {xs : List α} (hk : ∀ x, (f x).length = k) (h : RowE (Plain f) k lo w (.slice (some a) n c) xs) : ∀ q u, (xs.map f).flatten[q]? = some u → w.cell? (a.add q) = some u := by
  intro q u hu
  have hlen : ∀ cs ∈ xs.map f, cs.length = k := fun cs hcs => by
    obtain ⟨x, _, rfl⟩ := List.mem_map.1 hcs
    exact hk x
  have hq : q < (xs.map f).flatten.length := (List.getElem?_eq_some_iff.1 hu).1
  rw [flatten_len _ hlen, List.length_map] at hq
  have hk0 : 0 < k := by
    rcases Nat.eq_zero_or_pos k with e | e
    · rw [e, Nat.mul_zero] at hq; omega
    · exact e
  have hi : q / k < xs.length := Nat.div_lt_of_lt_mul (by rw [Nat.mul_comm]; exact hq)
  obtain ⟨g, o, c', hv, _, _, _, hc⟩ := h.at (Nat.lt_of_le_of_lt (Nat.zero_le _) hi)
  cases hv
  have hj : q % k < k := Nat.mod_lt _ hk0
  obtain ⟨cs, h1, h2, h3⟩ := hc (q / k) hi
  have h4 := h2 (q % k) hj
  have h5 := flatten_at (xs.map f) hlen (q / k) (by rw [List.length_map]; exact hi) (q % k) hj
  rw [show q / k * k + q % k = q by rw [Nat.mul_comm]; exact Nat.div_add_mod q k] at h5
  rw [show o + q / k * k + q % k = o + q by rw [Nat.add_assoc, Nat.mul_comm, Nat.div_add_mod]] at h4
  have e : (⟨g, o, none⟩ : Addr).add q = ⟨g, o + q, none⟩ := by
    unfold Addr.add
    split
    · next h => subst h; rfl
    · rfl
  rw [e, h4, ← hu, h5, h3]
  simp
/-- two rows of the call's own of two types lie in two blocks -/
theorem own_apart {t1 t2 k1 k2 b1 b2 : Nat} {w : World} {v1 v2 : Value} {css1 css2 : List (List Value)} (h1 : OwnC t1 k1 b1 w v1 css1) (h2 : OwnC t2 k2 b2 w v2 css2) (ht : t1 ≠ t2) : ∀ g, v1.ownBlock = some g → v2.ownBlock ≠ some g := by
  intro g e1 e2
  rcases h1.row.2 with ⟨rfl, _⟩ | ⟨g1, cap1, cur1, rfl, _, hc1, _⟩
  · simp [Value.ownBlock] at e1
  · rcases h2.row.2 with ⟨rfl, _⟩ | ⟨g2, cap2, cur2, rfl, _, hc2, _⟩
    · simp [Value.ownBlock] at e2
    · simp [Value.ownBlock] at e1 e2
      subst e1 e2
      rw [hc1] at hc2
      injection hc2 with hc2
      injection hc2 with _ ht2
      exact ht ht2
theorem own_two {t1 t2 k1 k2 b1 b2 : Nat} {w : World} {v1 v2 : Value} {css1 css2 : List (List Value)} (h1 : OwnC t1 k1 b1 w v1 css1) (h2 : OwnC t2 k2 b2 w v2 css2) (ht : t1 ≠ t2) : Two v1 v2 := by
  intro g o g' o' hs hs' hl hl' e
  subst e
  refine own_apart h1 h2 ht g ?_ ?_
  · cases v1 with
    | slice a n c => cases a with
      | none => simp [spotOf] at hs
      | some ad => simp [spotOf] at hs; simp [Value.ownBlock, hs.1]
    | _ => simp [spotOf] at hs
  · cases v2 with
    | slice a n c => cases a with
      | none => simp [spotOf] at hs'
      | some ad => simp [spotOf] at hs'; simp [Value.ownBlock, hs'.1]
    | _ => simp [spotOf] at hs'
theorem tks_of {base : Nat} {w : World} {v : Value} {n : Nat} {ts : List Tt} (hn : n = ts.length) (h : w.ownsRow base 35 3 v (0 + n) ([] ++ (ts.map ctk).flatten)) : Tks base w v ts := by
  refine ⟨fun cs hc => ?_, ?_⟩
  · obtain ⟨x, _, rfl⟩ := List.mem_map.1 hc; rfl
  · rw [List.length_map]
    simpa [hn] using h
theorem tks_one (ts : List Tt) : ∀ u ∈ (ts.map ctk).flatten, u.oneCell' = true := by
  intro u hu
  obtain ⟨cs, h1, h2⟩ := List.mem_flatten.1 hu
  obtain ⟨x, _, rfl⟩ := List.mem_map.1 h1
  exact ctk_one x u h2
theorem tks_len (ts : List Tt) : ((ts.map ctk).flatten).length = ts.length * 3 := by
  have := flatten_len (k := 3) (ts.map ctk) (fun cs hcs => by obtain ⟨x, _, rfl⟩ := List.mem_map.1 hcs; rfl)
  rw [List.length_map] at this; exact this
theorem Ints.lower {base base' : Nat} {w : World} {v : Value} {xs : List Int} (h : Ints base w v xs) (hb : base' ≤ base) : Ints base' w v xs := by
  refine ⟨h.len, h.row.1, ?_⟩
  rcases h.row.2 with h0 | ⟨g, cap, cur, hv, hbg, hrest⟩
  · exact .inl h0
  · exact .inr ⟨g, cap, cur, hv, Nat.le_trans hb hbg, hrest⟩
/-- rows stay where other blocks grow or change -/
theorem own_kept {t k base : Nat} {w w' : World} {v : Value} {css : List (List Value)} (h : OwnC t k base w v css) (hb : ∀ g, v.ownBlock = some g → w'.heap[g]? = w.heap[g]?) : OwnC t k base w' v css := by
  refine ⟨h.len, h.row.1, ?_⟩
  rcases h.row.2 with h0 | ⟨g, cap, cur, rfl, hbg, hc, hrest⟩
  · exact .inl h0
  · exact .inr ⟨g, cap, cur, rfl, hbg, (hb g rfl).trans hc, hrest⟩
/-- an empty row -/
theorem empty_own {W : World} {B base t k : Nat} (h : W.heap[B]? = some (.cells #[] t (0, 0))) (hb : base ≤ B) : W.ownsRow base t k (.slice (some ⟨B, 0, none⟩) 0 0) 0 [] :=
  ⟨by simp, .inr ⟨B, 0, #[], rfl, hb, h, Nat.le_refl _, by unfold maxLen; omega, by simp, by simp⟩⟩
theorem em1 (V : World) (t : Nat) : (V.drew.alloc (.cells #[] t)).heap[V.heap.size]? = some (.cells #[] t (0, 0)) := (MapKept.heap_alloc V.drew _).1
theorem em2 (V : World) (t : Nat) (o : Obj) : ((V.drew.alloc (.cells #[] t)).alloc o).heap[V.heap.size]? = some (.cells #[] t (0, 0)) := ((below_one (V.drew.alloc (.cells #[] t)) o).block V.heap.size (by simp)).trans (em1 V t)
theorem em3 (V : World) (t : Nat) (o : Obj) : ((V.drew.alloc o).alloc (.cells #[] t)).heap[V.heap.size + 1]? = some (.cells #[] t (0, 0)) := by
  have h := (MapKept.heap_alloc (V.drew.alloc o) (.cells #[] t)).1
  rw [show (V.drew.alloc o).heap.size = V.heap.size + 1 by simp] at h
  exact h
theorem em4 (W : World) (t : Nat) : (W.alloc (.cells #[] t)).heap[W.heap.size]? = some (.cells #[] t (0, 0)) := (MapKept.heap_alloc W _).1
theorem emn {W : World} {B t : Nat} (h : B = W.heap.size) : (W.alloc (.cells #[] t)).heap[B]? = some (.cells #[] t (0, 0)) := by rw [h]; exact em4 W t
theorem ema {W : World} {B : Nat} {o : Obj} (h : W.heap[B]? = some o) (o' : Obj) : (W.alloc o').heap[B]? = some o := ((below_one W o').block B (Array.getElem?_eq_some_iff.1 h).1).trans h
theorem emd {W : World} {B : Nat} {o : Obj} (h : W.heap[B]? = some o) : W.drew.heap[B]? = some o := h
theorem emg {W w1 : World} {B : Nat} {o : Obj} {r : Option Nat} (h : W.heap[B]? = some o) (gr : W.grownBy w1 r) (hr : some B ≠ r) : w1.heap[B]? = some o := (gr.block B (Array.getElem?_eq_some_iff.1 h).1 hr).trans h
theorem bdd {n : Nat} {V W : World} (h : Below n V W) : Below n V W.drew := Below.drew h
theorem bsz {V W : World} (h : Below V.heap.size V W) : V.heap.size ≤ W.heap.size := h.size
theorem bd0 (V : World) : Below V.heap.size V V.drew := Below.drew (Below.refl _ _)
theorem bd1 (V : World) (o : Obj) : Below V.heap.size V (V.drew.alloc o) := (bd0 V).alloc (Nat.le_refl _) o
theorem bd2 (V : World) (o o' : Obj) : Below V.heap.size V ((V.drew.alloc o).alloc o') := (bd1 V o).alloc (by simp) o'
theorem bda {V W : World} (h : Below V.heap.size V W) (o : Obj) : Below V.heap.size V (W.alloc o) := h.alloc h.size o
theorem three_of {V W : World} {B t : Nat} {a b c : Value} (h : Blk V B t [a, b, c]) (hb : Below V.heap.size V W) : W.cell? ⟨B, 0, none⟩ = some a ∧ W.cell? ⟨B, 1, none⟩ = some b ∧ W.cell? ⟨B, 2, none⟩ = some c := cells3s (h.later hb)
theorem free3 {W : World} {B t : Nat} {cs : List Value} (h : Blk W B t cs) : W.frozen? ⟨B, 0, none⟩ = false ∧ W.frozen? ⟨B, 1, none⟩ = false ∧ W.frozen? ⟨B, 2, none⟩ = false := ⟨h.free 0, h.free 1, h.free 2⟩
theorem three_set {W : World} {B B' t : Nat} {a b c x y z : Value} (h : Blk W B t [a, b, c]) (hne : B ≠ B') : (((W.setCell ⟨B', 0, none⟩ x).setCell ⟨B', 1, none⟩ y).setCell ⟨B', 2, none⟩ z).cell? ⟨B, 0, none⟩ = some a ∧ (((W.setCell ⟨B', 0, none⟩ x).setCell ⟨B', 1, none⟩ y).setCell ⟨B', 2, none⟩ z).cell? ⟨B, 1, none⟩ = some b ∧ (((W.setCell ⟨B', 0, none⟩ x).setCell ⟨B', 1, none⟩ y).setCell ⟨B', 2, none⟩ z).cell? ⟨B, 2, none⟩ = some c :=
  cells3s (h.other [x, y, z] B' 0 hne)
theorem grown_bel {V W w1 : World} {B : Nat} {v : Value} (h : Below V.heap.size V W) (hB : V.heap.size ≤ B) (hv : v.ownBlock = some B) (gr : W.grownBy w1 v.ownBlock) : Below V.heap.size V w1 :=
  h.grown gr h.size (fun k e => by rw [hv] at e; injection e with e; omega)

theorem gb {V W w1 : World} {B : Nat} (h : Below V.heap.size V W) (hB : V.heap.size ≤ B) (gr : W.grownBy w1 (some B)) : Below V.heap.size V w1 := h.grown gr h.size (fun k e => by injection e with e; omega)
theorem cutp {P Q : Prop} (h : P) (k : P → Q) : Q := k h
theorem sl_ne {B : Addr} {n c : Nat} : Value.slice (some B) n c ≠ .slice none 0 0 := by simp
theorem own_some {t k base : Nat} {w : World} {v : Value} {css : List (List Value)} (h : OwnC t k base w v css) (hne : v ≠ .slice none 0 0) : ∃ ad n c, v = .slice (some ad) n c := by
  rcases h.row.2 with ⟨e, _⟩ | ⟨g, cap, cur, e, _⟩
  · exact absurd e hne
  · exact ⟨_, _, _, e⟩
/-- a row stays where an empty row of another type is appended to -/
theorem own_past {t1 t k base B : Nat} {W0 W w1 : World} {v : Value} {css : List (List Value)} (h : OwnC t1 k base W0 v css) (hb : Below W0.heap.size W0 W) (hE : W.heap[B]? = some (.cells #[] t (0, 0))) (ht : t1 ≠ t) (gr : W.grownBy w1 (some B)) : OwnC t1 k base w1 v css := by
  have h2 := h.later hb
  refine own_kept h2 (fun g hg => gr.block g ?_ ?_)
  · exact (World.ownsRow.lt h2.row g hg).2
  · intro e
    injection e with e
    subst e
    rcases h2.row.2 with ⟨rfl, _⟩ | ⟨g1, cap1, cur1, rfl, _, hc1, _⟩
    · simp [Value.ownBlock] at hg
    · simp [Value.ownBlock] at hg
      subst hg
      rw [hE] at hc1
      injection hc1 with hc1
      injection hc1 with _ ht2
      exact ht ht2.symm
theorem emg1 {W w1 : World} {B B1 : Nat} {o : Obj} (gr : W.grownBy w1 (some B1)) (hr : B ≠ B1) (h : W.heap[B]? = some o) : w1.heap[B]? = some o := emg h gr (fun e => hr (Option.some.inj e))
/-- what a copy leaves -/
def CopyPost (x : SchedD) (w : World) (e : Ending) (w' : World) : Prop := ∃ ao no co at' nt ct, e = .returned (.agg #[.slice (some ao) no co, .int .i64 x.now, .slice (some at') nt ct]) ∧ Ints w.heap.size w' (.slice (some ao) no co) x.order ∧ Tks w.heap.size w' (.slice (some at') nt ct) x.tasks ∧ Below w.heap.size w w'
theorem copy_end {x : SchedD} {w V w1 : World} {a b : Addr} {n c m d : Nat} (hV : Below w.heap.size w V) (hV2 : w.heap.size + 1 < V.heap.size) (hB : Below V.heap.size V w1) (h1 : Ints V.heap.size w1 (.slice (some a) n c) x.order) (h2 : Tks V.heap.size w1 (.slice (some b) m d) x.tasks) :
    CopyPost x w (.returned (.agg #[.slice (some a) n c, .int .i64 x.now, .slice (some b) m d])) (putW w1 (w.heap.size + 1) 0 [.slice (some a) n c, .int .i64 x.now, .slice (some b) m d]) :=
  ⟨a, n, c, b, m, d, rfl, own_put h1 _ 0 _ hV2 hV.size, own_put h2 _ 0 _ hV2 hV.size, putW_below _ (below_tr hV hB) (Nat.le_succ _)⟩
set_option maxHeartbeats 8000000 in
theorem spec_copy (x : SchedD) (ao at' : Addr) (no co nt ct : Nat) {lo : Nat} {w : World} (h : SF lo w (.slice (some ao) no co) (.slice (some at') nt ct) x) (hl1 : x.order.length ≤ 1048576) (hl2 : x.tasks.length ≤ 1048576) : Calls Try.prog 49 #[.agg #[.slice (some ao) no co, .int .i64 x.now, .slice (some at') nt ct]] w (CopyPost x w) := by
  obtain ⟨i0, hi, hz0, hz1, hz2⟩ := info_parts info_i64
  obtain ⟨j0, hj, hy0, hy1, hy2⟩ := info_parts info_tk
  obtain ⟨V, hV⟩ : ∃ V, V = (w.alloc (.cells #[.slice (some ao) no co, .int .i64 x.now, .slice (some at') nt ct] 30)).alloc (.cells #[.slice none 0 0, .int .i64 0, .slice none 0 0] 30) := ⟨_, rfl⟩
  have HBV : Hid (Below w.heap.size w V) := by rw [hV]; exact below2 _ _ _
  obtain ⟨b1, b2⟩ : Blk V w.heap.size 30 [.slice (some ao) no co, .int .i64 x.now, .slice (some at') nt ct] ∧ Blk V (w.heap.size + 1) 30 [.slice none 0 0, .int .i64 0, .slice none 0 0] := by rw [hV]; exact blk2 _ _ _ _ _
  have HX : Hid (Blk V w.heap.size 30 [.slice (some ao) no co, .int .i64 x.now, .slice (some at') nt ct]) := b1
  have HY : Hid (Blk V (w.heap.size + 1) 30 [.slice none 0 0, .int .i64 0, .slice none 0 0]) := b2
  have h' := h.later HBV.out
  have HCO : Hid (∀ W, Below V.heap.size V W → ∀ q u, (x.order.map cint).flatten[q]? = some u → W.cell? (ao.add q) = some u) := fun W hW => row_cells (fun _ => rfl) (h'.1.below (plain_stays _) hW)
  have HCT : Hid (∀ W, Below V.heap.size V W → ∀ q u, (x.tasks.map ctk).flatten[q]? = some u → W.cell? (at'.add q) = some u) := fun W hW => row_cells (fun _ => rfl) (h'.2.below (plain_stays _) hW)
  have e1 : no = x.order.length := by obtain ⟨_, _, e, _⟩ := int_at h.1; cases e; rfl
  have e2 : nt = x.tasks.length := by obtain ⟨_, _, e, _⟩ := tk_at h.2; cases e; rfl
  have HLO : Hid (((x.order.map cint).flatten).length = no * 1) := by show _ = _; rw [cint_flat, List.length_map, e1]; omega
  have HLT : Hid (((x.tasks.map ctk).flatten).length = nt * 3) := by show _ = _; rw [tks_len, e2]
  have HNO : Hid (no = x.order.length) := e1
  have HNT : Hid (nt = x.tasks.length) := e2
  have HSO : Hid (0 + no ≤ maxLen ∧ (0 + no) * 8 ≤ 140737488355328) := ⟨by unfold maxLen; omega, by omega⟩
  have HST : Hid (0 + nt ≤ maxLen ∧ (0 + nt) * 24 ≤ 140737488355328) := ⟨by unfold maxLen; omega, by omega⟩
  have HIO : Hid (∀ base W v, W.ownsRow base 2 1 v (0 + no) ([] ++ (x.order.map cint).flatten) → Ints base W v x.order) := fun base W v hv => ints_of e1 (by rw [cint_flat] at hv; exact hv)
  have HIT : Hid (∀ base W v, W.ownsRow base 35 3 v (0 + nt) ([] ++ (x.tasks.map ctk).flatten) → Tks base W v x.tasks) := fun base W v hv => tks_of e2 hv
  have HO1 : Hid (∀ u ∈ (x.order.map cint).flatten, u.oneCell' = true) := fun u hu => by rw [cint_flat] at hu; exact cint_one hu
  have HT1 : Hid (∀ u ∈ (x.tasks.map ctk).flatten, u.oneCell' = true) := tks_one _
  have hVs : w.heap.size + 1 < V.heap.size := b2.lt
  have HTY1 : Hid (2 ≠ 35) := by show _ ≠ _; decide
  have HTY2 : Hid (35 ≠ 2) := by show _ ≠ _; decide
  clear h h' b1 b2 hl1 hl2 e1 e2
  go_enter Try.func49, Try.ntmps49
  go_wp2_with fail
  rw [← hV]
  clear hV
  go_region_held3 (fun W => W.cell? ⟨w.heap.size, 0, none⟩ = some (.slice (some ao) no co) ∧ W.cell? ⟨w.heap.size, 1, none⟩ = some (.int .i64 x.now) ∧ W.cell? ⟨w.heap.size, 2, none⟩ = some (.slice (some at') nt ct))
    (first | assumption | exact three_set HXE.out (Nat.ne_of_lt (Nat.lt_succ_self _)) | (refine three_of HX.out ?_; (with_reducible (repeat' first | exact HB1.out | exact Below.refl _ _ | refine bdd ?_ | refine bda ?_ _))))
    (first
      | (rw [if_pos (by rfl)]; refine wp_append_own _ (.tmp 3) (.tmp 5) 22 rfl V.heap.size 2 i0 (.int .i64 0) 1 8 Try.underlying22 hi hz0 hz1 hz2 rfl (by decide) _ 0 [] rfl (empty_own ?_ ?_) ao no co ((x.order.map cint).flatten) rfl HLO.out (HCO.out _ ?_) HO1.out HSO.out.1 HSO.out.2 (bsz ?_) ?_; (focus (repeat' first | (with_reducible exact HEO.out) | (with_reducible refine emd ?_) | (refine emn ?_; (simp; done)) | (with_reducible refine ema ?_ _))); (focus (first | exact Nat.le_refl _ | exact Nat.le_succ _ | exact HB1.out.size | (simp; done) | (simp; omega))); (focus (with_reducible (repeat' first | exact HB1.out | exact Below.refl _ _ | refine bdd ?_ | refine bda ?_ _))); (focus (with_reducible (repeat' first | exact HB1.out | exact Below.refl _ _ | refine bdd ?_ | refine bda ?_ _))); (refine fun v1 w1 own1 gr1 nn1 => ?_); (have hi1 := HIO.out _ _ _ own1); (obtain ⟨a1, n1, c1, rfl⟩ := own_some hi1 (fun e => sl_ne (nn1.1 e).1)); (first | (refine cutp (P := Hid (Tks V.heap.size w1 (.slice (some a2) n2 c2) x.tasks)) ?_ ?_; (focus (refine own_past HT1c.out ?_ ?_ HTY2.out gr1; (focus (with_reducible (repeat' first | exact HB1x.out | exact Below.refl _ _ | refine bdd ?_ | refine bda ?_ _))); (focus (repeat' first | (with_reducible exact HEO.out) | (with_reducible refine emd ?_) | (refine emn ?_; (simp; done)) | (with_reducible refine ema ?_ _))))); (clear HT1c); (intro HT1c)) | skip); (first | (refine cutp (P := Hid (w1.heap[V.heap.size]? = some (.cells #[] 35 (0, 0)))) ?_ ?_; (focus (refine emg1 gr1 (Nat.ne_of_lt (Nat.lt_succ_self _)) ?_; (repeat' first | (with_reducible exact HEX.out) | (with_reducible refine emd ?_) | (refine emn ?_; (simp; done)) | (with_reducible refine ema ?_ _)))); (intro HET)) | (refine cutp (P := Hid (w1.heap[V.heap.size + 1]? = some (.cells #[] 35 (0, 0)))) ?_ ?_; (focus (refine emg1 gr1 (Nat.succ_ne_self _) ?_; (repeat' first | (with_reducible exact HEX.out) | (with_reducible refine emd ?_) | (refine emn ?_; (simp; done)) | (with_reducible refine ema ?_ _)))); (intro HET)) | skip); (refine cutp (P := Hid (Below V.heap.size V w1)) ?_ ?_); (focus (refine gb ?_ ?_ gr1; (focus (with_reducible (repeat' first | exact HB1.out | exact Below.refl _ _ | refine bdd ?_ | refine bda ?_ _))); (focus (first | exact Nat.le_refl _ | exact Nat.le_succ _ | exact HB1.out.size | (simp; done) | (simp; omega))))); (intro HB1); (have HI1c : Hid (Ints V.heap.size w1 (.slice (some a1) n1 c1) x.order) := hi1); (have HXE : Hid _ := HX.out.later HB1.out); (have HYE : Hid _ := HY.out.later HB1.out); (obtain ⟨R0, R1, R2⟩ := cells3s HYE.out); (obtain ⟨F0, F1, F2⟩ := free3 HYE.out); (clear own1 gr1 nn1 hi1))
      | (rw [if_pos (by rfl)]; refine wp_append_own _ (.tmp 9) (.tmp 11) 28 rfl V.heap.size 35 j0 (.agg #[.int .i64 0, .int .i64 0, .int .i64 0]) 3 24 Try.underlying28 hj hy0 hy1 hy2 rfl (by decide) _ 0 [] rfl (empty_own ?_ ?_) at' nt ct ((x.tasks.map ctk).flatten) rfl HLT.out (HCT.out _ ?_) HT1.out HST.out.1 HST.out.2 (bsz ?_) ?_; (focus (repeat' first | (with_reducible exact HET.out) | (with_reducible refine emd ?_) | (refine emn ?_; (simp; done)) | (with_reducible refine ema ?_ _))); (focus (first | exact Nat.le_refl _ | exact Nat.le_succ _ | exact HB1.out.size | (simp; done) | (simp; omega))); (focus (with_reducible (repeat' first | exact HB1.out | exact Below.refl _ _ | refine bdd ?_ | refine bda ?_ _))); (focus (with_reducible (repeat' first | exact HB1.out | exact Below.refl _ _ | refine bdd ?_ | refine bda ?_ _))); (refine fun v2 w2 own2 gr2 nn2 => ?_); (have hi2 := HIT.out _ _ _ own2); (obtain ⟨a2, n2, c2, rfl⟩ := own_some hi2 (fun e => sl_ne (nn2.1 e).1)); (first | (refine cutp (P := Hid (Ints V.heap.size w2 (.slice (some a1) n1 c1) x.order)) ?_ ?_; (focus (refine own_past HI1c.out ?_ ?_ HTY1.out gr2; (focus (with_reducible (repeat' first | exact HB1x.out | exact Below.refl _ _ | refine bdd ?_ | refine bda ?_ _))); (focus (repeat' first | (with_reducible exact HET.out) | (with_reducible refine emd ?_) | (refine emn ?_; (simp; done)) | (with_reducible refine ema ?_ _))))); (clear HI1c); (intro HI1c)) | skip); (first | (refine cutp (P := Hid (w2.heap[V.heap.size]? = some (.cells #[] 2 (0, 0)))) ?_ ?_; (focus (refine emg1 gr2 (Nat.ne_of_lt (Nat.lt_succ_self _)) ?_; (repeat' first | (with_reducible exact HEX.out) | (with_reducible refine emd ?_) | (refine emn ?_; (simp; done)) | (with_reducible refine ema ?_ _)))); (intro HEO)) | (refine cutp (P := Hid (w2.heap[V.heap.size + 1]? = some (.cells #[] 2 (0, 0)))) ?_ ?_; (focus (refine emg1 gr2 (Nat.succ_ne_self _) ?_; (repeat' first | (with_reducible exact HEX.out) | (with_reducible refine emd ?_) | (refine emn ?_; (simp; done)) | (with_reducible refine ema ?_ _)))); (intro HEO)) | skip); (refine cutp (P := Hid (Below V.heap.size V w2)) ?_ ?_); (focus (refine gb ?_ ?_ gr2; (focus (with_reducible (repeat' first | exact HB1.out | exact Below.refl _ _ | refine bdd ?_ | refine bda ?_ _))); (focus (first | exact Nat.le_refl _ | exact Nat.le_succ _ | exact HB1.out.size | (simp; done) | (simp; omega))))); (intro HB1); (have HT1c : Hid (Tks V.heap.size w2 (.slice (some a2) n2 c2) x.tasks) := hi2); (have HXE : Hid _ := HX.out.later HB1.out); (have HYE : Hid _ := HY.out.later HB1.out); (obtain ⟨R0, R1, R2⟩ := cells3s HYE.out); (obtain ⟨F0, F1, F2⟩ := free3 HYE.out); (clear own2 gr2 nn2 hi2)))
  all_goals
    go_wp2_with fail
    exact bodyPost_ret (v := .agg #[.slice (some a1) n1 c1, .int .i64 x.now, .slice (some a2) n2 c2]) (by simp [results, Try.results49, go_sem, R0, R1, R2]) rfl (copy_end HBV.out hVs HB1.out HI1c.out HT1c.out)
end Go.Proofs.Ytnkkkdhpopfahaa.sch
