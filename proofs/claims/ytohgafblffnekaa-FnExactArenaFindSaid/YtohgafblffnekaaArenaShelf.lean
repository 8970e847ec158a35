/-
  The program's shelfOf, at every arena. No condition.
-/
import Derived.Test.YtohgafblffnekaaArenaAt
import Derived.Test.YtohgafblffnekaaArenaPut
import Derived.Test.YtohgafblffnekaaArenaSpec
namespace Go.Proofs.Ytohgafblffnekaa.deep
open Go.RowKit Go.Deep Go.Maps
open Go.Proofs.Ytohgafblffnekaa
set_option linter.unusedVariables false

def zeroShelf : List Value := [.int .i64 0, .int .i64 0, .int .i64 0, .slice none 0 0, .map none]
def gensTo (xs : List SlotD) (j : Nat) : List Value := (xs.take j).map fun s => Value.int .i64 s.gen
/-- what shelfOf tells of an arena that is not right -/
def ShelfNo (w : World) (e : Ending) (w' : World) : Prop := e = .returned (.tuple #[.agg zeroShelf.toArray, .bool false]) ∧ Below w.heap.size w w'
/-- what it tells of one that is -/
def ShelfYes (lb ky ct : Int) (xs : List SlotD) (w : World) (e : Ending) (w' : World) : Prop :=
  ∃ ga gc b n f, e = .returned (.tuple #[.agg #[.int .i64 lb, .int .i64 ky, .int .i64 ct, .slice ga xs.length gc, .map (some b)], .bool true]) ∧ w'.ownsRow (w.heap.size + 2) 2 1 (.slice ga xs.length gc) xs.length (gensTo xs xs.length) ∧ Live w' b n f ∧ Holds f lb xs xs.length ∧ n ≤ 6 ∧ w.heap.size ≤ b ∧ Below w.heap.size w w'
def ShelfPost (a : ArenaD) (w : World) (e : Ending) (w' : World) : Prop := (a.right = true → ShelfYes a.label a.key a.count a.slots w e w') ∧ (a.right = false → ShelfNo w e w')
theorem shelf_no {a : ArenaD} {w w' : World} {e : Ending} (ha : a.right = false) (h : ShelfNo w e w') : ShelfPost a w e w' := ⟨fun h' => absurd (ha.symm.trans h') (by decide), fun _ => h⟩

theorem own_lower {w : World} {b b' t k : Nat} {v : Value} {n : Nat} {xs : List Value} (h : w.ownsRow b' t k v n xs) (hb : b ≤ b') : w.ownsRow b t k v n xs := by
  obtain ⟨h1, h2⟩ := h
  refine ⟨h1, ?_⟩
  rcases h2 with h0 | ⟨g, cap, cur, hv, hbg, hc, hrest⟩
  · exact Or.inl h0
  · exact Or.inr ⟨g, cap, cur, hv, Nat.le_trans hb hbg, hc, hrest⟩
theorem own_later {w w' : World} {b t k : Nat} {v : Value} {n : Nat} {xs : List Value} (h : w.ownsRow b t k v n xs) (hb : Below w.heap.size w w') : w'.ownsRow b t k v n xs := by
  obtain ⟨h1, h2⟩ := h
  refine ⟨h1, ?_⟩
  rcases h2 with h0 | ⟨g, cap, cur, hv, hbg, hc, hrest⟩
  · exact Or.inl h0
  · exact Or.inr ⟨g, cap, cur, hv, hbg, (hb.block g (Array.getElem?_eq_some_iff.1 hc).1).trans hc, hrest⟩
theorem own_blk {w : World} {b t k : Nat} {v : Value} {n q : Nat} {xs : List Value} (h : w.ownsRow b t k v n xs) (hq : v.ownBlock = some q) : b ≤ q ∧ q < w.heap.size := by
  rcases h.2 with ⟨rfl, _⟩ | ⟨g, cap, cur, rfl, hb, hc, _⟩
  · simp [Value.ownBlock] at hq
  · simp [Value.ownBlock] at hq
    have := (Array.getElem?_eq_some_iff.1 hc).1
    omega
theorem gens_step (xs : List SlotD) (j : Nat) (h : j < xs.length) : gensTo xs j ++ [.int .i64 xs[j].gen] = gensTo xs (j + 1) := by
  simp only [gensTo]
  rw [List.take_add_one, List.getElem?_eq_getElem h, List.map_append]; rfl
theorem good_slot {pre : List SlotD} {s : SlotD} (h : s.right = false) : goodAt pre s = false := by simp [goodAt, h]
theorem good_twice {pre : List SlotD} {gn id : Int} {o : ObjD} (h : hasId pre id = true) : goodAt pre ⟨gn, true, id, o⟩ = false := by simp [goodAt, h]
theorem good_dead_ok {pre : List SlotD} {gn id : Int} {o : ObjD} (h : SlotD.right ⟨gn, false, id, o⟩ = true) : goodAt pre ⟨gn, false, id, o⟩ = true := by simp [goodAt, h]
theorem good_live_ok {pre : List SlotD} {gn id : Int} {o : ObjD} (h : SlotD.right ⟨gn, true, id, o⟩ = true) (hh : hasId pre id = false) : goodAt pre ⟨gn, true, id, o⟩ = true := by simp [goodAt, h, hh]
theorem slotC_live {gn : Int} {lv : Bool} {id kd lb od pl u1 u2 u3 rm : Int} {nf nk nm nq : Nat} (h : slotC gn lv id kd lb od pl u1 u2 u3 rm nf nk nm nq = true) (hl : lv = true) : 0 ≤ gn ∧ gn < 3 ∧ pm.keyB id = true := by
  subst hl
  simp only [slotC, if_true, Bool.and_eq_true, decide_eq_true_eq] at h
  exact ⟨h.1.1, h.1.2, h.2⟩
theorem own_form {w : World} {b t k : Nat} {v : Value} {n : Nat} {xs : List Value} (h : w.ownsRow b t k v (n + 1) xs) : ∃ g cap, v = .slice (some ⟨g, 0, none⟩) (n + 1) cap := by
  rcases h.2 with ⟨_, h0⟩ | ⟨g, cap, cur, hv, _⟩
  · omega
  · exact ⟨g, cap, hv⟩
theorem own_grown {w w' : World} {b q t k : Nat} {v : Value} {n : Nat} {xs : List Value} (h : w.ownsRow b t k v n xs) (hg : w.grownBy w' (some q)) (hq : q < b) : w'.ownsRow b t k v n xs := by
  obtain ⟨h1, h2⟩ := h
  refine ⟨h1, ?_⟩
  rcases h2 with h0 | ⟨g, cap, cur, hv, hbg, hc, hrest⟩
  · exact Or.inl h0
  · exact Or.inr ⟨g, cap, cur, hv, hbg, (hg.block g (Array.getElem?_eq_some_iff.1 hc).1 (by simp; omega)).trans hc, hrest⟩
theorem Blk.grownO {w w' : World} {B t : Nat} {row : Option Nat} {cs : List Value} (h : Blk w B t cs) (hg : w.grownBy w' row) (hne : ∀ q, row = some q → q ≠ B) : Blk w' B t cs := (hg.block B h.lt (fun e => hne B e.symm rfl)).trans h
theorem Live.grownO {w w' : World} {b n : Nat} {row : Option Nat} {f : Thd → Option Std} (h : Live w b n f) (hg : w.grownBy w' row) (hne : ∀ q, row = some q → q ≠ b) : Live w' b n f := h.block (hg.block b h.lt (fun e => hne b e.symm rfl))
theorem gens_at {w : World} {b t G cp j : Nat} {xs : List SlotD} {u : Value} (h : w.ownsRow b t 1 (.slice (some ⟨G, 0, none⟩) (j + 1) cp) (j + 1) (gensTo xs (j + 1))) (hs : gensTo xs j ++ [u] = gensTo xs (j + 1)) (hj : j ≤ xs.length) : w.cell? ⟨G, j, none⟩ = some u := by
  have hl : (gensTo xs j).length = j := by simp [gensTo]; omega
  rw [World.ownsRow.cellAt h j (by omega), ← hs, List.getElem?_append_right (by omega), hl, Nat.sub_self]; rfl
theorem info_i64 : (Try.prog.info? 2).map (fun i => (i.zero, i.size, i.bytes)) = some (some (.int .i64 0), 1, 8) := by kernel_rfl
theorem own_put {w : World} {b t k : Nat} {v : Value} {n R i : Nat} {xs : List Value} (h : w.ownsRow b t k v n xs) (vs : List Value) (hR : R < b) : (putW w R i vs).ownsRow b t k v n xs := by
  obtain ⟨h1, h2⟩ := h
  refine ⟨h1, ?_⟩
  rcases h2 with h0 | ⟨g, cap, cur, hv, hbg, hc, hrest⟩
  · exact Or.inl h0
  · exact Or.inr ⟨g, cap, cur, hv, hbg, (putW_other vs w R i g (by omega)).trans hc, hrest⟩

set_option maxHeartbeats 8000000 in
theorem im_shelf (a : ArenaD) {lo : Nat} {w : World} {v : Value} (h : RowE SlotE 15 lo w v a.slots) : Calls Try.prog 34 #[.agg (acells a v).toArray] w (ShelfPost a w) := by
  obtain ⟨lb, ky, ct, xs⟩ := a
  simp only at h
  have HL : Hid (∀ W, _) := fun W => label.impl_right lb W
  have HS : Hid (∀ W, _) := fun W => im_stream ky ct W
  obtain ⟨a, c, rfl, hml, h3⟩ := h
  have H3 : Hid (0 < xs.length → ∃ g o, a = some ⟨g, o, none⟩ ∧ lo ≤ g ∧ g < w.heap.size ∧ ∀ i (hi : i < xs.length), ∃ cs : List Value, cs.length = 15 ∧ (∀ j, j < 15 → w.cell? ⟨g, o + i * 15 + j, none⟩ = cs[j]?) ∧ SlotE lo w cs xs[i]) := h3
  obtain ⟨n, hx⟩ : ∃ n, n = xs.length := ⟨_, rfl⟩
  have HX : Hid (n = xs.length) := hx
  have HRV : Hid (ArenaD.right ⟨lb, ky, ct, xs⟩ = (label.rightB lb && rightS ky ct && decide (n ≤ 6) && goodS xs)) := by rw [Hid, hx]; rfl
  simp only [acells]
  rw [← hx]
  rw [← hx] at hml
  unfold maxLen at hml
  clear h3 hx
  cases hlb : label.rightB lb with
  | false =>
    rw [hlb] at HL HRV
    go_enter Try.func34, Try.ntmps34
    go_wp2_with (first | (go_at_call 56; refine Calls.mono (HL.out _) ?_; rintro e w1 ⟨rfl, rfl⟩))
    exact bodyPost_ret (v := .tuple #[.agg zeroShelf.toArray, .bool false]) (by simp [results, Try.results34, go_sem, zeroShelf]) rfl (shelf_no (by rw [HRV.out]; rfl) ⟨rfl, below2 w _ _⟩)
  | true =>
    rw [hlb] at HL HRV
    cases hst : rightS ky ct with
    | false =>
      rw [hst] at HS HRV
      go_enter Try.func34, Try.ntmps34
      go_wp2_with (first | (go_at_call 56; refine Calls.mono (HL.out _) ?_; rintro e w1 ⟨rfl, rfl⟩) | (go_at_call 65; refine Calls.mono (HS.out _) ?_; rintro e w2 ⟨rfl, hb2⟩; have HB2 : Hid (Below w.heap.size w w2) := below_tr (below2 w _ _) hb2; have F := blk2 w [.int .i64 lb, .int .i64 ky, .int .i64 ct, .slice a n c] zeroShelf 34 77; have HA2 : Hid (Blk w2 w.heap.size 34 [.int .i64 lb, .int .i64 ky, .int .i64 ct, .slice a n c]) := F.1.later hb2; have HR2 : Hid (Blk w2 (w.heap.size + 1) 77 zeroShelf) := F.2.later hb2; have x0 : w2.cell? ⟨w.heap.size, 0, none⟩ = some (.int .i64 lb) := HA2.out.cell 0; have x1 : w2.cell? ⟨w.heap.size, 1, none⟩ = some (.int .i64 ky) := HA2.out.cell 1; have x2 : w2.cell? ⟨w.heap.size, 2, none⟩ = some (.int .i64 ct) := HA2.out.cell 2; have x3 : w2.cell? ⟨w.heap.size, 3, none⟩ = some (.slice a n c) := HA2.out.cell 3; have r0 : w2.cell? ⟨w.heap.size + 1, 0, none⟩ = some (.int .i64 0) := HR2.out.cell 0; have y0 := HR2.out.free 0; have r1 : w2.cell? ⟨w.heap.size + 1, 1, none⟩ = some (.int .i64 0) := HR2.out.cell 1; have y1 := HR2.out.free 1; have r2 : w2.cell? ⟨w.heap.size + 1, 2, none⟩ = some (.int .i64 0) := HR2.out.cell 2; have y2 := HR2.out.free 2; have r3 : w2.cell? ⟨w.heap.size + 1, 3, none⟩ = some (.slice none 0 0) := HR2.out.cell 3; have y3 := HR2.out.free 3; have r4 : w2.cell? ⟨w.heap.size + 1, 4, none⟩ = some (.map none) := HR2.out.cell 4; have y4 := HR2.out.free 4; have z3 : ∀ o1 o2, ((w2.alloc o1).alloc o2).cell? ⟨w.heap.size, 3, none⟩ = some (.slice a n c) := fun o1 o2 => (HA2.out.later (below2 w2 o1 o2)).cell 3; clear hb2 F))
      exact bodyPost_ret (v := .tuple #[.agg zeroShelf.toArray, .bool false]) (by simp [results, Try.results34, go_sem, zeroShelf, r0, r1, r2, r3, r4]) rfl (shelf_no (by rw [HRV.out]; rfl) ⟨rfl, putW_below zeroShelf HB2.out (by omega) (b := 0)⟩)
    | true =>
      rw [hst] at HS HRV
      by_cases hn6 : n ≤ 6
      · have HRV2 : Hid (ArenaD.right ⟨lb, ky, ct, xs⟩ = goodS xs) := by rw [Hid, HRV.out, decide_eq_true hn6]; rfl
        have hn6i : (n : Int) ≤ 6 := by omega
        have hmm := @run_makeMap Try.prog
        clear HRV
        go_enter Try.func34, Try.ntmps34
        go_wp2_with (first | (go_at_call 56; refine Calls.mono (HL.out _) ?_; rintro e w1 ⟨rfl, rfl⟩) | (go_at_call 65; refine Calls.mono (HS.out _) ?_; rintro e w2 ⟨rfl, hb2⟩; have HB2 : Hid (Below w.heap.size w w2) := below_tr (below2 w _ _) hb2; have F := blk2 w [.int .i64 lb, .int .i64 ky, .int .i64 ct, .slice a n c] zeroShelf 34 77; have HA2 : Hid (Blk w2 w.heap.size 34 [.int .i64 lb, .int .i64 ky, .int .i64 ct, .slice a n c]) := F.1.later hb2; have HR2 : Hid (Blk w2 (w.heap.size + 1) 77 zeroShelf) := F.2.later hb2; have x0 : w2.cell? ⟨w.heap.size, 0, none⟩ = some (.int .i64 lb) := HA2.out.cell 0; have x1 : w2.cell? ⟨w.heap.size, 1, none⟩ = some (.int .i64 ky) := HA2.out.cell 1; have x2 : w2.cell? ⟨w.heap.size, 2, none⟩ = some (.int .i64 ct) := HA2.out.cell 2; have x3 : w2.cell? ⟨w.heap.size, 3, none⟩ = some (.slice a n c) := HA2.out.cell 3; have r0 : w2.cell? ⟨w.heap.size + 1, 0, none⟩ = some (.int .i64 0) := HR2.out.cell 0; have y0 := HR2.out.free 0; have r1 : w2.cell? ⟨w.heap.size + 1, 1, none⟩ = some (.int .i64 0) := HR2.out.cell 1; have y1 := HR2.out.free 1; have r2 : w2.cell? ⟨w.heap.size + 1, 2, none⟩ = some (.int .i64 0) := HR2.out.cell 2; have y2 := HR2.out.free 2; have r3 : w2.cell? ⟨w.heap.size + 1, 3, none⟩ = some (.slice none 0 0) := HR2.out.cell 3; have y3 := HR2.out.free 3; have r4 : w2.cell? ⟨w.heap.size + 1, 4, none⟩ = some (.map none) := HR2.out.cell 4; have y4 := HR2.out.free 4; have z3 : ∀ o1 o2, ((w2.alloc o1).alloc o2).cell? ⟨w.heap.size, 3, none⟩ = some (.slice a n c) := fun o1 o2 => (HA2.out.later (below2 w2 o1 o2)).cell 3; clear hb2 F))
        clear x0 x1 x2 x3 z3 hmm r0 r1 r2 r3 r4 y0 y1 y2 y3 y4
        obtain ⟨b, hbb⟩ : ∃ b, b = w2.heap.size := ⟨_, rfl⟩
        have HB0 : Hid (Below w.heap.size w ((w2.alloc (.map #[] 0)).alloc (.cells #[.int .i64 lb, .int .i64 ky, .int .i64 ct, .slice none 0 0, .map (some b)] 77))) := below_tr HB2.out (below2 w2 _ _)
        have HR0 : Hid (Blk ((w2.alloc (.map #[] 0)).alloc (.cells #[.int .i64 lb, .int .i64 ky, .int .i64 ct, .slice none 0 0, .map (some b)] 77)) (w.heap.size + 1) 77 zeroShelf) := HR2.out.later (below2 w2 _ _)
        have HL0 : Hid (Live ((w2.alloc (.map #[] 0)).alloc (.cells #[.int .i64 lb, .int .i64 ky, .int .i64 ct, .slice none 0 0, .map (some b)] 77)) b 0 (fun _ => none)) := by rw [hbb]; exact (live_made w2).later (below_one _ _)
        have HS0 : Hid (Blk ((w2.alloc (.map #[] 0)).alloc (.cells #[.int .i64 lb, .int .i64 ky, .int .i64 ct, .slice none 0 0, .map (some b)] 77)) (b + 1) 77 [.int .i64 lb, .int .i64 ky, .int .i64 ct, .slice none 0 0, .map (some b)]) := by
          have := blk_new (w2.alloc (.map #[] 0)) [.int .i64 lb, .int .i64 ky, .int .i64 ct, .slice none 0 0, .map (some b)] 77
          rw [show (w2.alloc (.map #[] 0)).heap.size = b + 1 by rw [hbb]; simp] at this
          exact this
        have hbw : w.heap.size + 2 ≤ b := by
          have := HR2.out.lt
          rw [hbb]; omega
        rw [← hbb]
        generalize (w2.alloc (.map #[] 0)).alloc (.cells #[.int .i64 lb, .int .i64 ky, .int .i64 ct, .slice none 0 0, .map (some b)] 77) = V0 at *
        clear HA2 HR2 HB2 hbb HL HS
        go_loopw [33] (fun t33 wr => ∃ j : Nat, j ≤ n ∧ t33 = .int .i64 j ∧ Hid (∀ i, i < j → goodI xs i = true) ∧ (∃ (ga : Option Addr) (gc m : Nat) (f : Thd → Option Std), m ≤ j ∧ Hid (Blk wr (b + 1) 77 [.int .i64 lb, .int .i64 ky, .int .i64 ct, .slice ga j gc, .map (some b)]) ∧ Hid (wr.ownsRow (b + 2) 2 1 (.slice ga j gc) j (gensTo xs j)) ∧ Hid (Live wr b m f) ∧ Hid (Holds f lb xs j)) ∧ Hid (Blk wr (w.heap.size + 1) 77 zeroShelf) ∧ Hid (Below w.heap.size w wr)) (fun t33 _ => n - (intOf t33).toNat)
        case atStart => exact ⟨0, by omega, rfl, fun i hi => absurd hi (Nat.not_lt_zero _), ⟨none, 0, 0, _, Nat.le_refl _, HS0.out, ⟨rfl, Or.inl ⟨rfl, rfl⟩⟩, HL0.out, holds_zero lb xs⟩, HR0.out, HB0.out⟩
        case round =>
          obtain ⟨j, hj, rfl, HG, ⟨ga, gc, m, f, hmj, HSH, HGE, HLI, HHO⟩, HRZ, HB⟩ := hrel
          clear HS0 HL0 HR0 HB0
          by_cases hlt : j < n
          · -- ROUND
            have hlx : j < xs.length := by rw [← HX.out]; exact hlt
            obtain ⟨g, o, rfl, _, hg, hc3⟩ := H3.out (by omega)
            obtain ⟨vf, vk, vm, vs, hl, hc⟩ := slot_at (hc3 j hlx)
            have HGJ : Hid (goodI xs j = goodAt (xs.take j) xs[j]) := goodI_at xs j hlx
            have HD : Hid (xs[j].live = false → Holds f lb xs (j + 1)) := fun h => holds_dead HHO.out hlx h
            have HV : Hid (∀ ty v, xs[j].live = true → Holds (fun y => if y = (lb, xs[j].id, xs[j].gen) then some ((j : Int), ty, v) else f y) lb xs (j + 1)) := fun ty v h => holds_live HHO.out hlx h
            have HHS : Hid (∀ id, has3 f lb id = hasId (xs.take j) id) := fun id => holds_has HHO.out (by omega) HG.out id
            have HGS : Hid (gensTo xs j ++ [.int .i64 xs[j].gen] = gensTo xs (j + 1)) := gens_step xs j hlx
            clear hc3 HHO
            generalize xs[j] = x at *
            obtain ⟨gn, lv, id, ⟨kd, lo', od, pl, ⟨u1, u2, u3⟩, rm, fr, ks, ms, ss⟩⟩ := x
            simp only at hl HD HV HGS
            have e0 : wr.cell? ⟨g, o + j * 15, none⟩ = some (.int .i64 gn) := (HB.out.cell (p := ⟨g, o + j * 15, none⟩) hg).trans (hc 0 (by decide))
            have e1 : wr.cell? ⟨g, o + j * 15 + 1, none⟩ = some (.bool lv) := (HB.out.cell (p := ⟨g, o + j * 15 + 1, none⟩) hg).trans (hc 1 (by decide))
            have e2 : wr.cell? ⟨g, o + j * 15 + 2, none⟩ = some (.int .i64 id) := (HB.out.cell (p := ⟨g, o + j * 15 + 2, none⟩) hg).trans (hc 2 (by decide))
            have e3 : wr.cell? ⟨g, o + j * 15 + 3, none⟩ = some (.int .i64 kd) := (HB.out.cell (p := ⟨g, o + j * 15 + 3, none⟩) hg).trans (hc 3 (by decide))
            have e4 : wr.cell? ⟨g, o + j * 15 + 4, none⟩ = some (.int .i64 lo') := (HB.out.cell (p := ⟨g, o + j * 15 + 4, none⟩) hg).trans (hc 4 (by decide))
            have e5 : wr.cell? ⟨g, o + j * 15 + 5, none⟩ = some (.int .i64 od) := (HB.out.cell (p := ⟨g, o + j * 15 + 5, none⟩) hg).trans (hc 5 (by decide))
            have e6 : wr.cell? ⟨g, o + j * 15 + 6, none⟩ = some (.int .i64 pl) := (HB.out.cell (p := ⟨g, o + j * 15 + 6, none⟩) hg).trans (hc 6 (by decide))
            have e7 : wr.cell? ⟨g, o + j * 15 + 7, none⟩ = some (.int .i64 u1) := (HB.out.cell (p := ⟨g, o + j * 15 + 7, none⟩) hg).trans (hc 7 (by decide))
            have e8 : wr.cell? ⟨g, o + j * 15 + 8, none⟩ = some (.int .i64 u2) := (HB.out.cell (p := ⟨g, o + j * 15 + 8, none⟩) hg).trans (hc 8 (by decide))
            have e9 : wr.cell? ⟨g, o + j * 15 + 9, none⟩ = some (.int .i64 u3) := (HB.out.cell (p := ⟨g, o + j * 15 + 9, none⟩) hg).trans (hc 9 (by decide))
            have e10 : wr.cell? ⟨g, o + j * 15 + 10, none⟩ = some (.int .i64 rm) := (HB.out.cell (p := ⟨g, o + j * 15 + 10, none⟩) hg).trans (hc 10 (by decide))
            have e11 : wr.cell? ⟨g, o + j * 15 + 11, none⟩ = some (vf) := (HB.out.cell (p := ⟨g, o + j * 15 + 11, none⟩) hg).trans (hc 11 (by decide))
            have e12 : wr.cell? ⟨g, o + j * 15 + 12, none⟩ = some (vk) := (HB.out.cell (p := ⟨g, o + j * 15 + 12, none⟩) hg).trans (hc 12 (by decide))
            have e13 : wr.cell? ⟨g, o + j * 15 + 13, none⟩ = some (vm) := (HB.out.cell (p := ⟨g, o + j * 15 + 13, none⟩) hg).trans (hc 13 (by decide))
            have e14 : wr.cell? ⟨g, o + j * 15 + 14, none⟩ = some (vs) := (HB.out.cell (p := ⟨g, o + j * 15 + 14, none⟩) hg).trans (hc 14 (by decide))
            clear hc
            obtain ⟨af, cf, qf, lf⟩ := hl.f.form
            obtain ⟨ak, ck, qk, lk⟩ := hl.k.form
            obtain ⟨am, cm, qm, lm⟩ := hl.m.form
            obtain ⟨aq, cq, qq, lq⟩ := hl.s.form
            simp only at qf qk qm qq lf lk lm lq
            have HRT : Hid (SlotD.right ⟨gn, lv, id, ⟨kd, lo', od, pl, (u1, u2, u3), rm, fr, ks, ms, ss⟩⟩ = slotC gn lv id kd lo' od pl u1 u2 u3 rm fr.length ks.length ms.length ss.length) := slot_right _
            generalize (ObjD.mk kd lo' od pl (u1, u2, u3) rm fr ks ms ss) = ob at HRT HGJ
            clear hl
            generalize fr.length = nf at *
            generalize ks.length = nk at *
            generalize ms.length = nm at *
            generalize ss.length = nq at *
            subst qf qk qm qq
            have HSR : Hid (∀ W, _) := fun W => im_slot gn lv id kd lo' od pl u1 u2 u3 rm af nf cf ak nk ck am nm cm aq nq cq lf lk lm lq W
            have HPT : Hid (∀ (W : World) (G cp : Nat), _ → _ → _ → _ → _ → _ → _ → _ → _ → _ → _) := fun W G cp => im_put lb ky ct id gn j (b + 1) G (j + 1) cp b m f kd lo' od pl u1 u2 u3 rm af nf cf ak nk ck am nm cm aq nq cq lf lk lm lq W
            have HSC : Hid (slotC gn lv id kd lo' od pl u1 u2 u3 rm nf nk nm nq = true → lv = true → 0 ≤ gn ∧ gn < 3 ∧ pm.keyB id = true) := fun h1 h2 => slotC_live h1 h2
            generalize slotC gn lv id kd lo' od pl u1 u2 u3 rm nf nk nm nq = sr at *
            have hg2 : g < wr.heap.size := Nat.lt_of_lt_of_le hg HB.out.size
            have hbL := HLI.out.lt
            have hsL := HSH.out.lt
            have hrL := HRZ.out.lt
            clear lf lk lm lq
            go_wp2_with fail
            refine Calls.mono (HSR.out _) ?_
            rintro e w1 ⟨rfl, hb1⟩
            have HSB1 : Hid (Blk w1 wr.heap.size 69 [.int .i64 gn, .bool lv, .int .i64 id, .int .i64 kd, .int .i64 lo', .int .i64 od, .int .i64 pl, .int .i64 u1, .int .i64 u2, .int .i64 u3, .int .i64 rm, .slice af nf cf, .slice ak nk ck, .slice am nm cm, .slice aq nq cq]) := (blk_new wr [.int .i64 gn, .bool lv, .int .i64 id, .int .i64 kd, .int .i64 lo', .int .i64 od, .int .i64 pl, .int .i64 u1, .int .i64 u2, .int .i64 u3, .int .i64 rm, .slice af nf cf, .slice ak nk ck, .slice am nm cm, .slice aq nq cq] 69).later hb1
            have hbq := below_tr (below_one wr (.cells #[.int .i64 gn, .bool lv, .int .i64 id, .int .i64 kd, .int .i64 lo', .int .i64 od, .int .i64 pl, .int .i64 u1, .int .i64 u2, .int .i64 u3, .int .i64 rm, .slice af nf cf, .slice ak nk ck, .slice am nm cm, .slice aq nq cq] 69)) hb1
            have HSH1 : Hid (Blk w1 (b + 1) 77 [.int .i64 lb, .int .i64 ky, .int .i64 ct, .slice ga j gc, .map (some b)]) := HSH.out.later hbq
            have HLI1 : Hid (Live w1 b m f) := HLI.out.later hbq
            have HGE1 : Hid (w1.ownsRow (b + 2) 2 1 (.slice ga j gc) j (gensTo xs j)) := own_later HGE.out hbq
            have HRZ1 : Hid (Blk w1 (w.heap.size + 1) 77 zeroShelf) := HRZ.out.later hbq
            have HB1 : Hid (Below w.heap.size w w1) := below_tr HB.out hbq
            have hsz1 : wr.heap.size < w1.heap.size := HSB1.out.lt
            have HGB : Hid (∀ q, (Value.slice ga j gc).ownBlock = some q → b + 2 ≤ q ∧ q < wr.heap.size) := fun q hq => own_blk HGE.out hq
            clear hb1 hbq HSH HLI HGE HRZ HB HSR e0 e1 e2 e3 e4 e5 e6 e7 e8 e9 e10 e11 e12 e13 e14
            cases sr with
            | false =>
              have HNO : Hid (ArenaD.right ⟨lb, ky, ct, xs⟩ = false) := by rw [Hid, HRV2.out]; exact good_no hlx (by rw [HGJ.out]; exact good_slot HRT.out)
              have r0 : w1.cell? ⟨w.heap.size + 1, 0, none⟩ = some (.int .i64 0) := HRZ1.out.cell 0
              have y0 := HRZ1.out.free 0
              have r1 : w1.cell? ⟨w.heap.size + 1, 1, none⟩ = some (.int .i64 0) := HRZ1.out.cell 1
              have y1 := HRZ1.out.free 1
              have r2 : w1.cell? ⟨w.heap.size + 1, 2, none⟩ = some (.int .i64 0) := HRZ1.out.cell 2
              have y2 := HRZ1.out.free 2
              have r3 : w1.cell? ⟨w.heap.size + 1, 3, none⟩ = some (.slice none 0 0) := HRZ1.out.cell 3
              have y3 := HRZ1.out.free 3
              have r4 : w1.cell? ⟨w.heap.size + 1, 4, none⟩ = some (.map none) := HRZ1.out.cell 4
              have y4 := HRZ1.out.free 4
              go_wp2_with fail
              exact bodyPost_ret (v := .tuple #[.agg zeroShelf.toArray, .bool false]) (by simp [results, Try.results34, go_sem, zeroShelf, r0, r1, r2, r3, r4]) rfl (shelf_no HNO.out ⟨rfl, putW_below zeroShelf HB1.out (by omega) (b := 0)⟩)
            | true =>
              cases lv with
              | false =>
                have t0 : w1.cell? ⟨wr.heap.size, 0, none⟩ = some (.int .i64 gn) := HSB1.out.cell 0
                have t1 : w1.cell? ⟨wr.heap.size, 1, none⟩ = some (.bool false) := HSB1.out.cell 1
                have s3 : w1.cell? ⟨b + 1, 3, none⟩ = some (.slice ga j gc) := HSH1.out.cell 3
                have s3f := HSH1.out.free 3
                obtain ⟨i0, hi0, hz0, hz1, hz2⟩ := info_parts info_i64
                go_wp2_with (at_builtin; refine wpList_append_own _ rfl _ _ 74 rfl (b + 2) 2 i0 (.int .i64 0) 1 8 Try.underlying74 hi0 hz0 hz1 hz2 rfl (by decide) _ _ _ rfl (World.ownsRow.alloc HGE1.out _) ⟨w1.heap.size, 0, none⟩ 1 1 [.int .i64 gn] rfl rfl ?c1 ?c2 ?c3 ?c4 ?c5 ?_)
                case c1 =>
                  intro j x hj
                  match j, hj with
                  | 0, hj => simp at hj; subst hj; simp [Addr.add]
                case c2 => intro x hx; simp at hx; subst hx; rfl
                case c3 => unfold maxLen; omega
                case c4 => omega
                case c5 => simp; omega
                intro v' w7 hown' hgrow _
                rw [HGS.out] at hown'
                obtain ⟨G, cp, rfl⟩ := own_form hown'
                obtain ⟨hG1, hG2⟩ := own_blk hown' rfl
                have HO7 : Hid (w7.ownsRow (b + 2) 2 1 (.slice (some ⟨G, 0, none⟩) (j + 1) cp) (j + 1) (gensTo xs (j + 1))) := hown'
                have HSB7 : Hid (Blk w7 wr.heap.size 69 [.int .i64 gn, .bool false, .int .i64 id, .int .i64 kd, .int .i64 lo', .int .i64 od, .int .i64 pl, .int .i64 u1, .int .i64 u2, .int .i64 u3, .int .i64 rm, .slice af nf cf, .slice ak nk ck, .slice am nm cm, .slice aq nq cq]) := (HSB1.out.later (below_one w1 _)).grownO hgrow (fun q hq => by have := HGB.out q hq; omega)
                have HSH7 : Hid (Blk w7 (b + 1) 77 [.int .i64 lb, .int .i64 ky, .int .i64 ct, .slice ga j gc, .map (some b)]) := (HSH1.out.later (below_one w1 _)).grownO hgrow (fun q hq => by have := HGB.out q hq; omega)
                have HRZ7 : Hid (Blk w7 (w.heap.size + 1) 77 zeroShelf) := (HRZ1.out.later (below_one w1 _)).grownO hgrow (fun q hq => by have := HGB.out q hq; omega)
                have HLI7 : Hid (Live w7 b m f) := (HLI1.out.later (below_one w1 _)).grownO hgrow (fun q hq => by have := HGB.out q hq; omega)
                have HB7 : Hid (Below w.heap.size w w7) := (HB1.out.alloc HB1.out.size _).grown hgrow (by have := HB1.out.size; simp; omega) (fun q hq => by have := HGB.out q hq; omega)
                clear hown' hgrow t0 t1 s3 s3f hi0 hz0 hz1 hz2 HSB1 HSH1 HRZ1 HLI1 HB1 HGE1
                have s3 : w7.cell? ⟨b + 1, 3, none⟩ = some (.slice ga j gc) := HSH7.out.cell 3
                have s3f := HSH7.out.free 3
                have t1 : w7.cell? ⟨wr.heap.size, 1, none⟩ = some (.bool false) := HSB7.out.cell 1
                have HGO : Hid (goodI xs j = true) := by rw [Hid, HGJ.out]; exact good_dead_ok HRT.out
                go_wp2_with fail
                go_roundw
                case rel => exact ⟨j + 1, by omega, by go_num, good_next HG.out HGO.out, ⟨some ⟨G, 0, none⟩, cp, m, f, by omega, HSH7.out.put [.slice (some ⟨G, 0, none⟩) (j + 1) cp] 3, own_put HO7.out [.slice (some ⟨G, 0, none⟩) (j + 1) cp] (by omega), HLI7.out.block (putW_other [.slice (some ⟨G, 0, none⟩) (j + 1) cp] w7 (b + 1) 3 b (by omega)), HD.out (by trivial)⟩, HRZ7.out.other [.slice (some ⟨G, 0, none⟩) (j + 1) cp] (b + 1) 3 (by omega), putW_below [.slice (some ⟨G, 0, none⟩) (j + 1) cp] HB7.out (by omega) (b := 3)⟩
                case measure => simp [intOf]; omega
              | true =>
                obtain ⟨h0, h1, hk⟩ := HSC.out rfl rfl
                have s0 : w1.cell? ⟨b + 1, 0, none⟩ = some (.int .i64 lb) := HSH1.out.cell 0
                have s1 : w1.cell? ⟨b + 1, 1, none⟩ = some (.int .i64 ky) := HSH1.out.cell 1
                have s2 : w1.cell? ⟨b + 1, 2, none⟩ = some (.int .i64 ct) := HSH1.out.cell 2
                have s3 : w1.cell? ⟨b + 1, 3, none⟩ = some (.slice ga j gc) := HSH1.out.cell 3
                have s4 : w1.cell? ⟨b + 1, 4, none⟩ = some (.map (some b)) := HSH1.out.cell 4
                have t1 : w1.cell? ⟨wr.heap.size, 1, none⟩ = some (.bool true) := HSB1.out.cell 1
                have t2 : w1.cell? ⟨wr.heap.size, 2, none⟩ = some (.int .i64 id) := HSB1.out.cell 2
                go_wp2_with fail
                refine Calls.mono (im_has lb ky ct id ga j gc b m f w1 HLI1.out (fun q hq => wf_name hlb hk q (by omega) (by omega))) ?_
                rintro e w2 ⟨rfl, hb2⟩
                rw [HHS.out id]
                have HSB2 : Hid (Blk w2 wr.heap.size 69 [.int .i64 gn, .bool true, .int .i64 id, .int .i64 kd, .int .i64 lo', .int .i64 od, .int .i64 pl, .int .i64 u1, .int .i64 u2, .int .i64 u3, .int .i64 rm, .slice af nf cf, .slice ak nk ck, .slice am nm cm, .slice aq nq cq]) := HSB1.out.later hb2
                have HSH2 : Hid (Blk w2 (b + 1) 77 [.int .i64 lb, .int .i64 ky, .int .i64 ct, .slice ga j gc, .map (some b)]) := HSH1.out.later hb2
                have HLI2 : Hid (Live w2 b m f) := HLI1.out.later hb2
                have HGE2 : Hid (w2.ownsRow (b + 2) 2 1 (.slice ga j gc) j (gensTo xs j)) := own_later HGE1.out hb2
                have HRZ2 : Hid (Blk w2 (w.heap.size + 1) 77 zeroShelf) := HRZ1.out.later hb2
                have HB2 : Hid (Below w.heap.size w w2) := below_tr HB1.out hb2
                have hsz2 : wr.heap.size < w2.heap.size := HSB2.out.lt
                clear hb2 HSB1 HSH1 HLI1 HGE1 HRZ1 HB1 s0 s1 s2 s3 s4 t1 t2
                cases hhas : hasId (xs.take j) id with
                | true =>
                  have HNO : Hid (ArenaD.right ⟨lb, ky, ct, xs⟩ = false) := by rw [Hid, HRV2.out]; exact good_no hlx (by rw [HGJ.out]; exact good_twice hhas)
                  have r0 : w2.cell? ⟨w.heap.size + 1, 0, none⟩ = some (.int .i64 0) := HRZ2.out.cell 0
                  have y0 := HRZ2.out.free 0
                  have r1 : w2.cell? ⟨w.heap.size + 1, 1, none⟩ = some (.int .i64 0) := HRZ2.out.cell 1
                  have y1 := HRZ2.out.free 1
                  have r2 : w2.cell? ⟨w.heap.size + 1, 2, none⟩ = some (.int .i64 0) := HRZ2.out.cell 2
                  have y2 := HRZ2.out.free 2
                  have r3 : w2.cell? ⟨w.heap.size + 1, 3, none⟩ = some (.slice none 0 0) := HRZ2.out.cell 3
                  have y3 := HRZ2.out.free 3
                  have r4 : w2.cell? ⟨w.heap.size + 1, 4, none⟩ = some (.map none) := HRZ2.out.cell 4
                  have y4 := HRZ2.out.free 4
                  go_wp2_with fail
                  exact bodyPost_ret (v := .tuple #[.agg zeroShelf.toArray, .bool false]) (by simp [results, Try.results34, go_sem, zeroShelf, r0, r1, r2, r3, r4]) rfl (shelf_no HNO.out ⟨rfl, putW_below zeroShelf HB2.out (by omega) (b := 0)⟩)
                | false =>
                  have t0 : w2.cell? ⟨wr.heap.size, 0, none⟩ = some (.int .i64 gn) := HSB2.out.cell 0
                  have t1 : w2.cell? ⟨wr.heap.size, 1, none⟩ = some (.bool true) := HSB2.out.cell 1
                  have s3 : w2.cell? ⟨b + 1, 3, none⟩ = some (.slice ga j gc) := HSH2.out.cell 3
                  have s3f := HSH2.out.free 3
                  obtain ⟨i0, hi0, hz0, hz1, hz2⟩ := info_parts info_i64
                  go_wp2_with (at_builtin; refine wpList_append_own _ rfl _ _ 74 rfl (b + 2) 2 i0 (.int .i64 0) 1 8 Try.underlying74 hi0 hz0 hz1 hz2 rfl (by decide) _ _ _ rfl (World.ownsRow.alloc HGE2.out _) ⟨w2.heap.size, 0, none⟩ 1 1 [.int .i64 gn] rfl rfl ?c1 ?c2 ?c3 ?c4 ?c5 ?_)
                  case c1 =>
                    intro j x hj
                    match j, hj with
                    | 0, hj => simp at hj; subst hj; simp [Addr.add]
                  case c2 => intro x hx; simp at hx; subst hx; rfl
                  case c3 => unfold maxLen; omega
                  case c4 => omega
                  case c5 => simp; omega
                  intro v' w7 hown' hgrow _
                  rw [HGS.out] at hown'
                  obtain ⟨G, cp, rfl⟩ := own_form hown'
                  obtain ⟨hG1, hG2⟩ := own_blk hown' rfl
                  have HO7 : Hid (w7.ownsRow (b + 2) 2 1 (.slice (some ⟨G, 0, none⟩) (j + 1) cp) (j + 1) (gensTo xs (j + 1))) := hown'
                  have HSB7 : Hid (Blk w7 wr.heap.size 69 [.int .i64 gn, .bool true, .int .i64 id, .int .i64 kd, .int .i64 lo', .int .i64 od, .int .i64 pl, .int .i64 u1, .int .i64 u2, .int .i64 u3, .int .i64 rm, .slice af nf cf, .slice ak nk ck, .slice am nm cm, .slice aq nq cq]) := (HSB2.out.later (below_one w2 _)).grownO hgrow (fun q hq => by have := HGB.out q hq; omega)
                  have HSH7 : Hid (Blk w7 (b + 1) 77 [.int .i64 lb, .int .i64 ky, .int .i64 ct, .slice ga j gc, .map (some b)]) := (HSH2.out.later (below_one w2 _)).grownO hgrow (fun q hq => by have := HGB.out q hq; omega)
                  have HRZ7 : Hid (Blk w7 (w.heap.size + 1) 77 zeroShelf) := (HRZ2.out.later (below_one w2 _)).grownO hgrow (fun q hq => by have := HGB.out q hq; omega)
                  have HLI7 : Hid (Live w7 b m f) := (HLI2.out.later (below_one w2 _)).grownO hgrow (fun q hq => by have := HGB.out q hq; omega)
                  have HB7 : Hid (Below w.heap.size w w7) := (HB2.out.alloc HB2.out.size _).grown hgrow (by have := HB2.out.size; simp; omega) (fun q hq => by have := HGB.out q hq; omega)
                  clear hown' hgrow t0 t1 s3 s3f hi0 hz0 hz1 hz2 HSB2 HSH2 HRZ2 HLI2 HB2 HGE2
                  have s3 : w7.cell? ⟨b + 1, 3, none⟩ = some (.slice ga j gc) := HSH7.out.cell 3
                  have s3f := HSH7.out.free 3
                  have t1 : w7.cell? ⟨wr.heap.size, 1, none⟩ = some (.bool true) := HSB7.out.cell 1
                  have t2 : w7.cell? ⟨wr.heap.size, 2, none⟩ = some (.int .i64 id) := HSB7.out.cell 2
                  have t3 : w7.cell? ⟨wr.heap.size, 3, none⟩ = some (.int .i64 kd) := HSB7.out.cell 3
                  have t4 : w7.cell? ⟨wr.heap.size, 4, none⟩ = some (.int .i64 lo') := HSB7.out.cell 4
                  have t5 : w7.cell? ⟨wr.heap.size, 5, none⟩ = some (.int .i64 od) := HSB7.out.cell 5
                  have t6 : w7.cell? ⟨wr.heap.size, 6, none⟩ = some (.int .i64 pl) := HSB7.out.cell 6
                  have t7 : w7.cell? ⟨wr.heap.size, 7, none⟩ = some (.int .i64 u1) := HSB7.out.cell 7
                  have t8 : w7.cell? ⟨wr.heap.size, 8, none⟩ = some (.int .i64 u2) := HSB7.out.cell 8
                  have t9 : w7.cell? ⟨wr.heap.size, 9, none⟩ = some (.int .i64 u3) := HSB7.out.cell 9
                  have t10 : w7.cell? ⟨wr.heap.size, 10, none⟩ = some (.int .i64 rm) := HSB7.out.cell 10
                  have t11 : w7.cell? ⟨wr.heap.size, 11, none⟩ = some (.slice af nf cf) := HSB7.out.cell 11
                  have t12 : w7.cell? ⟨wr.heap.size, 12, none⟩ = some (.slice ak nk ck) := HSB7.out.cell 12
                  have t13 : w7.cell? ⟨wr.heap.size, 13, none⟩ = some (.slice am nm cm) := HSB7.out.cell 13
                  have t14 : w7.cell? ⟨wr.heap.size, 14, none⟩ = some (.slice aq nq cq) := HSB7.out.cell 14
                  have HGO : Hid (goodI xs j = true) := by rw [Hid, HGJ.out]; exact good_live_ok HRT.out hhas
                  go_wp2_with fail
                  have HO8 : Hid ((putW w7 (b + 1) 3 [.slice (some ⟨G, 0, none⟩) (j + 1) cp]).ownsRow (b + 2) 2 1 (.slice (some ⟨G, 0, none⟩) (j + 1) cp) (j + 1) (gensTo xs (j + 1))) := own_put HO7.out [.slice (some ⟨G, 0, none⟩) (j + 1) cp] (by omega)
                  have HSH8 : Hid (Blk (putW w7 (b + 1) 3 [.slice (some ⟨G, 0, none⟩) (j + 1) cp]) (b + 1) 77 [.int .i64 lb, .int .i64 ky, .int .i64 ct, .slice (some ⟨G, 0, none⟩) (j + 1) cp, .map (some b)]) := HSH7.out.put [.slice (some ⟨G, 0, none⟩) (j + 1) cp] 3
                  have HRZ8 : Hid (Blk (putW w7 (b + 1) 3 [.slice (some ⟨G, 0, none⟩) (j + 1) cp]) (w.heap.size + 1) 77 zeroShelf) := HRZ7.out.other [.slice (some ⟨G, 0, none⟩) (j + 1) cp] (b + 1) 3 (by omega)
                  have HLI8 : Hid (Live (putW w7 (b + 1) 3 [.slice (some ⟨G, 0, none⟩) (j + 1) cp]) b m f) := HLI7.out.block (putW_other [.slice (some ⟨G, 0, none⟩) (j + 1) cp] w7 (b + 1) 3 b (by omega))
                  have HB8 : Hid (Below w.heap.size w (putW w7 (b + 1) 3 [.slice (some ⟨G, 0, none⟩) (j + 1) cp])) := putW_below [.slice (some ⟨G, 0, none⟩) (j + 1) cp] HB7.out (by omega) (b := 3)
                  refine Calls.mono (HPT.out (putW w7 (b + 1) 3 [.slice (some ⟨G, 0, none⟩) (j + 1) cp]) G cp HSH8.out (gens_at HO8.out HGS.out (by omega)) (by rw [putW_size]; exact hG2) (by omega) (by omega) HLI8.out (by omega) (wf_name hlb hk gn h0 h1) (by omega) (by omega)) ?_
                  rintro e w8 ⟨rfl, ⟨ty, v, _, hl8⟩, hg8⟩
                  have HS9 : Hid (Blk w8 (b + 1) 77 [.int .i64 lb, .int .i64 ky, .int .i64 ct, .slice (some ⟨G, 0, none⟩) (j + 1) cp, .map (some b)]) := HSH8.out.grown hg8 (by omega)
                  have HO9 : Hid (w8.ownsRow (b + 2) 2 1 (.slice (some ⟨G, 0, none⟩) (j + 1) cp) (j + 1) (gensTo xs (j + 1))) := own_grown HO8.out hg8 (by omega)
                  have HR9 : Hid (Blk w8 (w.heap.size + 1) 77 zeroShelf) := HRZ8.out.grown hg8 (by omega)
                  have HB9 : Hid (Below w.heap.size w w8) := HB8.out.grown hg8 HB8.out.size (fun q hq => by simp at hq; omega)
                  have HL9 : Hid (Live w8 b (m + 1) (fun y => if y = (lb, id, gn) then some ((j : Int), ty, v) else f y)) := hl8
                  clear hl8 hg8
                  go_wp2_with fail
                  go_roundw
                  case rel => exact ⟨j + 1, by omega, by go_num, good_next HG.out HGO.out, ⟨some ⟨G, 0, none⟩, cp, m + 1, _, by omega, HS9.out, HO9.out, HL9.out, HV.out ty v (by trivial)⟩, HR9.out, HB9.out⟩
                  case measure => simp [intOf]; omega
          -- END
          · obtain rfl : j = n := by omega
            have HRT : Hid (ArenaD.right ⟨lb, ky, ct, xs⟩ = true) := by rw [Hid, HRV2.out]; exact good_yes (fun i hi => HG.out i (by rw [HX.out]; exact hi))
            have s0 : wr.cell? ⟨b + 1, 0, none⟩ = some (.int .i64 lb) := HSH.out.cell 0
            have s1 : wr.cell? ⟨b + 1, 1, none⟩ = some (.int .i64 ky) := HSH.out.cell 1
            have s2 : wr.cell? ⟨b + 1, 2, none⟩ = some (.int .i64 ct) := HSH.out.cell 2
            have s3 : wr.cell? ⟨b + 1, 3, none⟩ = some (.slice ga j gc) := HSH.out.cell 3
            have s4 : wr.cell? ⟨b + 1, 4, none⟩ = some (.map (some b)) := HSH.out.cell 4
            have r0 : wr.cell? ⟨w.heap.size + 1, 0, none⟩ = some (.int .i64 0) := HRZ.out.cell 0
            have y0 := HRZ.out.free 0
            have r1 : wr.cell? ⟨w.heap.size + 1, 1, none⟩ = some (.int .i64 0) := HRZ.out.cell 1
            have y1 := HRZ.out.free 1
            have r2 : wr.cell? ⟨w.heap.size + 1, 2, none⟩ = some (.int .i64 0) := HRZ.out.cell 2
            have y2 := HRZ.out.free 2
            have r3 : wr.cell? ⟨w.heap.size + 1, 3, none⟩ = some (.slice none 0 0) := HRZ.out.cell 3
            have y3 := HRZ.out.free 3
            have r4 : wr.cell? ⟨w.heap.size + 1, 4, none⟩ = some (.map none) := HRZ.out.cell 4
            have y4 := HRZ.out.free 4
            go_wp2_with fail
            refine bodyPost_ret (v := .tuple #[.agg #[.int .i64 lb, .int .i64 ky, .int .i64 ct, .slice ga j gc, .map (some b)], .bool true]) (by simp [results, Try.results34, go_sem, r0, r1, r2, r3, r4]) rfl ⟨fun _ => ?_, fun h => absurd (HRT.out.symm.trans h) (by decide)⟩
            refine ⟨ga, gc, b, m, f, by simp only; rw [← HX.out], ?_, ?_, by simp only; rw [← HX.out]; exact HHO.out, by omega, by omega, ?_⟩
            · simp only
              rw [← HX.out]
              exact own_put (own_lower HGE.out (by omega)) [.int .i64 lb, .int .i64 ky, .int .i64 ct, .slice ga j gc, .map (some b)] (by omega)
            · exact HLI.out.block (putW_other [.int .i64 lb, .int .i64 ky, .int .i64 ct, .slice ga j gc, .map (some b)] wr (w.heap.size + 1) 0 b (by omega))
            · exact putW_below [.int .i64 lb, .int .i64 ky, .int .i64 ct, .slice ga j gc, .map (some b)] HB.out (by omega) (b := 0)
      · have hn6i : ¬ (n : Int) ≤ 6 := by omega
        go_enter Try.func34, Try.ntmps34
        go_wp2_with (first | (go_at_call 56; refine Calls.mono (HL.out _) ?_; rintro e w1 ⟨rfl, rfl⟩) | (go_at_call 65; refine Calls.mono (HS.out _) ?_; rintro e w2 ⟨rfl, hb2⟩; have HB2 : Hid (Below w.heap.size w w2) := below_tr (below2 w _ _) hb2; have F := blk2 w [.int .i64 lb, .int .i64 ky, .int .i64 ct, .slice a n c] zeroShelf 34 77; have HA2 : Hid (Blk w2 w.heap.size 34 [.int .i64 lb, .int .i64 ky, .int .i64 ct, .slice a n c]) := F.1.later hb2; have HR2 : Hid (Blk w2 (w.heap.size + 1) 77 zeroShelf) := F.2.later hb2; have x0 : w2.cell? ⟨w.heap.size, 0, none⟩ = some (.int .i64 lb) := HA2.out.cell 0; have x1 : w2.cell? ⟨w.heap.size, 1, none⟩ = some (.int .i64 ky) := HA2.out.cell 1; have x2 : w2.cell? ⟨w.heap.size, 2, none⟩ = some (.int .i64 ct) := HA2.out.cell 2; have x3 : w2.cell? ⟨w.heap.size, 3, none⟩ = some (.slice a n c) := HA2.out.cell 3; have r0 : w2.cell? ⟨w.heap.size + 1, 0, none⟩ = some (.int .i64 0) := HR2.out.cell 0; have y0 := HR2.out.free 0; have r1 : w2.cell? ⟨w.heap.size + 1, 1, none⟩ = some (.int .i64 0) := HR2.out.cell 1; have y1 := HR2.out.free 1; have r2 : w2.cell? ⟨w.heap.size + 1, 2, none⟩ = some (.int .i64 0) := HR2.out.cell 2; have y2 := HR2.out.free 2; have r3 : w2.cell? ⟨w.heap.size + 1, 3, none⟩ = some (.slice none 0 0) := HR2.out.cell 3; have y3 := HR2.out.free 3; have r4 : w2.cell? ⟨w.heap.size + 1, 4, none⟩ = some (.map none) := HR2.out.cell 4; have y4 := HR2.out.free 4; have z3 : ∀ o1 o2, ((w2.alloc o1).alloc o2).cell? ⟨w.heap.size, 3, none⟩ = some (.slice a n c) := fun o1 o2 => (HA2.out.later (below2 w2 o1 o2)).cell 3; clear hb2 F))
        exact bodyPost_ret (v := .tuple #[.agg zeroShelf.toArray, .bool false]) (by simp [results, Try.results34, go_sem, zeroShelf, r0, r1, r2, r3, r4]) rfl (shelf_no (by rw [HRV.out, decide_eq_false hn6]; simp) ⟨rfl, putW_below zeroShelf HB2.out (by omega) (b := 0)⟩)
end Go.Proofs.Ytohgafblffnekaa.deep
