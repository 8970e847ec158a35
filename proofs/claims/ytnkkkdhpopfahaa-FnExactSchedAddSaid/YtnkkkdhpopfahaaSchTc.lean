/-
  The program's closure: one turn goes by.
-/
import Derived.Test.YtnkkkdhpopfahaaSchTi
namespace Go.Proofs.Ytnkkkdhpopfahaa.sch
open Go.RowKit Go.Deep Go.Sort
open Go.Proofs.Ytnkkkdhpopfahaa
open Go.Proofs.Ytnkkkdhpopfahaa.deep
set_option linter.unusedVariables false
set_option maxRecDepth 100000

theorem head_filter {ws : List Wt} {l : Nat} {y : Wt} (h : ws.find? (isL l) = some y) : ∃ rest, ws.filter (isL l) = y :: rest := by
  rw [find_filter] at h
  cases hf : ws.filter (isL l) with
  | nil => rw [hf] at h; cases h
  | cons a r => rw [hf] at h; injection h with h; exact ⟨r, by rw [h]⟩
theorem none_filter {ws : List Wt} {l : Nat} (h : ws.find? (isL l) = none) : ws.filter (isL l) = [] := by
  rw [find_filter] at h
  cases hf : ws.filter (isL l) with
  | nil => rfl
  | cons a r => rw [hf] at h; cases h
/-- a take out of a wheel: nothing is there -/
theorem wheel_none (B l : Nat) (hl : l < 16) {w : World} {vo : Value} {now last : Int} {f : Nat → Nat} {ws : List Wt} (h : Wheel w B vo now last f ws) (hn : ws.find? (isL l) = none) :
    Calls Try.prog 72 #[.pointer (some ⟨B, 2 + l * 162, none⟩)] w fun e w' => e = .returned (.tuple #[.agg #[.int .i64 0, .int .i64 0, .int .i64 0], .bool false]) ∧ Below w.heap.size w w' := by
  obtain ⟨cur, h1, h2⟩ := h
  have hr := h2.ring l hl
  rw [none_filter hn] at hr
  exact ring_none B (2 + l * 162) (by rw [cell_cur h1]; exact hr.many)
def WTakeR (B : Nat) (vo : Value) (now last : Int) (ws : List Wt) (t : Tt) (w : World) (e : Ending) (w' : World) : Prop := e = .returned (.tuple #[.agg #[.int .i64 t.1, .int .i64 t.2.1, .int .i64 t.2.2], .bool true]) ∧ w.grownBy w' (some B) ∧ ∃ f, Wheel w' B vo now last f ws
theorem wheel_take (B l : Nat) (hl : l < 16) {w : World} {vo : Value} {now last : Int} {f : Nat → Nat} {ws : List Wt} {y : Wt} (h : Wheel w B vo now last f ws) (hn : ws.find? (isL l) = some y) :
    Calls Try.prog 72 #[.pointer (some ⟨B, 2 + l * 162, none⟩)] w (WTakeR B vo now last (ws.eraseP (isL l)) y.1 w) := by
  obtain ⟨cur, h1, h2⟩ := h
  obtain ⟨rest, hf⟩ := head_filter hn
  have hr := h2.ring l hl
  have hr2 := hr
  rw [hf] at hr2
  have hlen := hr2.len
  refine (ring_take B (2 + l * 162) (f l) (ws.filter (isL l)).length _ y cur h1 (by rw [h2.size]; omega) hr.first hr.many hr.ff (by rw [hf]; simp) (by rw [hf]; exact hlen) (fun j hj => ?_)).mono ?_
  · have := hr2.at' 0 (by simp) j hj
    rw [show (f l + 0) % 40 = f l by rw [Nat.add_zero]; exact Nat.mod_eq_of_lt hr.ff] at this
    exact this
  · rintro e w' ⟨he, hg, hc⟩
    exact ⟨he, hg, _, _, hc, h2.take hl hf⟩
theorem Wheel.tick {w : World} {B : Nat} {vo : Value} {now last : Int} {f : Nat → Nat} {ws : List Wt} (h : Wheel w B vo now last f ws) (now' : Int) : Wheel (w.setCell ⟨B, 1, none⟩ (.int .i64 now')) B vo now' last f ws := by
  obtain ⟨cur, h1, h2⟩ := h
  exact ⟨_, putW_block [.int .i64 now'] w B 1 cur _ h1, h2.tick now'⟩
theorem Wheel.cells {w : World} {B : Nat} {vo : Value} {now last : Int} {f : Nat → Nat} {ws : List Wt} (h : Wheel w B vo now last f ws) : w.cell? ⟨B, 0, none⟩ = some vo ∧ w.cell? ⟨B, 1, none⟩ = some (.int .i64 now) ∧ w.frozen? ⟨B, 1, none⟩ = false := by
  obtain ⟨cur, h1, h2⟩ := h
  exact ⟨by rw [cell_cur h1]; exact h2.order, by rw [cell_cur h1]; exact h2.now, free_cur h1⟩
theorem filter_erase_len {ws : List Wt} {l : Nat} {y : Wt} (hn : ws.find? (isL l) = some y) (h : (ws.filter (isL l)).length ≤ 40) : ((ws.eraseP (isL l)).filter (isL l)).length < 40 := by
  obtain ⟨rest, hf⟩ := head_filter hn
  rw [hf] at h
  rw [filter_eraseP, hf]
  simp at h ⊢
  omega

/-- what a turn leaves: who is told, and the wheel -/
def TurnR (B : Nat) (vo : Value) (now last : Int) (ws : List Wt) (l : Nat) (w : World) (e : Ending) (w' : World) : Prop :=
  e = .returned (.tuple #[.agg #[.int .i64 (ranT (ws.map (·.1)) l).1, .int .i64 (ranT (ws.map (·.1)) l).2.1, .int .i64 (ranT (ws.map (·.1)) l).2.2], .bool true]) ∧ w.grownBy w' (some B) ∧ ∃ f, Wheel w' B vo (now + 1) (lastW ws l last) f (leftW ws l last)
theorem gtr {a b c : World} {r : Option Nat} (h : a.grownBy b r) (k : b.grownBy c r) : a.grownBy c r :=
  ⟨k.os.trans h.os, k.tape.trans h.tape, k.output.trans h.output, Nat.le_trans h.size k.size, fun i hi hr => (k.block i (Nat.lt_of_lt_of_le hi h.size) hr).trans (h.block i hi hr)⟩
theorem gbel {a b : World} (r : Option Nat) (h : Below a.heap.size a b) : a.grownBy b r := ⟨h.os, h.tape, h.output, h.size, fun i hi _ => h.block i hi⟩
theorem gput {a b : World} {B Y : Nat} (h : a.grownBy b (some B)) (hY : a.heap.size ≤ Y) (vs : List Value) : a.grownBy (putW b Y 0 vs) (some B) := by
  obtain ⟨h1, h2, h3, h4, h5⟩ := h
  have hb := putW_below (n := a.heap.size) (u := b) (w := b) (g := Y) (b := 0) vs ⟨rfl, rfl, rfl, Nat.le_refl _, fun _ _ => rfl⟩ hY
  exact ⟨hb.os.trans h1, hb.tape.trans h2, hb.output.trans h3, Nat.le_trans h4 hb.size, fun i hi hr => (hb.block i hi).trans (h5 i hi hr)⟩
theorem Blk.grown {a b : World} {B Y t : Nat} {cs : List Value} (h : Blk a Y t cs) (hg : a.grownBy b (some B)) (hne : Y ≠ B) : Blk b Y t cs := (hg.block Y h.lt (fun e => hne (Option.some.inj e))).trans h
theorem Wheel.past {w : World} {B Y : Nat} {vo : Value} {now last : Int} {f : Nat → Nat} {ws : List Wt} (h : Wheel w B vo now last f ws) (hne : B ≠ Y) (vs : List Value) : Wheel (putW w Y 0 vs) B vo now last f ws := h.later (putW_other vs w Y 0 B hne)
theorem turn_end {B Y l : Nat} {w W : World} {vo : Value} {now last : Int} {f : Nat → Nat} {ws : List Wt} {r : Tt} (hr : ranT (ws.map (·.1)) l = r) (hg : w.grownBy W (some B)) (hY : w.heap.size ≤ Y) (hne : B ≠ Y) (hW : Wheel W B vo (now + 1) (lastW ws l last) f (leftW ws l last)) :
    TurnR B vo now last ws l w (.returned (.tuple #[.agg #[.int .i64 r.1, .int .i64 r.2.1, .int .i64 r.2.2], .bool true])) (putW W Y 0 [.int .i64 r.1, .int .i64 r.2.1, .int .i64 r.2.2]) := by
  subst hr
  exact ⟨rfl, gput hg hY _, f, hW.past hne _⟩
theorem TurnR.alloc {B l : Nat} {w W : World} {vo : Value} {now last : Int} {ws : List Wt} {e : Ending} (h : TurnR B vo now last ws l w e W) (o : Obj) : TurnR B vo now last ws l w e (W.alloc o) := by
  obtain ⟨h1, h2, f, h3⟩ := h
  exact ⟨h1, gtr h2 (World.grownBy_alloc _ _ _), f, h3.later ((below_one W o).block B h3.lt)⟩
theorem put_alloc {W : World} {Y t : Nat} {x y z a b c : Value} (h : Blk W Y t [x, y, z]) (o : Obj) : ((((W.setCell ⟨Y, 0, none⟩ a).setCell ⟨Y, 1, none⟩ b).setCell ⟨Y, 2, none⟩ c).alloc o).cell? ⟨Y, 0, none⟩ = some a ∧ ((((W.setCell ⟨Y, 0, none⟩ a).setCell ⟨Y, 1, none⟩ b).setCell ⟨Y, 2, none⟩ c).alloc o).cell? ⟨Y, 1, none⟩ = some b ∧ ((((W.setCell ⟨Y, 0, none⟩ a).setCell ⟨Y, 1, none⟩ b).setCell ⟨Y, 2, none⟩ c).alloc o).cell? ⟨Y, 2, none⟩ = some c := by
  have hP : Blk (putW W Y 0 [a, b, c]) Y t [a, b, c] := h.put [a, b, c] 0
  exact cells3s (hP.later (below_one _ o))
/-- no turn is left -/
theorem turn_over (B X : Nat) {w : World} {vo : Value} {now last : Int} {f : Nat → Nat} {ws : List Wt} (h : Wheel w B vo now last f ws) (hX : w.cell? ⟨X, 0, none⟩ = some (.pointer (some ⟨B, 0, none⟩))) (hn : 999999 ≤ now) :
    Calls Try.prog 71 #[.pointer (some ⟨X, 0, none⟩)] w fun e w' => e = .returned (.tuple #[.agg #[.int .i64 0, .int .i64 0, .int .i64 0], .bool false]) ∧ Below w.heap.size w w' := by
  obtain ⟨c0, c1, c2⟩ := h.cells
  have hBl := h.lt
  have hXl := ltc hX
  have hne : B ≠ w.heap.size := by omega
  have hne2 : X ≠ w.heap.size := by omega
  clear h
  go_enter Try.func71, Try.ntmps71
  go_wp2_with fail
  exact bodyPost_ret (v := .tuple #[.agg #[.int .i64 0, .int .i64 0, .int .i64 0], .bool false]) (by simp [results, Try.results71, go_sem]) rfl ⟨rfl, below_one _ _⟩
set_option maxHeartbeats 8000000 in
theorem turn_one (B X l : Nat) (hl : l < 16) (a : Option Addr) (n c : Nat) {w : World} {now last : Int} {f : Nat → Nat} {ws : List Wt} {os : List Int} (h : Wheel w B (.slice a n c) now last f ws) (hX : w.cell? ⟨X, 0, none⟩ = some (.pointer (some ⟨B, 0, none⟩))) (hXB : X ≠ B) (h0 : 0 ≤ now) (hn : now < 999999)
    (ho : RowE (Plain cint) 1 0 w (.slice a n c) os) (hoB : ∀ g o, spotOf (.slice a n c) = some (g, o) → g ≠ B) (hp : 0 < os.length) (hlb : os.getD (now % (os.length : Int)).toNat 0 = (l : Int)) (hok : LineOk ws last) (hl0 : 0 ≤ last) (hl1 : last ≤ 1000000000) :
    Calls Try.prog 71 #[.pointer (some ⟨X, 0, none⟩)] w (TurnR B (.slice a n c) now last ws l w) := by
  obtain ⟨c0, c1, c2⟩ := h.cells
  have hBl := h.lt
  have hXl := ltc hX
  obtain ⟨a', c', hv, hm, h3⟩ := int_at ho
  cases hv
  obtain ⟨g, o, rfl, hg, hc⟩ := h3 hp
  obtain ⟨i, hi⟩ : ∃ i : Nat, (i : Int) = now % (os.length : Int) ∧ i < os.length := ⟨(now % (os.length : Int)).toNat, by rw [Int.toNat_of_nonneg (Int.emod_nonneg _ (by omega))], by have := Int.emod_lt_of_pos now (show (0 : Int) < os.length by omega); omega⟩
  have hlab : os[i]'hi.2 = (l : Int) := by
    rw [← hi.1] at hlb
    simpa [List.getD, List.getElem?_eq_getElem hi.2] using hlb
  have d0 : w.cell? ⟨g, o + i, none⟩ = some (.int .i64 l) := by rw [hc i hi.2, hlab]
  obtain ⟨m, hmm⟩ : ∃ m, m = os.length := ⟨_, rfl⟩
  unfold maxLen at hm
  have hgB := hoB g o rfl
  have hi1 := hi.1
  have hi2 := hi.2
  rw [← hmm] at hi1 hi2 hm hp ⊢
  have hmod : now % (m : Int) = (i : Int) := hi1.symm
  have hii : (0 : Int) ≤ (i : Int) := by omega
  have hii2 : (i : Int) < (m : Int) := by omega
  have hmz : (m : Int) ≠ 0 := by omega
  clear ho hoB h3 hc hlb hlab hi hi1
  obtain ⟨V, hV⟩ : ∃ V, V = w.alloc (.cells #[.int .i64 0, .int .i64 0, .int .i64 0] 35) := ⟨_, rfl⟩
  have hbV : Below w.heap.size w V := by rw [hV]; exact below_one _ _
  have hY : Blk V w.heap.size 35 [.int .i64 0, .int .i64 0, .int .i64 0] := by rw [hV]; exact blk_new _ _ _
  have hWV : Wheel V B (.slice (some ⟨g, o, none⟩) m c) now last f ws := by
    rw [hmm]; exact h.later (hbV.block B hBl)
  obtain ⟨v0, v1, v2⟩ := hWV.cells
  have vX : V.cell? ⟨X, 0, none⟩ = some (.pointer (some ⟨B, 0, none⟩)) := (hbV.cell (p := ⟨X, 0, none⟩) hXl).trans hX
  have vg : V.cell? ⟨g, o + i, none⟩ = some (.int .i64 l) := (hbV.cell (p := ⟨g, o + i, none⟩) hg).trans d0
  go_enter Try.func71, Try.ntmps71
  go_upto_region 3 with fail
  rw [← hV]
  have hb1 : 0 ≤ now % (m : Int) := by omega
  have hb2 : now % (m : Int) < (m : Int) := by omega
  have hb3 : (now % (m : Int)).toNat = i := by omega
  have hmz2 : ¬ m = 0 := by omega
  have hmz3 : ((m : Int) = 0) = False := by simp; omega
  have hmz4 : (m = 0) = False := by simp; omega
  have hmz5 : (0 : Int) < (m : Int) := by omega
  have hmz6 : m ≠ 0 := hmz2
  have hT : now.tmod (m : Int) = (i : Int) := by rw [Int.tmod_eq_emod_of_nonneg h0]; exact hmod
  have hw0 : IntKind.i64.wrap (i : Int) = (i : Int) := by simp [IntKind.wrap, IntKind.bits, IntKind.signed]; omega
  have hw1 : IntKind.i64.wrap (now.tmod (m : Int)) = (i : Int) := by rw [hT]; exact hw0
  have HS : Hid (V.cell? ⟨X, 0, none⟩ = some (.pointer (some ⟨B, 0, none⟩)) ∧ V.cell? ⟨B, 0, none⟩ = some (.slice (some ⟨g, o, none⟩) m c) ∧ V.cell? ⟨B, 1, none⟩ = some (.int .i64 now) ∧ V.cell? ⟨g, o + i, none⟩ = some (.int .i64 l)) := ⟨vX, v0, v1, vg⟩
  have HWV : Hid (Wheel V B (.slice (some ⟨g, o, none⟩) m c) now last f ws) := hWV
  have HBV : Hid (Below w.heap.size w V) := hbV
  have HYV : Hid (Blk V w.heap.size 35 [.int .i64 0, .int .i64 0, .int .i64 0]) := hY
  have HOK : Hid (LineOk ws last) := hok
  clear hV hWV hbV hY hok h hX d0 c0 c1 c2 v0 v1 v2 vX vg hmm
  go_region_held3 (fun W => W.cell? ⟨X, 0, none⟩ = some (.pointer (some ⟨B, 0, none⟩)) ∧ W.cell? ⟨B, 0, none⟩ = some (.slice (some ⟨g, o, none⟩) m c) ∧ W.cell? ⟨B, 1, none⟩ = some (.int .i64 now) ∧ W.cell? ⟨g, o + i, none⟩ = some (.int .i64 l))
    (first | (with_reducible assumption) | exact HS.out)
    (first | fail)
  obtain ⟨D, hD⟩ : ∃ D, D = V.drew := ⟨_, rfl⟩
  have hgD : w.grownBy D (some B) := by rw [hD]; exact gbel _ (bdd HBV.out)
  have hWD : Wheel D B (.slice (some ⟨g, o, none⟩) m c) now last f ws := by rw [hD]; exact HWV.out
  have hYD : Blk D w.heap.size 35 [.int .i64 0, .int .i64 0, .int .i64 0] := by rw [hD]; exact HYV.out
  have cX : D.cell? ⟨X, 0, none⟩ = some (.pointer (some ⟨B, 0, none⟩)) := by rw [hD]; exact HS.out.1
  obtain ⟨c0, c1, c2⟩ := hWD.cells
  have hYB : w.heap.size ≠ B := by omega
  rw [← hD]
  clear hD HS HWV HBV HYV
  obtain ⟨D1, hD1⟩ : ∃ D1, D1 = D.setCell ⟨B, 1, none⟩ (.int .i64 (now + 1)) := ⟨_, rfl⟩
  have hg1 : w.grownBy D1 (some B) := by rw [hD1]; exact grown_put hgD 1 [.int .i64 (now + 1)]
  have hW1 : Wheel D1 B (.slice (some ⟨g, o, none⟩) m c) (now + 1) last f ws := by rw [hD1]; exact hWD.tick (now + 1)
  have hY1 : Blk D1 w.heap.size 35 [.int .i64 0, .int .i64 0, .int .i64 0] := by rw [hD1]; exact hYD.other [.int .i64 (now + 1)] B 1 hYB
  have cX1 : D1.cell? ⟨X, 0, none⟩ = some (.pointer (some ⟨B, 0, none⟩)) := by
    rw [hD1]; exact (putW_out (w := D) (g := B) (b := 1) (vs := [.int .i64 (now + 1)]) (fun e => absurd e hXB)).trans cX
  have hX1l := ltc cX1
  have hnow : now + 1 ≤ 999999 := by omega
  cases hf : ws.find? (isL l) with
  | none =>
    have HTK : Hid (Calls Try.prog 72 #[.pointer (some ⟨B, 2 + l * 162, none⟩)] D1 fun e w' => e = .returned (.tuple #[.agg #[.int .i64 0, .int .i64 0, .int .i64 0], .bool false]) ∧ Below D1.heap.size D1 w') := wheel_none B l hl hW1 hf
    have HR : Hid (ranT (ws.map (·.1)) l = (0, 0, 0)) := by rw [Hid, ranT, find_map, hf]; rfl
    have HL : Hid (leftW ws l last = ws ∧ lastW ws l last = last) := by rw [Hid, leftW, lastW, hf]; exact ⟨rfl, rfl⟩
    have HG1 : Hid (w.grownBy D1 (some B)) := hg1
    have HW1 : Hid (Wheel D1 B (.slice (some ⟨g, o, none⟩) m c) (now + 1) last f ws) := hW1
    have HY1 : Hid (Blk D1 w.heap.size 35 [.int .i64 0, .int .i64 0, .int .i64 0]) := hY1
    have hli : (0 : Int) ≤ (l : Int) := by omega
    have hli2 : (l : Int) < 16 := by omega
    clear hg1 hW1 hY1 hgD hWD hYD hf
    go_wp2_with fail
    rw [← hD1]
    clear hD1 cX c0 c1 c2
    refine Calls.mono HTK.out ?_
    rintro e w2 ⟨rfl, hb2⟩
    have HG2 : Hid (w.grownBy w2 (some B)) := gtr HG1.out (gbel _ hb2)
    have HW2 : Hid (Wheel w2 B (.slice (some ⟨g, o, none⟩) m c) (now + 1) last f ws) := HW1.out.later (hb2.block B HW1.out.lt)
    have hY2 : Blk w2 w.heap.size 35 [.int .i64 0, .int .i64 0, .int .i64 0] := HY1.out.later hb2
    obtain ⟨y0, y1, y2⟩ := cells3s hY2
    obtain ⟨z0, z1, z2⟩ := free3 hY2
    have hY2l : w.heap.size ≠ w2.heap.size := Nat.ne_of_lt hY2.lt
    have hB2l : B ≠ w2.heap.size := Nat.ne_of_lt HW2.out.lt
    have hY2k : w.heap.size < w2.heap.size := hY2.lt
    have HE : Hid (TurnR B (.slice (some ⟨g, o, none⟩) m c) now last ws l w (.returned (.tuple #[.agg #[.int .i64 0, .int .i64 0, .int .i64 0], .bool true])) ((putW w2 w.heap.size 0 [.int .i64 0, .int .i64 0, .int .i64 0]).alloc (.cells #[.int .i64 0, .int .i64 0, .int .i64 0] 35))) :=
      (turn_end (r := (0, 0, 0)) HR.out HG2.out (Nat.le_refl _) (Ne.symm hYB) (by rw [HL.out.1, HL.out.2]; exact HW2.out)).alloc _
    obtain ⟨r0, r1, r2⟩ := put_alloc (a := .int .i64 0) (b := .int .i64 0) (c := .int .i64 0) hY2 (.cells #[.int .i64 0, .int .i64 0, .int .i64 0] 35)
    clear hb2 hY2 HG1 HW1 HY1 HG2 HW2 HR HL
    go_wp2_with fail
    exact bodyPost_ret (v := .tuple #[.agg #[.int .i64 0, .int .i64 0, .int .i64 0], .bool true]) (by simp [results, Try.results71, go_sem, r0, r1, r2]) rfl HE.out
  | some y =>
    obtain ⟨⟨q0, q1, q2⟩, pl⟩ := y
    have hmem := List.mem_of_find?_eq_some hf
    have hpy := List.find?_some hf
    have hq0 : q0 = (l : Int) := by simpa [isL] using hpy
    have hnd := HOK.out.need _ hmem
    simp only at hnd
    subst hq0
    have hfl : ((ws.eraseP (isL l)).filter (isL l)).length < 40 := filter_erase_len hf (by
      obtain ⟨cur, _, hc⟩ := hW1
      exact (hc.ring l hl).len)
    have HTK : Hid (Calls Try.prog 72 #[.pointer (some ⟨B, 2 + l * 162, none⟩)] D1 (WTakeR B (.slice (some ⟨g, o, none⟩) m c) (now + 1) last (ws.eraseP (isL l)) ((l : Int), q1, q2) D1)) := wheel_take B l hl hW1 hf
    have HR : Hid (ranT (ws.map (·.1)) l = ((l : Int), q1, q2)) := by rw [Hid, ranT, find_map, hf]; rfl
    have HG1 : Hid (w.grownBy D1 (some B)) := hg1
    have HY1 : Hid (Blk D1 w.heap.size 35 [.int .i64 0, .int .i64 0, .int .i64 0]) := hY1
    have hli : (0 : Int) ≤ (l : Int) := by omega
    have hli2 : (l : Int) < 16 := by omega
    have HPU : Hid (∀ (W : World) f', Wheel W B (.slice (some ⟨g, o, none⟩) m c) (now + 1) last f' (ws.eraseP (isL l)) → Calls Try.prog 54 #[.pointer (some ⟨B, 0, none⟩), .agg #[.int .i64 l, .int .i64 q1, .int .i64 (q2 - 1)]] W (WPutR B (.slice (some ⟨g, o, none⟩) m c) (now + 1) (last + 1) f' (ws.eraseP (isL l) ++ [(((l : Int), q1, q2 - 1), last)]) W)) := fun W f' hW => wheel_put B l hl q1 (q2 - 1) (now + 1) last f' (ws.eraseP (isL l)) hW hfl hl0 hl1
    by_cases hq2 : 1 < q2
    · have HL : Hid (leftW ws l last = ws.eraseP (isL l) ++ [(((l : Int), q1, q2 - 1), last)] ∧ lastW ws l last = last + 1) := by
        rw [Hid, leftW, lastW, hf]; simp only; rw [if_pos hq2, if_pos hq2]; exact ⟨rfl, rfl⟩
      clear hg1 hW1 hY1 hgD hWD hYD hf hmem hpy hfl
      go_wp2_with fail
      rw [← hD1]
      clear hD1 cX c0 c1 c2
      refine Calls.mono HTK.out ?_
      rintro e w2 ⟨rfl, hg2, f2, hw2⟩
      have HG2 : Hid (w.grownBy w2 (some B)) := gtr HG1.out hg2
      have HW2 : Hid (Wheel w2 B (.slice (some ⟨g, o, none⟩) m c) (now + 1) last f2 (ws.eraseP (isL l))) := hw2
      have hY2 : Blk w2 w.heap.size 35 [.int .i64 0, .int .i64 0, .int .i64 0] := Blk.grown HY1.out hg2 hYB
      have cX2 : w2.cell? ⟨X, 0, none⟩ = some (.pointer (some ⟨B, 0, none⟩)) := (World.cell?_of_block (w := D1) (a := ⟨X, 0, none⟩) (hg2.block X hX1l (fun e => hXB (Option.some.inj e)))).trans cX1
      have hX2 := ltc cX2
      obtain ⟨E, hE⟩ : ∃ E, E = w2.alloc (.cells #[.int .i64 l, .int .i64 q1, .int .i64 q2] 35) := ⟨_, rfl⟩
      have hbE : Below w2.heap.size w2 E := by rw [hE]; exact below_one _ _
      have hZE : Blk E w2.heap.size 35 [.int .i64 l, .int .i64 q1, .int .i64 q2] := by rw [hE]; exact blk_new _ _ _
      have hYE : Blk E w.heap.size 35 [.int .i64 0, .int .i64 0, .int .i64 0] := hY2.later hbE
      have hWE : Wheel E B (.slice (some ⟨g, o, none⟩) m c) (now + 1) last f2 (ws.eraseP (isL l)) := hw2.later (hbE.block B hw2.lt)
      have HPE : Hid _ := HPU.out E f2 hWE
      have hYne : w.heap.size ≠ w2.heap.size := Nat.ne_of_lt hY2.lt
      have hBne : B ≠ w2.heap.size := Nat.ne_of_lt hw2.lt
      have hXne : X ≠ w2.heap.size := Nat.ne_of_lt hX2
      have HGE : Hid (w.grownBy E (some B)) := gtr HG2.out (gbel _ hbE)
      have HZE : Hid (Blk E w2.heap.size 35 [.int .i64 l, .int .i64 q1, .int .i64 q2]) := hZE
      have HYE : Hid (Blk E w.heap.size 35 [.int .i64 0, .int .i64 0, .int .i64 0]) := hYE
      have hYk : w.heap.size < w2.heap.size := hY2.lt
      clear hg2 hw2 hY2 hbE hZE hYE hWE HG1 HY1 HW2 HG2
      go_wp2_with fail
      rw [← hE]
      clear hE
      refine Calls.mono HPE.out ?_
      rintro e w4 ⟨rfl, hg4, hw4⟩
      have hY4 : Blk w4 w.heap.size 35 [.int .i64 0, .int .i64 0, .int .i64 0] := Blk.grown HYE.out hg4 hYB
      have hZ4 : Blk w4 w2.heap.size 35 [.int .i64 l, .int .i64 q1, .int .i64 q2] := Blk.grown HZE.out hg4 (Ne.symm hBne)
      obtain ⟨y0, y1, y2⟩ := cells3s hY4
      obtain ⟨z0, z1, z2⟩ := free3 hY4
      obtain ⟨t0, t1, t2⟩ := cells3s hZ4
      have HE : Hid (TurnR B (.slice (some ⟨g, o, none⟩) m c) now last ws l w (.returned (.tuple #[.agg #[.int .i64 l, .int .i64 q1, .int .i64 q2], .bool true])) (putW w4 w.heap.size 0 [.int .i64 l, .int .i64 q1, .int .i64 q2])) :=
        turn_end (r := ((l : Int), q1, q2)) HR.out (gtr HGE.out hg4) (Nat.le_refl _) (Ne.symm hYB) (by rw [HL.out.1, HL.out.2]; exact hw4)
      clear hg4 hw4 hY4 hZ4 HPE HGE HZE HYE HR HL
      go_wp2_with fail
      exact bodyPost_ret (v := .tuple #[.agg #[.int .i64 l, .int .i64 q1, .int .i64 q2], .bool true]) (by simp [results, Try.results71, go_sem, y0, y1, y2]) rfl HE.out
    · have HL : Hid (leftW ws l last = ws.eraseP (isL l) ∧ lastW ws l last = last) := by
        rw [Hid, leftW, lastW, hf]; simp only; rw [if_neg hq2, if_neg hq2, List.append_nil]; exact ⟨rfl, rfl⟩
      clear hg1 hW1 hY1 hgD hWD hYD hf hmem hpy hfl
      go_wp2_with fail
      rw [← hD1]
      clear hD1 cX c0 c1 c2
      refine Calls.mono HTK.out ?_
      rintro e w2 ⟨rfl, hg2, f2, hw2⟩
      have HG2 : Hid (w.grownBy w2 (some B)) := gtr HG1.out hg2
      have HW2 : Hid (Wheel w2 B (.slice (some ⟨g, o, none⟩) m c) (now + 1) last f2 (ws.eraseP (isL l))) := hw2
      have hY2 : Blk w2 w.heap.size 35 [.int .i64 0, .int .i64 0, .int .i64 0] := Blk.grown HY1.out hg2 hYB
      obtain ⟨y0, y1, y2⟩ := cells3s hY2
      obtain ⟨z0, z1, z2⟩ := free3 hY2
      have hY2l : w.heap.size ≠ w2.heap.size := Nat.ne_of_lt hY2.lt
      have hB2l : B ≠ w2.heap.size := Nat.ne_of_lt HW2.out.lt
      have hY2k : w.heap.size < w2.heap.size := hY2.lt
      have HE : Hid (TurnR B (.slice (some ⟨g, o, none⟩) m c) now last ws l w (.returned (.tuple #[.agg #[.int .i64 l, .int .i64 q1, .int .i64 q2], .bool true])) ((putW w2 w.heap.size 0 [.int .i64 l, .int .i64 q1, .int .i64 q2]).alloc (.cells #[.int .i64 l, .int .i64 q1, .int .i64 q2] 35))) :=
        (turn_end (r := ((l : Int), q1, q2)) HR.out HG2.out (Nat.le_refl _) (Ne.symm hYB) (by rw [HL.out.1, HL.out.2]; exact HW2.out)).alloc _
      obtain ⟨r0, r1, r2⟩ := put_alloc (a := .int .i64 l) (b := .int .i64 q1) (c := .int .i64 q2) hY2 (.cells #[.int .i64 l, .int .i64 q1, .int .i64 q2] 35)
      clear hg2 hw2 hY2 HG1 HY1 HG2 HW2 HR HL
      go_wp2_with fail
      exact bodyPost_ret (v := .tuple #[.agg #[.int .i64 l, .int .i64 q1, .int .i64 q2], .bool true]) (by simp [results, Try.results71, go_sem, r0, r1, r2]) rfl HE.out
end Go.Proofs.Ytnkkkdhpopfahaa.sch
