/-
  Arenas that were handed in, opened.
-/
import Derived.Test.YtohgafblffnekaaDeepOpen
import Derived.Test.YtohgafblffnekaaArena
namespace Go.Proofs.Ytohgafblffnekaa.deep
open Go.RowKit Go.Deep
set_option linter.unusedVariables false

theorem len2 {l : List Value} (h : l.length = 2) : ∃ v0 v1, l = [v0, v1] := by
  match l, h with
  | [v0, v1], _ => exact ⟨v0, v1, rfl⟩
theorem len3 {l : List Value} (h : l.length = 3) : ∃ v0 v1 v2, l = [v0, v1, v2] := by
  match l, h with
  | [v0, v1, v2], _ => exact ⟨v0, v1, v2, rfl⟩
theorem len4 {l : List Value} (h : l.length = 4) : ∃ v0 v1 v2 v3, l = [v0, v1, v2, v3] := by
  match l, h with
  | [v0, v1, v2, v3], _ => exact ⟨v0, v1, v2, v3, rfl⟩
theorem len5 {l : List Value} (h : l.length = 5) : ∃ v0 v1 v2 v3 v4, l = [v0, v1, v2, v3, v4] := by
  match l, h with
  | [v0, v1, v2, v3, v4], _ => exact ⟨v0, v1, v2, v3, v4, rfl⟩
theorem len6 {l : List Value} (h : l.length = 6) : ∃ v0 v1 v2 v3 v4 v5, l = [v0, v1, v2, v3, v4, v5] := by
  match l, h with
  | [v0, v1, v2, v3, v4, v5], _ => exact ⟨v0, v1, v2, v3, v4, v5, rfl⟩
theorem len12 {l : List Value} (h : l.length = 12) : ∃ v0 v1 v2 v3 v4 v5 v6 v7 v8 v9 v10 v11, l = [v0, v1, v2, v3, v4, v5, v6, v7, v8, v9, v10, v11] := by
  match l, h with
  | [v0, v1, v2, v3, v4, v5, v6, v7, v8, v9, v10, v11], _ => exact ⟨v0, v1, v2, v3, v4, v5, v6, v7, v8, v9, v10, v11, rfl⟩
theorem len15 {l : List Value} (h : l.length = 15) : ∃ v0 v1 v2 v3 v4 v5 v6 v7 v8 v9 v10 v11 v12 v13 v14, l = [v0, v1, v2, v3, v4, v5, v6, v7, v8, v9, v10, v11, v12, v13, v14] := by
  match l, h with
  | [v0, v1, v2, v3, v4, v5, v6, v7, v8, v9, v10, v11, v12, v13, v14], _ => exact ⟨v0, v1, v2, v3, v4, v5, v6, v7, v8, v9, v10, v11, v12, v13, v14, rfl⟩
theorem cells64 : Try.prog.cellsOf 2 = 1 := by kernel_rfl
theorem cells_bk : Try.prog.cellsOf 209 = 2 := by kernel_rfl
set_option maxRecDepth 100000 in
theorem open_bk {H : Type} {enc : TypeId × Value → H} {W : World} (m : Nat) (cs : List Value) (z : DataW H × List MemPlace) (hl : cs.length = 2) (h : DataW.trod enc Try.prog W 0 (fun _ => true) true m 209 cs = some z) : ∃ x, Plain cbk 0 W cs x := by
  obtain ⟨_, q, hf⟩ := open_struct Try.underlying209 h
  obtain ⟨v0, v1, rfl⟩ := len2 hl
  obtain ⟨z0, g0⟩ := hf 0 _ rfl
  obtain ⟨a0, e0, _, _⟩ := DataW.trod_int Try.underlying2 g0
  have e0' : List.take 1 (List.drop 0 [v0, v1]) = [.int .i64 a0] := by rw [← cells64]; exact e0
  obtain ⟨z1, g1⟩ := hf 1 _ rfl
  obtain ⟨a1, e1, _, _⟩ := DataW.trod_int Try.underlying2 g1
  have e1' : List.take 1 (List.drop 1 [v0, v1]) = [.int .i64 a1] := by rw [← cells64]; exact e1
  simp at e0'
  simp at e1'
  subst e0'
  subst e1'
  exact ⟨(a0, a1), rfl⟩
theorem cells_hd : Try.prog.cellsOf 28 = 3 := by kernel_rfl
set_option maxRecDepth 100000 in
theorem open_hd {H : Type} {enc : TypeId × Value → H} {W : World} (m : Nat) (cs : List Value) (z : DataW H × List MemPlace) (hl : cs.length = 3) (h : DataW.trod enc Try.prog W 0 (fun _ => true) true m 28 cs = some z) : ∃ x, Plain chd 0 W cs x := by
  obtain ⟨_, q, hf⟩ := open_struct Try.underlying28 h
  obtain ⟨v0, v1, v2, rfl⟩ := len3 hl
  obtain ⟨z0, g0⟩ := hf 0 _ rfl
  obtain ⟨a0, e0, _, _⟩ := DataW.trod_int Try.underlying2 g0
  have e0' : List.take 1 (List.drop 0 [v0, v1, v2]) = [.int .i64 a0] := by rw [← cells64]; exact e0
  obtain ⟨z1, g1⟩ := hf 1 _ rfl
  obtain ⟨a1, e1, _, _⟩ := DataW.trod_int Try.underlying2 g1
  have e1' : List.take 1 (List.drop 1 [v0, v1, v2]) = [.int .i64 a1] := by rw [← cells64]; exact e1
  obtain ⟨z2, g2⟩ := hf 2 _ rfl
  obtain ⟨a2, e2, _, _⟩ := DataW.trod_int Try.underlying2 g2
  have e2' : List.take 1 (List.drop 2 [v0, v1, v2]) = [.int .i64 a2] := by rw [← cells64]; exact e2
  simp at e0'
  simp at e1'
  simp at e2'
  subst e0'
  subst e1'
  subst e2'
  exact ⟨(a0, a1, a2), rfl⟩
theorem cells_mp : Try.prog.cellsOf 196 = 5 := by kernel_rfl
set_option maxRecDepth 100000 in
theorem open_mp {H : Type} {enc : TypeId × Value → H} {W : World} (m : Nat) (cs : List Value) (z : DataW H × List MemPlace) (hl : cs.length = 5) (h : DataW.trod enc Try.prog W 0 (fun _ => true) true m 196 cs = some z) : ∃ x, Plain cmp 0 W cs x := by
  obtain ⟨_, q, hf⟩ := open_struct Try.underlying196 h
  obtain ⟨v0, v1, v2, v3, v4, rfl⟩ := len5 hl
  obtain ⟨z0, g0⟩ := hf 0 _ rfl
  obtain ⟨a0, e0, _, _⟩ := DataW.trod_int Try.underlying2 g0
  have e0' : List.take 1 (List.drop 0 [v0, v1, v2, v3, v4]) = [.int .i64 a0] := by rw [← cells64]; exact e0
  obtain ⟨z1, g1⟩ := hf 1 _ rfl
  have g1' : DataW.trod enc Try.prog W 0 (fun _ => true) true q 28 (List.take 3 (List.drop 1 [v0, v1, v2, v3, v4])) = some z1 := by rw [← cells_hd]; exact g1
  obtain ⟨x1, e1⟩ := open_hd (H := H) _ _ _ rfl g1'
  obtain ⟨z2, g2⟩ := hf 2 _ rfl
  obtain ⟨a4, e2, _, _⟩ := DataW.trod_int Try.underlying2 g2
  have e2' : List.take 1 (List.drop 4 [v0, v1, v2, v3, v4]) = [.int .i64 a4] := by rw [← cells64]; exact e2
  simp at e0'
  simp [Plain, chd] at e1
  simp at e2'
  obtain ⟨y1a, y1b, y1c⟩ := e1
  subst e0'
  subst y1a y1b y1c
  subst e2'
  exact ⟨(a0, x1, a4), rfl⟩
theorem cells_fs : Try.prog.cellsOf 199 = 6 := by kernel_rfl
set_option maxRecDepth 100000 in
theorem open_fs {H : Type} {enc : TypeId × Value → H} {W : World} (m : Nat) (cs : List Value) (z : DataW H × List MemPlace) (hl : cs.length = 6) (h : DataW.trod enc Try.prog W 0 (fun _ => true) true m 199 cs = some z) : ∃ x, Plain cfs 0 W cs x := by
  obtain ⟨_, q, hf⟩ := open_struct Try.underlying199 h
  obtain ⟨v0, v1, v2, v3, v4, v5, rfl⟩ := len6 hl
  obtain ⟨z0, g0⟩ := hf 0 _ rfl
  obtain ⟨a0, e0, _, _⟩ := DataW.trod_int Try.underlying2 g0
  have e0' : List.take 1 (List.drop 0 [v0, v1, v2, v3, v4, v5]) = [.int .i64 a0] := by rw [← cells64]; exact e0
  obtain ⟨z1, g1⟩ := hf 1 _ rfl
  have g1' : DataW.trod enc Try.prog W 0 (fun _ => true) true q 28 (List.take 3 (List.drop 1 [v0, v1, v2, v3, v4, v5])) = some z1 := by rw [← cells_hd]; exact g1
  obtain ⟨x1, e1⟩ := open_hd (H := H) _ _ _ rfl g1'
  obtain ⟨z2, g2⟩ := hf 2 _ rfl
  obtain ⟨a4, e2, _, _⟩ := DataW.trod_int Try.underlying2 g2
  have e2' : List.take 1 (List.drop 4 [v0, v1, v2, v3, v4, v5]) = [.int .i64 a4] := by rw [← cells64]; exact e2
  obtain ⟨z3, g3⟩ := hf 3 _ rfl
  obtain ⟨a5, e3, _, _⟩ := DataW.trod_int Try.underlying2 g3
  have e3' : List.take 1 (List.drop 5 [v0, v1, v2, v3, v4, v5]) = [.int .i64 a5] := by rw [← cells64]; exact e3
  simp at e0'
  simp [Plain, chd] at e1
  simp at e2'
  simp at e3'
  obtain ⟨y1a, y1b, y1c⟩ := e1
  subst e0'
  subst y1a y1b y1c
  subst e2'
  subst e3'
  exact ⟨(a0, x1, a4, a5), rfl⟩
-- THINGS
theorem cells_bd : Try.prog.cellsOf 117 = 2 := by kernel_rfl
theorem cells_sb : Try.prog.cellsOf 115 = 1 := by kernel_rfl
theorem cells_sh : Try.prog.cellsOf 118 = 1 := by kernel_rfl
theorem cells_sm : Try.prog.cellsOf 119 = 1 := by kernel_rfl
theorem cells_sf : Try.prog.cellsOf 120 = 1 := by kernel_rfl
theorem cells_ss : Try.prog.cellsOf 24 = 1 := by kernel_rfl
theorem cells_ob : Try.prog.cellsOf 122 = 12 := by kernel_rfl
theorem cells_sl : Try.prog.cellsOf 124 = 15 := by kernel_rfl
theorem cells_st : Try.prog.cellsOf 23 = 2 := by kernel_rfl
theorem cells_bo : Try.prog.cellsOf 4 = 1 := by kernel_rfl
set_option maxRecDepth 100000 in
theorem open_bd {H : Type} {enc : TypeId × Value → H} {W : World} (m : Nat) (cs : List Value) (z : DataW H × List MemPlace) (hl : cs.length = 2) (h : DataW.trod enc Try.prog W 0 (fun _ => true) true m 117 cs = some z) : ∃ a v xs, cs = [.int .i64 a, v] ∧ RowE (Plain cbk) 2 0 W v xs := by
  obtain ⟨_, q, hf⟩ := open_struct Try.underlying117 h
  obtain ⟨v0, v1, rfl⟩ := len2 hl
  obtain ⟨z0, g0⟩ := hf 0 _ rfl
  obtain ⟨z1, g1⟩ := hf 1 _ rfl
  have g0' : DataW.trod enc Try.prog W 0 (fun _ => true) true q 2 (List.take 1 (List.drop 0 [v0, v1])) = some z0 := by rw [← cells64]; exact g0
  have g1' : DataW.trod enc Try.prog W 0 (fun _ => true) true q 115 (List.take 1 (List.drop 1 [v0, v1])) = some z1 := by rw [← cells_sb]; exact g1
  obtain ⟨a0, e0, _, _⟩ := DataW.trod_int Try.underlying2 g0'
  obtain ⟨xs, hx⟩ := open_row Try.underlying115 cells_bk (by decide) (fun m cs z => open_bk m cs z) g1'
  simp at e0
  subst e0
  exact ⟨_, _, _, rfl, hx⟩
set_option maxRecDepth 100000 in
theorem open_ob {H : Type} {enc : TypeId × Value → H} {W : World} (m : Nat) (cs : List Value) (z : DataW H × List MemPlace) (hl : cs.length = 12) (h : DataW.trod enc Try.prog W 0 (fun _ => true) true m 122 cs = some z) : ∃ x, ObjE 0 W cs x := by
  obtain ⟨_, q, hf⟩ := open_struct Try.underlying122 h
  obtain ⟨v0, v1, v2, v3, v4, v5, v6, v7, v8, v9, v10, v11, rfl⟩ := len12 hl
  obtain ⟨z0, g0⟩ := hf 0 _ rfl
  obtain ⟨z1, g1⟩ := hf 1 _ rfl
  obtain ⟨z2, g2⟩ := hf 2 _ rfl
  obtain ⟨z3, g3⟩ := hf 3 _ rfl
  obtain ⟨z4, g4⟩ := hf 4 _ rfl
  obtain ⟨z5, g5⟩ := hf 5 _ rfl
  obtain ⟨z6, g6⟩ := hf 6 _ rfl
  obtain ⟨z7, g7⟩ := hf 7 _ rfl
  obtain ⟨z8, g8⟩ := hf 8 _ rfl
  have g0' : DataW.trod enc Try.prog W 0 (fun _ => true) true q 2 (List.take 1 (List.drop 0 [v0, v1, v2, v3, v4, v5, v6, v7, v8, v9, v10, v11])) = some z0 := by rw [← cells64]; exact g0
  have g1' : DataW.trod enc Try.prog W 0 (fun _ => true) true q 2 (List.take 1 (List.drop 1 [v0, v1, v2, v3, v4, v5, v6, v7, v8, v9, v10, v11])) = some z1 := by rw [← cells64]; exact g1
  have g2' : DataW.trod enc Try.prog W 0 (fun _ => true) true q 2 (List.take 1 (List.drop 2 [v0, v1, v2, v3, v4, v5, v6, v7, v8, v9, v10, v11])) = some z2 := by rw [← cells64]; exact g2
  have g3' : DataW.trod enc Try.prog W 0 (fun _ => true) true q 2 (List.take 1 (List.drop 3 [v0, v1, v2, v3, v4, v5, v6, v7, v8, v9, v10, v11])) = some z3 := by rw [← cells64]; exact g3
  have g4' : DataW.trod enc Try.prog W 0 (fun _ => true) true q 28 (List.take 3 (List.drop 4 [v0, v1, v2, v3, v4, v5, v6, v7, v8, v9, v10, v11])) = some z4 := by rw [← cells_hd]; exact g4
  have g5' : DataW.trod enc Try.prog W 0 (fun _ => true) true q 117 (List.take 2 (List.drop 7 [v0, v1, v2, v3, v4, v5, v6, v7, v8, v9, v10, v11])) = some z5 := by rw [← cells_bd]; exact g5
  have g6' : DataW.trod enc Try.prog W 0 (fun _ => true) true q 118 (List.take 1 (List.drop 9 [v0, v1, v2, v3, v4, v5, v6, v7, v8, v9, v10, v11])) = some z6 := by rw [← cells_sh]; exact g6
  have g7' : DataW.trod enc Try.prog W 0 (fun _ => true) true q 119 (List.take 1 (List.drop 10 [v0, v1, v2, v3, v4, v5, v6, v7, v8, v9, v10, v11])) = some z7 := by rw [← cells_sm]; exact g7
  have g8' : DataW.trod enc Try.prog W 0 (fun _ => true) true q 120 (List.take 1 (List.drop 11 [v0, v1, v2, v3, v4, v5, v6, v7, v8, v9, v10, v11])) = some z8 := by rw [← cells_sf]; exact g8
  obtain ⟨a0, e0, _, _⟩ := DataW.trod_int Try.underlying2 g0'
  obtain ⟨a1, e1, _, _⟩ := DataW.trod_int Try.underlying2 g1'
  obtain ⟨a2, e2, _, _⟩ := DataW.trod_int Try.underlying2 g2'
  obtain ⟨a3, e3, _, _⟩ := DataW.trod_int Try.underlying2 g3'
  obtain ⟨hu, e4⟩ := open_hd (H := H) _ _ _ rfl g4'
  obtain ⟨rm, vf, fr, e5, hfr⟩ := open_bd (H := H) _ _ _ rfl g5'
  obtain ⟨ks, hks⟩ := open_row Try.underlying118 cells_hd (by decide) (fun m cs z => open_hd m cs z) g6'
  obtain ⟨ms, hms⟩ := open_row Try.underlying119 cells_mp (by decide) (fun m cs z => open_mp m cs z) g7'
  obtain ⟨ss, hss⟩ := open_row Try.underlying120 cells_fs (by decide) (fun m cs z => open_fs m cs z) g8'
  simp at e0 e1 e2 e3 e5
  simp [Plain, chd] at e4
  obtain ⟨y1, y2, y3⟩ := e4
  obtain ⟨y4, y5⟩ := e5
  subst e0 e1 e2 e3 y1 y2 y3 y4 y5
  exact ⟨⟨a0, a1, a2, a3, hu, rm, fr, ks, ms, ss⟩, _, _, _, _, rfl, ⟨hfr, hks, hms, hss⟩⟩
set_option maxRecDepth 100000 in
theorem open_sl {H : Type} {enc : TypeId × Value → H} {W : World} (m : Nat) (cs : List Value) (z : DataW H × List MemPlace) (hl : cs.length = 15) (h : DataW.trod enc Try.prog W 0 (fun _ => true) true m 124 cs = some z) : ∃ x, SlotE 0 W cs x := by
  obtain ⟨_, q, hf⟩ := open_struct Try.underlying124 h
  obtain ⟨v0, v1, v2, v3, v4, v5, v6, v7, v8, v9, v10, v11, v12, v13, v14, rfl⟩ := len15 hl
  obtain ⟨z0, g0⟩ := hf 0 _ rfl
  obtain ⟨z1, g1⟩ := hf 1 _ rfl
  obtain ⟨z2, g2⟩ := hf 2 _ rfl
  obtain ⟨z3, g3⟩ := hf 3 _ rfl
  have g0' : DataW.trod enc Try.prog W 0 (fun _ => true) true q 2 (List.take 1 (List.drop 0 [v0, v1, v2, v3, v4, v5, v6, v7, v8, v9, v10, v11, v12, v13, v14])) = some z0 := by rw [← cells64]; exact g0
  have g1' : DataW.trod enc Try.prog W 0 (fun _ => true) true q 4 (List.take 1 (List.drop 1 [v0, v1, v2, v3, v4, v5, v6, v7, v8, v9, v10, v11, v12, v13, v14])) = some z1 := by rw [← cells_bo]; exact g1
  have g2' : DataW.trod enc Try.prog W 0 (fun _ => true) true q 2 (List.take 1 (List.drop 2 [v0, v1, v2, v3, v4, v5, v6, v7, v8, v9, v10, v11, v12, v13, v14])) = some z2 := by rw [← cells64]; exact g2
  have g3' : DataW.trod enc Try.prog W 0 (fun _ => true) true q 122 (List.take 12 (List.drop 3 [v0, v1, v2, v3, v4, v5, v6, v7, v8, v9, v10, v11, v12, v13, v14])) = some z3 := by rw [← cells_ob]; exact g3
  obtain ⟨a0, e0, _, _⟩ := DataW.trod_int Try.underlying2 g0'
  obtain ⟨b1, e1, _⟩ := DataW.trod_bool Try.underlying4 g1'
  obtain ⟨a2, e2, _, _⟩ := DataW.trod_int Try.underlying2 g2'
  obtain ⟨o, vf, vk, vm, vs, e3, hl3⟩ := open_ob (H := H) _ _ _ rfl g3'
  simp at e0 e1 e2
  subst e0 e1 e2
  refine ⟨⟨a0, b1, a2, o⟩, vf, vk, vm, vs, ?_, hl3⟩
  rw [scells, ← e3]; rfl
set_option maxRecDepth 100000 in
theorem open_ar {H : Type} {enc : TypeId × Value → H} {W : World} (m : Nat) (cs : List Value) (z : DataW H × List MemPlace) (hl : cs.length = 4) (h : DataW.trod enc Try.prog W 0 (fun _ => true) true m 26 cs = some z) : ∃ x, ArenaE 0 W cs x := by
  obtain ⟨_, q, hf⟩ := open_struct Try.underlying26 h
  obtain ⟨v0, v1, v2, v3, rfl⟩ := len4 hl
  obtain ⟨z0, g0⟩ := hf 0 _ rfl
  obtain ⟨z1, g1⟩ := hf 1 _ rfl
  obtain ⟨z2, g2⟩ := hf 2 _ rfl
  have g0' : DataW.trod enc Try.prog W 0 (fun _ => true) true q 2 (List.take 1 (List.drop 0 [v0, v1, v2, v3])) = some z0 := by rw [← cells64]; exact g0
  have g1' : DataW.trod enc Try.prog W 0 (fun _ => true) true q 23 (List.take 2 (List.drop 1 [v0, v1, v2, v3])) = some z1 := by rw [← cells_st]; exact g1
  have g2' : DataW.trod enc Try.prog W 0 (fun _ => true) true q 24 (List.take 1 (List.drop 3 [v0, v1, v2, v3])) = some z2 := by rw [← cells_ss]; exact g2
  obtain ⟨a0, e0, _, _⟩ := DataW.trod_int Try.underlying2 g0'
  obtain ⟨_, r, hr⟩ := open_struct Try.underlying23 g1'
  obtain ⟨s0, k0⟩ := hr 0 _ rfl
  obtain ⟨s1, k1⟩ := hr 1 _ rfl
  have k0' : DataW.trod enc Try.prog W 0 (fun _ => true) true r 2 (List.take 1 (List.drop 0 [v1, v2])) = some s0 := by rw [← cells64]; exact k0
  have k1' : DataW.trod enc Try.prog W 0 (fun _ => true) true r 2 (List.take 1 (List.drop 1 [v1, v2])) = some s1 := by rw [← cells64]; exact k1
  obtain ⟨a1, e1, _, _⟩ := DataW.trod_int Try.underlying2 k0'
  obtain ⟨a2, e2, _, _⟩ := DataW.trod_int Try.underlying2 k1'
  obtain ⟨xs, hx⟩ := open_row Try.underlying24 cells_sl (by decide) (fun m cs z => open_sl m cs z) g2'
  simp at e0 e1 e2
  subst e0 e1 e2
  exact ⟨⟨a0, a1, a2, xs⟩, _, rfl, hx⟩
end Go.Proofs.Ytohgafblffnekaa.deep
