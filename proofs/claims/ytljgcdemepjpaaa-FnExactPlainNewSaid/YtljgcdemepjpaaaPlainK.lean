/-
  The answer of PlainNew is compared, marked and held, whole: a plain kernel with the root alone, or none.
-/
import Derived.Test.YtljgcdemepjpaaaPlainM
import Derived.Deep.CutRange
namespace Go.Proofs.Ytljgcdemepjpaaa.deep
open Go.RowKit Go.Deep
set_option linter.unusedVariables false
set_option maxRecDepth 100000

def n9 : List Value := [.int .i64 1, .int .i64 2, .int .i64 3, .int .i64 4, .int .i64 5, .int .i64 6, .int .i64 7, .int .i64 8, .int .i64 9]
/-- the things' row when it has been marked -/
def tmarked : List Value := [.int .i64 1, .int .i64 2, .int .i64 3, .int .i64 4, .int .i64 5, .int .i64 6, .int .i64 7, .int .i64 8, .int .i64 9, .slice none 0 0, .slice none 0 0]
theorem putL_n9 (i g : Int) : putL (tcells i g) 0 n9 = tmarked := rfl

set_option maxHeartbeats 2000000 in
theorem mark_ths0 (a : Option Addr) (c : Nat) (k : Int) (w : World) : Calls Try.prog 16 #[.slice a 0 c, .int .i64 k] w fun e w' => e = .returned (.int .i64 k) ∧ w' = w := by
  go_enter Try.func16, Try.ntmps16
  go_wp2
  go_loop [1, 5] (fun tk i => i = .int .i64 0 ∧ tk = .int .i64 k) (fun _ _ => 0)
  case atStart => exact ⟨rfl, rfl⟩
  case round =>
    obtain ⟨rfl, rfl⟩ := hrel
    go_wp2
    go_ret
    exact ⟨rfl, rfl⟩
set_option maxHeartbeats 2000000 in
theorem held_ths0 (a : Option Addr) (c : Nat) (k : Int) (w : World) : Calls Try.prog 19 #[.slice a 0 c, .int .i64 k] w fun e w' => e = .returned (.int .i64 k) ∧ w' = w := by
  go_enter Try.func19, Try.ntmps19
  go_wp2
  go_loop [1, 5] (fun tk i => i = .int .i64 0 ∧ tk = .int .i64 k) (fun _ _ => 0)
  case atStart => exact ⟨rfl, rfl⟩
  case round =>
    obtain ⟨rfl, rfl⟩ := hrel
    go_wp2
    go_ret
    exact ⟨rfl, rfl⟩
set_option maxHeartbeats 2000000 in
theorem mark_told0 (a : Option Addr) (c : Nat) (k : Int) (w : World) : Calls Try.prog 17 #[.slice a 0 c, .int .i64 k] w fun e w' => e = .returned (.int .i64 k) ∧ w' = w := by
  go_enter Try.func17, Try.ntmps17
  go_wp2
  go_loop [1, 5] (fun tk i => i = .int .i64 0 ∧ tk = .int .i64 k) (fun _ _ => 0)
  case atStart => exact ⟨rfl, rfl⟩
  case round =>
    obtain ⟨rfl, rfl⟩ := hrel
    go_wp2
    go_ret
    exact ⟨rfl, rfl⟩
set_option maxHeartbeats 2000000 in
theorem held_told0 (a : Option Addr) (c : Nat) (k : Int) (w : World) : Calls Try.prog 20 #[.slice a 0 c, .int .i64 k] w fun e w' => e = .returned (.int .i64 k) ∧ w' = w := by
  go_enter Try.func20, Try.ntmps20
  go_wp2
  go_loop [1, 5] (fun tk i => i = .int .i64 0 ∧ tk = .int .i64 k) (fun _ _ => 0)
  case atStart => exact ⟨rfl, rfl⟩
  case round =>
    obtain ⟨rfl, rfl⟩ := hrel
    go_wp2
    go_ret
    exact ⟨rfl, rfl⟩
set_option maxHeartbeats 2000000 in
theorem eq_told0 (a b : Option Addr) (c d : Nat) (w : World) : Calls Try.prog 14 #[.slice a 0 c, .slice b 0 d] w fun e w' => e = .returned (.bool true) ∧ Below w.heap.size w w' := by
  go_enter Try.func14, Try.ntmps14
  go_wp2
  go_loop [5] (fun i => i = .int .i64 0) (fun _ => 0)
  case atStart => exact rfl
  case round =>
    subst hrel
    go_wp2
    go_ret
    exact ⟨rfl, Below.refl _ _⟩
set_option maxHeartbeats 2000000 in
theorem eq_ths0 (a b : Option Addr) (c d : Nat) (w : World) : Calls Try.prog 13 #[.slice a 0 c, .slice b 0 d] w fun e w' => e = .returned (.bool true) ∧ Below w.heap.size w w' := by
  go_enter Try.func13, Try.ntmps13
  go_wp2
  go_loop [5] (fun i => i = .int .i64 0) (fun _ => 0)
  case atStart => exact rfl
  case round =>
    subst hrel
    go_wp2
    go_ret
    exact ⟨rfl, Below.refl _ _⟩

set_option maxHeartbeats 4000000 in
/-- the root is marked from 1 on -/
theorem mark_ths {w : World} {T : Nat} {i g : Int} (h : Blk w T 40 (tcells i g)) : Calls Try.prog 16 #[.slice (some ⟨T, 0, none⟩) 1 1, .int .i64 1] w fun e w' => e = .returned (.int .i64 10) ∧ w' = putW w T 0 n9 := by
  have HI : Hid (∀ k W, Calls Try.prog 24 #[.slice none 0 0, .int .i64 k] W fun e w' => e = .returned (.int .i64 k) ∧ w' = W) := fun k W => irows.mark_none none 0 k W
  have HM : Hid (∀ k W, Calls Try.prog 25 #[.slice none 0 0, .int .i64 k] W fun e w' => e = .returned (.int .i64 k) ∧ w' = W) := fun k W => mark_mps0 none 0 k W
  have H1 : Hid (Blk w T 40 (tcells i g)) := h
  obtain ⟨W9, hW9⟩ : ∃ W, W = putW w T 0 n9 := ⟨_, rfl⟩
  have HW9 : Hid (W9 = putW w T 0 n9) := hW9
  have H9 : Hid (Blk W9 T 40 tmarked) := by rw [hW9]; have := h.put n9 0; rw [putL_n9] at this; exact this
  rw [← hW9]
  clear h hW9
  go_enter Try.func16, Try.ntmps16
  go_wp2
  go_loopw [1, 5] (fun tk i wr => (i = .int .i64 0 ∧ tk = .int .i64 1 ∧ wr = w) ∨ (i = .int .i64 1 ∧ tk = .int .i64 10 ∧ wr = W9)) (fun _ i _ => 1 - (intOf i).toNat)
  case atStart => exact .inl ⟨rfl, rfl, rfl⟩
  case round =>
    rcases hrel with ⟨rfl, rfl, rfl⟩ | ⟨rfl, rfl, rfl⟩
    · have HP : Hid (∀ e w', (e = Ending.returned (.int .i64 10) ∧ w' = putW wr T 0 [.int .i64 1, .int .i64 2, .int .i64 3, .int .i64 4, .int .i64 5, .int .i64 6, .int .i64 7, .int .i64 8, .int .i64 9]) → e = .returned (.int .i64 10) ∧ w' = W9) := fun e w' h => by rw [HW9.out]; exact h
      have e0 : wr.cell? ⟨T, 0, none⟩ = some (.int .i64 0) := H1.out.cell 0
      have f0 := H1.out.free 0
      have e1 : wr.cell? ⟨T, 1, none⟩ = some (.int .i64 i) := H1.out.cell 1
      have f1 := H1.out.free 1
      have e2 : wr.cell? ⟨T, 2, none⟩ = some (.int .i64 g) := H1.out.cell 2
      have f2 := H1.out.free 2
      have e3 : wr.cell? ⟨T, 3, none⟩ = some (.int .i64 1) := H1.out.cell 3
      have f3 := H1.out.free 3
      have e4 : wr.cell? ⟨T, 4, none⟩ = some (.int .i64 0) := H1.out.cell 4
      have f4 := H1.out.free 4
      have e5 : wr.cell? ⟨T, 5, none⟩ = some (.int .i64 5) := H1.out.cell 5
      have f5 := H1.out.free 5
      have e6 : wr.cell? ⟨T, 6, none⟩ = some (.int .i64 0) := H1.out.cell 6
      have f6 := H1.out.free 6
      have e7 : wr.cell? ⟨T, 7, none⟩ = some (.int .i64 0) := H1.out.cell 7
      have f7 := H1.out.free 7
      have e8 : wr.cell? ⟨T, 8, none⟩ = some (.int .i64 0) := H1.out.cell 8
      have f8 := H1.out.free 8
      have e9 : wr.cell? ⟨T, 9, none⟩ = some (.slice none 0 0) := H1.out.cell 9
      have f9 := H1.out.free 9
      have e10 : wr.cell? ⟨T, 10, none⟩ = some (.slice none 0 0) := H1.out.cell 10
      have f10 := H1.out.free 10
      have CI : Hid (Calls Try.prog 24 #[.slice none 0 0, .int .i64 10] (putW wr T 0 [.int .i64 1, .int .i64 2, .int .i64 3, .int .i64 4, .int .i64 5, .int .i64 6, .int .i64 7, .int .i64 8, .int .i64 9]) fun e w' => e = .returned (.int .i64 10) ∧ w' = W9) := (HI.out 10 _).mono HP.out
      have y9 : W9.cell? ⟨T, 9, none⟩ = some (.slice none 0 0) := H9.out.cell 9
      have y10 : W9.cell? ⟨T, 10, none⟩ = some (.slice none 0 0) := H9.out.cell 10
      go_wp2_with fail
      refine Calls.mono CI.out ?_
      rintro e w1 ⟨rfl, rfl⟩
      clear e0 e1 e2 e3 e4 e5 e6 e7 e8 e9 e10 f0 f1 f2 f3 f4 f5 f6 f7 f8 f9 f10
      go_wp2_with fail
      refine Calls.mono (HM.out _ _) ?_
      rintro e w2 ⟨rfl, rfl⟩
      go_wp2_with fail
      go_roundw
      case rel => exact .inr ⟨rfl, rfl, trivial⟩
      case measure => simp [intOf]
    · go_wp2
      go_ret
      exact ⟨rfl, rfl⟩

set_option maxHeartbeats 4000000 in
theorem held_ths {w : World} {T : Nat} (h : Blk w T 40 tmarked) : Calls Try.prog 19 #[.slice (some ⟨T, 0, none⟩) 1 1, .int .i64 1] w fun e w' => e = .returned (.int .i64 10) ∧ w' = w := by
  have HI : Hid (∀ k W, Calls Try.prog 26 #[.slice none 0 0, .int .i64 k] W fun e w' => e = .returned (.int .i64 k) ∧ w' = W) := fun k W => irows.held_none none 0 k W
  have HM : Hid (∀ k W, Calls Try.prog 27 #[.slice none 0 0, .int .i64 k] W fun e w' => e = .returned (.int .i64 k) ∧ w' = W) := fun k W => held_mps0 none 0 k W
  have e0 : w.cell? ⟨T, 0, none⟩ = some (.int .i64 1) := h.cell 0
  have e1 : w.cell? ⟨T, 1, none⟩ = some (.int .i64 2) := h.cell 1
  have e2 : w.cell? ⟨T, 2, none⟩ = some (.int .i64 3) := h.cell 2
  have e3 : w.cell? ⟨T, 3, none⟩ = some (.int .i64 4) := h.cell 3
  have e4 : w.cell? ⟨T, 4, none⟩ = some (.int .i64 5) := h.cell 4
  have e5 : w.cell? ⟨T, 5, none⟩ = some (.int .i64 6) := h.cell 5
  have e6 : w.cell? ⟨T, 6, none⟩ = some (.int .i64 7) := h.cell 6
  have e7 : w.cell? ⟨T, 7, none⟩ = some (.int .i64 8) := h.cell 7
  have e8 : w.cell? ⟨T, 8, none⟩ = some (.int .i64 9) := h.cell 8
  have e9 : w.cell? ⟨T, 9, none⟩ = some (.slice none 0 0) := h.cell 9
  have e10 : w.cell? ⟨T, 10, none⟩ = some (.slice none 0 0) := h.cell 10
  clear h
  go_enter Try.func19, Try.ntmps19
  go_wp2
  go_loop [1, 5] (fun tk i => (i = .int .i64 0 ∧ tk = .int .i64 1) ∨ (i = .int .i64 1 ∧ tk = .int .i64 10)) (fun _ i => 1 - (intOf i).toNat)
  case atStart => exact .inl ⟨rfl, rfl⟩
  case round =>
    rcases hrel with ⟨rfl, rfl⟩ | ⟨rfl, rfl⟩
    · go_wp2_with fail
      refine Calls.mono (HI.out _ _) ?_
      rintro e w1 ⟨rfl, rfl⟩
      go_wp2_with fail
      refine Calls.mono (HM.out _ _) ?_
      rintro e w2 ⟨rfl, rfl⟩
      go_wp2_with fail
      go_round
      case rel => exact .inr ⟨rfl, rfl⟩
      case measure => simp [intOf]
    · go_wp2
      go_ret
      exact ⟨rfl, rfl⟩

theorem mks_one {w : World} {H : Nat} {a b c : Int} (h : Blk w H 32 [.int .i64 a, .int .i64 b, .int .i64 c]) : Mks w 3 (.slice (some ⟨H, 0, none⟩) 1 1) :=
  ⟨_, 1, 1, rfl, by omega, fun _ => ⟨H, 0, rfl, fun i hi => ⟨by
    rw [show 0 + i = i by omega, h.cell i]
    match i, hi with
    | 0, _ => exact ⟨_, rfl⟩
    | 1, _ => exact ⟨_, rfl⟩
    | 2, _ => exact ⟨_, rfl⟩, h.free _⟩⟩⟩
theorem held_one {w : World} {H : Nat} {k : Int} (h : Blk w H 32 [.int .i64 k, .int .i64 (k + 1), .int .i64 (k + 2)]) : HeldV w 3 (.slice (some ⟨H, 0, none⟩) 1 1) k :=
  ⟨_, 1, 1, rfl, by omega, fun _ => ⟨H, 0, rfl, fun i hi => by
    rw [show 0 + i = i by omega, h.cell i]
    match i, hi with
    | 0, _ => simp
    | 1, _ => simp
    | 2, _ => simp⟩⟩
def n3 (k : Int) : List Value := nums k 3
theorem n3_put (a b c k : Int) : putL [.int .i64 a, .int .i64 b, .int .i64 c] 0 (n3 k) = [.int .i64 k, .int .i64 (k + 1), .int .i64 (k + 2)] := by
  simp [n3, nums, List.range_succ, putL]
theorem mark_one {w : World} {H : Nat} {a b c : Int} (h : Blk w H 32 [.int .i64 a, .int .i64 b, .int .i64 c]) {k : Int} (hk0 : 0 ≤ k) (hk1 : k ≤ 1000) : Calls Try.prog 18 #[.slice (some ⟨H, 0, none⟩) 1 1, .int .i64 k] w fun e w' => e = .returned (.int .i64 (k + 3)) ∧ w' = putW w H 0 (n3 k) := by
  have := mark_hds (mks_one h) hk0 (by omega)
  exact this
theorem held_1 {w : World} {H : Nat} {k : Int} (h : Blk w H 32 [.int .i64 k, .int .i64 (k + 1), .int .i64 (k + 2)]) (hk0 : 0 ≤ k) (hk1 : k ≤ 1000) : Calls Try.prog 21 #[.slice (some ⟨H, 0, none⟩) 1 1, .int .i64 k] w fun e w' => e = .returned (.int .i64 (k + 3)) ∧ w' = w := by
  have := held_hds (held_one h) hk0 (by omega)
  exact this

def toldL (H : Nat) : List Value := nils16.set 0 (.slice (some ⟨H, 0, none⟩) 1 1)
theorem told_0 (H : Nat) : (toldL H)[0]? = some (.slice (some ⟨H, 0, none⟩) 1 1) := rfl
theorem told_n (H j : Nat) (h : j < 16) (h0 : ¬ j = 0) : (toldL H)[j]? = some (.slice none 0 0) := by
  unfold toldL
  rw [List.getElem?_set_ne (by omega)]
  unfold nils16
  rw [List.getElem?_replicate, if_pos h]
set_option maxHeartbeats 4000000 in
theorem mark_told {w : World} {L H : Nat} {a b c : Int} (hl : Blk w L 26 (toldL H)) (h : Blk w H 32 [.int .i64 a, .int .i64 b, .int .i64 c]) (hne : L ≠ H) : Calls Try.prog 17 #[.slice (some ⟨L, 0, none⟩) 16 16, .int .i64 10] w fun e w' => e = .returned (.int .i64 13) ∧ w' = putW w H 0 (n3 10) := by
  have H1 : Hid (Blk w L 26 (toldL H)) := hl
  have HI : Hid (Calls Try.prog 18 #[.slice (some ⟨H, 0, none⟩) 1 1, .int .i64 10] w fun e w' => e = .returned (.int .i64 13) ∧ w' = putW w H 0 (n3 10)) := mark_one h (by omega) (by omega)
  obtain ⟨W9, hW9⟩ : ∃ W, W = putW w H 0 (n3 10) := ⟨_, rfl⟩
  have H9 : Hid (Blk W9 L 26 (toldL H)) := by rw [hW9]; exact hl.other _ _ _ hne
  have HN : Hid (Calls Try.prog 18 #[.slice none 0 0, .int .i64 13] W9 fun e w' => e = .returned (.int .i64 13) ∧ w' = W9) := mark_hds0 none 0 13 W9
  rw [← hW9] at HI ⊢
  clear h hl hW9
  go_enter Try.func17, Try.ntmps17
  go_wp2
  go_loopw [1, 5] (fun tk i wr => (i = .int .i64 0 ∧ tk = .int .i64 10 ∧ wr = w) ∨ ∃ j : Nat, 0 < j ∧ j ≤ 16 ∧ i = .int .i64 j ∧ tk = .int .i64 13 ∧ wr = W9) (fun _ i _ => 16 - (intOf i).toNat)
  case atStart => exact .inl ⟨rfl, rfl, rfl⟩
  case round =>
    rcases hrel with ⟨rfl, rfl, rfl⟩ | ⟨j, hj0, hj, rfl, rfl, rfl⟩
    · have e0 := (H1.out.cell 0).trans (told_0 H)
      go_wp2_with fail
      refine Calls.mono HI.out ?_
      rintro e w1 ⟨rfl, rfl⟩
      go_wp2_with fail
      go_roundw
      case rel => exact .inr ⟨1, by omega, by omega, rfl, rfl, trivial⟩
      case measure => simp [intOf]
    · by_cases hlt : j < 16
      · have e0 := (H9.out.cell j).trans (told_n H j hlt (by omega))
        go_wp2_with fail
        refine Calls.mono HN.out ?_
        rintro e w1 ⟨rfl, rfl⟩
        go_wp2_with fail
        go_roundw
        case rel => exact .inr ⟨j + 1, by omega, by omega, by go_num, rfl, trivial⟩
        case measure => simp [intOf]; omega
      · go_wp2
        go_ret
        exact ⟨rfl, rfl⟩
set_option maxHeartbeats 4000000 in
theorem held_told {w : World} {L H : Nat} (hl : Blk w L 26 (toldL H)) (h : Blk w H 32 [.int .i64 10, .int .i64 (10 + 1), .int .i64 (10 + 2)]) : Calls Try.prog 20 #[.slice (some ⟨L, 0, none⟩) 16 16, .int .i64 10] w fun e w' => e = .returned (.int .i64 13) ∧ w' = w := by
  have H1 : Hid (Blk w L 26 (toldL H)) := hl
  have HI : Hid (Calls Try.prog 21 #[.slice (some ⟨H, 0, none⟩) 1 1, .int .i64 10] w fun e w' => e = .returned (.int .i64 13) ∧ w' = w) := held_1 h (by omega) (by omega)
  have HN : Hid (Calls Try.prog 21 #[.slice none 0 0, .int .i64 13] w fun e w' => e = .returned (.int .i64 13) ∧ w' = w) := held_hds0 none 0 13 w
  clear h hl
  go_enter Try.func20, Try.ntmps20
  go_wp2
  go_loop [1, 5] (fun tk i => (i = .int .i64 0 ∧ tk = .int .i64 10) ∨ ∃ j : Nat, 0 < j ∧ j ≤ 16 ∧ i = .int .i64 j ∧ tk = .int .i64 13) (fun _ i => 16 - (intOf i).toNat)
  case atStart => exact .inl ⟨rfl, rfl⟩
  case round =>
    rcases hrel with ⟨rfl, rfl⟩ | ⟨j, hj0, hj, rfl, rfl⟩
    · have e0 := (H1.out.cell 0).trans (told_0 H)
      go_wp2_with fail
      refine Calls.mono HI.out ?_
      rintro e w1 ⟨rfl, rfl⟩
      go_wp2_with fail
      go_round
      case rel => exact .inr ⟨1, by omega, by omega, rfl, rfl⟩
      case measure => simp [intOf]
    · by_cases hlt : j < 16
      · have e0 := (H1.out.cell j).trans (told_n H j hlt (by omega))
        go_wp2_with fail
        refine Calls.mono HN.out ?_
        rintro e w1 ⟨rfl, rfl⟩
        go_wp2_with fail
        go_round
        case rel => exact .inr ⟨j + 1, by omega, by omega, by go_num, rfl⟩
        case measure => simp [intOf]; omega
      · go_wp2
        go_ret
        exact ⟨rfl, rfl⟩

theorem cells3 {W : World} {B t : Nat} {x y z : Value} (h : Blk W B t [x, y, z]) : W.cell? ⟨B, 0, none⟩ = some x ∧ W.cell? ⟨B, 1, none⟩ = some y ∧ W.cell? ⟨B, 2, none⟩ = some z := ⟨h.cell 0, h.cell 1, h.cell 2⟩
theorem cells4' {W : World} {B t : Nat} {x y z u : Value} (h : Blk W B t [x, y, z, u]) : W.cell? ⟨B, 0, none⟩ = some x ∧ W.cell? ⟨B, 1, none⟩ = some y ∧ W.cell? ⟨B, 2, none⟩ = some z ∧ W.cell? ⟨B, 3, none⟩ = some u := ⟨h.cell 0, h.cell 1, h.cell 2, h.cell 3⟩
set_option maxHeartbeats 2000000 in
theorem eq_p (a1 a2 a3 b1 b2 b3 : Option Addr) (n1 n2 n3 m1 m2 m3 c1 c2 c3 d1 d2 d3 : Nat) (w : World)
    (hT : ∀ W, Below w.heap.size w W → Calls Try.prog 13 #[.slice a1 n1 c1, .slice b1 m1 d1] W fun e w' => e = .returned (.bool true) ∧ Below W.heap.size W w')
    (hL : ∀ W, Below w.heap.size w W → Calls Try.prog 14 #[.slice a2 n2 c2, .slice b2 m2 d2] W fun e w' => e = .returned (.bool true) ∧ Below W.heap.size W w')
    (hE : ∀ W, Below w.heap.size w W → Calls Try.prog 15 #[.slice a3 n3 c3, .slice b3 m3 d3] W fun e w' => e = .returned (.bool true) ∧ Below W.heap.size W w') :
    Calls Try.prog 10 #[.agg #[.slice a1 n1 c1, .slice a2 n2 c2, .slice a3 n3 c3], .agg #[.slice b1 m1 d1, .slice b2 m2 d2, .slice b3 m3 d3]] w fun e w' => e = .returned (.bool true) ∧ Below w.heap.size w w' := by
  have HT : Hid (∀ W, Below w.heap.size w W → Calls Try.prog 13 #[.slice a1 n1 c1, .slice b1 m1 d1] W fun e w' => e = .returned (.bool true) ∧ Below W.heap.size W w') := hT
  have HL : Hid (∀ W, Below w.heap.size w W → Calls Try.prog 14 #[.slice a2 n2 c2, .slice b2 m2 d2] W fun e w' => e = .returned (.bool true) ∧ Below W.heap.size W w') := hL
  have HE : Hid (∀ W, Below w.heap.size w W → Calls Try.prog 15 #[.slice a3 n3 c3, .slice b3 m3 d3] W fun e w' => e = .returned (.bool true) ∧ Below W.heap.size W w') := hE
  clear hT hL hE
  have F := blk2 w [.slice a1 n1 c1, .slice a2 n2 c2, .slice a3 n3 c3] [.slice b1 m1 d1, .slice b2 m2 d2, .slice b3 m3 d3] 28 28
  have HB0 := below2 w (.cells #[.slice a1 n1 c1, .slice a2 n2 c2, .slice a3 n3 c3] 28) (.cells #[.slice b1 m1 d1, .slice b2 m2 d2, .slice b3 m3 d3] 28)
  have HF : Hid _ := F
  have HB : Hid _ := HB0
  clear F HB0
  go_enter Try.func10, Try.ntmps10
  go_wp2_with fail
  refine Calls.mono (HT.out _ HB.out) ?_
  rintro e w1 ⟨rfl, hb1⟩
  have HX : Hid (Blk w1 w.heap.size 28 [.slice a1 n1 c1, .slice a2 n2 c2, .slice a3 n3 c3]) := HF.out.1.later hb1
  have HY : Hid (Blk w1 (w.heap.size + 1) 28 [.slice b1 m1 d1, .slice b2 m2 d2, .slice b3 m3 d3]) := HF.out.2.later hb1
  have HB1 : Hid (Below w.heap.size w w1) := below_tr HB.out hb1
  clear hb1 HF HB
  obtain ⟨x0, x1, x2⟩ := cells3 HX.out
  obtain ⟨y0, y1, y2⟩ := cells3 HY.out
  go_wp2_with fail
  refine Calls.mono (HL.out _ HB1.out) ?_
  rintro e w2 ⟨rfl, hb2⟩
  have HX2 : Hid (Blk w2 w.heap.size 28 [.slice a1 n1 c1, .slice a2 n2 c2, .slice a3 n3 c3]) := HX.out.later hb2
  have HY2 : Hid (Blk w2 (w.heap.size + 1) 28 [.slice b1 m1 d1, .slice b2 m2 d2, .slice b3 m3 d3]) := HY.out.later hb2
  have HB2 : Hid (Below w.heap.size w w2) := below_tr HB1.out hb2
  clear hb2 HX HY HB1 x0 x1 x2 y0 y1 y2
  obtain ⟨x0, x1, x2⟩ := cells3 HX2.out
  obtain ⟨y0, y1, y2⟩ := cells3 HY2.out
  go_wp2_with fail
  refine Calls.mono (HE.out _ HB2.out) ?_
  rintro e w3 ⟨rfl, hb3⟩
  have HB3 : Hid (Below w.heap.size w w3) := below_tr HB2.out hb3
  clear hb3
  go_wp2_with fail
  go_ret
  exact ⟨rfl, HB3.out⟩
set_option maxHeartbeats 2000000 in
theorem eq_po (a1 a2 a3 b1 b2 b3 : Option Addr) (n1 n2 n3 m1 m2 m3 c1 c2 c3 d1 d2 d3 : Nat) (q : Int) (w : World)
    (hT : ∀ W, Below w.heap.size w W → Calls Try.prog 13 #[.slice a1 n1 c1, .slice b1 m1 d1] W fun e w' => e = .returned (.bool true) ∧ Below W.heap.size W w')
    (hL : ∀ W, Below w.heap.size w W → Calls Try.prog 14 #[.slice a2 n2 c2, .slice b2 m2 d2] W fun e w' => e = .returned (.bool true) ∧ Below W.heap.size W w')
    (hE : ∀ W, Below w.heap.size w W → Calls Try.prog 15 #[.slice a3 n3 c3, .slice b3 m3 d3] W fun e w' => e = .returned (.bool true) ∧ Below W.heap.size W w') :
    Calls Try.prog 7 #[.agg #[.slice a1 n1 c1, .slice a2 n2 c2, .slice a3 n3 c3, .int .i64 q], .agg #[.slice b1 m1 d1, .slice b2 m2 d2, .slice b3 m3 d3, .int .i64 q]] w fun e w' => e = .returned (.bool true) ∧ Below w.heap.size w w' := by
  have HP : Hid (∀ W, Below w.heap.size w W → Calls Try.prog 10 #[.agg #[.slice a1 n1 c1, .slice a2 n2 c2, .slice a3 n3 c3], .agg #[.slice b1 m1 d1, .slice b2 m2 d2, .slice b3 m3 d3]] W fun e w' => e = .returned (.bool true) ∧ Below W.heap.size W w') := fun W hW => eq_p a1 a2 a3 b1 b2 b3 n1 n2 n3 m1 m2 m3 c1 c2 c3 d1 d2 d3 W (fun V hV => hT V (below_tr hW hV)) (fun V hV => hL V (below_tr hW hV)) (fun V hV => hE V (below_tr hW hV))
  clear hT hL hE
  have F := blk2 w [.slice a1 n1 c1, .slice a2 n2 c2, .slice a3 n3 c3, .int .i64 q] [.slice b1 m1 d1, .slice b2 m2 d2, .slice b3 m3 d3, .int .i64 q] 30 30
  have HB0 := below2 w (.cells #[.slice a1 n1 c1, .slice a2 n2 c2, .slice a3 n3 c3, .int .i64 q] 30) (.cells #[.slice b1 m1 d1, .slice b2 m2 d2, .slice b3 m3 d3, .int .i64 q] 30)
  have HF : Hid _ := F
  have HB : Hid _ := HB0
  clear F HB0
  go_enter Try.func7, Try.ntmps7
  go_wp2_with fail
  refine Calls.mono (HP.out _ HB.out) ?_
  rintro e w1 ⟨rfl, hb1⟩
  have HX : Hid (Blk w1 w.heap.size 30 [.slice a1 n1 c1, .slice a2 n2 c2, .slice a3 n3 c3, .int .i64 q]) := HF.out.1.later hb1
  have HY : Hid (Blk w1 (w.heap.size + 1) 30 [.slice b1 m1 d1, .slice b2 m2 d2, .slice b3 m3 d3, .int .i64 q]) := HF.out.2.later hb1
  have HB1 : Hid (Below w.heap.size w w1) := below_tr HB.out hb1
  clear hb1 HF HB
  obtain ⟨x0, x1, x2, x3⟩ := cells4' HX.out
  obtain ⟨y0, y1, y2, y3⟩ := cells4' HY.out
  go_wp2_with fail
  go_ret
  exact ⟨rfl, HB1.out⟩

set_option maxHeartbeats 2000000 in
/-- marked, whole: what its three rows make of it -/
theorem mark_p (a1 a2 a3 : Option Addr) (n1 n2 n3 c1 c2 c3 : Nat) (k0 k1 k2 k3 : Int) (T H E : Nat) (N1 N2 N3 : List Value) (w : World) (hTs : T < w.heap.size) (hHs : H < w.heap.size)
    (hT : ∀ W, Below w.heap.size w W → Calls Try.prog 16 #[.slice a1 n1 c1, .int .i64 k0] W fun e w' => e = .returned (.int .i64 k1) ∧ w' = putW W T 0 N1)
    (hL : ∀ W, Below w.heap.size w W → Calls Try.prog 17 #[.slice a2 n2 c2, .int .i64 k1] (putW W T 0 N1) fun e w' => e = .returned (.int .i64 k2) ∧ w' = putW (putW W T 0 N1) H 0 N2)
    (hE : ∀ W, Below w.heap.size w W → Calls Try.prog 18 #[.slice a3 n3 c3, .int .i64 k2] (putW (putW W T 0 N1) H 0 N2) fun e w' => e = .returned (.int .i64 k3) ∧ w' = putW (putW (putW W T 0 N1) H 0 N2) E 0 N3) :
    Calls Try.prog 11 #[.agg #[.slice a1 n1 c1, .slice a2 n2 c2, .slice a3 n3 c3], .int .i64 k0] w fun e w' => e = .returned (.int .i64 k3) ∧ ∃ W, Below w.heap.size w W ∧ w' = putW (putW (putW W T 0 N1) H 0 N2) E 0 N3 := by
  obtain ⟨W0, hW0⟩ : ∃ W, W = w.alloc (.cells #[.slice a1 n1 c1, .slice a2 n2 c2, .slice a3 n3 c3] 28) := ⟨_, rfl⟩
  have hb : Below w.heap.size w W0 := by rw [hW0]; exact below_one _ _
  have hx : Blk W0 w.heap.size 28 [.slice a1 n1 c1, .slice a2 n2 c2, .slice a3 n3 c3] := by rw [hW0]; exact blk_new _ _ _
  obtain ⟨W1, hW1⟩ : ∃ W, W = putW W0 T 0 N1 := ⟨_, rfl⟩
  obtain ⟨W2, hW2⟩ : ∃ W, W = putW W1 H 0 N2 := ⟨_, rfl⟩
  obtain ⟨W3, hW3⟩ : ∃ W, W = putW W2 E 0 N3 := ⟨_, rfl⟩
  have HX1 : Hid (Blk W1 w.heap.size 28 [.slice a1 n1 c1, .slice a2 n2 c2, .slice a3 n3 c3]) := by rw [hW1]; exact hx.other _ _ _ (by omega)
  have HX2 : Hid (Blk W2 w.heap.size 28 [.slice a1 n1 c1, .slice a2 n2 c2, .slice a3 n3 c3]) := by rw [hW2]; exact HX1.out.other _ _ _ (by omega)
  have HT := hT _ hb
  have HL := hL _ hb
  have HE := hE _ hb
  rw [← hW1] at HT HL HE
  rw [← hW2] at HL HE
  rw [← hW3] at HE
  rw [hW0] at HT
  have HT' : Hid _ := HT
  have HL' : Hid _ := HL
  have HE' : Hid _ := HE
  have HEND : Hid (∃ W, Below w.heap.size w W ∧ W3 = putW (putW (putW W T 0 N1) H 0 N2) E 0 N3) := ⟨W0, hb, by rw [hW3, hW2, hW1]⟩
  obtain ⟨x0, x1, x2⟩ := cells3 HX1.out
  obtain ⟨y0, y1, y2⟩ := cells3 HX2.out
  clear hT hL hE HT HL HE hW0 hW1 hW2 hW3 hb hx HX1 HX2 hTs hHs
  go_enter Try.func11, Try.ntmps11
  go_wp2_with fail
  refine Calls.mono HT'.out ?_
  rintro e w1 ⟨rfl, rfl⟩
  go_wp2_with fail
  refine Calls.mono HL'.out ?_
  rintro e w2 ⟨rfl, rfl⟩
  go_wp2_with fail
  refine Calls.mono HE'.out ?_
  rintro e w3 ⟨rfl, rfl⟩
  go_wp2_with fail
  go_ret
  exact ⟨rfl, HEND.out⟩
set_option maxHeartbeats 2000000 in
theorem mark_po (a1 a2 a3 : Option Addr) (n1 n2 n3 c1 c2 c3 : Nat) (q k0 k1 k2 k3 : Int) (T H E : Nat) (N1 N2 N3 : List Value) (w : World) (hTs : T < w.heap.size) (hHs : H < w.heap.size)
    (hT : ∀ W, Below w.heap.size w W → Calls Try.prog 16 #[.slice a1 n1 c1, .int .i64 k0] W fun e w' => e = .returned (.int .i64 k1) ∧ w' = putW W T 0 N1)
    (hL : ∀ W, Below w.heap.size w W → Calls Try.prog 17 #[.slice a2 n2 c2, .int .i64 k1] (putW W T 0 N1) fun e w' => e = .returned (.int .i64 k2) ∧ w' = putW (putW W T 0 N1) H 0 N2)
    (hE : ∀ W, Below w.heap.size w W → Calls Try.prog 18 #[.slice a3 n3 c3, .int .i64 k2] (putW (putW W T 0 N1) H 0 N2) fun e w' => e = .returned (.int .i64 k3) ∧ w' = putW (putW (putW W T 0 N1) H 0 N2) E 0 N3) :
    Calls Try.prog 8 #[.agg #[.slice a1 n1 c1, .slice a2 n2 c2, .slice a3 n3 c3, .int .i64 q], .int .i64 k0] w fun e w' => e = .returned (.int .i64 k3) ∧ ∃ W, Below w.heap.size w W ∧ w' = putW (putW (putW W T 0 N1) H 0 N2) E 0 N3 := by
  have HP : Hid (∀ W, Below w.heap.size w W → Calls Try.prog 11 #[.agg #[.slice a1 n1 c1, .slice a2 n2 c2, .slice a3 n3 c3], .int .i64 k0] W fun e w' => e = .returned (.int .i64 k3) ∧ ∃ V, Below W.heap.size W V ∧ w' = putW (putW (putW V T 0 N1) H 0 N2) E 0 N3) := fun W hW => mark_p a1 a2 a3 n1 n2 n3 c1 c2 c3 k0 k1 k2 k3 T H E N1 N2 N3 W (Nat.lt_of_lt_of_le hTs hW.size) (Nat.lt_of_lt_of_le hHs hW.size) (fun V hV => hT V (below_tr hW hV)) (fun V hV => hL V (below_tr hW hV)) (fun V hV => hE V (below_tr hW hV))
  have HB : Hid (Below w.heap.size w (w.alloc (.cells #[.slice a1 n1 c1, .slice a2 n2 c2, .slice a3 n3 c3, .int .i64 q] 30))) := below_one _ _
  clear hT hL hE hTs hHs
  go_enter Try.func8, Try.ntmps8
  go_wp2_with fail
  refine Calls.mono (HP.out _ HB.out) ?_
  rintro e w1 ⟨rfl, hb1⟩
  have HE1 : Hid (∃ V, Below w.heap.size w V ∧ w1 = putW (putW (putW V T 0 N1) H 0 N2) E 0 N3) := by
    obtain ⟨V, hV, e⟩ := hb1
    exact ⟨V, below_tr HB.out hV, e⟩
  clear hb1 HB HP
  go_wp2_with fail
  go_ret
  exact ⟨rfl, HE1.out⟩

set_option maxHeartbeats 2000000 in
theorem held_p (a1 a2 a3 : Option Addr) (n1 n2 n3 c1 c2 c3 : Nat) (k0 k1 k2 k3 : Int) (w : World)
    (hT : ∀ W, Below w.heap.size w W → Calls Try.prog 19 #[.slice a1 n1 c1, .int .i64 k0] W fun e w' => e = .returned (.int .i64 k1) ∧ w' = W)
    (hL : ∀ W, Below w.heap.size w W → Calls Try.prog 20 #[.slice a2 n2 c2, .int .i64 k1] W fun e w' => e = .returned (.int .i64 k2) ∧ w' = W)
    (hE : ∀ W, Below w.heap.size w W → Calls Try.prog 21 #[.slice a3 n3 c3, .int .i64 k2] W fun e w' => e = .returned (.int .i64 k3) ∧ w' = W) (p1 : 0 ≤ k1) (p2 : 0 ≤ k2) (p3 : 0 ≤ k3) :
    Calls Try.prog 12 #[.agg #[.slice a1 n1 c1, .slice a2 n2 c2, .slice a3 n3 c3], .int .i64 k0] w fun e w' => e = .returned (.int .i64 k3) ∧ Below w.heap.size w w' := by
  have hb : Below w.heap.size w (w.alloc (.cells #[.slice a1 n1 c1, .slice a2 n2 c2, .slice a3 n3 c3] 28)) := below_one _ _
  have HT : Hid _ := hT _ hb
  have HL : Hid _ := hL _ hb
  have HE : Hid _ := hE _ hb
  have HB : Hid _ := hb
  clear hT hL hE hb
  go_enter Try.func12, Try.ntmps12
  go_wp2_with fail
  refine Calls.mono HT.out ?_
  rintro e w1 ⟨rfl, rfl⟩
  go_wp2_with fail
  refine Calls.mono HL.out ?_
  rintro e w2 ⟨rfl, rfl⟩
  go_wp2_with fail
  refine Calls.mono HE.out ?_
  rintro e w3 ⟨rfl, rfl⟩
  go_wp2_with fail
  go_ret
  exact ⟨rfl, HB.out⟩
set_option maxHeartbeats 2000000 in
theorem held_po (a1 a2 a3 : Option Addr) (n1 n2 n3 c1 c2 c3 : Nat) (q k0 k1 k2 k3 : Int) (w : World)
    (hT : ∀ W, Below w.heap.size w W → Calls Try.prog 19 #[.slice a1 n1 c1, .int .i64 k0] W fun e w' => e = .returned (.int .i64 k1) ∧ w' = W)
    (hL : ∀ W, Below w.heap.size w W → Calls Try.prog 20 #[.slice a2 n2 c2, .int .i64 k1] W fun e w' => e = .returned (.int .i64 k2) ∧ w' = W)
    (hE : ∀ W, Below w.heap.size w W → Calls Try.prog 21 #[.slice a3 n3 c3, .int .i64 k2] W fun e w' => e = .returned (.int .i64 k3) ∧ w' = W) (p1 : 0 ≤ k1) (p2 : 0 ≤ k2) (p3 : 0 ≤ k3) :
    Calls Try.prog 9 #[.agg #[.slice a1 n1 c1, .slice a2 n2 c2, .slice a3 n3 c3, .int .i64 q], .int .i64 k0] w fun e w' => e = .returned (.int .i64 k3) ∧ Below w.heap.size w w' := by
  have HP : Hid (∀ W, Below w.heap.size w W → Calls Try.prog 12 #[.agg #[.slice a1 n1 c1, .slice a2 n2 c2, .slice a3 n3 c3], .int .i64 k0] W fun e w' => e = .returned (.int .i64 k3) ∧ Below W.heap.size W w') := fun W hW => held_p a1 a2 a3 n1 n2 n3 c1 c2 c3 k0 k1 k2 k3 W (fun V hV => hT V (below_tr hW hV)) (fun V hV => hL V (below_tr hW hV)) (fun V hV => hE V (below_tr hW hV)) p1 p2 p3
  have HB : Hid (Below w.heap.size w (w.alloc (.cells #[.slice a1 n1 c1, .slice a2 n2 c2, .slice a3 n3 c3, .int .i64 q] 30))) := below_one _ _
  clear hT hL hE
  go_enter Try.func9, Try.ntmps9
  go_wp2_with fail
  refine Calls.mono (HP.out _ HB.out) ?_
  rintro e w1 ⟨rfl, hb1⟩
  have HB1 : Hid (Below w.heap.size w w1) := below_tr HB.out hb1
  clear hb1
  go_wp2_with fail
  go_ret
  exact ⟨rfl, HB1.out⟩
end Go.Proofs.Ytljgcdemepjpaaa.deep
