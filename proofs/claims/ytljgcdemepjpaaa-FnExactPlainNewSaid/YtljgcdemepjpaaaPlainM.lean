/-
  The answer of PlainNew (a plain kernel with the root alone) is compared, marked and held. No condition but where its blocks lie.
-/
import Derived.Test.YtljgcdemepjpaaaPlainN
import Derived.Test.YtljgcdemepjpaaaRowHandle
import Derived.Test.YtljgcdemepjpaaaMarkHandle
import Derived.Test.YtljgcdemepjpaaaMarkMap
import Derived.Test.YtljgcdemepjpaaaIntRows
namespace Go.Proofs.Ytljgcdemepjpaaa.deep
open Go.RowKit Go.Deep Go.Sort
set_option linter.unusedVariables false
set_option maxRecDepth 100000

set_option maxHeartbeats 1000000 in
theorem eq_mpsE (a b : Option Addr) (c d : Nat) (w : World) :
    Calls Try.prog 29 #[.slice a 0 c, .slice b 0 d] w fun e w' => e = .returned (.bool true) ∧ Below w.heap.size w w' := by
  go_enter Try.func29, Try.ntmps29
  go_wp2
  go_loop [5] (fun i => i = .int .i64 0) (fun _ => 0)
  case atStart => exact rfl
  case round =>
    subst hrel
    go_wp2
    go_ret
    exact ⟨rfl, Below.refl _ _⟩

/-- two things alike, with nothing in them -/
theorem eq_th (i g : Int) (w : World) : Calls Try.prog 22 #[.agg #[.int .i64 0, .int .i64 i, .int .i64 g, .int .i64 1, .int .i64 0, .int .i64 5, .int .i64 0, .int .i64 0, .int .i64 0, .slice none 0 0, .slice none 0 0], .agg #[.int .i64 0, .int .i64 i, .int .i64 g, .int .i64 1, .int .i64 0, .int .i64 5, .int .i64 0, .int .i64 0, .int .i64 0, .slice none 0 0, .slice none 0 0]] w fun e w' => e = .returned (.bool true) ∧ Below w.heap.size w w' := by
  have HA : Hid (∀ (p0 p1 p2 : Int) W, Calls Try.prog 23 #[.agg #[.int .i64 p0, .int .i64 p1, .int .i64 p2], .agg #[.int .i64 p0, .int .i64 p1, .int .i64 p2]] W fun e w' => e = .returned (.bool true) ∧ Below W.heap.size W w') := fun p0 p1 p2 W => (eq_hd p0 p1 p2 W).mono fun e w' h => ⟨h.1, by rw [h.2]; exact below2 _ _ _⟩
  have HI : Hid (∀ W, Calls Try.prog 28 #[.slice none 0 0, .slice none 0 0] W fun e w' => e = .returned (.bool true) ∧ Below W.heap.size W w') := fun W => irows.eq_none none none 0 0 W
  have HM : Hid (∀ W, Calls Try.prog 29 #[.slice none 0 0, .slice none 0 0] W fun e w' => e = .returned (.bool true) ∧ Below W.heap.size W w') := fun W => eq_mpsE none none 0 0 W
  go_enter Try.func22, Try.ntmps22
  go_wp2_with fail
  refine Calls.mono (HA.out _ _ _ _) ?_
  rintro e w1 ⟨rfl, hb1⟩
  have F := blk2 w [.int .i64 0, .int .i64 i, .int .i64 g, .int .i64 1, .int .i64 0, .int .i64 5, .int .i64 0, .int .i64 0, .int .i64 0, .slice none 0 0, .slice none 0 0] [.int .i64 0, .int .i64 i, .int .i64 g, .int .i64 1, .int .i64 0, .int .i64 5, .int .i64 0, .int .i64 0, .int .i64 0, .slice none 0 0, .slice none 0 0] 40 40
  have HX1 : Hid (Blk w1 w.heap.size 40 [.int .i64 0, .int .i64 i, .int .i64 g, .int .i64 1, .int .i64 0, .int .i64 5, .int .i64 0, .int .i64 0, .int .i64 0, .slice none 0 0, .slice none 0 0]) := F.1.later hb1
  have HY1 : Hid (Blk w1 (w.heap.size + 1) 40 [.int .i64 0, .int .i64 i, .int .i64 g, .int .i64 1, .int .i64 0, .int .i64 5, .int .i64 0, .int .i64 0, .int .i64 0, .slice none 0 0, .slice none 0 0]) := F.2.later hb1
  have HB1 : Hid (Below w.heap.size w w1) := below_tr (below2 w _ _) hb1
  clear hb1 F
  have c0 : w1.cell? ⟨w.heap.size, 0, none⟩ = some (.int .i64 0) := HX1.out.cell 0
  have c1 : w1.cell? ⟨w.heap.size, 1, none⟩ = some (.int .i64 i) := HX1.out.cell 1
  have c2 : w1.cell? ⟨w.heap.size, 2, none⟩ = some (.int .i64 g) := HX1.out.cell 2
  have c3 : w1.cell? ⟨w.heap.size, 3, none⟩ = some (.int .i64 1) := HX1.out.cell 3
  have c4 : w1.cell? ⟨w.heap.size, 4, none⟩ = some (.int .i64 0) := HX1.out.cell 4
  have c5 : w1.cell? ⟨w.heap.size, 5, none⟩ = some (.int .i64 5) := HX1.out.cell 5
  have c6 : w1.cell? ⟨w.heap.size, 6, none⟩ = some (.int .i64 0) := HX1.out.cell 6
  have c7 : w1.cell? ⟨w.heap.size, 7, none⟩ = some (.int .i64 0) := HX1.out.cell 7
  have c8 : w1.cell? ⟨w.heap.size, 8, none⟩ = some (.int .i64 0) := HX1.out.cell 8
  have c9 : w1.cell? ⟨w.heap.size, 9, none⟩ = some (.slice none 0 0) := HX1.out.cell 9
  have c10 : w1.cell? ⟨w.heap.size, 10, none⟩ = some (.slice none 0 0) := HX1.out.cell 10
  have d0 : w1.cell? ⟨w.heap.size + 1, 0, none⟩ = some (.int .i64 0) := HY1.out.cell 0
  have d1 : w1.cell? ⟨w.heap.size + 1, 1, none⟩ = some (.int .i64 i) := HY1.out.cell 1
  have d2 : w1.cell? ⟨w.heap.size + 1, 2, none⟩ = some (.int .i64 g) := HY1.out.cell 2
  have d3 : w1.cell? ⟨w.heap.size + 1, 3, none⟩ = some (.int .i64 1) := HY1.out.cell 3
  have d4 : w1.cell? ⟨w.heap.size + 1, 4, none⟩ = some (.int .i64 0) := HY1.out.cell 4
  have d5 : w1.cell? ⟨w.heap.size + 1, 5, none⟩ = some (.int .i64 5) := HY1.out.cell 5
  have d6 : w1.cell? ⟨w.heap.size + 1, 6, none⟩ = some (.int .i64 0) := HY1.out.cell 6
  have d7 : w1.cell? ⟨w.heap.size + 1, 7, none⟩ = some (.int .i64 0) := HY1.out.cell 7
  have d8 : w1.cell? ⟨w.heap.size + 1, 8, none⟩ = some (.int .i64 0) := HY1.out.cell 8
  have d9 : w1.cell? ⟨w.heap.size + 1, 9, none⟩ = some (.slice none 0 0) := HY1.out.cell 9
  have d10 : w1.cell? ⟨w.heap.size + 1, 10, none⟩ = some (.slice none 0 0) := HY1.out.cell 10
  go_wp2_with fail
  refine Calls.mono (HA.out _ _ _ _) ?_
  rintro e w2 ⟨rfl, hb2⟩
  have HX2 : Hid (Blk w2 w.heap.size 40 [.int .i64 0, .int .i64 i, .int .i64 g, .int .i64 1, .int .i64 0, .int .i64 5, .int .i64 0, .int .i64 0, .int .i64 0, .slice none 0 0, .slice none 0 0]) := HX1.out.later hb2
  have HY2 : Hid (Blk w2 (w.heap.size + 1) 40 [.int .i64 0, .int .i64 i, .int .i64 g, .int .i64 1, .int .i64 0, .int .i64 5, .int .i64 0, .int .i64 0, .int .i64 0, .slice none 0 0, .slice none 0 0]) := HY1.out.later hb2
  have HB2 : Hid (Below w.heap.size w w2) := below_tr HB1.out hb2
  clear hb2 HX1 HY1 HB1 c0 d0 c1 d1 c2 d2 c3 d3 c4 d4 c5 d5 c6 d6 c7 d7 c8 d8 c9 d9 c10 d10
  have c0 : w2.cell? ⟨w.heap.size, 0, none⟩ = some (.int .i64 0) := HX2.out.cell 0
  have c1 : w2.cell? ⟨w.heap.size, 1, none⟩ = some (.int .i64 i) := HX2.out.cell 1
  have c2 : w2.cell? ⟨w.heap.size, 2, none⟩ = some (.int .i64 g) := HX2.out.cell 2
  have c3 : w2.cell? ⟨w.heap.size, 3, none⟩ = some (.int .i64 1) := HX2.out.cell 3
  have c4 : w2.cell? ⟨w.heap.size, 4, none⟩ = some (.int .i64 0) := HX2.out.cell 4
  have c5 : w2.cell? ⟨w.heap.size, 5, none⟩ = some (.int .i64 5) := HX2.out.cell 5
  have c6 : w2.cell? ⟨w.heap.size, 6, none⟩ = some (.int .i64 0) := HX2.out.cell 6
  have c7 : w2.cell? ⟨w.heap.size, 7, none⟩ = some (.int .i64 0) := HX2.out.cell 7
  have c8 : w2.cell? ⟨w.heap.size, 8, none⟩ = some (.int .i64 0) := HX2.out.cell 8
  have c9 : w2.cell? ⟨w.heap.size, 9, none⟩ = some (.slice none 0 0) := HX2.out.cell 9
  have c10 : w2.cell? ⟨w.heap.size, 10, none⟩ = some (.slice none 0 0) := HX2.out.cell 10
  have d0 : w2.cell? ⟨w.heap.size + 1, 0, none⟩ = some (.int .i64 0) := HY2.out.cell 0
  have d1 : w2.cell? ⟨w.heap.size + 1, 1, none⟩ = some (.int .i64 i) := HY2.out.cell 1
  have d2 : w2.cell? ⟨w.heap.size + 1, 2, none⟩ = some (.int .i64 g) := HY2.out.cell 2
  have d3 : w2.cell? ⟨w.heap.size + 1, 3, none⟩ = some (.int .i64 1) := HY2.out.cell 3
  have d4 : w2.cell? ⟨w.heap.size + 1, 4, none⟩ = some (.int .i64 0) := HY2.out.cell 4
  have d5 : w2.cell? ⟨w.heap.size + 1, 5, none⟩ = some (.int .i64 5) := HY2.out.cell 5
  have d6 : w2.cell? ⟨w.heap.size + 1, 6, none⟩ = some (.int .i64 0) := HY2.out.cell 6
  have d7 : w2.cell? ⟨w.heap.size + 1, 7, none⟩ = some (.int .i64 0) := HY2.out.cell 7
  have d8 : w2.cell? ⟨w.heap.size + 1, 8, none⟩ = some (.int .i64 0) := HY2.out.cell 8
  have d9 : w2.cell? ⟨w.heap.size + 1, 9, none⟩ = some (.slice none 0 0) := HY2.out.cell 9
  have d10 : w2.cell? ⟨w.heap.size + 1, 10, none⟩ = some (.slice none 0 0) := HY2.out.cell 10
  go_wp2_with fail
  refine Calls.mono (HI.out _) ?_
  rintro e w3 ⟨rfl, hb3⟩
  have HX3 : Hid (Blk w3 w.heap.size 40 [.int .i64 0, .int .i64 i, .int .i64 g, .int .i64 1, .int .i64 0, .int .i64 5, .int .i64 0, .int .i64 0, .int .i64 0, .slice none 0 0, .slice none 0 0]) := HX2.out.later hb3
  have HY3 : Hid (Blk w3 (w.heap.size + 1) 40 [.int .i64 0, .int .i64 i, .int .i64 g, .int .i64 1, .int .i64 0, .int .i64 5, .int .i64 0, .int .i64 0, .int .i64 0, .slice none 0 0, .slice none 0 0]) := HY2.out.later hb3
  have HB3 : Hid (Below w.heap.size w w3) := below_tr HB2.out hb3
  clear hb3 HX2 HY2 HB2 c0 d0 c1 d1 c2 d2 c3 d3 c4 d4 c5 d5 c6 d6 c7 d7 c8 d8 c9 d9 c10 d10
  have c9 : w3.cell? ⟨w.heap.size, 9, none⟩ = some (.slice none 0 0) := HX3.out.cell 9
  have d9 : w3.cell? ⟨w.heap.size + 1, 9, none⟩ = some (.slice none 0 0) := HY3.out.cell 9
  have c10 : w3.cell? ⟨w.heap.size, 10, none⟩ = some (.slice none 0 0) := HX3.out.cell 10
  have d10 : w3.cell? ⟨w.heap.size + 1, 10, none⟩ = some (.slice none 0 0) := HY3.out.cell 10
  go_wp2_with fail
  refine Calls.mono (HM.out _) ?_
  rintro e w4 ⟨rfl, hb4⟩
  have HB4 : Hid (Below w.heap.size w w4) := below_tr HB3.out hb4
  clear hb4
  go_wp2_with fail
  go_ret
  exact ⟨rfl, HB4.out⟩

set_option maxHeartbeats 4000000 in
theorem eq_ths {w : World} {T1 T2 : Nat} {i g : Int} (h1 : Blk w T1 40 (tcells i g)) (h2 : Blk w T2 40 (tcells i g)) : Calls Try.prog 13 #[.slice (some ⟨T1, 0, none⟩) 1 1, .slice (some ⟨T2, 0, none⟩) 1 1] w fun e w' => e = .returned (.bool true) ∧ Below w.heap.size w w' := by
  have HE : Hid (∀ W, Calls Try.prog 22 #[.agg #[.int .i64 0, .int .i64 i, .int .i64 g, .int .i64 1, .int .i64 0, .int .i64 5, .int .i64 0, .int .i64 0, .int .i64 0, .slice none 0 0, .slice none 0 0], .agg #[.int .i64 0, .int .i64 i, .int .i64 g, .int .i64 1, .int .i64 0, .int .i64 5, .int .i64 0, .int .i64 0, .int .i64 0, .slice none 0 0, .slice none 0 0]] W fun e w' => e = .returned (.bool true) ∧ Below W.heap.size W w') := fun W => eq_th i g W
  have H1 : Hid (Blk w T1 40 (tcells i g)) := h1
  have H2 : Hid (Blk w T2 40 (tcells i g)) := h2
  clear h1 h2
  go_enter Try.func13, Try.ntmps13
  go_wp2
  go_loopw [5] (fun i wr => ∃ k : Nat, k ≤ 1 ∧ i = .int .i64 k ∧ Hid (Below w.heap.size w wr)) (fun i _ => 1 - (intOf i).toNat)
  case atStart => exact ⟨0, by omega, rfl, Below.refl _ _⟩
  case round =>
    obtain ⟨k, hk, rfl, HB⟩ := hrel
    by_cases hlt : k < 1
    · obtain rfl : k = 0 := by omega
      have H3 : Hid (Blk wr T1 40 (tcells i g)) := H1.out.later HB.out
      have H4 : Hid (Blk wr T2 40 (tcells i g)) := H2.out.later HB.out
      have e0 : wr.cell? ⟨T1, 0, none⟩ = some (.int .i64 0) := H3.out.cell 0
      have d0 : wr.cell? ⟨T2, 0, none⟩ = some (.int .i64 0) := H4.out.cell 0
      have ke0 := cell_regrown e0
      have kd0 := cell_regrown d0
      have e1 : wr.cell? ⟨T1, 1, none⟩ = some (.int .i64 i) := H3.out.cell 1
      have d1 : wr.cell? ⟨T2, 1, none⟩ = some (.int .i64 i) := H4.out.cell 1
      have ke1 := cell_regrown e1
      have kd1 := cell_regrown d1
      have e2 : wr.cell? ⟨T1, 2, none⟩ = some (.int .i64 g) := H3.out.cell 2
      have d2 : wr.cell? ⟨T2, 2, none⟩ = some (.int .i64 g) := H4.out.cell 2
      have ke2 := cell_regrown e2
      have kd2 := cell_regrown d2
      have e3 : wr.cell? ⟨T1, 3, none⟩ = some (.int .i64 1) := H3.out.cell 3
      have d3 : wr.cell? ⟨T2, 3, none⟩ = some (.int .i64 1) := H4.out.cell 3
      have ke3 := cell_regrown e3
      have kd3 := cell_regrown d3
      have e4 : wr.cell? ⟨T1, 4, none⟩ = some (.int .i64 0) := H3.out.cell 4
      have d4 : wr.cell? ⟨T2, 4, none⟩ = some (.int .i64 0) := H4.out.cell 4
      have ke4 := cell_regrown e4
      have kd4 := cell_regrown d4
      have e5 : wr.cell? ⟨T1, 5, none⟩ = some (.int .i64 5) := H3.out.cell 5
      have d5 : wr.cell? ⟨T2, 5, none⟩ = some (.int .i64 5) := H4.out.cell 5
      have ke5 := cell_regrown e5
      have kd5 := cell_regrown d5
      have e6 : wr.cell? ⟨T1, 6, none⟩ = some (.int .i64 0) := H3.out.cell 6
      have d6 : wr.cell? ⟨T2, 6, none⟩ = some (.int .i64 0) := H4.out.cell 6
      have ke6 := cell_regrown e6
      have kd6 := cell_regrown d6
      have e7 : wr.cell? ⟨T1, 7, none⟩ = some (.int .i64 0) := H3.out.cell 7
      have d7 : wr.cell? ⟨T2, 7, none⟩ = some (.int .i64 0) := H4.out.cell 7
      have ke7 := cell_regrown e7
      have kd7 := cell_regrown d7
      have e8 : wr.cell? ⟨T1, 8, none⟩ = some (.int .i64 0) := H3.out.cell 8
      have d8 : wr.cell? ⟨T2, 8, none⟩ = some (.int .i64 0) := H4.out.cell 8
      have ke8 := cell_regrown e8
      have kd8 := cell_regrown d8
      have e9 : wr.cell? ⟨T1, 9, none⟩ = some (.slice none 0 0) := H3.out.cell 9
      have d9 : wr.cell? ⟨T2, 9, none⟩ = some (.slice none 0 0) := H4.out.cell 9
      have ke9 := cell_regrown e9
      have kd9 := cell_regrown d9
      have e10 : wr.cell? ⟨T1, 10, none⟩ = some (.slice none 0 0) := H3.out.cell 10
      have d10 : wr.cell? ⟨T2, 10, none⟩ = some (.slice none 0 0) := H4.out.cell 10
      have ke10 := cell_regrown e10
      have kd10 := cell_regrown d10
      have cE : ∀ d os, _ := fun d os => Calls.regrown_of (w := wr) (d := d) (os := os) (HE.out _)
      go_wp2_with fail
      refine wp_region_quiet_below (by kernel_rfl) (by kernel_rfl) ?_
      repeat (go_big_quiet_step (first | (go_at_call 22; exact cE _ _)))
      refine wpQuiet_nil ?_
      intro _ hw'
      obtain ⟨⟨dq, osq⟩, hw''⟩ := hw'
      subst hw''
      have HB2 : Hid (Below w.heap.size w (grow (redrawn wr dq) osq)) := HB.out.trans ((below_regrown wr dq osq).mono HB.out.size)
      go_wp2_with fail
      go_roundw
      case rel => exact ⟨1, by omega, by go_num, HB2.out⟩
      case measure => simp [intOf]
    · obtain rfl : k = 1 := by omega
      go_wp2
      go_ret
      exact ⟨rfl, HB.out⟩

/-- sixteen lists, the first of one handle, the others of none -/
structure Told (w : World) (L H : Nat) (p : Thd) : Prop where
  list : ∀ j, j < 16 → w.cell? ⟨L, j, none⟩ = some (if j = 0 then .slice (some ⟨H, 0, none⟩) 1 1 else .slice none 0 0)
  inL : L < w.heap.size
  one : RowE (Plain chd) 3 0 w (.slice (some ⟨H, 0, none⟩) 1 1) [p]
theorem Told.later {w w' : World} {L H : Nat} {p : Thd} (h : Told w L H p) (hb : Below w.heap.size w w') : Told w' L H p :=
  ⟨fun j hj => (hb.cell (p := ⟨L, j, none⟩) h.inL).trans (h.list j hj), Nat.lt_of_lt_of_le h.inL hb.size, h.one.below (plain_stays _) hb⟩
theorem nil_row (w : World) : RowE (Plain chd) 3 0 w (.slice none 0 0) [] := ⟨none, 0, rfl, by simp, fun h => by simp at h⟩
set_option maxHeartbeats 4000000 in
theorem eq_told {w : World} {L1 H1 L2 H2 : Nat} {p : Thd} (h1 : Told w L1 H1 p) (h2 : Told w L2 H2 p) : Calls Try.prog 14 #[.slice (some ⟨L1, 0, none⟩) 16 16, .slice (some ⟨L2, 0, none⟩) 16 16] w fun e w' => e = .returned (.bool true) ∧ Below w.heap.size w w' := by
  have HT1 : Hid (Told w L1 H1 p) := h1
  have HT2 : Hid (Told w L2 H2 p) := h2
  clear h1 h2
  go_enter Try.func14, Try.ntmps14
  go_wp2
  go_loopw [5] (fun i wr => ∃ k : Nat, k ≤ 16 ∧ i = .int .i64 k ∧ Hid (Below w.heap.size w wr)) (fun i _ => 16 - (intOf i).toNat)
  case atStart => exact ⟨0, by omega, rfl, Below.refl _ _⟩
  case round =>
    obtain ⟨k, hk, rfl, HB⟩ := hrel
    by_cases hlt : k < 16
    · have q1 := HT1.out.later HB.out
      have q2 := HT2.out.later HB.out
      obtain ⟨a1, n1, c1, a2, c2, e0, d0, HE⟩ : ∃ a1 n1 c1 a2 c2, wr.cell? ⟨L1, k, none⟩ = some (.slice a1 n1 c1) ∧ wr.cell? ⟨L2, k, none⟩ = some (.slice a2 n1 c2) ∧ Hid (∀ W, Below wr.heap.size wr W → Calls Try.prog 15 #[.slice a1 n1 c1, .slice a2 n1 c2] W fun e w' => e = .returned (.bool true) ∧ Below W.heap.size W w') := by
        by_cases hk0 : k = 0
        · subst hk0
          exact ⟨_, _, _, _, _, q1.list 0 (by omega), q2.list 0 (by omega), fun W hW => eq_hds (q1.one.below (plain_stays _) hW) (q2.one.below (plain_stays _) hW)⟩
        · have z1 := q1.list k hlt
          have z2 := q2.list k hlt
          rw [if_neg hk0] at z1 z2
          exact ⟨_, _, _, _, _, z1, z2, fun W hW => eq_hds (nil_row W) (nil_row W)⟩
      have ke0 := cell_regrown e0
      have kd0 := cell_regrown d0
      have cE : ∀ d os, _ := fun d os => Calls.regrown_of (w := wr) (d := d) (os := os) (HE.out _ (below_regrown wr d os))
      clear q1 q2
      go_wp2_with fail
      refine wp_region_quiet_below (by kernel_rfl) (by kernel_rfl) ?_
      repeat (go_big_quiet_step (first | (go_at_call 15; exact cE _ _)))
      refine wpQuiet_nil ?_
      intro _ hw'
      obtain ⟨⟨dq, osq⟩, hw''⟩ := hw'
      subst hw''
      have HB2 : Hid (Below w.heap.size w (grow (redrawn wr dq) osq)) := HB.out.trans ((below_regrown wr dq osq).mono HB.out.size)
      go_wp2_with fail
      go_roundw
      case rel => exact ⟨k + 1, by omega, by go_num, HB2.out⟩
      case measure => simp [intOf]; omega
    · go_wp2
      go_ret
      exact ⟨rfl, HB.out⟩
end Go.Proofs.Ytljgcdemepjpaaa.deep
