/-
  What stands for a letter is read into a call: the program's take. Conditions: at most 8000 bytes; the program's tables read as its text lays them.
-/
import Derived.Test.YtacfhchmoiphfaaDoorScrRefI
namespace Go.Proofs.YtacfhchmoiphfaaDoor.scr
open Go.RowKit Go.Deep Go.Sort
open Go.Proofs.YtacfhchmoiphfaaDoor
open Go.Proofs.YtacfhchmoiphfaaDoor.deep (Blk putW putL)
open Go.Proofs.YtacfhchmoiphfaaDoor.call (CallD ccall)
open Go.Proofs.YtacfhchmoiphfaaDoor.lread (outL)
set_option linter.unusedVariables false
set_option maxRecDepth 100000

/-- what take leaves: the call at B, all else as it was -/
def TakenI (B : Nat) (w : World) (d : CallD) (a : Int) (t : ByteArray) (e : Ending) (w' : World) : Prop := ∃ d' b, e = .returned (.bool b) ∧ Blk w' B 26 (ccall d') ∧ Only B w w' ∧ ((b = true ∧ goodA a t ∧ d' = takeL d a t) ∨ (b = false ∧ ¬ goodA a t))
theorem kindR_any {t : ByteArray} {d : Int} (h : kindR t 0 ≠ 0) : kindR t d = kindR t 0 := by
  unfold kindR at h ⊢
  split
  · rfl
  · rename_i h3
    rw [if_neg h3] at h
    split
    · rfl
    · rename_i h2
      rw [if_neg h2] at h
      split
      · rfl
      · rename_i h1
        rw [if_neg h1] at h
        exact absurd rfl h

set_option maxHeartbeats 4000000 in
theorem itake_A (d : CallD) (t : ByteArray) (ht : t.size ≤ 8000) (B : Nat) (w : World) (hx : Blk w B 26 (ccall d)) (hS : Say w) : Calls Tryd.prog 53 #[.pointer (some ⟨B, 0, none⟩), .int .i32 65, .string t] w (TakenI B w d 65 t) := by
  have hlt := hx.lt
  have HC : Hid (Calls Tryd.prog 68 #[.string t] w (RefPost t w)) := impl_rref t ht w hS
  have HE : Hid (∀ a b k, RefSays t a b k → (k = true ∧ goodA 65 t ∧ { d with q2 := a, q3 := b } = takeL d 65 t) ∨ (k = false ∧ ¬ goodA 65 t)) := fun a b k h => by
    rw [good_A]
    rcases h with ⟨h, h1, h2, ha, hb⟩ | ⟨h, h1⟩
    · exact .inl ⟨h, ⟨h1, h2⟩, by rw [ha, hb]; simp [takeL]⟩
    · exact .inr ⟨h, h1⟩
  unfold TakenI
  obtain ⟨T, hT⟩ : ∃ T, T = takeL d 65 t := ⟨_, rfl⟩
  obtain ⟨G, hG⟩ : ∃ G, G = goodA 65 t := ⟨_, rfl⟩
  rw [← hT, ← hG] at HE ⊢
  clear hT hG hS ht
  obtain ⟨d0, d1, d2, d3, d4, d5, d6, d7, d8⟩ := d
  have HX : Hid (Blk w B 26 [.int .i64 d0, .int .i64 d1, .int .i64 d2, .int .i64 d3, .int .i64 d4, .int .i64 d5, .int .i64 d6, .int .i64 d7, .int .i64 d8]) := hx
  clear hx
  simp only at HE
  have c0 : w.cell? ⟨B, 0, none⟩ = some (.int .i64 d0) := HX.out.cell 0
  go_enter Tryd.func53, Tryd.ntmps53
  go_wp2_with fail
  refine Calls.mono HC.out ?_
  rintro e w1 ⟨a, b, k, rfl, hk, hb1⟩
  have HK : Hid _ := HE.out _ _ _ hk
  clear hk HE
  have HX1 : Hid (Blk w1 B 26 [.int .i64 d0, .int .i64 d1, .int .i64 d2, .int .i64 d3, .int .i64 d4, .int .i64 d5, .int .i64 d6, .int .i64 d7, .int .i64 d8]) := HX.out.later hb1
  have HB1 : Hid _ := hb1
  clear hb1 c0
  have c0 : w1.cell? ⟨B, 0, none⟩ = some (.int .i64 d0) := HX1.out.cell 0
  have f0 := HX1.out.free 0
  have c1 : w1.cell? ⟨B, 1, none⟩ = some (.int .i64 d1) := HX1.out.cell 1
  have f1 := HX1.out.free 1
  have c2 : w1.cell? ⟨B, 2, none⟩ = some (.int .i64 d2) := HX1.out.cell 2
  have f2 := HX1.out.free 2
  have c3 : w1.cell? ⟨B, 3, none⟩ = some (.int .i64 d3) := HX1.out.cell 3
  have f3 := HX1.out.free 3
  have c4 : w1.cell? ⟨B, 4, none⟩ = some (.int .i64 d4) := HX1.out.cell 4
  have f4 := HX1.out.free 4
  have c5 : w1.cell? ⟨B, 5, none⟩ = some (.int .i64 d5) := HX1.out.cell 5
  have f5 := HX1.out.free 5
  have c6 : w1.cell? ⟨B, 6, none⟩ = some (.int .i64 d6) := HX1.out.cell 6
  have f6 := HX1.out.free 6
  have c7 : w1.cell? ⟨B, 7, none⟩ = some (.int .i64 d7) := HX1.out.cell 7
  have f7 := HX1.out.free 7
  have c8 : w1.cell? ⟨B, 8, none⟩ = some (.int .i64 d8) := HX1.out.cell 8
  have f8 := HX1.out.free 8
  go_wp2_with fail
  go_ret
  exact ⟨⟨d0, d1, a, b, d4, d5, d6, d7, d8⟩, k, rfl, HX1.out.put [.int .i64 a, .int .i64 b] 2, (Only.of HB1.out hlt).trans (Only.put B w1 2 [.int .i64 a, .int .i64 b]), HK.out⟩

set_option maxHeartbeats 4000000 in
theorem itake_B (d : CallD) (t : ByteArray) (ht : t.size ≤ 8000) (B : Nat) (w : World) (hx : Blk w B 26 (ccall d)) (hS : Say w) : Calls Tryd.prog 53 #[.pointer (some ⟨B, 0, none⟩), .int .i32 66, .string t] w (TakenI B w d 66 t) := by
  have hlt := hx.lt
  have HC : Hid (Calls Tryd.prog 68 #[.string t] w (RefPost t w)) := impl_rref t ht w hS
  have HE : Hid (∀ a b k, RefSays t a b k → (k = true ∧ goodA 66 t ∧ { d with q4 := a, q5 := b } = takeL d 66 t) ∨ (k = false ∧ ¬ goodA 66 t)) := fun a b k h => by
    rw [good_B]
    rcases h with ⟨h, h1, h2, ha, hb⟩ | ⟨h, h1⟩
    · exact .inl ⟨h, ⟨h1, h2⟩, by rw [ha, hb]; simp [takeL]⟩
    · exact .inr ⟨h, h1⟩
  unfold TakenI
  obtain ⟨T, hT⟩ : ∃ T, T = takeL d 66 t := ⟨_, rfl⟩
  obtain ⟨G, hG⟩ : ∃ G, G = goodA 66 t := ⟨_, rfl⟩
  rw [← hT, ← hG] at HE ⊢
  clear hT hG hS ht
  obtain ⟨d0, d1, d2, d3, d4, d5, d6, d7, d8⟩ := d
  have HX : Hid (Blk w B 26 [.int .i64 d0, .int .i64 d1, .int .i64 d2, .int .i64 d3, .int .i64 d4, .int .i64 d5, .int .i64 d6, .int .i64 d7, .int .i64 d8]) := hx
  clear hx
  simp only at HE
  have c0 : w.cell? ⟨B, 0, none⟩ = some (.int .i64 d0) := HX.out.cell 0
  go_enter Tryd.func53, Tryd.ntmps53
  go_wp2_with fail
  refine Calls.mono HC.out ?_
  rintro e w1 ⟨a, b, k, rfl, hk, hb1⟩
  have HK : Hid _ := HE.out _ _ _ hk
  clear hk HE
  have HX1 : Hid (Blk w1 B 26 [.int .i64 d0, .int .i64 d1, .int .i64 d2, .int .i64 d3, .int .i64 d4, .int .i64 d5, .int .i64 d6, .int .i64 d7, .int .i64 d8]) := HX.out.later hb1
  have HB1 : Hid _ := hb1
  clear hb1 c0
  have c0 : w1.cell? ⟨B, 0, none⟩ = some (.int .i64 d0) := HX1.out.cell 0
  have f0 := HX1.out.free 0
  have c1 : w1.cell? ⟨B, 1, none⟩ = some (.int .i64 d1) := HX1.out.cell 1
  have f1 := HX1.out.free 1
  have c2 : w1.cell? ⟨B, 2, none⟩ = some (.int .i64 d2) := HX1.out.cell 2
  have f2 := HX1.out.free 2
  have c3 : w1.cell? ⟨B, 3, none⟩ = some (.int .i64 d3) := HX1.out.cell 3
  have f3 := HX1.out.free 3
  have c4 : w1.cell? ⟨B, 4, none⟩ = some (.int .i64 d4) := HX1.out.cell 4
  have f4 := HX1.out.free 4
  have c5 : w1.cell? ⟨B, 5, none⟩ = some (.int .i64 d5) := HX1.out.cell 5
  have f5 := HX1.out.free 5
  have c6 : w1.cell? ⟨B, 6, none⟩ = some (.int .i64 d6) := HX1.out.cell 6
  have f6 := HX1.out.free 6
  have c7 : w1.cell? ⟨B, 7, none⟩ = some (.int .i64 d7) := HX1.out.cell 7
  have f7 := HX1.out.free 7
  have c8 : w1.cell? ⟨B, 8, none⟩ = some (.int .i64 d8) := HX1.out.cell 8
  have f8 := HX1.out.free 8
  go_wp2_with fail
  go_ret
  exact ⟨⟨d0, d1, d2, d3, a, b, d6, d7, d8⟩, k, rfl, HX1.out.put [.int .i64 a, .int .i64 b] 4, (Only.of HB1.out hlt).trans (Only.put B w1 4 [.int .i64 a, .int .i64 b]), HK.out⟩

set_option maxHeartbeats 4000000 in
theorem itake_K (d : CallD) (t : ByteArray) (ht : t.size ≤ 8000) (B : Nat) (w : World) (hx : Blk w B 26 (ccall d)) (hS : Say w) : Calls Tryd.prog 53 #[.pointer (some ⟨B, 0, none⟩), .int .i32 75, .string t] w (TakenI B w d 75 t) := by
  have hlt := hx.lt
  have HC : Hid (Calls Tryd.prog 69 #[.string t] w fun e w' => e = .returned (kindV (kindR t 0)) ∧ w' = w) := impl_rkind t w hS
  have HE : Hid (kindR t 0 ≠ 0 → goodA 75 t ∧ { d with q6 := kindR t 0 } = takeL d 75 t) := fun h => ⟨good_K.2 h, by simp [takeL, kindR_any h]⟩
  have HF : Hid (kindR t 0 = 0 → ¬ goodA 75 t) := fun h => by rw [good_K]; exact fun k => k h
  generalize kindR t 0 = R at *
  unfold TakenI
  obtain ⟨T, hT⟩ : ∃ T, T = takeL d 75 t := ⟨_, rfl⟩
  obtain ⟨G, hG⟩ : ∃ G, G = goodA 75 t := ⟨_, rfl⟩
  rw [← hT, ← hG] at HE ⊢
  rw [← hG] at HF
  clear hT hG hS ht
  obtain ⟨d0, d1, d2, d3, d4, d5, d6, d7, d8⟩ := d
  have HX : Hid (Blk w B 26 [.int .i64 d0, .int .i64 d1, .int .i64 d2, .int .i64 d3, .int .i64 d4, .int .i64 d5, .int .i64 d6, .int .i64 d7, .int .i64 d8]) := hx
  clear hx
  simp only at HE
  have c0 : w.cell? ⟨B, 0, none⟩ = some (.int .i64 d0) := HX.out.cell 0
  have f0 := HX.out.free 0
  have c1 : w.cell? ⟨B, 1, none⟩ = some (.int .i64 d1) := HX.out.cell 1
  have f1 := HX.out.free 1
  have c2 : w.cell? ⟨B, 2, none⟩ = some (.int .i64 d2) := HX.out.cell 2
  have f2 := HX.out.free 2
  have c3 : w.cell? ⟨B, 3, none⟩ = some (.int .i64 d3) := HX.out.cell 3
  have f3 := HX.out.free 3
  have c4 : w.cell? ⟨B, 4, none⟩ = some (.int .i64 d4) := HX.out.cell 4
  have f4 := HX.out.free 4
  have c5 : w.cell? ⟨B, 5, none⟩ = some (.int .i64 d5) := HX.out.cell 5
  have f5 := HX.out.free 5
  have c6 : w.cell? ⟨B, 6, none⟩ = some (.int .i64 d6) := HX.out.cell 6
  have f6 := HX.out.free 6
  have c7 : w.cell? ⟨B, 7, none⟩ = some (.int .i64 d7) := HX.out.cell 7
  have f7 := HX.out.free 7
  have c8 : w.cell? ⟨B, 8, none⟩ = some (.int .i64 d8) := HX.out.cell 8
  have f8 := HX.out.free 8
  by_cases hR : R = 0
  · have HC2 : Hid (Calls Tryd.prog 69 #[.string t] w fun e w' => e = .returned (.tuple #[.int .i64 0, .bool false]) ∧ w' = w) := by
      have := HC.out
      rw [kindV, if_pos hR] at this
      exact this
    have HK : Hid _ := HF.out hR
    have HX1 := HX
    clear HC HE HF hR
    go_enter Tryd.func53, Tryd.ntmps53
    go_wp2_with fail
    refine Calls.mono HC2.out ?_
    rintro e w1 ⟨rfl, rfl⟩
    go_wp2_with fail
    go_ret
    exact ⟨⟨d0, d1, d2, d3, d4, d5, 0, d7, d8⟩, false, rfl, HX1.out.put [.int .i64 0] 6, Only.put B w1 6 [.int .i64 0], .inr ⟨rfl, HK.out⟩⟩
  · have HC2 : Hid (Calls Tryd.prog 69 #[.string t] w fun e w' => e = .returned (.tuple #[.int .i64 R, .bool true]) ∧ w' = w) := by
      have := HC.out
      rw [kindV, if_neg hR] at this
      exact this
    have HK : Hid _ := HE.out hR
    have HX1 := HX
    clear HC HE HF hR
    go_enter Tryd.func53, Tryd.ntmps53
    go_wp2_with fail
    refine Calls.mono HC2.out ?_
    rintro e w1 ⟨rfl, rfl⟩
    go_wp2_with fail
    go_ret
    exact ⟨⟨d0, d1, d2, d3, d4, d5, R, d7, d8⟩, true, rfl, HX1.out.put [.int .i64 R] 6, Only.put B w1 6 [.int .i64 R], .inl ⟨rfl, HK.out.1, HK.out.2⟩⟩

set_option maxHeartbeats 4000000 in
theorem itake_L (d : CallD) (t : ByteArray) (ht : t.size ≤ 8000) (B : Nat) (w : World) (hx : Blk w B 26 (ccall d)) (hS : Say w) : Calls Tryd.prog 53 #[.pointer (some ⟨B, 0, none⟩), .int .i32 76, .string t] w (TakenI B w d 76 t) := by
  have hlt := hx.lt
  have HC : Hid (Calls Tryd.prog 51 #[.string t] w fun e w' => (∃ m b, e = .returned (.tuple #[.int .u8 m, .bool b]) ∧ ((b = true ∧ 0 ≤ m ∧ m ≤ 15 ∧ outL t = (m, 0)) ∨ (b = false ∧ outL t = (0, 3)))) ∧ w' = w) := (lread.read_label t w (by omega)).mono fun e w' q => by
    obtain ⟨⟨m, b, he, hm⟩, hw⟩ := q
    exact ⟨⟨m, b, he, lread.out_tells (by omega) hm⟩, hw⟩
  have HE : Hid (∀ m, outL t = (m, 0) → goodA 76 t ∧ { d with q7 := m } = takeL d 76 t) := fun m h => ⟨good_L.2 (by rw [h]), by simp [takeL, h]⟩
  have HF : Hid (outL t = (0, 3) → ¬ goodA 76 t) := fun h => by rw [good_L, h]; simp
  unfold TakenI
  obtain ⟨T, hT⟩ : ∃ T, T = takeL d 76 t := ⟨_, rfl⟩
  obtain ⟨G, hG⟩ : ∃ G, G = goodA 76 t := ⟨_, rfl⟩
  rw [← hT, ← hG] at HE ⊢
  rw [← hG] at HF
  clear hT hG hS ht
  obtain ⟨d0, d1, d2, d3, d4, d5, d6, d7, d8⟩ := d
  have HX : Hid (Blk w B 26 [.int .i64 d0, .int .i64 d1, .int .i64 d2, .int .i64 d3, .int .i64 d4, .int .i64 d5, .int .i64 d6, .int .i64 d7, .int .i64 d8]) := hx
  clear hx
  simp only at HE
  have c0 : w.cell? ⟨B, 0, none⟩ = some (.int .i64 d0) := HX.out.cell 0
  have f0 := HX.out.free 0
  have c1 : w.cell? ⟨B, 1, none⟩ = some (.int .i64 d1) := HX.out.cell 1
  have f1 := HX.out.free 1
  have c2 : w.cell? ⟨B, 2, none⟩ = some (.int .i64 d2) := HX.out.cell 2
  have f2 := HX.out.free 2
  have c3 : w.cell? ⟨B, 3, none⟩ = some (.int .i64 d3) := HX.out.cell 3
  have f3 := HX.out.free 3
  have c4 : w.cell? ⟨B, 4, none⟩ = some (.int .i64 d4) := HX.out.cell 4
  have f4 := HX.out.free 4
  have c5 : w.cell? ⟨B, 5, none⟩ = some (.int .i64 d5) := HX.out.cell 5
  have f5 := HX.out.free 5
  have c6 : w.cell? ⟨B, 6, none⟩ = some (.int .i64 d6) := HX.out.cell 6
  have f6 := HX.out.free 6
  have c7 : w.cell? ⟨B, 7, none⟩ = some (.int .i64 d7) := HX.out.cell 7
  have f7 := HX.out.free 7
  have c8 : w.cell? ⟨B, 8, none⟩ = some (.int .i64 d8) := HX.out.cell 8
  have f8 := HX.out.free 8
  go_enter Tryd.func53, Tryd.ntmps53
  go_wp2_with fail
  refine Calls.mono HC.out ?_
  rintro e w1 ⟨⟨m, b, rfl, hm⟩, rfl⟩
  have HX1 := HX
  rcases hm with ⟨rfl, hm0, hm15, hmo⟩ | ⟨rfl, hmo⟩
  · have HK : Hid _ := HE.out m hmo
    clear hmo HE HF
    go_wp2_with fail
    go_ret
    exact ⟨⟨d0, d1, d2, d3, d4, d5, d6, m, d8⟩, true, rfl, HX1.out.put [.int .i64 m] 7, Only.put B w1 7 [.int .i64 m], .inl ⟨rfl, HK.out.1, HK.out.2⟩⟩
  · have HK : Hid _ := HF.out hmo
    clear hmo HE HF
    go_wp2_with fail
    go_ret
    exact ⟨⟨d0, d1, d2, d3, d4, d5, d6, (wrap64 m), d8⟩, false, rfl, HX1.out.put [.int .i64 (wrap64 m)] 7, Only.put B w1 7 [.int .i64 (wrap64 m)], .inr ⟨rfl, HK.out⟩⟩

set_option maxHeartbeats 4000000 in
theorem itake_X (d : CallD) (t : ByteArray) (ht : t.size ≤ 8000) (B : Nat) (w : World) (hx : Blk w B 26 (ccall d)) (hS : Say w) : Calls Tryd.prog 53 #[.pointer (some ⟨B, 0, none⟩), .int .i32 88, .string t] w (TakenI B w d 88 t) := by
  have hlt := hx.lt
  have HC : Hid (Calls Tryd.prog 70 #[.string t] w fun e w' => e = .returned (digV (numT t)) ∧ w' = w) := impl_dig t (by omega) w
  have HE : Hid (0 ≤ numT t → goodA 88 t ∧ { d with q6 := numT t } = takeL d 88 t) := fun h => ⟨good_X.2 h, by simp [takeL]⟩
  have HF : Hid (¬ 0 ≤ numT t → ¬ goodA 88 t) := fun h => by rw [good_X]; exact h
  generalize numT t = R at *
  unfold TakenI
  obtain ⟨T, hT⟩ : ∃ T, T = takeL d 88 t := ⟨_, rfl⟩
  obtain ⟨G, hG⟩ : ∃ G, G = goodA 88 t := ⟨_, rfl⟩
  rw [← hT, ← hG] at HE ⊢
  rw [← hG] at HF
  clear hT hG hS ht
  obtain ⟨d0, d1, d2, d3, d4, d5, d6, d7, d8⟩ := d
  have HX : Hid (Blk w B 26 [.int .i64 d0, .int .i64 d1, .int .i64 d2, .int .i64 d3, .int .i64 d4, .int .i64 d5, .int .i64 d6, .int .i64 d7, .int .i64 d8]) := hx
  clear hx
  simp only at HE
  have c0 : w.cell? ⟨B, 0, none⟩ = some (.int .i64 d0) := HX.out.cell 0
  have f0 := HX.out.free 0
  have c1 : w.cell? ⟨B, 1, none⟩ = some (.int .i64 d1) := HX.out.cell 1
  have f1 := HX.out.free 1
  have c2 : w.cell? ⟨B, 2, none⟩ = some (.int .i64 d2) := HX.out.cell 2
  have f2 := HX.out.free 2
  have c3 : w.cell? ⟨B, 3, none⟩ = some (.int .i64 d3) := HX.out.cell 3
  have f3 := HX.out.free 3
  have c4 : w.cell? ⟨B, 4, none⟩ = some (.int .i64 d4) := HX.out.cell 4
  have f4 := HX.out.free 4
  have c5 : w.cell? ⟨B, 5, none⟩ = some (.int .i64 d5) := HX.out.cell 5
  have f5 := HX.out.free 5
  have c6 : w.cell? ⟨B, 6, none⟩ = some (.int .i64 d6) := HX.out.cell 6
  have f6 := HX.out.free 6
  have c7 : w.cell? ⟨B, 7, none⟩ = some (.int .i64 d7) := HX.out.cell 7
  have f7 := HX.out.free 7
  have c8 : w.cell? ⟨B, 8, none⟩ = some (.int .i64 d8) := HX.out.cell 8
  have f8 := HX.out.free 8
  by_cases hR : 0 ≤ R
  · have HC2 : Hid (Calls Tryd.prog 70 #[.string t] w fun e w' => e = .returned (.tuple #[.int .i64 R, .bool true]) ∧ w' = w) := by
      have := HC.out
      rw [digV, if_pos hR] at this
      exact this
    have HK : Hid _ := HE.out hR
    have HX1 := HX
    clear HC HE HF hR
    go_enter Tryd.func53, Tryd.ntmps53
    go_wp2_with fail
    refine Calls.mono HC2.out ?_
    rintro e w1 ⟨rfl, rfl⟩
    go_wp2_with fail
    go_ret
    exact ⟨⟨d0, d1, d2, d3, d4, d5, R, d7, d8⟩, true, rfl, HX1.out.put [.int .i64 R] 6, Only.put B w1 6 [.int .i64 R], .inl ⟨rfl, HK.out.1, HK.out.2⟩⟩
  · have HC2 : Hid (Calls Tryd.prog 70 #[.string t] w fun e w' => e = .returned (.tuple #[.int .i64 0, .bool false]) ∧ w' = w) := by
      have := HC.out
      rw [digV, if_neg hR] at this
      exact this
    have HK : Hid _ := HF.out hR
    have HX1 := HX
    clear HC HE HF hR
    go_enter Tryd.func53, Tryd.ntmps53
    go_wp2_with fail
    refine Calls.mono HC2.out ?_
    rintro e w1 ⟨rfl, rfl⟩
    go_wp2_with fail
    go_ret
    exact ⟨⟨d0, d1, d2, d3, d4, d5, 0, d7, d8⟩, false, rfl, HX1.out.put [.int .i64 0] 6, Only.put B w1 6 [.int .i64 0], .inr ⟨rfl, HK.out⟩⟩

set_option maxHeartbeats 4000000 in
theorem itake_Y (d : CallD) (t : ByteArray) (ht : t.size ≤ 8000) (B : Nat) (w : World) (hx : Blk w B 26 (ccall d)) (hS : Say w) : Calls Tryd.prog 53 #[.pointer (some ⟨B, 0, none⟩), .int .i32 89, .string t] w (TakenI B w d 89 t) := by
  have hlt := hx.lt
  have HC : Hid (Calls Tryd.prog 70 #[.string t] w fun e w' => e = .returned (digV (numT t)) ∧ w' = w) := impl_dig t (by omega) w
  have HE : Hid (0 ≤ numT t → goodA 89 t ∧ { d with q7 := numT t } = takeL d 89 t) := fun h => ⟨good_Y.2 h, by simp [takeL]⟩
  have HF : Hid (¬ 0 ≤ numT t → ¬ goodA 89 t) := fun h => by rw [good_Y]; exact h
  generalize numT t = R at *
  unfold TakenI
  obtain ⟨T, hT⟩ : ∃ T, T = takeL d 89 t := ⟨_, rfl⟩
  obtain ⟨G, hG⟩ : ∃ G, G = goodA 89 t := ⟨_, rfl⟩
  rw [← hT, ← hG] at HE ⊢
  rw [← hG] at HF
  clear hT hG hS ht
  obtain ⟨d0, d1, d2, d3, d4, d5, d6, d7, d8⟩ := d
  have HX : Hid (Blk w B 26 [.int .i64 d0, .int .i64 d1, .int .i64 d2, .int .i64 d3, .int .i64 d4, .int .i64 d5, .int .i64 d6, .int .i64 d7, .int .i64 d8]) := hx
  clear hx
  simp only at HE
  have c0 : w.cell? ⟨B, 0, none⟩ = some (.int .i64 d0) := HX.out.cell 0
  have f0 := HX.out.free 0
  have c1 : w.cell? ⟨B, 1, none⟩ = some (.int .i64 d1) := HX.out.cell 1
  have f1 := HX.out.free 1
  have c2 : w.cell? ⟨B, 2, none⟩ = some (.int .i64 d2) := HX.out.cell 2
  have f2 := HX.out.free 2
  have c3 : w.cell? ⟨B, 3, none⟩ = some (.int .i64 d3) := HX.out.cell 3
  have f3 := HX.out.free 3
  have c4 : w.cell? ⟨B, 4, none⟩ = some (.int .i64 d4) := HX.out.cell 4
  have f4 := HX.out.free 4
  have c5 : w.cell? ⟨B, 5, none⟩ = some (.int .i64 d5) := HX.out.cell 5
  have f5 := HX.out.free 5
  have c6 : w.cell? ⟨B, 6, none⟩ = some (.int .i64 d6) := HX.out.cell 6
  have f6 := HX.out.free 6
  have c7 : w.cell? ⟨B, 7, none⟩ = some (.int .i64 d7) := HX.out.cell 7
  have f7 := HX.out.free 7
  have c8 : w.cell? ⟨B, 8, none⟩ = some (.int .i64 d8) := HX.out.cell 8
  have f8 := HX.out.free 8
  by_cases hR : 0 ≤ R
  · have HC2 : Hid (Calls Tryd.prog 70 #[.string t] w fun e w' => e = .returned (.tuple #[.int .i64 R, .bool true]) ∧ w' = w) := by
      have := HC.out
      rw [digV, if_pos hR] at this
      exact this
    have HK : Hid _ := HE.out hR
    have HX1 := HX
    clear HC HE HF hR
    go_enter Tryd.func53, Tryd.ntmps53
    go_wp2_with fail
    refine Calls.mono HC2.out ?_
    rintro e w1 ⟨rfl, rfl⟩
    go_wp2_with fail
    go_ret
    exact ⟨⟨d0, d1, d2, d3, d4, d5, d6, R, d8⟩, true, rfl, HX1.out.put [.int .i64 R] 7, Only.put B w1 7 [.int .i64 R], .inl ⟨rfl, HK.out.1, HK.out.2⟩⟩
  · have HC2 : Hid (Calls Tryd.prog 70 #[.string t] w fun e w' => e = .returned (.tuple #[.int .i64 0, .bool false]) ∧ w' = w) := by
      have := HC.out
      rw [digV, if_neg hR] at this
      exact this
    have HK : Hid _ := HF.out hR
    have HX1 := HX
    clear HC HE HF hR
    go_enter Tryd.func53, Tryd.ntmps53
    go_wp2_with fail
    refine Calls.mono HC2.out ?_
    rintro e w1 ⟨rfl, rfl⟩
    go_wp2_with fail
    go_ret
    exact ⟨⟨d0, d1, d2, d3, d4, d5, d6, 0, d8⟩, false, rfl, HX1.out.put [.int .i64 0] 7, Only.put B w1 7 [.int .i64 0], .inr ⟨rfl, HK.out⟩⟩

set_option maxHeartbeats 4000000 in
theorem itake_Z (d : CallD) (t : ByteArray) (ht : t.size ≤ 8000) (B : Nat) (w : World) (hx : Blk w B 26 (ccall d)) (hS : Say w) : Calls Tryd.prog 53 #[.pointer (some ⟨B, 0, none⟩), .int .i32 90, .string t] w (TakenI B w d 90 t) := by
  have hlt := hx.lt
  have HC : Hid (Calls Tryd.prog 70 #[.string t] w fun e w' => e = .returned (digV (numT t)) ∧ w' = w) := impl_dig t (by omega) w
  have HE : Hid (0 ≤ numT t → goodA 90 t ∧ { d with q8 := numT t } = takeL d 90 t) := fun h => ⟨good_Z.2 h, by simp [takeL]⟩
  have HF : Hid (¬ 0 ≤ numT t → ¬ goodA 90 t) := fun h => by rw [good_Z]; exact h
  generalize numT t = R at *
  unfold TakenI
  obtain ⟨T, hT⟩ : ∃ T, T = takeL d 90 t := ⟨_, rfl⟩
  obtain ⟨G, hG⟩ : ∃ G, G = goodA 90 t := ⟨_, rfl⟩
  rw [← hT, ← hG] at HE ⊢
  rw [← hG] at HF
  clear hT hG hS ht
  obtain ⟨d0, d1, d2, d3, d4, d5, d6, d7, d8⟩ := d
  have HX : Hid (Blk w B 26 [.int .i64 d0, .int .i64 d1, .int .i64 d2, .int .i64 d3, .int .i64 d4, .int .i64 d5, .int .i64 d6, .int .i64 d7, .int .i64 d8]) := hx
  clear hx
  simp only at HE
  have c0 : w.cell? ⟨B, 0, none⟩ = some (.int .i64 d0) := HX.out.cell 0
  have f0 := HX.out.free 0
  have c1 : w.cell? ⟨B, 1, none⟩ = some (.int .i64 d1) := HX.out.cell 1
  have f1 := HX.out.free 1
  have c2 : w.cell? ⟨B, 2, none⟩ = some (.int .i64 d2) := HX.out.cell 2
  have f2 := HX.out.free 2
  have c3 : w.cell? ⟨B, 3, none⟩ = some (.int .i64 d3) := HX.out.cell 3
  have f3 := HX.out.free 3
  have c4 : w.cell? ⟨B, 4, none⟩ = some (.int .i64 d4) := HX.out.cell 4
  have f4 := HX.out.free 4
  have c5 : w.cell? ⟨B, 5, none⟩ = some (.int .i64 d5) := HX.out.cell 5
  have f5 := HX.out.free 5
  have c6 : w.cell? ⟨B, 6, none⟩ = some (.int .i64 d6) := HX.out.cell 6
  have f6 := HX.out.free 6
  have c7 : w.cell? ⟨B, 7, none⟩ = some (.int .i64 d7) := HX.out.cell 7
  have f7 := HX.out.free 7
  have c8 : w.cell? ⟨B, 8, none⟩ = some (.int .i64 d8) := HX.out.cell 8
  have f8 := HX.out.free 8
  by_cases hR : 0 ≤ R
  · have HC2 : Hid (Calls Tryd.prog 70 #[.string t] w fun e w' => e = .returned (.tuple #[.int .i64 R, .bool true]) ∧ w' = w) := by
      have := HC.out
      rw [digV, if_pos hR] at this
      exact this
    have HK : Hid _ := HE.out hR
    have HX1 := HX
    clear HC HE HF hR
    go_enter Tryd.func53, Tryd.ntmps53
    go_wp2_with fail
    refine Calls.mono HC2.out ?_
    rintro e w1 ⟨rfl, rfl⟩
    go_wp2_with fail
    go_ret
    exact ⟨⟨d0, d1, d2, d3, d4, d5, d6, d7, R⟩, true, rfl, HX1.out.put [.int .i64 R] 8, Only.put B w1 8 [.int .i64 R], .inl ⟨rfl, HK.out.1, HK.out.2⟩⟩
  · have HC2 : Hid (Calls Tryd.prog 70 #[.string t] w fun e w' => e = .returned (.tuple #[.int .i64 0, .bool false]) ∧ w' = w) := by
      have := HC.out
      rw [digV, if_neg hR] at this
      exact this
    have HK : Hid _ := HF.out hR
    have HX1 := HX
    clear HC HE HF hR
    go_enter Tryd.func53, Tryd.ntmps53
    go_wp2_with fail
    refine Calls.mono HC2.out ?_
    rintro e w1 ⟨rfl, rfl⟩
    go_wp2_with fail
    go_ret
    exact ⟨⟨d0, d1, d2, d3, d4, d5, d6, d7, 0⟩, false, rfl, HX1.out.put [.int .i64 0] 8, Only.put B w1 8 [.int .i64 0], .inr ⟨rfl, HK.out⟩⟩

theorem impl_take (a : Int) (ha : Letter a) (d : CallD) (t : ByteArray) (ht : t.size ≤ 8000) (B : Nat) (w : World) (hx : Blk w B 26 (ccall d)) (hS : Say w) : Calls Tryd.prog 53 #[.pointer (some ⟨B, 0, none⟩), .int .i32 a, .string t] w (TakenI B w d a t) := by
  rcases ha with rfl | rfl | rfl | rfl | rfl | rfl | rfl
  · exact itake_A d t ht B w hx hS
  · exact itake_B d t ht B w hx hS
  · exact itake_K d t ht B w hx hS
  · exact itake_L d t ht B w hx hS
  · exact itake_X d t ht B w hx hS
  · exact itake_Y d t ht B w hx hS
  · exact itake_Z d t ht B w hx hS
end Go.Proofs.YtacfhchmoiphfaaDoor.scr
