/-
  A call with what its word takes alone: the specification's l12Only. No condition.
-/
import Derived.Test.YtacfhchmoiphfaaDoorScrArg
import Derived.Deep.CutRange
namespace Go.Proofs.YtacfhchmoiphfaaDoor.scr
open Go.RowKit Go.Deep Go.Sort
open Go.Proofs.YtacfhchmoiphfaaDoor
open Go.Proofs.YtacfhchmoiphfaaDoor.deep (Blk putW putL)
open Go.Proofs.YtacfhchmoiphfaaDoor.call (CallD ccall)
set_option linter.unusedVariables false
set_option maxRecDepth 100000

/-- a letter more -/
def stepL (c d : CallD) (a : Int) : CallD :=
  if a = 65 then { d with q2 := c.q2, q3 := c.q3 } else if a = 66 then { d with q4 := c.q4, q5 := c.q5 } else if a = 75 then { d with q6 := c.q6 } else if a = 88 then { d with q6 := c.q6 } else if a = 76 then { d with q7 := c.q7 } else if a = 89 then { d with q7 := c.q7 } else if a = 90 then { d with q8 := c.q8 } else d
def onlyTo (c : CallD) (g : ByteArray) : Nat → CallD
  | 0 => ⟨c.q0, c.q1, 0, 0, 0, 0, 0, 0, 0⟩
  | j + 1 => if h : j < g.size then stepL c (onlyTo c g j) (g[j].toNat : Int) else onlyTo c g j
/-- with what its word takes alone -/
def onlyC (c : CallD) : CallD := onlyTo c (takesB c.q1) (takesB c.q1).size
theorem only_step (c : CallD) (g : ByteArray) (j : Nat) (h : j < g.size) : onlyTo c g (j + 1) = stepL c (onlyTo c g j) (g[j].toNat : Int) := by simp [onlyTo, h]

set_option maxHeartbeats 8000000 in
theorem spec_only (c : CallD) (w : World) : Calls Tryd.prog 31 #[.agg (ccall c).toArray] w fun e w' => e = .returned (.agg (ccall (onlyC c)).toArray) ∧ Below w.heap.size w w' := by
  have HN : Hid (∀ W, Calls Tryd.prog 32 #[.int .i64 c.q1] W fun e w' => e = .returned (.tuple #[.string (nameB c.q1), .string (takesB c.q1)]) ∧ w' = W) := fun W => spec_name c.q1 W
  have hz := takes_size c.q1
  have HO : Hid (onlyC c = onlyTo c (takesB c.q1) (takesB c.q1).size) := rfl
  obtain ⟨d, hd⟩ : ∃ d, d = onlyC c := ⟨_, rfl⟩
  rw [← hd] at HO ⊢
  clear hd
  generalize takesB c.q1 = g at *
  generalize nameB c.q1 = nm at *
  have HS : Hid (∀ j (h : j < g.size), onlyTo c g (j + 1) = stepL c (onlyTo c g j) (g[j].toNat : Int)) := fun j h => only_step c g j h
  have H0 : Hid (onlyTo c g 0 = ⟨c.q0, c.q1, 0, 0, 0, 0, 0, 0, 0⟩) := rfl
  obtain ⟨F, hF⟩ : ∃ F, F = onlyTo c g := ⟨_, rfl⟩
  rw [← hF] at HO HS H0
  clear hF
  obtain ⟨q0, q1, q2, q3, q4, q5, q6, q7, q8⟩ := c
  simp only [ccall] at *
  obtain ⟨V, hV⟩ : ∃ V, V = ((w.alloc (.cells #[.int .i64 q0, .int .i64 q1, .int .i64 q2, .int .i64 q3, .int .i64 q4, .int .i64 q5, .int .i64 q6, .int .i64 q7, .int .i64 q8] 26)).alloc (.cells #[.int .i64 0, .int .i64 0, .int .i64 0, .int .i64 0, .int .i64 0, .int .i64 0, .int .i64 0, .int .i64 0, .int .i64 0] 26)).alloc (.cells #[.int .i64 q0, .int .i64 q1, .int .i64 0, .int .i64 0, .int .i64 0, .int .i64 0, .int .i64 0, .int .i64 0, .int .i64 0] 26) := ⟨_, rfl⟩
  have FB := deep.blk3 w [.int .i64 q0, .int .i64 q1, .int .i64 q2, .int .i64 q3, .int .i64 q4, .int .i64 q5, .int .i64 q6, .int .i64 q7, .int .i64 q8] [.int .i64 0, .int .i64 0, .int .i64 0, .int .i64 0, .int .i64 0, .int .i64 0, .int .i64 0, .int .i64 0, .int .i64 0] [.int .i64 q0, .int .i64 q1, .int .i64 0, .int .i64 0, .int .i64 0, .int .i64 0, .int .i64 0, .int .i64 0, .int .i64 0] 26 26 26
  have HB3 : Below w.heap.size w V := by rw [hV]; exact deep.below3 w _ _ _
  rw [← hV] at FB
  have HA : Hid (Blk V w.heap.size 26 [.int .i64 q0, .int .i64 q1, .int .i64 q2, .int .i64 q3, .int .i64 q4, .int .i64 q5, .int .i64 q6, .int .i64 q7, .int .i64 q8]) := FB.1
  have HR : Hid (Blk V (w.heap.size + 1) 26 [.int .i64 0, .int .i64 0, .int .i64 0, .int .i64 0, .int .i64 0, .int .i64 0, .int .i64 0, .int .i64 0, .int .i64 0]) := FB.2.1
  have HC : Hid (Blk V (w.heap.size + 1 + 1) 26 (ccall (F 0))) := by rw [H0.out]; exact FB.2.2
  have HBV : Hid (Below w.heap.size w V) := HB3
  clear FB HB3
  go_enter Tryd.func31, Tryd.ntmps31
  go_wp2_with fail
  refine Calls.mono (HN.out _) ?_
  rintro e w1 ⟨rfl, rfl⟩
  go_wp2_with fail
  rw [← hV]
  clear hV
  go_loopw [6] (fun i wr => ∃ j : Nat, j ≤ g.size ∧ i = .int .i64 j ∧ Hid (Blk wr w.heap.size 26 [.int .i64 q0, .int .i64 q1, .int .i64 q2, .int .i64 q3, .int .i64 q4, .int .i64 q5, .int .i64 q6, .int .i64 q7, .int .i64 q8]) ∧ Hid (Blk wr (w.heap.size + 1) 26 [.int .i64 0, .int .i64 0, .int .i64 0, .int .i64 0, .int .i64 0, .int .i64 0, .int .i64 0, .int .i64 0, .int .i64 0]) ∧ Hid (Blk wr (w.heap.size + 1 + 1) 26 (ccall (F j))) ∧ Hid (Below w.heap.size w wr)) (fun i _ => g.size - (intOf i).toNat)
  case atStart => exact ⟨0, by omega, rfl, HA.out, HR.out, HC.out, HBV.out⟩
  case round =>
    obtain ⟨j, hj, rfl, XA, XR, XC, XB⟩ := hrel
    clear HA HR HC HBV
    by_cases hlt : j < g.size
    · have HSJ : Hid (F (j + 1) = stepL ⟨q0, q1, q2, q3, q4, q5, q6, q7, q8⟩ (F j) (g[j].toNat : Int)) := HS.out j hlt
      obtain ⟨D, hD⟩ : ∃ D, D = F j := ⟨_, rfl⟩
      rw [← hD] at XC HSJ
      clear hD
      obtain ⟨d0, d1, d2, d3, d4, d5, d6, d7, d8⟩ := D
      simp only [ccall] at XC
      have a0 : wr.cell? ⟨w.heap.size, 0, none⟩ = some (.int .i64 q0) := XA.out.cell 0
      have a1 : wr.cell? ⟨w.heap.size, 1, none⟩ = some (.int .i64 q1) := XA.out.cell 1
      have a2 : wr.cell? ⟨w.heap.size, 2, none⟩ = some (.int .i64 q2) := XA.out.cell 2
      have a3 : wr.cell? ⟨w.heap.size, 3, none⟩ = some (.int .i64 q3) := XA.out.cell 3
      have a4 : wr.cell? ⟨w.heap.size, 4, none⟩ = some (.int .i64 q4) := XA.out.cell 4
      have a5 : wr.cell? ⟨w.heap.size, 5, none⟩ = some (.int .i64 q5) := XA.out.cell 5
      have a6 : wr.cell? ⟨w.heap.size, 6, none⟩ = some (.int .i64 q6) := XA.out.cell 6
      have a7 : wr.cell? ⟨w.heap.size, 7, none⟩ = some (.int .i64 q7) := XA.out.cell 7
      have a8 : wr.cell? ⟨w.heap.size, 8, none⟩ = some (.int .i64 q8) := XA.out.cell 8
      have c0 : wr.cell? ⟨w.heap.size + 1 + 1, 0, none⟩ = some (.int .i64 d0) := XC.out.cell 0
      have c1 : wr.cell? ⟨w.heap.size + 1 + 1, 1, none⟩ = some (.int .i64 d1) := XC.out.cell 1
      have c2 : wr.cell? ⟨w.heap.size + 1 + 1, 2, none⟩ = some (.int .i64 d2) := XC.out.cell 2
      have c3 : wr.cell? ⟨w.heap.size + 1 + 1, 3, none⟩ = some (.int .i64 d3) := XC.out.cell 3
      have c4 : wr.cell? ⟨w.heap.size + 1 + 1, 4, none⟩ = some (.int .i64 d4) := XC.out.cell 4
      have c5 : wr.cell? ⟨w.heap.size + 1 + 1, 5, none⟩ = some (.int .i64 d5) := XC.out.cell 5
      have c6 : wr.cell? ⟨w.heap.size + 1 + 1, 6, none⟩ = some (.int .i64 d6) := XC.out.cell 6
      have c7 : wr.cell? ⟨w.heap.size + 1 + 1, 7, none⟩ = some (.int .i64 d7) := XC.out.cell 7
      have c8 : wr.cell? ⟨w.heap.size + 1 + 1, 8, none⟩ = some (.int .i64 d8) := XC.out.cell 8
      have f0 := XC.out.free 0
      have f1 := XC.out.free 1
      have f2 := XC.out.free 2
      have f3 := XC.out.free 3
      have f4 := XC.out.free 4
      have f5 := XC.out.free 5
      have f6 := XC.out.free 6
      have f7 := XC.out.free 7
      have f8 := XC.out.free 8
      by_cases e65 : ((g[j].toNat : Nat) : Int) = 65
      · have HE : Hid (F (j + 1) = ⟨d0, d1, q2, q3, d4, d5, d6, d7, d8⟩) := by rw [Hid, HSJ.out]; unfold stepL;  rw [if_pos e65]
        have g65 : (((g[j].toNat : Nat) : Int) == 65) = true := by rw [e65]; rfl
        have HPC : Hid (Blk (putW wr (w.heap.size + 1 + 1) 2 [.int .i64 q2, .int .i64 q3]) (w.heap.size + 1 + 1) 26 (ccall (F (j + 1)))) := by rw [HE.out]; exact XC.out.put [.int .i64 q2, .int .i64 q3] 2
        have HPA := XA.out.other [.int .i64 q2, .int .i64 q3] (w.heap.size + 1 + 1) 2 (by omega)
        have HPR := XR.out.other [.int .i64 q2, .int .i64 q3] (w.heap.size + 1 + 1) 2 (by omega)
        have HPB : Below w.heap.size w (putW wr (w.heap.size + 1 + 1) 2 [.int .i64 q2, .int .i64 q3]) := deep.putW_below [.int .i64 q2, .int .i64 q3] XB.out (by omega)
        have KA : Hid _ := HPA
        have KR : Hid _ := HPR
        have KB : Hid _ := HPB
        clear HPA HPR HPB HSJ HE e65
        go_wp2_with fail
        go_roundw
        case rel => exact ⟨j + 1, by omega, by go_num, KA.out, KR.out, HPC.out, KB.out⟩
        case measure => simp [intOf]; omega
      by_cases e66 : ((g[j].toNat : Nat) : Int) = 66
      · have HE : Hid (F (j + 1) = ⟨d0, d1, d2, d3, q4, q5, d6, d7, d8⟩) := by rw [Hid, HSJ.out]; unfold stepL; rw [if_neg e65]; rw [if_pos e66]
        have g65 : (((g[j].toNat : Nat) : Int) == 65) = false := by simp only [beq_eq_false_iff_ne, ne_eq]; exact e65
        have g66 : (((g[j].toNat : Nat) : Int) == 66) = true := by rw [e66]; rfl
        have HPC : Hid (Blk (putW wr (w.heap.size + 1 + 1) 4 [.int .i64 q4, .int .i64 q5]) (w.heap.size + 1 + 1) 26 (ccall (F (j + 1)))) := by rw [HE.out]; exact XC.out.put [.int .i64 q4, .int .i64 q5] 4
        have HPA := XA.out.other [.int .i64 q4, .int .i64 q5] (w.heap.size + 1 + 1) 4 (by omega)
        have HPR := XR.out.other [.int .i64 q4, .int .i64 q5] (w.heap.size + 1 + 1) 4 (by omega)
        have HPB : Below w.heap.size w (putW wr (w.heap.size + 1 + 1) 4 [.int .i64 q4, .int .i64 q5]) := deep.putW_below [.int .i64 q4, .int .i64 q5] XB.out (by omega)
        have KA : Hid _ := HPA
        have KR : Hid _ := HPR
        have KB : Hid _ := HPB
        clear HPA HPR HPB HSJ HE e65 e66
        go_wp2_with fail
        go_roundw
        case rel => exact ⟨j + 1, by omega, by go_num, KA.out, KR.out, HPC.out, KB.out⟩
        case measure => simp [intOf]; omega
      by_cases e75 : ((g[j].toNat : Nat) : Int) = 75
      · have HE : Hid (F (j + 1) = ⟨d0, d1, d2, d3, d4, d5, q6, d7, d8⟩) := by rw [Hid, HSJ.out]; unfold stepL; rw [if_neg e65]; rw [if_neg e66]; rw [if_pos e75]
        have g65 : (((g[j].toNat : Nat) : Int) == 65) = false := by simp only [beq_eq_false_iff_ne, ne_eq]; exact e65
        have g66 : (((g[j].toNat : Nat) : Int) == 66) = false := by simp only [beq_eq_false_iff_ne, ne_eq]; exact e66
        have g75 : (((g[j].toNat : Nat) : Int) == 75) = true := by rw [e75]; rfl
        have HPC : Hid (Blk (putW wr (w.heap.size + 1 + 1) 6 [.int .i64 q6]) (w.heap.size + 1 + 1) 26 (ccall (F (j + 1)))) := by rw [HE.out]; exact XC.out.put [.int .i64 q6] 6
        have HPA := XA.out.other [.int .i64 q6] (w.heap.size + 1 + 1) 6 (by omega)
        have HPR := XR.out.other [.int .i64 q6] (w.heap.size + 1 + 1) 6 (by omega)
        have HPB : Below w.heap.size w (putW wr (w.heap.size + 1 + 1) 6 [.int .i64 q6]) := deep.putW_below [.int .i64 q6] XB.out (by omega)
        have KA : Hid _ := HPA
        have KR : Hid _ := HPR
        have KB : Hid _ := HPB
        clear HPA HPR HPB HSJ HE e65 e66 e75
        go_wp2_with fail
        go_roundw
        case rel => exact ⟨j + 1, by omega, by go_num, KA.out, KR.out, HPC.out, KB.out⟩
        case measure => simp [intOf]; omega
      by_cases e88 : ((g[j].toNat : Nat) : Int) = 88
      · have HE : Hid (F (j + 1) = ⟨d0, d1, d2, d3, d4, d5, q6, d7, d8⟩) := by rw [Hid, HSJ.out]; unfold stepL; rw [if_neg e65]; rw [if_neg e66]; rw [if_neg e75]; rw [if_pos e88]
        have g65 : (((g[j].toNat : Nat) : Int) == 65) = false := by simp only [beq_eq_false_iff_ne, ne_eq]; exact e65
        have g66 : (((g[j].toNat : Nat) : Int) == 66) = false := by simp only [beq_eq_false_iff_ne, ne_eq]; exact e66
        have g75 : (((g[j].toNat : Nat) : Int) == 75) = false := by simp only [beq_eq_false_iff_ne, ne_eq]; exact e75
        have g88 : (((g[j].toNat : Nat) : Int) == 88) = true := by rw [e88]; rfl
        have HPC : Hid (Blk (putW wr (w.heap.size + 1 + 1) 6 [.int .i64 q6]) (w.heap.size + 1 + 1) 26 (ccall (F (j + 1)))) := by rw [HE.out]; exact XC.out.put [.int .i64 q6] 6
        have HPA := XA.out.other [.int .i64 q6] (w.heap.size + 1 + 1) 6 (by omega)
        have HPR := XR.out.other [.int .i64 q6] (w.heap.size + 1 + 1) 6 (by omega)
        have HPB : Below w.heap.size w (putW wr (w.heap.size + 1 + 1) 6 [.int .i64 q6]) := deep.putW_below [.int .i64 q6] XB.out (by omega)
        have KA : Hid _ := HPA
        have KR : Hid _ := HPR
        have KB : Hid _ := HPB
        clear HPA HPR HPB HSJ HE e65 e66 e75 e88
        go_wp2_with fail
        go_roundw
        case rel => exact ⟨j + 1, by omega, by go_num, KA.out, KR.out, HPC.out, KB.out⟩
        case measure => simp [intOf]; omega
      by_cases e76 : ((g[j].toNat : Nat) : Int) = 76
      · have HE : Hid (F (j + 1) = ⟨d0, d1, d2, d3, d4, d5, d6, q7, d8⟩) := by rw [Hid, HSJ.out]; unfold stepL; rw [if_neg e65]; rw [if_neg e66]; rw [if_neg e75]; rw [if_neg e88]; rw [if_pos e76]
        have g65 : (((g[j].toNat : Nat) : Int) == 65) = false := by simp only [beq_eq_false_iff_ne, ne_eq]; exact e65
        have g66 : (((g[j].toNat : Nat) : Int) == 66) = false := by simp only [beq_eq_false_iff_ne, ne_eq]; exact e66
        have g75 : (((g[j].toNat : Nat) : Int) == 75) = false := by simp only [beq_eq_false_iff_ne, ne_eq]; exact e75
        have g88 : (((g[j].toNat : Nat) : Int) == 88) = false := by simp only [beq_eq_false_iff_ne, ne_eq]; exact e88
        have g76 : (((g[j].toNat : Nat) : Int) == 76) = true := by rw [e76]; rfl
        have HPC : Hid (Blk (putW wr (w.heap.size + 1 + 1) 7 [.int .i64 q7]) (w.heap.size + 1 + 1) 26 (ccall (F (j + 1)))) := by rw [HE.out]; exact XC.out.put [.int .i64 q7] 7
        have HPA := XA.out.other [.int .i64 q7] (w.heap.size + 1 + 1) 7 (by omega)
        have HPR := XR.out.other [.int .i64 q7] (w.heap.size + 1 + 1) 7 (by omega)
        have HPB : Below w.heap.size w (putW wr (w.heap.size + 1 + 1) 7 [.int .i64 q7]) := deep.putW_below [.int .i64 q7] XB.out (by omega)
        have KA : Hid _ := HPA
        have KR : Hid _ := HPR
        have KB : Hid _ := HPB
        clear HPA HPR HPB HSJ HE e65 e66 e75 e88 e76
        go_wp2_with fail
        go_roundw
        case rel => exact ⟨j + 1, by omega, by go_num, KA.out, KR.out, HPC.out, KB.out⟩
        case measure => simp [intOf]; omega
      by_cases e89 : ((g[j].toNat : Nat) : Int) = 89
      · have HE : Hid (F (j + 1) = ⟨d0, d1, d2, d3, d4, d5, d6, q7, d8⟩) := by rw [Hid, HSJ.out]; unfold stepL; rw [if_neg e65]; rw [if_neg e66]; rw [if_neg e75]; rw [if_neg e88]; rw [if_neg e76]; rw [if_pos e89]
        have g65 : (((g[j].toNat : Nat) : Int) == 65) = false := by simp only [beq_eq_false_iff_ne, ne_eq]; exact e65
        have g66 : (((g[j].toNat : Nat) : Int) == 66) = false := by simp only [beq_eq_false_iff_ne, ne_eq]; exact e66
        have g75 : (((g[j].toNat : Nat) : Int) == 75) = false := by simp only [beq_eq_false_iff_ne, ne_eq]; exact e75
        have g88 : (((g[j].toNat : Nat) : Int) == 88) = false := by simp only [beq_eq_false_iff_ne, ne_eq]; exact e88
        have g76 : (((g[j].toNat : Nat) : Int) == 76) = false := by simp only [beq_eq_false_iff_ne, ne_eq]; exact e76
        have g89 : (((g[j].toNat : Nat) : Int) == 89) = true := by rw [e89]; rfl
        have HPC : Hid (Blk (putW wr (w.heap.size + 1 + 1) 7 [.int .i64 q7]) (w.heap.size + 1 + 1) 26 (ccall (F (j + 1)))) := by rw [HE.out]; exact XC.out.put [.int .i64 q7] 7
        have HPA := XA.out.other [.int .i64 q7] (w.heap.size + 1 + 1) 7 (by omega)
        have HPR := XR.out.other [.int .i64 q7] (w.heap.size + 1 + 1) 7 (by omega)
        have HPB : Below w.heap.size w (putW wr (w.heap.size + 1 + 1) 7 [.int .i64 q7]) := deep.putW_below [.int .i64 q7] XB.out (by omega)
        have KA : Hid _ := HPA
        have KR : Hid _ := HPR
        have KB : Hid _ := HPB
        clear HPA HPR HPB HSJ HE e65 e66 e75 e88 e76 e89
        go_wp2_with fail
        go_roundw
        case rel => exact ⟨j + 1, by omega, by go_num, KA.out, KR.out, HPC.out, KB.out⟩
        case measure => simp [intOf]; omega
      by_cases e90 : ((g[j].toNat : Nat) : Int) = 90
      · have HE : Hid (F (j + 1) = ⟨d0, d1, d2, d3, d4, d5, d6, d7, q8⟩) := by rw [Hid, HSJ.out]; unfold stepL; rw [if_neg e65]; rw [if_neg e66]; rw [if_neg e75]; rw [if_neg e88]; rw [if_neg e76]; rw [if_neg e89]; rw [if_pos e90]
        have g65 : (((g[j].toNat : Nat) : Int) == 65) = false := by simp only [beq_eq_false_iff_ne, ne_eq]; exact e65
        have g66 : (((g[j].toNat : Nat) : Int) == 66) = false := by simp only [beq_eq_false_iff_ne, ne_eq]; exact e66
        have g75 : (((g[j].toNat : Nat) : Int) == 75) = false := by simp only [beq_eq_false_iff_ne, ne_eq]; exact e75
        have g88 : (((g[j].toNat : Nat) : Int) == 88) = false := by simp only [beq_eq_false_iff_ne, ne_eq]; exact e88
        have g76 : (((g[j].toNat : Nat) : Int) == 76) = false := by simp only [beq_eq_false_iff_ne, ne_eq]; exact e76
        have g89 : (((g[j].toNat : Nat) : Int) == 89) = false := by simp only [beq_eq_false_iff_ne, ne_eq]; exact e89
        have g90 : (((g[j].toNat : Nat) : Int) == 90) = true := by rw [e90]; rfl
        have HPC : Hid (Blk (putW wr (w.heap.size + 1 + 1) 8 [.int .i64 q8]) (w.heap.size + 1 + 1) 26 (ccall (F (j + 1)))) := by rw [HE.out]; exact XC.out.put [.int .i64 q8] 8
        have HPA := XA.out.other [.int .i64 q8] (w.heap.size + 1 + 1) 8 (by omega)
        have HPR := XR.out.other [.int .i64 q8] (w.heap.size + 1 + 1) 8 (by omega)
        have HPB : Below w.heap.size w (putW wr (w.heap.size + 1 + 1) 8 [.int .i64 q8]) := deep.putW_below [.int .i64 q8] XB.out (by omega)
        have KA : Hid _ := HPA
        have KR : Hid _ := HPR
        have KB : Hid _ := HPB
        clear HPA HPR HPB HSJ HE e65 e66 e75 e88 e76 e89 e90
        go_wp2_with fail
        go_roundw
        case rel => exact ⟨j + 1, by omega, by go_num, KA.out, KR.out, HPC.out, KB.out⟩
        case measure => simp [intOf]; omega
      have HE : Hid (F (j + 1) = ⟨d0, d1, d2, d3, d4, d5, d6, d7, d8⟩) := by rw [Hid, HSJ.out]; unfold stepL; rw [if_neg e65]; rw [if_neg e66]; rw [if_neg e75]; rw [if_neg e88]; rw [if_neg e76]; rw [if_neg e89]; rw [if_neg e90]
      have g65 : (((g[j].toNat : Nat) : Int) == 65) = false := by simp only [beq_eq_false_iff_ne, ne_eq]; exact e65
      have g66 : (((g[j].toNat : Nat) : Int) == 66) = false := by simp only [beq_eq_false_iff_ne, ne_eq]; exact e66
      have g75 : (((g[j].toNat : Nat) : Int) == 75) = false := by simp only [beq_eq_false_iff_ne, ne_eq]; exact e75
      have g88 : (((g[j].toNat : Nat) : Int) == 88) = false := by simp only [beq_eq_false_iff_ne, ne_eq]; exact e88
      have g76 : (((g[j].toNat : Nat) : Int) == 76) = false := by simp only [beq_eq_false_iff_ne, ne_eq]; exact e76
      have g89 : (((g[j].toNat : Nat) : Int) == 89) = false := by simp only [beq_eq_false_iff_ne, ne_eq]; exact e89
      have g90 : (((g[j].toNat : Nat) : Int) == 90) = false := by simp only [beq_eq_false_iff_ne, ne_eq]; exact e90
      have HPC : Hid (Blk wr (w.heap.size + 1 + 1) 26 (ccall (F (j + 1)))) := by rw [HE.out]; exact XC.out
      clear HSJ HE e65 e66 e75 e88 e76 e89 e90
      go_wp2_with fail
      go_roundw
      case rel => exact ⟨j + 1, by omega, by go_num, XA.out, XR.out, HPC.out, XB.out⟩
      case measure => simp [intOf]; omega
    · obtain rfl : j = g.size := by omega
      have HE : Hid (d = F g.size) := HO.out
      rw [← HE.out] at XC
      obtain ⟨d0, d1, d2, d3, d4, d5, d6, d7, d8⟩ := d
      simp only [ccall] at XC
      have c0 : wr.cell? ⟨w.heap.size + 1 + 1, 0, none⟩ = some (.int .i64 d0) := XC.out.cell 0
      have c1 : wr.cell? ⟨w.heap.size + 1 + 1, 1, none⟩ = some (.int .i64 d1) := XC.out.cell 1
      have c2 : wr.cell? ⟨w.heap.size + 1 + 1, 2, none⟩ = some (.int .i64 d2) := XC.out.cell 2
      have c3 : wr.cell? ⟨w.heap.size + 1 + 1, 3, none⟩ = some (.int .i64 d3) := XC.out.cell 3
      have c4 : wr.cell? ⟨w.heap.size + 1 + 1, 4, none⟩ = some (.int .i64 d4) := XC.out.cell 4
      have c5 : wr.cell? ⟨w.heap.size + 1 + 1, 5, none⟩ = some (.int .i64 d5) := XC.out.cell 5
      have c6 : wr.cell? ⟨w.heap.size + 1 + 1, 6, none⟩ = some (.int .i64 d6) := XC.out.cell 6
      have c7 : wr.cell? ⟨w.heap.size + 1 + 1, 7, none⟩ = some (.int .i64 d7) := XC.out.cell 7
      have c8 : wr.cell? ⟨w.heap.size + 1 + 1, 8, none⟩ = some (.int .i64 d8) := XC.out.cell 8
      have r0 : wr.cell? ⟨w.heap.size + 1, 0, none⟩ = some (.int .i64 0) := XR.out.cell 0
      have r1 : wr.cell? ⟨w.heap.size + 1, 1, none⟩ = some (.int .i64 0) := XR.out.cell 1
      have r2 : wr.cell? ⟨w.heap.size + 1, 2, none⟩ = some (.int .i64 0) := XR.out.cell 2
      have r3 : wr.cell? ⟨w.heap.size + 1, 3, none⟩ = some (.int .i64 0) := XR.out.cell 3
      have r4 : wr.cell? ⟨w.heap.size + 1, 4, none⟩ = some (.int .i64 0) := XR.out.cell 4
      have r5 : wr.cell? ⟨w.heap.size + 1, 5, none⟩ = some (.int .i64 0) := XR.out.cell 5
      have r6 : wr.cell? ⟨w.heap.size + 1, 6, none⟩ = some (.int .i64 0) := XR.out.cell 6
      have r7 : wr.cell? ⟨w.heap.size + 1, 7, none⟩ = some (.int .i64 0) := XR.out.cell 7
      have r8 : wr.cell? ⟨w.heap.size + 1, 8, none⟩ = some (.int .i64 0) := XR.out.cell 8
      have f0 := XR.out.free 0
      have f1 := XR.out.free 1
      have f2 := XR.out.free 2
      have f3 := XR.out.free 3
      have f4 := XR.out.free 4
      have f5 := XR.out.free 5
      have f6 := XR.out.free 6
      have f7 := XR.out.free 7
      have f8 := XR.out.free 8
      have HPR : Hid (Blk (putW wr (w.heap.size + 1) 0 [.int .i64 d0, .int .i64 d1, .int .i64 d2, .int .i64 d3, .int .i64 d4, .int .i64 d5, .int .i64 d6, .int .i64 d7, .int .i64 d8]) (w.heap.size + 1) 26 [.int .i64 d0, .int .i64 d1, .int .i64 d2, .int .i64 d3, .int .i64 d4, .int .i64 d5, .int .i64 d6, .int .i64 d7, .int .i64 d8]) := XR.out.put [.int .i64 d0, .int .i64 d1, .int .i64 d2, .int .i64 d3, .int .i64 d4, .int .i64 d5, .int .i64 d6, .int .i64 d7, .int .i64 d8] 0
      have KB : Hid (Below w.heap.size w (putW wr (w.heap.size + 1) 0 [.int .i64 d0, .int .i64 d1, .int .i64 d2, .int .i64 d3, .int .i64 d4, .int .i64 d5, .int .i64 d6, .int .i64 d7, .int .i64 d8])) := deep.putW_below [.int .i64 d0, .int .i64 d1, .int .i64 d2, .int .i64 d3, .int .i64 d4, .int .i64 d5, .int .i64 d6, .int .i64 d7, .int .i64 d8] XB.out (by omega)
      clear HE HO HS H0
      go_wp2_with fail
      refine bodyPost_ret (v := .agg #[.int .i64 d0, .int .i64 d1, .int .i64 d2, .int .i64 d3, .int .i64 d4, .int .i64 d5, .int .i64 d6, .int .i64 d7, .int .i64 d8]) (by simp [results, Tryd.results31, go_sem, r0, r1, r2, r3, r4, r5, r6, r7, r8]) rfl ⟨rfl, ?_⟩
      exact KB.out
end Go.Proofs.YtacfhchmoiphfaaDoor.scr
