/-
  What is said of a right call: the program's inWords. Conditions: the library's table of powers and the program's tables read as their texts lay them.
-/
import Derived.Test.YtlojigfhbfemfaaDoorScrPartI
import Derived.Test.YtlojigfhbfemfaaDoorScrCallI
import Derived.Test.YtlojigfhbfemfaaDoorScrSplit
import Derived.Laws.OwnMore
namespace Go.Proofs.YtlojigfhbfemfaaDoor.scr
open Go.RowKit Go.Deep Go.Sort
open Go.Proofs.YtlojigfhbfemfaaDoor
open Go.Proofs.YtlojigfhbfemfaaDoor.deep (Blk OwnC)
open Go.Proofs.YtlojigfhbfemfaaDoor.call (CallD ccall)
set_option linter.unusedVariables false
set_option maxRecDepth 100000

/-- what is said of a call -/
def wordsT (c : CallD) : ByteArray := ⟨(joinL 32 ((parts c (takesB c.q1) (takesB c.q1).size).map bl)).toArray⟩
theorem join_is (b : UInt8) : ∀ l : List (List UInt8), Lib.join l [b] = joinL b l
  | [] => rfl
  | [x] => by simp [Lib.join, joinL]
  | x :: y :: t => by
    have := join_is b (y :: t)
    rw [joinL, ← this]
    simp [Lib.join]
theorem words_is (c : CallD) : (⟨(Lib.join ((parts c (takesB c.q1) (takesB c.q1).size).map (·.data.toList)) (⟨#[32]⟩ : ByteArray).data.toList).toArray⟩ : ByteArray) = wordsT c := by
  unfold wordsT
  rw [show (⟨#[32]⟩ : ByteArray).data.toList = [32] from by simp, join_is]
  rfl
/-- it is the text of a call that can be said -/
theorem words_text {c : CallD} (h : (callT c).size ≠ 0) : callT c = wordsT c := by
  have hc : (callB c && plainB c) = true := by
    cases hc : callB c && plainB c with
    | false => exact absurd (by rw [callT_off hc]; rfl) h
    | true => rfl
  rw [Bool.and_eq_true] at hc
  have hon := callT_on hc.1 hc.2
  cases ht : textTo c (headT c) (takesB c.q1) (takesB c.q1).size with
  | none => exact absurd (by rw [hon, ht]; rfl) h
  | some t =>
    have e : callT c = t := by rw [hon, ht]; rfl
    rw [e]
    refine bl_inj ?_
    rw [(text_parts c _ _ t (Nat.le_refl _) ht).1]
    unfold wordsT
    rw [bl_of]
theorem joinL_len (b : UInt8) (m : Nat) : ∀ l : List (List UInt8), (∀ x ∈ l, x.length ≤ m) → (joinL b l).length ≤ l.length * (m + 1)
  | [], _ => by simp [joinL]
  | [x], h => by
    have := h x (by simp)
    simp [joinL]; omega
  | x :: y :: t, h => by
    have h1 := h x (by simp)
    have h2 := joinL_len b m (y :: t) (fun z hz => h z (List.mem_cons_of_mem _ hz))
    rw [joinL, List.length_append, List.length_cons]
    simp only [List.length_cons] at h2 ⊢
    rw [Nat.add_mul, Nat.add_mul] at *
    omega
theorem argsTo_size {c : CallD} (h : Small c) (g : ByteArray) : ∀ n, ∀ y ∈ argsTo c g n, y.size ≤ 26
  | 0, y, hy => by simp [argsTo] at hy
  | n + 1, y, hy => by
    by_cases hl : n < g.size
    · rw [args_step hl] at hy
      rcases List.mem_append.1 hy with hy | hy
      · exact argsTo_size h g n y hy
      · rw [List.mem_singleton.1 hy]; exact arg_size c h _
    · have e : argsTo c g (n + 1) = argsTo c g n := by rw [argsTo, dif_neg hl]
      rw [e] at hy; exact argsTo_size h g n y hy
theorem parts_size {c : CallD} (h : Small c) (g : ByteArray) (n : Nat) : ∀ y ∈ parts c g n, y.size ≤ 26 := by
  intro y hy
  simp only [parts, List.mem_append, List.mem_cons, List.not_mem_nil, or_false] at hy
  rcases hy with (rfl | rfl) | hy
  · have := text_size c.q0; omega
  · have := name_size c.q1; omega
  · exact argsTo_size h g n y hy
theorem parts_len (c : CallD) (g : ByteArray) (i : Nat) (h : i ≤ g.size) : (parts c g i).length = i + 2 := by
  simp only [parts, List.length_append, List.length_cons, List.length_nil]
  rw [args_len c g i h]; omega
theorem parts_step {c : CallD} {g : ByteArray} {i : Nat} (h : i < g.size) : parts c g (i + 1) = parts c g i ++ [argT c (g[i]!.toNat : Int)] := by
  simp only [parts]
  rw [args_step h, List.append_assoc, getElem!_pos g i h]
theorem words_size {c : CallD} (h : Small c) : (wordsT c).size ≤ 200 := by
  have h1 := joinL_len 32 26 ((parts c (takesB c.q1) (takesB c.q1).size).map bl) (fun x hx => by
    obtain ⟨y, hy, rfl⟩ := List.mem_map.1 hx
    rw [bl_size]; exact parts_size h _ _ y hy)
  have h2 := takes_size c.q1
  rw [List.length_map, parts_len c _ _ (Nat.le_refl _)] at h1
  have h3 : (wordsT c).size = (joinL 32 ((parts c (takesB c.q1) (takesB c.q1).size).map bl)).length := by rw [← bl_size]; unfold wordsT; rw [bl_of]
  rw [h3]
  have : ((takesB c.q1).size + 2) * (26 + 1) ≤ 6 * 27 := Nat.mul_le_mul (by omega) (by omega)
  omega
theorem iter_ne {W : World} {K g : Nat} {s : ByteArray} {p : Nat} {v : Value} (h : W.heap[K]? = some (.stringIter s p)) (hc : W.cell? ⟨g, 0, none⟩ = some v) : g ≠ K := by
  intro e
  subst e
  simp [World.cell?, h] at hc
theorem own_block {a : Option Addr} {n c g : Nat} {v : Value} (h : v = .slice (some ⟨g, 0, none⟩) n c) : v.ownBlock = some g := by rw [h]; rfl

set_option maxHeartbeats 8000000 in
theorem impl_words (c : CallD) (hc : callB c = true) (w : World) (hp : Pow w) (hS : Say w) : Calls Tryd.prog 32 #[.agg (ccall c).toArray] w fun e w' => e = .returned (.string (wordsT c)) ∧ Below w.heap.size w w' := by
  have hq := callB_q hc
  have hsm := callB_small hc
  have HPA : Hid (∀ a W, Letter a → Pow W → Say W → Calls Tryd.prog 51 #[.agg (ccall c).toArray, .int .i32 a] W fun e w' => e = .returned (.string (argT c a)) ∧ Below W.heap.size W w') := fun a W ha h k => impl_part c hsm a ha W h k
  have HLT : Hid (∀ W, Calls Tryd.prog 25 #[.int .i64 c.q0] W fun e w' => e = .returned (.string (ltext.textS c.q0)) ∧ Below W.heap.size W w') := fun W => ltext.impl_text _ W
  have HP : Hid (Pow w) := hp
  have HS : Hid (Say w) := hS
  obtain ⟨j, hj⟩ : ∃ j : Nat, c.q1 = (j : Int) := ⟨c.q1.toNat, by omega⟩
  have hj13 : j < 13 := by omega
  have hnm : ∀ o, (w.alloc o).cell? ⟨0, j * 2, none⟩ = some (.string (nameB (j : Int))) := fun o => (hS.alloc o).name j hj13
  have htk : ∀ o, (w.alloc o).cell? ⟨0, j * 2 + 1, none⟩ = some (.string (takesB (j : Int))) := fun o => (hS.alloc o).takes j hj13
  rw [← hj] at hnm htk
  have hzg := takes_size c.q1
  have HGG : Hid (∀ i (h : i < (takesB c.q1).size), ((takesB c.q1)[i]'h).toNat < 128 ∧ Letter ((takesB c.q1)[i]!.toNat : Int)) := fun i h => ⟨letters_ascii h, takes_in _ i h⟩
  have HST : Hid (∀ i, i < (takesB c.q1).size → parts c (takesB c.q1) (i + 1) = parts c (takesB c.q1) i ++ [argT c ((takesB c.q1)[i]!.toNat : Int)]) := fun i hi => parts_step hi
  have H00 : Hid (parts c (takesB c.q1) 0 = [ltext.textS c.q0, nameB c.q1]) := by show _ = _; simp [parts, argsTo]
  have HLN : Hid (∀ i, i ≤ (takesB c.q1).size → (parts c (takesB c.q1) i).length = i + 2) := fun i hi => parts_len c _ i hi
  have HJN : Hid (∀ b2 (cp : Nat) W, (∀ i (hi : i < (parts c (takesB c.q1) (takesB c.q1).size).length), W.cell? ⟨b2, i, none⟩ = some (.string ((parts c (takesB c.q1) (takesB c.q1).size)[i]))) → b2 < W.heap.size → (takesB c.q1).size + 2 ≤ cp → Calls Tryd.prog 52 #[.slice (some ⟨b2, 0, none⟩) ((takesB c.q1).size + 2) cp, .string ⟨#[32]⟩] W fun e w' => e = .returned (.string (wordsT c)) ∧ Below W.heap.size W w') := fun b2 cp W h1 h2 h3 => by
    have hl := parts_len c (takesB c.q1) _ (Nat.le_refl _)
    have hw := words_size hsm
    have := Tryd.strings_Join b2 0 cp (parts c (takesB c.q1) (takesB c.q1).size) ⟨#[32]⟩ W (fun k x hk => by
      have hk2 := (List.getElem?_eq_some_iff.1 hk).1
      rw [Nat.zero_add, h1 k hk2]
      rw [List.getElem?_eq_getElem hk2] at hk
      rw [Option.some.inj hk]) h2 (by omega) (by omega) (by
      have h5 : (wordsT c).size = (Lib.join ((parts c (takesB c.q1) (takesB c.q1).size).map (·.data.toList)) (⟨#[32]⟩ : ByteArray).data.toList).length := by rw [← words_is c, ← bl_size, bl_of]
      omega)
    rw [hl, words_is c] at this
    exact this
  obtain ⟨T, hT⟩ : ∃ T, T = wordsT c := ⟨_, rfl⟩
  rw [← hT] at HJN ⊢
  generalize takesB c.q1 = gg at *
  generalize nameB c.q1 = nm at *
  obtain ⟨PP, hPP⟩ : ∃ PP, PP = parts c gg := ⟨_, rfl⟩
  rw [← hPP] at HST H00 HLN HJN
  obtain ⟨AA, hAA⟩ : ∃ AA, AA = argT c := ⟨_, rfl⟩
  rw [← hAA] at HST HPA
  generalize ltext.textS c.q0 = lt at *
  have hjI : (j : Int) < 13 := by omega
  clear hT hPP hAA hq hsm hc hp hS
  obtain ⟨q0, q1, q2, q3, q4, q5, q6, q7, q8⟩ := c
  simp only [ccall] at *
  subst hj
  have hjt : ((j : Int).toNat) = j := by omega
  obtain ⟨i0, hi, hz0, hz1, hz2⟩ := info_parts info_st
  go_enter Tryd.func32, Tryd.ntmps32
  go_wp2_with fail
  obtain ⟨V, hV⟩ : ∃ V, V = (w.alloc (.cells #[.int .i64 q0, .int .i64 (j : Int), .int .i64 q2, .int .i64 q3, .int .i64 q4, .int .i64 q5, .int .i64 q6, .int .i64 q7, .int .i64 q8] 32)).alloc (.cells #[.string nm, .string gg] 85) := ⟨_, rfl⟩
  have HA : Hid (Blk V w.heap.size 32 [.int .i64 q0, .int .i64 (j : Int), .int .i64 q2, .int .i64 q3, .int .i64 q4, .int .i64 q5, .int .i64 q6, .int .i64 q7, .int .i64 q8]) := by rw [hV]; exact (deep.blk_new w _ _).later (below_one _ _)
  have hs1 : (w.alloc (.cells #[.int .i64 q0, .int .i64 (j : Int), .int .i64 q2, .int .i64 q3, .int .i64 q4, .int .i64 q5, .int .i64 q6, .int .i64 q7, .int .i64 q8] 32)).heap.size = w.heap.size + 1 := by simp
  have HH : Hid (Blk V (w.heap.size + 1) 85 [.string nm, .string gg]) := by rw [hV, ← hs1]; exact deep.blk_new _ _ _
  have HBV : Hid (Below w.heap.size w V) := by rw [hV]; exact deep.below2 w _ _
  have HPV : Hid (Pow V) := HP.out.later HBV.out
  have HSV : Hid (Say V) := HS.out.later HBV.out
  rw [← hV]
  have hVs : V.heap.size = w.heap.size + 2 := by rw [hV]; simp
  clear hV hs1 hnm htk HP HS
  have v0 : V.cell? ⟨w.heap.size, 0, none⟩ = some (.int .i64 q0) := HA.out.cell 0
  have v1 : V.cell? ⟨w.heap.size + 1, 0, none⟩ = some (.string nm) := HH.out.cell 0
  have hl1 : w.heap.size + 1 < V.heap.size := by omega
  have hl0 : w.heap.size < V.heap.size := by omega
  go_cut [4] from 11 to 16 (fun x4 wx => ∃ wm, x4 = .slice (some ⟨wm.heap.size, 0, none⟩) 2 2 ∧ wx = wm.alloc (.cells #[.string lt, .string nm] 9) ∧ Hid (Below V.heap.size V wm))
  case first =>
    go_region_with (go_at_call 25; refine Calls.mono (HLT.out _) ?_; rintro e wA ⟨rfl, hbA⟩; have hqA : Below V.heap.size V wA := Below.trans (Below.drew (Below.refl V.heap.size V)) hbA; have nmA : wA.cell? ⟨w.heap.size + 1, 0, none⟩ = some (.string nm) := (hqA.cell (p := ⟨w.heap.size + 1, 0, none⟩) hl1).trans v1; have HQA : Hid (Below V.heap.size V wA) := hqA; clear hqA hbA)
    all_goals (go_wp2_with fail)
    all_goals go_meet
    all_goals exact ⟨wA, rfl, rfl, HQA.out⟩
  case rest =>
    obtain ⟨wm, rfl, rfl, HQ⟩ := hcut
    have hms : V.heap.size ≤ wm.heap.size := HQ.out.size
    obtain ⟨w3, hw3⟩ : ∃ W, W = wm.alloc (.cells #[.string lt, .string nm] 9) := ⟨_, rfl⟩
    have HB3 : Hid (Below wm.heap.size wm w3) := by rw [hw3]; exact below_one _ _
    have HSL : Hid (Strs wm.heap.size w3 (.slice (some ⟨wm.heap.size, 0, none⟩) 2 2) (PP 0)) := by
      rw [H00.out, hw3]
      exact ⟨by simp [strV], World.ownsRow_lit (size := 1) wm #[.string lt, .string nm] 2 (Nat.le_refl _) (by unfold maxLen; omega) rfl⟩
    have HHM : Hid (Blk wm (w.heap.size + 1) 85 [.string nm, .string gg]) := HH.out.later HQ.out
    have HAM : Hid (Blk wm w.heap.size 32 [.int .i64 q0, .int .i64 (j : Int), .int .i64 q2, .int .i64 q3, .int .i64 q4, .int .i64 q5, .int .i64 q6, .int .i64 q7, .int .i64 q8]) := HA.out.later HQ.out
    have HPM : Hid (Pow wm) := HPV.out.later HQ.out
    have HSM : Hid (Say wm) := HSV.out.later HQ.out
    have HBM : Hid (Below w.heap.size w wm) := below_tr HBV.out HQ.out
    have h31 : w3.cell? ⟨w.heap.size + 1, 1, none⟩ = some (.string gg) := (HHM.out.later HB3.out).cell 1
    rw [← hw3]
    have h3s : w3.heap.size = wm.heap.size + 1 := by rw [hw3]; simp
    clear hw3 HQ HA HH HBV HPV HSV v0 v1
    go_wp2_with fail
    obtain ⟨V5, hV5⟩ : ∃ V, V = w3.iter gg 0 := ⟨_, rfl⟩
    have hb5 : Below w3.heap.size w3 V5 := by rw [hV5]; exact below_one _ _
    have XI : Hid (V5.heap[wm.heap.size + 1]? = some (.stringIter gg 0)) := by
      show _ = _
      rw [hV5, ← h3s]; exact World.iter_heap _ _ _
    have XL : Hid (Strs wm.heap.size V5 (.slice (some ⟨wm.heap.size, 0, none⟩) 2 2) (PP 0)) := HSL.out.later hb5
    have XB : Hid (Below wm.heap.size wm V5) := below_tr HB3.out hb5
    rw [← hV5]
    clear hb5 hV5 HSL HB3 h31 h3s w3
    obtain ⟨M, hM⟩ : ∃ M, M = wm.heap.size := ⟨_, rfl⟩
    have HMB : Hid (∀ W, Below M wm W → Blk W w.heap.size 32 [.int .i64 q0, .int .i64 (j : Int), .int .i64 q2, .int .i64 q3, .int .i64 q4, .int .i64 q5, .int .i64 q6, .int .i64 q7, .int .i64 q8] ∧ Pow W ∧ Say W ∧ Below w.heap.size w W) := fun W h => by
      rw [hM] at h
      exact ⟨HAM.out.later h, HPM.out.later h, HSM.out.later h, below_tr HBM.out h⟩
    have hwM : w.heap.size + 2 ≤ M := by omega
    rw [← hM] at XI XL XB ⊢
    clear hM HAM HPM HSM HBM HHM hms hVs hl0 hl1 V
    go_loopw [4, 6] (fun t4 _ wr => ∃ (i : Nat) (v : Value), v = t4 ∧ i ≤ gg.size ∧ wr.heap[M + 1]? = some (.stringIter gg i) ∧ Hid (Strs M wr v (PP i)) ∧ Hid (Below M wm wr)) (fun _ _ wr => gg.size - wr.iterPos (M + 1))
    case atStart => exact ⟨0, _, rfl, by omega, XI.out, XL.out, XB.out⟩
    case round =>
      obtain ⟨i, v, rfl, hi1, hit, YL, YB⟩ := hrel
      clear XI XL XB
      have hKlt : M + 1 < wr.heap.size := (Array.getElem?_eq_some_iff.1 hit).1
      by_cases hig : i < gg.size
      · have hasc := (HGG.out i hig).1
        have hlet := (HGG.out i hig).2
        have hnx : ∀ ty, (Instr.next (.pointer (some ⟨M + 1, 0, none⟩)) true ty).run Tryd.prog wr = _ := fun ty => Lib.run_next_ascii_at wr (M + 1) gg i ty hit hig hasc
        obtain ⟨W2, hW2⟩ : ∃ W, W = wr.iterAt (M + 1) gg (i + 1) := ⟨_, rfl⟩
        have hot0 : Only (M + 1) wr W2 := by rw [hW2]; exact only_iter _ _ _ _
        have hit2 : W2.heap[M + 1]? = some (.stringIter gg (i + 1)) := by rw [hW2]; exact Lib.iterAt_heap wr (M + 1) gg i (i + 1) hit
        have hpl := HLN.out i (by omega)
        obtain ⟨g, cp, hvq, hgM, hgl, hgc⟩ := YL.out.at (by omega)
        have hgK : g ≠ M + 1 := iter_ne hit (hgc 0 (by omega))
        have ZL : Hid (Strs M W2 v (PP i)) := by
          refine ⟨YL.out.len, World.ownsRow.kept YL.out.row (row := some (M + 1)) ⟨by rw [hW2]; rfl, by rw [hW2]; rfl, by rw [hW2]; rfl, hot0.size, fun k hk hne => hot0.other k (fun e => hne (by rw [e])) hk⟩ (.inr (by rw [hvq]; intro e; exact hgK (Option.some.inj e)))⟩
        have ZB : Hid (Below M wm W2) := hot0.below _ _ YB.out (by omega)
        rw [← hW2] at hnx
        obtain ⟨ZA, ZP, ZS, ZW⟩ := HMB.out W2 ZB.out
        have HPT : Hid _ := HPA.out (gg[i]!.toNat : Int) W2 hlet ZP ZS
        have hgi : ((gg[i]'hig).toNat : Int) = (gg[i]!.toNat : Int) := by rw [getElem!_pos gg i hig]
        rw [← hgi] at HPT
        have HSI := HST.out i hig
        rw [← hgi] at HSI
        have HSI2 : Hid _ := HSI
        have ZAH : Hid _ := ZA
        have z0 : W2.cell? ⟨w.heap.size, 0, none⟩ = some (.int .i64 q0) := ZA.cell 0
        have z1 : W2.cell? ⟨w.heap.size, 1, none⟩ = some (.int .i64 (j : Int)) := ZA.cell 1
        have z2 : W2.cell? ⟨w.heap.size, 2, none⟩ = some (.int .i64 q2) := ZA.cell 2
        have z3 : W2.cell? ⟨w.heap.size, 3, none⟩ = some (.int .i64 q3) := ZA.cell 3
        have z4 : W2.cell? ⟨w.heap.size, 4, none⟩ = some (.int .i64 q4) := ZA.cell 4
        have z5 : W2.cell? ⟨w.heap.size, 5, none⟩ = some (.int .i64 q5) := ZA.cell 5
        have z6 : W2.cell? ⟨w.heap.size, 6, none⟩ = some (.int .i64 q6) := ZA.cell 6
        have z7 : W2.cell? ⟨w.heap.size, 7, none⟩ = some (.int .i64 q7) := ZA.cell 7
        have z8 : W2.cell? ⟨w.heap.size, 8, none⟩ = some (.int .i64 q8) := ZA.cell 8
        have hK2 : M + 1 < W2.heap.size := (Array.getElem?_eq_some_iff.1 hit2).1
        clear hgi hlet YL YB hW2 hot0 HSI ZA ZP ZS ZW hgM hgl hgc hgK hvq
        generalize AA ((gg[i]'hig).toNat : Int) = x at *
        go_wp2_with fail
        refine Calls.mono HPT.out ?_
        rintro e wt ⟨rfl, hbt⟩
        have hitt : wt.heap[M + 1]? = some (.stringIter gg (i + 1)) := (hbt.block (M + 1) hK2).trans hit2
        have TL : Hid (Strs M wt v (PP i)) := ZL.out.later hbt
        have TB : Hid (Below M wm wt) := ZB.out.trans (hbt.mono (by omega))
        have hMt : M ≤ wt.heap.size := by have := hbt.size; omega
        obtain ⟨g, cp, hvq, hgM, hgl, hgc⟩ := TL.out.at (by omega)
        have hgK : g ≠ M + 1 := iter_ne hitt (hgc 0 (by omega))
        have HXL : Hid (((PP i).map strV).length ≤ 6) := by show _ ≤ _; rw [List.length_map, hpl]; omega
        have HPQ : Hid (∀ (v' : Value) (w1 : World) (o : Obj), w1.ownsRow M 9 1 v' (((PP i).map strV).length + 1) (((PP i).map strV).flatten ++ strV x) → (wt.alloc o).grownBy w1 v.ownBlock → Strs M w1 v' (PP (i + 1)) ∧ Below M wm w1 ∧ w1.heap[M + 1]? = some (.stringIter gg (i + 1))) := fun v' w1 o h1 h2 => by
          obtain ⟨p1, p2⟩ := push_strs TL.out TB.out hMt h1 h2
          refine ⟨by rw [HSI2.out]; exact p1, p2, ?_⟩
          have hlt : M + 1 < wt.heap.size := (Array.getElem?_eq_some_iff.1 hitt).1
          rw [h2.block (M + 1) (by simp; omega) (by rw [hvq]; intro e; exact hgK (Option.some.inj e).symm)]
          exact (below_one wt o).block (M + 1) hlt |>.trans hitt
        have HRW : Hid (∀ o, (wt.alloc o).ownsRow M 9 1 v ((PP i).map strV).length ((PP i).map strV).flatten) := fun o => TL.out.row.alloc o
        clear hbt z0 z1 z2 z3 z4 z5 z6 z7 z8 HPT ZL ZB ZAH hvq hgM hgl hgc hgK hnx
        go_wp2_with (at_builtin; refine wpList_append_own _ rfl _ _ 65 rfl M 9 i0 (.string ⟨#[]⟩) 1 16 Tryd.underlying65 hi hz0 hz1 hz2 rfl (by decide) _ _ _ rfl (HRW.out _) ⟨wt.heap.size, 0, none⟩ 1 1 (strV x) rfl rfl (deep.new_cells wt _ _) (strV_one _) (by have := HXL.out; unfold maxLen; omega) (by have := HXL.out; omega) (by simp; omega) ?_; intro v' w4 hown hgrow _; have HQ : Hid _ := HPQ.out v' w4 _ hown hgrow; clear hown hgrow)
        have hit4 := HQ.out.2.2
        go_roundw
        case rel => exact ⟨i + 1, _, rfl, by omega, hit4, HQ.out.1, HQ.out.2.1⟩
        case measure =>
          simp only [World.iterPos, hit, hit4]
          omega
      · obtain rfl : i = gg.size := by omega
        have hnx : ∀ ty, (Instr.next (.pointer (some ⟨M + 1, 0, none⟩)) true ty).run Tryd.prog wr = _ := fun ty => Lib.run_next_end_at wr (M + 1) gg gg.size ty hit (by omega)
        have hpl := HLN.out gg.size (Nat.le_refl _)
        obtain ⟨g, cp, hvq, hgM, hgl, hgc⟩ := YL.out.at (by omega)
        have hcap : gg.size + 2 ≤ cp := by
          have h1 := YL.out.row
          rw [hvq] at h1
          rcases h1 with ⟨_, ⟨h2, _⟩ | ⟨g', c', cur, h2, h3, h4, h5, h6⟩⟩
          · cases h2
          · simp only [Value.slice.injEq] at h2
            rw [List.length_map] at h2 h5
            omega
        have HJ : Hid _ := HJN.out g cp wr hgc hgl hcap
        have HBE : Hid _ := (HMB.out wr YB.out).2.2.2
        rw [hpl] at hvq
        clear hgM hgl hgc HMB HJN HST HGG HPA
        subst hvq
        go_wp2_with fail
        refine Calls.mono HJ.out ?_
        rintro e w5 ⟨rfl, hb5⟩
        have HB5 : Hid (Below w.heap.size w w5) := below_tr HBE.out hb5
        clear hb5
        go_wp2_with fail
        go_ret
        exact ⟨rfl, HB5.out⟩
end Go.Proofs.YtlojigfhbfemfaaDoor.scr
