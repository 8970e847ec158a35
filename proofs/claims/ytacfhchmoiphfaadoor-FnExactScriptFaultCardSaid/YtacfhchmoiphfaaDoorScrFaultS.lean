/-
  A script is read: the specification's l12Read (the fault that it tells) and ScriptFault. No condition.
-/
import Derived.Test.YtacfhchmoiphfaaDoorScrLines
import Derived.Deep.AppendLies
import Derived.Laws.OwnMore
namespace Go.Proofs.YtacfhchmoiphfaaDoor.scr
open Go.RowKit Go.Deep Go.Sort
open Go.Proofs.YtacfhchmoiphfaaDoor
open Go.Proofs.YtacfhchmoiphfaaDoor.deep (Blk putW putL OwnC)
open Go.Proofs.YtacfhchmoiphfaaDoor.call (CallD ccall)
set_option linter.unusedVariables false
set_option maxRecDepth 100000

def ReadP (s : ByteArray) (w : World) (e : Ending) (w' : World) : Prop := ∃ seed v line code, e = .returned (.tuple #[.int .i64 seed, v, .agg #[.string ⟨#[]⟩, .int .i64 line, .int .i64 code]]) ∧ Told s line code ∧ Below w.heap.size w w'
theorem info_cl : (Tryd.prog.info? 26).map (fun i => (i.zero, i.size, i.bytes)) = some (some (.agg #[.int .i64 0, .int .i64 0, .int .i64 0, .int .i64 0, .int .i64 0, .int .i64 0, .int .i64 0, .int .i64 0, .int .i64 0]), 9, 72) := by kernel_rfl
theorem told_at {s : ByteArray} {k : Nat} {code : Int} (h8 : s.size ≤ 8000) (hk : k < (cutS s 10).length) (h : ∀ i, i < k → codeA (cutS s 10) i = 0) (hc : codeA (cutS s 10) k = code) (h0 : code ≠ 0) : Told s (k : Int) code := .inr ⟨h8, .inl ⟨k, hk, h, hc, h0, rfl⟩⟩
theorem told_ok {s : ByteArray} (h8 : s.size ≤ 8000) (h : ∀ i, i < (cutS s 10).length → codeA (cutS s 10) i = 0) : Told s 0 0 := .inr ⟨h8, .inr ⟨h, rfl, rfl⟩⟩
theorem codeA_mid {l : List ByteArray} {i : Nat} (h : i + 1 < l.length) : codeA l i = codeL i (l.getD i e0) := if_pos h
theorem codeA_end {l : List ByteArray} {i : Nat} (h : i + 1 = l.length) : codeA l i = codeE i (l.getD i e0) := if_neg (by omega)
theorem kern_ne {x : ByteArray} (h : ¬ x = kern6) : (x.toList == kern6.toList) = false := str_ne (s := kern6) h
theorem kern_list : kern6.toList = [107, 101, 114, 110, 101, 108] := by rw [ByteArray.toList_eq]; rfl

set_option maxHeartbeats 8000000 in
theorem spec_lread (s : ByteArray) (hs : s.size ≤ 9223372036854775807) (w : World) : Calls Tryd.prog 44 #[.string s] w (ReadP s w) := by
  have HZ0 : Hid (∀ o, Blk ((w.alloc (.cells #[.string ⟨#[]⟩, .int .i64 0, .int .i64 0] 45)).alloc o) w.heap.size 45 [.string ⟨#[]⟩, .int .i64 0, .int .i64 0]) := fun o => (deep.blk_new w _ _).later (below_one _ _)
  have HB0 : Hid (∀ o, Below w.heap.size w ((w.alloc (.cells #[.string ⟨#[]⟩, .int .i64 0, .int .i64 0] 45)).alloc o)) := fun o => deep.below2 w _ _
  by_cases h8 : 8000 < s.size
  · have HT : Hid (Told s 0 2) := .inl ⟨h8, rfl, rfl⟩
    unfold ReadP
    go_enter Tryd.func44, Tryd.ntmps44
    go_wp2
    exact bodyPost_ret (v := .tuple #[.int .i64 0, (.slice (some ⟨w.heap.size + 1, 0, none⟩) 0 0), .agg #[.string ⟨#[]⟩, .int .i64 0, .int .i64 2]]) (by simp [results, Tryd.results44, go_sem]) rfl ⟨_, _, _, _, rfl, HT.out, deep.below2 w _ _⟩
  have h8' : s.size ≤ 8000 := by omega
  have hlen0 := cutS_len s 10
  have hpos0 := cutS_pos s 10
  have HSZ : Hid (∀ x ∈ cutS s 10, x.size ≤ 8000) := fun x hx => Nat.le_trans (cutS_size s 10 x hx) h8'
  have HSP : Hid (∀ W, Calls Tryd.prog 35 #[.string s, .int .u8 10] W fun e w' => ∃ v, e = .returned v ∧ Strs W.heap.size w' v (cutS s 10) ∧ Below W.heap.size W w') := fun W => spec_split s 10 h8' W
  have HTA : Hid (∀ (k : Nat) (code : Int), k < (cutS s 10).length → (∀ i, i < k → codeA (cutS s 10) i = 0) → codeA (cutS s 10) k = code → code ≠ 0 → Told s (k : Int) code) := fun k code h1 h2 h3 h4 => told_at h8' h1 h2 h3 h4
  have HTO : Hid ((∀ i, i < (cutS s 10).length → codeA (cutS s 10) i = 0) → Told s 0 0) := fun h => told_ok h8' h
  unfold ReadP
  obtain ⟨P, hP⟩ : ∃ P, P = Told s := ⟨_, rfl⟩
  rw [← hP] at HTA HTO ⊢
  clear hP
  obtain ⟨l, hl⟩ : ∃ l, l = cutS s 10 := ⟨_, rfl⟩
  rw [← hl] at hlen0 hpos0 HSZ HSP HTA HTO
  clear hl
  obtain ⟨n, hn⟩ : ∃ n, n = l.length := ⟨_, rfl⟩
  have HNL : Hid (n = l.length) := hn
  rw [← hn] at hlen0 hpos0 HTA HTO
  clear hn
  obtain ⟨i0, hi, hz0, hz1, hz2⟩ := info_parts info_cl
  go_enter Tryd.func44, Tryd.ntmps44
  go_wp2_with fail
  obtain ⟨V, hV⟩ : ∃ V, V = (w.alloc (.cells #[.string ⟨#[]⟩, .int .i64 0, .int .i64 0] 45)).alloc (.cells #[] 26) := ⟨_, rfl⟩
  have HVZ : Hid (Blk V w.heap.size 45 [.string ⟨#[]⟩, .int .i64 0, .int .i64 0]) := by rw [hV]; exact HZ0.out _
  have HVB : Hid (Below w.heap.size w V) := by rw [hV]; exact HB0.out _
  have hs1 : (w.alloc (.cells #[.string ⟨#[]⟩, .int .i64 0, .int .i64 0] 45)).heap.size = w.heap.size + 1 := by simp
  have HVO : Hid (OwnC 26 9 (w.heap.size + 1) V (.slice (some ⟨w.heap.size + 1, 0, none⟩) 0 0) []) := by
    refine ⟨by simp, ?_⟩
    rw [hV, ← hs1]
    exact World.ownsRow_lit (size := 9) (w.alloc (.cells #[.string ⟨#[]⟩, .int .i64 0, .int .i64 0] 45)) #[] 0 (Nat.le_refl _) (by unfold maxLen; omega) rfl
  have hVs : V.heap.size = w.heap.size + 2 := by rw [hV]; simp
  rw [← hV]
  clear hV hs1 HZ0 HB0
  refine Calls.mono (HSP.out _) ?_
  rintro e w1 ⟨v1, rfl, hst1, hb1⟩
  obtain ⟨g, cp, rfl, hgb, hg, hc⟩ := hst1.at (by rw [← HNL.out]; exact hpos0)
  have HR1 : Hid (RowF g l w1) := ⟨hg, hc⟩
  have H1Z : Hid (Blk w1 w.heap.size 45 [.string ⟨#[]⟩, .int .i64 0, .int .i64 0]) := HVZ.out.later hb1
  have H1O : Hid (OwnC 26 9 (w.heap.size + 1) w1 (.slice (some ⟨w.heap.size + 1, 0, none⟩) 0 0) []) := HVO.out.later hb1
  have H1B : Hid (Below w.heap.size w w1) := below_tr HVB.out hb1
  have hgw : w.heap.size + 1 < g := by omega
  have f0 : w1.cell? ⟨g, 0, none⟩ = some (.string (l.getD 0 e0)) := by rw [getD_at (by rw [← HNL.out]; omega)]; exact hc 0 (by rw [← HNL.out]; omega)
  have hx8 : (l.getD 0 e0).size ≤ 8000 := by rw [getD_at (by rw [← HNL.out]; omega)]; exact HSZ.out _ (List.getElem_mem _)
  rw [← HNL.out]
  have hc1len := cutS_len (l.getD 0 e0) 32
  have hc1pos := cutS_pos (l.getD 0 e0) 32
  have HSP2 : Hid (∀ W, Calls Tryd.prog 35 #[.string (l.getD 0 e0), .int .u8 32] W fun e w' => ∃ v, e = .returned v ∧ Strs W.heap.size w' v (cutS (l.getD 0 e0) 32) ∧ Below W.heap.size W w') := fun W => spec_split _ 32 hx8 W
  have HHD : Hid (HeadC (l.getD 0 e0) ↔ (cutS (l.getD 0 e0) 32).length = 2 ∧ (cutS (l.getD 0 e0) 32).getD 0 e0 = kern6 ∧ 0 ≤ numT ((cutS (l.getD 0 e0) 32).getD 1 e0)) := Iff.rfl
  have HSZ2 : Hid (∀ x ∈ cutS (l.getD 0 e0) 32, x.size ≤ 8000) := fun x hx => Nat.le_trans (cutS_size _ 32 x hx) hx8
  have HCB : Hid (¬ HeadC (l.getD 0 e0) → codeH (l.getD 0 e0) = 3) := fun h => codeH_bad h
  have HCG : Hid (HeadC (l.getD 0 e0) → 65535 < numT ((cutS (l.getD 0 e0) 32).getD 1 e0) → codeH (l.getD 0 e0) = 1) := fun h k => codeH_big h k
  have HCO : Hid (HeadC (l.getD 0 e0) → numT ((cutS (l.getD 0 e0) 32).getD 1 e0) ≤ 65535 → codeH (l.getD 0 e0) = 0) := fun h k => codeH_ok h k
  have HA0 : Hid (codeA l 0 = if n < 2 then 3 else codeH (l.getD 0 e0)) := by
    show _ = _
    by_cases h : n < 2
    · rw [if_pos h, codeA_end (by rw [← HNL.out]; omega)]; rfl
    · rw [if_neg h, codeA_mid (by rw [← HNL.out]; omega), codeL_head]
  obtain ⟨m1, hm1⟩ : ∃ m, m = cutS (l.getD 0 e0) 32 := ⟨_, rfl⟩
  rw [← hm1] at hc1len hc1pos HSP2 HHD HSZ2 HCG HCO
  clear hm1
  obtain ⟨HDP, hHDP⟩ : ∃ h, h = HeadC (l.getD 0 e0) := ⟨_, rfl⟩
  rw [← hHDP] at HHD HCB HCG HCO
  clear hHDP
  generalize codeH (l.getD 0 e0) = ch at *
  obtain ⟨x0, hx0⟩ : ∃ x, x = l.getD 0 e0 := ⟨_, rfl⟩
  rw [← hx0] at f0 HSP2 hx8 hc1len
  clear hx0 hst1 hc hb1 HVZ HVB HVO
  go_wp2_with fail
  refine Calls.mono (HSP2.out _) ?_
  rintro e w2 ⟨v2, rfl, hst2, hb2⟩
  obtain ⟨g2, cp2, rfl, hg2b, hg2, hc2⟩ := hst2.at hc1pos
  have HR2 : Hid (RowF g l w2) := HR1.out.later hb2
  have H2Z : Hid (Blk w2 w.heap.size 45 [.string ⟨#[]⟩, .int .i64 0, .int .i64 0]) := H1Z.out.later hb2
  have H2O : Hid (OwnC 26 9 (w.heap.size + 1) w2 (.slice (some ⟨w.heap.size + 1, 0, none⟩) 0 0) []) := H1O.out.later hb2
  have H2B : Hid (Below w.heap.size w w2) := below_tr H1B.out hb2
  have HM : Hid (∀ i (hi : i < m1.length), w2.cell? ⟨g2, i, none⟩ = some (.string m1[i])) := hc2
  obtain ⟨k1, hk1⟩ : ∃ k, k = m1.length := ⟨_, rfl⟩
  have HK1 : Hid (k1 = m1.length) := hk1
  rw [← hk1] at hc1pos hc1len ⊢
  clear hk1 hst2 hc2 hb2 HR1 H1Z H1O H1B f0 HSP HSP2
  have hn63 : (n : Int) ≤ 9223372036854775807 := by omega
  have hk63 : (k1 : Int) ≤ 9223372036854775807 := by omega
  have HF3 : Hid (codeA l 0 = 3 → P 0 3) := fun h => HTA.out 0 3 hpos0 (fun i hi => absurd hi (by omega)) h (by decide)
  by_cases hn2 : n < 2
  · have HT3 : Hid (P 0 3) := HF3.out (by rw [HA0.out, if_pos hn2])
    clear HF3 HA0 HCB HCG HCO HHD HTA HTO HSZ HSZ2 HM HR2 H2O
    have z0 : w2.cell? ⟨w.heap.size, 0, none⟩ = some (.string ⟨#[]⟩) := H2Z.out.cell 0
    have y0 := H2Z.out.free 0
    have z1 : w2.cell? ⟨w.heap.size, 1, none⟩ = some (.int .i64 0) := H2Z.out.cell 1
    have y1 := H2Z.out.free 1
    have z2 : w2.cell? ⟨w.heap.size, 2, none⟩ = some (.int .i64 0) := H2Z.out.cell 2
    have y2 := H2Z.out.free 2
    have hltz := H2Z.out.lt
    go_wp2_with fail
    refine bodyPost_ret (v := .tuple #[.int .i64 0, (.slice (some ⟨w.heap.size + 1, 0, none⟩) 0 0), .agg #[.string ⟨#[]⟩, .int .i64 0, .int .i64 3]]) (by simp [results, Tryd.results44, go_sem, z0, z1, z2]) rfl ⟨_, _, _, _, rfl, HT3.out, ?_⟩
    exact deep.putW_below [.string ⟨#[]⟩, .int .i64 0, .int .i64 3] H2B.out (by omega) (b := 0)
  have hn2i : ¬ ((n : Int) < 2) := by omega
  have HF3b : Hid (¬ HDP → P 0 3) := fun h => HF3.out (by rw [HA0.out, if_neg hn2]; exact HCB.out h)
  by_cases hk2 : k1 = 2
  · have hk2e : ((k1 : Int) != 2) = false := by rw [hk2]; rfl
    have d0 : w2.cell? ⟨g2, 0, none⟩ = some (.string (m1.getD 0 e0)) := by rw [getD_at (by rw [← HK1.out]; omega)]; exact HM.out 0 (by rw [← HK1.out]; omega)
    have d1 : w2.cell? ⟨g2, 1, none⟩ = some (.string (m1.getD 1 e0)) := by rw [getD_at (by rw [← HK1.out]; omega)]; exact HM.out 1 (by rw [← HK1.out]; omega)
    have hk2i : (1 : Int) < (k1 : Int) := by omega
    have hk0i : (0 : Int) < (k1 : Int) := by omega
    have hy8 : (m1.getD 1 e0).size ≤ 8000 := by rw [getD_at (by rw [← HK1.out]; omega)]; exact HSZ2.out _ (List.getElem_mem _)
    have HK2 : Hid (k1 = 2) := hk2
    clear hk2
    by_cases hkn : m1.getD 0 e0 = kern6
    · have hq : ((m1.getD 0 e0).toList == kern6.toList) = true := str_eq hkn
      rw [kern_list] at hq
      have HNM : Hid (∀ W, Calls Tryd.prog 58 #[.string (m1.getD 1 e0)] W fun e w' => e = .returned (.int .i64 (numT (m1.getD 1 e0))) ∧ w' = W) := fun W => spec_num _ (by omega) W
      have HKN : Hid (m1.getD 0 e0 = kern6) := hkn
      clear hkn
      by_cases hnn : numT (m1.getD 1 e0) < 0
      · have HT3 : Hid (P 0 3) := HF3b.out fun h => by
          have := (HHD.out.1 h).2.2
          omega
        generalize numT (m1.getD 1 e0) = R at *
        generalize m1.getD 1 e0 = y1 at *
        generalize m1.getD 0 e0 = y0 at *
        clear HF3 HF3b HA0 HCB HCG HCO HHD HTA HTO HSZ HSZ2 HM HR2 H2O HKN
        have z0 : w2.cell? ⟨w.heap.size, 0, none⟩ = some (.string ⟨#[]⟩) := H2Z.out.cell 0
        have y0 := H2Z.out.free 0
        have z1 : w2.cell? ⟨w.heap.size, 1, none⟩ = some (.int .i64 0) := H2Z.out.cell 1
        have y1 := H2Z.out.free 1
        have z2 : w2.cell? ⟨w.heap.size, 2, none⟩ = some (.int .i64 0) := H2Z.out.cell 2
        have y2 := H2Z.out.free 2
        have hltz := H2Z.out.lt
        go_wp2_with (go_at_call 58; refine Calls.mono (HNM.out _) ?_; rintro e w3 ⟨rfl, rfl⟩)
        refine bodyPost_ret (v := .tuple #[.int .i64 0, (.slice (some ⟨w.heap.size + 1, 0, none⟩) 0 0), .agg #[.string ⟨#[]⟩, .int .i64 0, .int .i64 3]]) (by simp [results, Tryd.results44, go_sem, z0, z1, z2]) rfl ⟨_, _, _, _, rfl, HT3.out, ?_⟩
        exact deep.putW_below [.string ⟨#[]⟩, .int .i64 0, .int .i64 3] H2B.out (by omega) (b := 0)
      · have HDY : Hid HDP := HHD.out.2 ⟨by rw [← HK1.out]; exact HK2.out, HKN.out, by omega⟩
        by_cases hbig : 65535 < numT (m1.getD 1 e0)
        · have HT1 : Hid (P 0 1) := HTA.out 0 1 hpos0 (fun i hi => absurd hi (by omega)) (by rw [HA0.out, if_neg hn2]; exact HCG.out HDY.out hbig) (by decide)
          generalize numT (m1.getD 1 e0) = R at *
          generalize m1.getD 1 e0 = y1 at *
          generalize m1.getD 0 e0 = y0 at *
          clear HF3 HF3b HA0 HCB HCG HCO HHD HTA HTO HSZ HSZ2 HM HR2 H2O HKN
          have z0 : w2.cell? ⟨w.heap.size, 0, none⟩ = some (.string ⟨#[]⟩) := H2Z.out.cell 0
          have y0 := H2Z.out.free 0
          have z1 : w2.cell? ⟨w.heap.size, 1, none⟩ = some (.int .i64 0) := H2Z.out.cell 1
          have y1 := H2Z.out.free 1
          have z2 : w2.cell? ⟨w.heap.size, 2, none⟩ = some (.int .i64 0) := H2Z.out.cell 2
          have y2 := H2Z.out.free 2
          have hltz := H2Z.out.lt
          go_wp2_with (go_at_call 58; refine Calls.mono (HNM.out _) ?_; rintro e w3 ⟨rfl, rfl⟩)
          refine bodyPost_ret (v := .tuple #[.int .i64 0, (.slice (some ⟨w.heap.size + 1, 0, none⟩) 0 0), .agg #[.string ⟨#[]⟩, .int .i64 0, .int .i64 1]]) (by simp [results, Tryd.results44, go_sem, z0, z1, z2]) rfl ⟨_, _, _, _, rfl, HT1.out, ?_⟩
          exact deep.putW_below [.string ⟨#[]⟩, .int .i64 0, .int .i64 1] H2B.out (by omega) (b := 0)
        · have HC0 : Hid (codeA l 0 = 0) := by
            show _ = _
            rw [HA0.out, if_neg hn2]; exact HCO.out HDY.out (by omega)
          generalize numT (m1.getD 1 e0) = R at *
          generalize m1.getD 1 e0 = y1 at *
          generalize m1.getD 0 e0 = y0 at *
          have H2G : Hid (∀ o, (Value.slice (some ⟨w.heap.size + 1, 0, none⟩) 0 0).ownBlock = some o → o ≠ g) := fun o h => by
            have : w.heap.size + 1 = o := Option.some.inj h
            omega
          clear HF3 HF3b HA0 HCB HCG HCO HHD HSZ2 HM HKN
          go_wp2_with (go_at_call 58; refine Calls.mono (HNM.out _) ?_; rintro e w3 ⟨rfl, rfl⟩)
          go_loopw [5, 9, 10, 11] (fun t5 t9 _ _ wr => ∃ (i : Nat) (v : Value) (css : List (List Value)), v = t5 ∧ t9 = .int .i64 i ∧ 1 ≤ i ∧ i + 1 ≤ n ∧ css.length + 1 = i ∧ i ≤ 61 ∧ Hid (∀ k, k < i → codeA l k = 0) ∧ Hid (RowF g l wr) ∧ Hid (∀ o, v.ownBlock = some o → o ≠ g) ∧ Hid (OwnC 26 9 (w.heap.size + 1) wr v css) ∧ Hid (Blk wr w.heap.size 45 [.string ⟨#[]⟩, .int .i64 0, .int .i64 0]) ∧ Hid (Below w.heap.size w wr)) (fun _ t9 _ _ _ => n - (intOf t9).toNat)
          case atStart => exact ⟨1, _, [], rfl, rfl, by omega, by omega, rfl, by omega, fun k hk => by
            obtain rfl : k = 0 := by omega
            exact HC0.out, HR2.out, H2G.out, H2O.out, H2Z.out, H2B.out⟩
          case round =>
            obtain ⟨i, v, css, rfl, rfl, hi1, hin, hcl, hi61, XC, XR, XG, XO, XZ, XB⟩ := hrel
            clear HR2 H2G H2O H2Z H2B HC0
            have hii : (i : Int) < (n : Int) := by omega
            have fx : wr.cell? ⟨g, i, none⟩ = some (.string (l.getD i e0)) := by rw [getD_at (by rw [← HNL.out]; omega)]; exact XR.out.2 i (by rw [← HNL.out]; omega)
            have hx8 : (l.getD i e0).size ≤ 8000 := by rw [getD_at (by rw [← HNL.out]; omega)]; exact HSZ.out _ (List.getElem_mem _)
            have HCM : Hid (i + 1 < n → codeA l i = codeL i (l.getD i e0)) := fun h => codeA_mid (by rw [← HNL.out]; exact h)
            have HCE : Hid (i + 1 = n → codeA l i = codeE i (l.getD i e0)) := fun h => codeA_end (by rw [← HNL.out]; exact h)
            have HRD : Hid (∀ W, Calls Tryd.prog 12 #[.string (l.getD i e0)] W (ReadPost (l.getD i e0) W)) := fun W => spec_readc _ (by omega) W
            have HRO : Hid (∀ c code, Reads (l.getD i e0) c code → (code = 0 ↔ LineOK (l.getD i e0)) ∧ (code = 0 ∨ code = 3)) := fun c code h => reads_ok h hx8
            unfold ReadPost at HRD
            obtain ⟨RR, hRR⟩ : ∃ RR, RR = Reads (l.getD i e0) := ⟨_, rfl⟩
            rw [← hRR] at HRD HRO
            clear hRR
            generalize l.getD i e0 = x at *
            by_cases hla : i + 1 = n
            · have heq : ((i : Int) == (n : Int) - 1) = true := by simp; omega
              by_cases hxe : x.size = 0
              · have he1 := empty_of hxe
                obtain rfl := empty_yes (by omega : x.size < 1)
                have HTZ : Hid (P 0 0) := HTO.out fun k hk => by
                  by_cases e : k < i
                  · exact XC.out k e
                  · obtain rfl : k = i := by omega
                    rw [HCE.out hla, codeE, if_neg (by omega), if_pos hxe]
                have HLA : Hid (i + 1 = n) := hla
                clear HTA HTO HCM HCE HRD HRO XC XR XG hla
                have z0 : wr.cell? ⟨w.heap.size, 0, none⟩ = some (.string ⟨#[]⟩) := XZ.out.cell 0
                have y0 := XZ.out.free 0
                have z1 : wr.cell? ⟨w.heap.size, 1, none⟩ = some (.int .i64 0) := XZ.out.cell 1
                have y1 := XZ.out.free 1
                have z2 : wr.cell? ⟨w.heap.size, 2, none⟩ = some (.int .i64 0) := XZ.out.cell 2
                have y2 := XZ.out.free 2
                have hltz := XZ.out.lt
                go_wp2_with fail
                refine bodyPost_ret (v := .tuple #[.int .i64 R, v, .agg #[.string ⟨#[]⟩, .int .i64 0, .int .i64 0]]) (by simp [results, Tryd.results44, go_sem, z0, z1, z2]) rfl ⟨_, _, _, _, rfl, HTZ.out, ?_⟩
                exact deep.putW_below [.string ⟨#[]⟩, .int .i64 0, .int .i64 0] XB.out (by omega) (b := 0)
              · have he2 := full_of hxe
                have HTZ : Hid (P (i : Int) 3) := HTA.out i 3 (by omega) XC.out (by rw [HCE.out hla, codeE, if_neg (by omega), if_neg hxe]) (by decide)
                have HLA : Hid (i + 1 = n) := hla
                clear HTA HTO HCM HCE HRO XC XR XG hla
                go_wp2_with fail
                refine Calls.mono (HRD.out _) ?_
                rintro e w3 ⟨c, cd, rfl, _, hb3⟩
                have YZ : Hid (Blk w3 w.heap.size 45 [.string ⟨#[]⟩, .int .i64 0, .int .i64 0]) := XZ.out.later hb3
                have YB : Hid (Below w.heap.size w w3) := below_tr XB.out hb3
                clear hb3 XZ XB fx
                obtain ⟨q0, q1, q2, q3, q4, q5, q6, q7, q8⟩ := c
                unfold lineV
                simp only
                have z0 : w3.cell? ⟨w.heap.size, 0, none⟩ = some (.string ⟨#[]⟩) := YZ.out.cell 0
                have y0 := YZ.out.free 0
                have z1 : w3.cell? ⟨w.heap.size, 1, none⟩ = some (.int .i64 0) := YZ.out.cell 1
                have y1 := YZ.out.free 1
                have z2 : w3.cell? ⟨w.heap.size, 2, none⟩ = some (.int .i64 0) := YZ.out.cell 2
                have y2 := YZ.out.free 2
                have hltz := YZ.out.lt
                have HF : Hid (Blk ((((w3.setCell ⟨w.heap.size, 0, none⟩ (.string ⟨#[]⟩)).setCell ⟨w.heap.size, 1, none⟩ (.int .i64 (i : Int))).setCell ⟨w.heap.size, 2, none⟩ (.int .i64 3)).alloc (.cells #[.int .i64 q0, .int .i64 q1, .int .i64 q2, .int .i64 q3, .int .i64 q4, .int .i64 q5, .int .i64 q6, .int .i64 q7, .int .i64 q8, .int .i64 cd] 31)) w.heap.size 45 [.string ⟨#[]⟩, .int .i64 (i : Int), .int .i64 3]) := (YZ.out.put [.string ⟨#[]⟩, .int .i64 (i : Int), .int .i64 3] 0).later (below_one _ _)
                have HBF : Hid (Below w.heap.size w ((((w3.setCell ⟨w.heap.size, 0, none⟩ (.string ⟨#[]⟩)).setCell ⟨w.heap.size, 1, none⟩ (.int .i64 (i : Int))).setCell ⟨w.heap.size, 2, none⟩ (.int .i64 3)).alloc (.cells #[.int .i64 q0, .int .i64 q1, .int .i64 q2, .int .i64 q3, .int .i64 q4, .int .i64 q5, .int .i64 q6, .int .i64 q7, .int .i64 q8, .int .i64 cd] 31))) := below_tr (deep.putW_below [.string ⟨#[]⟩, .int .i64 (i : Int), .int .i64 3] YB.out (by omega) (b := 0)) (below_one _ _)
                go_wp2_with fail
                generalize ((((w3.setCell ⟨w.heap.size, 0, none⟩ (.string ⟨#[]⟩)).setCell ⟨w.heap.size, 1, none⟩ (.int .i64 (i : Int))).setCell ⟨w.heap.size, 2, none⟩ (.int .i64 3)).alloc (.cells #[.int .i64 q0, .int .i64 q1, .int .i64 q2, .int .i64 q3, .int .i64 q4, .int .i64 q5, .int .i64 q6, .int .i64 q7, .int .i64 q8, .int .i64 cd] 31)) = WF at *
                have u0 : WF.cell? ⟨w.heap.size, 0, none⟩ = some (.string ⟨#[]⟩) := HF.out.cell 0
                have u1 : WF.cell? ⟨w.heap.size, 1, none⟩ = some (.int .i64 (i : Int)) := HF.out.cell 1
                have u2 : WF.cell? ⟨w.heap.size, 2, none⟩ = some (.int .i64 3) := HF.out.cell 2
                exact bodyPost_ret (v := .tuple #[.int .i64 0, v, .agg #[.string ⟨#[]⟩, .int .i64 (i : Int), .int .i64 3]]) (by simp [results, Tryd.results44, go_sem, u0, u1, u2]) rfl ⟨_, _, _, _, rfl, HTZ.out, HBF.out⟩
            · have heq : ((i : Int) == (n : Int) - 1) = false := by simp; omega
              have HLA : Hid (i + 1 < n) := by show _ < _; omega
              clear hla
              go_wp2_with fail
              refine Calls.mono (HRD.out _) ?_
              rintro e w3 ⟨c, cd, rfl, hrd, hb3⟩
              have YZ : Hid (Blk w3 w.heap.size 45 [.string ⟨#[]⟩, .int .i64 0, .int .i64 0]) := XZ.out.later hb3
              have YB : Hid (Below w.heap.size w w3) := below_tr XB.out hb3
              have YR : Hid (RowF g l w3) := XR.out.later hb3
              have YO : Hid (OwnC 26 9 (w.heap.size + 1) w3 v css) := XO.out.later hb3
              have HRK := HRO.out c cd hrd
              clear hrd hb3 XZ XB XR XO fx HRD HRO
              obtain ⟨q0, q1, q2, q3, q4, q5, q6, q7, q8⟩ := c
              unfold lineV
              simp only
              by_cases hcd : cd = 0
              · have hcde : (cd != 0) = false := by rw [hcd]; rfl
                have hok := HRK.1.1 hcd
                by_cases h60 : 60 ≤ css.length
                · have HTZ : Hid (P (i : Int) 3) := HTA.out i 3 (by omega) XC.out (by rw [HCM.out HLA.out]; exact codeL_no (by omega) (fun h => by omega)) (by decide)
                  clear HTA HTO HCM HCE XC YR XG HRK hok hcd
                  obtain ⟨a5, c5, hv5, _⟩ := YO.out.form
                  have h60i : (60 : Int) ≤ (css.length : Int) := by omega
                  subst hv5
                  clear YO
                  have z0 : w3.cell? ⟨w.heap.size, 0, none⟩ = some (.string ⟨#[]⟩) := YZ.out.cell 0
                  have y0 := YZ.out.free 0
                  have z1 : w3.cell? ⟨w.heap.size, 1, none⟩ = some (.int .i64 0) := YZ.out.cell 1
                  have y1 := YZ.out.free 1
                  have z2 : w3.cell? ⟨w.heap.size, 2, none⟩ = some (.int .i64 0) := YZ.out.cell 2
                  have y2 := YZ.out.free 2
                  have hltz := YZ.out.lt
                  have HF : Hid (Blk ((((w3.setCell ⟨w.heap.size, 0, none⟩ (.string ⟨#[]⟩)).setCell ⟨w.heap.size, 1, none⟩ (.int .i64 (i : Int))).setCell ⟨w.heap.size, 2, none⟩ (.int .i64 3)).alloc (.cells #[.int .i64 q0, .int .i64 q1, .int .i64 q2, .int .i64 q3, .int .i64 q4, .int .i64 q5, .int .i64 q6, .int .i64 q7, .int .i64 q8, .int .i64 cd] 31)) w.heap.size 45 [.string ⟨#[]⟩, .int .i64 (i : Int), .int .i64 3]) := (YZ.out.put [.string ⟨#[]⟩, .int .i64 (i : Int), .int .i64 3] 0).later (below_one _ _)
                  have HBF : Hid (Below w.heap.size w ((((w3.setCell ⟨w.heap.size, 0, none⟩ (.string ⟨#[]⟩)).setCell ⟨w.heap.size, 1, none⟩ (.int .i64 (i : Int))).setCell ⟨w.heap.size, 2, none⟩ (.int .i64 3)).alloc (.cells #[.int .i64 q0, .int .i64 q1, .int .i64 q2, .int .i64 q3, .int .i64 q4, .int .i64 q5, .int .i64 q6, .int .i64 q7, .int .i64 q8, .int .i64 cd] 31))) := below_tr (deep.putW_below [.string ⟨#[]⟩, .int .i64 (i : Int), .int .i64 3] YB.out (by omega) (b := 0)) (below_one _ _)
                  go_wp2_with fail
                  generalize ((((w3.setCell ⟨w.heap.size, 0, none⟩ (.string ⟨#[]⟩)).setCell ⟨w.heap.size, 1, none⟩ (.int .i64 (i : Int))).setCell ⟨w.heap.size, 2, none⟩ (.int .i64 3)).alloc (.cells #[.int .i64 q0, .int .i64 q1, .int .i64 q2, .int .i64 q3, .int .i64 q4, .int .i64 q5, .int .i64 q6, .int .i64 q7, .int .i64 q8, .int .i64 cd] 31)) = WF at *
                  have u0 : WF.cell? ⟨w.heap.size, 0, none⟩ = some (.string ⟨#[]⟩) := HF.out.cell 0
                  have u1 : WF.cell? ⟨w.heap.size, 1, none⟩ = some (.int .i64 (i : Int)) := HF.out.cell 1
                  have u2 : WF.cell? ⟨w.heap.size, 2, none⟩ = some (.int .i64 3) := HF.out.cell 2
                  exact bodyPost_ret (v := .tuple #[.int .i64 0, (.slice a5 css.length c5), .agg #[.string ⟨#[]⟩, .int .i64 (i : Int), .int .i64 3]]) (by simp [results, Tryd.results44, go_sem, u0, u1, u2]) rfl ⟨_, _, _, _, rfl, HTZ.out, HBF.out⟩
                · have HC2 : Hid (∀ k, k < i + 1 → codeA l k = 0) := fun k hk => by
                    by_cases e : k < i
                    · exact XC.out k e
                    · obtain rfl : k = i := by omega
                      rw [HCM.out HLA.out]; exact codeL_yes (by omega) hok (by omega)
                  clear HTA HTO HCM HCE XC HRK hok hcd
                  obtain ⟨a5, c5, hv5, _⟩ := YO.out.form
                  have h60i : ¬ ((60 : Int) ≤ (css.length : Int)) := by omega
                  subst hv5
                  have HRW : Hid (((w3.alloc (.cells #[.int .i64 q0, .int .i64 q1, .int .i64 q2, .int .i64 q3, .int .i64 q4, .int .i64 q5, .int .i64 q6, .int .i64 q7, .int .i64 q8, .int .i64 cd] 31)).alloc (.cells #[.int .i64 q0, .int .i64 q1, .int .i64 q2, .int .i64 q3, .int .i64 q4, .int .i64 q5, .int .i64 q6, .int .i64 q7, .int .i64 q8] 26)).ownsRow (w.heap.size + 1) 26 9 (.slice a5 css.length c5) css.length css.flatten) := (YO.out.row.alloc _).alloc _
                  have HNC : Hid (∀ j u, ([.int .i64 q0, .int .i64 q1, .int .i64 q2, .int .i64 q3, .int .i64 q4, .int .i64 q5, .int .i64 q6, .int .i64 q7, .int .i64 q8] : List Value)[j]? = some u → ((w3.alloc (.cells #[.int .i64 q0, .int .i64 q1, .int .i64 q2, .int .i64 q3, .int .i64 q4, .int .i64 q5, .int .i64 q6, .int .i64 q7, .int .i64 q8, .int .i64 cd] 31)).alloc (.cells #[.int .i64 q0, .int .i64 q1, .int .i64 q2, .int .i64 q3, .int .i64 q4, .int .i64 q5, .int .i64 q6, .int .i64 q7, .int .i64 q8] 26)).cell? ((⟨w3.heap.size + 1, 0, none⟩ : Addr).add j) = some u) := by
                    have h1 : (w3.alloc (.cells #[.int .i64 q0, .int .i64 q1, .int .i64 q2, .int .i64 q3, .int .i64 q4, .int .i64 q5, .int .i64 q6, .int .i64 q7, .int .i64 q8, .int .i64 cd] 31)).heap.size = w3.heap.size + 1 := by simp
                    rw [← h1]
                    exact deep.new_cells _ [.int .i64 q0, .int .i64 q1, .int .i64 q2, .int .i64 q3, .int .i64 q4, .int .i64 q5, .int .i64 q6, .int .i64 q7, .int .i64 q8] _
                  have HCE1 : Hid (∀ u ∈ ([.int .i64 q0, .int .i64 q1, .int .i64 q2, .int .i64 q3, .int .i64 q4, .int .i64 q5, .int .i64 q6, .int .i64 q7, .int .i64 q8] : List Value), u.oneCell' = true) := by
                    intro u hu
                    simp only [List.mem_cons, List.not_mem_nil, or_false] at hu
                    rcases hu with rfl | rfl | rfl | rfl | rfl | rfl | rfl | rfl | rfl <;> rfl
                  have hsz5 : ((w3.alloc (.cells #[.int .i64 q0, .int .i64 q1, .int .i64 q2, .int .i64 q3, .int .i64 q4, .int .i64 q5, .int .i64 q6, .int .i64 q7, .int .i64 q8, .int .i64 cd] 31)).alloc (.cells #[.int .i64 q0, .int .i64 q1, .int .i64 q2, .int .i64 q3, .int .i64 q4, .int .i64 q5, .int .i64 q6, .int .i64 q7, .int .i64 q8] 26)).heap.size = w3.heap.size + 2 := by simp
                  have hw3 : w.heap.size < w3.heap.size := YZ.out.lt
                  have HBS : Hid (w.heap.size + 1 ≤ ((w3.alloc (.cells #[.int .i64 q0, .int .i64 q1, .int .i64 q2, .int .i64 q3, .int .i64 q4, .int .i64 q5, .int .i64 q6, .int .i64 q7, .int .i64 q8, .int .i64 cd] 31)).alloc (.cells #[.int .i64 q0, .int .i64 q1, .int .i64 q2, .int .i64 q3, .int .i64 q4, .int .i64 q5, .int .i64 q6, .int .i64 q7, .int .i64 q8] 26)).heap.size) := by show _ ≤ _; omega
                  have hgl : g < w3.heap.size := YR.out.1
                  have HPQ : Hid (∀ (g' cap' : Nat) (w4 : World), w4.ownsRow (w.heap.size + 1) 26 9 (.slice (some ⟨g', 0, none⟩) (css.length + 1) cap') (css.length + 1) (css.flatten ++ [.int .i64 q0, .int .i64 q1, .int .i64 q2, .int .i64 q3, .int .i64 q4, .int .i64 q5, .int .i64 q6, .int .i64 q7, .int .i64 q8]) → ((w3.alloc (.cells #[.int .i64 q0, .int .i64 q1, .int .i64 q2, .int .i64 q3, .int .i64 q4, .int .i64 q5, .int .i64 q6, .int .i64 q7, .int .i64 q8, .int .i64 cd] 31)).alloc (.cells #[.int .i64 q0, .int .i64 q1, .int .i64 q2, .int .i64 q3, .int .i64 q4, .int .i64 q5, .int .i64 q6, .int .i64 q7, .int .i64 q8] 26)).grownBy w4 (Value.slice a5 css.length c5).ownBlock → ((Value.slice a5 css.length c5).ownBlock = some g' ∨ g' = ((w3.alloc (.cells #[.int .i64 q0, .int .i64 q1, .int .i64 q2, .int .i64 q3, .int .i64 q4, .int .i64 q5, .int .i64 q6, .int .i64 q7, .int .i64 q8, .int .i64 cd] 31)).alloc (.cells #[.int .i64 q0, .int .i64 q1, .int .i64 q2, .int .i64 q3, .int .i64 q4, .int .i64 q5, .int .i64 q6, .int .i64 q7, .int .i64 q8] 26)).heap.size) →
                      RowF g l w4 ∧ (∀ o, (Value.slice (some ⟨g', 0, none⟩) (css.length + 1) cap').ownBlock = some o → o ≠ g) ∧ OwnC 26 9 (w.heap.size + 1) w4 (.slice (some ⟨g', 0, none⟩) (css.length + 1) cap') (css ++ [[.int .i64 q0, .int .i64 q1, .int .i64 q2, .int .i64 q3, .int .i64 q4, .int .i64 q5, .int .i64 q6, .int .i64 q7, .int .i64 q8]]) ∧ Blk w4 w.heap.size 45 [.string ⟨#[]⟩, .int .i64 0, .int .i64 0] ∧ Below w.heap.size w w4) := fun g' cap' w4 h1 h2 h3 => by
                    have hold : ∀ k, k < w3.heap.size → some k ≠ (Value.slice a5 css.length c5).ownBlock → w4.heap[k]? = w3.heap[k]? := fun k hk hne => by
                      rw [h2.block k (by rw [hsz5]; omega) hne]
                      exact (deep.below2 w3 _ _).block k hk
                    refine ⟨⟨Nat.lt_of_lt_of_le hgl (by have := h2.size; omega), fun i hi => ?_⟩, ?_, YO.out.push rfl h1, ?_, ?_⟩
                    · have e := hold g hgl (fun e => XG.out g e.symm rfl)
                      exact (World.cell?_of_block (w := w3) e).trans (YR.out.2 i hi)
                    · intro o ho
                      have ho2 : g' = o := Option.some.inj ho
                      rcases h3 with h3 | h3
                      · exact XG.out o (by rw [h3, ho2])
                      · omega
                    · have e := hold w.heap.size hw3 (fun e => by
                        have := YO.out.own_ge w.heap.size e.symm
                        omega)
                      exact e.trans YZ.out
                    · exact Below.grown (below_tr YB.out (deep.below2 w3 _ _)) h2 (by omega) (fun k hk => by
                        have := YO.out.own_ge k hk
                        omega)
                  have HCL : Hid (css.length + 1 = i) := hcl
                  have h59 : css.length < 60 := by omega
                  clear YZ YB YR YO XG hcl h60
                  go_wp2_with (at_builtin; refine wpList_append_lies _ rfl (.tmp 93) (.tmp 96) 76 rfl (w.heap.size + 1) 26 i0 (.agg #[.int .i64 0, .int .i64 0, .int .i64 0, .int .i64 0, .int .i64 0, .int .i64 0, .int .i64 0, .int .i64 0, .int .i64 0]) 9 72 Tryd.underlying76 hi hz0 hz1 hz2 rfl (by decide) _ _ _ rfl HRW.out ⟨w3.heap.size + 1, 0, none⟩ 1 1 [.int .i64 q0, .int .i64 q1, .int .i64 q2, .int .i64 q3, .int .i64 q4, .int .i64 q5, .int .i64 q6, .int .i64 q7, .int .i64 q8] rfl rfl HNC.out HCE1.out (by decide) (by unfold maxLen; omega) (by omega) HBS.out _ rfl ?_; intro g' cap' w4 hown hgrow hlie _; have HQ : Hid _ := HPQ.out g' cap' w4 hown hgrow hlie; clear hown hgrow hlie)
                  go_roundw
                  case rel => exact ⟨i + 1, _, css ++ [_], rfl, by go_num, by omega, by have := HLA.out; omega, by have := HCL.out; simp; omega, by have := HCL.out; omega, HC2.out, HQ.out.1, HQ.out.2.1, HQ.out.2.2.1, HQ.out.2.2.2.1, HQ.out.2.2.2.2⟩
                  case measure => simp [intOf]; omega
              · have hcde : (cd != 0) = true := by simp; exact hcd
                have HTZ : Hid (P (i : Int) 3) := HTA.out i 3 (by omega) XC.out (by rw [HCM.out HLA.out]; exact codeL_no (by omega) (fun h => hcd (HRK.1.2 h.1))) (by decide)
                clear HTA HTO HCM HCE XC YR XG HRK YO hcd
                have z0 : w3.cell? ⟨w.heap.size, 0, none⟩ = some (.string ⟨#[]⟩) := YZ.out.cell 0
                have y0 := YZ.out.free 0
                have z1 : w3.cell? ⟨w.heap.size, 1, none⟩ = some (.int .i64 0) := YZ.out.cell 1
                have y1 := YZ.out.free 1
                have z2 : w3.cell? ⟨w.heap.size, 2, none⟩ = some (.int .i64 0) := YZ.out.cell 2
                have y2 := YZ.out.free 2
                have hltz := YZ.out.lt
                have HF : Hid (Blk ((((w3.setCell ⟨w.heap.size, 0, none⟩ (.string ⟨#[]⟩)).setCell ⟨w.heap.size, 1, none⟩ (.int .i64 (i : Int))).setCell ⟨w.heap.size, 2, none⟩ (.int .i64 3)).alloc (.cells #[.int .i64 q0, .int .i64 q1, .int .i64 q2, .int .i64 q3, .int .i64 q4, .int .i64 q5, .int .i64 q6, .int .i64 q7, .int .i64 q8, .int .i64 cd] 31)) w.heap.size 45 [.string ⟨#[]⟩, .int .i64 (i : Int), .int .i64 3]) := (YZ.out.put [.string ⟨#[]⟩, .int .i64 (i : Int), .int .i64 3] 0).later (below_one _ _)
                have HBF : Hid (Below w.heap.size w ((((w3.setCell ⟨w.heap.size, 0, none⟩ (.string ⟨#[]⟩)).setCell ⟨w.heap.size, 1, none⟩ (.int .i64 (i : Int))).setCell ⟨w.heap.size, 2, none⟩ (.int .i64 3)).alloc (.cells #[.int .i64 q0, .int .i64 q1, .int .i64 q2, .int .i64 q3, .int .i64 q4, .int .i64 q5, .int .i64 q6, .int .i64 q7, .int .i64 q8, .int .i64 cd] 31))) := below_tr (deep.putW_below [.string ⟨#[]⟩, .int .i64 (i : Int), .int .i64 3] YB.out (by omega) (b := 0)) (below_one _ _)
                go_wp2_with fail
                generalize ((((w3.setCell ⟨w.heap.size, 0, none⟩ (.string ⟨#[]⟩)).setCell ⟨w.heap.size, 1, none⟩ (.int .i64 (i : Int))).setCell ⟨w.heap.size, 2, none⟩ (.int .i64 3)).alloc (.cells #[.int .i64 q0, .int .i64 q1, .int .i64 q2, .int .i64 q3, .int .i64 q4, .int .i64 q5, .int .i64 q6, .int .i64 q7, .int .i64 q8, .int .i64 cd] 31)) = WF at *
                have u0 : WF.cell? ⟨w.heap.size, 0, none⟩ = some (.string ⟨#[]⟩) := HF.out.cell 0
                have u1 : WF.cell? ⟨w.heap.size, 1, none⟩ = some (.int .i64 (i : Int)) := HF.out.cell 1
                have u2 : WF.cell? ⟨w.heap.size, 2, none⟩ = some (.int .i64 3) := HF.out.cell 2
                exact bodyPost_ret (v := .tuple #[.int .i64 0, v, .agg #[.string ⟨#[]⟩, .int .i64 (i : Int), .int .i64 3]]) (by simp [results, Tryd.results44, go_sem, u0, u1, u2]) rfl ⟨_, _, _, _, rfl, HTZ.out, HBF.out⟩
    · have hq := kern_ne hkn
      rw [kern_list] at hq
      have HT3 : Hid (P 0 3) := HF3b.out fun h => hkn (HHD.out.1 h).2.1
      generalize m1.getD 1 e0 = y1 at *
      generalize m1.getD 0 e0 = y0 at *
      clear HF3 HF3b HA0 HCB HCG HCO HHD HTA HTO HSZ HSZ2 HM HR2 H2O hkn
      have z0 : w2.cell? ⟨w.heap.size, 0, none⟩ = some (.string ⟨#[]⟩) := H2Z.out.cell 0
      have y0 := H2Z.out.free 0
      have z1 : w2.cell? ⟨w.heap.size, 1, none⟩ = some (.int .i64 0) := H2Z.out.cell 1
      have y1 := H2Z.out.free 1
      have z2 : w2.cell? ⟨w.heap.size, 2, none⟩ = some (.int .i64 0) := H2Z.out.cell 2
      have y2 := H2Z.out.free 2
      have hltz := H2Z.out.lt
      go_wp2_with fail
      refine bodyPost_ret (v := .tuple #[.int .i64 0, (.slice (some ⟨w.heap.size + 1, 0, none⟩) 0 0), .agg #[.string ⟨#[]⟩, .int .i64 0, .int .i64 3]]) (by simp [results, Tryd.results44, go_sem, z0, z1, z2]) rfl ⟨_, _, _, _, rfl, HT3.out, ?_⟩
      exact deep.putW_below [.string ⟨#[]⟩, .int .i64 0, .int .i64 3] H2B.out (by omega) (b := 0)
  · have hk2e : ((k1 : Int) != 2) = true := by simp; omega
    have HT3 : Hid (P 0 3) := HF3b.out fun h => hk2 (by rw [HK1.out]; exact (HHD.out.1 h).1)
    clear HF3 HF3b HA0 HCB HCG HCO HHD HTA HTO HSZ HSZ2 HM HR2 H2O hk2
    have z0 : w2.cell? ⟨w.heap.size, 0, none⟩ = some (.string ⟨#[]⟩) := H2Z.out.cell 0
    have y0 := H2Z.out.free 0
    have z1 : w2.cell? ⟨w.heap.size, 1, none⟩ = some (.int .i64 0) := H2Z.out.cell 1
    have y1 := H2Z.out.free 1
    have z2 : w2.cell? ⟨w.heap.size, 2, none⟩ = some (.int .i64 0) := H2Z.out.cell 2
    have y2 := H2Z.out.free 2
    have hltz := H2Z.out.lt
    go_wp2_with fail
    refine bodyPost_ret (v := .tuple #[.int .i64 0, (.slice (some ⟨w.heap.size + 1, 0, none⟩) 0 0), .agg #[.string ⟨#[]⟩, .int .i64 0, .int .i64 3]]) (by simp [results, Tryd.results44, go_sem, z0, z1, z2]) rfl ⟨_, _, _, _, rfl, HT3.out, ?_⟩
    exact deep.putW_below [.string ⟨#[]⟩, .int .i64 0, .int .i64 3] H2B.out (by omega) (b := 0)
end Go.Proofs.YtacfhchmoiphfaaDoor.scr
