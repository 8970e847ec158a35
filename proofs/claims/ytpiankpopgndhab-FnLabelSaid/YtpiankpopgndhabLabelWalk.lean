/-
  The walk of the law FnLabel: it answers true at every two rows of bytes.
-/
import Derived.Test.YtpiankpopgndhabLabelFacts
import Derived.Test.YtpiankpopgndhabLabelDraws
import Derived.Test.YtpiankpopgndhabIntRows
import Derived.Deep.RegionHeld3
import Derived.Laws.StructEq
import Derived.Outline
import Derived.Deep.Cut
namespace Go.Proofs.Ytpiankpopgndhab.lwalk
open Go.RowKit Go.Deep
open Go.Proofs.Ytpiankpopgndhab.label (flo rightB joinI meetI)
open Go.Proofs.Ytpiankpopgndhab.ltext (textN textS)
open Go.Proofs.Ytpiankpopgndhab.lread (outL)
set_option linter.unusedVariables false

theorem up {w : World} {x : Option Addr} {len B B' : Nat} (h : draws.Byts w x len B) (hB : B ≤ B') : draws.Byts w x len B' :=
  ⟨h.1, fun i hi => by
    obtain ⟨b, off, z, hx, hb, hz, hc⟩ := h.2 i hi
    exact ⟨b, off, z, hx, by omega, hz, hc⟩⟩

theorem keep_later {B : Nat} {n c : Int} {w0 W W' : World} (hb : Below W.heap.size W W')
    (h : W.cell? ⟨B, 0, none⟩ = some (.int .i64 n) ∧ W.cell? ⟨B, 1, none⟩ = some (.int .i64 0) ∧ W.cell? ⟨B, 2, none⟩ = some (.int .i64 c) ∧ Below w0.heap.size w0 W) :
    W'.cell? ⟨B, 0, none⟩ = some (.int .i64 n) ∧ W'.cell? ⟨B, 1, none⟩ = some (.int .i64 0) ∧ W'.cell? ⟨B, 2, none⟩ = some (.int .i64 c) ∧ Below w0.heap.size w0 W' := by
  obtain ⟨h0, h1, h2, h3⟩ := h
  have hB := draws.cell_lt h0
  exact ⟨(hb.cell (p := ⟨B, 0, none⟩) hB).trans h0, (hb.cell (p := ⟨B, 1, none⟩) hB).trans h1, (hb.cell (p := ⟨B, 2, none⟩) hB).trans h2, h3.trans (hb.mono h3.size)⟩

set_option maxRecDepth 100000 in
theorem big (x : Option Addr) (len cap : Nat) (y : Option Addr) (len' cap' : Nat) (w : World) (h : (len : Int) ≤ 9223372036854775807) (h' : (len' : Int) ≤ 9223372036854775807) (hb : 1048576 < len ∨ 1048576 < len') :
    Calls Try.prog 4 #[.slice x len cap, .slice y len' cap'] w fun e w' => e = .returned (.bool true) ∧ Below w.heap.size w w' := by
  by_cases h1 : 1048576 < len
  · clear hb
    go_enter Try.func4, Try.ntmps4
    go_wp2
    go_ret
    exact ⟨rfl, Below.refl _ _⟩
  · have h2 : 1048576 < len' := by omega
    clear hb
    go_enter Try.func4, Try.ntmps4
    go_wp2
    go_ret
    exact ⟨rfl, Below.refl _ _⟩

set_option maxHeartbeats 4000000 in
set_option maxRecDepth 100000 in
theorem small (x : Option Addr) (len cap : Nat) (y : Option Addr) (len' cap' : Nat) (w : World) (hl : len ≤ 1048576) (hl' : len' ≤ 1048576)
    (hx : draws.Byts w x len w.heap.size) (hy : draws.Byts w y len' w.heap.size) :
    Calls Try.prog 4 #[.slice x len cap, .slice y len' cap'] w fun e w' => e = .returned (.bool true) ∧ Below w.heap.size w w' := by
  have HD : Hid _ := draws.drawFlows x len cap w hx
  have HY : Hid (draws.Byts w y len' w.heap.size) := hy
  clear hx hy
  go_enter Try.func4, Try.ntmps4
  go_wp2_with fail
  refine Calls.mono HD.out ?_
  rintro e w1 ⟨a, b, rfl, ha, hb, hb1⟩
  have HB1 : Hid (Below w.heap.size w w1) := hb1
  have HE : Hid _ := draws.drawLabelText y len' cap' w1 (up (HY.out.below hb1 (Nat.le_refl _)) hb1.size)
  clear hb1 HD
  go_wp2_with fail
  refine Calls.mono HE.out ?_
  rintro e w2 ⟨c, rfl, hc0, hc1, hb2⟩
  have HB2 : Hid (Below w.heap.size w w2) := HB1.out.trans (hb2.mono HB1.out.size)
  have HT : Hid _ := fun W => ltext.impl_text c W
  have HTs : Hid _ := fun W => ltext.spec_text c W
  have HTZ : Hid _ := lfacts.text_size c
  obtain ⟨t, ht⟩ : ∃ t, t = textS c := ⟨_, rfl⟩
  rw [← ht] at HT HTs HTZ
  have HTE : Hid (t = textS c) := ht
  clear hb2 HE ht HB1
  go_wp2_with fail
  refine Calls.mono (HT.out _) ?_
  rintro e w3 ⟨rfl, hb3⟩
  have HB3 : Hid (Below w.heap.size w w3) := HB2.out.trans (hb3.mono HB2.out.size)
  have HR : Hid _ := draws.drawLabelRead y len' cap' w3 (up (HY.out.below HB3.out (Nat.le_refl _)) HB3.out.size)
  clear hb3 HB2
  go_wp2_with fail
  refine Calls.mono HR.out ?_
  rintro e w4 ⟨u, rfl, hu, hb4⟩
  have HB4 : Hid (Below w.heap.size w w4) := HB3.out.trans (hb4.mono HB3.out.size)
  have HLi : Hid _ := fun W => lread.impl_read u W (by unfold maxLen; omega)
  have HLs : Hid _ := fun W => lread.spec_read u W (by unfold maxLen; omega)
  have HFB : Hid _ := lfacts.found_back u
  have hrange := lfacts.out_range u
  generalize outL u = R at HLi HLs HFB hrange
  obtain ⟨n, cd⟩ := R
  simp only at HLi HLs HFB hrange
  have HRG : Hid _ := hrange
  clear hb4 HB3 HR hrange
  go_wp2_with fail
  refine Calls.mono (HLi.out _) ?_
  rintro e w5 ⟨rfl, hb5⟩
  have HB5 : Hid (Below w.heap.size w w5) := HB4.out.trans (hb5.mono HB4.out.size)
  have HNi : Hid _ := fun W => lto.impl_to c W
  have HNs : Hid _ := fun W => lto.spec_to c W
  have HNF : Hid _ := lfacts.nums_flow c
  have hnl : (lto.numsTo c).length ≤ 16 := lto.upto_len c 16
  generalize lto.numsTo c = xs at HNi HNs HNF hnl
  clear hb5 HB4 HLi
  go_wp2_with fail
  refine Calls.mono (HNi.out _) ?_
  rintro e w7 ⟨v, rfl, r7, b7⟩
  have R7 : Hid (irows.Row w7 (w5.heap.size + 1) v xs) := by simp at r7; exact r7
  have c0 : w7.cell? ⟨w5.heap.size, 0, none⟩ = some (.int .i64 n) := (b7.cell (p := ⟨w5.heap.size, 0, none⟩) (by simp)).trans (by simp)
  have c1 : w7.cell? ⟨w5.heap.size, 1, none⟩ = some (.int .i64 0) := (b7.cell (p := ⟨w5.heap.size, 1, none⟩) (by simp)).trans (by simp)
  have c2 : w7.cell? ⟨w5.heap.size, 2, none⟩ = some (.int .i64 cd) := (b7.cell (p := ⟨w5.heap.size, 2, none⟩) (by simp)).trans (by simp)
  have HB7 : Hid (Below w.heap.size w w7) := (HB5.out.alloc HB5.out.size _).trans (b7.mono (by simp; have := HB5.out.size; omega))
  clear r7 b7 HNi HB5
  go_wp2_with fail
  have HFi : Hid (∀ p q W, Calls Try.prog 15 #[.int .i64 p, .int .i64 q] W fun e w' => e = .returned (.bool (flo p q)) ∧ w' = W) := fun p q W => label.impl_flows p q W
  have HFs : Hid (∀ p q W, Calls Try.prog 16 #[.int .i64 p, .int .i64 q] W fun e w' => e = .returned (.bool (flo p q)) ∧ w' = W) := fun p q W => label.spec_flows p q W
  have HJi : Hid (∀ p q W, Calls Try.prog 17 #[.int .i64 p, .int .i64 q] W fun e w' => e = .returned (.int .i64 (joinI p q)) ∧ w' = W) := fun p q W => label.impl_join p q W
  have HJs : Hid (∀ p q W, Calls Try.prog 18 #[.int .i64 p, .int .i64 q] W fun e w' => e = .returned (.int .i64 (joinI p q)) ∧ w' = W) := fun p q W => label.spec_join p q W
  have HMi : Hid (∀ p q W, Calls Try.prog 19 #[.int .i64 p, .int .i64 q] W fun e w' => e = .returned (.int .i64 (meetI p q)) ∧ w' = W) := fun p q W => label.impl_meet p q W
  have HMs : Hid (∀ p q W, Calls Try.prog 20 #[.int .i64 p, .int .i64 q] W fun e w' => e = .returned (.int .i64 (meetI p q)) ∧ w' = W) := fun p q W => label.spec_meet p q W
  have HRi : Hid (∀ p W, Calls Try.prog 24 #[.int .i64 p] W fun e w' => e = .returned (.bool (rightB p)) ∧ w' = W) := fun p W => label.impl_right p W
  have HRs : Hid (∀ p W, Calls Try.prog 25 #[.int .i64 p] W fun e w' => e = .returned (.bool (rightB p)) ∧ w' = W) := fun p W => label.spec_right p W
  obtain ⟨va, vc, hv⟩ := R7.out.form
  subst hv
  go_cut [87] from 14 (fun s W => s = .bool false ∧ W.cell? ⟨w5.heap.size, 0, none⟩ = some (.int .i64 n) ∧ W.cell? ⟨w5.heap.size, 1, none⟩ = some (.int .i64 0) ∧ W.cell? ⟨w5.heap.size, 2, none⟩ = some (.int .i64 cd) ∧ Hid (Below w7.heap.size w7 W))
  case first => as_aux_lemma =>
    have b0 := Below.refl w7.heap.size w7
    go_region_held3 (fun W => W.cell? ⟨w5.heap.size, 0, none⟩ = some (.int .i64 n) ∧ W.cell? ⟨w5.heap.size, 1, none⟩ = some (.int .i64 0) ∧ W.cell? ⟨w5.heap.size, 2, none⟩ = some (.int .i64 cd) ∧ Below w7.heap.size w7 W)
      (first | assumption | exact ⟨by simpa using c0, by simpa using c1, by simpa using c2, b0.drew⟩ | exact keep_later hb (by assumption))
      (first
        | (go_at_call 15; refine Calls.mono (HFi.out _ _ _) ?_; rintro e w' ⟨rfl, rfl⟩)
        | (go_at_call 16; refine Calls.mono (HFs.out _ _ _) ?_; rintro e w' ⟨rfl, rfl⟩)
        | (go_at_call 17; refine Calls.mono (HJi.out _ _ _) ?_; rintro e w' ⟨rfl, rfl⟩)
        | (go_at_call 18; refine Calls.mono (HJs.out _ _ _) ?_; rintro e w' ⟨rfl, rfl⟩)
        | (go_at_call 19; refine Calls.mono (HMi.out _ _ _) ?_; rintro e w' ⟨rfl, rfl⟩)
        | (go_at_call 20; refine Calls.mono (HMs.out _ _ _) ?_; rintro e w' ⟨rfl, rfl⟩)
        | (go_at_call 24; refine Calls.mono (HRi.out _ _) ?_; rintro e w' ⟨rfl, rfl⟩)
        | (go_at_call 25; refine Calls.mono (HRs.out _ _) ?_; rintro e w' ⟨rfl, rfl⟩)
        | (go_at_call 21; refine Calls.mono (HTs.out _) ?_; rintro e w' ⟨rfl, rfl⟩)
        | (go_at_call 22; refine Calls.mono (HLs.out _) ?_; rintro e w' ⟨rfl, hb⟩)
        | (go_at_call 5; refine Calls.mono (HNs.out _) ?_; rintro e w9 ⟨v9, rfl, r9, hb⟩)
        | (go_at_call 23; refine Calls.mono (irows.lw_rows (R7.out.later ?_) r9 (by omega)) ?_; exact (‹_ ∧ _ ∧ _ ∧ Below w7.heap.size w7 w9›).2.2.2; rintro e w' ⟨rfl, hb⟩))
    go_wp2_with fail
    go_meet
    case rel => exact ⟨rfl, ‹_ ∧ _ ∧ _ ∧ Below w7.heap.size w7 _›⟩
  case rest =>
    obtain ⟨rfl, e0, e1, e2, HBW⟩ := hcut
    go_upto_region 11 with fail
    have HTN : Hid (cd = 0 → ∀ W, Calls Try.prog 12 #[.int .i64 n] W fun e w' => e = .returned (.string u) ∧ Below W.heap.size W w') := fun h W => by
      have h1 := ltext.impl_text n W
      rw [HFB.out h] at h1
      exact h1
    have HTR : Hid (rightB c = true → ∀ W, Calls Try.prog 14 #[.string t] W fun e w' => e = .returned (.agg #[.int .i64 c, .int .i64 0, .int .i64 0]) ∧ Below W.heap.size W w') := fun h W => by
      have h1 := lread.impl_read t W (by have := HTZ.out; unfold maxLen; omega)
      rw [HTE.out, lfacts.text_read c h, ← HTE.out] at h1
      exact h1
    have HTM : Hid (t.toList.isEmpty = !rightB c) := by rw [HTE.out]; exact lfacts.text_empty c
    go_cut [108] from 14 (fun s W => s = .bool false ∧ Hid (Below w7.heap.size w7 W))
    case first => as_aux_lemma =>
      by_cases hcd : cd = 0
      · have hc1 : (cd == 0) = true := by simp [hcd]
        have HT1 : Hid _ := HTN.out hcd
        clear hcd HTN
        cases hrc : rightB c with
        | true =>
          have hte : t.toList.isEmpty = false := by rw [HTM.out, hrc]; rfl
          have HR1 : Hid _ := HTR.out hrc
          clear hrc HTR HTM
          go_wp2_with (first | (go_at_call 12; refine Calls.mono (HT1.out _) ?_; rintro e w8 ⟨rfl, hb8⟩) | (go_at_call 14; refine Calls.mono (HR1.out _) ?_; rintro e w9 ⟨rfl, hb9⟩))
          go_meet
          case rel =>
            have B8 := HBW.out.trans (hb8.mono HBW.out.size)
            exact ⟨rfl, B8.trans (hb9.mono B8.size)⟩
        | false =>
          have hte : t.toList.isEmpty = true := by rw [HTM.out, hrc]; rfl
          clear hrc HTR HTM
          go_wp2_with (go_at_call 12; refine Calls.mono (HT1.out _) ?_; rintro e w8 ⟨rfl, hb8⟩)
          go_meet
          case rel => exact ⟨rfl, HBW.out.trans (hb8.mono HBW.out.size)⟩
      · have hc1 : (cd == 0) = false := by simp [hcd]
        clear hcd HTN
        cases hrc : rightB c with
        | true =>
          have hte : t.toList.isEmpty = false := by rw [HTM.out, hrc]; rfl
          have HR1 : Hid _ := HTR.out hrc
          clear hrc HTR HTM
          go_wp2_with (go_at_call 14; refine Calls.mono (HR1.out _) ?_; rintro e w9 ⟨rfl, hb9⟩)
          go_meet
          case rel => exact ⟨rfl, HBW.out.trans (hb9.mono HBW.out.size)⟩
        | false =>
          have hte : t.toList.isEmpty = true := by rw [HTM.out, hrc]; rfl
          clear hrc HTR HTM
          go_wp2_with fail
          go_meet
          case rel => exact ⟨rfl, HBW.out⟩
    case rest =>
      obtain ⟨rfl, HBX⟩ := hcut
      have HRW : Hid (irows.Row wc (w5.heap.size + 1) (.slice va xs.length vc) xs) := R7.out.later HBX.out
      have HEND : Hid (Below w.heap.size w wc) := HB7.out.trans (HBX.out.mono HB7.out.size)
      clear HTN HTR HTM HBW HBX R7 HB7 e0 e1 e2 c0 c1 c2 HFB HRG HTE HTZ HT HTs HLs HNs HY
      go_wp2_with fail
      go_loop [12] (fun i => ∃ k : Nat, k ≤ xs.length ∧ i = .int .i64 k) (fun i => xs.length - (intOf i).toNat)
      case atStart => exact ⟨0, by omega, rfl⟩
      case round =>
        obtain ⟨k, hk, rfl⟩ := hrel
        by_cases hlt : k < xs.length
        · obtain ⟨g, vc', hva, _, _, hcs, _⟩ := HRW.out.at (by omega)
          have hva2 : va = some ⟨g, 0, none⟩ := by simp at hva; exact hva.1
          subst hva2
          have hcell := hcs k hlt
          have hfl := HNF.out k hlt
          generalize xs[k] = z at hcell hfl
          clear hcs hva
          go_wp2_with (go_at_call 15; refine Calls.mono (HFi.out _ _ _) ?_; rintro e w' ⟨rfl, rfl⟩)
          go_round
          case rel => exact ⟨k + 1, by omega, by go_num⟩
          case measure => simp [intOf]; omega
        · have key : (rightB a = false) ∨ (rightB a = true ∧ rightB b = false) ∨ (rightB a = true ∧ rightB b = true) := by
            cases rightB a <;> cases rightB b <;> simp
          rcases key with hra | ⟨hra, hrb⟩ | ⟨hra, hrb⟩
          · have hf := lfacts.not_right a b (Or.inl hra)
            go_wp2_with (first | (go_at_call 25; refine Calls.mono (HRs.out _ _) ?_; rintro e w' ⟨rfl, rfl⟩) | (go_at_call 15; refine Calls.mono (HFi.out _ _ _) ?_; rintro e w' ⟨rfl, rfl⟩))
            go_ret
            exact ⟨rfl, HEND.out⟩
          · have hf := lfacts.not_right a b (Or.inr hrb)
            go_wp2_with (first | (go_at_call 25; refine Calls.mono (HRs.out _ _) ?_; rintro e w' ⟨rfl, rfl⟩) | (go_at_call 15; refine Calls.mono (HFi.out _ _ _) ?_; rintro e w' ⟨rfl, rfl⟩))
            go_ret
            exact ⟨rfl, HEND.out⟩
          · go_upto_region 20 with (go_at_call 25; refine Calls.mono (HRs.out _ _) ?_; rintro e w' ⟨rfl, rfl⟩)
            have hya := label.right_yes a hra
            have hyb := label.right_yes b hrb
            obtain ⟨p, hp, ep⟩ := label.nat_of a hya.1 hya.2
            obtain ⟨q, hq, eq⟩ := label.nat_of b hyb.1 hyb.2
            have HANTI : Hid (flo a b = true → flo b a = true → a = b) := fun h1 h2 => by
              rw [ep, eq] at h1 h2 ⊢
              rw [lfacts.anti_all p hp q hq h1 h2]
            have hrefl : flo a a = true := by rw [ep]; exact lfacts.refl_all p hp
            have htj : flo a (joinI a b) = true := by rw [ep, eq]; exact lfacts.tojoin_all p hp q hq
            have hom : flo (meetI a b) b = true := by rw [ep, eq]; exact lfacts.ofmeet_all p hp q hq
            have HJ : Hid (∀ k : Nat, k < 16 → flo (joinI a b) (k : Int) = (flo a (k : Int) && flo b (k : Int))) := fun k hk => by rw [ep, eq]; exact (lfacts.join_all p hp q hq k hk).symm
            have HM : Hid (∀ k : Nat, k < 16 → flo (k : Int) (meetI a b) = (flo (k : Int) a && flo (k : Int) b)) := fun k hk => by rw [ep, eq]; exact (lfacts.meet_all p hp q hq k hk).symm
            clear ep eq hya hyb hp hq hra hrb
            go_cut [168] from 14 (fun s W => s = .bool false ∧ Hid (Below w.heap.size w W))
            case first => as_aux_lemma =>
              have key : (flo a b = false) ∨ (flo a b = true ∧ flo b a = false) ∨ (flo a b = true ∧ flo b a = true ∧ (a != b) = false) := by
                cases h1 : flo a b <;> cases h2 : flo b a <;> simp
                exact HANTI.out h1 h2
              clear HANTI HJ HM
              rcases key with h1 | ⟨h1, h2⟩ | ⟨h1, h2, h3⟩
              all_goals
                go_wp2_with (first | (go_at_call 15; refine Calls.mono (HFi.out _ _ _) ?_; rintro e w' ⟨rfl, rfl⟩) | (go_at_call 17; refine Calls.mono (HJi.out _ _ _) ?_; rintro e w' ⟨rfl, rfl⟩) | (go_at_call 19; refine Calls.mono (HMi.out _ _ _) ?_; rintro e w' ⟨rfl, rfl⟩))
                go_meet
                case rel => exact ⟨rfl, HEND.out⟩
            case rest =>
              obtain ⟨rfl, HEN2⟩ := hcut
              clear HEND hrefl htj hom HANTI
              go_wp2_with fail
              go_loop [13] (fun i => ∃ k : Nat, k ≤ 16 ∧ i = .int .i64 k) (fun i => 16 - (intOf i).toNat)
              case atStart => exact ⟨0, by omega, rfl⟩
              case round =>
                obtain ⟨k, hk, rfl⟩ := hrel
                by_cases hlt : k < 16
                · have hj := HJ.out k hlt
                  have hm := HM.out k hlt
                  clear HJ HM
                  cases h1 : flo a (k : Int) <;> cases h2 : flo b (k : Int) <;> cases h3 : flo (k : Int) a <;> cases h4 : flo (k : Int) b
                  all_goals as_aux_lemma =>
                    rw [h1, h2] at hj
                    rw [h3, h4] at hm
                    simp only [Bool.and_true, Bool.and_false] at hj hm
                    go_wp2_with (first | (go_at_call 15; refine Calls.mono (HFi.out _ _ _) ?_; rintro e w' ⟨rfl, rfl⟩) | (go_at_call 17; refine Calls.mono (HJi.out _ _ _) ?_; rintro e w' ⟨rfl, rfl⟩) | (go_at_call 19; refine Calls.mono (HMi.out _ _ _) ?_; rintro e w' ⟨rfl, rfl⟩))
                    go_round
                    case rel => exact ⟨k + 1, by omega, by go_num⟩
                    case measure => simp [intOf]; omega
                · go_wp2
                  go_ret
                  exact ⟨rfl, HEN2.out⟩

theorem walk (x : Option Addr) (len cap : Nat) (y : Option Addr) (len' cap' : Nat) (w : World) (hx : draws.Byts w x len w.heap.size) (hy : draws.Byts w y len' w.heap.size) :
    Calls Try.prog 4 #[.slice x len cap, .slice y len' cap'] w fun e w' => e = .returned (.bool true) ∧ Below w.heap.size w w' := by
  by_cases hb : 1048576 < len ∨ 1048576 < len'
  · exact big x len cap y len' cap' w hx.1 hy.1 hb
  · exact small x len cap y len' cap' w (by omega) (by omega) hx hy
end Go.Proofs.Ytpiankpopgndhab.lwalk
