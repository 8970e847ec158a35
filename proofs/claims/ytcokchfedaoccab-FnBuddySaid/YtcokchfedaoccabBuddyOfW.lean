/-
  The walk of the specification's BuddyOf at every argument.
-/
import Derived.Test.YtcokchfedaoccabBuddyOfS
import Derived.BigQuiet
namespace Go.Proofs.Ytcokchfedaoccab.bspec
open Go.RowKit Go.Deep Go.Sort
open Go.Proofs.Ytcokchfedaoccab
open Go.Proofs.Ytcokchfedaoccab.brows
open Go.Proofs.Ytcokchfedaoccab.bd (Blk)
set_option linter.unusedVariables false

theorem rd_box2 {w : World} {v u : Value} {xs : List Pr} {B : Nat} {n : Int} {a : Option Addr} {p q : Nat} {x0 x1 : Value} (h : Rd w v xs) (hb : Box w B n u) (hu : u = .slice a p q) : Rd ((w.setCell ⟨B, 0, none⟩ x0).setCell ⟨B, 1, none⟩ x1) v xs := by
  have hne : 0 < xs.length → ∀ g, v.ownBlock = some g → g ≠ B := fun h0 g hg e => by
    obtain ⟨g', c, rfl, _, _, _, hc⟩ := h.at h0
    simp [Value.ownBlock] at hg
    subst hg e
    have h1 := (hc 0 h0).2
    have h2 := hb.cells.2.1
    simp only [Nat.zero_mul, Nat.zero_add] at h1
    rw [h1, hu] at h2
    cases h2
  exact rd_apart (rd_apart h hne _ _) hne _ _
theorem box_set2 {w : World} {B : Nat} {n : Int} {u u' : Value} (hb : Box w B n u) : Box ((w.setCell ⟨B, 0, none⟩ (.int .i64 n)).setCell ⟨B, 1, none⟩ u') B n u' :=
  heap_setCell_same _ B 1 _ 29 _ (heap_setCell_same w B 0 _ 29 _ hb)

theorem two_boxes (w : World) (n : Int) (V : World) (hV : V = (w.alloc (.cells #[.int .i64 0, .slice none 0 0, .int .i64 0, .int .i64 0] 37)).alloc (.cells #[.int .i64 n, .slice none 0 0] 29)) :
    Res V w.heap.size (.int .i64 0) (.slice none 0 0) (.int .i64 0) (.int .i64 0) ∧ Box V (w.heap.size + 1) n (.slice none 0 0) ∧ Below w.heap.size w V := by
  subst hV
  have h1 : Res (w.alloc (.cells #[.int .i64 0, .slice none 0 0, .int .i64 0, .int .i64 0] 37)) w.heap.size (.int .i64 0) (.slice none 0 0) (.int .i64 0) (.int .i64 0) := (MapKept.heap_alloc w _).1
  have h2 := (MapKept.heap_alloc (w.alloc (.cells #[.int .i64 0, .slice none 0 0, .int .i64 0, .int .i64 0] 37)) (.cells #[.int .i64 n, .slice none 0 0] 29)).1
  rw [show (w.alloc (.cells #[.int .i64 0, .slice none 0 0, .int .i64 0, .int .i64 0] 37)).heap.size = w.heap.size + 1 by simp] at h2
  exact ⟨((World.grownBy_alloc _ _ none).block _ h1.lt (by simp)).trans h1, h2, ((Below.refl _ _).alloc (Nat.le_refl _) _).alloc (by simp) _⟩

theorem give_told {n : Nat} {l : List Blk} {x : Blk} {w w' : World} {e : Ending} (h : GivePost n l x w e w') (ho : bd.Off l x) : ∃ v' l', e = .returned (.agg #[.int .i64 n, v', .int .i64 0, .int .i64 0]) ∧ bd.Given n l x l' ∧ Rd w' v' (l'.map emb) ∧ Below w.heap.size w w' := by
  rcases h with ⟨_, h1, _⟩ | ⟨v', l', h1, _, h2, h3, h4, _⟩
  · exact absurd ho h1
  · exact ⟨v', l', h1, h2, h3, h4⟩
theorem three_same {W w4 : World} {B g i : Nat} {x y z : Value} (hb : Below W.heap.size W w4) (h0 : W.cell? ⟨B, 0, none⟩ = some x) (h1 : W.cell? ⟨B, 1, none⟩ = some y) (h2 : W.cell? ⟨g, i, none⟩ = some z) :
    w4.cell? ⟨B, 0, none⟩ = some x ∧ w4.cell? ⟨B, 1, none⟩ = some y ∧ w4.cell? ⟨g, i, none⟩ = some z :=
  ⟨(hb.cell (p := ⟨B, 0, none⟩) (cell_lt h0)).trans h0, (hb.cell (p := ⟨B, 1, none⟩) (cell_lt h1)).trans h1, (hb.cell (p := ⟨g, i, none⟩) (cell_lt h2)).trans h2⟩
theorem drewN_below {w W : World} (h : Below w.heap.size w W) (k : Nat) : Below w.heap.size w (W.drewN k) := ⟨h.os, h.tape, h.output, h.size, h.block⟩

set_option maxRecDepth 100000 in
set_option maxHeartbeats 4000000 in
theorem says_of (o : Int) (v : Value) (ps : List Int) (w : World) (hrd : IRd w v ps) : Calls Try.prog 21 #[.int .i64 o, v] w (Says (OfAns o ps) w) := by
  have HRD : Hid (IRd w v ps) := hrd
  obtain ⟨a, c, hv, hcap, hcm, _⟩ := hrd
  unfold maxLen at hcm
  have HOR : Hid (∀ W, _) := fun W => spec_order o W
  have HILL : Hid (∀ (k : Int) W, _) := fun k W => spec_ill k W
  have hres : Res (w.alloc (.cells #[.int .i64 0, .slice none 0 0, .int .i64 0, .int .i64 0] 37)) w.heap.size (.int .i64 0) (.slice none 0 0) (.int .i64 0) (.int .i64 0) := (MapKept.heap_alloc w _).1
  have HRES : Hid (Res (w.alloc (.cells #[.int .i64 0, .slice none 0 0, .int .i64 0, .int .i64 0] 37)) w.heap.size (.int .i64 0) (.slice none 0 0) (.int .i64 0) (.int .i64 0)) := hres
  clear hres
  obtain ⟨L, hL⟩ : ∃ L, L = ps.length := ⟨_, rfl⟩
  have HL : Hid (L = ps.length) := hL
  rw [← hL] at hv hcap
  clear hL
  subst hv
  by_cases hbig : 400 < L
  · have HA : Hid (OfAns o ps (illA 2)) := Or.inl ⟨by rw [← HL.out]; exact hbig, rfl⟩
    go_enter Try.func21, Try.ntmps21
    go_wp2_with fail
    refine Calls.mono (HILL.out _ _) ?_
    rintro e w2 ⟨rfl, hb2⟩
    have HR2 : Hid (Res w2 w.heap.size (.int .i64 0) (.slice none 0 0) (.int .i64 0) (.int .i64 0)) := HRES.out.below hb2 HRES.out.lt
    have HB2 : Hid (Below w.heap.size w w2) := ((Below.refl _ _).alloc (Nat.le_refl _) _).trans (hb2.mono (by simp))
    obtain ⟨⟨r0, r1, r2, r3⟩, q0, q1, q2, q3⟩ := HR2.out.cells
    clear hb2
    simp only [illV]
    go_wp2_with fail
    exact bodyPost_ret (v := illV 2) (by simp [results, Try.results21, go_sem, illV, r0, r1, r2, r3]) rfl (says_ill HA.out (four_end HB2.out (Nat.le_refl _)))
  · cases ho : ordB o with
    | false =>
      rw [ho] at HOR
      have HA : Hid (OfAns o ps (illA 1)) := Or.inr (Or.inl ⟨by rw [← HL.out]; omega, ho, rfl⟩)
      go_enter Try.func21, Try.ntmps21
      go_wp2_with (first | (go_at_call 29; refine Calls.mono (HOR.out _) ?_; rintro e w' ⟨rfl, rfl⟩))
      refine Calls.mono (HILL.out _ _) ?_
      rintro e w2 ⟨rfl, hb2⟩
      have HR2 : Hid (Res w2 w.heap.size (.int .i64 0) (.slice none 0 0) (.int .i64 0) (.int .i64 0)) := HRES.out.below hb2 HRES.out.lt
      have HB2 : Hid (Below w.heap.size w w2) := ((Below.refl _ _).alloc (Nat.le_refl _) _).trans (hb2.mono (by simp))
      obtain ⟨⟨r0, r1, r2, r3⟩, q0, q1, q2, q3⟩ := HR2.out.cells
      clear hb2
      simp only [illV]
      go_wp2_with fail
      exact bodyPost_ret (v := illV 1) (by simp [results, Try.results21, go_sem, illV, r0, r1, r2, r3]) rfl (says_ill HA.out (four_end HB2.out (Nat.le_refl _)))
    | true =>
      rw [ho] at HOR
      obtain ⟨n, hn5, rfl⟩ := ord_nat ho
      have hn32 := bd.pow_le32 hn5
      have hp0 := bd.pow_pos' n
      have HSZ : Hid (∀ W, _) := fun W => spec_size n hn5 W
      have HIS : Hid (∀ (p q : Int) W, _) := fun p q W => spec_is p 0 q W
      have HGI : Hid (∀ (l : List Blk) (p : Nat) (u : Value) W, bd.Right n l → bd.In n (p, 0) → Rd W u (l.map emb) → Calls Try.prog 52 #[.agg #[.int .i64 n, u], .agg #[.int .i64 p, .int .i64 0]] W (GivePost n l (p, 0) W)) := fun l p u W h1 h2 h3 => spec_give0 n l h1 (p, 0) h2 u W h3
      have HOK : Hid (∀ k, OkAt n ps k ↔ 0 ≤ ps.getD k 0 ∧ ps.getD k 0 ≤ ((2 ^ n : Nat) : Int) - 1 ∧ (0 < k → ps.getD (k - 1) 0 < ps.getD k 0)) := fun k => by
        unfold OkAt; constructor
        · exact fun h => ⟨h.1, by have := h.2.1; omega, h.2.2⟩
        · exact fun h => ⟨h.1, by have := h.2.1; omega, h.2.2⟩
      have HBAD : Hid (∀ k, k < L → ¬ OkAt n ps k → OfAns n ps (illA 1)) := fun k hk hne => Or.inr (Or.inr ⟨n, rfl, hn5, by rw [← HL.out]; omega, Or.inl ⟨⟨k, by rw [← HL.out]; exact hk, hne⟩, rfl⟩⟩)
      have HEND : Hid (∀ l, Upto n ps L l → OfAns n ps ((n : Int), l.map emb, 0, 0)) := fun l hl => Or.inr (Or.inr ⟨n, rfl, hn5, by rw [← HL.out]; omega, Or.inr ⟨l, by rw [← HL.out]; exact hl, rfl⟩⟩)
      have HZ : Hid (Upto n ps 0 []) := upto_zero hn5 ps
      obtain ⟨V, hV⟩ : ∃ V, V = (w.alloc (.cells #[.int .i64 0, .slice none 0 0, .int .i64 0, .int .i64 0] 37)).alloc (.cells #[.int .i64 n, .slice none 0 0] 29) := ⟨_, rfl⟩
      obtain ⟨hr0, hx0, hb0⟩ := two_boxes w n V hV
      have HR0 : Hid (Res V w.heap.size (.int .i64 0) (.slice none 0 0) (.int .i64 0) (.int .i64 0)) := hr0
      have HX0 : Hid (Box V (w.heap.size + 1) n (.slice none 0 0)) := hx0
      have HB0 : Hid (Below w.heap.size w V) := hb0
      clear hr0 hx0 hb0 HRES ho
      obtain ⟨s, hs⟩ : ∃ s, s = 2 ^ n := ⟨_, rfl⟩
      rw [← hs] at hn32 hp0 HOK
      simp only [← hs] at HSZ
      clear hs
      go_enter Try.func21, Try.ntmps21
      go_wp2_with (first | (go_at_call 29; refine Calls.mono (HOR.out _) ?_; rintro e w' ⟨rfl, rfl⟩))
      rw [← hV]
      clear hV
      go_loopw [6] (fun t6 wr => ∃ (k : Nat) (u : Value) (l : List Blk), t6 = .int .i64 k ∧ k ≤ L ∧ Hid (Upto n ps k l) ∧ Hid (Rd wr u (l.map emb)) ∧ Hid (Box wr (w.heap.size + 1) n u) ∧ Hid (Res wr w.heap.size (.int .i64 0) (.slice none 0 0) (.int .i64 0) (.int .i64 0)) ∧ Hid (Below w.heap.size w wr)) (fun t6 _ => L - (intOf t6).toNat)
      case atStart => exact ⟨0, .slice none 0 0, [], rfl, by omega, HZ.out, rd_nil _, HX0.out, HR0.out, HB0.out⟩
      case round =>
        obtain ⟨k, u, l, rfl, hk, HUP, HRU, HBX, HRR, HBW⟩ := hrel
        by_cases hlt : k < L
        · have HCE : Hid (∀ W, Below w.heap.size w W → ∀ i, i < L → ∃ g, a = some ⟨g, 0, none⟩ ∧ W.cell? ⟨g, i, none⟩ = some (.int .i64 (ps.getD i 0))) := fun W hW i hi => by
            obtain ⟨a', c', hv', _, _, h3⟩ := HRD.out.below hW
            obtain ⟨g, rfl, _, hc⟩ := h3 (by rw [← HL.out]; omega)
            injection hv' with ha' _ _
            exact ⟨g, ha', hc i (by rw [← HL.out]; exact hi)⟩
          obtain ⟨g, rfl, e0⟩ := HCE.out _ HBW.out k hlt
          replace HCE : Hid (∀ W, Below w.heap.size w W → ∀ i, i < L → W.cell? ⟨g, i, none⟩ = some (.int .i64 (ps.getD i 0))) := fun W hW i hi => by
            obtain ⟨g', hg', h⟩ := HCE.out W hW i hi
            injection hg' with hg'
            injection hg' with hg' _ _
            subst hg'
            exact h
          have HOKK : Hid _ := HOK.out k
          have HBADK : Hid _ := HBAD.out k hlt
          obtain ⟨ua, uc, hu, _⟩ := HRU.out.form
          generalize (l.map emb).length = UL at hu
          subst hu
          by_cases hrg : 0 ≤ ps.getD k 0 ∧ ps.getD k 0 ≤ (s : Int) - 1
          · have HI : Hid (∀ W, Calls Try.prog 53 #[.int .i64 (ps.getD k 0), .int .i64 0, .int .i64 ((s : Int) - 1)] W fun e w' => e = .returned (.bool true) ∧ w' = W) := fun W => by
              have := HIS.out (ps.getD k 0) ((s : Int) - 1) W
              rw [decide_eq_true hrg] at this; exact this
            by_cases hk0 : k = 0
            · subst hk0
              have HOKN : Hid (OkAt n ps 0) := (HOK.out 0).2 ⟨hrg.1, hrg.2, fun h => by omega⟩
              obtain ⟨p, hp, hpn, hin, hoff, hnx⟩ := one_page HUP.out HOKN.out
              have HPP : Hid (ps.getD 0 0 = (p : Int)) := hp
              have HIN : Hid (bd.In n (p, 0)) := hin
              have HOFF : Hid (bd.Off l (p, 0)) := hoff
              have HNX : Hid (∀ l', bd.Given n l (p, 0) l' → Upto n ps (0 + 1) l') := hnx
              rw [hp] at e0 HI
              clear hrg hp hin hoff hnx HOKK HBADK
              go_wp2_with fail
              go_quiet (first | (go_at_call 46; exact Calls.quiet_of_same (HSZ.out _)) | (go_at_call 53; exact Calls.quiet_of_same (HI.out _)))
              go_wp2_with fail
              obtain ⟨W, hW⟩ : ∃ W, W = wr.drewN nq := ⟨_, rfl⟩
              have HRU2 : Hid (Rd W (.slice ua UL uc) (l.map emb)) := by rw [hW]; exact HRU.out
              have HBX2 : Hid (Box W (w.heap.size + 1) n (.slice ua UL uc)) := by rw [hW]; exact HBX.out
              have HRR2 : Hid (Res W w.heap.size (.int .i64 0) (.slice none 0 0) (.int .i64 0) (.int .i64 0)) := by rw [hW]; exact HRR.out
              have HBW2 : Hid (Below w.heap.size w W) := by rw [hW]; exact drewN_below HBW.out nq
              rw [← hW]
              clear hW HRU HBX HRR HBW e0
              have e0 := HCE.out _ HBW2.out (0) hlt
              rw [HPP.out] at e0
              obtain ⟨x0, x1, gx0, gx1⟩ := HBX2.out.cells
              have hBl := HBX2.out.lt
              have hfb := field_buddy
              have HG : Hid (∀ W', Below W.heap.size W W' → Calls Try.prog 52 #[.agg #[.int .i64 n, .slice ua UL uc], .agg #[.int .i64 p, .int .i64 0]] W' (GivePost n l (p, 0) W')) := fun W' hW' => HGI.out l p _ W' HUP.out.right HIN.out (HRU2.out.below hW')
              go_region_with (go_at_call 52; refine Calls.mono (HG.out _ (Below.drew (Below.refl _ _))) ?_; intro e w4 hgp; obtain ⟨v4, l4, rfl, hg4, hr4, hb4⟩ := give_told hgp HOFF.out; have HB4 : Hid (Below W.heap.size W w4) := Below.trans (Below.drew (Below.refl W.heap.size W)) hb4; have HR4 : Hid (Rd w4 v4 (l4.map emb)) := hr4; have HG4 : Hid (bd.Given n l (p, 0) l4) := hg4; have HX4 : Hid (Box w4 (w.heap.size + 1) n (.slice ua UL uc)) := (HB4.out.block _ hBl).trans HBX2.out; obtain ⟨z0, z1, gz0, gz1⟩ := HX4.out.cells; obtain ⟨a4, c4, hv4, _⟩ := hr4.form; generalize (l4.map emb).length = L4 at hv4; subst hv4; have HRE : Hid (Res ((w4.setCell ⟨w.heap.size + 1, 0, none⟩ (.int .i64 n)).setCell ⟨w.heap.size + 1, 1, none⟩ (.slice a4 L4 c4)) w.heap.size (.int .i64 0) (.slice none 0 0) (.int .i64 0) (.int .i64 0)) := ((HRR2.out.below HB4.out HRR2.out.lt).apart (by omega) _).apart (by omega) _; have HBE : Hid (Below w.heap.size w ((w4.setCell ⟨w.heap.size + 1, 0, none⟩ (.int .i64 n)).setCell ⟨w.heap.size + 1, 1, none⟩ (.slice a4 L4 c4))) := ((HBW2.out.trans (HB4.out.mono HBW2.out.size)).setCell (by simp) _).setCell (by simp) _; clear hgp hr4 hg4 hb4)
              all_goals (go_wp2_with fail; go_roundw; (case rel => exact ⟨0 + 1, .slice a4 L4 c4, l4, by go_num, by omega, HNX.out l4 HG4.out, rd_box2 HR4.out HX4.out rfl, box_set2 HX4.out, HRE.out, HBE.out⟩); (case measure => simp [intOf]; omega))
            · obtain ⟨j, rfl⟩ : ∃ j, k = j + 1 := ⟨k - 1, by omega⟩
              have e1 := HCE.out _ HBW.out j (by omega)
              have hj1 : (0 : Int) ≤ (j : Int) + 1 := by omega
              have hj2 : (j : Int) + 1 < (L : Int) := by omega
              by_cases hpp : ps.getD j 0 < ps.getD (j + 1) 0
              · have HOKN : Hid (OkAt n ps (j + 1)) := (HOK.out (j + 1)).2 ⟨hrg.1, hrg.2, fun _ => by rw [Nat.add_sub_cancel]; exact hpp⟩
                obtain ⟨p, hp, hpn, hin, hoff, hnx⟩ := one_page HUP.out HOKN.out
                have HPP : Hid (ps.getD (j + 1) 0 = (p : Int)) := hp
                have HIN : Hid (bd.In n (p, 0)) := hin
                have HOFF : Hid (bd.Off l (p, 0)) := hoff
                have HNX : Hid (∀ l', bd.Given n l (p, 0) l' → Upto n ps (j + 1 + 1) l') := hnx
                rw [hp] at e0 HI
                rw [hp] at hpp
                generalize ps.getD j 0 = p' at *
                have hd : decide ((p : Int) ≤ p') = false := decide_eq_false (by omega)
                clear hrg hp hin hoff hnx HOKK HBADK
                go_wp2_with fail
                go_quiet (first | (go_at_call 46; exact Calls.quiet_of_same (HSZ.out _)) | (go_at_call 53; exact Calls.quiet_of_same (HI.out _)))
                go_wp2_with fail
                obtain ⟨W, hW⟩ : ∃ W, W = wr.drewN nq := ⟨_, rfl⟩
                have HRU2 : Hid (Rd W (.slice ua UL uc) (l.map emb)) := by rw [hW]; exact HRU.out
                have HBX2 : Hid (Box W (w.heap.size + 1) n (.slice ua UL uc)) := by rw [hW]; exact HBX.out
                have HRR2 : Hid (Res W w.heap.size (.int .i64 0) (.slice none 0 0) (.int .i64 0) (.int .i64 0)) := by rw [hW]; exact HRR.out
                have HBW2 : Hid (Below w.heap.size w W) := by rw [hW]; exact drewN_below HBW.out nq
                rw [← hW]
                clear hW HRU HBX HRR HBW e0
                have e0 := HCE.out _ HBW2.out (j + 1) hlt
                rw [HPP.out] at e0
                obtain ⟨x0, x1, gx0, gx1⟩ := HBX2.out.cells
                have hBl := HBX2.out.lt
                have hfb := field_buddy
                have HG : Hid (∀ W', Below W.heap.size W W' → Calls Try.prog 52 #[.agg #[.int .i64 n, .slice ua UL uc], .agg #[.int .i64 p, .int .i64 0]] W' (GivePost n l (p, 0) W')) := fun W' hW' => HGI.out l p _ W' HUP.out.right HIN.out (HRU2.out.below hW')
                go_region_with (go_at_call 52; refine Calls.mono (HG.out _ (Below.drew (Below.refl _ _))) ?_; intro e w4 hgp; obtain ⟨v4, l4, rfl, hg4, hr4, hb4⟩ := give_told hgp HOFF.out; have HB4 : Hid (Below W.heap.size W w4) := Below.trans (Below.drew (Below.refl W.heap.size W)) hb4; have HR4 : Hid (Rd w4 v4 (l4.map emb)) := hr4; have HG4 : Hid (bd.Given n l (p, 0) l4) := hg4; have HX4 : Hid (Box w4 (w.heap.size + 1) n (.slice ua UL uc)) := (HB4.out.block _ hBl).trans HBX2.out; obtain ⟨z0, z1, gz0, gz1⟩ := HX4.out.cells; obtain ⟨a4, c4, hv4, _⟩ := hr4.form; generalize (l4.map emb).length = L4 at hv4; subst hv4; have HRE : Hid (Res ((w4.setCell ⟨w.heap.size + 1, 0, none⟩ (.int .i64 n)).setCell ⟨w.heap.size + 1, 1, none⟩ (.slice a4 L4 c4)) w.heap.size (.int .i64 0) (.slice none 0 0) (.int .i64 0) (.int .i64 0)) := ((HRR2.out.below HB4.out HRR2.out.lt).apart (by omega) _).apart (by omega) _; have HBE : Hid (Below w.heap.size w ((w4.setCell ⟨w.heap.size + 1, 0, none⟩ (.int .i64 n)).setCell ⟨w.heap.size + 1, 1, none⟩ (.slice a4 L4 c4))) := ((HBW2.out.trans (HB4.out.mono HBW2.out.size)).setCell (by simp) _).setCell (by simp) _; clear hgp hr4 hg4 hb4)
                all_goals (go_wp2_with fail; go_roundw; (case rel => exact ⟨(j + 1) + 1, .slice a4 L4 c4, l4, by go_num, by omega, HNX.out l4 HG4.out, rd_box2 HR4.out HX4.out rfl, box_set2 HX4.out, HRE.out, HBE.out⟩); (case measure => simp [intOf]; omega))
              · have HA : Hid (OfAns n ps (illA 1)) := HBADK.out (fun h => hpp (by have := ((HOK.out (j + 1)).1 h).2.2 (by omega); rw [Nat.add_sub_cancel] at this; exact this))
                generalize ps.getD (j + 1) 0 = p at *
                generalize ps.getD j 0 = p' at *
                have hd : decide (p ≤ p') = true := decide_eq_true (by omega)
                clear hrg HOKK HBADK
                go_wp2_with fail
                go_quiet (first | (go_at_call 46; exact Calls.quiet_of_same (HSZ.out _)) | (go_at_call 53; exact Calls.quiet_of_same (HI.out _)))
                go_wp2_with fail
                refine Calls.mono (HILL.out _ _) ?_
                rintro e w2 ⟨rfl, hb2⟩
                have HR2 : Hid (Res w2 w.heap.size (.int .i64 0) (.slice none 0 0) (.int .i64 0) (.int .i64 0)) := Res.below (w := wr.drewN nq) HRR.out hb2 HRR.out.lt
                have HB2 : Hid (Below w.heap.size w w2) := (drewN_below HBW.out nq).trans (hb2.mono HBW.out.size)
                obtain ⟨⟨r0, r1, r2, r3⟩, q0, q1, q2, q3⟩ := HR2.out.cells
                clear hb2
                simp only [illV]
                go_wp2_with fail
                exact bodyPost_ret (v := illV 1) (by simp [results, Try.results21, go_sem, illV, r0, r1, r2, r3]) rfl (says_ill HA.out (four_end HB2.out (Nat.le_refl _)))
          · have HA : Hid (OfAns n ps (illA 1)) := HBADK.out (fun h => hrg ⟨((HOK.out k).1 h).1, ((HOK.out k).1 h).2.1⟩)
            have HI : Hid (∀ W, Calls Try.prog 53 #[.int .i64 (ps.getD k 0), .int .i64 0, .int .i64 ((s : Int) - 1)] W fun e w' => e = .returned (.bool false) ∧ w' = W) := fun W => by
              have := HIS.out (ps.getD k 0) ((s : Int) - 1) W
              rw [decide_eq_false hrg] at this; exact this
            generalize ps.getD k 0 = p at *
            clear hrg HOKK HBADK
            go_wp2_with fail
            go_quiet (first | (go_at_call 46; exact Calls.quiet_of_same (HSZ.out _)) | (go_at_call 53; exact Calls.quiet_of_same (HI.out _)))
            go_wp2_with fail
            refine Calls.mono (HILL.out _ _) ?_
            rintro e w2 ⟨rfl, hb2⟩
            have HR2 : Hid (Res w2 w.heap.size (.int .i64 0) (.slice none 0 0) (.int .i64 0) (.int .i64 0)) := Res.below (w := wr.drewN nq) HRR.out hb2 HRR.out.lt
            have HB2 : Hid (Below w.heap.size w w2) := (drewN_below HBW.out nq).trans (hb2.mono HBW.out.size)
            obtain ⟨⟨r0, r1, r2, r3⟩, q0, q1, q2, q3⟩ := HR2.out.cells
            clear hb2
            simp only [illV]
            go_wp2_with fail
            exact bodyPost_ret (v := illV 1) (by simp [results, Try.results21, go_sem, illV, r0, r1, r2, r3]) rfl (says_ill HA.out (four_end HB2.out (Nat.le_refl _)))
        · obtain rfl : k = L := by omega
          have HA : Hid (OfAns n ps ((n : Int), l.map emb, 0, 0)) := HEND.out l HUP.out
          obtain ⟨⟨r0, r1, r2, r3⟩, q0, q1, q2, q3⟩ := HRR.out.cells
          obtain ⟨x0, x1, _, _⟩ := HBX.out.cells
          obtain ⟨a2, c2, hu, _⟩ := HRU.out.form
          generalize (l.map emb).length = L2 at hu
          subst hu
          go_wp2_with fail
          exact bodyPost_ret (v := .agg #[.int .i64 n, .slice a2 L2 c2, .int .i64 0, .int .i64 0]) (by simp [results, Try.results21, go_sem, r0, r1, r2, r3]) rfl ⟨_, _, HA.out, rfl, rd_res4 HRU.out HRR.out, four_end HBW.out (Nat.le_refl _)⟩
end Go.Proofs.Ytcokchfedaoccab.bspec
