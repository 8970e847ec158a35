/-
  The walk of the program's BuddyOf at every argument.
-/
import Derived.Test.YtcokchfedaoccabBuddyOfW
import Derived.Test.YtcokchfedaoccabBuddyTakeI
import Derived.Test.YtcokchfedaoccabBuddyGiv
namespace Go.Proofs.Ytcokchfedaoccab.btop
open Go.RowKit Go.Deep Go.Maps Go.Sort
open Go.Proofs.Ytcokchfedaoccab
open Go.Proofs.Ytcokchfedaoccab.brows
open Go.Proofs.Ytcokchfedaoccab.bspec
open Go.Proofs.Ytcokchfedaoccab.bimpl
open Go.Proofs.Ytcokchfedaoccab.bpool
open Go.Proofs.Ytcokchfedaoccab.bd (Blk)
set_option linter.unusedVariables false

theorem ok_le {n : Nat} {ps : List Int} {k : Nat} (h : ∀ i, i < k → OkAt n ps i) : ∀ i, i < k → (i : Int) ≤ ps.getD i 0
  | 0, hi => (h 0 hi).1
  | i + 1, hi => by
    have h1 := ok_le h i (by omega)
    have h2 := (h (i + 1) hi).2.2 (by omega)
    rw [Nat.add_sub_cancel] at h2
    omega
theorem ok_few {n : Nat} {ps : List Int} {k : Nat} {l : List Blk} (h : Upto n ps k l) (hk : OkAt n ps k) : k < 2 ^ n := by
  have hok : ∀ i, i < k + 1 → OkAt n ps i := fun i hi => by
    rcases Nat.lt_succ_iff_lt_or_eq.1 hi with h1 | e
    · exact h.ok i h1
    · subst e; exact hk
  have h1 := ok_le hok k (by omega)
  have h2 := hk.2.1
  omega
theorem in_page {n : Nat} {p : Int} (h : inB n (p, 0) = true) : 0 ≤ p ∧ p < ((2 ^ n : Nat) : Int) := by
  obtain ⟨y, hy, hin⟩ := in_nat h
  have h1 := hin.lt
  have e : p = (y.1 : Int) := congrArg Prod.fst hy
  omega
theorem page_in {n : Nat} {ps : List Int} {k : Nat} (h : OkAt n ps k) : inB n (ps.getD k 0, 0) = true := by
  obtain ⟨h0, h1, _⟩ := h
  obtain ⟨p, hp⟩ : ∃ p : Nat, ps.getD k 0 = (p : Int) := ⟨(ps.getD k 0).toNat, by omega⟩
  rw [hp]
  exact in_of (y := (p, 0)) ⟨by simp, by show p < 2 ^ n; omega, by simp [Nat.mod_one]⟩

theorem three_of (w : World) (n : Nat) (V : World) (hV : V = ((w.alloc (.cells #[.int .i64 0, .slice none 0 0, .int .i64 0, .int .i64 0] 37)).alloc (.map #[] 0)).alloc (.cells #[.int .i64 n, .map (some (w.heap.size + 1))] 60)) :
    Res V w.heap.size (.int .i64 0) (.slice none 0 0) (.int .i64 0) (.int .i64 0) ∧ Pool V (w.heap.size + 1) 0 [] ∧ PBox V (w.heap.size + 1 + 1) n (w.heap.size + 1) ∧ Below w.heap.size w V := by
  subst hV
  have h1 : Res (w.alloc (.cells #[.int .i64 0, .slice none 0 0, .int .i64 0, .int .i64 0] 37)) w.heap.size (.int .i64 0) (.slice none 0 0) (.int .i64 0) (.int .i64 0) := (MapKept.heap_alloc w _).1
  have hs1 : (w.alloc (.cells #[.int .i64 0, .slice none 0 0, .int .i64 0, .int .i64 0] 37)).heap.size = w.heap.size + 1 := by simp
  have h2 := pool_made (w.alloc (.cells #[.int .i64 0, .slice none 0 0, .int .i64 0, .int .i64 0] 37))
  rw [hs1] at h2
  have h3 := pbox_one ((w.alloc (.cells #[.int .i64 0, .slice none 0 0, .int .i64 0, .int .i64 0] 37)).alloc (.map #[] 0)) n (w.heap.size + 1)
  rw [show ((w.alloc (.cells #[.int .i64 0, .slice none 0 0, .int .i64 0, .int .i64 0] 37)).alloc (.map #[] 0)).heap.size = w.heap.size + 1 + 1 by simp] at h3
  refine ⟨?_, h2.kept (World.grownBy_alloc _ _ none) (by simp), h3, (((Below.refl _ _).alloc (Nat.le_refl _) _).alloc (by simp) _).alloc (by simp; omega) _⟩
  have e1 := (World.grownBy_alloc (w.alloc (.cells #[.int .i64 0, .slice none 0 0, .int .i64 0, .int .i64 0] 37)) (.map #[] 0) none).block w.heap.size h1.lt (by simp)
  exact ((World.grownBy_alloc _ _ none).block _ (by simp; omega) (by simp)).trans (e1.trans h1)

set_option maxRecDepth 100000 in
set_option maxHeartbeats 4000000 in
theorem impl_of (o : Int) (v : Value) (ps : List Int) (w : World) (hrd : IRd w v ps) : Calls Try.prog 15 #[.int .i64 o, v] w (Owns (OfAns o ps) w) := by
  have HRD : Hid (IRd w v ps) := hrd
  obtain ⟨a, c, hv, hcap, hcm, _⟩ := hrd
  unfold maxLen at hcm
  have HOR : Hid (∀ W, _) := fun W => impl_order o W
  obtain ⟨L, hL⟩ : ∃ L, L = ps.length := ⟨_, rfl⟩
  have HL : Hid (L = ps.length) := hL
  rw [← hL] at hv hcap
  clear hL
  subst hv
  by_cases hbig : 400 < L
  · have HA : Hid (OfAns o ps (illA 2)) := Or.inl ⟨by rw [← HL.out]; exact hbig, rfl⟩
    go_enter Try.func15, Try.ntmps15
    go_wp2_with fail
    exact bodyPost_ret (v := illV 2) (by simp [results, Try.results15, go_sem, illV]) rfl (owns_ill HA.out (below_one w _))
  · cases ho : ordB o with
    | false =>
      rw [ho] at HOR
      have HA : Hid (OfAns o ps (illA 1)) := Or.inr (Or.inl ⟨by rw [← HL.out]; omega, ho, rfl⟩)
      go_enter Try.func15, Try.ntmps15
      go_wp2_with (first | (go_at_call 32; refine Calls.mono (HOR.out _) ?_; rintro e w' ⟨rfl, rfl⟩))
      exact bodyPost_ret (v := illV 1) (by simp [results, Try.results15, go_sem, illV]) rfl (owns_ill HA.out (below_one w _))
    | true =>
      rw [ho] at HOR
      obtain ⟨n, hn5, rfl⟩ := ord_nat ho
      have hn32 := bd.pow_le32 hn5
      have HIN : Hid (∀ (p : Int) W, _) := fun p W => impl_in n hn5 (p, 0) W
      have HGV : Hid (∀ (b k p : Nat) (l : List Blk) W, bd.Right n l → bd.In n (p, 0) → bd.Off l (p, 0) → k ≤ 100 → Pool W b k l → Calls Try.prog 45 #[.agg #[.int .i64 n, .map (some b)], .agg #[.int .i64 p, .int .i64 0]] W (GivPost n b k l (p, 0) W)) := fun b k p l W h1 h2 h3 h4 h5 => impl_giv n b k l (p, 0) h1 h2 h3 h4 W h5
      have HBU : Hid (∀ (b k : Nat) (l : List Blk) W, bd.Right n l → Pool W b k l → Calls Try.prog 41 #[.agg #[.int .i64 n, .map (some b)]] W (BuddyPost n l W)) := fun b k l W h1 h2 => impl_buddy n b k l h1 W h2
      have HBAD : Hid (∀ k, k < L → ¬ OkAt n ps k → OfAns n ps (illA 1)) := fun k hk hne => Or.inr (Or.inr ⟨n, rfl, hn5, by rw [← HL.out]; omega, Or.inl ⟨⟨k, by rw [← HL.out]; exact hk, hne⟩, rfl⟩⟩)
      have HEND : Hid (∀ l, Upto n ps L l → OfAns n ps ((n : Int), l.map emb, 0, 0)) := fun l hl => Or.inr (Or.inr ⟨n, rfl, hn5, by rw [← HL.out]; omega, Or.inr ⟨l, by rw [← HL.out]; exact hl, rfl⟩⟩)
      have HZ : Hid (Upto n ps 0 []) := upto_zero hn5 ps
      obtain ⟨V, hV⟩ : ∃ V, V = ((w.alloc (.cells #[.int .i64 0, .slice none 0 0, .int .i64 0, .int .i64 0] 37)).alloc (.map #[] 0)).alloc (.cells #[.int .i64 n, .map (some (w.heap.size + 1))] 60) := ⟨_, rfl⟩
      obtain ⟨hr0, hp0, hx0, hb0⟩ := three_of w n V hV
      have HR0 : Hid (Res V w.heap.size (.int .i64 0) (.slice none 0 0) (.int .i64 0) (.int .i64 0)) := hr0
      have HP0 : Hid (Pool V (w.heap.size + 1) 0 []) := hp0
      have HX0 : Hid (PBox V (w.heap.size + 1 + 1) n (w.heap.size + 1)) := hx0
      have HB0 : Hid (Below w.heap.size w V) := hb0
      clear hr0 hx0 hb0 hp0 ho
      have hmm := @run_makeMap Try.prog
      go_enter Try.func15, Try.ntmps15
      go_wp2_with (first | (go_at_call 32; refine Calls.mono (HOR.out _) ?_; rintro e w' ⟨rfl, rfl⟩))
      rw [← hV]
      clear hV hmm
      go_loopw [22] (fun t22 wr => ∃ (k : Nat) (l : List Blk), t22 = .int .i64 k ∧ k ≤ L ∧ Hid (Upto n ps k l) ∧ Hid (Pool wr (w.heap.size + 1) k l) ∧ Hid (V.grownBy wr (some (w.heap.size + 1)))) (fun t22 _ => L - (intOf t22).toNat)
      case atStart => exact ⟨0, [], rfl, by omega, HZ.out, HP0.out, World.grownBy.refl _ _⟩
      case round =>
        obtain ⟨k, l, rfl, hk, HUP, HPL, HGR⟩ := hrel
        have HRR : Hid (Res wr w.heap.size (.int .i64 0) (.slice none 0 0) (.int .i64 0) (.int .i64 0)) := HR0.out.grown HGR.out (by omega)
        have HBX : Hid (PBox wr (w.heap.size + 1 + 1) n (w.heap.size + 1)) := PBox.grown HX0.out HGR.out (by simp)
        have HBW : Hid (Below w.heap.size w wr) := HB0.out.grown HGR.out HB0.out.size (fun j hj => by cases hj; omega)
        obtain ⟨⟨r0, r1, r2, r3⟩, q0, q1, q2, q3⟩ := HRR.out.cells
        obtain ⟨b0, b1⟩ := HBX.out.cells
        have hws := HBX.out.lt
        by_cases hlt : k < L
        · have HCE : Hid (∀ W, Below w.heap.size w W → ∀ i, i < L → ∃ g, a = some ⟨g, 0, none⟩ ∧ W.cell? ⟨g, i, none⟩ = some (.int .i64 (ps.getD i 0))) := fun W hW i hi => by
            obtain ⟨a', c', hv', _, _, h3⟩ := HRD.out.below hW
            obtain ⟨g, rfl, _, hc⟩ := h3 (by rw [← HL.out]; omega)
            injection hv' with ha' _ _
            exact ⟨g, ha', hc i (by rw [← HL.out]; exact hi)⟩
          obtain ⟨g, rfl, e0⟩ := HCE.out _ HBW.out k hlt
          replace HCE : Hid (∀ W, Below w.heap.size w W → ∀ i, i < L → W.cell? ⟨g, i, none⟩ = some (.int .i64 (ps.getD i 0))) := fun W hW i hi => by
            obtain ⟨g', hg', h⟩ := HCE.out W hW i hi
            injection hg' with hg'
            injection hg' with hg' _ _
            subst hg'
            exact h
          have HBADK : Hid _ := HBAD.out k hlt
          have HI : Hid (∀ W, _) := HIN.out (ps.getD k 0)
          cases hin0 : inB n (ps.getD k 0, 0) with
          | false =>
            rw [hin0] at HI
            have HA : Hid (OfAns n ps (illA 1)) := HBADK.out (fun h => by rw [page_in h] at hin0; cases hin0)
            generalize ps.getD k 0 = p at *
            clear hin0 HBADK
            go_wp2_with fail
            refine Calls.mono (HI.out _) ?_
            rintro e w2 ⟨rfl, hb2⟩
            have HB2 : Hid (Below wr.heap.size wr w2) := below_tr (below_one wr _) hb2
            have HBW2 : Hid (Below w.heap.size w w2) := below_tr HBW.out HB2.out
            have HR2 : Hid (Res w2 w.heap.size (.int .i64 0) (.slice none 0 0) (.int .i64 0) (.int .i64 0)) := HRR.out.below HB2.out HRR.out.lt
            obtain ⟨⟨z0, z1, z2, z3⟩, y0, y1, y2, y3⟩ := HR2.out.cells
            clear hb2 r0 r1 r2 r3 q0 q1 q2 q3 b0 b1
            go_wp2_with fail
            exact bodyPost_ret (v := illV 1) (by simp [results, Try.results15, go_sem, illV, z0, z1, z2, z3]) rfl (owns_ill HA.out (four_end HBW2.out (Nat.le_refl _)))
          | true =>
            rw [hin0] at HI
            have hrg := in_page hin0
            clear hin0
            by_cases hk0 : k = 0
            · subst hk0
              have HOKN : Hid (OkAt n ps 0) := ⟨hrg.1, hrg.2, fun h => by omega⟩
              obtain ⟨p, hp, hpn, hin, hoff, hnx⟩ := one_page HUP.out HOKN.out
              have HNX : Hid (∀ l', bd.Given n l (p, 0) l' → Upto n ps (0 + 1) l') := hnx
              have hkf := ok_few HUP.out HOKN.out
              have HG : Hid (∀ W, Pool W (w.heap.size + 1) (0) l → Calls Try.prog 45 #[.agg #[.int .i64 n, .map (some (w.heap.size + 1))], .agg #[.int .i64 p, .int .i64 0]] W (GivPost n (w.heap.size + 1) (0) l (p, 0) W)) := fun W hW => HGV.out _ _ p l W HUP.out.right hin hoff (by omega) hW
              rw [hp] at e0 HI
              clear hp hin hoff hnx HBADK hkf
              go_wp2_with fail
              refine Calls.mono (HI.out _) ?_
              rintro e w2 ⟨rfl, hb2⟩
              have HX2 : Hid (Blx w2 wr.heap.size p 0) := (hb2.block _ (by simp)).trans (blx_new wr p 0)
              have HB2 : Hid (Below wr.heap.size wr w2) := below_tr (below_one wr _) hb2
              have HBW2 : Hid (Below w.heap.size w w2) := below_tr HBW.out HB2.out
              have HPX2 : Hid (PBox w2 (w.heap.size + 1 + 1) n (w.heap.size + 1)) := pbox_below HBX.out HB2.out
              have HPL2 : Hid (Pool w2 (w.heap.size + 1) (0) l) := HPL.out.below HB2.out HPL.out.lt
              obtain ⟨b0, b1⟩ := HPX2.out.cells
              obtain ⟨x0, x1, _, _⟩ := HX2.out.cells
              clear hb2 r0 r1 r2 r3 q0 q1 q2 q3
              go_wp2_with fail
              refine Calls.mono (HG.out _ HPL2.out) ?_
              rintro e w3 ⟨l', rfl, hgv, hp3, hg3⟩
              have HGN : Hid (bd.Given n l (p, 0) l') := hgv
              have HP3 : Hid (Pool w3 (w.heap.size + 1) (0 + 1) l') := hp3
              have HG3 : Hid (V.grownBy w3 (some (w.heap.size + 1))) := grown_trans (grown_trans HGR.out (grown_below HB2.out _)) hg3
              clear hgv hp3 hg3
              go_wp2_with fail
              go_roundw
              case rel => exact ⟨0 + 1, l', by go_num, by omega, HNX.out l' HGN.out, HP3.out, HG3.out⟩
              case measure => simp [intOf]; omega
            · obtain ⟨j, rfl⟩ : ∃ j, k = j + 1 := ⟨k - 1, by omega⟩
              have hj1 : (0 : Int) ≤ (j : Int) + 1 := by omega
              have hj2 : (j : Int) + 1 < (L : Int) := by omega
              by_cases hpp : ps.getD j 0 < ps.getD (j + 1) 0
              · have HOKN : Hid (OkAt n ps (j + 1)) := ⟨hrg.1, hrg.2, fun _ => by rw [Nat.add_sub_cancel]; exact hpp⟩
                obtain ⟨p, hp, hpn, hin, hoff, hnx⟩ := one_page HUP.out HOKN.out
                have HNX : Hid (∀ l', bd.Given n l (p, 0) l' → Upto n ps (j + 1 + 1) l') := hnx
                have hkf := ok_few HUP.out HOKN.out
                have HG : Hid (∀ W, Pool W (w.heap.size + 1) (j + 1) l → Calls Try.prog 45 #[.agg #[.int .i64 n, .map (some (w.heap.size + 1))], .agg #[.int .i64 p, .int .i64 0]] W (GivPost n (w.heap.size + 1) (j + 1) l (p, 0) W)) := fun W hW => HGV.out _ _ p l W HUP.out.right hin hoff (by omega) hW
                rw [hp] at e0 HI
                rw [hp] at hpp
                have HE1 : Hid (∀ W, Below w.heap.size w W → W.cell? ⟨g, j, none⟩ = some (.int .i64 (ps.getD j 0))) := fun W hW => HCE.out W hW j (by omega)
                generalize ps.getD j 0 = p' at *
                have hd : decide ((p : Int) ≤ p') = false := decide_eq_false (by omega)
                clear hp hin hoff hnx HBADK hkf
                go_wp2_with fail
                refine Calls.mono (HI.out _) ?_
                rintro e w2 ⟨rfl, hb2⟩
                have HX2 : Hid (Blx w2 wr.heap.size p 0) := (hb2.block _ (by simp)).trans (blx_new wr p 0)
                have HB2 : Hid (Below wr.heap.size wr w2) := below_tr (below_one wr _) hb2
                have HBW2 : Hid (Below w.heap.size w w2) := below_tr HBW.out HB2.out
                have HPX2 : Hid (PBox w2 (w.heap.size + 1 + 1) n (w.heap.size + 1)) := pbox_below HBX.out HB2.out
                have HPL2 : Hid (Pool w2 (w.heap.size + 1) (j + 1) l) := HPL.out.below HB2.out HPL.out.lt
                obtain ⟨b0, b1⟩ := HPX2.out.cells
                obtain ⟨x0, x1, _, _⟩ := HX2.out.cells
                clear hb2 r0 r1 r2 r3 q0 q1 q2 q3
                have e1 := HE1.out _ HBW2.out
                go_wp2_with fail
                refine Calls.mono (HG.out _ HPL2.out) ?_
                rintro e w3 ⟨l', rfl, hgv, hp3, hg3⟩
                have HGN : Hid (bd.Given n l (p, 0) l') := hgv
                have HP3 : Hid (Pool w3 (w.heap.size + 1) (j + 1 + 1) l') := hp3
                have HG3 : Hid (V.grownBy w3 (some (w.heap.size + 1))) := grown_trans (grown_trans HGR.out (grown_below HB2.out _)) hg3
                clear hgv hp3 hg3
                go_wp2_with fail
                go_roundw
                case rel => exact ⟨j + 1 + 1, l', by go_num, by omega, HNX.out l' HGN.out, HP3.out, HG3.out⟩
                case measure => simp [intOf]; omega
              · have HA : Hid (OfAns n ps (illA 1)) := HBADK.out (fun h => hpp (by have := h.2.2 (by omega); rw [Nat.add_sub_cancel] at this; exact this))
                have HE1 : Hid (∀ W, Below w.heap.size w W → W.cell? ⟨g, j, none⟩ = some (.int .i64 (ps.getD j 0))) := fun W hW => HCE.out W hW j (by omega)
                generalize ps.getD (j + 1) 0 = p at *
                generalize ps.getD j 0 = p' at *
                have hd : decide (p ≤ p') = true := decide_eq_true (by omega)
                clear hrg HBADK
                go_wp2_with fail
                refine Calls.mono (HI.out _) ?_
                rintro e w2 ⟨rfl, hb2⟩
                have HB2 : Hid (Below wr.heap.size wr w2) := below_tr (below_one wr _) hb2
                have HBW2 : Hid (Below w.heap.size w w2) := below_tr HBW.out HB2.out
                have HR2 : Hid (Res w2 w.heap.size (.int .i64 0) (.slice none 0 0) (.int .i64 0) (.int .i64 0)) := HRR.out.below HB2.out HRR.out.lt
                obtain ⟨⟨z0, z1, z2, z3⟩, y0, y1, y2, y3⟩ := HR2.out.cells
                clear hb2 r0 r1 r2 r3 q0 q1 q2 q3 b0 b1
                have e1 := HE1.out _ HBW2.out
                go_wp2_with fail
                exact bodyPost_ret (v := illV 1) (by simp [results, Try.results15, go_sem, illV, z0, z1, z2, z3]) rfl (owns_ill HA.out (four_end HBW2.out (Nat.le_refl _)))
        · obtain rfl : k = L := by omega
          have HA : Hid (OfAns n ps ((n : Int), l.map emb, 0, 0)) := HEND.out l HUP.out
          go_wp2_with fail
          refine Calls.mono (HBU.out _ _ l _ HUP.out.right HPL.out) ?_
          rintro e w7 ⟨v7, rfl, hr7, hb7⟩
          have HB7 : Hid (Below w.heap.size w w7) := below_tr HBW.out hb7
          have HROW : Hid (Row w7 wr.heap.size v7 (l.map emb)) := hr7
          have HR7 : Hid (Res w7 w.heap.size (.int .i64 0) (.slice none 0 0) (.int .i64 0) (.int .i64 0)) := HRR.out.below hb7 HRR.out.lt
          obtain ⟨⟨z0, z1, z2, z3⟩, y0, y1, y2, y3⟩ := HR7.out.cells
          obtain ⟨va, vc, hv7, _⟩ := hr7.rd.form
          generalize (l.map emb).length = L7 at hv7
          subst hv7
          have HED : Hid (∀ y0 y1 y2 y3, Row ((((w7.setCell ⟨w.heap.size, 0, none⟩ y0).setCell ⟨w.heap.size, 1, none⟩ y1).setCell ⟨w.heap.size, 2, none⟩ y2).setCell ⟨w.heap.size, 3, none⟩ y3) w.heap.size (.slice va L7 vc) (l.map emb)) := fun y0 y1 y2 y3 =>
            Row.down (Row.move HROW.out fun g hg _ _ => by rw [Below.heap_setCell _ _ _ _ (by show g ≠ w.heap.size; omega), Below.heap_setCell _ _ _ _ (by show g ≠ w.heap.size; omega), Below.heap_setCell _ _ _ _ (by show g ≠ w.heap.size; omega), Below.heap_setCell _ _ _ _ (by show g ≠ w.heap.size; omega)]) (by omega)
          clear hr7 hb7 r0 r1 r2 r3 q0 q1 q2 q3 b0 b1
          go_wp2_with fail
          exact bodyPost_ret (v := .agg #[.int .i64 n, .slice va L7 vc, .int .i64 0, .int .i64 0]) (by simp [results, Try.results15, go_sem, z0, z1, z2, z3]) rfl ⟨_, _, HA.out, rfl, HED.out _ _ _ _, four_end HB7.out (Nat.le_refl _)⟩
end Go.Proofs.Ytcokchfedaoccab.btop
