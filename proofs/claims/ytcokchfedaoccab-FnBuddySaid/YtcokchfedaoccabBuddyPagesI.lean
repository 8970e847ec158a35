/-
  The walk of the program's FreePages at every buddy.
-/
import Derived.Test.YtcokchfedaoccabBuddyTakeI
import Derived.Maps.AppendAt
namespace Go.Proofs.Ytcokchfedaoccab.btop
open Go.RowKit Go.Deep Go.Maps Go.Sort
open Go.Proofs.Ytcokchfedaoccab
open Go.Proofs.Ytcokchfedaoccab.brows
open Go.Proofs.Ytcokchfedaoccab.bspec
open Go.Proofs.Ytcokchfedaoccab.bimpl
open Go.Proofs.Ytcokchfedaoccab.bpool
open Go.Proofs.Ytcokchfedaoccab.bd (Blk)
set_option linter.unusedVariables false

/-- the pages so far: of the blocks behind, and p of the next one at a -/
def pgs (pre : List Blk) (a p : Nat) : List Int := (bd.pagesL pre ++ (List.range p).map (a + ·)).map fun i : Nat => (i : Int)
theorem pgs_zero (pre : List Blk) (a b : Nat) : pgs pre a 0 = pgs pre b 0 := by simp [pgs]
theorem pgs_snoc (pre : List Blk) (a p : Nat) : pgs pre a (p + 1) = pgs pre a p ++ [((a + p : Nat) : Int)] := by simp [pgs, List.range_succ]
theorem pgs_next (pre : List Blk) (x : Blk) (b : Nat) : pgs pre x.1 (2 ^ x.2) = pgs (pre ++ [x]) b 0 := by simp [pgs, bd.pagesL]
theorem pgs_all (l : List Blk) (b : Nat) : pgs l b 0 = (bd.pagesL l).map fun i : Nat => (i : Int) := by simp [pgs]
theorem pgs_len (pre : List Blk) (a p : Nat) : (pgs pre a p).length = bd.sumL pre + p := by simp [pgs, bd.pages_len]
theorem irow_nil (w : World) (base : Nat) : irows.Row w base (.slice none 0 0) [] := ⟨by simp, Or.inl ⟨rfl, rfl⟩⟩
theorem own_move {w w' : World} {base : Nat} {e : TypeId} {size : Nat} {v : Value} {n : Nat} {xs : List Value} (h : w.ownsRow base e size v n xs) (hk : ∀ g, base ≤ g → g < w.heap.size → v.ownBlock = some g → w'.heap[g]? = w.heap[g]?) : w'.ownsRow base e size v n xs := by
  obtain ⟨hl, hr⟩ := h
  refine ⟨hl, ?_⟩
  rcases hr with h0 | ⟨g, cap, cur, hv, hbg, hc, hrest⟩
  · exact Or.inl h0
  · exact Or.inr ⟨g, cap, cur, hv, hbg, (hk g hbg (Array.getElem?_eq_some_iff.1 hc).1 (by rw [hv]; rfl)).trans hc, hrest⟩
theorem own_less {w : World} {base : Nat} {e : TypeId} {size : Nat} {v : Value} {n : Nat} {xs : List Value} (h : w.ownsRow base e size v n xs) {g : Nat} (hg : v.ownBlock = some g) : g < w.heap.size := by
  rcases h.2 with ⟨rfl, _⟩ | ⟨g', cap, cur, rfl, hbg, hc, _⟩
  · simp [Value.ownBlock] at hg
  · simp [Value.ownBlock] at hg; subst hg
    exact (Array.getElem?_eq_some_iff.1 hc).1

set_option maxRecDepth 100000 in
set_option maxHeartbeats 4000000 in
theorem impl_free (m : Int) (v : Value) (xs : List Pr) (w : World) (hrd : Rd w v xs) (hlm : xs.length ≤ 1000000000) : Calls Try.prog 17 #[.agg #[.int .i64 m, v]] w (Gives w (pagesI m xs)) := by
  have HRD : Hid (Rd w v xs) := hrd
  have HRT : Hid (∀ W, Below w.heap.size w W → _) := fun W hW => impl_right m v xs W (HRD.out.below hW) hlm
  obtain ⟨a, c, hv, _⟩ := hrd.form
  clear hrd
  have HX0 : Hid (Box (w.alloc (.cells #[.int .i64 m, v] 29)) w.heap.size m v) := (MapKept.heap_alloc w _).1
  have HB0 : Hid (Below w.heap.size w (w.alloc (.cells #[.int .i64 m, v] 29))) := below_one _ _
  generalize hL : xs.length = L at hv
  subst hv
  cases hr : rightB m xs with
  | false =>
    rw [hr] at HRT
    have HP : Hid (pagesI m xs = []) := pagesI_none (fun h => by rw [rightB_yes h] at hr; cases hr)
    go_enter Try.func17, Try.ntmps17
    go_wp2_with fail
    refine Calls.mono (HRT.out _ HB0.out) ?_
    rintro e w1 ⟨rfl, hb1⟩
    have HB1 : Hid (Below w.heap.size w w1) := below_tr HB0.out hb1
    clear hb1 HX0
    go_wp2_with fail
    go_ret
    exact ⟨_, rfl, by rw [HP.out]; exact irow_nil _ _, HB1.out⟩
  | true =>
    rw [hr] at HRT
    obtain ⟨n, l, rfl, rfl, hrt⟩ := rightB_iff.1 hr
    have HR : Hid (bd.Right n l) := hrt
    have HPE : Hid (pagesI (n : Int) (l.map emb) = (bd.pagesL l).map fun i : Nat => (i : Int)) := pagesI_of hrt
    have HPO : Hid (∀ W, Below w.heap.size w W → Calls Try.prog 33 #[.agg #[.int .i64 n, .slice a L c]] W (PoolPost n l W)) := fun W hW => impl_poolOf n _ l hrt W (HRD.out.below hW)
    have HWK : Hid (∀ (b : Nat) W, _) := fun b W => impl_walk (n : Int) b W
    have HSZ : Hid (∀ (p : Int) (o : Nat), o ≤ 5 → ∀ W, _) := fun p o ho W => bimpl.impl_pages p o ho W
    have hn5 := hrt.ord
    have hn32 := bd.pow_le32 hn5
    have hsum : bd.sumL l ≤ 32 := Nat.le_trans hrt.sum_le hn32
    obtain ⟨i0, hi, hz0, hz1, hz2⟩ := info_parts info_i64
    clear hr hrt
    go_enter Try.func17, Try.ntmps17
    go_wp2_with fail
    refine Calls.mono (HRT.out _ HB0.out) ?_
    rintro e w1 ⟨rfl, hb1⟩
    have HB1 : Hid (Below w.heap.size w w1) := below_tr HB0.out hb1
    have HX1 : Hid (Box w1 w.heap.size n (.slice a L c)) := (hb1.block _ HX0.out.lt).trans HX0.out
    obtain ⟨b0, b1, _, _⟩ := HX1.out.cells
    clear hb1 HX0
    go_wp2_with fail
    refine Calls.mono (HPO.out _ HB1.out) ?_
    rintro e w2 ⟨b, rfl, hbw, hp2, hb2⟩
    have HB2 : Hid (Below w.heap.size w w2) := below_tr HB1.out hb2
    have HP2 : Hid (Pool w2 b 32 l) := hp2
    clear hb2 hp2 HX1 b0 b1 hbw
    go_wp2_with fail
    refine Calls.mono (HWK.out b _) ?_
    rintro e w3 ⟨rfl, rfl⟩
    go_wp2_with fail
    obtain ⟨V, hV⟩ : ∃ V, V = (w2.alloc (.cells #[.int .i64 n, .map (some b)] 60)).alloc (.cells #[.int .i64 0] 2) := ⟨_, rfl⟩
    rw [← hV]
    obtain ⟨hVs, hbV, hbs, hat⟩ := walk_last (n := n) (R := 0) HP2.out _ rfl V hV
    have HBV : Hid (Below w.heap.size w V) := below_tr HB2.out hbV
    have HBX : Hid (Boxes n b 32 (w2.heap.size + 1) w2.heap.size 0 l V) := hbs
    have HAV : Hid (At V (w2.heap.size + 1) (0 : Nat)) := hat
    have hVl : w2.heap.size + 1 < V.heap.size := by omega
    have hws2 := HB2.out.size
    clear hV hbs hat hbV hVs
    refine Calls.mono (HBX.out.next HR.out HAV.out (Nat.zero_le _) (curs_zero l)) ?_
    rintro e w3 hnx
    obtain ⟨p, q, mm, rfl, hnx2⟩ := hnx.one
    have HNX : Hid (Nxt n (w2.heap.size + 1) l l p q mm V w3) := hnx2
    clear hnx hnx2
    go_wp2_with fail
    generalize hA : w2.heap.size + 1 = A at *
    generalize hB : w2.heap.size = B at *
    have HV1 : Hid (V.grownBy w3 (some A)) := HNX.out.grown
    have hw1 := HV1.out.size
    go_loopw [3, 5, 6] (fun t3 t5 t6 wr => ∃ X : Nat, t5 = .pointer (some ⟨X, 0, none⟩) ∧ V.heap.size ≤ X ∧ Hid (∀ g, t3.ownBlock = some g → g ≠ X) ∧ Hid (Cur (fun pre => irows.Row wr V.heap.size t3 (pgs pre 0 0)) n A X l t6 wr) ∧ Hid (Kept A A V.heap.size V wr)) (fun _ _ t6 wr => left A t6 wr)
    case atStart =>
      refine ⟨w3.heap.size, rfl, hw1, fun g hg => by simp [Value.ownBlock] at hg, ?_, ?_⟩
      · exact Cur.of (pre := []) rfl (irow_nil _ _) HNX.out (blx_new w3 p q) (fun a ha => ha.grown (World.grownBy_alloc _ _ none) (by simp))
      · exact ((Kept.refl A A V.heap.size V).grown (Nat.le_refl _) HV1.out (fun k hk => by cases hk; exact Or.inl rfl)).grown (Nat.le_refl _) (World.grownBy_alloc _ _ none) (fun k hk => by cases hk)
    case round =>
      obtain ⟨X, rfl, hX, HGX, HCUR, HK⟩ := hrel
      have hws := HK.out.size
      have HBW : Hid (Below w.heap.size w wr) := HBV.out.trans (HK.out.below (by omega) (by omega) (by omega))
      rcases HCUR.out with ⟨rfl, hrow, p1, q1, hxb⟩ | ⟨pre, x, r, at1, rfl, hl, hrow, hxb, hat, hxa, han, hcu⟩
      · have HROW : Hid (irows.Row wr V.heap.size u3 (pgs l 0 0)) := hrow
        clear hrow hxb HCUR HNX
        go_wp2_with fail
        go_ret
        exact ⟨_, rfl, by rw [HPE.out, ← pgs_all l 0]; exact own_mono HROW.out (by omega), HBW.out⟩
      · have HROW : Hid (irows.Row wr V.heap.size u3 (pgs pre x.1 0)) := by rw [pgs_zero pre x.1 0]; exact hrow
        have HL : Hid (l = pre ++ x :: r) := hl
        have HAT : Hid (At wr A at1) := hat
        have HCU : Hid (Curs l at1 r) := hcu
        have HAN : Hid (at1 ≤ 2 ^ n) := han
        have HXB : Hid (Blx wr X x.1 x.2) := hxb
        obtain ⟨x0, x1, gx0, gx1⟩ := hxb.cells
        have hXl := hxb.lt
        have hxn := HR.out.inn x (by rw [hl]; simp)
        have hxo : x.2 ≤ 5 := by have := hxn.ord; omega
        have hx1 : x.1 < 32 := by have := hxn.lt; omega
        have hps : bd.sumL pre ≤ 32 := by have := congrArg bd.sumL hl; rw [bd.sum_app] at this; omega
        have hs32 := bd.pow_le32 hxo
        have HNX2 : Hid (pgs pre x.1 (2 ^ x.2) = pgs (pre ++ [x]) 0 0) := pgs_next pre x 0
        have HS : Hid (∀ W, _) := fun W => HSZ.out x.1 x.2 hxo W
        obtain ⟨s, hs⟩ : ∃ s, s = 2 ^ x.2 := ⟨_, rfl⟩
        rw [← hs] at hs32 HNX2
        simp only [← hs] at HS
        clear hrow hl hat hcu hxb HCUR HNX han hxn hs
        go_wp2_with fail
        refine Calls.mono (HS.out _) ?_
        rintro e w4 ⟨rfl, hb4⟩
        have HROW4 : Hid (irows.Row w4 V.heap.size u3 (pgs pre x.1 0)) := HROW.out.later hb4
        have HXB4 : Hid (Blx w4 X x.1 x.2) := (hb4.block X hXl).trans HXB.out
        have HAT4 : Hid (At w4 A at1) := (hb4.block A HAT.out.lt).trans HAT.out
        have HK4 : Hid (Kept A A V.heap.size V w4) := ⟨hb4.os.trans HK.out.os, hb4.tape.trans HK.out.tape, hb4.output.trans HK.out.output, Nat.le_trans HK.out.size hb4.size, fun k hk h1 h2 => (hb4.block k (by omega)).trans (HK.out.block k hk h1 h2)⟩
        clear hb4 HROW HXB HK x0 x1 gx0 gx1 HS
        go_wp2_with fail
        go_loopw [3, 27] (fun t3 t27 wi => ∃ p : Nat, t27 = .int .i64 p ∧ p ≤ s ∧ Hid (irows.Row wi V.heap.size t3 (pgs pre x.1 p)) ∧ Hid (∀ g, t3.ownBlock = some g → g ≠ X) ∧ Hid (Blx wi X x.1 x.2) ∧ Hid (At wi A at1) ∧ Hid (Kept A A V.heap.size V wi)) (fun _ t27 _ => s - (intOf t27).toNat)
        case atStart => exact ⟨0, rfl, by omega, HROW4.out, HGX.out, HXB4.out, HAT4.out, HK4.out⟩
        case round =>
          obtain ⟨p, rfl, hp, HROWp, HGXp, HXBp, HATp, HKp⟩ := hrel
          obtain ⟨x0, x1, gx0, gx1⟩ := HXBp.out.cells
          have hXp := HXBp.out.lt
          have hAp := HATp.out.lt
          have hwp := HKp.out.size
          by_cases hlt : p < s
          · have hlen : (pgs pre x.1 p).length ≤ 64 := by rw [pgs_len]; omega
            have HSN : Hid (pgs pre x.1 (p + 1) = pgs pre x.1 p ++ [((x.1 + p : Nat) : Int)]) := pgs_snoc pre x.1 p
            have hbo := own_block HROWp.out
            have HBO : Hid (∀ k, u3.ownBlock = some k → V.heap.size ≤ k) := hbo
            clear hbo
            go_wp2_with (at_builtin; refine wpList_append_own_at _ rfl _ _ 42 rfl V.heap.size 2 i0 (.int .i64 0) 1 8 Try.underlying42 hi hz0 hz1 hz2 rfl (by decide) _ _ _ rfl (World.ownsRow.alloc HROWp.out _) ⟨wr.heap.size, 0, none⟩ 1 1 [.int .i64 ((x.1 : Int) + (p : Int))] rfl rfl ?c1 ?c2 ?c3 ?c4 ?c5 ?_)
            case c1 =>
              intro j u hj
              match j, hj with
              | 0, hj => simp at hj; subst hj; simp [Addr.add]
            case c2 => intro u hu; simp at hu; subst hu; rfl
            case c3 => unfold maxLen; omega
            case c4 => omega
            case c5 => simp; omega
            intro v' w5 hown' hgrow _ hob
            have e1 : (pgs pre x.1 p).length + 1 = (pgs pre x.1 (p + 1)).length := by rw [HSN.out]; simp
            have e2 : (pgs pre x.1 p).map (Value.int .i64) ++ [Value.int .i64 ((x.1 : Int) + (p : Int))] = (pgs pre x.1 (p + 1)).map (Value.int .i64) := by rw [HSN.out]; simp
            rw [e1, e2] at hown'
            have HROW5 : Hid (irows.Row w5 V.heap.size v' (pgs pre x.1 (p + 1))) := hown'
            have HG5 : Hid (∀ g, v'.ownBlock = some g → g ≠ X) := fun g hg => by
              rcases hob with h | h
              · exact HGXp.out g (h ▸ hg)
              · rw [h] at hg; injection hg with hg; have : (wr.alloc (.cells #[.int .i64 ((x.1 : Int) + (p : Int))] 2)).heap.size = wr.heap.size + 1 := by simp
                omega
            have hne : ∀ Y, Y < V.heap.size → some Y ≠ u3.ownBlock := fun Y hY e => by have := HBO.out Y e.symm; omega
            have HX5 : Hid (Blx w5 X x.1 x.2) := (hgrow.block X (by simp; omega) (fun e => HGXp.out X e.symm rfl)).trans (((World.grownBy_alloc wr _ none).block X hXp (by simp)).trans HXBp.out)
            have HA5 : Hid (At w5 A at1) := (hgrow.block A (by simp; omega) (hne A (by omega))).trans (((World.grownBy_alloc wr _ none).block A hAp (by simp)).trans HATp.out)
            have HK5 : Hid (Kept A A V.heap.size V w5) := (HKp.out.grown (Nat.le_refl _) (World.grownBy_alloc _ _ none) (fun k hk => by cases hk)).grown (Nat.le_refl _) hgrow (fun k hk => Or.inr (Or.inr (HBO.out k hk)))
            clear hown' hgrow hob e1 e2 hne HROWp HGXp HXBp HATp HKp HSN HBO x0 x1 gx0 gx1
            go_wp2_with fail
            go_roundw
            case rel => exact ⟨p + 1, by go_num, by omega, HROW5.out, HG5.out, HX5.out, HA5.out, HK5.out⟩
            case measure => simp [intOf]; omega
          · obtain rfl : p = s := by omega
            have HROW6 : Hid (irows.Row wr V.heap.size u3 (pgs (pre ++ [x]) 0 0)) := by rw [← HNX2.out]; exact HROWp.out
            go_wp2_with fail
            obtain ⟨W, hW⟩ : ∃ W, W = wr.alloc (.cells #[.int .i64 x.1, .int .i64 x.2] 68) := ⟨_, rfl⟩
            have HWX : Hid (Blx W wr.heap.size x.1 x.2) := by rw [hW]; exact blx_new wr x.1 x.2
            have HWK2 : Hid (Kept A A V.heap.size V W) := by rw [hW]; exact HKp.out.grown (Nat.le_refl _) (World.grownBy_alloc _ _ none) (fun k hk => by cases hk)
            have HWA : Hid (At W A at1) := by rw [hW]; exact HATp.out.grown (World.grownBy_alloc _ _ none) (by simp)
            have HWR : Hid (irows.Row W V.heap.size u3 (pgs (pre ++ [x]) 0 0)) := by rw [hW]; exact HROW6.out.later (below_one _ _)
            have HLT : Hid (∀ g, u3.ownBlock = some g → g < wr.heap.size) := fun g hg => own_less HROW6.out hg
            have HGE : Hid (∀ g, u3.ownBlock = some g → V.heap.size ≤ g) := fun g hg => own_block HROW6.out g hg
            have HWB : Hid (Boxes n b 32 A B 0 l W) := HWK2.out.boxes HBX.out rfl (by have := HBX.out.hbA; omega) (by omega)
            have hWs : wr.heap.size < W.heap.size := HWX.out.lt
            rw [← hW]
            clear hW HROW6 HROWp HXBp HATp HKp x0 x1 gx0 gx1 HK4 HXB4 HAT4 HROW4
            refine Calls.mono (HWB.out.next HR.out HWA.out HAN.out HCU.out) ?_
            rintro e w6 hnx
            obtain ⟨p2, q2, m2, rfl, hnx2⟩ := hnx.one
            have HN2 : Hid (Nxt n A l r p2 q2 m2 W w6) := hnx2
            have hg6 := hnx2.grown
            have HX6 : Hid (Blx w6 wr.heap.size x.1 x.2) := Blx.grown HWX.out hg6 (by simp; omega)
            have HR6 : Hid (irows.Row w6 V.heap.size u3 (pgs (pre ++ [x]) 0 0)) := own_move HWR.out fun g hg hl _ => hg6.block g hl (by simp; omega)
            have HK6 : Hid (Kept A A V.heap.size V w6) := HWK2.out.grown (Nat.le_refl _) hg6 (fun k hk => by cases hk; exact Or.inl rfl)
            have hs6 := hg6.size
            obtain ⟨y0, y1, gy0, gy1⟩ := HX6.out.cells
            clear hnx hnx2 hg6 HWX HWR HWK2
            go_wp2_with fail
            go_roundw
            case rel =>
              refine ⟨wr.heap.size, rfl, by omega, fun g hg => by have := HLT.out g hg; omega, ?_, ?_⟩
              · exact Cur.of (pre := pre ++ [x]) (by rw [HL.out]; simp) (own_move HR6.out fun g hg hgl e => by rw [Below.heap_setCell _ _ _ _ (by show g ≠ wr.heap.size; have := HLT.out g e; omega), Below.heap_setCell _ _ _ _ (by show g ≠ wr.heap.size; have := HLT.out g e; omega)]) HN2.out (blx_set HX6.out) (fun a ha => At.far (At.far ha (by omega)) (by omega))
              · exact (HK6.out.set (Or.inr (Or.inr (by omega)))).set (Or.inr (Or.inr (by omega)))
            case measure =>
              exact left_less HAT.out HAN.out hn32 HCU.out HN2.out (fun a ha => At.far (At.far ha (by omega)) (by omega))
end Go.Proofs.Ytcokchfedaoccab.btop
