/-
  The walks of the program's BuddyNew and BuddyGive at every argument.
-/
import Derived.Test.YtcokchfedaoccabBuddyTakeI
import Derived.Test.YtcokchfedaoccabBuddyGiv
namespace Go.Proofs.Ytcokchfedaoccab.btop
open Go.RowKit Go.Deep Go.Maps Go.Sort
open Go.Proofs.Ytcokchfedaoccab
open Go.Proofs.Ytcokchfedaoccab.brows
open Go.Proofs.Ytcokchfedaoccab.bspec
open Go.Proofs.Ytcokchfedaoccab.bimpl
open Go.Proofs.Ytcokchfedaoccab.bpool
open Go.Proofs.Ytcokchfedaoccab.bd (Blk)
set_option linter.unusedVariables false

theorem res_one (w : World) : Res (w.alloc (.cells #[.int .i64 0, .slice none 0 0, .int .i64 0, .int .i64 0] 37)) w.heap.size (.int .i64 0) (.slice none 0 0) (.int .i64 0) (.int .i64 0) := (MapKept.heap_alloc w _).1
theorem row_new (w : World) (o : Obj) (n : Nat) : Row ((w.alloc o).alloc (.cells #[.int .i64 0, .int .i64 n] 68)) (w.heap.size + 1) (.slice (some ⟨w.heap.size + 1, 0, none⟩) 1 1) ([((0, n) : Blk)].map emb) := by
  have e := (MapKept.heap_alloc (w.alloc o) (.cells #[.int .i64 0, .int .i64 n] 68)).1
  rw [show (w.alloc o).heap.size = w.heap.size + 1 by simp] at e
  refine ⟨by simp [cellsB, emb], Or.inr ⟨w.heap.size + 1, 1, #[.int .i64 0, .int .i64 n], rfl, Nat.le_refl _, e, by simp, by unfold maxLen; omega, by simp, by simp [cellsB, emb]⟩⟩

set_option maxRecDepth 100000 in
set_option maxHeartbeats 2000000 in
theorem impl_new (o : Int) (w : World) : Calls Try.prog 22 #[.int .i64 o] w (Owns (NewAns o) w) := by
  have HOR : Hid (∀ W, _) := fun W => impl_order o W
  have HRES : Hid (Res (w.alloc (.cells #[.int .i64 0, .slice none 0 0, .int .i64 0, .int .i64 0] 37)) w.heap.size (.int .i64 0) (.slice none 0 0) (.int .i64 0) (.int .i64 0)) := res_one w
  cases ho : ordB o with
  | false =>
    rw [ho] at HOR
    have HA : Hid (NewAns o (illA 1)) := Or.inl ⟨ho, rfl⟩
    go_enter Try.func22, Try.ntmps22
    go_wp2_with (first | (go_at_call 32; refine Calls.mono (HOR.out _) ?_; rintro e w' ⟨rfl, rfl⟩))
    exact bodyPost_ret (v := illV 1) (by simp [results, Try.results22, go_sem, illV]) rfl (owns_ill HA.out (below_one w _))
  | true =>
    rw [ho] at HOR
    obtain ⟨n, hn, rfl⟩ := ord_nat ho
    have HA : Hid (NewAns n ((n : Int), [((0, n) : Blk)].map emb, 0, 0)) := Or.inr ⟨n, rfl, hn, rfl⟩
    go_enter Try.func22, Try.ntmps22
    go_wp2_with (first | (go_at_call 32; refine Calls.mono (HOR.out _) ?_; rintro e w' ⟨rfl, rfl⟩))
    exact bodyPost_ret (v := .agg #[.int .i64 n, .slice (some ⟨w.heap.size + 1, 0, none⟩) 1 1, .int .i64 0, .int .i64 0]) (by simp [results, Try.results22, go_sem]) rfl ⟨_, _, HA.out, rfl, Row.down (row_new w _ n) (by omega), below_tr (below_one w _) (below_one _ _)⟩

theorem three_new (w : World) (m : Int) (v : Value) (p q : Int) (V : World) (hV : V = ((w.alloc (.cells #[.int .i64 m, v] 29)).alloc (.cells #[.int .i64 0, .slice none 0 0, .int .i64 0, .int .i64 0] 37)).alloc (.cells #[.int .i64 p, .int .i64 q] 68)) :
    Box V w.heap.size m v ∧ Res V (w.heap.size + 1) (.int .i64 0) (.slice none 0 0) (.int .i64 0) (.int .i64 0) ∧ Blx V (w.heap.size + 1 + 1) p q ∧ Below w.heap.size w V := by
  have h1 := box_new w m v (.cells #[.int .i64 0, .slice none 0 0, .int .i64 0, .int .i64 0] 37)
  have h2 := res_new w (.cells #[.int .i64 m, v] 29)
  have h3 := blx_new ((w.alloc (.cells #[.int .i64 m, v] 29)).alloc (.cells #[.int .i64 0, .slice none 0 0, .int .i64 0, .int .i64 0] 37)) p q
  have hs : ((w.alloc (.cells #[.int .i64 m, v] 29)).alloc (.cells #[.int .i64 0, .slice none 0 0, .int .i64 0, .int .i64 0] 37)).heap.size = w.heap.size + 1 + 1 := by simp
  rw [hs] at h3
  rw [hV]
  exact ⟨((World.grownBy_alloc _ _ none).block _ h1.lt (by simp)).trans h1, ((World.grownBy_alloc _ _ none).block _ h2.lt (by simp)).trans h2, h3, below_tr (below_tr (below_one w _) (below_one _ _)) (below_one _ _)⟩
theorem off_of {l : List Blk} {y : Blk} (h : ∀ (j : Nat) z, l[j]? = some z → meetB z y = false) : bd.Off l y := (off_iff l y).2 fun z hz hm => by
  obtain ⟨j, hj⟩ := List.getElem?_of_mem hz
  have := h j z hj
  rw [meetB_iff.2 hm] at this; cases this

set_option maxRecDepth 100000 in
set_option maxHeartbeats 4000000 in
theorem impl_give (m : Int) (x : Pr) (v : Value) (xs : List Pr) (w : World) (hrd : Rd w v xs) (hlm : xs.length ≤ 1000000000) :
    Calls Try.prog 13 #[.agg #[.int .i64 m, v], .int .i64 x.1, .int .i64 x.2] w (Owns (GiveAns m xs x) w) := by
  have HRD : Hid (Rd w v xs) := hrd
  have HRT : Hid (∀ W, Below w.heap.size w W → _) := fun W hW => impl_right m v xs W (HRD.out.below hW) hlm
  obtain ⟨a, c, hv, _⟩ := hrd.form
  clear hrd
  obtain ⟨V, hV⟩ : ∃ V, V = ((w.alloc (.cells #[.int .i64 m, v] 29)).alloc (.cells #[.int .i64 0, .slice none 0 0, .int .i64 0, .int .i64 0] 37)).alloc (.cells #[.int .i64 x.1, .int .i64 x.2] 68) := ⟨_, rfl⟩
  obtain ⟨hx0, hr0, hg0, hb0⟩ := three_new w m v x.1 x.2 V hV
  have HX0 : Hid (Box V w.heap.size m v) := hx0
  have HR0 : Hid (Res V (w.heap.size + 1) (.int .i64 0) (.slice none 0 0) (.int .i64 0) (.int .i64 0)) := hr0
  have HG0 : Hid (Blx V (w.heap.size + 1 + 1) x.1 x.2) := hg0
  have HB0 : Hid (Below w.heap.size w V) := hb0
  clear hx0 hr0 hg0 hb0
  generalize hL : xs.length = L at hv
  subst hv
  cases hr : rightB m xs with
  | false =>
    rw [hr] at HRT
    have HA : Hid (GiveAns m xs x (illA 1)) := Or.inl ⟨Or.inl (fun h => by rw [rightB_yes h] at hr; cases hr), rfl⟩
    go_enter Try.func13, Try.ntmps13
    go_wp2_with fail
    rw [← hV]
    refine Calls.mono (HRT.out _ HB0.out) ?_
    rintro e w1 ⟨rfl, hb1⟩
    have HB1 : Hid (Below w.heap.size w w1) := below_tr HB0.out hb1
    have HR1 : Hid (Res w1 (w.heap.size + 1) (.int .i64 0) (.slice none 0 0) (.int .i64 0) (.int .i64 0)) := HR0.out.below hb1 HR0.out.lt
    obtain ⟨⟨r0, r1, r2, r3⟩, q0, q1, q2, q3⟩ := HR1.out.cells
    clear hb1 HR0 HX0 hV
    go_wp2_with fail
    exact bodyPost_ret (v := illV 1) (by simp [results, Try.results13, go_sem, illV, r0, r1, r2, r3]) rfl (owns_ill HA.out (four_end HB1.out (by omega)))
  | true =>
    rw [hr] at HRT
    obtain ⟨n, l, rfl, rfl, hrt⟩ := rightB_iff.1 hr
    have HRI : Hid (bd.Right n l) := hrt
    have hn5 := hrt.ord
    have hn32 := bd.pow_le32 hn5
    have HIN : Hid (∀ W, _) := fun W => impl_in n hn5 x W
    have HPO : Hid (∀ W, Below w.heap.size w W → Calls Try.prog 33 #[.agg #[.int .i64 n, .slice a L c]] W (PoolPost n l W)) := fun W hW => impl_poolOf n _ l hrt W (HRD.out.below hW)
    cases hin : inB n x with
    | false =>
      rw [hin] at HIN
      have HA : Hid (GiveAns n (l.map emb) x (illA 1)) := Or.inl ⟨Or.inr (fun n' hn' => by rw [← show n = n' by omega]; exact hin), rfl⟩
      clear hr hrt hin
      go_enter Try.func13, Try.ntmps13
      go_wp2_with fail
      rw [← hV]
      refine Calls.mono (HRT.out _ HB0.out) ?_
      rintro e w1 ⟨rfl, hb1⟩
      have HB1 : Hid (Below w.heap.size w w1) := below_tr HB0.out hb1
      have HR1 : Hid (Res w1 (w.heap.size + 1) (.int .i64 0) (.slice none 0 0) (.int .i64 0) (.int .i64 0)) := HR0.out.below hb1 HR0.out.lt
      have HX1 : Hid (Box w1 w.heap.size n (.slice a L c)) := (hb1.block _ HX0.out.lt).trans HX0.out
      have HG1 : Hid (Blx w1 (w.heap.size + 1 + 1) x.1 x.2) := (hb1.block _ HG0.out.lt).trans HG0.out
      obtain ⟨b0, b1, _, _⟩ := HX1.out.cells
      obtain ⟨y0, y1, _, _⟩ := HG1.out.cells
      clear hb1 HR0 HX0 HG0 hV
      go_wp2_with fail
      refine Calls.mono (HIN.out _) ?_
      rintro e w2 ⟨rfl, hb2⟩
      have HB2 : Hid (Below w.heap.size w w2) := below_tr HB1.out hb2
      have HR2 : Hid (Res w2 (w.heap.size + 1) (.int .i64 0) (.slice none 0 0) (.int .i64 0) (.int .i64 0)) := HR1.out.below hb2 HR1.out.lt
      obtain ⟨⟨r0, r1, r2, r3⟩, q0, q1, q2, q3⟩ := HR2.out.cells
      clear hb2
      go_wp2_with fail
      exact bodyPost_ret (v := illV 1) (by simp [results, Try.results13, go_sem, illV, r0, r1, r2, r3]) rfl (owns_ill HA.out (four_end HB2.out (by omega)))
    | true =>
      rw [hin] at HIN
      obtain ⟨y, hxy, hyn⟩ := in_nat hin
      have hxe : x = emb y := hxy
      subst hxe
      simp only [emb] at HG0 HIN hV ⊢
      have HYN : Hid (bd.In n y) := hyn
      have hy1 : y.1 < 64 := by have := hyn.lt; omega
      have hy2 : y.2 ≤ 5 := by have := hyn.ord; omega
      have HALL : Hid (∀ (i : Nat) z, l[i]? = some z → z.1 < 64 ∧ z.2 ≤ 5) := fun i z hz => by
        have hzn := hrt.inn z (List.mem_of_getElem? hz)
        exact ⟨by have := hzn.lt; omega, by have := hzn.ord; omega⟩
      have HCC : Hid (∀ W, Below w.heap.size w W → ∀ (i : Nat) z, l[i]? = some z → ∃ g, a = some ⟨g, 0, none⟩ ∧ W.cell? ⟨g, i * 2, none⟩ = some (.int .i64 z.1) ∧ W.cell? ⟨g, i * 2 + 1, none⟩ = some (.int .i64 z.2)) := fun W hW i z hz => by
        have hil : i < l.length := (List.getElem?_eq_some_iff.1 hz).1
        obtain ⟨g, cc, hvv, _, _, _, hc⟩ := (HRD.out.below hW).at (by simp; omega)
        injection hvv with hva _ _
        have := rd_blks hc i hil
        rw [(List.getElem?_eq_some_iff.1 hz).2] at this
        exact ⟨g, hva, this⟩
      have hLl : L = l.length := by rw [← hL, List.length_map]
      have hl32 := hrt.len_le
      clear hr hin hxy hyn hrt hL
      subst hLl
      go_enter Try.func13, Try.ntmps13
      go_wp2_with fail
      rw [← hV]
      refine Calls.mono (HRT.out _ HB0.out) ?_
      rintro e w1 ⟨rfl, hb1⟩
      have HB1 : Hid (Below w.heap.size w w1) := below_tr HB0.out hb1
      have HR1 : Hid (Res w1 (w.heap.size + 1) (.int .i64 0) (.slice none 0 0) (.int .i64 0) (.int .i64 0)) := HR0.out.below hb1 HR0.out.lt
      have HX1 : Hid (Box w1 w.heap.size n (.slice a l.length c)) := (hb1.block _ HX0.out.lt).trans HX0.out
      have HG1 : Hid (Blx w1 (w.heap.size + 1 + 1) y.1 y.2) := (hb1.block _ HG0.out.lt).trans HG0.out
      obtain ⟨b0, b1, _, _⟩ := HX1.out.cells
      obtain ⟨y0, y1, _, _⟩ := HG1.out.cells
      clear hb1 HR0 HX0 HG0 hV
      go_wp2_with fail
      refine Calls.mono (HIN.out _) ?_
      rintro e w2 ⟨rfl, hb2⟩
      have HB2 : Hid (Below w.heap.size w w2) := below_tr HB1.out hb2
      have HR2 : Hid (Res w2 (w.heap.size + 1) (.int .i64 0) (.slice none 0 0) (.int .i64 0) (.int .i64 0)) := HR1.out.below hb2 HR1.out.lt
      have HX2 : Hid (Box w2 w.heap.size n (.slice a l.length c)) := (hb2.block _ HX1.out.lt).trans HX1.out
      have HG2 : Hid (Blx w2 (w.heap.size + 1 + 1) y.1 y.2) := (hb2.block _ HG1.out.lt).trans HG1.out
      obtain ⟨c0, c1, _, _⟩ := HX2.out.cells
      clear hb2 HR1 HX1 HG1 b0 b1 y0 y1 HIN HRT HB1
      go_wp2_with fail
      go_loopw [28] (fun i wr => ∃ j : Nat, j ≤ l.length ∧ i = .int .i64 j ∧ Hid (∀ (i : Nat) z, i < j → l[i]? = some z → meetB z y = false) ∧ Hid (Below w2.heap.size w2 wr)) (fun i _ => l.length - (intOf i).toNat)
      case atStart => exact ⟨0, by omega, rfl, fun i z hi => by omega, Below.refl _ _⟩
      case round =>
        obtain ⟨j, hj, rfl, HNO, HBE⟩ := hrel
        have HBW : Hid (Below w.heap.size w wr) := below_tr HB2.out HBE.out
        have HRW : Hid (Res wr (w.heap.size + 1) (.int .i64 0) (.slice none 0 0) (.int .i64 0) (.int .i64 0)) := HR2.out.below HBE.out HR2.out.lt
        have HXW : Hid (Box wr w.heap.size n (.slice a l.length c)) := (HBE.out.block _ HX2.out.lt).trans HX2.out
        have HGW : Hid (Blx wr (w.heap.size + 1 + 1) y.1 y.2) := (HBE.out.block _ HG2.out.lt).trans HG2.out
        obtain ⟨y0, y1, _, _⟩ := HGW.out.cells
        have hGl := HGW.out.lt
        by_cases hlt : j < l.length
        · have HZ : Hid (l[j]? = some l[j]) := List.getElem?_eq_getElem hlt
          obtain ⟨g, rfl, e0, e1⟩ := HCC.out _ HBW.out j _ HZ.out
          obtain ⟨hz1, hz2⟩ := HALL.out j _ HZ.out
          generalize l[j] = z at *
          have HME : Hid (∀ W, _) := fun W => impl_meets z y hz2 hy2 hz1 hy1 W
          cases hmt : meetB z y with
          | true =>
            rw [hmt] at HME
            have HA : Hid (GiveAns n (l.map emb) ((y.1 : Int), (y.2 : Int)) (illA 10)) := Or.inr ⟨n, l, y, rfl, rfl, HYN.out, rfl, HRI.out, Or.inl ⟨fun hof => (off_iff l y).1 hof z (List.mem_of_getElem? HZ.out) (meetB_iff.1 hmt), rfl⟩⟩
            go_wp2_with fail
            refine Calls.mono (HME.out _) ?_
            rintro e w3 ⟨rfl, hb3⟩
            have HB3 : Hid (Below w.heap.size w w3) := below_tr (below_tr HBW.out (below_one _ _)) hb3
            have HR3 : Hid (Res w3 (w.heap.size + 1) (.int .i64 0) (.slice none 0 0) (.int .i64 0) (.int .i64 0)) := (HRW.out.below (below_one wr _) HRW.out.lt).below hb3 (by simp; have := HRW.out.lt; omega)
            obtain ⟨⟨r0, r1, r2, r3⟩, q0, q1, q2, q3⟩ := HR3.out.cells
            clear hb3
            go_wp2_with fail
            exact bodyPost_ret (v := illV 10) (by simp [results, Try.results13, go_sem, illV, r0, r1, r2, r3]) rfl (owns_ill HA.out (four_end HB3.out (by omega)))
          | false =>
            rw [hmt] at HME
            have HNO2 : Hid (∀ (i : Nat) z, i < j + 1 → l[i]? = some z → meetB z y = false) := fun i z' hi hz' => by
              rcases Nat.lt_succ_iff_lt_or_eq.1 hi with h | h
              · exact HNO.out i z' h hz'
              · subst h
                have := HZ.out.symm.trans hz'
                injection this with this
                rw [← this]; exact hmt
            clear hmt HNO
            go_wp2_with fail
            refine Calls.mono (HME.out _) ?_
            rintro e w3 ⟨rfl, hb3⟩
            have HB3 : Hid (Below w2.heap.size w2 w3) := below_tr (below_tr HBE.out (below_one _ _)) hb3
            clear hb3
            go_wp2_with fail
            go_roundw
            case rel => exact ⟨j + 1, by omega, by go_num, HNO2.out, HB3.out⟩
            case measure => simp [intOf]; omega
        · obtain rfl : j = l.length := by omega
          have HOF : Hid (bd.Off l y) := off_of fun i z hz => HNO.out i z (List.getElem?_eq_some_iff.1 hz).1 hz
          obtain ⟨c0, c1, _, _⟩ := HXW.out.cells
          clear HNO
          go_wp2_with fail
          refine Calls.mono (HPO.out _ HBW.out) ?_
          rintro e w3 ⟨b, rfl, hbw, hp3, hb3⟩
          have HB3 : Hid (Below w.heap.size w w3) := below_tr HBW.out hb3
          have HR3 : Hid (Res w3 (w.heap.size + 1) (.int .i64 0) (.slice none 0 0) (.int .i64 0) (.int .i64 0)) := HRW.out.below hb3 HRW.out.lt
          have HG3 : Hid (Blx w3 (w.heap.size + 1 + 1) y.1 y.2) := (hb3.block _ HGW.out.lt).trans HGW.out
          have hbs : w.heap.size ≤ b := Nat.le_trans HBW.out.size hbw
          have hbl := hp3.lt
          have hbR : w.heap.size + 1 + 1 < b := by have := HGW.out.lt; omega
          have HPB : Hid (PBox (w3.alloc (.cells #[.int .i64 n, .map (some b)] 60)) w3.heap.size n b) := pbox_one w3 n b
          have HP4 : Hid (Pool (w3.alloc (.cells #[.int .i64 n, .map (some b)] 60)) b 32 l) := hp3.kept (World.grownBy_alloc _ _ none) (by simp)
          have HR4 : Hid (Res (w3.alloc (.cells #[.int .i64 n, .map (some b)] 60)) (w.heap.size + 1) (.int .i64 0) (.slice none 0 0) (.int .i64 0) (.int .i64 0)) := HR3.out.below (below_one _ _) HR3.out.lt
          have HB4 : Hid (Below w.heap.size w (w3.alloc (.cells #[.int .i64 n, .map (some b)] 60))) := below_tr HB3.out (below_one _ _)
          have HGV : Hid (∀ W, Pool W b 32 l → Calls Try.prog 45 #[.agg #[.int .i64 n, .map (some b)], .agg #[.int .i64 y.1, .int .i64 y.2]] W (GivPost n b 32 l y W)) := fun W hW => impl_giv n b 32 l y HRI.out HYN.out HOF.out (by omega) W hW
          obtain ⟨y0, y1, _, _⟩ := HG3.out.cells
          have hG3 := HG3.out.lt
          clear hp3 hb3 hbw c0 c1
          go_wp2_with fail
          refine Calls.mono (HGV.out _ HP4.out) ?_
          rintro e w5 ⟨l', rfl, hgv, hp5, hg5⟩
          have HGN : Hid (bd.Given n l y l') := hgv
          have HP5 : Hid (Pool w5 b 33 l') := hp5
          have HB5 : Hid (PBox w5 w3.heap.size n b) := PBox.grown HPB.out hg5 (by simp; omega)
          have HR5 : Hid (Res w5 (w.heap.size + 1) (.int .i64 0) (.slice none 0 0) (.int .i64 0) (.int .i64 0)) := HR4.out.grown hg5 (by omega)
          have HW5 : Hid (Below w.heap.size w w5) := HB4.out.grown hg5 HB4.out.size (fun j hj => by cases hj; exact hbs)
          have HBU : Hid (∀ W, Pool W b 33 l' → Calls Try.prog 41 #[.agg #[.int .i64 n, .map (some b)]] W (BuddyPost n l' W)) := fun W hW => impl_buddy n b 33 l' HGN.out.1 W hW
          have hs5 : w3.heap.size < w5.heap.size := Nat.lt_of_lt_of_le (by simp) hg5.size
          obtain ⟨p0, p1⟩ := HB5.out.cells
          clear hgv hp5 hg5 HGV y0 y1
          go_wp2_with fail
          refine Calls.mono (HBU.out _ HP5.out) ?_
          rintro e w7 ⟨v7, rfl, hr7, hb7⟩
          have HB7 : Hid (Below w.heap.size w w7) := below_tr HW5.out hb7
          have HROW : Hid (Row w7 w5.heap.size v7 (l'.map emb)) := hr7
          have HR7 : Hid (Res w7 (w.heap.size + 1) (.int .i64 0) (.slice none 0 0) (.int .i64 0) (.int .i64 0)) := HR5.out.below hb7 HR5.out.lt
          obtain ⟨⟨r0, r1, r2, r3⟩, q0, q1, q2, q3⟩ := HR7.out.cells
          obtain ⟨va, vc, hv7, _⟩ := hr7.rd.form
          generalize (l'.map emb).length = L7 at hv7
          subst hv7
          have HA : Hid (GiveAns n (l.map emb) ((y.1 : Int), (y.2 : Int)) ((n : Int), l'.map emb, 0, 0)) := Or.inr ⟨n, l, y, rfl, rfl, HYN.out, rfl, HRI.out, Or.inr ⟨l', HOF.out, HGN.out, rfl⟩⟩
          have HEND : Hid (∀ y0 y1 y2 y3, Row ((((w7.setCell ⟨w.heap.size + 1, 0, none⟩ y0).setCell ⟨w.heap.size + 1, 1, none⟩ y1).setCell ⟨w.heap.size + 1, 2, none⟩ y2).setCell ⟨w.heap.size + 1, 3, none⟩ y3) w.heap.size (.slice va L7 vc) (l'.map emb)) := fun y0 y1 y2 y3 =>
            Row.down (Row.move HROW.out fun g hg _ _ => by rw [Below.heap_setCell _ _ _ _ (by show g ≠ w.heap.size + 1; omega), Below.heap_setCell _ _ _ _ (by show g ≠ w.heap.size + 1; omega), Below.heap_setCell _ _ _ _ (by show g ≠ w.heap.size + 1; omega), Below.heap_setCell _ _ _ _ (by show g ≠ w.heap.size + 1; omega)]) (by omega)
          clear hr7 hb7 p0 p1
          go_wp2_with fail
          exact bodyPost_ret (v := .agg #[.int .i64 n, .slice va L7 vc, .int .i64 0, .int .i64 0]) (by simp [results, Try.results13, go_sem, r0, r1, r2, r3]) rfl ⟨_, _, HA.out, rfl, HEND.out _ _ _ _, four_end HB7.out (by omega)⟩
end Go.Proofs.Ytcokchfedaoccab.btop
