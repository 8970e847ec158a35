/-
  The walk of the program's BuddyRight at every buddy.
-/
import Derived.Test.YtcokchfedaoccabBuddyRightI
namespace Go.Proofs.Ytcokchfedaoccab.bimpl
open Go.RowKit Go.Deep Go.Sort
open Go.Proofs.Ytcokchfedaoccab
open Go.Proofs.Ytcokchfedaoccab.brows
open Go.Proofs.Ytcokchfedaoccab.bspec
open Go.Proofs.Ytcokchfedaoccab.bd (Blk)
set_option linter.unusedVariables false

theorem blx_of_new (w : World) (a b : Int) : Blx (w.alloc (.cells #[.int .i64 a, .int .i64 b] 68)) w.heap.size a b := (MapKept.heap_alloc w _).1

set_option maxHeartbeats 4000000 in
theorem impl_right_some (n : Nat) (hn : n ≤ 5) (g c : Nat) (xs : List Pr) (w : World) (hg : g < w.heap.size) (hl0 : 0 < xs.length) (hlm : xs.length ≤ 1000000000)
    (hc : ∀ i (hi : i < xs.length), w.cell? ⟨g, i * 2, none⟩ = some (.int .i64 xs[i].1) ∧ w.cell? ⟨g, i * 2 + 1, none⟩ = some (.int .i64 xs[i].2)) :
    Calls Try.prog 26 #[.agg #[.int .i64 n, .slice (some ⟨g, 0, none⟩) xs.length c]] w fun e w' => e = .returned (.bool (rightB n xs)) ∧ Below w.heap.size w w' := by
  have HC : Hid _ := hc
  have HO : Hid (∀ W, _) := fun W => impl_order (n : Int) W
  have ho : ordB (n : Int) = true := by simp [ordB]; omega
  have hn32 := bd.pow_le32 hn
  clear hc
  go_enter Try.func26, Try.ntmps26
  go_wp2_with (first | (go_at_call 32; refine Calls.mono (HO.out _) ?_; rintro e w' ⟨rfl, rfl⟩))
  obtain ⟨V, hV⟩ : ∃ V, V = w.alloc (.cells #[.int .i64 n, .slice (some ⟨g, 0, none⟩) xs.length c] 29) := ⟨_, rfl⟩
  have hbx : Box V w.heap.size n (.slice (some ⟨g, 0, none⟩) xs.length c) := by rw [hV]; exact (MapKept.heap_alloc w _).1
  have HBX : Hid (Box V w.heap.size n (.slice (some ⟨g, 0, none⟩) xs.length c)) := hbx
  have HBV : Hid (Below w.heap.size w V) := by rw [hV]; exact (Below.refl _ _).alloc (Nat.le_refl _) _
  rw [← hV]
  clear hV hbx
  go_loopw [3, 13] (fun t3 i wr => ∃ k e : Nat, k ≤ xs.length ∧ e ≤ 32 ∧ i = .int .i64 k ∧ t3 = .int .i64 e ∧ Hid (OkN n xs k e) ∧ Hid (Below V.heap.size V wr)) (fun _ i _ => xs.length - (intOf i).toNat)
  case atStart => exact ⟨0, 0, by omega, by omega, rfl, rfl, okn_zero n xs, Below.refl _ _⟩
  case round =>
    obtain ⟨k, e, hk, he32, rfl, rfl, HOK, HBE⟩ := hrel
    have HBW : Hid (Below w.heap.size w wr) := HBV.out.trans (HBE.out.mono HBV.out.size)
    have HBR : Hid (Box wr w.heap.size n (.slice (some ⟨g, 0, none⟩) xs.length c)) := (HBE.out.block _ HBX.out.lt).trans HBX.out
    obtain ⟨b0, b1, _, _⟩ := HBR.out.cells
    have hws := HBR.out.lt
    by_cases hlt : k < xs.length
    · have e0 := (HBW.out.cell (p := ⟨g, k * 2, none⟩) hg).trans (HC.out k hlt).1
      have e1 := (HBW.out.cell (p := ⟨g, k * 2 + 1, none⟩) hg).trans (HC.out k hlt).2
      have HX : Hid (xs[k]? = some (xs[k].1, xs[k].2)) := by rw [Hid, List.getElem?_eq_getElem hlt]
      have HIN : Hid (∀ W, _) := fun W => impl_in n hn xs[k] W
      have HNR : Hid (∀ y : Blk, RightI n xs → xs[k] = emb y → bd.In n y ∧ e ≤ y.1 ∧ ∀ z : Blk, 0 < k → xs[k - 1]? = some (emb z) → z ≠ bd.fel y) := fun y hr hy => by
        obtain ⟨y', hy', h1, h2, h3⟩ := right_at hr hlt
        have ey : y' = y := emb_inj (hy'.symm.trans hy)
        subst ey
        refine ⟨h1, ?_, fun z h0 hz hf => ?_⟩
        · rcases Nat.eq_zero_or_pos k with h0 | h0
          · subst h0
            obtain ⟨l, el, _, _, _, _, _, _, h7⟩ := HOK.out
            rw [h7 rfl]; exact Nat.zero_le _
          · obtain ⟨z, hz, _, hze⟩ := okn_prev HOK.out (by omega) h0
            rw [hze]; exact h2 z h0 hz
        · subst hf
          obtain ⟨z', hz', hz'n, _⟩ := okn_prev HOK.out (by omega) h0
          have : z' = bd.fel y' := emb_inj (Option.some.inj (hz'.symm.trans hz))
          subst this
          exact h3 (fel_no hn h1 hz'n) (List.mem_of_getElem? hz)
      obtain ⟨y0, hy0⟩ : ∃ y0, y0 = xs[k].1 := ⟨_, rfl⟩
      obtain ⟨y1, hy1⟩ : ∃ y1, y1 = xs[k].2 := ⟨_, rfl⟩
      have HXE : Hid (xs[k] = (y0, y1)) := by rw [Hid, hy0, hy1]
      rw [← hy0, ← hy1] at HX HIN
      rw [← hy0] at e0
      rw [← hy1] at e1
      clear hy0 hy1
      cases hin : inB n (y0, y1) with
      | false =>
        have HF : Hid (rightB n xs = false) := rightB_no fun hr => by
          obtain ⟨y, hy, hyn, _⟩ := right_at hr hlt
          rw [HXE.out] at hy
          rw [hy] at hin
          have := in_of hyn
          rw [show emb y = ((y.1 : Int), (y.2 : Int)) from rfl, this] at hin
          cases hin
        rw [HXE.out, hin] at HIN
        clear hin HOK HNR
        go_wp2_with fail
        refine Calls.mono (HIN.out _) ?_
        rintro e2 w2 ⟨rfl, hb2⟩
        have HB2 : Hid (Below w.heap.size w w2) := (HBW.out.alloc HBW.out.size _).trans (hb2.mono (by simp; exact Nat.le_succ_of_le HBW.out.size))
        clear hb2
        go_wp2_with fail
        go_ret
        exact ⟨by rw [HF.out]; rfl, HB2.out⟩
      | true =>
        obtain ⟨y, hy, hyn⟩ := in_nat hin
        have ey0 : y0 = (y.1 : Int) := congrArg Prod.fst hy
        have ey1 : y1 = (y.2 : Int) := congrArg Prod.snd hy
        rw [HXE.out, hin] at HIN
        subst ey0 ey1
        have HXY : Hid (xs[k] = emb y) := HXE.out
        have hyl := hyn.lt
        have hyo := hyn.ord
        have htop := hyn.top hn
        have HYN : Hid (bd.In n y) := hyn
        clear hin hy HXE hyn
        by_cases hbad : y.1 < e
        · have HF : Hid (rightB n xs = false) := rightB_no fun hr => by have := (HNR.out y hr HXY.out).2.1; omega
          have hd : decide ((y.1 : Int) < (e : Int)) = true := decide_eq_true (by omega)
          clear HOK HNR
          go_wp2_with fail
          refine Calls.mono (HIN.out _) ?_
          rintro e2 w2 ⟨rfl, hb2⟩
          have HX2 : Hid (Blx w2 wr.heap.size y.1 y.2) := (hb2.block _ (by simp)).trans (blx_of_new wr y.1 y.2)
          have HB2 : Hid (Below w.heap.size w w2) := (HBW.out.alloc HBW.out.size _).trans (hb2.mono (by simp; exact Nat.le_succ_of_le HBW.out.size))
          obtain ⟨x0, x1, _, _⟩ := HX2.out.cells
          clear hb2
          go_wp2_with fail
          go_ret
          exact ⟨by rw [HF.out]; rfl, HB2.out⟩
        · have hd : decide ((y.1 : Int) < (e : Int)) = false := decide_eq_false (by omega)
          have HST : Hid ((∀ z : Blk, 0 < k → xs[k - 1]? = some (emb z) → z ≠ bd.fel y) → OkN n xs (k + 1) (y.1 + 2 ^ y.2)) := fun hf => okn_step hn HOK.out hlt HXY.out HYN.out (by omega) hf
          have HPR : Hid (0 < k → ∃ z : Blk, xs[k - 1]? = some (emb z)) := fun h0 => by
            obtain ⟨z, hz, _⟩ := okn_prev HOK.out (by omega) h0
            exact ⟨z, hz⟩
          go_upto_region 9 with (first | (go_at_call 43; refine Calls.mono (HIN.out _) ?_; rintro e2 w2 ⟨rfl, hb2⟩; have HX2 : Hid (Blx w2 wr.heap.size y.1 y.2) := (hb2.block _ (by simp)).trans (blx_of_new wr y.1 y.2); have HBB2 : Hid (Box w2 w.heap.size n (.slice (some ⟨g, 0, none⟩) xs.length c)) := (hb2.block _ (by simp; omega)).trans (((Below.refl wr.heap.size wr).alloc (Nat.le_refl _) _).block _ hws |>.trans HBR.out); have HB2 : Hid (Below V.heap.size V w2) := (HBE.out.alloc HBE.out.size _).trans (hb2.mono (by simp; exact Nat.le_succ_of_le HBE.out.size)); obtain ⟨x0, x1, _, _⟩ := HX2.out.cells; obtain ⟨d0, d1, _, _⟩ := HBB2.out.cells; clear hb2))
          have HPG : Hid (∀ W, _) := fun W => impl_pages (y.1 : Int) y.2 (by omega) W
          have kd0 := cell_regrown d0
          have kd1 := cell_regrown d1
          have kx0 := cell_regrown x0
          have kx1 := cell_regrown x1
          rcases Nat.eq_zero_or_pos k with hk0 | hk0
          · subst hk0
            have HOK2 : Hid (OkN n xs 1 (y.1 + 2 ^ y.2)) := HST.out (fun z h => absurd h (by omega))
            clear HNR HOK HST HPR HIN HX
            refine wp_region_quiet_below (by kernel_rfl) (by kernel_rfl) ?_
            repeat (go_big_quiet_step (fail))
            refine wpQuiet_nil ?_
            intro _ hw'
            obtain ⟨⟨dq, osq⟩, hw''⟩ := hw'
            subst hw''
            obtain ⟨U, hU⟩ : ∃ U, U = grow (redrawn w2 dq) osq := ⟨_, rfl⟩
            have hbU : Below w2.heap.size w2 U := by rw [hU]; exact below_regrown w2 dq osq
            have HXU : Hid (Blx U wr.heap.size y.1 y.2) := (hbU.block _ HX2.out.lt).trans HX2.out
            have HBU : Hid (Below V.heap.size V U) := HB2.out.trans (hbU.mono HB2.out.size)
            obtain ⟨ux0, ux1, _, _⟩ := HXU.out.cells
            rw [← hU]
            clear hU hbU kd0 kd1 kx0 kx1 x0 x1 d0 d1
            go_wp2_with fail
            have vx0 := cell_regrown ux0
            have vx1 := cell_regrown ux1
            have cP : ∀ d os, _ := fun d os => Calls.regrown_of (w := U) (d := d) (os := os) (HPG.out _)
            generalize 2 ^ y.2 = t at *
            refine wp_region_quiet_below (by kernel_rfl) (by kernel_rfl) ?_
            repeat (go_big_quiet_step (first | (go_at_call 48; exact cP _ _)))
            refine wpQuiet_nil ?_
            intro _ hw'
            obtain ⟨⟨dr, osr⟩, hw''⟩ := hw'
            subst hw''
            have HBE2 : Hid (Below V.heap.size V (grow (redrawn U dr) osr)) := HBU.out.trans ((below_regrown U dr osr).mono HBU.out.size)
            go_wp2_with fail
            go_roundw
            case rel => exact ⟨0 + 1, y.1 + t, by omega, by omega, by go_num, by simp, HOK2.out, HBE2.out⟩
            case measure => simp [intOf]; omega
          · obtain ⟨j, rfl⟩ : ∃ j, k = j + 1 := ⟨k - 1, by omega⟩
            obtain ⟨z, hz⟩ := HPR.out hk0
            have hjl : j < xs.length := by omega
            have hzc := HC.out j hjl
            have hz2 : xs[j] = emb z := by
              have hz' : xs[j]? = some (emb z) := hz
              rw [List.getElem?_eq_getElem hjl] at hz'
              exact Option.some.inj hz'
            rw [hz2] at hzc
            simp only [emb] at hzc
            have hBw2 : Below w.heap.size w w2 := HBV.out.trans (HB2.out.mono HBV.out.size)
            have kz0 := cell_regrown ((hBw2.cell (p := ⟨g, j * 2, none⟩) hg).trans hzc.1)
            have kz1 := cell_regrown ((hBw2.cell (p := ⟨g, j * 2 + 1, none⟩) hg).trans hzc.2)
            have HFE : Hid (∀ W, _) := fun W => impl_fellow y.1 y.2 (by omega) (by omega) W
            have cF : ∀ d os, _ := fun d os => Calls.regrown_of (w := w2) (d := d) (os := os) (HFE.out _)
            by_cases hzf : z = bd.fel y
            · have HF : Hid (rightB n xs = false) := rightB_no fun hr => (HNR.out y hr HXY.out).2.2 z hk0 hz hzf
              have HBW2 : Hid (Below w.heap.size w w2) := hBw2
              have hz0 : z.1 = y.1 ^^^ 2 ^ y.2 := by rw [hzf]; rfl
              have hz1 : z.2 = y.2 := by rw [hzf]; rfl
              rw [hz0] at kz0
              rw [hz1] at kz1
              clear HNR HOK HST HPR HIN HX hzc hz2 hz0 hz1 hBw2
              generalize y.1 ^^^ 2 ^ y.2 = f at *
              refine wp_region_quiet_below (by kernel_rfl) (by kernel_rfl) ?_
              repeat (go_big_quiet_step (first | (go_at_call 56; exact cF _ _)))
              refine wpQuiet_nil ?_
              intro _ hw'
              obtain ⟨⟨dq, osq⟩, hw''⟩ := hw'
              subst hw''
              have HBU : Hid (Below w.heap.size w (grow (redrawn w2 dq) osq)) := HBW2.out.trans ((below_regrown w2 dq osq).mono HBW2.out.size)
              go_wp2_with fail
              go_ret
              exact ⟨by rw [HF.out]; rfl, HBU.out⟩
            · have HOK2 : Hid (OkN n xs (j + 1 + 1) (y.1 + 2 ^ y.2)) := HST.out (fun z' _ hz' e => by
                have ez : z = z' := emb_inj (Option.some.inj (hz.symm.trans hz'))
                rw [ez] at hzf; exact hzf e)
              have hne : ¬ (z.1 = y.1 ^^^ 2 ^ y.2 ∧ z.2 = y.2) := fun h => hzf (Prod.ext h.1 h.2)
              clear HNR HOK HST HPR HIN HX hzc hz2 hBw2 hzf hz
              obtain ⟨f, hf⟩ : ∃ f, f = y.1 ^^^ 2 ^ y.2 := ⟨_, rfl⟩
              rw [← hf] at hne
              simp only [← hf] at cF
              clear hf
              by_cases hz0 : z.1 = f
              · have hz1 : ((z.2 : Int) == (y.2 : Int)) = false := by
                  have : ¬ z.2 = y.2 := fun h => hne ⟨hz0, h⟩
                  simp; omega
                rw [hz0] at kz0
                clear hz0 hne
                refine wp_region_quiet_below (by kernel_rfl) (by kernel_rfl) ?_
                repeat (go_big_quiet_step (first | (go_at_call 56; exact cF _ _)))
                refine wpQuiet_nil ?_
                intro _ hw'
                obtain ⟨⟨dq, osq⟩, hw''⟩ := hw'
                subst hw''
                obtain ⟨U, hU⟩ : ∃ U, U = grow (redrawn w2 dq) osq := ⟨_, rfl⟩
                have hbU : Below w2.heap.size w2 U := by rw [hU]; exact below_regrown w2 dq osq
                have HXU : Hid (Blx U wr.heap.size y.1 y.2) := (hbU.block _ HX2.out.lt).trans HX2.out
                have HBU : Hid (Below V.heap.size V U) := HB2.out.trans (hbU.mono HB2.out.size)
                obtain ⟨ux0, ux1, _, _⟩ := HXU.out.cells
                rw [← hU]
                clear hU hbU kd0 kd1 kx0 kx1 x0 x1 d0 d1 kz0 kz1 cF hz1
                go_wp2_with fail
                have vx0 := cell_regrown ux0
                have vx1 := cell_regrown ux1
                have cP : ∀ d os, _ := fun d os => Calls.regrown_of (w := U) (d := d) (os := os) (HPG.out _)
                generalize 2 ^ y.2 = t at *
                refine wp_region_quiet_below (by kernel_rfl) (by kernel_rfl) ?_
                repeat (go_big_quiet_step (first | (go_at_call 48; exact cP _ _)))
                refine wpQuiet_nil ?_
                intro _ hw'
                obtain ⟨⟨dr, osr⟩, hw''⟩ := hw'
                subst hw''
                have HBE2 : Hid (Below V.heap.size V (grow (redrawn U dr) osr)) := HBU.out.trans ((below_regrown U dr osr).mono HBU.out.size)
                go_wp2_with fail
                go_roundw
                case rel => exact ⟨(j + 1) + 1, y.1 + t, by omega, by omega, by go_num, by simp, HOK2.out, HBE2.out⟩
                case measure => simp [intOf]; omega
              · have hz1 : ((z.1 : Int) == (f : Int)) = false := by simp; omega
                clear hz0 hne
                refine wp_region_quiet_below (by kernel_rfl) (by kernel_rfl) ?_
                repeat (go_big_quiet_step (first | (go_at_call 56; exact cF _ _)))
                refine wpQuiet_nil ?_
                intro _ hw'
                obtain ⟨⟨dq, osq⟩, hw''⟩ := hw'
                subst hw''
                obtain ⟨U, hU⟩ : ∃ U, U = grow (redrawn w2 dq) osq := ⟨_, rfl⟩
                have hbU : Below w2.heap.size w2 U := by rw [hU]; exact below_regrown w2 dq osq
                have HXU : Hid (Blx U wr.heap.size y.1 y.2) := (hbU.block _ HX2.out.lt).trans HX2.out
                have HBU : Hid (Below V.heap.size V U) := HB2.out.trans (hbU.mono HB2.out.size)
                obtain ⟨ux0, ux1, _, _⟩ := HXU.out.cells
                rw [← hU]
                clear hU hbU kd0 kd1 kx0 kx1 x0 x1 d0 d1 kz0 kz1 cF hz1
                go_wp2_with fail
                have vx0 := cell_regrown ux0
                have vx1 := cell_regrown ux1
                have cP : ∀ d os, _ := fun d os => Calls.regrown_of (w := U) (d := d) (os := os) (HPG.out _)
                generalize 2 ^ y.2 = t at *
                refine wp_region_quiet_below (by kernel_rfl) (by kernel_rfl) ?_
                repeat (go_big_quiet_step (first | (go_at_call 48; exact cP _ _)))
                refine wpQuiet_nil ?_
                intro _ hw'
                obtain ⟨⟨dr, osr⟩, hw''⟩ := hw'
                subst hw''
                have HBE2 : Hid (Below V.heap.size V (grow (redrawn U dr) osr)) := HBU.out.trans ((below_regrown U dr osr).mono HBU.out.size)
                go_wp2_with fail
                go_roundw
                case rel => exact ⟨(j + 1) + 1, y.1 + t, by omega, by omega, by go_num, by simp, HOK2.out, HBE2.out⟩
                case measure => simp [intOf]; omega
    · obtain rfl : k = xs.length := by omega
      have HF : Hid (rightB n xs = true) := rightB_yes (okn_all hn HOK.out)
      go_wp2_with fail
      go_ret
      exact ⟨by rw [HF.out]; rfl, HBW.out⟩

set_option maxHeartbeats 1000000 in
/-- BuddyRight at every buddy -/
theorem impl_right (m : Int) (v : Value) (xs : List Pr) (w : World) (h : Rd w v xs) (hlm : xs.length ≤ 1000000000) :
    Calls Try.prog 26 #[.agg #[.int .i64 m, v]] w fun e w' => e = .returned (.bool (rightB m xs)) ∧ Below w.heap.size w w' := by
  have HO : Hid (∀ W, _) := fun W => impl_order m W
  cases ho : ordB m with
  | false =>
    have HF : Hid (rightB m xs = false) := rightB_no fun hr => by rw [right_ord hr] at ho; cases ho
    obtain ⟨a, c, rfl, _⟩ := h.form
    clear h
    go_enter Try.func26, Try.ntmps26
    go_wp2_with (first | (go_at_call 32; refine Calls.mono (HO.out _) ?_; rintro e w' ⟨rfl, rfl⟩))
    go_ret
    exact ⟨by rw [HF.out]; rfl, (Below.refl _ _).alloc (Nat.le_refl _) _⟩
  | true =>
    obtain ⟨n, hn, rfl⟩ := ord_nat ho
    by_cases h0 : xs.length = 0
    · have e : xs = [] := List.eq_nil_of_length_eq_zero h0
      subst e
      have HF : Hid (rightB (n : Int) [] = true) := rightB_yes ⟨n, [], rfl, rfl, bd.right_nil hn⟩
      obtain ⟨a, c, rfl, _⟩ := h.form
      clear h h0
      simp only [List.length_nil]
      go_enter Try.func26, Try.ntmps26
      go_wp2_with (first | (go_at_call 32; refine Calls.mono (HO.out _) ?_; rintro e w' ⟨rfl, rfl⟩))
      go_loop [13] (fun i => i = .int .i64 0) (fun _ => 0)
      case atStart => exact rfl
      case round =>
        subst hrel
        go_wp2
        go_ret
        exact ⟨by rw [HF.out]; rfl, (Below.refl _ _).alloc (Nat.le_refl _) _⟩
    · obtain ⟨g, c, rfl, _, _, hg, hc⟩ := h.at (by omega)
      exact impl_right_some n hn g c xs w hg (by omega) hlm hc
end Go.Proofs.Ytcokchfedaoccab.bimpl
