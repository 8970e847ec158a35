/-
  The walk of the specification's BuddyRight at every buddy.
-/
import Derived.Test.YtcokchfedaoccabBuddyRight
import Derived.Deep.Cut
import Derived.Lib.QuietBelow
import Derived.BigQuiet
import Derived.Deep.CutRange
import Derived.Outline
namespace Go.Proofs.Ytcokchfedaoccab.bspec
open Go.RowKit Go.Deep Go.Sort
open Go.Proofs.Ytcokchfedaoccab
open Go.Proofs.Ytcokchfedaoccab.brows
open Go.Proofs.Ytcokchfedaoccab.bd (Blk)
set_option linter.unusedVariables false

theorem cell_lt {w : World} {a : Addr} {v : Value} (h : w.cell? a = some v) : a.block < w.heap.size := by
  rcases Nat.lt_or_ge a.block w.heap.size with h1 | h1
  · exact h1
  · simp [World.cell?, Array.getElem?_eq_none h1] at h
/-- two boxes behind a call that makes memory of its own -/
theorem keepS {B X : Nat} {m sl a b : Value} {w0 W W' : World} (hb : Below W.heap.size W W')
    (h : W.cell? ⟨B, 0, none⟩ = some m ∧ W.cell? ⟨B, 1, none⟩ = some sl ∧ W.cell? ⟨X, 0, none⟩ = some a ∧ W.cell? ⟨X, 1, none⟩ = some b ∧ Below w0.heap.size w0 W) :
    W'.cell? ⟨B, 0, none⟩ = some m ∧ W'.cell? ⟨B, 1, none⟩ = some sl ∧ W'.cell? ⟨X, 0, none⟩ = some a ∧ W'.cell? ⟨X, 1, none⟩ = some b ∧ Below w0.heap.size w0 W' := by
  obtain ⟨h0, h1, h2, h3, h4⟩ := h
  have hB := cell_lt h0
  have hX := cell_lt h2
  exact ⟨(hb.cell (p := ⟨B, 0, none⟩) hB).trans h0, (hb.cell (p := ⟨B, 1, none⟩) hB).trans h1, (hb.cell (p := ⟨X, 0, none⟩) hX).trans h2, (hb.cell (p := ⟨X, 1, none⟩) hX).trans h3, h4.trans (hb.mono h4.size)⟩

theorem ok_prev {n : Nat} {xs : List Pr} {j : Nat} (h : Ok n xs (j + 1)) (hj : j < xs.length) : ∃ z : Blk, xs[j]? = some (emb z) ∧ bd.In n z := by
  obtain ⟨l, e, h1, _, _⟩ := h
  have hl := last_of e (by omega)
  have : (xs.take (j + 1))[j]? = (l.map emb)[j]? := by rw [e]
  rw [List.getElem?_take, if_pos (by omega), List.getElem?_map, List.getElem?_eq_getElem (l := l) (by omega)] at this
  exact ⟨l[j], this, h1 _ (List.getElem_mem _)⟩
/-- a test: it tells that the row is not right, or that something holds -/
def Told (n : Nat) (xs : List Pr) (good : Prop) (W : World) (s : Value) (V : World) : Prop := ∃ b : Bool, s = .bool b ∧ (b = true → ¬ RightI n xs) ∧ (b = false → good) ∧ Below W.heap.size W V
def Good (n : Nat) (xs : List Pr) (k : Nat) : Prop := ∃ y : Blk, xs[k]? = some (emb y) ∧ bd.In n y ∧ ∀ z : Blk, 0 < k → xs[k - 1]? = some (emb z) → z.1 + 2 ^ z.2 ≤ y.1

set_option maxHeartbeats 2000000 in
set_option maxRecDepth 100000 in
theorem spec_right_some (n : Nat) (hn : n ≤ 5) (g c : Nat) (xs : List Pr) (w : World) (hg : g < w.heap.size) (hl0 : 0 < xs.length) (hl : xs.length ≤ 32)
    (hc : ∀ i (hi : i < xs.length), w.cell? ⟨g, i * 2, none⟩ = some (.int .i64 xs[i].1) ∧ w.cell? ⟨g, i * 2 + 1, none⟩ = some (.int .i64 xs[i].2)) (hrd : Rd w (.slice (some ⟨g, 0, none⟩) xs.length c) xs) :
    Calls Try.prog 27 #[.agg #[.int .i64 n, .slice (some ⟨g, 0, none⟩) xs.length c]] w fun e w' => e = .returned (.bool (rightB n xs)) ∧ Below w.heap.size w w' := by
  have HC : Hid _ := hc
  have HRD : Hid (Rd w (.slice (some ⟨g, 0, none⟩) xs.length c) xs) := hrd
  have HO : Hid (∀ W, _) := fun W => spec_order (n : Int) W
  have ho : ordB (n : Int) = true := by simp [ordB]; omega
  clear hc hrd
  go_enter Try.func27, Try.ntmps27
  go_wp2_with (first | (go_at_call 29; refine Calls.mono (HO.out _) ?_; rintro e w' ⟨rfl, rfl⟩))
  go_loopw [3] (fun i wr => ∃ k : Nat, k ≤ xs.length ∧ i = .int .i64 k ∧ Hid (Ok n xs k) ∧ Below (w.alloc (.cells #[.int .i64 n, .slice (some ⟨g, 0, none⟩) xs.length c] 29)).heap.size (w.alloc (.cells #[.int .i64 n, .slice (some ⟨g, 0, none⟩) xs.length c] 29)) wr) (fun i _ => xs.length - (intOf i).toNat)
  case atStart => exact ⟨0, by omega, rfl, ok_zero n xs, Below.refl _ _⟩
  case round =>
    obtain ⟨k, hk, rfl, HOK, hbel⟩ := hrel
    have b0 : wr.cell? ⟨w.heap.size, 0, none⟩ = some (.int .i64 n) := (hbel.cell (p := ⟨w.heap.size, 0, none⟩) (by simp)).trans (by simp)
    have b1 : wr.cell? ⟨w.heap.size, 1, none⟩ = some (.slice (some ⟨g, 0, none⟩) xs.length c) := (hbel.cell (p := ⟨w.heap.size, 1, none⟩) (by simp)).trans (by simp)
    have HB : Hid (Below w.heap.size w wr) := ((Below.refl w.heap.size w).alloc (Nat.le_refl _) _).trans (hbel.mono (by simp))
    have hws : w.heap.size < wr.heap.size := Nat.lt_of_lt_of_le (by simp) hbel.size
    by_cases hlt : k < xs.length
    · have e0 := (HB.out.cell (p := ⟨g, k * 2, none⟩) hg).trans (HC.out k hlt).1
      have e1 := (HB.out.cell (p := ⟨g, k * 2 + 1, none⟩) hg).trans (HC.out k hlt).2
      have HIN : Hid (∀ W, _) := fun W => spec_in n hn (.slice (some ⟨g, 0, none⟩) xs.length c) xs[k] W
      have HSZ : Hid (∀ o : Nat, o ≤ 5 → ∀ W, _) := fun o ho W => spec_size o ho W
      have HX : Hid (xs[k] = (xs[k].1, xs[k].2)) := rfl
      obtain ⟨y0, hy0⟩ : ∃ y0, y0 = xs[k].1 := ⟨_, rfl⟩
      obtain ⟨y1, hy1⟩ : ∃ y1, y1 = xs[k].2 := ⟨_, rfl⟩
      rw [← hy0, ← hy1] at HX
      rw [← hy0] at e0
      rw [← hy1] at e1
      rw [HX.out] at HIN
      simp only at HIN
      clear hy0 hy1
      go_upto_region 7 with fail
      obtain ⟨W, hW⟩ : ∃ W, W = wr.alloc (.cells #[.int .i64 y0, .int .i64 y1] 68) := ⟨_, rfl⟩
      have hbW : Below wr.heap.size wr W := by rw [hW]; exact (Below.refl _ _).alloc (Nat.le_refl _) _
      have x0 : W.cell? ⟨wr.heap.size, 0, none⟩ = some (.int .i64 y0) := by rw [hW]; simp
      have x1 : W.cell? ⟨wr.heap.size, 1, none⟩ = some (.int .i64 y1) := by rw [hW]; simp
      have a0 := (hbW.cell (p := ⟨w.heap.size, 0, none⟩) hws).trans b0
      have a1 := (hbW.cell (p := ⟨w.heap.size, 1, none⟩) hws).trans b1
      have HBW : Hid (Below w.heap.size w W) := HB.out.trans (hbW.mono HB.out.size)
      have HBX : Hid (Below (w.alloc (.cells #[.int .i64 n, .slice (some ⟨g, 0, none⟩) xs.length c] 29)).heap.size (w.alloc (.cells #[.int .i64 n, .slice (some ⟨g, 0, none⟩) xs.length c] 29)) W) := hbel.trans (hbW.mono hbel.size)
      rw [← hW]
      generalize hX : wr.heap.size = X at *
      clear hW b0 b1 e0 e1 hbW hbel HB hX
      go_cut [55] from 15 to 70 (fun s V => Told n xs (Good n xs k) W s V)
      case first => as_aux_lemma =>
        have ka0 := cell_regrown a0
        have ka1 := cell_regrown a1
        have kx0 := cell_regrown x0
        have kx1 := cell_regrown x1
        have cI : ∀ d os, _ := fun d os => Calls.regrown_of (w := W) (d := d) (os := os) (HIN.out _)
        cases hin : inB n (y0, y1) with
        | false =>
          have HF : Hid (¬ RightI n xs) := fun hr => by
            obtain ⟨y, hy, hyn, _⟩ := right_at hr hlt
            rw [HX.out] at hy
            rw [hy] at hin
            have := in_of hyn
            rw [show emb y = ((y.1 : Int), (y.2 : Int)) from rfl, this] at hin
            cases hin
          rw [hin] at cI
          clear hin HOK HIN
          refine wp_region_quiet_below (by kernel_rfl) (by kernel_rfl) ?_
          repeat (go_big_quiet_step (first | (go_at_call 51; exact cI _ _)))
          refine wpQuiet_nil ?_
          intro _ hw'
          obtain ⟨⟨dq, osq⟩, hw''⟩ := hw'
          subst hw''
          go_wp2_with fail
          go_meet
          case rel => exact ⟨true, rfl, fun _ => HF.out, fun h => Bool.noConfusion h, below_regrown _ _ _⟩
        | true =>
          obtain ⟨y, hy, hyn⟩ := in_nat hin
          have HG : Hid (xs[k]? = some (emb y)) := by rw [Hid, List.getElem?_eq_getElem hlt, HX.out, hy]; rfl
          have hy0 : y0 = (y.1 : Int) := congrArg Prod.fst hy
          have hy1 : y1 = (y.2 : Int) := congrArg Prod.snd hy
          rw [hin] at cI
          rcases Nat.eq_zero_or_pos k with hk0 | hk0
          · subst hk0
            have HF : Hid (Good n xs 0) := ⟨y, HG.out, hyn, fun z h => absurd h (Nat.lt_irrefl _)⟩
            clear hin HOK HIN hy hy0 hy1 HG
            refine wp_region_quiet_below (by kernel_rfl) (by kernel_rfl) ?_
            repeat (go_big_quiet_step (first | (go_at_call 51; exact cI _ _)))
            refine wpQuiet_nil ?_
            intro _ hw'
            obtain ⟨⟨dq, osq⟩, hw''⟩ := hw'
            subst hw''
            go_wp2_with fail
            go_meet
            case rel => exact ⟨false, rfl, fun h => Bool.noConfusion h, fun _ => HF.out, below_regrown _ _ _⟩
          · obtain ⟨j, rfl⟩ : ∃ j, k = j + 1 := ⟨k - 1, by omega⟩
            obtain ⟨z, hz, hzn⟩ := ok_prev HOK.out (by omega)
            have hzc := HC.out j (by omega)
            rw [List.getElem?_eq_getElem (by omega)] at hz
            injection hz with hz
            rw [hz] at hzc
            have HZ : Hid (xs[j]? = some (emb z)) := by rw [Hid, List.getElem?_eq_getElem (by omega), hz]
            have kz0 := cell_regrown ((HBW.out.cell (p := ⟨g, j * 2, none⟩) hg).trans hzc.1)
            have kz1 := cell_regrown ((HBW.out.cell (p := ⟨g, j * 2 + 1, none⟩) hg).trans hzc.2)
            simp only [emb] at kz0 kz1
            have cS : ∀ d os, _ := fun d os => Calls.regrown_of (w := W) (d := d) (os := os) ((HSZ.out z.2 (by have := hzn.ord; omega) _).mono fun _ _ h => ⟨h.1, by rw [h.2]; exact Below.refl _ _⟩)
            have hzl := hzn.top hn
            have hyl := hyn.lt
            have h32 := bd.pow_le32 hn
            have hzo := hzn.ord
            have HR : Hid (y.1 < z.1 + 2 ^ z.2 → ¬ RightI n xs) := fun hb hr => by
              obtain ⟨y', hy', _, hp', _⟩ := right_at hr hlt
              have e : y' = y := emb_inj (by rw [← hy', HX.out, hy]; rfl)
              subst e
              have := hp' z (by omega) HZ.out
              omega
            have HG2 : Hid (¬ y.1 < z.1 + 2 ^ z.2 → Good n xs (j + 1)) := fun hb => ⟨y, HG.out, hyn, fun z' _ hz' => by
              have e : some (emb z) = some (emb z') := HZ.out.symm.trans hz'
              injection e with e
              rw [← emb_inj e]; omega⟩
            generalize 2 ^ z.2 = t at *
            subst hy0 hy1
            clear hin HOK HIN hy HG hz hzc hk0 HZ HX
            by_cases hbad : y.1 < z.1 + t
            · refine wp_region_quiet_below (by kernel_rfl) (by kernel_rfl) ?_
              repeat (go_big_quiet_step (first | (go_at_call 51; exact cI _ _) | (go_at_call 46; exact cS _ _)))
              refine wpQuiet_nil ?_
              intro _ hw'
              obtain ⟨⟨dq, osq⟩, hw''⟩ := hw'
              subst hw''
              go_wp2_with fail
              go_meet
              case rel => exact ⟨true, congrArg Value.bool (decide_eq_true (by omega)), fun _ => HR.out hbad, fun h => Bool.noConfusion h, below_regrown _ _ _⟩
            · refine wp_region_quiet_below (by kernel_rfl) (by kernel_rfl) ?_
              repeat (go_big_quiet_step (first | (go_at_call 51; exact cI _ _) | (go_at_call 46; exact cS _ _)))
              refine wpQuiet_nil ?_
              intro _ hw'
              obtain ⟨⟨dq, osq⟩, hw''⟩ := hw'
              subst hw''
              go_wp2_with fail
              go_meet
              case rel => exact ⟨false, congrArg Value.bool (decide_eq_false (by omega)), fun h => Bool.noConfusion h, fun _ => HG2.out hbad, below_regrown _ _ _⟩
      case rest =>
        obtain ⟨b, rfl, hT, hG, hBV⟩ := hcut
        have HBE : Hid (Below w.heap.size w wc) := HBW.out.trans (hBV.mono HBW.out.size)
        have HBY : Hid (Below (w.alloc (.cells #[.int .i64 n, .slice (some ⟨g, 0, none⟩) xs.length c] 29)).heap.size (w.alloc (.cells #[.int .i64 n, .slice (some ⟨g, 0, none⟩) xs.length c] 29)) wc) := HBX.out.trans (hBV.mono HBX.out.size)
        have a0' := (hBV.cell (p := ⟨w.heap.size, 0, none⟩) (cell_lt a0)).trans a0
        have a1' := (hBV.cell (p := ⟨w.heap.size, 1, none⟩) (cell_lt a1)).trans a1
        have x0' := (hBV.cell (p := ⟨X, 0, none⟩) (cell_lt x0)).trans x0
        have x1' := (hBV.cell (p := ⟨X, 1, none⟩) (cell_lt x1)).trans x1
        clear hBV a0 a1 x0 x1 HBW HBX HIN HSZ
        cases b with
        | true =>
          have HF : Hid (rightB n xs = false) := rightB_no (hT rfl)
          clear hT hG
          go_wp2_with fail
          go_ret
          exact ⟨by rw [HF.out]; rfl, HBE.out⟩
        | false =>
          obtain ⟨y, hy, hyn, hyp⟩ := hG rfl
          have hyx : (y0, y1) = emb y := by
            rw [List.getElem?_eq_getElem hlt, HX.out] at hy
            injection hy
          have hy0 : y0 = (y.1 : Int) := congrArg Prod.fst hyx
          have hy1 : y1 = (y.2 : Int) := congrArg Prod.snd hyx
          subst hy0 hy1
          have h32 := bd.pow_le32 hn
          have hyl := hyn.lt
          have hyo := hyn.ord
          have HSTEP : Hid ((y.2 < n → emb (bd.fel y) ∉ xs) → Ok n xs (k + 1)) := fun hf => by
            rw [List.getElem?_eq_getElem hlt] at hy
            injection hy with hy
            exact ok_step HOK.out hlt hy hyn hyp hf
          have HBAD : Hid (y.2 < n → emb (bd.fel y) ∈ xs → ¬ RightI n xs) := fun h1 h2 hr => by
            obtain ⟨y', hy', _, _, hf'⟩ := right_at hr hlt
            rw [List.getElem?_eq_getElem hlt, hy'] at hy
            injection hy with hy
            rw [emb_inj hy] at hf'
            exact hf' h1 h2
          have HFE : Hid (∀ W, _) := fun W => spec_fellow y.1 y.2 (by omega) (by omega) W
          have HFI : Hid (∀ x W, Below w.heap.size w W → _) := fun x W hW => spec_find (n : Int) (.slice (some ⟨g, 0, none⟩) xs.length c) xs x W (HRD.out.below hW) (by omega)
          go_upto_region 9 with fail
          have ka0 := cell_regrown a0'
          have ka1 := cell_regrown a1'
          have kx0 := cell_regrown x0'
          have kx1 := cell_regrown x1'
          have cF : ∀ d os, _ := fun d os => Calls.regrown_of (w := wc) (d := d) (os := os) (HFE.out _)
          have cG : ∀ d os, _ := fun d os => Calls.regrown_of (w := wc) (d := d) (os := os) (HFI.out (emb (bd.fel y)) _ (HBE.out.trans ((below_regrown wc d os).mono HBE.out.size)))
          clear hT hG hy hyx hyp HX HOK HFE HFI
          have hfo := found xs (emb (bd.fel y))
          generalize findI xs (emb (bd.fel y)) 0 = r at *
          simp only [emb, bd.fel] at cG
          by_cases hyn2 : y.2 < n
          · rcases hfo with ⟨rfl, hm⟩ | ⟨i, hi, rfl, hi2⟩
            · have HOK2 : Hid _ := HSTEP.out fun _ => hm
              clear HSTEP HBAD hm
              refine wp_region_quiet_below (by kernel_rfl) (by kernel_rfl) ?_
              repeat (go_big_quiet_step (first | (go_at_call 58; exact cF _ _) | (go_at_call 57; exact cG _ _)))
              refine wpQuiet_nil ?_
              intro _ hw'
              obtain ⟨⟨dq, osq⟩, hw''⟩ := hw'
              subst hw''
              go_wp2_with fail
              go_roundw
              case rel => exact ⟨k + 1, by omega, by go_num, HOK2.out, HBY.out.trans ((below_regrown wc dq osq).mono HBY.out.size)⟩
              case measure => simp [intOf]; omega
            · have HF : Hid (rightB n xs = false) := rightB_no (HBAD.out hyn2 (List.mem_of_getElem? hi2))
              clear HSTEP HBAD
              refine wp_region_quiet_below (by kernel_rfl) (by kernel_rfl) ?_
              repeat (go_big_quiet_step (first | (go_at_call 58; exact cF _ _) | (go_at_call 57; exact cG _ _)))
              refine wpQuiet_nil ?_
              intro _ hw'
              obtain ⟨⟨dq, osq⟩, hw''⟩ := hw'
              subst hw''
              go_wp2_with fail
              go_ret
              exact ⟨by rw [HF.out]; rfl, HBE.out.trans ((below_regrown wc dq osq).mono HBE.out.size)⟩
          · have HOK2 : Hid _ := HSTEP.out fun h => absurd h hyn2
            clear HSTEP HBAD
            refine wp_region_quiet_below (by kernel_rfl) (by kernel_rfl) ?_
            repeat (go_big_quiet_step (fail))
            refine wpQuiet_nil ?_
            intro _ hw'
            obtain ⟨⟨dq, osq⟩, hw''⟩ := hw'
            subst hw''
            go_wp2_with fail
            go_roundw
            case rel => exact ⟨k + 1, by omega, by go_num, HOK2.out, HBY.out.trans ((below_regrown wc dq osq).mono HBY.out.size)⟩
            case measure => simp [intOf]; omega
    · obtain rfl : k = xs.length := by omega
      have HF : Hid (rightB n xs = true) := rightB_yes (ok_all hn HOK.out)
      go_wp2_with fail
      go_ret
      exact ⟨by rw [HF.out]; rfl, HB.out⟩

set_option maxHeartbeats 1000000 in
/-- BuddyRight at every buddy -/
theorem spec_right (m : Int) (v : Value) (xs : List Pr) (w : World) (h : Rd w v xs) :
    Calls Try.prog 27 #[.agg #[.int .i64 m, v]] w fun e w' => e = .returned (.bool (rightB m xs)) ∧ Below w.heap.size w w' := by
  have HO : Hid (∀ W, _) := fun W => spec_order m W
  cases ho : ordB m with
  | false =>
    have HF : Hid (rightB m xs = false) := rightB_no fun hr => by rw [right_ord hr] at ho; cases ho
    obtain ⟨a, c, rfl, _⟩ := h.form
    clear h
    go_enter Try.func27, Try.ntmps27
    go_wp2_with (first | (go_at_call 29; refine Calls.mono (HO.out _) ?_; rintro e w' ⟨rfl, rfl⟩))
    go_ret
    exact ⟨by rw [HF.out]; rfl, (Below.refl _ _).alloc (Nat.le_refl _) _⟩
  | true =>
    obtain ⟨n, hn, rfl⟩ := ord_nat ho
    by_cases hl : xs.length ≤ 32
    · by_cases h0 : xs.length = 0
      · have e : xs = [] := List.eq_nil_of_length_eq_zero h0
        subst e
        have HF : Hid (rightB (n : Int) [] = true) := rightB_yes ⟨n, [], rfl, rfl, bd.right_nil hn⟩
        obtain ⟨a, c, rfl, _⟩ := h.form
        clear h h0 hl
        simp only [List.length_nil]
        go_enter Try.func27, Try.ntmps27
        go_wp2_with (first | (go_at_call 29; refine Calls.mono (HO.out _) ?_; rintro e w' ⟨rfl, rfl⟩))
        go_loop [3] (fun i => i = .int .i64 0) (fun _ => 0)
        case atStart => exact rfl
        case round =>
          subst hrel
          go_wp2
          go_ret
          exact ⟨by rw [HF.out]; rfl, (Below.refl _ _).alloc (Nat.le_refl _) _⟩
      · obtain ⟨g, c, rfl, _, _, hg, hc⟩ := h.at (by omega)
        exact spec_right_some n hn g c xs w hg (by omega) hl hc h
    · have HF : Hid (rightB (n : Int) xs = false) := rightB_no fun hr => hl (right_len hr)
      obtain ⟨a, c, rfl, hc1, hc2⟩ := h.form
      unfold maxLen at hc2
      have hlen : 32 < xs.length := by omega
      have hlen2 : (xs.length : Int) ≤ 9223372036854775807 := by omega
      generalize xs.length = len at *
      clear h hl
      go_enter Try.func27, Try.ntmps27
      go_wp2_with (first | (go_at_call 29; refine Calls.mono (HO.out _) ?_; rintro e w' ⟨rfl, rfl⟩))
      go_ret
      exact ⟨by rw [HF.out]; rfl, (Below.refl _ _).alloc (Nat.le_refl _) _⟩
end Go.Proofs.Ytcokchfedaoccab.bspec
