/-
  The walk of the law FnNames: it answers true at every two rows of bytes.
-/
import Derived.Test.YtmlikahdoaffoaaNameDraws
import Derived.Test.YtmlikahdoaffoaaStreamImpl
import Derived.Test.YtmlikahdoaffoaaStreamEq
import Derived.Test.YtmlikahdoaffoaaNamesFacts
import Derived.Deep.RegionHeld3
import Derived.Laws.StructEq
import Derived.Outline
import Derived.Deep.Cut
import Derived.Deep.OwnRows
namespace Go.Proofs.Ytmlikahdoaffoaa.nwalk
open Go.RowKit Go.Deep
open Go.Proofs.Ytmlikahdoaffoaa
open Go.Proofs.Ytmlikahdoaffoaa.pm
open Go.Proofs.Ytmlikahdoaffoaa.strm (nextS Out rightS)
open Go.Proofs.Ytmlikahdoaffoaa.nfacts
set_option linter.unusedVariables false

theorem up {w : World} {x : Option Addr} {len B B' : Nat} (h : draws.Byts w x len B) (hB : B ≤ B') : draws.Byts w x len B' :=
  ⟨h.1, fun i hi => by
    obtain ⟨b, off, z, hx, hb, hz, hc⟩ := h.2 i hi
    exact ⟨b, off, z, hx, by omega, hz, hc⟩⟩

theorem marks4 {W : World} {X Y : Nat} {f : Nat → Bool} (h : Marks W Y f) (hXY : X < Y) (a b c d : Value) :
    Marks ((((W.setCell ⟨X, 0, none⟩ a).setCell ⟨X, 1, none⟩ b).setCell ⟨X, 2, none⟩ c).setCell ⟨X, 3, none⟩ d) Y f :=
  (((h.apart (by omega) _ _).apart (by omega) _ _).apart (by omega) _ _).apart (by omega) _ _
theorem below4 {w W : World} {X : Nat} (h : Below w.heap.size w W) (hX : w.heap.size ≤ X) (a b c d : Value) :
    Below w.heap.size w ((((W.setCell ⟨X, 0, none⟩ a).setCell ⟨X, 1, none⟩ b).setCell ⟨X, 2, none⟩ c).setCell ⟨X, 3, none⟩ d) :=
  (((h.setCell hX _).setCell hX _).setCell hX _).setCell hX _

theorem keep_six {S X : Nat} {a b c0 c1 c2 c3 : Value} {w0 W W' : World} (hb : Below W.heap.size W W')
    (h : W.cell? ⟨S, 0, none⟩ = some a ∧ W.cell? ⟨S, 1, none⟩ = some b ∧ W.cell? ⟨X, 0, none⟩ = some c0 ∧ W.cell? ⟨X, 1, none⟩ = some c1 ∧ W.cell? ⟨X, 2, none⟩ = some c2 ∧ W.cell? ⟨X, 3, none⟩ = some c3 ∧ Below w0.heap.size w0 W) :
    W'.cell? ⟨S, 0, none⟩ = some a ∧ W'.cell? ⟨S, 1, none⟩ = some b ∧ W'.cell? ⟨X, 0, none⟩ = some c0 ∧ W'.cell? ⟨X, 1, none⟩ = some c1 ∧ W'.cell? ⟨X, 2, none⟩ = some c2 ∧ W'.cell? ⟨X, 3, none⟩ = some c3 ∧ Below w0.heap.size w0 W' := by
  obtain ⟨h0, h1, h2, h3, h4, h5, h6⟩ := h
  have hS := draws.cell_lt h0
  have hX := draws.cell_lt h2
  exact ⟨(hb.cell (p := ⟨S, 0, none⟩) hS).trans h0, (hb.cell (p := ⟨S, 1, none⟩) hS).trans h1, (hb.cell (p := ⟨X, 0, none⟩) hX).trans h2, (hb.cell (p := ⟨X, 1, none⟩) hX).trans h3, (hb.cell (p := ⟨X, 2, none⟩) hX).trans h4, (hb.cell (p := ⟨X, 3, none⟩) hX).trans h5, h6.trans (hb.mono h6.size)⟩

set_option maxRecDepth 100000 in
theorem big (x : Option Addr) (len cap : Nat) (y : Option Addr) (len' cap' : Nat) (w : World) (h : (len : Int) ≤ 9223372036854775807) (h' : (len' : Int) ≤ 9223372036854775807) (hb : 1048576 < len ∨ 1048576 < len') :
    Calls Try.prog 8 #[.slice x len cap, .slice y len' cap'] w fun e w' => e = .returned (.bool true) ∧ Below w.heap.size w w' := by
  by_cases h1 : 1048576 < len
  · clear hb
    go_enter Try.func8, Try.ntmps8
    go_wp2
    go_ret
    exact ⟨rfl, Below.refl _ _⟩
  · have h2 : 1048576 < len' := by omega
    clear hb
    go_enter Try.func8, Try.ntmps8
    go_wp2
    go_ret
    exact ⟨rfl, Below.refl _ _⟩

set_option maxHeartbeats 4000000 in
set_option maxRecDepth 100000 in
theorem small (x : Option Addr) (len cap : Nat) (y : Option Addr) (len' cap' : Nat) (w : World) (hl : len ≤ 1048576) (hl' : len' ≤ 1048576)
    (hx : draws.Byts w x len w.heap.size) (hy : draws.Byts w y len' w.heap.size) :
    Calls Try.prog 8 #[.slice x len cap, .slice y len' cap'] w fun e w' => e = .returned (.bool true) ∧ Below w.heap.size w w' := by
  have HD : Hid _ := draws.drawPermute x len cap w hx
  have HY : Hid (draws.Byts w y len' w.heap.size) := hy
  clear hx hy
  have HPi : Hid (∀ p q W, Calls Try.prog 12 #[.int .i64 p, .int .i64 q] W fun e w' => e = .returned (.int .i64 (permI p q)) ∧ Below W.heap.size W w') := fun p q W => perm.impl_perm p q W
  have HUi : Hid (∀ p q W, Calls Try.prog 14 #[.int .i64 p, .int .i64 q] W fun e w' => e = .returned (.int .i64 (unpermI p q)) ∧ Below W.heap.size W w') := fun p q W => perm.impl_unperm p q W
  have HPs : Hid (∀ p q W, Calls Try.prog 11 #[.int .i64 p, .int .i64 q] W fun e w' => e = .returned (.int .i64 (permI p q)) ∧ w' = W) := fun p q W => perm.spec_perm p q W
  have HUs : Hid (∀ p q W, Calls Try.prog 13 #[.int .i64 p, .int .i64 q] W fun e w' => e = .returned (.int .i64 (unpermI p q)) ∧ w' = W) := fun p q W => perm.spec_unperm p q W
  have HMi : Hid (∀ p q r W, Calls Try.prog 10 #[.int .i64 p, .int .i64 q, .int .i64 r] W fun e w' => e = .returned (.int .i64 (mixI p q r)) ∧ w' = W) := fun p q r W => mix.impl_mix p q r W
  have HMs : Hid (∀ p q r W, Calls Try.prog 9 #[.int .i64 p, .int .i64 q, .int .i64 r] W fun e w' => e = .returned (.int .i64 (mixI p q r)) ∧ w' = W) := fun p q r W => mix.spec_mix p q r W
  go_enter Try.func8, Try.ntmps8
  go_wp2_with fail
  refine Calls.mono HD.out ?_
  rintro e w1 ⟨k, n, rfl, hb1⟩
  have HB1 : Hid (Below w.heap.size w w1) := hb1
  clear hb1 HD
  go_wp2_with fail
  refine Calls.mono (HPi.out _ _ _) ?_
  rintro e w2 ⟨rfl, hb2⟩
  have HB2 : Hid (Below w.heap.size w w2) := HB1.out.trans (hb2.mono HB1.out.size)
  clear hb2 HB1
  go_wp2_with fail
  refine Calls.mono (HUi.out _ _ _) ?_
  rintro e w3 ⟨rfl, hb3⟩
  have HB3 : Hid (Below w.heap.size w w3) := HB2.out.trans (hb3.mono HB2.out.size)
  have HE : Hid _ := draws.drawStreamNext y len' cap' w3 (up (HY.out.below HB3.out (Nat.le_refl _)) HB3.out.size)
  clear hb3 HB2
  go_wp2_with fail
  refine Calls.mono HE.out ?_
  rintro e w4 ⟨ks, cs, rfl, hb4⟩
  have HB4 : Hid (Below w.heap.size w w4) := HB3.out.trans (hb4.mono HB3.out.size)
  have HNi : Hid (∀ W, _) := fun W => strm.impl_next ks cs W
  have HNs : Hid (∀ W, _) := fun W => strm.spec_next ks cs W
  have HRi : Hid (∀ W, _) := fun W => strm.impl_rightB ks cs W
  have HRs : Hid (∀ W, _) := fun W => strm.spec_rightB ks cs W
  obtain ⟨o, ho⟩ : ∃ o, o = nextS ks cs := ⟨_, rfl⟩
  rw [← ho] at HNi HNs
  obtain ⟨o0, o1, o2, o3⟩ := o
  simp only [Out.val] at HNi HNs
  have HO : Hid _ := ho
  generalize rightS ks cs = rb at HRi HRs
  clear hb4 HE HB3 ho
  go_wp2_with fail
  refine Calls.mono (HNi.out _) ?_
  rintro e w5 ⟨rfl, hb5⟩
  obtain ⟨s0, s1, hs⟩ := strm.cells2 (B := w4.heap.size) (a := .int .i64 ks) (b := .int .i64 cs) hb5 (by simp) (by simp) (by simp)
  have HB5 : Hid (Below w.heap.size w w5) := (HB4.out.alloc HB4.out.size _).trans (hb5.mono (by simp; have := HB4.out.size; omega))
  have hb6 : Below w.heap.size w (w5.alloc (.cells #[.int .i64 o0, .int .i64 o1, .int .i64 o2, .int .i64 o3] 33)) := HB5.out.alloc HB5.out.size _
  have HB6 : Hid _ := hb6
  have HM : Hid _ := draws.drawMix y len' cap' (w5.alloc (.cells #[.int .i64 o0, .int .i64 o1, .int .i64 o2, .int .i64 o3] 33)) (up (HY.out.below hb6 (Nat.le_refl _)) hb6.size)
  have HX6 : Hid (Box4 (w5.alloc (.cells #[.int .i64 o0, .int .i64 o1, .int .i64 o2, .int .i64 o3] 33)) w5.heap.size ⟨o0, o1, o2, o3⟩) :=
    ⟨⟨by simp, by simp, by simp, by simp⟩, ⟨by simp, by simp, by simp, by simp⟩, by simp⟩
  clear hb5 hb6 HB4 HNi
  go_wp2_with fail
  refine Calls.mono HM.out ?_
  rintro e w7 ⟨mk, mr, mh, rfl, hb7⟩
  have HB7 : Hid (Below w.heap.size w w7) := HB6.out.trans (hb7.mono HB6.out.size)
  have HX7 : Hid (Box4 w7 w5.heap.size ⟨o0, o1, o2, o3⟩) := HX6.out.below hb7 (by simp)
  obtain ⟨⟨c0, c1, c2, c3⟩, _⟩ := HX7.out
  have t0 : w7.cell? ⟨w4.heap.size, 0, none⟩ = some (.int .i64 ks) := (hb7.cell (p := ⟨w4.heap.size, 0, none⟩) (by simp; omega)).trans ((Below.alloc (Below.refl _ w5) (Nat.le_refl _) _).cell (p := ⟨w4.heap.size, 0, none⟩) hs |>.trans s0)
  have t1 : w7.cell? ⟨w4.heap.size, 1, none⟩ = some (.int .i64 cs) := (hb7.cell (p := ⟨w4.heap.size, 1, none⟩) (by simp; omega)).trans ((Below.alloc (Below.refl _ w5) (Nat.le_refl _) _).cell (p := ⟨w4.heap.size, 1, none⟩) hs |>.trans s1)
  have HB5' : Hid (w.heap.size ≤ w5.heap.size) := HB5.out.size
  clear hb7 HM HB6 HX6 HB5 s0 s1 HY hs
  simp only at c0 c1 c2 c3
  go_upto_region 8 with fail
  go_cut [80] from 16 (fun s W => s = .bool false ∧ Hid (Below w7.heap.size w7 W))
  case first => as_aux_lemma =>
    have b0 := Below.refl w7.heap.size w7
    go_region_held3 (fun W => W.cell? ⟨w4.heap.size, 0, none⟩ = some (.int .i64 ks) ∧ W.cell? ⟨w4.heap.size, 1, none⟩ = some (.int .i64 cs) ∧ W.cell? ⟨w5.heap.size, 0, none⟩ = some (.int .i64 o0) ∧ W.cell? ⟨w5.heap.size, 1, none⟩ = some (.int .i64 o1) ∧ W.cell? ⟨w5.heap.size, 2, none⟩ = some (.int .i64 o2) ∧ W.cell? ⟨w5.heap.size, 3, none⟩ = some (.int .i64 o3) ∧ Below w7.heap.size w7 W)
      (first | assumption | exact ⟨by simpa using t0, by simpa using t1, by simpa using c0, by simpa using c1, by simpa using c2, by simpa using c3, b0.drew⟩ | exact keep_six hb (by assumption))
      (first
        | (go_at_call 11; refine Calls.mono (HPs.out _ _ _) ?_; rintro e w' ⟨rfl, rfl⟩)
        | (go_at_call 13; refine Calls.mono (HUs.out _ _ _) ?_; rintro e w' ⟨rfl, rfl⟩)
        | (go_at_call 18; refine Calls.mono (HNs.out _) ?_; rintro e w' ⟨rfl, hb⟩)
        | (go_at_call 10; refine Calls.mono (HMi.out _ _ _ _) ?_; rintro e w' ⟨rfl, rfl⟩)
        | (go_at_call 9; refine Calls.mono (HMs.out _ _ _ _) ?_; rintro e w' ⟨rfl, rfl⟩)
        | (go_at_call 17; refine Calls.mono (HRi.out _) ?_; rintro e w' ⟨rfl, hb⟩)
        | (go_at_call 15; refine Calls.mono (HRs.out _) ?_; rintro e w' ⟨rfl, hb⟩))
    go_wp2_with fail
    go_meet
    case rel => exact ⟨rfl, (‹_ ∧ _ ∧ _ ∧ _ ∧ _ ∧ _ ∧ Below w7.heap.size w7 _›).2.2.2.2.2.2⟩
  case rest =>
    obtain ⟨rfl, HBW⟩ := hcut
    have HX8 : Hid (Box4 wc w5.heap.size ⟨o0, o1, o2, o3⟩) := HX7.out.below HBW.out (by have := HX7.out.2.2; omega)
    have HB8 : Hid (Below w.heap.size w wc) := HB7.out.trans (HBW.out.mono HB7.out.size)
    have hx8 : w.heap.size ≤ w5.heap.size := HB5'.out
    clear HBW HB7 HX7 c0 c1 c2 c3 t0 t1 HNs HRi HRs HMi HMs HPs HUs
    have HIV : Hid (Inv ⟨o0, o1, o2, o3⟩ (fun _ => false)) := by rw [HO.out]; exact inv_start ks cs
    clear HO
    generalize hX : w5.heap.size = X at *
    go_upto_region 10 with fail
    have w8 := wc
    go_cut [96] from 16 (fun s W => s = .bool false ∧ Hid (Below wc.heap.size wc W))
    case first => as_aux_lemma =>
      have key : (keyB k = true ∧ keyB n = true) ∨ (keyB k = false ∨ keyB n = false) := by
        cases keyB k <;> cases keyB n <;> simp
      rcases key with ⟨hk, hn⟩ | hno
      · have hc := comes_back k n hk hn
        have HU1 : Hid (∀ W, _) := fun W => perm.impl_unperm k (permI k n) W
        have HP1 : Hid (∀ W, _) := fun W => perm.impl_perm k (unpermI k n) W
        rw [hc.2.1] at HU1
        rw [hc.2.2] at HP1
        have hp0 := hc.1
        generalize permI k n = p at *
        generalize unpermI k n = q at *
        clear hc HPi HUi
        go_wp2_with (first | (go_at_call 14; refine Calls.mono (HU1.out _) ?_; rintro e wa ⟨rfl, ha⟩) | (go_at_call 12; refine Calls.mono (HP1.out _) ?_; rintro e wb ⟨rfl, hb⟩))
        go_meet
        case rel => exact ⟨rfl, ha.trans (hb.mono ha.size)⟩
      · have hp0 : permI k n < 0 := by rw [not_right k n hno]; decide
        generalize permI k n = p at *
        clear HPi HUi hno
        go_wp2_with fail
        go_meet
        case rel => exact ⟨rfl, Below.refl _ _⟩
    case rest =>
      obtain ⟨rfl, HBV⟩ := hcut
      have HX9 : Hid (Box4 wc X ⟨o0, o1, o2, o3⟩) := HX8.out.below HBV.out HX8.out.2.2
      have HB9 : Hid (Below w.heap.size w wc) := HB8.out.trans (HBV.out.mono HB8.out.size)
      clear HBV HB8 HX8 HPi HUi
      have hmk := fun W => make_marks W
      have HM0 : Hid _ := marks_new wc
      have HXa : Hid (Box4 (wc.alloc (.cells noMarks 4)) X ⟨o0, o1, o2, o3⟩) := HX9.out.below (Below.alloc (Below.refl _ wc) (Nat.le_refl _) _) HX9.out.2.2
      have HBa : Hid (Below w.heap.size w (wc.alloc (.cells noMarks 4))) := HB9.out.alloc HB9.out.size _
      have hXY : X < wc.heap.size := HX9.out.2.2
      have hwc : w.heap.size ≤ wc.heap.size := HB9.out.size
      have HNX : Hid (∀ p q W, Calls Try.prog 19 #[.agg #[.int .i64 p, .int .i64 q]] W fun e w' => e = .returned (nextS p q).val ∧ Below W.heap.size W w') := fun p q W => strm.impl_next p q W
      go_wp2_with fail
      clear hmk
      generalize hYd : wc.heap.size = Y at *
      obtain ⟨L, hL⟩ : ∃ L : Nat, L = 65536 := ⟨_, rfl⟩
      rw [← hL]
      have HL : Hid (L = 65536) := hL
      clear hL
      go_loopw [15] (fun c wx => ∃ (i : Nat) (o : Out) (f : Nat → Bool), i ≤ 50 ∧ c = .int .i64 i ∧ Hid (Box4 wx X o) ∧ Hid (Marks wx Y f) ∧ Hid (Inv o f) ∧ Hid (Below w.heap.size w wx)) (fun c _ => 50 - (intOf c).toNat)
      case atStart => exact ⟨0, _, _, by omega, rfl, HXa, HM0, HIV, HBa⟩
      case round =>
        obtain ⟨i, o, f, hi, rfl, HX, HF, HI, HB⟩ := hrel
        clear HXa HM0 HIV HBa HX9 HB9
        by_cases hcode : o.code = 0
        · by_cases hlt : i < 50
          · obtain ⟨a, c, ha, hc, rfl, hf⟩ := HI.out hcode
            obtain ⟨⟨x0, x1, x2, x3⟩, ⟨g0, g1, g2, g3⟩, hXs⟩ := HX.out
            have hn := not_yet a c hc f hf
            have hlt2 := perm_lt a c (by omega)
            have hltL : permN a c < L := by rw [HL.out]; exact hlt2
            have m0 := (HF.out.2 (permN a c) hlt2).1
            have m1 := (HF.out.2 (permN a c) hlt2).2
            rw [hn] at m0
            have HI2 : Hid (Inv (nextS (a : Int) ((c : Int) + 1)) (fun j => f j || j == permN a c)) := inv_step a c ha hc f hf
            have HF2 : Hid (Marks (wr.setCell ⟨Y, permN a c, none⟩ (.bool true)) Y (fun j => f j || j == permN a c)) := HF.out.set (permN a c) hlt2
            have HX2 : Hid (Box4 (wr.setCell ⟨Y, permN a c, none⟩ (.bool true)) X ⟨a, (c : Int) + 1, (permN a c : Nat), 0⟩) := HX.out.apart (by omega) _ _
            have HB2 : Hid (Below w.heap.size w (wr.setCell ⟨Y, permN a c, none⟩ (.bool true))) := HB.out.setCell hwc _
            have HC : Hid (∀ W, _) := HNX.out a ((c : Int) + 1)
            generalize permN a c = q at *
            simp only at x0 x1 x2 x3
            generalize (fun j => f j || j == q) = f' at HI2 HF2
            obtain ⟨o', ho'⟩ : ∃ o', o' = nextS (a : Int) ((c : Int) + 1) := ⟨_, rfl⟩
            rw [← ho'] at HI2 HC
            obtain ⟨p0, p1, p2, p3⟩ := o'
            simp only [Out.val] at HC
            clear hn hf HI HF hcode ho' HNX HB HX
            go_upto_region 16 with fail
            go_upto_region 18 with fail
            go_upto_region 19 with fail
            go_wp2_with fail
            refine Calls.mono (HC.out _) ?_
            rintro e w1 ⟨rfl, hb⟩
            have HX3 : Hid (Box4 w1 X ⟨a, (c : Int) + 1, (q : Int), 0⟩) := HX2.out.below hb HX2.out.2.2
            have HF3 : Hid (Marks w1 Y f') := HF2.out.below hb HF2.out.1
            have HB3 : Hid (Below w.heap.size w w1) := HB2.out.trans (hb.mono HB2.out.size)
            clear hb HX2 HF2 HB2 x0 x1 x2 x3 g0 g1 g2 g3 m0 m1
            obtain ⟨⟨x0, x1, x2, x3⟩, ⟨g0, g1, g2, g3⟩, hXs⟩ := HX3.out
            simp only at x0 x1 x2 x3
            go_wp2_with fail
            go_roundw
            case rel =>
              refine ⟨i + 1, ⟨p0, p1, p2, p3⟩, f', by omega, by go_num, ?_, ?_, HI2, ?_⟩
              · exact Box4.set HX3.out ⟨p0, p1, p2, p3⟩
              · exact marks4 HF3.out hXY _ _ _ _
              · exact below4 HB3.out hx8 _ _ _ _
            case measure => simp [intOf]; omega
          · obtain rfl : i = 50 := by omega
            go_wp2_with fail
            go_ret
            exact ⟨rfl, HB.out⟩
        · obtain ⟨⟨x0, x1, x2, x3⟩, ⟨g0, g1, g2, g3⟩, hXs⟩ := HX.out
          have hc3 : (o.code == 0) = false := by simp [hcode]
          by_cases hlt : i < 50
          · go_wp2_with fail
            go_ret
            exact ⟨rfl, HB.out⟩
          · go_wp2_with fail
            go_ret
            exact ⟨rfl, HB.out⟩

theorem walk (x : Option Addr) (len cap : Nat) (y : Option Addr) (len' cap' : Nat) (w : World) (hx : draws.Byts w x len w.heap.size) (hy : draws.Byts w y len' w.heap.size) :
    Calls Try.prog 8 #[.slice x len cap, .slice y len' cap'] w fun e w' => e = .returned (.bool true) ∧ Below w.heap.size w w' := by
  by_cases hb : 1048576 < len ∨ 1048576 < len'
  · exact big x len cap y len' cap' w hx.1 hy.1 hb
  · exact small x len cap y len' cap' w (by omega) (by omega) hx hy
end Go.Proofs.Ytmlikahdoaffoaa.nwalk
