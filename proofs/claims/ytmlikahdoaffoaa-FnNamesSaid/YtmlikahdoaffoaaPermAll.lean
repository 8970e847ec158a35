/-
  The program's Permute and Unpermute at every pair of numbers. No condition.
-/
import Derived.Test.YtmlikahdoaffoaaPermImpl
namespace Go.Proofs.Ytmlikahdoaffoaa.perm
open Go.RowKit
open Go.Proofs.Ytmlikahdoaffoaa
open Go.Proofs.Ytmlikahdoaffoaa.pm
open Go.Proofs.Ytmlikahdoaffoaa.mix (ret_int val_int)

theorem high (n : Nat) : (n : Int) / 256 = (((cut n).1 : Nat) : Int) := by show _ = ((n / 256 : Nat) : Int); omega
theorem low (n : Nat) : (n : Int) % 256 = (((cut n).2 : Nat) : Int) := by show _ = ((n % 256 : Nat) : Int); omega

theorem set0 {w : World} {B : Nat} {x y u : Value} (h : w.cell? ⟨B, 0, none⟩ = some u) : ((w.setCell ⟨B, 0, none⟩ x).setCell ⟨B, 1, none⟩ y).cell? ⟨B, 0, none⟩ = some x := by
  rw [World.cell?_setCell_other _ _ _ _ (by simp), World.cell?_setCell_same _ _ _ h]
theorem set1 {w : World} {B : Nat} {x y u : Value} (h : w.cell? ⟨B, 1, none⟩ = some u) : ((w.setCell ⟨B, 0, none⟩ x).setCell ⟨B, 1, none⟩ y).cell? ⟨B, 1, none⟩ = some y :=
  World.cell?_setCell_same _ _ _ ((World.cell?_setCell_other _ _ _ _ (by simp)).trans h)

theorem all_fwd (k n : Nat) (hk : k < 65536) (hn : n < 65536) (w : World) :
    Calls Try.prog 30 #[.func (.func 31) #[.int .u16 k] #[], .int .i64 n] w fun e w' => e = .returned (.int .i64 (permN k n : Nat)) ∧ Below w.heap.size w w' := by
  have HF : Hid (∀ i, Half (fwd k i (cut n))) := fwd_half k (cut n) (cut_half n hn)
  have HT : Hid (∀ (r : Nat) (p : Nat × Nat), r < 4 → Half p → ∀ W, _) := fun r p hr hp W => turn k r p hk hr hp W
  have HH : Hid _ := high n
  have HL : Hid _ := low n
  go_enter Try.func30, Try.ntmps30
  go_wp2_with fail
  go_loopw [13] (fun c wx => ∃ i : Nat, i ≤ 4 ∧ c = .int .u32 i ∧ Hid (Below w.heap.size w wx) ∧ w.heap.size < wx.heap.size ∧
      wx.frozen? ⟨w.heap.size, 0, none⟩ = false ∧ wx.frozen? ⟨w.heap.size, 1, none⟩ = false ∧
      wx.cell? ⟨w.heap.size, 0, none⟩ = some (.int .u8 ((fwd k i (cut n)).1 : Nat)) ∧ wx.cell? ⟨w.heap.size, 1, none⟩ = some (.int .u8 ((fwd k i (cut n)).2 : Nat)))
    (fun c _ => 4 - (intOf c).toNat)
  case atStart => exact ⟨0, by omega, rfl, (Below.refl _ _).alloc (Nat.le_refl _) _, by simp, by simp, by simp, by simp [fwd, HH.out], by simp [fwd, HL.out]⟩
  case round =>
    obtain ⟨i, hi, rfl, HB, hs, f0, f1, c0, c1⟩ := hrel
    clear HH HL
    by_cases hlt : i < 4
    · have HT1 : Hid (∀ W, _) := HT.out i _ hlt (HF.out i)
      have HS : Hid (fwd k (i + 1) (cut n) = pm.step k i (fwd k i (cut n))) := rfl
      simp only [halves] at HT1
      clear HT HF
      generalize fwd k i (cut n) = p at *
      go_wp2_with fail
      refine Calls.mono (HT1.out _) ?_
      rintro e w1 ⟨rfl, hb⟩
      generalize HQ : pm.step k i p = q at *
      have HQ' : Hid _ := HQ
      clear HQ HT1
      have g0 : w1.frozen? ⟨w.heap.size, 0, none⟩ = false := (hb.frozen (p := ⟨w.heap.size, 0, none⟩) hs).trans f0
      have g1 : w1.frozen? ⟨w.heap.size, 1, none⟩ = false := (hb.frozen (p := ⟨w.heap.size, 1, none⟩) hs).trans f1
      have d0 := (hb.cell (p := ⟨w.heap.size, 0, none⟩) hs).trans c0
      have d1 := (hb.cell (p := ⟨w.heap.size, 1, none⟩) hs).trans c1
      have HB1 : Hid (Below w.heap.size w w1) := HB.out.trans (hb.mono HB.out.size)
      have hs1 : w.heap.size < w1.heap.size := Nat.lt_of_lt_of_le hs hb.size
      clear hb f0 f1 c0 c1 HB hs
      go_wp2_with fail
      go_roundw
      case rel => exact ⟨i + 1, by omega, by go_num, (HB1.out.setCell (Nat.le_refl _) _).setCell (Nat.le_refl _) _, by simpa using hs1, by simp [g0], by simp [g1], by rw [HS.out]; exact set0 d0, by rw [HS.out]; exact set1 d1⟩
      case measure => simp [intOf]; omega
    · obtain rfl : i = 4 := by omega
      have HG : Hid _ := or_glue _ _ (HF.out 4).1 (HF.out 4).2
      have HP : Hid (permN k n = (fwd k 4 (cut n)).1 * 256 + (fwd k 4 (cut n)).2) := rfl
      have h0 := (HF.out 4).1
      have h1 := (HF.out 4).2
      clear HT HF
      generalize fwd k 4 (cut n) = p at *
      go_wp2_with fail
      go_ret
      exact ⟨by rw [HP.out]; exact ret_int HG.out, HB.out⟩

theorem all_bwd (k n : Nat) (hk : k < 65536) (hn : n < 65536) (w : World) :
    Calls Try.prog 30 #[.func (.func 32) #[.int .u16 k] #[], .int .i64 n] w fun e w' => e = .returned (.int .i64 (unpermN k n : Nat)) ∧ Below w.heap.size w w' := by
  have HF : Hid (∀ i, Half (bwd k i (cut n))) := bwd_half k (cut n) (cut_half n hn)
  have HT : Hid (∀ (r : Nat) (p : Nat × Nat), r < 4 → Half p → ∀ W, _) := fun r p hr hp W => turn_back k r p hk hr hp W
  have HH : Hid _ := high n
  have HL : Hid _ := low n
  go_enter Try.func30, Try.ntmps30
  go_wp2_with fail
  go_loopw [13] (fun c wx => ∃ i : Nat, i ≤ 4 ∧ c = .int .u32 i ∧ Hid (Below w.heap.size w wx) ∧ w.heap.size < wx.heap.size ∧
      wx.frozen? ⟨w.heap.size, 0, none⟩ = false ∧ wx.frozen? ⟨w.heap.size, 1, none⟩ = false ∧
      wx.cell? ⟨w.heap.size, 0, none⟩ = some (.int .u8 ((bwd k i (cut n)).1 : Nat)) ∧ wx.cell? ⟨w.heap.size, 1, none⟩ = some (.int .u8 ((bwd k i (cut n)).2 : Nat)))
    (fun c _ => 4 - (intOf c).toNat)
  case atStart => exact ⟨0, by omega, rfl, (Below.refl _ _).alloc (Nat.le_refl _) _, by simp, by simp, by simp, by simp [bwd, HH.out], by simp [bwd, HL.out]⟩
  case round =>
    obtain ⟨i, hi, rfl, HB, hs, f0, f1, c0, c1⟩ := hrel
    clear HH HL
    by_cases hlt : i < 4
    · have HT1 : Hid (∀ W, _) := HT.out i _ hlt (HF.out i)
      have HS : Hid (bwd k (i + 1) (cut n) = pm.back k (3 - i) (bwd k i (cut n))) := rfl
      simp only [halves] at HT1
      clear HT HF
      generalize bwd k i (cut n) = p at *
      go_wp2_with fail
      refine Calls.mono (HT1.out _) ?_
      rintro e w1 ⟨rfl, hb⟩
      generalize HQ : pm.back k (3 - i) p = q at *
      have HQ' : Hid _ := HQ
      clear HQ HT1
      have g0 : w1.frozen? ⟨w.heap.size, 0, none⟩ = false := (hb.frozen (p := ⟨w.heap.size, 0, none⟩) hs).trans f0
      have g1 : w1.frozen? ⟨w.heap.size, 1, none⟩ = false := (hb.frozen (p := ⟨w.heap.size, 1, none⟩) hs).trans f1
      have d0 := (hb.cell (p := ⟨w.heap.size, 0, none⟩) hs).trans c0
      have d1 := (hb.cell (p := ⟨w.heap.size, 1, none⟩) hs).trans c1
      have HB1 : Hid (Below w.heap.size w w1) := HB.out.trans (hb.mono HB.out.size)
      have hs1 : w.heap.size < w1.heap.size := Nat.lt_of_lt_of_le hs hb.size
      clear hb f0 f1 c0 c1 HB hs
      go_wp2_with fail
      go_roundw
      case rel => exact ⟨i + 1, by omega, by go_num, (HB1.out.setCell (Nat.le_refl _) _).setCell (Nat.le_refl _) _, by simpa using hs1, by simp [g0], by simp [g1], by rw [HS.out]; exact set0 d0, by rw [HS.out]; exact set1 d1⟩
      case measure => simp [intOf]; omega
    · obtain rfl : i = 4 := by omega
      have HG : Hid _ := or_glue _ _ (HF.out 4).1 (HF.out 4).2
      have HP : Hid (unpermN k n = (bwd k 4 (cut n)).1 * 256 + (bwd k 4 (cut n)).2) := rfl
      have h0 := (HF.out 4).1
      have h1 := (HF.out 4).2
      clear HT HF
      generalize bwd k 4 (cut n) = p at *
      go_wp2_with fail
      go_ret
      exact ⟨by rw [HP.out]; exact ret_int HG.out, HB.out⟩

theorem impl_perm (k n : Int) (w : World) : Calls Try.prog 12 #[.int .i64 k, .int .i64 n] w fun e w' => e = .returned (.int .i64 (permI k n)) ∧ Below w.heap.size w w' := by
  have HK : Hid (∀ n W, _) := fun n W => mix.impl_key n W
  cases hk : keyB k with
  | false =>
    have hf : permI k n = -1 := by simp [permI, hk]
    rw [hf]
    go_enter Try.func12, Try.ntmps12
    go_wp2_with (go_at_call 27; refine (HK.out _ _).mono ?_; rintro e w' ⟨rfl, rfl⟩)
    go_ret
    exact ⟨rfl, Below.refl _ _⟩
  | true =>
    cases hn : keyB n with
    | false =>
      have hf : permI k n = -1 := by simp [permI, hn]
      rw [hf]
      go_enter Try.func12, Try.ntmps12
      go_wp2_with (go_at_call 27; refine (HK.out _ _).mono ?_; rintro e w' ⟨rfl, rfl⟩)
      go_ret
      exact ⟨rfl, Below.refl _ _⟩
    | true =>
      obtain ⟨k, hk', rfl⟩ := key_nat k hk
      obtain ⟨n, hn', rfl⟩ := key_nat n hn
      have HF : Hid (permI k n = ((permN k n : Nat) : Int)) := by
        show permI k n = ((permN k n : Nat) : Int)
        rw [permI, hk, hn]; rfl
      have HM : Hid (∀ W, _) := fun W => all_fwd k n hk' hn' W
      go_enter Try.func12, Try.ntmps12
      go_wp2_with (go_at_call 27; refine (HK.out _ _).mono ?_; rintro e w' ⟨rfl, rfl⟩)
      refine Calls.mono (HM.out _) ?_
      rintro e w1 ⟨rfl, hb⟩
      go_wp2
      go_ret
      exact ⟨ret_int HF.out.symm, hb⟩

theorem impl_unperm (k n : Int) (w : World) : Calls Try.prog 14 #[.int .i64 k, .int .i64 n] w fun e w' => e = .returned (.int .i64 (unpermI k n)) ∧ Below w.heap.size w w' := by
  have HK : Hid (∀ n W, _) := fun n W => mix.impl_key n W
  cases hk : keyB k with
  | false =>
    have hf : unpermI k n = -1 := by simp [unpermI, hk]
    rw [hf]
    go_enter Try.func14, Try.ntmps14
    go_wp2_with (go_at_call 27; refine (HK.out _ _).mono ?_; rintro e w' ⟨rfl, rfl⟩)
    go_ret
    exact ⟨rfl, Below.refl _ _⟩
  | true =>
    cases hn : keyB n with
    | false =>
      have hf : unpermI k n = -1 := by simp [unpermI, hn]
      rw [hf]
      go_enter Try.func14, Try.ntmps14
      go_wp2_with (go_at_call 27; refine (HK.out _ _).mono ?_; rintro e w' ⟨rfl, rfl⟩)
      go_ret
      exact ⟨rfl, Below.refl _ _⟩
    | true =>
      obtain ⟨k, hk', rfl⟩ := key_nat k hk
      obtain ⟨n, hn', rfl⟩ := key_nat n hn
      have HF : Hid (unpermI k n = ((unpermN k n : Nat) : Int)) := by
        show unpermI k n = ((unpermN k n : Nat) : Int)
        rw [unpermI, hk, hn]; rfl
      have HM : Hid (∀ W, _) := fun W => all_bwd k n hk' hn' W
      go_enter Try.func14, Try.ntmps14
      go_wp2_with (go_at_call 27; refine (HK.out _ _).mono ?_; rintro e w' ⟨rfl, rfl⟩)
      refine Calls.mono (HM.out _) ?_
      rintro e w1 ⟨rfl, hb⟩
      go_wp2
      go_ret
      exact ⟨ret_int HF.out.symm, hb⟩

end Go.Proofs.Ytmlikahdoaffoaa.perm
