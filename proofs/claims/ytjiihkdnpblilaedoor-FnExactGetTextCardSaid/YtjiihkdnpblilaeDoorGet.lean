/-
  The walk of the specification's GetNum: what the bytes tell.
-/
import Derived.Test.YtjiihkdnpblilaeDoorRows
import Derived.Test.YtjiihkdnpblilaeDoorDec
import Derived.WalkKit
import Derived.ProofKit
import Derived.WalkLawsBesides
namespace Go.Proofs.YtjiihkdnpblilaeDoor.get
open Go.RowKit
open Go.Proofs.YtjiihkdnpblilaeDoor

/-- what GetNum tells of a text that is not too long, at a place that is not below 0 -/
def told (R : Nat × Nat × Int) : Value := .agg #[.int .i64 (dec.unN R.1), .int .i64 (R.2.1 : Int), .int .i64 R.2.2]

theorem spec_size (s : ByteArray) (p : Int) (w : World) (hs : s.size ≤ maxLen) (h : 8000 < s.size) :
    Calls Tryd.prog 7 #[.string s, .int .i64 p] w fun e w' => e = .returned (.agg #[.int .i64 0, .int .i64 0, .int .i64 2]) ∧ Below w.heap.size w w' := by
  unfold maxLen at hs
  go_enter Tryd.func7, Tryd.ntmps7
  go_wp2
  exact bodyPost_ret (v := .agg #[.int .i64 0, .int .i64 0, .int .i64 2]) (by simp [results, Tryd.results7, go_sem]) rfl ⟨rfl, (Below.refl _ _).alloc (Nat.le_refl _) _⟩
theorem spec_form (s : ByteArray) (p : Int) (w : World) (h : s.size ≤ 8000) (hp : p < 0) :
    Calls Tryd.prog 7 #[.string s, .int .i64 p] w fun e w' => e = .returned (.agg #[.int .i64 0, .int .i64 0, .int .i64 1]) ∧ Below w.heap.size w w' := by
  go_enter Tryd.func7, Tryd.ntmps7
  go_wp2
  exact bodyPost_ret (v := .agg #[.int .i64 0, .int .i64 0, .int .i64 1]) (by simp [results, Tryd.results7, go_sem]) rfl ⟨rfl, (Below.refl _ _).alloc (Nat.le_refl _) _⟩

set_option maxRecDepth 100000 in
set_option maxHeartbeats 2000000 in
theorem spec_num (s : ByteArray) (p0 : Nat) (w : World) (hs : s.size ≤ 8000) (hp : (p0 : Int) ≤ 9223372036854775807) :
    Calls Tryd.prog 7 #[.string s, .int .i64 p0] w fun e w' => e = .returned (told (dec.decN 10 s p0 0 0)) ∧ Below w.heap.size w w' := by
  have H0 := dec.at0 s p0
  generalize dec.decN 10 s p0 0 0 = R at H0 ⊢
  have HH : Hid _ := H0
  clear H0
  go_enter Tryd.func7, Tryd.ntmps7
  go_wp2
  go_loop [5, 6] (fun tu ti => ∃ k u : Nat, ti = .int .i64 k ∧ tu = .int .u64 u ∧ k ≤ 9 ∧ (u : Int) ≤ 9223372036854775807 ∧ Hid (dec.At R s (p0 + k) k u)) (fun _ i => 10 - (intOf i).toNat)
  case atStart => exact ⟨0, 0, rfl, rfl, by omega, by omega, HH.out⟩
  case round =>
    clear HH
    obtain ⟨k, u, rfl, rfl, hk, hu, H⟩ := hrel
    by_cases hlt : p0 + k < s.size
    · have hx : (s[p0 + k].toNat : Int) ≤ 255 := by have := s[p0 + k].toNat_lt; omega
      by_cases hbig : k = 9 ∧ 1 < s[p0 + k].toNat
      · have HR : Hid (R = (0, 0, 3)) := dec.at_big H.out hlt hbig.1 hbig.2
        have e9 : ((k : Int) == 9) = true := by simp; omega
        have h1 : (1 : Int) < (s[p0 + k].toNat : Int) := by omega
        clear H hbig
        go_wp2
        exact bodyPost_ret (v := told R) (by rw [HR.out]; simp [told, dec.un_zero, results, Tryd.results7, go_sem]) rfl ⟨rfl, (Below.refl _ _).alloc (Nat.le_refl _) _⟩
      obtain ⟨v, hv⟩ : ∃ v, v = u + s[p0 + k].toNat % 128 * 2 ^ (7 * k) := ⟨_, rfl⟩
      have hc9 : k = 9 → s[p0 + k].toNat ≤ 1 := by omega
      have hX := dec.sum_of k s[p0 + k].toNat u hk hc9 H.out.room
      have hvl := dec.new_lt k (s[p0 + k].toNat % 128) u hk (by omega) (fun e => by have := hc9 e; omega) H.out.room
      rw [← hv] at hX hvl
      have hv2 : (v : Int) ≤ 18446744073709551615 := by omega
      clear hvl
      have e9 : (k < 9 ∧ ((k : Int) == 9) = false) ∨ (((k : Int) == 9) = true ∧ (s[p0 + k].toNat : Int) ≤ 1) := by
        by_cases e : k = 9
        · right; exact ⟨by simp; omega, by have := hc9 e; omega⟩
        · left; exact ⟨by omega, by simp; omega⟩
      by_cases h128 : (128 : Int) ≤ (s[p0 + k].toNat : Int)
      · obtain ⟨h9, e9'⟩ : k < 9 ∧ ((k : Int) == 9) = false := by
          rcases e9 with e | ⟨_, e⟩
          · exact e
          · omega
        have H2 : Hid (dec.At R s (p0 + (k + 1)) (k + 1) v) := by rw [hv]; exact dec.at_more H.out hlt h9 (by omega)
        have hv3 : (v : Int) ≤ 9223372036854775807 := by
          have h1 := H2.out.room
          have h2 : (2 : Nat) ^ (7 * (k + 1)) ≤ 2 ^ 63 := Nat.pow_le_pow_right (by omega) (by omega)
          have e63 : (2 : Nat) ^ 63 = 9223372036854775808 := by decide
          omega
        clear H hv hbig hc9 e9
        go_wp2
        go_round
        case rel => exact ⟨k + 1, v, by go_num, rfl, by omega, hv3, H2⟩
        case measure => simp [intOf]; omega
      by_cases hz : s[p0 + k].toNat = 0 ∧ 0 < k
      · have HR : Hid (R = (0, 0, 3)) := dec.at_zero H.out hlt hz.2 hz.1
        have e0 : ((s[p0 + k].toNat : Int) == 0) = true := by simp; omega
        have hk0 : 0 < k := hz.2
        clear H hv hbig hc9 hz
        rcases e9 with ⟨h9, e9⟩ | ⟨e9, h9⟩
        all_goals
          go_wp2
          exact bodyPost_ret (v := told R) (by rw [HR.out]; simp [told, dec.un_zero, results, Tryd.results7, go_sem]) rfl ⟨rfl, (Below.refl _ _).alloc (Nat.le_refl _) _⟩
      · have HR : Hid (R = (v, p0 + k + 1, 0)) := by
          rw [dec.at_last H.out hlt hc9 (by omega) (by omega), hv, Nat.mod_eq_of_lt (by omega : s[p0 + k].toNat < 128)]; exact rfl
        have e0 : (((s[p0 + k].toNat : Int) == 0) = false) ∨ (((s[p0 + k].toNat : Int) == 0) = true ∧ k < 1) := by
          by_cases e : s[p0 + k].toNat = 0
          · right; exact ⟨by simp; omega, by omega⟩
          · left; simp; omega
        clear H hv hbig hc9 hz
        by_cases ho : v % 2 = 1
        · have HU : Hid (dec.unN v = -((v : Int) / 2) - 1) := dec.un_odd v ho
          have eo : ((v : Int) % 2 == 1) = true := by simp; omega
          clear ho
          rcases e9 with ⟨h9, e9⟩ | ⟨e9, h9⟩
          all_goals rcases e0 with e0 | ⟨e0, hk0⟩
          all_goals
            go_wp2
            exact bodyPost_ret (v := told R) (by rw [HR.out]; simp [told, HU.out, results, Tryd.results7, go_sem]) rfl ⟨rfl, (Below.refl _ _).alloc (Nat.le_refl _) _⟩
        · have HU : Hid (dec.unN v = (v : Int) / 2) := dec.un_even v ho
          have eo : ((v : Int) % 2 == 1) = false := by simp; omega
          clear ho
          rcases e9 with ⟨h9, e9⟩ | ⟨e9, h9⟩
          all_goals rcases e0 with e0 | ⟨e0, hk0⟩
          all_goals
            go_wp2
            exact bodyPost_ret (v := told R) (by rw [HR.out]; simp [told, HU.out, results, Tryd.results7, go_sem]) rfl ⟨rfl, (Below.refl _ _).alloc (Nat.le_refl _) _⟩
    · have HR : Hid (R = (0, 0, 4)) := dec.at_short H.out hlt
      clear H
      go_wp2
      exact bodyPost_ret (v := told R) (by rw [HR.out]; simp [told, dec.un_zero, results, Tryd.results7, go_sem]) rfl ⟨rfl, (Below.refl _ _).alloc (Nat.le_refl _) _⟩
end Go.Proofs.YtjiihkdnpblilaeDoor.get
