/-
  The program reads a number of at most nine digits: readDigits. No condition but that the text is one that can be.
-/
import Derived.Test.YtacfhchmoiphfaaDoorScrBack2
namespace Go.Proofs.YtacfhchmoiphfaaDoor.scr
open Go.RowKit Go.Deep Go.Sort
open Go.Proofs.YtacfhchmoiphfaaDoor
set_option linter.unusedVariables false
set_option maxRecDepth 100000

/-- what is told of digits -/
def digV (r : Int) : Value := if 0 ≤ r then .tuple #[.int .i64 r, .bool true] else .tuple #[.int .i64 0, .bool false]
theorem empty_yes {s : ByteArray} (h : s.size < 1) : s = ⟨#[]⟩ := by
  obtain ⟨⟨l⟩⟩ := s
  cases l with
  | nil => rfl
  | cons a t => simp [ByteArray.size] at h
theorem empty_no {s : ByteArray} (h : ¬ s.size < 1) : (s.toList == ([] : List UInt8)) = false := by
  rw [beq_eq_false_iff_ne]
  intro e
  rw [ByteArray.toList_eq] at e
  have : s.data.size = 0 := by rw [← Array.length_toList, e]; rfl
  exact h (by show s.data.size < 1; omega)
theorem empty_no2 {s : ByteArray} (h : ¬ s.size < 1) : s.toList.isEmpty = false := by
  have := empty_no h
  cases e : s.toList with
  | nil => rw [e] at this; cases this
  | cons a t => rfl

theorem isd_yes (b : Int) (h0 : 48 ≤ b) (h1 : b ≤ 57) (w : World) : Calls Tryd.prog 79 #[.int .u8 b] w fun e w' => e = .returned (.bool true) ∧ w' = w := by
  go_enter Tryd.func79, Tryd.ntmps79
  go_wp2
  go_ret
  exact ⟨by first | rfl | simp, rfl⟩
theorem isd_low (b : Int) (h0 : b < 48) (w : World) : Calls Tryd.prog 79 #[.int .u8 b] w fun e w' => e = .returned (.bool false) ∧ w' = w := by
  go_enter Tryd.func79, Tryd.ntmps79
  go_wp2
  go_ret
  exact ⟨by first | rfl | simp, rfl⟩
theorem isd_high (b : Int) (h0 : 57 < b) (w : World) : Calls Tryd.prog 79 #[.int .u8 b] w fun e w' => e = .returned (.bool false) ∧ w' = w := by
  go_enter Tryd.func79, Tryd.ntmps79
  go_wp2
  go_ret
  exact ⟨by first | rfl | simp; omega, rfl⟩

set_option maxHeartbeats 4000000 in
theorem impl_dig (s : ByteArray) (hs : s.size ≤ 9223372036854775807) (w : World) : Calls Tryd.prog 70 #[.string s] w fun e w' => e = .returned (digV (numT s)) ∧ w' = w := by
  by_cases h1 : s.size < 1
  · rw [num_off (.inl h1)]
    obtain rfl := empty_yes h1
    show Calls Tryd.prog 70 #[.string ⟨#[]⟩] w fun e w' => e = .returned (.tuple #[.int .i64 0, .bool false]) ∧ w' = w
    go_enter Tryd.func70, Tryd.ntmps70
    go_wp2
    go_ret2
    exact ⟨rfl, rfl⟩
  have hem := empty_no h1
  have hem2 := empty_no2 h1
  by_cases h9 : 9 < s.size
  · rw [num_off (.inr (.inl h9))]
    show Calls Tryd.prog 70 #[.string s] w fun e w' => e = .returned (.tuple #[.int .i64 0, .bool false]) ∧ w' = w
    go_enter Tryd.func70, Tryd.ntmps70
    go_wp2
    go_ret2
    exact ⟨rfl, rfl⟩
  cases ha : ahead0 s with
  | true =>
    rw [num_off (.inr (.inr ha))]
    have hz : 1 < s.size := by
      rcases Nat.lt_or_ge 1 s.size with h | h
      · exact h
      · simp [ahead0, show ¬ 1 < s.size by omega] at ha
    have h0 : 0 < s.size := by omega
    have hg : (((s[0].toNat : Nat) : Int) == 48) = true := by
      have : s[0].toNat = 48 := by simpa [ahead0, hz] using ha
      rw [this]; rfl
    clear ha
    show Calls Tryd.prog 70 #[.string s] w fun e w' => e = .returned (.tuple #[.int .i64 0, .bool false]) ∧ w' = w
    go_enter Tryd.func70, Tryd.ntmps70
    go_wp2
    go_ret2
    exact ⟨rfl, rfl⟩
  | false =>
    have HN : Hid (numT s = match digTo s s.size with | some n => (n : Int) | none => -1) := num_on h1 h9 ha
    have h0 : 0 < s.size := by omega
    obtain ⟨R, hR⟩ : ∃ R, R = numT s := ⟨_, rfl⟩
    rw [← hR] at HN ⊢
    clear hR
    obtain ⟨V, hV⟩ : ∃ V, V = digV R := ⟨_, rfl⟩
    have HV : Hid (V = digV R) := hV
    rw [← hV]
    clear hV
    have hfst : s.size ≤ 1 ∨ (1 < s.size ∧ (((s[0].toNat : Nat) : Int) == 48) = false) := by
      rcases Nat.lt_or_ge 1 s.size with h | h
      · right
        refine ⟨h, ?_⟩
        have : ¬ s[0].toNat = 48 := by simpa [ahead0, h] using ha
        simp only [beq_eq_false_iff_ne, ne_eq]; omega
      · exact .inl h
    clear ha
    rcases hfst with hf | ⟨hf, hg⟩
    all_goals (
      go_enter Tryd.func70, Tryd.ntmps70
      go_wp2
      go_loop [4, 5] (fun tn ti => ∃ j n : Nat, j ≤ s.size ∧ ti = .int .i64 j ∧ tn = .int .i64 n ∧ Hid (n < 10 ^ j) ∧ n < 1000000000 ∧ Hid (digTo s j = some n)) (fun _ ti => s.size - (intOf ti).toNat)
      case atStart => exact ⟨0, 0, by omega, rfl, rfl, by simp [Hid], by omega, rfl⟩
      case round =>
        obtain ⟨j, n, hj, rfl, rfl, HP, hn, HD⟩ := hrel
        by_cases hlt : j < s.size
        · have hst := dig_step hlt HD.out
          have hb := s[j].toNat_lt
          by_cases hd : 48 ≤ s[j].toNat ∧ s[j].toNat ≤ 57
          · rw [if_pos hd] at hst
            have HS : Hid _ := hst
            have HP2 : Hid (10 * n + (s[j].toNat - 48) < 10 ^ (j + 1)) := by
              have := HP.out
              show _ < _
              rw [Nat.pow_succ]; omega
            have hp9 : 10 * n + (s[j].toNat - 48) < 1000000000 := Nat.lt_of_lt_of_le HP2.out (Nat.le_trans (Nat.pow_le_pow_right (by omega) (show j + 1 ≤ 9 by omega)) (by decide))
            obtain ⟨ha, hb2⟩ := hd
            have HI : Hid _ := isd_yes ((s[j].toNat : Nat) : Int) (by omega) (by omega) w
            clear hst
            go_wp2_with fail
            refine Calls.mono HI.out ?_
            rintro e w1 ⟨rfl, rfl⟩
            go_wp2_with fail
            go_round
            case rel => exact ⟨j + 1, _, by omega, by go_num, by rw [Value.int.injEq]; exact ⟨rfl, by omega⟩, HP2.out, hp9, HS.out⟩
            case measure => simp [intOf]; omega
          · rw [if_neg hd] at hst
            have HX : Hid (V = .tuple #[.int .i64 0, .bool false]) := by
              have h1 := dig_none hst (s.size - (j + 1))
              rw [show j + 1 + (s.size - (j + 1)) = s.size by omega] at h1
              show _ = _
              rw [HV.out, HN.out, h1]; rfl
            clear hst
            rcases Nat.lt_or_ge s[j].toNat 48 with hc | hc
            · have HI : Hid _ := isd_low ((s[j].toNat : Nat) : Int) (by omega) w
              go_wp2_with fail
              refine Calls.mono HI.out ?_
              rintro e w1 ⟨rfl, rfl⟩
              go_wp2_with fail
              go_ret2
              exact ⟨ret_of HX.out, rfl⟩
            · have hc2 : 57 < s[j].toNat := by omega
              have HI : Hid _ := isd_high ((s[j].toNat : Nat) : Int) (by omega) w
              go_wp2_with fail
              refine Calls.mono HI.out ?_
              rintro e w1 ⟨rfl, rfl⟩
              go_wp2_with fail
              go_ret2
              exact ⟨ret_of HX.out, rfl⟩
        · obtain rfl : j = s.size := by omega
          have HX : Hid (V = .tuple #[.int .i64 n, .bool true]) := by
            have h1 := HN.out
            rw [HD.out] at h1
            show _ = _
            rw [HV.out, h1, digV, if_pos (by simp)]
          clear HD HN HP HV
          go_wp2
          go_ret2
          exact ⟨ret_of HX.out, rfl⟩)
end Go.Proofs.YtacfhchmoiphfaaDoor.scr
