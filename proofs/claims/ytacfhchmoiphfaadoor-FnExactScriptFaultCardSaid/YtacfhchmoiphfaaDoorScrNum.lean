/-
  A number of at most nine digits is read: the specification's l12Num. No condition but that the text is one that can be.
-/
import Derived.Test.YtacfhchmoiphfaaDoorScrSplit
namespace Go.Proofs.YtacfhchmoiphfaaDoor.scr
open Go.RowKit Go.Deep Go.Sort
open Go.Proofs.YtacfhchmoiphfaaDoor
set_option linter.unusedVariables false
set_option maxRecDepth 100000

/-- the number of the first signs, if all are digits -/
def digTo (s : ByteArray) : Nat → Option Nat
  | 0 => some 0
  | j + 1 => if h : j < s.size then (match digTo s j with
      | none => none
      | some n => if 48 ≤ s[j].toNat ∧ s[j].toNat ≤ 57 then some (10 * n + (s[j].toNat - 48)) else none) else digTo s j
/-- does a nought stand ahead that is not wanted -/
def ahead0 (s : ByteArray) : Bool := if h : 1 < s.size then s[0].toNat == 48 else false
def numT (s : ByteArray) : Int := if s.size < 1 ∨ 9 < s.size ∨ ahead0 s = true then -1 else match digTo s s.size with | some n => (n : Int) | none => -1
theorem dig_step {s : ByteArray} {j n : Nat} (h : j < s.size) (hn : digTo s j = some n) : digTo s (j + 1) = if 48 ≤ s[j].toNat ∧ s[j].toNat ≤ 57 then some (10 * n + (s[j].toNat - 48)) else none := by
  rw [digTo, dif_pos h, hn]
theorem dig_none {s : ByteArray} {j : Nat} (h : digTo s j = none) : ∀ d, digTo s (j + d) = none
  | 0 => h
  | d + 1 => by
    rw [show j + (d + 1) = (j + d) + 1 by omega, digTo]
    have := dig_none h d
    split
    · rw [this]
    · exact this
theorem num_off {s : ByteArray} (h : s.size < 1 ∨ 9 < s.size ∨ ahead0 s = true) : numT s = -1 := by rw [numT, if_pos h]
theorem num_on {s : ByteArray} (h0 : ¬ s.size < 1) (h1 : ¬ 9 < s.size) (h2 : ahead0 s = false) : numT s = match digTo s s.size with | some n => (n : Int) | none => -1 := by
  rw [numT, if_neg (by rw [h2]; simp only [Bool.false_eq_true, or_false]; omega)]
theorem num_val {s : ByteArray} {n : Nat} {r : Int} (h : digTo s s.size = some n) (e : r = match digTo s s.size with | some n => (n : Int) | none => -1) : Value.int .i64 r = .int .i64 n := by rw [e, h]
theorem num_no {s : ByteArray} {r : Int} (h : digTo s s.size = none) (e : r = match digTo s s.size with | some n => (n : Int) | none => -1) : Value.int .i64 r = .int .i64 (-1) := by rw [e, h]

set_option maxHeartbeats 4000000 in
theorem spec_num (s : ByteArray) (hs : s.size ≤ 9223372036854775807) (w : World) : Calls Tryd.prog 58 #[.string s] w fun e w' => e = .returned (.int .i64 (numT s)) ∧ w' = w := by
  by_cases h1 : s.size < 1
  · rw [num_off (.inl h1)]
    go_enter Tryd.func58, Tryd.ntmps58
    go_wp2
    go_ret
    exact ⟨rfl, rfl⟩
  by_cases h9 : 9 < s.size
  · rw [num_off (.inr (.inl h9))]
    go_enter Tryd.func58, Tryd.ntmps58
    go_wp2
    go_ret
    exact ⟨rfl, rfl⟩
  cases ha : ahead0 s with
  | true =>
    rw [num_off (.inr (.inr ha))]
    have hz : 1 < s.size := by
      rcases Nat.lt_or_ge 1 s.size with h | h
      · exact h
      · simp [ahead0, show ¬ 1 < s.size by omega] at ha
    have h0 : 0 < s.size := by omega
    have hg : (((s[0].toNat : Nat) : Int) == 48) = true := by
      have : s[0].toNat = 48 := by simpa [ahead0, hz] using ha
      rw [this]; rfl
    clear ha
    go_enter Tryd.func58, Tryd.ntmps58
    go_wp2
    go_ret
    exact ⟨rfl, rfl⟩
  | false =>
    have HN : Hid (numT s = match digTo s s.size with | some n => (n : Int) | none => -1) := num_on h1 h9 ha
    have h0 : 0 < s.size := by omega
    obtain ⟨R, hR⟩ : ∃ R, R = numT s := ⟨_, rfl⟩
    rw [← hR] at HN ⊢
    clear hR
    have hfst : s.size ≤ 1 ∨ (1 < s.size ∧ (((s[0].toNat : Nat) : Int) == 48) = false) := by
      rcases Nat.lt_or_ge 1 s.size with h | h
      · right
        refine ⟨h, ?_⟩
        have : ¬ s[0].toNat = 48 := by simpa [ahead0, h] using ha
        simp only [beq_eq_false_iff_ne, ne_eq]; omega
      · exact .inl h
    clear ha
    rcases hfst with hf | ⟨hf, hg⟩
    all_goals (
      go_enter Tryd.func58, Tryd.ntmps58
      go_wp2
      go_loop [3, 4] (fun tn ti => ∃ j n : Nat, j ≤ s.size ∧ ti = .int .i64 j ∧ tn = .int .i64 n ∧ Hid (n < 10 ^ j) ∧ n < 1000000000 ∧ Hid (digTo s j = some n)) (fun _ ti => s.size - (intOf ti).toNat)
      case atStart => exact ⟨0, 0, by omega, rfl, rfl, by simp [Hid], by omega, rfl⟩
      case round =>
        obtain ⟨j, n, hj, rfl, rfl, HP, hn, HD⟩ := hrel
        by_cases hlt : j < s.size
        · have hst := dig_step hlt HD.out
          have hb := s[j].toNat_lt
          by_cases hd : 48 ≤ s[j].toNat ∧ s[j].toNat ≤ 57
          · rw [if_pos hd] at hst
            have HS : Hid _ := hst
            have HP2 : Hid (10 * n + (s[j].toNat - 48) < 10 ^ (j + 1)) := by
              have := HP.out
              show _ < _
              rw [Nat.pow_succ]; omega
            have hp9 : 10 * n + (s[j].toNat - 48) < 1000000000 := Nat.lt_of_lt_of_le HP2.out (Nat.le_trans (Nat.pow_le_pow_right (by omega) (show j + 1 ≤ 9 by omega)) (by decide))
            obtain ⟨ha, hb2⟩ := hd
            clear hst
            go_wp2
            go_round
            case rel => exact ⟨j + 1, _, by omega, by go_num, by rw [Value.int.injEq]; exact ⟨rfl, by omega⟩, HP2.out, hp9, HS.out⟩
            case measure => simp [intOf]; omega
          · rw [if_neg hd] at hst
            have HX : Hid (Value.int .i64 R = .int .i64 (-1)) := by
              have h1 := dig_none hst (s.size - (j + 1))
              rw [show j + 1 + (s.size - (j + 1)) = s.size by omega] at h1
              exact num_no h1 HN.out
            clear hst
            rcases Nat.lt_or_ge s[j].toNat 48 with hc | hc
            · go_wp2
              go_ret
              exact ⟨ret_of HX.out, rfl⟩
            · have hc2 : 57 < s[j].toNat := by omega
              go_wp2
              go_ret
              exact ⟨ret_of HX.out, rfl⟩
        · obtain rfl : j = s.size := by omega
          have HX : Hid (Value.int .i64 R = .int .i64 n) := num_val HD.out HN.out
          clear HD HN HP
          go_wp2
          go_ret
          exact ⟨ret_of HX.out, rfl⟩)
end Go.Proofs.YtacfhchmoiphfaaDoor.scr
