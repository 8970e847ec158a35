/-
  The walks of LabelText, the specification's and the program's, at every number. No condition.
-/
import Derived.Test.YtacfhchmoiphfaaDoorLabel
import Derived.Deep.OwnRows
import Derived.Laws.CopyOwn
namespace Go.Proofs.YtacfhchmoiphfaaDoor.ltext
open Go.RowKit Go.Deep
open Go.Proofs.YtacfhchmoiphfaaDoor

/-- the letters of the lowest k bits of a label -/
def letters (n : Nat) : Nat → List Int
  | 0 => []
  | k + 1 => if n.testBit k then letters n k ++ [97 + (k : Int)] else letters n k
/-- the text of a label below 16 -/
def textN (n : Nat) : ByteArray := if n = 0 then ⟨#[45]⟩ else strOfNums (letters n 4)
def textS (l : Int) : ByteArray := if label.rightB l then textN l.toNat else ⟨#[]⟩

theorem ret_str {a b : ByteArray} (h : b = a) : Ending.returned (.string a) = .returned (.string b) := by rw [h]
theorem size_all : ∀ n : Nat, n < 16 → ∀ k : Nat, k < 5 → (strOfNums (letters n k)).size ≤ k := by decide +kernel
theorem isEmpty_all : ∀ n : Nat, n < 16 → (strOfNums (letters n 4)).toList.isEmpty = decide (n = 0) := by decide +kernel
def abcd (k : Nat) : ByteArray := (ByteArray.mk #[97, 98, 99, 100]).extract k (k + 1)
theorem abcd_size : ∀ k : Nat, k < 4 → (abcd k).size = 1 := by decide +kernel
theorem bit_all : ∀ n : Nat, n < 16 → ∀ k : Nat, k < 4 → (bits .and .i64 ((n : Int) / 2 ^ k) 1 == 1) = n.testBit k := by decide +kernel
theorem add_all : ∀ n : Nat, n < 16 → ∀ k : Nat, k < 4 → n.testBit k = true → (strOfNums (letters n k) ++ abcd k).data = (strOfNums (letters n (k + 1))).data := by decide +kernel
theorem add_of {n k : Nat} {s : ByteArray} (hn : n < 16) (hk : k < 4) (h : n.testBit k = true) (H : s = strOfNums (letters n k)) : s ++ abcd k = strOfNums (letters n (k + 1)) := by
  subst H; exact ByteArray.ext (add_all n hn k hk h)
theorem same_of {n k : Nat} {s : ByteArray} (h : n.testBit k = false) (H : s = strOfNums (letters n k)) : s = strOfNums (letters n (k + 1)) := by
  subst H; simp [letters, h]
theorem cut_abcd (k : Nat) (hk : k < 4) (W : World) : (Instr.slice 9 (.string ⟨#[97, 98, 99, 100]⟩) (some (.int .i64 (k : Int))) (some (.int .i64 ((k : Int) + 1))) none).run Tryd.prog W = .ok (.string (abcd k)) W := by
  have hz : (ByteArray.mk #[97, 98, 99, 100]).size = 4 := rfl
  rw [run_slice_string (P := Tryd.prog) W 9 _ .i64 .i64 k (k + 1) Tryd.underlying9 (by omega) (by omega) (by rw [hz]; omega)]
  rfl

set_option maxHeartbeats 1000000 in
theorem spec_some (n : Nat) (hn : n < 16) (w : World) : Calls Tryd.prog 33 #[.int .i64 n] w fun e w' => e = .returned (.string (textN n)) ∧ w' = w := by
  have hr := fun W => label.spec_right n W
  rw [label.rightB_of n (by omega) (by omega)] at hr
  have HR : Hid _ := hr
  have he := isEmpty_all n hn
  have HE : Hid _ := he
  clear hr he
  go_enter Tryd.func33, Tryd.ntmps33
  go_wp2_with (go_at_call 54; refine (HR.out _).mono ?_; rintro e w1 ⟨rfl, rfl⟩)
  go_loop [3, 4] (fun t i => ∃ (k : Nat) (s : ByteArray), k ≤ 4 ∧ i = .int .i64 k ∧ t = .string s ∧ s.size ≤ k ∧ Hid (s = strOfNums (letters n k))) (fun _ i => 4 - (intOf i).toNat)
  case atStart => exact ⟨0, _, Nat.zero_le _, rfl, rfl, by decide, rfl⟩
  case round =>
    obtain ⟨k, s, hk, rfl, rfl, hz, H⟩ := hrel
    by_cases hlt : k < 4
    · have hb := bit_all n hn k hlt
      have hc := cut_abcd k hlt
      have hz1 := abcd_size k hlt
      cases ht : n.testBit k with
      | true =>
        rw [ht] at hb
        have H2 : Hid _ := add_of hn hlt ht H.out
        have HT : Hid _ := ht
        clear ht
        go_wp2
        go_round
        case rel => exact ⟨k + 1, _, by omega, by go_num, rfl, by simp; omega, H2⟩
        case measure => simp [intOf]; omega
      | false =>
        rw [ht] at hb
        have H2 : Hid _ := same_of ht H.out
        clear ht
        go_wp2
        go_round
        case rel => exact ⟨k + 1, _, by omega, by go_num, rfl, by omega, H2⟩
        case measure => simp [intOf]; omega
    · obtain rfl : k = 4 := by omega
      have h4 := H.out
      by_cases h0 : n = 0
      · have he : s.toList.isEmpty = true := by rw [h4, HE.out]; simp [h0]
        have HX : Hid (textN n = ⟨#[45]⟩) := by simp [Hid, textN, h0]
        clear h4 h0
        go_wp2
        go_ret
        exact ⟨ret_str HX.out, rfl⟩
      · have he : s.toList.isEmpty = false := by rw [h4, HE.out]; simp [h0]
        have HX : Hid (textN n = s) := by simp [Hid, textN, h0, h4]
        clear h4 h0
        go_wp2
        go_ret
        exact ⟨ret_str HX.out, rfl⟩

theorem spec_text (l : Int) (w : World) : Calls Tryd.prog 33 #[.int .i64 l] w fun e w' => e = .returned (.string (textS l)) ∧ w' = w := by
  cases h : label.rightB l with
  | true =>
    have e : textS l = textN l.toNat := by simp [textS, h]
    have hy := label.right_yes l h
    have := spec_some l.toNat (by omega) w
    rw [show ((l.toNat : Nat) : Int) = l by omega] at this
    rw [e]; exact this
  | false =>
    have e : textS l = ⟨#[]⟩ := by simp [textS, h]
    have hr := fun W => label.spec_right l W
    rw [h] at hr
    have HR : Hid _ := hr
    rw [e]
    clear hr h e
    go_enter Tryd.func33, Tryd.ntmps33
    go_wp2_with (go_at_call 54; refine (HR.out _).mono ?_; rintro e w1 ⟨rfl, rfl⟩)
    go_ret
    exact ⟨rfl, rfl⟩

theorem info5 : (Tryd.prog.info? 5).map (fun i => (i.zero, i.size, i.bytes)) = some (some (.int .u8 0), 1, 1) := by kernel_rfl
/-- a row of bytes that is owned, as a text -/
theorem conv_own {w : World} {base n : Nat} {v : Value} {xs : List Int} (h : w.ownsRow base 5 1 v n (xs.map (Value.int .u8))) :
    (convert 22 9 v).run Tryd.prog w = .ok (.string (strOfNums xs)) w := by
  have hl : xs.length = n := by have := h.1; simpa using this
  rcases h.2 with ⟨rfl, h0⟩ | ⟨g, cap, cur, rfl, _, _, _⟩
  · have e : xs = [] := List.eq_nil_of_length_eq_zero (by omega)
    subst e
    exact run_convert_bytes_nil (P := Tryd.prog) w 22 5 Tryd.underlying22 Tryd.underlying5 0 0 9 Tryd.underlying9
  · refine run_convert_bytes_arg (P := Tryd.prog) w 22 5 Tryd.underlying22 Tryd.underlying5 g 0 n cap xs hl (fun i hi => ?_) 9 Tryd.underlying9
    have := h.cellAt i (by omega)
    rw [Nat.zero_add, this, List.getElem?_map]
    have hi' : i < xs.length := by omega
    simp [List.getD, List.getElem?_eq_getElem hi']
theorem map_snoc (acc : List Int) (x : Int) : acc.map (Value.int .u8) ++ [Value.int .u8 x] = (acc ++ [x]).map (Value.int .u8) := by simp
theorem bit8_all : ∀ n : Nat, n < 16 → ∀ k : Nat, k < 4 → (bits .and .u8 ((n / 2 ^ k : Nat) : Int) 1 == 1) = n.testBit k := by decide +kernel
theorem ends_all : ∀ n : Nat, n < 16 → ∀ k : Nat, k < 5 → n / 2 ^ k = 0 → letters n k = letters n 4 := by decide +kernel
theorem len_all : ∀ n : Nat, n < 16 → ∀ k : Nat, k < 5 → (letters n k).length ≤ 4 := by decide +kernel
theorem zero_at : ∀ n : Nat, n < 16 → ∀ k : Nat, k < 5 → n / 2 ^ k ≠ 0 → k < 4 := by decide +kernel
theorem half (n k : Nat) : n / 2 ^ (k + 1) = n / 2 ^ k / 2 := by rw [Nat.pow_succ, Nat.div_div_eq_div_mul]

set_option maxHeartbeats 1000000 in
set_option maxRecDepth 100000 in
theorem impl_text0 (n : Nat) (hn : n < 16) (w : World) : Calls Tryd.prog 61 #[.int .u8 n] w fun e w' => e = .returned (.string (textN n)) ∧ Below w.heap.size w w' := by
  by_cases h0 : n = 0
  · subst h0
    go_enter Tryd.func61, Tryd.ntmps61
    go_wp2
    go_ret
    exact ⟨rfl, Below.refl _ _⟩
  have HX : Hid (textN n = strOfNums (letters n 4)) := by simp [Hid, textN, h0]
  have hz : ((n : Int) == 0) = false := by simp [h0]
  obtain ⟨i0, hi, hz0, hz1, hz2⟩ := info_parts info5
  go_enter Tryd.func61, Tryd.ntmps61
  go_wp2
  go_loopw [0, 3, 4] (fun tl tb tk wr => ∃ (k m c : Nat), tl = .int .u8 m ∧ tk = .int .u8 c ∧ m < 16 ∧ c < 102 ∧ Hid (m = n / 2 ^ k) ∧ Hid (c = 97 + k) ∧ k ≤ 4 ∧ wr.ownsRow w.heap.size 5 1 tb (letters n k).length ((letters n k).map (Value.int .u8)) ∧ Below w.heap.size w wr) (fun tl _ _ _ => (intOf tl).toNat)
  case atStart => exact ⟨0, n, 97, rfl, rfl, hn, by omega, by simp [Hid], rfl, by omega, World.ownsRow_nil _ _ _ _, Below.refl _ _⟩
  case round =>
    obtain ⟨k, m, c, rfl, rfl, hm, hc, HM, HC, hk, hown, hbel⟩ := hrel
    have hll := len_all n hn k (by omega)
    by_cases hm0 : m = 0
    · have H2 : letters n k = letters n 4 := ends_all n hn k (by omega) (by rw [← HM.out]; exact hm0)
      have hcv := conv_own hown
      rw [H2] at hcv
      have hm1 : ((m : Int) != 0) = false := by simp [hm0]
      clear H2 hown hm0 hll HM HC
      go_wp2
      go_ret
      exact ⟨ret_str HX.out, hbel⟩
    · have hm1 : ((m : Int) != 0) = true := by simp [hm0]
      have hk4 : k < 4 := zero_at n hn k (by omega) (by rw [← HM.out]; exact hm0)
      have hb8 := bit8_all n hn k hk4
      rw [← HM.out] at hb8
      have HM2 : Hid (m / 2 = n / 2 ^ (k + 1)) := by rw [half, ← HM.out]; exact rfl
      have HC2 : Hid (c + 1 = 97 + (k + 1)) := by have := HC.out; show c + 1 = _; omega
      have hc1 : (c : Int) + 1 ≤ 255 := by omega
      have hbs := hbel.size
      have hmp : 0 < m := by omega
      cases ht : n.testBit k with
      | true =>
        rw [ht] at hb8
        have HL : Hid (letters n k ++ [(c : Int)] = letters n (k + 1)) := by
          have : (c : Int) = 97 + (k : Int) := by have := HC.out; omega
          show _ = _
          rw [letters, if_pos ht, this]
        have HC3 : Hid _ := HC2
        clear ht HM HC hm0 HX
        go_wp2_with (at_builtin; refine wpList_append_own _ rfl _ _ 22 rfl w.heap.size 5 i0 (.int .u8 0) 1 1 Tryd.underlying22 hi hz0 hz1 hz2 rfl (by decide) _ _ _ rfl (hown.alloc _) ⟨wr.heap.size, 0, none⟩ 1 1 [.int .u8 (c : Int)] rfl rfl ?c1 ?c2 ?c3 ?c4 ?c5 ?_)
        case c1 =>
          intro j x hj
          match j, hj with
          | 0, hj => simp at hj; subst hj; simp [Addr.add]
        case c2 => intro x hx; simp at hx; subst hx; rfl
        case c3 => unfold maxLen; omega
        case c4 => omega
        case c5 => simp; omega
        intro v' w1 hown' hgrow _
        have e : (letters n k).length + 1 = (letters n (k + 1)).length := by rw [← HL.out]; simp
        rw [map_snoc, HL.out, e] at hown'
        have hb2 : Below w.heap.size w w1 := (hbel.alloc hbs _).grown hgrow (by simp; omega) (fun g hg => (hown.lt g hg).1)
        clear hgrow hbel hown e
        go_wp2
        go_roundw
        case rel => exact ⟨k + 1, m / 2, c + 1, by go_num, by go_num, by omega, by have := HC3.out; omega, HM2, HC3, by omega, hown', hb2⟩
        case measure => simp [intOf]; omega
      | false =>
        rw [ht] at hb8
        have HL : Hid (letters n k = letters n (k + 1)) := by
          show _ = _
          rw [letters, ht]; rfl
        have HC3 : Hid _ := HC2
        rw [HL.out] at hown
        have HO : Hid _ := hown
        clear ht HM HC hm0 HX hown
        go_wp2
        go_roundw
        case rel => exact ⟨k + 1, m / 2, c + 1, by go_num, by go_num, by omega, by have := HC3.out; omega, HM2, HC3, by omega, HO.out, hbel⟩
        case measure => simp [intOf]; omega

theorem impl_text (l : Int) (w : World) : Calls Tryd.prog 42 #[.int .i64 l] w fun e w' => e = .returned (.string (textS l)) ∧ Below w.heap.size w w' := by
  cases h : label.rightB l with
  | true =>
    have hr := fun W => label.impl_right l W
    rw [h] at hr
    have hy := label.right_yes l h
    obtain ⟨n, hn, rfl⟩ := label.nat_of l hy.1 hy.2
    have e : textS n = textN n := by simp [textS, h]
    have ht := fun W => impl_text0 n hn W
    rw [e]
    generalize textN n = x at ht ⊢
    have HR : Hid _ := hr
    have HT : Hid _ := ht
    clear hr h e ht hy
    go_enter Tryd.func42, Tryd.ntmps42
    go_wp2_with (first | (go_at_call 46; refine (HR.out _).mono ?_; rintro e w1 ⟨rfl, rfl⟩) | (go_at_call 61; refine (HT.out _).mono ?_; rintro e w2 ⟨rfl, hb⟩))
    go_ret
    exact ⟨rfl, hb⟩
  | false =>
    have e : textS l = ⟨#[]⟩ := by simp [textS, h]
    have hr := fun W => label.impl_right l W
    rw [h] at hr
    have HR : Hid _ := hr
    rw [e]
    clear hr h e
    go_enter Tryd.func42, Tryd.ntmps42
    go_wp2_with (go_at_call 46; refine (HR.out _).mono ?_; rintro e w1 ⟨rfl, rfl⟩)
    go_ret
    exact ⟨rfl, Below.refl _ _⟩
end Go.Proofs.YtacfhchmoiphfaaDoor.ltext
