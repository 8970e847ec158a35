/-
  The walks of LabelRead, the specification's and the program's, at every text. No condition but that the text is one that can be read.
-/
import Derived.Test.YtacfhchmoiphfaaDoorLabelText
import Derived.Lib.LazyBuf
namespace Go.Proofs.YtacfhchmoiphfaaDoor.lread
open Go.RowKit Go.Deep
open Go.Proofs.YtacfhchmoiphfaaDoor.ltext (letters textN textS)

def bytesI (s : ByteArray) : List Int := s.data.toList.map fun b => (b.toNat : Int)
theorem back (s : ByteArray) : strOfNums (bytesI s) = s := Go.Lib.Lz.strOfNums_map s.data.toList
theorem bytesI_len (s : ByteArray) : (bytesI s).length = s.size := by rw [bytesI, List.length_map, Array.length_toList]; rfl
theorem bytesI_get (s : ByteArray) (k : Nat) (h : k < s.size) : (bytesI s)[k]? = some (s[k].toNat : Int) := by
  have h' : k < s.data.toList.length := by rw [Array.length_toList]; exact h
  rw [bytesI, List.getElem?_map, List.getElem?_eq_getElem h']
  rfl

theorem text_all : ∀ n : Nat, n < 16 → ∀ m : Nat, m < 16 → (textN n).data = (textN m).data → n = m := by decide +kernel
theorem bytes_all : ∀ n : Nat, n < 16 → bytesI (strOfNums (letters n 4)) = letters n 4 := by decide +kernel
theorem size_text : ∀ n : Nat, n < 16 → (textN n).size ≤ 4 := by decide +kernel
theorem text_not_empty : ∀ n : Nat, n < 16 → (textN n).data ≠ #[] := by decide +kernel
theorem next_all : ∀ m : Nat, m < 16 → ∀ j : Nat, j < 4 → m < 2 ^ j → letters (m ||| 2 ^ j) 4 = letters m 4 ++ [97 + (j : Int)] ∧ m ||| 2 ^ j < 16 := by decide +kernel
theorem late_all : ∀ n : Nat, n < 16 → ∀ m : Nat, m < 16 → ∀ k : Nat, k < 4 → ∀ j : Nat, j < 4 → (!(decide ((letters n 4).take k = letters m 4) && decide ((letters n 4)[k]? = some (97 + (j : Int)))) || decide (m < 2 ^ j)) = true := by decide +kernel
theorem in_all : ∀ n : Nat, n < 16 → ∀ x ∈ letters n 4, 97 ≤ x ∧ x < 101 := by decide +kernel
theorem len_all : ∀ n : Nat, n < 16 → (letters n 4).length ≤ 4 := by decide +kernel

/-- the label of which this is the text -/
def find (s : ByteArray) : Option Nat := (List.range 16).find? fun n => decide (textN n = s)
theorem find_some {s : ByteArray} {n : Nat} (hn : n < 16) (h : textN n = s) : find s = some n := by
  cases hf : find s with
  | none =>
    have := List.find?_eq_none.1 hf n (by simpa using hn)
    simp [h] at this
  | some m =>
    have h1 := List.find?_some hf
    have h2 := List.mem_of_find?_eq_some hf
    simp at h1 h2
    rw [text_all n hn m h2 (by rw [h, h1])]
theorem find_none {s : ByteArray} (h : ∀ n, n < 16 → textN n ≠ s) : find s = none := by
  refine List.find?_eq_none.2 fun n hn => ?_
  simp at hn
  simpa using h n hn

/-- what LabelRead tells -/
def outL (s : ByteArray) : Int × Int := if 8000 < s.size then (0, 2) else match find s with | some n => ((n : Int), 0) | none => (0, 3)
theorem out_some {s : ByteArray} {n : Nat} (hn : n < 16) (h : textN n = s) : outL s = ((n : Int), 0) := by
  have := size_text n hn
  rw [h] at this
  rw [outL, if_neg (by omega), find_some hn h]
theorem out_none {s : ByteArray} (hs : s.size ≤ 8000) (h : ∀ n, n < 16 → textN n ≠ s) : outL s = (0, 3) := by
  rw [outL, if_neg (by omega), find_none h]

set_option maxRecDepth 100000 in
set_option maxHeartbeats 1000000 in
theorem spec_read (s : ByteArray) (w : World) (hs : s.size ≤ maxLen) :
    Calls Tryd.prog 36 #[.string s] w fun e w' => e = .returned (.agg #[.int .i64 (outL s).1, .int .i64 0, .int .i64 (outL s).2]) ∧ Below w.heap.size w w' := by
  unfold maxLen at hs
  by_cases h8 : 8000 < s.size
  · have HO : outL s = (0, 2) := if_pos h8
    rw [HO]
    clear HO
    go_enter Tryd.func36, Tryd.ntmps36
    go_wp2
    exact bodyPost_ret (v := .agg #[.int .i64 0, .int .i64 0, .int .i64 2]) (by simp [results, Tryd.results36, go_sem]) rfl ⟨rfl, (Below.refl _ _).alloc (Nat.le_refl _) _⟩
  have hs8 : s.size ≤ 8000 := by omega
  clear h8 hs
  have HS : Hid (∀ k : Nat, k < 16 → textN k = s → outL s = ((k : Int), 0)) := fun k hk h => out_some hk h
  have HN : Hid ((∀ n, n < 16 → textN n ≠ s) → outL s = (0, 3)) := fun h => out_none hs8 h
  generalize outL s = R at HS HN ⊢
  go_enter Tryd.func36, Tryd.ntmps36
  go_wp2
  go_loop [3] (fun i => ∃ k : Nat, k ≤ 16 ∧ i = .int .i64 k ∧ Hid (∀ j, j < k → textN j ≠ s)) (fun i => 16 - (intOf i).toNat)
  case atStart => exact ⟨0, by omega, rfl, fun j h => absurd h (by omega)⟩
  case round =>
    obtain ⟨k, hk, rfl, H⟩ := hrel
    by_cases hlt : k < 16
    · have ht := fun W => ltext.spec_some k hlt W
      by_cases he : textN k = s
      · have HR : Hid (R = ((k : Int), 0)) := HS.out k hlt he
        rw [he] at ht
        have HT : Hid _ := ht
        clear ht he HS HN H
        go_wp2_with (go_at_call 33; refine (HT.out _).mono ?_; rintro e w1 ⟨rfl, rfl⟩)
        exact bodyPost_ret (v := .agg #[.int .i64 R.1, .int .i64 0, .int .i64 R.2]) (by rw [HR.out]; simp [results, Tryd.results36, go_sem]) rfl ⟨rfl, (Below.refl _ _).alloc (Nat.le_refl _) _⟩
      · have H2 : Hid (∀ j, j < k + 1 → textN j ≠ s) := fun j hj => by
          by_cases e : j = k
          · subst e; exact he
          · exact H.out j (by omega)
        generalize textN k = x at ht he
        have hxs : (x.toList == s.toList) = false := by
          rw [beq_eq_false_iff_ne]
          intro h
          rw [ByteArray.toList_eq, ByteArray.toList_eq] at h
          exact he (ByteArray.ext (Array.toList_inj.1 h))
        have HT : Hid _ := ht
        clear ht he HS HN H
        go_wp2_with (go_at_call 33; refine (HT.out _).mono ?_; rintro e w1 ⟨rfl, rfl⟩)
        go_round
        case rel => exact ⟨k + 1, by omega, by go_num, H2⟩
        case measure => simp [intOf]; omega
    · have HR : Hid (R = (0, 3)) := HN.out fun n hn => H.out n (by omega)
      clear HS HN H
      go_wp2
      exact bodyPost_ret (v := .agg #[.int .i64 R.1, .int .i64 0, .int .i64 R.2]) (by rw [HR.out]; simp [results, Tryd.results36, go_sem]) rfl ⟨rfl, (Below.refl _ _).alloc (Nat.le_refl _) _⟩

/-- the bytes ahead of place k are the letters of m -/
def Inv (s : ByteArray) (k m : Nat) : Prop := m < 16 ∧ (bytesI s).take k = letters m 4
theorem inv_len {s : ByteArray} {k m : Nat} (h : Inv s k m) (hk : k ≤ s.size) : k ≤ 4 := by
  have h1 := len_all m h.1
  rw [← h.2, List.length_take, bytesI_len] at h1
  omega
theorem letters_of {s : ByteArray} {n : Nat} (hn : n < 16) (hs : s ≠ ⟨#[45]⟩) (h : textN n = s) : bytesI s = letters n 4 := by
  by_cases h0 : n = 0
  · subst h0; exact absurd h.symm hs
  · rw [← h, textN, if_neg h0, bytes_all n hn]
theorem not_letter {s : ByteArray} {k : Nat} (hs : s ≠ ⟨#[45]⟩) (hk : k < s.size) (hc : (s[k].toNat : Int) < 97 ∨ 101 ≤ (s[k].toNat : Int)) : ∀ n, n < 16 → textN n ≠ s := by
  intro n hn h
  have h1 := letters_of hn hs h
  have h2 := bytesI_get s k hk
  rw [h1] at h2
  have := in_all n hn _ (List.mem_of_getElem? h2)
  omega
theorem too_late {s : ByteArray} {k m j : Nat} (H : Inv s k m) (hs : s ≠ ⟨#[45]⟩) (hk : k < s.size) (hj : j < 4) (hc : (s[k].toNat : Int) = 97 + (j : Int)) (hm : 2 ^ j ≤ m) : ∀ n, n < 16 → textN n ≠ s := by
  intro n hn h
  have h1 := letters_of hn hs h
  have h2 := bytesI_get s k hk
  have h3 := H.2
  have hl := len_all n hn
  have hk4 : k < 4 := by
    rw [← h1, bytesI_len] at hl
    omega
  rw [h1, hc] at h2
  rw [h1] at h3
  have h4 := late_all n hn m H.1 k hk4 j hj
  simp [h2, h3] at h4
  omega
theorem inv_step {s : ByteArray} {k m j : Nat} (H : Inv s k m) (hk : k < s.size) (hj : j < 4) (hc : (s[k].toNat : Int) = 97 + (j : Int)) (hm : m < 2 ^ j) : Inv s (k + 1) (m ||| 2 ^ j) := by
  have h1 := next_all m H.1 j hj hm
  refine ⟨h1.2, ?_⟩
  rw [h1.1, ← H.2, ← hc, List.take_add_one, bytesI_get s k hk]
  rfl
theorem inv_end {s : ByteArray} {m : Nat} (H : Inv s s.size m) (hm : m ≠ 0) : textN m = s := by
  have h := H.2
  rw [← bytesI_len, List.take_length] at h
  rw [textN, if_neg hm, ← h, back]
theorem inv_zero {s : ByteArray} (H : Inv s s.size 0) : ∀ n, n < 16 → textN n ≠ s := by
  intro n hn h
  have h1 := H.2
  rw [← bytesI_len, List.take_length] at h1
  have h2 : s.size = 0 := by rw [← bytesI_len, h1]; rfl
  exact text_not_empty n hn (by rw [h]; exact Array.eq_empty_of_size_eq_zero h2)

theorem val_int {k : IntKind} {a b : Int} (h : a = b) : Value.int k a = .int k b := by rw [h]
/-- what readLabel tells: the label, and whether it is one -/
def Tells (s : ByteArray) (m : Int) (b : Bool) : Prop := (b = true ∧ ∃ n : Nat, n < 16 ∧ m = (n : Int) ∧ textN n = s) ∨ (b = false ∧ ∀ n, n < 16 → textN n ≠ s)

def Says (s : ByteArray) (e : Ending) : Prop := ∃ m b, e = .returned (.tuple #[.int .u8 m, .bool b]) ∧ Tells s m b

set_option maxRecDepth 100000 in
set_option maxHeartbeats 1000000 in
theorem read_label (s : ByteArray) (w : World) (hs : s.size ≤ 8000) :
    Calls Tryd.prog 51 #[.string s] w fun e w' => Says s e ∧ w' = w := by
  by_cases hd : s = ⟨#[45]⟩
  · subst hd
    go_enter Tryd.func51, Tryd.ntmps51
    go_wp2
    go_ret2
    exact ⟨⟨0, true, rfl, Or.inl ⟨rfl, 0, by omega, rfl, rfl⟩⟩, rfl⟩
  have HD : Hid (s ≠ ⟨#[45]⟩) := hd
  have hd2 : (s.toList == [45]) = false := by
    rw [beq_eq_false_iff_ne]
    intro h
    rw [ByteArray.toList_eq] at h
    exact hd (ByteArray.ext (Array.toList_inj.1 h))
  clear hd
  go_enter Tryd.func51, Tryd.ntmps51
  go_wp2
  go_loop [4, 5] (fun l i => ∃ k m : Nat, k ≤ s.size ∧ i = .int .i64 k ∧ l = .int .u8 m ∧ m < 16 ∧ Hid (Inv s k m)) (fun _ i => s.size - (intOf i).toNat)
  case atStart => exact ⟨0, 0, by omega, rfl, rfl, by omega, ⟨by omega, by simp [letters]⟩⟩
  case round =>
    obtain ⟨k, m, hk, rfl, rfl, hm, H⟩ := hrel
    by_cases hlt : k < s.size
    · by_cases h1 : (s[k].toNat : Int) < 97
      · have HT : Hid (Tells s 0 false) := Or.inr ⟨rfl, not_letter HD.out hlt (Or.inl h1)⟩
        go_wp2
        go_ret2
        exact ⟨⟨0, false, rfl, HT.out⟩, rfl⟩
      by_cases h2 : 101 ≤ (s[k].toNat : Int)
      · have HT : Hid (Tells s 0 false) := Or.inr ⟨rfl, not_letter HD.out hlt (Or.inr h2)⟩
        go_wp2
        go_ret2
        exact ⟨⟨0, false, rfl, HT.out⟩, rfl⟩
      have hfour : (s[k].toNat : Int) = 97 ∨ (s[k].toNat : Int) = 98 ∨ (s[k].toNat : Int) = 99 ∨ (s[k].toNat : Int) = 100 := by omega
      clear h1 h2
      rcases hfour with hc | hc | hc | hc
      · by_cases hl : m < 1
        · have H2 : Hid (Inv s (k + 1) (m ||| 1)) := inv_step (j := 0) H.out hlt (by omega) hc hl
          have HO : Hid (bits .or .u8 (m : Int) 1 = ((m ||| 1 : Nat) : Int)) := label.or8_all m hm 1 (by omega)
          have hol := H2.out.1
          clear H
          go_wp2
          go_round
          case rel => exact ⟨k + 1, m ||| 1, by omega, by go_num, val_int HO.out, hol, H2⟩
          case measure => simp [intOf]; omega
        · have HT : Hid (Tells s 0 false) := Or.inr ⟨rfl, too_late (j := 0) H.out HD.out hlt (by omega) hc (by omega)⟩
          clear H
          go_wp2
          go_ret2
          exact ⟨⟨0, false, rfl, HT.out⟩, rfl⟩
      · by_cases hl : m < 2
        · have H2 : Hid (Inv s (k + 1) (m ||| 2)) := inv_step (j := 1) H.out hlt (by omega) hc hl
          have HO : Hid (bits .or .u8 (m : Int) 2 = ((m ||| 2 : Nat) : Int)) := label.or8_all m hm 2 (by omega)
          have hol := H2.out.1
          clear H
          go_wp2
          go_round
          case rel => exact ⟨k + 1, m ||| 2, by omega, by go_num, val_int HO.out, hol, H2⟩
          case measure => simp [intOf]; omega
        · have HT : Hid (Tells s 0 false) := Or.inr ⟨rfl, too_late (j := 1) H.out HD.out hlt (by omega) hc (by omega)⟩
          clear H
          go_wp2
          go_ret2
          exact ⟨⟨0, false, rfl, HT.out⟩, rfl⟩
      · by_cases hl : m < 4
        · have H2 : Hid (Inv s (k + 1) (m ||| 4)) := inv_step (j := 2) H.out hlt (by omega) hc hl
          have HO : Hid (bits .or .u8 (m : Int) 4 = ((m ||| 4 : Nat) : Int)) := label.or8_all m hm 4 (by omega)
          have hol := H2.out.1
          clear H
          go_wp2
          go_round
          case rel => exact ⟨k + 1, m ||| 4, by omega, by go_num, val_int HO.out, hol, H2⟩
          case measure => simp [intOf]; omega
        · have HT : Hid (Tells s 0 false) := Or.inr ⟨rfl, too_late (j := 2) H.out HD.out hlt (by omega) hc (by omega)⟩
          clear H
          go_wp2
          go_ret2
          exact ⟨⟨0, false, rfl, HT.out⟩, rfl⟩
      · by_cases hl : m < 8
        · have H2 : Hid (Inv s (k + 1) (m ||| 8)) := inv_step (j := 3) H.out hlt (by omega) hc hl
          have HO : Hid (bits .or .u8 (m : Int) 8 = ((m ||| 8 : Nat) : Int)) := label.or8_all m hm 8 (by omega)
          have hol := H2.out.1
          clear H
          go_wp2
          go_round
          case rel => exact ⟨k + 1, m ||| 8, by omega, by go_num, val_int HO.out, hol, H2⟩
          case measure => simp [intOf]; omega
        · have HT : Hid (Tells s 0 false) := Or.inr ⟨rfl, too_late (j := 3) H.out HD.out hlt (by omega) hc (by omega)⟩
          clear H
          go_wp2
          go_ret2
          exact ⟨⟨0, false, rfl, HT.out⟩, rfl⟩
    · obtain rfl : k = s.size := by omega
      by_cases h0 : m = 0
      · subst h0
        have HT : Hid (Tells s 0 false) := Or.inr ⟨rfl, inv_zero H.out⟩
        go_wp2
        go_ret2
        exact ⟨⟨0, false, rfl, HT.out⟩, rfl⟩
      · have HT : Hid (Tells s m true) := Or.inl ⟨rfl, m, hm, rfl, inv_end H.out h0⟩
        have hm1 : ((m : Int) != 0) = true := by simp [h0]
        clear h0
        go_wp2
        go_ret2
        exact ⟨⟨m, true, rfl, HT.out⟩, rfl⟩

theorem out_tells {s : ByteArray} {m : Int} {b : Bool} (hs : s.size ≤ 8000) (h : Tells s m b) : (b = true ∧ 0 ≤ m ∧ m ≤ 15 ∧ outL s = (m, 0)) ∨ (b = false ∧ outL s = (0, 3)) := by
  rcases h with ⟨rfl, n, hn, rfl, he⟩ | ⟨rfl, h⟩
  · exact Or.inl ⟨rfl, by omega, by omega, out_some hn he⟩
  · exact Or.inr ⟨rfl, out_none hs h⟩


end Go.Proofs.YtacfhchmoiphfaaDoor.lread
