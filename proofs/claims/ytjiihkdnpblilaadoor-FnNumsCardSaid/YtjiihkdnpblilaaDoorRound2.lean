/-
  What GetNum and GetText tell of the bytes that PutNum and PutText tell, with more around them, and with the last one gone. No walk stands in it.
-/
import Derived.Test.YtjiihkdnpblilaaDoorRound
import Derived.Test.YtjiihkdnpblilaaDoorText
import Derived.Test.YtjiihkdnpblilaaDoorGetText3
namespace Go.Proofs.YtjiihkdnpblilaaDoor.rnd
open Go.Proofs.YtjiihkdnpblilaaDoor

theorem has_left {a b : ByteArray} {p : Nat} {L : List Int} (h : Has a p L) : Has (a ++ b) p L := by
  intro j hj
  obtain ⟨c, h1, h2⟩ := h j hj
  refine ⟨c, ?_, h2⟩
  have hlt : p + j < a.data.toList.length := (List.getElem?_eq_some_iff.1 h1).1
  simp only [ByteArray.data_append, Array.toList_append]
  rw [List.getElem?_append_left hlt]; exact h1
theorem has_right {a b : ByteArray} {p : Nat} {L : List Int} (h : Has b p L) : Has (a ++ b) (a.size + p) L := by
  intro j hj
  obtain ⟨c, h1, h2⟩ := h j hj
  refine ⟨c, ?_, h2⟩
  simp only [ByteArray.data_append, Array.toList_append]
  have e : a.data.toList.length = a.size := by simp
  rw [List.getElem?_append_right (by omega), show a.size + p + j - a.data.toList.length = p + j by omega]; exact h1
theorem has_take {a : ByteArray} {L : List Int} (h : Has a 0 L) (k : Nat) (hk : k ≤ L.length) : Has (a.extract 0 k) 0 (L.take k) := by
  intro j hj
  have hj' : j < L.length := by simp at hj; omega
  have hjk : j < k := by simp at hj; omega
  obtain ⟨c, h1, h2⟩ := h j hj'
  refine ⟨c, ?_, ?_⟩
  · simp only [ByteArray.data_extract, Array.toList_extract, List.extract_eq_take_drop, List.drop_zero, Nat.sub_zero]
    rw [List.getElem?_take_of_lt (by omega)]; exact h1
  · rw [h2]; simp
theorem has_nums (L : List Int) (h : ∀ x ∈ L, 0 ≤ x ∧ x < 256) : Has (strOfNums L) 0 L := by
  intro j hj
  have hm := h L[j] (List.getElem_mem hj)
  refine ⟨UInt8.ofNat (L[j]).toNat, ?_, ?_⟩
  · rw [Nat.zero_add, strOfNums_data, List.getElem?_map, List.getElem?_eq_getElem hj]; rfl
  · rw [UInt8.toNat_ofNat']; omega

theorem numS_has (n : Int) (h0 : -9223372036854775808 ≤ n) (h1 : n ≤ 9223372036854775807) : Has (put.numS n) 0 (num.encF 9 (num.foldN n)) :=
  has_nums _ (enc_byte 9 0 _ rfl (by simpa using num.fold_lt n h0 h1))
theorem numS_len (n : Int) : (put.numS n).size = (num.encF 9 (num.foldN n)).length := strOfNums_size _
theorem numS_pos (n : Int) : 1 ≤ (put.numS n).size := by rw [numS_len]; exact enc_pos _ _

/-- the number is told, whatever stands ahead of it and behind it -/
theorem out_num (a b : ByteArray) (n : Int) (h0 : -9223372036854775808 ≤ n) (h1 : n ≤ 9223372036854775807) (hs : a.size + (put.numS n).size + b.size ≤ 8000) :
    get.outR (a ++ put.numS n ++ b) (a.size : Int) = (num.foldN n, a.size + (put.numS n).size, 0) := by
  unfold get.outR
  rw [if_neg (by simp only [ByteArray.size_append]; omega), if_neg (by omega), Int.toNat_natCast]
  have h := has_left (b := b) (has_right (a := a) (numS_has n h0 h1))
  rw [Nat.add_zero] at h
  have := dec_enc 9 0 (num.foldN n) 0 a.size _ rfl (by simpa using num.fold_lt n h0 h1) (Or.inl rfl) h
  rw [this, numS_len]
  simp

/-- with its last byte gone it is short -/
theorem out_cut (n : Int) (h0 : -9223372036854775808 ≤ n) (h1 : n ≤ 9223372036854775807) (hs : (put.numS n).size ≤ 8000) :
    get.outR ((put.numS n).extract 0 ((put.numS n).size - 1)) 0 = (0, 0, 4) := by
  have hp := numS_pos n
  unfold get.outR
  rw [if_neg (by simp only [ByteArray.size_extract]; omega), if_neg (by omega)]
  refine dec_cut 9 0 (num.foldN n) 0 0 _ rfl ?_ ?_
  · rw [← numS_len]; simp only [ByteArray.size_extract]; omega
  · rw [numS_len]; exact has_take (numS_has n h0 h1) _ (by omega)

theorem un_num (n : Int) : dec.unN (num.foldN n) = n := un_fold n

theorem put_text (u : ByteArray) (hu : u.size ≤ 8000) : text.textS u = put.numS u.size ++ u := if_neg (by omega)

/-- the text is told -/
theorem out_text (u : ByteArray) (hs : (put.numS u.size).size + u.size + 1 ≤ 8000) (a : ByteArray) (ha : a.size = 1) :
    gett.textR (a ++ (put.numS u.size ++ u)) 1 = (u, (put.numS u.size).size + u.size + 1, 0) := by
  have hR := out_num a u (u.size : Int) (by omega) (by omega) (by omega)
  rw [ha] at hR
  have e : a ++ (put.numS u.size ++ u) = a ++ put.numS u.size ++ u := (ByteArray.append_assoc).symm
  unfold gett.textR
  rw [e, show ((1 : Int)) = ((1 : Nat) : Int) from rfl, hR]
  simp only [un_num]
  unfold gett.textOf
  rw [if_neg (by simp), if_neg (by omega), Int.toNat_natCast, if_neg (by simp only [ByteArray.size_append]; omega)]
  refine Prod.ext ?_ (Prod.ext ?_ rfl)
  · simp only
    apply ByteArray.ext
    apply Array.toList_inj.1
    have e1 : (a ++ put.numS u.size).data.toList.length = 1 + (put.numS u.size).size := by simp [ha]
    simp only [ByteArray.data_extract, Array.toList_extract, List.extract_eq_take_drop]
    rw [show (a ++ put.numS ↑u.size ++ u).data.toList = (a ++ put.numS ↑u.size).data.toList ++ u.data.toList by simp]
    rw [List.drop_append_of_le_length (by omega), List.drop_of_length_le (by omega), List.nil_append]
    exact List.take_of_length_le (by simp)
  · simp only; omega

/-- with its last byte gone it is short -/
theorem out_text_cut (u : ByteArray) (hs : (put.numS u.size).size + u.size + 1 ≤ 8000) :
    (gett.textR ((put.numS u.size ++ u).extract 0 ((put.numS u.size ++ u).size - 1)) 0).2.2 = 4 := by
  by_cases h0 : u.size = 0
  · have e : put.numS u.size ++ u = put.numS u.size := by
      apply ByteArray.ext
      apply Array.toList_inj.1
      have : u.data.toList = [] := List.eq_nil_of_length_eq_zero (by simpa using h0)
      simp [this]
    unfold gett.textR
    rw [e, out_cut (u.size : Int) (by omega) (by omega) (by omega)]
    unfold gett.textOf
    rw [if_pos (by simp)]
  · have hp := numS_pos (u.size : Int)
    have e : (put.numS u.size ++ u).extract 0 ((put.numS u.size ++ u).size - 1) = ByteArray.empty ++ put.numS u.size ++ u.extract 0 (u.size - 1) := by
      apply ByteArray.ext
      apply Array.toList_inj.1
      simp only [ByteArray.data_extract, ByteArray.data_append, Array.toList_extract, Array.toList_append, List.extract_eq_take_drop, List.drop_zero, Nat.sub_zero, ByteArray.size_append]
      have el : (put.numS ↑u.size).data.toList.length = (put.numS ↑u.size).size := by simp
      rw [List.take_append, List.take_of_length_le (by omega)]
      congr 1
      congr 1; omega
    have hR := out_num ByteArray.empty (u.extract 0 (u.size - 1)) (u.size : Int) (by omega) (by omega) (by simp only [ByteArray.size_extract, ByteArray.size_empty]; omega)
    unfold gett.textR
    rw [e, show (0 : Int) = ((ByteArray.empty.size : Nat) : Int) from rfl, hR]
    simp only [un_num]
    unfold gett.textOf
    rw [if_neg (by simp), if_neg (by omega), Int.toNat_natCast, if_pos (by simp only [ByteArray.size_append, ByteArray.size_extract, ByteArray.size_empty]; omega)]
end Go.Proofs.YtjiihkdnpblilaaDoor.rnd
