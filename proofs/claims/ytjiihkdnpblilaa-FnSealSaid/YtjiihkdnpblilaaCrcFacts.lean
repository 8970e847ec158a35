/-
  Plain facts on the CRC: texts that differ at one byte have two CRCs; a CRC goes on from text to text; a sealed text with one byte turned is refused. No walk stands in it.
-/
import Derived.Test.YtjiihkdnpblilaaUnsealTop
namespace Go.Proofs.Ytjiihkdnpblilaa.reg
open Go.Proofs.Ytjiihkdnpblilaa

theorem xor_back (a c : Nat) : (a ^^^ c) ^^^ c = a := by rw [Nat.xor_assoc, Nat.xor_self, Nat.xor_zero]
theorem xor_inj {a b c : Nat} (h : a ^^^ c = b ^^^ c) : a = b := by
  have := congrArg (· ^^^ c) h
  simpa only [xor_back] using this
theorem poly_bit : (3988292384 : Nat).testBit 31 = true := by decide +kernel
theorem step_mixed (x y : Nat) (hx : x < 4294967296) (hy : y < 4294967296) (h : (x / 2) ^^^ 3988292384 = y / 2) : False := by
  have h1 : (x / 2).testBit 31 = false := Nat.testBit_lt_two_pow (by omega)
  have h2 : (y / 2).testBit 31 = false := Nat.testBit_lt_two_pow (by omega)
  have h3 := congrArg (fun n => Nat.testBit n 31) h
  simp only [Nat.testBit_xor, h1, h2, poly_bit] at h3
  exact absurd h3 (by decide)
theorem step_inj (x y : Nat) (hx : x < 4294967296) (hy : y < 4294967296) (h : stepN x = stepN y) : x = y := by
  unfold stepN at h
  by_cases h1 : x % 2 = 1
  · by_cases h2 : y % 2 = 1
    · rw [if_pos h1, if_pos h2] at h
      have := xor_inj h
      omega
    · rw [if_pos h1, if_neg h2] at h
      exact (step_mixed x y hx hy h).elim
  · by_cases h2 : y % 2 = 1
    · rw [if_neg h1, if_pos h2] at h
      exact (step_mixed y x hy hx h.symm).elim
    · rw [if_neg h1, if_neg h2] at h
      omega
theorem iter_inj (k x y : Nat) (hx : x < 4294967296) (hy : y < 4294967296) (h : iterN k x = iterN k y) : x = y := by
  induction k with
  | zero => exact h
  | succ k ih => exact ih (step_inj _ _ (iter_lt k x hx) (iter_lt k y hy) h)
theorem byte_inj_reg {r r' : Nat} {c : UInt8} (hr : r < 4294967296) (hr' : r' < 4294967296) (h : byteN r c.toNat = byteN r' c.toNat) : r = r' := by
  have hc := c.toNat_lt
  exact xor_inj (iter_inj 8 _ _ (xor_lt _ _ hr (by omega)) (xor_lt _ _ hr' (by omega)) h)
theorem byte_inj_byte {r : Nat} {c d : UInt8} (hr : r < 4294967296) (h : byteN r c.toNat = byteN r d.toNat) : c = d := by
  have hc := c.toNat_lt
  have hd := d.toNat_lt
  have e := iter_inj 8 _ _ (xor_lt _ _ hr (by omega)) (xor_lt _ _ hr (by omega)) h
  rw [Nat.xor_comm r, Nat.xor_comm r] at e
  exact UInt8.toNat_inj.1 (xor_inj e)
theorem crcL_inj (l : List UInt8) : ∀ {r r' : Nat}, r < 4294967296 → r' < 4294967296 → crcL r l = crcL r' l → r = r' := by
  induction l with
  | nil => intro r r' _ _ h; exact h
  | cons c l ih => intro r r' hr hr' h; exact byte_inj_reg hr hr' (ih (byte_lt r c hr) (byte_lt r' c hr') h)
theorem crcL_append (r : Nat) (a b : List UInt8) : crcL r (a ++ b) = crcL (crcL r a) b := by simp [crcL]
theorem crcL_set (r : Nat) (hr : r < 4294967296) (l : List UInt8) (i : Nat) (hi : i < l.length) (c : UInt8) (h : crcL r (l.set i c) = crcL r l) : c = l[i] := by
  have e : l.set i c = l.take i ++ c :: l.drop (i + 1) := by rw [List.set_eq_take_append_cons_drop, if_pos hi]
  have e2 : l = l.take i ++ l[i] :: l.drop (i + 1) := by rw [← List.drop_eq_getElem_cons hi, List.take_append_drop]
  rw [e] at h
  conv at h => rhs; rw [e2]
  rw [crcL_append, crcL_append] at h
  have hp := crcL_lt (l.take i) r hr
  exact byte_inj_byte hp (crcL_inj (l.drop (i + 1)) (byte_lt _ c hp) (byte_lt _ l[i] hp) h)
theorem crcN_set (l : List UInt8) (i : Nat) (hi : i < l.length) (c : UInt8) (h : crcN 0 (l.set i c) = crcN 0 l) : c = l[i] :=
  crcL_set _ (xor_lt _ _ (by omega) (by omega)) l i hi c (xor_inj h)
theorem crcN_go (a b : List UInt8) : crcN (crcN 0 a) b = crcN 0 (a ++ b) := by
  unfold crcN
  rw [xor_back, crcL_append]

theorem data_inj {a b : ByteArray} (h : a.data.toList = b.data.toList) : a = b := ByteArray.ext (Array.toList_inj.1 h)

theorem four_data (n : Nat) (hn : n < 4294967296) : (four.bytes4 n).data.toList = [UInt8.ofNat (n % 256), UInt8.ofNat (n / 256 % 256), UInt8.ofNat (n / 65536 % 256), UInt8.ofNat (n / 16777216)] := by
  unfold four.bytes4
  rw [strOfNums_data]
  simp only [List.map_cons, List.map_nil]
  rw [show ((n : Int) % 256).toNat = n % 256 by omega, show ((n : Int) / 256 % 256).toNat = n / 256 % 256 by omega, show ((n : Int) / 65536 % 256).toNat = n / 65536 % 256 by omega, show ((n : Int) / 16777216).toNat = n / 16777216 by omega]
theorem of_inj {a b : Nat} (ha : a < 256) (hb : b < 256) (h : UInt8.ofNat a = UInt8.ofNat b) : a = b := by
  have := congrArg UInt8.toNat h
  rw [UInt8.toNat_ofNat', UInt8.toNat_ofNat'] at this
  omega
theorem four_inj {m n : Nat} (hm : m < 4294967296) (hn : n < 4294967296) (h : four.bytes4 m = four.bytes4 n) : m = n := by
  have h' : (four.bytes4 m).data.toList = (four.bytes4 n).data.toList := by rw [h]
  rw [four_data m hm, four_data n hn] at h'
  injection h' with h0 h'
  injection h' with h1 h'
  injection h' with h2 h'
  injection h' with h3 h'
  have e0 := of_inj (by omega) (by omega) h0
  have e1 := of_inj (by omega) (by omega) h1
  have e2 := of_inj (by omega) (by omega) h2
  have e3 := of_inj (by omega) (by omega) h3
  omega
theorem inner_data (b : ByteArray) : (opening.inner b).data.toList = b.data.toList.take (b.size - 4) := by
  unfold opening.inner
  simp [List.extract_eq_take_drop]
theorem tail_data (b : ByteArray) : (opening.tail b).data.toList = b.data.toList.drop (b.size - 4) := by
  unfold opening.tail
  simp only [ByteArray.data_extract, Array.toList_extract, List.extract_eq_take_drop]
  exact List.take_of_length_le (by simp)
theorem test_data (a b : ByteArray) : (a.toList == b.toList) = true ↔ a = b := by
  rw [beq_iff_eq, ByteArray.toList_eq, ByteArray.toList_eq]
  exact ⟨data_inj, fun h => by rw [h]⟩

/-- a sealed text comes back -/
theorem told_back (t : ByteArray) (ht : t.size ≤ 7996) : opening.told (t ++ four.bytes4 (crcN 0 t.data.toList)) = (t, 0) := by
  have h4 := sealing.bytes4_size (crcN 0 t.data.toList)
  have hz : (t ++ four.bytes4 (crcN 0 t.data.toList)).size = t.size + 4 := by rw [ByteArray.size_append, h4]
  have hi : opening.inner (t ++ four.bytes4 (crcN 0 t.data.toList)) = t := by
    apply data_inj
    rw [inner_data, hz]
    simp only [ByteArray.data_append, Array.toList_append, Nat.add_sub_cancel]
    exact List.take_left' (by simp)
  have htl : opening.tail (t ++ four.bytes4 (crcN 0 t.data.toList)) = four.bytes4 (crcN 0 t.data.toList) := by
    apply data_inj
    rw [tail_data, hz]
    simp only [ByteArray.data_append, Array.toList_append, Nat.add_sub_cancel]
    exact List.drop_left' (by simp)
  unfold opening.told
  rw [if_neg (by omega), if_neg (by omega), hi, htl, if_pos (by simp)]

/-- with one byte turned it is refused -/
theorem told_turned (t b : ByteArray) (ht : t.size ≤ 7996) (i : Nat) (c : UInt8) (hi : i < (t ++ four.bytes4 (crcN 0 t.data.toList)).data.toList.length)
    (hb : b.data.toList = (t ++ four.bytes4 (crcN 0 t.data.toList)).data.toList.set i c) (hc : c ≠ (t ++ four.bytes4 (crcN 0 t.data.toList)).data.toList[i]) : opening.told b = (⟨#[]⟩, 5) := by
  have h4 := sealing.bytes4_size (crcN 0 t.data.toList)
  have hz : (t ++ four.bytes4 (crcN 0 t.data.toList)).size = t.size + 4 := by rw [ByteArray.size_append, h4]
  have hbz : b.size = t.size + 4 := by
    have := congrArg List.length hb
    rw [List.length_set] at this
    simp only [Array.length_toList, ByteArray.size_data] at this
    rw [this, hz]
  have hlt := crcN_lt 0 t.data.toList (by omega)
  have ed : (t ++ four.bytes4 (crcN 0 t.data.toList)).data.toList = t.data.toList ++ (four.bytes4 (crcN 0 t.data.toList)).data.toList := by simp
  have htl : t.data.toList.length = t.size := by simp
  have h4l : (four.bytes4 (crcN 0 t.data.toList)).data.toList.length = 4 := by simpa using h4
  simp only [ed] at hi hb hc
  unfold opening.told
  rw [if_neg (by omega), if_neg (by omega), if_neg]
  intro heq
  rw [test_data] at heq
  have ei := inner_data b
  have et := tail_data b
  rw [hbz, Nat.add_sub_cancel, hb] at ei et
  rw [List.set_append] at ei et
  by_cases hlo : i < t.data.toList.length
  · rw [if_pos hlo] at ei et
    rw [List.take_left' (by simp)] at ei
    rw [List.drop_left' (by simp)] at et
    rw [ei] at heq
    have heq2 := heq.trans (data_inj et)
    have hcr := four_inj (crcN_lt 0 _ (by omega)) hlt heq2
    have := crcN_set _ i hlo c hcr
    rw [List.getElem_append_left hlo] at hc
    exact hc this
  · rw [if_neg hlo] at ei et
    rw [List.take_left' htl] at ei
    rw [List.drop_left' htl] at et
    rw [ei] at heq
    rw [← heq] at et
    have hj : i - t.data.toList.length < (four.bytes4 (crcN 0 t.data.toList)).data.toList.length := by
      rw [List.length_append] at hi; omega
    have hg := congrArg (fun l => l[i - t.data.toList.length]?) et
    simp only [List.getElem?_set_self hj, List.getElem?_eq_getElem hj] at hg
    rw [List.getElem_append_right (by omega)] at hc
    exact hc (Option.some.inj hg).symm
end Go.Proofs.Ytjiihkdnpblilaa.reg
