/-
  The draws of FnSeal: a text to seal, a CRC and a text, and a number out of a row of bytes.
-/
import Derived.Test.YtjiihkdnpblilaaDraws3
import Derived.Test.YtjiihkdnpblilaaCrcTop
namespace Go.Proofs.Ytjiihkdnpblilaa.draws
open Go.RowKit Go.Deep
open Go.Proofs.Ytjiihkdnpblilaa
set_option linter.unusedVariables false

set_option maxHeartbeats 1000000 in
set_option maxRecDepth 100000 in
theorem drawSeal (x : Option Addr) (len cap : Nat) (w : World) (hby : Byts w x len w.heap.size) :
    Calls Try.prog 4 #[.slice x len cap] w (DText w) := by
  have HC : Hid _ := source_any x len cap w hby
  have HY : Hid (Byts w x len w.heap.size) := hby
  clear hby
  go_enter Try.func4, Try.ntmps4
  go_wp2_with fail
  refine Calls.mono HC.out ?_
  rintro e w1 ⟨rfl, hs1, hb1, hz1⟩
  have HB1 : Hid (Below w.heap.size w w1) := hb1
  have HY1 : Hid (Byts w1 x len w.heap.size) := HY.out.below hb1 (Nat.le_refl _)
  have HN : Hid _ := one_any w.heap.size x len cap w1 30 hs1 HY1.out (by omega)
  clear hs1 hb1 HC HY
  go_wp2_with fail
  refine Calls.mono HN.out ?_
  rintro e w2 ⟨t, rfl, hs2, hg2⟩
  have hz2 : w.heap.size < w2.heap.size := Nat.lt_of_lt_of_le hz1 hg2.size
  have HB2 : Hid (Below w.heap.size w w2) := HB1.out.grown hg2 (Nat.le_of_lt hz1) (fun k e => by simp at e; omega)
  have HY2 : Hid (Byts w2 x len w.heap.size) := HY1.out.kept hg2
  have HS2 : Hid (IsSrc w2 w.heap.size x len cap) := hs2
  clear hs2 hg2 HN HB1 HY1
  cases t
  · go_wp2_with fail
    refine (n_any w.heap.size x len cap w2 _ HS2.out HY2.out (by omega)).mono ?_
    rintro e w3 ⟨v, rfl, hv0, hv1, hs3, hg3⟩
    have hv2 : v < 20 := by omega
    have hz3 : w.heap.size < w3.heap.size := Nat.lt_of_lt_of_le hz2 hg3.size
    have HB3 : Hid (Below w.heap.size w w3) := HB2.out.grown hg3 (Nat.le_of_lt hz2) (fun k e => by simp at e; omega)
    have HY3 : Hid (Byts w3 x len w.heap.size) := HY2.out.kept hg3
    have HS3 : Hid (IsSrc w3 w.heap.size x len cap) := hs3
    clear hs3 hg3 hv1 HB2 HY2 HS2
    go_wp2_with fail
    refine (bytes_any w.heap.size x len cap w3 v (by omega) hz3 HS3.out HY3.out).mono ?_
    rintro e w4 ⟨t, rfl, ht, hs4, hg4⟩
    have HT : Hid (t.size = v.toNat) := ht
    have HB4 : Hid (Below w.heap.size w w4) := HB3.out.grown hg4 (Nat.le_of_lt hz3) (fun k e => by simp at e; omega)
    clear hs4 hg4 ht
    go_wp2
    go_ret
    exact ⟨t, rfl, by rw [HT.out]; omega, HB4.out⟩
  · go_wp2_with fail
    refine (n_any w.heap.size x len cap w2 _ HS2.out HY2.out (by omega)).mono ?_
    rintro e w3 ⟨v, rfl, hv0, hv1, hs3, hg3⟩
    obtain ⟨k, rfl⟩ := Int.eq_ofNat_of_zero_le hv0
    have hk : k < 3 := by omega
    have hz3 : w.heap.size < w3.heap.size := Nat.lt_of_lt_of_le hz2 hg3.size
    have HB3 : Hid (Below w.heap.size w w3) := HB2.out.grown hg3 (Nat.le_of_lt hz2) (fun k e => by simp at e; omega)
    have hmk := run_make_row' (P := Try.prog) 22 5 (.int .u8 0) 1 Try.underlying22 info8 rfl .i64 .i64 (19995 + k) (by omega) (by omega)
    have ec : ((19995 + k : Nat) : Int) = 19995 + (k : Int) := by omega
    rw [ec] at hmk
    have hcv := conv_zero (19995 + k)
    have HT : Hid ((strOfNums (List.replicate (19995 + k) 0)).size ≤ 20001) := by show _ ≤ _; rw [strOfNums_size, List.length_replicate]; omega
    generalize strOfNums (List.replicate (19995 + k) 0) = t at hcv HT
    clear ec hs3 hg3 hv0 hv1 HB2 HY2 HS2
    go_wp2
    go_ret
    exact ⟨t, rfl, HT.out, HB3.out.alloc (Nat.le_of_lt hz3) _⟩

/-- what DrawCrcMore leaves -/
def DCrc (w : World) (e : Ending) (w' : World) : Prop := ∃ (c : Int) (t : ByteArray), e = .returned (.tuple #[.int .i64 c, .string t]) ∧ -9223372036854775808 ≤ c ∧ c ≤ 9223372036854775807 ∧ t.size ≤ 9 ∧ Below w.heap.size w w'

theorem more_range (s : ByteArray) : -9223372036854775808 ≤ crc.moreN 0 s ∧ crc.moreN 0 s ≤ 9223372036854775807 := by
  unfold crc.moreN
  split
  · omega
  · have := reg.crcN_lt (0 : Int).toNat s.data.toList (by simp)
    omega

set_option maxHeartbeats 1000000 in
set_option maxRecDepth 100000 in
theorem drawCrcMore (x : Option Addr) (len cap : Nat) (w : World) (hby : Byts w x len w.heap.size) :
    Calls Try.prog 9 #[.slice x len cap] w (DCrc w) := by
  have HC : Hid _ := source_any x len cap w hby
  have HY : Hid (Byts w x len w.heap.size) := hby
  clear hby
  go_enter Try.func9, Try.ntmps9
  go_wp2_with fail
  refine Calls.mono HC.out ?_
  rintro e w1 ⟨rfl, hs1, hb1, hz1⟩
  have HB1 : Hid (Below w.heap.size w w1) := hb1
  have HY1 : Hid (Byts w1 x len w.heap.size) := HY.out.below hb1 (Nat.le_refl _)
  have HS1 : Hid (IsSrc w1 w.heap.size x len cap) := hs1
  clear hs1 hb1 HC HY
  go_wp2_with fail
  refine (n_any w.heap.size x len cap w1 _ HS1.out HY1.out (by omega)).mono ?_
  rintro e w2 ⟨v, rfl, hv0, hv1, hs2, hg2⟩
  have hv2 : v < 9 := by omega
  have hz2 : w.heap.size < w2.heap.size := Nat.lt_of_lt_of_le hz1 hg2.size
  have HB2 : Hid (Below w.heap.size w w2) := HB1.out.grown hg2 (Nat.le_of_lt hz1) (fun k e => by simp at e; omega)
  have HY2 : Hid (Byts w2 x len w.heap.size) := HY1.out.kept hg2
  have HS2 : Hid (IsSrc w2 w.heap.size x len cap) := hs2
  clear hs2 hg2 hv1 HB1 HY1 HS1
  go_wp2_with fail
  refine (bytes_any w.heap.size x len cap w2 v (by omega) hz2 HS2.out HY2.out).mono ?_
  rintro e w3 ⟨t, rfl, ht, hs3, hg3⟩
  have HT : Hid (t.size ≤ 9) := by show _ ≤ _; omega
  have hz3 : w.heap.size < w3.heap.size := Nat.lt_of_lt_of_le hz2 hg3.size
  have HB3 : Hid (Below w.heap.size w w3) := HB2.out.grown hg3 (Nat.le_of_lt hz2) (fun k e => by simp at e; omega)
  have HY3 : Hid (Byts w3 x len w.heap.size) := HY2.out.kept hg3
  have HN : Hid _ := one_any w.heap.size x len cap w3 5 hs3 HY3.out (by omega)
  clear hs3 hg3 ht HB2 HY2 HS2 hv0 hv2
  go_wp2_with fail
  refine Calls.mono HN.out ?_
  rintro e w4 ⟨yes, rfl, hs4, hg4⟩
  have hz4 : w.heap.size < w4.heap.size := Nat.lt_of_lt_of_le hz3 hg4.size
  have HB4 : Hid (Below w.heap.size w w4) := HB3.out.grown hg4 (Nat.le_of_lt hz3) (fun k e => by simp at e; omega)
  have HY4 : Hid (Byts w4 x len w.heap.size) := HY3.out.kept hg4
  have HS4 : Hid (IsSrc w4 w.heap.size x len cap) := hs4
  clear hs4 hg4 HN HB3 HY3
  cases yes
  · go_wp2_with fail
    refine (n_any w.heap.size x len cap w4 _ HS4.out HY4.out (by omega)).mono ?_
    rintro e w5 ⟨v', rfl, hv0, hv1, hs5, hg5⟩
    have hv2 : v' < 9 := by omega
    have hz5 : w.heap.size < w5.heap.size := Nat.lt_of_lt_of_le hz4 hg5.size
    have HB5 : Hid (Below w.heap.size w w5) := HB4.out.grown hg5 (Nat.le_of_lt hz4) (fun k e => by simp at e; omega)
    have HY5 : Hid (Byts w5 x len w.heap.size) := HY4.out.kept hg5
    have HS5 : Hid (IsSrc w5 w.heap.size x len cap) := hs5
    clear hs5 hg5 hv1 HB4 HY4 HS4
    go_wp2_with fail
    refine (bytes_any w.heap.size x len cap w5 v' (by omega) hz5 HS5.out HY5.out).mono ?_
    rintro e w6 ⟨t', rfl, ht', hs6, hg6⟩
    have HB6 : Hid (Below w.heap.size w w6) := HB5.out.grown hg6 (Nat.le_of_lt hz5) (fun k e => by simp at e; omega)
    have HM : Hid _ := crc.spec_crc t' w6 (by unfold maxLen; omega)
    clear hs6 hg6 ht' HB5 HY5 HS5
    go_wp2_with fail
    refine Calls.mono HM.out ?_
    rintro e w7 ⟨rfl, rfl⟩
    obtain ⟨r0, r1⟩ := more_range t'
    generalize crc.moreN 0 t' = c at r0 r1
    have HR : Hid (-9223372036854775808 ≤ c ∧ c ≤ 9223372036854775807) := ⟨r0, r1⟩
    clear r0 r1 HM
    go_wp2
    exact bodyPost_ret (v := .tuple #[.int .i64 c, .string t]) (by simp [results, Try.results9, go_sem]) rfl ⟨c, t, rfl, HR.out.1, HR.out.2, HT.out, HB6.out⟩
  · go_wp2_with fail
    refine (edge_any w.heap.size x len cap w4 hz4 HS4.out HY4.out).mono ?_
    rintro e w5 ⟨c, rfl, hv0, hv1, hs5, hg5⟩
    have HB5 : Hid (Below w.heap.size w w5) := HB4.out.grown hg5 (Nat.le_of_lt hz4) (fun k e => by simp at e; omega)
    have HR : Hid (-9223372036854775808 ≤ c ∧ c ≤ 9223372036854775807) := ⟨hv0, hv1⟩
    clear hs5 hg5 hv0 hv1
    go_wp2
    exact bodyPost_ret (v := .tuple #[.int .i64 c, .string t]) (by simp [results, Try.results9, go_sem]) rfl ⟨c, t, rfl, HR.out.1, HR.out.2, HT.out, HB5.out⟩

theorem lwAt_none (x : Option Addr) (cap k : Nat) (most : Int) (w : World) (hm : 1 < most) :
    Calls Try.prog 7 #[.slice x 0 cap, .int .i64 k, .int .i64 most] w fun e w' => e = .returned (.int .i64 0) ∧ w' = w := by
  go_enter Try.func7, Try.ntmps7
  go_wp2
  go_ret
  exact ⟨rfl, rfl⟩
set_option maxHeartbeats 1000000 in
theorem lwAt_some (b off len cap k z : Nat) (most : Int) (w : World) (hl : (len : Int) ≤ 9223372036854775807) (hk : k ≤ 1) (h0 : 0 < len) (hm : 1 < most) (hm2 : most ≤ 8000) (hz : z < 256) (hc : w.cell? ⟨b, off + k % len, none⟩ = some (.int .u8 (z : Int))) :
    Calls Try.prog 7 #[.slice (some ⟨b, off, none⟩) len cap, .int .i64 k, .int .i64 most] w fun e w' => e = .returned (.int .i64 ((z : Int) % most)) ∧ w' = w := by
  have hne : ((len : Int) == 0) = false := by simp; omega
  have hne2 : ¬ (len : Int) = 0 := by omega
  have hi0 : 0 ≤ (k : Int) % (len : Int) := Int.emod_nonneg _ hne2
  have hi1 : (k : Int) % (len : Int) < (len : Int) := Int.emod_lt_of_pos _ (by omega)
  go_enter Try.func7, Try.ntmps7
  go_wp2
  go_ret
  exact ⟨rfl, rfl⟩

/-- a number out of a row of bytes, in every world with the same memory -/
theorem lwAt_any (x : Option Addr) (len cap k : Nat) (most : Int) (B : Nat) (w : World) (hby : Byts w x len B) (hk : k ≤ 1) (hm : 1 < most) (hm2 : most ≤ 8000) :
    ∃ v : Nat, (v : Int) < most ∧ ∀ W : World, W.heap = w.heap → Calls Try.prog 7 #[.slice x len cap, .int .i64 k, .int .i64 most] W fun e w' => e = .returned (.int .i64 (v : Int)) ∧ w' = W := by
  rcases Nat.eq_zero_or_pos len with rfl | h0
  · exact ⟨0, by omega, fun W _ => lwAt_none x cap k most W hm⟩
  · obtain ⟨b, off, z, rfl, hb, hz, hc⟩ := hby.2 (k % len) (Nat.mod_lt _ h0)
    have hv0 : 0 ≤ (z : Int) % most := Int.emod_nonneg _ (by omega)
    have hv1 : (z : Int) % most < most := Int.emod_lt_of_pos _ (by omega)
    have hcall := fun W (hW : W.heap = w.heap) => lwAt_some b off len cap k z most W hby.1 hk h0 hm hm2 hz (by unfold World.cell? at hc ⊢; rw [hW]; exact hc)
    obtain ⟨v, hv⟩ := Int.eq_ofNat_of_zero_le hv0
    rw [hv] at hcall hv1
    exact ⟨v, hv1, hcall⟩
end Go.Proofs.Ytjiihkdnpblilaa.draws
