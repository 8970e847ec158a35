/-
  The walk of the law FnSeal: it answers true at every two rows of bytes.
-/
import Derived.Test.YtjiihkdnpblilaaSealWalk
namespace Go.Proofs.Ytjiihkdnpblilaa.sealed
open Go.RowKit Go.Deep
open Go.Proofs.Ytjiihkdnpblilaa
set_option linter.unusedVariables false

theorem code_text (a b c : Value) (wx : World) : (Instr.field 27 (.agg #[a, b, c]) 2).run Try.prog wx = .ok c wx := by kernel_rfl
theorem up {w : World} {x : Option Addr} {len B B' : Nat} (h : draws.Byts w x len B) (hB : B ≤ B') : draws.Byts w x len B' :=
  ⟨h.1, fun i hi => by
    obtain ⟨b, off, z, hx, hb, hz, hc⟩ := h.2 i hi
    exact ⟨b, off, z, hx, by omega, hz, hc⟩⟩
theorem tolist_empty (p : ByteArray) (h : p.size ≠ 0) : p.toList.isEmpty = false := by
  rw [ByteArray.toList_eq]
  cases h2 : p.data.toList with
  | nil => exact absurd (by simpa using congrArg List.length h2) h
  | cons a l => rfl

theorem big (x : Option Addr) (len cap : Nat) (y : Option Addr) (len' cap' : Nat) (w : World) (h : (len : Int) ≤ 9223372036854775807) (h' : (len' : Int) ≤ 9223372036854775807) (hb : 1048576 < len ∨ 1048576 < len') :
    Calls Try.prog 3 #[.slice x len cap, .slice y len' cap'] w fun e w' => e = .returned (.bool true) ∧ Below w.heap.size w w' := by
  by_cases h1 : 1048576 < len
  · clear hb
    go_enter Try.func3, Try.ntmps3
    go_wp2
    go_ret
    exact ⟨rfl, Below.refl _ _⟩
  · have h2 : 1048576 < len' := by omega
    clear hb
    go_enter Try.func3, Try.ntmps3
    go_wp2
    go_ret
    exact ⟨rfl, Below.refl _ _⟩

set_option maxHeartbeats 4000000 in
set_option maxRecDepth 100000 in
theorem small (x : Option Addr) (len cap : Nat) (y : Option Addr) (len' cap' : Nat) (w : World) (hl : len ≤ 1048576) (hl' : len' ≤ 1048576)
    (hx : draws.Byts w x len w.heap.size) (hy : draws.Byts w y len' w.heap.size) :
    Calls Try.prog 3 #[.slice x len cap, .slice y len' cap'] w fun e w' => e = .returned (.bool true) ∧ Below w.heap.size w w' := by
  have HD : Hid _ := draws.drawSeal x len cap w hx
  have HY : Hid (draws.Byts w y len' w.heap.size) := hy
  clear hx hy
  go_enter Try.func3, Try.ntmps3
  go_wp2_with fail
  refine Calls.mono HD.out ?_
  rintro e w1 ⟨t, rfl, ht, hb1⟩
  have HB1 : Hid (Below w.heap.size w w1) := hb1
  clear hb1 HD
  have HP : Hid _ := fun W => sealing.impl_seal t W (by unfold maxLen; omega)
  have HQ : Hid _ := fun W => sealing.spec_seal t W (by unfold maxLen; omega)
  obtain ⟨s, hs⟩ : ∃ s, s = sealing.sealN t := ⟨_, rfl⟩
  rw [← hs] at HP HQ
  have HSE : Hid (s = sealing.sealN t) := hs
  clear hs
  go_wp2_with fail
  refine Calls.mono (HP.out _) ?_
  rintro e w2 ⟨rfl, hb2⟩
  have HB2 : Hid (Below w.heap.size w w2) := HB1.out.trans (hb2.mono HB1.out.size)
  clear hb2 HB1
  go_wp2_with fail
  refine Calls.mono (HQ.out _) ?_
  rintro e w3 ⟨rfl, hb3⟩
  have HB3 : Hid (Below w.heap.size w w3) := HB2.out.trans (hb3.mono HB2.out.size)
  clear hb3 HB2 HP HQ
  have fT := code_text
  by_cases hbig : 7996 < t.size
  · have hs : s = ⟨#[]⟩ := HSE.out.trans (if_pos hbig)
    clear HSE
    subst hs
    have hs3 := HB3.out.size
    have HE : Hid _ := draws.drawCrcMore y len' cap' w3 (up (HY.out.below HB3.out (Nat.le_refl _)) hs3)
    go_wp2_with fail
    refine Calls.mono HE.out ?_
    rintro e wa ⟨c, u, rfl, hc0, hc1, hu, hba⟩
    have HBa : Hid (Below w.heap.size w wa) := HB3.out.trans (hba.mono hs3)
    clear hba hs3 HB3 HE
    by_cases hsum : 8000 < t.size + u.size
    · go_wp2
      go_ret
      exact ⟨rfl, HBa.out⟩
    · have hg := goes_on t u (by omega)
      have HI := fun W => crc.impl_crcMore c u W (by unfold maxLen; omega)
      have HS := fun W => crc.spec_crcMore c u W (by unfold maxLen; omega)
      have HT := fun W => crc.impl_crc t W (by unfold maxLen; omega)
      have HM := fun W => crc.impl_crcMore (crc.moreN 0 t) u W (by unfold maxLen; omega)
      have HU := fun W => crc.impl_crc (t ++ u) W (by rw [ByteArray.size_append]; unfold maxLen; omega)
      rw [hg] at HM
      generalize crc.moreN c u = m1 at HI HS
      generalize crc.moreN 0 t = m2 at HT HM hg
      generalize crc.moreN 0 (t ++ u) = m3 at HM HU hg
      have HI' : Hid _ := HI
      have HS' : Hid _ := HS
      have HT' : Hid _ := HT
      have HM' : Hid _ := HM
      have HU' : Hid _ := HU
      clear HI HS HT HM HU hg
      go_wp2_with fail
      refine Calls.mono (HI'.out _) ?_
      rintro e wb ⟨rfl, rfl⟩
      go_wp2_with fail
      refine Calls.mono (HS'.out _) ?_
      rintro e wb ⟨rfl, rfl⟩
      go_wp2_with fail
      refine Calls.mono (HT'.out _) ?_
      rintro e wb ⟨rfl, rfl⟩
      go_wp2_with fail
      refine Calls.mono (HM'.out _) ?_
      rintro e wb ⟨rfl, rfl⟩
      go_wp2_with fail
      refine Calls.mono (HU'.out _) ?_
      rintro e wb ⟨rfl, rfl⟩
      go_wp2
      go_ret
      exact ⟨rfl, HBa.out⟩
  · have hs : s = t ++ four.bytes4 (reg.crcN 0 t.data.toList) := HSE.out.trans (if_neg hbig)
    have hz : s.size = t.size + 4 := by rw [hs, ByteArray.size_append, sealing.bytes4_size]
    have HSE' : Hid (s = t ++ four.bytes4 (reg.crcN 0 t.data.toList)) := hs
    have hz0 : 4 ≤ s.size := by omega
    have hz1 : s.size ≤ 8000 := by omega
    clear hs HSE hz
    have hse := tolist_empty s (by omega)
    obtain ⟨cp, w4, h4⟩ := to_bytes s w3
    have hrun := h4.run
    have HR : Hid (Row1 s w3 w4 cp) := h4
    have HB4 : Hid (Below w.heap.size w w4) := HB3.out.trans (h4.below.mono HB3.out.size)
    clear h4
    have hs3 := HB3.out.size
    obtain ⟨v, hv, hat⟩ := draws.lwAt_any y len' cap' 0 (s.size : Int) _ w4 (HY.out.below HB4.out (Nat.le_refl _)) (by omega) (by omega) (by omega)
    obtain ⟨k, hk, hby⟩ := draws.lwAt_any y len' cap' 1 255 _ w4 (HY.out.below HB4.out (Nat.le_refl _)) (by omega) (by omega) (by omega)
    rw [show ((0 : Nat) : Int) = 0 from rfl] at hat
    rw [show ((1 : Nat) : Int) = 1 from rfl] at hby
    have HAT : Hid _ := hat
    have HBY : Hid _ := hby
    clear hat hby
    go_wp2_with fail
    refine Calls.mono (HAT.out _ rfl) ?_
    rintro e wz ⟨rfl, rfl⟩
    have hv' : v < s.size := by omega
    have hcell := HR.out.row v (by rw [nums_len]; exact hv')
    have hfree := HR.out.free v hv'
    obtain ⟨a, ha⟩ : ∃ a, a = (nums s).getD v 0 := ⟨_, rfl⟩
    rw [← ha] at hcell
    have HA : Hid (a = (nums s).getD v 0) := ha
    clear ha HAT hrun
    go_wp2_with fail
    go_region_with (go_at_call 7; refine Calls.mono (HBY.out _ rfl) ?_; rintro e wz ⟨rfl, rfl⟩)
    all_goals
      have eK : IntKind.u8.wrap (IntKind.i64.wrap (1 + (k : Int))) = ((1 + k : Nat) : Int) := by
        rw [IntKind.wrap_i64, show IntKind.u8.wrap = fun n => n % 256 from by funext n; simp [IntKind.wrap, IntKind.bits, IntKind.signed]]
        simp only
        omega
      obtain ⟨z, ez⟩ : ∃ z, z = bits .xor .u8 a (IntKind.u8.wrap (IntKind.i64.wrap (1 + (k : Int)))) := ⟨_, rfl⟩
      rw [← ez]
      have HZ : Hid (z = bits .xor .u8 ((nums s).getD v 0) ((1 + k : Nat) : Int)) := by rw [ez, eK, HA.out]; rfl
      obtain ⟨w5, e5⟩ : ∃ w5, w5 = (wz.setCell ⟨w3.heap.size, v, none⟩ (.int .u8 z)).drew := ⟨_, rfl⟩
      rw [← e5]
      have HR5 : Hid (RowB w5 w3.heap.size ((nums s).set v z)) := by rw [e5]; exact RowB.set HR.out.row (by rw [nums_len]; exact hv') z
      have HB5 : Hid (Below w.heap.size w w5) := by rw [e5]; exact (HB4.out.setCell (p := ⟨w3.heap.size, v, none⟩) hs3 _).drew
      have hz5 : w3.heap.size < w5.heap.size := by
        have h5 := HR.out.size
        rw [e5]
        show _ < (wz.setCell ⟨w3.heap.size, v, none⟩ (.int .u8 z)).heap.size
        simpa [World.setCell] using h5
      have HU1 : Hid (∀ W, Calls Try.prog 8 #[.string s] W fun e w' => e = .returned (.agg #[.string t, .int .i64 0, .int .i64 0]) ∧ Below W.heap.size W w') := by
        intro W
        have := opening.impl_unseal s W (by unfold maxLen; omega)
        rw [show opening.told s = (t, 0) by rw [HSE'.out]; exact reg.told_back t (by omega)] at this
        exact this
      have HU2 : Hid (∀ W, Calls Try.prog 8 #[.string (strOfNums ((nums s).set v z))] W fun e w' => e = .returned (.agg #[.string ⟨#[]⟩, .int .i64 0, .int .i64 5]) ∧ Below W.heap.size W w') := by
        intro W
        have := opening.impl_unseal (strOfNums ((nums s).set v z)) W (by rw [strOfNums_size, List.length_set, nums_len]; unfold maxLen; omega)
        rw [show opening.told (strOfNums ((nums s).set v z)) = (⟨#[]⟩, 5) by
          have HZ' := HZ.out
          rw [HSE'.out] at HZ' hv' ⊢
          exact turned t (by omega) v (1 + k) hv' (by omega) (by omega) z HZ'] at this
        exact this
      clear eK ez e5 HZ HA HSE' HR HB4 HB3 hcell hfree HBY
      go_wp2_with fail
      refine Calls.mono (HU1.out _) ?_
      rintro e w6 ⟨rfl, hb6⟩
      have hback := RowB.back (cap := cp) (HR5.out.below hb6 hz5) (n := s.size) (by rw [List.length_set, nums_len])
      have HB6 : Hid (Below w.heap.size w w6) := HB5.out.trans (hb6.mono HB5.out.size)
      generalize strOfNums ((nums s).set v z) = b' at hback HU2
      clear hb6 HR5 HB5 HU1
      go_wp2_with fail
      refine Calls.mono (HU2.out _) ?_
      rintro e w7 ⟨rfl, hb7⟩
      have HB7 : Hid (Below w.heap.size w w7) := HB6.out.trans (hb7.mono HB6.out.size)
      clear hb7 HB6 HU2 hback
      have hs7 := HB7.out.size
      have HE : Hid _ := draws.drawCrcMore y len' cap' w7 (up (HY.out.below HB7.out (Nat.le_refl _)) hs7)
      go_wp2_with fail
      refine Calls.mono HE.out ?_
      rintro e wa ⟨c, u, rfl, hc0, hc1, hu, hba⟩
      have HBa : Hid (Below w.heap.size w wa) := HB7.out.trans (hba.mono hs7)
      clear hba hs7 HB7 HE
      by_cases hsum : 8000 < t.size + u.size
      · go_wp2
        go_ret
        exact ⟨rfl, HBa.out⟩
      · have hg := goes_on t u (by omega)
        have HI := fun W => crc.impl_crcMore c u W (by unfold maxLen; omega)
        have HS := fun W => crc.spec_crcMore c u W (by unfold maxLen; omega)
        have HT := fun W => crc.impl_crc t W (by unfold maxLen; omega)
        have HM := fun W => crc.impl_crcMore (crc.moreN 0 t) u W (by unfold maxLen; omega)
        have HU := fun W => crc.impl_crc (t ++ u) W (by rw [ByteArray.size_append]; unfold maxLen; omega)
        rw [hg] at HM
        generalize crc.moreN c u = m1 at HI HS
        generalize crc.moreN 0 t = m2 at HT HM hg
        generalize crc.moreN 0 (t ++ u) = m3 at HM HU hg
        have HI' : Hid _ := HI
        have HS' : Hid _ := HS
        have HT' : Hid _ := HT
        have HM' : Hid _ := HM
        have HU' : Hid _ := HU
        clear HI HS HT HM HU hg
        go_wp2_with fail
        refine Calls.mono (HI'.out _) ?_
        rintro e wb ⟨rfl, rfl⟩
        go_wp2_with fail
        refine Calls.mono (HS'.out _) ?_
        rintro e wb ⟨rfl, rfl⟩
        go_wp2_with fail
        refine Calls.mono (HT'.out _) ?_
        rintro e wb ⟨rfl, rfl⟩
        go_wp2_with fail
        refine Calls.mono (HM'.out _) ?_
        rintro e wb ⟨rfl, rfl⟩
        go_wp2_with fail
        refine Calls.mono (HU'.out _) ?_
        rintro e wb ⟨rfl, rfl⟩
        go_wp2
        go_ret
        exact ⟨rfl, HBa.out⟩

theorem walk (x : Option Addr) (len cap : Nat) (y : Option Addr) (len' cap' : Nat) (w : World) (hx : draws.Byts w x len w.heap.size) (hy : draws.Byts w y len' w.heap.size) :
    Calls Try.prog 3 #[.slice x len cap, .slice y len' cap'] w fun e w' => e = .returned (.bool true) ∧ Below w.heap.size w w' := by
  by_cases hb : 1048576 < len ∨ 1048576 < len'
  · exact big x len cap y len' cap' w hx.1 hy.1 hb
  · exact small x len cap y len' cap' w (by omega) (by omega) hx hy
end Go.Proofs.Ytjiihkdnpblilaa.sealed
