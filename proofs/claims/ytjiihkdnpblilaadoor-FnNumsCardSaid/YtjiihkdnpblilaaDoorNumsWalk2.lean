/-
  The walk of the law FnNums at rows that are not too long.
-/
import Derived.Test.YtjiihkdnpblilaaDoorNumsWalk
namespace Go.Proofs.YtjiihkdnpblilaaDoor.nums
open Go.RowKit Go.Deep
open Go.Proofs.YtjiihkdnpblilaaDoor
set_option linter.unusedVariables false

theorem cut_last (t : ByteArray) (h : 1 ≤ t.size) (wx : World) : (Instr.slice 9 (.string t) none (some (.int .i64 ((t.size : Int) - 1))) none).run Tryd.prog wx = .ok (.string (t.extract 0 (t.size - 1))) wx := by
  rw [run_slice_string_h (w := wx) 9 t Tryd.underlying9 .i64 _ (by omega) (by omega), show ((t.size : Int) - 1).toNat = t.size - 1 by omega]

theorem loop_len (bs : ByteArray) : ∀ (k i : Nat) (r : List UInt8), bs.size - i = k → (ByteArray.toList.loop bs i r).length = r.length + k := by
  intro k
  induction k with
  | zero => intro i r h; rw [ByteArray.toList.loop, if_neg (by omega)]; simp
  | succ k ih => intro i r h; rw [ByteArray.toList.loop, if_pos (by omega), ih (i + 1) _ (by omega)]; simp; omega
theorem tolist_empty (p : ByteArray) (h : p.size ≠ 0) : p.toList.isEmpty = false := by
  have := loop_len p p.size 0 [] (by omega)
  cases h2 : p.toList with
  | nil => rw [ByteArray.toList] at h2; rw [h2] at this; simp at this; omega
  | cons a l => rfl

theorem code_num (a b c : Value) (wx : World) : (Instr.field 26 (.agg #[a, b, c]) 2).run Tryd.prog wx = .ok c wx := by kernel_rfl
theorem code_text (a b c : Value) (wx : World) : (Instr.field 31 (.agg #[a, b, c]) 2).run Tryd.prog wx = .ok c wx := by kernel_rfl
theorem up {w : World} {x : Option Addr} {len B B' : Nat} (h : draws.Byts w x len B) (hB : B ≤ B') : draws.Byts w x len B' :=
  ⟨h.1, fun i hi => by
    obtain ⟨b, off, z, hx, hb, hz, hc⟩ := h.2 i hi
    exact ⟨b, off, z, hx, by omega, hz, hc⟩⟩

set_option maxHeartbeats 2000000 in
set_option maxRecDepth 100000 in
theorem small (x : Option Addr) (len cap : Nat) (y : Option Addr) (len' cap' : Nat) (w : World) (hl : len ≤ 1048576) (hl' : len' ≤ 1048576)
    (hx : draws.Byts w x len w.heap.size) (hy : draws.Byts w y len' w.heap.size) (hL : get.Laid w) :
    Calls Tryd.prog 3 #[.slice x len cap, .slice y len' cap'] w fun e w' => e = .returned (.bool true) ∧ Below w.heap.size w w' := by
  have HD : Hid _ := draws.drawPutNum x len cap w hx
  have HY : Hid (draws.Byts w y len' w.heap.size) := hy
  have HL : Hid (get.Laid w) := hL
  clear hx hy hL
  go_enter Tryd.func3, Tryd.ntmps3
  go_wp2_with fail
  refine Calls.mono HD.out ?_
  rintro e w1 ⟨n, rfl, hn0, hn1, hb1⟩
  have NT : Hid (NumT n (put.numS n)) := numT n hn0 hn1
  have HL1 : Hid (get.Laid w1) := get.Laid.below HL.out hb1 (get.Laid.pos HL.out)
  have HB1 : Hid (Below w.heap.size w w1) := hb1
  clear hb1 hn0 hn1 HD
  have fN := code_num
  have fT := code_text
  generalize put.numS n = t at NT
  have ht1 := NT.out.lo
  have ht2 := NT.out.hi
  go_wp2_with fail
  refine Calls.mono (NT.out.put _) ?_
  rintro e w2 ⟨rfl, hb2⟩
  have hs1 := HB1.out.size
  have HL2 : Hid (get.Laid w2) := get.Laid.below HL1.out hb2 (get.Laid.pos HL1.out)
  have HB2 : Hid (Below w.heap.size w w2) := HB1.out.trans (hb2.mono hs1)
  clear hb2 hs1 HL1 HB1
  go_wp2_with fail
  refine Calls.mono (NT.out.puts _) ?_
  rintro e w3 ⟨rfl, hb3⟩
  have hs2 := HB2.out.size
  have HL3 : Hid (get.Laid w3) := get.Laid.below HL2.out hb3 (get.Laid.pos HL2.out)
  have HB3 : Hid (Below w.heap.size w w3) := HB2.out.trans (hb3.mono hs2)
  clear hb3 hs2 HL2 HB2
  go_wp2_with fail
  refine Calls.mono (NT.out.full _ HL3.out) ?_
  rintro e w4 ⟨rfl, hb4⟩
  have hs3 := HB3.out.size
  have HL4 : Hid (get.Laid w4) := get.Laid.below HL3.out hb4 (get.Laid.pos HL3.out)
  have HB4 : Hid (Below w.heap.size w w4) := HB3.out.trans (hb4.mono hs3)
  clear hb4 hs3 HL3 HB3
  have hcut := cut_last t ht1
  go_wp2_with fail
  refine Calls.mono (NT.out.cut _ (get.Laid.alloc HL4.out _)) ?_
  rintro e w5 ⟨rfl, hb5⟩
  have hs4 := HB4.out.size
  have HL5 : Hid (get.Laid w5) := get.Laid.below (get.Laid.alloc HL4.out _) hb5 (by simp)
  have HB5 : Hid (Below w.heap.size w w5) := (HB4.out.alloc hs4 _).trans (hb5.mono (by simp; omega))
  clear hb5 hs4 HL4 HB4 hcut
  have hs5 := HB5.out.size
  have HE : Hid _ := draws.drawPutText y len' cap' w5 (up (HY.out.below HB5.out (Nat.le_refl _)) hs5)
  clear HY
  go_wp2_with fail
  refine Calls.mono HE.out ?_
  rintro e w6 ⟨u, rfl, hu, hb6⟩
  have HL6 : Hid (get.Laid w6) := get.Laid.below HL5.out hb6 (get.Laid.pos HL5.out)
  have HB6 : Hid (Below w.heap.size w w6) := HB5.out.trans (hb6.mono hs5)
  have TT : Hid (TextT u (text.textS u)) := textT u hu
  generalize text.textS u = p at TT
  have hp2 := TT.out.hi
  clear hb6 hs5 HL5 HB5 HE
  go_wp2_with fail
  refine Calls.mono (TT.out.put _) ?_
  rintro e w7 ⟨rfl, hb7⟩
  have hs6 := HB6.out.size
  have HL7 : Hid (get.Laid w7) := get.Laid.below HL6.out hb7 (get.Laid.pos HL6.out)
  have HB7 : Hid (Below w.heap.size w w7) := HB6.out.trans (hb7.mono hs6)
  clear hb7 hs6 HL6 HB6
  go_wp2_with fail
  refine Calls.mono (TT.out.puts _) ?_
  rintro e w8 ⟨rfl, hb8⟩
  have hs7 := HB7.out.size
  have HL8 : Hid (get.Laid w8) := get.Laid.below HL7.out hb8 (get.Laid.pos HL7.out)
  have HB8 : Hid (Below w.heap.size w w8) := HB7.out.trans (hb8.mono hs7)
  clear hb8 hs7 HL7 HB7
  by_cases hp : p = ⟨#[]⟩
  · subst hp
    go_wp2_with fail
    refine Calls.mono (TT.out.puts _) ?_
    rintro e w9 ⟨rfl, hb9⟩
    have HB9 : Hid (Below w.heap.size w w9) := HB8.out.trans (hb9.mono HB8.out.size)
    clear hb9
    go_wp2
    go_ret
    exact ⟨rfl, HB9.out⟩
  · have hp0 : p.size ≠ 0 := fun h => hp (by
      apply ByteArray.ext
      apply Array.toList_inj.1
      exact List.eq_nil_of_length_eq_zero (by simpa using h))
    have hpe := tolist_empty p hp0
    clear hp
    by_cases hp1 : 8000 < p.size + 1
    · go_wp2
      go_ret
      exact ⟨rfl, HB8.out⟩
    · have HF := TT.out.full hp0 (by omega)
      have HF' : Hid _ := HF
      have HC' : Hid _ := TT.out.cut hp0 (by omega)
      clear HF
      have hcut := cut_last p (by omega)
      go_wp2_with fail
      refine Calls.mono (HF'.out _ HL8.out) ?_
      rintro e w9 ⟨rfl, hb9⟩
      have hs8 := HB8.out.size
      have HL9 : Hid (get.Laid w9) := get.Laid.below HL8.out hb9 (get.Laid.pos HL8.out)
      have HB9 : Hid (Below w.heap.size w w9) := HB8.out.trans (hb9.mono hs8)
      clear hb9 hs8 HL8 HB8
      obtain ⟨a, b, hc⟩ := HC'.out _ HL9.out
      have HC9 : Hid _ := hc
      clear hc
      go_wp2_with fail
      refine Calls.mono HC9.out ?_
      rintro e w10 ⟨rfl, hb10⟩
      have HB10 : Hid (Below w.heap.size w w10) := HB9.out.trans (hb10.mono HB9.out.size)
      clear hb10
      go_wp2
      go_ret
      exact ⟨rfl, HB10.out⟩

theorem walk (x : Option Addr) (len cap : Nat) (y : Option Addr) (len' cap' : Nat) (w : World) (hx : draws.Byts w x len w.heap.size) (hy : draws.Byts w y len' w.heap.size) (hL : get.Laid w) :
    Calls Tryd.prog 3 #[.slice x len cap, .slice y len' cap'] w fun e w' => e = .returned (.bool true) ∧ Below w.heap.size w w' := by
  by_cases hb : 1048576 < len ∨ 1048576 < len'
  · exact big x len cap y len' cap' w hx.1 hy.1 hb
  · exact small x len cap y len' cap' w (by omega) (by omega) hx hy hL
end Go.Proofs.YtjiihkdnpblilaaDoor.nums
