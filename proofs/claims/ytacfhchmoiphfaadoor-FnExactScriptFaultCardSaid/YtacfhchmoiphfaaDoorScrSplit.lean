/-
  A text cut at each sign of a kind: the specification's l01Split. Condition: at most 8000 bytes.
-/
import Derived.Test.YtacfhchmoiphfaaDoorScrTextW
import Derived.Test.YtacfhchmoiphfaaDoorGrow
namespace Go.Proofs.YtacfhchmoiphfaaDoor.scr
open Go.RowKit Go.Deep Go.Sort
open Go.Proofs.YtacfhchmoiphfaaDoor
open Go.Proofs.YtacfhchmoiphfaaDoor.deep (Blk OwnC)
set_option linter.unusedVariables false
set_option maxRecDepth 100000

/-- what is cut off of the first signs, and where the next part begins -/
def cutTo (s : ByteArray) (b : Int) : Nat → List ByteArray × Nat
  | 0 => ([], 0)
  | i + 1 => if h : i < s.size then (if (s[i].toNat : Int) = b then ((cutTo s b i).1 ++ [s.extract (cutTo s b i).2 i], i + 1) else cutTo s b i) else cutTo s b i
def cutS (s : ByteArray) (b : Int) : List ByteArray := (cutTo s b s.size).1 ++ [s.extract (cutTo s b s.size).2 s.size]
theorem cut_yes {s : ByteArray} {b : Int} {i : Nat} (h : i < s.size) (e : (s[i].toNat : Int) = b) : cutTo s b (i + 1) = ((cutTo s b i).1 ++ [s.extract (cutTo s b i).2 i], i + 1) := by rw [cutTo, dif_pos h, if_pos e]
theorem cut_no {s : ByteArray} {b : Int} {i : Nat} (h : i < s.size) (e : ¬ (s[i].toNat : Int) = b) : cutTo s b (i + 1) = cutTo s b i := by rw [cutTo, dif_pos h, if_neg e]
theorem cut_le (s : ByteArray) (b : Int) : ∀ i, (cutTo s b i).2 ≤ i ∧ (cutTo s b i).1.length ≤ i
  | 0 => ⟨Nat.le_refl _, Nat.le_refl _⟩
  | i + 1 => by
    have := cut_le s b i
    by_cases h : i < s.size
    · by_cases e : (s[i].toNat : Int) = b
      · rw [cut_yes h e]; simp; omega
      · rw [cut_no h e]; omega
    · have e : cutTo s b (i + 1) = cutTo s b i := by rw [cutTo, dif_neg h]
      rw [e]; omega
def strV (s : ByteArray) : List Value := [.string s]
/-- a row of texts of the call's own -/
def Strs (base : Nat) (w : World) (v : Value) (xs : List ByteArray) : Prop := OwnC 9 1 base w v (xs.map strV)
theorem info_st : (Tryd.prog.info? 9).map (fun i => (i.zero, i.size, i.bytes)) = some (some (.string ⟨#[]⟩), 1, 16) := by kernel_rfl
theorem strV_one (x : ByteArray) : ∀ u ∈ strV x, u.oneCell' = true := by
  intro u hu
  simp [strV] at hu
  subst hu; rfl
theorem slice_mid (s : ByteArray) (a b : Nat) (h : a ≤ b) (hb : b ≤ s.size) (W : World) : (Instr.slice 9 (.string s) (some (.int .i64 (a : Int))) (some (.int .i64 (b : Int))) none).run Tryd.prog W = .ok (.string (s.extract a b)) W := by
  rw [run_slice_string (P := Tryd.prog) W 9 s .i64 .i64 _ _ Tryd.underlying9 (by omega) (by omega) (by omega), Int.toNat_natCast, Int.toNat_natCast]
theorem slice_end (s : ByteArray) (a : Nat) (h : a ≤ s.size) (W : World) : (Instr.slice 9 (.string s) (some (.int .i64 (a : Int))) none none).run Tryd.prog W = .ok (.string (s.extract a s.size)) W := by
  rw [run_slice_string_from_if W 9 s .i64 _ Tryd.underlying9, if_pos ⟨by omega, by omega⟩, Int.toNat_natCast]
theorem push_strs {base : Nat} {w wr w1 : World} {u v' : Value} {o : Obj} {xs : List ByteArray} {x : ByteArray} (h : Strs base wr u xs) (hb : Below base w wr) (hs : base ≤ wr.heap.size)
    (h1 : w1.ownsRow base 9 1 v' ((xs.map strV).length + 1) ((xs.map strV).flatten ++ strV x)) (hg : (wr.alloc o).grownBy w1 u.ownBlock) : Strs base w1 v' (xs ++ [x]) ∧ Below base w w1 := by
  refine ⟨?_, (hb.alloc hs o).grown hg (by simp; omega) (fun k hk => h.own_ge k hk)⟩
  unfold Strs
  rw [List.map_append]
  exact h.push rfl h1

set_option maxHeartbeats 4000000 in
theorem spec_split (s : ByteArray) (b : Int) (hs : s.size ≤ 8000) (w : World) : Calls Tryd.prog 35 #[.string s, .int .u8 b] w fun e w' => ∃ v, e = .returned v ∧ Strs w.heap.size w' v (cutS s b) ∧ Below w.heap.size w w' := by
  obtain ⟨i0, hi, hz0, hz1, hz2⟩ := info_parts info_st
  have HO : Hid (Strs w.heap.size (w.alloc (.cells #[] 9)) (.slice (some ⟨w.heap.size, 0, none⟩) 0 0) (cutTo s b 0).1) := ⟨by simp [cutTo], by simp only [cutTo]; exact World.ownsRow_made w #[] 0 (Nat.le_refl _) (by unfold maxLen; omega) rfl⟩
  have HB : Hid (Below w.heap.size w (w.alloc (.cells #[] 9))) := below_one _ _
  go_enter Tryd.func35, Tryd.ntmps35
  go_wp2_with fail
  go_loopw [5, 6, 7] (fun tv tf ti wr => ∃ (i f : Nat) (xs : List ByteArray), i ≤ s.size ∧ ti = .int .i64 i ∧ tf = .int .i64 f ∧ f ≤ i ∧ xs.length ≤ i ∧ Hid (cutTo s b i = (xs, f)) ∧ Hid (Strs w.heap.size wr tv xs) ∧ Hid (Below w.heap.size w wr)) (fun _ _ ti _ => s.size - (intOf ti).toNat)
  case atStart => exact ⟨0, 0, [], by omega, rfl, rfl, by omega, by simp, rfl, HO.out, HB.out⟩
  case round =>
    obtain ⟨i, f, xs, hi2, rfl, rfl, hf, hxl, HC, HR, HW⟩ := hrel
    clear HO HB
    have hws := HW.out.size
    by_cases hlt : i < s.size
    · by_cases e : (s[i].toNat : Int) = b
      · have hc := cut_yes hlt e
        have heq : (((s[i].toNat : Nat) : Int) == b) = true := by rw [e]; simp
        have hsl := slice_mid s f i hf (by omega)
        have HC2 : Hid (cutTo s b (i + 1) = (xs ++ [s.extract f i], i + 1)) := by rw [Hid, hc, HC.out]
        have HXL : Hid ((xs.map strV).length ≤ 8000) := by show _ ≤ _; rw [List.length_map]; omega
        have HP : Hid (∀ (v' : Value) (w1 : World) (u : Value) (o : Obj), Strs w.heap.size wr u xs → w1.ownsRow w.heap.size 9 1 v' ((xs.map strV).length + 1) ((xs.map strV).flatten ++ strV (s.extract f i)) → (wr.alloc o).grownBy w1 u.ownBlock → Strs w.heap.size w1 v' (xs ++ [s.extract f i]) ∧ Below w.heap.size w w1) := fun v' w1 u o h h1 h2 => push_strs h HW.out hws h1 h2
        clear hc e
        generalize s.extract f i = x at *
        go_wp2_with (at_builtin; refine wpList_append_own _ rfl _ _ 59 rfl w.heap.size 9 i0 (.string ⟨#[]⟩) 1 16 Tryd.underlying59 hi hz0 hz1 hz2 rfl (by decide) _ _ _ rfl (HR.out.row.alloc _) ⟨wr.heap.size, 0, none⟩ 1 1 (strV x) rfl rfl (deep.new_cells wr _ _) (strV_one _) (by have := HXL.out; unfold maxLen; omega) (by have := HXL.out; omega) (by simp; omega) ?_; intro v' w3 hown hgrow _; have HQ : Hid _ := HP.out v' w3 _ _ HR.out hown hgrow; clear hown hgrow)
        go_roundw
        case rel => exact ⟨i + 1, i + 1, xs ++ [x], by omega, by go_num, by go_num, by omega, by simp; omega, HC2.out, HQ.out.1, HQ.out.2⟩
        case measure => simp [intOf]; omega
      · have heq : (((s[i].toNat : Nat) : Int) == b) = false := by simp only [beq_eq_false_iff_ne, ne_eq]; exact e
        have HC2 : Hid (cutTo s b (i + 1) = (xs, f)) := by rw [Hid, cut_no hlt e, HC.out]
        clear e
        go_wp2_with fail
        go_roundw
        case rel => exact ⟨i + 1, f, xs, by omega, by go_num, rfl, by omega, by omega, HC2.out, HR.out, HW.out⟩
        case measure => simp [intOf]; omega
    · obtain rfl : i = s.size := by omega
      have HE : Hid (cutS s b = xs ++ [s.extract f s.size]) := by rw [Hid, cutS, HC.out]
      have hsl := slice_end s f hf
      have HXL : Hid ((xs.map strV).length ≤ 8000) := by show _ ≤ _; rw [List.length_map]; omega
      have HP : Hid (∀ (v' : Value) (w1 : World) (u : Value) (o : Obj), Strs w.heap.size wr u xs → w1.ownsRow w.heap.size 9 1 v' ((xs.map strV).length + 1) ((xs.map strV).flatten ++ strV (s.extract f s.size)) → (wr.alloc o).grownBy w1 u.ownBlock → Strs w.heap.size w1 v' (xs ++ [s.extract f s.size]) ∧ Below w.heap.size w w1) := fun v' w1 u o h h1 h2 => push_strs h HW.out hws h1 h2
      generalize s.extract f s.size = x at *
      go_wp2_with (at_builtin; refine wpList_append_own _ rfl _ _ 59 rfl w.heap.size 9 i0 (.string ⟨#[]⟩) 1 16 Tryd.underlying59 hi hz0 hz1 hz2 rfl (by decide) _ _ _ rfl (HR.out.row.alloc _) ⟨wr.heap.size, 0, none⟩ 1 1 (strV x) rfl rfl (deep.new_cells wr _ _) (strV_one _) (by have := HXL.out; unfold maxLen; omega) (by have := HXL.out; omega) (by simp; omega) ?_; intro v' w3 hown hgrow _; have HQ : Hid _ := HP.out v' w3 _ _ HR.out hown hgrow; clear hown hgrow)
      go_ret
      exact ⟨_, rfl, by rw [HE.out]; exact HQ.out.1, HQ.out.2⟩
end Go.Proofs.YtacfhchmoiphfaaDoor.scr
