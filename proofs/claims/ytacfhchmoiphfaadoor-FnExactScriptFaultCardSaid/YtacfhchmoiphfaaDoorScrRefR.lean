/-
  A reference is read: the specification's l12Ref. Condition: at most 8000 bytes.
-/
import Derived.Test.YtacfhchmoiphfaaDoorScrNum
import Derived.Test.YtacfhchmoiphfaaDoorLabelRead
namespace Go.Proofs.YtacfhchmoiphfaaDoor.scr
open Go.RowKit Go.Deep Go.Sort
open Go.Proofs.YtacfhchmoiphfaaDoor
open Go.Proofs.YtacfhchmoiphfaaDoor.deep (Blk OwnC)
open Go.Proofs.YtacfhchmoiphfaaDoor.lread (outL)
set_option linter.unusedVariables false
set_option maxRecDepth 100000

theorem extract_le (s : ByteArray) (a b : Nat) : (s.extract a b).size ≤ s.size := by rw [ByteArray.size_extract]; omega
theorem cutTo_size (s : ByteArray) (b : Int) : ∀ i, ∀ x ∈ (cutTo s b i).1, x.size ≤ s.size
  | 0, x, h => by simp [cutTo] at h
  | i + 1, x, h => by
    by_cases hl : i < s.size
    · by_cases e : (s[i].toNat : Int) = b
      · rw [cut_yes hl e] at h
        rcases List.mem_append.1 h with h | h
        · exact cutTo_size s b i x h
        · rw [List.mem_singleton.1 h]; exact extract_le _ _ _
      · rw [cut_no hl e] at h; exact cutTo_size s b i x h
    · have e : cutTo s b (i + 1) = cutTo s b i := by rw [cutTo, dif_neg hl]
      rw [e] at h; exact cutTo_size s b i x h
theorem cutS_size (s : ByteArray) (b : Int) : ∀ x ∈ cutS s b, x.size ≤ s.size := fun x h => by
  rcases List.mem_append.1 h with h | h
  · exact cutTo_size s b _ x h
  · rw [List.mem_singleton.1 h]; exact extract_le _ _ _
theorem cutS_len (s : ByteArray) (b : Int) : (cutS s b).length ≤ s.size + 1 := by
  rw [cutS, List.length_append]
  have := (cut_le s b s.size).2
  simp; omega
theorem cutS_pos (s : ByteArray) (b : Int) : 0 < (cutS s b).length := by rw [cutS, List.length_append]; simp
/-- a reference out of its parts -/
def refP (l : List ByteArray) : Int × Int := match l with
  | [x, y] => if (outL x).2 = 0 then ((outL x).1, numT y) else (-1, 0)
  | _ => (-1, 0)
def refR (s : ByteArray) : Int × Int := refP (cutS s 46)
theorem refP_off {l : List ByteArray} (h : ¬ l.length = 2) : refP l = (-1, 0) := by
  match l, h with
  | [], _ => rfl
  | [x], _ => rfl
  | [x, y], h => exact absurd rfl h
  | x :: y :: z :: t, _ => rfl
theorem two_of {l : List ByteArray} (h : l.length = 2) : ∃ x y, l = [x, y] := by
  match l, h with
  | [x, y], _ => exact ⟨x, y, rfl⟩
/-- a row of texts, cell by cell -/
theorem Strs.at {base : Nat} {w : World} {v : Value} {xs : List ByteArray} (h : Strs base w v xs) (h0 : 0 < xs.length) : ∃ g c, v = .slice (some ⟨g, 0, none⟩) xs.length c ∧ base ≤ g ∧ g < w.heap.size ∧ ∀ i (hi : i < xs.length), w.cell? ⟨g, i, none⟩ = some (.string xs[i]) := by
  obtain ⟨g, c, hv, h1, h2, h3, _⟩ := OwnC.at h (by rw [List.length_map]; exact h0)
  refine ⟨g, c, by rw [hv, List.length_map], h1, h2, fun i hi => ?_⟩
  have := h3 i (by rw [List.length_map]; exact hi) 0 (by decide)
  rw [show i * 1 + 0 = i by omega] at this
  rw [this]
  simp [strV]
theorem Strs.later {base : Nat} {w w' : World} {v : Value} {xs : List ByteArray} (h : Strs base w v xs) (hb : Below w.heap.size w w') : Strs base w' v xs := OwnC.later h hb

theorem keep_two {W : World} {B g : Nat} {m n x y : Value} (hg : g ≠ B) (h : W.cell? ⟨g, 0, none⟩ = some x ∧ W.cell? ⟨g, 1, none⟩ = some y) : ((W.setCell ⟨B, 0, none⟩ m).setCell ⟨B, 1, none⟩ n).cell? ⟨g, 0, none⟩ = some x ∧ ((W.setCell ⟨B, 0, none⟩ m).setCell ⟨B, 1, none⟩ n).cell? ⟨g, 1, none⟩ = some y := by
  have h1 : (⟨B, 0, none⟩ : Addr) ≠ ⟨g, 0, none⟩ := fun e => hg (by cases e; rfl)
  have h2 : (⟨B, 1, none⟩ : Addr) ≠ ⟨g, 0, none⟩ := fun e => hg (by cases e)
  have h3 : (⟨B, 0, none⟩ : Addr) ≠ ⟨g, 1, none⟩ := fun e => hg (by cases e)
  have h4 : (⟨B, 1, none⟩ : Addr) ≠ ⟨g, 1, none⟩ := fun e => hg (by cases e; rfl)
  rw [World.cell?_setCell_other _ _ _ _ h2, World.cell?_setCell_other _ _ _ _ h1, World.cell?_setCell_other _ _ _ _ h4, World.cell?_setCell_other _ _ _ _ h3]
  exact h
theorem num_field0 (a b c : Value) (wx : World) : (Instr.field 69 (.agg #[a, b, c]) 0).run Tryd.prog wx = .ok a wx := by kernel_rfl
theorem num_field2 (a b c : Value) (wx : World) : (Instr.field 69 (.agg #[a, b, c]) 2).run Tryd.prog wx = .ok c wx := by kernel_rfl
set_option maxHeartbeats 4000000 in
theorem spec_refr (s : ByteArray) (hs : s.size ≤ 8000) (w : World) : Calls Tryd.prog 57 #[.string s] w fun e w' => e = .returned (.agg #[.int .i64 (refR s).1, .int .i64 (refR s).2]) ∧ Below w.heap.size w w' := by
  have hf0 := num_field0
  have hf2 := num_field2
  have HSP : Hid (∀ W, Calls Tryd.prog 35 #[.string s, .int .u8 46] W fun e w' => ∃ v, e = .returned v ∧ Strs W.heap.size w' v (cutS s 46) ∧ Below W.heap.size W w') := fun W => spec_split s 46 hs W
  have hlen := cutS_len s 46
  have hpos := cutS_pos s 46
  have HSZ : Hid (∀ x ∈ cutS s 46, x.size ≤ 8000) := fun x hx => Nat.le_trans (cutS_size s 46 x hx) hs
  unfold refR
  generalize cutS s 46 = l at *
  have HW : Hid (Below w.heap.size w (w.alloc (.cells #[.int .i64 0, .int .i64 0] 24))) := below_one _ _
  have HZ : Hid (Blk (w.alloc (.cells #[.int .i64 0, .int .i64 0] 24)) w.heap.size 24 [.int .i64 0, .int .i64 0]) := deep.blk_new w _ _
  by_cases h2 : l.length = 2
  · obtain ⟨x, y, rfl⟩ := two_of h2
    have HX : Hid (x.size ≤ 8000) := HSZ.out x (by simp)
    have HY : Hid (y.size ≤ 8000) := HSZ.out y (by simp)
    have HL : Hid (∀ W, Calls Tryd.prog 36 #[.string x] W fun e w' => e = .returned (.agg #[.int .i64 (outL x).1, .int .i64 0, .int .i64 (outL x).2]) ∧ Below W.heap.size W w') := fun W => lread.spec_read x W (by have := HX.out; unfold maxLen; omega)
    have HN : Hid (∀ W, Calls Tryd.prog 58 #[.string y] W fun e w' => e = .returned (.int .i64 (numT y)) ∧ w' = W) := fun W => spec_num y (by have := HY.out; omega) W
    have HRR : Hid (refP [x, y] = if (outL x).2 = 0 then ((outL x).1, numT y) else (-1, 0)) := rfl
    generalize refP [x, y] = R at *
    generalize (outL x).1 = m at *
    generalize (outL x).2 = cd at *
    generalize numT y = nn at *
    clear hlen hpos HSZ h2
    by_cases hcd : cd = 0
    · subst hcd
      have HE : Hid (R = (m, nn)) := by rw [Hid, HRR.out, if_pos rfl]
      clear HRR
      go_enter Tryd.func57, Tryd.ntmps57
      go_wp2_with fail
      refine Calls.mono (HSP.out _) ?_
      rintro e w1 ⟨v, rfl, hst, hb1⟩
      have HZ1 : Hid (Blk w1 w.heap.size 24 [.int .i64 0, .int .i64 0]) := HZ.out.later hb1
      have HB1 : Hid (Below w.heap.size w w1) := below_tr HW.out hb1
      obtain ⟨g, c, rfl, hgb, hg, hc⟩ := hst.at (by simp)
      have hgn : g ≠ w.heap.size := by simp at hgb; omega
      have e0 : w1.cell? ⟨g, 0, none⟩ = some (.string x) := hc 0 (by simp)
      have e1 : w1.cell? ⟨g, 1, none⟩ = some (.string y) := hc 1 (by simp)
      simp only [List.length_cons, List.length_nil, Nat.zero_add]
      clear hst hb1 hc HSP HW HZ
      go_wp2_with fail
      refine Calls.mono (HL.out _) ?_
      rintro e w2 ⟨rfl, hb2⟩
      have HZ2 : Hid (Blk w2 w.heap.size 24 [.int .i64 0, .int .i64 0]) := HZ1.out.later hb2
      have HB2 : Hid (Below w.heap.size w w2) := below_tr HB1.out hb2
      have f0 : w2.cell? ⟨g, 0, none⟩ = some (.string x) := (hb2.cell (p := ⟨g, 0, none⟩) hg).trans e0
      have f1 : w2.cell? ⟨g, 1, none⟩ = some (.string y) := (hb2.cell (p := ⟨g, 1, none⟩) hg).trans e1
      have hg2 : g < w2.heap.size := Nat.lt_of_lt_of_le hg hb2.size
      clear hb2 e0 e1 HZ1 HB1
      go_wp2_with fail
      go_region_held3 (fun W => W.cell? ⟨g, 0, none⟩ = some (.string x) ∧ W.cell? ⟨g, 1, none⟩ = some (.string y))
        (first | assumption | exact keep_two hgn Z3 | exact ⟨f0, f1⟩)
        (first | (go_at_call 58; refine Calls.mono (HN.out _) ?_; rintro e w3' ⟨rfl, rfl⟩) | (go_at_call 36; refine Calls.mono (HL.out _) ?_; rintro e w3 ⟨rfl, hb3⟩; have Z3 : w3.cell? ⟨g, 0, none⟩ = some (.string x) ∧ w3.cell? ⟨g, 1, none⟩ = some (.string y) := ⟨(hb3.cell (p := ⟨g, 0, none⟩) hg2).trans f0, (hb3.cell (p := ⟨g, 1, none⟩) hg2).trans f1⟩; have HZ3 : Hid (Blk w3 w.heap.size 24 [.int .i64 0, .int .i64 0]) := HZ2.out.later (Below.trans (Below.drew (Below.refl w2.heap.size w2)) hb3); have r0 : w3.cell? ⟨w.heap.size, 0, none⟩ = some (.int .i64 0) := HZ3.out.cell 0; have r1 : w3.cell? ⟨w.heap.size, 1, none⟩ = some (.int .i64 0) := HZ3.out.cell 1; have y0 := HZ3.out.free 0; have y1 := HZ3.out.free 1))
      go_wp2_with fail
      refine bodyPost_ret (v := .agg #[.int .i64 R.1, .int .i64 R.2]) (by rw [HE.out]; simp [results, Tryd.results57, go_sem, r0, r1]) rfl ⟨rfl, ?_⟩
      exact deep.putW_below [.int .i64 m, .int .i64 nn] (HB2.out.trans ((Below.trans (Below.drew (Below.refl w2.heap.size w2)) hb3).mono HB2.out.size)) (Nat.le_refl _) (b := 0)
    · have HE : Hid (R = (-1, 0)) := by rw [Hid, HRR.out, if_neg hcd]
      have hne : (cd != 0) = true := by simp; exact hcd
      clear HRR hcd
      go_enter Tryd.func57, Tryd.ntmps57
      go_wp2_with fail
      refine Calls.mono (HSP.out _) ?_
      rintro e w1 ⟨v, rfl, hst, hb1⟩
      have HZ1 : Hid (Blk w1 w.heap.size 24 [.int .i64 0, .int .i64 0]) := HZ.out.later hb1
      have HB1 : Hid (Below w.heap.size w w1) := below_tr HW.out hb1
      obtain ⟨g, c, rfl, _, hg, hc⟩ := hst.at (by simp)
      have e0 : w1.cell? ⟨g, 0, none⟩ = some (.string x) := hc 0 (by simp)
      simp only [List.length_cons, List.length_nil, Nat.zero_add]
      clear hst hb1 hc HSP HW HZ
      go_wp2_with fail
      refine Calls.mono (HL.out _) ?_
      rintro e w2 ⟨rfl, hb2⟩
      have HZ2 : Hid (Blk w2 w.heap.size 24 [.int .i64 0, .int .i64 0]) := HZ1.out.later hb2
      have HB2 : Hid (Below w.heap.size w w2) := below_tr HB1.out hb2
      have r0 : w2.cell? ⟨w.heap.size, 0, none⟩ = some (.int .i64 0) := HZ2.out.cell 0
      have r1 : w2.cell? ⟨w.heap.size, 1, none⟩ = some (.int .i64 0) := HZ2.out.cell 1
      have y0 := HZ2.out.free 0
      have y1 := HZ2.out.free 1
      clear hb2 e0 HZ1 HB1
      go_wp2_with fail
      refine bodyPost_ret (v := .agg #[.int .i64 R.1, .int .i64 R.2]) (by rw [HE.out]; simp [results, Tryd.results57, go_sem, r0, r1]) rfl ⟨rfl, ?_⟩
      exact deep.putW_below [.int .i64 (-1), .int .i64 0] HB2.out (Nat.le_refl _) (b := 0)
  · have HE : Hid (refP l = (-1, 0)) := refP_off h2
    generalize refP l = R at *
    obtain ⟨n, hn⟩ : ∃ n, n = l.length := ⟨_, rfl⟩
    have hne : ((n : Int) != 2) = true := by simp; omega
    have HNL : Hid (n = l.length) := hn
    rw [← hn] at hlen hpos
    clear hn h2 HSZ
    go_enter Tryd.func57, Tryd.ntmps57
    go_wp2_with fail
    refine Calls.mono (HSP.out _) ?_
    rintro e w1 ⟨v, rfl, hst, hb1⟩
    have HZ1 : Hid (Blk w1 w.heap.size 24 [.int .i64 0, .int .i64 0]) := HZ.out.later hb1
    have HB1 : Hid (Below w.heap.size w w1) := below_tr HW.out hb1
    obtain ⟨g, c, rfl, _, hg, hc⟩ := hst.at (by rw [← HNL.out]; exact hpos)
    rw [← HNL.out]
    have r0 : w1.cell? ⟨w.heap.size, 0, none⟩ = some (.int .i64 0) := HZ1.out.cell 0
    have r1 : w1.cell? ⟨w.heap.size, 1, none⟩ = some (.int .i64 0) := HZ1.out.cell 1
    have y0 := HZ1.out.free 0
    have y1 := HZ1.out.free 1
    clear hst hb1 hc HSP HW HZ
    go_wp2_with fail
    refine bodyPost_ret (v := .agg #[.int .i64 R.1, .int .i64 R.2]) (by rw [HE.out]; simp [results, Tryd.results57, go_sem, r0, r1]) rfl ⟨rfl, ?_⟩
    exact deep.putW_below [.int .i64 (-1), .int .i64 0] HB1.out (Nat.le_refl _) (b := 0)
end Go.Proofs.YtacfhchmoiphfaaDoor.scr
