/-
  The laws' own helpers on buddies: made anew, measured, compared, marked and held.
-/
import Derived.Test.YtcokchfedaoccabBlkMark
import Derived.Test.YtcokchfedaoccabBuddyTake
namespace Go.Proofs.Ytcokchfedaoccab.brows
open Go.RowKit Go.Deep Go.Sort
open Go.Proofs.Ytcokchfedaoccab.bspec (own_block info_blk ret_int ret_bool Box)
set_option linter.unusedVariables false

/-- what a slice that was handed in reads as -/
def RdO (w : World) (v : Value) (xs : List Pr) : Prop :=
  ∃ (a : Option Addr) (c : Nat), v = .slice a xs.length c ∧ xs.length ≤ maxLen ∧
    (0 < xs.length → ∃ g o, a = some ⟨g, o, none⟩ ∧ g < w.heap.size ∧ ∀ i (hi : i < xs.length), w.cell? ⟨g, o + i * 2, none⟩ = some (.int .i64 xs[i].1) ∧ w.cell? ⟨g, o + i * 2 + 1, none⟩ = some (.int .i64 xs[i].2))
theorem RdO.below {w w' : World} {v : Value} {xs : List Pr} (h : RdO w v xs) (hb : Below w.heap.size w w') : RdO w' v xs := by
  obtain ⟨a, c, rfl, h1, h3⟩ := h
  refine ⟨a, c, rfl, h1, fun hn => ?_⟩
  obtain ⟨g, o, rfl, hg, hc⟩ := h3 hn
  exact ⟨g, o, rfl, Nat.lt_of_lt_of_le hg hb.size, fun i hi => ⟨(hb.cell (p := ⟨g, o + i * 2, none⟩) hg).trans (hc i hi).1, (hb.cell (p := ⟨g, o + i * 2 + 1, none⟩) hg).trans (hc i hi).2⟩⟩

theorem to_block (a b : Int) (w : World) : Calls Try.prog 59 #[.agg #[.int .i64 a, .int .i64 b]] w fun e w' => e = .returned (.agg #[.int .i64 a, .int .i64 b]) ∧ Below w.heap.size w w' := by
  go_enter Try.func59, Try.ntmps59
  go_wp2
  refine bodyPost_ret (v := .agg #[.int .i64 a, .int .i64 b]) (by simp [results, Try.results59, go_sem]) rfl ⟨rfl, ?_⟩
  first
    | exact (((Below.refl _ _).alloc (Nat.le_refl _) _).alloc (by simp) _).alloc (by simp; omega) _
    | exact (((((((Below.refl _ _).alloc (Nat.le_refl _) _).alloc (by simp) _).alloc (by simp; omega) _).setCell (by simp; omega) _).setCell (by simp; omega) _).setCell (by simp) _).setCell (by simp) _

theorem cellsB_zero (n : Nat) : cellsB (List.replicate n (0, 0)) = List.replicate (n * 2) (.int .i64 0) := by
  induction n with
  | zero => rfl
  | succ n ih => rw [List.replicate_succ, cellsB_cons, ih, show (n + 1) * 2 = n * 2 + 1 + 1 by omega, List.replicate_succ, List.replicate_succ]
theorem made_zero (n : Nat) : (madeCells #[Value.int .i64 0, Value.int .i64 0] (n * 2)).toList = cellsB (List.replicate n (0, 0)) := by
  rw [cellsB_zero, List.eq_replicate_iff]
  refine ⟨by simp [madeCells], fun b hb => ?_⟩
  simp only [madeCells, Array.toList_map, List.mem_map] at hb
  obtain ⟨i, _, rfl⟩ := hb
  have : i % 2 = 0 ∨ i % 2 = 1 := by omega
  rcases this with h | h <;> simp [h]
def soTo (xs : List Pr) (j : Nat) : List Pr := xs.take j ++ (List.replicate xs.length (0, 0)).drop j
theorem soTo_zero (xs : List Pr) : soTo xs 0 = List.replicate xs.length (0, 0) := by simp [soTo]
theorem soTo_all (xs : List Pr) : soTo xs xs.length = xs := by simp [soTo]
theorem soTo_len (xs : List Pr) (j : Nat) (h : j ≤ xs.length) : (soTo xs j).length = xs.length := by simp [soTo]; omega
theorem soTo_set (xs : List Pr) (j : Nat) (h : j < xs.length) : (soTo xs j).set j xs[j] = soTo xs (j + 1) := by
  have e : (List.replicate xs.length ((0, 0) : Pr)).drop j = (0, 0) :: (List.replicate xs.length ((0, 0) : Pr)).drop (j + 1) := by
    rw [List.drop_eq_getElem_cons (by simpa using h)]; simp
  have hl : (xs.take j).length = j := by simp; omega
  rw [soTo, soTo, e, List.set_append_right _ _ (by omega), hl, Nat.sub_self, List.set_cons_zero, List.take_add_one, List.getElem?_eq_getElem h, List.append_assoc]
  rfl

/-- what toBlockS leaves -/
def ToPost (xs : List Pr) (w : World) (e : Ending) (w' : World) : Prop := ∃ v', e = .returned v' ∧ Row w' w.heap.size v' xs ∧ Below w.heap.size w w'

set_option maxHeartbeats 2000000 in
theorem to_blocks {w : World} {v : Value} {xs : List Pr} (h : RdO w v xs) (hn : xs.length ≤ 1048576) : Calls Try.prog 31 #[v] w (ToPost xs w) := by
  obtain ⟨a, c, rfl, _, h3⟩ := h
  obtain ⟨i0, hi, hz0, hz1, hz2⟩ := info_parts info_blk
  have HT : Hid (∀ (p q : Int) W, _) := fun p q W => to_block p q W
  obtain ⟨n, hx⟩ : ∃ n, n = xs.length := ⟨_, rfl⟩
  have H3 : Hid (0 < xs.length → ∃ g o, a = some ⟨g, o, none⟩ ∧ g < w.heap.size ∧ ∀ i (hi : i < xs.length), w.cell? ⟨g, o + i * 2, none⟩ = some (.int .i64 xs[i].1) ∧ w.cell? ⟨g, o + i * 2 + 1, none⟩ = some (.int .i64 xs[i].2)) := h3
  have HX : Hid (n = xs.length) := hx
  rw [← hx] at hn ⊢
  clear h3 hx
  go_enter Try.func31, Try.ntmps31
  go_wp2_with (first | (at_make; refine wpList_make_full _ rfl _ _ 27 rfl w.heap.size 68 i0 (.agg #[.int .i64 0, .int .i64 0]) 2 Try.underlying27 hi hz0 hz1 .i64 .i64 _ _ n rfl rfl rfl rfl (by rw [hz2]; omega) (by unfold maxLen; omega) (Nat.le_refl _) ?_; intro w1 own1 gr1) | go_in)
  have HROW : Hid (Row w1 w.heap.size (.slice (some ⟨w.heap.size, 0, none⟩) n n) (soTo xs 0)) := by
    have e : (soTo xs 0).length = n := by rw [soTo_zero, List.length_replicate, HX.out]
    have e2 : cellsB (soTo xs 0) = (madeCells (Value.agg #[Value.int .i64 0, Value.int .i64 0]).cells (n * 2)).toList := by rw [soTo_zero, ← HX.out, ← made_zero]; rfl
    rw [Hid, Row, e, e2]; exact own1
  have HB1 : Hid (Below w.heap.size w w1) := (Below.refl w.heap.size w).grown gr1 (Nat.le_refl _) (fun k hk => by cases hk)
  clear own1 gr1
  go_wp2_with fail
  go_loopw [4] (fun i wr => ∃ j : Nat, j ≤ n ∧ i = .int .i64 j ∧ Hid (Row wr w.heap.size (.slice (some ⟨w.heap.size, 0, none⟩) n n) (soTo xs j)) ∧ Hid (Below w.heap.size w wr)) (fun i _ => n - (intOf i).toNat)
  case atStart => exact ⟨0, by omega, rfl, HROW.out, HB1.out⟩
  case round =>
    obtain ⟨j, hj, rfl, HR, HB⟩ := hrel
    by_cases hlt : j < n
    · have hlx : j < xs.length := by rw [← HX.out]; exact hlt
      obtain ⟨g, o, rfl, hg, hc⟩ := H3.out (by omega)
      have e0 := (HB.out.cell (p := ⟨g, o + j * 2, none⟩) hg).trans (hc j hlx).1
      have e1 := (HB.out.cell (p := ⟨g, o + j * 2 + 1, none⟩) hg).trans (hc j hlx).2
      have HSET : Hid (∀ W, Row W w.heap.size (.slice (some ⟨w.heap.size, 0, none⟩) n n) (soTo xs j) → Row ((W.setCell ⟨w.heap.size, j * 2, none⟩ (.int .i64 xs[j].1)).setCell ⟨w.heap.size, j * 2 + 1, none⟩ (.int .i64 xs[j].2)) w.heap.size (.slice (some ⟨w.heap.size, 0, none⟩) n n) (soTo xs (j + 1))) := fun W hW => by
        rw [← soTo_set xs j hlx]; exact hW.set2 _
      have HSL : Hid (j < (soTo xs j).length) := by rw [Hid, soTo_len xs j (by omega)]; exact hlx
      clear hc
      generalize xs[j].1 = p at *
      generalize xs[j].2 = q at *
      go_wp2_with fail
      refine Calls.mono (HT.out _ _ _) ?_
      rintro e w2 ⟨rfl, hb2⟩
      have HR2 : Hid (Row w2 w.heap.size (.slice (some ⟨w.heap.size, 0, none⟩) n n) (soTo xs j)) := HR.out.later hb2
      have HB2 : Hid (Below w.heap.size w w2) := HB.out.trans (hb2.mono HB.out.size)
      obtain ⟨_, hc2, hf2⟩ := HR2.out.cells
      obtain ⟨old, hc3⟩ : ∃ old, w2.cell? ⟨w.heap.size, j * 2, none⟩ = some (.int .i64 old) := ⟨_, (hc2 j HSL.out).1⟩
      obtain ⟨old2, hc4⟩ : ∃ old, w2.cell? ⟨w.heap.size, j * 2 + 1, none⟩ = some (.int .i64 old) := ⟨_, (hc2 j HSL.out).2⟩
      have hf3 := hf2 (j * 2)
      have hf4 := hf2 (j * 2 + 1)
      clear hb2 hc2 hf2 HR
      go_wp2_with fail
      go_roundw
      case rel => exact ⟨j + 1, by omega, by go_num, HSET.out _ HR2.out, (HB2.out.setCell (by simp) _).setCell (by simp) _⟩
      case measure => simp [intOf]; omega
    · obtain rfl : j = n := by omega
      have HRE : Hid (Row wr w.heap.size (.slice (some ⟨w.heap.size, 0, none⟩) j j) xs) := by have := HR.out; rw [HX.out, soTo_all, ← HX.out] at this; exact this
      go_wp2_with fail
      go_ret
      exact ⟨_, rfl, HRE.out, HB.out⟩

theorem sz_blocks (a : Option Addr) (n c : Nat) (k : Int) (hn : (n : Int) ≤ 9223372036854775807) (hk0 : 0 ≤ k) (hk1 : k ≤ 1048576) (w : World) : Calls Try.prog 28 #[.slice a n c, .int .i64 k] w fun e w' => e = .returned (.int .i64 (if (n : Int) ≤ k then k - n else -1)) ∧ w' = w := by
  by_cases h : (n : Int) ≤ k
  · rw [if_pos h]
    go_enter Try.func28, Try.ntmps28
    go_wp2
    go_ret
    exact ⟨rfl, rfl⟩
  · rw [if_neg h]
    go_enter Try.func28, Try.ntmps28
    go_wp2
    go_ret
    exact ⟨rfl, rfl⟩
theorem sz_buddy (m : Int) (a : Option Addr) (n c : Nat) (k : Int) (hn : (n : Int) ≤ 9223372036854775807) (hk0 : 0 ≤ k) (hk1 : k ≤ 1048576) (w : World) : Calls Try.prog 5 #[.agg #[.int .i64 m, .slice a n c], .int .i64 k] w fun e w' => e = .returned (.int .i64 (if (n : Int) ≤ k then k - n else -1)) ∧ Below w.heap.size w w' := by
  have HS : Hid (∀ W, _) := fun W => sz_blocks a n c k hn hk0 hk1 W
  by_cases h : (n : Int) ≤ k
  · rw [if_pos h] at HS ⊢
    go_enter Try.func5, Try.ntmps5
    go_wp2_with fail
    refine Calls.mono (HS.out _) ?_
    rintro e w1 ⟨rfl, rfl⟩
    go_wp2
    go_ret
    exact ⟨rfl, (Below.refl _ _).alloc (Nat.le_refl _) _⟩
  · rw [if_neg h] at HS ⊢
    go_enter Try.func5, Try.ntmps5
    go_wp2_with fail
    refine Calls.mono (HS.out _) ?_
    rintro e w1 ⟨rfl, rfl⟩
    go_wp2
    go_ret
    exact ⟨rfl, (Below.refl _ _).alloc (Nat.le_refl _) _⟩

/-- what toBuddy leaves -/
def ToBPost (m : Int) (xs : List Pr) (w : World) (e : Ending) (w' : World) : Prop := ∃ v', e = .returned (.agg #[.int .i64 m, v']) ∧ Row w' w.heap.size v' xs ∧ Below w.heap.size w w'
theorem Row.lower {w : World} {b b' : Nat} {v : Value} {xs : List Pr} (h : Row w b' v xs) (hb : b ≤ b') : Row w b v xs := by
  obtain ⟨h1, h2⟩ := h
  refine ⟨h1, ?_⟩
  rcases h2 with h0 | ⟨g, cap, cur, hv, hbg, hc, hrest⟩
  · exact Or.inl h0
  · exact Or.inr ⟨g, cap, cur, hv, Nat.le_trans hb hbg, hc, hrest⟩
theorem Row.turn {w w' : World} {base : Nat} {v : Value} {xs : List Pr} (h : Row w base v xs) (hk : ∀ g, base ≤ g → g < w.heap.size → v.ownBlock = some g → w'.heap[g]? = w.heap[g]?) : Row w' base v xs := by
  obtain ⟨hl, hr⟩ := h
  refine ⟨hl, ?_⟩
  rcases hr with h0 | ⟨g, cap, cur, hv, hbg, hc, hrest⟩
  · exact Or.inl h0
  · exact Or.inr ⟨g, cap, cur, hv, hbg, (hk g hbg (Array.getElem?_eq_some_iff.1 hc).1 (by rw [hv]; rfl)).trans hc, hrest⟩

theorem two_new (w : World) (o1 : Obj) (a b : Int) (u v : Value) : Box (((w.alloc o1).alloc (.cells #[.int .i64 a, u] 29)).alloc (.cells #[.int .i64 b, v] 29)) (w.heap.size + 1) a u ∧ Box (((w.alloc o1).alloc (.cells #[.int .i64 a, u] 29)).alloc (.cells #[.int .i64 b, v] 29)) (w.heap.size + 1 + 1) b v := by
  have h1 : (w.alloc o1).heap.size = w.heap.size + 1 := by simp
  have h2 : ((w.alloc o1).alloc (.cells #[.int .i64 a, u] 29)).heap.size = w.heap.size + 1 + 1 := by simp
  have e1 := (MapKept.heap_alloc (w.alloc o1) (.cells #[.int .i64 a, u] 29)).1
  have e2 := (MapKept.heap_alloc ((w.alloc o1).alloc (.cells #[.int .i64 a, u] 29)) (.cells #[.int .i64 b, v] 29)).1
  rw [h1] at e1
  rw [h2] at e2
  exact ⟨((World.grownBy_alloc _ _ none).block _ (by omega) (by simp)).trans e1, e2⟩

set_option maxHeartbeats 2000000 in
theorem to_buddy (m : Int) {w : World} {v : Value} {xs : List Pr} (h : RdO w v xs) (hn : xs.length ≤ 1048576) : Calls Try.prog 7 #[.agg #[.int .i64 m, v]] w (ToBPost m xs w) := by
  have HT : Hid (∀ W, Below w.heap.size w W → Calls Try.prog 31 #[v] W (ToPost xs W)) := fun W hW => to_blocks (h.below hW) hn
  obtain ⟨a, c, rfl, _, _⟩ := h
  go_enter Try.func7, Try.ntmps7
  go_wp2_with fail
  obtain ⟨V, hV⟩ : ∃ V, V = ((w.alloc (.cells #[.int .i64 m, .slice a xs.length c] 24)).alloc (.cells #[.int .i64 0, .slice none 0 0] 29)).alloc (.cells #[.int .i64 m, .slice none 0 0] 29) := ⟨_, rfl⟩
  have hbx := two_new w (.cells #[.int .i64 m, .slice a xs.length c] 24) 0 m (.slice none 0 0) (.slice none 0 0)
  rw [← hV] at hbx
  have HBV : Hid (Below w.heap.size w V) := by rw [hV]; exact (((Below.refl _ _).alloc (Nat.le_refl _) _).alloc (by simp) _).alloc (by simp; omega) _
  have hVs : w.heap.size + 1 + 1 < V.heap.size := by rw [hV]; simp
  rw [← hV]
  clear hV
  refine Calls.mono (HT.out _ HBV.out) ?_
  rintro e w1 ⟨v', rfl, hrow, hb1⟩
  have HR1 : Hid (Box w1 (w.heap.size + 1) 0 (.slice none 0 0)) := (hb1.block _ (by omega)).trans hbx.1
  have HC1 : Hid (Box w1 (w.heap.size + 1 + 1) m (.slice none 0 0)) := (hb1.block _ (by omega)).trans hbx.2
  have HROW : Hid (Row w1 V.heap.size v' xs) := hrow
  have HB1 : Hid (Below w.heap.size w w1) := HBV.out.trans (hb1.mono HBV.out.size)
  obtain ⟨r0, r1, g0, g1⟩ := HR1.out.cells
  obtain ⟨c0, c1, f0, f1⟩ := HC1.out.cells
  have hl1 := HC1.out.lt
  obtain ⟨va, vc, hv, _⟩ := hrow.rd.form
  generalize xs.length = L at hv
  subst hv
  have HEND : Hid (∀ x y z, Row (((w1.setCell ⟨w.heap.size + 1 + 1, 1, none⟩ x).setCell ⟨w.heap.size + 1, 0, none⟩ y).setCell ⟨w.heap.size + 1, 1, none⟩ z) w.heap.size (.slice va L vc) xs) := fun x y z =>
    (HROW.out.turn fun g hg _ _ => by rw [Below.heap_setCell _ _ _ _ (by show g ≠ w.heap.size + 1; omega), Below.heap_setCell _ _ _ _ (by show g ≠ w.heap.size + 1; omega), Below.heap_setCell _ _ _ _ (by show g ≠ w.heap.size + 1 + 1; omega)]).lower (by omega)
  clear hrow hb1 hbx
  go_wp2_with fail
  exact bodyPost_ret (v := .agg #[.int .i64 m, .slice va L vc]) (by simp [results, Try.results7, go_sem, r0, r1]) rfl ⟨_, rfl, HEND.out _ _ _, ((HB1.out.setCell (by simp; omega) _).setCell (by simp) _).setCell (by simp) _⟩

/-- two buddies that read the same are told to be the same -/
theorem eq_buddy (m : Int) {w : World} {va vb : Value} {xs : List Pr} (h1 : Rd w va xs) (h2 : Rd w vb xs) : Calls Try.prog 9 #[.agg #[.int .i64 m, va], .agg #[.int .i64 m, vb]] w fun e w' => e = .returned (.bool true) ∧ Below w.heap.size w w' := by
  have HE : Hid (∀ W, Below w.heap.size w W → Calls Try.prog 35 #[va, vb] W fun e w' => e = .returned (.bool true) ∧ Below W.heap.size W w') := fun W hW => eq_rows (h1.below hW) (h2.below hW)
  obtain ⟨a, c, rfl, _⟩ := h1.form
  obtain ⟨b, d, rfl, _⟩ := h2.form
  clear h1 h2
  have HB : Hid (∀ o1 o2 : Obj, Below w.heap.size w ((w.alloc o1).alloc o2)) := fun o1 o2 => ((Below.refl _ _).alloc (Nat.le_refl _) _).alloc (by simp) _
  go_enter Try.func9, Try.ntmps9
  go_wp2_with fail
  refine Calls.mono (HE.out _ (HB.out _ _)) ?_
  rintro e w1 ⟨rfl, hb1⟩
  have HB1 : Hid (Below w.heap.size w w1) := (HB.out _ _).trans (hb1.mono (HB.out _ _).size)
  clear hb1
  go_wp2
  go_ret
  exact ⟨rfl, HB1.out⟩
end Go.Proofs.Ytcokchfedaoccab.brows
