/-
  The program takes a line of a script: takeSeed, takeLine. Conditions: at most 8000 bytes; the program's tables read as its text lays them.
-/
import Derived.Test.YtacfhchmoiphfaaDoorScrFaultS
import Derived.Test.YtacfhchmoiphfaaDoorShelf
namespace Go.Proofs.YtacfhchmoiphfaaDoor.scr
open Go.RowKit Go.Deep Go.Sort
open Go.Proofs.YtacfhchmoiphfaaDoor
open Go.Proofs.YtacfhchmoiphfaaDoor.deep (Blk putW putL OwnC)
open Go.Proofs.YtacfhchmoiphfaaDoor.call (CallD ccall)
set_option linter.unusedVariables false
set_option maxRecDepth 100000

/-- all below M is as it was, but for the block B -/
structure OnlyM (M B : Nat) (w w' : World) : Prop where
  size : w.heap.size ≤ w'.heap.size
  other : ∀ g, g ≠ B → g < M → w'.heap[g]? = w.heap[g]?
  below : ∀ n u, Below n u w → n ≤ B → Below n u w'
theorem OnlyM.of {M B : Nat} {w w' : World} (h : Only B w w') (hM : M ≤ w.heap.size) : OnlyM M B w w' := ⟨h.size, fun g hg hl => h.other g hg (by omega), h.below⟩
theorem codeH_cases (x : ByteArray) : (codeH x = 3 ∧ ¬ (isK x = true ∧ 0 ≤ numT (restT x))) ∨ (isK x = true ∧ 0 ≤ numT (restT x) ∧ ((numT (restT x) ≤ 65535 ∧ codeH x = 0) ∨ (65535 < numT (restT x) ∧ codeH x = 1))) := by
  unfold codeH
  by_cases h : isK x = true ∧ 0 ≤ numT (restT x)
  · rw [if_pos h]
    right
    refine ⟨h.1, h.2, ?_⟩
    by_cases h2 : numT (restT x) ≤ 65535
    · rw [if_pos h2]; exact .inl ⟨h2, rfl⟩
    · rw [if_neg h2]; exact .inr ⟨by omega, rfl⟩
  · rw [if_neg h]; exact .inl ⟨rfl, h⟩
theorem restT_size (x : ByteArray) : (restT x).size ≤ x.size := by
  have h1 : (restT x).size = (Lib.trimPrefix x.data.toList kern7.data.toList).length := by rw [← bl_size]; unfold restT; rw [bl_of]
  have h2 : x.data.toList.length = x.size := bl_size x
  rw [h1]
  unfold Lib.trimPrefix
  split
  · rw [List.length_drop]; omega
  · omega
theorem key_yes (n : Int) (h0 : 0 ≤ n) (h1 : n ≤ 65535) (w : World) : Calls Tryd.prog 85 #[.int .i64 n] w fun e w' => e = .returned (.bool true) ∧ w' = w := by
  go_enter Tryd.func85, Tryd.ntmps85
  go_wp2
  go_ret
  exact ⟨by first | rfl | simp, rfl⟩
theorem key_no (n : Int) (h0 : 0 ≤ n) (h1 : 65535 < n) (w : World) : Calls Tryd.prog 85 #[.int .i64 n] w fun e w' => e = .returned (.bool false) ∧ w' = w := by
  go_enter Tryd.func85, Tryd.ntmps85
  go_wp2
  go_ret
  exact ⟨by first | rfl | simp; omega, rfl⟩
def SeedP (B : Nat) (x : ByteArray) (v : Value) (w : World) (e : Ending) (w' : World) : Prop := ∃ seed, e = .returned (.int .i64 (codeH x)) ∧ Blk w' B 80 [.int .i64 seed, v] ∧ Only B w w'
set_option maxHeartbeats 4000000 in
theorem take_seed (B : Nat) (x : ByteArray) (seed : Int) (v : Value) (w : World) (hx8 : x.size ≤ 8000) (hb : Blk w B 80 [.int .i64 seed, v]) : Calls Tryd.prog 72 #[.pointer (some ⟨B, 0, none⟩), .string x] w (SeedP B x v w) := by
  have hrs := restT_size x
  have HCP : Hid (∀ W, Calls Tryd.prog 84 #[.string x, .string ⟨#[107, 101, 114, 110, 101, 108, 32]⟩] W fun e w' => e = .returned (.tuple #[.string (restT x), .bool (isK x)]) ∧ w' = W) := fun W => Tryd.strings_CutPrefix x kern7 W
  have HDG : Hid (∀ W, Calls Tryd.prog 70 #[.string (restT x)] W fun e w' => e = .returned (digV (numT (restT x))) ∧ w' = W) := fun W => impl_dig _ (by omega) W
  have hcs := codeH_cases x
  have HX : Hid (Blk w B 80 [.int .i64 seed, v]) := hb
  have c0 : w.cell? ⟨B, 0, none⟩ = some (.int .i64 seed) := hb.cell 0
  have c1 : w.cell? ⟨B, 1, none⟩ = some v := hb.cell 1
  have f0 := hb.free 0
  unfold SeedP
  generalize codeH x = CH at *
  generalize isK x = ik at *
  generalize numT (restT x) = R at *
  generalize restT x = rx at *
  clear hb
  rcases hcs with ⟨rfl, hno⟩ | ⟨rfl, hR, ⟨hR2, rfl⟩ | ⟨hR2, rfl⟩⟩
  · by_cases hR : 0 ≤ R
    · have hik : ik = false := by
        cases ik
        · rfl
        · exact absurd ⟨rfl, hR⟩ hno
      subst hik
      have HD2 : Hid (∀ W, Calls Tryd.prog 70 #[.string rx] W fun e w' => e = .returned (.tuple #[.int .i64 R, .bool true]) ∧ w' = W) := fun W => by
        have := HDG.out W
        rw [digV, if_pos hR] at this
        exact this
      clear HDG hno
      go_enter Tryd.func72, Tryd.ntmps72
      go_wp2_with fail
      refine Calls.mono (HCP.out _) ?_
      rintro e w1 ⟨rfl, rfl⟩
      go_wp2_with fail
      refine Calls.mono (HD2.out _) ?_
      rintro e w2 ⟨rfl, rfl⟩
      go_wp2_with fail
      go_ret
      exact ⟨_, rfl, HX.out, Only.refl _ _⟩
    · have HD2 : Hid (∀ W, Calls Tryd.prog 70 #[.string rx] W fun e w' => e = .returned (.tuple #[.int .i64 0, .bool false]) ∧ w' = W) := fun W => by
        have := HDG.out W
        rw [digV, if_neg hR] at this
        exact this
      clear HDG hno
      cases ik
      all_goals (
        go_enter Tryd.func72, Tryd.ntmps72
        go_wp2_with fail
        refine Calls.mono (HCP.out _) ?_
        rintro e w1 ⟨rfl, rfl⟩
        go_wp2_with fail
        refine Calls.mono (HD2.out _) ?_
        rintro e w2 ⟨rfl, rfl⟩
        go_wp2_with fail
        go_ret
        exact ⟨_, rfl, HX.out, Only.refl _ _⟩)
  · have HD2 : Hid (∀ W, Calls Tryd.prog 70 #[.string rx] W fun e w' => e = .returned (.tuple #[.int .i64 R, .bool true]) ∧ w' = W) := fun W => by
      have := HDG.out W
      rw [digV, if_pos hR] at this
      exact this
    clear HDG
    go_enter Tryd.func72, Tryd.ntmps72
    go_wp2_with fail
    refine Calls.mono (HCP.out _) ?_
    rintro e w1 ⟨rfl, rfl⟩
    go_wp2_with fail
    refine Calls.mono (HD2.out _) ?_
    rintro e w2 ⟨rfl, rfl⟩
    go_wp2_with fail
    refine Calls.mono (key_yes R hR hR2 _) ?_
    rintro e w3 ⟨rfl, rfl⟩
    go_wp2_with fail
    go_ret
    exact ⟨R, rfl, HX.out.put [.int .i64 R] 0, Only.put B w3 0 [.int .i64 R]⟩
  · have HD2 : Hid (∀ W, Calls Tryd.prog 70 #[.string rx] W fun e w' => e = .returned (.tuple #[.int .i64 R, .bool true]) ∧ w' = W) := fun W => by
      have := HDG.out W
      rw [digV, if_pos hR] at this
      exact this
    clear HDG
    go_enter Tryd.func72, Tryd.ntmps72
    go_wp2_with fail
    refine Calls.mono (HCP.out _) ?_
    rintro e w1 ⟨rfl, rfl⟩
    go_wp2_with fail
    refine Calls.mono (HD2.out _) ?_
    rintro e w2 ⟨rfl, rfl⟩
    go_wp2_with fail
    refine Calls.mono (key_no R hR hR2 _) ?_
    rintro e w3 ⟨rfl, rfl⟩
    go_wp2_with fail
    go_ret
    exact ⟨_, rfl, HX.out, Only.refl _ _⟩

theorem own_only {M B : Nat} {w w' : World} {v : Value} {css : List (List Value)} (h : OwnC 26 9 M w v css) (hb : Only B w w') (hBM : B < M) : OwnC 26 9 M w' v css := by
  refine ⟨h.len, h.row.1, ?_⟩
  rcases h.row.2 with h0 | ⟨g, cap, cur, hv, hbg, hc, hrest⟩
  · exact Or.inl h0
  · exact Or.inr ⟨g, cap, cur, hv, hbg, (hb.other g (by omega) (Array.getElem?_eq_some_iff.1 hc).1).trans hc, hrest⟩
theorem nine_cells (w : World) (o : Obj) (q0 q1 q2 q3 q4 q5 q6 q7 q8 : Int) : ∀ j u, [.int .i64 q0, .int .i64 q1, .int .i64 q2, .int .i64 q3, .int .i64 q4, .int .i64 q5, .int .i64 q6, .int .i64 q7, .int .i64 q8][j]? = some u → ((w.alloc o).alloc (.cells #[.int .i64 q0, .int .i64 q1, .int .i64 q2, .int .i64 q3, .int .i64 q4, .int .i64 q5, .int .i64 q6, .int .i64 q7, .int .i64 q8] 26)).drew.cell? ((⟨w.heap.size + 1, 0, none⟩ : Addr).add j) = some u := by
  intro j u hu
  have h := deep.blk_new (w.alloc o) [.int .i64 q0, .int .i64 q1, .int .i64 q2, .int .i64 q3, .int .i64 q4, .int .i64 q5, .int .i64 q6, .int .i64 q7, .int .i64 q8] 26
  rw [show ((⟨w.heap.size + 1, 0, none⟩ : Addr).add j) = ⟨(w.alloc o).heap.size, j, none⟩ by unfold Addr.add; by_cases h0 : j = 0 <;> simp [h0]]
  exact (h.cell j).trans hu
theorem two_below (w : World) (a b : Obj) : Below w.heap.size w ((w.alloc a).alloc b).drew := (((Below.refl _ _).alloc (Nat.le_refl _) _).alloc (by simp) _).drew
theorem line_ends {M B : Nat} {w w1 : World} {seed v : Value} {css : List (List Value)} {cs : List Value} (hBM : B < M) (hMw : M ≤ w.heap.size) (hb1 : Below w.heap.size w w1) (hX : Blk w1 B 80 [seed, v]) (ho : OwnC 26 9 M w1 v css) (hcs : cs.length = 9) :
    ∀ W, Below w1.heap.size w1 W → ∀ {v9 : Value} {w9 : World}, w9.ownsRow M 26 9 v9 (css.length + 1) (css.flatten ++ cs) → W.grownBy w9 v.ownBlock → (∃ a n c, v9 = .slice a n c) ∧ Blk w9 B 80 [seed, v] ∧ (Blk (w9.setCell ⟨B, 1, none⟩ v9) B 80 [seed, v9] ∧ (∃ css', css'.length = css.length + 1 ∧ OwnC 26 9 M (w9.setCell ⟨B, 1, none⟩ v9) v9 css') ∧ OnlyM M B w (w9.setCell ⟨B, 1, none⟩ v9)) := by
  intro W hbW v9 w9 own gr
  have hrow : ∀ k, v.ownBlock = some k → M ≤ k := by
    intro k hk
    rcases ho.row.2 with ⟨rfl, _⟩ | ⟨g, cap, cur, rfl, hb, _⟩
    · cases hk
    · simp [Value.ownBlock] at hk; omega
  have hBw : B < w.heap.size := by omega
  have s1 := hb1.size
  have s2 := hbW.size
  have hX2 : Blk W B 80 [seed, v] := hX.later hbW
  have hX3 : Blk w9 B 80 [seed, v] := (gr.block B (by omega) (fun e => by have := hrow B e.symm; omega)).trans hX2
  have hbM : Below M w w9 := (below_tr hb1 hbW |>.mono hMw).grown gr (by omega) hrow
  have hform : ∃ a n c, v9 = .slice a n c := by
    rcases own.2 with ⟨rfl, _⟩ | ⟨g, cap, cur, rfl, _⟩
    · exact ⟨_, _, _, rfl⟩
    · exact ⟨_, _, _, rfl⟩
  refine ⟨hform, hX3, hX3.put [v9] 1, ⟨css ++ [cs], by simp, ?_⟩, ?_⟩
  · have ho9 : OwnC 26 9 M w9 v9 (css ++ [cs]) := ⟨fun x hx => by
      rcases List.mem_append.1 hx with h | h
      · exact ho.len x h
      · rw [List.mem_singleton.1 h]; exact hcs, by simpa using own⟩
    exact own_only ho9 (Only.put B w9 1 [v9]) hBM
  · have e : w9.setCell ⟨B, 1, none⟩ v9 = deep.putW w9 B 1 [v9] := rfl
    rw [e]
    refine ⟨by rw [deep.putW_size]; exact hbM.size, fun g hg hl => (deep.putW_other _ _ _ _ _ hg).trans (hbM.block g hl), fun n u hu hn => deep.putW_below _ (hu.trans (hbM.mono (by omega))) hn⟩
def LineP (M B : Nat) (i : Nat) (x : ByteArray) (m : Nat) (w : World) (e : Ending) (w' : World) : Prop := ∃ seed v css, e = .returned (.int .i64 (codeL i x)) ∧ Blk w' B 80 [.int .i64 seed, v] ∧ OwnC 26 9 M w' v css ∧ css.length ≤ m ∧ OnlyM M B w w'
set_option maxHeartbeats 8000000 in
theorem take_line (M B i : Nat) (x : ByteArray) (seed : Int) (v : Value) (css : List (List Value)) (w : World) (hx8 : x.size ≤ 8000) (hBM : B < M) (hMw : M ≤ w.heap.size) (hi : i ≤ 8001) (hcl : css.length ≤ i) (hb : Blk w B 80 [.int .i64 seed, v]) (ho : OwnC 26 9 M w v css) (hS : Say w) : Calls Tryd.prog 62 #[.pointer (some ⟨B, 0, none⟩), .int .i64 (i : Int), .string x] w (LineP M B i x (i + 1) w) := by
  unfold LineP
  rcases Nat.eq_zero_or_pos i with rfl | hi1
  · have HSD : Hid (Calls Tryd.prog 72 #[.pointer (some ⟨B, 0, none⟩), .string x] w (SeedP B x v w)) := take_seed B x seed v w hx8 hb
    have HEN : Hid (∀ w', Only B w w' → OwnC 26 9 M w' v css ∧ OnlyM M B w w') := fun w' k => ⟨own_only ho k hBM, OnlyM.of k hMw⟩
    have HCL : Hid (codeL 0 x = codeH x) := codeL_head x
    have hcl1 : css.length ≤ 0 + 1 := by omega
    unfold SeedP at HSD
    rw [← HCL.out] at HSD
    clear hb ho hS HCL
    go_enter Tryd.func62, Tryd.ntmps62
    go_wp2_with fail
    refine Calls.mono HSD.out ?_
    rintro e w1 ⟨sd, rfl, hb1, hon⟩
    have HB1 : Hid (Blk w1 B 80 [.int .i64 sd, v]) := hb1
    have HE1 : Hid _ := HEN.out w1 hon
    clear hb1 hon HSD HEN
    go_wp2_with fail
    go_ret
    exact ⟨sd, v, css, rfl, HB1.out, HE1.out.1, hcl1, HE1.out.2⟩
  · have HRC : Hid (Calls Tryd.prog 24 #[.string x] w (CallPost x w)) := impl_rcall x hx8 w hS
    have hi0 : ¬ ((i : Int) = 0) := by omega
    have hi0b : ((i : Int) == 0) = false := by simp; omega
    have HGO : Hid (∀ c k, Got x c k → (k = true ↔ LineOK x)) := fun c k h => got_ok h
    have HNO : Hid (¬ (LineOK x ∧ i ≤ 60) → codeL i x = 3) := fun h => codeL_no (by omega) h
    have HYE : Hid (LineOK x → i ≤ 60 → codeL i x = 0) := fun h k => codeL_yes (by omega) h k
    have HX : Hid (Blk w B 80 [.int .i64 seed, v]) := hb
    have HO : Hid (OwnC 26 9 M w v css) := ho
    have hBw : B < w.heap.size := by omega
    unfold CallPost at HRC
    generalize codeL i x = CL at *
    obtain ⟨LK, hLK⟩ : ∃ p, p = LineOK x := ⟨_, rfl⟩
    rw [← hLK] at HGO HNO HYE
    clear hb ho hS hLK
    obtain ⟨i0, hi', hz0, hz1, hz2⟩ := info_parts info_cl
    go_enter Tryd.func62, Tryd.ntmps62
    go_wp2_with fail
    refine Calls.mono HRC.out ?_
    rintro e w1 ⟨c, k, rfl, hg, hb1⟩
    have hk := HGO.out c k hg
    have HX1 : Hid (Blk w1 B 80 [.int .i64 seed, v]) := HX.out.later hb1
    have HO1 : Hid (OwnC 26 9 M w1 v css) := HO.out.later hb1
    have HB1 : Hid (Below w.heap.size w w1) := hb1
    have hM1 : M ≤ w1.heap.size := by have := hb1.size; omega
    obtain ⟨q0, q1, q2, q3, q4, q5, q6, q7, q8⟩ := c
    simp only [ccall]
    clear hg hb1 HRC HX HO HGO
    have HFR : Hid (∀ o, Blk (w1.alloc o) B 80 [.int .i64 seed, v] ∧ OwnC 26 9 M (w1.alloc o) v css ∧ OnlyM M B w (w1.alloc o)) := fun o => by
      have hb2 := below_one w1 o
      have hb3 := below_tr HB1.out hb2
      exact ⟨HX1.out.later hb2, HO1.out.later hb2, OnlyM.of (Only.of hb3 hBw) hMw⟩
    cases k with
    | false =>
      have HC3 : Hid (CL = 3) := HNO.out (fun h => by have := hk.2 h.1; cases this)
      clear hk HNO HYE HX1 HO1 HB1
      go_wp2_with fail
      go_ret
      exact ⟨seed, v, css, by rw [HC3.out]; rfl, (HFR.out _).1, (HFR.out _).2.1, by omega, (HFR.out _).2.2⟩
    | true =>
      by_cases h60 : i ≤ 60
      · have HC0 : Hid (CL = 0) := HYE.out (hk.1 rfl) h60
        have h60i : ¬ (60 < (i : Int)) := by omega
        have h60j : (i : Int) ≤ 60 := by omega
        clear hk HNO HYE
        have HLE : Hid _ := line_ends (seed := .int .i64 seed) (cs := [.int .i64 q0, .int .i64 q1, .int .i64 q2, .int .i64 q3, .int .i64 q4, .int .i64 q5, .int .i64 q6, .int .i64 q7, .int .i64 q8]) hBM hMw HB1.out HX1.out HO1.out rfl
        have hB1 : B < w1.heap.size := by omega
        have hBn : ¬ B = w1.heap.size := by omega
        have hBn' : ¬ w1.heap.size = B := by omega
        have c1 : w1.cell? ⟨B, 1, none⟩ = some v := HX1.out.cell 1
        have HOW : Hid (∀ W, Below w1.heap.size w1 W → W.ownsRow M 26 9 v css.length css.flatten) := fun W h => (HO1.out.later h).row
        have hmx : css.length + 1 ≤ maxLen := by unfold maxLen; omega
        have hby : (css.length + 1) * 72 ≤ 140737488355328 := by omega
        have hcl1 : css.length + 1 ≤ i + 1 := by omega
        generalize css.length = LC at HLE HOW hmx hby hcl1
        clear HX1 HO1 hcl hi
        go_wp2_with fail
        go_region_law (first | (rw [if_pos (by rfl)]; refine wp_append_own _ (.tmp 29) (.tmp 31) 76 rfl M 26 i0 (.agg #[.int .i64 0, .int .i64 0, .int .i64 0, .int .i64 0, .int .i64 0, .int .i64 0, .int .i64 0, .int .i64 0, .int .i64 0]) 9 72 Tryd.underlying76 hi' hz0 hz1 hz2 rfl (by decide) v LC css.flatten rfl (HOW.out _ (two_below w1 _ _)) ⟨_, 0, none⟩ 1 1 [.int .i64 q0, .int .i64 q1, .int .i64 q2, .int .i64 q3, .int .i64 q4, .int .i64 q5, .int .i64 q6, .int .i64 q7, .int .i64 q8] rfl rfl (nine_cells w1 _ q0 q1 q2 q3 q4 q5 q6 q7 q8) (by simp [Value.oneCell']) hmx hby (by simp; omega) ?_;  intro v9 w9 own9 gr9 _; obtain ⟨⟨a9, n9, c9, hv9⟩, hx9, HEND⟩ := HLE.out _ (two_below w1 _ _) own9 gr9; have k1 : w9.cell? ⟨B, 1, none⟩ = some v := hx9.cell 1; have g1 : w9.frozen? ⟨B, 1, none⟩ = false := hx9.free 1; have HEN9 : Hid _ := HEND; clear own9 gr9 hx9 HEND; subst hv9))
        all_goals go_wp2_with fail
        all_goals go_ret
        all_goals exact ⟨seed, _, _, by rw [HC0.out]; rfl, HEN9.out.1, HEN9.out.2.1.choose_spec.2, by rw [HEN9.out.2.1.choose_spec.1]; exact hcl1, HEN9.out.2.2⟩
      · have HC3 : Hid (CL = 3) := HNO.out (fun h => h60 h.2)
        have h60i : 60 < (i : Int) := by omega
        clear hk HNO HYE HX1 HO1 HB1
        go_wp2_with fail
        go_ret
        exact ⟨seed, v, css, by rw [HC3.out]; rfl, (HFR.out _).1, (HFR.out _).2.1, by omega, (HFR.out _).2.2⟩
end Go.Proofs.YtacfhchmoiphfaaDoor.scr
