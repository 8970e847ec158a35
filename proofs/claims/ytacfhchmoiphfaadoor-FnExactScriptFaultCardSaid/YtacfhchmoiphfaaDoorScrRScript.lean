/-
  The program reads a script: readScript, line by line, rune by rune. Condition: its tables read as its text lays them.
-/
import Derived.Test.YtacfhchmoiphfaaDoorScrFaultI
namespace Go.Proofs.YtacfhchmoiphfaaDoor.scr
open Go.RowKit Go.Deep Go.Sort
open Go.Proofs.YtacfhchmoiphfaaDoor
open Go.Proofs.YtacfhchmoiphfaaDoor.deep (Blk putW putL OwnC)
set_option linter.unusedVariables false
set_option maxRecDepth 100000

def ReadI (s : ByteArray) (w : World) (e : Ending) (w' : World) : Prop := ∃ (seed : Int) (a : Option Addr) (n c : Nat) (line code : Int), e = .returned (.tuple #[.agg #[.int .i64 seed, .slice a n c], .agg #[.string ⟨#[]⟩, .int .i64 line, .int .i64 code]]) ∧ Told s line code ∧ Below w.heap.size w w'
theorem ext_size (s : ByteArray) (f i : Nat) : (s.extract f i).size ≤ s.size := by
  rw [ByteArray.size_extract]; omega
theorem ext_full {s : ByteArray} {f : Nat} (h : f ≤ s.size) : ((s.extract f s.size).size = 0 ↔ ¬ f < s.size) := by
  rw [ByteArray.size_extract]; omega
theorem codeA_in {l : List ByteArray} {k : Nat} (h : k + 1 < l.length) : codeA l k = codeL k (l.getD k e0) := by unfold codeA; rw [if_pos h]
theorem codeA_out {l : List ByteArray} {k : Nat} (h : l.length = k + 1) : codeA l k = codeE k (l.getD k e0) := by unfold codeA; rw [if_neg (by omega)]
/-- how far the lines are at a byte: how many lie behind, where the next begins -/
def lfs (s : ByteArray) (i : Nat) : Nat × Nat := ((cutTo s 10 i).1.length, (cutTo s 10 i).2)
theorem lfs_le (s : ByteArray) (i : Nat) : (lfs s i).1 ≤ i ∧ (lfs s i).2 ≤ i := ⟨(cut_le s 10 i).2, (cut_le s 10 i).1⟩
theorem lfs_skip (s : ByteArray) (i : Nat) (h : i < s.size) (hn : (Utf8.decode s i).1 ≠ 10) : lfs s (i + (Utf8.decode s i).2) = lfs s i := by
  unfold lfs
  rw [cut_rune s i h (fun e => hn ((rune_lf s i h).1.2 e))]
theorem lfs_line (s : ByteArray) (i : Nat) (h : i < s.size) (hn : (Utf8.decode s i).1 = 10) : (Utf8.decode s i).2 = 1 ∧ (lfs s i).1 + 1 < (cutS s 10).length ∧ codeA (cutS s 10) (lfs s i).1 = codeL (lfs s i).1 (s.extract (lfs s i).2 i) ∧ lfs s (i + 1) = ((lfs s i).1 + 1, i + 1) := by
  have e := (rune_lf s i h).1.1 hn
  obtain ⟨h1, h2, h3, h4⟩ := line_at s i h e
  refine ⟨(rune_lf s i h).2 e, h1, ?_, ?_⟩
  · show codeA (cutS s 10) (cutTo s 10 i).1.length = codeL (cutTo s 10 i).1.length (s.extract (cutTo s 10 i).2 i)
    rw [codeA_in h1, h2]
  · unfold lfs
    rw [h3, h4]
theorem lfs_end (s : ByteArray) : (cutS s 10).length = (lfs s s.size).1 + 1 ∧ codeA (cutS s 10) (lfs s s.size).1 = codeE (lfs s s.size).1 (s.extract (lfs s s.size).2 s.size) := by
  obtain ⟨h1, h2⟩ := line_end s
  refine ⟨h1, ?_⟩
  show codeA (cutS s 10) (cutTo s 10 s.size).1.length = codeE (cutTo s 10 s.size).1.length (s.extract (cutTo s 10 s.size).2 s.size)
  rw [codeA_out h1, h2]
set_option maxHeartbeats 16000000 in
theorem impl_rscript (s : ByteArray) (w : World) (hS : Say w) : Calls Tryd.prog 45 #[.string s] w (ReadI s w) := by
  unfold ReadI
  by_cases h8 : 8000 < s.size
  · have HT : Hid (Told s 0 2) := .inl ⟨h8, rfl, rfl⟩
    have h8i : (8000 : Int) < (s.size : Int) := by omega
    generalize Told s = P at *
    clear hS
    go_enter Tryd.func45, Tryd.ntmps45
    go_wp2_with fail
    refine bodyPost_ret (v := .tuple #[.agg #[.int .i64 0, .slice none 0 0], .agg #[.string ⟨#[]⟩, .int .i64 0, .int .i64 2]]) (by simp [results, Tryd.results45, go_sem]) rfl ⟨_, _, _, _, _, _, rfl, HT.out, ?_⟩
    exact (below_one w _).alloc (by simp) _
  · have h8i : ¬ ((8000 : Int) < (s.size : Int)) := by omega
    have HTA : Hid (∀ (k : Nat) (code : Int), k < (cutS s 10).length → (∀ i, i < k → codeA (cutS s 10) i = 0) → codeA (cutS s 10) k = code → code ≠ 0 → Told s (k : Int) code) := fun k code h1 h2 h3 h4 => .inr ⟨by omega, .inl ⟨k, h1, h2, h3, h4, rfl⟩⟩
    have HTO : Hid ((∀ i, i < (cutS s 10).length → codeA (cutS s 10) i = 0) → Told s 0 0) := fun h => .inr ⟨by omega, .inr ⟨h, rfl, rfl⟩⟩
    have HLE : Hid (∀ i, (lfs s i).1 ≤ i ∧ (lfs s i).2 ≤ i) := lfs_le s
    have HSK : Hid (∀ i, i < s.size → (Utf8.decode s i).1 ≠ 10 → lfs s (i + (Utf8.decode s i).2) = lfs s i) := fun i h hn => lfs_skip s i h hn
    have HLI : Hid (∀ i, i < s.size → (Utf8.decode s i).1 = 10 → (Utf8.decode s i).2 = 1 ∧ (lfs s i).1 + 1 < (cutS s 10).length ∧ codeA (cutS s 10) (lfs s i).1 = codeL (lfs s i).1 (s.extract (lfs s i).2 i) ∧ lfs s (i + 1) = ((lfs s i).1 + 1, i + 1)) := fun i h hn => lfs_line s i h hn
    have HEN : Hid ((cutS s 10).length = (lfs s s.size).1 + 1 ∧ codeA (cutS s 10) (lfs s s.size).1 = codeE (lfs s s.size).1 (s.extract (lfs s s.size).2 s.size)) := lfs_end s
    have HL0 : Hid (lfs s 0 = (0, 0)) := rfl
    have HSV : Hid (∀ W, Below w.heap.size w W → Say W) := fun W h => hS.later h
    generalize codeA (cutS s 10) = A at *
    generalize (cutS s 10).length = N at *
    generalize lfs s = C at *
    generalize Told s = P at *
    clear hS
    go_enter Tryd.func45, Tryd.ntmps45
    go_wp2_with fail
    obtain ⟨V3, hV3⟩ : ∃ V, V = ((w.alloc (.cells #[.int .i64 0, .slice none 0 0] 80)).alloc (.cells #[.string ⟨#[]⟩, .int .i64 0, .int .i64 0] 45)).alloc (.cells #[.int .i64 0, .slice none 0 0] 80) := ⟨_, rfl⟩
    have h3 := deep.blk3 w [.int .i64 0, .slice none 0 0] [.string ⟨#[]⟩, .int .i64 0, .int .i64 0] [.int .i64 0, .slice none 0 0] 80 45 80
    rw [show (((w.alloc (.cells ([.int .i64 0, .slice none 0 0] : List Value).toArray 80)).alloc (.cells ([.string ⟨#[]⟩, .int .i64 0, .int .i64 0] : List Value).toArray 45)).alloc (.cells ([.int .i64 0, .slice none 0 0] : List Value).toArray 80)) = V3 from hV3.symm] at h3
    have hs3 : V3.heap.size = w.heap.size + 1 + 1 + 1 := by rw [hV3]; simp
    have hb3 : Below w.heap.size w V3 := by rw [hV3]; exact ((below_one w _).alloc (by simp) _).alloc (by simp; omega) _
    obtain ⟨V4, hV4⟩ : ∃ V, V = V3.iter s 0 := ⟨_, rfl⟩
    have hb4 : Below V3.heap.size V3 V4 := by rw [hV4]; exact below_one _ _
    have XI : Hid (V4.heap[w.heap.size + 1 + 1 + 1]? = some (.stringIter s 0)) := by
      show _ = _
      rw [hV4, ← hs3]; exact World.iter_heap _ _ _
    have XZ : Hid (Blk V4 w.heap.size 80 [.int .i64 0, .slice none 0 0]) := h3.1.later hb4
    have XO : Hid (Blk V4 (w.heap.size + 1) 45 [.string ⟨#[]⟩, .int .i64 0, .int .i64 0]) := h3.2.1.later hb4
    have XS : Hid (Blk V4 (w.heap.size + 1 + 1) 80 [.int .i64 0, .slice none 0 0]) := h3.2.2.later hb4
    have XB : Hid (Below w.heap.size w V4) := below_tr hb3 hb4
    rw [← hV3, ← hV4]
    clear hV3 hV4 h3 hs3 hb3 hb4 V3
    go_loopw [5, 6, 7, 8, 9] (fun t5 t6 _ _ _ wr => ∃ (i k f : Nat) (seed : Int) (v : Value) (css : List (List Value)), t5 = .int .i64 k ∧ t6 = .int .i64 f ∧ i ≤ s.size ∧ k ≤ i ∧ f ≤ i ∧ wr.heap[w.heap.size + 1 + 1 + 1]? = some (.stringIter s i) ∧ css.length ≤ k ∧ Hid (C i = (k, f)) ∧ Hid (∀ m, m < k → A m = 0) ∧ Hid (Blk wr w.heap.size 80 [.int .i64 0, .slice none 0 0]) ∧ Hid (Blk wr (w.heap.size + 1) 45 [.string ⟨#[]⟩, .int .i64 0, .int .i64 0]) ∧ Hid (Blk wr (w.heap.size + 1 + 1) 80 [.int .i64 seed, v]) ∧ Hid (OwnC 26 9 (w.heap.size + 1 + 1 + 1 + 1) wr v css) ∧ Hid (Below w.heap.size w wr)) (fun _ _ _ _ _ wr => s.size - wr.iterPos (w.heap.size + 1 + 1 + 1))
    case atStart => exact ⟨0, 0, 0, 0, _, [], rfl, rfl, by omega, by omega, by omega, XI.out, by simp, HL0.out, fun m h => absurd h (by omega), XZ.out, XO.out, XS.out, OwnC.nil _ _ _ _, XB.out⟩
    case round =>
      obtain ⟨i, k, f, seed, v, css, rfl, rfl, hi, hki, hfi, hit, hck, YC, YA, YZ, YO, YS, YW, YB⟩ := hrel
      clear XI XZ XO XS XB HL0
      have hKlt : w.heap.size + 1 + 1 + 1 < wr.heap.size := (Array.getElem?_eq_some_iff.1 hit).1
      by_cases his : i < s.size
      · have hnx : ∀ ty, (Instr.next (.pointer (some ⟨w.heap.size + 1 + 1 + 1, 0, none⟩)) true ty).run Tryd.prog wr = _ := fun ty => Lib.run_next_any_at wr (w.heap.size + 1 + 1 + 1) s i ty hit his
        have hw1 := width_pos s i his
        have hw2 := width_in s i his
        have HSK2 : Hid ((Utf8.decode s i).1 ≠ 10 → C (i + (Utf8.decode s i).2) = (k, f)) := fun h => (HSK.out i his h).trans YC.out
        have HLI2 : Hid ((Utf8.decode s i).1 = 10 → (Utf8.decode s i).2 = 1 ∧ k + 1 < N ∧ A k = codeL k (s.extract f i) ∧ C (i + 1) = (k + 1, i + 1)) := fun h => by
          have := HLI.out i his h
          rw [show C i = (k, f) from YC.out] at this
          exact this
        obtain ⟨W2, hW2⟩ : ∃ W, W = wr.iterAt (w.heap.size + 1 + 1 + 1) s (i + (Utf8.decode s i).2) := ⟨_, rfl⟩
        have hot0 : Only (w.heap.size + 1 + 1 + 1) wr W2 := by rw [hW2]; exact only_iter _ _ _ _
        have hit2 : W2.heap[w.heap.size + 1 + 1 + 1]? = some (.stringIter s (i + (Utf8.decode s i).2)) := by rw [hW2]; exact Lib.iterAt_heap wr (w.heap.size + 1 + 1 + 1) s i _ hit
        have ZZ : Hid (Blk W2 w.heap.size 80 [.int .i64 0, .slice none 0 0]) := blk_only YZ.out hot0 (by omega)
        have ZO2 : Hid (Blk W2 (w.heap.size + 1) 45 [.string ⟨#[]⟩, .int .i64 0, .int .i64 0]) := blk_only YO.out hot0 (by omega)
        have ZS2 : Hid (Blk W2 (w.heap.size + 1 + 1) 80 [.int .i64 seed, v]) := blk_only YS.out hot0 (by omega)
        have ZW : Hid (OwnC 26 9 (w.heap.size + 1 + 1 + 1 + 1) W2 v css) := own_only YW.out hot0 (by omega)
        have ZB : Hid (Below w.heap.size w W2) := hot0.below _ _ YB.out (by omega)
        have hK2 : w.heap.size + 1 + 1 + 1 < W2.heap.size := (Array.getElem?_eq_some_iff.1 hit2).1
        rw [← hW2] at hnx
        clear YZ YO YS YW YB hW2 hot0 YC
        have HX8 : Hid ((s.extract f i).size ≤ 8000) := by
          have := ext_size s f i
          show _ ≤ _
          omega
        have HTK : Hid (Calls Tryd.prog 62 #[.pointer (some ⟨w.heap.size + 1 + 1, 0, none⟩), .int .i64 (k : Int), .string (s.extract f i)] W2 (LineP (w.heap.size + 1 + 1 + 1 + 1) (w.heap.size + 1 + 1) k (s.extract f i) (k + 1) W2)) := take_line _ _ k _ seed v css W2 HX8.out (by omega) (by omega) (by omega) hck ZS2.out ZW.out (HSV.out _ ZB.out)
        unfold LineP at HTK
        have hfi2 : (f : Int) ≤ (i : Int) := by omega
        have his2 : (i : Int) ≤ (s.size : Int) := by omega
        generalize codeL k (s.extract f i) = CL at *
        generalize (Utf8.decode s i).2 = wd at *
        generalize hrr : (Utf8.decode s i).1 = r at *
        by_cases h10 : r = 10
        · subst h10
          have hli := HLI2.out rfl
          obtain ⟨rfl, hkN, hAk, hCk⟩ := hli
          have HCK : Hid (C (i + 1) = (k + 1, i + 1)) := hCk
          have HYE : Hid (CL = 0 → ∀ m, m < k + 1 → A m = 0) := fun h m hm => by
            by_cases e : m < k
            · exact YA.out m e
            · obtain rfl : m = k := by omega
              rw [hAk, h]
          have HNO : Hid (CL ≠ 0 → P (k : Int) CL) := fun h => HTA.out k CL (by omega) YA.out hAk h
          have h10i : ((10 : Nat) : Int) = 10 := rfl
          clear HLI2 HSK2 hCk hAk YA
          go_wp2_with fail
          refine Calls.mono HTK.out ?_
          rintro e wt ⟨sd, v2, css2, rfl, hbt, hot, hlt, hom⟩
          have hitt : wt.heap[w.heap.size + 1 + 1 + 1]? = some (.stringIter s (i + 1)) := (hom.other _ (by omega) (by omega)).trans hit2
          have TZ : Hid (Blk wt w.heap.size 80 [.int .i64 0, .slice none 0 0]) := (hom.other _ (by omega) (by omega)).trans ZZ.out
          have TO : Hid (Blk wt (w.heap.size + 1) 45 [.string ⟨#[]⟩, .int .i64 0, .int .i64 0]) := (hom.other _ (by omega) (by omega)).trans ZO2.out
          have TS : Hid (Blk wt (w.heap.size + 1 + 1) 80 [.int .i64 sd, v2]) := hbt
          have TW : Hid (OwnC 26 9 (w.heap.size + 1 + 1 + 1 + 1) wt v2 css2) := hot
          have TB : Hid (Below w.heap.size w wt) := hom.below _ _ ZB.out (by omega)
          have hlt2 : w.heap.size + 1 < wt.heap.size := TO.out.lt
          by_cases hc : CL = 0
          · subst hc
            have TA : Hid (∀ m, m < k + 1 → A m = 0) := HYE.out rfl
            clear hbt hot hom HTK HYE HNO ZZ ZO2 ZS2 ZW ZB hnx
            go_wp2_with fail
            go_roundw
            case rel => exact ⟨i + 1, k + 1, i + 1, sd, v2, css2, by simp, by simp, by omega, by omega, by omega, hitt, hlt, HCK.out, TA.out, TZ.out, TO.out, TS.out, TW.out, TB.out⟩
            case measure =>
              simp only [World.iterPos, hit, hitt]
              omega
          · have TP : Hid (P (k : Int) CL) := HNO.out hc
            clear hbt hot hom HTK HYE HNO ZZ ZO2 ZS2 ZW ZB hnx
            have z0 : wt.cell? ⟨w.heap.size, 0, none⟩ = some (.int .i64 0) := TZ.out.cell 0
            have z1 : wt.cell? ⟨w.heap.size, 1, none⟩ = some (.slice none 0 0) := TZ.out.cell 1
            have zf0 := TZ.out.free 0
            have zf1 := TZ.out.free 1
            have z2 : wt.cell? ⟨w.heap.size + 1, 0, none⟩ = some (.string ⟨#[]⟩) := TO.out.cell 0
            have z3 : wt.cell? ⟨w.heap.size + 1, 1, none⟩ = some (.int .i64 0) := TO.out.cell 1
            have z4 : wt.cell? ⟨w.heap.size + 1, 2, none⟩ = some (.int .i64 0) := TO.out.cell 2
            have zf2 := TO.out.free 0
            have zf3 := TO.out.free 1
            have zf4 := TO.out.free 2
            go_wp2_with fail
            refine bodyPost_ret (v := .tuple #[.agg #[.int .i64 0, .slice none 0 0], .agg #[.string ⟨#[]⟩, .int .i64 (k : Int), .int .i64 CL]]) (by simp [results, Tryd.results45, go_sem, z0, z1, z2, z3, z4]) rfl ⟨_, _, _, _, _, _, rfl, TP.out, ?_⟩
            exact deep.putW_below [.string ⟨#[]⟩, .int .i64 (k : Int), .int .i64 CL] (deep.putW_below [.int .i64 0, .slice none 0 0] TB.out (by omega) (b := 0)) (by omega) (b := 0)
        · have h10i : ¬ ((r : Int) = 10) := by omega
          have HCK : Hid (C (i + wd) = (k, f)) := HSK2.out h10
          clear HLI2 HSK2 HTK
          go_wp2_with fail
          go_roundw
          case rel => exact ⟨i + wd, k, f, seed, v, css, rfl, rfl, hw2, by omega, by omega, hit2, hck, HCK.out, YA.out, ZZ.out, ZO2.out, ZS2.out, ZW.out, ZB.out⟩
          case measure =>
            simp only [World.iterPos, hit, hit2]
            omega
      · obtain rfl : i = s.size := by omega
        have hnx : ∀ ty, (Instr.next (.pointer (some ⟨w.heap.size + 1 + 1 + 1, 0, none⟩)) true ty).run Tryd.prog wr = _ := fun ty => Lib.run_next_end_at wr (w.heap.size + 1 + 1 + 1) s s.size ty hit (by omega)
        have hen := HEN.out
        rw [show C s.size = (k, f) from YC.out] at hen
        have HEX := ext_full hfi
        have HBAD : Hid ((k = 0 ∨ f < s.size) → P (k : Int) 3) := fun h => HTA.out k 3 (by omega) YA.out (by
          rw [hen.2]
          unfold codeE
          simp only
          rcases h with h | h
          · rw [if_pos h]
          · by_cases h0 : k = 0
            · rw [if_pos h0]
            · rw [if_neg h0, if_neg (fun e => HEX.1 e h)]) (by decide)
        have HOK : Hid (¬ (k = 0 ∨ f < s.size) → P 0 0) := fun h => HTO.out fun m hm => by
          by_cases e : m < k
          · exact YA.out m e
          · obtain rfl : m = k := by omega
            rw [hen.2]
            unfold codeE
            simp only
            rw [if_neg (fun e => h (.inl e)), if_pos (HEX.2 (fun e => h (.inr e)))]
        clear hen HEX YA YC HSK HLI HEN HTA HTO HLE
        have hlt2 : w.heap.size + 1 < wr.heap.size := YO.out.lt
        have z0 : wr.cell? ⟨w.heap.size, 0, none⟩ = some (.int .i64 0) := YZ.out.cell 0
        have z1 : wr.cell? ⟨w.heap.size, 1, none⟩ = some (.slice none 0 0) := YZ.out.cell 1
        have zf0 := YZ.out.free 0
        have zf1 := YZ.out.free 1
        have z2 : wr.cell? ⟨w.heap.size + 1, 0, none⟩ = some (.string ⟨#[]⟩) := YO.out.cell 0
        have z3 : wr.cell? ⟨w.heap.size + 1, 1, none⟩ = some (.int .i64 0) := YO.out.cell 1
        have z4 : wr.cell? ⟨w.heap.size + 1, 2, none⟩ = some (.int .i64 0) := YO.out.cell 2
        have zf2 := YO.out.free 0
        have zf3 := YO.out.free 1
        have zf4 := YO.out.free 2
        by_cases hk0 : k = 0
        · subst hk0
          have TP : Hid (P ((0 : Nat) : Int) 3) := HBAD.out (.inl rfl)
          clear HBAD HOK
          go_wp2_with fail
          refine bodyPost_ret (v := .tuple #[.agg #[.int .i64 0, .slice none 0 0], .agg #[.string ⟨#[]⟩, .int .i64 ((0 : Nat) : Int), .int .i64 3]]) (by simp [results, Tryd.results45, go_sem, z0, z1, z2, z3, z4]) rfl ⟨_, _, _, _, _, _, rfl, TP.out, ?_⟩
          exact deep.putW_below [.string ⟨#[]⟩, .int .i64 ((0 : Nat) : Int), .int .i64 3] (deep.putW_below [.int .i64 0, .slice none 0 0] YB.out (by omega) (b := 0)) (by omega) (b := 0)
        · have hk0i : ¬ ((k : Int) = 0) := by omega
          have hk0b : ((k : Int) == 0) = false := by simp; omega
          by_cases hfs : f < s.size
          · have hfsi : (f : Int) < (s.size : Int) := by omega
            have TP : Hid (P (k : Int) 3) := HBAD.out (.inr hfs)
            clear HBAD HOK
            go_wp2_with fail
            refine bodyPost_ret (v := .tuple #[.agg #[.int .i64 0, .slice none 0 0], .agg #[.string ⟨#[]⟩, .int .i64 (k : Int), .int .i64 3]]) (by simp [results, Tryd.results45, go_sem, z0, z1, z2, z3, z4]) rfl ⟨_, _, _, _, _, _, rfl, TP.out, ?_⟩
            exact deep.putW_below [.string ⟨#[]⟩, .int .i64 (k : Int), .int .i64 3] (deep.putW_below [.int .i64 0, .slice none 0 0] YB.out (by omega) (b := 0)) (by omega) (b := 0)
          · have hfsi : ¬ ((f : Int) < (s.size : Int)) := by omega
            have TP : Hid (P 0 0) := HOK.out (fun h => h.elim hk0 hfs)
            clear HBAD HOK
            obtain ⟨va, vc, rfl, _⟩ := YW.out.form
            have x0 : wr.cell? ⟨w.heap.size + 1 + 1, 0, none⟩ = some (.int .i64 seed) := YS.out.cell 0
            have x1 : wr.cell? ⟨w.heap.size + 1 + 1, 1, none⟩ = some (.slice va css.length vc) := YS.out.cell 1
            go_wp2_with fail
            refine bodyPost_ret (v := .tuple #[.agg #[.int .i64 seed, .slice va css.length vc], .agg #[.string ⟨#[]⟩, .int .i64 0, .int .i64 0]]) (by simp [results, Tryd.results45, go_sem, z0, z1, z2, z3, z4]) rfl ⟨_, _, _, _, _, _, rfl, TP.out, ?_⟩
            exact deep.putW_below [.string ⟨#[]⟩, .int .i64 0, .int .i64 0] (deep.putW_below [.int .i64 seed, .slice va css.length vc] YB.out (by omega) (b := 0)) (by omega) (b := 0)
end Go.Proofs.YtacfhchmoiphfaaDoor.scr
